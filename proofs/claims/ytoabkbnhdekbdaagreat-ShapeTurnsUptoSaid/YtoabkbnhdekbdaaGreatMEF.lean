/-
  The reference's put. Conditions: the list is as it comes in.
-/
import Derived.Test.YtoabkbnhdekbdaaGreatMEM
import Derived.BigQuiet
import Derived.Deep.DeepCutAuto
namespace Go.Proofs.YtoabkbnhdekbdaaGreat
open Go.ChangeShapes Go.WideShapes Go.ChangeAt Go.RowKit
set_option maxRecDepth 100000
theorem leT (a b : ByteArray) : (Op.bytesLess a.toList b.toList || a.toList == b.toList) = !(Op.bytesLess b.toList a.toList) := by
  rcases h : Op.bytesLess b.toList a.toList with _ | _
  · rw [Bool.not_false, ← Bool.not_eq_false]
    intro e
    have : ltK b a := ltK_iff.2 e
    unfold ltK at this
    rw [h] at this
    cases this
  · exact ltK_iff.1 h
set_option maxHeartbeats 4000000 in
theorem refPutP_any (A : Option Addr) (c n : Nat) (l : List Pr) (hn : l.length = n) (hl : n ≤ 4398046511100) (p : Pr) (w : World) (hr : Rd w A (prs l)) :
    Calls Tryz.prog 106 #[.slice A n c, prV p] w fun e w' => ∃ v, e = .returned v ∧ ownP w' w.heap.size v (putG p false l) ∧ Below w.heap.size w w' := by
  subst hn
  obtain ⟨p1, p2⟩ := p
  obtain ⟨R, hR⟩ : ∃ R, putG (p1, p2) false l = R := ⟨_, rfl⟩
  obtain ⟨w1, hw1⟩ : ∃ w1, w.alloc (.cells #[.string p1, .string p2] 105) = w1 := ⟨_, rfl⟩
  have hB1 : Below w.heap.size w w1 := hw1 ▸ (Below.refl _ w).alloc (Nat.le_refl _) _
  have k1 : Blk w1 w.heap.size 105 [.string p1, .string p2] := hw1 ▸ Blk.new w _ _
  have HK := Lib.hid k1
  have HW := Lib.hid hw1
  have hlt1 : w.heap.size < w1.heap.size := k1.lt
  have HR1 := Lib.hid (hr.below hB1)
  rw [hR]
  have HRR := Lib.hid hR
  clear k1 hw1 hr hR
  go_enter Tryz.func106, Tryz.ntmps106
  go_wp2
  rw [HW.out]
  go_loopw [5, 6, 7] (fun v d i W => ∃ (k : Nat) (dn : Bool) (o : List Pr), k ≤ l.length ∧ i = .int .i64 k ∧ d = .bool dn ∧ Hid (ownP W w1.heap.size v o) ∧ Hid (o ++ putG (p1, p2) dn (l.drop k) = R) ∧ o.length ≤ k + dn.toNat ∧ Hid (Below w1.heap.size w1 W)) (fun _ _ i _ => l.length - (intOf i).toNat)
  case atStart => exact ⟨0, false, [], Nat.zero_le _, rfl, rfl, Lib.hid (ownNone _ _ _ _), Lib.hid (by rw [← HRR.out]; rfl), Nat.zero_le _, Lib.hid (Below.refl _ _)⟩
  case round =>
    obtain ⟨k, dn, o, hk, rfl, rfl, HO, HP, ho, HB⟩ := hrel
    obtain ⟨Av, cv, hv, _, _, _, _⟩ := ownAny HO.out
    subst hv
    have k2 := HK.out.below HB.out hlt1
    have x0 := k2.cell 0
    have y0 := k2.cell 1
    simp only [gZa, gZb] at x0 y0
    have hbs := HB.out.size
    have hlw : w.heap.size < wr.heap.size := by omega
    clear k2
    by_cases hlt : k < l.length
    · obtain ⟨x, hx⟩ : ∃ x, l[k]? = some x := ⟨l[k], qZa hlt⟩
      obtain ⟨b, off, rfl, hb, hc0, hc1⟩ := (HR1.out.below HB.out).pr hx
      have HP' : Hid (R = o ++ ((if !dn && !(Op.bytesLess x.1.toList p1.toList) then [(p1, p2)] else []) ++ ((if x.1 = p1 then [] else [x]) ++ putG (p1, p2) (dn || !(Op.bytesLess x.1.toList p1.toList)) (l.drop (k + 1))))) := Lib.hid (by
        rw [← HP.out]
        obtain ⟨h, e⟩ := List.getElem?_eq_some_iff.1 hx
        rw [List.drop_eq_getElem_cons h, e]
        rfl)
      have hlk : (k : Int) < l.length := by omega
      have hle := leT p1 x.1
      have heq := beqTE x.1 p1
      have HX := Lib.hid hx
      clear hx HP
      obtain ⟨x1, x2⟩ := x
      dsimp only at *
      have hstep : ∀ nq, Below w1.heap.size w1 (wr.drewN nq) ∧ w1.heap.size ≤ (wr.drewN nq).heap.size := fun nq => ⟨HB.out.trans (belowDrewN _ _ _), hbs⟩
      obtain ⟨eb, heb⟩ : ∃ eb, decide (x1 = p1) = eb := ⟨_, rfl⟩
      rw [heb] at heq
      have HEB : Hid ((eb = false → ¬ x1 = p1) ∧ (eb = true → x1 = p1)) := Lib.hid ⟨fun h => of_decide_eq_false (heb.trans h), fun h => of_decide_eq_true (heb.trans h)⟩
      clear heb
      rcases dn with _ | _
      · replace ho : o.length ≤ k := ho
        rcases hbl : Op.bytesLess x1.toList p1.toList with _ | _
        · rw [hbl, Bool.not_false] at hle
          rw [hbl] at HP'
          have hol : o.length < 4398046511104 := by omega
          have HP2 : Hid (R = (o ++ [(p1, p2)]) ++ ((if x1 = p1 then [] else [(x1, x2)]) ++ putG (p1, p2) true (l.drop (k + 1)))) := Lib.hid (by rw [HP'.out]; simp)
          clear HP' hbl
          go_wp2_with fail
          go_big_quiet (fail)
          have HO1 := Lib.hid (ownBelow HO.out (belowDrewN wr nq wr.heap.size) (Nat.le_refl _))
          go_wp2_with (at_builtin; refine wpAppP rfl rfl (hstep nq).1 (hstep nq).2 HO1.out (p1, p2) rfl rfl hol ?_; intro g6 c6 x6 HO6 HB6)
          have HO6' : Hid (ownP x6 w1.heap.size (.slice (some ⟨g6, 0, none⟩) (o ++ [(p1, p2)]).length c6) (o ++ [(p1, p2)])) := Lib.hid (by rw [List.length_append]; exact HO6.out)
          have hol6 : (o ++ [(p1, p2)]).length = o.length + 1 := by simp
          rw [← hol6]
          have hol7 : (o ++ [(p1, p2)]).length ≤ k + 1 := by omega
          clear HO6 hol6
          generalize o ++ [(p1, p2)] = o6 at *
          have k3 := HK.out.below HB6.out hlt1
          have x3 := k3.cell 0
          have y3 := k3.cell 1
          have hbs6 := HB6.out.size
          have hlw6 : w.heap.size < x6.heap.size := Nat.lt_of_lt_of_le hlt1 hbs6
          obtain ⟨b', off', e', hb', hc3, hc4⟩ := (HR1.out.below HB6.out).pr HX.out
          injection e' with e'
          injection e' with e1 e2 _
          subst e1 e2
          simp only [gZa, gZb] at x3 y3
          clear k3
          rcases eb with _ | _
          · go_big_quiet (fail)
            have HO7 := Lib.hid (ownBelow HO6'.out (belowDrewN x6 nq x6.heap.size) (Nat.le_refl _))
            have hB7 : Below w1.heap.size w1 (x6.drewN nq) := HB6.out.trans (belowDrewN _ _ _)
            go_wp2_with (at_builtin; refine wpAppP rfl rfl hB7 hbs6 HO7.out (x1, x2) rfl rfl (by omega) ?_; intro g8 c8 x8 HO8 HB8)
            go_roundw
            case rel => exact ⟨k + 1, true, _, by omega, by go_num, rfl, HO8, Lib.hid (by rw [HP2.out, if_neg (HEB.out.1 rfl)]; simp), by show _ ≤ k + 1 + 1; simp; omega, HB8⟩
            case measure => simp [intOf]; omega
          · go_big_quiet (fail)
            go_wp2
            go_roundw
            case rel => exact ⟨k + 1, true, _, by omega, by go_num, rfl, Lib.hid (ownBelow HO6'.out (belowDrewN _ _ _) (Nat.le_refl _)), Lib.hid (by rw [HP2.out, if_pos (HEB.out.2 rfl)]; rfl), by first | (show _ ≤ k + 1 + 1; omega) | (show _ ≤ k + 1; omega), Lib.hid (HB6.out.trans (belowDrewN _ _ _))⟩
            case measure => simp [intOf]; omega
        · rw [hbl, Bool.not_true] at hle
          rw [hbl] at HP'
          have HP2 : Hid (R = o ++ ((if x1 = p1 then [] else [(x1, x2)]) ++ putG (p1, p2) false (l.drop (k + 1)))) := Lib.hid (by rw [HP'.out]; simp)
          clear HP' hbl
          go_wp2_with fail
          go_big_quiet (fail)
          have HO6 := Lib.hid (ownBelow HO.out (belowDrewN wr nq wr.heap.size) (Nat.le_refl _))
          have HB6 := Lib.hid (hstep nq).1
          go_wp2_with fail
          generalize wr.drewN nq = wq at *
          have k3 := HK.out.below HB6.out hlt1
          have x3 := k3.cell 0
          have y3 := k3.cell 1
          have hbs6 := HB6.out.size
          have hlw6 : w.heap.size < wq.heap.size := Nat.lt_of_lt_of_le hlt1 hbs6
          obtain ⟨b', off', e', hb', hc3, hc4⟩ := (HR1.out.below HB6.out).pr HX.out
          injection e' with e'
          injection e' with e1 e2 _
          subst e1 e2
          simp only [gZa, gZb] at x3 y3
          clear k3
          rcases eb with _ | _
          · go_big_quiet (fail)
            have HO7 := Lib.hid (ownBelow HO6.out (belowDrewN wq nq wq.heap.size) (Nat.le_refl _))
            have hB7 : Below w1.heap.size w1 (wq.drewN nq) := HB6.out.trans (belowDrewN _ _ _)
            go_wp2_with (at_builtin; refine wpAppP rfl rfl hB7 hbs6 HO7.out (x1, x2) rfl rfl (by omega) ?_; intro g8 c8 x8 HO8 HB8)
            go_roundw
            case rel => exact ⟨k + 1, false, _, by omega, by go_num, rfl, HO8, Lib.hid (by rw [HP2.out, if_neg (HEB.out.1 rfl)]; simp), by show _ ≤ k + 1; simp; omega, HB8⟩
            case measure => simp [intOf]; omega
          · go_big_quiet (fail)
            go_wp2
            go_roundw
            case rel => exact ⟨k + 1, false, _, by omega, by go_num, rfl, Lib.hid (ownBelow HO6.out (belowDrewN _ _ _) (Nat.le_refl _)), Lib.hid (by rw [HP2.out, if_pos (HEB.out.2 rfl)]; rfl), by first | (show _ ≤ k + 1 + 1; omega) | (show _ ≤ k + 1; omega), Lib.hid (HB6.out.trans (belowDrewN _ _ _))⟩
            case measure => simp [intOf]; omega
      · replace ho : o.length ≤ k + 1 := ho
        have HP2 : Hid (R = o ++ ((if x1 = p1 then [] else [(x1, x2)]) ++ putG (p1, p2) true (l.drop (k + 1)))) := Lib.hid (by rw [HP'.out]; simp)
        clear HP' hle
        go_wp2_with fail
        go_big_quiet (fail)
        have HO6 := Lib.hid (ownBelow HO.out (belowDrewN wr nq wr.heap.size) (Nat.le_refl _))
        have HB6 := Lib.hid (hstep nq).1
        go_wp2_with fail
        generalize wr.drewN nq = wq at *
        have k3 := HK.out.below HB6.out hlt1
        have x3 := k3.cell 0
        have y3 := k3.cell 1
        have hbs6 := HB6.out.size
        have hlw6 : w.heap.size < wq.heap.size := Nat.lt_of_lt_of_le hlt1 hbs6
        obtain ⟨b', off', e', hb', hc3, hc4⟩ := (HR1.out.below HB6.out).pr HX.out
        injection e' with e'
        injection e' with e1 e2 _
        subst e1 e2
        simp only [gZa, gZb] at x3 y3
        clear k3
        rcases eb with _ | _
        · go_big_quiet (fail)
          have HO7 := Lib.hid (ownBelow HO6.out (belowDrewN wq nq wq.heap.size) (Nat.le_refl _))
          have hB7 : Below w1.heap.size w1 (wq.drewN nq) := HB6.out.trans (belowDrewN _ _ _)
          go_wp2_with (at_builtin; refine wpAppP rfl rfl hB7 hbs6 HO7.out (x1, x2) rfl rfl (by omega) ?_; intro g8 c8 x8 HO8 HB8)
          go_roundw
          case rel => exact ⟨k + 1, true, _, by omega, by go_num, rfl, HO8, Lib.hid (by rw [HP2.out, if_neg (HEB.out.1 rfl)]; simp), by show _ ≤ k + 1 + 1; simp; omega, HB8⟩
          case measure => simp [intOf]; omega
        · go_big_quiet (fail)
          go_wp2
          go_roundw
          case rel => exact ⟨k + 1, true, _, by omega, by go_num, rfl, Lib.hid (ownBelow HO6.out (belowDrewN _ _ _) (Nat.le_refl _)), Lib.hid (by rw [HP2.out, if_pos (HEB.out.2 rfl)]; rfl), by first | (show _ ≤ k + 1 + 1; omega) | (show _ ≤ k + 1; omega), Lib.hid (HB6.out.trans (belowDrewN _ _ _))⟩
          case measure => simp [intOf]; omega
    · have hBw : Below w.heap.size w wr := hB1.trans (HB.out.mono hB1.size)
      rcases dn with _ | _
      · replace ho : o.length ≤ k := ho
        have HP2 : Hid (R = o ++ [(p1, p2)]) := Lib.hid (by rw [← HP.out, List.drop_eq_nil_of_le (by omega)]; rfl)
        have hol : o.length < 4398046511104 := by omega
        clear HP
        go_wp2_with (at_builtin; refine wpAppP rfl rfl HB.out hbs HO.out (p1, p2) rfl rfl hol ?_; intro g6 c6 x6 HO6 HB6)
        go_ret
        rw [HP2.out]
        exact ⟨_, rfl, ownBase HO6.out (Nat.le_of_lt hlt1), hB1.trans (HB6.out.mono hB1.size)⟩
      · have HP2 : Hid (R = o) := Lib.hid (by rw [← HP.out, List.drop_eq_nil_of_le (by omega)]; simp [putG])
        clear HP
        go_wp2
        go_ret
        rw [HP2.out]
        exact ⟨_, rfl, ownBase HO.out (Nat.le_of_lt hlt1), hBw⟩
end Go.Proofs.YtoabkbnhdekbdaaGreat
