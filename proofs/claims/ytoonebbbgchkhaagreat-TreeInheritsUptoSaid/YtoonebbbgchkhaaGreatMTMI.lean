/-
  The reference's Grants: whatever the list. Conditions: paths of at most 2^42 octets.
-/
import Derived.Test.YtoonebbbgchkhaaGreatMTMD
import Derived.Test.YtoonebbbgchkhaaGreatMGRC
import Derived.Test.YtoonebbbgchkhaaGreatMGRE
namespace Go.Proofs.YtoonebbbgchkhaaGreat
open Go.ChangeShapes Go.WideShapes Go.ChangeAt Go.RowKit
set_option maxRecDepth 100000
set_option linter.unusedSimpArgs false

def ltGb (a b : Gr) : Bool := decide (ltG a b)
theorem okG_two (l : List Gr) : okG l = (goodL goodG ltGb l && decide (l.length ≤ 16)) := by
  rw [Bool.eq_iff_iff, okG_iff, Bool.and_eq_true, decide_eq_true_iff]
  unfold goodL
  rw [Bool.and_eq_true, List.all_eq_true, riseB_iff]
  constructor
  · rintro ⟨h1, h2, h3⟩
    refine ⟨⟨h2, fun j y x hy hx => decide_eq_true ?_⟩, h1⟩
    obtain ⟨hi, ex⟩ := List.getElem?_eq_some_iff.1 hy
    obtain ⟨hj, ey⟩ := List.getElem?_eq_some_iff.1 hx
    rw [← ex, ← ey]
    exact List.pairwise_iff_getElem.1 h3 j (j + 1) hi hj (by omega)
  · rintro ⟨⟨h2, h3⟩, h1⟩
    refine ⟨h1, h2, ?_⟩
    have := riseB_pair (lt := ltGb) (fun a b c h h' => decide_eq_true (ltG_trans (of_decide_eq_true h) (of_decide_eq_true h'))) (riseB_iff.2 h3)
    exact this.imp fun h => of_decide_eq_true h
theorem beqV (a b : ByteArray) : (a.toList == b.toList) = decide (a = b) := by
  rw [Bool.eq_iff_iff, beq_iff_eq, decide_eq_true_eq]
  exact ⟨ba_toList, fun h => by rw [h]⟩

set_option maxHeartbeats 4000000 in
theorem refGrants_any (A : Option Addr) (c n : Nat) (l : List Gr) (hn : l.length = n) (hl : n ≤ 4398046511104) (hf : ∀ x ∈ l, x.1.size ≤ 140737488351232 ∧ x.2.1.size ≤ 4398046511104) (w : World) (hr : Rd w A (grs l)) :
    Calls Tryz.prog 43 #[.slice A n c] w fun e w' => e = .returned (.int .i64 (if okG l = true then 0 else 9)) ∧ Below w.heap.size w w' := by
  subst hn
  obtain ⟨R, hR⟩ : ∃ R : Int, (if okG l = true then 0 else 9) = R := ⟨_, rfl⟩
  have HR := Lib.hid hR
  rw [hR]
  have HOK := Lib.hid (okG_two l)
  have H9 : Hid (goodL goodG ltGb l = false → R = 9) := Lib.hid fun h => by
    rw [← HR.out, HOK.out, h]
    rfl
  clear hR
  go_enter Tryz.func43, Tryz.ntmps43
  go_wp2
  go_loopw [3] (fun j W => ∃ k : Nat, k ≤ l.length ∧ j = .int .i64 k ∧ Hid (UpTo goodG ltGb l k) ∧ Below w.heap.size w W) (fun j _ => l.length - (intOf j).toNat)
  case atStart => exact ⟨0, Nat.zero_le _, rfl, Lib.hid upTo_zero, Below.refl _ _⟩
  case round =>
    obtain ⟨k, hk, rfl, HU, hB⟩ := hrel
    by_cases hlt : k < l.length
    · obtain ⟨x, hx⟩ : ∃ x, l[k]? = some x := ⟨l[k], List.getElem?_eq_getElem hlt⟩
      have HRDW := Lib.hid (Rd.below hr hB)
      obtain ⟨b, off, rfl, hb, hc0, hc1, hc2⟩ := (Rd.below hr hB).gr hx
      obtain ⟨hs1, hs2⟩ := hf x (List.mem_of_getElem? hx)
      have HX := Lib.hid hx
      have HN := Lib.hid (fun W => refName_any x.1 (by omega) W)
      have HP := Lib.hid (fun W => refPath_any x.2.1 (by omega) W)
      have HGD : Hid (goodG x = (isName (bs x.1) && (isPath (bs x.2.1) && someP x.2.2))) := Lib.hid rfl
      clear hx
      obtain ⟨x1, x2, x3⟩ := x
      dsimp only at hc0 hc1 hc2 hs1 hs2 HN HP HGD
      obtain ⟨w1, hw1⟩ : ∃ w1, wr.alloc (.cells #[.string x1, .string x2, .int .i64 x3] 67) = w1 := ⟨_, rfl⟩
      have hB1 : Below wr.heap.size wr w1 := hw1 ▸ (Below.refl _ wr).alloc (Nat.le_refl _) _
      have k1 : Blk w1 wr.heap.size 67 [.string x1, .string x2, .int .i64 x3] := hw1 ▸ Blk.new wr _ _
      have hBw1 : Below w.heap.size w w1 := hB.trans (hB1.mono hB.size)
      have y0 := k1.cell 0
      have y1 := k1.cell 1
      have y2 := k1.cell 2
      simp only [List.getElem?_cons_zero, List.getElem?_cons_succ] at y0 y1 y2
      have HW1 := Lib.hid hw1
      have HK1 := Lib.hid k1
      have HB1 := Lib.hid hB1
      clear hw1 k1 hB1
      rcases g1 : isName (bs x1) with _ | _
      · have HR9 : Hid (R = 9) := Lib.hid (H9.out (goodL_bad HX.out (by rw [HGD.out, g1]; rfl)))
        rw [g1] at HN
        clear g1 HU HGD HRDW HP
        go_wp2_with fail
        rw [HW1.out]
        go_wp2_with fail
        refine (HN.out w1).mono ?_
        rintro e w2 ⟨rfl, rfl⟩
        go_wp2
        go_ret
        rw [HR9.out]
        exact ⟨rfl, hBw1⟩

      rcases g2 : isPath (bs x2) with _ | _
      · have HR9 : Hid (R = 9) := Lib.hid (H9.out (goodL_bad HX.out (by rw [HGD.out, g1, g2]; rfl)))
        rw [g1] at HN
        rw [g2] at HP
        clear g1 g2 HU HGD HRDW
        go_wp2_with fail
        rw [HW1.out]
        go_wp2_with fail
        refine (HN.out w1).mono ?_
        rintro e w2 ⟨rfl, rfl⟩
        go_wp2_with fail
        refine (HP.out w1).mono ?_
        rintro e w3 ⟨rfl, hB3⟩
        have k3 := HK1.out.below hB3 HK1.out.lt
        have z0 := k3.cell 0
        have z1 := k3.cell 1
        have z2 := k3.cell 2
        simp only [List.getElem?_cons_zero, List.getElem?_cons_succ] at z0 z1 z2
        have hBw3 := hBw1.trans (hB3.mono hBw1.size)
        have hBr3 : Below wr.heap.size wr w3 := HB1.out.trans (hB3.mono HB1.out.size)
        clear k3 y0 y1 y2 HN HP
        go_wp2
        go_ret
        rw [HR9.out]
        exact ⟨rfl, hBw3⟩

      rcases g3 : someP x3 with _ | _
      · have HR9 : Hid (R = 9) := Lib.hid (H9.out (goodL_bad HX.out (by rw [HGD.out, g1, g2, g3]; rfl)))
        rw [g1] at HN
        rw [g2] at HP
        have hways : x3 < 1 ∨ (¬ x3 < 1 ∧ 255 < x3) := by
          unfold someP at g3
          by_cases h : 1 ≤ x3
          · rw [decide_eq_true h, Bool.true_and] at g3
            have := of_decide_eq_false g3
            omega
          · omega
        clear g1 g2 g3 HU HGD HRDW
        rcases hways with h | ⟨h, h'⟩
        all_goals
          go_wp2_with fail
          rw [HW1.out]
          go_wp2_with fail
          refine (HN.out w1).mono ?_
          rintro e w2 ⟨rfl, rfl⟩
          go_wp2_with fail
          refine (HP.out w1).mono ?_
          rintro e w3 ⟨rfl, hB3⟩
          have k3 := HK1.out.below hB3 HK1.out.lt
          have z0 := k3.cell 0
          have z1 := k3.cell 1
          have z2 := k3.cell 2
          simp only [List.getElem?_cons_zero, List.getElem?_cons_succ] at z0 z1 z2
          have hBw3 := hBw1.trans (hB3.mono hBw1.size)
          have hBr3 : Below wr.heap.size wr w3 := HB1.out.trans (hB3.mono HB1.out.size)
          clear k3 y0 y1 y2 HN HP
          go_wp2
          go_ret
          rw [HR9.out]
          exact ⟨rfl, hBw3⟩

      have hgd : goodG (x1, x2, x3) = true := by rw [HGD.out, g1, g2, g3]; rfl
      have h1le : ¬ x3 < 1 := by
        unfold someP at g3
        rw [Bool.and_eq_true] at g3
        have := of_decide_eq_true g3.1
        omega
      have h255 : ¬ 255 < x3 := by
        unfold someP at g3
        rw [Bool.and_eq_true] at g3
        have := of_decide_eq_true g3.2
        omega
      have HG := Lib.hid hgd
      rw [g1] at HN
      rw [g2] at HP
      clear g1 g2 g3 HGD hgd
      have hway : (Hid (k = 0) ∧ decide (0 < k) = false) ∨ ∃ (i : Nat) (y : Gr), decide (0 < k) = true ∧ IntKind.i64.wrap ((k : Int) - 1) = (i : Int) ∧ i < l.length ∧ Hid (k = i + 1) ∧ Hid (l[i]? = some y) := by
        rcases k with _ | j
        · exact .inl ⟨Lib.hid rfl, rfl⟩
        · obtain ⟨y, hy⟩ : ∃ y, l[j]? = some y := ⟨l[j]'(by omega), List.getElem?_eq_getElem (by omega)⟩
          exact .inr ⟨j, y, decide_eq_true (by omega), by rw [show (((j + 1 : Nat) : Int) - 1) = (j : Int) by omega]; exact IntWalk.i64_in _ (by omega), by omega, Lib.hid rfl, Lib.hid hy⟩
      rcases hway with ⟨HK0, hj0⟩ | ⟨i, y, hj0, hw, hi, HKI, HY⟩
      · have HU' : Hid (UpTo goodG ltGb l (k + 1)) := Lib.hid (upTo_succ HU.out HX.out HG.out fun j y h => by have := HK0.out; omega)
        clear HRDW HU
        go_wp2_with fail
        rw [HW1.out]
        go_wp2_with fail
        refine (HN.out w1).mono ?_
        rintro e w2 ⟨rfl, rfl⟩
        go_wp2_with fail
        refine (HP.out w1).mono ?_
        rintro e w3 ⟨rfl, hB3⟩
        have k3 := HK1.out.below hB3 HK1.out.lt
        have z0 := k3.cell 0
        have z1 := k3.cell 1
        have z2 := k3.cell 2
        simp only [List.getElem?_cons_zero, List.getElem?_cons_succ] at z0 z1 z2
        have hBw3 := hBw1.trans (hB3.mono hBw1.size)
        have hBr3 : Below wr.heap.size wr w3 := HB1.out.trans (hB3.mono HB1.out.size)
        clear k3 y0 y1 y2 HN HP
        go_wp2_with fail
        go_big_quiet (fail)
        go_wp2
        go_roundw
        case rel => exact ⟨k + 1, by omega, by go_num, HU', hBw3.trans (belowDrewN _ _ _)⟩
        case measure => simp [intOf]; omega
      · obtain ⟨b', off', e', hb', d0, d1, d2⟩ := HRDW.out.gr HY.out
        injection e' with e'
        injection e' with e1 e2 _
        subst e1 e2
        obtain ⟨y1', y2', y3'⟩ := y
        dsimp only at d0 d1 d2
        have hbl : b < wr.heap.size := hb
        have hcs : (ltG (y1', y2', y3') (x1, x2, x3) ∧ ((Op.bytesLess y1'.toList x1.toList = true ∧ (y1'.toList == x1.toList) = false) ∨ ((Op.bytesLess y1'.toList x1.toList = false ∧ (y1'.toList == x1.toList) = true) ∧ Op.bytesLess y2'.toList x2.toList = true))) ∨ (¬ ltG (y1', y2', y3') (x1, x2, x3) ∧ ((Op.bytesLess y1'.toList x1.toList = false ∧ (y1'.toList == x1.toList) = false) ∨ ((Op.bytesLess y1'.toList x1.toList = false ∧ (y1'.toList == x1.toList) = true) ∧ Op.bytesLess y2'.toList x2.toList = false))) := by
          by_cases h : ltG (y1', y2', y3') (x1, x2, x3)
          · refine .inl ⟨h, ?_⟩
            rcases ltG_iff.1 h with h1 | ⟨h1, h2⟩
            · exact .inl ⟨h1, by rw [beqV, decide_eq_false (ltK_ne h1)]⟩
            · dsimp only at h1 h2
              exact .inr ⟨⟨by rw [h1, bl_irr], by rw [beqV, decide_eq_true h1]⟩, h2⟩
          · refine .inr ⟨h, ?_⟩
            rcases ltK_tri y1' x1 with h1 | h1 | h1
            · exact absurd (ltG_iff.2 (.inl h1)) h
            · refine .inl ⟨?_, by rw [beqV, decide_eq_false fun e => ltK_ne h1 e.symm]⟩
              rw [← Bool.not_eq_true]
              intro h3
              exact ltK_asym h1 h3
            · refine .inr ⟨⟨by rw [h1, bl_irr], by rw [beqV, decide_eq_true h1]⟩, ?_⟩
              rw [← Bool.not_eq_true]
              intro h2
              exact h (ltG_iff.2 (.inr ⟨h1, h2⟩))
        rcases hcs with ⟨hlg, hA⟩ | ⟨hlg, hA⟩
        · have HU' : Hid (UpTo goodG ltGb l (k + 1)) := Lib.hid (upTo_succ HU.out HX.out HG.out fun j y h hy => by
            obtain rfl : j = i := by have := HKI.out; omega
            rw [HY.out] at hy
            injection hy with hy
            subst hy
            exact decide_eq_true hlg)
          clear HRDW HU hlg HY HX HG
          rcases hA with ⟨hA1, hA2⟩ | ⟨⟨hA1, hA2⟩, hA3⟩
          all_goals
            go_wp2_with fail
            rw [HW1.out]
            go_wp2_with fail
            refine (HN.out w1).mono ?_
            rintro e w2 ⟨rfl, rfl⟩
            go_wp2_with fail
            refine (HP.out w1).mono ?_
            rintro e w3 ⟨rfl, hB3⟩
            have k3 := HK1.out.below hB3 HK1.out.lt
            have z0 := k3.cell 0
            have z1 := k3.cell 1
            have z2 := k3.cell 2
            simp only [List.getElem?_cons_zero, List.getElem?_cons_succ] at z0 z1 z2
            have hBw3 := hBw1.trans (hB3.mono hBw1.size)
            have hBr3 : Below wr.heap.size wr w3 := HB1.out.trans (hB3.mono HB1.out.size)
            clear k3 y0 y1 y2 HN HP
            have d0' := (hBr3.cell (p := ⟨b, off + i * 3, none⟩) hbl).trans d0
            have d1' := (hBr3.cell (p := ⟨b, off + i * 3 + 1, none⟩) hbl).trans d1
            go_wp2_with fail
            go_big_quiet (fail)
            go_wp2
            go_roundw
            case rel => exact ⟨k + 1, by omega, by go_num, HU', hBw3.trans (belowDrewN _ _ _)⟩
            case measure => simp [intOf]; omega
        · have HR9 : Hid (R = 9) := Lib.hid (H9.out (goodL_low HY.out (by rw [← HKI.out]; exact HX.out) (decide_eq_false hlg)))
          clear HRDW HU hlg HY HX HG
          rcases hA with ⟨hA1, hA2⟩ | ⟨⟨hA1, hA2⟩, hA3⟩
          all_goals
            go_wp2_with fail
            rw [HW1.out]
            go_wp2_with fail
            refine (HN.out w1).mono ?_
            rintro e w2 ⟨rfl, rfl⟩
            go_wp2_with fail
            refine (HP.out w1).mono ?_
            rintro e w3 ⟨rfl, hB3⟩
            have k3 := HK1.out.below hB3 HK1.out.lt
            have z0 := k3.cell 0
            have z1 := k3.cell 1
            have z2 := k3.cell 2
            simp only [List.getElem?_cons_zero, List.getElem?_cons_succ] at z0 z1 z2
            have hBw3 := hBw1.trans (hB3.mono hBw1.size)
            have hBr3 : Below wr.heap.size wr w3 := HB1.out.trans (hB3.mono HB1.out.size)
            clear k3 y0 y1 y2 HN HP
            have d0' := (hBr3.cell (p := ⟨b, off + i * 3, none⟩) hbl).trans d0
            have d1' := (hBr3.cell (p := ⟨b, off + i * 3 + 1, none⟩) hbl).trans d1
            go_wp2_with fail
            go_big_quiet (fail)
            go_wp2
            go_ret
            rw [HR9.out]
            exact ⟨rfl, hBw3.trans (belowDrewN _ _ _)⟩
    · have hgl := upTo_end HU.out (by omega)
      by_cases h16 : l.length ≤ 16
      · have HRR : Hid (R = 0) := Lib.hid (by rw [← HR.out, HOK.out, hgl, decide_eq_true h16]; rfl)
        have hq : ¬ (16 : Int) < (l.length : Int) := by omega
        clear hgl
        go_wp2
        go_ret
        rw [HRR.out]
        exact ⟨rfl, hB⟩
      · have HRR : Hid (R = 9) := Lib.hid (by rw [← HR.out, HOK.out, hgl, decide_eq_false h16]; rfl)
        have hq : (16 : Int) < (l.length : Int) := by omega
        clear hgl
        go_wp2
        go_ret
        rw [HRR.out]
        exact ⟨rfl, hB⟩

end Go.Proofs.YtoonebbbgchkhaaGreat
