/-
  perms: changed. Conditions: the texts are as they come in.
-/
import Derived.Test.YtkokfmodoacflaaGRP
namespace Go.Proofs.Ytkokfmodoacflaa
open Go.ChangeShapes Go.WideShapes Go.ChangeAt Go.RowKit
set_option maxRecDepth 100000

theorem grs_drop0 {l : List Gr} {j : Nat} {x : Gr} (hx : l[j]? = some x) : l.drop j = x :: l.drop (j + 1) := by
  obtain ⟨h, e⟩ := List.getElem?_eq_some_iff.1 hx
  rw [List.drop_eq_getElem_cons h, e]
theorem mkG_zero (u p : ByteArray) {r : Int} (h : r = 0) : mkG u p r = [] := by unfold mkG; rw [if_pos h]
theorem mkG_some (u p : ByteArray) {r : Int} (h : r ≠ 0) : mkG u p r = [(u, p, r)] := by unfold mkG; rw [if_neg h]

set_option maxHeartbeats 4000000 in
/-- What stands behind the change of the rights: the beginning, that grant, the end, in memory of the call's own. -/
theorem grChanged_any (gf : Nat) (lb : Array Value) (eg : Enters Try.prog gf) (f : Int → Int) (A : Option Addr) (c n : Nat) (l : List Gr) (hn : l.length = n) (hl : n ≤ 1099511627776) (hcap : n ≤ c) (hA : A = none → c = 0) (hf : ∀ x ∈ l, x.1.size ≤ 140737488351232 ∧ x.2.1.size ≤ 140737488351232)
    (u p : ByteArray) (hu : u.size ≤ 140737488351232) (hp : p.size ≤ 140737488351232) (w : World)
    (hg : ∀ W r, Below w.heap.size w W → Calls Try.prog gf (#[.int .i64 r] ++ lb) W fun e W' => e = .returned (.int .i64 (f r)) ∧ Below W.heap.size W W') (hr : Rd w A (grs l)) :
    Calls Try.prog 16 #[.slice A n c, .string u, .string p, .func (.func gf) #[] lb] w fun e w' => ∃ v, e = .returned v ∧ ownGr w' w.heap.size v (setG u p f l) ∧ Below w.heap.size w w' := by
  subst hn
  obtain ⟨i0, hi, hz0, hz1, hz2⟩ := infoParts infoGr
  have eg' : ∀ args w, (callFunc gf args).run Try.prog w = .ok (.enter gf args) w := eg
  have HP := Lib.hid (grPlace_any A c l.length l rfl (by omega) u p w hr)
  have HR := Lib.hid hr
  have HF := Lib.hid hf
  have HG := Lib.hid hg
  obtain ⟨R, hR⟩ : ∃ R, setG u p f l = R := ⟨_, rfl⟩
  rw [hR]
  have HRR := Lib.hid hR
  clear hr hf hg hR
  rcases hh : hasG u p l with _ | _
  · rw [hh] at HP
    go_enter Try.func16, Try.ntmps16
    go_wp2_with fail
    refine HP.out.mono ?_
    rintro e w1 ⟨j, rfl, hat, hB1⟩
    have hjl := hat.1
    have hjc : j ≤ c := Nat.le_trans hjl hcap
    have hlt : (l.take j).length = j := by rw [List.length_take]; omega
    have HRT := Lib.hid (HR.out.takeE j)
    obtain ⟨D, hD⟩ : ∃ D, (if c = j then A else Option.map (fun x => x.add (j * 3)) A) = D := ⟨_, rfl⟩
    have hRD0 := HR.out.dropE (cells := grC) (n := 3) (fun _ => rfl) j c hcap
    have HND := drop_none (n := j * 3) (k := j) hA
    rw [hD] at hRD0 HND
    have HND := Lib.hid HND
    have HRD0 := Lib.hid hRD0
    have HD := Lib.hid hD
    clear hRD0 hD
    have HRS : Hid (R = l.take j ++ (mkG u p (f 0) ++ l.drop j)) := Lib.hid (by rw [← HRR.out]; exact atG_no hat hh f)
    have HRD := HRD0
    clear HP hat hh HRR
    go_upto_region 3 with (go_quiet (fail))
    obtain ⟨wd, hwd⟩ : ∃ wd, w1.drewN nq = wd := ⟨_, rfl⟩
    have hBd : Below w.heap.size w wd := hwd ▸ hB1.trans (belowDrewN _ _ _)
    rw [HD.out, hwd]
    clear hwd
    obtain ⟨w2, hw2⟩ : ∃ w2, wd.alloc (.cells #[.string u, .string p, .int .i64 0] 30) = w2 := ⟨_, rfl⟩
    have hB2 : Below wd.heap.size wd w2 := hw2 ▸ (Below.refl _ wd).alloc (Nat.le_refl _) _
    have k2 : Blk w2 wd.heap.size 30 [.string u, .string p, .int .i64 0] := hw2 ▸ Blk.new wd _ _
    have hB02 : Below w.heap.size w w2 := hBd.trans (hB2.mono hBd.size)
    have HW2 := Lib.hid hw2
    have HK2 := Lib.hid k2
    clear hw2
    have y2 := k2.cell 2
    simp only [List.getElem?_cons_zero, List.getElem?_cons_succ] at y2
    have HG1 := Lib.hid (HG.out w2 0 hB02)
    clear k2
    go_upto_region 6 with fail
    rw [HW2.out]
    go_wp2_with fail
    refine HG1.out.mono ?_
    rintro e w3 ⟨rfl, hB3⟩
    have k3 := HK2.out.below hB3 HK2.out.lt
    have f2 := k3.frozen 2
    have g2 := k3.cell 2
    simp only [List.getElem?_cons_zero, List.getElem?_cons_succ] at g2
    have K3 := Lib.hid k3
    have hBw3 : Below w.heap.size w w3 := hB02.trans (hB3.mono hB02.size)
    generalize f 0 = F0 at *
    obtain ⟨w4, hw4⟩ : ∃ w4, w3.setCell ⟨wd.heap.size, 2, none⟩ (.int .i64 F0) = w4 := ⟨_, rfl⟩
    have K4 : Hid (Blk w4 wd.heap.size 30 [.string u, .string p, .int .i64 F0]) := Lib.hid (hw4 ▸ K3.out.set 2 _)
    have hB4 : Below w.heap.size w w4 := hw4 ▸ hBw3.setCell (p := ⟨wd.heap.size, 2, none⟩) hBd.size _
    have HW4 := Lib.hid hw4
    clear k3 hw4 HG1
    go_upto_region 7 with fail
    rw [HW4.out]
    clear f2 g2 K3 HW4
    have q0 := K4.out.cell 0
    have q1 := K4.out.cell 1
    have q2 := K4.out.cell 2
    simp only [List.getElem?_cons_zero, List.getElem?_cons_succ] at q0 q1 q2
    have HC1 := Lib.hid (grCopied_any A c j (l.take j) hlt (by omega) (fun x hx => HF.out x (List.mem_of_mem_take hx)) w4 (HRT.out.below hB4))
    go_wp2_with fail
    refine HC1.out.mono ?_
    rintro e w5 ⟨v5, rfl, ho5, hB5⟩
    obtain ⟨A5, c5, hv5, _, _, _, _⟩ := ownAny ho5
    rw [hlt] at hv5
    subst hv5
    have HO5 : Hid (w5.ownsRow w.heap.size 30 3 (.slice A5 j c5) j (grs (l.take j))) := Lib.hid (by have := ownBase ho5 hB4.size; unfold ownGr at this; rwa [hlt] at this)
    have hB05 : Below w.heap.size w w5 := hB4.trans (hB5.mono hB4.size)
    have K5 := Lib.hid (K4.out.below hB5 K4.out.lt)
    have p0 := K5.out.cell 0
    have p1 := K5.out.cell 1
    have p2 := K5.out.cell 2
    simp only [List.getElem?_cons_zero, List.getElem?_cons_succ] at p0 p1 p2
    clear ho5 q0 q1 q2 HC1 K4
    have HML : Hid ((l.drop j).length = l.length - j) := Lib.hid (by rw [List.length_drop])
    by_cases hz : F0 = 0
    · have hq : (F0 == 0) = true := beq_iff_eq.2 hz
      have HM : Hid (R = l.take j ++ l.drop j) := Lib.hid (by rw [HRS.out, mkG_zero u p hz]; rfl)
      have HC2 := Lib.hid (grCopied_any D (c - j) (l.length - j) (l.drop j) HML.out (by omega) (fun x hx => HF.out x (List.mem_of_mem_drop hx)) w5 (HRD.out.below hB05))
      clear hz HRS
      go_wp2_with fail
      refine HC2.out.mono ?_
      rintro e w6 ⟨v6, rfl, ho6, hB6⟩
      obtain ⟨A6, c6, hv6, hc6, hn6, hr6, _⟩ := ownAny ho6
      rw [HML.out] at hv6 hc6
      subst hv6
      have HR6 := Lib.hid hr6.1
      have HO6 := Lib.hid (ownBelow HO5.out hB6 (Nat.le_refl _))
      have HB06 : Hid (Below w.heap.size w w6) := Lib.hid (hB05.trans (hB6.mono hB05.size))
      clear ho6 hr6 HC2
      go_wp2_with (at_builtin; refine wpList_append_rdS rfl _ _ 22 rfl w.heap.size 30 i0 (.agg #[.string ByteArray.empty, .string ByteArray.empty, .int .i64 0]) 3 40 Try.underlying22 hi hz0 hz1 hz2 rfl (by decide) (.slice A5 j c5) j (grs (l.take j)) rfl HO6.out A6 (l.length - j) c6 (grs (l.drop j)) rfl (by rw [grs_length, HML.out]; omega) HR6.out hn6 (grs_one _) (by unfold maxLen; omega) (by omega) HB06.out.size ?_
                   intro v7 w7 ho7 hg7
                   have HO7 := Lib.hid ho7
                   have HB7 : Hid (Below w.heap.size w w7) := Lib.hid (HB06.out.grown hg7 HB06.out.size (fun j e => (HO6.out.lt j e).1))
                   clear ho7 hg7)
      go_ret
      refine ⟨_, rfl, ?_, HB7.out⟩
      rw [HM.out]
      have h7 := HO7.out
      unfold ownGr
      rw [grs_append, List.length_append, hlt, HML.out]
      exact h7
    · have hq : (F0 == 0) = false := beq_eq_false_iff_ne.2 hz
      have HM : Hid (R = l.take j ++ ([(u, p, F0)] ++ l.drop j)) := Lib.hid (by rw [HRS.out, mkG_some u p hz])
      clear hz HRS
      obtain ⟨wb, hwb⟩ : ∃ wb, w5.alloc (.cells #[.string u, .string p, .int .i64 (F0)] 30) = wb := ⟨_, rfl⟩
      have hBb : Below w5.heap.size w5 wb := hwb ▸ (Below.refl _ w5).alloc (Nat.le_refl _) _
      have kb : Blk wb w5.heap.size 30 [.string u, .string p, .int .i64 (F0)] := hwb ▸ Blk.new w5 _ _
      have HC3 := Lib.hid (grCopied_any (some ⟨w5.heap.size, 0, none⟩) 1 1 [(u, p, F0)] rfl (by omega) (fun x hx => by rw [List.mem_singleton] at hx; subst hx; exact ⟨hu, hp⟩) wb (fun _ => ⟨w5.heap.size, 0, rfl, kb.lt, fun i v hi => by rw [Nat.zero_add, kb.cell i]; exact hi⟩))
      have HWB := Lib.hid hwb
      clear kb hwb
      go_wp2_with fail
      rw [HWB.out]
      refine HC3.out.mono ?_
      rintro e w8 ⟨v8, rfl, ho8, hB8⟩
      obtain ⟨A8, c8, hv8, hc8, hn8, hr8, _⟩ := ownAny ho8
      rw [show [(u, p, F0)].length = 1 from rfl] at hv8 hc8
      subst hv8
      have HR8 := Lib.hid hr8.1
      have hB58 : Below w5.heap.size w5 w8 := hBb.trans (hB8.mono hBb.size)
      have HO8 := Lib.hid (ownBelow HO5.out hB58 (Nat.le_refl _))
      have HB08 : Hid (Below w.heap.size w w8) := Lib.hid (hB05.trans (hB58.mono hB05.size))
      have HAF : Hid (∀ W, Below w.heap.size w W → Calls Try.prog 30 #[.slice D (l.length - j) (c - j)] W fun e w' => ∃ v, e = .returned v ∧ ownGr w' W.heap.size v (l.drop j) ∧ Below W.heap.size W w') := Lib.hid fun W hW =>
        grCopied_any D (c - j) (l.length - j) (l.drop j) HML.out (by omega) (fun x hx => HF.out x (List.mem_of_mem_drop hx)) W (HRD.out.below hW)
      clear ho8 hr8 HC3 HO5
      go_wp2_with (at_builtin; refine wpList_append_rdS rfl _ _ 22 rfl w.heap.size 30 i0 (.agg #[.string ByteArray.empty, .string ByteArray.empty, .int .i64 0]) 3 40 Try.underlying22 hi hz0 hz1 hz2 rfl (by decide) (.slice A5 j c5) j (grs (l.take j)) rfl HO8.out A8 1 c8 (grs [(u, p, F0)]) rfl (by rw [grs_length]; rfl) HR8.out hn8 (grs_one _) (by unfold maxLen; omega) (by omega) HB08.out.size ?_
                   intro v9 w9 ho9 hg9
                   have HO9 := Lib.hid ho9
                   have HB9 : Hid (Below w.heap.size w w9) := Lib.hid (HB08.out.grown hg9 HB08.out.size (fun j e => (HO8.out.lt j e).1))
                   clear ho9 hg9)
      obtain ⟨A9, c9, rfl, _, _, _, _⟩ := ownAny HO9.out
      refine (HAF.out w9 HB9.out).mono ?_
      rintro e w6 ⟨v6, rfl, ho6, hB6⟩
      obtain ⟨A6, c6, hv6, hc6, hn6, hr6, _⟩ := ownAny ho6
      rw [HML.out] at hv6 hc6
      subst hv6
      have HR6 := Lib.hid hr6.1
      have HO6 := Lib.hid (ownBelow HO9.out hB6 (Nat.le_refl _))
      have HB06 : Hid (Below w.heap.size w w6) := Lib.hid (HB9.out.trans (hB6.mono HB9.out.size))
      clear ho6 hr6 HAF
      go_wp2_with (at_builtin; refine wpList_append_rdS rfl _ _ 22 rfl w.heap.size 30 i0 (.agg #[.string ByteArray.empty, .string ByteArray.empty, .int .i64 0]) 3 40 Try.underlying22 hi hz0 hz1 hz2 rfl (by decide) (.slice A9 (j + 1) c9) (j + 1) (grs (l.take j) ++ grs [(u, p, F0)]) rfl HO6.out A6 (l.length - j) c6 (grs (l.drop j)) rfl (by rw [grs_length, HML.out]; omega) HR6.out hn6 (grs_one _) (by unfold maxLen; omega) (by omega) HB06.out.size ?_
                   intro v7 w7 ho7 hg7
                   have HO7 := Lib.hid ho7
                   have HB7 : Hid (Below w.heap.size w w7) := Lib.hid (HB06.out.grown hg7 HB06.out.size (fun j e => (HO6.out.lt j e).1))
                   clear ho7 hg7)
      go_ret
      refine ⟨_, rfl, ?_, HB7.out⟩
      rw [HM.out]
      have h7 := HO7.out
      unfold ownGr
      rw [grs_append, grs_append, List.length_append, List.length_append, hlt, HML.out, ← List.append_assoc, ← Nat.add_assoc]
      exact h7
  · rw [hh] at HP
    go_enter Try.func16, Try.ntmps16
    go_wp2_with fail
    refine HP.out.mono ?_
    rintro e w1 ⟨j, rfl, hat, hB1⟩
    have hjl := hat.1
    have hjc : j ≤ c := Nat.le_trans hjl hcap
    have hlt : (l.take j).length = j := by rw [List.length_take]; omega
    have HRT := Lib.hid (HR.out.takeE j)
    obtain ⟨D, hD⟩ : ∃ D, (if c = j then A else Option.map (fun x => x.add (j * 3)) A) = D := ⟨_, rfl⟩
    have hRD0 := HR.out.dropE (cells := grC) (n := 3) (fun _ => rfl) j c hcap
    have HND := drop_none (n := j * 3) (k := j) hA
    rw [hD] at hRD0 HND
    have HND := Lib.hid HND
    have HRD0 := Lib.hid hRD0
    have HD := Lib.hid hD
    clear hRD0 hD
    obtain ⟨x, hx, hx1, hx2, hxf⟩ := atG_yes hat hh
    have hjl2 : j < l.length := (List.getElem?_eq_some_iff.1 hx).1
    have HRS : Hid (R = l.take j ++ (mkG u p (f x.2.2) ++ l.drop (j + 1))) := Lib.hid (by rw [← HRR.out]; exact hxf f)
    have hx0 : (l.drop j)[0]? = some x := by rw [grs_drop0 hx]; rfl
    have HX0 := Lib.hid hx0
    obtain ⟨x1, x2, x3⟩ := x
    dsimp only at hx1 hx2 HRS
    have hx1 := hx1.symm
    have hx2 := hx2.symm
    subst hx1
    subst hx2
    have HD3 : Hid (Option.map (fun x => x.add (j * 3)) A = D) := Lib.hid (by have := HD.out; rwa [if_neg (by omega)] at this)
    clear HP hat hh HRR hx hxf hx0
    go_upto_region 3 with (go_quiet (fail))
    obtain ⟨wd, hwd⟩ : ∃ wd, w1.drewN nq = wd := ⟨_, rfl⟩
    have hBd : Below w.heap.size w wd := hwd ▸ hB1.trans (belowDrewN _ _ _)
    rw [HD3.out, hwd]
    clear hwd
    obtain ⟨w2, hw2⟩ : ∃ w2, wd.alloc (.cells #[.string u, .string p, .int .i64 0] 30) = w2 := ⟨_, rfl⟩
    have hB2 : Below wd.heap.size wd w2 := hw2 ▸ (Below.refl _ wd).alloc (Nat.le_refl _) _
    have k2 : Blk w2 wd.heap.size 30 [.string u, .string p, .int .i64 0] := hw2 ▸ Blk.new wd _ _
    have hB02 : Below w.heap.size w w2 := hBd.trans (hB2.mono hBd.size)
    have HW2 := Lib.hid hw2
    have HK2 := Lib.hid k2
    clear hw2
    obtain ⟨b, off, hDe, hb, d0, d1, d2⟩ := (HRD0.out.below hB02).gr HX0.out
    subst hDe
    simp only [Nat.zero_mul, Nat.add_zero] at d0 d1 d2
    have hRD := HRD0.out.dropE (cells := grC) (n := 3) (fun _ => rfl) 1 (c - j) (by rw [List.length_drop]; omega)
    rw [List.drop_drop] at hRD
    have hND2 := drop_none (n := 1 * 3) (k := 1) HND.out
    obtain ⟨D, hD2⟩ : ∃ D, (if c - j = 1 then (some ⟨b, off, none⟩ : Option Addr) else some ⟨b, off + 3, none⟩) = D := ⟨_, rfl⟩
    rw [Option.map_some, add_plain, Nat.one_mul, hD2] at hRD hND2
    have HRD := Lib.hid hRD
    have HD2 := Lib.hid hD2
    have HND2 := Lib.hid hND2
    have hlen1 : (0 : Int) < ((l.length - j : Nat) : Int) := by omega
    have hlen2 : (1 : Int) ≤ ((l.length - j : Nat) : Int) := by omega
    have hlen3 : (1 : Int) ≤ ((c - j : Nat) : Int) := by omega
    have y0 := k2.cell 0
    have y1 := k2.cell 1
    have y2 := k2.cell 2
    have f0 := k2.frozen 0
    have f1 := k2.frozen 1
    have f2 := k2.frozen 2
    simp only [List.getElem?_cons_zero, List.getElem?_cons_succ] at y0 y1 y2
    clear hRD hND2 hD2 k2
    go_upto_region 4 with fail
    rw [HW2.out]
    go_upto_region 6 with (go_region)
    rw [HD2.out]
    have k5 : Blk (((w2.setCell ⟨wd.heap.size, 0, none⟩ (.string u)).setCell ⟨wd.heap.size, 1, none⟩ (.string p)).setCell ⟨wd.heap.size, 2, none⟩ (.int .i64 x3)).drew wd.heap.size 30 [.string u, .string p, .int .i64 x3] := ((HK2.out.set 0 _).set 1 _).set 2 _
    have hBw5 : Below w.heap.size w (((w2.setCell ⟨wd.heap.size, 0, none⟩ (.string u)).setCell ⟨wd.heap.size, 1, none⟩ (.string p)).setCell ⟨wd.heap.size, 2, none⟩ (.int .i64 x3)).drew := (((hB02.setCell (p := ⟨wd.heap.size, 0, none⟩) hBd.size _).setCell (p := ⟨wd.heap.size, 1, none⟩) hBd.size _).setCell (p := ⟨wd.heap.size, 2, none⟩) hBd.size _).drew
    generalize (((w2.setCell ⟨wd.heap.size, 0, none⟩ (.string u)).setCell ⟨wd.heap.size, 1, none⟩ (.string p)).setCell ⟨wd.heap.size, 2, none⟩ (.int .i64 x3)).drew = wq at *
    have x2 := k5.cell 2
    simp only [List.getElem?_cons_zero, List.getElem?_cons_succ] at x2
    have HG1 := Lib.hid (HG.out wq x3 hBw5)
    have HK5 := Lib.hid k5
    clear k5 y0 y1 y2 f0 f1 f2 d0 d1 d2
    go_wp2_with fail
    refine HG1.out.mono ?_
    rintro e w3 ⟨rfl, hB3⟩
    have k3 := HK5.out.below hB3 HK5.out.lt
    have f2 := k3.frozen 2
    have g2 := k3.cell 2
    simp only [List.getElem?_cons_zero, List.getElem?_cons_succ] at g2
    have K3 := Lib.hid k3
    have hBw3 : Below w.heap.size w w3 := hBw5.trans (hB3.mono hBw5.size)
    generalize f x3 = F0 at *
    obtain ⟨w4, hw4⟩ : ∃ w4, w3.setCell ⟨wd.heap.size, 2, none⟩ (.int .i64 F0) = w4 := ⟨_, rfl⟩
    have K4 : Hid (Blk w4 wd.heap.size 30 [.string u, .string p, .int .i64 F0]) := Lib.hid (hw4 ▸ K3.out.set 2 _)
    have hB4 : Below w.heap.size w w4 := hw4 ▸ hBw3.setCell (p := ⟨wd.heap.size, 2, none⟩) hBd.size _
    have HW4 := Lib.hid hw4
    have HND := HND2
    clear k3 hw4 HG1
    go_upto_region 7 with fail
    rw [HW4.out]
    clear f2 g2 K3 HW4
    have q0 := K4.out.cell 0
    have q1 := K4.out.cell 1
    have q2 := K4.out.cell 2
    simp only [List.getElem?_cons_zero, List.getElem?_cons_succ] at q0 q1 q2
    have HC1 := Lib.hid (grCopied_any A c j (l.take j) hlt (by omega) (fun x hx => HF.out x (List.mem_of_mem_take hx)) w4 (HRT.out.below hB4))
    go_wp2_with fail
    refine HC1.out.mono ?_
    rintro e w5 ⟨v5, rfl, ho5, hB5⟩
    obtain ⟨A5, c5, hv5, _, _, _, _⟩ := ownAny ho5
    rw [hlt] at hv5
    subst hv5
    have HO5 : Hid (w5.ownsRow w.heap.size 30 3 (.slice A5 j c5) j (grs (l.take j))) := Lib.hid (by have := ownBase ho5 hB4.size; unfold ownGr at this; rwa [hlt] at this)
    have hB05 : Below w.heap.size w w5 := hB4.trans (hB5.mono hB4.size)
    have K5 := Lib.hid (K4.out.below hB5 K4.out.lt)
    have p0 := K5.out.cell 0
    have p1 := K5.out.cell 1
    have p2 := K5.out.cell 2
    simp only [List.getElem?_cons_zero, List.getElem?_cons_succ] at p0 p1 p2
    clear ho5 q0 q1 q2 HC1 K4
    have HML : Hid ((l.drop (j + 1)).length = l.length - j - 1) := Lib.hid (by rw [List.length_drop]; omega)
    by_cases hz : F0 = 0
    · have hq : (F0 == 0) = true := beq_iff_eq.2 hz
      have HM : Hid (R = l.take j ++ l.drop (j + 1)) := Lib.hid (by rw [HRS.out, mkG_zero u p hz]; rfl)
      have HC2 := Lib.hid (grCopied_any D (c - j - 1) (l.length - j - 1) (l.drop (j + 1)) HML.out (by omega) (fun x hx => HF.out x (List.mem_of_mem_drop hx)) w5 (HRD.out.below hB05))
      clear hz HRS
      go_wp2_with fail
      refine HC2.out.mono ?_
      rintro e w6 ⟨v6, rfl, ho6, hB6⟩
      obtain ⟨A6, c6, hv6, hc6, hn6, hr6, _⟩ := ownAny ho6
      rw [HML.out] at hv6 hc6
      subst hv6
      have HR6 := Lib.hid hr6.1
      have HO6 := Lib.hid (ownBelow HO5.out hB6 (Nat.le_refl _))
      have HB06 : Hid (Below w.heap.size w w6) := Lib.hid (hB05.trans (hB6.mono hB05.size))
      clear ho6 hr6 HC2
      go_wp2_with (at_builtin; refine wpList_append_rdS rfl _ _ 22 rfl w.heap.size 30 i0 (.agg #[.string ByteArray.empty, .string ByteArray.empty, .int .i64 0]) 3 40 Try.underlying22 hi hz0 hz1 hz2 rfl (by decide) (.slice A5 j c5) j (grs (l.take j)) rfl HO6.out A6 (l.length - j - 1) c6 (grs (l.drop (j + 1))) rfl (by rw [grs_length, HML.out]; omega) HR6.out hn6 (grs_one _) (by unfold maxLen; omega) (by omega) HB06.out.size ?_
                   intro v7 w7 ho7 hg7
                   have HO7 := Lib.hid ho7
                   have HB7 : Hid (Below w.heap.size w w7) := Lib.hid (HB06.out.grown hg7 HB06.out.size (fun j e => (HO6.out.lt j e).1))
                   clear ho7 hg7)
      go_ret
      refine ⟨_, rfl, ?_, HB7.out⟩
      rw [HM.out]
      have h7 := HO7.out
      unfold ownGr
      rw [grs_append, List.length_append, hlt, HML.out]
      exact h7
    · have hq : (F0 == 0) = false := beq_eq_false_iff_ne.2 hz
      have HM : Hid (R = l.take j ++ ([(u, p, F0)] ++ l.drop (j + 1))) := Lib.hid (by rw [HRS.out, mkG_some u p hz])
      clear hz HRS
      obtain ⟨wb, hwb⟩ : ∃ wb, w5.alloc (.cells #[.string u, .string p, .int .i64 (F0)] 30) = wb := ⟨_, rfl⟩
      have hBb : Below w5.heap.size w5 wb := hwb ▸ (Below.refl _ w5).alloc (Nat.le_refl _) _
      have kb : Blk wb w5.heap.size 30 [.string u, .string p, .int .i64 (F0)] := hwb ▸ Blk.new w5 _ _
      have HC3 := Lib.hid (grCopied_any (some ⟨w5.heap.size, 0, none⟩) 1 1 [(u, p, F0)] rfl (by omega) (fun x hx => by rw [List.mem_singleton] at hx; subst hx; exact ⟨hu, hp⟩) wb (fun _ => ⟨w5.heap.size, 0, rfl, kb.lt, fun i v hi => by rw [Nat.zero_add, kb.cell i]; exact hi⟩))
      have HWB := Lib.hid hwb
      clear kb hwb
      go_wp2_with fail
      rw [HWB.out]
      refine HC3.out.mono ?_
      rintro e w8 ⟨v8, rfl, ho8, hB8⟩
      obtain ⟨A8, c8, hv8, hc8, hn8, hr8, _⟩ := ownAny ho8
      rw [show [(u, p, F0)].length = 1 from rfl] at hv8 hc8
      subst hv8
      have HR8 := Lib.hid hr8.1
      have hB58 : Below w5.heap.size w5 w8 := hBb.trans (hB8.mono hBb.size)
      have HO8 := Lib.hid (ownBelow HO5.out hB58 (Nat.le_refl _))
      have HB08 : Hid (Below w.heap.size w w8) := Lib.hid (hB05.trans (hB58.mono hB05.size))
      have HAF : Hid (∀ W, Below w.heap.size w W → Calls Try.prog 30 #[.slice D (l.length - j - 1) (c - j - 1)] W fun e w' => ∃ v, e = .returned v ∧ ownGr w' W.heap.size v (l.drop (j + 1)) ∧ Below W.heap.size W w') := Lib.hid fun W hW =>
        grCopied_any D (c - j - 1) (l.length - j - 1) (l.drop (j + 1)) HML.out (by omega) (fun x hx => HF.out x (List.mem_of_mem_drop hx)) W (HRD.out.below hW)
      clear ho8 hr8 HC3 HO5
      go_wp2_with (at_builtin; refine wpList_append_rdS rfl _ _ 22 rfl w.heap.size 30 i0 (.agg #[.string ByteArray.empty, .string ByteArray.empty, .int .i64 0]) 3 40 Try.underlying22 hi hz0 hz1 hz2 rfl (by decide) (.slice A5 j c5) j (grs (l.take j)) rfl HO8.out A8 1 c8 (grs [(u, p, F0)]) rfl (by rw [grs_length]; rfl) HR8.out hn8 (grs_one _) (by unfold maxLen; omega) (by omega) HB08.out.size ?_
                   intro v9 w9 ho9 hg9
                   have HO9 := Lib.hid ho9
                   have HB9 : Hid (Below w.heap.size w w9) := Lib.hid (HB08.out.grown hg9 HB08.out.size (fun j e => (HO8.out.lt j e).1))
                   clear ho9 hg9)
      obtain ⟨A9, c9, rfl, _, _, _, _⟩ := ownAny HO9.out
      refine (HAF.out w9 HB9.out).mono ?_
      rintro e w6 ⟨v6, rfl, ho6, hB6⟩
      obtain ⟨A6, c6, hv6, hc6, hn6, hr6, _⟩ := ownAny ho6
      rw [HML.out] at hv6 hc6
      subst hv6
      have HR6 := Lib.hid hr6.1
      have HO6 := Lib.hid (ownBelow HO9.out hB6 (Nat.le_refl _))
      have HB06 : Hid (Below w.heap.size w w6) := Lib.hid (HB9.out.trans (hB6.mono HB9.out.size))
      clear ho6 hr6 HAF
      go_wp2_with (at_builtin; refine wpList_append_rdS rfl _ _ 22 rfl w.heap.size 30 i0 (.agg #[.string ByteArray.empty, .string ByteArray.empty, .int .i64 0]) 3 40 Try.underlying22 hi hz0 hz1 hz2 rfl (by decide) (.slice A9 (j + 1) c9) (j + 1) (grs (l.take j) ++ grs [(u, p, F0)]) rfl HO6.out A6 (l.length - j - 1) c6 (grs (l.drop (j + 1))) rfl (by rw [grs_length, HML.out]; omega) HR6.out hn6 (grs_one _) (by unfold maxLen; omega) (by omega) HB06.out.size ?_
                   intro v7 w7 ho7 hg7
                   have HO7 := Lib.hid ho7
                   have HB7 : Hid (Below w.heap.size w w7) := Lib.hid (HB06.out.grown hg7 HB06.out.size (fun j e => (HO6.out.lt j e).1))
                   clear ho7 hg7)
      go_ret
      refine ⟨_, rfl, ?_, HB7.out⟩
      rw [HM.out]
      have h7 := HO7.out
      unfold ownGr
      rw [grs_append, grs_append, List.length_append, List.length_append, hlt, HML.out, ← List.append_assoc, ← Nat.add_assoc]
      exact h7

end Go.Proofs.Ytkokfmodoacflaa
