/-
  perms: place. Conditions: the texts are as they come in.
-/
import Derived.Test.YtkokfmodoacflaaGRD
import Derived.Test.YtkokfmodoacflaaSX
import Derived.Test.YtkokfmodoacflaaNU
import Derived.Test.YtkokfmodoacflaaLayH
import Derived.BigQuiet
namespace Go.Proofs.Ytkokfmodoacflaa
open Go.ChangeShapes Go.WideShapes Go.ChangeAt Go.RowKit
set_option maxRecDepth 100000

theorem grPlace1_any (B0 : Nat) (u p : ByteArray) (x : Gr) (w : World) (h : Blk w B0 30 [.string u, .string p, .int .i64 0]) :
    Calls Try.prog 36 #[grV x, .pointer (some ⟨B0, 0, none⟩)] w fun e w' => e = .returned (.bool (decide (0 ≤ cmpG x (u, p, 0)))) ∧ Below w.heap.size w w' := by
  obtain ⟨C, hC⟩ : ∃ C, cmpG x (u, p, 0) = C := ⟨_, rfl⟩
  have HO := Lib.hid (order_any x (u, p, 0))
  rw [hC] at HO ⊢
  obtain ⟨x1, x2, x3⟩ := x
  dsimp only [grV] at HO ⊢
  have hB1 : Below w.heap.size w (w.alloc (.cells #[.string x1, .string x2, .int .i64 x3] 30)) := (Below.refl _ w).alloc (Nat.le_refl _) _
  have hl := h.lt
  have z0 := h.cell 0
  have z1 := h.cell 1
  have z2 := h.cell 2
  simp only [List.getElem?_cons_zero, List.getElem?_cons_succ] at z0 z1 z2
  have HB1 := Lib.hid hB1
  clear h hC hB1
  go_enter Try.func36, Try.ntmps36
  go_wp2_with fail
  refine (HO.out _).mono ?_
  rintro e w2 ⟨rfl, hB2⟩
  go_wp2
  go_ret
  exact ⟨rfl, HB1.out.trans (hB2.mono HB1.out.size)⟩

/-- Where that grant stands, or would. -/
def atG (u p : ByteArray) (l : List Gr) (j : Nat) : Prop := j ≤ l.length ∧ (∀ y ∈ l.take j, cmpG y (u, p, 0) < 0) ∧ ∀ x, l[j]? = some x → ¬ cmpG x (u, p, 0) < 0
theorem atG_yes {u p : ByteArray} {l : List Gr} {j : Nat} (h : atG u p l j) (hh : hasG u p l = true) : ∃ x, l[j]? = some x ∧ x.1 = u ∧ x.2.1 = p ∧ ∀ f, setG u p f l = l.take j ++ (mkG u p (f x.2.2) ++ l.drop (j + 1)) := by
  obtain ⟨h1, h2, h3⟩ := h
  rcases Nat.lt_or_ge j l.length with hlt | hge
  · have hx : l[j]? = some l[j] := List.getElem?_eq_getElem hlt
    have hx0 := h3 _ hx
    have e := hasG_at hx0 hx h2
    rw [hh] at e
    have e0 := of_decide_eq_true e.symm
    obtain ⟨k1, k2⟩ := cmpG_eq.1 e0
    refine ⟨_, hx, k1, k2, fun f => ?_⟩
    rw [setG_at f hx0 hx h2, if_pos e0]
  · rw [hasG_none fun y hy => h2 y (by rw [List.take_of_length_le hge]; exact hy)] at hh
    cases hh
theorem atG_no {u p : ByteArray} {l : List Gr} {j : Nat} (h : atG u p l j) (hh : hasG u p l = false) (f : Int → Int) : setG u p f l = l.take j ++ (mkG u p (f 0) ++ l.drop j) := by
  obtain ⟨h1, h2, h3⟩ := h
  rcases Nat.lt_or_ge j l.length with hlt | hge
  · have hx : l[j]? = some l[j] := List.getElem?_eq_getElem hlt
    have hx0 := h3 _ hx
    have e := hasG_at hx0 hx h2
    rw [hh] at e
    rw [setG_at f hx0 hx h2, if_neg (of_decide_eq_false e.symm)]
  · rw [setG_none f fun y hy => h2 y (by rw [List.take_of_length_le hge]; exact hy), List.take_of_length_le hge, List.drop_eq_nil_of_le hge, List.append_nil]

set_option maxHeartbeats 1000000 in
theorem grPlace_any (A : Option Addr) (c n : Nat) (l : List Gr) (hn : l.length = n) (hl : n ≤ 4398046511104) (u p : ByteArray) (w : World) (hr : Rd w A (grs l)) :
    Calls Try.prog 24 #[.slice A n c, .string u, .string p] w fun e w' => ∃ j : Nat, e = .returned (.tuple #[.int .i64 j, .bool (hasG u p l)]) ∧ atG u p l j ∧ Below w.heap.size w w' := by
  subst hn
  obtain ⟨w1, hw1⟩ : ∃ w1, w.alloc (.cells #[.string u, .string p, .int .i64 0] 30) = w1 := ⟨_, rfl⟩
  have hB1 : Below w.heap.size w w1 := hw1 ▸ (Below.refl _ w).alloc (Nat.le_refl _) _
  have k1 : Blk w1 w.heap.size 30 [.string u, .string p, .int .i64 0] := hw1 ▸ Blk.new w _ _
  have HI := indexFn Try.indexP 3 Try.isAgg30 Try.sizeOf30 grC (fun _ => rfl) (by omega) (fun x => decide (0 ≤ cmpG x (u, p, 0))) 36 #[.pointer (some ⟨w.heap.size, 0, none⟩)] (enters_of Try.func36 (by kernel_rfl) rfl) A c l.length l rfl w1
    (fun W x hB => grPlace1_any w.heap.size u p x W (k1.below hB k1.lt)) (by omega) (hr.below hB1)
  change Calls _ 35 _ _ _ at HI
  have HI' := Lib.hid HI
  have HR := Lib.hid (hr.below hB1)
  have HW1 := Lib.hid hw1
  have HK1 := Lib.hid k1
  obtain ⟨R, hR⟩ : ∃ R, hasG u p l = R := ⟨_, rfl⟩
  have HRR := Lib.hid hR
  rw [hR]
  clear HI hr hw1 k1 hR
  go_enter Try.func24, Try.ntmps24
  go_wp2_with fail
  rw [HW1.out]
  go_wp2_with fail
  refine HI'.out.mono ?_
  rintro e w2 ⟨hB2, ⟨j, x, hj, hx, hno, rfl⟩ | ⟨hno, rfl⟩⟩
  · have hx0 : ¬ cmpG x (u, p, 0) < 0 := Int.not_lt.2 (of_decide_eq_true hx)
    have hno' : ∀ y ∈ l.take j, cmpG y (u, p, 0) < 0 := fun y hy => Int.not_le.1 (of_decide_eq_false (hno y hy))
    have hat : atG u p l j := ⟨by have := (List.getElem?_eq_some_iff.1 hj).1; omega, hno', fun y hy => by rw [hj] at hy; injection hy with hy; subst hy; exact hx0⟩
    have HAT := Lib.hid hat
    have HRV : Hid (R = decide (cmpG x (u, p, 0) = 0)) := Lib.hid (by rw [← HRR.out]; exact hasG_at hx0 hj hno')
    obtain ⟨b, off, rfl, hb, d0, d1, d2⟩ := (HR.out.below hB2).gr hj
    have k2 := HK1.out.below hB2 HK1.out.lt
    have z0 := k2.cell 0
    have z1 := k2.cell 1
    have z2 := k2.cell 2
    simp only [List.getElem?_cons_zero, List.getElem?_cons_succ] at z0 z1 z2
    have hjl : j < l.length := (List.getElem?_eq_some_iff.1 hj).1
    have hB02 : Below w.heap.size w w2 := hB1.trans (hB2.mono hB1.size)
    have HO := Lib.hid (order_any x (u, p, 0))
    obtain ⟨C, hC⟩ : ∃ C, cmpG x (u, p, 0) = C := ⟨_, rfl⟩
    rw [hC] at HO HRV
    have HRV : Hid (R = (C == 0)) := Lib.hid (by rw [HRV.out, Bool.eq_iff_iff]; simp)
    obtain ⟨x1, x2, x3⟩ := x
    dsimp only at d0 d1 d2
    dsimp only [grV] at HO
    have hB2d : Below w2.heap.size w2 w2.drew := (Below.refl _ _).drew
    clear hj hx hno hx0 hno' hat HRR HI' HK1 k2 hC HR
    go_wp2_with fail
    refine wp_region_noPanic ?_
    refine wp_region_last 6 (fun W => W.cell? ⟨b, off + j * 3, none⟩ = some (.string x1) ∧ W.cell? ⟨b, off + j * 3 + 1, none⟩ = some (.string x2) ∧ W.cell? ⟨b, off + j * 3 + 2, none⟩ = some (.int .i64 x3) ∧ W.cell? ⟨w.heap.size, 0, none⟩ = some (.string u) ∧ W.cell? ⟨w.heap.size, 1, none⟩ = some (.string p) ∧ W.cell? ⟨w.heap.size, 2, none⟩ = some (.int .i64 0)) (by kernel_rfl) ⟨d0, d1, d2, z0, z1, z2⟩ (fun hHeld => ?_)
    refine wpAnyL_takeW (i := 0) (oi := ⟨some 20, _, _, _, _, _⟩) (v := ?_) rfl (by kernel_rfl) (by kernel_rfl) (by kernel_rfl) (by kernel_rfl) (fun _ _ _ h => h) (Or.inl ⟨by rfl, ?_⟩) (.inr hHeld) ?_
    rotate_left
    focus (intro w hSw; (try dsimp only at hSw); go_simp; try (with_reducible rfl))
    try simp only [Act.put, List.setIfInBounds_toArray, List.set_cons_zero, List.set_cons_succ]
    refine wpAnyL_take 12 (i := 1) (oi := ⟨some 21, _, _, _, _, _⟩) (v := ?_) rfl (by kernel_rfl) (by kernel_rfl) (by kernel_rfl) (by kernel_rfl) (by kernel_rfl) (by kernel_rfl) (by kernel_rfl) (fun _ _ _ h => h) (Or.inl ⟨by rfl, ?_⟩) hHeld ?_
    rotate_left
    focus (intro w hSw; (try dsimp only at hSw); go_simp; try (with_reducible rfl))
    try simp only [Act.put, List.setIfInBounds_toArray, List.set_cons_zero, List.set_cons_succ]
    refine wpAnyL_take 12 (i := 2) (oi := ⟨some 22, _, _, _, _, _⟩) (v := ?_) rfl (by kernel_rfl) (by kernel_rfl) (by kernel_rfl) (by kernel_rfl) (by kernel_rfl) (by kernel_rfl) (by kernel_rfl) (fun _ _ _ h => h) (Or.inl ⟨by rfl, ?_⟩) hHeld ?_
    rotate_left
    focus (intro w hSw; (try dsimp only at hSw); go_simp; try (with_reducible rfl))
    try simp only [Act.put, List.setIfInBounds_toArray, List.set_cons_zero, List.set_cons_succ]
    refine wpAnyL_take 12 (i := 3) (oi := ⟨some 23, _, _, _, _, _⟩) (v := ?_) rfl (by kernel_rfl) (by kernel_rfl) (by kernel_rfl) (by kernel_rfl) (by kernel_rfl) (by kernel_rfl) (by kernel_rfl) (fun _ _ _ h => h) (Or.inl ⟨by rfl, ?_⟩) hHeld ?_
    rotate_left
    focus (intro w hSw; (try dsimp only at hSw); go_simp; try (with_reducible rfl))
    try simp only [Act.put, List.setIfInBounds_toArray, List.set_cons_zero, List.set_cons_succ]
    refine wpAnyL_take 12 (i := 4) (oi := ⟨some 24, _, _, _, _, _⟩) (v := ?_) rfl (by kernel_rfl) (by kernel_rfl) (by kernel_rfl) (by kernel_rfl) (by kernel_rfl) (by kernel_rfl) (by kernel_rfl) (fun _ _ _ h => h) (Or.inl ⟨by rfl, ?_⟩) hHeld ?_
    rotate_left
    focus (intro w hSw; (try dsimp only at hSw); go_simp; try (with_reducible rfl))
    try simp only [Act.put, List.setIfInBounds_toArray, List.set_cons_zero, List.set_cons_succ]
    refine wpAnyL_take 12 (i := 5) (oi := ⟨some 25, _, _, _, _, _⟩) (v := ?_) rfl (by kernel_rfl) (by kernel_rfl) (by kernel_rfl) (by kernel_rfl) (by kernel_rfl) (by kernel_rfl) (by kernel_rfl) (fun _ _ _ h => h) (Or.inl ⟨by rfl, ?_⟩) hHeld ?_
    rotate_left
    focus (intro w hSw; (try dsimp only at hSw); go_simp; try (with_reducible rfl))
    try simp only [Act.put, List.setIfInBounds_toArray, List.set_cons_zero, List.set_cons_succ]
    refine wpAnyL_last (i := 6) (o := ⟨some 26, _, _, _, _, _⟩) (by kernel_rfl) rfl (by kernel_rfl) (fun K hK => ?_)
    clear hHeld
    go_simp
    refine (HO.out _).mono ?_
    rintro e w5 ⟨rfl, hB5⟩
    have hBw5 := hB02.trans ((hB2d.trans hB5).mono hB02.size)
    go_wp2_with fail
    refine hK.out _ _ ?_
    clear hK K
    try simp only [Act.put, List.setIfInBounds_toArray, List.set_cons_zero, List.set_cons_succ]
    refine wpAnyL_takeW (i := 7) (oi := ⟨some 27, _, _, _, _, _⟩) (v := ?_) rfl (by kernel_rfl) (by kernel_rfl) (by kernel_rfl) (by kernel_rfl) (fun _ _ _ h => h) (Or.inl ⟨by rfl, ?_⟩) (.inl (by kernel_rfl)) ?_
    rotate_left
    focus (intro w hSw; (try dsimp only at hSw); go_simp; try (with_reducible rfl))
    try simp only [Act.put, List.setIfInBounds_toArray, List.set_cons_zero, List.set_cons_succ]
    refine wpAnyL_takeW (i := 8) (oi := ⟨some 6, _, _, _, _, _⟩) (v := ?_) rfl (by kernel_rfl) (by kernel_rfl) (by kernel_rfl) (by kernel_rfl) (fun _ _ _ h => h) (Or.inl ⟨by rfl, ?_⟩) (.inl (by kernel_rfl)) ?_
    rotate_left
    focus (intro w hSw; (try dsimp only at hSw); go_simp; try (with_reducible rfl))
    try simp only [Act.put, List.setIfInBounds_toArray, List.set_cons_zero, List.set_cons_succ]
    refine wpAnyL_takeW (i := 9) (oi := ⟨some 7, _, _, _, _, _⟩) (v := ?_) rfl (by kernel_rfl) (by kernel_rfl) (by kernel_rfl) (by kernel_rfl) (fun _ _ _ h => h) (Or.inl ⟨by rfl, ?_⟩) (.inl (by kernel_rfl)) ?_
    rotate_left
    focus (intro w hSw; (try dsimp only at hSw); go_simp; try (with_reducible rfl))
    try simp only [Act.put, List.setIfInBounds_toArray, List.set_cons_zero, List.set_cons_succ]
    refine wpAnyL_done (by kernel_rfl) ?_ _
    refine NoPanic.normal ?_
    go_wp2
    go_ret2
    rw [HRV.out]
    exact ⟨j, rfl, HAT.out, hBw5⟩
  · have hno' : ∀ y ∈ l, cmpG y (u, p, 0) < 0 := fun y hy => Int.not_le.1 (of_decide_eq_false (hno y hy))
    have HAT : Hid (atG u p l l.length) := Lib.hid ⟨Nat.le_refl _, fun y hy => hno' y (List.mem_of_mem_take hy), fun y hy => by rw [List.getElem?_eq_none (Nat.le_refl _)] at hy; cases hy⟩
    have HRV : Hid (R = false) := Lib.hid (by rw [← HRR.out]; exact hasG_none hno')
    clear hno hno' HRR HI'
    go_wp2
    go_ret2
    rw [HRV.out]
    exact ⟨l.length, rfl, HAT.out, hB1.trans (hB2.mono hB1.size)⟩

end Go.Proofs.Ytkokfmodoacflaa
