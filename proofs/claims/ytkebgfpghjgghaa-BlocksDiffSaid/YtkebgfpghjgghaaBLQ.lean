/-
  blocks: what Diff does with a block that is gone, and with one that is. Conditions: numbers below 2^12.
-/
import Derived.Test.YtkebgfpghjgghaaBLZ
namespace Go.Proofs.Ytkebgfpghjgghaa
open Go.ChangeShapes Go.WideShapes Go.ChangeAt Go.RowKit
set_option maxRecDepth 100000

/-- The records in their box. -/
structure DJ (X base : Nat) (W : World) (l : List Rc) : Prop where
  box : ∃ v, Blk W X 44 [v] ∧ ownRc W base v l
  bX : base ≤ X
theorem DJ.below {X base : Nat} {W W' : World} {l : List Rc} (h : DJ X base W l) (hB : Below W.heap.size W W') : DJ X base W' l := by
  obtain ⟨⟨v, h1, h2⟩, h3⟩ := h
  exact ⟨⟨v, h1.below hB h1.lt, ownBelow h2 hB (Nat.le_refl _)⟩, h3⟩

set_option maxHeartbeats 2000000 in
theorem diff1_any (s : Nat) (hs : s ≤ 4096) (X base : Nat) (l : List Rc) (hl : Small s l) (x : Bk) (hx : 0 ≤ x.1 ∧ x.1 < 1024) (w : World) (h : DJ X base w l) :
    Calls Try.prog 41 #[bkV x, .pointer (some ⟨X, 0, none⟩)] w fun e w' => e = .returned (.tuple #[]) ∧ DJ X base w' (fr l x.1) ∧ Below base w w' := by
  obtain ⟨⟨v, hb, ho⟩, hbX⟩ := h
  obtain ⟨w1, hw1⟩ : ∃ w1, w.alloc (.cells #[.int .i64 x.1, .string x.2] 58) = w1 := ⟨_, rfl⟩
  have hB1 : Below w.heap.size w w1 := hw1 ▸ (Below.refl _ w).alloc (Nat.le_refl _) _
  have k1 : Blk w1 w.heap.size 58 [.int .i64 x.1, .string x.2] := hw1 ▸ Blk.new w _ _
  have hb1 := hb.below hB1 hb.lt
  have x0 := k1.cell 0
  have b0 := hb.cell 0
  simp only [List.getElem?_cons_zero] at x0 b0
  have hX := hb.lt
  have ho1 := ownBelow ho hB1 (Nat.le_refl _)
  have hs1 := hB1.size
  have HF := Lib.hid (freed_any s hs l hl x.1 hx base v w1 ho1 (by omega))
  have HW := Lib.hid hw1
  have HB1 := Lib.hid hb1
  have HO1 := Lib.hid ho1
  clear hw1 k1 hb ho ho1 hb1
  go_enter Try.func41, Try.ntmps41
  go_wp2_with fail
  rw [HW.out]
  refine HF.out.mono ?_
  rintro e w2 ⟨v', rfl, ho2, hB2, hk2⟩
  have hb2 : Blk w2 X 44 [v] := (hk2 X (Nat.lt_of_lt_of_le hX hs1) (fun e => blk_apart HB1.out HO1.out (by decide) e.symm)).trans HB1.out
  have c0 := hb2.cell 0
  have f0 := hb2.frozen 0
  simp only [List.getElem?_cons_zero] at c0
  obtain ⟨A2, c2, rfl, _, _, _, _⟩ := ownAny ho2
  have HO2 := Lib.hid ho2
  have HB2 := Lib.hid hb2
  clear ho2 hk2 hb2 HF
  go_wp2
  go_end0
  refine ⟨rfl, ⟨⟨_, HB2.out.set 0 _, ?_⟩, hbX⟩, ((hB1.mono (by omega)).trans hB2).setCell (p := ⟨X, 0, none⟩) hbX _⟩
  refine ownStay HO2.out fun b hb => heap_setCell_other _ _ b _ (fun e => ?_)
  have e' : b = X := e
  subst e'
  exact blk_apart HB2.out HO2.out (by decide) hb

set_option maxHeartbeats 2000000 in
theorem diff2_any (s : Nat) (hs : s ≤ 4096) (X base : Nat) (l : List Rc) (hl : Small s l) (x : Bk) (hx : x.2.size ≤ 140737488351232) (w : World) (h : DJ X base w l) :
    Calls Try.prog 43 #[bkV x, .pointer (some ⟨X, 0, none⟩)] w fun e w' => e = .returned (.tuple #[]) ∧ DJ X base w' (l ++ [⟨2, x.1, 0, x.2⟩]) ∧ Below base w w' := by
  obtain ⟨⟨v, hb, ho⟩, hbX⟩ := h
  obtain ⟨i0, hi, hz0, hz1, hz2⟩ := infoParts infoRc
  have hn := hl.n
  obtain ⟨A, c, rfl, _, _, _, _⟩ := ownAny ho
  obtain ⟨w1, hw1⟩ : ∃ w1, w.alloc (.cells #[.int .i64 x.1, .string x.2] 58) = w1 := ⟨_, rfl⟩
  have hB1 : Below w.heap.size w w1 := hw1 ▸ (Below.refl _ w).alloc (Nat.le_refl _) _
  have k1 : Blk w1 w.heap.size 58 [.int .i64 x.1, .string x.2] := hw1 ▸ Blk.new w _ _
  have hb1 := hb.below hB1 hb.lt
  have hX := hb.lt
  have HO1 := Lib.hid (ownBelow ho hB1 (Nat.le_refl _))
  have hs1 := hB1.size
  have hS0 : Hid (∀ W, Below w1.heap.size w1 W → W.cell? ⟨X, 0, none⟩ = some (.slice A l.length c) ∧ W.cell? ⟨w.heap.size, 0, none⟩ = some (.int .i64 x.1) ∧ W.cell? ⟨w.heap.size, 1, none⟩ = some (.string x.2)) := Lib.hid fun W hB =>
    ⟨(hb1.below hB hb1.lt).cell 0, (k1.below hB k1.lt).cell 0, (k1.below hB k1.lt).cell 1⟩
  have HW := Lib.hid hw1
  have HB1 := Lib.hid hb1
  have HK1 := Lib.hid k1
  have hBd : Below w1.heap.size w1 w1.drew := (Below.refl _ _).drew
  clear hw1 k1 hb ho hb1
  go_enter Try.func43, Try.ntmps43
  go_wp2_with fail
  rw [HW.out]
  refine wp_region_noPanic ?_
  refine wp_region_last 9 (fun W => W.cell? ⟨X, 0, none⟩ = some (.slice A l.length c) ∧ W.cell? ⟨w.heap.size, 0, none⟩ = some (.int .i64 x.1) ∧ W.cell? ⟨w.heap.size, 1, none⟩ = some (.string x.2)) (by kernel_rfl) (hS0.out _ hBd) (fun hHeld => ?_)
  refine wpAnyL_take 12 (i := 0) (oi := ⟨some 3, _, _, _, _, _⟩) (v := ?_) rfl (by kernel_rfl) (by kernel_rfl) (by kernel_rfl) (by kernel_rfl) (by kernel_rfl) (by kernel_rfl) (by kernel_rfl) (fun _ _ _ h => h) (Or.inl ⟨by rfl, ?_⟩) hHeld ?_
  rotate_left
  focus (intro w hSw; (try dsimp only at hSw); go_simp; try (with_reducible rfl))
  try simp only [Act.put, List.setIfInBounds_toArray, List.set_cons_zero, List.set_cons_succ]
  refine wpAnyL_take 12 (i := 1) (oi := ⟨some 4, _, _, _, _, _⟩) (v := ?_) rfl (by kernel_rfl) (by kernel_rfl) (by kernel_rfl) (by kernel_rfl) (by kernel_rfl) (by kernel_rfl) (by kernel_rfl) (fun _ _ _ h => h) (Or.inl ⟨by rfl, ?_⟩) hHeld ?_
  rotate_left
  focus (intro w hSw; (try dsimp only at hSw); go_simp; try (with_reducible rfl))
  try simp only [Act.put, List.setIfInBounds_toArray, List.set_cons_zero, List.set_cons_succ]
  refine wpAnyL_take 12 (i := 2) (oi := ⟨some 5, _, _, _, _, _⟩) (v := ?_) rfl (by kernel_rfl) (by kernel_rfl) (by kernel_rfl) (by kernel_rfl) (by kernel_rfl) (by kernel_rfl) (by kernel_rfl) (fun _ _ _ h => h) (Or.inl ⟨by rfl, ?_⟩) hHeld ?_
  rotate_left
  focus (intro w hSw; (try dsimp only at hSw); go_simp; try (with_reducible rfl))
  try simp only [Act.put, List.setIfInBounds_toArray, List.set_cons_zero, List.set_cons_succ]
  refine wpAnyL_take 12 (i := 3) (oi := ⟨some 6, _, _, _, _, _⟩) (v := ?_) rfl (by kernel_rfl) (by kernel_rfl) (by kernel_rfl) (by kernel_rfl) (by kernel_rfl) (by kernel_rfl) (by kernel_rfl) (fun _ _ _ h => h) (Or.inl ⟨by rfl, ?_⟩) hHeld ?_
  rotate_left
  focus (intro w hSw; (try dsimp only at hSw); go_simp; try (with_reducible rfl))
  try simp only [Act.put, List.setIfInBounds_toArray, List.set_cons_zero, List.set_cons_succ]
  refine wpAnyL_take 12 (i := 4) (oi := ⟨some 7, _, _, _, _, _⟩) (v := ?_) rfl (by kernel_rfl) (by kernel_rfl) (by kernel_rfl) (by kernel_rfl) (by kernel_rfl) (by kernel_rfl) (by kernel_rfl) (fun _ _ _ h => h) (Or.inl ⟨by rfl, ?_⟩) hHeld ?_
  rotate_left
  focus (intro w hSw; (try dsimp only at hSw); go_simp; try (with_reducible rfl))
  try simp only [Act.put, List.setIfInBounds_toArray, List.set_cons_zero, List.set_cons_succ]
  refine wpAnyL_one (i := 5) (o := ⟨some 8, _, _, _, _, _⟩) (by kernel_rfl) rfl (fun K hK => ?_)
  clear hHeld
  go_simp
  refine (cloneT_any x.2 (by omega) _).mono ?_
  rintro e w3 ⟨rfl, hB3⟩
  have hB3 : Below w1.heap.size w1 w3 := hBd.trans (hB3.mono hBd.size)
  have hs3 := hB3.size
  go_wp2_with fail
  refine hK.out _ _ (hS0.out _ hB3) (fun hHeld => ?_)
  clear hK K
  try simp only [Act.put, List.setIfInBounds_toArray, List.set_cons_zero, List.set_cons_succ]
  refine wpAnyL_take 12 (i := 6) (oi := ⟨some 9, _, _, _, _, _⟩) (v := ?_) rfl (by kernel_rfl) (by kernel_rfl) (by kernel_rfl) (by kernel_rfl) (by kernel_rfl) (by kernel_rfl) (by kernel_rfl) (fun _ _ _ h => h) (Or.inl ⟨by rfl, ?_⟩) hHeld ?_
  rotate_left
  focus (intro w hSw; (try dsimp only at hSw); go_simp; try (with_reducible rfl))
  try simp only [Act.put, List.setIfInBounds_toArray, List.set_cons_zero, List.set_cons_succ]
  refine wpAnyL_one (i := 7) (o := ⟨some 10, _, _, _, _, _⟩) (by kernel_rfl) rfl (fun K hK => ?_)
  clear hHeld
  go_simp
  have hB4 : Below w1.heap.size w1 (w3.alloc (.cells (rcC ⟨2, x.1, 0, x.2⟩).toArray 54)) := hB3.alloc hB3.size _
  go_wp2_with fail
  refine hK.out _ _ (hS0.out _ hB4) (fun hHeld => ?_)
  clear hK K
  try simp only [Act.put, List.setIfInBounds_toArray, List.set_cons_zero, List.set_cons_succ]
  refine wpAnyL_one (i := 8) (o := ⟨some 11, _, _, _, _, _⟩) (by kernel_rfl) rfl (fun K hK => ?_)
  clear hHeld
  refine step_append_lies (o := ⟨some 11, _, _, _, _, _⟩) _ (by rfl) _ _ 44 (by rfl) base 54 i0 zeroRc 12 128 Try.underlying44 hi hz0 hz1 hz2 rfl (by omega) (.slice A l.length c) l.length (rcs l) (by rfl) (ownBelow HO1.out hB4 (Nat.le_refl _)) ⟨w3.heap.size, 0, none⟩ 1 1 (rcC ⟨2, x.1, 0, x.2⟩) (by rfl) rfl (newsNew _ _ _) (by simp [Value.oneCell']) (by omega) (by unfold maxLen; omega) (by omega) (by simp; omega) _ rfl ?_
  intro g6 c6 x6 ho6 hg6 _ _
  have hb6 : Blk x6 X 44 [.slice A l.length c] := (hg6.block X (by simp; omega) (fun e => blk_apart HB1.out HO1.out (by decide) e.symm)).trans (HB1.out.below hB4 HB1.out.lt)
  have HO6 := Lib.hid ho6
  have HB6 := Lib.hid hb6
  have hB6 : Below base w x6 := ((hB1.mono (by omega)).trans (hB4.mono (by omega))).grown hg6 (by simp; omega) (fun j e => (HO1.out.lt j e).1)
  have q0 := hb6.frozen 0
  have q1 := hb6.cell 0
  simp only [List.getElem?_cons_zero] at q1
  have hk6 : Blk x6 w.heap.size 58 [.int .i64 x.1, .string x.2] := (hg6.block w.heap.size (by have := HK1.out.lt; simp; omega) (fun e => blk_apart HK1.out HO1.out (by decide) e.symm)).trans (HK1.out.below hB4 HK1.out.lt)
  have q2 := hk6.cell 0
  have q3 := hk6.cell 1
  simp only [List.getElem?_cons_zero, List.getElem?_cons_succ] at q2 q3
  clear ho6 hg6 hb6 hk6
  refine hK.out _ _ ⟨q1, q2, q3⟩ (fun hHeld => ?_)
  clear hK K
  try simp only [Act.put, List.setIfInBounds_toArray, List.set_cons_zero, List.set_cons_succ]
  refine wpAnyL_last (i := 9) (o := ⟨none, _, _, _, _, _⟩) (by kernel_rfl) rfl (by kernel_rfl) (fun K hK => ?_)
  clear hHeld
  go_simp
  go_wp2_with fail
  refine hK.out _ _ ?_
  clear hK K
  try simp only [Act.put, List.setIfInBounds_toArray, List.set_cons_zero, List.set_cons_succ]
  refine wpAnyL_done (by kernel_rfl) ?_ _
  refine NoPanic.normal ?_
  go_wp2
  go_end0
  refine ⟨rfl, ⟨⟨_, HB6.out.set 0 _, ?_⟩, hbX⟩, hB6.setCell (p := ⟨X, 0, none⟩) hbX _⟩
  unfold ownRc
  rw [rcs_snoc, List.length_append]
  refine ownStay HO6.out fun b hb => heap_setCell_other _ _ b _ (fun e => ?_)
  have e' : b = X := e
  subst e'
  exact blk_apart HB6.out HO6.out (by decide) hb

end Go.Proofs.Ytkebgfpghjgghaa
