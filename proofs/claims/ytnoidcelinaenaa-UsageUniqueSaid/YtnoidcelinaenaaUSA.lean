/-
  usage: order: which of two blocks stands ahead; the world behind it is the one ahead of it, with draws and blocks of its own. No conditions.
-/
import Derived.Test.YtnoidcelinaenaaUSM
import Derived.Test.YtnoidcelinaenaaRR
import Derived.Test.YtnoidcelinaenaaShelf
import Derived.Laws.Cover1
import Derived.Laws.StructEq
import Derived.Deep.QuietTactic
import Derived.BigQuiet
import Derived.Deep.DeepCutAuto
import Derived.Sort.Grow
namespace Go.Proofs.Ytnoidcelinaenaa
open Go.ChangeShapes Go.WideShapes Go.ChangeAt Go.RowKit
set_option maxRecDepth 100000

theorem cmpOr_any (R x y : Int) (hR : (if x = 0 then y else x) = R) (b : Nat) (w : World) (_hb : b < w.heap.size) (h0 : w.cell? ⟨b, 0, none⟩ = some (.int .i64 x)) (h1 : w.cell? ⟨b, 1, none⟩ = some (.int .i64 y)) :
    Calls Try.prog 33 #[.slice (some ⟨b, 0, none⟩) 2 2] w fun e w' => e = .returned (.int .i64 R) ∧ w = w' := by
  have HRO := Lib.hid hR
  clear hR
  go_enter Try.func33, Try.ntmps33
  go_wp2
  go_loopw [5, 8] (fun _ i W => ∃ k : Nat, k ≤ 2 ∧ i = .int .i64 k ∧ (1 ≤ k → x = 0) ∧ (2 ≤ k → y = 0) ∧ w = W) (fun _ i _ => 2 - (intOf i).toNat)
  case atStart => exact ⟨0, by omega, rfl, by omega, by omega, rfl⟩
  case round =>
    obtain ⟨k, hk, rfl, p0, p1, rfl⟩ := hrel
    rcases (show k = 0 ∨ k = 1 ∨ k = 2 by omega) with rfl | rfl | rfl
    · clear p0 p1
      by_cases hx : x = 0
      · have hq : (x == 0) = true := beq_iff_eq.2 hx
        have HX := Lib.hid hx
        clear hx
        go_wp2
        go_roundw
        case rel => exact ⟨1, by omega, by go_num, fun _ => HX.out, by omega, by trivial⟩
        case measure => simp [intOf]
      · have hq : (x == 0) = false := beq_eq_false_iff_ne.2 hx
        have HR : Hid (R = x) := Lib.hid (by rw [← HRO.out, if_neg hx])
        clear hx
        go_wp2
        go_ret
        rw [HR.out]
        exact ⟨rfl, rfl⟩
    · have HX := Lib.hid (p0 (by omega))
      clear p0 p1
      by_cases hx : y = 0
      · have hq : (y == 0) = true := beq_iff_eq.2 hx
        have HY := Lib.hid hx
        clear hx
        go_wp2
        go_roundw
        case rel => exact ⟨2, by omega, by go_num, fun _ => HX.out, fun _ => HY.out, by trivial⟩
        case measure => simp [intOf]
      · have hq : (y == 0) = false := beq_eq_false_iff_ne.2 hx
        have HR : Hid (R = y) := Lib.hid (by rw [← HRO.out, if_pos HX.out])
        clear hx
        go_wp2
        go_ret
        rw [HR.out]
        exact ⟨rfl, rfl⟩
    · have HR : Hid (R = 0) := Lib.hid (by rw [← HRO.out, if_pos (p0 (by omega)), p1 (by omega)])
      clear p0 p1
      go_wp2
      go_ret
      rw [HR.out]
      exact ⟨rfl, rfl⟩

set_option maxHeartbeats 1000000 in
theorem order_any (x y : Bk) (w : World) :
    Calls Try.prog 28 #[bkV x, bkV y] w fun e w' => e = .returned (.int .i64 (cmpB x y)) ∧ ∃ q os, w' = Go.Sort.grow (w.drewN q) os := by
  obtain ⟨x1, x2⟩ := x
  obtain ⟨y1, y2⟩ := y
  obtain ⟨R, hR⟩ : ∃ R, cmpB (x1, x2) (y1, y2) = R := ⟨_, rfl⟩
  obtain ⟨C1, hC1⟩ : ∃ C, Lib.compareInt x1 y1 = C := ⟨_, rfl⟩
  obtain ⟨C2, hC2⟩ : ∃ C, Lib.compareBytes x2.data.toList y2.data.toList = C := ⟨_, rfl⟩
  have HRO : Hid (R = if C1 = 0 then C2 else C1) := Lib.hid (by rw [← hR, ← hC1, ← hC2]; rfl)
  rw [hR]
  clear hR
  dsimp only [bkV]
  have HC1 := Lib.hid (Try.cmp_Compare_int x1 y1)
  have HC2 := Lib.hid (Try.strings_Compare x2 y2)
  rw [hC1] at HC1
  rw [hC2] at HC2
  clear hC1 hC2
  obtain ⟨u1, hw1⟩ : ∃ u1, w.alloc (.cells #[.int .i64 x1, .string x2] 65) = u1 := ⟨_, rfl⟩
  have k1 : Blk u1 w.heap.size 65 [.int .i64 x1, .string x2] := hw1 ▸ Blk.new w _ _
  have hlt1 : w.heap.size < u1.heap.size := k1.lt
  obtain ⟨u2, hw2⟩ : ∃ u2, u1.alloc (.cells #[.int .i64 y1, .string y2] 65) = u2 := ⟨_, rfl⟩
  have k2 : Blk u2 u1.heap.size 65 [.int .i64 y1, .string y2] := hw2 ▸ Blk.new u1 _ _
  have hB2 : Below u1.heap.size u1 u2 := hw2 ▸ (Below.refl _ u1).alloc (Nat.le_refl _) _
  have k12 := k1.below hB2 hlt1
  have a0 := k12.cell 0
  have a1 := k12.cell 1
  have b0 := k2.cell 0
  have b1 := k2.cell 1
  simp only [List.getElem?_cons_zero, List.getElem?_cons_succ] at a0 a1 b0 b1
  have HW1 := Lib.hid hw1
  have HW2 := Lib.hid hw2
  clear k1 k2 k12 hB2 hw1 hw2
  go_enter Try.func28, Try.ntmps28
  go_upto_region 1 with fail
  have hX : w.heap.size + 1 = u1.heap.size := by rw [← HW1.out, World.size_alloc]
  rw [HW1.out, HW2.out, hX]
  refine wp_region_noPanic ?_
  refine wp_region_last 10 (fun W' => W'.cell? ⟨w.heap.size, 0, none⟩ = some (.int .i64 x1) ∧ W'.cell? ⟨w.heap.size, 1, none⟩ = some (.string x2) ∧ W'.cell? ⟨u1.heap.size, 0, none⟩ = some (.int .i64 y1) ∧ W'.cell? ⟨u1.heap.size, 1, none⟩ = some (.string y2)) (by kernel_rfl) ⟨a0, a1, b0, b1⟩ (fun hHeld => ?_)
  refine wpAnyL_take 16 (i := 0) (oi := ⟨some 5, _, _, _, _, _⟩) (v := ?_) rfl (by kernel_rfl) (by kernel_rfl) (by kernel_rfl) (by kernel_rfl) (by kernel_rfl) (by kernel_rfl) (by kernel_rfl) (fun _ _ _ h => h) (Or.inl ⟨by rfl, ?_⟩) hHeld ?_
  rotate_left
  focus (intro w hSw; (try dsimp only at hSw); go_simp; try (with_reducible rfl))
  try simp only [Act.put, List.setIfInBounds_toArray, List.set_cons_zero, List.set_cons_succ]
  refine wpAnyL_take 16 (i := 1) (oi := ⟨some 6, _, _, _, _, _⟩) (v := ?_) rfl (by kernel_rfl) (by kernel_rfl) (by kernel_rfl) (by kernel_rfl) (by kernel_rfl) (by kernel_rfl) (by kernel_rfl) (fun _ _ _ h => h) (Or.inl ⟨by rfl, ?_⟩) hHeld ?_
  rotate_left
  focus (intro w hSw; (try dsimp only at hSw); go_simp; try (with_reducible rfl))
  try simp only [Act.put, List.setIfInBounds_toArray, List.set_cons_zero, List.set_cons_succ]
  refine wpAnyL_take 16 (i := 2) (oi := ⟨some 7, _, _, _, _, _⟩) (v := ?_) rfl (by kernel_rfl) (by kernel_rfl) (by kernel_rfl) (by kernel_rfl) (by kernel_rfl) (by kernel_rfl) (by kernel_rfl) (fun _ _ _ h => h) (Or.inl ⟨by rfl, ?_⟩) hHeld ?_
  rotate_left
  focus (intro w hSw; (try dsimp only at hSw); go_simp; try (with_reducible rfl))
  try simp only [Act.put, List.setIfInBounds_toArray, List.set_cons_zero, List.set_cons_succ]
  refine wpAnyL_take 16 (i := 3) (oi := ⟨some 8, _, _, _, _, _⟩) (v := ?_) rfl (by kernel_rfl) (by kernel_rfl) (by kernel_rfl) (by kernel_rfl) (by kernel_rfl) (by kernel_rfl) (by kernel_rfl) (fun _ _ _ h => h) (Or.inl ⟨by rfl, ?_⟩) hHeld ?_
  rotate_left
  focus (intro w hSw; (try dsimp only at hSw); go_simp; try (with_reducible rfl))
  try simp only [Act.put, List.setIfInBounds_toArray, List.set_cons_zero, List.set_cons_succ]
  refine wpAnyL_take 16 (i := 5) (oi := ⟨some 10, _, _, _, _, _⟩) (v := ?_) rfl (by kernel_rfl) (by kernel_rfl) (by kernel_rfl) (by kernel_rfl) (by kernel_rfl) (by kernel_rfl) (by kernel_rfl) (fun _ _ _ h => h) (Or.inl ⟨by rfl, ?_⟩) hHeld ?_
  rotate_left
  focus (intro w hSw; (try dsimp only at hSw); go_simp; try (with_reducible rfl))
  try simp only [Act.put, List.setIfInBounds_toArray, List.set_cons_zero, List.set_cons_succ]
  refine wpAnyL_take 16 (i := 6) (oi := ⟨some 11, _, _, _, _, _⟩) (v := ?_) rfl (by kernel_rfl) (by kernel_rfl) (by kernel_rfl) (by kernel_rfl) (by kernel_rfl) (by kernel_rfl) (by kernel_rfl) (fun _ _ _ h => h) (Or.inl ⟨by rfl, ?_⟩) hHeld ?_
  rotate_left
  focus (intro w hSw; (try dsimp only at hSw); go_simp; try (with_reducible rfl))
  try simp only [Act.put, List.setIfInBounds_toArray, List.set_cons_zero, List.set_cons_succ]
  refine wpAnyL_take 16 (i := 7) (oi := ⟨some 12, _, _, _, _, _⟩) (v := ?_) rfl (by kernel_rfl) (by kernel_rfl) (by kernel_rfl) (by kernel_rfl) (by kernel_rfl) (by kernel_rfl) (by kernel_rfl) (fun _ _ _ h => h) (Or.inl ⟨by rfl, ?_⟩) hHeld ?_
  rotate_left
  focus (intro w hSw; (try dsimp only at hSw); go_simp; try (with_reducible rfl))
  try simp only [Act.put, List.setIfInBounds_toArray, List.set_cons_zero, List.set_cons_succ]
  refine wpAnyL_take 16 (i := 8) (oi := ⟨some 13, _, _, _, _, _⟩) (v := ?_) rfl (by kernel_rfl) (by kernel_rfl) (by kernel_rfl) (by kernel_rfl) (by kernel_rfl) (by kernel_rfl) (by kernel_rfl) (fun _ _ _ h => h) (Or.inl ⟨by rfl, ?_⟩) hHeld ?_
  rotate_left
  focus (intro w hSw; (try dsimp only at hSw); go_simp; try (with_reducible rfl))
  try simp only [Act.put, List.setIfInBounds_toArray, List.set_cons_zero, List.set_cons_succ]
  clear hHeld
  refine wpAnyL_factsR 16 2 3 [(4, 9), (9, 14)] (fun s v w => match s with
    | 9 => v = .int .i64 C1
    | 14 => v = .int .i64 C2
    | _ => True) (fun w w' => w' = w) (fun W => W = World.drew u2) (by kernel_rfl) (by kernel_rfl) rfl (fun w w' h h' => h'.trans h) ⟨?_, ?_, trivial⟩ (fun w' hB => by subst hB; exact ⟨a0, a1, b0, b1⟩) ⟨?_, ?_, trivial⟩ ?_
  focus
    intro v w w' h hB
    exact h
  focus
    intro v w w' h hB
    exact h
  focus
    intro vs w2 hBf hFf o ho K hK
    obtain rfl : (⟨some 9, _, _, _, _, _⟩ : Oper) = o := Option.some.inj ho
    clear ho
    (try simp only [fillL, List.foldl_cons, List.foldl_nil, Act.put, List.setIfInBounds_toArray, List.set_cons_zero, List.set_cons_succ] at hK ⊢)
    subst hBf
    go_simp
    refine (HC1.out _).mono ?_
    rintro e w3 ⟨rfl, rfl⟩
    refine hK.out _ _ ⟨rfl, rfl⟩
  focus
    intro vs w2 hBf hFf o ho K hK
    obtain rfl : (⟨some 14, _, _, _, _, _⟩ : Oper) = o := Option.some.inj ho
    clear ho
    (try simp only [fillL, List.foldl_cons, List.foldl_nil, Act.put, List.setIfInBounds_toArray, List.set_cons_zero, List.set_cons_succ] at hK ⊢)
    subst hBf
    go_simp
    refine (HC2.out _).mono ?_
    rintro e w3 ⟨rfl, rfl⟩
    refine hK.out _ _ ⟨rfl, rfl⟩
  intro vs w2 hBf hFf
  (try simp only [fillL, List.foldl_cons, List.foldl_nil, Act.put, List.setIfInBounds_toArray, List.set_cons_zero, List.set_cons_succ])
  have e1 : vs 9 = .int .i64 C1 := (hFf (4, 9) (by simp))
  have e2 : vs 14 = .int .i64 C2 := (hFf (9, 14) (by simp))
  subst hBf
  simp only [e1, e2]
  refine wpAnyL_last (i := 10) (o := ⟨some 15, _, _, _, _, _⟩) (by kernel_rfl) rfl (by kernel_rfl) (fun K hK => ?_)
  go_simp
  refine hK.out _ _ ?_
  clear hK K
  try simp only [Act.put, List.setIfInBounds_toArray, List.set_cons_zero, List.set_cons_succ]
  refine wpAnyL_last (i := 11) (o := ⟨some 16, _, _, _, _, _⟩) (by kernel_rfl) rfl (by kernel_rfl) (fun K hK => ?_)
  go_simp
  refine (cmpOr_any R C1 C2 HRO.out.symm u2.heap.size (u2.drew.alloc (.cells #[.int .i64 C1, .int .i64 C2] 3)) (by simp) ((Blk.new u2.drew [.int .i64 C1, .int .i64 C2] 3).cell 0) ((Blk.new u2.drew [.int .i64 C1, .int .i64 C2] 3).cell 1)).mono ?_
  rintro e w3 ⟨rfl, rfl⟩
  go_wp2_with fail
  refine hK.out _ _ ?_
  clear hK K
  try simp only [Act.put, List.setIfInBounds_toArray, List.set_cons_zero, List.set_cons_succ]
  refine wpAnyL_last (i := 12) (o := ⟨some 4, _, _, _, _, _⟩) (by kernel_rfl) rfl (by kernel_rfl) (fun K hK => ?_)
  go_simp
  refine hK.out _ _ ?_
  clear hK K
  try simp only [Act.put, List.setIfInBounds_toArray, List.set_cons_zero, List.set_cons_succ]
  refine wpAnyL_done (by kernel_rfl) ?_ _
  refine NoPanic.normal ?_
  go_wp2
  go_ret
  refine ⟨rfl, 1, #[.cells #[.int .i64 x1, .string x2] 65, .cells #[.int .i64 y1, .string y2] 65, .cells #[.int .i64 C1, .int .i64 C2] 3], ?_⟩
  rw [← HW2.out, ← HW1.out]
  simp only [Go.Sort.alloc_eq_grow, Go.Sort.grow_grow, Go.Sort.drew_grow]
  rfl

end Go.Proofs.Ytnoidcelinaenaa
