/-
  sort.Search, whatever it is handed; usage: has: whether a sorted list holds a block. Conditions: the list is as it comes in.
-/
import Derived.Test.YtnoidcelinaenaaUSA
import Derived.Test.YtnoidcelinaenaaRSM
import Derived.LoopTactic
import Derived.BigQuiet
namespace Go.Proofs.Ytnoidcelinaenaa
open Go.ChangeShapes Go.WideShapes Go.ChangeAt Go.RowKit
set_option maxRecDepth 100000

theorem order_below (x y : Bk) (w : World) :
    Calls Try.prog 28 #[bkV x, bkV y] w fun e w' => e = .returned (.int .i64 (cmpB x y)) ∧ Below w.heap.size w w' :=
  (order_any x y w).mono fun e w' ⟨he, q, os, hw⟩ => ⟨he, by
    subst hw
    exact ⟨rfl, rfl, rfl, by simp [Go.Sort.grow, World.drewN], fun k hk => Go.Sort.heap_grow_old (w.drewN q) os hk⟩⟩

set_option maxHeartbeats 2000000 in
theorem search_any (g : Nat) (lb : Array Value) (eg : Enters Try.prog g) (n : Nat) (hn : n ≤ 8796093022208) (p : Nat → Bool) (w : World)
    (hp : ∀ k, k < n → ∀ W, Below w.heap.size w W → Calls Try.prog g (#[.int .i64 k] ++ lb) W fun e W' => e = .returned (.bool (p k)) ∧ Below W.heap.size W W')
    (hm : ∀ j k, j ≤ k → k < n → p j = true → p k = true) :
    Calls Try.prog 36 #[.int .i64 n, .func (.func g) #[] lb] w fun e w' => ∃ i : Nat, e = .returned (.int .i64 i) ∧ i ≤ n ∧ (∀ k, k < i → p k = false) ∧ (∀ k, i ≤ k → k < n → p k = true) ∧ Below w.heap.size w w' := by
  have eg' : ∀ args w, (callFunc g args).run Try.prog w = .ok (.enter g args) w := eg
  have HP := Lib.hid hp
  have HM := Lib.hid hm
  clear hp hm
  go_enter Try.func36, Try.ntmps36
  go_wp2
  go_loopw [5, 6] (fun i j W => ∃ a b : Nat, a ≤ b ∧ b ≤ n ∧ i = .int .i64 a ∧ j = .int .i64 b ∧ Hid (∀ k, k < a → p k = false) ∧ Hid (∀ k, b ≤ k → k < n → p k = true) ∧ Below w.heap.size w W) (fun i j _ => (intOf j).toNat - (intOf i).toNat)
  case atStart => exact ⟨0, n, Nat.zero_le _, Nat.le_refl _, rfl, rfl, Lib.hid (by omega), Lib.hid (by omega), Below.refl _ _⟩
  case round =>
    obtain ⟨a, b, hab, hbn, rfl, rfl, HA, HB, hB⟩ := hrel
    by_cases hlt : a < b
    · obtain ⟨m, hm⟩ : ∃ m, (a + b) / 2 = m := ⟨_, rfl⟩
      have h1 : wrap64 ((a : Int) + b) = (a : Int) + b := IntWalk.wrap64_in _ (by omega)
      have HC := Lib.hid (HP.out m (by omega) wr hB)
      go_wp2_with fail
      rw [show ((a : Int) + b) / 2 = (m : Int) by omega]
      refine HC.out.mono ?_
      rintro e w1 ⟨rfl, hB1⟩
      have hB2 := hB.trans (hB1.mono hB.size)
      rcases hpm : p m with _ | _
      · have HA' : Hid (∀ k, k < m + 1 → p k = false) := Lib.hid fun k hk => by
          rcases hpk : p k with _ | _
          · rfl
          · have := HM.out k m (by omega) (by omega) hpk
            rw [hpm] at this
            cases this
        have h2 : wrap64 ((m : Int) + 1) = (m : Int) + 1 := IntWalk.wrap64_in _ (by omega)
        clear HC hpm hB1 HA
        go_wp2
        go_roundw
        case rel => exact ⟨m + 1, b, by omega, hbn, by go_num, rfl, HA', HB, hB2⟩
        case measure => simp [intOf]; omega
      · have HB' : Hid (∀ k, m ≤ k → k < n → p k = true) := Lib.hid fun k hk hkn => HM.out m k hk hkn hpm
        clear HC hpm hB1 HB
        go_wp2
        go_roundw
        case rel => exact ⟨a, m, by omega, by omega, rfl, rfl, HA, HB', hB2⟩
        case measure => simp [intOf]; omega
    · obtain rfl : a = b := by omega
      go_wp2
      go_ret
      exact ⟨a, rfl, hbn, HA.out, HB.out, hB⟩

set_option maxHeartbeats 1000000 in
theorem has1_any (B2 B3 : Nat) (A : Option Addr) (c : Nat) (l : List Bk) (b : Bk) (k : Nat) (x : Bk) (hx : l[k]? = some x) (w : World) (h2 : Blk w B2 28 [.slice A l.length c]) (h3 : Blk w B3 65 [.int .i64 b.1, .string b.2]) (hr : Rd w A (bks l)) :
    Calls Try.prog 37 #[.int .i64 k, .pointer (some ⟨B2, 0, none⟩), .pointer (some ⟨B3, 0, none⟩)] w fun e w' => e = .returned (.bool (decide (0 ≤ cmpB x b))) ∧ Below w.heap.size w w' := by
  obtain ⟨C, hC⟩ : ∃ C, cmpB x b = C := ⟨_, rfl⟩
  have HO := Lib.hid (order_below x b)
  rw [hC] at HO ⊢
  obtain ⟨g, off, rfl, hg, d0, d1⟩ := hr.bk hx
  have hk : k < l.length := (List.getElem?_eq_some_iff.1 hx).1
  have y0 := h2.cell 0
  have z0 := h3.cell 0
  have z1 := h3.cell 1
  simp only [List.getElem?_cons_zero, List.getElem?_cons_succ] at y0 z0 z1
  obtain ⟨x1, x2⟩ := x
  obtain ⟨b1, b2⟩ := b
  dsimp only [bkV] at HO d0 d1 z0 z1
  clear hx hC hr h2 h3
  go_enter Try.func37, Try.ntmps37
  go_upto_region 1 with fail
  refine wp_region_noPanic ?_
  refine wp_region_last 5 (fun W => W.cell? ⟨B2, 0, none⟩ = some (.slice (some ⟨g, off, none⟩) l.length c) ∧ W.cell? ⟨g, off + k * 2, none⟩ = some (.int .i64 x1) ∧ W.cell? ⟨g, off + k * 2 + 1, none⟩ = some (.string x2) ∧ W.cell? ⟨B3, 0, none⟩ = some (.int .i64 b1) ∧ W.cell? ⟨B3, 1, none⟩ = some (.string b2)) (by kernel_rfl) ⟨y0, d0, d1, z0, z1⟩ (fun hHeld => ?_)
  refine wpAnyL_take 12 (i := 0) (oi := ⟨some 5, _, _, _, _, _⟩) (v := ?_) rfl (by kernel_rfl) (by kernel_rfl) (by kernel_rfl) (by kernel_rfl) (by kernel_rfl) (by kernel_rfl) (by kernel_rfl) (fun _ _ _ h => h) (Or.inl ⟨by rfl, ?_⟩) hHeld ?_
  rotate_left
  focus (intro w hSw; (try dsimp only at hSw); go_simp; try (with_reducible rfl))
  try simp only [Act.put, List.setIfInBounds_toArray, List.set_cons_zero, List.set_cons_succ]
  refine wpAnyL_take 12 (i := 1) (oi := ⟨some 6, _, _, _, _, _⟩) (v := ?_) rfl (by kernel_rfl) (by kernel_rfl) (by kernel_rfl) (by kernel_rfl) (by kernel_rfl) (by kernel_rfl) (by kernel_rfl) (fun _ _ _ h => h) (Or.inl ⟨by rfl, ?_⟩) hHeld ?_
  rotate_left
  focus (intro w hSw; (try dsimp only at hSw); go_simp; try (with_reducible rfl))
  try simp only [Act.put, List.setIfInBounds_toArray, List.set_cons_zero, List.set_cons_succ]
  refine wpAnyL_take 12 (i := 2) (oi := ⟨some 7, _, _, _, _, _⟩) (v := ?_) rfl (by kernel_rfl) (by kernel_rfl) (by kernel_rfl) (by kernel_rfl) (by kernel_rfl) (by kernel_rfl) (by kernel_rfl) (fun _ _ _ h => h) (Or.inl ⟨by rfl, ?_⟩) hHeld ?_
  rotate_left
  focus (intro w hSw; (try dsimp only at hSw); go_simp; try (with_reducible rfl))
  try simp only [Act.put, List.setIfInBounds_toArray, List.set_cons_zero, List.set_cons_succ]
  refine wpAnyL_take 12 (i := 3) (oi := ⟨some 8, _, _, _, _, _⟩) (v := ?_) rfl (by kernel_rfl) (by kernel_rfl) (by kernel_rfl) (by kernel_rfl) (by kernel_rfl) (by kernel_rfl) (by kernel_rfl) (fun _ _ _ h => h) (Or.inl ⟨by rfl, ?_⟩) hHeld ?_
  rotate_left
  focus (intro w hSw; (try dsimp only at hSw); go_simp; try (with_reducible rfl))
  try simp only [Act.put, List.setIfInBounds_toArray, List.set_cons_zero, List.set_cons_succ]
  refine wpAnyL_take 12 (i := 4) (oi := ⟨some 9, _, _, _, _, _⟩) (v := ?_) rfl (by kernel_rfl) (by kernel_rfl) (by kernel_rfl) (by kernel_rfl) (by kernel_rfl) (by kernel_rfl) (by kernel_rfl) (fun _ _ _ h => h) (Or.inl ⟨by rfl, ?_⟩) hHeld ?_
  rotate_left
  focus (intro w hSw; (try dsimp only at hSw); go_simp; try (with_reducible rfl))
  try simp only [Act.put, List.setIfInBounds_toArray, List.set_cons_zero, List.set_cons_succ]
  refine wpAnyL_last (i := 5) (o := ⟨some 10, _, _, _, _, _⟩) (by kernel_rfl) rfl (by kernel_rfl) (fun K hK => ?_)
  clear hHeld
  go_simp
  refine (HO.out _).mono ?_
  rintro e w5 ⟨rfl, hB5⟩
  have hBw5 : Below w.heap.size w w5 := (Below.refl w.heap.size w).drew.trans hB5
  go_wp2_with fail
  refine hK.out _ _ ?_
  clear hK K
  try simp only [Act.put, List.setIfInBounds_toArray, List.set_cons_zero, List.set_cons_succ]
  refine wpAnyL_takeW (i := 6) (oi := ⟨some 11, _, _, _, _, _⟩) (v := ?_) rfl (by kernel_rfl) (by kernel_rfl) (by kernel_rfl) (by kernel_rfl) (fun _ _ _ h => h) (Or.inl ⟨by rfl, ?_⟩) (.inl (by kernel_rfl)) ?_
  rotate_left
  focus (intro w hSw; (try dsimp only at hSw); go_simp; try (with_reducible rfl))
  try simp only [Act.put, List.setIfInBounds_toArray, List.set_cons_zero, List.set_cons_succ]
  refine wpAnyL_takeW (i := 7) (oi := ⟨some 4, _, _, _, _, _⟩) (v := ?_) rfl (by kernel_rfl) (by kernel_rfl) (by kernel_rfl) (by kernel_rfl) (fun _ _ _ h => h) (Or.inl ⟨by rfl, ?_⟩) (.inl (by kernel_rfl)) ?_
  rotate_left
  focus (intro w hSw; (try dsimp only at hSw); go_simp; try (with_reducible rfl))
  try simp only [Act.put, List.setIfInBounds_toArray, List.set_cons_zero, List.set_cons_succ]
  refine wpAnyL_done (by kernel_rfl) ?_ _
  refine NoPanic.normal ?_
  go_wp2
  go_ret
  exact ⟨rfl, hBw5⟩

set_option maxHeartbeats 2000000 in
theorem has_any (A : Option Addr) (c : Nat) (l : List Bk) (hl : l.length ≤ 8796093022208) (hs : SrtB l) (b : Bk) (w : World) (hr : Rd w A (bks l)) :
    Calls Try.prog 29 #[.slice A l.length c, bkV b] w fun e w' => e = .returned (.bool (memB l b)) ∧ Below w.heap.size w w' := by
  obtain ⟨R, hR⟩ : ∃ R, memB l b = R := ⟨_, rfl⟩
  rw [hR]
  obtain ⟨u1, hw1⟩ : ∃ u1, w.alloc (.cells #[.slice A l.length c] 28) = u1 := ⟨_, rfl⟩
  have k1 : Blk u1 w.heap.size 28 [.slice A l.length c] := hw1 ▸ Blk.new w _ _
  have hB1 : Below w.heap.size w u1 := hw1 ▸ (Below.refl _ w).alloc (Nat.le_refl _) _
  have hs1 : u1.heap.size = w.heap.size + 1 := by rw [← hw1, World.size_alloc]
  obtain ⟨u2, hw2⟩ : ∃ u2, u1.alloc (.cells #[.int .i64 b.1, .string b.2] 65) = u2 := ⟨_, rfl⟩
  have k2 : Blk u2 u1.heap.size 65 [.int .i64 b.1, .string b.2] := hw2 ▸ Blk.new u1 _ _
  rw [hs1] at k2
  have hB2 : Below u1.heap.size u1 u2 := hw2 ▸ (Below.refl _ u1).alloc (Nat.le_refl _) _
  have hB02 : Below w.heap.size w u2 := hB1.trans (hB2.mono hB1.size)
  have k12 := k1.below hB2 k1.lt
  have HS := Lib.hid (search_any 37 #[.pointer (some ⟨w.heap.size, 0, none⟩), .pointer (some ⟨w.heap.size + 1, 0, none⟩)] (enters_of Try.func37 (by kernel_rfl) rfl) l.length hl (fun k => match l[k]? with | some x => decide (0 ≤ cmpB x b) | none => false) u2
    (fun k hk W hW => by
      have hx : l[k]? = some l[k] := List.getElem?_eq_getElem hk
      have := has1_any w.heap.size (w.heap.size + 1) A c l b k _ hx W (k12.below hW k12.lt) (k2.below hW k2.lt) ((hr.below hB02).below hW)
      simp only [hx]
      exact this)
    (fun j k hjk hk h => by
      have hx : l[j]? = some (l[j]'(by omega)) := List.getElem?_eq_getElem (by omega)
      have hy : l[k]? = some l[k] := List.getElem?_eq_getElem hk
      simp only [hx] at h
      simp only [hy]
      rw [decide_eq_true_eq] at h ⊢
      exact srt_mono hs b hjk hx hy h))
  have HR := Lib.hid (hr.below hB02)
  have HW1 := Lib.hid hw1
  have HW2 := Lib.hid hw2
  have HK1 := Lib.hid k12
  have HK2 := Lib.hid k2
  have HB := Lib.hid hB02
  have HSR := Lib.hid hs
  have HRR := Lib.hid hR
  have hlt2 := k2.lt
  obtain ⟨b1, b2⟩ := b
  dsimp only at HW2 HK2
  dsimp only [bkV]
  clear hr hw1 hw2 k1 k2 k12 hB1 hB2 hB02 hs hR
  go_enter Try.func29, Try.ntmps29
  go_wp2_with fail
  rw [HW1.out, HW2.out]
  refine HS.out.mono ?_
  rintro e w3 ⟨i, rfl, hi, hlo, hhi, hB3⟩
  have HM : Hid (l[i]? = some (b1, b2) ↔ (b1, b2) ∈ l) := Lib.hid (srt_mem HSR.out (fun k x hk hx => by
      have := hlo k hk
      simp only [hx] at this
      rw [decide_eq_false_iff_not] at this
      omega) (fun k x hk hx => by
      have := hhi k hk (List.getElem?_eq_some_iff.1 hx).1
      simp only [hx] at this
      rwa [decide_eq_true_eq] at this))
  have HR3 := Lib.hid (HR.out.below hB3)
  have hBw : Below w.heap.size w w3 := HB.out.trans (hB3.mono HB.out.size)
  have k1 := HK1.out.below hB3 HK1.out.lt
  have k2 := HK2.out.below hB3 hlt2
  have y0 := k1.cell 0
  have z0 := k2.cell 0
  have z1 := k2.cell 1
  simp only [List.getElem?_cons_zero, List.getElem?_cons_succ] at y0 z0 z1
  clear hlo hhi HS HSR HR HK1 HK2 k1 k2 HW1 HW2
  by_cases hlt : i < l.length
  · obtain ⟨x, hx⟩ : ∃ x, l[i]? = some x := ⟨_, List.getElem?_eq_getElem hlt⟩
    obtain ⟨g, off, rfl, hg, d0, d1⟩ := HR3.out.bk hx
    by_cases he : x = (b1, b2)
    · have HT : Hid (R = true) := Lib.hid (by
        rw [← HRR.out, memB_iff, ← HM.out, hx, he])
      subst he
      clear hx HM HRR
      go_wp2_with fail
      go_big_quiet (fail)
      go_wp2
      go_ret
      rw [HT.out]
      exact ⟨rfl, hBw.trans (belowDrewN _ _ _)⟩
    · have HT : Hid (R = false) := Lib.hid (by
        rw [← HRR.out, ← Bool.not_eq_true, memB_iff, ← HM.out, hx]
        exact fun e => he (Option.some.inj e))
      obtain ⟨x1, x2⟩ := x
      dsimp only at d0 d1
      rcases bk_ne he with h | ⟨rfl, h⟩
      · clear hx HM HRR he
        go_wp2_with fail
        go_big_quiet (fail)
        go_wp2
        go_ret
        rw [HT.out]
        exact ⟨rfl, hBw.trans (belowDrewN _ _ _)⟩
      · clear hx HM HRR he
        go_wp2_with fail
        go_big_quiet (fail)
        go_wp2
        go_ret
        rw [HT.out]
        exact ⟨rfl, hBw.trans (belowDrewN _ _ _)⟩
  · have HT : Hid (R = false) := Lib.hid (by
      rw [← HRR.out, ← Bool.not_eq_true, memB_iff, ← HM.out, List.getElem?_eq_none (by omega)]
      exact fun e => by cases e)
    clear HM HRR
    go_wp2_with fail
    go_big_quiet (fail)
    go_wp2
    go_ret
    rw [HT.out]
    exact ⟨rfl, hBw.trans (belowDrewN _ _ _)⟩

end Go.Proofs.Ytnoidcelinaenaa
