/-
  Repeat of a zero. Conditions: at most 2^20 times.
-/
import Derived.Test.YtfeeejigedndcaaGreatMQP
import Derived.Test.YtfeeejigedndcaaGreatShelf
import Derived.Laws.CopyOwn
namespace Go.Proofs.YtfeeejigedndcaaGreat
open Go.ChangeShapes Go.WideShapes Go.ChangeAt Go.RowKit
set_option maxRecDepth 100000

def zsI (n : Nat) : List Value := List.replicate n (.int .i64 0)
theorem zsI_len (n : Nat) : (zsI n).length = n := by simp [zsI]
theorem zsI_ints (n : Nat) : zsI n = ints (List.replicate n 0) := by simp [zsI, ints]
theorem makeZI (k : Nat) (hk' : k ≤ 1048576) (W : World) : (Instr.makeSlice 30 (.int .i64 k) (.int .i64 k)).run Tryz.prog W = .ok (.slice (some ⟨W.heap.size, 0, none⟩) k k) (W.alloc (.cells (zsI k).toArray 3)) := by
  obtain ⟨i0, hi, hz0, hz1, hz2⟩ := info_parts qinfo3
  have := run_makeSlice (P := Tryz.prog) (w := W) 30 3 i0 (.int .i64 0) Tryz.underlying30 hi hz0 .i64 .i64 k k (by omega) (by omega) (by rw [hz1]; omega) (by rw [hz2]; omega) (by omega)
  rw [hz1] at this
  have e : madeCells (Value.int .i64 0).cells k = (zsI k).toArray := Array.ext' (by simp [Value.cells, toList_madeCells_one, zsI])
  rw [← e]
  simpa using this
theorem splice_zs (n off m : Nat) (h : off + m ≤ n) : splice (zsI n) off (zsI m) = zsI n := by
  unfold splice zsI
  rw [List.take_replicate, List.drop_replicate, List.length_replicate, List.replicate_append_replicate, List.replicate_append_replicate]
  congr 1
  omega

set_option maxHeartbeats 1000000 in
theorem repeat_any (b off c n : Nat) (hn : n ≤ 1048576) (w : World) (hc : w.cell? ⟨b, off, none⟩ = some (.int .i64 0)) :
    Calls Tryz.prog 80 #[.slice (some ⟨b, off, none⟩) 1 c, .int .i64 n] w fun e w' => e = .returned (.slice (some ⟨w.heap.size, 0, none⟩) n n) ∧ Blk w' w.heap.size 3 (zsI n) ∧ Below w.heap.size w w' := by
  have hmul := Tryz.bits_Mul 1 n (by omega) (by omega) w
  rw [show 1 * n / 18446744073709551616 = 0 by omega, show 1 * n % 18446744073709551616 = n by omega] at hmul
  have HMUL := Lib.hid hmul
  have hmk := makeZI n hn w
  have hB1 : Below w.heap.size w (w.alloc (.cells (zsI n).toArray 3)) := (Below.refl _ w).alloc (Nat.le_refl _) _
  have hbl := World.block_lt_of_cell? w ⟨b, off, none⟩ hc
  have hn0 : ¬ (n : Int) < 0 := by omega
  obtain ⟨w1, hw1⟩ : ∃ w1, w.alloc (.cells (zsI n).toArray 3) = w1 := ⟨_, rfl⟩
  rw [hw1] at hmk hB1
  have k1 : Blk w1 w.heap.size 3 (zsI n) := hw1 ▸ Blk.new w _ _
  have HK1 := Lib.hid k1
  have hlt1 := k1.lt
  have hszi : (Tryz.prog.info? 3).map (·.size) = some 1 := by kernel_rfl
  clear hmul k1 hw1
  go_enter Tryz.func80, Tryz.ntmps80
  go_wp2_with fail
  refine HMUL.out.mono ?_
  rintro e w ⟨rfl, rfl⟩
  rcases Nat.eq_zero_or_pos n with rfl | hp
  · have hmk0 : (Instr.makeSlice 30 (.int .i64 0) (.int .i64 0)).run Tryz.prog w = .ok (.slice (some ⟨w.heap.size, 0, none⟩) 0 0) w1 := hmk
    go_wp2_with (refine wpList_copy_splice (o := ⟨some 33, _, _, _, _, _⟩) rfl (.tmp 31) (.tmp 32) 30 30 rfl 3 Tryz.underlying30 hszi (some ⟨w.heap.size, 0, none⟩) (some ⟨b, off, none⟩) 0 0 1 c (by rfl) (by rfl) w.heap.size 0 (zsI 0) 3 HK1.out (zsI 0) rfl (fun h => by simp [zsI] at h) (by simp [zsI]) (by simp [zsI]) w.heap.size w hB1 (Nat.le_refl _) ?_; intro w4 hk4 hB4)
    have hk4' := hk4.out
    rw [splice_zs 0 0 0 (by omega)] at hk4'
    go_wp2
    go_loopw [8] (fun i W => i = .int .i64 0 ∧ Hid (Blk W w.heap.size 3 (zsI 0)) ∧ Hid (Below w.heap.size w W)) (fun _ _ => 0)
    case atStart => exact ⟨rfl, Lib.hid hk4', Lib.hid hB4⟩
    case round =>
      obtain ⟨rfl, HK, HB⟩ := hrel
      go_wp2
      go_ret
      exact ⟨rfl, HK.out, HB.out⟩
  · have hsrc : Hid (∀ j v, (zsI 1)[j]? = some v → w1.cell? (Addr.add ⟨b, off, none⟩ j) = some v) := Lib.hid fun j v hj => by
      have hj0 : j < 1 := by
        have := (List.getElem?_eq_some_iff.1 hj).1
        simpa [zsI_len] using this
      obtain rfl : j = 0 := by omega
      simp only [zsI, List.replicate_one, List.getElem?_cons_zero] at hj
      injection hj with hj
      subst hj
      rw [show Addr.add ⟨b, off, none⟩ 0 = ⟨b, off, none⟩ from rfl]
      exact (hB1.cell (p := ⟨b, off, none⟩) hbl).trans hc
    go_wp2_with (refine wpList_copy_splice (o := ⟨some 33, _, _, _, _, _⟩) rfl (.tmp 31) (.tmp 32) 30 30 rfl 3 Tryz.underlying30 hszi (some ⟨w.heap.size, 0, none⟩) (some ⟨b, off, none⟩) n n 1 c (by rfl) (by rfl) w.heap.size 0 (zsI n) 3 HK1.out (zsI 1) (by rw [zsI_len]; exact (Nat.min_eq_left hp).symm) (fun _ => ⟨rfl, _, rfl, hsrc.out⟩) (by rw [zsI_len, zsI_len]; omega) (by simp [zsI, Value.oneCell']) w.heap.size w hB1 (Nat.le_refl _) ?_; intro w4 hk4 hB4)
    have hk4' := hk4.out
    rw [splice_zs _ _ _ (by omega)] at hk4'
    rw [zsI_len]
    go_wp2
    go_loopw [8] (fun i W => ∃ k : Nat, k ≤ n ∧ 0 < k ∧ i = .int .i64 k ∧ Hid (Blk W w.heap.size 3 (zsI n)) ∧ Hid (Below w.heap.size w W)) (fun i _ => n - (intOf i).toNat)
    case atStart => exact ⟨1, hp, by omega, rfl, Lib.hid hk4', Lib.hid hB4⟩
    case round =>
      obtain ⟨k, hk, hk0, rfl, HK, HB⟩ := hrel
      by_cases hlt : k < n
      · have hki : (k : Int) < n := by omega
        have hki2 : (k : Int) ≤ n := by omega
        have hne : ¬ n = k := by omega
        obtain ⟨m, hm⟩ : ∃ m, min k (n - k) = m := ⟨_, rfl⟩
        have hm0 : 0 < m := by omega
        have hmk : k + m ≤ n := by omega
        have HM := Lib.hid hm
        clear hm hk4' hk4 hB4
        go_wp2
        refine wp_region_noPanic ?_
        refine wp_region_last 9 (fun _ => True) (by kernel_rfl) trivial (fun hHeld => ?_)
        refine wpAnyL_take 12 (i := 0) (oi := ⟨some 38, _, _, _, _, _⟩) (v := ?_) rfl (by kernel_rfl) (by kernel_rfl) (by kernel_rfl) (by kernel_rfl) (by kernel_rfl) (by kernel_rfl) (by kernel_rfl) (fun _ _ _ h => h) (Or.inl ⟨by rfl, ?_⟩) hHeld ?_
        rotate_left
        focus (intro w hSw; (try dsimp only at hSw); go_simp; try (with_reducible rfl))
        try simp only [Act.put, List.setIfInBounds_toArray, List.set_cons_zero, List.set_cons_succ]
        refine wpAnyL_take 12 (i := 1) (oi := ⟨some 39, _, _, _, _, _⟩) (v := ?_) rfl (by kernel_rfl) (by kernel_rfl) (by kernel_rfl) (by kernel_rfl) (by kernel_rfl) (by kernel_rfl) (by kernel_rfl) (fun _ _ _ h => h) (Or.inl ⟨by rfl, ?_⟩) hHeld ?_
        rotate_left
        focus (intro w hSw; (try dsimp only at hSw); go_simp; try (with_reducible rfl))
        try simp only [Act.put, List.setIfInBounds_toArray, List.set_cons_zero, List.set_cons_succ]
        refine wpAnyL_take 12 (i := 2) (oi := ⟨some 40, _, _, _, _, _⟩) (v := ?_) rfl (by kernel_rfl) (by kernel_rfl) (by kernel_rfl) (by kernel_rfl) (by kernel_rfl) (by kernel_rfl) (by kernel_rfl) (fun _ _ _ h => h) (Or.inl ⟨by rfl, ?_⟩) hHeld ?_
        rotate_left
        focus (intro w hSw; (try dsimp only at hSw); go_simp; try (with_reducible rfl))
        try simp only [Act.put, List.setIfInBounds_toArray, List.set_cons_zero, List.set_cons_succ]
        refine wpAnyL_take 12 (i := 3) (oi := ⟨some 41, _, _, _, _, _⟩) (v := ?_) rfl (by kernel_rfl) (by kernel_rfl) (by kernel_rfl) (by kernel_rfl) (by kernel_rfl) (by kernel_rfl) (by kernel_rfl) (fun _ _ _ h => h) (Or.inl ⟨by rfl, ?_⟩) hHeld ?_
        rotate_left
        focus (intro w hSw; (try dsimp only at hSw); go_simp; try (with_reducible rfl))
        try simp only [Act.put, List.setIfInBounds_toArray, List.set_cons_zero, List.set_cons_succ]
        refine wpAnyL_take 12 (i := 4) (oi := ⟨some 42, _, _, _, _, _⟩) (v := ?_) rfl (by kernel_rfl) (by kernel_rfl) (by kernel_rfl) (by kernel_rfl) (by kernel_rfl) (by kernel_rfl) (by kernel_rfl) (fun _ _ _ h => h) (Or.inl ⟨by rfl, ?_⟩) hHeld ?_
        rotate_left
        focus (intro w hSw; (try dsimp only at hSw); go_simp; try (with_reducible rfl))
        try simp only [Act.put, List.setIfInBounds_toArray, List.set_cons_zero, List.set_cons_succ]
        refine wpAnyL_take 12 (i := 5) (oi := ⟨some 43, _, _, _, _, _⟩) (v := ?_) rfl (by kernel_rfl) (by kernel_rfl) (by kernel_rfl) (by kernel_rfl) (by kernel_rfl) (by kernel_rfl) (by kernel_rfl) (fun _ _ _ h => h) (Or.inl ⟨by rfl, ?_⟩) hHeld ?_
        rotate_left
        focus (intro w hSw; (try dsimp only at hSw); go_simp; try (with_reducible rfl))
        try simp only [Act.put, List.setIfInBounds_toArray, List.set_cons_zero, List.set_cons_succ]
        refine wpAnyL_take 12 (i := 6) (oi := ⟨some 44, _, _, _, _, _⟩) (v := ?_) rfl (by kernel_rfl) (by kernel_rfl) (by kernel_rfl) (by kernel_rfl) (by kernel_rfl) (by kernel_rfl) (by kernel_rfl) (fun _ _ _ h => h) (Or.inl ⟨by rfl, ?_⟩) hHeld ?_
        rotate_left
        focus (intro w hSw; (try dsimp only at hSw); go_simp; try (with_reducible rfl))
        try simp only [Act.put, List.setIfInBounds_toArray, List.set_cons_zero, List.set_cons_succ]
        refine wpAnyL_one (i := 7) (o := ⟨some 45, _, _, _, _, _⟩) (by kernel_rfl) rfl (fun K hK => ?_)
        clear hHeld
        have hsr : ∀ j v, (zsI m)[j]? = some v → wr.drew.cell? (Addr.add ⟨w.heap.size, 0, none⟩ j) = some v := (fun j v hj => (by rw [add_plain, Nat.zero_add]; exact (HK.out.cell j).trans (by rw [← hj]; unfold zsI; rw [List.getElem?_replicate, List.getElem?_replicate]; have hjm : j < m := (by have h9 := (List.getElem?_eq_some_iff.1 hj).1; rw [zsI_len] at h9; exact h9); rw [if_pos hjm, if_pos (by omega)])))
        refine step_copy_splice (o := ⟨some 45, _, _, _, _, _⟩) rfl (.tmp 41) (.tmp 44) 30 30 rfl 3 Tryz.underlying30 hszi (some ⟨w.heap.size, k, none⟩) (some ⟨w.heap.size, 0, none⟩) (n - k) (n - k) k n rfl rfl w.heap.size k (zsI n) 3 HK.out (zsI m) (by rw [zsI_len]; exact HM.out.symm) (fun _ => ⟨rfl, _, rfl, hsr⟩) (by rw [zsI_len, zsI_len]; omega) (by simp [zsI, Value.oneCell']) w.heap.size w HB.out.drew (Nat.le_refl _) ?_
        intro w6 hk6 hB6
        rw [zsI_len]
        refine hK.out _ _ trivial (fun hHeld => ?_)
        clear hK K
        try simp only [Act.put, List.setIfInBounds_toArray, List.set_cons_zero, List.set_cons_succ]
        refine wpAnyL_take 12 (i := 8) (oi := ⟨some 46, _, _, _, _, _⟩) (v := ?_) rfl (by kernel_rfl) (by kernel_rfl) (by kernel_rfl) (by kernel_rfl) (by kernel_rfl) (by kernel_rfl) (by kernel_rfl) (fun _ _ _ h => h) (Or.inl ⟨by rfl, ?_⟩) hHeld ?_
        rotate_left
        focus (intro w hSw; (try dsimp only at hSw); go_simp; try (with_reducible rfl))
        try simp only [Act.put, List.setIfInBounds_toArray, List.set_cons_zero, List.set_cons_succ]
        refine wpAnyL_last (i := 9) (o := ⟨some 8, _, _, _, _, _⟩) (by kernel_rfl) rfl (by kernel_rfl) (fun K hK => ?_)
        clear hHeld
        go_simp
        go_wp2_with fail
        refine hK.out _ _ ?_
        clear hK K
        try simp only [Act.put, List.setIfInBounds_toArray, List.set_cons_zero, List.set_cons_succ]
        refine wpAnyL_done (by kernel_rfl) ?_ _
        refine NoPanic.normal ?_
        rw [splice_zs _ _ _ hmk] at hk6
        have hwv : IntKind.i64.wrap ((k : Int) + (m : Int)) = ((k + m : Nat) : Int) := by rw [IntWalk.i64_in _ (by omega)]; push_cast; rfl
        rw [hwv]
        go_wp2
        refine ⟨⟨_, _, _, _, _, _, _, _, _, _, _, _, _, _, ⟨k + m, hmk, by omega, rfl, hk6, Lib.hid hB6⟩, rfl⟩, ?_⟩
        simp only [intOf, Array.getD, List.size_toArray, List.length_cons, List.length_nil]
        show n - (k + m) < n - k
        omega
      · obtain rfl : k = n := by omega
        go_wp2
        go_ret
        exact ⟨rfl, HK.out, HB.out⟩

end Go.Proofs.YtfeeejigedndcaaGreat
