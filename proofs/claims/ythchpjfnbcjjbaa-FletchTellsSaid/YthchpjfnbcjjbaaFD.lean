/-
  Of answers the sum of octets; the page's example holds. Conditions: at most 2^47 - 4096 octets.
-/
import Derived.Test.YthchpjfnbcjjbaaFC
namespace Go.Proofs.Ythchpjfnbcjjbaa
open Go.ChangeShapes Go.WideShapes Go.ChangeAt Go.RowKit

/-- The sum of nothing. -/
def zeroS : S4 := ⟨0, 0, 0, 0⟩

theorem feed_at (s : S4) (A : Option Addr) (n c : Nat) (zs : List Int) (hn : zs.length = n) (hl : n ≤ 140737488351232) (hcap : n ≤ c) (ho : Octs zs) (w : World) (hr : RdB w A zs) :
    Calls Try.prog 12 #[s.val, .slice A n c] w fun e w' => e = .returned (feedS s (words zs)).val ∧ Below w.heap.size w w' := by
  subst hn
  exact feed_any s A c zs hl hcap ho w hr

set_option maxHeartbeats 400000 in
theorem of_any (A : Option Addr) (n c : Nat) (zs : List Int) (hn : zs.length = n) (hl : n ≤ 140737488351232) (hcap : n ≤ c) (ho : Octs zs) (w : World) (hr : RdB w A zs) :
    Calls Try.prog 14 #[.slice A n c] w fun e w' => e = .returned (feedS zeroS (words zs)).val ∧ Below w.heap.size w w' := by
  have HR := Lib.hid hr
  have HN := Lib.hid hn
  clear hr hn
  obtain ⟨t, ht⟩ : ∃ t, feedS zeroS (words zs) = t := ⟨_, rfl⟩
  have HF1 : ∀ w, RdB w A zs → Calls Try.prog 12 #[.agg #[.int .u64 0, .int .u64 0, .int .u64 0, .int .u64 0], .slice A n c] w fun e w' => e = .returned t.val ∧ Below w.heap.size w w' := fun w h => by
    rw [← ht]
    exact feed_at zeroS A n c zs HN.out hl hcap ho w h
  have HF := Lib.hid HF1
  rw [ht]
  clear HF1 ht
  go_enter Try.func14, Try.ntmps14
  go_wp2_with fail
  have hB0 : Below w.heap.size w (w.alloc (.cells #[.int .u64 0, .int .u64 0, .int .u64 0, .int .u64 0] 24)) := (Below.refl _ w).alloc (Nat.le_refl _) _
  refine (HF.out _ (HR.out.below hB0)).mono ?_
  rintro e w1 ⟨rfl, hB1⟩
  have k1 : Blk w1 w.heap.size 24 (scells zeroS) := (Blk.new w (scells zeroS) 24).below hB1 (by simp)
  have hB : Below w.heap.size w w1 := hB0.trans (hB1.mono (by simp))
  have d0 := k1.cell 0
  have d1 := k1.cell 1
  have d2 := k1.cell 2
  have d3 := k1.cell 3
  have f0 := k1.frozen 0
  have f1 := k1.frozen 1
  have f2 := k1.frozen 2
  have f3 := k1.frozen 3
  simp only [scells, zeroS, List.getElem?_cons_zero, List.getElem?_cons_succ] at d0 d1 d2 d3
  clear k1 hB0 hB1 HF HR HN
  go_wp2
  refine bodyPost_ret (v := t.val) (by simp [results, Try.results14, go_sem, d0, d1, d2, d3]) rfl ⟨rfl, (((hB.setCell (p := ⟨w.heap.size, 0, none⟩) (Nat.le_refl _) _).setCell (p := ⟨w.heap.size, 1, none⟩) (Nat.le_refl _) _).setCell (p := ⟨w.heap.size, 2, none⟩) (Nat.le_refl _) _).setCell (p := ⟨w.heap.size, 3, none⟩) (Nat.le_refl _) _⟩

theorem rd_four (w : World) (a b c d : Int) : RdB (w.alloc (.cells #[.int .u8 a, .int .u8 b, .int .u8 c, .int .u8 d] 5)) (some ⟨w.heap.size, 0, none⟩) [a, b, c, d] := fun _ => by
  refine ⟨w.heap.size, 0, rfl, by simp, fun j u hu => ?_⟩
  rw [cell_of_row _ w.heap.size (0 + j) _ _ _ (heap_alloc_new w _), Nat.zero_add]
  simpa using hu

theorem one_sum : feedS zeroS (words [0, 0, 0, 1]) = ⟨1, 1, 1, 1⟩ := by
  have : words [0, 0, 0, 1] = [1] := rfl
  rw [this]
  simp only [feedS, List.foldl_cons, List.foldl_nil, stepS, sA, sB, sC, sD, zeroS, wrap_u64_is]
  rfl

set_option maxHeartbeats 400000 in
theorem alive_any (w : World) : Calls Try.prog 17 #[] w fun e w' => e = .returned (.bool true) ∧ Below w.heap.size w w' := by
  go_enter Try.func17, Try.ntmps17
  go_wp2_with fail
  have hof := of_any (some ⟨w.heap.size, 0, none⟩) 4 4 [0, 0, 0, 1] rfl (by omega) (by omega) (by intro z hz; simp at hz; omega) _ (rd_four w 0 0 0 1)
  rw [one_sum] at hof
  refine hof.mono ?_
  rintro e w1 ⟨rfl, hB1⟩
  clear hof
  have hB : Below w.heap.size w w1 := ((Below.refl _ w).alloc (Nat.le_refl _) _).trans (hB1.mono (by simp))
  go_wp2
  go_ret
  exact ⟨rfl, hB⟩

theorem num_any (n : Int) (w : World) :
    Calls Try.prog 11 #[.int .i64 n] w fun e w' => e = .returned (.int .i64 n) ∧ w = w' := by
  go_enter Try.func11, Try.ntmps11
  go_wp2
  go_ret
  exact ⟨rfl, rfl⟩

end Go.Proofs.Ythchpjfnbcjjbaa
