/-
  The page's example. No conditions.
-/
import Derived.Test.YtddkalcgijeldaaSG
namespace Go.Proofs.Ytddkalcgijeldaa
open Go.ChangeShapes Go.WideShapes Go.ChangeAt Go.RowKit Go.Maps

theorem take_two (n ty : Nat) (w : World) (hn : w.heap.size = n) :
    Calls Try.prog 21 #[.int .i64 5, .slice (some ⟨n, 0, none⟩) 1 1, .int .i64 1] (w.alloc (.cells #[.int .i64 2] ty)) fun e w' => ∃ (b off d : Nat), e = .returned (ansI (some ⟨b, off, none⟩) 1 d 0) ∧ 1 ≤ d ∧ w'.cell? ⟨b, off, none⟩ = some (.int .i64 3) ∧ Below n w w' := by
  subst hn
  have hB : Below w.heap.size w (w.alloc (.cells #[.int .i64 2] ty)) := (Below.refl _ _).alloc (Nat.le_refl _) _
  refine (take_ok 5 (some ⟨w.heap.size, 0, none⟩) 1 [2] 1 (by simp) (by decide) _ (rd_lit w ty [2])).mono ?_
  rintro e w' ⟨B, d, rfl, hd, -, HR, hb⟩
  have hR : RdI w' B [3] := HR.out
  obtain ⟨b, off, z, rfl, hbl, hc, HZ⟩ := hR.at_ (k := 0) (by simp)
  obtain rfl : z = 3 := by simpa using HZ.out.symm
  exact ⟨b, off, d, rfl, hd, hc, hB.trans (hb.mono (by simp))⟩

set_option maxRecDepth 100000 in
theorem alive7 (w : World) : Calls Try.prog 25 #[] w fun e w' => e = .returned (.bool true) ∧ Below w.heap.size w w' := by
  go_enter Try.func25, Try.ntmps25
  go_wp2_with fail
  refine (take_two _ _ _ rfl).mono ?_
  rintro e w1 ⟨b, off, d, rfl, hd, hc, hB⟩
  go_wp2_with (go_at_call 23; refine (num7_any _ _).mono ?_; rintro e w2 ⟨rfl, rfl⟩)
  go_ret
  exact ⟨rfl, hB⟩

end Go.Proofs.Ytddkalcgijeldaa
