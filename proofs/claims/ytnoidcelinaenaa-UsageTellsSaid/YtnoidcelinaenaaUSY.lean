/-
  The reference's Unique. Conditions: the set reads.
-/
import Derived.Test.YtnoidcelinaenaaUST
import Derived.Test.YtnoidcelinaenaaUSS
namespace Go.Proofs.Ytnoidcelinaenaa
open Go.ChangeShapes Go.WideShapes Go.ChangeAt Go.RowKit
set_option maxRecDepth 100000

theorem refUnique_any (s : MSet) (at_ : Int) (w : World) (hs : SetU w s) :
    Calls Try.prog 13 #[.agg s.cells.toArray, .int .i64 at_] w fun e w' => e = .returned (.int .i64 (uniqS s at_)) ∧ Below w.heap.size w w' := by
  by_cases h : at_ < 0 ∨ (s.snaps_.l.length : Int) ≤ at_
  · have hR : uniqS s at_ = 0 := by unfold uniqS; rw [if_pos h]
    rw [hR]
    exact refUnique_out s at_ h w
  · obtain ⟨k, rfl⟩ : ∃ k : Nat, at_ = k := ⟨at_.toNat, by omega⟩
    have hR : uniqS s (k : Int) = onlyL ((lineM s).map Sl.l) k ((lineM s).map Sl.l)[k + 1]?.toList := by
      unfold uniqS
      rw [if_neg h]
      rfl
    rw [hR]
    exact refUnique_in s k (by omega) w hs

end Go.Proofs.Ytnoidcelinaenaa
