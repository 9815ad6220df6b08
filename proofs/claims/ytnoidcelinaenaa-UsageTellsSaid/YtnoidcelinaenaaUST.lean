/-
  The reference's Unique at places that are none. Conditions: the set reads.
-/
import Derived.Test.YtnoidcelinaenaaUSP
import Derived.Test.YtnoidcelinaenaaUSR
namespace Go.Proofs.Ytnoidcelinaenaa
open Go.ChangeShapes Go.WideShapes Go.ChangeAt Go.RowKit
set_option maxRecDepth 100000
set_option linter.unusedSimpArgs false

theorem refUnique_out (s : MSet) (at_ : Int) (h : at_ < 0 ∨ (s.snaps_.l.length : Int) ≤ at_) (w : World) :
    Calls Try.prog 13 #[.agg s.cells.toArray, .int .i64 at_] w fun e w' => e = .returned (.int .i64 0) ∧ Below w.heap.size w w' := by
  obtain ⟨w1, hw1⟩ : ∃ w1, w.alloc (.cells #[.string s.path_, .string s.origin_, .slice s.body_.A s.body_.l.length s.body_.c, .slice s.snaps_.A s.snaps_.l.length s.snaps_.c, .slice s.own_.A s.own_.l.length s.own_.c] 32) = w1 := ⟨_, rfl⟩
  have hB1 : Below w.heap.size w w1 := hw1 ▸ (Below.refl _ w).alloc (Nat.le_refl _) _
  have k1 : Blk w1 w.heap.size 32 s.cells := hw1 ▸ Blk.new w _ _
  have z3 := k1.cell 3
  simp only [List.getElem?_cons_zero, List.getElem?_cons_succ] at z3
  have HW1 := Lib.hid hw1
  clear hw1 k1
  by_cases h0 : at_ < 0
  · clear h
    go_enter Try.func13, Try.ntmps13
    go_wp2_with (rw [HW1.out])
    go_ret
    exact ⟨rfl, hB1⟩
  · have h1 : (s.snaps_.l.length : Int) ≤ at_ := by omega
    have h2 : ¬ at_ < s.snaps_.l.length := by omega
    clear h
    go_enter Try.func13, Try.ntmps13
    go_wp2_with (rw [HW1.out])
    go_ret
    exact ⟨rfl, hB1⟩

end Go.Proofs.Ytnoidcelinaenaa
