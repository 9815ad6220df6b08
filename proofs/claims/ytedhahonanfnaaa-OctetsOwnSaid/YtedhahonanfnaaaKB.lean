/-
  What an iterator owes of the memory that it reads: the cells of a block stay. No conditions.
-/
import Derived.Test.YtedhahonanfnaaaW
import Derived.Lib.Hide
import Derived.RangeFuncNested
import Derived.RangeFuncBound
import Derived.RangeFuncCalls
import Derived.RangeFuncLeaves
import Derived.RangeFuncBox
import Derived.Shelf.Abstract
import Derived.Shelf.RegionOpen
import Derived.OwnWalkIn
import Derived.TacticsInMore
import Derived.LoopNIn
import Derived.LoopIn
import Derived.IntWalk
namespace Go.Proofs.Ytedhahonanfnaaa
open Go.ChangeShapes Go.WideShapes Go.ChangeAt Go.RowKit Go.Shelf
set_option maxRecDepth 100000
attribute [local go_sem] Oper.semAt_some

theorem yield_bool {J Jx : Prop} {e : Ending} (h : (e = .returned (.bool true) ∧ J) ∨ (e = .returned (.bool false) ∧ Jx)) :
    ∃ b : Bool, e = .returned (.bool b) ∧ Hid ((b = true → J) ∧ (b = false → Jx)) := by
  rcases h with ⟨rfl, h⟩ | ⟨rfl, h⟩
  · exact ⟨true, rfl, fun _ => h, fun h => by cases h⟩
  · exact ⟨false, rfl, fun h => by (cases h), fun _ => h⟩

/-- The cells of block b stay. -/
def KeepsBlk (b : Nat) (W W' : World) : Prop := ∀ o v, W.cell? ⟨b, o, none⟩ = some v → W'.cell? ⟨b, o, none⟩ = some v
theorem KeepsBlk.refl (b : Nat) (W : World) : KeepsBlk b W W := fun _ _ h => h
theorem KeepsBlk.trans {b : Nat} {A B C : World} (h : KeepsBlk b A B) (k : KeepsBlk b B C) : KeepsBlk b A C := fun o v hv => k o v (h o v hv)
theorem KeepsBlk.putObj {b : Nat} (W : World) (l : Nat) (o o' : Obj) (h : W.heap[l]? = some o) (hc : o.isCells = false) : KeepsBlk b W (W.putObj l o') := fun _ _ hv =>
  cell_kept hv (grownBy_putObj' W l o') (fun r e => by cases e; exact ⟨o, h, hc⟩)
theorem KeepsBlk.below {b : Nat} {W W' : World} (h : Below (b + 1) W W') : KeepsBlk b W W' := fun o _ hv => (h.cell (p := ⟨b, o, none⟩) (Nat.lt_succ_self b)).trans hv
theorem KeepsBlk.grown {b : Nat} {W W' : World} {row : Option Nat} (hg : W.grownBy W' row) (hne : some b ≠ row) : KeepsBlk b W W' := fun _ _ hv => hg.cell hv hne

end Go.Proofs.Ytedhahonanfnaaa
