/-
  Space: plain parts of lists of numbers. No conditions.
-/
import Derived.Test.YtmehjmkakkiedaaGreatMV
import Derived.Test.YtmehjmkakkiedaaGreatMSM
import Derived.Deep.QuietTactic
import Derived.BigQuiet
import Derived.Deep.RegionHeld3
namespace Go.Proofs.YtmehjmkakkiedaaGreat
open Go.ChangeShapes Go.WideShapes Go.ChangeAt Go.RowKit
set_option maxRecDepth 100000

theorem RdI.take {w : World} {A : Option Addr} {zs : List Int} (h : RdI w A zs) (n : Nat) : RdI w A (zs.take n) := fun hne => by
  obtain ⟨b, off, e, hb, hc⟩ := h (by intro e; simp at e; subst e; simp at hne)
  refine ⟨b, off, e, hb, fun j u hu => hc j u ?_⟩
  rw [List.getElem?_map] at hu ⊢
  rw [List.getElem?_take] at hu
  split at hu
  · exact hu
  · cases hu

theorem take_at {zs : List Int} {k : Nat} {z : Int} (h : zs[k]? = some z) : zs.take (k + 1) = zs.take k ++ [z] := by
  rw [List.take_add_one, h]; rfl

theorem ins_cons {t z : Int} {zs : List Int} : ins t (z :: zs) = (decide (2 ≤ z) && decide (z < t) && ins t zs) := rfl

end Go.Proofs.YtmehjmkakkiedaaGreat
