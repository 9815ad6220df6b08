/-
 Slices of texts that read as lists. No conditions.
-/
import Derived.Test.YtimmcmjipmkebaaGreatVW
import Derived.SliceStrings
import Derived.LoopTactic
import Derived.Lib.Hide
import Derived.IntWalk
import Derived.RegionTactic
namespace Go.Proofs.YtimmcmjipmkebaaGreat
open Go.ChangeShapes Go.WideShapes Go.ChangeAt Go.RowKit
set_option maxRecDepth 100000
def RdS (w : World) (A : Option Addr) (ss : List ByteArray) : Prop := Rd w A (ss.map Value.string)
theorem RdS.nil (w : World) (A : Option Addr) : RdS w A [] := fun h => absurd rfl h
theorem RdS.below {w w' : World} {A : Option Addr} {ss : List ByteArray} (h : RdS w A ss) (hb : Below w.heap.size w w') : RdS w' A ss := Rd.below h hb
theorem RdS.at_ {w : World} {A : Option Addr} {ss : List ByteArray} (h : RdS w A ss) {k : Nat} (hk : k < ss.length) :
 ∃ b off s, A = some ⟨b, off, none⟩ ∧ b < w.heap.size ∧ w.cell? ⟨b, off + k, none⟩ = some (.string s) ∧ RowKit.Hid (ss[k]? = some s) := by
 obtain ⟨b, off, e, hb, hc⟩ := h (by intro h0; have := congrArg List.length h0; simp at this; subst this; simp at hk)
 exact ⟨b, off, ss[k], e, hb, hc k _ (by simp [List.getElem?_map, qZa hk]), zI (qZa hk)⟩
end Go.Proofs.YtimmcmjipmkebaaGreat
