/-
  The reference's Parts and Path. Conditions: the text has at most 2^42 octets.
-/
import Derived.Test.YtnioelkibghplaaGreatMENN
import Derived.Test.YtnioelkibghplaaGreatMSL
namespace Go.Proofs.YtnioelkibghplaaGreat
open Go.ChangeShapes Go.WideShapes Go.ChangeAt Go.RowKit
set_option maxRecDepth 100000

theorem rdT_at {w : World} {A : Option Addr} {l : List ByteArray} (h : Rd w A (l.map Value.string)) {k : Nat} {x : ByteArray} (hk : l[k]? = some x) : ∃ b off, A = some ⟨b, off, none⟩ ∧ b < w.heap.size ∧ w.cell? ⟨b, off + k, none⟩ = some (.string x) := by
  have h1 : (l.map Value.string)[k]? = some (.string x) := by rw [List.getElem?_map, hk]; rfl
  obtain ⟨b, off, e, hb, hc⟩ := h (by intro h0; rw [h0] at h1; simp at h1)
  exact ⟨b, off, e, hb, hc _ _ h1⟩

end Go.Proofs.YtnioelkibghplaaGreat
