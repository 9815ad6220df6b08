/-
  props: Over. Conditions: the lists are as they come in.
-/
import Derived.Test.YtoabkbnhdekbdaaGreatRMP
import Derived.Test.YtoabkbnhdekbdaaGreatRGY
import Derived.Test.YtoabkbnhdekbdaaGreatRENN
import Derived.Test.YtoabkbnhdekbdaaGreatREB
import Derived.Test.YtoabkbnhdekbdaaGreatREM
import Derived.Test.YtoabkbnhdekbdaaGreatRSX
import Derived.Test.YtoabkbnhdekbdaaGreatRRL
import Derived.Deep.DeepCutAuto
import Derived.Test.YtoabkbnhdekbdaaGreatLayH
import Derived.BigQuiet
namespace Go.Proofs.YtoabkbnhdekbdaaGreat
open Go.ChangeShapes Go.WideShapes Go.ChangeAt Go.RowKit Go.Maps
set_option maxRecDepth 100000
structure SlsP (w : World) (L : Option Addr) (ls : List (Sl Pr)) : Prop where
  rd : Rd w L (ls.map fun s => s.val)
  each : ∀ s ∈ ls, Rd w s.A (prs s.l) ∧ s.l.length ≤ 4398046511103 ∧ ∀ x ∈ s.l, x.1.size ≤ 140737488351232 ∧ x.2.size ≤ 140737488351232
theorem SlsP.below {w w' : World} {L : Option Addr} {ls : List (Sl Pr)} (h : SlsP w L ls) (hB : Below w.heap.size w w') : SlsP w' L ls := ⟨h.rd.below hB, fun s hs => ⟨(h.each s hs).1.below hB, (h.each s hs).2⟩⟩
theorem SlsP.at_ {w : World} {L : Option Addr} {ls : List (Sl Pr)} (h : SlsP w L ls) {k : Nat} {s : Sl Pr} (hk : ls[k]? = some s) : ∃ b off, L = some ⟨b, off, none⟩ ∧ b < w.heap.size ∧ w.cell? ⟨b, off + k, none⟩ = some (.slice s.A s.l.length s.c) := by
  have h1 : (ls.map fun s => s.val)[k]? = some s.val := by rw [List.getElem?_map, hk]; rfl
  obtain ⟨b, off, e, hb, hc⟩ := h.rd (by intro e; rw [e] at h1; simp at h1)
  exact ⟨b, off, e, hb, hc _ _ h1⟩
end Go.Proofs.YtoabkbnhdekbdaaGreat
