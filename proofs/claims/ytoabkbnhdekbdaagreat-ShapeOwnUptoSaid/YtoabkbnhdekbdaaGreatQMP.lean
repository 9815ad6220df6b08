/-
  Maps of properties by their names; the names of one, rising. No conditions.
-/
import Derived.Test.YtoabkbnhdekbdaaGreatQEM
import Derived.Test.YtoabkbnhdekbdaaGreatQGY
import Derived.Test.YtoabkbnhdekbdaaGreatQCS
import Derived.Test.YtoabkbnhdekbdaaGreatQEB
import Derived.Test.YtoabkbnhdekbdaaGreatQSX
import Derived.Test.YtoabkbnhdekbdaaGreatQRL
import Derived.Test.YtoabkbnhdekbdaaGreatLayS
import Derived.StringKeys
import Derived.Maps.OwnSet
import Derived.Deep.DeepCutAuto
import Derived.Test.YtoabkbnhdekbdaaGreatLayH
import Derived.BigQuiet
namespace Go.Proofs.YtoabkbnhdekbdaaGreat
open Go.ChangeShapes Go.WideShapes Go.ChangeAt Go.RowKit Go.Maps Go.Sort
set_option maxRecDepth 100000
abbrev Dh := DataW Value
abbrev bKey (s : ByteArray) : Lit := .string s.data.toList
theorem bKey_inj {a b : ByteArray} (h : bKey a = bKey b) : a = b := by
  injection h with h
  exact bs_inj h
abbrev prZ : Value := .agg #[.string ⟨#[]⟩, .string ⟨#[]⟩]
abbrev prAt (m : List Pr) (k : ByteArray) : Value := match getP m k with | some v => prV (k, v) | none => prZ
def MapPr (D : Dh) (m : List Pr) : Prop := IsMap D ∧ ∀ k : ByteArray, Maps.has D (bKey k) = (getP m k).isSome ∧ D.atKey (bKey k) (.held prZ) = .held (prAt m k)
theorem MapPr.empty : MapPr (.map []) [] := ⟨isMap_empty, fun _ => ⟨rfl, rfl⟩⟩
theorem MapPr.put {D : Dh} {m : List Pr} (h : MapPr D m) (hr : RisP m) (p : Pr) : MapPr (D.put (bKey p.1) (.held (prV p))) (putP m p) := by
  refine ⟨h.1.put _ _, fun k => ?_⟩
  unfold prAt
  rw [getP_put hr]
  by_cases e : p.1 = k
  · subst e
    rw [if_pos rfl, has_put_same h.1 (show WideAt.IsKeyLit (bKey p.1) from trivial), atKey_put_same h.1 (show WideAt.IsKeyLit (bKey p.1) from trivial)]
    exact ⟨rfl, rfl⟩
  · have hne : bKey k ≠ bKey p.1 := fun h' => e (bKey_inj h').symm
    rw [if_neg e, has_put_other hne, atKey_put_other hne]
    exact h.2 k
end Go.Proofs.YtoabkbnhdekbdaaGreat
namespace Go.Proofs.YtoabkbnhdekbdaaGreat
open Go.ChangeShapes Go.WideShapes Go.ChangeAt Go.RowKit Go.Maps
set_option maxRecDepth 100000
structure SlsP (w : World) (L : Option Addr) (ls : List (Sl Pr)) : Prop where
  rd : Rd w L (ls.map fun s => s.val)
  each : ∀ s ∈ ls, Rd w s.A (prs s.l) ∧ s.l.length ≤ 4398046511103 ∧ ∀ x ∈ s.l, x.1.size ≤ 140737488351232 ∧ x.2.size ≤ 140737488351232
theorem SlsP.below {w w' : World} {L : Option Addr} {ls : List (Sl Pr)} (h : SlsP w L ls) (hB : Below w.heap.size w w') : SlsP w' L ls := ⟨h.rd.below hB, fun s hs => ⟨(h.each s hs).1.below hB, (h.each s hs).2⟩⟩
theorem SlsP.at_ {w : World} {L : Option Addr} {ls : List (Sl Pr)} (h : SlsP w L ls) {k : Nat} {s : Sl Pr} (hk : ls[k]? = some s) : ∃ b off, L = some ⟨b, off, none⟩ ∧ b < w.heap.size ∧ w.cell? ⟨b, off + k, none⟩ = some (.slice s.A s.l.length s.c) := by
  have h1 : (ls.map fun s => s.val)[k]? = some s.val := by rw [List.getElem?_map, hk]; rfl
  obtain ⟨b, off, e, hb, hc⟩ := h.rd (by intro e; rw [e] at h1; simp at h1)
  exact ⟨b, off, e, hb, hc _ _ h1⟩
end Go.Proofs.YtoabkbnhdekbdaaGreat
