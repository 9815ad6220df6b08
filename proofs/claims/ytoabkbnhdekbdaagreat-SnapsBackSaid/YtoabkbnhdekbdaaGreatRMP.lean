/-
  Maps of properties by their names; the names of one, rising. No conditions.
-/
import Derived.Test.YtoabkbnhdekbdaaGreatREM
import Derived.Test.YtoabkbnhdekbdaaGreatLayS
import Derived.StringKeys
import Derived.Maps.OwnSet
namespace Go.Proofs.YtoabkbnhdekbdaaGreat
open Go.ChangeShapes Go.WideShapes Go.ChangeAt Go.RowKit Go.Maps Go.Sort
set_option maxRecDepth 100000
abbrev Dh := DataW Value
abbrev bKey (s : ByteArray) : Lit := .string s.data.toList
theorem bKey_inj {a b : ByteArray} (h : bKey a = bKey b) : a = b := by
  injection h with h
  exact bs_inj h
abbrev prZ : Value := .agg #[.string ⟨#[]⟩, .string ⟨#[]⟩]
abbrev prAt (m : List Pr) (k : ByteArray) : Value := match getP m k with | some v => prV (k, v) | none => prZ
def MapPr (D : Dh) (m : List Pr) : Prop := IsMap D ∧ ∀ k : ByteArray, Maps.has D (bKey k) = (getP m k).isSome ∧ D.atKey (bKey k) (.held prZ) = .held (prAt m k)
theorem MapPr.empty : MapPr (.map []) [] := ⟨isMap_empty, fun _ => ⟨rfl, rfl⟩⟩
theorem MapPr.put {D : Dh} {m : List Pr} (h : MapPr D m) (hr : RisP m) (p : Pr) : MapPr (D.put (bKey p.1) (.held (prV p))) (putP m p) := by
  refine ⟨h.1.put _ _, fun k => ?_⟩
  unfold prAt
  rw [getP_put hr]
  by_cases e : p.1 = k
  · subst e
    rw [if_pos rfl, has_put_same h.1 (show WideAt.IsKeyLit (bKey p.1) from trivial), atKey_put_same h.1 (show WideAt.IsKeyLit (bKey p.1) from trivial)]
    exact ⟨rfl, rfl⟩
  · have hne : bKey k ≠ bKey p.1 := fun h' => e (bKey_inj h').symm
    rw [if_neg e, has_put_other hne, atKey_put_other hne]
    exact h.2 k
end Go.Proofs.YtoabkbnhdekbdaaGreat
