/-
  Objects: how they lie in memory. No conditions.
-/
import Derived.Test.YtfeeejigedndcaaGreatMQA
import Derived.Test.YtfeeejigedndcaaGreatMDVA
import Derived.Test.YtfeeejigedndcaaGreatMUM
import Derived.Test.YtfeeejigedndcaaGreatMTM
import Derived.Laws.Cover1
namespace Go.Proofs.YtfeeejigedndcaaGreat
open Go.ChangeShapes Go.WideShapes Go.ChangeAt Go.RowKit
set_option maxRecDepth 100000

/-- An object in memory. -/
structure Ob where
  key : ByteArray
  d : Slc
  B : Option Addr
  ns : List Int
  e : Nat
abbrev obval (k : ByteArray) (A : Option Addr) (n c : Nat) (B : Option Addr) (m e : Nat) : Value := .agg #[.string k, .slice A n c, .slice B m e]
abbrev Ob.val (o : Ob) : Value := obval o.key o.d.A o.d.zs.length o.d.c o.B o.ns.length o.e
def obCells (l : List Ob) : List Value := l.flatMap fun o => [.string o.key, o.d.val, .slice o.B o.ns.length o.e]
theorem obCells_snoc (l : List Ob) (x : Ob) : obCells (l ++ [x]) = obCells l ++ [.string x.key, x.d.val, .slice x.B x.ns.length x.e] := by simp [obCells]
theorem obCells_length (l : List Ob) : (obCells l).length = 3 * l.length := by
  induction l with
  | nil => rfl
  | cons z zs ih => simp only [obCells, List.flatMap_cons, List.length_append, List.length_cons, List.length_nil] at ih ⊢; omega
theorem obCells_at : ∀ (l : List Ob) (k : Nat) (x : Ob), l[k]? = some x → (obCells l)[k * 3]? = some (.string x.key) ∧ (obCells l)[k * 3 + 1]? = some x.d.val ∧ (obCells l)[k * 3 + 2]? = some (.slice x.B x.ns.length x.e)
  | y :: l, 0, x, h => by
    simp at h
    subst h
    simp [obCells]
  | y :: l, k + 1, x, h => by
    have := obCells_at l k x (by simpa using h)
    simp only [obCells, List.flatMap_cons] at this ⊢
    rw [show (k + 1) * 3 = k * 3 + 1 + 1 + 1 by omega]
    simpa using this
theorem Rd.ob {w : World} {A : Option Addr} {l : List Ob} (h : Rd w A (obCells l)) {k : Nat} {x : Ob} (hk : l[k]? = some x) :
    ∃ b off, A = some ⟨b, off, none⟩ ∧ b < w.heap.size ∧ w.cell? ⟨b, off + k * 3, none⟩ = some (.string x.key) ∧ w.cell? ⟨b, off + k * 3 + 1, none⟩ = some x.d.val ∧ w.cell? ⟨b, off + k * 3 + 2, none⟩ = some (.slice x.B x.ns.length x.e) := by
  obtain ⟨h1, h2, h3⟩ := obCells_at l k x hk
  obtain ⟨b, off, e, hb, hc⟩ := h (by intro h0; rw [h0] at h1; simp at h1)
  exact ⟨b, off, e, hb, hc _ _ h1, hc _ _ h2, hc _ _ h3⟩

/-- An object, plainly. -/
structure PO where
  key : ByteArray
  data : List Int
  at_ : List Int
abbrev Ob.st (o : Ob) : PO := ⟨o.key, o.d.zs, o.ns⟩

/-- What of objects a call may take for granted: they are as they came in. -/
structure Ob.Fits (o : Ob) : Prop where
  k : o.key.size ≤ maxLen
  d : o.d.zs.length ≤ 140737488351232
  dc : o.d.zs.length ≤ o.d.c
  dn : o.d.A = none → o.d.c = 0
  n : o.ns.length ≤ 17592186044416
  e : o.ns.length ≤ o.e
  en : o.B = none → o.e = 0
  octs : Octs o.d.zs

theorem dropA {α : Type} (zs : List α) {k : Nat} {z : α} (h : zs[k]? = some z) : zs.drop k = z :: zs.drop (k + 1) := by
  obtain ⟨hk, rfl⟩ := List.getElem?_eq_some_iff.1 h
  exact List.drop_eq_getElem_cons hk

/-- Do keys rise from one on? -/
def riseK : ByteArray → List ByteArray → Bool
  | _, [] => true
  | last, k :: r => !(Op.bytesLess k.toList last.toList || k.toList == last.toList) && (decide (k.size ≤ 96) && riseK k r)
/-- What is wrong with objects. -/
def objE (l : List PO) : Int := if 256 < l.length then 3 else if riseK ByteArray.empty (l.map (·.key)) = false then 31 else if l.all (fun o => decide (o.data.length ≤ 65536)) then 0 else 5

end Go.Proofs.YtfeeejigedndcaaGreat
