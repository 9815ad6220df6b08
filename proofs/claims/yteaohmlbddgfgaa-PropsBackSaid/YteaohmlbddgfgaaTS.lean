/-
  Slices of texts that read as lists. No conditions.
-/
import Derived.Test.YteaohmlbddgfgaaW
import Derived.Test.YteaohmlbddgfgaaZ
import Derived.SliceStrings
import Derived.LoopTactic
import Derived.Lib.Hide
import Derived.IntWalk
import Derived.RegionTactic
namespace Go.Proofs.Yteaohmlbddgfgaa
open Go.ChangeShapes Go.WideShapes Go.ChangeAt Go.RowKit
set_option maxRecDepth 100000

/-- The slice whose array begins at A reads as these texts. -/
def RdS (w : World) (A : Option Addr) (ss : List ByteArray) : Prop := Rd w A (ss.map Value.string)

theorem RdS.nil (w : World) (A : Option Addr) : RdS w A [] := fun h => absurd rfl h
theorem RdS.below {w w' : World} {A : Option Addr} {ss : List ByteArray} (h : RdS w A ss) (hb : Below w.heap.size w w') : RdS w' A ss := Rd.below h hb

/-- The text at k, under a name of its own. -/
theorem RdS.at_ {w : World} {A : Option Addr} {ss : List ByteArray} (h : RdS w A ss) {k : Nat} (hk : k < ss.length) :
    ∃ b off s, A = some ⟨b, off, none⟩ ∧ b < w.heap.size ∧ w.cell? ⟨b, off + k, none⟩ = some (.string s) ∧ RowKit.Hid (ss[k]? = some s) := by
  obtain ⟨b, off, e, hb, hc⟩ := h (by intro h0; have := congrArg List.length h0; simp at this; subst this; simp at hk)
  exact ⟨b, off, ss[k], e, hb, hc k _ (by simp [List.getElem?_map, List.getElem?_eq_getElem hk]), Lib.hid (List.getElem?_eq_getElem hk)⟩

theorem text_at {ss : List ByteArray} {j : Nat} {v : Value} (h : (ss.map Value.string)[j]? = some v) : v = .string (ss.getD j ByteArray.empty) := by
  rw [List.getElem?_map] at h
  rcases hz : ss[j]? with _ | z
  · rw [hz] at h; cases h
  · rw [hz] at h
    simp at h
    subst h
    simp [List.getD, hz]

theorem texts_at {w : World} {a : Addr} {ss : List ByteArray} (h : ∀ i, i < ss.length → w.cell? (a.add i) = some (.string (ss.getD i ByteArray.empty))) (hp : 0 < ss.length) :
    ∃ b off, a = ⟨b, off, none⟩ ∧ ∀ i, i < ss.length → w.cell? ⟨b, off + i, none⟩ = some (.string (ss.getD i ByteArray.empty)) := by
  obtain ⟨b, off, spot⟩ := a
  have hspot : spot = none := by simpa [Addr.add] using World.cell?_spot (h 0 hp)
  subst hspot
  exact ⟨b, off, rfl, fun j hj => by rw [← add_plain]; exact h j hj⟩

/-- A slice of texts that came in. -/
theorem open_texts {H : Type} {enc : TypeId × Value → H} {P : Program} {W : World} {t e : TypeId} {r : Reach} {b0 : Nat} {v : Value} {d : DataW H} {ps : List MemPlace} {N : Nat}
    (ht : P.underlying t = some (.slice e)) (he : P.underlying e = some .string) (hc : P.cellsOf e = 1) (hval : Value.okWide P W r b0 t v)
    (hd : DataW.Trod enc P W 0 (fun _ => true) true t v d ps) (hlt : ∀ x ∈ ps, x.block < W.heap.size)
    (hsz : ∀ elems spare, d = .slice elems spare → elems.length + spare.length ≤ N) :
    ∃ A c ss, v = .slice A ss.length c ∧ ss.length ≤ c ∧ (∀ s ∈ ss, s.size ≤ maxLen) ∧ ss.length ≤ N ∧ RdS W A ss := by
  obtain ⟨a0, len, cap, rfl⟩ := okWide_slice ht hval
  obtain ⟨fuel, hf⟩ := hd
  rcases open_strings ht he hc hf with ⟨hcs, hx⟩ | ⟨a, len', cap', ss, hcs, _, hl, hm, hz, hx, hcell, hwz⟩
  · simp [Value.cells] at hcs
    obtain ⟨rfl, rfl, rfl⟩ := hcs
    exact ⟨none, 0, [], rfl, Nat.le_refl _, fun _ h => (by cases h), by simp, RdS.nil _ _⟩
  · simp [Value.cells] at hcs
    obtain ⟨rfl, rfl, rfl⟩ := hcs
    simp only [Prod.mk.injEq] at hx
    obtain ⟨rfl, rfl⟩ := hx
    simp only [if_true] at hz
    have hbd := hsz _ _ rfl
    simp only [strs, List.length_map, List.length_take, List.length_drop] at hbd
    have hlen : (ss.take len).length = len := by simp; omega
    refine ⟨some a, cap, ss.take len, by rw [hlen], by omega, ?_, by omega, ?_⟩
    · intro s hs
      exact hwz s (List.mem_of_mem_take hs)
    · intro hne
      have hpos : 0 < ss.length := by
        rcases ss with _ | ⟨z, ss⟩
        · simp at hne
        · simp
      have hlpos : 0 < len := by
        rcases Nat.eq_zero_or_pos len with h0 | h0
        · subst h0; simp at hne
        · exact h0
      obtain ⟨b, off, rfl, hcell'⟩ := texts_at hcell hpos
      refine ⟨b, off, rfl, hlt (.cell b off) (MemPlace.mem_row.2 ⟨0, by omega, by simp⟩), fun j u hu => ?_⟩
      have hj : j < len := by
        have := (List.getElem?_eq_some_iff.1 hu).1
        simp at this
        omega
      rw [text_at hu, hcell' j (by omega)]
      simp [List.getD, hj]

/-- Where an argument's bytes are bounded by the form's own reach. -/
theorem sized_texts {H : Type} {P : Program} {ts : List TypeId} {ds : List (DataW H)} (h : (DataW.weightsEach P ts ds).all (· ≤ reachBytes) = true) {j : Nat} {t e : TypeId} {elems spare : List (DataW H)} (ht : ts[j]? = some t) (hd : ds[j]? = some (.slice elems spare))
    (hu : P.underlying t = some (.slice e)) (hb : P.bytesOf e = 16) : elems.length + spare.length ≤ 8796093022208 := by
  have := sized_slice h ht hd hu
  rw [hb] at this
  have h2 : (elems.length + spare.length) * 16 ≤ 140737488351232 := this
  omega

end Go.Proofs.Yteaohmlbddgfgaa
