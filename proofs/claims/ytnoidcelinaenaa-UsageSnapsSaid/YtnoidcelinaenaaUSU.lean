/-
  What is read of a set, from a world on. Conditions: the set reads.
-/
import Derived.Test.YtnoidcelinaenaaUSP
import Derived.Test.YtnoidcelinaenaaUSR
namespace Go.Proofs.Ytnoidcelinaenaa
open Go.ChangeShapes Go.WideShapes Go.ChangeAt Go.RowKit
set_option maxRecDepth 100000
set_option linter.unusedSimpArgs false

/-- What is read of a set, from a world on. -/
structure SetAt (b off : Nat) (B : Nat) (s : MSet) (W : World) : Prop where
  z2 : W.cell? ⟨B, 2, none⟩ = some (.slice s.body_.A s.body_.l.length s.body_.c)
  z3 : W.cell? ⟨B, 3, none⟩ = some (.slice (some ⟨b, off, none⟩) s.snaps_.l.length s.snaps_.c)
  el : ∀ (i : Nat) (y : MSnap), s.snaps_.l[i]? = some y → W.cell? ⟨b, off + i * 5 + 2, none⟩ = some (.slice y.body_.A y.body_.l.length y.body_.c)
  rd : ∀ x ∈ lineM s, Rd W x.A (bks x.l) ∧ x.l.length * 24 ≤ 140737488351232
theorem setAt_of {b off B : Nat} {s : MSet} {w1 W : World} (hk : Blk w1 B 32 s.cells) (hA : s.snaps_.A = some ⟨b, off, none⟩) (hs : SetU w1 s) (hB : Below w1.heap.size w1 W) : SetAt b off B s W := by
  have k1 := hk.below hB hk.lt
  have z2 := k1.cell 2
  have z3 := k1.cell 3
  simp only [List.getElem?_cons_zero, List.getElem?_cons_succ] at z2 z3
  rw [hA] at z3
  refine ⟨z2, z3, fun i y hy => ?_, fun x hx => ⟨(hs.bo x hx).1.below hB, (hs.bo x hx).2⟩⟩
  obtain ⟨b', off', e, _, hc⟩ := Rd.elem (cells := MSnap.cells) (n := 5) (fun _ => rfl) (by omega) (hs.sn.below hB) hy
  rw [hA] at e
  injection e with e
  injection e with e1 e2 _
  subst e1 e2
  exact hc 2 _ rfl
theorem line_at {s : MSet} {i : Nat} {y : MSnap} (h : s.snaps_.l[i]? = some y) : (lineM s)[i]? = some y.body_ := by
  unfold lineM
  rw [List.getElem?_append_left (by rw [List.length_map]; exact (List.getElem?_eq_some_iff.1 h).1), List.getElem?_map, h]
  rfl
theorem line_last (s : MSet) : (lineM s)[s.snaps_.l.length]? = some s.body_ := by
  unfold lineM
  rw [List.getElem?_append_right (by simp)]
  simp


end Go.Proofs.Ytnoidcelinaenaa
