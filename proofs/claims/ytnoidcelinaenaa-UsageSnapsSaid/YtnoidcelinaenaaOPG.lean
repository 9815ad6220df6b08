/-
  Grants that came in. No conditions.
-/
import Derived.Test.YtnoidcelinaenaaGRX
namespace Go.Proofs.Ytnoidcelinaenaa
open Go.ChangeShapes Go.WideShapes Go.ChangeAt Go.RowKit
set_option maxRecDepth 100000

section
variable {H : Type} {enc : TypeId × Value → H} {W : World}
set_option maxRecDepth 100000 in
theorem kcGr : Try.prog.cellsOf 125 = 3 := by kernel_rfl
set_option maxRecDepth 100000 in
theorem kbGr : Try.prog.bytesOf 125 = 40 := by kernel_rfl
set_option maxRecDepth 100000 in
theorem kcStrG : Try.prog.cellsOf 9 = 1 := by kernel_rfl
set_option maxRecDepth 100000 in
theorem kcIntG : Try.prog.cellsOf 3 = 1 := by kernel_rfl
/-- A grant that came in. -/
def goodGr (x : Gr) : Prop := x.1.size ≤ 140737488351232 ∧ x.2.1.size ≤ 140737488351232 ∧ -9223372036854775808 ≤ x.2.2 ∧ x.2.2 ≤ 9223372036854775807
theorem opensGr : Opens enc Try.prog W 125 grC goodGr := fun fuel cs x h hf => by
  obtain ⟨xs, n, _, rfl, hl, hxs, hel⟩ := DataW.trod_struct Try.underlying125 h
  rw [kcGr] at hl
  obtain ⟨c0, c1, c2, rfl⟩ : ∃ c0 c1 c2, cs = [c0, c1, c2] := by
    rcases cs with _ | ⟨a, _ | ⟨b, _ | ⟨d, _ | ⟨e, t⟩⟩⟩⟩ <;> simp at hl
    exact ⟨a, b, d, rfl⟩
  have h0 : DataW.trod enc Try.prog W 0 (fun _ => true) true n 9 (([c0, c1, c2].drop 0).take (Try.prog.cellsOf 9)) = xs[0]? := hel 0 _ rfl
  have h1 : DataW.trod enc Try.prog W 0 (fun _ => true) true n 9 (([c0, c1, c2].drop 1).take (Try.prog.cellsOf 9)) = xs[1]? := hel 1 _ rfl
  have h2 : DataW.trod enc Try.prog W 0 (fun _ => true) true n 3 (([c0, c1, c2].drop 2).take (Try.prog.cellsOf 3)) = xs[2]? := hel 2 _ rfl
  rw [kcStrG] at h0 h1
  rw [kcIntG] at h2
  obtain ⟨y0, e0⟩ : ∃ y, xs[0]? = some y := ⟨_, List.getElem?_eq_getElem (by rw [hxs]; decide)⟩
  obtain ⟨y1, e1⟩ : ∃ y, xs[1]? = some y := ⟨_, List.getElem?_eq_getElem (by rw [hxs]; decide)⟩
  obtain ⟨y2, e2⟩ : ∃ y, xs[2]? = some y := ⟨_, List.getElem?_eq_getElem (by rw [hxs]; decide)⟩
  rw [e0] at h0
  rw [e1] at h1
  rw [e2] at h2
  obtain ⟨a0, k0, g0⟩ := opensTx Try.underlying9 n [c0] y0 h0 (fit_part Try.underlying125 hf (i := 0) rfl (by rw [List.getElem?_map, e0]; rfl))
  obtain ⟨a1, k1, g1⟩ := opensTx Try.underlying9 n [c1] y1 h1 (fit_part Try.underlying125 hf (i := 1) rfl (by rw [List.getElem?_map, e1]; rfl))
  obtain ⟨a2, k2, g2⟩ := opensI64 Try.underlying3 n [c2] y2 h2 (fit_part Try.underlying125 hf (i := 2) rfl (by rw [List.getElem?_map, e2]; rfl))
  injection k0 with k0
  injection k1 with k1
  injection k2 with k2
  subst k0
  subst k1
  subst k2
  exact ⟨(a0, a1, a2), rfl, g0, g1, g2⟩
/-- A list of grants came in. -/
abbrev CameG (W : World) (s : Sl Gr) : Prop := SlGood W grC goodGr 40 s
theorem open_grants {r : Reach} {b0 : Nat} {v : Value} {d : DataW H} {ps : List MemPlace} (hval : Value.okWide Try.prog W r b0 23 v) (hd : DataW.Trod enc Try.prog W 0 (fun _ => true) true 23 v d ps) (hf : Fit Try.prog 23 d) :
    ∃ s : Sl Gr, v = s.val ∧ CameG W s :=
  argSl Try.underlying23 (opensSl Try.underlying23 kcGr kbGr (by decide) (fun _ => rfl) opensGr) hval hd hf
end

end Go.Proofs.Ytnoidcelinaenaa
