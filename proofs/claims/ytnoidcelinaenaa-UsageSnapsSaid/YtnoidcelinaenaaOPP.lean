/-
  Properties and texts that came in. No conditions.
-/
import Derived.Test.YtnoidcelinaenaaEM
namespace Go.Proofs.Ytnoidcelinaenaa
open Go.ChangeShapes Go.WideShapes Go.ChangeAt Go.RowKit
set_option maxRecDepth 100000

section
variable {H : Type} {enc : TypeId × Value → H} {W : World}
set_option maxRecDepth 100000 in
theorem kcPr : Try.prog.cellsOf 130 = 2 := by kernel_rfl
set_option maxRecDepth 100000 in
theorem kbPr : Try.prog.bytesOf 130 = 32 := by kernel_rfl
set_option maxRecDepth 100000 in
theorem kcStr : Try.prog.cellsOf 9 = 1 := by kernel_rfl
set_option maxRecDepth 100000 in
theorem kbStr : Try.prog.bytesOf 9 = 16 := by kernel_rfl
/-- A property that came in. -/
def goodPr (x : Pr) : Prop := x.1.size ≤ 140737488351232 ∧ x.2.size ≤ 140737488351232
theorem opensPr : Opens enc Try.prog W 130 prC goodPr := fun fuel cs x h hf => by
  obtain ⟨xs, n, _, rfl, hl, hxs, hel⟩ := DataW.trod_struct Try.underlying130 h
  rw [kcPr] at hl
  obtain ⟨c0, c1, rfl⟩ : ∃ c0 c1, cs = [c0, c1] := by
    rcases cs with _ | ⟨a, _ | ⟨b, _ | ⟨d, t⟩⟩⟩ <;> simp at hl
    exact ⟨a, b, rfl⟩
  have h0 : DataW.trod enc Try.prog W 0 (fun _ => true) true n 9 (([c0, c1].drop 0).take (Try.prog.cellsOf 9)) = xs[0]? := hel 0 _ rfl
  have h1 : DataW.trod enc Try.prog W 0 (fun _ => true) true n 9 (([c0, c1].drop 1).take (Try.prog.cellsOf 9)) = xs[1]? := hel 1 _ rfl
  rw [kcStr] at h0 h1
  obtain ⟨y0, e0⟩ : ∃ y, xs[0]? = some y := ⟨_, List.getElem?_eq_getElem (by rw [hxs]; decide)⟩
  obtain ⟨y1, e1⟩ : ∃ y, xs[1]? = some y := ⟨_, List.getElem?_eq_getElem (by rw [hxs]; decide)⟩
  rw [e0] at h0
  rw [e1] at h1
  obtain ⟨a0, k0, g0⟩ := opensTx Try.underlying9 n [c0] y0 h0 (fit_part Try.underlying130 hf (i := 0) rfl (by rw [List.getElem?_map, e0]; rfl))
  obtain ⟨a1, k1, g1⟩ := opensTx Try.underlying9 n [c1] y1 h1 (fit_part Try.underlying130 hf (i := 1) rfl (by rw [List.getElem?_map, e1]; rfl))
  injection k0 with k0
  injection k1 with k1
  subst k0
  subst k1
  exact ⟨(a0, a1), rfl, g0, g1⟩
/-- A list of properties came in. -/
abbrev CameP (W : World) (s : Sl Pr) : Prop := SlGood W prC goodPr 32 s
theorem open_props {r : Reach} {b0 : Nat} {v : Value} {d : DataW H} {ps : List MemPlace} (hval : Value.okWide Try.prog W r b0 30 v) (hd : DataW.Trod enc Try.prog W 0 (fun _ => true) true 30 v d ps) (hf : Fit Try.prog 30 d) :
    ∃ s : Sl Pr, v = s.val ∧ CameP W s :=
  argSl Try.underlying30 (opensSl Try.underlying30 kcPr kbPr (by decide) (fun _ => rfl) opensPr) hval hd hf
/-- A list of texts came in. -/
abbrev CameT (W : World) (s : Sl ByteArray) : Prop := SlGood W (fun s => [Value.string s]) (fun s => s.size ≤ 140737488351232) 16 s
theorem open_strs {r : Reach} {b0 : Nat} {v : Value} {d : DataW H} {ps : List MemPlace} (hval : Value.okWide Try.prog W r b0 40 v) (hd : DataW.Trod enc Try.prog W 0 (fun _ => true) true 40 v d ps) (hf : Fit Try.prog 40 d) :
    ∃ s : Sl ByteArray, v = s.val ∧ CameT W s :=
  argSl Try.underlying40 (opensSl Try.underlying40 kcStr kbStr (by decide) (fun _ => rfl) (opensTx Try.underlying9)) hval hd hf
end
theorem CameP.len {W : World} {s : Sl Pr} (h : CameP W s) : s.l.length ≤ 4398046510976 := by have := SlGood.len h; omega
theorem CameP.sz {W : World} {s : Sl Pr} (h : CameP W s) : ∀ x ∈ s.l, x.1.size ≤ 140737488351232 ∧ x.2.size ≤ 140737488351232 := SlGood.el h
theorem CameP.rdp {W : World} {s : Sl Pr} (h : CameP W s) : Rd W s.A (prs s.l) := SlGood.rd h
theorem CameP.each {W : World} {s : Sl Pr} (h : CameP W s) {W' : World} (hB : Below W.heap.size W W') : Rd W' s.A (prs s.l) ∧ s.l.length ≤ 4398046511103 ∧ ∀ x ∈ s.l, x.1.size ≤ 140737488351232 ∧ x.2.size ≤ 140737488351232 := ⟨h.rdp.below hB, by have := h.len; omega, h.sz⟩
theorem CameT.len16 {W : World} {s : Sl ByteArray} (h : CameT W s) : s.l.length ≤ 8796093021952 := by have := SlGood.len h; omega

end Go.Proofs.Ytnoidcelinaenaa
