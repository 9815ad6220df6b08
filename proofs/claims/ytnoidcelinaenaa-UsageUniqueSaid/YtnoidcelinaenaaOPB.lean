/-
  Blocks that came in. No conditions.
-/
import Derived.Test.YtnoidcelinaenaaBLM
import Derived.Test.YtnoidcelinaenaaSL
namespace Go.Proofs.Ytnoidcelinaenaa
open Go.ChangeShapes Go.WideShapes Go.ChangeAt Go.RowKit
set_option maxRecDepth 100000

section
variable {H : Type} {enc : TypeId × Value → H} {W : World}
set_option maxRecDepth 100000 in
theorem kcells3 : Try.prog.cellsOf 3 = 1 := by kernel_rfl
set_option maxRecDepth 100000 in
theorem kcells9 : Try.prog.cellsOf 9 = 1 := by kernel_rfl
set_option maxRecDepth 100000 in
theorem kcellsK : Try.prog.cellsOf 65 = 2 := by kernel_rfl
set_option maxRecDepth 100000 in
theorem kbytesK : Try.prog.bytesOf 65 = 24 := by kernel_rfl

theorem opensStr {P : Program} {t : TypeId} (ht : P.underlying t = some .string) : Opens enc P W t (fun s : ByteArray => [Value.string s]) (fun s => s.size ≤ 140737488351232) := fun fuel cs x h hf => by
  obtain ⟨s, rfl, rfl, _⟩ := DataW.trod_string ht h
  refine ⟨s, rfl, ?_⟩
  have := hf s.data.toList.length (by simp [DataW.weights])
  show s.data.size ≤ _
  rw [← Array.length_toList]
  exact this
/-- A block that came in. -/
abbrev goodBk (x : Bk) : Prop := x.2.size ≤ 140737488351232 ∧ -9223372036854775808 ≤ x.1 ∧ x.1 ≤ 9223372036854775807
theorem opensBk : Opens enc Try.prog W 65 bkC goodBk := fun fuel cs x h hf => by
  obtain ⟨xs, n, _, rfl, hl, hxs, hel⟩ := DataW.trod_struct Try.underlying65 h
  rw [kcellsK] at hl
  obtain ⟨a, b, rfl⟩ : ∃ a b, cs = [a, b] := by
    rcases cs with _ | ⟨a, _ | ⟨b, _ | ⟨d, t⟩⟩⟩ <;> simp at hl
    exact ⟨a, b, rfl⟩
  have h0 : DataW.trod enc Try.prog W 0 (fun _ => true) true n 3 (([a, b].drop 0).take (Try.prog.cellsOf 3)) = xs[0]? := hel 0 _ rfl
  have h1 : DataW.trod enc Try.prog W 0 (fun _ => true) true n 9 (([a, b].drop 1).take (Try.prog.cellsOf 9)) = xs[1]? := hel 1 _ rfl
  rw [kcells3] at h0
  rw [kcells9] at h1
  have hx0 : ∃ y, xs[0]? = some y := ⟨_, List.getElem?_eq_getElem (by rw [hxs]; decide)⟩
  have hx1 : ∃ y, xs[1]? = some y := ⟨_, List.getElem?_eq_getElem (by rw [hxs]; decide)⟩
  obtain ⟨y0, e0⟩ := hx0
  obtain ⟨y1, e1⟩ := hx1
  rw [e0] at h0
  rw [e1] at h1
  obtain ⟨i, k0, _, hw⟩ := DataW.trod_int Try.underlying3 h0
  obtain ⟨s, k1, hs⟩ := opensStr Try.underlying9 n [b] y1 h1 (fit_part Try.underlying65 hf (i := 1) rfl (by rw [List.getElem?_map, e1]; rfl))
  injection k0 with k0
  injection k1 with k1
  subst k0
  subst k1
  exact ⟨(i, s), rfl, hs, bounds_i64 hw⟩
theorem cellsSlice {v : Value} {A : Option Addr} {n c : Nat} {a0 : Option Addr} {len cap : Nat} (h0 : v = .slice a0 len cap) (h : v.cells.toList = [.slice A n c]) : v = .slice A n c := by
  subst h0
  simpa [Value.cells] using h
theorem open_blocks {r : Reach} {b0 : Nat} {v : Value} {d : DataW H} {ps : List MemPlace} (hval : Value.okWide Try.prog W r b0 28 v) (hd : DataW.Trod enc Try.prog W 0 (fun _ => true) true 28 v d ps) (hf : Fit Try.prog 28 d) :
    ∃ A c l, v = .slice A l.length c ∧ l.length ≤ c ∧ (A = none → c = 0) ∧ Rd W A (bks l) ∧ (∀ x ∈ l, x.2.size ≤ 140737488351232) ∧ l.length ≤ 5864062014805 ∧ l.length * 24 ≤ 140737488355328 := by
  obtain ⟨a0, len, cap, h0⟩ := okWide_slice Try.underlying28 hval
  obtain ⟨fuel, hx⟩ := hd
  obtain ⟨A, l, c, hcs, hc, hn, hr, hg, hb⟩ := opens_slice Try.underlying28 kcellsK (by omega) (fun _ => rfl) opensBk hx hf
  rw [kbytesK] at hb
  have hb2 : l.length * 24 ≤ 140737488351232 := hb
  exact ⟨A, c, l, cellsSlice h0 hcs, hc, hn, hr, fun x hx => (hg x hx).1, by omega, by omega⟩
end

end Go.Proofs.Ytnoidcelinaenaa
