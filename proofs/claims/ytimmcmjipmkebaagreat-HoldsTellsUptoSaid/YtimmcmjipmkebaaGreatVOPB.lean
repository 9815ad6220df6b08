/-
 Blocks that came in. No conditions.
-/
import Derived.Test.YtimmcmjipmkebaaGreatVBLM
import Derived.Test.YtimmcmjipmkebaaGreatVSL
namespace Go.Proofs.YtimmcmjipmkebaaGreat
open Go.ChangeShapes Go.WideShapes Go.ChangeAt Go.RowKit
set_option maxRecDepth 100000
section
variable {H : Type} {enc : TypeId × Value → H} {W : World}
theorem kcells3 : Tryz.prog.cellsOf 3 = 1 := by kernel_rfl
theorem kcells9 : Tryz.prog.cellsOf 9 = 1 := by kernel_rfl
theorem kcellsK : Tryz.prog.cellsOf 106 = 2 := by kernel_rfl
theorem opensStr {P : Program} {t : TypeId} (ht : P.underlying t = some .string) : Opens enc P W t (fun s : ByteArray => [Value.string s]) (fun s => s.size ≤ 140737488351232) := fun fuel cs x h hf => by
 obtain ⟨s, rfl, rfl, _⟩ := DataW.trod_string ht h
 refine ⟨s, rfl, ?_⟩
 have := hf s.data.toList.length (by simp [DataW.weights])
 show s.data.size ≤ _
 rw [← Array.length_toList]
 exact this
abbrev goodBk (x : Bk) : Prop := x.2.size ≤ 140737488351232 ∧ -9223372036854775808 ≤ x.1 ∧ x.1 ≤ 9223372036854775807
theorem opensBk : Opens enc Tryz.prog W 106 bkC goodBk := fun fuel cs x h hf => by
 obtain ⟨xs, n, _, rfl, hl, hxs, hel⟩ := DataW.trod_struct Tryz.underlying106 h
 rw [kcellsK] at hl
 obtain ⟨a, b, rfl⟩ : ∃ a b, cs = [a, b] := by
  rcases cs with _ | ⟨a, _ | ⟨b, _ | ⟨d, t⟩⟩⟩ <;> simp at hl
  exact ⟨a, b, rfl⟩
 have h0 : DataW.trod enc Tryz.prog W 0 (fun _ => true) true n 3 (([a, b].drop 0).take (Tryz.prog.cellsOf 3)) = xs[0]? := hel 0 _ rfl
 have h1 : DataW.trod enc Tryz.prog W 0 (fun _ => true) true n 9 (([a, b].drop 1).take (Tryz.prog.cellsOf 9)) = xs[1]? := hel 1 _ rfl
 rw [kcells3] at h0
 rw [kcells9] at h1
 have hx0 : ∃ y, xs[0]? = some y := ⟨_, qZa (by rw [hxs]; decide)⟩
 have hx1 : ∃ y, xs[1]? = some y := ⟨_, qZa (by rw [hxs]; decide)⟩
 obtain ⟨y0, e0⟩ := hx0
 obtain ⟨y1, e1⟩ := hx1
 rw [e0] at h0
 rw [e1] at h1
 obtain ⟨i, k0, _, hw⟩ := DataW.trod_int Tryz.underlying3 h0
 obtain ⟨s, k1, hs⟩ := opensStr Tryz.underlying9 n [b] y1 h1 (zgZ Tryz.underlying106 hf (i := 1) rfl (by rw [List.getElem?_map, e1]; rfl))
 injection k0 with k0
 injection k1 with k1
 subst k0
 subst k1
 exact ⟨(i, s), rfl, hs, bounds_i64 hw⟩
end
end Go.Proofs.YtimmcmjipmkebaaGreat
