/-
  StoreCrashes holds at every input: one of both: wherever a commit is cut off, whatever writes are kept: opened, there is the store ahead of it, or behind it.
  Conditions: none.
-/
import Derived.Test.YtmehjmkakkiedaaGreatMVG
import Derived.Test.YtmehjmkakkiedaaGreatMGW
import Derived.Test.YtmehjmkakkiedaaGreatMZ
namespace Go.Proofs.YtmehjmkakkiedaaGreat.storeCrashes
open Go.ChangeShapes Go.WideShapes Go.ChangeAt Go.RowKit
set_option maxRecDepth 100000

theorem own : ownKnob Tryz.prog.godebug = none := by kernel_rfl
theorem laidOut : laidOutB Tryz.prog = true := by kernel_rfl
theorem readsI : Tryz.prog.readableRec 3 = true ∧ 3 < Tryz.prog.types.size := ⟨by kernel_rfl, of_decide_eq_true (by kernel_rfl)⟩
theorem readsJ : Tryz.prog.readableRec 22 = true ∧ 22 < Tryz.prog.types.size := ⟨by kernel_rfl, of_decide_eq_true (by kernel_rfl)⟩
theorem readsM : Tryz.prog.readableRec 51 = true ∧ 51 < Tryz.prog.types.size := ⟨by kernel_rfl, of_decide_eq_true (by kernel_rfl)⟩

set_option maxRecDepth 100000 in
theorem lifted (os : Os) (started : os.Started) (H : Type) (enc : TypeId × Value → H) :
    ReturnsInHanded {} Tryz.checked os 4 .any (Rows.storeCrashesSpec.pre6 enc Tryz.prog Tryz.f4 Rows.storeCrashesRow.domain false) (Rows.storeCrashesSpec.post enc Tryz.prog Tryz.f4 false true false false) := by
  refine returnsInHanded_of_change_sized (C := Tryz.checked) own started (by kernel_rfl) Tryz.func4
    (ChangeSpec.witness6 (enc := enc) (C := Tryz.checked) false ⟨#[], #[.int .i64 0, .slice none 0 0, .slice none 0 0, .int .i64 0, .slice none 0 0], []⟩ 8 (by kernel_rfl) (by kernel_rfl) (by kernel_rfl) (by kernel_rfl)) ?_
  intro W base args ds gs before hval0 hW _ hsz0 _
  have hsz : (DataW.weightsEach Tryz.prog (Tryz.f4.params.toList ++ Rows.storeCrashesSpec.plain.varTypes Tryz.prog) (ds ++ gs)).all (· ≤ reachBytes) = true := hsz0
  clear hsz0
  have hval : ∀ (j : Nat) t v, Tryz.f4.params[j]? = some t → args[j]? = some v → Value.okWide Tryz.prog W .any base t v := hval0
  have hW' := hW
  have hlt := hW.lt
  obtain ⟨p, q, hA0, hV, rfl, _, _⟩ := hW
  have hA : DataW.TrodAll enc Tryz.prog W 0 (fun _ => true) true Tryz.f4.params.toList args.toList ds p := hA0
  rw [Tryz.params4] at hA hval hsz
  obtain ⟨v0, v1, v2, v3, v4, d0, d1, d2, d3, d4, p0, p1, p2, p3, p4, rfl, rfl, rfl, h0, h1, h2, h3, h4⟩ := trodAll_five hA
  obtain ⟨rfl, rfl⟩ := trodVars_none hV
  obtain ⟨n0, rfl, rfl, rfl, w0⟩ := open_int Tryz.underlying3 (hval 0 3 v0 rfl rfl) h0
  have hb0 := bounds_i64 w0
  obtain ⟨A1, c1, z1, rfl, hc1, hn1, hr1, hg1, hl1⟩ := open_objects (hval 1 22 v1 rfl rfl) h1 (fit_arg hsz (j := 1) rfl rfl)
  obtain ⟨A2, c2, z2, rfl, hc2, hn2, hr2, hg2, hl2⟩ := open_objects (hval 2 22 v2 rfl rfl) h2 (fit_arg hsz (j := 2) rfl rfl)
  obtain ⟨n3, rfl, rfl, rfl, w3⟩ := open_int Tryz.underlying3 (hval 3 3 v3 rfl rfl) h3
  have hb3 := bounds_i64 w3
  obtain ⟨A4, z4, c4, rfl, hc4, hn4, hr4, hl4⟩ := open_bools (hval 4 51 v4 rfl rfl) h4 (fit_arg hsz (j := 4) rfl rfl)
  refine (crashes10_walk n0 A1 c1 z1 A2 c2 z2 n3 hb3 A4 z4 c4 W ⟨hc1, hn1, hr1, hg1, hl1⟩ ⟨hc2, hn2, hr2, hg2, hl2⟩ hr4).mono fun e W' ⟨he, hB⟩ => ?_
  subst he
  refine ⟨_, rfl, ?_⟩
  refine law_post (tb := 4) laidOut ?_ rfl rfl Tryz.underlying4 hW' hB rfl rfl rfl
  intro t ht
  have ht' : t ∈ [3, 22, 22, 3, 51] := ht
  simp only [List.mem_cons, List.not_mem_nil, or_false] at ht'
  rcases ht' with rfl | rfl | rfl | rfl | rfl
  · exact readsI
  · exact readsJ
  · exact readsJ
  · exact readsI
  · exact readsM

theorem proved : Rows.StoreCrashesSaid :=
  OpenClaim.holds_of_wide 4 Tryz.f4 rfl rfl rfl rfl rfl rfl rfl ⟨rfl, rfl, rfl, rfl, rfl⟩ rfl rfl rfl rfl rfl (by kernel_rfl) Tryz.func4 (by kernel_rfl)
    (of_decide_eq_true (by kernel_rfl)) (by unfold Func.isWrapper; first | (rw [if_pos (by decide +kernel)]; kernel_rfl) | (rw [if_neg (by decide +kernel)]; exact ⟨rfl, rfl⟩))
    (fun os started H enc _ => lifted os started H enc)

end Go.Proofs.YtmehjmkakkiedaaGreat.storeCrashes
