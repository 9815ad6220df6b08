/-
  PagesTells holds at every input: the pages' functions tell what the reference tells.
  Conditions: none.
-/
import Derived.Test.YthelklgpabjfkaaPI
import Derived.Test.YthelklgpabjfkaaZ
namespace Go.Proofs.Ythelklgpabjfkaa.pagesTells
open Go.ChangeShapes Go.WideShapes Go.ChangeAt Go.RowKit

theorem own : ownKnob Try.prog.godebug = none := by kernel_rfl
theorem laidOut : laidOutB Try.prog = true := by kernel_rfl
theorem cells5 : Try.prog.cellsOf 5 = 1 := by kernel_rfl
theorem bytes5 : Try.prog.bytesOf 5 = 1 := by kernel_rfl
theorem readsI : Try.prog.readableRec 3 = true ∧ 3 < Try.prog.types.size := ⟨by kernel_rfl, of_decide_eq_true (by kernel_rfl)⟩
theorem readsB : Try.prog.readableRec 22 = true ∧ 22 < Try.prog.types.size := ⟨by kernel_rfl, of_decide_eq_true (by kernel_rfl)⟩

set_option maxRecDepth 100000 in
theorem lifted (os : Os) (started : os.Started) (H : Type) (enc : TypeId × Value → H) :
    ReturnsInHanded {} Try.checked os 3 .any (Rows.pagesTellsSpec.pre6 enc Try.prog Try.f3 Rows.pagesTellsRow.domain false) (Rows.pagesTellsSpec.post enc Try.prog Try.f3 false true false false) := by
  refine returnsInHanded_of_change_sized (C := Try.checked) own started (by kernel_rfl) Try.func3
    (ChangeSpec.witness6 (enc := enc) (C := Try.checked) false ⟨#[], #[.int .i64 0, .slice none 0 0, .int .i64 0, .slice none 0 0], []⟩ 8 (by kernel_rfl) (by kernel_rfl) (by kernel_rfl) (by kernel_rfl)) ?_
  intro W base args ds gs before hval0 hW _ hsz0 _
  have hsz : (DataW.weightsEach Try.prog (Try.f3.params.toList ++ Rows.pagesTellsSpec.plain.varTypes Try.prog) (ds ++ gs)).all (· ≤ reachBytes) = true := hsz0
  clear hsz0
  have hval : ∀ (j : Nat) t v, Try.f3.params[j]? = some t → args[j]? = some v → Value.okWide Try.prog W .any base t v := hval0
  have hW' := hW
  have hlt := hW.lt
  obtain ⟨p, q, hA0, hV, rfl, _, _⟩ := hW
  have hA : DataW.TrodAll enc Try.prog W 0 (fun _ => true) true Try.f3.params.toList args.toList ds p := hA0
  rw [Try.params3] at hA hval hsz
  obtain ⟨v0, v1, v2, v3, d0, d1, d2, d3, p0, p1, p2, p3, rfl, rfl, rfl, h0, h1, h2, h3⟩ := trodAll_four hA
  obtain ⟨rfl, rfl⟩ := trodVars_none hV
  obtain ⟨n0, rfl, rfl, rfl, w0⟩ := open_int Try.underlying3 (hval 0 3 v0 rfl rfl) h0
  have hb0 := bounds_i64 w0
  obtain ⟨A1, c1, z1, rfl, hc1, ho1, hl1, hn1, hr1⟩ := open_octets Try.underlying22 Try.underlying5 cells5 (hval 1 22 v1 rfl rfl) h1 (fun x hx => hlt x (by simp [hx]))
    (fun elems spare e => sized_octets hsz (j := 1) (t := 22) (e := 5) rfl (by rw [e]; rfl) Try.underlying22 bytes5)
  obtain ⟨n2, rfl, rfl, rfl, w2⟩ := open_int Try.underlying3 (hval 2 3 v2 rfl rfl) h2
  have hb2 := bounds_i64 w2
  obtain ⟨A3, c3, z3, rfl, hc3, ho3, hl3, hn3, hr3⟩ := open_octets Try.underlying22 Try.underlying5 cells5 (hval 3 22 v3 rfl rfl) h3 (fun x hx => hlt x (by simp [hx]))
    (fun elems spare e => sized_octets hsz (j := 3) (t := 22) (e := 5) rfl (by rw [e]; rfl) Try.underlying22 bytes5)
  refine (tells_walk n0 hb0.2 ⟨A1, z1, c1⟩ n2 ⟨A3, z3, c3⟩ W (slc_ok hc1 ho1 hl1 hr1) hn1 (slc_ok hc3 ho3 hl3 hr3)).mono fun e W' ⟨he, hB⟩ => ?_
  subst he
  refine ⟨_, rfl, ?_⟩
  refine law_post (tb := 4) laidOut ?_ rfl rfl Try.underlying4 hW' hB rfl rfl rfl
  intro t ht
  have ht' : t ∈ [3, 22, 3, 22] := ht
  simp at ht'
  rcases ht' with rfl | rfl | rfl | rfl
  · exact readsI
  · exact readsB
  · exact readsI
  · exact readsB

theorem proved : Rows.PagesTellsSaid :=
  OpenClaim.holds_of_wide 3 Try.f3 rfl rfl rfl rfl rfl rfl rfl ⟨rfl, rfl, rfl, rfl, rfl⟩ rfl rfl rfl rfl rfl (by kernel_rfl) Try.func3 (by kernel_rfl)
    (of_decide_eq_true (by kernel_rfl)) (by unfold Func.isWrapper; first | (rw [if_pos (by decide +kernel)]; kernel_rfl) | (rw [if_neg (by decide +kernel)]; exact ⟨rfl, rfl⟩))
    (fun os started H enc _ => lifted os started H enc)

end Go.Proofs.Ythelklgpabjfkaa.pagesTells
