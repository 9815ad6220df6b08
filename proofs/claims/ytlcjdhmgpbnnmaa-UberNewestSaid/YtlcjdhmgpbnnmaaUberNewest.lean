/-
  UberNewest holds at every input: of two sectors the greater Txg's counts, of one Txg the first; one that is none never.
  Conditions: none.
-/
import Derived.Test.YtlcjdhmgpbnnmaaUO
import Derived.Test.YtlcjdhmgpbnnmaaZ
namespace Go.Proofs.Ytlcjdhmgpbnnmaa.uberNewest
open Go.ChangeShapes Go.WideShapes Go.ChangeAt Go.RowKit

theorem own : ownKnob Try.prog.godebug = none := by kernel_rfl
theorem laidOut : laidOutB Try.prog = true := by kernel_rfl
theorem cells5 : Try.prog.cellsOf 5 = 1 := by kernel_rfl
theorem bytes5 : Try.prog.bytesOf 5 = 1 := by kernel_rfl
theorem readsB : Try.prog.readableRec 24 = true ∧ 24 < Try.prog.types.size := ⟨by kernel_rfl, of_decide_eq_true (by kernel_rfl)⟩

set_option maxRecDepth 100000 in
theorem lifted (os : Os) (started : os.Started) (H : Type) (enc : TypeId × Value → H) :
    ReturnsInHanded {} Try.checked os 5 .any (Rows.uberNewestSpec.pre6 enc Try.prog Try.f5 Rows.uberNewestRow.domain false) (Rows.uberNewestSpec.post enc Try.prog Try.f5 false true false false) := by
  refine returnsInHanded_of_change_sized (C := Try.checked) own started (by kernel_rfl) Try.func5
    (ChangeSpec.witness6 (enc := enc) (C := Try.checked) false ⟨#[], #[.slice none 0 0, .slice none 0 0], []⟩ 8 (by kernel_rfl) (by kernel_rfl) (by kernel_rfl) (by kernel_rfl)) ?_
  intro W base args ds gs before hval0 hW _ hsz0 _
  have hsz : (DataW.weightsEach Try.prog (Try.f5.params.toList ++ Rows.uberNewestSpec.plain.varTypes Try.prog) (ds ++ gs)).all (· ≤ reachBytes) = true := hsz0
  clear hsz0
  have hval : ∀ (j : Nat) t v, Try.f5.params[j]? = some t → args[j]? = some v → Value.okWide Try.prog W .any base t v := hval0
  have hW' := hW
  have hlt := hW.lt
  obtain ⟨p, q, hA0, hV, rfl, _, _⟩ := hW
  have hA : DataW.TrodAll enc Try.prog W 0 (fun _ => true) true Try.f5.params.toList args.toList ds p := hA0
  rw [Try.params5] at hA hval hsz
  obtain ⟨v0, v1, d0, d1, p0, p1, rfl, rfl, rfl, h0, h1⟩ := trodAll_two hA
  obtain ⟨rfl, rfl⟩ := trodVars_none hV
  obtain ⟨A0, c0, z0, rfl, hc0, ho0, hl0, hn0, hr0⟩ := open_octets Try.underlying24 Try.underlying5 cells5 (hval 0 24 v0 rfl rfl) h0 (fun x hx => hlt x (by simp [hx]))
    (fun elems spare e => sized_octets hsz (j := 0) (t := 24) (e := 5) rfl (by rw [e]; rfl) Try.underlying24 bytes5)
  obtain ⟨A1, c1, z1, rfl, hc1, ho1, hl1, hn1, hr1⟩ := open_octets Try.underlying24 Try.underlying5 cells5 (hval 1 24 v1 rfl rfl) h1 (fun x hx => hlt x (by simp [hx]))
    (fun elems spare e => sized_octets hsz (j := 1) (t := 24) (e := 5) rfl (by rw [e]; rfl) Try.underlying24 bytes5)
  refine (newest_walk ⟨A0, z0, c0⟩ ⟨A1, z1, c1⟩ W (slc_ok hc0 ho0 hl0 hr0) (slc_ok hc1 ho1 hl1 hr1)).mono fun e W' ⟨he, hB⟩ => ?_
  subst he
  refine ⟨_, rfl, ?_⟩
  refine law_post (tb := 4) laidOut ?_ rfl rfl Try.underlying4 hW' hB rfl rfl rfl
  intro t ht
  have ht' : t ∈ [24, 24] := ht
  simp at ht'
  subst ht'
  exact readsB

theorem proved : Rows.UberNewestSaid :=
  OpenClaim.holds_of_wide 5 Try.f5 rfl rfl rfl rfl rfl rfl rfl ⟨rfl, rfl, rfl, rfl, rfl⟩ rfl rfl rfl rfl rfl (by kernel_rfl) Try.func5 (by kernel_rfl)
    (of_decide_eq_true (by kernel_rfl)) (by unfold Func.isWrapper; first | (rw [if_pos (by decide +kernel)]; kernel_rfl) | (rw [if_neg (by decide +kernel)]; exact ⟨rfl, rfl⟩))
    (fun os started H enc _ => lifted os started H enc)

end Go.Proofs.Ytlcjdhmgpbnnmaa.uberNewest
