/-
  FletchParts holds: behind a text of whole words, and then another one, the sum is that of both.
  Conditions: the arguments hold together at most 1048576 values (the second form's own condition).
-/
import Derived.Test.YthchpjfnbcjjbaaFP
import Derived.Test.YthchpjfnbcjjbaaFS
import Derived.Test.YthchpjfnbcjjbaaZ
import Derived.JoinedCond
namespace Go.Proofs.Ythchpjfnbcjjbaa.fletchParts
open Go.ChangeShapes Go.WideShapes Go.ChangeAt Go.RowKit

theorem own : ownKnob Try.prog.godebug = none := by kernel_rfl
theorem laidOut : laidOutB Try.prog = true := by kernel_rfl
theorem cells5 : Try.prog.cellsOf 5 = 1 := by kernel_rfl
theorem readsB : Try.prog.readableRec 25 = true ∧ 25 < Try.prog.types.size := ⟨by kernel_rfl, of_decide_eq_true (by kernel_rfl)⟩

set_option maxRecDepth 100000 in
theorem lifted (os : Os) (started : os.Started) (H : Type) (enc : TypeId × Value → H) (F : Stop.Interp) :
    ReturnsInHanded {} Try.checked os 5 .any ((Rows.OpenSpec.upto Rows.fletchPartsSpec).pre6 enc Try.prog Try.f5 Rows.fletchPartsUptoRow.domain false) (((Rows.OpenSpec.upto Rows.fletchPartsSpec).at F).post enc Try.prog Try.f5 false true false false) := by
  refine returnsInHanded_of_cond (C := Try.checked) (s := Rows.OpenSpec.upto Rows.fletchPartsSpec) (k := Rows.uptoSmall) rfl own started (by kernel_rfl) Try.func5
    (OpenSpec.witness (enc := enc) (C := Try.checked) (s := Rows.OpenSpec.upto Rows.fletchPartsSpec) (k := Rows.uptoSmall) rfl false ⟨#[], #[.agg #[.int .u64 0, .int .u64 0, .int .u64 0, .int .u64 0], .slice none 0 0, .slice none 0 0], []⟩ 8 (by kernel_rfl) (by kernel_rfl) (by kernel_rfl)
      (x := ([.agg [.lit (.int .u64 0), .lit (.int .u64 0), .lit (.int .u64 0), .lit (.int .u64 0)], .nil, .nil], [], [])) (by kernel_rfl) rfl (by kernel_rfl)) ?_
  intro W base args ds gs before hval0 hW0 _ hk _
  have hval : ∀ (j : Nat) t v, Try.f5.params[j]? = some t → args[j]? = some v → Value.okWide Try.prog W .any base t v := hval0
  have hW : DataW.Whole enc Try.prog Try.f5.params.toList Rows.fletchPartsSpec.vars false W args.toList ds gs before := hW0
  have hW' := hW
  have hlt := hW.lt
  obtain ⟨p, q, hA0, hV, rfl, _, _⟩ := hW
  have hA : DataW.TrodAll enc Try.prog W 0 (fun _ => true) true Try.f5.params.toList args.toList ds p := hA0
  rw [Try.params5] at hA hval
  obtain ⟨v0, v1, v2, d0, d1, d2, p0, p1, p2, rfl, rfl, rfl, h0, h1, h2⟩ := trodAll_three hA
  obtain ⟨rfl, rfl⟩ := trodVars_none hV
  obtain ⟨s, rfl, _⟩ := open_sum (hval 0 24 v0 rfl rfl) h0
  obtain ⟨A, ca, za, rfl, hpa, hoa, hla, hna, hra⟩ := open_octets (N := 1048576) Try.underlying25 Try.underlying5 cells5 (hval 1 25 v1 rfl rfl) h1 (fun x hx => hlt x (by simp [hx]))
    (fun elems spare e => bulk_octets hk (by rw [e]; simp))
  obtain ⟨B, cb, zb, rfl, hpb, hob, hlb, hnb, hrb⟩ := open_octets (N := 1048576) Try.underlying25 Try.underlying5 cells5 (hval 2 25 v2 rfl rfl) h2 (fun x hx => hlt x (by simp [hx]))
    (fun elems spare e => bulk_octets hk (by rw [e]; simp))
  refine (parts_walk s A ca za hoa hla hpa hna B cb zb hob hlb hpb hnb W hra hrb).mono fun e W' ⟨he, hB⟩ => ?_
  subst he
  refine ⟨_, rfl, ?_⟩
  refine law_post (s := Rows.fletchPartsSpec) (tb := 4) laidOut ?_ rfl rfl Try.underlying4 hW' hB rfl rfl rfl
  intro t ht
  have ht' : t ∈ [24, 25, 25] := ht
  simp at ht'
  rcases ht' with rfl | rfl
  · exact readsSum
  · exact readsB

theorem proved : Rows.FletchPartsUptoSaid :=
  OpenClaim.holds_of_cond 5 Try.f5 rfl rfl rfl rfl rfl rfl rfl ⟨rfl, rfl, rfl, rfl, rfl⟩ rfl rfl rfl rfl rfl (by kernel_rfl) Try.func5 (by kernel_rfl)
    (of_decide_eq_true (by kernel_rfl)) (by unfold Func.isWrapper; first | (rw [if_pos (by decide +kernel)]; kernel_rfl) | (rw [if_neg (by decide +kernel)]; exact ⟨rfl, rfl⟩))
    (fun os started H enc _ F => lifted os started H enc F)

end Go.Proofs.Ythchpjfnbcjjbaa.fletchParts
