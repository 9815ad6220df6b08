/-
  HoldsNames, in its second form: each of all that are held is a snapshot's path and name
  Conditions: none but the form’s own.
-/
import Derived.Test.YtimmcmjipmkebaaGreatSDLE
import Derived.Test.YtimmcmjipmkebaaGreatSTMD
import Derived.Test.YtimmcmjipmkebaaGreatSW
import Derived.Test.YtimmcmjipmkebaaGreatSRD
namespace Go.Proofs.YtimmcmjipmkebaaGreat.holdsNames
open Go.ChangeShapes Go.WideShapes Go.ChangeAt Go.RowKit
set_option maxRecDepth 100000
theorem own : ownKnob Tryz.prog.godebug = none := by kernel_rfl
theorem laidOut : laidOutB Tryz.prog = true := by kernel_rfl
theorem readsX : Tryz.prog.readableRec 27 = true ∧ 27 < Tryz.prog.types.size := ⟨by kernel_rfl, of_decide_eq_true (by kernel_rfl)⟩
theorem closedT : closedB Tryz.prog [27, 9, 3, 22, 52, 45, 106, 50, 49, 46, 47, 109, 23, 111, 24, 91, 89, 87, 85, 4, 25, 104, 28] 224 = true := by kernel_rfl
theorem bulk_one {H : Type} {l : List (DataW H)} {d : DataW H} (hk : Rows.uptoSmall H l = true) (hd : d ∈ l) : Rows.uptoBulk d ≤ 1048576 := by
  have h1 : Rows.uptoBulkAll l ≤ 1048576 := of_decide_eq_true hk
  have h2 : ∀ {l : List (DataW H)} {d : DataW H}, d ∈ l → Rows.uptoBulk d ≤ Rows.uptoBulkAll l := by
    intro l
    induction l with
    | nil => intro d hd; cases hd
    | cons x l ih =>
      intro d hd
      simp only [Rows.uptoBulkAll]
      rcases List.mem_cons.1 hd with rfl | hd
      · omega
      · have := ih hd
        omega
  exact Nat.le_trans (h2 hd) h1
theorem bulk_string {H : Type} {l : List (DataW H)} {s : List UInt8} (hk : Rows.uptoSmall H l = true) (hd : DataW.lit (.string s) ∈ l) : s.length ≤ 1048576 := by
  have := bulk_one hk hd
  simp only [Rows.uptoBulk] at this
  omega
theorem fit2_bulk {H : Type} {l : List (DataW H)} (hk : Rows.uptoSmall H l = true) {d : DataW H} (hd : d ∈ l) {t : TypeId} (ht : t ∈ [27, 9, 3, 22, 52, 45, 106, 50, 49, 46, 47, 109, 23, 111, 24, 91, 89, 87, 85, 4, 25, 104, 28]) : Fit2 Tryz.prog t d := fun m hm =>
  Nat.le_trans (bulk_weights closedT 1048576 d t ht (bulk_one hk hd) m hm) (by decide)
theorem lifted (os : Os) (started : os.Started) (H : Type) (enc : TypeId × Value → H) (F : Stop.Interp) :
    ReturnsInHanded {} Tryz.checked os 9 .any ((Rows.OpenSpec.upto Rows.holdsNamesSpec).pre6 enc Tryz.prog Tryz.f9 Rows.holdsNamesUptoRow.domain false) (((Rows.OpenSpec.upto Rows.holdsNamesSpec).at F).post enc Tryz.prog Tryz.f9 false true false false) := by
  refine returnsInHanded_of_cond (C := Tryz.checked) (s := Rows.OpenSpec.upto Rows.holdsNamesSpec) (k := Rows.uptoSmall) rfl own started (by kernel_rfl) Tryz.func9
    (OpenSpec.witness (enc := enc) (C := Tryz.checked) (s := Rows.OpenSpec.upto Rows.holdsNamesSpec) (k := Rows.uptoSmall) rfl false ⟨#[], #[.agg #[.string ByteArray.empty, .int .i64 0, .int .i64 0, .slice none 0 0, .slice none 0 0, .slice none 0 0, .slice none 0 0]], []⟩ 8 (by kernel_rfl) (by kernel_rfl) (by kernel_rfl)
      (x := ([.agg [.lit (.string []), .lit (.int .i64 0), .lit (.int .i64 0), .nil, .nil, .nil, .nil]], [], [])) (by kernel_rfl) rfl (by kernel_rfl)) ?_
  intro W base args ds gs before hval0 hW0 _ hk _
  have hval : ∀ (j : Nat) t v, Tryz.f9.params[j]? = some t → args[j]? = some v → Value.okWide Tryz.prog W .any base t v := hval0
  have hW : DataW.Whole enc Tryz.prog Tryz.f9.params.toList Rows.holdsNamesSpec.vars false W args.toList ds gs before := hW0
  have hW' := hW
  obtain ⟨p, q, hA0, hV, rfl, _, _⟩ := hW
  have hA : DataW.TrodAll enc Tryz.prog W 0 (fun _ => true) true Tryz.f9.params.toList args.toList ds p := hA0
  rw [Tryz.params9] at hA hval
  obtain ⟨v0, d0, rfl, rfl, h0⟩ := trodAll_one hA
  obtain ⟨rfl, rfl⟩ := trodVars_none hV
  have hz : ∀ s : ByteArray, s.data.toList.length ≤ 1048576 → s.size ≤ 1048576 := fun s h => by
    show s.data.size ≤ _
    rw [← Array.length_toList]
    exact h
  obtain ⟨s0, rfl, hs0⟩ := argSt2 Tryz.underlying27 fines_MTenant (hval 0 27 v0 rfl rfl) h0 (fit2_bulk hk (by simp) (by decide))
  refine (names18_walk s0 W hs0.good hs0.tiny).mono fun e W' ⟨he, hB⟩ => ?_
  subst he
  refine ⟨_, rfl, ?_⟩
  refine law_post (s := Rows.holdsNamesSpec) (tb := 4) laidOut ?_ rfl rfl Tryz.underlying4 hW' hB rfl rfl rfl
  intro t ht
  have ht' : t ∈ [27] := ht
  simp only [List.mem_cons, List.not_mem_nil, or_false] at ht'
  rcases ht' with rfl
  exact readsX
theorem proved : Rows.HoldsNamesUptoSaid :=
  OpenClaim.holds_of_cond 9 Tryz.f9 rfl rfl rfl rfl rfl rfl rfl ⟨rfl, rfl, rfl, rfl, rfl⟩ rfl rfl rfl rfl rfl (by kernel_rfl) Tryz.func9 (by kernel_rfl)
    (of_decide_eq_true (by kernel_rfl)) (by unfold Func.isWrapper; first | (rw [if_pos (by decide +kernel)]; kernel_rfl) | (rw [if_neg (by decide +kernel)]; exact ⟨rfl, rfl⟩))
    (fun os started H enc _ F => lifted os started H enc F)
end Go.Proofs.YtimmcmjipmkebaaGreat.holdsNames
