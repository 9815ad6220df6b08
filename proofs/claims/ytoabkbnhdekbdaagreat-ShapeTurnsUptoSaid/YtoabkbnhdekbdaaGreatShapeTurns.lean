/-
  ShapeTurns, in its second form: what the reference’s Turn answers of a tenant of up to 2^20 octets is what Free, Set and Unset answer
  Conditions: none but the form’s own.
-/
import Derived.Test.YtoabkbnhdekbdaaGreatMHWC
import Derived.Test.YtoabkbnhdekbdaaGreatMTMD
import Derived.Test.YtoabkbnhdekbdaaGreatMRD
import Derived.Test.YtoabkbnhdekbdaaGreatMW
namespace Go.Proofs.YtoabkbnhdekbdaaGreat.shapeTurns
open Go.ChangeShapes Go.WideShapes Go.ChangeAt Go.RowKit
set_option maxRecDepth 100000
theorem own : ownKnob Tryz.prog.godebug = none := by kernel_rfl
theorem laidOut : laidOutB Tryz.prog = true := by kernel_rfl
theorem readsX : Tryz.prog.readableRec 27 = true ∧ 27 < Tryz.prog.types.size := ⟨by kernel_rfl, of_decide_eq_true (by kernel_rfl)⟩
theorem readsS : Tryz.prog.readableRec 9 = true ∧ 9 < Tryz.prog.types.size := ⟨by kernel_rfl, of_decide_eq_true (by kernel_rfl)⟩
theorem readsI : Tryz.prog.readableRec 3 = true ∧ 3 < Tryz.prog.types.size := ⟨by kernel_rfl, of_decide_eq_true (by kernel_rfl)⟩
theorem closedT : closedB Tryz.prog [27, 9, 3, 22, 49, 45, 103, 46, 66, 64, 47, 105, 23, 107, 24, 96, 94, 92, 90, 4, 25, 109, 28] 224 = true := by kernel_rfl
theorem bulk_one {H : Type} {l : List (DataW H)} {d : DataW H} (hk : Rows.uptoSmall H l = true) (hd : d ∈ l) : Rows.uptoBulk d ≤ 1048576 := by
  have h1 : Rows.uptoBulkAll l ≤ 1048576 := of_decide_eq_true hk
  have h2 : ∀ {l : List (DataW H)} {d : DataW H}, d ∈ l → Rows.uptoBulk d ≤ Rows.uptoBulkAll l := by
    intro l
    induction l with
    | nil => intro d hd; cases hd
    | cons x l ih =>
      intro d hd
      simp only [Rows.uptoBulkAll]
      rcases List.mem_cons.1 hd with rfl | hd
      · omega
      · have := ih hd
        omega
  exact Nat.le_trans (h2 hd) h1
theorem bulk_string {H : Type} {l : List (DataW H)} {s : List UInt8} (hk : Rows.uptoSmall H l = true) (hd : DataW.lit (.string s) ∈ l) : s.length ≤ 1048576 := by
  have := bulk_one hk hd
  simp only [Rows.uptoBulk] at this
  omega
theorem fit2_bulk {H : Type} {l : List (DataW H)} (hk : Rows.uptoSmall H l = true) {d : DataW H} (hd : d ∈ l) {t : TypeId} (ht : t ∈ [27, 9, 3, 22, 49, 45, 103, 46, 66, 64, 47, 105, 23, 107, 24, 96, 94, 92, 90, 4, 25, 109, 28]) : Fit2 Tryz.prog t d := fun m hm =>
  Nat.le_trans (bulk_weights closedT 1048576 d t ht (bulk_one hk hd) m hm) (by decide)
theorem lifted (os : Os) (started : os.Started) (H : Type) (enc : TypeId × Value → H) (F : Stop.Interp) :
    ReturnsInHanded {} Tryz.checked os 3 .any ((Rows.OpenSpec.upto Rows.shapeTurnsSpec).pre6 enc Tryz.prog Tryz.f3 Rows.shapeTurnsUptoRow.domain false) (((Rows.OpenSpec.upto Rows.shapeTurnsSpec).at F).post enc Tryz.prog Tryz.f3 false true false false) := by
  refine returnsInHanded_of_cond (C := Tryz.checked) (s := Rows.OpenSpec.upto Rows.shapeTurnsSpec) (k := Rows.uptoSmall) rfl own started (by kernel_rfl) Tryz.func3
    (OpenSpec.witness (enc := enc) (C := Tryz.checked) (s := Rows.OpenSpec.upto Rows.shapeTurnsSpec) (k := Rows.uptoSmall) rfl false ⟨#[], #[.agg #[.string ByteArray.empty, .int .i64 0, .int .i64 0, .slice none 0 0, .slice none 0 0, .slice none 0 0, .slice none 0 0], .string ByteArray.empty, .int .i64 0, .int .i64 0, .string ByteArray.empty, .string ByteArray.empty], []⟩ 8 (by kernel_rfl) (by kernel_rfl) (by kernel_rfl)
      (x := ([.agg [.lit (.string []), .lit (.int .i64 0), .lit (.int .i64 0), .nil, .nil, .nil, .nil], .lit (.string []), .lit (.int .i64 0), .lit (.int .i64 0), .lit (.string []), .lit (.string [])], [], [])) (by kernel_rfl) rfl (by kernel_rfl)) ?_
  intro W base args ds gs before hval0 hW0 _ hk _
  have hval : ∀ (j : Nat) t v, Tryz.f3.params[j]? = some t → args[j]? = some v → Value.okWide Tryz.prog W .any base t v := hval0
  have hW : DataW.Whole enc Tryz.prog Tryz.f3.params.toList Rows.shapeTurnsSpec.vars false W args.toList ds gs before := hW0
  have hW' := hW
  obtain ⟨p, q, hA0, hV, rfl, _, _⟩ := hW
  have hA : DataW.TrodAll enc Tryz.prog W 0 (fun _ => true) true Tryz.f3.params.toList args.toList ds p := hA0
  rw [Tryz.params3] at hA hval
  obtain ⟨v0, v1, v2, v3, v4, v5, d0, d1, d2, d3, d4, d5, p0, p1, p2, p3, p4, p5, rfl, rfl, rfl, h0, h1, h2, h3, h4, h5⟩ := trodAll_six hA
  obtain ⟨rfl, rfl⟩ := trodVars_none hV
  have hz : ∀ s : ByteArray, s.data.toList.length ≤ 1048576 → s.size ≤ 1048576 := fun s h => by
    show s.data.size ≤ _
    rw [← Array.length_toList]
    exact h
  obtain ⟨s0, rfl, hs0⟩ := argSt2 Tryz.underlying27 fines_MTenant (hval 0 27 v0 rfl rfl) h0 (fit2_bulk hk (by simp) (by decide))
  obtain ⟨s1, rfl, rfl, rfl, hs1⟩ := ChangeMaps.open_string Tryz.underlying9 (hval 1 9 v1 rfl rfl) h1
  have hz1 := hz s1 (bulk_string hk (by simp))
  obtain ⟨n2, rfl, rfl, rfl, w2⟩ := open_int Tryz.underlying3 (hval 2 3 v2 rfl rfl) h2
  have hb2 := bounds_i64 w2
  obtain ⟨n3, rfl, rfl, rfl, w3⟩ := open_int Tryz.underlying3 (hval 3 3 v3 rfl rfl) h3
  have hb3 := bounds_i64 w3
  obtain ⟨s4, rfl, rfl, rfl, hs4⟩ := ChangeMaps.open_string Tryz.underlying9 (hval 4 9 v4 rfl rfl) h4
  have hz4 := hz s4 (bulk_string hk (by simp))
  obtain ⟨s5, rfl, rfl, rfl, hs5⟩ := ChangeMaps.open_string Tryz.underlying9 (hval 5 9 v5 rfl rfl) h5
  have hz5 := hz s5 (bulk_string hk (by simp))
  refine (turns_walk s0 s1 n2 n3 s4 s5 (Nat.le_trans hz1 (by decide)) hb3 (Nat.le_trans hz4 (by decide)) (Nat.le_trans hz5 (by decide)) W hs0.good hs0.tiny).mono fun e W' ⟨he, hB⟩ => ?_
  subst he
  refine ⟨_, rfl, ?_⟩
  refine law_post (s := Rows.shapeTurnsSpec) (tb := 4) laidOut ?_ rfl rfl Tryz.underlying4 hW' hB rfl rfl rfl
  intro t ht
  have ht' : t ∈ [27, 9, 3, 3, 9, 9] := ht
  simp only [List.mem_cons, List.not_mem_nil, or_false] at ht'
  rcases ht' with rfl | rfl | rfl | rfl | rfl | rfl
  · exact readsX
  · exact readsS
  · exact readsI
  · exact readsI
  · exact readsS
  · exact readsS
theorem proved : Rows.ShapeTurnsUptoSaid :=
  OpenClaim.holds_of_cond 3 Tryz.f3 rfl rfl rfl rfl rfl rfl rfl ⟨rfl, rfl, rfl, rfl, rfl⟩ rfl rfl rfl rfl rfl (by kernel_rfl) Tryz.func3 (by kernel_rfl)
    (of_decide_eq_true (by kernel_rfl)) (by unfold Func.isWrapper; first | (rw [if_pos (by decide +kernel)]; kernel_rfl) | (rw [if_neg (by decide +kernel)]; exact ⟨rfl, rfl⟩))
    (fun os started H enc _ F => lifted os started H enc F)
end Go.Proofs.YtoabkbnhdekbdaaGreat.shapeTurns
