/-
  Properties in memory: how lists of them lie; names and values, one by one. No conditions.
-/
import Derived.Test.YtnoidcelinaenaaSL
import Derived.Test.YtnoidcelinaenaaPRM
import Derived.Laws.Cover1
import Derived.Laws.StructEq
import Derived.Deep.QuietTactic
namespace Go.Proofs.Ytnoidcelinaenaa
open Go.ChangeShapes Go.WideShapes Go.ChangeAt Go.RowKit
set_option maxRecDepth 100000

abbrev prC (x : Pr) : List Value := [.string x.1, .string x.2]
abbrev prV (x : Pr) : Value := .agg #[.string x.1, .string x.2]
def prs (l : List Pr) : List Value := l.flatMap prC
theorem prs_length (l : List Pr) : (prs l).length = 2 * l.length := by
  rw [prs, flat_len (n := 2) (fun _ => rfl)]; omega
theorem prs_append (l m : List Pr) : prs (l ++ m) = prs l ++ prs m := by simp [prs]
theorem prs_snoc (l : List Pr) (x : Pr) : prs (l ++ [x]) = prs l ++ [.string x.1, .string x.2] := by simp [prs]
theorem prs_one (l : List Pr) : ∀ u ∈ prs l, u.oneCell' = true := fun u hu => by
  obtain ⟨x, _, hx⟩ := List.mem_flatMap.1 hu
  simp only [prC, List.mem_cons, List.not_mem_nil, or_false] at hx
  rcases hx with rfl | rfl <;> rfl
theorem Rd.pr {w : World} {A : Option Addr} {l : List Pr} (h : Rd w A (prs l)) {k : Nat} {x : Pr} (hk : l[k]? = some x) :
    ∃ b off, A = some ⟨b, off, none⟩ ∧ b < w.heap.size ∧ w.cell? ⟨b, off + k * 2, none⟩ = some (.string x.1) ∧ w.cell? ⟨b, off + k * 2 + 1, none⟩ = some (.string x.2) := by
  have h1 : (prs l)[k * 2 + 0]? = _ := flat_at_of (cells := prC) (n := 2) (fun _ => rfl) l k 0 x hk (by omega)
  have h2 : (prs l)[k * 2 + 1]? = _ := flat_at_of (cells := prC) (n := 2) (fun _ => rfl) l k 1 x hk (by omega)
  obtain ⟨b, off, e, hb, hc⟩ := h (by intro h0; rw [h0] at h1; simp at h1)
  exact ⟨b, off, e, hb, hc _ _ h1, hc _ _ h2⟩
/-- An own list of properties. -/
abbrev ownP (w : World) (base : Nat) (v : Value) (l : List Pr) : Prop := w.ownsRow base 130 2 v l.length (prs l)
abbrev ansP (v : Value) (e : Int) : Value := .tuple #[v, .int .i64 e]
set_option maxRecDepth 100000 in
theorem infoPr : (Try.prog.info? 130).map (fun i => (i.zero, i.size, i.bytes)) = some (some (.agg #[.string ByteArray.empty, .string ByteArray.empty]), 2, 32) := by kernel_rfl

theorem filterLe {α : Type} (p : α → Bool) (l : List α) (k : Nat) : ((l.take k).filter p).length ≤ k :=
  Nat.le_trans (List.length_filter_le _ _) (by rw [List.length_take]; omega)
theorem ownP_snoc {W : World} {base g c : Nat} {l : List Pr} {x : Pr} (h : W.ownsRow base 130 2 (.slice (some ⟨g, 0, none⟩) (l.length + 1) c) (l.length + 1) (prs l ++ [.string x.1, .string x.2])) : ownP W base (.slice (some ⟨g, 0, none⟩) (l.length + 1) c) (l ++ [x]) := by
  unfold ownP
  rw [prs_snoc, List.length_append]
  exact h
theorem takeFilter {α : Type} (q : α → Bool) {l : List α} {k : Nat} {x : α} (hx : l[k]? = some x) : (l.take (k + 1)).filter q = (l.take k).filter q ++ (if q x then [x] else []) := by
  rw [List.take_add_one, hx, List.filter_append]
  simp [List.filter_cons]

/-- Do they rise from one name on, each name and value one? -/
def okFP : ByteArray → List Pr → Bool
  | _, [] => true
  | a, p :: r => isName (bs p.1) && (Op.bytesLess a.toList p.1.toList && (valOk p.2 && okFP p.1 r))
theorem okFP_iff {a : ByteArray} : ∀ {l : List Pr}, okFP a l = true ↔ (∀ p ∈ l, isName (bs p.1) = true ∧ valOk p.2 = true ∧ ltK a p.1) ∧ RisP l
  | [] => by simp [okFP, RisP]
  | p :: r => by
    unfold okFP
    rw [Bool.and_eq_true, Bool.and_eq_true, Bool.and_eq_true, okFP_iff (l := r)]
    unfold RisP
    rw [List.pairwise_cons]
    constructor
    · rintro ⟨h1, h2, h3, h4, h5⟩
      refine ⟨fun q hq => ?_, fun q hq => (h4 q hq).2.2, h5⟩
      rcases List.mem_cons.1 hq with rfl | hq
      · exact ⟨h1, h3, h2⟩
      · exact ⟨(h4 q hq).1, (h4 q hq).2.1, ltK_trans h2 (h4 q hq).2.2⟩
    · rintro ⟨h1, h2, h3⟩
      obtain ⟨a1, a2, a3⟩ := h1 p (by simp)
      exact ⟨a1, a3, a2, fun q hq => ⟨(h1 q (by simp [hq])).1, (h1 q (by simp [hq])).2.1, h2 q hq⟩, h3⟩
theorem name_pos {s : ByteArray} (h : isName (bs s) = true) : ltK ByteArray.empty s := by
  have := isName_ne h
  unfold ltK
  rw [ByteArray.toList_eq, ByteArray.toList_eq]
  show Op.bytesLess [] (bs s) = true
  rcases hb : bs s with _ | ⟨x, t⟩
  · exact absurd hb this
  · rfl
theorem okP_from (l : List Pr) : okP l = (decide (l.length ≤ 8) && okFP ByteArray.empty l) := by
  rw [Bool.eq_iff_iff, okP_iff, Bool.and_eq_true, okFP_iff, decide_eq_true_eq]
  constructor
  · rintro ⟨h1, h2, h3⟩
    exact ⟨h1, fun p hp => ⟨(h2 p hp).1, (h2 p hp).2, name_pos (h2 p hp).1⟩, h3⟩
  · rintro ⟨h1, h2, h3⟩
    exact ⟨h1, fun p hp => ⟨(h2 p hp).1, (h2 p hp).2.1⟩, h3⟩
/-- What Check answers. -/
def chkP (l : List Pr) : Int := if okP l then 0 else 9
theorem chkP_ok {l : List Pr} (h : okP l = true) : chkP l = 0 := by unfold chkP; rw [if_pos h]
theorem chkP_no {l : List Pr} (h : okP l = false) : chkP l = 9 := by unfold chkP; rw [if_neg (by rw [h]; exact Bool.false_ne_true)]
theorem okP_len {l : List Pr} (h : okP l = true) : l.length ≤ 8 := (okP_iff.1 h).1
theorem okP_rise {l : List Pr} (h : okP l = true) : RisP l := (okP_iff.1 h).2.2
theorem name_le {s : ByteArray} (h : isName (bs s) = true) : s.size ≤ 16 := by
  unfold isName at h
  simp only [Bool.and_eq_true, decide_eq_true_eq, bs_length] at h
  exact h.1.2
theorem val_le {s : ByteArray} (h : valOk s = true) : s.size ≤ 32 := by
  unfold valOk at h
  simp only [Bool.and_eq_true, decide_eq_true_eq] at h
  exact h.2
theorem okP_mem {l : List Pr} (h : okP l = true) : ∀ p ∈ l, p.1.size ≤ 16 ∧ p.2.size ≤ 32 := fun p hp => ⟨name_le ((okP_iff.1 h).2.1 p hp).1, val_le ((okP_iff.1 h).2.1 p hp).2⟩

end Go.Proofs.Ytnoidcelinaenaa
