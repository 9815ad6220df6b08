/-
  Properties in memory: how lists of them lie; names and values, one by one. No conditions.
-/
import Derived.Test.YtoabkbnhdekbdaaGreatMSL
import Derived.Test.YtoabkbnhdekbdaaGreatMGY
import Derived.Laws.Cover1
import Derived.Laws.StructEq
import Derived.Deep.QuietTactic
namespace Go.Proofs.YtoabkbnhdekbdaaGreat
open Go.ChangeShapes Go.WideShapes Go.ChangeAt Go.RowKit
set_option maxRecDepth 100000
abbrev prC (x : Pr) : List Value := [.string x.1, .string x.2]
abbrev prV (x : Pr) : Value := .agg #[.string x.1, .string x.2]
def prs (l : List Pr) : List Value := l.flatMap prC
theorem prs_snoc (l : List Pr) (x : Pr) : prs (l ++ [x]) = prs l ++ [.string x.1, .string x.2] := by simp [prs]
theorem prs_one (l : List Pr) : ∀ u ∈ prs l, u.oneCell' = true := fun u hu => by
  obtain ⟨x, _, hx⟩ := List.mem_flatMap.1 hu
  simp only [prC, List.mem_cons, List.not_mem_nil, or_false] at hx
  rcases hx with rfl | rfl <;> rfl
theorem Rd.pr {w : World} {A : Option Addr} {l : List Pr} (h : Rd w A (prs l)) {k : Nat} {x : Pr} (hk : l[k]? = some x) :
    ∃ b off, A = some ⟨b, off, none⟩ ∧ b < w.heap.size ∧ w.cell? ⟨b, off + k * 2, none⟩ = some (.string x.1) ∧ w.cell? ⟨b, off + k * 2 + 1, none⟩ = some (.string x.2) := by
  have h1 : (prs l)[k * 2 + 0]? = _ := flat_at_of (cells := prC) (n := 2) (fun _ => rfl) l k 0 x hk (by omega)
  have h2 : (prs l)[k * 2 + 1]? = _ := flat_at_of (cells := prC) (n := 2) (fun _ => rfl) l k 1 x hk (by omega)
  obtain ⟨b, off, e, hb, hc⟩ := h (by intro h0; rw [h0] at h1; simp at h1)
  exact ⟨b, off, e, hb, hc _ _ h1, hc _ _ h2⟩
abbrev ownP (w : World) (base : Nat) (v : Value) (l : List Pr) : Prop := w.ownsRow base 105 2 v l.length (prs l)
abbrev ansP (v : Value) (e : Int) : Value := .tuple #[v, .int .i64 e]
theorem infoPr : (Tryz.prog.info? 105).map (fun i => (i.zero, i.size, i.bytes)) = some (some (.agg #[.string ByteArray.empty, .string ByteArray.empty]), 2, 32) := by kernel_rfl
theorem filterLe {α : Type} (p : α → Bool) (l : List α) (k : Nat) : ((l.take k).filter p).length ≤ k :=
  Nat.le_trans (List.length_filter_le _ _) (by rw [List.length_take]; omega)
theorem ownP_snoc {W : World} {base g c : Nat} {l : List Pr} {x : Pr} (h : W.ownsRow base 105 2 (.slice (some ⟨g, 0, none⟩) (l.length + 1) c) (l.length + 1) (prs l ++ [.string x.1, .string x.2])) : ownP W base (.slice (some ⟨g, 0, none⟩) (l.length + 1) c) (l ++ [x]) := by
  unfold ownP
  rw [prs_snoc, List.length_append]
  exact h
theorem takeFilter {α : Type} (q : α → Bool) {l : List α} {k : Nat} {x : α} (hx : l[k]? = some x) : (l.take (k + 1)).filter q = (l.take k).filter q ++ (if q x then [x] else []) := by
  rw [List.take_add_one, hx, List.filter_append]
  simp [List.filter_cons]
def okFP : ByteArray → List Pr → Bool
  | _, [] => true
  | a, p :: r => isName (bs p.1) && (Op.bytesLess a.toList p.1.toList && (valOk p.2 && okFP p.1 r))
theorem okFP_iff {a : ByteArray} : ∀ {l : List Pr}, okFP a l = true ↔ (∀ p ∈ l, isName (bs p.1) = true ∧ valOk p.2 = true ∧ ltK a p.1) ∧ RisP l
  | [] => by simp [okFP, RisP]
  | p :: r => by
    unfold okFP
    rw [Bool.and_eq_true, Bool.and_eq_true, Bool.and_eq_true, okFP_iff (l := r)]
    unfold RisP
    rw [List.pairwise_cons]
    constructor
    · rintro ⟨h1, h2, h3, h4, h5⟩
      refine ⟨fun q hq => ?_, fun q hq => (h4 q hq).2.2, h5⟩
      rcases List.mem_cons.1 hq with rfl | hq
      · exact ⟨h1, h3, h2⟩
      · exact ⟨(h4 q hq).1, (h4 q hq).2.1, ltK_trans h2 (h4 q hq).2.2⟩
    · rintro ⟨h1, h2, h3⟩
      obtain ⟨a1, a2, a3⟩ := h1 p (by simp)
      exact ⟨a1, a3, a2, fun q hq => ⟨(h1 q (by simp [hq])).1, (h1 q (by simp [hq])).2.1, h2 q hq⟩, h3⟩
theorem name_pos {s : ByteArray} (h : isName (bs s) = true) : ltK ByteArray.empty s := by
  have := isName_ne h
  unfold ltK
  rw [ByteArray.toList_eq, ByteArray.toList_eq]
  show Op.bytesLess [] (bs s) = true
  rcases hb : bs s with _ | ⟨x, t⟩
  · exact absurd hb this
  · rfl
theorem okP_from (l : List Pr) : okP l = (decide (l.length ≤ 8) && okFP ByteArray.empty l) := by
  rw [Bool.eq_iff_iff, okP_iff, Bool.and_eq_true, okFP_iff, decide_eq_true_eq]
  constructor
  · rintro ⟨h1, h2, h3⟩
    exact ⟨h1, fun p hp => ⟨(h2 p hp).1, (h2 p hp).2, name_pos (h2 p hp).1⟩, h3⟩
  · rintro ⟨h1, h2, h3⟩
    exact ⟨h1, fun p hp => ⟨(h2 p hp).1, (h2 p hp).2.1⟩, h3⟩
def chkP (l : List Pr) : Int := if okP l then 0 else 9
theorem chkP_ok {l : List Pr} (h : okP l = true) : chkP l = 0 := by unfold chkP; rw [if_pos h]
theorem chkP_no {l : List Pr} (h : okP l = false) : chkP l = 9 := by unfold chkP; rw [if_neg (by rw [h]; exact Bool.false_ne_true)]
theorem okP_len {l : List Pr} (h : okP l = true) : l.length ≤ 8 := (okP_iff.1 h).1
theorem okP_rise {l : List Pr} (h : okP l = true) : RisP l := (okP_iff.1 h).2.2
theorem name_le {s : ByteArray} (h : isName (bs s) = true) : s.size ≤ 16 := by
  unfold isName at h
  simp only [Bool.and_eq_true, decide_eq_true_eq, bs_length] at h
  exact h.1.2
theorem val_le {s : ByteArray} (h : valOk s = true) : s.size ≤ 32 := by
  unfold valOk at h
  simp only [Bool.and_eq_true, decide_eq_true_eq] at h
  exact h.2
theorem okP_mem {l : List Pr} (h : okP l = true) : ∀ p ∈ l, p.1.size ≤ 16 ∧ p.2.size ≤ 32 := fun p hp => ⟨name_le ((okP_iff.1 h).2.1 p hp).1, val_le ((okP_iff.1 h).2.1 p hp).2⟩
theorem beqTE (a b : ByteArray) : (a.toList == b.toList) = decide (a = b) := by
  rw [Bool.eq_iff_iff, beq_iff_eq, decide_eq_true_eq]
  exact ⟨ba_toList, fun h => by rw [h]⟩
section
variable {H : Type} {enc : TypeId × Value → H} {W : World}
theorem kcPr : Tryz.prog.cellsOf 105 = 2 := by kernel_rfl
theorem kcStr : Tryz.prog.cellsOf 9 = 1 := by kernel_rfl
def goodPr (x : Pr) : Prop := x.1.size ≤ 140737488351232 ∧ x.2.size ≤ 140737488351232
theorem opensPr : Opens enc Tryz.prog W 105 prC goodPr := fun fuel cs x h hf => by
  obtain ⟨xs, n, _, rfl, hl, hxs, hel⟩ := DataW.trod_struct Tryz.underlying105 h
  rw [kcPr] at hl
  obtain ⟨c0, c1, rfl⟩ : ∃ c0 c1, cs = [c0, c1] := by
    rcases cs with _ | ⟨a, _ | ⟨b, _ | ⟨d, t⟩⟩⟩ <;> simp at hl
    exact ⟨a, b, rfl⟩
  have h0 : DataW.trod enc Tryz.prog W 0 (fun _ => true) true n 9 (([c0, c1].drop 0).take (Tryz.prog.cellsOf 9)) = xs[0]? := hel 0 _ rfl
  have h1 : DataW.trod enc Tryz.prog W 0 (fun _ => true) true n 9 (([c0, c1].drop 1).take (Tryz.prog.cellsOf 9)) = xs[1]? := hel 1 _ rfl
  rw [kcStr] at h0 h1
  obtain ⟨y0, e0⟩ : ∃ y, xs[0]? = some y := ⟨_, qZa (by rw [hxs]; decide)⟩
  obtain ⟨y1, e1⟩ : ∃ y, xs[1]? = some y := ⟨_, qZa (by rw [hxs]; decide)⟩
  rw [e0] at h0
  rw [e1] at h1
  obtain ⟨a0, k0, g0⟩ := opensTx Tryz.underlying9 n [c0] y0 h0 (fit_part Tryz.underlying105 hf (i := 0) rfl (by rw [List.getElem?_map, e0]; rfl))
  obtain ⟨a1, k1, g1⟩ := opensTx Tryz.underlying9 n [c1] y1 h1 (fit_part Tryz.underlying105 hf (i := 1) rfl (by rw [List.getElem?_map, e1]; rfl))
  injection k0 with k0
  injection k1 with k1
  subst k0
  subst k1
  exact ⟨(a0, a1), rfl, g0, g1⟩
abbrev CameP (W : World) (s : Sl Pr) : Prop := SlGood W prC goodPr 32 s
end
theorem CameP.len {W : World} {s : Sl Pr} (h : CameP W s) : s.l.length ≤ 4398046510976 := by have := SlGood.len h; omega
theorem CameP.sz {W : World} {s : Sl Pr} (h : CameP W s) : ∀ x ∈ s.l, x.1.size ≤ 140737488351232 ∧ x.2.size ≤ 140737488351232 := SlGood.el h
theorem CameP.rdp {W : World} {s : Sl Pr} (h : CameP W s) : Rd W s.A (prs s.l) := SlGood.rd h
theorem CameP.each {W : World} {s : Sl Pr} (h : CameP W s) {W' : World} (hB : Below W.heap.size W W') : Rd W' s.A (prs s.l) ∧ s.l.length ≤ 4398046511103 ∧ ∀ x ∈ s.l, x.1.size ≤ 140737488351232 ∧ x.2.size ≤ 140737488351232 := ⟨h.rdp.below hB, by have := h.len; omega, h.sz⟩
theorem wpAppP {W : World} {ops : Array Oper} {rest : List Oper} {o : Oper} {a : Act} {Q : Exit → Act → World → Prop} {s x : Operand} (hgd : o.guard = none)
    (ho : o.op = .call { callee := .builtin .append, args := #[s, x], argTypes := #[47, 47] }) {base : Nat} {w0 : World} {Av : Option Addr} {cv : Nat} {l : List Pr} (hB : Below base w0 W) (hsz : base ≤ W.heap.size)
    (hown : ownP W base (.slice Av l.length cv) l) (y : Pr) (hs : a.eval s = .slice Av l.length cv) (hx : a.eval x = .slice (some ⟨W.heap.size, 0, none⟩) 1 1) (hl : l.length < 4398046511104)
    (h : ∀ g c w', Hid (ownP w' base (.slice (some ⟨g, 0, none⟩) (l.length + 1) c) (l ++ [y])) → Hid (Below base w0 w') → wpList Tryz.prog ops Q rest (a.put o.dst (.slice (some ⟨g, 0, none⟩) (l.length + 1) c)) w') :
    wpList Tryz.prog ops Q (o :: rest) a (W.alloc (.cells #[.string y.1, .string y.2] 105)) :=
  wpAppend1 hgd ho Tryz.underlying47 prC (fun _ => rfl) (by decide) (fun y u hu => prs_one [y] u (by simpa [prs] using hu)) infoPr rfl hB hsz hown y hs hx (by unfold maxLen; omega) (by omega) h
end Go.Proofs.YtoabkbnhdekbdaaGreat
