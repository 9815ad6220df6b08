/-
 Properties in memory: how lists of them lie; names and values, one by one. No conditions.
-/
import Derived.Test.YtimmcmjipmkebaaGreatVSL
import Derived.Test.YtimmcmjipmkebaaGreatVGY
import Derived.Laws.Cover1
import Derived.Laws.StructEq
import Derived.Deep.QuietTactic
namespace Go.Proofs.YtimmcmjipmkebaaGreat
open Go.ChangeShapes Go.WideShapes Go.ChangeAt Go.RowKit
set_option maxRecDepth 100000
abbrev prC (x : Pr) : List Value := [.string x.1, .string x.2]
def prs (l : List Pr) : List Value := l.flatMap prC
theorem Rd.pr {w : World} {A : Option Addr} {l : List Pr} (h : Rd w A (prs l)) {k : Nat} {x : Pr} (hk : l[k]? = some x) :
 ∃ b off, A = some ⟨b, off, none⟩ ∧ b < w.heap.size ∧ w.cell? ⟨b, off + k * 2, none⟩ = some (.string x.1) ∧ w.cell? ⟨b, off + k * 2 + 1, none⟩ = some (.string x.2) := by
 have h1 : (prs l)[k * 2 + 0]? = _ := flat_at_of (cells := prC) (n := 2) (fun _ => rfl) l k 0 x hk (by omega)
 have h2 : (prs l)[k * 2 + 1]? = _ := flat_at_of (cells := prC) (n := 2) (fun _ => rfl) l k 1 x hk (by omega)
 obtain ⟨b, off, e, hb, hc⟩ := h (by intro h0; rw [h0] at h1; simp at h1)
 exact ⟨b, off, e, hb, hc _ _ h1, hc _ _ h2⟩
def okFP : ByteArray → List Pr → Bool
 | _, [] => true
 | a, p :: r => zaQ (bs p.1) && (Op.bytesLess a.toList p.1.toList && (valOk p.2 && okFP p.1 r))
theorem okFP_iff {a : ByteArray} : ∀ {l : List Pr}, okFP a l = true ↔ (∀ p ∈ l, zaQ (bs p.1) = true ∧ valOk p.2 = true ∧ ltK a p.1) ∧ RisP l
 | [] => by simp [okFP, RisP]
 | p :: r => by
  unfold okFP
  rw [Bool.and_eq_true, Bool.and_eq_true, Bool.and_eq_true, okFP_iff (l := r)]
  unfold RisP
  rw [List.pairwise_cons]
  constructor
  · rintro ⟨h1, h2, h3, h4, h5⟩
    refine ⟨fun q hq => ?_, fun q hq => (h4 q hq).2.2, h5⟩
    rcases List.mem_cons.1 hq with rfl | hq
    · exact ⟨h1, h3, h2⟩
    · exact ⟨(h4 q hq).1, (h4 q hq).2.1, ltK_trans h2 (h4 q hq).2.2⟩
  · rintro ⟨h1, h2, h3⟩
    obtain ⟨a1, a2, a3⟩ := h1 p (by simp)
    exact ⟨a1, a3, a2, fun q hq => ⟨(h1 q (by simp [hq])).1, (h1 q (by simp [hq])).2.1, h2 q hq⟩, h3⟩
theorem name_pos {s : ByteArray} (h : zaQ (bs s) = true) : ltK ByteArray.empty s := by
 have := isName_ne h
 unfold ltK
 rw [ByteArray.toList_eq, ByteArray.toList_eq]
 show Op.bytesLess [] (bs s) = true
 rcases hb : bs s with _ | ⟨x, t⟩
 · exact absurd hb this
 · rfl
theorem okP_from (l : List Pr) : okP l = (decide (l.length ≤ 8) && okFP ByteArray.empty l) := by
 rw [Bool.eq_iff_iff, okP_iff, Bool.and_eq_true, okFP_iff, decide_eq_true_eq]
 constructor
 · rintro ⟨h1, h2, h3⟩
   exact ⟨h1, fun p hp => ⟨(h2 p hp).1, (h2 p hp).2, name_pos (h2 p hp).1⟩, h3⟩
 · rintro ⟨h1, h2, h3⟩
   exact ⟨h1, fun p hp => ⟨(h2 p hp).1, (h2 p hp).2.1⟩, h3⟩
def chkP (l : List Pr) : Int := if okP l then 0 else 9
theorem chkP_no {l : List Pr} (h : okP l = false) : chkP l = 9 := by unfold chkP; rw [if_neg (by rw [h]; exact Bool.false_ne_true)]
theorem beqTE (a b : ByteArray) : (a.toList == b.toList) = decide (a = b) := by
 rw [Bool.eq_iff_iff, beq_iff_eq, decide_eq_true_eq]
 exact ⟨ba_toList, fun h => by rw [h]⟩
section
variable {H : Type} {enc : TypeId × Value → H} {W : World}
theorem kcPr : Tryz.prog.cellsOf 109 = 2 := by kernel_rfl
theorem kcStr : Tryz.prog.cellsOf 9 = 1 := by kernel_rfl
def goodPr (x : Pr) : Prop := x.1.size ≤ 140737488351232 ∧ x.2.size ≤ 140737488351232
theorem opensPr : Opens enc Tryz.prog W 109 prC goodPr := fun fuel cs x h hf => by
 obtain ⟨xs, n, _, rfl, hl, hxs, hel⟩ := DataW.trod_struct Tryz.underlying109 h
 rw [kcPr] at hl
 obtain ⟨c0, c1, rfl⟩ : ∃ c0 c1, cs = [c0, c1] := by
  rcases cs with _ | ⟨a, _ | ⟨b, _ | ⟨d, t⟩⟩⟩ <;> simp at hl
  exact ⟨a, b, rfl⟩
 have h0 : DataW.trod enc Tryz.prog W 0 (fun _ => true) true n 9 (([c0, c1].drop 0).take (Tryz.prog.cellsOf 9)) = xs[0]? := hel 0 _ rfl
 have h1 : DataW.trod enc Tryz.prog W 0 (fun _ => true) true n 9 (([c0, c1].drop 1).take (Tryz.prog.cellsOf 9)) = xs[1]? := hel 1 _ rfl
 rw [kcStr] at h0 h1
 obtain ⟨y0, e0⟩ : ∃ y, xs[0]? = some y := ⟨_, qZa (by rw [hxs]; decide)⟩
 obtain ⟨y1, e1⟩ : ∃ y, xs[1]? = some y := ⟨_, qZa (by rw [hxs]; decide)⟩
 rw [e0] at h0
 rw [e1] at h1
 obtain ⟨a0, k0, g0⟩ := opensTx Tryz.underlying9 n [c0] y0 h0 (zgZ Tryz.underlying109 hf (i := 0) rfl (by rw [List.getElem?_map, e0]; rfl))
 obtain ⟨a1, k1, g1⟩ := opensTx Tryz.underlying9 n [c1] y1 h1 (zgZ Tryz.underlying109 hf (i := 1) rfl (by rw [List.getElem?_map, e1]; rfl))
 injection k0 with k0
 injection k1 with k1
 subst k0
 subst k1
 exact ⟨(a0, a1), rfl, g0, g1⟩
abbrev CameP (W : World) (s : Sl Pr) : Prop := SlGood W prC goodPr 32 s
end
theorem CameP.len {W : World} {s : Sl Pr} (h : CameP W s) : s.l.length ≤ 4398046510976 := by have := SlGood.len h; omega
theorem CameP.sz {W : World} {s : Sl Pr} (h : CameP W s) : ∀ x ∈ s.l, x.1.size ≤ 140737488351232 ∧ x.2.size ≤ 140737488351232 := SlGood.el h
theorem CameP.rdp {W : World} {s : Sl Pr} (h : CameP W s) : Rd W s.A (prs s.l) := SlGood.rd h
theorem CameP.each {W : World} {s : Sl Pr} (h : CameP W s) {W' : World} (hB : Below W.heap.size W W') : Rd W' s.A (prs s.l) ∧ s.l.length ≤ 4398046511103 ∧ ∀ x ∈ s.l, x.1.size ≤ 140737488351232 ∧ x.2.size ≤ 140737488351232 := ⟨h.rdp.below hB, by have := h.len; omega, h.sz⟩
end Go.Proofs.YtimmcmjipmkebaaGreat
