/-
  The program's Same and the reference's where both are plainly the same. Conditions: they came in or lie as what came in.
-/
import Derived.Test.YtoabkbnhdekbdaaGreatRRSM
import Derived.Test.YtoabkbnhdekbdaaGreatREI4
import Derived.Test.YtoabkbnhdekbdaaGreatRTMB
import Derived.Test.YtoabkbnhdekbdaaGreatRTCU
import Derived.Test.YtoabkbnhdekbdaaGreatRRPA
import Derived.Test.YtoabkbnhdekbdaaGreatRRL
import Derived.Test.YtoabkbnhdekbdaaGreatRGRX
import Derived.Test.YtoabkbnhdekbdaaGreatRTNP
import Derived.BigQuiet
namespace Go.Proofs.YtoabkbnhdekbdaaGreat
open Go.ChangeShapes Go.WideShapes Go.ChangeAt Go.RowKit
set_option maxRecDepth 100000
set_option linter.unusedSimpArgs false
theorem refSame_true (A B : Option Addr) (c d : Nat) (l : List Bk) (hl : l.length ≤ 8796093022208) (w : World) (hr : Rd w A (l.flatMap bkC)) (hs : Rd w B (l.flatMap bkC)) : Calls Tryz.prog 37 #[.slice A l.length c, .slice B l.length d] w fun e w' => e = .returned (.bool true) ∧ Below w.heap.size w w' :=
  (refSame_any A B c d _ _ l l rfl rfl hl hl w hr hs).mono fun e w' ⟨he, hB⟩ => ⟨by rw [he]; simp, hB⟩
theorem refPr_true (A B : Option Addr) (c d : Nat) (l : List Pr) (hl : l.length ≤ 8796093022208) (w : World) (hr : Rd w A (l.flatMap prC)) (hs : Rd w B (l.flatMap prC)) : Calls Tryz.prog 38 #[.slice A l.length c, .slice B l.length d] w fun e w' => e = .returned (.bool true) ∧ Below w.heap.size w w' :=
  (refSameP_any A B c d _ _ l l rfl rfl hl hl w hr hs).mono fun e w' ⟨he, hB⟩ => ⟨by rw [he]; simp, hB⟩
theorem entries_eq : ∀ {a b : List MEntry}, a.map MEntry.plain = b.map MEntry.plain → a = b
  | [], [], _ => rfl
  | [], _ :: _, h => by simp at h
  | _ :: _, [], h => by simp at h
  | x :: a, y :: b, h => by
    simp only [List.map_cons, List.cons.injEq] at h
    obtain ⟨h1, h2⟩ := h
    obtain ⟨e1, e2, e3, e4⟩ := PEntry.eq_iff.1 h1
    have : x = y := by
      obtain ⟨a1, a2, a3, a4⟩ := x
      obtain ⟨b1, b2, b3, b4⟩ := y
      simp only [MEntry.plain] at e1 e2 e3 e4
      subst e1 e2 e3 e4
      rfl
    rw [this, entries_eq h2]
theorem own_stays {W W' : World} {n e size k : Nat} {v : Value} {xs : List Value} (h : W.ownsRow n e size v k xs) (hk : ∀ b, n ≤ b → b < W.heap.size → W'.heap[b]? = W.heap[b]?) : W'.ownsRow n e size v k xs := ownStay h fun b hb => hk b (h.lt b hb).1 (h.lt b hb).2
theorem OwnTe.stays {n : Nat} {W W' : World} {y : MTenant} (h : OwnTe n W y) (hk : ∀ b, n ≤ b → b < W.heap.size → W'.heap[b]? = W.heap[b]?) : OwnTe n W' y :=
  ⟨own_stays h.sets hk, own_stays h.grants hk, own_stays h.stages hk, own_stays h.log hk, fun s hs => ⟨own_stays (h.eset s hs).body hk, own_stays (h.eset s hs).snaps hk, own_stays (h.eset s hs).own hk, fun z hz => ⟨own_stays ((h.eset s hs).each z hz).body hk, own_stays ((h.eset s hs).each z hz).tags hk, own_stays ((h.eset s hs).each z hz).own hk⟩⟩, fun s hs => ⟨own_stays (h.estage s hs).body hk, own_stays (h.estage s hs).own hk⟩⟩
theorem OwnTe.below {n : Nat} {W W' : World} {y : MTenant} (h : OwnTe n W y) (hB : Below W.heap.size W W') : OwnTe n W' y := h.stays fun b _ hb => hB.block b hb
theorem sum_eq {a b : MSum} (h : a.plain = b.plain) : a = b := by
  obtain ⟨a1, a2, a3, a4⟩ := a
  obtain ⟨b1, b2, b3, b4⟩ := b
  obtain ⟨h1, h2, h3, h4⟩ := PSum.eq_iff.1 h
  simp only [MSum.plain] at h1 h2 h3 h4
  subst h1 h2 h3 h4
  rfl
theorem MSum.Good.to {W : World} {x : MSum} (h : x.Good W) (W' : World) : x.Good W' := ⟨h.ga_, h.gb_, h.gc_, h.gd_⟩
theorem MEntry.Good.to {W : World} {x : MEntry} (h : x.Good W) (W' : World) : x.Good W' := ⟨h.guser_, h.gkind_, h.gpath_, h.gerr_⟩
theorem MStage.Good.of_own {W W' : World} {n : Nat} {x y : MStage} (h : x.Good W) (hp : y.plain = x.plain) (ho : OwnSt n W' y) : y.Good W' := by
  obtain ⟨h1, h2, h3, h4, h5, h6, h7⟩ := PStage.eq_iff.1 hp
  obtain ⟨r1, r2, r3, r4, r5, r6, r7, r8, r9⟩ := PRecord.eq_iff.1 h2
  have e1 := sum_eq h6
  have e2 := sum_eq r9
  have b := h.gbegin_
  refine ⟨by have := h.ginto_; rw [show y.into_ = x.into_ from h1]; exact this, ⟨?_, ?_, ?_, ?_, slGood_own b.gown_ (by rw [show y.begin_.own_.l = x.begin_.own_.l from r5]) ho.own fun q hq => b.gown_.el q (by rw [← show y.begin_.own_.l = x.begin_.own_.l from r5]; exact hq), ?_, ?_, ?_, ?_⟩, slGood_own h.gbody_ (by rw [show y.body_.l = x.body_.l from h3]) ho.body fun q hq => h.gbody_.el q (by rw [← show y.body_.l = x.body_.l from h3]; exact hq), by rw [show y.at_ = x.at_ from h4]; exact h.gat_, by rw [show y.next_ = x.next_ from h5]; exact h.gnext_, by rw [e1]; exact h.gsum_.to W'⟩
  · rw [show y.begin_.kind_ = x.begin_.kind_ from r1]; exact b.gkind_
  · rw [show y.begin_.name_ = x.begin_.name_ from r2]; exact b.gname_
  · rw [show y.begin_.from_ = x.begin_.from_ from r3]; exact b.gfrom_
  · rw [show y.begin_.guid_ = x.begin_.guid_ from r4]; exact b.gguid_
  · rw [show y.begin_.index_ = x.begin_.index_ from r6]; exact b.gindex_
  · rw [show y.begin_.count_ = x.begin_.count_ from r7]; exact b.gcount_
  · rw [show y.begin_.data_ = x.begin_.data_ from r8]; exact b.gdata_
  · rw [e2]; exact b.gsum_.to W'
theorem MTenant.Good.of_own {W W' : World} {n : Nat} {x y : MTenant} (h : x.Good W) (hp : y.plain = x.plain) (ho : OwnTe n W' y) : y.Good W' := by
  obtain ⟨h1, h2, h3, h4, h5, h6, h7⟩ := PTenant.eq_iff.1 hp
  have e7 : y.log_.l = x.log_.l := entries_eq h7
  refine ⟨by rw [show y.name_ = x.name_ from h1]; exact h.gname_, by rw [show y.quota_ = x.quota_ from h2]; exact h.gquota_, by rw [show y.next_ = x.next_ from h3]; exact h.gnext_, slGood_own h.gsets_ (map_len h4) ho.sets fun s hs => ?_, slGood_own h.ggrants_ (by rw [show y.grants_.l = x.grants_.l from h5]) ho.grants fun q hq => h.ggrants_.el q (by rw [← show y.grants_.l = x.grants_.l from h5]; exact hq), slGood_own h.gstages_ (map_len h6) ho.stages fun s hs => ?_, slGood_own h.glog_ (by rw [e7]) ho.log fun q hq => (h.glog_.el q (by rw [← e7]; exact hq)).to W'⟩
  · obtain ⟨s', hs', e⟩ := mem_plain h4 hs
    exact (h.gsets_.el s' hs').of_own e (ho.eset s hs)
  · obtain ⟨s', hs', e⟩ := mem_plain h6 hs
    exact (h.gstages_.el s' hs').of_own e (ho.estage s hs)
theorem flat_set {α : Type} (cells : α → List Value) {n : Nat} (hn : ∀ a, (cells a).length = n) : ∀ {l : List α} {j : Nat} {x y : α} {f : Nat} {u : Value}, l[j]? = some x → cells y = (cells x).set f u → f < n → (l.set j y).flatMap cells = (l.flatMap cells).set (j * n + f) u
  | [], j, x, y, f, u, h, _, _ => by simp at h
  | a :: l, 0, x, y, f, u, h, hy, hf => by
    simp only [List.getElem?_cons_zero, Option.some.injEq] at h
    subst h
    rw [List.set_cons_zero, List.flatMap_cons, List.flatMap_cons, hy, Nat.zero_mul, Nat.zero_add, List.set_append_left _ _ (by rw [hn]; exact hf)]
  | a :: l, j + 1, x, y, f, u, h, hy, hf => by
    rw [List.getElem?_cons_succ] at h
    have ih := flat_set cells hn h hy hf
    rw [List.set_cons_succ, List.flatMap_cons, List.flatMap_cons, ih, List.set_append_right _ _ (by rw [hn]; have : (j + 1) * n = j * n + n := Nat.succ_mul j n; omega), hn]
    congr 2
    have : (j + 1) * n = j * n + n := Nat.succ_mul j n
    omega
theorem heap_setIn {W : World} {g i : Nat} {cur : Array Value} {e : TypeId} {u : Value} (h : W.heap[g]? = some (.cells cur e (0, 0))) : (W.setCell ⟨g, i, none⟩ u).heap[g]? = some (.cells (cur.setIfInBounds i u) e (0, 0)) := by
  have hlt := lt_of_block h
  have h' : W.heap[g] = .cells cur e (0, 0) := by simpa [Array.getElem?_eq_getElem hlt] using h
  show (W.heap.modify g _)[g]? = _
  rw [Array.getElem?_eq_getElem (by simpa using hlt), Array.getElem_modify_self, h']
  rfl
theorem own_setIn {W : World} {n size k g cap : Nat} {e : TypeId} {xs : List Value} (h : W.ownsRow n e size (.slice (some ⟨g, 0, none⟩) k cap) k xs) (i : Nat) (u : Value) : (W.setCell ⟨g, i, none⟩ u).ownsRow n e size (.slice (some ⟨g, 0, none⟩) k cap) k (xs.set i u) := by
  obtain ⟨h0, ⟨hv, _⟩ | ⟨g2, cap2, cur, hv, hn, hb, h2, h3, h4, h5⟩⟩ := h
  · cases hv
  · injection hv with e1 e2 e3
    injection e1 with e1
    injection e1 with e1
    subst e1 e3
    refine ⟨by rw [List.length_set]; exact h0, .inr ⟨g, cap, _, rfl, hn, heap_setIn hb, h2, h3, by rw [Array.size_setIfInBounds]; exact h4, ?_⟩⟩
    rw [Array.toList_setIfInBounds, List.take_set, h5]
theorem keeps_setIn {W : World} {n size k g cap : Nat} {e : TypeId} {xs : List Value} (h : W.ownsRow n e size (.slice (some ⟨g, 0, none⟩) k cap) k xs) (i : Nat) (u : Value) : Keeps e W (W.setCell ⟨g, i, none⟩ u) := fun b cur e' hb hne => heap_setCell_other W ⟨g, i, none⟩ b u (by
  intro e1
  have e1 : b = g := e1
  subst e1
  obtain ⟨_, ⟨hv, _⟩ | ⟨g2, cap2, cur2, hv, _, hb2, _⟩⟩ := h
  · cases hv
  · injection hv with e1 e2 e3
    injection e1 with e1
    injection e1 with e1
    subst e1
    rw [hb] at hb2
    injection hb2 with hb2
    injection hb2 with _ h6 _
    exact hne h6)
theorem OwnSe.setIn {n : Nat} {W W' : World} {s : MSet} (h : OwnSe n W s) (hk : Keeps 49 W W') : OwnSe n W' s := h.keep hk (by decide) (by decide) (by decide) (by decide)
theorem OwnTe.setIn {n : Nat} {W : World} {y : MTenant} (h : OwnTe n W y) {g j : Nat} {s s' : MSet} (hA : y.sets_.A = some ⟨g, 0, none⟩) (hj : y.sets_.l[j]? = some s) {f : Nat} {u : Value} (hf : f < 5) (hs : s'.cells = s.cells.set f u) (ho : OwnSe n W s') :
    OwnTe n (W.setCell ⟨g, j * 5 + f, none⟩ u) { y with sets_ := ⟨some ⟨g, 0, none⟩, y.sets_.l.set j s', y.sets_.c⟩ } := by
  have h1 : W.ownsRow n 49 5 (.slice (some ⟨g, 0, none⟩) y.sets_.l.length y.sets_.c) y.sets_.l.length (y.sets_.l.flatMap MSet.cells) := by
    rw [← hA]
    exact h.sets
  have hk := keeps_setIn h1 (j * 5 + f) u
  have h2 := own_setIn h1 (j * 5 + f) u
  rw [← flat_set MSet.cells (fun _ => rfl) hj hs hf] at h2
  refine ⟨?_, own_keeps h.grants (by decide) hk, own_keeps h.stages (by decide) hk, own_keeps h.log (by decide) hk, fun x hx => ?_, fun x hx => (h.estage x hx).keep hk (by decide) (by decide)⟩
  · show (W.setCell ⟨g, j * 5 + f, none⟩ u).ownsRow n 49 5 (.slice (some ⟨g, 0, none⟩) (y.sets_.l.set j s').length y.sets_.c) (y.sets_.l.set j s').length ((y.sets_.l.set j s').flatMap MSet.cells)
    rw [List.length_set]
    exact h2
  · rcases List.mem_or_eq_of_mem_set hx with hx | rfl
    · exact (h.eset x hx).setIn hk
    · exact ho.setIn hk
theorem MTenant.Good.of_sets {W W' : World} {n : Nat} {x y : MTenant} (h : x.Good W) (hp : { y.plain with sets_ := [] } = { x.plain with sets_ := [] }) (hl : y.sets_.l.length * 104 ≤ 140737488351232) (hg : ∀ s ∈ y.sets_.l, s.Good W') (ho : OwnTe n W' y) : y.Good W' := by
  obtain ⟨h1, h2, h3, _, h5, h6, h7⟩ := PTenant.eq_iff.1 hp
  have e7 : y.log_.l = x.log_.l := entries_eq h7
  obtain ⟨A, c, hv, hcap, hnil, hrd, _⟩ := ownAny ho.sets
  injection hv with v1 v2 v3
  refine ⟨by rw [show y.name_ = x.name_ from h1]; exact h.gname_, by rw [show y.quota_ = x.quota_ from h2]; exact h.gquota_, by rw [show y.next_ = x.next_ from h3]; exact h.gnext_, ⟨by rw [v1]; exact hrd.1, hg, by rw [v3]; exact hcap, by rw [v1, v3]; exact hnil, hl⟩, slGood_own h.ggrants_ (by rw [show y.grants_.l = x.grants_.l from h5]) ho.grants fun q hq => h.ggrants_.el q (by rw [← show y.grants_.l = x.grants_.l from h5]; exact hq), slGood_own h.gstages_ (map_len h6) ho.stages fun s hs => ?_, slGood_own h.glog_ (by rw [e7]) ho.log fun q hq => (h.glog_.el q (by rw [← e7]; exact hq)).to W'⟩
  obtain ⟨s', hs', e⟩ := mem_plain h6 hs
  exact (h.gstages_.el s' hs').of_own e (ho.estage s hs)
end Go.Proofs.YtoabkbnhdekbdaaGreat
