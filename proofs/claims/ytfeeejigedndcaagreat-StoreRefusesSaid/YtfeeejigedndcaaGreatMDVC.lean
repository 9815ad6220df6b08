/-
  bytes.Clone and cloneWrite answer copies in new memory. Conditions: from 1 to 2^47 octets.
-/
import Derived.Test.YtfeeejigedndcaaGreatMDVA
import Derived.Deep.RegionHeld3
import Derived.WalkSpells
namespace Go.Proofs.YtfeeejigedndcaaGreat
open Go.ChangeShapes Go.WideShapes Go.ChangeAt Go.RowKit
set_option maxRecDepth 100000

theorem dinfo8 : (Tryz.prog.info? 5).map (fun i => (i.zero, i.size, i.bytes)) = some (some (.int .u8 0), 1, 1) := by kernel_rfl
theorem dinfo_parts {P : Program} {t : TypeId} {z : Option Value} {a b : Nat} (h : (P.info? t).map (fun i => (i.zero, i.size, i.bytes)) = some (z, a, b)) : ∃ i, P.info? t = some i ∧ i.zero = z ∧ i.size = a ∧ i.bytes = b := by
  rcases hi : P.info? t with _ | i
  · rw [hi] at h; cases h
  · rw [hi] at h
    simp at h
    exact ⟨i, rfl, h.1, h.2.1, h.2.2⟩
theorem own_bare {w : World} {base : Nat} {e : TypeId} {size : Nat} {v : Value} {n : Nat} {xs : List Value} (h : w.ownsRow base e size v (0 + n) ([] ++ xs)) : w.ownsRow base e size v n xs := by
  rw [Nat.zero_add, List.nil_append] at h
  exact h

set_option maxHeartbeats 400000 in
set_option maxRecDepth 100000 in
theorem clone_any (A : Option Addr) (n c : Nat) (zs : List Int) (hn : zs.length = n) (h0 : 0 < n) (hl : n ≤ 140737488351232) (w : World) (hr : Rd w A (ocl zs)) :
    Calls Tryz.prog 69 #[.slice A n c] w fun e w' => ∃ g cap, e = .returned (.slice (some ⟨g, 0, none⟩) n cap) ∧ w'.ownsRow w.heap.size 5 1 (.slice (some ⟨g, 0, none⟩) n cap) n (ocl zs) ∧ Below w.heap.size w w' := by
  obtain ⟨i0, hi, hz0, hz1, hz2⟩ := dinfo_parts dinfo8
  have q22 : ∀ (w : World) (a : Option Addr) (n c n' c' : Nat), (binOp .eql 46 (.slice a n c) (.slice none n' c')).run Tryz.prog w = .ok (.bool a.isNone) w := fun w a n c n' c' => Lib.run_eql_slice_nil w _ _ a n c n' c' Tryz.underlying46
  obtain ⟨b, off, hA, hb, hc⟩ := hr (by intro h; have := congrArg List.length h; rw [ocl_length] at this; rw [this] at hn; simp at hn; omega)
  have HR := Lib.hid hr
  have HN := Lib.hid hn
  clear hr hc hn
  subst hA
  have hno : (w.alloc (.cells #[] 5)).ownsRow w.heap.size 5 1 (.slice (some ⟨w.heap.size, 0, none⟩) 0 0) 0 [] := ⟨rfl, .inr ⟨_, _, #[], rfl, Nat.le_refl _, heap_alloc_new w _, Nat.le_refl _, by simp, rfl, rfl⟩⟩
  have HNO := Lib.hid hno
  have hB0 : Below w.heap.size w (w.alloc (.cells #[] 5)) := (Below.refl _ w).alloc (Nat.le_refl _) _
  have H1 := Lib.hid (ocl_one zs)
  clear hno
  go_enter Tryz.func69, Tryz.ntmps69
  go_wp2_with (at_builtin; refine wpList_append_rd (o := ⟨some 7, _, _, _, _, _⟩) rfl _ _ 46 rfl w.heap.size 5 i0 (.int .u8 0) 1 Tryz.underlying46 hi hz0 hz1 hz2 rfl (.slice (some ⟨w.heap.size, 0, none⟩) 0 0) 0 [] rfl HNO.out (some ⟨b, off, none⟩) n c (ocl zs) rfl (by rw [ocl_length]; exact HN.out) (Rd.below HR.out hB0) (fun e => by cases e) H1.out (by unfold maxLen; omega) (by omega) (by simp) ?_; intro v2 w2 hown2 hgrow2)
  obtain ⟨g, cap, hv, hg, hlt⟩ := (own_bare hown2).form h0
  subst hv
  have HO := Lib.hid (own_bare hown2)
  clear hown2
  go_wp2
  go_ret
  exact ⟨g, cap, rfl, HO.out, hB0.grown hgrow2 hB0.size (fun j e => by simp [Value.ownBlock] at e; omega)⟩

/-- A row stays behind a store elsewhere. -/
theorem own_set {W : World} {base size k : Nat} {e : TypeId} {v : Value} {xs : List Value} (h : W.ownsRow base e size v k xs) (g o : Nat) (u : Value) (hg : ∀ b, v.ownBlock = some b → b ≠ g) : (W.setCell ⟨g, o, none⟩ u).ownsRow base e size v k xs := by
  rcases h with ⟨h1, h2 | ⟨b, cap, cur, rfl, hb, hh, h3⟩⟩
  · exact ⟨h1, .inl h2⟩
  · exact ⟨h1, .inr ⟨b, cap, cur, rfl, hb, (heap_setCell_other W ⟨g, o, none⟩ b u (hg b rfl)).trans hh, h3⟩⟩
theorem own_base {W : World} {base base' size k : Nat} {e : TypeId} {v : Value} {xs : List Value} (h : W.ownsRow base e size v k xs) (hb : base' ≤ base) : W.ownsRow base' e size v k xs := by
  rcases h with ⟨h1, h2 | ⟨b, cap, cur, rfl, h4, hh, h3⟩⟩
  · exact ⟨h1, .inl h2⟩
  · exact ⟨h1, .inr ⟨b, cap, cur, rfl, Nat.le_trans hb h4, hh, h3⟩⟩

/-- Two cells of a block, and what lay, stay. -/
theorem held2 {W W' : World} {g n : Nat} {a b : Value} (hg : g < n) (h0 : W.cell? ⟨g, 0, none⟩ = some a) (h1 : W.cell? ⟨g, 1, none⟩ = some b) (hB : Below n W W') :
    W'.cell? ⟨g, 0, none⟩ = some a ∧ W'.cell? ⟨g, 1, none⟩ = some b ∧ Below n W W' :=
  ⟨(hB.cell (p := ⟨g, 0, none⟩) hg).trans h0, (hB.cell (p := ⟨g, 1, none⟩) hg).trans h1, hB⟩

set_option maxHeartbeats 1000000 in
set_option maxRecDepth 100000 in
theorem cloneWrite_any (at_ : Int) (A : Option Addr) (n c : Nat) (zs : List Int) (hn : zs.length = n) (h0 : 0 < n) (hl : n ≤ 140737488351232) (w : World) (hr : Rd w A (ocl zs)) :
    Calls Tryz.prog 38 #[wval at_ A n c] w fun e w' => ∃ g cap, e = .returned (wval at_ (some ⟨g, 0, none⟩) n cap) ∧ w'.ownsRow w.heap.size 5 1 (.slice (some ⟨g, 0, none⟩) n cap) n (ocl zs) ∧ Below w.heap.size w w' := by
  have HC := Lib.hid (fun w h => clone_any A n c zs hn h0 hl w h)
  have HR := Lib.hid hr
  clear hr hn
  go_enter Tryz.func38, Tryz.ntmps38
  go_wp2_with fail
  obtain ⟨w0, hw0⟩ : ∃ w0, (w.alloc (.cells #[.int .i64 at_, .slice A n c] 87)).alloc (.cells #[.int .i64 0, .slice none 0 0] 87) = w0 := ⟨_, rfl⟩
  have hB0 : Below w.heap.size w w0 := hw0 ▸ ((Below.refl _ w).alloc (Nat.le_refl _) _).alloc (by simp) _
  have kb : Blk w0 w.heap.size 87 [.int .i64 at_, .slice A n c] := hw0 ▸ (Blk.new w [.int .i64 at_, .slice A n c] 87).alloc _
  have kc : Blk w0 (w.heap.size + 1) 87 [.int .i64 0, .slice none 0 0] := by
    have := Blk.new (w.alloc (.cells #[.int .i64 at_, .slice A n c] 87)) [.int .i64 0, .slice none 0 0] 87
    rw [World.size_alloc] at this
    exact hw0 ▸ this
  rw [hw0]
  have hc0 := kb.cell 0
  have hc1 := kb.cell 1
  have hbl := kb.lt
  simp only [List.getElem?_cons_zero, List.getElem?_cons_succ] at hc0 hc1
  have hBr : Below w0.heap.size w0 w0 := Below.refl _ _
  have hBs : Below (w.heap.size + 1) w0 w0 := Below.refl _ _
  have HKC := Lib.hid kc
  clear hw0 kb kc
  go_region_held3 (fun w' => w'.cell? ⟨w.heap.size, 0, none⟩ = some (.int .i64 at_) ∧ w'.cell? ⟨w.heap.size, 1, none⟩ = some (.slice A n c) ∧ Below (w.heap.size + 1) w0 w')
    (first | exact held2 (Nat.lt_succ_self _) hc0 hc1 (by (repeat (first | with_reducible exact Below.refl _ _ | with_reducible assumption | with_reducible refine Below.drew ?_ | with_reducible refine Below.alloc ?_ ?_ _ | with_reducible refine Below.setCell ?_ ?_ _ | (focus omega) | (focus (simp; done)) | (focus (simp; omega))))))
    (first | (go_at_call 69; ((with_reducible refine (HC.out _ (Rd.below (Rd.below HR.out hB0) hBr.drew)).mono ?_); rintro e w1 ⟨g, cap, rfl, hown, hB1⟩; have hBw0 : Below w0.heap.size w0 w1 := hBr.drew.trans hB1; have hBw1 : Below (w.heap.size + 1) w0 w1 := hBw0.mono hbl; have hs1 := hBw1.size; have HO := Lib.hid hown; have kc1 := HKC.out.below hBw0 HKC.out.lt; have d0 := kc1.cell 0; have d1 := kc1.cell 1; have f0 := kc1.frozen 0; have f1 := kc1.frozen 1; clear hown hB1 kc1)))
  go_wp2
  simp only [List.getElem?_cons_zero, List.getElem?_cons_succ] at d0 d1
  have hgb := (HO.out.lt g rfl).1
  refine bodyPost_ret (v := wval at_ (some ⟨g, 0, none⟩) n cap) (by simp [results, Tryz.results38, go_sem, d0, d1]) rfl ⟨g, cap, rfl, ?_, ?_⟩
  · refine own_set (own_set (own_base HO.out hB0.size) _ _ _ ?_) _ _ _ ?_
    all_goals
      intro b hb
      simp [Value.ownBlock] at hb
      simp at hgb
      have := HKC.out.lt
      omega
  · exact (((hB0.trans (hBw1.mono (by omega))).setCell (p := ⟨w.heap.size + 1, 0, none⟩) (Nat.le_succ _) _).setCell (p := ⟨w.heap.size + 1, 1, none⟩) (Nat.le_succ _) _)

end Go.Proofs.YtfeeejigedndcaaGreat

namespace Go.Proofs.YtfeeejigedndcaaGreat
open Go.ChangeShapes Go.WideShapes Go.ChangeAt Go.RowKit
set_option maxRecDepth 100000

theorem dinfoB : (Tryz.prog.info? 46).map (fun i => (i.zero, i.size, i.bytes)) = some (some (.slice none 0 0), 1, 24) := by kernel_rfl

/-- A row of the call's own reads so. -/
theorem RdF.of_own {w : World} {base : Nat} {e : TypeId} {size c n : Nat} {A : Option Addr} {vs : List Value} (h : w.ownsRow base e size (.slice A n c) n vs) : RdF base w A vs := by
  rcases h.2 with ⟨hv, h0⟩ | ⟨g, cap, cur, hv, hb, hh, _⟩
  · subst h0
    have : vs = [] := List.eq_nil_of_length_eq_zero (by have := h.1; simpa using this)
    subst this
    exact RdF.nil _ _ _
  · have hA : A = some ⟨g, 0, none⟩ := by injection hv
    subst hA
    refine ⟨fun _ => ⟨g, 0, rfl, (Array.getElem?_eq_some_iff.1 hh).1, fun j u hu => ?_⟩, fun a e _ => by injection e with e; subst e; exact hb⟩
    have := h.cells (g := g) rfl j u hu
    rw [add_plain] at this
    exact this

/-- The first of n places are filled. -/
def laid (ps : List Pt) (n : Nat) : List Value := ptCells ps ++ List.replicate (n - ps.length) (.slice none 0 0)
theorem laid_set {ps : List Pt} {n : Nat} (p : Pt) (h : ps.length < n) : (laid ps n).set ps.length p.val = laid (ps ++ [p]) n := by
  unfold laid
  rw [List.set_append_right _ _ (by rw [ptCells_length]; exact Nat.le_refl _), ptCells_length, Nat.sub_self]
  obtain ⟨m, hm⟩ : ∃ m, n - ps.length = m + 1 := ⟨n - ps.length - 1, by omega⟩
  rw [hm, List.replicate_succ, List.set_cons_zero, show n - (ps ++ [p]).length = m by simp; omega]
  simp [ptCells]
theorem laid_full {ps : List Pt} {n : Nat} (h : ps.length = n) : laid ps n = ptCells ps := by simp [laid, h]
theorem laid_next {ps : List Pt} {n : Nat} (h : ps.length < n) : (laid ps n)[ps.length]? = some (.slice none 0 0) := by
  unfold laid
  rw [List.getElem?_append_right (by rw [ptCells_length]; exact Nat.le_refl _), ptCells_length, Nat.sub_self, List.getElem?_replicate, if_pos (by omega)]
theorem laid_zero (n : Nat) : laid [] n = List.replicate n (.slice none 0 0) := by simp [laid, ptCells]

/-- Sectors of the call's own, each in a block of its own, from lo to below hi. -/
structure Secs (lo hi : Nat) (W : World) (ps : List Pt) : Prop where
  own : ∀ (k : Nat) (p : Pt), ps[k]? = some p → ∃ g, p.A = some ⟨g, 0, none⟩ ∧ g < hi ∧ W.ownsRow lo 5 1 p.val p.zs.length (ocl p.zs)
  apart : ∀ (j k : Nat) (p q : Pt), ps[j]? = some p → ps[k]? = some q → j ≠ k → p.A ≠ q.A
theorem Secs.nil (lo hi : Nat) (W : World) : Secs lo hi W [] := ⟨fun k p h => by simp at h, fun j k p q h => by simp at h⟩
theorem own_stay {W W' : World} {base size k : Nat} {e : TypeId} {v : Value} {xs : List Value} (h : W.ownsRow base e size v k xs) (hk : ∀ b, v.ownBlock = some b → W'.heap[b]? = W.heap[b]?) : W'.ownsRow base e size v k xs := by
  rcases h with ⟨h1, h2 | ⟨b, cap, cur, rfl, hb, hh, h3⟩⟩
  · exact ⟨h1, .inl h2⟩
  · exact ⟨h1, .inr ⟨b, cap, cur, rfl, hb, (hk b rfl).trans hh, h3⟩⟩
theorem Secs.stay {lo hi : Nat} {W W' : World} {ps : List Pt} (h : Secs lo hi W ps) (hk : ∀ k, lo ≤ k → k < hi → W'.heap[k]? = W.heap[k]?) : Secs lo hi W' ps := by
  refine ⟨fun k p hp => ?_, h.apart⟩
  obtain ⟨g, e, hg, ho⟩ := h.own k p hp
  refine ⟨g, e, hg, own_stay ho fun b hb => hk b (ho.lt b hb).1 ?_⟩
  rw [Pt.val, e] at hb
  simp [Value.ownBlock] at hb
  omega
theorem Secs.snoc {lo hi hi' : Nat} {W : World} {ps : List Pt} (h : Secs lo hi W ps) (_hh : hi ≤ hi') {g cap n : Nat} {zs : List Int} (hn : zs.length = n) (hg : hi ≤ g) (hg' : g < hi') (ho : W.ownsRow lo 5 1 (.slice (some ⟨g, 0, none⟩) n cap) n (ocl zs)) :
    Secs lo hi' W (ps ++ [⟨some ⟨g, 0, none⟩, zs, cap⟩]) := by
  subst hn
  have key : ∀ k p, (ps ++ [(⟨some ⟨g, 0, none⟩, zs, cap⟩ : Pt)])[k]? = some p → (k < ps.length ∧ ps[k]? = some p) ∨ (k = ps.length ∧ p = ⟨some ⟨g, 0, none⟩, zs, cap⟩) := by
    intro k p hp
    rcases Nat.lt_or_ge k ps.length with hlt | hge
    · rw [List.getElem?_append_left hlt] at hp
      exact .inl ⟨hlt, hp⟩
    · rw [List.getElem?_append_right hge] at hp
      rcases hk : k - ps.length with _ | m
      · rw [hk] at hp
        simp at hp
        exact .inr ⟨by omega, hp.symm⟩
      · rw [hk] at hp
        simp at hp
  refine ⟨fun k p hp => ?_, fun j k p q hp hq hjk => ?_⟩
  · rcases key k p hp with ⟨_, hp⟩ | ⟨_, rfl⟩
    · obtain ⟨g', e, hg2, ho2⟩ := h.own k p hp
      exact ⟨g', e, by omega, ho2⟩
    · exact ⟨g, rfl, hg', ho⟩
  · rcases key j p hp with ⟨_, hp⟩ | ⟨_, rfl⟩ <;> rcases key k q hq with ⟨_, hq⟩ | ⟨_, rfl⟩
    · exact h.apart j k p q hp hq hjk
    · obtain ⟨g', e, hg2, _⟩ := h.own j p hp
      rw [e]
      intro e2
      injection e2 with e2
      injection e2 with e2
      omega
    · obtain ⟨g', e, hg2, _⟩ := h.own k q hq
      rw [e]
      intro e2
      injection e2 with e2
      injection e2 with e2
      omega
    · omega
theorem Secs.lies {lo hi n : Nat} {W : World} {ps : List Pt} (h : Secs lo hi W ps) (hn : n ≤ lo) : ∀ p ∈ ps, RdF n W p.A (ocl p.zs) := fun p hp => by
  obtain ⟨k, hk⟩ := List.getElem?_of_mem hp
  obtain ⟨g, e, _, ho⟩ := h.own k p hk
  exact (RdF.of_own ho).mono hn

/-- A device, and an error. -/
abbrev ansD (v : Value) (e : Int) : Value := .tuple #[v, .int .i64 e]
abbrev noD : Value := dval none 0 0 none 0 0

/-- 64 zeros. -/
def z64 : List Int := List.replicate 64 0
theorem z64_length : z64.length = 64 := by simp [z64]

set_option maxHeartbeats 1000000 in
set_option maxRecDepth 100000 in
theorem new_no (n : Int) (h : ¬ (2 ≤ n ∧ n ≤ 8192)) (w : World) :
    Calls Tryz.prog 73 #[.int .i64 n] w fun e w' => e = .returned (ansD noD 4) ∧ Below w.heap.size w w' := by
  have hB0 : Below w.heap.size w (w.alloc (.cells #[.slice none 0 0, .slice none 0 0] 27)) := (Below.refl _ w).alloc (Nat.le_refl _) _
  by_cases h2 : n < 2
  · go_enter Tryz.func73, Tryz.ntmps73
    go_wp2
    refine bodyPost_ret (v := ansD noD 4) (by simp [results, Tryz.results73, go_sem]) rfl ⟨rfl, hB0⟩
  · have h3 : 8192 < n := by omega
    go_enter Tryz.func73, Tryz.ntmps73
    go_wp2
    refine bodyPost_ret (v := ansD noD 4) (by simp [results, Tryz.results73, go_sem]) rfl ⟨rfl, hB0⟩

set_option maxHeartbeats 1000000 in
set_option maxRecDepth 100000 in
theorem new_ok (n : Nat) (h2 : 2 ≤ n) (h3 : n ≤ 8192) (w : World) :
    Calls Tryz.prog 73 #[.int .i64 n] w fun e w' => ∃ D : Dv, e = .returned (ansD D.val 0) ∧ D.st = ⟨List.replicate n z64, []⟩ ∧ D.Lies w.heap.size w' ∧ Below w.heap.size w w' := by
  obtain ⟨i0, hi, hz0, hz1, hz2⟩ := dinfo_parts dinfo8
  obtain ⟨j0, hj, hy0, hy1, hy2⟩ := dinfo_parts dinfoB
  have hB0 : Below w.heap.size w (w.alloc (.cells #[.slice none 0 0, .slice none 0 0] 27)) := (Below.refl _ w).alloc (Nat.le_refl _) _
  go_enter Tryz.func73, Tryz.ntmps73
  go_wp2_with (at_make; refine wpList_make_full _ rfl _ _ 24 rfl w.heap.size 46 j0 (.slice none 0 0) 1 Tryz.underlying24 hj hy0 hy1 .i64 .i64 _ _ n rfl rfl (by omega) (by omega) (by rw [hy2]; omega) (by unfold maxLen; omega) (by simp) ?_; intro w0 hown0 hgrow0)
  have hB1 : Below w.heap.size w w0 := hB0.grown hgrow0 (by simp) (fun _ h => by cases h)
  have kb : Blk w0 w.heap.size 27 [.slice none 0 0, .slice none 0 0] := (hgrow0.block w.heap.size (by simp) (by simp)).trans (Blk.new w [.slice none 0 0, .slice none 0 0] 27)
  have hown1 : w0.ownsRow w.heap.size 46 1 (.slice (some ⟨w.heap.size + 1, 0, none⟩) n n) n (laid [] n) := by
    rw [laid_zero]
    simpa [Value.cells, toList_madeCells_one] using hown0
  have hs0 : w.heap.size + 1 < w0.heap.size := (hown1.lt _ rfl).2
  clear hown0 hgrow0 hB0
  go_loopw [17] (fun i wr => ∃ ps : List Pt, ps.length ≤ n ∧ i = .int .i64 ps.length ∧ Hid (wr.ownsRow w.heap.size 46 1 (.slice (some ⟨w.heap.size + 1, 0, none⟩) n n) n (laid ps n)) ∧ Hid (Secs w0.heap.size wr.heap.size wr ps) ∧ Hid (∀ p ∈ ps, p.zs = z64) ∧ Hid (Blk wr w.heap.size 27 [.slice none 0 0, .slice none 0 0]) ∧ Below w.heap.size w wr ∧ w0.heap.size ≤ wr.heap.size) (fun i _ => n - (intOf i).toNat)
  case atStart =>
    exact ⟨[], Nat.zero_le _, rfl, hown1, Secs.nil _ _ _, fun p hp => by simp at hp, kb, hB1, Nat.le_refl _⟩
  case round =>
    clear kb hown1
    obtain ⟨ps, hk, rfl, HO, HS, HZ, HK, hB, hs⟩ := hrel
    by_cases hlt : ps.length < n
    · go_wp2_with (at_make; refine wpList_make_full _ rfl _ _ 46 rfl w0.heap.size 5 i0 (.int .u8 0) 1 Tryz.underlying46 hi hz0 hz1 .i64 .i64 _ _ 64 rfl rfl (by omega) (by omega) (by rw [hz2]; omega) (by unfold maxLen; omega) hs ?_; intro w2 hown2 hgrow2; have ho2 := own_stay HO.out (fun b hb => hgrow2.block b (HO.out.lt b hb).2 (by simp)); have hc2 := (ho2.cellAt ps.length (by omega)).trans (laid_next hlt); have hf2 := ho2.frozenAt ps.length)
      have hown3 : w2.ownsRow w0.heap.size 5 1 (.slice (some ⟨wr.heap.size, 0, none⟩) 64 64) 64 (ocl z64) := by
        have : ocl z64 = List.replicate 64 (.int .u8 0) := by simp [ocl, z64]
        rw [this]
        simpa [Value.cells, toList_madeCells_one] using hown2
      have hlt2 := (hown3.lt _ rfl).2
      have hs2 := hgrow2.size
      go_roundw
      case rel =>
        refine ⟨ps ++ [⟨some ⟨wr.heap.size, 0, none⟩, z64, 64⟩], by simp; omega, by simp, ?_, ?_, ?_, ?_, ?_, by simp; omega⟩
        · have := (ho2.stored ps.length (.slice (some ⟨wr.heap.size, 0, none⟩) 64 64)).1
          rw [show (.slice (some ⟨wr.heap.size, 0, none⟩) 64 64 : Value) = Pt.val ⟨some ⟨wr.heap.size, 0, none⟩, z64, 64⟩ by simp [Pt.val, z64_length], laid_set _ hlt] at this
          exact this
        · have h1 : Secs w0.heap.size wr.heap.size w2 ps := HS.out.stay fun k _ h => hgrow2.block k h (by simp)
          have h2 := h1.snoc (hi' := w2.heap.size) hs2 z64_length (Nat.le_refl _) hlt2 hown3
          have h3 : (w2.setCell ⟨w.heap.size + 1, ps.length, none⟩ (.slice (some ⟨wr.heap.size, 0, none⟩) 64 64)).heap.size = w2.heap.size := by simp
          show Secs _ _ _ _
          rw [h3]
          exact h2.stay fun k h _ => heap_setCell_other _ _ k _ (show k ≠ w.heap.size + 1 by omega)
        · intro p hp
          simp at hp
          rcases hp with hp | rfl
          · exact HZ.out p hp
          · rfl
        · exact Blk.other ((hgrow2.block w.heap.size HK.out.lt (by simp)).trans HK.out) (by omega) _ _
        · exact (hB.grown hgrow2 hB.size (fun _ e => by cases e)).setCell (p := ⟨w.heap.size + 1, ps.length, none⟩) (Nat.le_succ _) _
      case measure => simp [intOf]; omega
    · have hn : ps.length = n := by omega
      subst hn
      have d0 := HK.out.cell 0
      have d1 := HK.out.cell 1
      have f0 := HK.out.frozen 0
      have f1 := HK.out.frozen 1
      simp only [List.getElem?_cons_zero, List.getElem?_cons_succ] at d0 d1
      go_wp2
      refine bodyPost_ret (v := ansD (dval (some ⟨w.heap.size + 1, 0, none⟩) ps.length ps.length none 0 0) 0) (by simp [results, Tryz.results73, go_sem, d0, d1]) rfl ⟨⟨some ⟨w.heap.size + 1, 0, none⟩, ps, ps.length, none, [], 0⟩, rfl, ?_, ⟨?_, ?_, RdF.nil _ _ _, fun x hx => by simp at hx⟩, (hB.setCell (p := ⟨w.heap.size, 0, none⟩) (Nat.le_refl _) _).setCell (p := ⟨w.heap.size, 1, none⟩) (Nat.le_refl _) _⟩
      · unfold Dv.st
        simp only [DS.mk.injEq, List.map_nil, and_true]
        exact List.eq_replicate_iff.2 ⟨by simp, fun b hb => by
          obtain ⟨p, hp, rfl⟩ := List.mem_map.1 hb
          exact HZ.out p hp⟩
      · have := HO.out
        rw [laid_full rfl] at this
        exact RdF.of_own (own_set (own_set this _ _ _ (fun b hb => by simp [Value.ownBlock] at hb; omega)) _ _ _ (fun b hb => by simp [Value.ownBlock] at hb; omega))
      · have h1 := HS.out.stay (W' := (wr.setCell ⟨w.heap.size, 0, none⟩ (.slice (some ⟨w.heap.size + 1, 0, none⟩) ps.length ps.length)).setCell ⟨w.heap.size, 1, none⟩ (.slice none 0 0)) fun k h _ => (heap_setCell_other _ _ k _ (show k ≠ w.heap.size by omega)).trans (heap_setCell_other _ _ k _ (show k ≠ w.heap.size by omega))
        exact h1.lies (by omega)

end Go.Proofs.YtfeeejigedndcaaGreat
