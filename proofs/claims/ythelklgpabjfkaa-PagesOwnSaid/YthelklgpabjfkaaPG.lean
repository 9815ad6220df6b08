/-
  Cut of pages. Conditions: the slice is one that may be.
-/
import Derived.Test.YthelklgpabjfkaaPF
namespace Go.Proofs.Ythelklgpabjfkaa
open Go.ChangeShapes Go.WideShapes Go.ChangeAt Go.RowKit Go.Shelf
attribute [local go_sem] Oper.semAt_some

theorem infoP : (Try.prog.info? 22).map (fun i => (i.zero, i.size, i.bytes)) = some (some (.slice none 0 0), 1, 24) := by kernel_rfl

/-- A page's slice, by its block and its room. -/
abbrev pval (q : Nat × Nat) : Value := .slice (some ⟨q.1, 0, none⟩) 64 q.2
theorem pval_one (qs : List (Nat × Nat)) : ∀ u ∈ qs.map pval, u.oneCell' = true := by
  intro u hu
  obtain ⟨q, _, rfl⟩ := List.mem_map.1 hu
  simp [Value.oneCell']

/-- Sectors, each with memory of its own. -/
structure Pages (W : World) (base : Nat) (qs : List (Nat × Nat)) (cs : List (List Int)) : Prop where
  len : qs.length = cs.length
  own : ∀ (k : Nat) q z, qs[k]? = some q → cs[k]? = some z → W.ownsRow base 5 1 (pval q) 64 (octCells z)
  inj : ∀ (j k : Nat) p q, qs[j]? = some p → qs[k]? = some q → p.1 = q.1 → j = k

theorem own_far {W : World} {base base' n n' : Nat} {e e' : TypeId} {v v' : Value} {xs xs' : List Value} (h : W.ownsRow base e 1 v n xs) (h' : W.ownsRow base' e' 1 v' n' xs') (hne : e ≠ e') : v.ownBlock = none ∨ v.ownBlock ≠ v'.ownBlock := by
  rcases h.2 with ⟨rfl, _⟩ | ⟨g, cap, cur, rfl, _, hg, _⟩
  · exact .inl rfl
  · refine .inr fun he => ?_
    rcases h'.2 with ⟨rfl, _⟩ | ⟨g', cap', cur', rfl, _, hg', _⟩
    · cases he
    · simp only [Value.ownBlock, Option.some.injEq] at he
      subst he
      have := hg.symm.trans hg'
      simp at this
      exact hne this.2
theorem own_other {W W' : World} {base n : Nat} {e : TypeId} {v : Value} {xs : List Value} {row : Option Nat} (h : W.ownsRow base e 1 v n xs) (hg : W.grownBy W' row) (hr : ∀ r, row = some r → ∃ o : Obj, W.heap[r]? = some o ∧ o.isCells = false) : W'.ownsRow base e 1 v n xs := by
  refine h.kept hg ?_
  rcases h.2 with ⟨rfl, _⟩ | ⟨g, cap, cur, rfl, _, hgb, _⟩
  · exact .inl rfl
  · refine .inr fun e' => ?_
    obtain ⟨o, ho, hc⟩ := hr g e'.symm
    rw [hgb] at ho; cases ho; cases hc
theorem own_base' {W : World} {base base' n : Nat} {e : TypeId} {v : Value} {xs : List Value} (h : W.ownsRow base e 1 v n xs) (hb : base' ≤ base) : W.ownsRow base' e 1 v n xs := own_below h (Below.refl _ _) hb
theorem Pages.map {W W' : World} {base base' : Nat} {qs : List (Nat × Nat)} {cs : List (List Int)} (h : Pages W base qs cs) (hk : ∀ q z, W.ownsRow base 5 1 (pval q) 64 (octCells z) → W'.ownsRow base' 5 1 (pval q) 64 (octCells z)) : Pages W' base' qs cs :=
  ⟨h.len, fun k q z hq hz => hk q z (h.own k q z hq hz), h.inj⟩
theorem Pages.below {W W' : World} {base : Nat} {qs : List (Nat × Nat)} {cs : List (List Int)} (h : Pages W base qs cs) (hB : Below W.heap.size W W') : Pages W' base qs cs := h.map fun _ _ ho => own_below ho hB (Nat.le_refl _)
theorem Pages.lt {W : World} {base : Nat} {qs : List (Nat × Nat)} {cs : List (List Int)} (h : Pages W base qs cs) {q : Nat × Nat} (hq : q ∈ qs) : base ≤ q.1 ∧ q.1 < W.heap.size := by
  obtain ⟨k, hk, rfl⟩ := List.getElem_of_mem hq
  have hk' : k < cs.length := by rw [← h.len]; exact hk
  exact (h.own k _ _ (List.getElem?_eq_getElem hk) (List.getElem?_eq_getElem hk')).lt _ rfl
theorem Pages.snoc {W : World} {base : Nat} {qs : List (Nat × Nat)} {cs : List (List Int)} (h : Pages W base qs cs) {q : Nat × Nat} {z : List Int} (hq : W.ownsRow base 5 1 (pval q) 64 (octCells z)) (hn : ∀ p ∈ qs, p.1 < q.1) : Pages W base (qs ++ [q]) (cs ++ [z]) := by
  have hl := h.len
  refine ⟨by simp [hl], fun k p y hp hy => ?_, fun j k p r hp hr he => ?_⟩
  · rcases Nat.lt_trichotomy k qs.length with hk | hk | hk
    · rw [List.getElem?_append_left hk] at hp
      rw [List.getElem?_append_left (by omega)] at hy
      exact h.own k p y hp hy
    · subst hk
      rw [List.getElem?_append_right (Nat.le_refl _)] at hp
      rw [List.getElem?_append_right (by omega)] at hy
      simp at hp
      simp [hl] at hy
      subst hp hy
      exact hq
    · rw [List.getElem?_append_right (by omega)] at hp
      have : k - qs.length ≠ 0 := by omega
      simp [this] at hp
  · have hx : ∀ (j : Nat) p, (qs ++ [q])[j]? = some p → (j < qs.length ∧ qs[j]? = some p) ∨ (j = qs.length ∧ p = q) := fun j p hp => by
      rcases Nat.lt_trichotomy j qs.length with hk | hk | hk
      · rw [List.getElem?_append_left hk] at hp
        exact .inl ⟨hk, hp⟩
      · subst hk
        rw [List.getElem?_append_right (Nat.le_refl _)] at hp
        simp at hp
        exact .inr ⟨rfl, hp.symm⟩
      · rw [List.getElem?_append_right (by omega)] at hp
        have : j - qs.length ≠ 0 := by omega
        simp [this] at hp
    rcases hx j p hp with ⟨h1, h2⟩ | ⟨h1, h2⟩ <;> rcases hx k r hr with ⟨h3, h4⟩ | ⟨h3, h4⟩
    · exact h.inj j k p r h2 h4 he
    · subst h4
      have := hn p (List.mem_of_getElem? h2)
      omega
    · subst h2
      have := hn r (List.mem_of_getElem? h4)
      omega
    · omega

/-- The sectors of the places. -/
def pgs (zs : List Int) (is : List Nat) : List (List Int) := is.map fun i => pgO (piece zs i) 0
/-- What holds between two rounds. -/
def CI (w : World) (B Bn : Nat) (x : Value) (zs : List Int) {N : Nat} (pre : List (IX N)) (W : World) : Prop :=
  ∃ v qs, Boxed W B 36 v ∧ W.ownsRow w.heap.size 22 1 v pre.length (qs.map pval) ∧ Pages W w.heap.size qs (pgs zs (ivals pre)) ∧ Below w.heap.size w W ∧ some Bn ≠ v.ownBlock ∧ W.cell? ⟨Bn, 0, none⟩ = some x

theorem cI_own (w : World) (B Bn L : Nat) (x : Value) (zs : List Int) {N : Nat} (hL : w.heap.size ≤ L) : OwnFrom L (fun (pre : List (IX N)) W => CI w B Bn x zs pre W) := by
  rintro s W W' row ⟨v, qs, hb, ho, hp, hB, hne, hc⟩ hg hr
  refine ⟨v, qs, hb.kept hg (fun e => ?_), own_other ho hg (fun r e => (hr r e).2), hp.map fun q z h => own_other h hg (fun r e => (hr r e).2), hB.grown hg hB.size (fun k e => Nat.le_trans hL (hr k e).1), hne, hg.cell hc (fun e => ?_)⟩
  · obtain ⟨o, ho, hc⟩ := (hr B e.symm).2
    rw [show W.heap[B]? = _ from hb] at ho
    cases ho
    cases hc
  · obtain ⟨o, ho, ho2⟩ := (hr Bn e.symm).2
    unfold World.cell? at hc
    rw [ho] at hc
    cases o <;> simp_all [Obj.isCells]

theorem CI.step {w : World} {B Bn L b off c : Nat} {zs : List Int} {N : Nat} {pre : List (IX N)} {x : IX N} {W w1 w3 : World} {v v' : Value} {qs : List (Nat × Nat)} {q : Nat × Nat}
    (hv : Boxed W B 36 v) (ho : W.ownsRow w.heap.size 22 1 v pre.length (qs.map pval)) (hp : Pages W w.heap.size qs (pgs zs (ivals pre))) (hB : Below w.heap.size w W) (hne : some Bn ≠ v.ownBlock) (hc : W.cell? ⟨Bn, 0, none⟩ = some (.slice (some ⟨b, off, none⟩) zs.length c))
    (hb : b < w.heap.size) (hBw : w.heap.size ≤ B) (hBB : Bn ≠ B)
    (hB1 : Below W.heap.size W w1) (hq : w1.ownsRow W.heap.size 5 1 (pval q) 64 (octCells (pgO (piece zs x.1) 0)))
    (hown : w3.ownsRow w.heap.size 22 1 v' (pre.length + 1) (qs.map pval ++ [pval q])) (hgrow : (w1.alloc (.cells #[pval q] 22)).grownBy w3 v.ownBlock) :
    KeepsFrom L W (w3.setCell ⟨B, 0, none⟩ v') ∧ KeepsBlk Bn W (w3.setCell ⟨B, 0, none⟩ v') ∧ CI w B Bn (.slice (some ⟨b, off, none⟩) zs.length c) zs (pre ++ [x]) (w3.setCell ⟨B, 0, none⟩ v') := by
  have hBn : Bn < W.heap.size := World.block_lt_of_cell? W ⟨Bn, 0, none⟩ hc
  have hB2 : Below W.heap.size W (w1.alloc (.cells #[pval q] 22)) := hB1.alloc hB1.size _
  have ho2 := own_below ho hB2 (Nat.le_refl _)
  have hp2 := hp.below hB2
  have hv2 : Boxed (w1.alloc (.cells #[pval q] 22)) B 36 v := (hB2.block B hv.lt).trans hv
  have hq2 := own_base' (base' := w.heap.size) (hq.alloc (.cells #[pval q] 22)) hB.size
  have hc2 : (w1.alloc (.cells #[pval q] 22)).cell? ⟨Bn, 0, none⟩ = some (.slice (some ⟨b, off, none⟩) zs.length c) := (hB2.cell (p := ⟨Bn, 0, none⟩) hBn).trans hc
  have hqn : ∀ p ∈ qs, p.1 < q.1 := fun p hp' => Nat.lt_of_lt_of_le (hp.lt hp').2 (hq.lt _ rfl).1
  generalize hw2 : w1.alloc (.cells #[pval q] 22) = w2 at *
  have hv3 : Boxed w3 B 36 v := hv2.kept hgrow (hv2.not_row (by decide) ho2)
  have hne3 : some B ≠ v'.ownBlock := hv3.not_row (by decide) hown
  have hk3 : ∀ q z, w2.ownsRow w.heap.size 5 1 (pval q) 64 (octCells z) → w3.ownsRow w.heap.size 5 1 (pval q) 64 (octCells z) := fun q z h => h.kept hgrow (own_far h ho2 (by decide))
  have hk4 : ∀ q z, w3.ownsRow w.heap.size 5 1 (pval q) 64 (octCells z) → (w3.setCell ⟨B, 0, none⟩ v').ownsRow w.heap.size 5 1 (pval q) 64 (octCells z) := fun q z h => h.kept (grownBy_setCell' w3 B v') (.inr (fun e => hv3.not_row (by decide) h e.symm))
  have hc3 : w3.cell? ⟨Bn, 0, none⟩ = some (.slice (some ⟨b, off, none⟩) zs.length c) := hgrow.cell hc2 hne
  have hcell : ∀ (j : Nat) (o : Obj), v.ownBlock = some j → w2.heap[j]? = some o → o.isCells = true := by
    intro j o hj ho'
    rcases ho2.2 with ⟨rfl, _⟩ | ⟨g, cap, cur, rfl, _, hh, _⟩
    · cases hj
    · simp [Value.ownBlock] at hj
      subst hj
      rw [hh] at ho'
      cases ho'
      rfl
  have hBs : some Bn ≠ some B := fun e => hBB (by injection e)
  refine ⟨?_, ?_, v', qs ++ [q], hv3.set v', ?_, ?_, ?_, ?_, ?_⟩
  · have k1 : KeepsOthers W w2 := ⟨hB2.size, fun k o hk _ => (hB2.block k (Array.getElem?_eq_some_iff.1 hk).1).trans hk⟩
    exact ((k1.trans (KeepsOthers.of_grownBy hgrow hcell)).trans (KeepsOthers.setCell _ _ _)).from L
  · refine KeepsBlk.trans (fun o u hu => (hB2.cell (p := ⟨Bn, o, none⟩) hBn).trans hu) (KeepsBlk.trans (KeepsBlk.grown hgrow hne) (KeepsBlk.grown (grownBy_setCell' w3 B v') hBs))
  · rw [List.length_append, List.map_append]
    exact hown.kept (grownBy_setCell' w3 B v') (.inr (fun e => hne3 e.symm))
  · have := (((hp2.snoc hq2 hqn).map hk3).map hk4)
    rw [ivals_snoc]
    simpa [pgs] using this
  · exact ((hB.trans (hB2.mono hB.size)).grown hgrow (Nat.le_trans hB.size hB2.size) (fun k e => (ho.lt k e).1)).setCell (p := ⟨B, 0, none⟩) hBw _
  · intro e
    obtain ⟨q0, hq0, hqs⟩ : ∃ q0, (qs.map pval ++ [pval q])[0]? = some (pval q0) ∧ w.heap.size ≤ q0.1 := by
      rcases qs with _ | ⟨q1, qs⟩
      · exact ⟨q, rfl, (hq2.lt _ rfl).1⟩
      · exact ⟨q1, rfl, (hp.lt (by simp)).1⟩
    have h1 := hown.cells e.symm 0 _ hq0
    rw [add_plain] at h1
    rw [show (⟨Bn, 0 + 0, none⟩ : Addr) = ⟨Bn, 0, none⟩ from rfl, hc3] at h1
    injection h1 with h1
    injection h1 with h1 _ _
    injection h1 with h1
    injection h1 with h1 _
    omega
  · exact (grownBy_setCell' w3 B v').cell hc3 hBs

theorem pgs_all (zs : List Int) : pgs zs (List.range (cntN zs.length)) = (pieces zs).map fun z => pgO z 0 := by simp [pgs, pieces]

set_option maxRecDepth 100000 in
set_option maxHeartbeats 2000000 in
theorem cut_any (s : Slc) (w : World) (hs : s.ok w) (hl : s.zs.length ≤ 140737488351232) :
    Calls Try.prog 15 #[s.val] w fun e w' => ∃ v qs, e = .returned v ∧ w'.ownsRow w.heap.size 22 1 v (cntN s.zs.length) (qs.map pval) ∧ Pages w' w.heap.size qs ((pieces s.zs).map fun z => pgO z 0) ∧ Below w.heap.size w w' := by
  obtain ⟨i0, hi, hz0, hz1, hz2⟩ := info_parts infoP
  obtain ⟨A, zs, c⟩ := s
  obtain ⟨hc, _, ho, hr⟩ := hs
  dsimp only at hl hc ho hr
  unfold Slc.val
  dsimp only
  rw [← pgs_all]
  obtain ⟨b, off, hA⟩ : ∃ b off, 0 < zs.length → A = some ⟨b, off, none⟩ ∧ b < w.heap.size := by
    by_cases h : 0 < zs.length
    · obtain ⟨b, off, e, hb, _⟩ := RdB.cell hr (k := 0) h
      exact ⟨b, off, fun _ => ⟨e, hb⟩⟩
    · exact ⟨0, 0, fun h' => absurd h' h⟩
  have hcn : (cntN zs.length : Int) ≤ 2706490160603 := by unfold cntN; omega
  have hco := count_any (zs.length : Int) (by omega)
  rw [cntI_nat] at hco
  have HCO := Lib.hid hco
  have HEN : Hid (∀ i W, Below w.heap.size w W → i < cntN zs.length → Calls Try.prog 7 #[.slice (some ⟨b, off + 52 * i, none⟩) (min 52 (zs.length - 52 * i)) (c - 52 * i), .int .i64 0] W fun e w' => ∃ q : Nat × Nat, e = .returned (.tuple #[pval q, .int .i64 0]) ∧ w'.ownsRow W.heap.size 5 1 (pval q) 64 (octCells (pgO (piece zs i) 0)) ∧ Below W.heap.size W w') := by
    intro i W hB hi
    have h52 : 52 * i < zs.length := by unfold cntN at hi; omega
    obtain ⟨rfl, hb⟩ := hA (by omega)
    have := pageEncode_ok ⟨some ⟨b, off + 52 * i, none⟩, piece zs i, c - 52 * i⟩ 0 (piece_page zs i) W ⟨by show (piece zs i).length ≤ c - 52 * i; rw [piece_length]; omega, by show (piece zs i).length ≤ maxLen; rw [piece_length]; unfold maxLen; omega, piece_octs ho i, rd_mid (hr.below hB) (52 * i) 52⟩
    unfold Slc.val at this
    dsimp only at this
    rw [piece_length] at this
    refine this.mono ?_
    rintro e w' ⟨v, rfl, hown, hB'⟩
    obtain ⟨g, cc, rfl, _, _⟩ := hown.form (by omega)
    exact ⟨(g, cc), rfl, hown, hB'⟩
  have HAA := Lib.hid hA
  clear hr ho hco hA
  refine (callsIn_wide (n := 4)).1 ?_
  refine callsIn_of_wp_marks Try.func15 rfl trivial ?_ rfl
  simp only [Try.ntmps15, List.size_toArray, List.length_cons, List.length_nil, Nat.reduceAdd, Nat.reduceSub, Array.replicate_succ, Array.replicate_zero, List.push_toArray, List.append_toArray, List.nil_append, List.cons_append]
  gi_wp2_with (first
    | (refine ⟨trivial, ?_⟩; gi_at_call 11; refine (callsIn_wide.2 (HCO.out w)).mono ?_; rintro e w' ⟨rfl, rfl⟩)
    | (gi_at_make; refine wpListIn_make_own _ rfl _ _ 36 rfl w.heap.size 22 i0 (.slice none 0 0) 1 Try.underlying36 hi hz0 hz1 .i64 .i64 _ (cntN zs.length) rfl rfl (by first | rfl | omega) (by rw [hz2]; omega) (by unfold maxLen; omega) (Nat.le_refl _) ?_; intro w0 hown0 hgrow0)
    | (refine ⟨trivial, ?_⟩; gi_at_call 28; refine (pparts_in 3 _ ⟨_, _, _, rfl⟩ _).mono ?_; rintro e w' ⟨rfl, rfl⟩))
  have hlt := (hown0.lt w.heap.size rfl).2
  have hB1 : Below w.heap.size w w0 := (Below.refl _ w).grown hgrow0 (Nat.le_refl _) (fun _ e => by cases e)
  clear hgrow0
  have bO := Boxed.new w0 36 (.slice (some ⟨w.heap.size, 0, none⟩) 0 (cntN zs.length))
  have bP := Boxed.new (w0.alloc (.cells #[.slice (some ⟨w.heap.size, 0, none⟩) 0 (cntN zs.length)] 36)) 22 (.slice A zs.length c)
  rw [World.size_alloc] at bP
  have hB2 : Below w.heap.size w ((w0.alloc (.cells #[.slice (some ⟨w.heap.size, 0, none⟩) 0 (cntN zs.length)] 36)).alloc (.cells #[.slice A zs.length c] 22)) := (hB1.alloc hB1.size _).alloc (by simp; omega) _
  have hJ0 : CI w w0.heap.size (w0.heap.size + 1) (.slice A zs.length c) zs ([] : List (IX (cntN zs.length))) ((w0.alloc (.cells #[.slice (some ⟨w.heap.size, 0, none⟩) 0 (cntN zs.length)] 36)).alloc (.cells #[.slice A zs.length c] 22)) :=
    ⟨_, [], bO.alloc _, (hown0.alloc _).alloc _, ⟨rfl, fun k q z h => by simp at h, fun j k p q h => by simp at h⟩, hB2, (fun e => by simp [Value.ownBlock] at e; omega), bP.cell⟩
  have HJ0 := Lib.hid hJ0
  clear hJ0 bO hown0
  refine wpIn_rangeFunc_ownG rfl (by omega) (gf := 34) (lb := #[.pointer (some ⟨w0.heap.size + 1, 0, none⟩)]) rfl trivial (enters_of Try.func34 (by kernel_rfl) rfl)
    (pparts_stops 3 (w0.heap.size + 1) b off c zs.length hl hc A (fun h => (HAA.out h).1) _ (by simp) bP.cell)
    KeepsBlk.trans (fun W l o o' _ h hc _ => KeepsBlk.putObj W l o o' h hc) (Below.refl _ _) (fun _ => rfl)
    (fun pre W => CI w w0.heap.size (w0.heap.size + 1) (.slice A zs.length c) zs pre W)
    (fun _ _ _ => False)
    (cI_own w w0.heap.size (w0.heap.size + 1) _ _ zs (by simp; omega))
    (fun _ _ _ _ _ hs _ _ => hs)
    HJ0.out
    (fun x => { tmps := #[.slice A zs.length c, undef, .slice none 0 0, .pointer (some ⟨w0.heap.size, 0, none⟩), .slice (some ⟨b, off + 52 * x.1, none⟩) (min 52 (zs.length - 52 * x.1)) (c - 52 * x.1), undef, undef, .slice A zs.length c, .int .i64 zs.length, .int .i64 (cntN zs.length), .slice (some ⟨w.heap.size, 0, none⟩) 0 (cntN zs.length), .slice A zs.length c,
      .func (.func 34) #[] #[.pointer (some ⟨w0.heap.size + 1, 0, none⟩)], .slice (some ⟨b, off + 52 * x.1, none⟩) (min 52 (zs.length - 52 * x.1)) (c - 52 * x.1), undef, undef, undef, undef, undef, undef, undef, undef, undef, undef], defers := [] }) ?assign ?body ?done ?stop
  case assign =>
    intro l x W K hK
    gi_wp2
    exact hK
  case body =>
    rintro l pre ⟨i, hi'⟩ W ⟨v, qs, hv, hrow, hp, hB, hne, hcb⟩ hpn
    obtain ⟨rfl, hbw⟩ := HAA.out (by unfold cntN at hi'; omega)
    have HV := Lib.hid hv
    have HROW := Lib.hid hrow
    have HP := Lib.hid hp
    have hBl := hv.lt
    dsimp only
    clear hv hrow hp
    gi_wp2_with (first
      | (refine ⟨trivial, ?_⟩; gi_at_call 7; refine (callsIn_wide.2 (HEN.out i W hB hi')).mono ?_; rintro e w1 ⟨q, rfl, hown1, hB1⟩; have hc := (HV.out.kept (row := none) ⟨hB1.os, hB1.tape, hB1.output, hB1.size, fun k hk _ => hB1.block k hk⟩ (by simp)).cell; have hs1 := hB1.size)
      | (gi_at_builtin; refine wpListIn_append_own _ rfl _ _ 36 rfl w.heap.size 22 i0 (.slice none 0 0) 1 24 Try.underlying36 hi hz0 hz1 hz2 rfl (by decide) v pre.length (qs.map pval) rfl (own_below HROW.out (hB1.alloc hB1.size _) (Nat.le_refl _)) ⟨w1.heap.size, 0, none⟩ 1 1 [pval q] rfl rfl (by exact cell_one_new _ _ _) (by simp [Value.oneCell']) (by unfold maxLen; omega) (by omega) (by have := hB.size; simp; omega) ?_; intro v' w3 hown' hgrow _; obtain ⟨g', cap', rfl, _, _⟩ := hown'.form (by omega); have hv3 := ((HV.out.kept (row := none) ⟨hB1.os, hB1.tape, hB1.output, hB1.size, fun k hk _ => hB1.block k hk⟩ (by simp)).alloc (.cells #[pval q] 22)).kept hgrow (((HV.out.kept (row := none) ⟨hB1.os, hB1.tape, hB1.output, hB1.size, fun k hk _ => hB1.block k hk⟩ (by simp)).alloc (.cells #[pval q] 22)).not_row (by decide) (own_below HROW.out (hB1.alloc hB1.size _) (Nat.le_refl _))); have hc1 := hv3.cell; have hf1 := hv3.frozen))
    exact CI.step (x := ⟨i, hi'⟩) HV.out HROW.out HP.out hB hne hcb hbw (by omega) (by omega) hB1 hown1 hown' hgrow
  case done =>
    rintro D ys W hD hS ⟨v, qs, hv, hrow, hp, hB, hne, hcb⟩ hK
    have hc := hv.cell
    have hyl : ys.length = cntN zs.length := by
      have := congrArg List.length hS
      rw [ivals_length, List.length_range] at this
      exact this
    rw [hyl] at hrow
    rw [hS] at hp
    have HROW := Lib.hid hrow
    have HP := Lib.hid hp
    clear hrow hp hS
    gi_wp2
    refine ⟨by simp, .inl ⟨_, _, rfl, run_takeDeferred hK, ?_⟩⟩
    exact ⟨_, results_tmp rfl _ _ _, v, qs, rfl, ownsRow_putObj HROW.out _ hK rfl, HP.out.map fun q z h => ownsRow_putObj h _ hK rfl, hB.trans (belowK_b (w := w) (Nat.le_refl _) W D _ (.deferred none) (by simp at hD; omega) hK rfl rfl)⟩
  case stop =>
    rintro D c pre W _ _ h _
    exact h.elim

end Go.Proofs.Ythelklgpabjfkaa
