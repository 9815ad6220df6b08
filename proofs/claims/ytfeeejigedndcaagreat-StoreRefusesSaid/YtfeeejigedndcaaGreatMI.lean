/-
  Join lays all lists one behind the other, in new memory. Conditions: at most 1048576 lists of at most 1048576 octets each.
-/
import Derived.Test.YtfeeejigedndcaaGreatMKB
import Derived.Test.YtfeeejigedndcaaGreatMB
import Derived.Maps.AppendAt
namespace Go.Proofs.YtfeeejigedndcaaGreat
open Go.ChangeShapes Go.WideShapes Go.ChangeAt Go.RowKit Go.Shelf
set_option maxRecDepth 100000
attribute [local go_sem] Oper.semAt_some

/-- All one behind the other. -/
def cat (ps : List Part) : List Int := ps.flatMap (·.zs)

/-- How many octets. -/
def tot (ps : List Part) : Nat := (cat ps).length
theorem cat_snoc (ps : List Part) (p : Part) : cat (ps ++ [p]) = cat ps ++ p.zs := by simp [cat]
theorem tot_snoc (ps : List Part) (p : Part) : tot (ps ++ [p]) = tot ps + p.zs.length := by simp [tot, cat_snoc]
theorem cat_full (ps : List Part) : cat (ps.filter Part.full) = cat ps := by
  induction ps with
  | nil => rfl
  | cons p ps ih =>
    rw [List.filter_cons]
    by_cases h : p.full = true
    · rw [if_pos h]
      simp only [cat, List.flatMap_cons] at ih ⊢
      rw [ih]
    · rw [if_neg h]
      have : p.zs = [] := by
        simp [Part.full] at h
        exact h
      simp only [cat, List.flatMap_cons, this, List.nil_append] at ih ⊢
      exact ih
theorem tot_le : ∀ (ps : List Part) (m : Nat), (∀ p ∈ ps, p.zs.length ≤ m) → tot ps ≤ ps.length * m
  | [], _, _ => by simp [tot, cat]
  | p :: ps, m, h => by
    have := tot_le ps m (fun q hq => h q (by simp [hq]))
    have hp := h p (by simp)
    simp only [tot, cat, List.flatMap_cons, List.length_append, List.length_cons, Nat.add_mul] at this ⊢
    omega
theorem tot_px {ps : List Part} (hok : ∀ p ∈ ps, p.zs.length ≤ 1048576) (pre : List (PX ps)) {N : Nat} (hN : pre.length ≤ N) (h : N ≤ 1048576) : tot (vals pre) ≤ 1099511627776 := by
  have := tot_le (vals pre) 1048576 (fun p hp => by
    obtain ⟨x, _, rfl⟩ := List.mem_map.1 hp
    exact hok x.1 x.2.1)
  rw [vals_length] at this
  have h2 : pre.length * 1048576 ≤ 1048576 * 1048576 := Nat.mul_le_mul_right _ (by omega)
  omega

/-- What holds between two rounds of the second loop. -/
def JI (w : World) (B D : Nat) {ps : List Part} (pre : List (PX ps)) (W : World) : Prop :=
  (∃ v, Boxed W B 46 v ∧ W.ownsRow w.heap.size 5 1 v (tot (vals pre)) ((cat (vals pre)).map (Value.int .u8)) ∧ True) ∧ W.heap[D]? = some (.deferred (some [])) ∧ Below w.heap.size w W

theorem jI_own (w : World) (B D L : Nat) (ps : List Part) (hL : w.heap.size ≤ L) (hD : D < L) : OwnFrom L (fun (pre : List (PX ps)) W => JI w B D pre W) :=
  OwnFrom.and (Own.from (holdsRow_own w.heap.size B 46 5 1 (fun pre : List (PX ps) => tot (vals pre)) (fun pre => (cat (vals pre)).map (Value.int .u8)) (fun _ _ => True)) _)
    (OwnFrom.and (fun _ _ _ _ hs hg hr => (hg.block D (Array.getElem?_eq_some_iff.1 hs).1 (fun e => by have := (hr _ e.symm).1; omega)).trans hs) (ownFrom_below (Nat.le_refl _) hL))

theorem JI.step {w : World} {B D L b : Nat} {ps : List Part} {pre : List (PX ps)} {x : PX ps} {W w1 : World} {v v' : Value} (hv : Boxed W B 46 v) (hrow : W.ownsRow w.heap.size 5 1 v (tot (vals pre)) ((cat (vals pre)).map (Value.int .u8)))
    (hD : W.heap[D]? = some (.deferred (some []))) (hB : Below w.heap.size w W) (hwB : w.heap.size ≤ B) (hb : b < w.heap.size) (hDB : D ≠ B)
    (hown : w1.ownsRow w.heap.size 5 1 v' (tot (vals pre) + x.1.zs.length) ((cat (vals pre)).map (Value.int .u8) ++ x.1.zs.map (Value.int .u8)))
    (hgrow : W.grownBy w1 v.ownBlock) :
    KeepsFrom L W (w1.setCell ⟨B, 0, none⟩ v') ∧ KeepsBlk b W (w1.setCell ⟨B, 0, none⟩ v') ∧ JI w B D (pre ++ [x]) (w1.setCell ⟨B, 0, none⟩ v') := by
  have hne : some B ≠ v.ownBlock := hv.not_row (by decide) hrow
  have hv1 : Boxed w1 B 46 v := hv.kept hgrow hne
  have hgs := grownBy_setCell' w1 B v'
  have hcell : ∀ (j : Nat) (o : Obj), v.ownBlock = some j → W.heap[j]? = some o → o.isCells = true := by
    intro j o hj ho
    rcases hrow.2 with ⟨rfl, _⟩ | ⟨g, cap, cur, rfl, _, hh, _⟩
    · cases hj
    · simp [Value.ownBlock] at hj
      subst hj
      rw [hh] at ho
      cases ho
      rfl
  have hvb : ∀ k, v.ownBlock = some k → w.heap.size ≤ k := fun k e => (hrow.lt k e).1
  refine ⟨((KeepsOthers.of_grownBy hgrow hcell).trans (KeepsOthers.setCell _ _ _)).from L, ?_, ?_, ?_, ?_⟩
  · refine KeepsBlk.trans (KeepsBlk.grown hgrow ?_) (KeepsBlk.grown hgs ?_)
    · intro e
      have := hvb b e.symm
      omega
    · intro e
      injection e
      omega
  · refine ⟨v', hv1.set v', ?_, trivial⟩
    have e1 : tot (vals (pre ++ [x])) = tot (vals pre) + x.1.zs.length := by rw [vals_snoc, tot_snoc]
    have e2 : (cat (vals (pre ++ [x]))).map (Value.int .u8) = (cat (vals pre)).map (Value.int .u8) ++ x.1.zs.map (Value.int .u8) := by rw [vals_snoc, cat_snoc, List.map_append]
    rw [e1, e2]
    have hne' : some B ≠ v'.ownBlock := hv1.not_row (by decide) hown
    exact hown.kept hgs (.inr (fun e => hne' e.symm))
  · have h1 : w1.heap[D]? = some (.deferred (some [])) := (hgrow.block D (Array.getElem?_eq_some_iff.1 hD).1 (fun e => by
      have := hcell D _ e.symm hD
      cases this)).trans hD
    exact (hgs.block D (Array.getElem?_eq_some_iff.1 h1).1 (fun e => hDB (by injection e))).trans h1
  · exact (hB.grown hgrow hB.size (fun k e => hvb k e)).setCell (p := ⟨B, 0, none⟩) hwB _

set_option maxRecDepth 100000 in
set_option maxHeartbeats 2000000 in
theorem join_in (A : Option Addr) (cp : Nat) (ps : List Part) (hpl : ps.length ≤ 1048576) (w : World) (hr : Rd w A (ps.map Part.val)) (hok : ∀ p ∈ ps, RdB w p.A p.zs ∧ p.zs.length ≤ 1048576) :
    CallsIn Fence.wide 4 Tryz.prog 103 #[.slice A ps.length cp] w fun e W' => ∃ v, e = .returned v ∧ W'.ownsRow w.heap.size 5 1 v (cat ps).length ((cat ps).map (Value.int .u8)) ∧ Below w.heap.size w W' := by
  obtain ⟨i0, hi, hz0, hz1, hz2⟩ := info_parts info5
  obtain ⟨b, off, hA, hcs⟩ : ∃ b off, (ps ≠ [] → A = some ⟨b, off, none⟩ ∧ b < w.heap.size) ∧ ∀ j p, ps[j]? = some p → w.cell? ⟨b, off + j, none⟩ = some p.val := by
    by_cases he : ps = []
    · subst he
      exact ⟨0, 0, fun h => absurd rfl h, fun j p hp => by simp at hp⟩
    · obtain ⟨b, off, e, hb, hc⟩ := hr (by simpa using he)
      exact ⟨b, off, fun _ => ⟨e, hb⟩, fun j p hp => hc j _ (by rw [List.getElem?_map, hp]; rfl)⟩
  have hlen : ∀ p ∈ ps, p.zs.length ≤ 1048576 := fun p hp => (hok p hp).2
  have HLEN := Lib.hid hlen
  have HCS := Lib.hid hcs
  have HOK := Lib.hid hok
  have HA := Lib.hid hA
  clear hr hok hcs hA hlen
  refine callsIn_of_wp_marks Tryz.func103 rfl trivial ?_ rfl
  simp only [Tryz.ntmps103, List.size_toArray, List.length_cons, List.length_nil, Nat.reduceAdd, Nat.reduceSub, Array.replicate_succ, Array.replicate_zero, List.push_toArray, List.append_toArray, List.nil_append, List.cons_append]
  gi_wp2_with (refine ⟨trivial, ?_⟩; gi_at_call 122; refine (parts_in 3 _ ⟨_, _, _, rfl⟩ _).mono ?_; rintro e w' ⟨rfl, rfl⟩)
  have bT := Boxed.new w 3 (.int .i64 0)
  have bP := Boxed.new (w.alloc (.cells #[.int .i64 0] 3)) 24 (.slice A ps.length cp)
  rw [World.size_alloc] at bP
  have hB0 : Below w.heap.size w ((w.alloc (.cells #[.int .i64 0] 3)).alloc (.cells #[.slice A ps.length cp] 24)) := ((Below.refl _ w).alloc (Nat.le_refl _) _).alloc (by simp) _
  refine wpIn_rangeFunc_ownG rfl (by omega) (gf := 132) (lb := #[.pointer (some ⟨w.heap.size + 1, 0, none⟩)]) rfl trivial (enters_of Tryz.func132 (by kernel_rfl) rfl)
    (parts_stops 3 (w.heap.size + 1) b off cp A ps hpl (fun h => (HA.out h).1) _ (by simp) (fun h => by have := (HA.out h).2; simp; omega) bP.cell
      (fun j p hp => (hB0.cell (p := ⟨b, off + j, none⟩) (HA.out (by intro e; rw [e] at hp; simp at hp)).2).trans (HCS.out j p hp)))
    KeepsBlk.trans (fun W l o o' _ h hc _ => KeepsBlk.putObj W l o o' h hc) (Below.refl _ _) (fun _ => rfl)
    (fun pre W => Boxed W w.heap.size 3 (.int .i64 (tot (vals pre))) ∧ Below w.heap.size w W)
    (fun _ _ _ => False)
    (OwnFrom.and (Own.from (boxed_own _ _ _) _) (ownFrom_below (Nat.le_refl _) (by simp; omega)))
    (fun _ _ _ _ _ hs _ _ => hs)
    ⟨bT.alloc _, hB0⟩
    (fun x => { tmps := #[.slice A ps.length cp, undef, .slice none 0 0, .pointer (some ⟨w.heap.size, 0, none⟩), x.1.val, undef, undef, .slice A ps.length cp, .func (.func 132) #[] #[.pointer (some ⟨w.heap.size + 1, 0, none⟩)], x.1.val, undef, undef, undef, undef, undef, undef, undef, undef, undef, undef, undef, undef, undef], defers := [] }) ?assign ?body ?done ?stop
  case assign =>
    intro l x W K hK
    gi_wp2
    exact hK
  case body =>
    rintro l pre x W ⟨hT, hB⟩ hpn
    have hbd := tot_px HLEN.out pre (Nat.le_of_lt hpn) hpl
    have hxl := HLEN.out x.1 x.2.1
    have hc := hT.cell
    have hf := hT.frozen
    gi_wp2
    refine ⟨(KeepsOthers.setCell _ _ _).from _, KeepsBlk.grown (grownBy_setCell' _ _ _) ?_, ?_, hB.setCell (p := ⟨w.heap.size, 0, none⟩) (Nat.le_refl _) _⟩
    · intro e
      injection e with e
      have := (HA.out (List.ne_nil_of_mem x.2.1)).2
      omega
    · have := hT.set (.int .i64 ((tot (vals pre) : Int) + x.1.zs.length))
      rw [vals_snoc, tot_snoc]
      exact this
  case done =>
    rintro D ys W hD hS ⟨hT, hB⟩ hK
    have hS2 : tot (vals ys) = (cat ps).length := by rw [hS]; unfold tot; rw [cat_full]
    have hbd : (cat ps).length ≤ 1099511627776 := by
      have := tot_le ps 1048576 HLEN.out
      have h2 : ps.length * 1048576 ≤ 1048576 * 1048576 := Nat.mul_le_mul_right _ hpl
      unfold tot at this
      omega
    rw [hS2] at hT
    clear hS hS2
    have hc := hT.cell
    gi_wp2_with (first
      | (gi_at_make; refine wpListIn_make_own _ rfl _ _ 46 rfl w.heap.size 5 i0 (.int .u8 0) 1 Tryz.underlying46 hi hz0 hz1 .i64 .i64 _ (cat ps).length rfl rfl (by omega) (by rw [hz2]; omega) (by unfold maxLen; omega) hB.size ?_; intro w0 hown0 hgrow0)
      | (refine ⟨trivial, ?_⟩; gi_at_call 122; refine (parts_in 3 _ ⟨_, _, _, rfl⟩ _).mono ?_; rintro e w' ⟨rfl, rfl⟩))
    have hlt := (hown0.lt W.heap.size rfl).2
    have hDW : D < W.heap.size := (Array.getElem?_eq_some_iff.1 hK).1
    have hK0 : w0.heap[D]? = some (.deferred (some [])) := (hgrow0.block D hDW (by simp)).trans hK
    have hB1 : Below w.heap.size w w0 := hB.grown hgrow0 hB.size (fun _ e => by cases e)
    clear hgrow0 hc hT hK
    have bO := Boxed.new w0 46 (.slice (some ⟨W.heap.size, 0, none⟩) 0 (cat ps).length)
    have bQ := Boxed.new (w0.alloc (.cells #[.slice (some ⟨W.heap.size, 0, none⟩) 0 (cat ps).length] 46)) 24 (.slice A ps.length cp)
    rw [World.size_alloc] at bQ
    have hB2 : Below w.heap.size w ((w0.alloc (.cells #[.slice (some ⟨W.heap.size, 0, none⟩) 0 (cat ps).length] 46)).alloc (.cells #[.slice A ps.length cp] 24)) := (hB1.alloc hB1.size _).alloc (by have := hB1.size; simp; omega) _
    have hs1 := hB1.size
    have hs0 := hB.size
    have hJ0 : JI w w0.heap.size D ([] : List (PX ps)) ((w0.alloc (.cells #[.slice (some ⟨W.heap.size, 0, none⟩) 0 (cat ps).length] 46)).alloc (.cells #[.slice A ps.length cp] 24)) :=
      ⟨⟨_, bO.alloc _, (hown0.alloc _).alloc _, trivial⟩, (Below.heap_alloc _ _ D (by simp; omega)).trans ((Below.heap_alloc _ _ D (by omega)).trans hK0), hB2⟩
    refine wpIn_rangeFunc_ownG rfl (by omega) (gf := 132) (lb := #[.pointer (some ⟨w0.heap.size + 1, 0, none⟩)]) rfl trivial (enters_of Tryz.func132 (by kernel_rfl) rfl)
      (parts_stops 3 (w0.heap.size + 1) b off cp A ps hpl (fun h => (HA.out h).1) _ (by simp) (fun h => by have := (HA.out h).2; simp; omega) bQ.cell
        (fun j p hp => (hB2.cell (p := ⟨b, off + j, none⟩) (HA.out (by intro e; rw [e] at hp; simp at hp)).2).trans (HCS.out j p hp)))
      KeepsBlk.trans (fun W l o o' _ h hc _ => KeepsBlk.putObj W l o o' h hc) (Below.refl _ _) (fun _ => rfl)
      (fun pre W => JI w w0.heap.size D pre W)
      (fun _ _ _ => False)
      (jI_own w w0.heap.size D _ ps (by simp; omega) (by simp; omega))
      (fun _ _ _ _ _ hs _ _ => hs)
      hJ0
      (fun x => { tmps := #[.slice A ps.length cp, undef, .slice none 0 0, .pointer (some ⟨w.heap.size, 0, none⟩), undef, .pointer (some ⟨w0.heap.size, 0, none⟩), x.1.val, .slice A ps.length cp, .func (.func 132) #[] #[.pointer (some ⟨w.heap.size + 1, 0, none⟩)], undef, undef, undef, undef, undef, .int .i64 (cat ps).length,
        .slice (some ⟨W.heap.size, 0, none⟩) 0 (cat ps).length, .slice A ps.length cp, .func (.func 132) #[] #[.pointer (some ⟨w0.heap.size + 1, 0, none⟩)], x.1.val, undef, undef, undef, undef], defers := [] }) ?assign2 ?body2 ?done2 ?stop2
    case assign2 =>
      intro l x W K hK
      gi_wp2
      exact hK
    case body2 =>
      rintro l pre ⟨⟨A', zs', c'⟩, hmem, hful⟩ W2 ⟨⟨v, hv, hrow, _⟩, hD2, hBW⟩ hpn
      have hbd2 := tot_px HLEN.out pre (Nat.le_of_lt hpn) hpl
      have hxl : zs'.length ≤ 1048576 := HLEN.out _ hmem
      have hxf : 0 < zs'.length := by simpa [Part.full] using hful
      have hbw := (HA.out (List.ne_nil_of_mem hmem)).2
      have hxr : RdB W2 A' zs' := (HOK.out _ hmem).1.below hBW
      obtain ⟨b', off', hA', _, hcl⟩ := hxr (by intro e; have := congrArg List.length e; simp at this; subst this; simp at hxf)
      subst hA'
      have hcl2 : ∀ j u, (zs'.map (Value.int .u8))[j]? = some u → W2.cell? ((⟨b', off', none⟩ : Addr).add j) = some u := fun j u hu => by rw [add_plain]; exact hcl j u hu
      have HCL := Lib.hid hcl2
      clear hcl hcl2 hxr
      have hc := hv.cell
      gi_wp2_with (gi_at_builtin; refine wpListIn_append_own _ rfl _ _ 46 rfl w.heap.size 5 i0 (.int .u8 0) 1 1 Tryz.underlying46 hi hz0 hz1 hz2 rfl (by decide) v (tot (vals pre)) _ rfl hrow ⟨b', off', none⟩ zs'.length c' (zs'.map (Value.int .u8)) rfl (by simp) HCL.out (by simp [Value.oneCell']) (by unfold maxLen; omega) (by omega) hBW.size ?_; intro v' w1 hown' hgrow _; obtain ⟨g', cap', rfl, _, _⟩ := hown'.form (by omega); have hv1 := hv.kept hgrow (hv.not_row (by decide) hrow); have hc1 := hv1.cell; have hf1 := hv1.frozen)
      exact JI.step (x := ⟨⟨some ⟨b', off', none⟩, zs', c'⟩, hmem, hful⟩) hv hrow hD2 hBW (by omega) hbw (by omega) hown' hgrow
    case done2 =>
      rintro D2 zs W2 hD2 hS2 ⟨⟨v, hv, hrow, _⟩, hDD, hBW⟩ hK2
      have hc := hv.cell
      rw [hS2] at hrow
      unfold tot at hrow
      rw [cat_full] at hrow
      have hne : D ≠ D2 := by simp at hD2; omega
      gi_wp2
      refine ⟨by simp, .inl ⟨_, _, rfl, run_takeDeferred hK2, ?_⟩⟩
      have hK3 : (W2.putObj D2 (.deferred none)).heap[D]? = some (.deferred (some [])) := (World.putObj_heap_other hne).trans hDD
      have hB3 := hBW.trans (belowK_b (w := w) (Nat.le_refl _) W2 D2 _ (.deferred none) (by simp at hD2; omega) hK2 rfl rfl)
      have hrow3 := ownsRow_putObj hrow (.deferred none) hK2 rfl
      refine ⟨by simp, .inl ⟨_, _, rfl, run_takeDeferred hK3, ?_⟩⟩
      exact ⟨_, results_tmp rfl _ _ _, v, rfl, ownsRow_putObj hrow3 _ hK3 rfl, hB3.trans (belowK_b (w := w) (Nat.le_refl _) _ D _ _ (by simp at hD; omega) hK3 rfl rfl)⟩
    case stop2 =>
      rintro D c pre W _ _ h _
      exact h.elim
  case stop =>
    rintro D c pre W _ _ h _
    exact h.elim

end Go.Proofs.YtfeeejigedndcaaGreat
