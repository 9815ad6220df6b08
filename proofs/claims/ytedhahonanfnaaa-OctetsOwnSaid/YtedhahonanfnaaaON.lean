/-
  Join lays all lists one behind the other, in new memory. Conditions: at most 1048576 lists, of at most 2^48 octets in all.
-/
import Derived.Test.YtedhahonanfnaaaOM
import Derived.Test.YtedhahonanfnaaaB
import Derived.Maps.AppendAt
namespace Go.Proofs.Ytedhahonanfnaaa
open Go.ChangeShapes Go.WideShapes Go.ChangeAt Go.RowKit Go.Shelf
set_option maxRecDepth 100000
attribute [local go_sem] Oper.semAt_some

/-- All one behind the other. -/
def cat (ps : List Part) : List Int := ps.flatMap (·.zs)
/-- How many octets. -/
def tot (ps : List Part) : Nat := (cat ps).length
theorem cat_snoc (ps : List Part) (p : Part) : cat (ps ++ [p]) = cat ps ++ p.zs := by simp [cat]
theorem tot_snoc (ps : List Part) (p : Part) : tot (ps ++ [p]) = tot ps + p.zs.length := by simp [tot, cat_snoc]
theorem cat_full (ps : List Part) : cat (ps.filter Part.full) = cat ps := by
  induction ps with
  | nil => rfl
  | cons p ps ih =>
    rw [List.filter_cons]
    by_cases h : p.full = true
    · rw [if_pos h]
      simp only [cat, List.flatMap_cons] at ih ⊢
      rw [ih]
    · rw [if_neg h]
      have : p.zs = [] := by
        simp [Part.full] at h
        exact h
      simp only [cat, List.flatMap_cons, this, List.nil_append] at ih ⊢
      exact ih
theorem tot_pre {ps pre : List Part} {x : Part} (h : (pre ++ [x]) <+: ps.filter Part.full) : tot pre + x.zs.length ≤ tot ps := by
  obtain ⟨r, hr⟩ := h
  rw [← tot_snoc]
  have h2 : tot ps = tot (ps.filter Part.full) := by unfold tot; rw [cat_full]
  have h3 : cat (pre ++ [x] ++ r) = cat (pre ++ [x]) ++ cat r := by simp [cat]
  rw [h2, ← hr]
  unfold tot
  rw [h3, List.length_append]
  omega

/-- What holds between two rounds of the second loop. -/
structure JN (w : World) (B D g N : Nat) (pre : List Part) (W : World) : Prop where
  box : Boxed W B 22 (.slice (some ⟨g, 0, none⟩) (tot pre) N)
  row : W.ownsRow w.heap.size 5 1 (.slice (some ⟨g, 0, none⟩) (tot pre) N) (tot pre) ((cat pre).map (Value.int .u8))
  dfr : W.heap[D]? = some (.deferred (some []))
  blw : Below w.heap.size w W
theorem jN_own (w : World) (B D g N L : Nat) (hL : w.heap.size ≤ L) (hD : D < L) : OwnFrom L (fun pre W => JN w B D g N pre W) := by
  rintro s W W' row ⟨hb, ho, hd, hB⟩ hg hr
  refine ⟨hb.kept hg (fun e => ?_), ho.kept hg ?_, (hg.block D (Array.getElem?_eq_some_iff.1 hd).1 (fun e => by have := (hr _ e.symm).1; omega)).trans hd, hB.grown hg hB.size (fun k e => Nat.le_trans hL (hr k e).1)⟩
  · obtain ⟨o, ho', hc⟩ := (hr B e.symm).2
    rw [show W.heap[B]? = _ from hb] at ho'
    cases ho'
    cases hc
  · rcases ho.2 with ⟨e1, _⟩ | ⟨g', cap, cur, e1, _, hgb, _⟩
    · exact .inl (by cases e1)
    · refine .inr fun e' => ?_
      rw [e1] at e'
      obtain ⟨o, ho', hc⟩ := (hr g' e'.symm).2
      rw [hgb] at ho'; cases ho'; cases hc

theorem JN.step {w : World} {B D g N L b : Nat} {pre : List Part} {x : Part} {W w1 : World} (h : JN w B D g N pre W) (hwB : w.heap.size ≤ B) (hb : b < w.heap.size) (hDB : D ≠ B)
    (hown : w1.ownsRow w.heap.size 5 1 (.slice (some ⟨g, 0, none⟩) (tot pre + x.zs.length) N) (tot pre + x.zs.length) ((cat pre).map (Value.int .u8) ++ x.zs.map (Value.int .u8)))
    (hgrow : W.grownBy w1 (some g)) :
    KeepsFrom L W (w1.setCell ⟨B, 0, none⟩ (.slice (some ⟨g, 0, none⟩) (tot pre + x.zs.length) N)) ∧ KeepsBlk b W (w1.setCell ⟨B, 0, none⟩ (.slice (some ⟨g, 0, none⟩) (tot pre + x.zs.length) N)) ∧ JN w B D g N (pre ++ [x]) (w1.setCell ⟨B, 0, none⟩ (.slice (some ⟨g, 0, none⟩) (tot pre + x.zs.length) N)) := by
  obtain ⟨hv, hrow, hD, hB⟩ := h
  have hne : some B ≠ some g := hv.not_row (by decide) hrow
  have hv1 := hv.kept hgrow hne
  have hgs := grownBy_setCell' w1 B (.slice (some ⟨g, 0, none⟩) (tot pre + x.zs.length) N)
  have hg := hrow.lt g rfl
  have hcell : ∀ (j : Nat) (o : Obj), some g = some j → W.heap[j]? = some o → o.isCells = true := by
    intro j o hj ho
    injection hj with hj
    subst hj
    rcases hrow.2 with ⟨e, _⟩ | ⟨g', cap, cur, e, _, hh, _⟩
    · cases e
    · injection e with e _ _
      injection e with e
      injection e with e _ _
      subst e
      rw [hh] at ho
      cases ho
      rfl
  have e1 : tot (pre ++ [x]) = tot pre + x.zs.length := tot_snoc _ _
  have e2 : (cat (pre ++ [x])).map (Value.int .u8) = (cat pre).map (Value.int .u8) ++ x.zs.map (Value.int .u8) := by rw [cat_snoc, List.map_append]
  refine ⟨((KeepsOthers.of_grownBy hgrow hcell).trans (KeepsOthers.setCell _ _ _)).from L, ?_, ⟨?_, ?_, ?_, ?_⟩⟩
  · refine KeepsBlk.trans (KeepsBlk.grown hgrow ?_) (KeepsBlk.grown hgs ?_)
    · intro e
      injection e with e
      omega
    · intro e
      injection e
      omega
  · rw [e1]
    exact hv1.set _
  · rw [e1, e2]
    exact hown.kept hgs (.inr (fun e => hne e.symm))
  · have h1 : w1.heap[D]? = some (.deferred (some [])) := (hgrow.block D (Array.getElem?_eq_some_iff.1 hD).1 (fun e => by
      have := hcell D _ e.symm hD
      cases this)).trans hD
    exact (hgs.block D (Array.getElem?_eq_some_iff.1 h1).1 (fun e => hDB (by injection e))).trans h1
  · exact (hB.grown hgrow hB.size (fun k e => by injection e with e; omega)).setCell (p := ⟨B, 0, none⟩) hwB _

set_option maxRecDepth 100000 in
set_option maxHeartbeats 2000000 in
theorem join_in (A : Option Addr) (cp : Nat) (ps : List Part) (hpl : ps.length ≤ 1048576) (w : World) (hr : Rd w A (ps.map Part.val)) (hok : ∀ p ∈ ps, RdB w p.A p.zs) (htot : tot ps ≤ 281474976710656) :
    CallsIn Fence.wide 4 Try.prog 11 #[.slice A ps.length cp] w fun e W' => ∃ v, e = .returned v ∧ W'.ownsRow w.heap.size 5 1 v (cat ps).length ((cat ps).map (Value.int .u8)) ∧ Below w.heap.size w W' := by
  obtain ⟨i0, hi, hz0, hz1, hz2⟩ := info_parts info5
  obtain ⟨b, off, hA, hcs⟩ : ∃ b off, (ps ≠ [] → A = some ⟨b, off, none⟩ ∧ b < w.heap.size) ∧ ∀ j p, ps[j]? = some p → w.cell? ⟨b, off + j, none⟩ = some p.val := by
    by_cases he : ps = []
    · subst he
      exact ⟨0, 0, fun h => absurd rfl h, fun j p hp => by simp at hp⟩
    · obtain ⟨b, off, e, hb, hc⟩ := hr (by simpa using he)
      exact ⟨b, off, fun _ => ⟨e, hb⟩, fun j p hp => hc j _ (by rw [List.getElem?_map, hp]; rfl)⟩
  have HCS := Lib.hid hcs
  have HOK := Lib.hid hok
  have HA := Lib.hid hA
  have hmem : ∀ (pre : List Part) (x : Part), (pre ++ [x]) <+: ps.filter Part.full → x ∈ ps ∧ 0 < x.zs.length := fun _ _ h => by
    have h1 := (h.subset) (List.mem_append_right _ (List.mem_singleton_self _))
    rw [List.mem_filter] at h1
    exact ⟨h1.1, by simpa [Part.full] using h1.2⟩
  have HMEM := Lib.hid hmem
  clear hr hok hcs hA hmem
  refine callsIn_of_wp_marks Try.func11 rfl trivial ?_ rfl
  simp only [Try.ntmps11, List.size_toArray, List.length_cons, List.length_nil, Nat.reduceAdd, Nat.reduceSub, Array.replicate_succ, Array.replicate_zero, List.push_toArray, List.append_toArray, List.nil_append, List.cons_append]
  gi_wp2_with (refine ⟨trivial, ?_⟩; gi_at_call 16; refine (parts_in 3 _ ⟨_, _, _, rfl⟩ _).mono ?_; rintro e w' ⟨rfl, rfl⟩)
  have bT := Boxed.new w 3 (.int .i64 0)
  have bP := Boxed.new (w.alloc (.cells #[.int .i64 0] 3)) 45 (.slice A ps.length cp)
  rw [World.size_alloc] at bP
  have hB0 : Below w.heap.size w ((w.alloc (.cells #[.int .i64 0] 3)).alloc (.cells #[.slice A ps.length cp] 45)) := ((Below.refl _ w).alloc (Nat.le_refl _) _).alloc (by simp) _
  refine wpIn_rangeFunc_next rfl (by omega) (gf := 18) (lb := #[.pointer (some ⟨w.heap.size + 1, 0, none⟩)]) rfl trivial (enters_of Try.func18 (by kernel_rfl) rfl)
    (parts_next 3 (w.heap.size + 1) b off cp A ps hpl (fun h => (HA.out h).1) _ (by simp) (fun h => by have := (HA.out h).2; simp; omega) bP.cell
      (fun j p hp => (hB0.cell (p := ⟨b, off + j, none⟩) (HA.out (by intro e; rw [e] at hp; simp at hp)).2).trans (HCS.out j p hp)))
    (fun _ => rfl) KeepsBlk.trans (fun W l o o' _ h hc => KeepsBlk.putObj W l o o' h hc)
    (fun pre W => Boxed W w.heap.size 3 (.int .i64 (tot pre)) ∧ Below w.heap.size w W)
    (OwnFrom.and (Own.from (boxed_own _ _ _) _) (ownFrom_below (Nat.le_refl _) (by simp; omega)))
    ⟨bT.alloc _, hB0⟩
    (fun x => { tmps := #[.slice A ps.length cp, undef, .slice none 0 0, .pointer (some ⟨w.heap.size, 0, none⟩), x.val, undef, undef, .slice A ps.length cp, .func (.func 18) #[] #[.pointer (some ⟨w.heap.size + 1, 0, none⟩)], x.val, undef, undef, undef, undef, undef, undef, undef, undef, undef, undef, undef, undef, undef], defers := [] }) ?assign ?body ?done
  case assign =>
    intro l x W K hK
    gi_wp2
    exact hK
  case body =>
    rintro l pre x W ⟨hT, hB⟩ hpn
    have hbd := tot_pre hpn
    have hxm := HMEM.out _ _ hpn
    have hc := hT.cell
    have hf := hT.frozen
    clear hpn
    gi_wp2
    refine ⟨(KeepsOthers.setCell _ _ _).from _, KeepsBlk.grown (grownBy_setCell' _ _ _) ?_, ?_, hB.setCell (p := ⟨w.heap.size, 0, none⟩) (Nat.le_refl _) _⟩
    · intro e
      injection e with e
      have := (HA.out (List.ne_nil_of_mem hxm.1)).2
      omega
    · have := hT.set (.int .i64 ((tot pre : Int) + x.zs.length))
      rw [tot_snoc]
      exact this
  case done =>
    rintro D W hD ⟨hT, hB⟩ hK
    have hS2 : tot (ps.filter Part.full) = (cat ps).length := by unfold tot; rw [cat_full]
    have hbd : (cat ps).length ≤ 281474976710656 := htot
    rw [hS2] at hT
    clear hS2
    have hc := hT.cell
    gi_wp2_with (first
      | (gi_at_make; refine wpListIn_make_own _ rfl _ _ 22 rfl w.heap.size 5 i0 (.int .u8 0) 1 Try.underlying22 hi hz0 hz1 .i64 .i64 _ (cat ps).length rfl rfl (by omega) (by rw [hz2]; omega) (by unfold maxLen; omega) hB.size ?_; intro w0 hown0 hgrow0)
      | (refine ⟨trivial, ?_⟩; gi_at_call 16; refine (parts_in 3 _ ⟨_, _, _, rfl⟩ _).mono ?_; rintro e w' ⟨rfl, rfl⟩))
    have hlt := (hown0.lt W.heap.size rfl).2
    have hDW : D < W.heap.size := (Array.getElem?_eq_some_iff.1 hK).1
    have hK0 : w0.heap[D]? = some (.deferred (some [])) := (hgrow0.block D hDW (by simp)).trans hK
    have hB1 : Below w.heap.size w w0 := hB.grown hgrow0 hB.size (fun _ e => by cases e)
    clear hgrow0 hc hT hK
    have bO := Boxed.new w0 22 (.slice (some ⟨W.heap.size, 0, none⟩) 0 (cat ps).length)
    have bQ := Boxed.new (w0.alloc (.cells #[.slice (some ⟨W.heap.size, 0, none⟩) 0 (cat ps).length] 22)) 45 (.slice A ps.length cp)
    rw [World.size_alloc] at bQ
    have hB2 : Below w.heap.size w ((w0.alloc (.cells #[.slice (some ⟨W.heap.size, 0, none⟩) 0 (cat ps).length] 22)).alloc (.cells #[.slice A ps.length cp] 45)) := (hB1.alloc hB1.size _).alloc (by have := hB1.size; simp; omega) _
    have hs1 := hB1.size
    have hs0 := hB.size
    have hJ0 : JN w w0.heap.size D W.heap.size (cat ps).length [] ((w0.alloc (.cells #[.slice (some ⟨W.heap.size, 0, none⟩) 0 (cat ps).length] 22)).alloc (.cells #[.slice A ps.length cp] 45)) :=
      ⟨bO.alloc _, (hown0.alloc _).alloc _, (Below.heap_alloc _ _ D (by simp; omega)).trans ((Below.heap_alloc _ _ D (by omega)).trans hK0), hB2⟩
    refine wpIn_rangeFunc_next rfl (by omega) (gf := 18) (lb := #[.pointer (some ⟨w0.heap.size + 1, 0, none⟩)]) rfl trivial (enters_of Try.func18 (by kernel_rfl) rfl)
      (parts_next 3 (w0.heap.size + 1) b off cp A ps hpl (fun h => (HA.out h).1) _ (by simp) (fun h => by have := (HA.out h).2; simp; omega) bQ.cell
        (fun j p hp => (hB2.cell (p := ⟨b, off + j, none⟩) (HA.out (by intro e; rw [e] at hp; simp at hp)).2).trans (HCS.out j p hp)))
      (fun _ => rfl) KeepsBlk.trans (fun W l o o' _ h hc => KeepsBlk.putObj W l o o' h hc)
      (fun pre W2 => JN w w0.heap.size D W.heap.size (cat ps).length pre W2)
      (jN_own w w0.heap.size D _ _ _ (by simp; omega) (by simp; omega))
      hJ0
      (fun x => { tmps := #[.slice A ps.length cp, undef, .slice none 0 0, .pointer (some ⟨w.heap.size, 0, none⟩), undef, .pointer (some ⟨w0.heap.size, 0, none⟩), x.val, .slice A ps.length cp, .func (.func 18) #[] #[.pointer (some ⟨w.heap.size + 1, 0, none⟩)], undef, undef, undef, undef, undef, .int .i64 (cat ps).length,
        .slice (some ⟨W.heap.size, 0, none⟩) 0 (cat ps).length, .slice A ps.length cp, .func (.func 18) #[] #[.pointer (some ⟨w0.heap.size + 1, 0, none⟩)], x.val, undef, undef, undef, undef], defers := [] }) ?assign2 ?body2 ?done2
    case assign2 =>
      intro l x W K hK
      gi_wp2
      exact hK
    case body2 =>
      rintro l pre ⟨A', zs', c'⟩ W2 hJ hpn
      have hfit := tot_pre hpn
      obtain ⟨hm, hxf⟩ := HMEM.out _ _ hpn
      dsimp only at hfit hxf
      have hfit2 : tot pre + zs'.length ≤ (cat ps).length := hfit
      have hbw := (HA.out (List.ne_nil_of_mem hm)).2
      have hxr : RdB W2 A' zs' := (HOK.out _ hm).below hJ.blw
      obtain ⟨b', off', hA', _, hcl⟩ := hxr (by intro e; have := congrArg List.length e; simp at this; subst this; simp at hxf)
      subst hA'
      have hcl2 : ∀ j u, (zs'.map (Value.int .u8))[j]? = some u → W2.cell? ((⟨b', off', none⟩ : Addr).add j) = some u := fun j u hu => by rw [add_plain]; exact hcl j u hu
      have HCL := Lib.hid hcl2
      have HJ := Lib.hid hJ
      have hc := hJ.box.cell
      clear hcl hcl2 hxr hJ hpn hm hfit
      gi_wp2_with (gi_at_builtin; refine wpListIn_append_fits _ rfl _ _ 22 rfl w.heap.size 5 i0 1 Try.underlying22 hi hz1 W.heap.size (tot pre) (cat ps).length _ rfl HJ.out.row ⟨b', off', none⟩ zs'.length c' (zs'.map (Value.int .u8)) rfl (by simp) HCL.out (by simp [Value.oneCell']) hfit2 ?_; intro w1 hown' hgrow; have hv1 := HJ.out.box.kept hgrow (HJ.out.box.not_row (by decide) HJ.out.row); have hc1 := hv1.cell; have hf1 := hv1.frozen)
      exact JN.step (x := ⟨some ⟨b', off', none⟩, zs', c'⟩) HJ.out (by omega) hbw (by omega) hown' hgrow
    case done2 =>
      rintro D2 W2 hD2 ⟨hv, hrow, hDD, hBW⟩ hK2
      have hS2 : tot (ps.filter Part.full) = (cat ps).length := by unfold tot; rw [cat_full]
      rw [hS2] at hv hrow
      rw [cat_full] at hrow
      have hc := hv.cell
      have hne : D ≠ D2 := by simp at hD2; omega
      have HROW := Lib.hid hrow
      clear hrow hS2
      gi_wp2
      refine ⟨by simp, .inl ⟨_, _, rfl, run_takeDeferred hK2, ?_⟩⟩
      have hK3 : (W2.putObj D2 (.deferred none)).heap[D]? = some (.deferred (some [])) := (World.putObj_heap_other hne).trans hDD
      have hB3 := hBW.trans (belowK_b (w := w) (Nat.le_refl _) W2 D2 _ (.deferred none) (by simp at hD2; omega) hK2 rfl rfl)
      have hrow3 := ownsRow_putObj HROW.out (.deferred none) hK2 rfl
      refine ⟨by simp, .inl ⟨_, _, rfl, run_takeDeferred hK3, ?_⟩⟩
      exact ⟨_, results_tmp rfl _ _ _, _, rfl, ownsRow_putObj hrow3 _ hK3 rfl, hB3.trans (belowK_b (w := w) (Nat.le_refl _) _ D _ _ (by simp at hD; omega) hK3 rfl rfl)⟩

end Go.Proofs.Ytedhahonanfnaaa
