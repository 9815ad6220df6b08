/-
  slices.Collect of slices.Values of a list of blocks: a copy of it, in memory of its own. Conditions: the list is as it comes in.
-/
import Derived.Test.YtnoidcelinaenaaUSB
namespace Go.Proofs.Ytnoidcelinaenaa
open Go.ChangeShapes Go.WideShapes Go.ChangeAt Go.RowKit Go.Shelf
set_option maxRecDepth 100000
attribute [local go_sem] Oper.semAt_some

set_option maxRecDepth 100000 in
theorem infoBk : (Try.prog.info? 65).map (fun i => (i.zero, i.size, i.bytes)) = some (some (.agg #[.int .i64 0, .string ByteArray.empty]), 2, 24) := by kernel_rfl

/-- What holds between two rounds. -/
def CI15 (w : World) (pre : List Bk) (W : World) : Prop :=
  ∃ v, Boxed W w.heap.size 28 v ∧ W.ownsRow w.heap.size 65 2 v pre.length (bks pre) ∧ Below w.heap.size w W
theorem bk_own_other {W W' : World} {base size n : Nat} {e : TypeId} {v : Value} {xs : List Value} {row : Option Nat} (h : W.ownsRow base e size v n xs) (hg : W.grownBy W' row) (hr : ∀ r, row = some r → ∃ o : Obj, W.heap[r]? = some o ∧ o.isCells = false) : W'.ownsRow base e size v n xs := by
  refine h.kept hg ?_
  rcases h.2 with ⟨rfl, _⟩ | ⟨g, cap, cur, rfl, _, hgb, _⟩
  · exact .inl rfl
  · refine .inr fun e' => ?_
    obtain ⟨o, ho, hc⟩ := hr g e'.symm
    rw [hgb] at ho; cases ho; cases hc
theorem cI15_own (w : World) (L : Nat) (hL : w.heap.size ≤ L) : OwnFrom L (fun pre W => CI15 w pre W) := by
  rintro s W W' row ⟨v, hb, ho, hB⟩ hg hr
  refine ⟨v, hb.kept hg (fun e => ?_), bk_own_other ho hg (fun r e => (hr r e).2), hB.grown hg hB.size (fun k e => Nat.le_trans hL (hr k e).1)⟩
  obtain ⟨o, ho, hc⟩ := (hr w.heap.size e.symm).2
  rw [show W.heap[w.heap.size]? = _ from hb] at ho
  cases ho
  cases hc

set_option maxRecDepth 100000 in
set_option maxHeartbeats 2000000 in
theorem appendSeq_any (Bn : Nat) (A : Option Addr) (c : Nat) (xs : List Bk) (hl : xs.length * 24 ≤ 140737488351232) (w : World) (hBn : Bn < w.heap.size) (hc0 : w.cell? ⟨Bn, 0, none⟩ = some (.slice A xs.length c)) (hr : Rd w A (bks xs)) :
    Calls Try.prog 38 #[.slice none 0 0, .func (.func 32) #[] #[.pointer (some ⟨Bn, 0, none⟩)]] w fun e w' => ∃ v, e = .returned v ∧ w'.ownsRow w.heap.size 65 2 v xs.length (bks xs) ∧ Below w.heap.size w w' := by
  obtain ⟨i0, hi, hz0, hz1, hz2⟩ := infoParts infoBk
  obtain ⟨u, hu⟩ : ∃ u, w.alloc (.cells #[.slice none 0 0] 28) = u := ⟨_, rfl⟩
  have hBu : Below w.heap.size w u := hu ▸ (Below.refl _ w).alloc (Nat.le_refl _) _
  have hbx : Boxed u w.heap.size 28 (.slice none 0 0) := hu ▸ Boxed.new w _ _
  have hsu : u.heap.size = w.heap.size + 1 := by rw [← hu, World.size_alloc]
  have hJ0 : CI15 w [] u := ⟨_, hbx, ownNone u _ _ _, hBu⟩
  have HJ0 := Lib.hid hJ0
  have HV := Lib.hid (values_lay 3 w.heap.size Bn A c xs (by omega) u (by omega) ((hBu.cell (p := ⟨Bn, 0, none⟩) hBn).trans hc0) (RdU.of (hr) (Nat.le_refl _) |>.keeps (KeepsLo.of hBu)))
  have HU := Lib.hid hu
  clear hJ0 hbx hu hr hc0
  refine (callsIn_wide (n := 4)).1 ?_
  refine callsIn_of_wp_marks Try.func38 rfl trivial ?_ rfl
  simp only [Try.ntmps38, List.size_toArray, List.length_cons, List.length_nil, Nat.reduceAdd, Nat.reduceSub, Array.replicate_succ, Array.replicate_zero, List.push_toArray, List.append_toArray, List.nil_append, List.cons_append]
  gi_wp2_with fail
  rw [HU.out]
  refine wpIn_rangeFunc_lay rfl (by omega) (gf := 32) (lb := #[.pointer (some ⟨Bn, 0, none⟩)]) rfl trivial (enters_of Try.func32 (by kernel_rfl) rfl)
    HV.out (fun _ => rfl)
    KeepsLo.trans (fun W l o o' _ h hc => KeepsLo.putObj W l o o' h hc) (fun W o => KeepsLo.alloc W o)
    (fun pre W => CI15 w pre W) (cI15_own w _ (by omega)) ?stay HJ0.out (fun x => .cells #[.int .i64 x.1, .string x.2] 65)
    (fun x B => { tmps := #[.slice none 0 0, .func (.func 32) #[] #[.pointer (some ⟨Bn, 0, none⟩)], .pointer (some ⟨w.heap.size, 0, none⟩), undef, .slice none 0 0, .pointer (some ⟨B, 0, none⟩), .func (.func 32) #[] #[.pointer (some ⟨Bn, 0, none⟩)], bkV x, undef, undef, undef, undef, undef], defers := [] }) ?assign ?body ?done
  case stay =>
    rintro s X Y ⟨v, hb, ho, hB⟩ hXY
    exact ⟨v, (hXY.block _ hb.lt).trans hb, ownBelow ho hXY (Nat.le_refl _), hB.trans (hXY.mono hB.size)⟩
  case assign =>
    intro l x W K hK
    gi_wp2
    exact hK
  case body =>
    rintro l pre x B W ⟨v, hv, hrow, hB⟩ hpn hw hbox
    have kb : Blk W B 65 [.int .i64 x.1, .string x.2] := hbox
    have z0 := kb.cell 0
    have z1 := kb.cell 1
    simp only [List.getElem?_cons_zero, List.getElem?_cons_succ] at z0 z1
    have hc := hv.cell
    have HV := Lib.hid hv
    have HROW := Lib.hid hrow
    have hws := hB.size
    have HB := Lib.hid hB
    clear hv hrow kb hbox
    gi_wp2_with (gi_at_builtin; refine wpListIn_append_own _ rfl _ _ 28 rfl w.heap.size 65 i0 (.agg #[.int .i64 0, .string ByteArray.empty]) 2 24 Try.underlying28 hi hz0 hz1 hz2 rfl (by decide) v pre.length (bks pre) rfl (HROW.out.alloc _) ⟨W.heap.size, 0, none⟩ 1 1 [.int .i64 x.1, .string x.2] rfl rfl (newsNew W [.int .i64 x.1, .string x.2] 65) (by simp [Value.oneCell']) (by unfold maxLen; omega) (by omega) (by simp; omega) ?_; intro v' w3 hown' hgrow _; obtain ⟨g', cap', rfl, _, _⟩ := hown'.form (by omega); have hv3 := (HV.out.alloc (.cells #[.int .i64 x.1, .string x.2] 65)).kept hgrow ((HV.out.alloc _).not_row (by decide) (HROW.out.alloc (.cells #[.int .i64 x.1, .string x.2] 65))); have hc1 := hv3.cell; have hf1 := hv3.frozen)
    have hA : Below W.heap.size W (W.alloc (.cells #[.int .i64 x.1, .string x.2] 65)) := (Below.refl _ W).alloc (Nat.le_refl _) _
    have hown0 := HROW.out.alloc (.cells #[.int .i64 x.1, .string x.2] 65)
    generalize hw2 : W.alloc (.cells #[.int .i64 x.1, .string x.2] 65) = w2 at *
    have hne3 : some w.heap.size ≠ (Value.slice (some ⟨g', 0, none⟩) (pre.length + 1) cap').ownBlock := hv3.not_row (by decide) hown'
    have hcell : ∀ (j : Nat) (o : Obj), v.ownBlock = some j → w2.heap[j]? = some o → o.isCells = true := by
      intro j o hj ho'
      rcases hown0.2 with ⟨rfl, _⟩ | ⟨g, cap, cur, rfl, _, hh, _⟩
      · cases hj
      · simp [Value.ownBlock] at hj
        subst hj
        rw [hh] at ho'
        cases ho'
        rfl
    have hB3 : Below w.heap.size w (w3.setCell ⟨w.heap.size, 0, none⟩ (.slice (some ⟨g', 0, none⟩) (pre.length + 1) cap')) := ((HB.out.trans (hA.mono HB.out.size)).grown hgrow (Nat.le_trans HB.out.size hA.size) (fun k e => (hown0.lt k e).1)).setCell (p := ⟨w.heap.size, 0, none⟩) (Nat.le_refl _) _
    refine ⟨?_, ?_, _, hv3.set _, ?_, hB3⟩
    · have k1 : KeepsOthers W w2 := ⟨hA.size, fun k o hk _ => (hA.block k (Array.getElem?_eq_some_iff.1 hk).1).trans hk⟩
      exact ((k1.trans (KeepsOthers.of_grownBy hgrow hcell)).trans (KeepsOthers.setCell _ _ _)).from _
    · exact (KeepsLo.below hA).trans (KeepsLo.of (((Below.refl _ w2).grown hgrow (Nat.le_trans HB.out.size hA.size) (fun k e => (hown0.lt k e).1)).setCell (p := ⟨w.heap.size, 0, none⟩) (Nat.le_refl _) _))
    · rw [bks_snoc, List.length_append]
      exact hown'.kept (grownBy_setCell' w3 w.heap.size _) (.inr (fun e => hne3 e.symm))
  case done =>
    rintro D W hD ⟨v, hv, hrow, hB⟩ hK
    have hc := hv.cell
    have HROW := Lib.hid hrow
    clear hrow
    gi_wp2
    refine ⟨by simp, .inl ⟨_, _, rfl, run_takeDeferred hK, ?_⟩⟩
    exact ⟨_, results_tmp rfl _ _ _, v, rfl, ownsRow_putObj HROW.out _ hK rfl, hB.trans (belowK_b (w := w) (Nat.le_refl _) W D _ (.deferred none) (by omega) hK rfl rfl)⟩

theorem collect_any (Bn : Nat) (A : Option Addr) (c : Nat) (xs : List Bk) (hl : xs.length * 24 ≤ 140737488351232) (w : World) (hBn : Bn < w.heap.size) (hc0 : w.cell? ⟨Bn, 0, none⟩ = some (.slice A xs.length c)) (hr : Rd w A (bks xs)) :
    Calls Try.prog 30 #[.func (.func 32) #[] #[.pointer (some ⟨Bn, 0, none⟩)]] w fun e w' => ∃ v, e = .returned v ∧ w'.ownsRow w.heap.size 65 2 v xs.length (bks xs) ∧ Below w.heap.size w w' := by
  have H := Lib.hid (appendSeq_any Bn A c xs hl w hBn hc0 hr)
  clear hr hc0
  go_enter Try.func30, Try.ntmps30
  go_wp2_with fail
  refine H.out.mono ?_
  rintro e w1 ⟨v, rfl, ho, hB⟩
  have HO := Lib.hid ho
  clear ho H
  go_wp2
  go_ret
  exact ⟨v, rfl, HO.out, hB⟩

end Go.Proofs.Ytnoidcelinaenaa
