/-
  Records in memory; blocks: freed, and what Diff does with a block. Conditions: numbers below 2^20.
-/
import Derived.Test.YtkebgfpghjgghaaBLP
import Derived.Test.YtkebgfpghjgghaaBLY
namespace Go.Proofs.Ytkebgfpghjgghaa
open Go.ChangeShapes Go.WideShapes Go.ChangeAt Go.RowKit
set_option maxRecDepth 100000

abbrev rcC (r : Rc) : List Value := [.int .i64 r.k, .string ByteArray.empty, .int .i64 0, .int .i64 0, .slice none 0 0, .int .i64 r.ix, .int .i64 r.ct, .string r.d, .int .u64 0, .int .u64 0, .int .u64 0, .int .u64 0]
def rcs (l : List Rc) : List Value := l.flatMap rcC
theorem rcs_length (l : List Rc) : (rcs l).length = l.length * 12 := flat_len (n := 12) (fun _ => rfl) l
theorem rcs_snoc (l : List Rc) (r : Rc) : rcs (l ++ [r]) = rcs l ++ rcC r := by simp [rcs]
theorem rcs_at {l : List Rc} {k : Nat} {r : Rc} (h : l[k]? = some r) (j : Nat) (hj : j < 12) : (rcs l)[k * 12 + j]? = (rcC r)[j]? := flat_at_of (cells := rcC) (n := 12) (fun _ => rfl) l k j r h hj
set_option maxRecDepth 100000 in
theorem infoRc : (Try.prog.info? 54).map (fun i => (i.zero, i.size, i.bytes)) = some (some (.agg #[.int .i64 0, .string ByteArray.empty, .int .i64 0, .int .i64 0, .slice none 0 0, .int .i64 0, .int .i64 0, .string ByteArray.empty, .int .u64 0, .int .u64 0, .int .u64 0, .int .u64 0]), 12, 128) := by kernel_rfl
abbrev zeroRc : Value := .agg #[.int .i64 0, .string ByteArray.empty, .int .i64 0, .int .i64 0, .slice none 0 0, .int .i64 0, .int .i64 0, .string ByteArray.empty, .int .u64 0, .int .u64 0, .int .u64 0, .int .u64 0]
abbrev ownRc (W : World) (base : Nat) (v : Value) (l : List Rc) : Prop := W.ownsRow base 54 12 v l.length (rcs l)

/-- Small records, few. -/
structure Small (s : Nat) (l : List Rc) : Prop where
  n : l.length ≤ s
  r : ∀ r ∈ l, 0 ≤ r.ix ∧ r.ix < 1024 ∧ 0 ≤ r.ct ∧ r.ct ≤ s
theorem Small.mono {s t : Nat} {l : List Rc} (h : Small s l) (hst : s ≤ t) : Small t l := ⟨Nat.le_trans h.n hst, fun r hr => by have := h.r r hr; omega⟩
theorem Small.more {s : Nat} {l : List Rc} (h : Small s l) {r : Rc} (hr : 0 ≤ r.ix ∧ r.ix < 1024 ∧ 0 ≤ r.ct ∧ r.ct ≤ 1) : Small (s + 1) (l ++ [r]) := by
  refine ⟨by have := h.n; simp; omega, fun x hx => ?_⟩
  rcases List.mem_append.1 hx with hx | hx
  · have := h.r x hx; omega
  · simp at hx; subst hx; omega
theorem Small.fr {s : Nat} {l : List Rc} (h : Small s l) {i : Int} (hi : 0 ≤ i ∧ i < 1024) : Small (s + 1) (fr l i) := by
  rcases last_cases l with rfl | ⟨rs, r, rfl⟩
  · rw [fr_nil]
    exact Small.more (l := []) ⟨Nat.zero_le _, fun r hr => by simp at hr⟩ ⟨hi.1, hi.2, by show (0 : Int) ≤ 1; omega, Int.le_refl _⟩
  · by_cases hc : r.k = 3 ∧ r.ix + r.ct = i
    · rw [fr_more _ _ _ hc]
      have h1 := h.n
      have h2 := h.r r (by simp)
      refine ⟨by simp at h1 ⊢; omega, fun x hx => ?_⟩
      rcases List.mem_append.1 hx with hx | hx
      · have := h.r x (by simp [hx]); omega
      · simp at hx; subst hx; dsimp only; omega
    · rw [fr_new _ _ _ hc]
      exact h.more ⟨hi.1, hi.2, by show (0 : Int) ≤ 1; omega, Int.le_refl _⟩

set_option maxHeartbeats 2000000 in
theorem freed_any (s : Nat) (hs : s ≤ 4096) (l : List Rc) (hl : Small s l) (i : Int) (hi0 : 0 ≤ i ∧ i < 1024) (base : Nat) (v : Value) (w : World) (ho : ownRc w base v l) (hbase : base ≤ w.heap.size) :
    Calls Try.prog 42 #[v, .int .i64 i] w fun e w' => ∃ v', e = .returned v' ∧ ownRc w' base v' (fr l i) ∧ Below base w w' ∧ ∀ k, k < w.heap.size → some k ≠ v.ownBlock → w'.heap[k]? = w.heap[k]? := by
  obtain ⟨i0, hi, hz0, hz1, hz2⟩ := infoParts infoRc
  have HO := Lib.hid ho
  have hn := hl.n
  obtain ⟨A, c, rfl, hcap, _, _, _⟩ := ownAny ho
  clear ho
  rcases last_cases l with rfl | ⟨rs, r, rfl⟩
  · rw [fr_nil]
    go_enter Try.func42, Try.ntmps42
    go_wp2_with (first
      | (go_quiet (fail))
      | (at_builtin; refine wpList_append_lies _ rfl _ _ 44 rfl base 54 i0 zeroRc 12 128 Try.underlying44 hi hz0 hz1 hz2 rfl (by decide) (.slice A 0 c) 0 ([]) rfl (ownBelow HO.out (((Below.refl _ w).trans (belowDrewN _ _ _)).alloc (Nat.le_refl _) _) (Nat.le_refl _)) ⟨w.heap.size, 0, none⟩ 1 1 (rcC ⟨3, i, 1, ByteArray.empty⟩) rfl rfl (newsNew _ _ _) (by simp [Value.oneCell']) (by omega) (by unfold maxLen; omega) (by omega) (by simp; omega) _ rfl ?_
         intro g6 c6 x6 ho6 hg6 _ _
         have HO6 := Lib.hid ho6
         have HB6 : Hid (Below base w x6) := Lib.hid (((belowDrewN w _ base).alloc hbase _).grown hg6 (by simp; omega) (fun j e => (HO.out.lt j e).1))
         have HK6 : Hid (∀ k, k < w.heap.size → some k ≠ ((Value.slice A 0 c)).ownBlock → x6.heap[k]? = w.heap[k]?) := Lib.hid fun k hk hne => (hg6.block k (by simp; omega) hne).trans (Below.heap_alloc _ _ k hk)
         clear ho6 hg6))
    go_ret
    exact ⟨_, rfl, ownBare HO6.out, HB6.out, HK6.out⟩
  · have hlen : (rs ++ [r]).length = rs.length + 1 := by simp
    rw [hlen] at HO hcap hn ⊢
    have HO' : Hid (w.ownsRow base 54 12 (.slice A (rs.length + 1) c) (rs.length + 1) (rcs (rs ++ [r]))) := Lib.hid (by have := HO.out; unfold ownRc at this; rw [hlen] at this; exact this)
    obtain ⟨g, cap, e, hg1, hg2⟩ := HO'.out.form (by omega)
    injection e with e1 _ e3
    subst e1
    have hsm := hl.r r (by simp)
    have hw : wrap64 ((rs.length : Int) + 1 - 1) = rs.length := by
      rw [show (rs.length : Int) + 1 - 1 = rs.length by omega]
      exact IntWalk.wrap64_in _ (by omega)
    have hat : (rs ++ [r])[rs.length]? = some r := by simp
    have c0 := (HO'.out.cellAt (rs.length * 12 + 0) (by omega)).trans (rcs_at hat 0 (by omega))
    have c5 := (HO'.out.cellAt (rs.length * 12 + 5) (by omega)).trans (rcs_at hat 5 (by omega))
    have c6 := (HO'.out.cellAt (rs.length * 12 + 6) (by omega)).trans (rcs_at hat 6 (by omega))
    simp only [rcC, List.getElem?_cons_zero, List.getElem?_cons_succ, Nat.add_zero] at c0 c5 c6
    have q6 := HO'.out.frozenAt (rs.length * 12 + 6)
    clear hat HO hlen e3
    have HL := Lib.hid hl
    clear hl
    have hws : wrap64 (r.ix + r.ct) = r.ix + r.ct := IntWalk.wrap64_in _ (by omega)
    have hwc : wrap64 (r.ct + 1) = r.ct + 1 := IntWalk.wrap64_in _ (by omega)
    by_cases hk3 : r.k = 3
    · have b3 : (r.k == 3) = true := beq_iff_eq.2 hk3
      by_cases hix : r.ix + r.ct = i
      · have bi : (r.ix + r.ct == i) = true := beq_iff_eq.2 hix
        have HFR := Lib.hid (fr_more rs r i ⟨hk3, hix⟩)
        clear hk3 hix
        go_enter Try.func42, Try.ntmps42
        go_wp2_with (go_quiet (fail))
        have hrs : (rcs (rs ++ [r])).set (rs.length * 12 + 6) (.int .i64 (r.ct + 1)) = rcs (rs ++ [⟨r.k, r.ix, r.ct + 1, r.d⟩]) := by
          rw [rcs_snoc, rcs_snoc, List.set_append_right _ _ (by rw [rcs_length]; omega), rcs_length, show rs.length * 12 + 6 - rs.length * 12 = 6 by omega]
          rfl
        obtain ⟨hst, hgs⟩ := HO'.out.stored (rs.length * 12 + 6) (.int .i64 (r.ct + 1))
        rw [hrs] at hst
        have HST := Lib.hid hst
        clear hst hrs
        go_ret
        refine ⟨_, rfl, by rw [HFR.out]; unfold ownRc; rw [List.length_append]; exact HST.out, (belowDrewN w _ base).setCell (p := ⟨g, _, none⟩) hg1 _, fun k hk hne => ?_⟩
        exact heap_setCell_other _ _ k _ (fun e => hne (by rw [e]; rfl))
      · have bi : (r.ix + r.ct == i) = false := beq_eq_false_iff_ne.2 hix
        have HFR := Lib.hid (fr_new rs r i (fun h => hix h.2))
        clear hk3 hix
        go_enter Try.func42, Try.ntmps42
        go_wp2_with (first
          | (go_quiet (fail))
          | (at_builtin; refine wpList_append_lies _ rfl _ _ 44 rfl base 54 i0 zeroRc 12 128 Try.underlying44 hi hz0 hz1 hz2 rfl (by decide) (.slice (some ⟨g, 0, none⟩) (rs.length + 1) c) (rs.length + 1) (rcs (rs ++ [r])) rfl (ownBelow HO'.out (((Below.refl _ w).trans (belowDrewN _ _ _)).alloc (Nat.le_refl _) _) (Nat.le_refl _)) ⟨w.heap.size, 0, none⟩ 1 1 (rcC ⟨3, i, 1, ByteArray.empty⟩) rfl rfl (newsNew _ _ _) (by simp [Value.oneCell']) (by omega) (by unfold maxLen; omega) (by omega) (by simp; omega) _ rfl ?_
             intro g6 c6 x6 ho6 hg6 _ _
             have HO6 := Lib.hid ho6
             have HB6 : Hid (Below base w x6) := Lib.hid (((belowDrewN w _ base).alloc hbase _).grown hg6 (by simp; omega) (fun j e => (HO'.out.lt j e).1))
             have HK6 : Hid (∀ k, k < w.heap.size → some k ≠ ((Value.slice (some ⟨g, 0, none⟩) (rs.length + 1) c)).ownBlock → x6.heap[k]? = w.heap[k]?) := Lib.hid fun k hk hne => (hg6.block k (by simp; omega) hne).trans (Below.heap_alloc _ _ k hk)
             clear ho6 hg6))
        go_ret
        exact ⟨_, rfl, by rw [HFR.out]; unfold ownRc; rw [rcs_snoc (rs ++ [r]), List.length_append, List.length_append]; exact HO6.out, HB6.out, HK6.out⟩
    · have b3 : (r.k == 3) = false := beq_eq_false_iff_ne.2 hk3
      have HFR := Lib.hid (fr_new rs r i (fun h => hk3 h.1))
      clear hk3
      go_enter Try.func42, Try.ntmps42
      go_wp2_with (first
        | (go_quiet (fail))
        | (at_builtin; refine wpList_append_lies _ rfl _ _ 44 rfl base 54 i0 zeroRc 12 128 Try.underlying44 hi hz0 hz1 hz2 rfl (by decide) (.slice (some ⟨g, 0, none⟩) (rs.length + 1) c) (rs.length + 1) (rcs (rs ++ [r])) rfl (ownBelow HO'.out (((Below.refl _ w).trans (belowDrewN _ _ _)).alloc (Nat.le_refl _) _) (Nat.le_refl _)) ⟨w.heap.size, 0, none⟩ 1 1 (rcC ⟨3, i, 1, ByteArray.empty⟩) rfl rfl (newsNew _ _ _) (by simp [Value.oneCell']) (by omega) (by unfold maxLen; omega) (by omega) (by simp; omega) _ rfl ?_
           intro g6 c6 x6 ho6 hg6 _ _
           have HO6 := Lib.hid ho6
           have HB6 : Hid (Below base w x6) := Lib.hid (((belowDrewN w _ base).alloc hbase _).grown hg6 (by simp; omega) (fun j e => (HO'.out.lt j e).1))
           have HK6 : Hid (∀ k, k < w.heap.size → some k ≠ ((Value.slice (some ⟨g, 0, none⟩) (rs.length + 1) c)).ownBlock → x6.heap[k]? = w.heap[k]?) := Lib.hid fun k hk hne => (hg6.block k (by simp; omega) hne).trans (Below.heap_alloc _ _ k hk)
           clear ho6 hg6))
      go_ret
      exact ⟨_, rfl, by rw [HFR.out]; unfold ownRc; rw [rcs_snoc (rs ++ [r]), List.length_append, List.length_append]; exact HO6.out, HB6.out, HK6.out⟩

end Go.Proofs.Ytkebgfpghjgghaa
