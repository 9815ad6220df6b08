/-
  The law's own helpers: num, small, right. Conditions: from 2 to 15 sectors.
-/
import Derived.Test.YtddkalcgijeldaaDVN
import Derived.Test.YtddkalcgijeldaaDVP
namespace Go.Proofs.Ytddkalcgijeldaa
open Go.ChangeShapes Go.WideShapes Go.ChangeAt Go.RowKit

set_option maxRecDepth 100000 in
theorem num_any (n : Int) (w : World) :
    Calls Try.prog 15 #[.int .i64 n] w fun e w' => e = .returned (.int .i64 n) ∧ w = w' := by
  go_enter Try.func15, Try.ntmps15
  go_wp2
  go_ret
  exact ⟨rfl, rfl⟩

set_option maxRecDepth 100000 in
theorem place (a : Int) (n : Nat) (h0 : 0 < n) (h1 : (n : Int) ≤ 35184372087808) : ∃ q : Nat, q < n ∧ (wrap64 (a.tmod n + n)).tmod n = q := by
  have t1 : a.tmod n < n := Int.tmod_lt_of_pos a (by omega)
  have t2 : -(n : Int) < a.tmod n := by
    have := Int.tmod_lt_of_pos (-a) (b := n) (by omega)
    rw [Int.neg_tmod] at this
    omega
  have e : wrap64 (a.tmod n + n) = a.tmod n + n := IntWalk.wrap64_in _ (by omega)
  rw [e]
  have t3 : (a.tmod n + n).tmod n < n := Int.tmod_lt_of_pos _ (by omega)
  have t4 : 0 ≤ (a.tmod n + n).tmod n := Int.tmod_nonneg _ (by omega)
  exact ⟨((a.tmod n + n).tmod n).toNat, by omega, by omega⟩

set_option maxRecDepth 100000 in
theorem small_any (n : Int) (w : World) :
    Calls Try.prog 11 #[.int .i64 n] w fun e w' => ∃ k : Nat, 2 ≤ k ∧ k ≤ 15 ∧ e = .returned (.int .i64 k) ∧ w = w' := by
  obtain ⟨q, hq, hqe⟩ := place n 14 (by omega) (by omega)
  have hqe' : (wrap64 (n.tmod 14 + 14)).tmod 14 = (q : Int) := hqe
  have hs : wrap64 (2 + (q : Int)) = 2 + (q : Int) := IntWalk.wrap64_in _ (by omega)
  go_enter Try.func11, Try.ntmps11
  go_wp2
  go_ret
  exact ⟨2 + q, by omega, by omega, by simp, rfl⟩

set_option maxRecDepth 100000 in
/-- A row that is full is its block. -/
theorem own_full {w : World} {base : Nat} {e : TypeId} {g n : Nat} {xs : List Value} (h : w.ownsRow base e 1 (.slice (some ⟨g, 0, none⟩) n n) n xs) : Blk w g e xs := by
  rcases h.2 with ⟨hv, _⟩ | ⟨g', cap, cur, hv, _, hg, _, _, hs, ht⟩
  · cases hv
  · injection hv with e1 e2 e3
    injection e1 with e1
    injection e1 with e1
    subst e1
    subst e3
    rw [Nat.mul_one] at ht hs
    rw [List.take_of_length_le (by simp; omega)] at ht
    subst ht
    simpa [Blk] using hg
set_option maxRecDepth 100000 in
theorem own_of_blk {w : World} {base : Nat} {e : TypeId} {g n : Nat} {xs : List Value} (h : Blk w g e xs) (hb : base ≤ g) (hl : xs.length = n) (hn : n ≤ maxLen) : w.ownsRow base e 1 (.slice (some ⟨g, 0, none⟩) n n) n xs :=
  ⟨by simp [hl], .inr ⟨g, n, xs.toArray, rfl, hb, h, Nat.le_refl _, hn, by simp [hl], by simp [← hl]⟩⟩
set_option maxRecDepth 100000 in
theorem splice_ocl (zs l : List Int) (_h : l.length ≤ zs.length) : splice (ocl zs) 0 (ocl l) = ocl (l ++ zs.drop l.length) := by
  simp [splice, ocl]

set_option maxRecDepth 100000 in
theorem take_reads {w : World} {A : Option Addr} {zs : List Int} (h : Rd w A (ocl zs)) (n : Nat) (hp : 0 < (ocl (zs.take n)).length) : ∃ ad, A = some ad ∧ ∀ j v, (ocl (zs.take n))[j]? = some v → w.cell? (ad.add j) = some v := by
  rw [ocl_length, List.length_take] at hp
  obtain ⟨b, off, e, _, hc⟩ := h (by intro h; have := congrArg List.length h; rw [ocl_length] at this; simp at this; subst this; simp at hp)
  refine ⟨⟨b, off, none⟩, e, fun j v hj => ?_⟩
  rw [add_plain]
  refine hc j v ?_
  rw [ocl, List.getElem?_map, List.getElem?_take] at hj
  rw [ocl, List.getElem?_map]
  split at hj
  · exact hj
  · cases hj
set_option maxRecDepth 100000 in
theorem made64 {w : World} {base g : Nat} (h : w.ownsRow base 5 1 (.slice (some ⟨g, 0, none⟩) 64 64) 64 (List.replicate 64 (.int .u8 0))) : w.heap[g]? = some (.cells (ocl z64).toArray 5 (0, 0)) := by
  have : ocl z64 = List.replicate 64 (.int .u8 0) := by simp [ocl, z64]
  rw [this]
  exact own_full h
set_option maxRecDepth 100000 in
theorem fits64 {l : List Value} (h : l.length ≤ 64) : 0 + l.length ≤ (ocl z64).length := by
  rw [ocl_length, z64_length]
  omega

/-- An act of a device of n sectors. -/
structure Ac.Right (n : Nat) (base : Nat) (W : World) (r : Ac) : Prop where
  fl : r.fl = true → r = ⟨true, 0, ⟨none, [], 0⟩⟩
  wr : r.fl = false → ∃ q g : Nat, r.at_ = q ∧ q < n ∧ r.p.A = some ⟨g, 0, none⟩ ∧ r.p.c = 64 ∧ r.p.zs.length = 64 ∧ base ≤ g ∧ Blk W g 5 (ocl r.p.zs)

set_option maxHeartbeats 1000000 in
set_option maxRecDepth 100000 in

set_option maxRecDepth 100000 in
theorem right_any (x : Ac) (n : Nat) (h2 : 2 ≤ n) (h15 : n ≤ 15) (w : World) (hx : x.p.Came w) :
    Calls Try.prog 13 #[x.val, .int .i64 n] w fun e w' => ∃ r : Ac, e = .returned r.val ∧ r.fl = x.fl ∧ r.Right n w.heap.size w' ∧ Below w.heap.size w w' := by
  obtain ⟨i0, hi, hz0, hz1, hz2⟩ := dinfo_parts dinfo8
  obtain ⟨fl, at_, A, zs, c⟩ := x
  obtain ⟨hr, hlen, ho, hcap, hnil⟩ := hx
  dsimp only at hr hlen ho hcap hnil
  cases fl
  · obtain ⟨q, hq, hqe⟩ := place at_ n (by omega) (by omega)
    have HR := Lib.hid hr
    have hn0 : ((n : Int) == 0) = false := by simp; omega
    clear hr ho
    go_enter Try.func13, Try.ntmps13
    have hcsl : (ocl (zs.take 64)).length = Nat.min zs.length 64 := by rw [ocl_length, List.length_take]; exact Nat.min_comm _ _
    have hl2 : (ocl (zs.take 64)).length ≤ 64 := by rw [hcsl]; exact Nat.min_le_right _ _
    have hB0 : Below w.heap.size w ((w.alloc (.cells #[.bool false, .int .i64 at_, .slice A zs.length c] 36)).alloc (.cells #[.bool false, .int .i64 0, .slice none 0 0] 36)) := ((Below.refl _ w).alloc (Nat.le_refl _) _).alloc (by simp) _
    have ka : Blk ((w.alloc (.cells #[.bool false, .int .i64 at_, .slice A zs.length c] 36)).alloc (.cells #[.bool false, .int .i64 0, .slice none 0 0] 36)) w.heap.size 36 [.bool false, .int .i64 at_, .slice A zs.length c] := allocs_blk [([.bool false, .int .i64 at_, .slice A zs.length c], 36), ([.bool false, .int .i64 0, .slice none 0 0], 36)] w 0 rfl
    have kr : Blk ((w.alloc (.cells #[.bool false, .int .i64 at_, .slice A zs.length c] 36)).alloc (.cells #[.bool false, .int .i64 0, .slice none 0 0] 36)) (w.heap.size + 1) 36 [.bool false, .int .i64 0, .slice none 0 0] := allocs_blk [([.bool false, .int .i64 at_, .slice A zs.length c], 36), ([.bool false, .int .i64 0, .slice none 0 0], 36)] w 1 rfl
    have HKA := Lib.hid ka
    have HKR := Lib.hid kr
    have HB0 := Lib.hid hB0
    have HCS := Lib.hid hcsl
    clear ka kr hB0 hcsl
    go_wp2_with (first
      | (at_make; refine wpList_make_full _ rfl _ _ 34 rfl w.heap.size 5 i0 (.int .u8 0) 1 Try.underlying34 hi hz0 hz1 .i64 .i64 _ _ 64 rfl rfl (by omega) (by omega) (by rw [hz2]; omega) (by unfold maxLen; omega) (by simp; omega) ?_; intro w2 hown2 hgrow2; have ka2 : Blk w2 w.heap.size 36 [.bool false, .int .i64 at_, .slice A zs.length c] := (hgrow2.block _ (by simp; omega) (by simp)).trans HKA.out; have kr2 : Blk w2 (w.heap.size + 1) 36 [.bool false, .int .i64 0, .slice none 0 0] := (hgrow2.block _ (by simp) (by simp)).trans HKR.out; have hlt2 := kr2.lt; have hlt3 : w.heap.size < w2.heap.size := (by omega); have c1 := ka2.cell 1; have c2 := ka2.cell 2; simp only [List.getElem?_cons_zero, List.getElem?_cons_succ] at c1 c2; have hBw2 : Below w.heap.size w w2 := HB0.out.grown hgrow2 (by simp; omega) (fun _ h => (by cases h)); have hblk := made64 (base := w.heap.size) (by simpa [Value.cells, toList_madeCells_one] using hown2); have HA2 := Lib.hid ka2; have HR2 := Lib.hid kr2; have HBK := Lib.hid hblk; have HA := Lib.hid (HR.out.below hBw2); clear hown2 hgrow2 ka2 kr2 hblk)
      | (with_reducible show wpList _ _ _ (Oper.mk (some 13) _ _ _ _ _ :: _) _ _; refine wpList_copy_splice (o := ⟨some 13, _, _, _, _, _⟩) rfl (.tmp 10) (.tmp 12) 34 34 rfl 5 Try.underlying34 dsize8 (some ⟨w.heap.size + 1 + 1, 0, none⟩) A 64 64 zs.length c rfl rfl (w.heap.size + 1 + 1) 0 (ocl z64) 5 HBK.out (ocl (zs.take 64)) HCS.out (fun hp => ⟨rfl, take_reads HA.out 64 hp⟩) (fits64 hl2) (ocl_one _) (w.heap.size + 1 + 1) w2 (Below.refl _ _) (Nat.le_refl _) ?_; intro w3 HG3 hB3; have ka3 := HA2.out.below hB3 (by omega); have kr3 := HR2.out.below hB3 (by omega); have d1 := ka3.cell 1; have e0 := kr3.cell 0; have e1 := kr3.cell 1; have e2 := kr3.cell 2; have f0 := kr3.frozen 0; have f1 := kr3.frozen 1; have f2 := kr3.frozen 2; simp only [List.getElem?_cons_zero, List.getElem?_cons_succ] at d1 e0 e1 e2; have hs3 := hB3.size; have KR3 := Lib.hid kr3; clear ka3 kr3 c1 c2))
    obtain ⟨zz, hzz⟩ : ∃ zz, zs.take 64 ++ z64.drop (zs.take 64).length = zz := ⟨_, rfl⟩
    have hzl : zz.length = 64 := by rw [← hzz, List.length_append, List.length_drop, z64_length]; rw [ocl_length] at hl2; omega
    have HG := HG3.out
    rw [splice_ocl _ _ (by rw [z64_length]; rw [ocl_length] at hl2; exact hl2), hzz] at HG
    have kf := (((KR3.out.set 0 (.bool false)).set 1 (.int .i64 q)).set 2 (.slice (some ⟨w.heap.size + 1 + 1, 0, none⟩) 64 64))
    have r0 := kf.cell 0
    have r1 := kf.cell 1
    have r2 := kf.cell 2
    simp only [List.set_cons_zero, List.set_cons_succ, List.getElem?_cons_zero, List.getElem?_cons_succ] at r0 r1 r2
    have hst : ∀ (u v z : Value) (b : Nat), b ≠ w.heap.size + 1 → (((w3.setCell ⟨w.heap.size + 1, 0, none⟩ u).setCell ⟨w.heap.size + 1, 1, none⟩ v).setCell ⟨w.heap.size + 1, 2, none⟩ z).heap[b]? = w3.heap[b]? := fun u v z b hb => (heap_setCell_other _ _ b _ hb).trans ((heap_setCell_other _ _ b _ hb).trans (heap_setCell_other _ _ b _ hb))
    refine bodyPost_ret (v := Ac.val ⟨false, q, ⟨some ⟨w.heap.size + 1 + 1, 0, none⟩, zz, 64⟩⟩) ?_ rfl ?_
    · simp [results, Try.results13, go_sem, e0, e1, e2, hzl]
    · refine ⟨⟨false, q, ⟨some ⟨w.heap.size + 1 + 1, 0, none⟩, zz, 64⟩⟩, rfl, rfl, ⟨fun h => (by cases h), fun _ => ⟨q, w.heap.size + 1 + 1, rfl, hq, rfl, rfl, hzl, by omega, ?_⟩⟩, ?_⟩
      · exact (hst _ _ _ _ (by omega)).trans HG
      · exact ((((hBw2.trans (hB3.mono (by omega))).setCell (p := ⟨w.heap.size + 1, 0, none⟩) (Nat.le_succ _) _).setCell (p := ⟨w.heap.size + 1, 1, none⟩) (Nat.le_succ _) _).setCell (p := ⟨w.heap.size + 1, 2, none⟩) (Nat.le_succ _) _)
  · go_enter Try.func13, Try.ntmps13
    go_wp2
    have hB0 : Below w.heap.size w ((w.alloc (.cells #[.bool true, .int .i64 at_, .slice A zs.length c] 36)).alloc (.cells #[.bool true, .int .i64 0, .slice none 0 0] 36)) := ((Below.refl _ w).alloc (Nat.le_refl _) _).alloc (by simp) _
    have k := allocs_blk [([.bool true, .int .i64 at_, .slice A zs.length c], 36), ([.bool true, .int .i64 0, .slice none 0 0], 36)] w 1 rfl
    have e0 := k.cell 0
    have e1 := k.cell 1
    have e2 := k.cell 2
    simp only [allocs, List.foldl_cons, List.foldl_nil, List.getElem?_cons_zero, List.getElem?_cons_succ] at e0 e1 e2
    refine bodyPost_ret (v := Ac.val ⟨true, 0, ⟨none, [], 0⟩⟩) ?_ rfl ?_
    · simp [results, Try.results13, go_sem, e0, e1, e2]
    · exact ⟨⟨true, 0, ⟨none, [], 0⟩⟩, rfl, rfl, ⟨fun _ => rfl, fun h => (by cases h)⟩, hB0⟩

end Go.Proofs.Ytddkalcgijeldaa
