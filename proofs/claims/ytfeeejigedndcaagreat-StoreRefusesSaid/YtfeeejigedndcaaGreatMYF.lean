/-
  What is read off a device on which a store stands: numbers. Conditions: texts of numbers, at most 100000.
-/
import Derived.Test.YtfeeejigedndcaaGreatMQY
import Derived.Test.YtfeeejigedndcaaGreatMQO
import Derived.Test.YtfeeejigedndcaaGreatMQG
namespace Go.Proofs.YtfeeejigedndcaaGreat
open Go.ChangeShapes Go.WideShapes Go.ChangeAt Go.RowKit Go.Maps Go.Shelf
set_option maxRecDepth 100000
attribute [local go_sem] Oper.semAt_some

theorem run_string_p (w : World) (A : Option Addr) (n : Nat) (zs : List Int) (c : Nat) (hn : zs.length = n) (h : RdB w A zs) : (convert 46 9 (.slice A n c)).run Tryz.prog w = .ok (.string (strOfNums zs)) w := by
  subst hn
  exact run_string_rd w _ _ _ Tryz.underlying46 Tryz.underlying5 Tryz.underlying9 A zs c h

theorem flat_piece {α : Type} (l : List (List α)) (m : Nat) (h : ∀ x ∈ l, x.length = m) : ∀ i, i < l.length → (l.flatten.drop (m * i)).take m = l.getD i [] := by
  induction l with
  | nil => intro i hi; simp at hi
  | cons x l ih =>
    intro i hi
    have hx : x.length = m := h x (by simp)
    rcases i with _ | i
    · simp [← hx]
    · have e : m * (i + 1) = x.length + m * i := by rw [hx, Nat.mul_succ]; omega
      rw [List.flatten_cons, e, List.drop_append]
      have h0 : List.drop (x.length + m * i) x = [] := List.drop_eq_nil_iff.2 (by omega)
      rw [h0, List.nil_append, Nat.add_sub_cancel_left]
      exact ih (fun y hy => h y (by simp [hy])) i (by simpa using hi)
theorem numsT_piece (zs : List Int) (i : Nat) (hi : i < zs.length) : strOfNums (((txo (numsT zs)).drop (8 * i)).take 8) = numT (zs.getD i 0) := by
  have e : txo (numsT zs) = ((zs.map numT).map txo).flatten := by
    show (((zs.map numT).map (·.data.toList)).flatten.toArray).toList.map (fun b : UInt8 => (b.toNat : Int)) = _
    rw [List.toList_toArray, List.map_flatten, List.map_map]
    rfl
  rw [e, flat_piece _ 8 ?_ i (by simpa using hi)]
  · have : ((zs.map numT).map txo).getD i [] = txo (numT (zs.getD i 0)) := by
      simp [List.getD, List.getElem?_map, List.getElem?_eq_getElem hi]
    rw [this, str_txo]
  · intro x hx
    obtain ⟨y, hy, rfl⟩ := List.mem_map.1 hx
    obtain ⟨z, hz, rfl⟩ := List.mem_map.1 hy
    rw [txo_length, numT_size]

/-- What holds between two rounds of an append into box B. -/
def BoJ (w0 : World) (B : Nat) (xs : List Int) (W : World) : Prop :=
  ∃ v, Boxed W B 30 v ∧ W.ownsRow w0.heap.size 3 1 v xs.length (ints xs) ∧ Out B (B + 1) w0.heap.size w0 W
theorem boJ_own {w0 : World} {B L : Nat} (hL : w0.heap.size ≤ L) {s : List Int} {W W' : World} {row : Option Nat} (h : BoJ w0 B s W) (hg : W.grownBy W' row) (hr : ∀ r, row = some r → L ≤ r ∧ ∃ o : Obj, W.heap[r]? = some o ∧ o.isCells = false) : BoJ w0 B s W' := by
  obtain ⟨v, hb, ho, hO⟩ := h
  refine ⟨v, hb.kept hg (fun e => ?_), own_other2 ho hg (fun r e => (hr r e).2), hO.trans ⟨hg.os, hg.tape, hg.output, hg.size, fun k hk _ => hg.block k (by have := hO.size; omega) (fun e => by have := (hr k e.symm).1; omega)⟩⟩
  obtain ⟨o, ho, hc⟩ := (hr B e.symm).2
  rw [show W.heap[B]? = _ from hb] at ho
  cases ho
  cases hc
theorem BoJ.step {w0 : World} {B L Bn Bm : Nat} {xs : List Int} {x : Int} {W w1 w3 : World} {v v' : Value} (hBn : Bn < w0.heap.size) (hBm : Bm < w0.heap.size) (hn : Bn ≠ B) (hm : Bm ≠ B)
    (hv : Boxed W B 30 v) (ho : W.ownsRow w0.heap.size 3 1 v xs.length (ints xs)) (hO : Out B (B + 1) w0.heap.size w0 W) (hB1 : Below W.heap.size W w1)
    (hown : w3.ownsRow w0.heap.size 3 1 v' (xs.length + 1) (ints xs ++ [.int .i64 x])) (hgrow : (w1.alloc (.cells #[.int .i64 x] 3)).grownBy w3 v.ownBlock) :
    KeepsFrom L W (w3.setCell ⟨B, 0, none⟩ v') ∧ KeepsTwo Bn Bm W (w3.setCell ⟨B, 0, none⟩ v') ∧ BoJ w0 B (xs ++ [x]) (w3.setCell ⟨B, 0, none⟩ v') := by
  have hB2 : Below W.heap.size W (w1.alloc (.cells #[.int .i64 x] 3)) := hB1.alloc hB1.size _
  have ho2 := own_below ho hB2 (Nat.le_refl _)
  have hv2 : Boxed (w1.alloc (.cells #[.int .i64 x] 3)) B 30 v := (hB2.block B hv.lt).trans hv
  have hOs := hO.size
  generalize hw2 : w1.alloc (.cells #[.int .i64 x] 3) = w2 at *
  have hv3 : Boxed w3 B 30 v := hv2.kept hgrow (hv2.not_row (by decide) ho2)
  have hne3 : some B ≠ v'.ownBlock := hv3.not_row (by decide) hown
  have hcell : ∀ (j : Nat) (o : Obj), v.ownBlock = some j → w2.heap[j]? = some o → o.isCells = true := by
    intro j o hj ho'
    rcases ho2.2 with ⟨rfl, _⟩ | ⟨g, cap, cur, rfl, _, hh, _⟩
    · cases hj
    · simp [Value.ownBlock] at hj
      subst hj
      rw [hh] at ho'
      cases ho'
      rfl
  have hset : ∀ k, k ≠ B → (w3.setCell ⟨B, 0, none⟩ v').heap[k]? = w3.heap[k]? := fun k hk => by
    simp only [World.setCell, Array.getElem?_modify]
    rw [if_neg (Ne.symm hk)]
  have hsame : ∀ k, k < w0.heap.size → k ≠ B → (w3.setCell ⟨B, 0, none⟩ v').heap[k]? = W.heap[k]? := fun k hk hkb =>
    ((hset k hkb).trans (hgrow.block k (by have := hB2.size; omega) (fun e => by have := (ho.lt k e.symm).1; omega))).trans (hB2.block k (by omega))
  have hT : Out B (B + 1) w0.heap.size W (w3.setCell ⟨B, 0, none⟩ v') := by
    have h1 : Out B (B + 1) w0.heap.size W w3 := ((Out.of_below (hB2.mono hOs)).trans ⟨hgrow.os, hgrow.tape, hgrow.output, hgrow.size, fun k hk hkb => hgrow.block k (by have := hB2.size; omega) (fun e => by have := (ho.lt k e.symm).1; omega)⟩)
    have h2 := grownBy_setCell' w3 B v'
    exact h1.trans ⟨h2.os, h2.tape, h2.output, h2.size, fun k _ hkb => hset k (by omega)⟩
  refine ⟨?_, ⟨fun o u hu => ?_, fun o u hu => ?_⟩, v', hv3.set v', ?_, hO.trans hT⟩
  · have k1 : KeepsOthers W w2 := ⟨hB2.size, fun k o hk _ => (hB2.block k (Array.getElem?_eq_some_iff.1 hk).1).trans hk⟩
    exact ((k1.trans (KeepsOthers.of_grownBy hgrow hcell)).trans (KeepsOthers.setCell _ _ _)).from L
  · exact (World.cell?_of_block (hsame Bn hBn hn)).trans hu
  · exact (World.cell?_of_block (hsame Bm hBm hm)).trans hu
  · rw [List.length_append, ints_snoc]
    exact hown.kept (grownBy_setCell' w3 B v') (.inr (fun e => hne3 e.symm))

theorem range_getD (zs : List Int) : (List.range zs.length).map (fun i => zs.getD i 0) = zs := by
  refine List.ext_getElem? fun i => ?_
  rw [List.getElem?_map]
  by_cases h : i < zs.length
  · rw [List.getElem?_range h, List.getElem?_eq_getElem h]
    simp [List.getD, List.getElem?_eq_getElem h]
  · rw [List.getElem?_eq_none (by simpa using h), List.getElem?_eq_none (by omega)]
    rfl

set_option maxHeartbeats 2000000 in
theorem numbersS_ok (zs : List Int) (hl : zs.length ≤ 100000) (hz : ∀ z ∈ zs, 0 ≤ z ∧ z ≤ 4611686018427387903) (w : World) :
    Calls Tryz.prog 89 #[.string (numsT zs)] w fun e w' => ∃ v, e = .returned v ∧ w'.ownsRow w.heap.size 3 1 v zs.length (ints zs) ∧ Below w.heap.size w w' := by
  obtain ⟨i0, hi, hz0, hz1, hz2⟩ := info_parts qinfo3
  have hsz := numsT_size zs
  have hpc := numsT_piece zs
  generalize numsT zs = s at *
  generalize hL : 8 * zs.length = L at *
  have HPC := Lib.hid hpc
  clear hpc
  obtain ⟨w1, hw1⟩ : ∃ w1, w.alloc (.cells #[.slice none 0 0] 30) = w1 := ⟨_, rfl⟩
  have hB1 : Below w.heap.size w w1 := hw1 ▸ (Below.refl _ w).alloc (Nat.le_refl _) _
  have bO : Boxed w1 w.heap.size 30 (.slice none 0 0) := hw1 ▸ Boxed.new w _ _
  have hs1 : w1.heap.size = w.heap.size + 1 := by rw [← hw1, World.size_alloc]
  have hcv := Lib.run_convert_string_bytes (P := Tryz.prog) w1 9 46 5 (s) Tryz.underlying9 Tryz.underlying46 Tryz.underlying5
  obtain ⟨cap, hcap⟩ : ∃ cap, grownCap w1 (s).size 0 5 = cap := ⟨_, rfl⟩
  have hcap2 : (s).size ≤ cap := by
    rw [← hcap]
    exact grownCap_ge _ _ _ _
  rw [hcap, hsz, hs1] at hcv
  have hcap3 : L ≤ cap := hsz ▸ hcap2
  have hrb := rd_bytes w1 5 (s)
  have hbb := below_bytes w1 5 (s)
  rw [hs1] at hrb
  have hs2 : (Lib.bytesWorld w1 5 (s)).heap.size = w.heap.size + 2 := by rw [Lib.bytesWorld_size, hs1]
  generalize Lib.bytesWorld w1 5 (s) = w2 at *
  obtain ⟨w4, hw4⟩ : ∃ w4, (w2.alloc (.cells #[.slice (some ⟨w.heap.size + 1, 0, none⟩) L cap] 46)).alloc (.cells #[.int .i64 (8 : Nat)] 3) = w4 := ⟨_, rfl⟩
  have e4 : w4 = allocs w2 [([.slice (some ⟨w.heap.size + 1, 0, none⟩) L cap], 46), ([.int .i64 (8 : Nat)], 3)] := by rw [← hw4]; rfl
  have hs4 : w4.heap.size = w.heap.size + 4 := by rw [e4, allocs_size, hs2]; rfl
  have hB24 : Below w2.heap.size w2 w4 := by rw [e4]; exact allocs_below _ _
  have k0 : Blk w4 (w.heap.size + 2) 46 [.slice (some ⟨w.heap.size + 1, 0, none⟩) L cap] := by rw [e4, ← hs2]; exact allocs_blk _ w2 0 rfl
  have k1 : Blk w4 (w.heap.size + 3) 3 [.int .i64 (8 : Nat)] := by rw [e4, show w.heap.size + 3 = w2.heap.size + 1 by omega]; exact allocs_blk _ w2 1 rfl
  have hcN : cntM 8 L = zs.length := by unfold cntM; omega
  have bO4 : Boxed w4 w.heap.size 30 (.slice none 0 0) := (hB24.block _ (by omega)).trans ((hbb.block _ (by omega)).trans bO)
  have hB4 : Below w.heap.size w w4 := (hB1.trans (hbb.mono (by omega))).trans (hB24.mono (by omega))
  have hrb4 : RdB w4 (some ⟨w.heap.size + 1, 0, none⟩) (txo (s)) := hrb.below hB24
  have HJ0 : Hid (BoJ w4 w.heap.size (((cvals ([] : List (CX (cntM 8 L))))).map (fun i => zs.getD i 0)) w4) := Lib.hid ⟨_, bO4, own_none _ _ _, Out.refl _ _ _ _⟩
  have c4 := k0.cell 0
  have c5 := k1.cell 0
  simp only [List.getElem?_cons_zero] at c4 c5
  have HW1 := Lib.hid hw1
  have HW4 := Lib.hid hw4
  have HRB := Lib.hid hrb4
  have HB4 := Lib.hid hB4
  have HZ := Lib.hid hz
  have HCN := Lib.hid hcN
  have HSZ := Lib.hid hsz
  clear hw1 hw4 e4 hrb4 hrb bO bO4 hB1 hbb hB24 hz hcN k0 k1 hB4 hsz hcap
  refine (callsIn_wide (n := 4)).1 ?_
  refine callsIn_of_wp_marks Tryz.func89 rfl trivial ?_ rfl
  simp only [Tryz.ntmps89, List.size_toArray, List.length_cons, List.length_nil, Nat.reduceAdd, Nat.reduceSub, Array.replicate_succ, Array.replicate_zero, List.push_toArray, List.append_toArray, List.nil_append, List.cons_append]
  gi_wp2_with fail
  rw [HW1.out, hcv]
  gi_wp2_with fail
  refine ⟨trivial, ?_⟩
  refine (chunkB_in 3 (some ⟨w.heap.size + 1, 0, none⟩) L cap 8 (by omega) (by omega) w2).mono ?_
  rintro e w4' ⟨rfl, rfl⟩
  rw [HW4.out, hs2]
  gi_wp2
  refine wpIn_rangeFunc_ownG rfl (by omega) (gf := 116) (lb := #[.pointer (some ⟨w.heap.size + 2, 0, none⟩), .pointer (some ⟨w.heap.size + 3, 0, none⟩)]) rfl trivial (enters_of Tryz.func116 (by kernel_rfl) rfl)
    (chunkB_stops 3 (w.heap.size + 2) (w.heap.size + 3) (w.heap.size + 1) 0 cap L 8 (by omega) (by omega) (by omega) (by omega) (some ⟨w.heap.size + 1, 0, none⟩) (fun _ => rfl) w4 (by omega) (by omega) c4 c5)
    KeepsTwo.trans (fun W l o o' _ h hc _ => KeepsTwo.putObj W l o o' h hc) (Below.refl _ _) (fun _ => rfl)
    (fun pre W => BoJ w4 w.heap.size ((cvals pre).map (fun i => zs.getD i 0)) W)
    (fun _ _ _ => False)
    ?own
    (fun _ _ _ _ _ hs _ _ => hs)
    HJ0.out
    (fun x => { tmps := #[.string s, undef, .slice none 0 0, .pointer (some ⟨w.heap.size, 0, none⟩),
      .slice (some ⟨w.heap.size + 1, 8 * x.1, none⟩) (min 8 (L - 8 * x.1)) (min 8 (L - 8 * x.1)), .string s, .slice (some ⟨w.heap.size + 1, 0, none⟩) L cap,
      .func (.func 116) #[] #[.pointer (some ⟨w.heap.size + 2, 0, none⟩), .pointer (some ⟨w.heap.size + 2 + 1, 0, none⟩)],
      .slice (some ⟨w.heap.size + 1, 8 * x.1, none⟩) (min 8 (L - 8 * x.1)) (min 8 (L - 8 * x.1)), undef, undef, undef, undef, undef, undef, undef], defers := [] }) ?assign ?body ?done ?stop
  case own =>
    intro s W W' row h hg hr
    exact boJ_own (Nat.le_refl _) h hg hr
  case assign =>
    intro l x W K hK
    gi_wp2
    exact hK
  case body =>
    rintro lp pre ⟨i, hi'⟩ W ⟨v, hv, hrow, hO⟩ hpn
    have hin : i < zs.length := by rw [← HCN.out]; exact hi'
    have hos := hO.size
    have hmin : min 8 (L - 8 * i) = 8 := by omega
    have hrW : RdB W (some ⟨w.heap.size + 1, 8 * i, none⟩) (((txo s).drop (8 * i)).take 8) := by
      have h0 : RdB W (some ⟨w.heap.size + 1, 0, none⟩) (txo s) := fun hne => by
        obtain ⟨b, off, e, hb, hc⟩ := HRB.out hne
        have eb : b = w.heap.size + 1 := by injection e with e; injection e with e1 _ _; exact e1.symm
        exact ⟨b, off, e, by omega, fun j u hu => (World.cell?_of_block (hO.block b hb (.inr (by omega)))).trans (hc j u hu)⟩
      have := rd_mid h0 (8 * i) 8
      rw [Nat.zero_add] at this
      exact this
    have hpl : (((txo s).drop (8 * i)).take 8).length = 8 := by
      rw [List.length_take, List.length_drop, txo_length, HSZ.out]
      omega
    have hBd : Below W.heap.size W W.drew := (Below.refl _ _).drew
    have hcvs := run_string_p W.drew (some ⟨w.heap.size + 1, 8 * i, none⟩) 8 _ 8 hpl (hrW.below hBd)
    rw [HPC.out i hin] at hcvs
    have hmem : zs.getD i 0 ∈ zs := by
      rw [show zs.getD i 0 = zs[i] by simp [List.getD, List.getElem?_eq_getElem hin]]
      exact List.getElem_mem _
    have hzz := HZ.out _ hmem
    have hnum : numR (numT (zs.getD i 0)) = (zs.getD i 0, 0) := (numT_back _ (by omega) (by omega)).1 hzz
    have hlen : ((cvals pre).map (fun i => zs.getD i 0)).length = pre.length := by rw [List.length_map, cvals_length]
    have hpn' : pre.length < zs.length := by rw [← HCN.out]; exact hpn
    have x0 := hv.cell
    have HV := Lib.hid hv
    have HROW := Lib.hid hrow
    have HO := Lib.hid hO
    have HLEN := Lib.hid hlen
    clear hv hrow hO hrW hpl hlen
    simp only [hmin]
    obtain ⟨z, hzd⟩ : ∃ z, zs.getD i 0 = z := ⟨_, rfl⟩
    rw [hzd] at hcvs hnum
    have HZD := Lib.hid hzd
    clear hzd hmem hzz
    gi_wp2_with fail
    refine wpIn_region_last 6 (fun W' => W'.cell? ⟨w.heap.size, 0, none⟩ = some v) (by kernel_rfl) (by kernel_rfl) x0 (fun hHeld => ?_)
    refine wpAnyL_take 12 (i := 0) (oi := ⟨some 9, _, _, _, _, _⟩) (v := ?_) rfl (by kernel_rfl) (by kernel_rfl) (by kernel_rfl) (by kernel_rfl) (by kernel_rfl) (by kernel_rfl) (by kernel_rfl) (fun _ _ _ h => h) (Or.inl ⟨by rfl, ?_⟩) hHeld ?_
    rotate_left
    focus (intro w hSw; (try dsimp only at hSw); go_simp; try (with_reducible rfl))
    try simp only [Act.put, List.setIfInBounds_toArray, List.set_cons_zero, List.set_cons_succ]
    refine wpAnyL_take 12 (i := 1) (oi := ⟨some 10, _, _, _, _, _⟩) (v := ?_) rfl (by kernel_rfl) (by kernel_rfl) (by kernel_rfl) (by kernel_rfl) (by kernel_rfl) (by kernel_rfl) (by kernel_rfl) (fun _ _ _ h => h) (Or.inl ⟨by rfl, ?_⟩) hHeld ?_
    rotate_left
    focus (intro w hSw; (try dsimp only at hSw); go_simp; try (with_reducible rfl))
    try simp only [Act.put, List.setIfInBounds_toArray, List.set_cons_zero, List.set_cons_succ]
    refine wpAnyL_one (i := 2) (o := ⟨some 11, _, _, _, _, _⟩) (by kernel_rfl) rfl (fun K hK => ?_)
    clear hHeld
    go_simp
    refine hK.out _ _ x0 (fun hHeld => ?_)
    clear hK K
    try simp only [Act.put, List.setIfInBounds_toArray, List.set_cons_zero, List.set_cons_succ]
    refine wpAnyL_one (i := 3) (o := ⟨some 12, _, _, _, _, _⟩) (by kernel_rfl) rfl (fun K hK => ?_)
    clear hHeld
    go_simp
    refine (numberS_ok (numT z) z (by rw [numT_size]; omega) hnum W.drew).mono ?_
    rintro e w5 ⟨rfl, hB5⟩
    have hBW5 : Below W.heap.size W w5 := hBd.trans (hB5.mono hBd.size)
    have x5 := (Boxed.cell (show Boxed w5 w.heap.size 30 v from (hBW5.block _ HV.out.lt).trans HV.out))
    clear hB5
    go_wp2_with fail
    refine hK.out _ _ x5 (fun hHeld => ?_)
    clear hK K
    try simp only [Act.put, List.setIfInBounds_toArray, List.set_cons_zero, List.set_cons_succ]
    refine wpAnyL_one (i := 4) (o := ⟨some 13, _, _, _, _, _⟩) (by kernel_rfl) rfl (fun K hK => ?_)
    clear hHeld
    go_simp
    have hB6 : Below W.heap.size W (w5.alloc (.cells #[.int .i64 z] 3)) := hBW5.alloc hBW5.size _
    have hv6 : Boxed (w5.alloc (.cells #[.int .i64 z] 3)) w.heap.size 30 v := (hB6.block _ HV.out.lt).trans HV.out
    have x6 := hv6.cell
    go_wp2_with fail
    refine hK.out _ _ x6 (fun hHeld => ?_)
    clear hK K
    try simp only [Act.put, List.setIfInBounds_toArray, List.set_cons_zero, List.set_cons_succ]
    refine wpAnyL_one (i := 5) (o := ⟨some 14, _, _, _, _, _⟩) (by kernel_rfl) rfl (fun K hK => ?_)
    clear hHeld
    refine step_append_lies (o := ⟨some 14, _, _, _, _, _⟩) _ (by rfl) _ _ 30 (by rfl) w4.heap.size 3 i0 (.int .i64 0) 1 8 Tryz.underlying30 hi hz0 hz1 hz2 rfl (by omega) v _ _ (by rfl) (own_below HROW.out hB6 (Nat.le_refl _)) ⟨w5.heap.size, 0, none⟩ 1 1 [.int .i64 z] (by rfl) rfl (news_new _ _ _) (by simp [Value.oneCell']) (by have := HLEN.out; omega) (by have := HLEN.out; unfold maxLen; omega) (by have := HLEN.out; omega) (by have := hBW5.size; simp; omega) _ rfl ?_
    intro g7 c7 w7 ho7 hg7 hg7' hl7
    have hv7 : Boxed w7 w.heap.size 30 v := hv6.kept hg7 (hv6.not_row (by decide) (own_below HROW.out hB6 (Nat.le_refl _)))
    have x7 := hv7.cell
    have f7 := hv7.frozen
    have HO7 := Lib.hid ho7
    have HG7 := Lib.hid hg7
    clear ho7 hg7 hg7'
    refine hK.out _ _ x7 (fun hHeld => ?_)
    clear hK K
    try simp only [Act.put, List.setIfInBounds_toArray, List.set_cons_zero, List.set_cons_succ]
    refine wpAnyL_last (i := 6) (o := ⟨none, _, _, _, _, _⟩) (by kernel_rfl) rfl (by kernel_rfl) (fun K hK => ?_)
    clear hHeld
    go_simp
    go_wp2_with fail
    refine hK.out _ _ ?_
    clear hK K
    try simp only [Act.put, List.setIfInBounds_toArray, List.set_cons_zero, List.set_cons_succ]
    refine wpAnyL_done (by kernel_rfl) ?_ _
    gi_wp2_with fail
    have hst := BoJ.step (L := w4.heap.size) (Bn := w.heap.size + 2) (Bm := w.heap.size + 3) (by omega) (by omega) (by omega) (by omega) HV.out HROW.out HO.out hBW5 HO7.out HG7.out
    have e9 : (cvals (pre ++ [⟨i, hi'⟩])).map (fun i => zs.getD i 0) = (cvals pre).map (fun i => zs.getD i 0) ++ [z] := by
      rw [cvals_snoc, List.map_append, ← HZD.out]
      rfl
    simp only [List.length_map] at hst
    refine ⟨hst.1, hst.2.1, ?_⟩
    dsimp only
    rw [e9]
    exact hst.2.2
  case done =>
    rintro D ys W hD hS ⟨v, hv, hrow, hO⟩ hK
    have hc := hv.cell
    have HROW := Lib.hid hrow
    have HS := Lib.hid hS
    clear hrow hS
    gi_wp2
    refine ⟨by simp, .inl ⟨_, _, rfl, run_takeDeferred hK, ?_⟩⟩
    have e : (cvals ys).map (fun i => zs.getD i 0) = zs := by rw [HS.out, HCN.out, range_getD]
    have hr := HROW.out
    rw [e] at hr
    have hBW : Below w.heap.size w W := HB4.out.trans (hO.below (by omega) (Nat.le_refl _))
    exact ⟨_, results_tmp rfl _ _ _, v, rfl, own_base (ownsRow_putObj hr _ hK rfl) (by omega), hBW.trans (belowK_b (w := w) (Nat.le_refl _) W D _ (.deferred none) (by omega) hK rfl rfl)⟩
  case stop =>
    rintro D c pre W _ _ h _
    exact h.elim

end Go.Proofs.YtfeeejigedndcaaGreat
