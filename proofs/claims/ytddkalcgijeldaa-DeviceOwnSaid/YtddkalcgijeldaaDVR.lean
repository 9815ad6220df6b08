/-
  DeviceFlushed returns true. Conditions: its arguments are a machine's.
-/
import Derived.Test.YtddkalcgijeldaaDVQ
namespace Go.Proofs.Ytddkalcgijeldaa
open Go.ChangeShapes Go.WideShapes Go.ChangeAt Go.RowKit

set_option maxRecDepth 100000 in
theorem dinfoA : (Try.prog.info? 36).map (fun i => (i.zero, i.size, i.bytes)) = some (some (.agg #[.bool false, .int .i64 0, .slice none 0 0]), 3, 40) := by kernel_rfl

set_option maxRecDepth 100000 in
/-- Right acts stay behind what keeps their blocks. -/
theorem Ac.Right.stay {n base : Nat} {W W' : World} {r : Ac} (h : r.Right n base W) (hk : ∀ b, base ≤ b → b < W.heap.size → Blk W b 5 (ocl r.p.zs) → W'.heap[b]? = W.heap[b]?) : r.Right n base W' := by
  refine ⟨h.fl, fun hf => ?_⟩
  obtain ⟨q, g, h1, h2, h3, h4, h5, h6, h7⟩ := h.wr hf
  exact ⟨q, g, h1, h2, h3, h4, h5, h6, (hk g h6 h7.lt h7).trans h7⟩
set_option maxRecDepth 100000 in
theorem Ac.Right.below {n base : Nat} {W W' : World} {r : Ac} (h : r.Right n base W) (hb : Below W.heap.size W W') : r.Right n base W' := h.stay fun b _ h1 _ => hb.block b h1
set_option maxRecDepth 100000 in
theorem Ac.Right.base {n base base' : Nat} {W : World} {r : Ac} (h : r.Right n base W) (hb : base' ≤ base) : r.Right n base' W := by
  refine ⟨h.fl, fun hf => ?_⟩
  obtain ⟨q, g, h1, h2, h3, h4, h5, h6, h7⟩ := h.wr hf
  exact ⟨q, g, h1, h2, h3, h4, h5, by omega, h7⟩
set_option maxRecDepth 100000 in
theorem Ac.Right.fine {n base : Nat} {W : World} {r : Ac} (h : r.Right n base W) : actE n r.fl r.at_ r.p.zs.length = 0 := by
  unfold actE
  split
  · rfl
  · rename_i hf
    obtain ⟨q, g, h1, h2, _, _, h5, _, _⟩ := h.wr (by simpa using hf)
    unfold wrtE
    rw [if_pos (by omega), if_pos h5]
set_option maxRecDepth 100000 in
theorem Ac.Right.reads {n base : Nat} {W : World} {r : Ac} (h : r.Right n base W) : Rd W r.p.A (ocl r.p.zs) ∧ r.p.zs.length ≤ 140737488351232 := by
  rcases hf : r.fl with _ | _
  · obtain ⟨q, g, _, _, h3, _, h5, _, h7⟩ := h.wr hf
    refine ⟨fun _ => ⟨g, 0, h3, h7.lt, fun j u hu => ?_⟩, by omega⟩
    rw [Nat.zero_add]
    exact (h7.cell j).trans hu
  · have := h.fl hf
    subst this
    exact ⟨Rd.nil _ _, by simp⟩
set_option maxRecDepth 100000 in
theorem rights_fine {n base : Nat} {W : World} {l : List Ac} (h : ∀ r ∈ l, r.Right n base W) : actsE n l = 0 := actsE_none fun x hx => (h x hx).fine

set_option maxRecDepth 100000 in
theorem st_wait {S : DS} {l : List (Bool × Int × List Int)} (n : Int) (zs : List Int) : (doL S (l ++ [(true, n, zs)])).waits = [] := by rw [doL_snoc]; rfl
set_option maxRecDepth 100000 in
theorem conv_at (W : World) (A : Option Addr) (c : Nat) (zs : List Int) (hz : zs.length = 64) (h : Rd W A (ocl zs)) : (convert 34 9 (.slice A 64 c)).run Try.prog W = .ok (.string (strOfNums zs)) W := by
  have := run_string_rd (P := Try.prog) W 34 5 9 Try.underlying34 Try.underlying5 Try.underlying9 A zs c h
  rw [hz] at this
  exact this
set_option maxRecDepth 100000 in
theorem readS_length {S : DS} (h : S.ok) {n : Nat} (hn : n < S.secs.length) : (readS S n).length = 64 := by
  have hok := (doA_ok h (a := (true, 0, [])) (.inl rfl)).1
  have hl : n < (applyW S.secs S.waits).length := by rw [applyW_length]; exact hn
  unfold readS
  rw [List.getElem?_eq_getElem hl]
  exact hok.2.2.1 _ (List.getElem_mem hl)
set_option maxRecDepth 100000 in
theorem kept_nil {α : Type} (bs : List Bool) (k : Nat) : keptL bs k ([] : List α) = [] := rfl
set_option maxRecDepth 100000 in
theorem halt_here {p : Prop} (h : Shut p) : p := h
set_option maxHeartbeats 2000000 in
set_option maxRecDepth 100000 in
theorem flushed_walk (n : Int) (A : Option Addr) (l : List Ac) (c : Nat) (hl : l.length * 40 ≤ 140737488351232) (B : Option Addr) (bs : List Bool) (d : Nat) (w : World) (hr : Rd w A (acCells l)) (hc : ∀ x ∈ l, x.p.Came w) (hb : Rd w B (bcl bs)) :
    Calls Try.prog 5 #[.int .i64 n, .slice A l.length c, .slice B bs.length d] w fun e w' => e = .returned (.bool true) ∧ Below w.heap.size w w' := by
  obtain ⟨i0, hi, hz0, hz1, hz2⟩ := dinfo_parts dinfoA
  have HR := Lib.hid hr
  have HC := Lib.hid hc
  have HB := Lib.hid hb
  clear hr hc hb
  go_enter Try.func5, Try.ntmps5
  go_wp2_with (first
    | (go_at_call 10; refine (alive_any w).mono ?_; rintro e w1 ⟨rfl, hB1⟩)
    | (go_at_call 11; refine (small_any n w1).mono ?_; rintro e w2 ⟨k, hk2, hk15, rfl, rfl⟩)
    | (go_at_call 12; refine (new_ok k (by omega) (by omega) w1).mono ?_; rintro e w2 ⟨D, rfl, hst, hD, hB2⟩; have HST := Lib.hid hst; have HD := Lib.hid hD; clear hst hD))
  obtain ⟨wX, hwX⟩ : ∃ wX, w2.alloc (.cells #[.slice D.A D.ps.length D.c, .slice D.B D.ws.length D.d] 29) = wX := ⟨_, rfl⟩
  have kX : Blk wX w2.heap.size 29 [.slice D.A D.ps.length D.c, .slice D.B D.ws.length D.d] := hwX ▸ Blk.new w2 _ _
  have hBX : Below w.heap.size w wX := hwX ▸ (hB1.trans (hB2.mono hB1.size)).alloc (by have := hB1.size; have := hB2.size; omega) _
  have hDX : Hid (D.Lies 0 wX) := hwX ▸ (HD.out.below ((Below.refl _ w2).alloc (Nat.le_refl _) _)).zero
  have hsX : wX.heap.size = w2.heap.size + 1 := by rw [← hwX]; simp
  rw [hwX]
  have HX := Lib.hid kX
  have HBX := Lib.hid hBX
  have hbs := hBX.size
  have hXw : w.heap.size ≤ w2.heap.size := by have := hB1.size; have := hB2.size; omega
  obtain ⟨X, hX⟩ : ∃ X, w2.heap.size = X := ⟨_, rfl⟩
  rw [hX] at HX hsX hXw ⊢
  clear kX hBX hwX hB1 hB2 HD hX
  go_loopw [9, 10] (fun v i wr => ∃ (rs : List Ac) (Y : Option Addr) (y : Nat), rs.length ≤ l.length ∧ i = .int .i64 rs.length ∧ v = .slice Y rs.length y ∧ Hid (wr.ownsRow wX.heap.size 36 3 (.slice Y rs.length y) rs.length (acCells rs)) ∧ Hid (∀ r ∈ rs, r.Right k wX.heap.size wr) ∧ Below wX.heap.size wX wr) (fun _ i _ => l.length - (intOf i).toNat)
  case atStart =>
    exact ⟨[], none, 0, Nat.zero_le _, rfl, rfl, ⟨rfl, .inl ⟨rfl, rfl⟩⟩, fun r hr => by simp at hr, Below.refl _ _⟩
  case round =>
    obtain ⟨rs, Y, y, hk, rfl, rfl, HO, HRS, hB⟩ := hrel
    have hBw : Below w.heap.size w wr := HBX.out.trans (hB.mono hbs)
    have hsz := hB.size
    by_cases hlt : rs.length < l.length
    · obtain ⟨x, hx⟩ : ∃ x, l[rs.length]? = some x := ⟨_, List.getElem?_eq_getElem hlt⟩
      obtain ⟨b, off, hA, hb, hc0, hc1, hc2⟩ := (Rd.below HR.out hBw).ac hx
      have hcx := HC.out x (List.mem_of_getElem? hx)
      have HRT := Lib.hid (right_any x k hk2 hk15 wr ⟨hcx.reads.below hBw, hcx.len, hcx.octs, hcx.cap, hcx.nil⟩)
      subst hA
      clear hx hcx
      have hm : (rs.length + 1) * 40 ≤ 140737488355328 := by omega
      have h63 : rs.length + 1 ≤ maxLen := by unfold maxLen; omega
      clear hl
      go_wp2_with fail
      refine HRT.out.mono ?_
      rintro e w4 ⟨r, rfl, -, hrr, hB4⟩
      have HRR := Lib.hid hrr
      have hs4 := hB4.size
      have HO4 := Lib.hid (own_stay HO.out (fun b hb => hB4.block b (HO.out.lt b hb).2))
      have hB04 : Below wX.heap.size wX w4 := hB.trans (hB4.mono hsz)
      clear hrr HO
      go_wp2_with (at_builtin; refine halt_here ?_)
      unfold Shut
      refine wpList_append_own _ (o := ⟨some 42, _, _, _, _, _⟩) rfl _ _ 22 rfl wX.heap.size 36 i0 (.agg #[.bool false, .int .i64 0, .slice none 0 0]) 3 40 Try.underlying22 hi hz0 hz1 hz2 rfl (by decide) (.slice Y rs.length y) rs.length _ rfl (own_stay HO4.out (fun b hb => Below.heap_alloc _ _ b (HO4.out.lt b hb).2)) ⟨w4.heap.size, 0, none⟩ 1 1 [.bool r.fl, .int .i64 r.at_, r.p.val] rfl rfl (news_new _ _ _) (by simp [Value.oneCell']) h63 hm (by simp; omega) ?_
      intro v5 w5 ho5 hg5 hg5'
      obtain ⟨g3, c3, rfl, hb3, hl3⟩ := ho5.form (Nat.succ_pos _)
      have hk5 : ∀ b, b < w4.heap.size → (Value.slice Y rs.length y).ownBlock ≠ some b → w5.heap[b]? = w4.heap[b]? := fun b hb hne => (hg5.block b (by simp; omega) (fun e => hne e.symm)).trans (Below.heap_alloc _ _ b hb)
      have hB5 : Below wX.heap.size wX w5 := (hB04.alloc (by omega) _).grown hg5 (by simp; omega) (fun j e => (HO4.out.lt j e).1)
      have HO5 := Lib.hid ho5
      have HK5 := Lib.hid hk5
      clear ho5 hk5 hg5
      go_wp2
      go_roundw
      case rel =>
        have hst : ∀ q : Ac, q.Right k wX.heap.size w4 → q.Right k wX.heap.size w5 := fun q hq => hq.stay fun b h1 h2 hbk => HK5.out b h2 (blk_apart hbk HO4.out (by decide))
        refine ⟨rs ++ [r], some ⟨g3, 0, none⟩, c3, by simp; omega, by simp, by simp, ?_, ?_, hB5⟩
        · have := HO5.out
          rw [acCells_snoc]
          refine Lib.hid ?_
          simpa using this
        · intro q hq
          simp at hq
          rcases hq with hq | rfl
          · exact hst q ((HRS.out q hq).below hB4)
          · exact hst _ (HRR.out.base hsz)
      case measure => simp [intOf]; omega
    · have hle : rs.length = l.length := by omega
      have kX := HX.out
      have x0 := kX.cell 0
      have x1 := kX.cell 1
      simp only [List.getElem?_cons_zero, List.getElem?_cons_succ] at x0 x1
      have hS : ∀ W', Below wX.heap.size wX W' → W'.cell? ⟨X, 0, none⟩ = some (.slice D.A D.ps.length D.c) ∧ W'.cell? ⟨X, 1, none⟩ = some (.slice D.B D.ws.length D.d) := fun W' h => ⟨(h.cell (p := ⟨X, 0, none⟩) (by show X < _; omega)).trans x0, (h.cell (p := ⟨X, 1, none⟩) (by show X < _; omega)).trans x1⟩
      have HSS := Lib.hid hS
      obtain ⟨hws, hps⟩ := st_ws HST.out
      have hws0 : D.ws.length = 0 := by simpa using hws
      have hok : D.st.ok := by rw [HST.out]; exact new_ok_st k hk2 (by omega)
      have hwsm : D.ws.length ≤ 4398046511104 := by omega
      have HOK := Lib.hid hok
      have HW0 := Lib.hid hws0
      have HPS : Hid (D.ps.length = k) := by
        show _ = _
        simpa using hps
      have hrl : (rs.length + 1) * 40 ≤ 140737488355328 := by omega
      have hrl2 : rs.length + 1 ≤ 4398046511104 := by omega
      have h63 : rs.length + 1 ≤ maxLen := by unfold maxLen; omega
      clear kX x0 x1 hS hws hps hws0 hok hle hk hl
      go_wp2_with fail
      refine wp_region_noPanic ?_
      refine wp_region_last 9 (fun W' => W'.cell? ⟨X, 0, none⟩ = some (.slice D.A D.ps.length D.c) ∧ W'.cell? ⟨X, 1, none⟩ = some (.slice D.B D.ws.length D.d)) (by kernel_rfl) (HSS.out _ hB.drew) (fun hHeld => ?_)
      refine wpAnyL_take 12 (i := 0) (oi := ⟨some 44, _, _, _, _, _⟩) (v := ?_) rfl (by kernel_rfl) (by kernel_rfl) (by kernel_rfl) (by kernel_rfl) (by kernel_rfl) (by kernel_rfl) (by kernel_rfl) (fun _ _ _ h => h) (Or.inl ⟨by rfl, ?_⟩) hHeld ?_
      rotate_left
      focus (intro w hSw; (try dsimp only at hSw); go_simp; try (with_reducible rfl))
      try simp only [Act.put, List.setIfInBounds_toArray, List.set_cons_zero, List.set_cons_succ]
      refine wpAnyL_take 12 (i := 1) (oi := ⟨some 45, _, _, _, _, _⟩) (v := ?_) rfl (by kernel_rfl) (by kernel_rfl) (by kernel_rfl) (by kernel_rfl) (by kernel_rfl) (by kernel_rfl) (by kernel_rfl) (fun _ _ _ h => h) (Or.inl ⟨by rfl, ?_⟩) hHeld ?_
      rotate_left
      focus (intro w hSw; (try dsimp only at hSw); go_simp; try (with_reducible rfl))
      try simp only [Act.put, List.setIfInBounds_toArray, List.set_cons_zero, List.set_cons_succ]
      refine wpAnyL_take 12 (i := 2) (oi := ⟨some 46, _, _, _, _, _⟩) (v := ?_) rfl (by kernel_rfl) (by kernel_rfl) (by kernel_rfl) (by kernel_rfl) (by kernel_rfl) (by kernel_rfl) (by kernel_rfl) (fun _ _ _ h => h) (Or.inl ⟨by rfl, ?_⟩) hHeld ?_
      rotate_left
      focus (intro w hSw; (try dsimp only at hSw); go_simp; try (with_reducible rfl))
      try simp only [Act.put, List.setIfInBounds_toArray, List.set_cons_zero, List.set_cons_succ]
      refine wpAnyL_one (i := 3) (o := ⟨some 47, _, _, _, _, _⟩) (by kernel_rfl) rfl (fun K hK => ?_)
      clear hHeld
      go_simp
      go_wp2_with fail
      refine hK.out _ _ (HSS.out _ (by (repeat (first | with_reducible exact Below.refl _ _ | with_reducible assumption | with_reducible refine Below.drew ?_ | with_reducible refine Below.alloc ?_ ?_ _ | (focus omega) | (focus (simp; done)) | (focus (simp; omega)))))) (fun hHeld => ?_)
      clear hK K
      try simp only [Act.put, List.setIfInBounds_toArray, List.set_cons_zero, List.set_cons_succ]
      refine wpAnyL_one (i := 4) (o := ⟨some 48, _, _, _, _, _⟩) (by kernel_rfl) rfl (fun K hK => ?_)
      clear hHeld
      refine step_append_lies (o := ⟨some 48, _, _, _, _, _⟩) _ (by rfl) _ _ _ (by rfl) wX.heap.size 36 i0 (.agg #[.bool false, .int .i64 0, .slice none 0 0]) 3 40 Try.underlying22 hi hz0 hz1 hz2 rfl (by omega) (.slice Y rs.length y) rs.length _ (by rfl) (own_stay HO.out (fun b hb => Below.heap_alloc _ _ b (HO.out.lt b hb).2)) ⟨wr.heap.size, 0, none⟩ 1 1 [.bool true, .int .i64 0, .slice none 0 0] (by rfl) rfl (news_new wr.drew _ _) (by simp [Value.oneCell']) (by omega) h63 hrl (by simp; omega) _ rfl ?_
      intro g3 c3 w3 ho3 hg3 hg3' hl3
      have hB3 : Below wX.heap.size wX w3 := (hB.drew.alloc (by simp; omega) _).grown hg3 (by simp; omega) (fun j e => (HO.out.lt j e).1)
      have hk3 : ∀ b, b < wr.heap.size → (Value.slice Y rs.length y).ownBlock ≠ some b → w3.heap[b]? = wr.heap[b]? := fun b hb hne => (hg3.block b (by simp; omega) (fun e => hne e.symm)).trans (Below.heap_alloc wr.drew _ b hb)
      have hrs3 : ∀ q ∈ rs ++ [(⟨true, 0, ⟨none, [], 0⟩⟩ : Ac)], q.Right k wX.heap.size w3 := fun q hq => (by
      simp at hq
      rcases hq with hq | rfl
      · exact (HRS.out q hq).stay fun b h1 h2 hbk => hk3 b h2 (blk_apart hbk HO.out (by decide))
      · exact ⟨fun _ => rfl, fun h => (by cases h)⟩)
      have hrd3 : Rd w3 (some ⟨g3, 0, none⟩) (acCells (rs ++ [(⟨true, 0, ⟨none, [], 0⟩⟩ : Ac)])) := (by rw [acCells_snoc]; exact (RdF.of_own ho3).1)
      have hdo := do_ok D (Dv.fits HOK.out hwsm) HOK.out (some ⟨g3, 0, none⟩) (rs ++ [(⟨true, 0, ⟨none, [], 0⟩⟩ : Ac)]) c3 (by rw [HPS.out]; exact rights_fine hrs3) (by rw [HW0.out, List.length_append, List.length_singleton]; omega) w3 (hDX.out.below hB3) ⟨hrd3, fun q hq => (hrs3 q hq).reads.1, fun q hq => (hrs3 q hq).reads.2, by rw [List.length_append, List.length_singleton]; omega⟩
      rw [List.length_append, List.length_singleton] at hdo
      have HDO := Lib.hid hdo
      have hs3 := hB3.size
      clear ho3 hg3 hk3 hrs3 hrd3 hdo
      refine hK.out _ _ (HSS.out _ hB3) (fun hHeld => ?_)
      clear hK K
      try simp only [Act.put, List.setIfInBounds_toArray, List.set_cons_zero, List.set_cons_succ]
      refine wpAnyL_one (i := 5) (o := ⟨some 49, _, _, _, _, _⟩) (by kernel_rfl) rfl (fun K hK => ?_)
      clear hHeld
      go_simp
      go_at_call 14
      refine HDO.out.mono ?_
      rintro e w6 ⟨E, rfl, hstE, hE, hB6⟩
      have HSE := Lib.hid hstE
      have HE := Lib.hid hE
      have hB06 : Below wX.heap.size wX w6 := hB3.trans (hB6.mono hs3)
      have hs6 := hB6.size
      have kX6 := HX.out.below hB06 (by omega)
      have f0 := kX6.frozen 0
      have f1 := kX6.frozen 1
      have y0 := kX6.cell 0
      have y1 := kX6.cell 1
      simp only [List.getElem?_cons_zero, List.getElem?_cons_succ] at y0 y1
      have KX6 := Lib.hid kX6
      clear hstE hE hB6 kX6 HDO
      go_wp2_with fail
      refine hK.out _ _ (HSS.out _ hB06) (fun hHeld => ?_)
      clear hK K
      try simp only [Act.put, List.setIfInBounds_toArray, List.set_cons_zero, List.set_cons_succ]
      refine wpAnyL_take 12 (i := 6) (oi := ⟨some 43, _, _, _, _, _⟩) (v := ?_) rfl (by kernel_rfl) (by kernel_rfl) (by kernel_rfl) (by kernel_rfl) (by kernel_rfl) (by kernel_rfl) (by kernel_rfl) (fun _ _ _ h => h) (Or.inl ⟨by rfl, ?_⟩) hHeld ?_
      rotate_left
      focus (intro w hSw; (try dsimp only at hSw); go_simp; try (with_reducible rfl))
      try simp only [Act.put, List.setIfInBounds_toArray, List.set_cons_zero, List.set_cons_succ]
      refine wpAnyL_take 12 (i := 7) (oi := ⟨some 50, _, _, _, _, _⟩) (v := ?_) rfl (by kernel_rfl) (by kernel_rfl) (by kernel_rfl) (by kernel_rfl) (by kernel_rfl) (by kernel_rfl) (by kernel_rfl) (fun _ _ _ h => h) (Or.inl ⟨by rfl, ?_⟩) hHeld ?_
      rotate_left
      focus (intro w hSw; (try dsimp only at hSw); go_simp; try (with_reducible rfl))
      try simp only [Act.put, List.setIfInBounds_toArray, List.set_cons_zero, List.set_cons_succ]
      refine wpAnyL_takeW (i := 8) (oi := ⟨some 51, _, _, _, _, _⟩) (v := ?_) rfl (by kernel_rfl) (by kernel_rfl) (by kernel_rfl) (by kernel_rfl) (fun _ _ _ h => h) (Or.inl ⟨by rfl, ?_⟩) (.inr hHeld) ?_
      rotate_left
      focus (intro w hSw; (try dsimp only at hSw); go_simp; try (with_reducible rfl))
      try simp only [Act.put, List.setIfInBounds_toArray, List.set_cons_zero, List.set_cons_succ]
      refine wpAnyL_last (i := 9) (o := ⟨none, _, _, _, _, _⟩) (by kernel_rfl) rfl (by kernel_rfl) (fun K hK => ?_)
      clear hHeld
      go_simp
      go_wp2_with fail
      refine hK.out _ _ ?_
      clear hK K
      try simp only [Act.put, List.setIfInBounds_toArray, List.set_cons_zero, List.set_cons_succ]
      refine wpAnyL_takeW (i := 10) (oi := ⟨some 11, _, _, _, _, _⟩) (v := ?_) rfl (by kernel_rfl) (by kernel_rfl) (by kernel_rfl) (by kernel_rfl) (fun _ _ _ h => h) (Or.inl ⟨by rfl, ?_⟩) (.inl (by kernel_rfl)) ?_
      rotate_left
      focus (intro w hSw; (try dsimp only at hSw); go_simp; try (with_reducible rfl))
      try simp only [Act.put, List.setIfInBounds_toArray, List.set_cons_zero, List.set_cons_succ]
      refine wpAnyL_done (by kernel_rfl) ?_ _
      refine NoPanic.normal ?_
      obtain ⟨hokE, hslE⟩ := doL_ok HOK.out (l := (rs ++ [(⟨true, 0, ⟨none, [], 0⟩⟩ : Ac)]).map Ac.st) (fun a ha => by
        obtain ⟨q, hq, rfl⟩ := List.mem_map.1 ha
        simp at hq
        rcases hq with hq | rfl
        · have := act_fine (HRS.out q hq).fine
          rw [← HPS.out] at this
          simpa [Dv.st] using this
        · exact .inl rfl)
      rw [← HSE.out] at hokE hslE
      have hwE : E.st.waits = [] := by
        rw [HSE.out, List.map_append]
        exact st_wait _ _
      have hwE0 : E.ws.length = 0 := by
        have := congrArg List.length hwE
        simpa [Dv.st] using this
      have hkE : E.ps.length = k := by
        have h1 : E.ps.length = D.ps.length := by simpa [Dv.st] using hslE
        rw [h1, HPS.out]
      have HOKE := Lib.hid hokE
      have HWE := Lib.hid hwE
      have HWE0 := Lib.hid hwE0
      have HKE := Lib.hid hkE
      obtain ⟨w7, hw7⟩ : ∃ w7, (w6.setCell ⟨X, 0, none⟩ (.slice E.A E.ps.length E.c)).setCell ⟨X, 1, none⟩ (.slice E.B E.ws.length E.d) = w7 := ⟨_, rfl⟩
      have k7 : Blk w7 X 29 [.slice E.A E.ps.length E.c, .slice E.B E.ws.length E.d] := by rw [← hw7]; exact (KX6.out.set 0 _).set 1 _
      have hE7 : E.Lies 0 w7 := by rw [← hw7]; exact ((HE.out.set (by omega) 0 _).set (by omega) 1 _).zero
      have hB07 : Below w.heap.size w w7 := by rw [← hw7]; exact ((HBX.out.trans (hB06.mono hbs)).setCell (p := ⟨X, 0, none⟩) (by show w.heap.size ≤ X; omega) _).setCell (p := ⟨X, 1, none⟩) (by show w.heap.size ≤ X; omega) _
      rw [hw7]
      have z0 := k7.cell 0
      have z1 := k7.cell 1
      simp only [List.getElem?_cons_zero, List.getElem?_cons_succ] at z0 z1
      have K7 := Lib.hid k7
      have HE7 := Lib.hid hE7
      have HB7 := Lib.hid hB07
      have hs7 : X < w7.heap.size := k7.lt
      have hsw7 := hB07.size
      have HCR := Lib.hid (crash_ok E (Dv.fits hokE (by omega)) hokE B bs d w7 hE7 (HB.out.below hB07))
      clear hokE hslE hwE hwE0 hkE k7 hE7 hB07 hw7 y0 y1 f0 f1 KX6 hB06 hB3 hB hBw HSS HO HRS HX
      go_wp2_with fail
      refine HCR.out.mono ?_
      rintro e w8 ⟨F, rfl, hstF, hF, hB8⟩
      have HSF : Hid (F.st = E.st) := by
        show _ = _
        rw [hstF, HWE.out]
        show _ = DS.mk (E.st.secs) E.st.waits
        rw [HWE.out]
        rfl
      have HF := Lib.hid hF
      have hs8 := hB8.size
      have k8 := K7.out.below hB8 hs7
      have K8 := Lib.hid k8
      have HB08 := Lib.hid (HB7.out.trans (hB8.mono hsw7))
      have HE8 := Lib.hid (HE7.out.below hB8)
      clear hstF hF k8 z0 z1 hB8
      go_wp2
      obtain ⟨w9, hw9⟩ : ∃ w9, w8.alloc (.cells #[.slice F.A F.ps.length F.c, .slice F.B F.ws.length F.d] 29) = w9 := ⟨_, rfl⟩
      have hB89 : Below w8.heap.size w8 w9 := hw9 ▸ (Below.refl _ w8).alloc (Nat.le_refl _) _
      have kY : Blk w9 w8.heap.size 29 [.slice F.A F.ps.length F.c, .slice F.B F.ws.length F.d] := hw9 ▸ Blk.new w8 _ _
      rw [hw9]
      have KY := Lib.hid kY
      have K9 := Lib.hid (K8.out.below hB89 K8.out.lt)
      have HE9 := Lib.hid (HE8.out.below hB89)
      have HF9 := Lib.hid ((HF.out.below hB89).zero)
      have hB09 : Below w.heap.size w w9 := HB08.out.trans (hB89.mono HB08.out.size)
      have HB09 := Lib.hid hB09
      have hs9 := hB09.size
      have hltY := kY.lt
      have hltX : X < w9.heap.size := K9.out.lt
      have HOKF : Hid F.st.ok := by
        show F.st.ok
        rw [HSF.out]
        exact HOKE.out
      have HKF : Hid (F.ps.length = k) := by
        have := congrArg (fun s : DS => s.secs.length) HSF.out
        have h2 : F.ps.length = E.ps.length := by simpa [Dv.st] using this
        show _ = _
        rw [h2, HKE.out]
      have HWF : Hid (F.ws.length ≤ 4398046511104) := by
        have := congrArg (fun s : DS => s.waits.length) HSF.out
        have h2 : F.ws.length = E.ws.length := by simpa [Dv.st] using this
        show _ ≤ _
        rw [h2, HWE0.out]
        omega
      have HWE1 : Hid (E.ws.length ≤ 4398046511104) := by
        show _ ≤ _
        rw [HWE0.out]
        omega
      clear hB89 kY hw9 K8 HE8 HF HB08 hB09 K7 HE7 HB7 HBX
      go_loopw [14] (fun i wr => ∃ j : Nat, j ≤ k ∧ i = .int .i64 j ∧ Below w9.heap.size w9 wr) (fun i _ => k - (intOf i).toNat)
      case atStart =>
        exact ⟨0, Nat.zero_le _, rfl, Below.refl _ _⟩
      case round =>
        obtain ⟨j, hj, rfl, hB⟩ := hrel
        have hsz := hB.size
        by_cases hlt : j < k
        · have kX := K9.out.below hB hltX
          have kY := KY.out.below hB hltY
          have x0 := kX.cell 0
          have x1 := kX.cell 1
          have y0 := kY.cell 0
          have y1 := kY.cell 1
          simp only [List.getElem?_cons_zero, List.getElem?_cons_succ] at x0 x1 y0 y1
          have HR1 := Lib.hid (read_ok E HOKE.out HWE1.out j (by rw [HKE.out]; exact hlt) wr (HE9.out.below hB))
          have hjE : j < E.st.secs.length := by show j < (E.ps.map (·.zs)).length; rw [List.length_map, HKE.out]; exact hlt
          have hzl := readS_length HOKE.out hjE
          obtain ⟨zz, hzz⟩ : ∃ zz, readS E.st j = zz := ⟨_, rfl⟩
          rw [hzz] at HR1 hzl
          have HZZ := Lib.hid hzz
          have hji : (j : Int) < (k : Int) := by omega
          clear kX kY hzz hjE
          go_wp2_with fail
          refine HR1.out.mono ?_
          rintro e u1 ⟨g1, c1, rfl, hown1, hBu1⟩
          have hB1 : Below w9.heap.size w9 u1 := hB.trans (hBu1.mono hsz)
          have hsz1 := hB1.size
          have y0 := ((KY.out.below hB1 hltY).cell 0)
          have y1 := ((KY.out.below hB1 hltY).cell 1)
          simp only [List.getElem?_cons_zero, List.getElem?_cons_succ] at y0 y1
          have HO1 := Lib.hid hown1
          have HR2 := Lib.hid (read_ok F HOKF.out HWF.out j (by rw [HKF.out]; exact hlt) u1 (HF9.out.below hB1))
          rw [HSF.out, HZZ.out] at HR2
          clear hown1 x0 x1
          go_wp2_with fail
          refine HR2.out.mono ?_
          rintro e u2 ⟨g2, c2, rfl, hown2, hBu2⟩
          have hB2 : Below w9.heap.size w9 u2 := hB1.trans (hBu2.mono hsz1)
          have hcv1 := conv_at u2 (some ⟨g1, 0, none⟩) c1 zz hzl ((RdF.of_own HO1.out).1.below hBu2)
          have hcv2 := conv_at u2 (some ⟨g2, 0, none⟩) c2 zz hzl (RdF.of_own hown2).1
          generalize strOfNums zz = ss at *
          clear hown2 y0 y1 hzl hBu1 hBu2
          go_wp2_with (refine (num_any _ _).mono ?_; rintro e w' ⟨rfl, rfl⟩)
          go_roundw
          case rel => exact ⟨j + 1, by omega, by go_num, hB2⟩
          case measure => simp [intOf]; omega
        · have hjk : ¬ ((j : Int) < (k : Int)) := by omega
          go_wp2_with (refine (num_any _ _).mono ?_; rintro e w' ⟨rfl, rfl⟩)
          go_ret
          exact ⟨rfl, HB09.out.trans (hB.mono hs9)⟩

end Go.Proofs.Ytddkalcgijeldaa
