/-
  clone answers a device in memory of its own. Conditions: the device may be, and its lengths are a machine's.
-/
import Derived.Test.YtfeeejigedndcaaGreatMDVC
import Derived.Test.YtfeeejigedndcaaGreatMRL
namespace Go.Proofs.YtfeeejigedndcaaGreat
open Go.ChangeShapes Go.WideShapes Go.ChangeAt Go.RowKit
set_option maxRecDepth 100000

theorem dinfoW : (Tryz.prog.info? 87).map (fun i => (i.zero, i.size, i.bytes)) = some (some (.agg #[.int .i64 0, .slice none 0 0]), 2, 32) := by kernel_rfl

/-- Cells of two blocks, and what lay, stay. -/
theorem heldV3 {W W' : World} {g g' n : Nat} {a b c : Value} (hg : g < n) (hg' : g' < n) (h0 : W.cell? ⟨g, 1, none⟩ = some a) (h1 : W.cell? ⟨g', 0, none⟩ = some b) (h2 : W.cell? ⟨g', 1, none⟩ = some c) (hB : Below n W W') :
    W'.cell? ⟨g, 1, none⟩ = some a ∧ W'.cell? ⟨g', 0, none⟩ = some b ∧ W'.cell? ⟨g', 1, none⟩ = some c :=
  ⟨(hB.cell (p := ⟨g, 1, none⟩) hg).trans h0, (hB.cell (p := ⟨g', 0, none⟩) hg').trans h1, (hB.cell (p := ⟨g', 1, none⟩) hg').trans h2⟩
/-- The cells of a block that is new. -/
theorem news_new (W : World) (vs : List Value) (t : TypeId) : ∀ j u, vs[j]? = some u → (W.alloc (.cells vs.toArray t)).cell? (Addr.add ⟨W.heap.size, 0, none⟩ j) = some u := fun j u hu => by
  rw [add_plain, Nat.zero_add]
  exact ((Blk.new W vs t).cell j).trans hu

/-- Rows of two types lie in two blocks. -/
theorem own_apart {W : World} {base base' size size' k k' : Nat} {e e' : TypeId} {v v' : Value} {xs xs' : List Value} (h : W.ownsRow base e size v k xs) (h' : W.ownsRow base' e' size' v' k' xs') (he : e ≠ e') : ∀ b, v.ownBlock = some b → v'.ownBlock ≠ some b := fun b hb hb' => by
  rcases h.2 with ⟨rfl, _⟩ | ⟨g, cap, cur, rfl, _, hg, _⟩
  · simp [Value.ownBlock] at hb
  · rcases h'.2 with ⟨rfl, _⟩ | ⟨g', cap', cur', rfl, _, hg', _⟩
    · simp [Value.ownBlock] at hb'
    · simp only [Value.ownBlock, Option.some.injEq] at hb hb'
      subst hb
      subst hb'
      rw [hg] at hg'
      injection hg' with hg'
      injection hg' with _ h2 _
      exact he h2

/-- A device of the call's own: the list of sectors from base on, each sector in a block from lo to below hi, what waits from hi on. -/
structure Dv.Own (base lo hi : Nat) (W : World) (D : Dv) : Prop where
  arr : ∃ G, D.A = some ⟨G, 0, none⟩ ∧ G < lo ∧ W.ownsRow base 46 1 (.slice D.A D.ps.length D.c) D.ps.length (ptCells D.ps)
  base : base ≤ lo
  lohi : lo ≤ hi
  secs : Secs lo hi W D.ps
  row : W.ownsRow hi 87 2 (.slice D.B D.ws.length D.d) D.ws.length (wtCells D.ws)
  wait : ∀ x ∈ D.ws, W.ownsRow hi 5 1 x.p.val x.p.zs.length (ocl x.p.zs)
  room : hi ≤ W.heap.size
theorem Dv.Own.lies {base lo hi : Nat} {W : World} {D : Dv} (h : D.Own base lo hi W) : D.Lies base W := by
  obtain ⟨G, hA, hG, ho⟩ := h.arr
  exact ⟨RdF.of_own ho, h.secs.lies h.base, (RdF.of_own h.row).mono (Nat.le_trans h.base h.lohi), fun x hx => (RdF.of_own (h.wait x hx)).mono (Nat.le_trans h.base h.lohi)⟩

set_option maxHeartbeats 2000000 in
set_option maxRecDepth 100000 in
theorem clone_dev (D : Dv) (hok : D.st.ok) (hf : D.Fits) (w : World) (hD : D.Lies 0 w) :
    Calls Tryz.prog 35 #[D.val] w fun e w' => ∃ (E : Dv) (lo hi : Nat), e = .returned E.val ∧ E.st = D.st ∧ E.Own w.heap.size lo hi w' ∧ Below w.heap.size w w' := by
  obtain ⟨A, ps, c, B, ws, d⟩ := D
  obtain ⟨hn0, hn1, h64, hw⟩ := (Dv.ok_iff _).1 hok
  obtain ⟨_, hm, _, _⟩ := hf
  obtain ⟨hr, hsec, hs, hwait⟩ := hD
  dsimp only at hn0 hn1 h64 hw hm hr hsec hs hwait
  have hw64 : ∀ x ∈ ws, x.p.zs.length = 64 := fun x hx => by
    have := hw x hx
    unfold wrtE at this
    split at this
    · split at this
      · assumption
      · omega
    · omega
  have HR := Lib.hid hr.1
  have HS := Lib.hid hs.1
  have HSEC := Lib.hid (fun p hp => (hsec p hp).1)
  have HWT := Lib.hid (fun p hp => (hwait p hp).1)
  have H64 := Lib.hid h64
  have HW64 := Lib.hid hw64
  clear hok hr hsec hs hwait h64 hw64 hw
  obtain ⟨i0, hi, hz0, hz1, hz2⟩ := dinfo_parts dinfoW
  obtain ⟨j0, hj, hy0, hy1, hy2⟩ := dinfo_parts dinfoB
  go_enter Tryz.func35, Tryz.ntmps35
  go_wp2_with (at_make; refine wpList_make_full _ rfl _ _ 24 rfl w.heap.size 46 j0 (.slice none 0 0) 1 Tryz.underlying24 hj hy0 hy1 .i64 .i64 _ _ ps.length rfl rfl (by omega) (by omega) (by rw [hy2]; omega) (by unfold maxLen; omega) (by simp; omega) ?_; intro w0 hown0 hgrow0; have kb : Blk w0 w.heap.size 27 [.slice A ps.length c, .slice B ws.length d] := (hgrow0.block _ (by simp; omega) (by simp)).trans ((Blk.new w [.slice A ps.length c, .slice B ws.length d] 27).alloc _); have hb0 : w0.cell? ⟨w.heap.size, 0, none⟩ = some (.slice A ps.length c) := kb.cell 0; have hlt0 := kb.lt)
  have kr : Blk w0 (w.heap.size + 1) 27 [.slice none 0 0, .slice none 0 0] := by
    have := Blk.new (w.alloc (.cells #[.slice A ps.length c, .slice B ws.length d] 27)) [.slice none 0 0, .slice none 0 0] 27
    rw [World.size_alloc] at this
    exact (hgrow0.block _ (by simp) (by simp)).trans this
  have hB1 : Below w.heap.size w w0 := (((Below.refl _ w).alloc (Nat.le_refl _) _).alloc (by simp) _).grown hgrow0 (by simp; omega) (fun _ h => by cases h)
  have hown1 : w0.ownsRow w.heap.size 46 1 (.slice (some ⟨w.heap.size + 1 + 1, 0, none⟩) ps.length ps.length) ps.length (laid [] ps.length) := by
    rw [laid_zero]
    simpa [Value.cells, toList_madeCells_one] using hown0
  have hs0 : w.heap.size + 1 + 1 < w0.heap.size := (hown1.lt _ rfl).2
  clear hown0 hgrow0
  go_loopw [16] (fun i wr => ∃ qs : List Pt, qs.length ≤ ps.length ∧ i = .int .i64 qs.length ∧ Hid (wr.ownsRow w.heap.size 46 1 (.slice (some ⟨w.heap.size + 1 + 1, 0, none⟩) ps.length ps.length) ps.length (laid qs ps.length)) ∧ Hid (Secs (w0.heap.size + 1) wr.heap.size wr qs) ∧ Hid (qs.map (·.zs) = (ps.take qs.length).map (·.zs))
      ∧ Hid (Blk wr w.heap.size 27 [.slice A ps.length c, .slice B ws.length d]) ∧ Hid (Blk wr (w.heap.size + 1) 27 [.slice none 0 0, .slice none 0 0]) ∧ Hid (Blk wr w0.heap.size 27 [.slice (some ⟨w.heap.size + 1 + 1, 0, none⟩) ps.length ps.length, .slice none 0 0]) ∧ Below w.heap.size w wr ∧ w0.heap.size + 1 ≤ wr.heap.size) (fun i _ => ps.length - (intOf i).toNat)
  case atStart =>
    exact ⟨[], Nat.zero_le _, rfl, own_stay hown1 (fun b hb => Below.heap_alloc _ _ b (hown1.lt b hb).2), Secs.nil _ _ _, rfl, kb.alloc _, kr.alloc _, Blk.new w0 _ _, hB1.alloc hB1.size _, by simp⟩
  case round =>
    clear kb hown1 kr hb0
    obtain ⟨qs, hk, rfl, HO, HQ, HZ, HKB, HKR, HKO, hB, hs⟩ := hrel
    by_cases hlt : qs.length < ps.length
    · obtain ⟨p, hp⟩ : ∃ p, ps[qs.length]? = some p := ⟨_, List.getElem?_eq_getElem hlt⟩
      obtain ⟨b, off, hA, hb, hc⟩ := (Rd.below HR.out hB).pt hp
      have hmem := List.mem_of_getElem? hp
      have hpl := H64.out p hmem
      have htk : ps.take (qs.length + 1) = ps.take qs.length ++ [p] := by
        rw [List.take_succ_eq_append_getElem hlt]
        rw [List.getElem?_eq_getElem hlt] at hp
        injection hp with hp
        rw [hp]
      have HTK := Lib.hid htk
      have HCL := Lib.hid (fun w h => clone_any p.A p.zs.length p.c p.zs rfl (by omega) (by omega) w h)
      rw [hpl] at HCL
      have hc0 : wr.cell? ⟨w0.heap.size, 0, none⟩ = some (.slice (some ⟨w.heap.size + 1 + 1, 0, none⟩) ps.length ps.length) := HKO.out.cell 0
      have hpr : Rd wr p.A (ocl p.zs) := (HSEC.out p hmem).below hB
      have HPR := Lib.hid hpr
      have hbw := HKO.out.lt
      clear htk hp hpr
      subst hA
      simp only [Pt.val, hpl] at hc
      have hBr : Below wr.heap.size wr wr := Below.refl _ _
      go_wp2
      go_region_held3 (fun w' => w'.cell? ⟨w0.heap.size, 0, none⟩ = some (.slice (some ⟨w.heap.size + 1 + 1, 0, none⟩) ps.length ps.length))
        (first
          | exact hc0
          | exact hc1
          | exact (World.cell?_setCell_other _ _ _ _ (fun e => by injection e with e; omega)).trans hc1)
        (first | (go_at_call 69; ((with_reducible refine (HCL.out _ (Rd.below HPR.out hBr.drew)).mono ?_); rintro e w1 ⟨g, cap, rfl, hown, hBw0⟩; have hBw1 : Below wr.heap.size wr w1 := hBr.drew.trans hBw0; have hs1 := hBw1.size; have HN := Lib.hid hown; have hc1 := (hBw1.cell (p := ⟨w0.heap.size, 0, none⟩) hbw).trans hc0; have ho1 := own_stay HO.out (fun b hb => hBw1.block b (HO.out.lt b hb).2); have hd1 := (ho1.cellAt qs.length (by omega)).trans (laid_next hlt); have hf1 := ho1.frozenAt qs.length; have HO1 := Lib.hid ho1; clear hown hBw0 ho1)))
      have hgl := HN.out.lt g rfl
      have hgl : wr.heap.size ≤ g ∧ g < w1.heap.size := hgl
      go_wp2
      go_roundw
      case rel =>
        refine ⟨qs ++ [⟨some ⟨g, 0, none⟩, p.zs, cap⟩], by simp; omega, by simp, ?_, ?_, ?_, ?_, ?_, ?_, ?_, by simp; omega⟩
        · have hv : (.slice (some ⟨g, 0, none⟩) 64 cap : Value) = Pt.val ⟨some ⟨g, 0, none⟩, p.zs, cap⟩ := by simp [Pt.val, hpl]
          have := (HO1.out.stored qs.length (.slice (some ⟨g, 0, none⟩) 64 cap)).1
          rw [hv, laid_set _ hlt, ← hv] at this
          exact this
        · have h1 : Secs (w0.heap.size + 1) wr.heap.size w1 qs := HQ.out.stay fun k _ h => hBw1.block k h
          have h2 := h1.snoc (hi' := w1.heap.size) hs1 hpl hgl.1 hgl.2 (own_base HN.out (by simpa using hs))
          show Secs _ _ _ _
          rw [show (w1.setCell ⟨w.heap.size + 1 + 1, qs.length, none⟩ (.slice (some ⟨g, 0, none⟩) 64 cap)).heap.size = w1.heap.size by simp]
          exact h2.stay fun k h _ => heap_setCell_other _ _ k _ (show k ≠ w.heap.size + 1 + 1 by omega)
        · show _ = _
          rw [List.length_append, List.length_singleton, HTK.out, List.map_append, List.map_append, HZ.out]
          rfl
        · exact (HKB.out.below hBw1 HKB.out.lt).other (by omega) _ _
        · exact (HKR.out.below hBw1 HKR.out.lt).other (by omega) _ _
        · exact (HKO.out.below hBw1 HKO.out.lt).other (by omega) _ _
        · exact (hB.trans (hBw1.mono hB.size)).setCell (p := ⟨w.heap.size + 1 + 1, qs.length, none⟩) (by show w.heap.size ≤ w.heap.size + 1 + 1; omega) _
      case measure => simp [intOf]; omega
    · have hn : qs.length = ps.length := by omega
      obtain ⟨hi0, hh0⟩ : ∃ hi0, hi0 = wr.heap.size := ⟨_, rfl⟩
      rw [← hh0] at HQ hs
      have ho0 := HO.out
      rw [laid_full hn] at ho0
      have HO0 := Lib.hid ho0
      have hz0' := HZ.out
      rw [hn, List.take_length] at hz0'
      have HZ0 := Lib.hid hz0'
      have d0 : wr.cell? ⟨w.heap.size, 1, none⟩ = some (.slice B ws.length d) := HKB.out.cell 1
      clear ho0 HO hz0' HZ
      go_wp2
      go_loopw [31] (fun i W => ∃ (ys : List Wt) (Y : Option Addr) (y : Nat), ys.length ≤ ws.length ∧ i = .int .i64 ys.length ∧ Hid (W.ownsRow w.heap.size 46 1 (.slice (some ⟨w.heap.size + 1 + 1, 0, none⟩) ps.length ps.length) ps.length (ptCells qs)) ∧ Hid (Secs (w0.heap.size + 1) hi0 W qs)
        ∧ Hid (W.ownsRow hi0 87 2 (.slice Y ys.length y) ys.length (wtCells ys)) ∧ Hid (∀ x ∈ ys, W.ownsRow hi0 5 1 x.p.val x.p.zs.length (ocl x.p.zs)) ∧ Hid (ys.map Wt.st = (ws.take ys.length).map Wt.st)
        ∧ Hid (Blk W (w.heap.size + 1) 27 [.slice none 0 0, .slice none 0 0]) ∧ Hid (Blk W w0.heap.size 27 [.slice (some ⟨w.heap.size + 1 + 1, 0, none⟩) ps.length ps.length, .slice Y ys.length y]) ∧ Below w.heap.size w W ∧ hi0 ≤ W.heap.size) (fun i _ => ws.length - (intOf i).toNat)
      case atStart =>
        exact ⟨[], none, 0, Nat.zero_le _, rfl, HO0.out, HQ.out, ⟨rfl, .inl ⟨rfl, rfl⟩⟩, fun x hx => by simp at hx, rfl, HKR.out, HKO.out, hB, Nat.le_of_eq hh0⟩
      case round =>
        rename_i W _
        clear d0 HO0 HQ HKB HKR HKO hB
        obtain ⟨ys, Y, y, hk2, rfl, HO, HQ, HY, HYW, HYS, HKR, HKO, hB, hs2⟩ := hrel
        by_cases hlt2 : ys.length < ws.length
        · obtain ⟨x, hx⟩ : ∃ x, ws[ys.length]? = some x := ⟨_, List.getElem?_eq_getElem hlt2⟩
          obtain ⟨b, off, hA, hb, hc1, hc2⟩ := (Rd.below HS.out hB).wt hx
          have hmem := List.mem_of_getElem? hx
          have hpl := HW64.out x hmem
          have htk : ws.take (ys.length + 1) = ws.take ys.length ++ [x] := by
            rw [List.take_succ_eq_append_getElem hlt2]
            rw [List.getElem?_eq_getElem hlt2] at hx
            injection hx with hx
            rw [hx]
          have HTK := Lib.hid htk
          have HCL := Lib.hid (fun w h => cloneWrite_any x.at_ x.p.A x.p.zs.length x.p.c x.p.zs rfl (by omega) (by omega) w h)
          rw [hpl] at HCL
          clear htk hx
          subst hA
          simp only [Pt.val, hpl] at hc2
          have HPR : Hid (Rd w x.p.A (ocl x.p.zs)) := HWT.out x hmem
          go_wp2_with fail
          obtain ⟨w1, hw1⟩ : ∃ w1, wr.alloc (.cells #[.int .i64 x.at_, .slice x.p.A 64 x.p.c] 87) = w1 := ⟨_, rfl⟩
          have hB10 : Below wr.heap.size wr w1 := hw1 ▸ (Below.refl _ wr).alloc (Nat.le_refl _) _
          have hsz1 : wr.heap.size < w1.heap.size := by rw [← hw1]; simp
          have kx : Blk w1 wr.heap.size 87 [.int .i64 x.at_, .slice x.p.A 64 x.p.c] := hw1 ▸ Blk.new wr _ _
          rw [hw1]
          have ko := HKO.out.below hB10 HKO.out.lt
          have hc0 := kx.cell 0
          have hc1 := kx.cell 1
          have hd1 := ko.cell 1
          simp only [List.getElem?_cons_zero, List.getElem?_cons_succ] at hc0 hc1 hd1
          have hBr : Below w1.heap.size w1 w1 := Below.refl _ _
          have hlo := ko.lt
          have HKO1 := Lib.hid ko
          have hBw1 : Below w.heap.size w w1 := hB.trans (hB10.mono hB.size)
          have hj : ∀ j, (Value.slice Y ys.length y).ownBlock = some j → hi0 ≤ j ∧ j < wr.heap.size := fun j e => HY.out.lt j e
          clear hw1 kx ko
          refine wp_region_noPanic ?_
          refine wp_region_last 7 (fun w' => w'.cell? ⟨w0.heap.size, 1, none⟩ = some (.slice Y ys.length y) ∧ w'.cell? ⟨wr.heap.size, 0, none⟩ = some (.int .i64 x.at_) ∧ w'.cell? ⟨wr.heap.size, 1, none⟩ = some (.slice x.p.A 64 x.p.c)) (by kernel_rfl) (heldV3 hlo hsz1 hd1 hc0 hc1 hBr.drew) (fun hHeld => ?_)
          refine wpAnyL_take 12 (i := 0) (oi := ⟨some 35, _, _, _, _, _⟩) (v := ?_) rfl (by kernel_rfl) (by kernel_rfl) (by kernel_rfl) (by kernel_rfl) (by kernel_rfl) (by kernel_rfl) (by kernel_rfl) (fun _ _ _ h => h) (Or.inl ⟨by rfl, ?_⟩) hHeld ?_
          rotate_left
          focus (intro w hSw; (try dsimp only at hSw); go_simp; try (with_reducible rfl))
          try simp only [Act.put, List.setIfInBounds_toArray, List.set_cons_zero, List.set_cons_succ]
          refine wpAnyL_take 12 (i := 1) (oi := ⟨some 36, _, _, _, _, _⟩) (v := ?_) rfl (by kernel_rfl) (by kernel_rfl) (by kernel_rfl) (by kernel_rfl) (by kernel_rfl) (by kernel_rfl) (by kernel_rfl) (fun _ _ _ h => h) (Or.inl ⟨by rfl, ?_⟩) hHeld ?_
          rotate_left
          focus (intro w hSw; (try dsimp only at hSw); go_simp; try (with_reducible rfl))
          try simp only [Act.put, List.setIfInBounds_toArray, List.set_cons_zero, List.set_cons_succ]
          refine wpAnyL_take 12 (i := 2) (oi := ⟨some 37, _, _, _, _, _⟩) (v := ?_) rfl (by kernel_rfl) (by kernel_rfl) (by kernel_rfl) (by kernel_rfl) (by kernel_rfl) (by kernel_rfl) (by kernel_rfl) (fun _ _ _ h => h) (Or.inl ⟨by rfl, ?_⟩) hHeld ?_
          rotate_left
          focus (intro w hSw; (try dsimp only at hSw); go_simp; try (with_reducible rfl))
          try simp only [Act.put, List.setIfInBounds_toArray, List.set_cons_zero, List.set_cons_succ]
          refine wpAnyL_one (i := 3) (o := ⟨some 38, _, _, _, _, _⟩) (by kernel_rfl) rfl (fun K hK => ?_)
          clear hHeld
          go_simp
          go_at_call 38
          refine (HCL.out _ (Rd.below (Rd.below HPR.out hBw1) hBr.drew)).mono ?_
          rintro e w2 ⟨g, cap, rfl, hown, hB1⟩
          have hBw2 : Below w1.heap.size w1 w2 := hBr.drew.trans hB1
          have hs2 := hBw2.size
          have HN := Lib.hid hown
          have HY2 := Lib.hid (own_stay HY.out (fun b hb => (hBw2.block b (by have := (HY.out.lt b hb).2; omega)).trans (hB10.block b (HY.out.lt b hb).2)))
          clear hown hB1
          go_wp2_with fail
          refine hK.out _ _ (heldV3 hlo hsz1 hd1 hc0 hc1 hBw2) (fun hHeld => ?_)
          clear hK K
          try simp only [Act.put, List.setIfInBounds_toArray, List.set_cons_zero, List.set_cons_succ]
          refine wpAnyL_one (i := 4) (o := ⟨some 39, _, _, _, _, _⟩) (by kernel_rfl) rfl (fun K hK => ?_)
          clear hHeld
          go_simp
          go_wp2_with fail
          refine hK.out _ _ (heldV3 hlo hsz1 hd1 hc0 hc1 (by (repeat (first | with_reducible exact Below.refl _ _ | with_reducible assumption | with_reducible refine Below.drew ?_ | with_reducible refine Below.alloc ?_ ?_ _ | with_reducible refine Below.setCell ?_ ?_ _ | (focus omega) | (focus (simp; done)) | (focus (simp; omega)))))) (fun hHeld => ?_)
          clear hK K
          try simp only [Act.put, List.setIfInBounds_toArray, List.set_cons_zero, List.set_cons_succ]
          refine wpAnyL_one (i := 5) (o := ⟨some 40, _, _, _, _, _⟩) (by kernel_rfl) rfl (fun K hK => ?_)
          clear hHeld
          refine step_append_lies (o := ⟨some 40, _, _, _, _, _⟩) _ (by rfl) _ _ _ (by rfl) hi0 87 i0 (.agg #[.int .i64 0, .slice none 0 0]) 2 32 Tryz.underlying25 hi hz0 hz1 hz2 rfl (by omega) (.slice Y ys.length y) ys.length _ (by rfl) (own_stay HY2.out (fun b hb => Below.heap_alloc _ _ b (HY2.out.lt b hb).2)) ⟨w2.heap.size, 0, none⟩ 1 1 [.int .i64 x.at_, .slice (some ⟨g, 0, none⟩) 64 cap] (by rfl) rfl (news_new _ _ _) (by simp [Value.oneCell']) (by omega) (by unfold maxLen; omega) (by omega) (by simp; omega) _ rfl ?_
          intro g3 c3 w3 ho3 hg3 hg3' hl3
          have hk3 : ∀ b, b < w2.heap.size → (b < hi0 ∨ wr.heap.size ≤ b) → w3.heap[b]? = w2.heap[b]? := (fun b hb hne => (hg3.block b (by simp; omega) (fun e => by have := hj b e.symm; omega)).trans (Below.heap_alloc _ _ b hb))
          have ko3 : Blk w3 w0.heap.size 27 [.slice (some ⟨w.heap.size + 1 + 1, 0, none⟩) ps.length ps.length, .slice Y ys.length y] := ((hk3 _ (by omega) (.inl (by omega))).trans (HKO1.out.below hBw2 HKO1.out.lt))
          have hS3 : w3.cell? ⟨w0.heap.size, 1, none⟩ = some (.slice Y ys.length y) ∧ w3.cell? ⟨wr.heap.size, 0, none⟩ = some (.int .i64 x.at_) ∧ w3.cell? ⟨wr.heap.size, 1, none⟩ = some (.slice x.p.A 64 x.p.c) := ⟨ko3.cell 1, (World.cell?_of_block (hk3 wr.heap.size (by omega) (.inr (Nat.le_refl _)))).trans ((hBw2.cell (p := ⟨wr.heap.size, 0, none⟩) hsz1).trans hc0), (World.cell?_of_block (hk3 wr.heap.size (by omega) (.inr (Nat.le_refl _)))).trans ((hBw2.cell (p := ⟨wr.heap.size, 1, none⟩) hsz1).trans hc1)⟩
          have hf3 := ko3.frozen 1
          have hd3 := hS3.1
          have HKO3 := Lib.hid ko3
          have HO3 := Lib.hid ho3
          have HK3 := Lib.hid hk3
          have hsg3 := hg3.size
          have HG3 := Lib.hid hg3
          clear hg3 ho3 hk3 ko3
          refine hK.out _ _ hS3 (fun hHeld => ?_)
          clear hK K
          try simp only [Act.put, List.setIfInBounds_toArray, List.set_cons_zero, List.set_cons_succ]
          refine wpAnyL_take 12 (i := 6) (oi := ⟨some 41, _, _, _, _, _⟩) (v := ?_) rfl (by kernel_rfl) (by kernel_rfl) (by kernel_rfl) (by kernel_rfl) (by kernel_rfl) (by kernel_rfl) (by kernel_rfl) (fun _ _ _ h => h) (Or.inl ⟨by rfl, ?_⟩) hHeld ?_
          rotate_left
          focus (intro w hSw; (try dsimp only at hSw); go_simp; try (with_reducible rfl))
          try simp only [Act.put, List.setIfInBounds_toArray, List.set_cons_zero, List.set_cons_succ]
          refine wpAnyL_last (i := 7) (o := ⟨none, _, _, _, _, _⟩) (by kernel_rfl) rfl (by kernel_rfl) (fun K hK => ?_)
          clear hHeld
          go_simp
          go_wp2_with fail
          refine hK.out _ _ ?_
          clear hK K
          try simp only [Act.put, List.setIfInBounds_toArray, List.set_cons_zero, List.set_cons_succ]
          refine wpAnyL_done (by kernel_rfl) ?_ _
          refine NoPanic.normal ?_
          have hstay : ∀ (u : Value) (b : Nat), b < w2.heap.size → (Value.slice Y ys.length y).ownBlock ≠ some b → b ≠ w0.heap.size → (w3.setCell ⟨w0.heap.size, 1, none⟩ u).heap[b]? = w2.heap[b]? := fun u b h1 h2 h3 =>
            (heap_setCell_other _ _ b _ h3).trans ((HG3.out.block b (by simp; omega) (fun e => h2 e.symm)).trans (Below.heap_alloc _ _ b h1))
          have hold : ∀ (u : Value) (b : Nat), b < wr.heap.size → (Value.slice Y ys.length y).ownBlock ≠ some b → b ≠ w0.heap.size → (w3.setCell ⟨w0.heap.size, 1, none⟩ u).heap[b]? = wr.heap[b]? := fun u b h1 h2 h3 =>
            (hstay u b (by omega) h2 h3).trans ((hBw2.block b (by omega)).trans (hB10.block b h1))
          have HST := Lib.hid hstay
          have HOL := Lib.hid hold
          clear hstay hold
          go_wp2
          go_roundw
          case rel =>
            refine ⟨ys ++ [⟨x.at_, ⟨some ⟨g, 0, none⟩, x.p.zs, cap⟩⟩], some ⟨g3, 0, none⟩, c3, by simp; omega, by simp, ?_, ?_, ?_, ?_, ?_, ?_, ?_, ?_, ?_⟩
            · exact own_stay HO.out fun b hb => by
                have h2 : w.heap.size + 1 + 1 = b := by simpa [Value.ownBlock] using hb
                subst h2
                exact HOL.out _ _ (by omega) (fun e => by have := hj _ e; omega) (by omega)
            · exact HQ.out.stay fun k h1 h2 => HOL.out _ _ (by omega) (fun e => by have := hj _ e; omega) (by omega)
            · have := own_set HO3.out w0.heap.size 1 (.slice (some ⟨g3, 0, none⟩) (ys.length + 1) c3) (fun b hb => by have := (HO3.out.lt b hb).1; omega)
              rw [wtCells_snoc]
              refine Lib.hid ?_
              simpa [Pt.val, hpl] using this
            · intro q hq
              simp at hq
              rcases hq with hq | rfl
              · have hq1 := HYW.out q hq
                exact own_stay hq1 fun b hb => HOL.out _ _ (hq1.lt b hb).2 (own_apart hq1 HY.out (by decide) b hb) (by have := (hq1.lt b hb).1; omega)
              · have hq1 : w2.ownsRow hi0 5 1 (.slice (some ⟨g, 0, none⟩) 64 cap) 64 (ocl x.p.zs) := own_base HN.out (by simp; omega)
                have hq2 := HN.out.lt g rfl
                simp only [World.size_drew] at hq2
                simp only [Pt.val, hpl]
                exact own_stay hq1 fun b hb => by
                  have h2 : g = b := by simpa [Value.ownBlock] using hb
                  subst h2
                  exact HST.out _ _ hq2.2 (fun e => by have := hj _ e; omega) (by omega)
            · show _ = _
              rw [List.length_append, List.length_singleton, HTK.out, List.map_append, List.map_append, HYS.out]
              rfl
            · exact (HOL.out _ _ (by omega) (fun e => by have := hj _ e; omega) (by omega)).trans HKR.out
            · have := HKO3.out.set 1 (.slice (some ⟨g3, 0, none⟩) (ys.length + 1) c3)
              refine Lib.hid ?_
              simpa using this
            · exact (((hBw1.trans (hBw2.mono (by omega))).alloc (by omega) _).grown HG3.out (by simp; omega) (fun j e => by have := hj j e; omega)).setCell (p := ⟨w0.heap.size, 1, none⟩) (by show w.heap.size ≤ w0.heap.size; omega) _
            · simp at hsg3 ⊢
              omega
          case measure => simp [intOf]; omega
        · obtain hyl : ys.length = ws.length := by omega
          have hys := HYS.out
          rw [hyl, List.take_length] at hys
          have HYS1 := Lib.hid hys
          clear hys HYS
          have d0 := HKO.out.cell 0
          have d1 := HKO.out.cell 1
          have e0 := HKR.out.cell 0
          have e1 := HKR.out.cell 1
          have f0 := HKR.out.frozen 0
          have f1 := HKR.out.frozen 1
          simp only [List.getElem?_cons_zero, List.getElem?_cons_succ] at d0 d1 e0 e1

          have HHN := Lib.hid hn
          have HHY := Lib.hid hyl
          go_wp2
          refine bodyPost_ret (v := dval (some ⟨w.heap.size + 1 + 1, 0, none⟩) ps.length ps.length Y ws.length y) ?_ rfl ?_
          · simp [results, Tryz.results35, go_sem, e0, e1]
          refine ⟨⟨some ⟨w.heap.size + 1 + 1, 0, none⟩, qs, ps.length, Y, ys, y⟩, w0.heap.size + 1, hi0, by simp only [Dv.val, HHN.out, HHY.out], ?_, ?_, ?_⟩
          · unfold Dv.st
            simp only [DS.mk.injEq]
            exact ⟨HZ0.out, HYS1.out⟩
          · have hst : ∀ (u v : Value) (b : Nat), b ≠ w.heap.size + 1 → ((wr.setCell ⟨w.heap.size + 1, 0, none⟩ u).setCell ⟨w.heap.size + 1, 1, none⟩ v).heap[b]? = wr.heap[b]? := fun u v b hb => (heap_setCell_other _ _ b _ hb).trans (heap_setCell_other _ _ b _ hb)
            refine ⟨⟨w.heap.size + 1 + 1, rfl, by omega, ?_⟩, by omega, by omega, HQ.out.stay fun k h1 h2 => hst _ _ _ (by omega), ?_, ?_, by simp; omega⟩
            · have h1 := HO.out
              rw [← HHN.out] at h1
              rw [← HHN.out]
              exact own_stay h1 fun b hb => hst _ _ _ (by
                have h2 : w.heap.size + 1 + 1 = b := by simpa [Value.ownBlock] using hb
                omega)
            · exact own_stay HY.out fun b hb => hst _ _ _ (by have := (HY.out.lt b hb).1; omega)
            · exact fun x hx => own_stay (HYW.out x hx) fun b hb => hst _ _ _ (by have := ((HYW.out x hx).lt b hb).1; omega)
          · exact (hB.setCell (p := ⟨w.heap.size + 1, 0, none⟩) (Nat.le_succ _) _).setCell (p := ⟨w.heap.size + 1, 1, none⟩) (Nat.le_succ _) _

end Go.Proofs.YtfeeejigedndcaaGreat
