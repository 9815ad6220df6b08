/-
  The page's example: a write, a crash that keeps nothing: zeros. No conditions.
-/
import Derived.Test.YtddkalcgijeldaaDVO
namespace Go.Proofs.Ytddkalcgijeldaa
open Go.ChangeShapes Go.WideShapes Go.ChangeAt Go.RowKit

set_option maxRecDepth 100000 in
theorem Dv.fits {D : Dv} (h : D.st.ok) (hm : D.ws.length ≤ 4398046511104) : D.Fits := by
  obtain ⟨h1, h2, h3, h4⟩ := (Dv.ok_iff D).1 h
  refine ⟨by omega, hm, fun p hp => by rw [h3 p hp]; omega, fun x hx => ?_⟩
  have := h4 x hx
  unfold wrtE at this
  split at this
  · split at this
    · omega
    · omega
  · omega
set_option maxRecDepth 100000 in
theorem new_ok_st (n : Nat) (h2 : 2 ≤ n) (h3 : n ≤ 8192) : (DS.mk (List.replicate n z64) []).ok :=
  ⟨by simpa using h2, by simpa using h3, fun s hs => by rw [(List.mem_replicate.1 hs).2]; exact z64_length, fun x hx => by simp at hx⟩
set_option maxRecDepth 100000 in
theorem st_ws {D : Dv} {S : DS} (h : D.st = S) : D.ws.length = S.waits.length ∧ D.ps.length = S.secs.length := by
  subst h
  simp [Dv.st]
set_option maxRecDepth 100000 in
theorem read_ok (D : Dv) (hok : D.st.ok) (hm : D.ws.length ≤ 4398046511104) (n : Nat) (hn : n < D.ps.length) (w : World) (hD : D.Lies 0 w) :
    Calls Try.prog 17 #[D.val, .int .i64 n] w fun e w' => ∃ g cap, e = .returned (ansO (.slice (some ⟨g, 0, none⟩) 64 cap) 0) ∧
      w'.ownsRow w.heap.size 5 1 (.slice (some ⟨g, 0, none⟩) 64 cap) 64 (ocl (readS D.st n)) ∧ Below w.heap.size w w' :=
  callsIn_wide.1 (read_in D (Dv.fits hok hm) hok n hn w hD)
set_option maxRecDepth 100000 in
theorem RdF.set {n : Nat} {W : World} {A : Option Addr} {vs : List Value} (h : RdF n W A vs) {g : Nat} (hg : g < n) (o : Nat) (u : Value) : RdF n (W.setCell ⟨g, o, none⟩ u) A vs := h.stays (by simp) fun k h1 _ => heap_setCell_other _ _ k _ (show k ≠ g by omega)
set_option maxRecDepth 100000 in
theorem Dv.Lies.set {n : Nat} {W : World} {D : Dv} (h : D.Lies n W) {g : Nat} (hg : g < n) (o : Nat) (u : Value) : D.Lies n (W.setCell ⟨g, o, none⟩ u) := h.stays (by simp) fun k h1 _ => heap_setCell_other _ _ k _ (show k ≠ g by omega)
set_option maxRecDepth 100000 in
theorem Dv.Lies.zero {n : Nat} {W : World} {D : Dv} (h : D.Lies n W) : D.Lies 0 W := h.mono (Nat.zero_le _)

/-- An octet, and 63 zeros. -/
def one64 : List Int := 1 :: List.replicate 63 0
set_option maxRecDepth 100000 in
theorem one64_length : one64.length = 64 := by simp [one64]

set_option maxHeartbeats 1000000 in
set_option maxRecDepth 100000 in
theorem alive_any (w : World) : Calls Try.prog 10 #[] w fun e w' => e = .returned (.bool true) ∧ Below w.heap.size w w' := by
  obtain ⟨i0, hi, hz0, hz1, hz2⟩ := dinfo_parts dinfo8
  have HN := Lib.hid (fun w => new_ok 3 (by omega) (by omega) w)
  go_enter Try.func10, Try.ntmps10
  go_wp2_with fail
  refine (HN.out w).mono ?_
  rintro e w1 ⟨D, rfl, hst, hD, hB1⟩
  have HST := Lib.hid hst
  have HD := Lib.hid hD
  clear hst hD HN
  go_wp2_with (at_make; refine wpList_make_full _ rfl _ _ 34 rfl (w1.heap.size + 1) 5 i0 (.int .u8 0) 1 Try.underlying34 hi hz0 hz1 .i64 .i64 _ _ 64 rfl rfl (by omega) (by omega) (by rw [hz2]; omega) (by unfold maxLen; omega) (by simp) ?_; intro w2 hown2 hgrow2; have hblk := made64 (base := w1.heap.size + 1) (by simpa [Value.cells, toList_madeCells_one] using hown2); have hB2 : Below (w1.heap.size + 1) (w1.alloc (.cells #[.slice D.A D.ps.length D.c, .slice D.B D.ws.length D.d] 29)) w2 := (Below.refl _ _).grown hgrow2 (by simp) (fun _ h => (by cases h)); have HBK : Hid (Blk w2 (w1.heap.size + 1) 5 (ocl z64)) := hblk; have hc0 := HBK.out.cell 0; have hf0 := HBK.out.frozen 0; have kX2 := (Blk.new w1 [.slice D.A D.ps.length D.c, .slice D.B D.ws.length D.d] 29).below hB2 (Nat.lt_succ_self _); have x0 := kX2.cell 0; have x1 := kX2.cell 1; have fx0 := kX2.frozen 0; have fx1 := kX2.frozen 1; simp only [List.getElem?_cons_zero, List.getElem?_cons_succ] at x0 x1; have KX2 := Lib.hid kX2; have hlt2 := HBK.out.lt; have hlt1 := KX2.out.lt; clear hown2 hgrow2 hblk kX2)
  obtain ⟨w3, hw3⟩ : ∃ w3, (w2.setCell ⟨w1.heap.size + 1, 0, none⟩ (.int .u8 1)).alloc (.cells #[.bool false, .int .i64 1, .slice (some ⟨w1.heap.size + 1, 0, none⟩) 64 64] 36) = w3 := ⟨_, rfl⟩
  rw [hw3]
  have kb : Blk (w2.setCell ⟨w1.heap.size + 1, 0, none⟩ (.int .u8 1)) (w1.heap.size + 1) 5 (ocl one64) := HBK.out.set 0 (.int .u8 1)
  have hB13 : Below w1.heap.size w1 w3 := by
    rw [← hw3]
    exact ((((Below.refl _ w1).alloc (Nat.le_refl _) _).trans (hB2.mono (Nat.le_succ _))).setCell (p := ⟨w1.heap.size + 1, 0, none⟩) (Nat.le_succ _) _).alloc (by simp; omega) _
  have kX3 : Blk w3 w1.heap.size 29 [.slice D.A D.ps.length D.c, .slice D.B D.ws.length D.d] := by rw [← hw3]; exact (KX2.out.other (by omega) _ _).alloc _
  have kb3 : Blk w3 (w1.heap.size + 1) 5 (ocl one64) := by rw [← hw3]; exact kb.alloc _
  have ka3 : Blk w3 w2.heap.size 36 [.bool false, .int .i64 1, .slice (some ⟨w1.heap.size + 1, 0, none⟩) 64 64] := by
    have := Blk.new (w2.setCell ⟨w1.heap.size + 1, 0, none⟩ (.int .u8 1)) [.bool false, .int .i64 1, .slice (some ⟨w1.heap.size + 1, 0, none⟩) 64 64] 36
    rw [World.size_setCell] at this
    rw [← hw3]
    exact this
  have hs3 : w3.heap.size = w2.heap.size + 1 := by rw [← hw3]; simp
  obtain ⟨hws, hps⟩ := st_ws HST.out
  have hok : D.st.ok := by rw [HST.out]; exact new_ok_st 3 (by omega) (by omega)
  have hws0 : D.ws.length = 0 := by simpa using hws
  have hps3 : D.ps.length = 3 := by simpa using hps
  have hacts : Acts w3 (some ⟨w2.heap.size, 0, none⟩) [⟨false, 1, ⟨some ⟨w1.heap.size + 1, 0, none⟩, one64, 64⟩⟩] := ⟨fun _ => ⟨w2.heap.size, 0, rfl, ka3.lt, fun j u hu => by rw [Nat.zero_add]; exact (ka3.cell j).trans hu⟩,
    fun x hx => by
      simp at hx
      subst hx
      exact fun _ => ⟨w1.heap.size + 1, 0, rfl, kb3.lt, fun j u hu => by rw [Nat.zero_add]; exact (kb3.cell j).trans hu⟩,
    fun x hx => by
      simp at hx
      subst hx
      show one64.length ≤ _
      rw [one64_length]
      omega, by simp⟩
  have hdo := do_ok D (Dv.fits hok (by omega)) hok (some ⟨w2.heap.size, 0, none⟩) [⟨false, 1, ⟨some ⟨w1.heap.size + 1, 0, none⟩, one64, 64⟩⟩] 1 (by rw [hps3]; rfl) (by rw [hws0]; simp) w3 (HD.out.below hB13).zero hacts
  refine hdo.mono ?_
  rintro e w4 ⟨E, rfl, hst, hE, hB4⟩
  have HSTE : Hid (E.st = ⟨List.replicate 3 z64, [(1, one64)]⟩) := by
    show _ = _
    rw [hst, HST.out]
    rfl
  have HE := Lib.hid hE
  have k4 := kX3.below hB4 kX3.lt
  have x0 := k4.cell 0
  have x1 := k4.cell 1
  have fx0 := k4.frozen 0
  have fx1 := k4.frozen 1
  simp only [List.getElem?_cons_zero, List.getElem?_cons_succ] at x0 x1
  have K4 := Lib.hid k4
  have hB14 := hB13.trans (hB4.mono hB13.size)
  have hs4 := hB4.size
  clear hdo hacts hst hE k4 kX3 kb kb3 ka3 hw3 hc0 hf0 HBK KX2 hB2 hB4 hB13 HD
  clear hws0 hps3 hws hps hok
  go_wp2_with fail
  obtain ⟨hwsE, hpsE⟩ := st_ws HSTE.out
  have hokE : E.st.ok := by
    rw [HSTE.out]
    refine ⟨by simp, by simp, fun s hs => by rw [(List.mem_replicate.1 hs).2]; exact z64_length, fun x hx => ?_⟩
    simp at hx
    subst hx
    exact ⟨by decide, by simp, one64_length⟩
  have hwsE1 : E.ws.length = 1 := by simpa using hwsE
  have hE5 : E.Lies 0 ((w4.setCell ⟨w1.heap.size, 0, none⟩ (.slice E.A E.ps.length E.c)).setCell ⟨w1.heap.size, 1, none⟩ (.slice E.B E.ws.length E.d)) := ((HE.out.set (by omega) 0 _).set (by omega) 1 _).zero
  have hcr := crash_ok E (Dv.fits hokE (by omega)) hokE none [] 0 _ hE5 (Rd.nil _ _)
  refine hcr.mono ?_
  rintro e w6 ⟨F, rfl, hst, hF, hB6⟩
  have HSTF : Hid (F.st = ⟨List.replicate 3 z64, []⟩) := by
    show _ = _
    rw [hst, HSTE.out]
    rfl
  have HF := Lib.hid hF
  have k6 := ((K4.out.set 0 (.slice E.A E.ps.length E.c)).set 1 (.slice E.B E.ws.length E.d)).below hB6 (by simp; omega)
  have x0 := k6.cell 0
  have x1 := k6.cell 1
  have fx0 := k6.frozen 0
  have fx1 := k6.frozen 1
  simp only [List.set_cons_zero, List.set_cons_succ, List.getElem?_cons_zero, List.getElem?_cons_succ] at x0 x1
  have K6 := Lib.hid k6
  have hB16 : Below w1.heap.size w1 w6 := ((hB14.setCell (p := ⟨w1.heap.size, 0, none⟩) (Nat.le_refl _) _).setCell (p := ⟨w1.heap.size, 1, none⟩) (Nat.le_refl _) _).trans (hB6.mono (by simp; omega))
  have hs6 := hB6.size
  simp at hs6
  clear hcr hst hF hE5 k6 hB14 K4 hwsE1 hwsE hpsE hokE
  go_wp2_with fail
  obtain ⟨hwsF, hpsF⟩ := st_ws HSTF.out
  have hokF : F.st.ok := by rw [HSTF.out]; exact new_ok_st 3 (by omega) (by omega)
  have hwsF0 : F.ws.length = 0 := by simpa using hwsF
  have hpsF3 : F.ps.length = 3 := by simpa using hpsF
  have hF7 : F.Lies 0 ((w6.setCell ⟨w1.heap.size, 0, none⟩ (.slice F.A F.ps.length F.c)).setCell ⟨w1.heap.size, 1, none⟩ (.slice F.B F.ws.length F.d)) := ((HF.out.set (by simp; omega) 0 _).set (by simp; omega) 1 _).zero
  have hrd := read_ok F hokF (by omega) 1 (by omega) _ hF7
  have hz : readS F.st 1 = z64 := by rw [HSTF.out]; rfl
  rw [hz] at hrd
  refine hrd.mono ?_
  rintro e w8 ⟨g, cap, rfl, hown, hB8⟩
  have hg0 := hown.cells (g := g) rfl 0 (.int .u8 0) (by simp [ocl, z64])
  rw [add_plain, Nat.zero_add] at hg0
  have k8 := ((K6.out.set 0 (.slice F.A F.ps.length F.c)).set 1 (.slice F.B F.ws.length F.d)).below hB8 (by simp; omega)
  have x0 := k8.cell 0
  have x1 := k8.cell 1
  simp only [List.set_cons_zero, List.set_cons_succ, List.getElem?_cons_zero, List.getElem?_cons_succ, hwsF0] at x0 x1
  have hB18 : Below w1.heap.size w1 w8 := ((hB16.setCell (p := ⟨w1.heap.size, 0, none⟩) (Nat.le_refl _) _).setCell (p := ⟨w1.heap.size, 1, none⟩) (Nat.le_refl _) _).trans (hB8.mono (by simp; omega))
  have hBf : Below w.heap.size w w8 := hB1.trans (hB18.mono hB1.size)
  clear hrd hz hF7 k8 K6 hB16 hwsF hpsF hokF hown hB18 hB1 HE HF
  go_wp2_with (refine (num_any _ _).mono ?_; rintro e w' ⟨rfl, rfl⟩)
  go_ret
  exact ⟨rfl, hBf⟩

end Go.Proofs.Ytddkalcgijeldaa
