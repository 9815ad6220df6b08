/-
  DeviceOwn returns true. Conditions: its arguments are a machine's.
-/
import Derived.Test.YtddkalcgijeldaaDVX
namespace Go.Proofs.Ytddkalcgijeldaa
open Go.ChangeShapes Go.WideShapes Go.ChangeAt Go.RowKit

set_option maxHeartbeats 4000000 in
set_option maxRecDepth 100000 in
theorem owns_walk (n : Int) (a b : Ac) (w : World) (ha : a.p.Came w) (hb : b.p.Came w) :
    Calls Try.prog 6 #[.int .i64 n, a.val, b.val] w fun e w' => e = .returned (.bool true) ∧ Below w.heap.size w w' := by
  have HCA := Lib.hid ha
  have HCB := Lib.hid hb
  clear ha hb
  go_enter Try.func6, Try.ntmps6
  have hB0 : Below w.heap.size w ((w.alloc (.cells #[.bool a.fl, .int .i64 a.at_, .slice a.p.A a.p.zs.length a.p.c] 36)).alloc (.cells #[.bool b.fl, .int .i64 b.at_, .slice b.p.A b.p.zs.length b.p.c] 36)) := ((Below.refl _ w).alloc (Nat.le_refl _) _).alloc (by simp) _
  have ka : Blk ((w.alloc (.cells #[.bool a.fl, .int .i64 a.at_, .slice a.p.A a.p.zs.length a.p.c] 36)).alloc (.cells #[.bool b.fl, .int .i64 b.at_, .slice b.p.A b.p.zs.length b.p.c] 36)) w.heap.size 36 (acl a) := allocs_blk [(acl a, 36), (acl b, 36)] w 0 rfl
  have kb : Blk ((w.alloc (.cells #[.bool a.fl, .int .i64 a.at_, .slice a.p.A a.p.zs.length a.p.c] 36)).alloc (.cells #[.bool b.fl, .int .i64 b.at_, .slice b.p.A b.p.zs.length b.p.c] 36)) (w.heap.size + 1) 36 (acl b) := allocs_blk [(acl a, 36), (acl b, 36)] w 1 rfl
  have HB0 := Lib.hid hB0
  have HKA := Lib.hid ka
  have HKB := Lib.hid kb
  clear hB0 ka kb
  go_wp2_with (first
    | (go_at_call 10; refine (alive_any _).mono ?_; rintro e w1 ⟨rfl, hB1⟩; have hka1 := HKA.out.below hB1 HKA.out.lt; have hkb1 := HKB.out.below hB1 HKB.out.lt; have HKA1 := Lib.hid hka1; have HKB1 := Lib.hid hkb1; have hBw1 : Below w.heap.size w w1 := HB0.out.trans (hB1.mono HB0.out.size); clear hB1 hka1 hkb1)
    | (go_at_call 11; refine (small_any n w1).mono ?_; rintro e w2 ⟨k, hk2, hk15, rfl, rfl⟩)
    | (go_at_call 12; refine (new_ok k (by omega) (by omega) w1).mono ?_; rintro e w2 ⟨D, rfl, hst, hD, hB2⟩; have HST := Lib.hid hst; have HD := Lib.hid hD; clear hst hD))
  obtain ⟨wB, hwr⟩ : ∃ wX, w2.alloc (.cells #[.slice D.A D.ps.length D.c, .slice D.B D.ws.length D.d] 29) = wX := ⟨_, rfl⟩
  have kX : Blk wB w2.heap.size 29 [.slice D.A D.ps.length D.c, .slice D.B D.ws.length D.d] := hwr ▸ Blk.new w2 _ _
  have hB2r : Below w2.heap.size w2 wB := hwr ▸ (Below.refl _ w2).alloc (Nat.le_refl _) _
  rw [hwr]
  have hs1 := hBw1.size
  have hs2 := hB2.size
  have hsr := hB2r.size
  have hB1r : Below w1.heap.size w1 wB := hB2.trans (hB2r.mono hs2)
  have hla := HKA1.out.lt
  have hlb := HKB1.out.lt
  have hkar := HKA1.out.below hB1r hla
  have hkbr := HKB1.out.below hB1r hlb
  have a0 := hkar.cell 0
  have a1 := hkar.cell 1
  have a2 := hkar.cell 2
  have b0 := hkbr.cell 0
  have b1 := hkbr.cell 1
  have b2 := hkbr.cell 2
  simp only [acl, List.getElem?_cons_zero, List.getElem?_cons_succ] at a0 a1 a2 b0 b1 b2
  have HX := Lib.hid kX
  have HDr := Lib.hid (HD.out.below hB2r)
  have hBwr : Below w.heap.size w wB := hBw1.trans (hB1r.mono hs1)
  have HBW := Lib.hid hBwr
  have hgx : w2.heap.size < wB.heap.size := kX.lt
  have HR1 := Lib.hid (fun W hW => right_hid a k hk2 hk15 wB (HCA.out.below hBwr) W hW)
  have HR2 := Lib.hid (fun W hW => right_hid b k hk2 hk15 wB (HCB.out.below hBwr) W hW)
  have hBr : Below wB.heap.size wB wB := Below.refl _ _
  have hga : w.heap.size < wB.heap.size := by omega
  have hgb : w.heap.size + 1 < wB.heap.size := by omega
  clear kX hwr hB2 hB2r hB1r hkar hkbr hBw1 hBwr HB0 HKA HKB HKA1 HKB1 HD HCA HCB hla hlb hs1 hs2 hsr
  go_upto_region 5 with fail
  go_cut [9, 10] (fun p q wx => ∃ (gx gy : Nat) (rX rY : Ac), p = .pointer (some ⟨gx, 0, none⟩) ∧ q = .pointer (some ⟨gy, 0, none⟩) ∧ Hid (rX.fl = a.fl) ∧ Hid (rY.fl = b.fl) ∧ Hid (MetA wB k gx gy rX rY wx))
  case first =>
    as_aux_lemma =>
      go_region_held3 (fun w' => w'.cell? ⟨w.heap.size, 0, none⟩ = some (.bool a.fl) ∧ w'.cell? ⟨w.heap.size, 1, none⟩ = some (.int .i64 a.at_) ∧ w'.cell? ⟨w.heap.size, 2, none⟩ = some (.slice a.p.A a.p.zs.length a.p.c) ∧ w'.cell? ⟨w.heap.size + 1, 0, none⟩ = some (.bool b.fl) ∧ w'.cell? ⟨w.heap.size + 1, 1, none⟩ = some (.int .i64 b.at_) ∧ w'.cell? ⟨w.heap.size + 1, 2, none⟩ = some (.slice b.p.A b.p.zs.length b.p.c) ∧ Below wB.heap.size wB w')
        (first | exact held6 hga hgb a0 a1 a2 b0 b1 b2 (by (repeat (first | with_reducible exact Below.refl _ _ | with_reducible assumption | with_reducible refine Below.drew ?_ | with_reducible refine Below.alloc ?_ ?_ _ | with_reducible refine Below.setCell ?_ ?_ _ | (focus omega) | (focus (simp; done)) | (focus (simp; omega))))))
        (first
          | (go_at_call 13; ((with_reducible refine (HR1.out _ ?_).mono ?_); (focus ((repeat (first | with_reducible exact Below.refl _ _ | with_reducible assumption | with_reducible refine Below.drew ?_ | with_reducible refine Below.alloc ?_ ?_ _ | with_reducible refine Below.setCell ?_ ?_ _ | (focus omega) | (focus (simp; done)) | (focus (simp; omega)))); done)); rintro e w4 ⟨rX, rfl, HFX, HRX, hB4⟩; have hBw4 : Below wB.heap.size wB w4 := (by refine Below.trans ?_ (hB4.mono ?_); (focus ((repeat (first | with_reducible exact Below.refl _ _ | with_reducible assumption | with_reducible refine Below.drew ?_ | with_reducible refine Below.alloc ?_ ?_ _ | with_reducible refine Below.setCell ?_ ?_ _ | (focus omega) | (focus (simp; done)) | (focus (simp; omega)))); done)); (first | (simp; done) | (simp; omega) | omega)); have hs4 := hBw4.size; (try have zz : wB.heap.size < w4.heap.size := (by have := hB4.size; (try simp at this); omega)); (try have zz : wB.heap.size + 1 < w4.heap.size := (by have := hB4.size; (try simp at this); omega)); obtain ⟨hcc4, hff4⟩ := bcellA hB4; have HB4 := Lib.hid hB4; clear hB4))
          | (go_at_call 13; ((with_reducible refine (HR2.out _ ?_).mono ?_); (focus ((repeat (first | with_reducible exact Below.refl _ _ | with_reducible assumption | with_reducible refine Below.drew ?_ | with_reducible refine Below.alloc ?_ ?_ _ | with_reducible refine Below.setCell ?_ ?_ _ | (focus omega) | (focus (simp; done)) | (focus (simp; omega)))); done)); rintro e w5 ⟨rY, rfl, HFY, HRY, hB5⟩; have hBw5 : Below wB.heap.size wB w5 := (by refine Below.trans ?_ (hB5.mono ?_); (focus ((repeat (first | with_reducible exact Below.refl _ _ | with_reducible assumption | with_reducible refine Below.drew ?_ | with_reducible refine Below.alloc ?_ ?_ _ | with_reducible refine Below.setCell ?_ ?_ _ | (focus omega) | (focus (simp; done)) | (focus (simp; omega)))); done)); (first | (simp; done) | (simp; omega) | omega)); have hs5 := hBw5.size; (try have zz : w4.heap.size < w5.heap.size := (by have := hB5.size; (try simp at this); omega)); (try have zz : w4.heap.size + 1 < w5.heap.size := (by have := hB5.size; (try simp at this); omega)); (try have zz : wB.heap.size < w5.heap.size := (by have := hB5.size; (try simp at this); omega)); (try have zz : wB.heap.size + 1 < w5.heap.size := (by have := hB5.size; (try simp at this); omega)); obtain ⟨hcc5, hff5⟩ := bcellA hB5; have HB5 := Lib.hid hB5; clear hB5)))
      all_goals (go_wp2_with fail; go_meet)
      all_goals refine ⟨_, _, rX, rY, rfl, rfl, HFX, HFY, Lib.hid ⟨by (repeat (first | (with_reducible refine blkA_new _ _ _ ?_; (first | omega | (simp; done) | (simp; omega)); done) | (with_reducible refine blkA_zero _ _ ?_; (first | omega | (simp; done) | (simp; omega)); done) | with_reducible refine blkA_put ?_ | (with_reducible refine blkA_other ?_ ?_; rotate_left; (focus (first | omega | (simp; done) | (simp; omega)))) | with_reducible refine Blk.alloc ?_ _ | with_reducible refine Blk.drew ?_ | (with_reducible refine Blk.below ?_ HB5.out ?_; rotate_left; (focus (first | omega | (simp; done) | (simp; omega)))) | (with_reducible refine Blk.below ?_ HB4.out ?_; rotate_left; (focus (first | omega | (simp; done) | (simp; omega)))))), by (repeat (first | (with_reducible refine blkA_new _ _ _ ?_; (first | omega | (simp; done) | (simp; omega)); done) | (with_reducible refine blkA_zero _ _ ?_; (first | omega | (simp; done) | (simp; omega)); done) | with_reducible refine blkA_put ?_ | (with_reducible refine blkA_other ?_ ?_; rotate_left; (focus (first | omega | (simp; done) | (simp; omega)))) | with_reducible refine Blk.alloc ?_ _ | with_reducible refine Blk.drew ?_ | (with_reducible refine Blk.below ?_ HB5.out ?_; rotate_left; (focus (first | omega | (simp; done) | (simp; omega)))) | (with_reducible refine Blk.below ?_ HB4.out ?_; rotate_left; (focus (first | omega | (simp; done) | (simp; omega)))))), by (repeat (first | with_reducible exact HRX.out | with_reducible exact HRY.out | with_reducible refine rightA_alloc ?_ _ | with_reducible refine rightA_drew ?_ | (with_reducible refine rightA_set (vs := acl0) ?_ ?_; rotate_left; (focus ((repeat (first | (with_reducible refine blkA_zero _ _ ?_; (first | omega | (simp; done) | (simp; omega)); done) | (with_reducible refine blkA_other ?_ ?_; rotate_left; (focus (first | omega | (simp; done) | (simp; omega)))) | with_reducible refine Blk.alloc ?_ _ | with_reducible refine Blk.drew ?_ | (with_reducible refine Blk.below ?_ HB5.out ?_; rotate_left; (focus (first | omega | (simp; done) | (simp; omega)))) | (with_reducible refine Blk.below ?_ HB4.out ?_; rotate_left; (focus (first | omega | (simp; done) | (simp; omega)))))); done))) | with_reducible refine Ac.Right.below ?_ HB5.out | with_reducible refine Ac.Right.below ?_ HB4.out)), by (repeat (first | with_reducible exact HRX.out | with_reducible exact HRY.out | with_reducible refine rightA_alloc ?_ _ | with_reducible refine rightA_drew ?_ | (with_reducible refine rightA_set (vs := acl0) ?_ ?_; rotate_left; (focus ((repeat (first | (with_reducible refine blkA_zero _ _ ?_; (first | omega | (simp; done) | (simp; omega)); done) | (with_reducible refine blkA_other ?_ ?_; rotate_left; (focus (first | omega | (simp; done) | (simp; omega)))) | with_reducible refine Blk.alloc ?_ _ | with_reducible refine Blk.drew ?_ | (with_reducible refine Blk.below ?_ HB5.out ?_; rotate_left; (focus (first | omega | (simp; done) | (simp; omega)))) | (with_reducible refine Blk.below ?_ HB4.out ?_; rotate_left; (focus (first | omega | (simp; done) | (simp; omega)))))); done))) | with_reducible refine Ac.Right.below ?_ HB5.out | with_reducible refine Ac.Right.below ?_ HB4.out)), by (repeat (first | with_reducible exact Below.refl _ _ | with_reducible assumption | with_reducible refine Below.drew ?_ | with_reducible refine Below.alloc ?_ ?_ _ | with_reducible refine Below.setCell ?_ ?_ _ | (focus omega) | (focus (simp; done)) | (focus (simp; omega)))), by (first | omega | (simp; done) | (simp; omega)), by (first | omega | (simp; done) | (simp; omega)), by (first | omega | (simp; done) | (simp; omega))⟩⟩
  case rest =>
    obtain ⟨gx, gy, rX, rY, rfl, rfl, HFX, HFY, HM⟩ := hcut
    have x0 := HM.out.x.cell 0
    have x1 := HM.out.x.cell 1
    have x2 := HM.out.x.cell 2
    have y0 := HM.out.y.cell 0
    have y1 := HM.out.y.cell 1
    have y2 := HM.out.y.cell 2
    have fx := HM.out.x.frozen 0
    have fy := HM.out.y.frozen 0
    simp only [acl, List.getElem?_cons_zero, List.getElem?_cons_succ] at x0 x1 x2 y0 y1 y2
    have hne := HM.out.ne
    have hne' := hne.symm
    clear a0 a1 a2 b0 b1 b2 HR1 HR2
    go_upto_region 7 with fail
    obtain ⟨wF, hwF⟩ : ∃ wF, (wc.setCell ⟨gx, 0, none⟩ (.bool false)).setCell ⟨gy, 0, none⟩ (.bool false) = wF := ⟨_, rfl⟩
    have kx : Blk wF gx 36 ((acl rX).set 0 (.bool false)) := hwF ▸ (HM.out.x.set 0 _).other hne 0 _
    have ky : Blk wF gy 36 ((acl rY).set 0 (.bool false)) := hwF ▸ (HM.out.y.other hne' 0 _).set 0 _
    have hrx : rX.Right k wB.heap.size wF := hwF ▸ rightA_set1 (rightA_set1 HM.out.rx HM.out.x) (HM.out.y.other hne' 0 _)
    have hry : rY.Right k wB.heap.size wF := hwF ▸ rightA_set1 (rightA_set1 HM.out.ry HM.out.x) (HM.out.y.other hne' 0 _)
    have hBF : Below wB.heap.size wB wF := hwF ▸ (HM.out.b.setCell HM.out.lx _).setCell HM.out.ly _
    rw [hwF]
    have hlx := HM.out.lx
    have hly := HM.out.ly
    have HRX := Lib.hid hrx
    have HRY := Lib.hid hry
    have HBF := Lib.hid hBF
    have hzx := kx.lt
    have hzy := ky.lt
    have x0 := kx.cell 0
    have x1 := kx.cell 1
    have x2 := kx.cell 2
    have y0 := ky.cell 0
    have y1 := ky.cell 1
    have y2 := ky.cell 2
    simp only [acl, List.set_cons_zero, List.getElem?_cons_zero, List.getElem?_cons_succ] at x0 x1 x2 y0 y1 y2
    have HKX := Lib.hid kx
    have HKY := Lib.hid ky
    have hsF := hBF.size
    have hBwF : Below w.heap.size w wF := HBW.out.trans (hBF.mono HBW.out.size)
    have HBWF := Lib.hid hBwF
    clear kx ky hrx hry hBF hwF HM hBwF fx fy
    rcases hfx : rX.fl with _ | _
    · rcases hfy : rY.fl with _ | _
      · obtain ⟨q, g, hq, hqk, hA, hc, hz, hgl, hkg⟩ := HRX.out.wr hfx
        obtain ⟨qy, g', hqy, hqyk, hA', hc', hz', hgl', hkg'⟩ := HRY.out.wr hfy
        have hkX := HKX.out
        have hkY := HKY.out
        unfold acl at hkX hkY
        simp only [List.set_cons_zero] at hkX hkY
        rw [hq] at x1 hkX
        rw [hA, hz, hc] at x2 hkX
        rw [hqy] at y1 hkY
        rw [hA', hz', hc'] at y2 hkY
        generalize rX.p.zs = zx at *
        generalize rY.p.zs = zy at *
        have HKX1 := Lib.hid hkX
        have HKY1 := Lib.hid hkY
        have HKG := Lib.hid hkg
        have HKG' := Lib.hid hkg'
        have hgs := hkg.lt
        have hgs' := hkg'.lt
        have hkD := HX.out.below HBF.out HX.out.lt
        have d0 := hkD.cell 0
        have d1 := hkD.cell 1
        simp only [List.getElem?_cons_zero, List.getElem?_cons_succ] at d0 d1
        have HKD := Lib.hid hkD
        have HDF := Lib.hid (HDr.out.below HBF.out)
        obtain ⟨hws, hps⟩ := st_ws HST.out
        have hws0 : D.ws.length = 0 := by simpa using hws
        have hpsk : D.ps.length = k := by simpa using hps
        have hok : D.st.ok := by rw [HST.out]; exact new_ok_st k hk2 (by omega)
        have HD1 := Lib.hid (do_one D hok hws0 q (by omega) g zx hz wF.heap.size wF HDF.out.zero hkg rfl)
        have HZ := Lib.hid hz
        have HZ' := Lib.hid hz'
        have HPS := Lib.hid hpsk
        have HWS := Lib.hid hws0
        have HOK := Lib.hid hok
        clear hq hqy hA hA' hc hc' hkX hkY hkg hkg' hkD hws hps hws0 hpsk hok hz hz' hfx hfy HKX HKY HRX HRY HFX HFY HX
        go_wp2_with fail
        refine HD1.out.mono ?_
        rintro e w3 ⟨E, rfl, HSE, HLE, hB3⟩
        have hs3 := hB3.size
        have hSE : E.st = ⟨List.replicate k z64, [((q : Int), zx)]⟩ := by rw [HSE.out, HST.out]; rfl
        obtain ⟨hwsE, hpsE⟩ := st_ws hSE
        have hws1 : E.ws.length = 1 := by simpa using hwsE
        have hpsk : E.ps.length = k := by simpa using hpsE
        have hokE : E.st.ok := by rw [hSE]; exact own_st_ok hk2 hk15 hqk HZ.out
        have HD2 := Lib.hid (fun n W h1 h2 h3 => do_two E hokE (by omega) qy (by omega) g' zy HZ'.out n W h1 h2 h3)
        have HSE1 := Lib.hid hSE
        have HWE := Lib.hid hws1
        have HPE := Lib.hid hpsk
        have HOKE := Lib.hid hokE
        have HB3 := Lib.hid hB3
        obtain ⟨w4, hw4⟩ : ∃ w4, w3.alloc (.cells #[.slice E.A E.ps.length E.c, .slice E.B E.ws.length E.d] 29) = w4 := ⟨_, rfl⟩
        have hB4 : Below w3.heap.size w3 w4 := hw4 ▸ (Below.refl _ w3).alloc (Nat.le_refl _) _
        have hkP : Blk w4 w3.heap.size 29 [.slice E.A E.ps.length E.c, .slice E.B E.ws.length E.d] := hw4 ▸ Blk.new w3 _ _
        have hBF4 : Below wF.heap.size wF w4 := hB3.trans (hB4.mono hs3)
        have hs4 := hB4.size
        have hkY4 := HKY1.out.below hBF4 hzy
        have hsY4 : gy < w4.heap.size := by omega
        have hsP4 := hkP.lt
        have y0' := hkY4.cell 0
        have y1' := hkY4.cell 1
        have y2' := hkY4.cell 2
        have p0 := hkP.cell 0
        have p1 := hkP.cell 1
        simp only [List.getElem?_cons_zero, List.getElem?_cons_succ] at y0' y1' y2' p0 p1
        have HKP := Lib.hid hkP
        have HLE4 := Lib.hid (HLE.out.below hB4)
        have HBF4 := Lib.hid hBF4
        have HD2' := Lib.hid (HD2.out w4.heap.size w4 HLE4.out.zero (HKG'.out.below hBF4 hgs') rfl)
        clear hB3 hB4 hBF4 hkP hkY4 hSE hwsE hpsE hws1 hpsk hokE HSE HD1 HD2 y0 y1 y2
        go_wp2_with fail
        clear hw4 y0' y1' y2' p0 p1
        refine HD2'.out.mono ?_
        rintro e w5 ⟨F, rfl, HWF, hB5⟩
        obtain ⟨w6, hw6⟩ : ∃ w6, w5.alloc (.cells #[.slice F.A F.ps.length F.c, .slice F.B F.ws.length F.d] 29) = w6 := ⟨_, rfl⟩
        have hB6 : Below w5.heap.size w5 w6 := hw6 ▸ (Below.refl _ w5).alloc (Nat.le_refl _) _
        have hkQ : Blk w6 w5.heap.size 29 [.slice F.A F.ps.length F.c, .slice F.B F.ws.length F.d] := hw6 ▸ Blk.new w5 _ _
        have hs5 := hB5.size
        have hs6 := hB6.size
        have hB46 : Below w4.heap.size w4 w6 := hB5.trans (hB6.mono hs5)
        have hBF6 : Below wF.heap.size wF w6 := HBF4.out.trans (hB46.mono HBF4.out.size)
        have hkX6 := HKX1.out.below hBF6 hzx
        have hkG6 := HKG.out.below hBF6 hgs
        have x0' := hkX6.cell 0
        have x1' := hkX6.cell 1
        have x2' := hkX6.cell 2
        simp only [List.getElem?_cons_zero, List.getElem?_cons_succ] at x0' x1' x2'
        have hcv := conv_at w6 (some ⟨g, 0, none⟩) 64 zx HZ.out (blk_reads hkG6)
        have HKP6 := Lib.hid (HKP.out.below hB46 hsP4)
        have HBF6 := Lib.hid hBF6
        have hsQ6 := hkQ.lt
        have hsP6 := (HKP.out.below hB46 hsP4).lt
        have HLE6 := Lib.hid (HLE4.out.below hB46)
        have HKQ := Lib.hid hkQ
        have HKX6 := Lib.hid hkX6
        have HKG6 := Lib.hid hkG6
        have HBR6 : Hid (Below wB.heap.size wB w6) := Lib.hid (HBF.out.trans (hBF6.mono hsF))
        have hsX6 : gx < w6.heap.size := by have := hBF6.size; omega
        have hgl6 : g < wF.heap.size := hgs
        have hF3 : wF.heap.size ≤ w3.heap.size := hs3
        clear hB5 hB6 hkQ hB46 hBF6 hkX6 hkG6 HD2' HKP HLE4 HBF4
        go_wp2
        have hgxg : gx ≠ g := by
          rintro rfl
          have h1 := HKX6.out
          have h2 := HKG6.out
          unfold Blk at h1 h2
          rw [h1] at h2
          injection h2 with h2
          injection h2 with _ h2
          cases h2
        have hg6 := HKG6.out.lt
        generalize hss : strOfNums zx = ss at *
        have HSS := Lib.hid hss
        clear hss hcv x0' x1' x2' x0 x1 x2 d0 d1
        go_loopw [16] (fun i W => ∃ (j : Nat) (zs : List Int), j ≤ 64 ∧ i = .int .i64 j ∧ Hid (zs.length = 64) ∧ Hid (Blk W g 5 (ocl zs)) ∧ Hid (Out g (g + 1) w6.heap.size w6 W)) (fun i _ => 64 - (intOf i).toNat)
        case atStart => exact ⟨0, zx, by omega, rfl, HZ, HKG6, Lib.hid (Out.refl _ _ _ _)⟩
        case round =>
          obtain ⟨j, zs, hj, rfl, HL, HG, HO⟩ := hrel
          have hkx := (HO.out.block gx hsX6 (by omega)).trans HKX6.out
          have x2' := Blk.cell (show Blk wr gx 36 [.bool false, .int .i64 q, .slice (some ⟨g, 0, none⟩) 64 64] from hkx) 2
          have x1' := Blk.cell (show Blk wr gx 36 [.bool false, .int .i64 q, .slice (some ⟨g, 0, none⟩) 64 64] from hkx) 1
          simp only [List.getElem?_cons_zero, List.getElem?_cons_succ] at x1' x2'
          have hsz := HO.out.size
          clear hkx
          by_cases hlt : j < 64
          · as_aux_lemma =>
              obtain ⟨z, hz⟩ : ∃ z, zs[j]? = some z := ⟨_, List.getElem?_eq_getElem (by rw [HL.out]; exact hlt)⟩
              have hgz : wr.cell? ⟨g, j, none⟩ = some (.int .u8 z) := by rw [HG.out.cell j, ocl, List.getElem?_map, hz]; rfl
              have fg := (HG.out.below (Below.refl wr.heap.size wr).drew HG.out.lt).frozen j
              have hgzd : wr.drew.cell? ⟨g, j, none⟩ = some (.int .u8 z) := hgz
              have HSD : wr.drew.cell? ⟨gx, 2, none⟩ = some (.slice (some ⟨g, 0, none⟩) 64 64) ∧ wr.drew.cell? ⟨g, j, none⟩ = some (.int .u8 z) := ⟨x2', hgz⟩
              clear hz x1'
              go_wp2_with fail
              refine wp_region_noPanic ?_
              refine wp_region_last 10 (fun W' => W'.cell? ⟨gx, 2, none⟩ = some (.slice (some ⟨g, 0, none⟩) 64 64) ∧ W'.cell? ⟨g, j, none⟩ = some (.int .u8 z)) (by kernel_rfl) HSD (fun hHeld => ?_)
              refine wpAnyL_take 12 (i := 0) (oi := ⟨some 73, _, _, _, _, _⟩) (v := ?_) rfl (by kernel_rfl) (by kernel_rfl) (by kernel_rfl) (by kernel_rfl) (by kernel_rfl) (by kernel_rfl) (by kernel_rfl) (fun _ _ _ h => h) (Or.inl ⟨by rfl, ?_⟩) hHeld ?_
              rotate_left
              focus (intro w hSw; (try dsimp only at hSw); go_simp; try (with_reducible rfl))
              try simp only [Act.put, List.setIfInBounds_toArray, List.set_cons_zero, List.set_cons_succ]
              refine wpAnyL_take 12 (i := 1) (oi := ⟨some 74, _, _, _, _, _⟩) (v := ?_) rfl (by kernel_rfl) (by kernel_rfl) (by kernel_rfl) (by kernel_rfl) (by kernel_rfl) (by kernel_rfl) (by kernel_rfl) (fun _ _ _ h => h) (Or.inl ⟨by rfl, ?_⟩) hHeld ?_
              rotate_left
              focus (intro w hSw; (try dsimp only at hSw); go_simp; try (with_reducible rfl))
              try simp only [Act.put, List.setIfInBounds_toArray, List.set_cons_zero, List.set_cons_succ]
              refine wpAnyL_take 12 (i := 2) (oi := ⟨some 75, _, _, _, _, _⟩) (v := ?_) rfl (by kernel_rfl) (by kernel_rfl) (by kernel_rfl) (by kernel_rfl) (by kernel_rfl) (by kernel_rfl) (by kernel_rfl) (fun _ _ _ h => h) (Or.inl ⟨by rfl, ?_⟩) hHeld ?_
              rotate_left
              focus (intro w hSw; (try dsimp only at hSw); go_simp; try (with_reducible rfl))
              try simp only [Act.put, List.setIfInBounds_toArray, List.set_cons_zero, List.set_cons_succ]
              refine wpAnyL_take 12 (i := 3) (oi := ⟨some 76, _, _, _, _, _⟩) (v := ?_) rfl (by kernel_rfl) (by kernel_rfl) (by kernel_rfl) (by kernel_rfl) (by kernel_rfl) (by kernel_rfl) (by kernel_rfl) (fun _ _ _ h => h) (Or.inl ⟨by rfl, ?_⟩) hHeld ?_
              rotate_left
              focus (intro w hSw; (try dsimp only at hSw); go_simp; try (with_reducible rfl))
              try simp only [Act.put, List.setIfInBounds_toArray, List.set_cons_zero, List.set_cons_succ]
              refine wpAnyL_take 12 (i := 4) (oi := ⟨some 77, _, _, _, _, _⟩) (v := ?_) rfl (by kernel_rfl) (by kernel_rfl) (by kernel_rfl) (by kernel_rfl) (by kernel_rfl) (by kernel_rfl) (by kernel_rfl) (fun _ _ _ h => h) (Or.inl ⟨by rfl, ?_⟩) hHeld ?_
              rotate_left
              focus (intro w hSw; (try dsimp only at hSw); go_simp; try (with_reducible rfl))
              try simp only [Act.put, List.setIfInBounds_toArray, List.set_cons_zero, List.set_cons_succ]
              refine wpAnyL_take 12 (i := 5) (oi := ⟨some 78, _, _, _, _, _⟩) (v := ?_) rfl (by kernel_rfl) (by kernel_rfl) (by kernel_rfl) (by kernel_rfl) (by kernel_rfl) (by kernel_rfl) (by kernel_rfl) (fun _ _ _ h => h) (Or.inl ⟨by rfl, ?_⟩) hHeld ?_
              rotate_left
              focus (intro w hSw; (try dsimp only at hSw); go_simp; try (with_reducible rfl))
              try simp only [Act.put, List.setIfInBounds_toArray, List.set_cons_zero, List.set_cons_succ]
              refine wpAnyL_take 12 (i := 6) (oi := ⟨some 79, _, _, _, _, _⟩) (v := ?_) rfl (by kernel_rfl) (by kernel_rfl) (by kernel_rfl) (by kernel_rfl) (by kernel_rfl) (by kernel_rfl) (by kernel_rfl) (fun _ _ _ h => h) (Or.inl ⟨by rfl, ?_⟩) hHeld ?_
              rotate_left
              focus (intro w hSw; (try dsimp only at hSw); go_simp; try (with_reducible rfl))
              try simp only [Act.put, List.setIfInBounds_toArray, List.set_cons_zero, List.set_cons_succ]
              refine wpAnyL_take 12 (i := 7) (oi := ⟨some 80, _, _, _, _, _⟩) (v := ?_) rfl (by kernel_rfl) (by kernel_rfl) (by kernel_rfl) (by kernel_rfl) (by kernel_rfl) (by kernel_rfl) (by kernel_rfl) (fun _ _ _ h => h) (Or.inl ⟨by rfl, ?_⟩) hHeld ?_
              rotate_left
              focus (intro w hSw; (try dsimp only at hSw); go_simp; try (with_reducible rfl))
              try simp only [Act.put, List.setIfInBounds_toArray, List.set_cons_zero, List.set_cons_succ]
              refine wpAnyL_take 12 (i := 8) (oi := ⟨some 81, _, _, _, _, _⟩) (v := ?_) rfl (by kernel_rfl) (by kernel_rfl) (by kernel_rfl) (by kernel_rfl) (by kernel_rfl) (by kernel_rfl) (by kernel_rfl) (fun _ _ _ h => h) (Or.inl ⟨by rfl, ?_⟩) hHeld ?_
              rotate_left
              focus (intro w hSw; (try dsimp only at hSw); go_simp; try (with_reducible rfl))
              try simp only [Act.put, List.setIfInBounds_toArray, List.set_cons_zero, List.set_cons_succ]
              refine wpAnyL_take 12 (i := 9) (oi := ⟨some 82, _, _, _, _, _⟩) (v := ?_) rfl (by kernel_rfl) (by kernel_rfl) (by kernel_rfl) (by kernel_rfl) (by kernel_rfl) (by kernel_rfl) (by kernel_rfl) (fun _ _ _ h => h) (Or.inl ⟨by rfl, ?_⟩) hHeld ?_
              rotate_left
              focus (intro w hSw; (try dsimp only at hSw); go_simp; try (with_reducible rfl))
              try simp only [Act.put, List.setIfInBounds_toArray, List.set_cons_zero, List.set_cons_succ]
              refine wpAnyL_last (i := 10) (o := ⟨none, _, _, _, _, _⟩) (by kernel_rfl) rfl (by kernel_rfl) (fun K hK => ?_)
              clear hHeld
              go_simp
              go_wp2_with fail
              refine hK.out _ _ ?_
              clear hK K
              try simp only [Act.put, List.setIfInBounds_toArray, List.set_cons_zero, List.set_cons_succ]
              refine wpAnyL_done (by kernel_rfl) ?_ _
              refine NoPanic.normal ?_
              go_wp2
              go_roundw
              case rel =>
                refine ⟨j + 1, zs.set j (bits BinOp.xor IntKind.u8 z 255), by omega, by go_num, Lib.hid (by rw [List.length_set]; exact HL.out), Lib.hid ?_, Lib.hid ?_⟩
                · show Blk _ _ _ _
                  have kk := HG.out.set j (.int .u8 (bits BinOp.xor IntKind.u8 z 255))
                  rw [ocl_set] at kk
                  exact kk.below (Below.refl _ _).drew kk.lt
                · exact (HO.out.trans (Out.set _ g j _ (Nat.le_refl _) (by omega))).trans (Out.of_below (Below.refl _ _).drew)
              case measure => simp [intOf]; omega
          · as_aux_lemma =>
              generalize hW7 : wr = w7 at *
              have hP7 : Blk w7 w3.heap.size 29 [.slice E.A E.ps.length E.c, .slice E.B E.ws.length E.d] := (HO.out.block w3.heap.size hsP6 (.inr (by omega))).trans HKP6.out
              have hQ7 : Blk w7 w5.heap.size 29 [.slice F.A F.ps.length F.c, .slice F.B F.ws.length F.d] := (HO.out.block w5.heap.size hsQ6 (.inr (by omega))).trans HKQ.out
              have hBF6' := HBF6.out
              have hsF6 := hBF6'.size
              have hD6 : Blk w6 w2.heap.size 29 [.slice D.A D.ps.length D.c, .slice D.B D.ws.length D.d] := HKD.out.below hBF6' HKD.out.lt
              have hD7 : Blk w7 w2.heap.size 29 [.slice D.A D.ps.length D.c, .slice D.B D.ws.length D.d] := (HO.out.block w2.heap.size hD6.lt (.inl (by omega))).trans hD6
              have hX7 : Blk w7 gx 36 [.bool false, .int .i64 q, .slice (some ⟨g, 0, none⟩) 64 64] := (HO.out.block gx hsX6 (by omega)).trans HKX6.out
              have hE7 : E.Lies 0 w7 := (HLE6.out.stays HO.out.size (fun b h1 h2 => HO.out.block b h2 (.inr (by omega)))).zero
              have hB7 : Below wB.heap.size wB w7 := HBR6.out.trans (HO.out.below (by have := HBR6.out.size; omega) hgl)
              have hL7 : D.Lies 0 w7 := (HDr.out.below hB7).zero
              have p0 := hP7.cell 0
              have p1 := hP7.cell 1
              simp only [List.getElem?_cons_zero, List.getElem?_cons_succ] at p0 p1
              have HP7 := Lib.hid hP7
              have HQ7 := Lib.hid hQ7
              have HD7 := Lib.hid hD7
              have HX7 := Lib.hid hX7
              have HE7 := Lib.hid hE7
              have HL7 := Lib.hid hL7
              have HB7 := Lib.hid (HBW.out.trans (hB7.mono HBW.out.size))
              have hlp := hP7.lt
              have hlq := hQ7.lt
              have hld := hD7.lt
              have hlx7 := hX7.lt
              have HR1 := Lib.hid (fun W hW => read_ok E HOKE.out (by rw [HWE.out]; omega) q (by rw [HPE.out]; exact hqk) W hW)
              have HR2 := Lib.hid (fun W hW => read_ok D HOK.out (by rw [HWS.out]; omega) q (by rw [HPS.out]; exact hqk) W hW)
              clear hP7 hQ7 hD7 hX7 hE7 hL7 hB7 hD6 hBF6' HG HO HL x2' hW7 HKG6 HKX6 HKP6 HKQ HKD HBF6 HLE6 HKX1 HKY1 HKG HKG' HDF HDr HBR6 hsF6
              go_wp2_with fail
              refine (HR1.out w7 HE7.out).mono ?_
              rintro e w8 ⟨g1, c1, rfl, ho1, hB8⟩
              have hs8 := hB8.size
              have hd8 := HD7.out.below hB8 hld
              have hx8 := HX7.out.below hB8 hlx7
              have d0 := hd8.cell 0
              have d1 := hd8.cell 1
              have x1 := hx8.cell 1
              simp only [List.getElem?_cons_zero, List.getElem?_cons_succ] at d0 d1 x1
              have hld8 := hd8.lt
              have hlx8 := hx8.lt
              have HO1 := Lib.hid ho1
              have HL8 := Lib.hid (HL7.out.below hB8)
              have HB8 := Lib.hid hB8
              clear ho1 hB8 hd8 hx8 p0 p1 x1'
              go_wp2_with fail
              refine (HR2.out w8 HL8.out).mono ?_
              rintro e w9 ⟨g2, c2, rfl, ho2, hB9⟩
              have hs9 := hB9.size
              have HO1' := Lib.hid (own_stay HO1.out (fun b hb => hB9.block b (HO1.out.lt b hb).2))
              have HO2 := Lib.hid ho2
              have hg1 := HO1.out.lt g1 rfl
              have hg2 := ho2.lt g2 rfl
              obtain ⟨hg1a, hg1b⟩ := hg1
              obtain ⟨hg2a, hg2b⟩ := hg2
              have HB79 := Lib.hid (HB8.out.trans (hB9.mono hs8))
              have hzl : (readS E.st q).length = 64 := by rw [HSE1.out, readS_one hqk]; exact HZ.out
              have HZL := Lib.hid hzl
              clear ho2 hB9 d0 d1 x1 HO1 hzl
              go_wp2
              go_loopw [21] (fun i W => ∃ (j : Nat) (zs : List Int), j ≤ 64 ∧ i = .int .i64 j ∧ Hid (zs.length = 64) ∧ Hid (W.ownsRow w7.heap.size 5 1 (.slice (some ⟨g1, 0, none⟩) 64 c1) 64 (ocl zs)) ∧ Hid (Out g1 (g1 + 1) w9.heap.size w9 W)) (fun i _ => 64 - (intOf i).toNat)
              case atStart => exact ⟨0, readS E.st q, by omega, rfl, HZL, HO1', Lib.hid (Out.refl _ _ _ _)⟩
              case round =>
                obtain ⟨j2, zs2, hj2, rfl, HL2, HG2, HO2'⟩ := hrel
                by_cases hlt2 : j2 < 64
                · as_aux_lemma =>
                    obtain ⟨z, hz⟩ : ∃ z, zs2[j2]? = some z := ⟨_, List.getElem?_eq_getElem (by rw [HL2.out]; exact hlt2)⟩
                    have hgz : wr.cell? ⟨g1, j2, none⟩ = some (.int .u8 z) := by rw [HG2.out.cellAt j2 (by omega), ocl, List.getElem?_map, hz]; rfl
                    have fg := HG2.out.frozenAt j2
                    clear hz
                    go_wp2
                    go_roundw
                    case rel =>
                      refine ⟨j2 + 1, zs2.set j2 (bits BinOp.xor IntKind.u8 z 255), by omega, by go_num, Lib.hid (by rw [List.length_set]; exact HL2.out), Lib.hid ?_, Lib.hid ?_⟩
                      · have kk := (HG2.out.stored j2 (.int .u8 (bits BinOp.xor IntKind.u8 z 255))).1
                        rw [ocl_set] at kk
                        exact kk
                      · exact HO2'.out.trans (Out.set _ g1 j2 _ (Nat.le_refl _) (by omega))
                    case measure => simp [intOf]; omega
                · generalize hW10 : wr = w10 at *
                  have hO2 := HO2'.out
                  have hs10 := hO2.size
                  have hB710 : Below w7.heap.size w7 w10 := HB79.out.trans (hO2.below (by omega) hg1a)
                  have hp10 := HP7.out.below hB710 hlp
                  have hx10 := HX7.out.below hB710 hlx7
                  have p0 := hp10.cell 0
                  have p1 := hp10.cell 1
                  have x1 := hx10.cell 1
                  simp only [List.getElem?_cons_zero, List.getElem?_cons_succ] at p0 p1 x1
                  have hlp10 := hp10.lt
                  have hlx10 := hx10.lt
                  have HO2r := Lib.hid (own_stay HO2.out (fun b hb => hO2.block b (HO2.out.lt b hb).2 (by
                    have hbb : b = g2 := by simpa [Value.ownBlock] using hb.symm
                    omega)))
                  have HE10 := Lib.hid (HE7.out.below hB710)
                  have HB710 := Lib.hid hB710
                  clear hO2 hB710 hp10 hx10 HG2 HO2' HL2 hW10 HO1' HB79 HO2
                  go_wp2_with fail
                  refine (HR1.out w10 HE10.out).mono ?_
                  rintro e w11 ⟨g3, c3, rfl, ho3, hB11⟩
                  have hB711 : Below w7.heap.size w7 w11 := HB710.out.trans (hB11.mono HB710.out.size)
                  have hp11 := HP7.out.below hB711 hlp
                  have hq11 := HQ7.out.below hB711 hlq
                  have p1' := hp11.cell 1
                  have q1' := hq11.cell 1
                  simp only [List.getElem?_cons_zero, List.getElem?_cons_succ] at p1' q1'
                  rw [HWE.out] at p1'
                  rw [HWF.out] at q1'
                  have hru : Rd w11 (some ⟨g3, 0, none⟩) (ocl (readS E.st q)) := (RdF.of_own ho3).1
                  rw [HSE1.out, readS_one hqk] at hru
                  have hrt : Rd w11 (some ⟨g2, 0, none⟩) (ocl (readS D.st q)) := ((RdF.of_own HO2r.out).1).below hB11
                  rw [HST.out, readS_none hqk] at hrt
                  have hlp11 := hp11.lt
                  have hlq11 := hq11.lt
                  obtain ⟨s0, hs0⟩ : ∃ s0, strOfNums z64 = s0 := ⟨_, rfl⟩
                  have hSall : ∀ W', Below w11.heap.size w11 W' → W'.cell? ⟨w3.heap.size, 1, none⟩ = some (.slice E.B 1 E.d) ∧ W'.cell? ⟨w5.heap.size, 1, none⟩ = some (.slice F.B 0 F.d) ∧ (convert 34 9 (.slice (some ⟨g3, 0, none⟩) 64 c3)).run Try.prog W' = .ok (.string ss) W' ∧ (convert 34 9 (.slice (some ⟨g2, 0, none⟩) 64 c2)).run Try.prog W' = .ok (.string s0) W' := fun W' h =>
                    ⟨(h.cell (p := ⟨w3.heap.size, 1, none⟩) hlp11).trans p1', (h.cell (p := ⟨w5.heap.size, 1, none⟩) hlq11).trans q1', HSS.out ▸ conv_at W' (some ⟨g3, 0, none⟩) c3 zx HZ.out (hru.below h), hs0 ▸ conv_at W' (some ⟨g2, 0, none⟩) c2 z64 z64_length (hrt.below h)⟩
                  have hmk := make64
                  have hcz : ∀ W : World, (convert 34 9 (.slice (some ⟨W.heap.size, 0, none⟩) 64 64)).run Try.prog (W.alloc (.cells z64A 5)).drew = .ok (.string s0) (W.alloc (.cells z64A 5)).drew := fun W => by
                    rw [← hs0]
                    exact conv64 W.drew
                  have HSA := Lib.hid hSall
                  have HBE := Lib.hid (HB7.out.trans (hB711.mono HB7.out.size))
                  clear hSall hru hrt p1' q1' hp11 hq11 hB711 hB11 ho3 hs0 p0 p1 x1 HO2r
                  go_wp2_with fail
                  refine wp_region_noPanic ?_
                  refine wp_region_last 39 (fun W' => W'.cell? ⟨w3.heap.size, 1, none⟩ = some (.slice E.B 1 E.d) ∧ W'.cell? ⟨w5.heap.size, 1, none⟩ = some (.slice F.B 0 F.d) ∧ (convert 34 9 (.slice (some ⟨g3, 0, none⟩) 64 c3)).run Try.prog W' = .ok (.string ss) W' ∧ (convert 34 9 (.slice (some ⟨g2, 0, none⟩) 64 c2)).run Try.prog W' = .ok (.string s0) W') (by kernel_rfl) (HSA.out _ (Below.refl _ _).drew) (fun hHeld => ?_)
                  refine wpAnyL_take 12 (i := 0) (oi := ⟨some 118, _, _, _, _, _⟩) (v := ?_) rfl (by kernel_rfl) (by kernel_rfl) (by kernel_rfl) (by kernel_rfl) (by kernel_rfl) (by kernel_rfl) (by kernel_rfl) (fun _ _ _ h => h) (Or.inl ⟨by rfl, ?_⟩) hHeld ?_
                  rotate_left
                  focus (intro w hSw; (try dsimp only at hSw); go_simp; try (with_reducible rfl))
                  try simp only [Act.put, List.setIfInBounds_toArray, List.set_cons_zero, List.set_cons_succ]
                  refine wpAnyL_take 12 (i := 2) (oi := ⟨some 120, _, _, _, _, _⟩) (v := ?_) rfl (by kernel_rfl) (by kernel_rfl) (by kernel_rfl) (by kernel_rfl) (by kernel_rfl) (by kernel_rfl) (by kernel_rfl) (fun _ _ _ h => h) (Or.inl ⟨by rfl, ?_⟩) hHeld ?_
                  rotate_left
                  focus (intro w hSw; (try dsimp only at hSw); go_simp; try (with_reducible rfl))
                  try simp only [Act.put, List.setIfInBounds_toArray, List.set_cons_zero, List.set_cons_succ]
                  refine wpAnyL_take 12 (i := 5) (oi := ⟨some 123, _, _, _, _, _⟩) (v := ?_) rfl (by kernel_rfl) (by kernel_rfl) (by kernel_rfl) (by kernel_rfl) (by kernel_rfl) (by kernel_rfl) (by kernel_rfl) (fun _ _ _ h => h) (Or.inl ⟨by rfl, ?_⟩) hHeld ?_
                  rotate_left
                  focus (intro w hSw; (try dsimp only at hSw); go_simp; try (with_reducible rfl))
                  try simp only [Act.put, List.setIfInBounds_toArray, List.set_cons_zero, List.set_cons_succ]
                  refine wpAnyL_take 12 (i := 8) (oi := ⟨some 126, _, _, _, _, _⟩) (v := ?_) rfl (by kernel_rfl) (by kernel_rfl) (by kernel_rfl) (by kernel_rfl) (by kernel_rfl) (by kernel_rfl) (by kernel_rfl) (fun _ _ _ h => h) (Or.inl ⟨by rfl, ?_⟩) hHeld ?_
                  rotate_left
                  focus (intro w hSw; (try dsimp only at hSw); go_simp; try (with_reducible rfl))
                  try simp only [Act.put, List.setIfInBounds_toArray, List.set_cons_zero, List.set_cons_succ]
                  refine wpAnyL_take 12 (i := 11) (oi := ⟨some 129, _, _, _, _, _⟩) (v := ?_) rfl (by kernel_rfl) (by kernel_rfl) (by kernel_rfl) (by kernel_rfl) (by kernel_rfl) (by kernel_rfl) (by kernel_rfl) (fun _ _ _ h => h) (Or.inl ⟨by rfl, ?_⟩) hHeld ?_
                  rotate_left
                  focus (intro w hSw; (try dsimp only at hSw); go_simp; try (with_reducible rfl))
                  try simp only [Act.put, List.setIfInBounds_toArray, List.set_cons_zero, List.set_cons_succ]
                  refine wpAnyL_one (i := 1) (o := ⟨some 119, _, _, _, _, _⟩) (by kernel_rfl) rfl (fun K hK => ?_)
                  clear hHeld
                  go_simp
                  refine (num_any _ _).mono ?_
                  rintro e w' ⟨rfl, rfl⟩
                  go_wp2_with fail
                  refine hK.out _ _ (HSA.out _ (Below.refl _ _).drew) (fun hHeld => ?_)
                  clear hK K
                  try simp only [Act.put, List.setIfInBounds_toArray, List.set_cons_zero, List.set_cons_succ]
                  refine wpAnyL_one (i := 3) (o := ⟨some 121, _, _, _, _, _⟩) (by kernel_rfl) rfl (fun K hK => ?_)
                  clear hHeld
                  go_simp
                  refine (num_any _ _).mono ?_
                  rintro e w' ⟨rfl, rfl⟩
                  go_wp2_with fail
                  refine hK.out _ _ (HSA.out _ (Below.refl _ _).drew) (fun hHeld => ?_)
                  clear hK K
                  try simp only [Act.put, List.setIfInBounds_toArray, List.set_cons_zero, List.set_cons_succ]
                  refine wpAnyL_take 12 (i := 4) (oi := ⟨some 122, _, _, _, _, _⟩) (v := ?_) rfl (by kernel_rfl) (by kernel_rfl) (by kernel_rfl) (by kernel_rfl) (by kernel_rfl) (by kernel_rfl) (by kernel_rfl) (fun _ _ _ h => h) (Or.inl ⟨by rfl, ?_⟩) hHeld ?_
                  rotate_left
                  focus (intro w hSw; (try dsimp only at hSw); go_simp; try (with_reducible rfl))
                  try simp only [Act.put, List.setIfInBounds_toArray, List.set_cons_zero, List.set_cons_succ]
                  refine wpAnyL_one (i := 6) (o := ⟨some 124, _, _, _, _, _⟩) (by kernel_rfl) rfl (fun K hK => ?_)
                  clear hHeld
                  go_simp
                  refine (num_any _ _).mono ?_
                  rintro e w' ⟨rfl, rfl⟩
                  go_wp2_with fail
                  refine hK.out _ _ (HSA.out _ (Below.refl _ _).drew) (fun hHeld => ?_)
                  clear hK K
                  try simp only [Act.put, List.setIfInBounds_toArray, List.set_cons_zero, List.set_cons_succ]
                  refine wpAnyL_take 12 (i := 7) (oi := ⟨some 125, _, _, _, _, _⟩) (v := ?_) rfl (by kernel_rfl) (by kernel_rfl) (by kernel_rfl) (by kernel_rfl) (by kernel_rfl) (by kernel_rfl) (by kernel_rfl) (fun _ _ _ h => h) (Or.inl ⟨by rfl, ?_⟩) hHeld ?_
                  rotate_left
                  focus (intro w hSw; (try dsimp only at hSw); go_simp; try (with_reducible rfl))
                  try simp only [Act.put, List.setIfInBounds_toArray, List.set_cons_zero, List.set_cons_succ]
                  refine wpAnyL_one (i := 9) (o := ⟨some 127, _, _, _, _, _⟩) (by kernel_rfl) rfl (fun K hK => ?_)
                  clear hHeld
                  go_simp
                  refine (num_any _ _).mono ?_
                  rintro e w' ⟨rfl, rfl⟩
                  go_wp2_with fail
                  refine hK.out _ _ (HSA.out _ (Below.refl _ _).drew) (fun hHeld => ?_)
                  clear hK K
                  try simp only [Act.put, List.setIfInBounds_toArray, List.set_cons_zero, List.set_cons_succ]
                  refine wpAnyL_take 12 (i := 10) (oi := ⟨some 128, _, _, _, _, _⟩) (v := ?_) rfl (by kernel_rfl) (by kernel_rfl) (by kernel_rfl) (by kernel_rfl) (by kernel_rfl) (by kernel_rfl) (by kernel_rfl) (fun _ _ _ h => h) (Or.inl ⟨by rfl, ?_⟩) hHeld ?_
                  rotate_left
                  focus (intro w hSw; (try dsimp only at hSw); go_simp; try (with_reducible rfl))
                  try simp only [Act.put, List.setIfInBounds_toArray, List.set_cons_zero, List.set_cons_succ]
                  refine wpAnyL_one (i := 12) (o := ⟨some 130, _, _, _, _, _⟩) (by kernel_rfl) rfl (fun K hK => ?_)
                  clear hHeld
                  go_simp
                  refine (num_any _ _).mono ?_
                  rintro e w' ⟨rfl, rfl⟩
                  go_wp2_with fail
                  refine hK.out _ _ (HSA.out _ (Below.refl _ _).drew) (fun hHeld => ?_)
                  clear hK K
                  try simp only [Act.put, List.setIfInBounds_toArray, List.set_cons_zero, List.set_cons_succ]
                  refine wpAnyL_take 12 (i := 13) (oi := ⟨some 131, _, _, _, _, _⟩) (v := ?_) rfl (by kernel_rfl) (by kernel_rfl) (by kernel_rfl) (by kernel_rfl) (by kernel_rfl) (by kernel_rfl) (by kernel_rfl) (fun _ _ _ h => h) (Or.inl ⟨by rfl, ?_⟩) hHeld ?_
                  rotate_left
                  focus (intro w hSw; (try dsimp only at hSw); go_simp; try (with_reducible rfl))
                  try simp only [Act.put, List.setIfInBounds_toArray, List.set_cons_zero, List.set_cons_succ]
                  refine wpAnyL_take 12 (i := 14) (oi := ⟨some 132, _, _, _, _, _⟩) (v := ?_) rfl (by kernel_rfl) (by kernel_rfl) (by kernel_rfl) (by kernel_rfl) (by kernel_rfl) (by kernel_rfl) (by kernel_rfl) (fun _ _ _ h => h) (Or.inl ⟨by rfl, ?_⟩) hHeld ?_
                  rotate_left
                  focus (intro w hSw; (try dsimp only at hSw); go_simp; try (with_reducible rfl))
                  try simp only [Act.put, List.setIfInBounds_toArray, List.set_cons_zero, List.set_cons_succ]
                  refine wpAnyL_take 12 (i := 15) (oi := ⟨some 133, _, _, _, _, _⟩) (v := ?_) rfl (by kernel_rfl) (by kernel_rfl) (by kernel_rfl) (by kernel_rfl) (by kernel_rfl) (by kernel_rfl) (by kernel_rfl) (fun _ _ _ h => h) (Or.inl ⟨by rfl, ?_⟩) hHeld ?_
                  rotate_left
                  focus (intro w hSw; (try dsimp only at hSw); go_simp; try (with_reducible rfl))
                  try simp only [Act.put, List.setIfInBounds_toArray, List.set_cons_zero, List.set_cons_succ]
                  refine wpAnyL_take 12 (i := 16) (oi := ⟨some 134, _, _, _, _, _⟩) (v := ?_) rfl (by kernel_rfl) (by kernel_rfl) (by kernel_rfl) (by kernel_rfl) (by kernel_rfl) (by kernel_rfl) (by kernel_rfl) (fun _ _ _ h => h) (Or.inl ⟨by rfl, ?_⟩) hHeld ?_
                  rotate_left
                  focus (intro w hSw; (try dsimp only at hSw); go_simp; try (with_reducible rfl))
                  try simp only [Act.put, List.setIfInBounds_toArray, List.set_cons_zero, List.set_cons_succ]
                  refine wpAnyL_take 12 (i := 17) (oi := ⟨some 135, _, _, _, _, _⟩) (v := ?_) rfl (by kernel_rfl) (by kernel_rfl) (by kernel_rfl) (by kernel_rfl) (by kernel_rfl) (by kernel_rfl) (by kernel_rfl) (fun _ _ _ h => h) (Or.inl ⟨by rfl, ?_⟩) hHeld ?_
                  rotate_left
                  focus (intro w hSw; (try dsimp only at hSw); go_simp; try (with_reducible rfl))
                  try simp only [Act.put, List.setIfInBounds_toArray, List.set_cons_zero, List.set_cons_succ]
                  refine wpAnyL_take 12 (i := 18) (oi := ⟨some 136, _, _, _, _, _⟩) (v := ?_) rfl (by kernel_rfl) (by kernel_rfl) (by kernel_rfl) (by kernel_rfl) (by kernel_rfl) (by kernel_rfl) (by kernel_rfl) (fun _ _ _ h => h) (Or.inl ⟨by rfl, ?_⟩) hHeld ?_
                  rotate_left
                  focus (intro w hSw; (try dsimp only at hSw); go_simp; try (with_reducible rfl))
                  try simp only [Act.put, List.setIfInBounds_toArray, List.set_cons_zero, List.set_cons_succ]
                  refine wpAnyL_take 12 (i := 19) (oi := ⟨some 137, _, _, _, _, _⟩) (v := ?_) rfl (by kernel_rfl) (by kernel_rfl) (by kernel_rfl) (by kernel_rfl) (by kernel_rfl) (by kernel_rfl) (by kernel_rfl) (fun _ _ _ h => h) (Or.inl ⟨by rfl, ?_⟩) hHeld ?_
                  rotate_left
                  focus (intro w hSw; (try dsimp only at hSw); go_simp; try (with_reducible rfl))
                  try simp only [Act.put, List.setIfInBounds_toArray, List.set_cons_zero, List.set_cons_succ]
                  refine wpAnyL_take 12 (i := 20) (oi := ⟨some 138, _, _, _, _, _⟩) (v := ?_) rfl (by kernel_rfl) (by kernel_rfl) (by kernel_rfl) (by kernel_rfl) (by kernel_rfl) (by kernel_rfl) (by kernel_rfl) (fun _ _ _ h => h) (Or.inl ⟨by rfl, ?_⟩) hHeld ?_
                  rotate_left
                  focus (intro w hSw; (try dsimp only at hSw); go_simp; try (with_reducible rfl))
                  try simp only [Act.put, List.setIfInBounds_toArray, List.set_cons_zero, List.set_cons_succ]
                  refine wpAnyL_take 12 (i := 21) (oi := ⟨some 139, _, _, _, _, _⟩) (v := ?_) rfl (by kernel_rfl) (by kernel_rfl) (by kernel_rfl) (by kernel_rfl) (by kernel_rfl) (by kernel_rfl) (by kernel_rfl) (fun _ _ _ h => h) (Or.inl ⟨by rfl, ?_⟩) hHeld ?_
                  rotate_left
                  focus (intro w hSw; (try dsimp only at hSw); go_simp; try (with_reducible rfl))
                  try simp only [Act.put, List.setIfInBounds_toArray, List.set_cons_zero, List.set_cons_succ]
                  refine wpAnyL_take 12 (i := 22) (oi := ⟨some 140, _, _, _, _, _⟩) (v := ?_) rfl (by kernel_rfl) (by kernel_rfl) (by kernel_rfl) (by kernel_rfl) (by kernel_rfl) (by kernel_rfl) (by kernel_rfl) (fun _ _ _ h => h) (Or.inl ⟨by rfl, ?_⟩) hHeld ?_
                  rotate_left
                  focus (intro w hSw; (try dsimp only at hSw); go_simp; try (with_reducible rfl))
                  try simp only [Act.put, List.setIfInBounds_toArray, List.set_cons_zero, List.set_cons_succ]
                  refine wpAnyL_take 12 (i := 23) (oi := ⟨some 141, _, _, _, _, _⟩) (v := ?_) rfl (by kernel_rfl) (by kernel_rfl) (by kernel_rfl) (by kernel_rfl) (by kernel_rfl) (by kernel_rfl) (by kernel_rfl) (fun _ _ _ h => h) (Or.inl ⟨by rfl, ?_⟩) hHeld ?_
                  rotate_left
                  focus (intro w hSw; (try dsimp only at hSw); go_simp; try (with_reducible rfl))
                  try simp only [Act.put, List.setIfInBounds_toArray, List.set_cons_zero, List.set_cons_succ]
                  refine wpAnyL_one (i := 24) (o := ⟨some 142, _, _, _, _, _⟩) (by kernel_rfl) rfl (fun K hK => ?_)
                  clear hHeld
                  go_simp
                  go_wp2_with fail
                  refine hK.out _ _ (HSA.out _ ((Below.refl _ _).drew.alloc (Nat.le_refl _) _)) (fun hHeld => ?_)
                  clear hK K
                  try simp only [Act.put, List.setIfInBounds_toArray, List.set_cons_zero, List.set_cons_succ]
                  refine wpAnyL_one (i := 25) (o := ⟨some 143, _, _, _, _, _⟩) (by kernel_rfl) rfl (fun K hK => ?_)
                  clear hHeld
                  go_simp
                  go_wp2_with fail
                  refine hK.out _ _ (HSA.out _ ((Below.refl _ _).drew.alloc (Nat.le_refl _) _)) (fun hHeld => ?_)
                  clear hK K
                  try simp only [Act.put, List.setIfInBounds_toArray, List.set_cons_zero, List.set_cons_succ]
                  refine wpAnyL_take 12 (i := 26) (oi := ⟨some 144, _, _, _, _, _⟩) (v := ?_) rfl (by kernel_rfl) (by kernel_rfl) (by kernel_rfl) (by kernel_rfl) (by kernel_rfl) (by kernel_rfl) (by kernel_rfl) (fun _ _ _ h => h) (Or.inl ⟨by rfl, ?_⟩) hHeld ?_
                  rotate_left
                  focus (intro w hSw; (try dsimp only at hSw); go_simp; try (with_reducible rfl))
                  try simp only [Act.put, List.setIfInBounds_toArray, List.set_cons_zero, List.set_cons_succ]
                  refine wpAnyL_take 12 (i := 27) (oi := ⟨some 145, _, _, _, _, _⟩) (v := ?_) rfl (by kernel_rfl) (by kernel_rfl) (by kernel_rfl) (by kernel_rfl) (by kernel_rfl) (by kernel_rfl) (by kernel_rfl) (fun _ _ _ h => h) (Or.inl ⟨by rfl, ?_⟩) hHeld ?_
                  rotate_left
                  focus (intro w hSw; (try dsimp only at hSw); go_simp; try (with_reducible rfl))
                  try simp only [Act.put, List.setIfInBounds_toArray, List.set_cons_zero, List.set_cons_succ]
                  refine wpAnyL_take 12 (i := 28) (oi := ⟨some 146, _, _, _, _, _⟩) (v := ?_) rfl (by kernel_rfl) (by kernel_rfl) (by kernel_rfl) (by kernel_rfl) (by kernel_rfl) (by kernel_rfl) (by kernel_rfl) (fun _ _ _ h => h) (Or.inl ⟨by rfl, ?_⟩) hHeld ?_
                  rotate_left
                  focus (intro w hSw; (try dsimp only at hSw); go_simp; try (with_reducible rfl))
                  try simp only [Act.put, List.setIfInBounds_toArray, List.set_cons_zero, List.set_cons_succ]
                  refine wpAnyL_take 12 (i := 29) (oi := ⟨some 147, _, _, _, _, _⟩) (v := ?_) rfl (by kernel_rfl) (by kernel_rfl) (by kernel_rfl) (by kernel_rfl) (by kernel_rfl) (by kernel_rfl) (by kernel_rfl) (fun _ _ _ h => h) (Or.inl ⟨by rfl, ?_⟩) hHeld ?_
                  rotate_left
                  focus (intro w hSw; (try dsimp only at hSw); go_simp; try (with_reducible rfl))
                  try simp only [Act.put, List.setIfInBounds_toArray, List.set_cons_zero, List.set_cons_succ]
                  refine wpAnyL_take 12 (i := 30) (oi := ⟨some 148, _, _, _, _, _⟩) (v := ?_) rfl (by kernel_rfl) (by kernel_rfl) (by kernel_rfl) (by kernel_rfl) (by kernel_rfl) (by kernel_rfl) (by kernel_rfl) (fun _ _ _ h => h) (Or.inl ⟨by rfl, ?_⟩) hHeld ?_
                  rotate_left
                  focus (intro w hSw; (try dsimp only at hSw); go_simp; try (with_reducible rfl))
                  try simp only [Act.put, List.setIfInBounds_toArray, List.set_cons_zero, List.set_cons_succ]
                  refine wpAnyL_take 12 (i := 31) (oi := ⟨some 149, _, _, _, _, _⟩) (v := ?_) rfl (by kernel_rfl) (by kernel_rfl) (by kernel_rfl) (by kernel_rfl) (by kernel_rfl) (by kernel_rfl) (by kernel_rfl) (fun _ _ _ h => h) (Or.inl ⟨by rfl, ?_⟩) hHeld ?_
                  rotate_left
                  focus (intro w hSw; (try dsimp only at hSw); go_simp; try (with_reducible rfl))
                  try simp only [Act.put, List.setIfInBounds_toArray, List.set_cons_zero, List.set_cons_succ]
                  refine wpAnyL_take 12 (i := 32) (oi := ⟨some 150, _, _, _, _, _⟩) (v := ?_) rfl (by kernel_rfl) (by kernel_rfl) (by kernel_rfl) (by kernel_rfl) (by kernel_rfl) (by kernel_rfl) (by kernel_rfl) (fun _ _ _ h => h) (Or.inl ⟨by rfl, ?_⟩) hHeld ?_
                  rotate_left
                  focus (intro w hSw; (try dsimp only at hSw); go_simp; try (with_reducible rfl))
                  try simp only [Act.put, List.setIfInBounds_toArray, List.set_cons_zero, List.set_cons_succ]
                  refine wpAnyL_take 12 (i := 33) (oi := ⟨some 151, _, _, _, _, _⟩) (v := ?_) rfl (by kernel_rfl) (by kernel_rfl) (by kernel_rfl) (by kernel_rfl) (by kernel_rfl) (by kernel_rfl) (by kernel_rfl) (fun _ _ _ h => h) (Or.inl ⟨by rfl, ?_⟩) hHeld ?_
                  rotate_left
                  focus (intro w hSw; (try dsimp only at hSw); go_simp; try (with_reducible rfl))
                  try simp only [Act.put, List.setIfInBounds_toArray, List.set_cons_zero, List.set_cons_succ]
                  refine wpAnyL_take 12 (i := 34) (oi := ⟨some 152, _, _, _, _, _⟩) (v := ?_) rfl (by kernel_rfl) (by kernel_rfl) (by kernel_rfl) (by kernel_rfl) (by kernel_rfl) (by kernel_rfl) (by kernel_rfl) (fun _ _ _ h => h) (Or.inl ⟨by rfl, ?_⟩) hHeld ?_
                  rotate_left
                  focus (intro w hSw; (try dsimp only at hSw); go_simp; try (with_reducible rfl))
                  try simp only [Act.put, List.setIfInBounds_toArray, List.set_cons_zero, List.set_cons_succ]
                  refine wpAnyL_take 12 (i := 35) (oi := ⟨some 153, _, _, _, _, _⟩) (v := ?_) rfl (by kernel_rfl) (by kernel_rfl) (by kernel_rfl) (by kernel_rfl) (by kernel_rfl) (by kernel_rfl) (by kernel_rfl) (fun _ _ _ h => h) (Or.inl ⟨by rfl, ?_⟩) hHeld ?_
                  rotate_left
                  focus (intro w hSw; (try dsimp only at hSw); go_simp; try (with_reducible rfl))
                  try simp only [Act.put, List.setIfInBounds_toArray, List.set_cons_zero, List.set_cons_succ]
                  refine wpAnyL_take 12 (i := 36) (oi := ⟨some 154, _, _, _, _, _⟩) (v := ?_) rfl (by kernel_rfl) (by kernel_rfl) (by kernel_rfl) (by kernel_rfl) (by kernel_rfl) (by kernel_rfl) (by kernel_rfl) (fun _ _ _ h => h) (Or.inl ⟨by rfl, ?_⟩) hHeld ?_
                  rotate_left
                  focus (intro w hSw; (try dsimp only at hSw); go_simp; try (with_reducible rfl))
                  try simp only [Act.put, List.setIfInBounds_toArray, List.set_cons_zero, List.set_cons_succ]
                  refine wpAnyL_take 12 (i := 37) (oi := ⟨some 155, _, _, _, _, _⟩) (v := ?_) rfl (by kernel_rfl) (by kernel_rfl) (by kernel_rfl) (by kernel_rfl) (by kernel_rfl) (by kernel_rfl) (by kernel_rfl) (fun _ _ _ h => h) (Or.inl ⟨by rfl, ?_⟩) hHeld ?_
                  rotate_left
                  focus (intro w hSw; (try dsimp only at hSw); go_simp; try (with_reducible rfl))
                  try simp only [Act.put, List.setIfInBounds_toArray, List.set_cons_zero, List.set_cons_succ]
                  refine wpAnyL_take 12 (i := 38) (oi := ⟨some 156, _, _, _, _, _⟩) (v := ?_) rfl (by kernel_rfl) (by kernel_rfl) (by kernel_rfl) (by kernel_rfl) (by kernel_rfl) (by kernel_rfl) (by kernel_rfl) (fun _ _ _ h => h) (Or.inl ⟨by rfl, ?_⟩) hHeld ?_
                  rotate_left
                  focus (intro w hSw; (try dsimp only at hSw); go_simp; try (with_reducible rfl))
                  try simp only [Act.put, List.setIfInBounds_toArray, List.set_cons_zero, List.set_cons_succ]
                  refine wpAnyL_last (i := 39) (o := ⟨some 157, _, _, _, _, _⟩) (by kernel_rfl) rfl (by kernel_rfl) (fun K hK => ?_)
                  clear hHeld
                  go_simp
                  go_wp2_with fail
                  refine hK.out _ _ ?_
                  clear hK K
                  try simp only [Act.put, List.setIfInBounds_toArray, List.set_cons_zero, List.set_cons_succ]
                  refine wpAnyL_takeW (i := 40) (oi := ⟨some 6, _, _, _, _, _⟩) (v := ?_) rfl (by kernel_rfl) (by kernel_rfl) (by kernel_rfl) (by kernel_rfl) (fun _ _ _ h => h) (Or.inl ⟨by rfl, ?_⟩) (.inl (by kernel_rfl)) ?_
                  rotate_left
                  focus (intro w hSw; (try dsimp only at hSw); go_simp; try (with_reducible rfl))
                  try simp only [Act.put, List.setIfInBounds_toArray, List.set_cons_zero, List.set_cons_succ]
                  refine wpAnyL_done (by kernel_rfl) ?_ _
                  refine NoPanic.normal ?_
                  go_wp2_with fail
                  go_ret
                  exact ⟨rfl, (HBE.out.trans (((Below.refl _ w11).drew.alloc (Nat.le_refl _) _).mono HBE.out.size))⟩
      · as_aux_lemma =>
          have e := HRY.out.fl hfy
          rw [e] at y2
          obtain ⟨q, g, h1, h2, h3, h4, h5, h6, h7⟩ := HRX.out.wr hfx
          rw [h5] at x2
          simp only [List.length_nil] at y2
          clear e h1 h2 h3 h4 h5 h6 h7 hfx hfy
          go_wp2
          go_ret
          exact ⟨rfl, HBWF.out⟩
    · as_aux_lemma =>
        have e := HRX.out.fl hfx
        rw [e] at x2
        simp only [List.length_nil] at x2
        clear e hfx
        go_wp2
        go_ret
        exact ⟨rfl, HBWF.out⟩

end Go.Proofs.Ytddkalcgijeldaa
