/-
  StoreOpens' walk. Conditions: the objects are as they came in.
-/
import Derived.Test.YtmehjmkakkiedaaGreatMVB
import Derived.Test.YtmehjmkakkiedaaGreatMQE
import Derived.Test.YtmehjmkakkiedaaGreatMPE
import Derived.Laws.StructEq
namespace Go.Proofs.YtmehjmkakkiedaaGreat
open Go.ChangeShapes Go.WideShapes Go.ChangeAt Go.RowKit
set_option maxRecDepth 100000

theorem below_dr (w : World) (n m : Nat) : Below m w (w.drewN n) := ⟨rfl, rfl, rfl, Nat.le_refl _, fun _ _ => rfl⟩
theorem rdi_at {w : World} {A : Option Addr} {zs : List Int} (h : Rd w A (ints zs)) {k : Nat} {z : Int} (hk : zs[k]? = some z) : ∃ b off, A = some ⟨b, off, none⟩ ∧ b < w.heap.size ∧ w.cell? ⟨b, off + k, none⟩ = some (.int .i64 z) := by
  obtain ⟨b, off, e, hb, hc⟩ := h (by intro e; have := congrArg List.length e; simp [ints] at this; subst this; simp at hk)
  exact ⟨b, off, e, hb, hc k _ (by unfold ints; rw [List.getElem?_map, hk]; rfl)⟩
theorem ints_same (A B : Option Addr) (c d : Nat) (zs : List Int) (hl : zs.length ≤ 17592186044416) (w : World) (ha : Rd w A (ints zs)) (hb : Rd w B (ints zs)) :
    Calls Tryz.prog 15 #[.slice A zs.length c, .slice B zs.length d] w fun e w' => e = .returned (.bool true) ∧ Below w.heap.size w w' := by
  go_enter Tryz.func15, Tryz.ntmps15
  go_wp2
  go_loopw [5] (fun i wr => ∃ k : Nat, k ≤ zs.length ∧ i = .int .i64 k ∧ Below w.heap.size w wr) (fun i _ => zs.length - (intOf i).toNat)
  case atStart => exact ⟨0, Nat.zero_le _, rfl, Below.refl _ _⟩
  case round =>
    obtain ⟨k, hk, rfl, hB⟩ := hrel
    by_cases hlt : k < zs.length
    · obtain ⟨z, hz⟩ : ∃ z, zs[k]? = some z := ⟨_, List.getElem?_eq_getElem hlt⟩
      obtain ⟨b1, o1, rfl, hb1, hc1⟩ := rdi_at (ha.below hB) hz
      obtain ⟨b2, o2, rfl, hb2, hc2⟩ := rdi_at (hb.below hB) hz
      clear hz
      go_wp2_with fail
      go_big_quiet (fail)
      go_wp2
      go_roundw
      case rel => exact ⟨k + 1, by omega, by go_num, hB.trans (below_dr _ _ _)⟩
      case measure => simp [intOf]; omega
    · go_wp2
      go_ret
      exact ⟨rfl, hB⟩

/-- The pages of the index, as they stand. -/
theorem idx_page {U : St} (hU : StandsP U.st) {k : Nat} (hk : k < U.is.length) : ∃ (sk : Nat) (p : Pt) (b : List Int) (nx : Int), U.is[k]? = some (sk : Int) ∧ U.dev.ps[sk]? = some p ∧ p.zs.length = 64 ∧ Octs p.zs ∧ pgAns p.zs = (b, nx, 0) ∧ 0 < b.length ∧ (∀ z, U.is[k + 1]? = some z → nx = z) := by
  obtain ⟨hl, hp⟩ := hU.st.hix
  have hl' : U.is.length = cntN (idxZ U.st.os).length := hl
  obtain ⟨sk, h1, _, z, h2, h3, h4, h5⟩ := hp k hk
  have h2' : (U.dev.ps.map (·.zs))[sk]? = some z := h2
  rw [List.getElem?_map] at h2'
  rcases hps : U.dev.ps[sk]? with _ | p
  · rw [hps] at h2'; cases h2'
  · rw [hps] at h2'
    injection h2' with h2'
    subst h2'
    refine ⟨sk, p, _, _, h1, hps, h3, h4, h5, ?_, fun z hz => ?_⟩
    · unfold cntN at hl'
      simp only [piece, List.length_take, List.length_drop]
      omega
    · show U.is.getD (k + 1) 0 = z
      rw [List.getD_eq_getElem?_getD, hz]
      rfl
theorem used_up {n : Nat} {W : World} {s : St} (h : Up n W s) : (flatNs s.os ++ s.is).length ≤ 8192 := by
  have hch := h.st.ok.secs
  obtain ⟨⟨h1, h2⟩, h3, h4⟩ := chk_ok.1 hch
  have h5 := length_free h3 h4
  rw [st_secs] at h5
  omega

set_option maxHeartbeats 8000000 in
theorem opens10_walk (n : Int) (A : Option Addr) (c : Nat) (ls : List Ob) (A2 : Option Addr) (c2 : Nat) (ls2 : List Ob) (w : World) (hI : ObsIn w A c ls) (hI2 : ObsIn w A2 c2 ls2) :
    Calls Tryz.prog 3 #[.int .i64 n, .slice A ls.length c, .slice A2 ls2.length c2] w fun e w' => e = .returned (.bool true) ∧ Below w.heap.size w w' := by
  have HI := Lib.hid hI
  have HI2 := Lib.hid hI2
  have HAL := Lib.hid (alive10_any w)
  have hsz := sizeN_le n
  obtain ⟨m, hm⟩ : ∃ m : Nat, sizeN n = (m : Int) := ⟨(sizeN n).toNat, by omega⟩
  have HSZ := Lib.hid (fun w => size10_any n w)
  rw [hm] at HSZ hsz
  have hm2 : 2 ≤ m := by omega
  have hm3 : m ≤ 8192 := by omega
  clear hI hI2 hsz hm
  go_enter Tryz.func3, Tryz.ntmps3
  go_wp2_with fail
  refine HAL.out.mono ?_
  rintro e w1 ⟨rfl, hB1⟩
  go_wp2_with fail
  refine (HSZ.out w1).mono ?_
  rintro e w1' ⟨rfl, rfl⟩
  go_wp2_with fail
  refine (first10_any m hm2 hm3 w1').mono ?_
  rintro e w2 ⟨E, rfl, hN, hB2⟩
  have hB02 : Below w.heap.size w w2 := hB1.trans (hB2.mono hB1.size)
  obtain ⟨w3, hw3⟩ : ∃ w3, w2.alloc (.cells #[.slice E.A E.ps.length E.c, .slice E.B E.ws.length E.d, .int .i64 2, .int .i64 0, .int .i64 0, .slice none 0 0, .slice none 0 0] 32) = w3 := ⟨_, rfl⟩
  have hB23 : Below w2.heap.size w2 w3 := hw3 ▸ (Below.refl _ w2).alloc (Nat.le_refl _) _
  have ks : Blk w3 w2.heap.size 32 [.slice E.A E.ps.length E.c, .slice E.B E.ws.length E.d, .int .i64 2, .int .i64 0, .int .i64 0, .slice none 0 0, .slice none 0 0] := hw3 ▸ Blk.new w2 _ _
  have hB03 : Below w.heap.size w w3 := hB02.trans (hB23.mono hB02.size)
  have HN := Lib.hid (hN.below hB23)
  have HKS := Lib.hid ks
  have hlt3 := ks.lt
  have HG := Lib.hid (good10_any A c ls (by have := HI.out.len; omega) HI.out.fits w3 ((HI.out.below hB03).rd))
  have HG2 := Lib.hid (fun w' (hB : Below w.heap.size w w') => good10_any A2 c2 ls2 (by have := HI2.out.len; omega) HI2.out.fits w' ((HI2.out.below hB).rd))
  have HW3 := Lib.hid hw3
  clear hw3 ks hN HAL HSZ hB23 hm2 hm3
  go_wp2_with fail
  rw [HW3.out]
  refine HG.out.mono ?_
  rintro e w4 ⟨v, rfl, ys, hgl, hoys, hB4⟩
  have hB04 : Below w.heap.size w w4 := hB03.trans (hB4.mono hB03.size)
  obtain ⟨V, vc, rfl, _, _, hrV, _⟩ := own_any hoys
  have HIN := Lib.hid (hgl.in_ HI.out hB04 hrV.1)
  have hyl := hgl.len
  clear hgl hoys hrV HG HW3
  go_wp2_with fail
  refine (HG2.out w4 hB04).mono ?_
  rintro e w5 ⟨v, rfl, ys2, hgl, hoys, hB5⟩
  have hB05 : Below w.heap.size w w5 := hB04.trans (hB5.mono hB04.size)
  obtain ⟨V2, vc2, rfl, _, _, hrV, _⟩ := own_any hoys
  have HIN2 := Lib.hid (hgl.in_ HI2.out hB05 hrV.1)
  have hyl2 := hgl.len
  have HIN5 := Lib.hid (HIN.out.below hB5)
  have hB35 : Below w3.heap.size w3 w5 := hB4.trans (hB5.mono hB4.size)
  have HKS5 := Lib.hid (HKS.out.below hB35 hlt3)
  have HUN := Lib.hid ((Up.of_new (HN.out.below hB35)).mono (Nat.zero_le _))
  have HC1 := Lib.hid (commit_up (newSt E) V vc ys w5 HUN.out (show (2 : Int) < 1099511627776 by decide) HIN5.out)
  obtain ⟨q0, q1, q2, q3, q4, q5, q6⟩ := blk7 HKS5.out
  clear hgl hoys hrV HG2 HIN HI HI2 HKS HN
  go_wp2_with fail
  refine HC1.out.mono ?_
  rintro e w6 ⟨h, hB6⟩
  have hB06 : Below w.heap.size w w6 := hB05.trans (hB6.mono hB05.size)
  clear q0 q1 q2 q3 q4 q5 q6 HC1 HKS5 HUN
  rcases h with ⟨_, rfl⟩ | ⟨T, A0, c0, l0, aw0, S0, rfl, hD⟩
  · have hB7 : Below w.heap.size w (w6.alloc (.cells #[.slice none 0 0, .slice none 0 0, .int .i64 0, .int .i64 0, .int .i64 0, .slice none 0 0, .slice none 0 0] 32)) := hB06.alloc hB06.size _
    go_wp2_with (go_at_call 12; refine (num10_any _ _).mono ?_; rintro e w9 ⟨rfl, rfl⟩)
    go_ret
    exact ⟨rfl, hB7⟩
  have HT3 : Hid (T.u.t = 3) := Lib.hid hD.t
  obtain ⟨w7, hw7⟩ : ∃ w7, w6.alloc (.cells #[.slice T.dev.A T.dev.ps.length T.dev.c, .slice T.dev.B T.dev.ws.length T.dev.d, .int .i64 T.u.t, .int .i64 T.u.f, .int .i64 T.u.o, .slice T.O T.os.length T.oc, .slice T.I T.is.length T.ic] 32) = w7 := ⟨_, rfl⟩
  have hB67 : Below w6.heap.size w6 w7 := hw7 ▸ (Below.refl _ w6).alloc (Nat.le_refl _) _
  have kt : Blk w7 w6.heap.size 32 [.slice T.dev.A T.dev.ps.length T.dev.c, .slice T.dev.B T.dev.ws.length T.dev.d, .int .i64 T.u.t, .int .i64 T.u.f, .int .i64 T.u.o, .slice T.O T.os.length T.oc, .slice T.I T.is.length T.ic] := hw7 ▸ Blk.new w6 _ _
  have hB07 : Below w.heap.size w w7 := hB06.trans (hB67.mono hB06.size)
  have HKD := Lib.hid hD.kd
  have HT7 := Lib.hid ((hD.up.below hB67).mono (Nat.zero_le _))
  have HKT := Lib.hid kt
  have hlt7 := kt.lt
  have hB57 : Below w5.heap.size w5 w7 := hB6.trans (hB67.mono hB6.size)
  have HO := Lib.hid (open_same T 0 w7 HT7.out)
  have HW7 := Lib.hid hw7
  obtain ⟨q0, q1, q2, q3, q4, q5, q6⟩ := blk7 kt
  clear hw7 kt hD
  go_upto_region 6 with fail
  rw [HW7.out]
  go_wp2_with (go_at_call 12; refine (num10_any _ _).mono ?_; rintro e w7' ⟨rfl, rfl⟩)
  refine HO.out.mono ?_
  rintro e w8 ⟨O, rfl, hOst, hOU, hB8⟩
  have hOu : O.u = T.u := congrArg PS.u hOst
  have hOi : O.is = T.is := congrArg PS.ix hOst
  have hOk : O.os.map kd = ys.map kd := (kd_st (congrArg PS.os hOst)).trans HKD.out
  have HOU := Lib.hid hOU
  obtain ⟨w9, hw9⟩ : ∃ w9, w8.alloc (.cells #[.slice O.dev.A O.dev.ps.length O.dev.c, .slice O.dev.B O.dev.ws.length O.dev.d, .int .i64 O.u.t, .int .i64 O.u.f, .int .i64 O.u.o, .slice O.O O.os.length O.oc, .slice O.I O.is.length O.ic] 32) = w9 := ⟨_, rfl⟩
  have hB89 : Below w8.heap.size w8 w9 := hw9 ▸ (Below.refl _ w8).alloc (Nat.le_refl _) _
  have ko : Blk w9 w8.heap.size 32 [.slice O.dev.A O.dev.ps.length O.dev.c, .slice O.dev.B O.dev.ws.length O.dev.d, .int .i64 O.u.t, .int .i64 O.u.f, .int .i64 O.u.o, .slice O.O O.os.length O.oc, .slice O.I O.is.length O.ic] := hw9 ▸ Blk.new w8 _ _
  have hB08 : Below w.heap.size w w8 := hB07.trans (hB8.mono hB07.size)
  have hB09 : Below w.heap.size w w9 := hB08.trans (hB89.mono hB08.size)
  have hB79 := hB8.trans (hB89.mono hB8.size)
  have hB59 := hB57.trans (hB79.mono hB57.size)
  have HKT9 := Lib.hid (HKT.out.below hB79 hlt7)
  have HKO := Lib.hid ko
  have hlo := ko.lt
  have hlT := HKT9.out.lt
  have HA1 := Lib.hid (has10_any O HOU.out.fits V vc ys (by omega) w9 ((HOU.out.lies.below hB89).mono (Nat.zero_le _)) (HIN5.out.rd.below hB59) (fun y hy => (HIN5.out.data y hy).below hB59))
  have HW9 := Lib.hid hw9
  have HOu := Lib.hid hOu
  have HOi := Lib.hid hOi
  have HOk := Lib.hid hOk
  have HOst := Lib.hid hOst
  obtain ⟨o0, o1, o2, o3, o4, o5, o6⟩ := blk7 ko
  clear hw9 ko hOu hOi hOk hOU hOst HO q0 q1 q2 q3 q4 q5 q6
  go_upto_region 9 with fail
  rw [HW9.out]
  go_wp2_with (go_at_call 12; refine (num10_any _ _).mono ?_; rintro e wz ⟨rfl, rfl⟩)
  refine HA1.out.mono ?_
  rintro e w10 ⟨b1, rfl, hb1, hB10⟩
  obtain rfl : b1 = true := hb1 HOk.out
  obtain ⟨o0, o1, o2, o3, o4, o5, o6⟩ := blk7 (HKO.out.below hB10 hlo)
  obtain ⟨t0, t1, t2, t3, t4, t5, t6⟩ := blk7 (HKT9.out.below hB10 hlT)
  rw [HOu.out] at o2 o3 o4
  rw [HOi.out] at o6
  have hB910 := hB89.trans (hB10.mono hB89.size)
  have HIS := Lib.hid (ints_same O.I T.I O.ic T.ic T.is (by have := HT7.out.fits.ix; omega) w10 (by have := (HOU.out.lies.ix.below hB910).1; rw [HOi.out] at this; exact this) ((HT7.out.lies.ix.below (hB79.trans (hB10.mono hB79.size))).1))
  clear hb1
  go_wp2_with fail
  refine HIS.out.mono ?_
  rintro e w11 ⟨rfl, hB11⟩
  have hB911 := hB10.trans (hB11.mono hB10.size)
  have hB011 : Below w.heap.size w w11 := hB09.trans (hB911.mono hB09.size)
  have hB811 := hB89.trans (hB911.mono hB89.size)
  have HO11 := Lib.hid ((HOU.out.below hB811).mono (Nat.zero_le _))
  have hB711 := hB79.trans (hB911.mono hB79.size)
  have HC2 := Lib.hid (commit_up O V2 vc2 ys2 w11 HO11.out (by rw [HOu.out, HT3.out]; decide) ((HIN2.out.below hB59).below hB911))
  obtain ⟨o0, o1, o2, o3, o4, o5, o6⟩ := blk7 (HKO.out.below hB911 hlo)
  clear t0 t1 t2 t3 t4 t5 t6 HIS
  go_wp2_with fail
  refine HC2.out.mono ?_
  rintro e w12 ⟨h, hB12⟩
  have hB012 : Below w.heap.size w w12 := hB011.trans (hB12.mono hB011.size)
  clear o0 o1 o2 o3 o4 o5 o6 HC2
  rcases h with ⟨_, rfl⟩ | ⟨U, A', c', l, aw1, S1, rfl, hD⟩
  · have hB13 : Below w.heap.size w (w12.alloc (.cells #[.slice none 0 0, .slice none 0 0, .int .i64 0, .int .i64 0, .int .i64 0, .slice none 0 0, .slice none 0 0] 32)) := hB012.alloc hB012.size _
    go_wp2_with (go_at_call 12; refine (num10_any _ _).mono ?_; rintro e w13 ⟨rfl, rfl⟩)
    go_ret
    exact ⟨rfl, hB13⟩
  obtain ⟨w13, hw13⟩ : ∃ w13, w12.alloc (.cells #[.slice U.dev.A U.dev.ps.length U.dev.c, .slice U.dev.B U.dev.ws.length U.dev.d, .int .i64 U.u.t, .int .i64 U.u.f, .int .i64 U.u.o, .slice U.O U.os.length U.oc, .slice U.I U.is.length U.ic] 32) = w13 := ⟨_, rfl⟩
  have hB1213 : Below w12.heap.size w12 w13 := hw13 ▸ (Below.refl _ w12).alloc (Nat.le_refl _) _
  have ku : Blk w13 w12.heap.size 32 [.slice U.dev.A U.dev.ps.length U.dev.c, .slice U.dev.B U.dev.ws.length U.dev.d, .int .i64 U.u.t, .int .i64 U.u.f, .int .i64 U.u.o, .slice U.O U.os.length U.oc, .slice U.I U.is.length U.ic] := hw13 ▸ Blk.new w12 _ _
  have hB013 : Below w.heap.size w w13 := hB012.trans (hB1213.mono hB012.size)
  have HU := Lib.hid ((hD.up.below hB1213).mono (Nat.zero_le _))
  have HCP := Lib.hid hD.caps
  have HKU := Lib.hid ku
  have HUK := Lib.hid hD.kd
  have hlu := ku.lt
  have hB513 := (hB59.trans (hB911.mono hB59.size)).trans ((hB12.trans (hB1213.mono hB12.size)).mono (by have := hB59.size; have := hB911.size; omega))
  have HOP := Lib.hid (open_same U 0 w13 HU.out)
  have HW13 := Lib.hid hw13
  obtain ⟨u0, u1, u2, u3, u4, u5, u6⟩ := blk7 ku
  clear hw13 ku hD
  go_upto_region 12 with fail
  rw [HW13.out]
  go_wp2_with (go_at_call 12; refine (num10_any _ _).mono ?_; rintro e wz ⟨rfl, rfl⟩)
  refine HOP.out.mono ?_
  rintro e w14 ⟨P, rfl, hPst, hPU, hB14⟩
  have hPi : P.is = U.is := congrArg PS.ix hPst
  have hPk : P.os.map kd = ys2.map kd := (kd_st (congrArg PS.os hPst)).trans HUK.out
  have hcnt : (flatNs P.os ++ P.is).length = (flatNs U.os ++ U.is).length := by rw [← st_secs, ← st_secs, hPst]
  obtain ⟨w15, hw15⟩ : ∃ w15, w14.alloc (.cells #[.slice P.dev.A P.dev.ps.length P.dev.c, .slice P.dev.B P.dev.ws.length P.dev.d, .int .i64 P.u.t, .int .i64 P.u.f, .int .i64 P.u.o, .slice P.O P.os.length P.oc, .slice P.I P.is.length P.ic] 32) = w15 := ⟨_, rfl⟩
  have hB1415 : Below w14.heap.size w14 w15 := hw15 ▸ (Below.refl _ w14).alloc (Nat.le_refl _) _
  have kp : Blk w15 w14.heap.size 32 [.slice P.dev.A P.dev.ps.length P.dev.c, .slice P.dev.B P.dev.ws.length P.dev.d, .int .i64 P.u.t, .int .i64 P.u.f, .int .i64 P.u.o, .slice P.O P.os.length P.oc, .slice P.I P.is.length P.ic] := hw15 ▸ Blk.new w14 _ _
  have hB014 : Below w.heap.size w w14 := hB013.trans (hB14.mono hB013.size)
  have hB015 : Below w.heap.size w w15 := hB014.trans (hB1415.mono hB014.size)
  have hB1315 := hB14.trans (hB1415.mono hB14.size)
  have hB515 := hB513.trans (hB1315.mono hB513.size)
  have HP := Lib.hid ((hPU.below hB1415).mono (Nat.zero_le _))
  have HU15 := Lib.hid (HU.out.below hB1315)
  have HKU15 := Lib.hid (HKU.out.below hB1315 hlu)
  have HKP := Lib.hid kp
  have hlp := kp.lt
  have hlU := HKU15.out.lt
  have HIN15 := Lib.hid (HIN2.out.below hB515)
  have HPi := Lib.hid hPi
  have HPk := Lib.hid hPk
  have HCN := Lib.hid hcnt
  have HW15 := Lib.hid hw15
  have hul : U.is.length ≤ 8192 := by
    have := used_up HU.out
    rw [List.length_append] at this
    omega
  clear hw15 kp hPi hPk hcnt hPU hPst HOP u0 u1 u2 u3 u4 u5 u6
  go_upto_region 15 with fail
  rw [HW15.out]
  go_wp2_with fail
  go_loopw [19] (fun i W => ∃ k : Nat, k ≤ U.is.length ∧ i = .int .i64 k ∧ Below w15.heap.size w15 W) (fun i _ => U.is.length - (intOf i).toNat)
  case atStart => exact ⟨0, Nat.zero_le _, rfl, Below.refl _ _⟩
  case round =>
    obtain ⟨k, hk, rfl, hBr⟩ := hrel
    have hB0r : Below w.heap.size w wr := hB015.trans (hBr.mono hB015.size)
    have HKPr := Lib.hid (HKP.out.below hBr hlp)
    have HKUr := Lib.hid (HKU15.out.below hBr hlU)
    obtain ⟨_, _, _, _, _, _, p6⟩ := blk7 HKPr.out
    obtain ⟨u0, _⟩ := blk7 HKUr.out
    rw [HPi.out] at p6
    by_cases hlt : k < U.is.length
    · obtain ⟨sk, p, b, nx, h1, h2, h3, h4, h5, h6, h7⟩ := idx_page HU.out.st hlt
      have hix : Rd wr P.I (ints U.is) := by
        have := (HP.out.lies.ix.below hBr).1
        rw [HPi.out] at this
        exact this
      obtain ⟨ib, io, hPI, hib, hic⟩ := rdi_at hix h1
      obtain ⟨sb, so, hSA, hsb, hsc⟩ := ((HU15.out.lies.dev.secs.below hBr).1).pt h2
      have hskl : sk < U.dev.ps.length := (List.getElem?_eq_some_iff.1 h2).1
      have hskI : (sk : Int) < U.dev.ps.length := by omega
      have hkI : (k : Int) < U.is.length := by omega
      have hpm := List.mem_of_getElem? h2
      have HUN : Hid (∀ W', Below wr.heap.size wr W' → Calls Tryz.prog 16 #[.slice p.A p.zs.length p.c] W' fun e w' => ∃ v, e = .returned (.tuple #[v, .int .i64 nx, .int .i64 0]) ∧ w'.ownsRow W'.heap.size 5 1 v b.length (octCells b) ∧ Below W'.heap.size W' w') := Lib.hid fun W' hB => by
        have := refUnpage_any ⟨p.A, p.zs, p.c⟩ W' ⟨(HCP.out.sec p hpm).1, by unfold maxLen; show p.zs.length ≤ _; omega, h4, (((HU15.out.lies.dev.sec p hpm).below hBr).below hB).1⟩
        dsimp only at this
        rw [h5] at this
        exact this
      have HN2 : Hid (∀ z, U.is[k + 1]? = some z → nx = z) := Lib.hid h7
      have HIX := Lib.hid hix
      have HPI := Lib.hid hPI
      rw [hPI] at p6
      rw [hSA] at u0
      have HSF : Hid (∀ W', Below wr.heap.size wr W' → W'.cell? ⟨w14.heap.size, 6, none⟩ = some (.slice (some ⟨ib, io, none⟩) U.is.length P.ic) ∧ W'.cell? ⟨w12.heap.size, 0, none⟩ = some (.slice (some ⟨sb, so, none⟩) U.dev.ps.length U.dev.c) ∧ W'.cell? ⟨ib, io + k, none⟩ = some (.int .i64 sk) ∧ W'.cell? ⟨sb, so + sk, none⟩ = some (.slice p.A p.zs.length p.c)) := Lib.hid fun W' hB => ⟨(hB.cell (p := ⟨w14.heap.size, 6, none⟩) HKPr.out.lt).trans p6, (hB.cell (p := ⟨w12.heap.size, 0, none⟩) HKUr.out.lt).trans u0, (hB.cell (p := ⟨ib, io + k, none⟩) hib).trans hic, (hB.cell (p := ⟨sb, so + sk, none⟩) hsb).trans hsc⟩
      have hb0 : ¬ b.length = 0 := by omega
      have hBd : Below wr.heap.size wr wr.drew := (Below.refl _ _).drew
      clear h1 h2 h3 h4 h5 h6 h7 hix hPI hSA hic hsc hpm
      obtain ⟨pA, pz, pc⟩ := p
      dsimp only at *
      go_wp2_with fail
      refine wp_region_noPanic ?_
      refine wp_region_last 10 (fun W' => W'.cell? ⟨w14.heap.size, 6, none⟩ = some (.slice (some ⟨ib, io, none⟩) U.is.length P.ic) ∧ W'.cell? ⟨w12.heap.size, 0, none⟩ = some (.slice (some ⟨sb, so, none⟩) U.dev.ps.length U.dev.c) ∧ W'.cell? ⟨ib, io + k, none⟩ = some (.int .i64 sk) ∧ W'.cell? ⟨sb, so + sk, none⟩ = some (.slice pA pz.length pc)) (by kernel_rfl) (HSF.out _ hBd) (fun hHeld => ?_)
      refine wpAnyL_take 12 (i := 0) (oi := ⟨some 112, _, _, _, _, _⟩) (v := ?_) rfl (by kernel_rfl) (by kernel_rfl) (by kernel_rfl) (by kernel_rfl) (by kernel_rfl) (by kernel_rfl) (by kernel_rfl) (fun _ _ _ h => h) (Or.inl ⟨by rfl, ?_⟩) hHeld ?_
      rotate_left
      focus (intro w hSw; (try dsimp only at hSw); go_simp; try (with_reducible rfl))
      try simp only [Act.put, List.setIfInBounds_toArray, List.set_cons_zero, List.set_cons_succ]
      refine wpAnyL_take 12 (i := 1) (oi := ⟨some 113, _, _, _, _, _⟩) (v := ?_) rfl (by kernel_rfl) (by kernel_rfl) (by kernel_rfl) (by kernel_rfl) (by kernel_rfl) (by kernel_rfl) (by kernel_rfl) (fun _ _ _ h => h) (Or.inl ⟨by rfl, ?_⟩) hHeld ?_
      rotate_left
      focus (intro w hSw; (try dsimp only at hSw); go_simp; try (with_reducible rfl))
      try simp only [Act.put, List.setIfInBounds_toArray, List.set_cons_zero, List.set_cons_succ]
      refine wpAnyL_take 12 (i := 2) (oi := ⟨some 114, _, _, _, _, _⟩) (v := ?_) rfl (by kernel_rfl) (by kernel_rfl) (by kernel_rfl) (by kernel_rfl) (by kernel_rfl) (by kernel_rfl) (by kernel_rfl) (fun _ _ _ h => h) (Or.inl ⟨by rfl, ?_⟩) hHeld ?_
      rotate_left
      focus (intro w hSw; (try dsimp only at hSw); go_simp; try (with_reducible rfl))
      try simp only [Act.put, List.setIfInBounds_toArray, List.set_cons_zero, List.set_cons_succ]
      refine wpAnyL_take 12 (i := 3) (oi := ⟨some 115, _, _, _, _, _⟩) (v := ?_) rfl (by kernel_rfl) (by kernel_rfl) (by kernel_rfl) (by kernel_rfl) (by kernel_rfl) (by kernel_rfl) (by kernel_rfl) (fun _ _ _ h => h) (Or.inl ⟨by rfl, ?_⟩) hHeld ?_
      rotate_left
      focus (intro w hSw; (try dsimp only at hSw); go_simp; try (with_reducible rfl))
      try simp only [Act.put, List.setIfInBounds_toArray, List.set_cons_zero, List.set_cons_succ]
      refine wpAnyL_take 12 (i := 4) (oi := ⟨some 116, _, _, _, _, _⟩) (v := ?_) rfl (by kernel_rfl) (by kernel_rfl) (by kernel_rfl) (by kernel_rfl) (by kernel_rfl) (by kernel_rfl) (by kernel_rfl) (fun _ _ _ h => h) (Or.inl ⟨by rfl, ?_⟩) hHeld ?_
      rotate_left
      focus (intro w hSw; (try dsimp only at hSw); go_simp; try (with_reducible rfl))
      try simp only [Act.put, List.setIfInBounds_toArray, List.set_cons_zero, List.set_cons_succ]
      refine wpAnyL_take 12 (i := 5) (oi := ⟨some 117, _, _, _, _, _⟩) (v := ?_) rfl (by kernel_rfl) (by kernel_rfl) (by kernel_rfl) (by kernel_rfl) (by kernel_rfl) (by kernel_rfl) (by kernel_rfl) (fun _ _ _ h => h) (Or.inl ⟨by rfl, ?_⟩) hHeld ?_
      rotate_left
      focus (intro w hSw; (try dsimp only at hSw); go_simp; try (with_reducible rfl))
      try simp only [Act.put, List.setIfInBounds_toArray, List.set_cons_zero, List.set_cons_succ]
      refine wpAnyL_take 12 (i := 6) (oi := ⟨some 118, _, _, _, _, _⟩) (v := ?_) rfl (by kernel_rfl) (by kernel_rfl) (by kernel_rfl) (by kernel_rfl) (by kernel_rfl) (by kernel_rfl) (by kernel_rfl) (fun _ _ _ h => h) (Or.inl ⟨by rfl, ?_⟩) hHeld ?_
      rotate_left
      focus (intro w hSw; (try dsimp only at hSw); go_simp; try (with_reducible rfl))
      try simp only [Act.put, List.setIfInBounds_toArray, List.set_cons_zero, List.set_cons_succ]
      refine wpAnyL_take 12 (i := 7) (oi := ⟨some 119, _, _, _, _, _⟩) (v := ?_) rfl (by kernel_rfl) (by kernel_rfl) (by kernel_rfl) (by kernel_rfl) (by kernel_rfl) (by kernel_rfl) (by kernel_rfl) (fun _ _ _ h => h) (Or.inl ⟨by rfl, ?_⟩) hHeld ?_
      rotate_left
      focus (intro w hSw; (try dsimp only at hSw); go_simp; try (with_reducible rfl))
      try simp only [Act.put, List.setIfInBounds_toArray, List.set_cons_zero, List.set_cons_succ]
      refine wpAnyL_take 12 (i := 8) (oi := ⟨some 120, _, _, _, _, _⟩) (v := ?_) rfl (by kernel_rfl) (by kernel_rfl) (by kernel_rfl) (by kernel_rfl) (by kernel_rfl) (by kernel_rfl) (by kernel_rfl) (fun _ _ _ h => h) (Or.inl ⟨by rfl, ?_⟩) hHeld ?_
      rotate_left
      focus (intro w hSw; (try dsimp only at hSw); go_simp; try (with_reducible rfl))
      try simp only [Act.put, List.setIfInBounds_toArray, List.set_cons_zero, List.set_cons_succ]
      refine wpAnyL_take 12 (i := 9) (oi := ⟨some 121, _, _, _, _, _⟩) (v := ?_) rfl (by kernel_rfl) (by kernel_rfl) (by kernel_rfl) (by kernel_rfl) (by kernel_rfl) (by kernel_rfl) (by kernel_rfl) (fun _ _ _ h => h) (Or.inl ⟨by rfl, ?_⟩) hHeld ?_
      rotate_left
      focus (intro w hSw; (try dsimp only at hSw); go_simp; try (with_reducible rfl))
      try simp only [Act.put, List.setIfInBounds_toArray, List.set_cons_zero, List.set_cons_succ]
      refine wpAnyL_last (i := 10) (o := ⟨some 122, _, _, _, _, _⟩) (by kernel_rfl) rfl (by kernel_rfl) (fun K hK => ?_)
      clear hHeld
      go_simp
      refine (HUN.out _ hBd).mono ?_
      rintro e w18 ⟨v, rfl, hov, hB18⟩
      have hBx := hBd.trans hB18
      obtain ⟨gA, gc, rfl, _, _, _, _⟩ := own_any hov
      obtain ⟨p6, _, _, _⟩ := HSF.out _ hBx
      clear hov
      go_wp2_with fail
      refine hK.out _ _ ?_
      clear hK K
      try simp only [Act.put, List.setIfInBounds_toArray, List.set_cons_zero, List.set_cons_succ]
      refine wpAnyL_takeW (i := 11) (oi := ⟨some 111, _, _, _, _, _⟩) (v := ?_) rfl (by kernel_rfl) (by kernel_rfl) (by kernel_rfl) (by kernel_rfl) (fun _ _ _ h => h) (Or.inl ⟨by rfl, ?_⟩) (.inl (by kernel_rfl)) ?_
      rotate_left
      focus (intro w hSw; (try dsimp only at hSw); go_simp; try (with_reducible rfl))
      try simp only [Act.put, List.setIfInBounds_toArray, List.set_cons_zero, List.set_cons_succ]
      refine wpAnyL_takeW (i := 12) (oi := ⟨some 123, _, _, _, _, _⟩) (v := ?_) rfl (by kernel_rfl) (by kernel_rfl) (by kernel_rfl) (by kernel_rfl) (fun _ _ _ h => h) (Or.inl ⟨by rfl, ?_⟩) (.inl (by kernel_rfl)) ?_
      rotate_left
      focus (intro w hSw; (try dsimp only at hSw); go_simp; try (with_reducible rfl))
      try simp only [Act.put, List.setIfInBounds_toArray, List.set_cons_zero, List.set_cons_succ]
      refine wpAnyL_takeW (i := 13) (oi := ⟨some 124, _, _, _, _, _⟩) (v := ?_) rfl (by kernel_rfl) (by kernel_rfl) (by kernel_rfl) (by kernel_rfl) (fun _ _ _ h => h) (Or.inl ⟨by rfl, ?_⟩) (.inl (by kernel_rfl)) ?_
      rotate_left
      focus (intro w hSw; (try dsimp only at hSw); go_simp; try (with_reducible rfl))
      try simp only [Act.put, List.setIfInBounds_toArray, List.set_cons_zero, List.set_cons_succ]
      refine wpAnyL_takeW (i := 14) (oi := ⟨some 125, _, _, _, _, _⟩) (v := ?_) rfl (by kernel_rfl) (by kernel_rfl) (by kernel_rfl) (by kernel_rfl) (fun _ _ _ h => h) (Or.inl ⟨by rfl, ?_⟩) (.inl (by kernel_rfl)) ?_
      rotate_left
      focus (intro w hSw; (try dsimp only at hSw); go_simp; try (with_reducible rfl))
      try simp only [Act.put, List.setIfInBounds_toArray, List.set_cons_zero, List.set_cons_succ]
      refine wpAnyL_takeW (i := 15) (oi := ⟨some 20, _, _, _, _, _⟩) (v := ?_) rfl (by kernel_rfl) (by kernel_rfl) (by kernel_rfl) (by kernel_rfl) (fun _ _ _ h => h) (Or.inl ⟨by rfl, ?_⟩) (.inl (by kernel_rfl)) ?_
      rotate_left
      focus (intro w hSw; (try dsimp only at hSw); go_simp; try (with_reducible rfl))
      try simp only [Act.put, List.setIfInBounds_toArray, List.set_cons_zero, List.set_cons_succ]
      refine wpAnyL_takeW (i := 16) (oi := ⟨some 21, _, _, _, _, _⟩) (v := ?_) rfl (by kernel_rfl) (by kernel_rfl) (by kernel_rfl) (by kernel_rfl) (fun _ _ _ h => h) (Or.inl ⟨by rfl, ?_⟩) (.inl (by kernel_rfl)) ?_
      rotate_left
      focus (intro w hSw; (try dsimp only at hSw); go_simp; try (with_reducible rfl))
      try simp only [Act.put, List.setIfInBounds_toArray, List.set_cons_zero, List.set_cons_succ]
      refine wpAnyL_takeW (i := 17) (oi := ⟨some 22, _, _, _, _, _⟩) (v := ?_) rfl (by kernel_rfl) (by kernel_rfl) (by kernel_rfl) (by kernel_rfl) (fun _ _ _ h => h) (Or.inl ⟨by rfl, ?_⟩) (.inl (by kernel_rfl)) ?_
      rotate_left
      focus (intro w hSw; (try dsimp only at hSw); go_simp; try (with_reducible rfl))
      try simp only [Act.put, List.setIfInBounds_toArray, List.set_cons_zero, List.set_cons_succ]
      refine wpAnyL_done (by kernel_rfl) ?_ _
      refine NoPanic.normal ?_
      have hBo : Below w15.heap.size w15 w18 := hBr.trans (hBx.mono hBr.size)
      by_cases hkl : k + 1 < U.is.length
      · obtain ⟨z2, hz2⟩ : ∃ z2, U.is[k + 1]? = some z2 := ⟨_, List.getElem?_eq_getElem hkl⟩
        obtain ⟨ib', io', hPI', _, hic'⟩ := rdi_at (HIX.out.below hBx) hz2
        obtain rfl := HN2.out z2 hz2
        have hPI2 := HPI.out
        rw [hPI2] at hPI'
        injection hPI' with e
        injection e with e1 e2 _
        subst e1 e2
        have hklI : (k : Int) + 1 < U.is.length := by omega
        clear hz2 hPI2
        go_wp2
        go_roundw
        case rel => exact ⟨k + 1, by omega, by go_num, hBo⟩
        case measure => simp [intOf]; omega
      · have hklI : ¬ (k : Int) + 1 < U.is.length := by omega
        go_wp2
        go_roundw
        case rel => exact ⟨k + 1, by omega, by go_num, hBo⟩
        case measure => simp [intOf]; omega
    · obtain rfl : k = U.is.length := by omega
      have HSF : Hid (∀ W', Below wr.heap.size wr W' → (W'.cell? ⟨w14.heap.size, 0, none⟩ = some (.slice P.dev.A P.dev.ps.length P.dev.c) ∧ W'.cell? ⟨w14.heap.size, 1, none⟩ = some (.slice P.dev.B P.dev.ws.length P.dev.d) ∧ W'.cell? ⟨w14.heap.size, 2, none⟩ = some (.int .i64 P.u.t) ∧ W'.cell? ⟨w14.heap.size, 3, none⟩ = some (.int .i64 P.u.f) ∧ W'.cell? ⟨w14.heap.size, 4, none⟩ = some (.int .i64 P.u.o) ∧ W'.cell? ⟨w14.heap.size, 5, none⟩ = some (.slice P.O P.os.length P.oc) ∧ W'.cell? ⟨w14.heap.size, 6, none⟩ = some (.slice P.I P.is.length P.ic)) ∧ (W'.cell? ⟨w12.heap.size, 0, none⟩ = some (.slice U.dev.A U.dev.ps.length U.dev.c) ∧ W'.cell? ⟨w12.heap.size, 1, none⟩ = some (.slice U.dev.B U.dev.ws.length U.dev.d) ∧ W'.cell? ⟨w12.heap.size, 2, none⟩ = some (.int .i64 U.u.t) ∧ W'.cell? ⟨w12.heap.size, 3, none⟩ = some (.int .i64 U.u.f) ∧ W'.cell? ⟨w12.heap.size, 4, none⟩ = some (.int .i64 U.u.o) ∧ W'.cell? ⟨w12.heap.size, 5, none⟩ = some (.slice U.O U.os.length U.oc) ∧ W'.cell? ⟨w12.heap.size, 6, none⟩ = some (.slice U.I U.is.length U.ic))) := Lib.hid fun W' hB => ⟨blk7 (HKPr.out.below hB HKPr.out.lt), blk7 (HKUr.out.below hB HKUr.out.lt)⟩
      have HAS := Lib.hid (fun W' (hB : Below wr.heap.size wr W') => has10_any P HP.out.fits V2 vc2 ys2 (by omega) W' ((HP.out.lies.below hBr).below hB) ((HIN15.out.rd.below hBr).below hB) (fun y hy => ((HIN15.out.data y hy).below hBr).below hB))
      have HUP := Lib.hid (fun W' (hB : Below wr.heap.size wr W') => used_any P HP.out.fits (used_up HP.out) W' ((HP.out.lies.below hBr).below hB))
      have HUU := Lib.hid (fun W' (hB : Below wr.heap.size wr W') => used_any U HU15.out.fits (used_up HU15.out) W' ((HU15.out.lies.below hBr).below hB))
      rw [HCN.out] at HUP
      generalize (flatNs U.os ++ U.is).length = cn at HUP HUU
      have hBd : Below wr.heap.size wr wr.drew := (Below.refl _ _).drew
      have hir : Hid (Below w.heap.size w wr) := Lib.hid hB0r
      go_wp2_with fail
      clear p6 u0
      refine wp_region_noPanic ?_
      refine wp_region_last 12 (fun W' => (W'.cell? ⟨w14.heap.size, 0, none⟩ = some (.slice P.dev.A P.dev.ps.length P.dev.c) ∧ W'.cell? ⟨w14.heap.size, 1, none⟩ = some (.slice P.dev.B P.dev.ws.length P.dev.d) ∧ W'.cell? ⟨w14.heap.size, 2, none⟩ = some (.int .i64 P.u.t) ∧ W'.cell? ⟨w14.heap.size, 3, none⟩ = some (.int .i64 P.u.f) ∧ W'.cell? ⟨w14.heap.size, 4, none⟩ = some (.int .i64 P.u.o) ∧ W'.cell? ⟨w14.heap.size, 5, none⟩ = some (.slice P.O P.os.length P.oc) ∧ W'.cell? ⟨w14.heap.size, 6, none⟩ = some (.slice P.I P.is.length P.ic)) ∧ (W'.cell? ⟨w12.heap.size, 0, none⟩ = some (.slice U.dev.A U.dev.ps.length U.dev.c) ∧ W'.cell? ⟨w12.heap.size, 1, none⟩ = some (.slice U.dev.B U.dev.ws.length U.dev.d) ∧ W'.cell? ⟨w12.heap.size, 2, none⟩ = some (.int .i64 U.u.t) ∧ W'.cell? ⟨w12.heap.size, 3, none⟩ = some (.int .i64 U.u.f) ∧ W'.cell? ⟨w12.heap.size, 4, none⟩ = some (.int .i64 U.u.o) ∧ W'.cell? ⟨w12.heap.size, 5, none⟩ = some (.slice U.O U.os.length U.oc) ∧ W'.cell? ⟨w12.heap.size, 6, none⟩ = some (.slice U.I U.is.length U.ic))) (by kernel_rfl) (HSF.out _ hBd) (fun hHeld => ?_)
      refine wpAnyL_take 12 (i := 0) (oi := ⟨some 151, _, _, _, _, _⟩) (v := ?_) rfl (by kernel_rfl) (by kernel_rfl) (by kernel_rfl) (by kernel_rfl) (by kernel_rfl) (by kernel_rfl) (by kernel_rfl) (fun _ _ _ h => h) (Or.inl ⟨by rfl, ?_⟩) hHeld ?_
      rotate_left
      focus (intro w hSw; (try dsimp only at hSw); go_simp; try (with_reducible rfl))
      try simp only [Act.put, List.setIfInBounds_toArray, List.set_cons_zero, List.set_cons_succ]
      refine wpAnyL_one (i := 1) (o := ⟨some 152, _, _, _, _, _⟩) (by kernel_rfl) rfl (fun K hK => ?_)
      clear hHeld
      go_simp
      refine (num10_any _ _).mono ?_
      rintro e w20 ⟨rfl, rfl⟩
      go_wp2_with fail
      refine hK.out _ _ (HSF.out _ hBd) (fun hHeld => ?_)
      clear hK K
      try simp only [Act.put, List.setIfInBounds_toArray, List.set_cons_zero, List.set_cons_succ]
      refine wpAnyL_take 12 (i := 2) (oi := ⟨some 153, _, _, _, _, _⟩) (v := ?_) rfl (by kernel_rfl) (by kernel_rfl) (by kernel_rfl) (by kernel_rfl) (by kernel_rfl) (by kernel_rfl) (by kernel_rfl) (fun _ _ _ h => h) (Or.inl ⟨by rfl, ?_⟩) hHeld ?_
      rotate_left
      focus (intro w hSw; (try dsimp only at hSw); go_simp; try (with_reducible rfl))
      try simp only [Act.put, List.setIfInBounds_toArray, List.set_cons_zero, List.set_cons_succ]
      refine wpAnyL_take 12 (i := 3) (oi := ⟨some 154, _, _, _, _, _⟩) (v := ?_) rfl (by kernel_rfl) (by kernel_rfl) (by kernel_rfl) (by kernel_rfl) (by kernel_rfl) (by kernel_rfl) (by kernel_rfl) (fun _ _ _ h => h) (Or.inl ⟨by rfl, ?_⟩) hHeld ?_
      rotate_left
      focus (intro w hSw; (try dsimp only at hSw); go_simp; try (with_reducible rfl))
      try simp only [Act.put, List.setIfInBounds_toArray, List.set_cons_zero, List.set_cons_succ]
      refine wpAnyL_take 12 (i := 4) (oi := ⟨some 155, _, _, _, _, _⟩) (v := ?_) rfl (by kernel_rfl) (by kernel_rfl) (by kernel_rfl) (by kernel_rfl) (by kernel_rfl) (by kernel_rfl) (by kernel_rfl) (fun _ _ _ h => h) (Or.inl ⟨by rfl, ?_⟩) hHeld ?_
      rotate_left
      focus (intro w hSw; (try dsimp only at hSw); go_simp; try (with_reducible rfl))
      try simp only [Act.put, List.setIfInBounds_toArray, List.set_cons_zero, List.set_cons_succ]
      refine wpAnyL_take 12 (i := 5) (oi := ⟨some 156, _, _, _, _, _⟩) (v := ?_) rfl (by kernel_rfl) (by kernel_rfl) (by kernel_rfl) (by kernel_rfl) (by kernel_rfl) (by kernel_rfl) (by kernel_rfl) (fun _ _ _ h => h) (Or.inl ⟨by rfl, ?_⟩) hHeld ?_
      rotate_left
      focus (intro w hSw; (try dsimp only at hSw); go_simp; try (with_reducible rfl))
      try simp only [Act.put, List.setIfInBounds_toArray, List.set_cons_zero, List.set_cons_succ]
      refine wpAnyL_one (i := 6) (o := ⟨some 157, _, _, _, _, _⟩) (by kernel_rfl) rfl (fun K hK => ?_)
      clear hHeld
      go_simp
      refine (HAS.out _ hBd).mono ?_
      rintro e w21 ⟨b, rfl, hb, hB21⟩
      obtain rfl : b = true := hb HPk.out
      have hBa := hBd.trans hB21
      go_wp2_with fail
      refine hK.out _ _ (HSF.out _ hBa) (fun hHeld => ?_)
      clear hK K
      try simp only [Act.put, List.setIfInBounds_toArray, List.set_cons_zero, List.set_cons_succ]
      refine wpAnyL_take 12 (i := 7) (oi := ⟨some 158, _, _, _, _, _⟩) (v := ?_) rfl (by kernel_rfl) (by kernel_rfl) (by kernel_rfl) (by kernel_rfl) (by kernel_rfl) (by kernel_rfl) (by kernel_rfl) (fun _ _ _ h => h) (Or.inl ⟨by rfl, ?_⟩) hHeld ?_
      rotate_left
      focus (intro w hSw; (try dsimp only at hSw); go_simp; try (with_reducible rfl))
      try simp only [Act.put, List.setIfInBounds_toArray, List.set_cons_zero, List.set_cons_succ]
      refine wpAnyL_take 12 (i := 8) (oi := ⟨some 159, _, _, _, _, _⟩) (v := ?_) rfl (by kernel_rfl) (by kernel_rfl) (by kernel_rfl) (by kernel_rfl) (by kernel_rfl) (by kernel_rfl) (by kernel_rfl) (fun _ _ _ h => h) (Or.inl ⟨by rfl, ?_⟩) hHeld ?_
      rotate_left
      focus (intro w hSw; (try dsimp only at hSw); go_simp; try (with_reducible rfl))
      try simp only [Act.put, List.setIfInBounds_toArray, List.set_cons_zero, List.set_cons_succ]
      refine wpAnyL_take 12 (i := 9) (oi := ⟨some 160, _, _, _, _, _⟩) (v := ?_) rfl (by kernel_rfl) (by kernel_rfl) (by kernel_rfl) (by kernel_rfl) (by kernel_rfl) (by kernel_rfl) (by kernel_rfl) (fun _ _ _ h => h) (Or.inl ⟨by rfl, ?_⟩) hHeld ?_
      rotate_left
      focus (intro w hSw; (try dsimp only at hSw); go_simp; try (with_reducible rfl))
      try simp only [Act.put, List.setIfInBounds_toArray, List.set_cons_zero, List.set_cons_succ]
      refine wpAnyL_take 12 (i := 11) (oi := ⟨some 162, _, _, _, _, _⟩) (v := ?_) rfl (by kernel_rfl) (by kernel_rfl) (by kernel_rfl) (by kernel_rfl) (by kernel_rfl) (by kernel_rfl) (by kernel_rfl) (fun _ _ _ h => h) (Or.inl ⟨by rfl, ?_⟩) hHeld ?_
      rotate_left
      focus (intro w hSw; (try dsimp only at hSw); go_simp; try (with_reducible rfl))
      try simp only [Act.put, List.setIfInBounds_toArray, List.set_cons_zero, List.set_cons_succ]
      refine wpAnyL_one (i := 10) (o := ⟨some 161, _, _, _, _, _⟩) (by kernel_rfl) rfl (fun K hK => ?_)
      clear hHeld
      go_simp
      refine (HUP.out _ hBa).mono ?_
      rintro e w22 ⟨rfl, hB22⟩
      have hBb := hBa.trans (hB22.mono hBa.size)
      go_wp2_with fail
      refine hK.out _ _ (HSF.out _ hBb) (fun hHeld => ?_)
      clear hK K
      try simp only [Act.put, List.setIfInBounds_toArray, List.set_cons_zero, List.set_cons_succ]
      refine wpAnyL_last (i := 12) (o := ⟨some 163, _, _, _, _, _⟩) (by kernel_rfl) rfl (by kernel_rfl) (fun K hK => ?_)
      clear hHeld
      go_simp
      refine (HUU.out _ hBb).mono ?_
      rintro e w23 ⟨rfl, hB23⟩
      have hBc := hBb.trans (hB23.mono hBb.size)
      go_wp2_with fail
      refine hK.out _ _ ?_
      clear hK K
      try simp only [Act.put, List.setIfInBounds_toArray, List.set_cons_zero, List.set_cons_succ]
      refine wpAnyL_takeW (i := 13) (oi := ⟨some 164, _, _, _, _, _⟩) (v := ?_) rfl (by kernel_rfl) (by kernel_rfl) (by kernel_rfl) (by kernel_rfl) (fun _ _ _ h => h) (Or.inl ⟨by rfl, ?_⟩) (.inl (by kernel_rfl)) ?_
      rotate_left
      focus (intro w hSw; (try dsimp only at hSw); go_simp; try (with_reducible rfl))
      try simp only [Act.put, List.setIfInBounds_toArray, List.set_cons_zero, List.set_cons_succ]
      refine wpAnyL_takeW (i := 14) (oi := ⟨some 165, _, _, _, _, _⟩) (v := ?_) rfl (by kernel_rfl) (by kernel_rfl) (by kernel_rfl) (by kernel_rfl) (fun _ _ _ h => h) (Or.inl ⟨by rfl, ?_⟩) (.inl (by kernel_rfl)) ?_
      rotate_left
      focus (intro w hSw; (try dsimp only at hSw); go_simp; try (with_reducible rfl))
      try simp only [Act.put, List.setIfInBounds_toArray, List.set_cons_zero, List.set_cons_succ]
      refine wpAnyL_takeW (i := 15) (oi := ⟨some 6, _, _, _, _, _⟩) (v := ?_) rfl (by kernel_rfl) (by kernel_rfl) (by kernel_rfl) (by kernel_rfl) (fun _ _ _ h => h) (Or.inl ⟨by rfl, ?_⟩) (.inl (by kernel_rfl)) ?_
      rotate_left
      focus (intro w hSw; (try dsimp only at hSw); go_simp; try (with_reducible rfl))
      try simp only [Act.put, List.setIfInBounds_toArray, List.set_cons_zero, List.set_cons_succ]
      refine wpAnyL_done (by kernel_rfl) ?_ _
      refine NoPanic.normal ?_
      go_wp2
      go_ret
      exact ⟨rfl, hir.out.trans (hBc.mono hir.out.size)⟩

end Go.Proofs.YtmehjmkakkiedaaGreat
