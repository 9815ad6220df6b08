/-
  StoreCrashes' walk. Conditions: the objects are as they came in.
-/
import Derived.Test.YtmehjmkakkiedaaGreatMVB
import Derived.Laws.StructEq
namespace Go.Proofs.YtmehjmkakkiedaaGreat
open Go.ChangeShapes Go.WideShapes Go.ChangeAt Go.RowKit
set_option maxRecDepth 100000

theorem cut_ways (q : Int) (L : Nat) (hL : L ≤ 20000) : ∃ (k : Nat), k ≤ L ∧ (wrap64 (wrap64 (q.tmod ((L : Int) + 1) + L) + 1)).tmod ((L : Int) + 1) = (k : Int) := by
  obtain ⟨h0, h1⟩ := cutI_le q L
  have g1 : -((L : Int) + 1) < q.tmod (L + 1) := Int.lt_tmod_of_pos q (by omega)
  have g2 : q.tmod (L + 1) < (L : Int) + 1 := Int.tmod_lt_of_pos q (by omega)
  refine ⟨(cutI q L).toNat, by omega, ?_⟩
  have e1 : wrap64 (q.tmod ((L : Int) + 1) + L) = q.tmod ((L : Int) + 1) + L := IntWalk.wrap64_in _ (by omega)
  rw [e1]
  have e2 : wrap64 (q.tmod ((L : Int) + 1) + L + 1) = q.tmod ((L : Int) + 1) + L + 1 := IntWalk.wrap64_in _ (by clear e1; omega)
  rw [e2]
  have e : (q.tmod (L + 1) + L + 1).tmod ((L : Int) + 1) = cutI q L := rfl
  rw [e]
  clear e e1 e2
  omega

set_option maxHeartbeats 8000000 in
theorem crashes10_walk (n : Int) (A : Option Addr) (c : Nat) (ls : List Ob) (A2 : Option Addr) (c2 : Nat) (ls2 : List Ob) (q : Int) (_hq : -9223372036854775808 ≤ q ∧ q ≤ 9223372036854775807) (K : Option Addr) (bs : List Bool) (kc : Nat) (w : World) (hI : ObsIn w A c ls) (hI2 : ObsIn w A2 c2 ls2) (hK : Rd w K (bcl bs)) :
    Calls Tryz.prog 4 #[.int .i64 n, .slice A ls.length c, .slice A2 ls2.length c2, .int .i64 q, .slice K bs.length kc] w fun e w' => e = .returned (.bool true) ∧ Below w.heap.size w w' := by
  have HI := Lib.hid hI
  have HI2 := Lib.hid hI2
  have HK := Lib.hid hK
  have HAL := Lib.hid (alive10_any w)
  have hsz := sizeN_le n
  obtain ⟨m, hm⟩ : ∃ m : Nat, sizeN n = (m : Int) := ⟨(sizeN n).toNat, by omega⟩
  have HSZ := Lib.hid (fun w => size10_any n w)
  rw [hm] at HSZ hsz
  have hm2 : 2 ≤ m := by omega
  have hm3 : m ≤ 8192 := by omega
  clear hI hI2 hK hsz hm
  go_enter Tryz.func4, Tryz.ntmps4
  go_wp2_with fail
  refine HAL.out.mono ?_
  rintro e w1 ⟨rfl, hB1⟩
  go_wp2_with fail
  refine (HSZ.out w1).mono ?_
  rintro e w1' ⟨rfl, rfl⟩
  go_wp2_with fail
  refine (first10_any m hm2 hm3 w1').mono ?_
  rintro e w2 ⟨E, rfl, hN, hB2⟩
  have hB02 : Below w.heap.size w w2 := hB1.trans (hB2.mono hB1.size)
  obtain ⟨w3, hw3⟩ : ∃ w3, w2.alloc (.cells #[.slice E.A E.ps.length E.c, .slice E.B E.ws.length E.d, .int .i64 2, .int .i64 0, .int .i64 0, .slice none 0 0, .slice none 0 0] 32) = w3 := ⟨_, rfl⟩
  have hB23 : Below w2.heap.size w2 w3 := hw3 ▸ (Below.refl _ w2).alloc (Nat.le_refl _) _
  have ks : Blk w3 w2.heap.size 32 [.slice E.A E.ps.length E.c, .slice E.B E.ws.length E.d, .int .i64 2, .int .i64 0, .int .i64 0, .slice none 0 0, .slice none 0 0] := hw3 ▸ Blk.new w2 _ _
  have hB03 : Below w.heap.size w w3 := hB02.trans (hB23.mono hB02.size)
  have HN := Lib.hid (hN.below hB23)
  have HKS := Lib.hid ks
  have hlt3 := ks.lt
  have HG := Lib.hid (good10_any A c ls (by have := HI.out.len; omega) HI.out.fits w3 ((HI.out.below hB03).rd))
  have HG2 := Lib.hid (fun w' (hB : Below w.heap.size w w') => good10_any A2 c2 ls2 (by have := HI2.out.len; omega) HI2.out.fits w' ((HI2.out.below hB).rd))
  have HW3 := Lib.hid hw3
  clear hw3 ks hN HAL HSZ hB23 hm2 hm3
  go_wp2_with fail
  rw [HW3.out]
  refine HG.out.mono ?_
  rintro e w4 ⟨v, rfl, ys, hgl, hoys, hB4⟩
  have hB04 : Below w.heap.size w w4 := hB03.trans (hB4.mono hB03.size)
  obtain ⟨V, vc, rfl, _, _, hrV, _⟩ := own_any hoys
  have HIN := Lib.hid (hgl.in_ HI.out hB04 hrV.1)
  have hyl := hgl.len
  clear hgl hoys hrV HG HW3
  go_wp2_with fail
  refine (HG2.out w4 hB04).mono ?_
  rintro e w5 ⟨v, rfl, ys2, hgl, hoys, hB5⟩
  have hB05 : Below w.heap.size w w5 := hB04.trans (hB5.mono hB04.size)
  obtain ⟨V2, vc2, rfl, _, _, hrV, _⟩ := own_any hoys
  have HIN2 := Lib.hid (hgl.in_ HI2.out hB05 hrV.1)
  have hyl2 := hgl.len
  have HIN5 := Lib.hid (HIN.out.below hB5)
  have hB35 : Below w3.heap.size w3 w5 := hB4.trans (hB5.mono hB4.size)
  have HKS5 := Lib.hid (HKS.out.below hB35 hlt3)
  have HUN := Lib.hid ((Up.of_new (HN.out.below hB35)).mono (Nat.zero_le _))
  have HC1 := Lib.hid (commit_up2 (newSt E) V vc ys w5 HUN.out (show (2 : Int) < 1099511627776 by decide) HIN5.out)
  obtain ⟨q0, q1, q2, q3, q4, q5, q6⟩ := blk7 HKS5.out
  clear hgl hoys hrV HG2 HIN HI HI2 HKS HN
  go_wp2_with fail
  refine HC1.out.mono ?_
  rintro e w6 ⟨h, hB6⟩
  have hB06 : Below w.heap.size w w6 := hB05.trans (hB6.mono hB05.size)
  clear q0 q1 q2 q3 q4 q5 q6 HC1 HKS5 HUN
  rcases h with rfl | ⟨T, A0, c0, l0, aw0, S0, rfl, hD, _⟩
  · have hB7 : Below w.heap.size w (w6.alloc (.cells #[.slice none 0 0, .slice none 0 0, .int .i64 0, .int .i64 0, .int .i64 0, .slice none 0 0, .slice none 0 0] 32)) := hB06.alloc hB06.size _
    go_wp2_with (go_at_call 12; refine (num10_any _ _).mono ?_; rintro e w9 ⟨rfl, rfl⟩)
    go_ret
    exact ⟨rfl, hB7⟩
  have HT3 : Hid (T.u.t = 3) := Lib.hid hD.t
  obtain ⟨w7, hw7⟩ : ∃ w7, w6.alloc (.cells #[.slice T.dev.A T.dev.ps.length T.dev.c, .slice T.dev.B T.dev.ws.length T.dev.d, .int .i64 T.u.t, .int .i64 T.u.f, .int .i64 T.u.o, .slice T.O T.os.length T.oc, .slice T.I T.is.length T.ic] 32) = w7 := ⟨_, rfl⟩
  have hB67 : Below w6.heap.size w6 w7 := hw7 ▸ (Below.refl _ w6).alloc (Nat.le_refl _) _
  have kt : Blk w7 w6.heap.size 32 [.slice T.dev.A T.dev.ps.length T.dev.c, .slice T.dev.B T.dev.ws.length T.dev.d, .int .i64 T.u.t, .int .i64 T.u.f, .int .i64 T.u.o, .slice T.O T.os.length T.oc, .slice T.I T.is.length T.ic] := hw7 ▸ Blk.new w6 _ _
  have hB07 : Below w.heap.size w w7 := hB06.trans (hB67.mono hB06.size)
  have HKD := Lib.hid hD.kd
  have HT7 := Lib.hid ((hD.up.below hB67).mono (Nat.zero_le _))
  have HKT := Lib.hid kt
  have hlt7 := kt.lt
  have hB57 : Below w5.heap.size w5 w7 := hB6.trans (hB67.mono hB6.size)
  have HC2 := Lib.hid (commit_up2 T V2 vc2 ys2 w7 HT7.out (by have := HT3.out; omega) (HIN2.out.below hB57))
  have HW7 := Lib.hid hw7
  obtain ⟨q0, q1, q2, q3, q4, q5, q6⟩ := blk7 kt
  clear hw7 kt hD
  go_upto_region 6 with fail
  rw [HW7.out]
  go_wp2_with (go_at_call 12; refine (num10_any _ _).mono ?_; rintro e w7' ⟨rfl, rfl⟩)
  refine HC2.out.mono ?_
  rintro e w8 ⟨h, hB8⟩
  have hB08 : Below w.heap.size w w8 := hB07.trans (hB8.mono hB07.size)
  clear q0 q1 q2 q3 q4 q5 q6 HC2
  rcases h with rfl | ⟨U, A', c', l, aw1, S1, rfl, hD, hl⟩
  · have hB9 : Below w.heap.size w (w8.alloc (.cells #[.slice none 0 0, .slice none 0 0, .int .i64 0, .int .i64 0, .int .i64 0, .slice none 0 0, .slice none 0 0] 32)) := hB08.alloc hB08.size _
    go_wp2_with (go_at_call 12; refine (num10_any _ _).mono ?_; rintro e w9 ⟨rfl, rfl⟩)
    go_ret
    exact ⟨rfl, hB9⟩
  have HD := Lib.hid hD
  obtain ⟨w9, hw9⟩ : ∃ w9, w8.alloc (.cells #[.slice U.dev.A U.dev.ps.length U.dev.c, .slice U.dev.B U.dev.ws.length U.dev.d, .int .i64 U.u.t, .int .i64 U.u.f, .int .i64 U.u.o, .slice U.O U.os.length U.oc, .slice U.I U.is.length U.ic] 32) = w9 := ⟨_, rfl⟩
  have hB89 : Below w8.heap.size w8 w9 := hw9 ▸ (Below.refl _ w8).alloc (Nat.le_refl _) _
  have ku : Blk w9 w8.heap.size 32 [.slice U.dev.A U.dev.ps.length U.dev.c, .slice U.dev.B U.dev.ws.length U.dev.d, .int .i64 U.u.t, .int .i64 U.u.f, .int .i64 U.u.o, .slice U.O U.os.length U.oc, .slice U.I U.is.length U.ic] := hw9 ▸ Blk.new w8 _ _
  have hB09 : Below w.heap.size w w9 := hB08.trans (hB89.mono hB08.size)
  have hB79 := hB8.trans (hB89.mono hB8.size)
  have HKT9 := Lib.hid (HKT.out.below hB79 hlt7)
  have HKU := Lib.hid ku
  have HW9 := Lib.hid hw9
  have HD9 := Lib.hid (hD.below hB89)
  have HUT := Lib.hid (show U.u.t = 4 from (by have h1 := hD.t; have h2 := HT3.out; omega))
  obtain ⟨k, hkl, hcut⟩ := cut_ways q l.length hl
  have hdz : ¬ ((l.length : Int) + 1 = 0) := by omega
  have HCUT := Lib.hid hcut
  clear hw9 ku hD hcut
  go_upto_region 9 with fail
  rw [HW9.out]
  go_upto_region 11 with (go_at_call 12; refine (num10_any _ _).mono ?_; rintro e wx ⟨rfl, rfl⟩)
  go_upto_region 12 with fail
  rw [HCUT.out]
  have hne : acCells l ≠ [] := fun e => by
    have g1 := congrArg List.length HD9.out.behind.aw
    rw [List.length_map, List.length_append] at g1
    have g2 : (lastActs U.st.u).length = 3 := rfl
    rcases l with _ | ⟨x, l⟩
    · simp at g1
      omega
    · simp [acCells] at e
  obtain ⟨ab, ao, rfl, _, _⟩ := HD9.out.arr.1 hne
  have hkc : k ≤ c' := by have := HD9.out.cap; omega
  clear hne
  have HSF : Hid (∀ W', Below wx.heap.size wx W' → W'.cell? ⟨w6.heap.size, 0, none⟩ = some (.slice T.dev.A T.dev.ps.length T.dev.c) ∧ W'.cell? ⟨w6.heap.size, 1, none⟩ = some (.slice T.dev.B T.dev.ws.length T.dev.d)) := Lib.hid fun W' hB => by
    obtain ⟨g0, g1, _⟩ := blk7 (HKT9.out.below hB HKT9.out.lt)
    exact ⟨g0, g1⟩
  have HDO := Lib.hid (fun W' (hB : Below wx.heap.size wx W') => do_up T ys2 _ U (some ⟨ab, ao, none⟩) c' l aw1 S1 W' ((HT7.out.below hB79).below hB) (HD9.out.below hB) hl k hkl)
  have hkI : (k : Int) ≤ c' := by omega
  have hk0I : (0 : Int) ≤ k := by omega
  go_cut [19, 20] (fun p e wc => ∃ (E : Dv) (Y : Nat), p = .pointer (some ⟨Y, 0, none⟩) ∧ e = .int .i64 0 ∧ Hid (E.st = doL T.st.dev ((l.map Ac.st).take k) ∧ E.Fits ∧ E.st.ok) ∧ Hid (E.Lies wx.heap.size wc) ∧ Hid (Blk wc Y 27 [.slice E.A E.ps.length E.c, .slice E.B E.ws.length E.d]) ∧ wx.heap.size ≤ Y ∧ Below wx.heap.size wx wc)
  case first =>
    have hBd : Below wx.heap.size wx wx.drew := (Below.refl _ _).drew
    refine wp_region_noPanic ?_
    refine wp_region_last 10 (fun W' => W'.cell? ⟨w6.heap.size, 0, none⟩ = some (.slice T.dev.A T.dev.ps.length T.dev.c) ∧ W'.cell? ⟨w6.heap.size, 1, none⟩ = some (.slice T.dev.B T.dev.ws.length T.dev.d)) (by kernel_rfl) (HSF.out _ hBd) (fun hHeld => ?_)
    refine wpAnyL_take 12 (i := 0) (oi := ⟨some 85, _, _, _, _, _⟩) (v := ?_) rfl (by kernel_rfl) (by kernel_rfl) (by kernel_rfl) (by kernel_rfl) (by kernel_rfl) (by kernel_rfl) (by kernel_rfl) (fun _ _ _ h => h) (Or.inl ⟨by rfl, ?_⟩) hHeld ?_
    rotate_left
    focus (intro w hSw; (try dsimp only at hSw); go_simp; try (with_reducible rfl))
    try simp only [Act.put, List.setIfInBounds_toArray, List.set_cons_zero, List.set_cons_succ]
    refine wpAnyL_take 12 (i := 1) (oi := ⟨some 86, _, _, _, _, _⟩) (v := ?_) rfl (by kernel_rfl) (by kernel_rfl) (by kernel_rfl) (by kernel_rfl) (by kernel_rfl) (by kernel_rfl) (by kernel_rfl) (fun _ _ _ h => h) (Or.inl ⟨by rfl, ?_⟩) hHeld ?_
    rotate_left
    focus (intro w hSw; (try dsimp only at hSw); go_simp; try (with_reducible rfl))
    try simp only [Act.put, List.setIfInBounds_toArray, List.set_cons_zero, List.set_cons_succ]
    refine wpAnyL_take 12 (i := 2) (oi := ⟨some 87, _, _, _, _, _⟩) (v := ?_) rfl (by kernel_rfl) (by kernel_rfl) (by kernel_rfl) (by kernel_rfl) (by kernel_rfl) (by kernel_rfl) (by kernel_rfl) (fun _ _ _ h => h) (Or.inl ⟨by rfl, ?_⟩) hHeld ?_
    rotate_left
    focus (intro w hSw; (try dsimp only at hSw); go_simp; try (with_reducible rfl))
    try simp only [Act.put, List.setIfInBounds_toArray, List.set_cons_zero, List.set_cons_succ]
    refine wpAnyL_take 12 (i := 3) (oi := ⟨some 88, _, _, _, _, _⟩) (v := ?_) rfl (by kernel_rfl) (by kernel_rfl) (by kernel_rfl) (by kernel_rfl) (by kernel_rfl) (by kernel_rfl) (by kernel_rfl) (fun _ _ _ h => h) (Or.inl ⟨by rfl, ?_⟩) hHeld ?_
    rotate_left
    focus (intro w hSw; (try dsimp only at hSw); go_simp; try (with_reducible rfl))
    try simp only [Act.put, List.setIfInBounds_toArray, List.set_cons_zero, List.set_cons_succ]
    refine wpAnyL_take 12 (i := 4) (oi := ⟨some 89, _, _, _, _, _⟩) (v := ?_) rfl (by kernel_rfl) (by kernel_rfl) (by kernel_rfl) (by kernel_rfl) (by kernel_rfl) (by kernel_rfl) (by kernel_rfl) (fun _ _ _ h => h) (Or.inl ⟨by rfl, ?_⟩) hHeld ?_
    rotate_left
    focus (intro w hSw; (try dsimp only at hSw); go_simp; try (with_reducible rfl))
    try simp only [Act.put, List.setIfInBounds_toArray, List.set_cons_zero, List.set_cons_succ]
    refine wpAnyL_two (i := 5) (k := 9) (o := ⟨some 90, _, _, _, _, _⟩) (p := ⟨some 19, _, _, _, _, _⟩) (by kernel_rfl) rfl rfl (fun K hK => ?_) (fun K hK => ?_)
    focus
      clear hHeld
      go_simp
      refine (HDO.out _ hBd).mono ?_
      rintro e w11 ⟨E, rfl, hE, hL, hEf, hEo, hB11⟩
      have hB1x : Below wx.heap.size wx w11 := hBd.trans hB11
      go_wp2_with fail
      refine hK.out _ _ (HSF.out _ hB1x) (fun hHeld => ?_)
      clear hK K
      try simp only [Act.put, List.setIfInBounds_toArray, List.set_cons_zero, List.set_cons_succ]
      refine wpAnyL_take 12 (i := 6) (oi := ⟨some 84, _, _, _, _, _⟩) (v := ?_) rfl (by kernel_rfl) (by kernel_rfl) (by kernel_rfl) (by kernel_rfl) (by kernel_rfl) (by kernel_rfl) (by kernel_rfl) (fun _ _ _ h => h) (Or.inl ⟨by rfl, ?_⟩) hHeld ?_
      rotate_left
      focus (intro w hSw; (try dsimp only at hSw); go_simp; try (with_reducible rfl))
      try simp only [Act.put, List.setIfInBounds_toArray, List.set_cons_zero, List.set_cons_succ]
      refine wpAnyL_take 12 (i := 7) (oi := ⟨some 91, _, _, _, _, _⟩) (v := ?_) rfl (by kernel_rfl) (by kernel_rfl) (by kernel_rfl) (by kernel_rfl) (by kernel_rfl) (by kernel_rfl) (by kernel_rfl) (fun _ _ _ h => h) (Or.inl ⟨by rfl, ?_⟩) hHeld ?_
      rotate_left
      focus (intro w hSw; (try dsimp only at hSw); go_simp; try (with_reducible rfl))
      try simp only [Act.put, List.setIfInBounds_toArray, List.set_cons_zero, List.set_cons_succ]
      refine wpAnyL_takeW (i := 8) (oi := ⟨some 92, _, _, _, _, _⟩) (v := ?_) rfl (by kernel_rfl) (by kernel_rfl) (by kernel_rfl) (by kernel_rfl) (fun _ _ _ h => h) (Or.inl ⟨by rfl, ?_⟩) (.inr hHeld) ?_
      rotate_left
      focus (intro w hSw; (try dsimp only at hSw); go_simp; try (with_reducible rfl))
      try simp only [Act.put, List.setIfInBounds_toArray, List.set_cons_zero, List.set_cons_succ]
      refine wpAnyL_one (i := 9) (o := ⟨some 19, _, _, _, _, _⟩) (by kernel_rfl) rfl (fun K hK => ?_)
      clear hHeld
      go_simp
      have hL4 : E.Lies wx.heap.size (w11.alloc (.cells #[.slice none 0 0, .slice none 0 0] 27)) := hL.below ((Below.refl _ _).alloc (Nat.le_refl _) _)
      have hB4 : Below wx.heap.size wx (w11.alloc (.cells #[.slice none 0 0, .slice none 0 0] 27)) := hB1x.alloc hB1x.size _
      have kY := Blk.new w11 [.slice none 0 0, .slice none 0 0] 27
      have hY : wx.heap.size ≤ w11.heap.size := hB1x.size
      go_wp2_with fail
      refine hK.out _ _ (HSF.out _ hB4) (fun hHeld => ?_)
      clear hK K
      try simp only [Act.put, List.setIfInBounds_toArray, List.set_cons_zero, List.set_cons_succ]
      refine wpAnyL_last (i := 10) (o := ⟨none, _, _, _, _, _⟩) (by kernel_rfl) rfl (by kernel_rfl) (fun K hK => ?_)
      clear hHeld
      go_simp
      go_wp2_with fail
      refine hK.out _ _ ?_
      clear hK K
      try simp only [Act.put, List.setIfInBounds_toArray, List.set_cons_zero, List.set_cons_succ]
      refine wpAnyL_takeW (i := 11) (oi := ⟨some 20, _, _, _, _, _⟩) (v := ?_) rfl (by kernel_rfl) (by kernel_rfl) (by kernel_rfl) (by kernel_rfl) (fun _ _ _ h => h) (Or.inl ⟨by rfl, ?_⟩) (.inl (by kernel_rfl)) ?_
      rotate_left
      focus (intro w hSw; (try dsimp only at hSw); go_simp; try (with_reducible rfl))
      try simp only [Act.put, List.setIfInBounds_toArray, List.set_cons_zero, List.set_cons_succ]
      refine wpAnyL_done (by kernel_rfl) ?_ _
      refine NoPanic.normal ?_
    rotate_left
    focus
      clear hHeld
      go_simp
      have kY : Blk (wx.drew.alloc (.cells #[.slice none 0 0, .slice none 0 0] 27)) wx.heap.size 27 [.slice none 0 0, .slice none 0 0] := Blk.new wx.drew [.slice none 0 0, .slice none 0 0] 27
      have hB3 : Below wx.heap.size wx (wx.drew.alloc (.cells #[.slice none 0 0, .slice none 0 0] 27)) := hBd.alloc hBd.size _
      go_wp2_with fail
      refine hK.out _ _ (HSF.out _ hB3) (fun hHeld => ?_)
      clear hK K
      try simp only [Act.put, List.setIfInBounds_toArray, List.set_cons_zero, List.set_cons_succ]
      refine wpAnyL_one (i := 5) (o := ⟨some 90, _, _, _, _, _⟩) (by kernel_rfl) rfl (fun K hK => ?_)
      clear hHeld
      go_simp
      refine (HDO.out _ hB3).mono ?_
      rintro e w11 ⟨E, rfl, hE, hL, hEf, hEo, hB4⟩
      have hB1x : Below wx.heap.size wx w11 := hB3.trans (hB4.mono hB3.size)
      have kY3 := kY.below hB4 kY.lt
      have y0 := kY3.cell 0
      have y1 := kY3.cell 1
      have q0 := kY3.frozen 0
      have q1 := kY3.frozen 1
      simp only [List.getElem?_cons_zero, List.getElem?_cons_succ] at y0 y1
      go_wp2_with fail
      refine hK.out _ _ (HSF.out _ hB1x) (fun hHeld => ?_)
      clear hK K
      try simp only [Act.put, List.setIfInBounds_toArray, List.set_cons_zero, List.set_cons_succ]
      refine wpAnyL_take 12 (i := 6) (oi := ⟨some 84, _, _, _, _, _⟩) (v := ?_) rfl (by kernel_rfl) (by kernel_rfl) (by kernel_rfl) (by kernel_rfl) (by kernel_rfl) (by kernel_rfl) (by kernel_rfl) (fun _ _ _ h => h) (Or.inl ⟨by rfl, ?_⟩) hHeld ?_
      rotate_left
      focus (intro w hSw; (try dsimp only at hSw); go_simp; try (with_reducible rfl))
      try simp only [Act.put, List.setIfInBounds_toArray, List.set_cons_zero, List.set_cons_succ]
      refine wpAnyL_take 12 (i := 7) (oi := ⟨some 91, _, _, _, _, _⟩) (v := ?_) rfl (by kernel_rfl) (by kernel_rfl) (by kernel_rfl) (by kernel_rfl) (by kernel_rfl) (by kernel_rfl) (by kernel_rfl) (fun _ _ _ h => h) (Or.inl ⟨by rfl, ?_⟩) hHeld ?_
      rotate_left
      focus (intro w hSw; (try dsimp only at hSw); go_simp; try (with_reducible rfl))
      try simp only [Act.put, List.setIfInBounds_toArray, List.set_cons_zero, List.set_cons_succ]
      refine wpAnyL_takeW (i := 8) (oi := ⟨some 92, _, _, _, _, _⟩) (v := ?_) rfl (by kernel_rfl) (by kernel_rfl) (by kernel_rfl) (by kernel_rfl) (fun _ _ _ h => h) (Or.inl ⟨by rfl, ?_⟩) (.inr hHeld) ?_
      rotate_left
      focus (intro w hSw; (try dsimp only at hSw); go_simp; try (with_reducible rfl))
      try simp only [Act.put, List.setIfInBounds_toArray, List.set_cons_zero, List.set_cons_succ]
      refine wpAnyL_last (i := 10) (o := ⟨none, _, _, _, _, _⟩) (by kernel_rfl) rfl (by kernel_rfl) (fun K hK => ?_)
      clear hHeld
      go_simp
      go_wp2_with fail
      refine hK.out _ _ ?_
      clear hK K
      try simp only [Act.put, List.setIfInBounds_toArray, List.set_cons_zero, List.set_cons_succ]
      refine wpAnyL_takeW (i := 11) (oi := ⟨some 20, _, _, _, _, _⟩) (v := ?_) rfl (by kernel_rfl) (by kernel_rfl) (by kernel_rfl) (by kernel_rfl) (fun _ _ _ h => h) (Or.inl ⟨by rfl, ?_⟩) (.inl (by kernel_rfl)) ?_
      rotate_left
      focus (intro w hSw; (try dsimp only at hSw); go_simp; try (with_reducible rfl))
      try simp only [Act.put, List.setIfInBounds_toArray, List.set_cons_zero, List.set_cons_succ]
      refine wpAnyL_done (by kernel_rfl) ?_ _
      refine NoPanic.normal ?_
    rotate_left
    all_goals (go_wp2_with fail; go_meet)
    · exact ⟨E, _, rfl, rfl, Lib.hid ⟨hE, hEf, hEo⟩, Lib.hid (hL.below ((Below.refl _ _).alloc (Nat.le_refl _) _)), Lib.hid (Blk.new w11 [.slice E.A E.ps.length E.c, .slice E.B E.ws.length E.d] _), hY, hB1x.alloc hB1x.size _⟩
    · have hst : ∀ k, wx.heap.size + 1 ≤ k → ((w11.setCell ⟨wx.heap.size, 0, none⟩ (.slice E.A E.ps.length E.c)).setCell ⟨wx.heap.size, 1, none⟩ (.slice E.B E.ws.length E.d)).heap[k]? = w11.heap[k]? := fun k hk => by
        simp only [World.setCell, Array.getElem?_modify]
        rw [if_neg (by omega), if_neg (by omega)]
      refine ⟨E, _, rfl, rfl, Lib.hid ⟨hE, hEf, hEo⟩, Lib.hid (Dv.Lies.mono (n := wx.heap.size + 1) ?_ (Nat.le_succ _)), Lib.hid ((kY3.set 0 _).set 1 _), Nat.le_refl _, (hB1x.setCell (p := ⟨wx.heap.size, 0, none⟩) (Nat.le_refl _) _).setCell (p := ⟨wx.heap.size, 1, none⟩) (Nat.le_refl _) _⟩
      have hL' : E.Lies (wx.heap.size + 1) w11 := by rw [World.size_alloc] at hL; exact hL
      exact hL'.stays (by simp) fun k h1 _ => hst k h1
  case rest =>
    obtain ⟨E', Y, rfl, rfl, HE, HL, HY, hYs, hBc⟩ := hcut
    have hB0c : Below w.heap.size w wc := hB09.trans (hBc.mono hB09.size)
    have HCR := Lib.hid (crash_ok E' HE.out.2.1 HE.out.2.2 K bs kc wc (HL.out.mono (Nat.zero_le _)) (HK.out.below hB0c))
    obtain ⟨y0, y1⟩ := blk2 HY.out
    have hYl := HY.out.lt
    clear HSF HDO
    go_wp2_with fail
    refine HCR.out.mono ?_
    rintro e w12 ⟨F, rfl, hF, hFL, hB12⟩
    have hF' : F.st = ⟨cutS T.st.dev ((l.map Ac.st).take k) bs, []⟩ := by
      rw [hF, HE.out.1]
      rfl
    have HF := Lib.hid hF'
    have HFL := Lib.hid hFL
    have ky := HY.out.below hB12 hYl
    obtain ⟨z0, z1⟩ := blk2 ky
    have f0 := ky.frozen 0
    have f1 := ky.frozen 1
    obtain ⟨w13, hw13⟩ : ∃ w13, (w12.setCell ⟨Y, 0, none⟩ (.slice F.A F.ps.length F.c)).setCell ⟨Y, 1, none⟩ (.slice F.B F.ws.length F.d) = w13 := ⟨_, rfl⟩
    have ky13 : Blk w13 Y 27 [.slice F.A F.ps.length F.c, .slice F.B F.ws.length F.d] := hw13 ▸ (ky.set 0 _).set 1 _
    have hh13 : ∀ j, j ≠ Y → w13.heap[j]? = w12.heap[j]? := fun j hj => by
      rw [← hw13]
      simp only [World.setCell, Array.getElem?_modify]
      rw [if_neg (by omega), if_neg (by omega)]
    have hs13 : w13.heap.size = w12.heap.size := by rw [← hw13]; simp
    have hB1213 : Below wx.heap.size w12 w13 := by
      rw [← hw13]
      exact ((Below.refl wx.heap.size w12).setCell (p := ⟨Y, 0, none⟩) hYs _).setCell (p := ⟨Y, 1, none⟩) hYs _
    have hBx13 : Below wx.heap.size wx w13 := (hBc.trans (hB12.mono hBc.size)).trans hB1213
    have hFL13 : F.Lies wc.heap.size w13 := hFL.stays (by omega) fun j h1 _ => hh13 j (by omega)
    have HO := Lib.hid (open_cut T ys2 _ _ U _ c' l aw1 S1 HT7.out.st HD9.out k hkl bs F hF' w13 (hFL13.mono (Nat.zero_le _)))
    have HW13 := Lib.hid hw13
    have HKY := Lib.hid ky13
    clear hF hF' hFL ky ky13 hh13 hs13 hB1213 hFL13 hw13 HCR y0 y1
    go_upto_region 14 with fail
    rw [HW13.out]
    obtain ⟨y0, y1⟩ := blk2 HKY.out
    clear z0 z1 f0 f1
    go_wp2_with fail
    refine HO.out.mono ?_
    rintro e w14 ⟨O, rfl, hOw, hOL, hOF, hB14⟩
    obtain ⟨w15, hw15⟩ : ∃ w15, w14.alloc (.cells #[.slice O.dev.A O.dev.ps.length O.dev.c, .slice O.dev.B O.dev.ws.length O.dev.d, .int .i64 O.u.t, .int .i64 O.u.f, .int .i64 O.u.o, .slice O.O O.os.length O.oc, .slice O.I O.is.length O.ic] 32) = w15 := ⟨_, rfl⟩
    have hB1415 : Below w14.heap.size w14 w15 := hw15 ▸ (Below.refl _ w14).alloc (Nat.le_refl _) _
    have ko : Blk w15 w14.heap.size 32 [.slice O.dev.A O.dev.ps.length O.dev.c, .slice O.dev.B O.dev.ws.length O.dev.d, .int .i64 O.u.t, .int .i64 O.u.f, .int .i64 O.u.o, .slice O.O O.os.length O.oc, .slice O.I O.is.length O.ic] := hw15 ▸ Blk.new w14 _ _
    have hBx15 : Below wx.heap.size wx w15 := (hBx13.trans (hB14.mono hBx13.size)).trans (hB1415.mono (by have := hBx13.size; have := hB14.size; omega))
    have hB015 : Below w.heap.size w w15 := hB09.trans (hBx15.mono hB09.size)
    have HKO := Lib.hid ko
    have HKTo := Lib.hid (HKT9.out.below hBx15 HKT9.out.lt)
    have HKUo := Lib.hid (HKU.out.below hBx15 HKU.out.lt)
    have hlo := ko.lt
    have hlT := HKTo.out.lt
    have hlU := HKUo.out.lt
    have hB515 := (hB57.trans (hB79.mono hB57.size)).trans (hBx15.mono (by have := hB57.size; have := hB79.size; omega))
    have HA1 := Lib.hid (has10_any O hOF V vc ys (by omega) w15 ((hOL.below hB1415).mono (Nat.zero_le _)) (HIN5.out.rd.below hB515) (fun y hy => (HIN5.out.data y hy).below hB515))
    have HA2 := Lib.hid (fun w' (hB : Below w15.heap.size w15 w') => has10_any O hOF V2 vc2 ys2 (by omega) w' (((hOL.below hB1415).below hB).mono (Nat.zero_le _)) ((HIN2.out.rd.below hB515).below hB) (fun y hy => ((HIN2.out.data y hy).below hB515).below hB))
    have HKD2 := Lib.hid HD9.out.kd
    have HW15 := Lib.hid hw15
    have hne : (T.u.t == U.u.t) = false := by rw [HT3.out, HUT.out]; rfl
    have hne2 : (U.u.t == T.u.t) = false := by rw [HT3.out, HUT.out]; rfl
    have HNE := Lib.hid hne
    have HNE2 := Lib.hid hne2
    obtain ⟨p, hp⟩ : ∃ p, l.length = p + 1 := ⟨l.length - 1, by
      have g1 := congrArg List.length HD9.out.behind.aw
      rw [List.length_map, List.length_append] at g1
      have g2 : (lastActs U.st.u).length = 3 := rfl
      omega⟩
    have HP := Lib.hid hp
    clear hw15 ko hOL hOF hne hne2 y0 y1 HO hp
    go_upto_region 15 with fail
    rw [HW15.out]
    go_upto_region 17 with (go_at_call 12; refine (num10_any _ _).mono ?_; rintro e wy ⟨rfl, rfl⟩)
    obtain ⟨o0, o1, o2, o3, o4, o5, o6⟩ := blk7 HKO.out
    go_wp2_with fail
    refine HA1.out.mono ?_
    rintro e w16 ⟨b1, rfl, hb1, hB16⟩
    have HB1 := Lib.hid hb1
    obtain ⟨o0, o1, o2, o3, o4, o5, o6⟩ := blk7 (HKO.out.below hB16 hlo)
    obtain ⟨t0, t1, t2, t3, t4, t5, t6⟩ := blk7 (HKTo.out.below hB16 hlT)
    clear hb1
    have hwp : IntKind.i64.wrap ((l.length : Int) - 1) = (p : Int) := by
      have := HP.out
      rw [this, IntWalk.i64_in _ (by omega)]
      omega
    have HWP := Lib.hid hwp
    clear hwp
    rcases hOw.way with ⟨hkL, hu, hkd⟩ | ⟨hkL, hu, hkd⟩
    · obtain rfl : b1 = true := HB1.out (hkd.trans HKD.out)
      have hki : ¬ ((k : Int) = (l.length : Int)) := by omega
      have HU := Lib.hid hu
      have hA2 := HA2.out w16 hB16
      dsimp only [St.val] at hA2
      rw [hu] at o2 o3 o4 hA2
      have HA3 := Lib.hid hA2
      clear hu hkd hOw hA2
      go_wp2_with fail
      refine HA3.out.mono ?_
      rintro e w17 ⟨b2, rfl, _, hB17⟩
      have hB1517 := hB16.trans (hB17.mono hB16.size)
      have hBF : Below w.heap.size w w17 := hB015.trans (hB1517.mono hB015.size)
      obtain ⟨o0, o1, o2, o3, o4, o5, o6⟩ := blk7 (HKO.out.below hB1517 hlo)
      obtain ⟨u0, u1, u2, u3, u4, u5, u6⟩ := blk7 (HKUo.out.below hB1517 hlU)
      rw [HU.out] at o2 o3 o4
      have hne := HNE.out
      have hwp := HWP.out
      clear t0 t1 t2 t3 t4 t5 t6
      by_cases hkp : (k : Int) < p
      · rcases b2 with _ | _
        · go_wp2
          go_ret
          exact ⟨rfl, hBF⟩
        · go_wp2
          go_ret
          exact ⟨rfl, hBF⟩
      · rcases b2 with _ | _
        · go_wp2
          go_ret
          exact ⟨rfl, hBF⟩
        · go_wp2
          go_ret
          exact ⟨rfl, hBF⟩
    · have hA2 := HA2.out w16 hB16
      dsimp only [St.val] at hA2
      rw [hu] at o2 o3 o4 hA2
      have HA3 := Lib.hid hA2
      have HU := Lib.hid hu
      have HKO2 := Lib.hid (hkd.trans HKD2.out)
      have hne := HNE2.out
      clear hu hkd hOw hA2
      rcases b1 with _ | _
      all_goals (
        go_wp2_with fail
        refine HA3.out.mono ?_
        rintro e w17 ⟨b2, rfl, hb2, hB17⟩
        obtain rfl : b2 = true := hb2 HKO2.out
        have hB1517 := hB16.trans (hB17.mono hB16.size)
        have hBF : Below w.heap.size w w17 := hB015.trans (hB1517.mono hB015.size)
        obtain ⟨o0, o1, o2, o3, o4, o5, o6⟩ := blk7 (HKO.out.below hB1517 hlo)
        obtain ⟨u0, u1, u2, u3, u4, u5, u6⟩ := blk7 (HKUo.out.below hB1517 hlU)
        rw [HU.out] at o2 o3 o4
        have hwp := HWP.out
        clear t0 t1 t2 t3 t4 t5 t6
        by_cases hke : k = l.length
        · have hki : (k : Int) = (l.length : Int) := by omega
          go_wp2
          go_ret
          exact ⟨rfl, hBF⟩
        · have hki : ¬ ((k : Int) = (l.length : Int)) := by omega
          have hkp : ¬ (k : Int) < p := by have := HP.out; omega
          go_wp2
          go_ret
          exact ⟨rfl, hBF⟩)

end Go.Proofs.YtmehjmkakkiedaaGreat
