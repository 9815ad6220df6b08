/-
  BlocksTells' walk. No conditions.
-/
import Derived.Test.YtkebgfpghjgghaaBLP
namespace Go.Proofs.Ytkebgfpghjgghaa
open Go.ChangeShapes Go.WideShapes Go.ChangeAt Go.RowKit
set_option maxRecDepth 100000

set_option maxRecDepth 100000 in
set_option maxHeartbeats 4000000 in
theorem tells11_walk (A : Option Addr) (c : Nat) (l : List Bk) (i m : Int) (hm : -9223372036854775808 ≤ m ∧ m ≤ 9223372036854775807) (d : ByteArray) (hd : d.size ≤ 140737488351232) (B : Option Addr) (cb : Nat) (zs : List Int) (w : World) (h : Came w A c l) (hb : CameB w B cb zs) :
    Calls Try.prog 3 #[.slice A l.length c, .int .i64 i, .int .i64 m, .string d, .slice B zs.length cb] w fun e w' => e = .returned (.bool true) ∧ Below w.heap.size w w' := by
  have H := Lib.hid h
  have HB := Lib.hid hb
  have hP1 := putR_ok l i d
  have hP2 := freeR_ok l i m
  have hP3 := readR_ok zs
  obtain ⟨P1, p1⟩ : ∃ P, putR l i d = P := ⟨_, rfl⟩
  obtain ⟨P2, p2⟩ : ∃ P, freeR l i m = P := ⟨_, rfl⟩
  obtain ⟨P3, p3⟩ : ∃ P, readR zs = P := ⟨_, rfl⟩
  obtain ⟨E1, e1⟩ : ∃ E, putE l i d.size = E := ⟨_, rfl⟩
  obtain ⟨E2, e2⟩ : ∃ E, freeE l i m = E := ⟨_, rfl⟩
  obtain ⟨E3, e3⟩ : ∃ E, readE zs = E := ⟨_, rfl⟩
  obtain ⟨C, eC⟩ : ∃ E, chkK l = E := ⟨_, rfl⟩
  obtain ⟨G, eG⟩ : ∃ E, getK l i = E := ⟨_, rfl⟩
  obtain ⟨O, eO⟩ : ∃ E, octR l = E := ⟨_, rfl⟩
  rw [p1] at hP1
  rw [p2] at hP2
  rw [p3] at hP3
  have F1 := Lib.hid (fun W (hW : Below w.heap.size w W) => (H.out.below hW).put i d hd)
  have F2 := Lib.hid (fun W (hW : Below w.heap.size w W) => (H.out.below hW).refPut i d hd)
  have F3 := Lib.hid (fun W (hW : Below w.heap.size w W) => (H.out.below hW).free i m)
  have F4 := Lib.hid (fun W (hW : Below w.heap.size w W) => (H.out.below hW).refFree i m hm)
  have F5 := Lib.hid (fun W (hW : Below w.heap.size w W) => (H.out.below hW).get i)
  have F6 := Lib.hid (fun W (hW : Below w.heap.size w W) => (H.out.below hW).refGet i)
  have F7 := Lib.hid (fun W (hW : Below w.heap.size w W) => (H.out.below hW).octets)
  have F8 := Lib.hid (fun W (hW : Below w.heap.size w W) => (HB.out.below hW).read)
  have F9 := Lib.hid (fun W (hW : Below w.heap.size w W) => (HB.out.below hW).refRead)
  have F10 := Lib.hid (fun W (hW : Below w.heap.size w W) => (H.out.below hW).check)
  have F11 := Lib.hid (fun W (hW : Below w.heap.size w W) => (H.out.below hW).refCheck)
  have F12 := Lib.hid (fun (hok : okK l = true) W (hW : Below w.heap.size w W) => refOctets_blk A c l.length l rfl hok W (H.out.below hW).rd)
  have HOL := Lib.hid (fun (hok : okK l = true) => okK_len hok)
  have HO := Lib.hid eO
  have HCC := Lib.hid eC
  have HP1 := Lib.hid hP1
  have HP2 := Lib.hid hP2
  have HP3 := Lib.hid hP3
  rw [p1, e1] at F1 F2
  rw [p2, e2] at F3 F4
  rw [eG] at F5 F6
  rw [eO, eC] at F7
  rw [p3, e3] at F8 F9
  rw [eC] at F10 F11
  clear h hb p1 p2 p3 e1 e2 e3 eC eG eO hP1 hP2 hP3
  go_enter Try.func3, Try.ntmps3
  go_wp2_with fail
  refine (F1.out w (Below.refl _ _)).mono ?_
  rintro e w1 ⟨A1, c1, rfl, q1, n1, r1, B1⟩
  have X1 := Lib.hid (Came.of_ok HP1.out q1 n1 r1)
  clear r1 q1 n1
  go_wp2_with fail
  refine (F2.out w1 B1).mono ?_
  rintro e w2 ⟨A2, c2, rfl, q2, n2, r2, B2⟩
  have X2 := Lib.hid (Came.of_ok HP1.out q2 n2 r2)
  have B02 := B1.trans (B2.mono B1.size)
  clear r2 q2 n2
  go_wp2_with fail
  refine (F3.out w2 B02).mono ?_
  rintro e w3 ⟨A3, c3, rfl, q3, n3, r3, B3⟩
  have X3 := Lib.hid (Came.of_ok HP2.out q3 n3 r3)
  have B03 := B02.trans (B3.mono B02.size)
  clear r3 q3 n3
  go_wp2_with fail
  refine (F4.out w3 B03).mono ?_
  rintro e w4 ⟨A4, c4, rfl, q4, n4, r4, B4⟩
  have X4 := Lib.hid (Came.of_ok HP2.out q4 n4 r4)
  have B04 := B03.trans (B4.mono B03.size)
  clear r4 q4 n4
  go_wp2_with fail
  refine (F5.out w4 B04).mono ?_
  rintro e w5 ⟨rfl, B5⟩
  have B05 := B04.trans (B5.mono B04.size)
  unfold ansG
  go_wp2_with fail
  refine (F6.out w5 B05).mono ?_
  rintro e w5' ⟨rfl, rfl⟩
  unfold ansG
  go_wp2_with fail
  refine (F7.out w5' B05).mono ?_
  rintro e w7 ⟨A7, c7, rfl, q7, r7, B7⟩
  have X7 := Lib.hid r7
  have B07 := B05.trans (B7.mono B05.size)
  clear r7 q7
  go_wp2_with fail
  refine (F8.out w7 B07).mono ?_
  rintro e w8 ⟨A8, c8, rfl, q8, n8, r8, B8⟩
  have X8 := Lib.hid (Came.of_ok HP3.out q8 n8 r8)
  have B08 := B07.trans (B8.mono B07.size)
  clear r8 q8 n8
  go_wp2_with fail
  refine (F9.out w8 B08).mono ?_
  rintro e w9 ⟨A9, c9, rfl, q9, n9, r9, B9⟩
  have X9 := Lib.hid (Came.of_ok HP3.out q9 n9 r9)
  have B09 := B08.trans (B9.mono B08.size)
  clear r9 q9 n9
  -- both answers
  have B89 := B8.trans (B9.mono B8.size)
  have B79 := B7.trans (B89.mono B7.size)
  have B59 := B5.trans (B79.mono B5.size)
  have B49 := B4.trans (B59.mono B4.size)
  have B39 := B3.trans (B49.mono B3.size)
  have B29 := B2.trans (B39.mono B2.size)
  have S1 := Lib.hid (fun W (hW : Below w9.heap.size w9 W) => ((X1.out.below (B29.trans (hW.mono B29.size))).refSame (X2.out.below (B39.trans (hW.mono B39.size)))))
  have S2 := Lib.hid (fun W (hW : Below w9.heap.size w9 W) => ((X3.out.below (B49.trans (hW.mono B49.size))).refSame (X4.out.below (B59.trans (hW.mono B59.size)))))
  have S3 := Lib.hid (fun W (hW : Below w9.heap.size w9 W) => ((X8.out.below (B9.trans (hW.mono B9.size))).refSame (X9.out.below hW)))
  have S4 := Lib.hid (fun W (hW : Below w9.heap.size w9 W) => ((H.out.below (B09.trans (hW.mono B09.size))).same (X1.out.below (B29.trans (hW.mono B29.size)))))
  have S5 := Lib.hid (fun W (hW : Below w9.heap.size w9 W) => ((H.out.below (B09.trans (hW.mono B09.size))).refSame (X1.out.below (B29.trans (hW.mono B29.size)))))
  have S6 := Lib.hid (fun W (hW : Below w9.heap.size w9 W) => X7.out.below (B89.trans (hW.mono B89.size)))
  rw [decide_eq_true rfl] at S1 S2 S3
  go_wp2_with fail
  refine (S1.out w9 (Below.refl _ _)).mono ?_
  rintro e w10 ⟨rfl, B10⟩
  go_wp2_with fail
  refine (num11_any E1 w10).mono ?_
  rintro e w10' ⟨rfl, rfl⟩
  go_wp2_with fail
  refine (S2.out w10' B10).mono ?_
  rintro e w11 ⟨rfl, B11⟩
  have B911 := B10.trans (B11.mono B10.size)
  go_wp2_with fail
  refine (num11_any E2 w11).mono ?_
  rintro e w11' ⟨rfl, rfl⟩
  go_wp2_with fail
  refine (S3.out w11' B911).mono ?_
  rintro e w12 ⟨rfl, B12⟩
  have B912 := B911.trans (B12.mono B911.size)
  go_wp2_with fail
  refine (num11_any E3 w12).mono ?_
  rintro e w12' ⟨rfl, rfl⟩
  clear S1 S2 S3 F1 F2 F3 F4 F5 F6 F7 F8 F9 X2 X3 X4 X8 X9
  go_wp2_with fail
  have B012 := B09.trans (B912.mono B09.size)
  have hBd : Below w12'.heap.size w12' w12'.drew := (Below.refl _ _).drew
  have B0d := B012.trans (hBd.mono B012.size)
  have B9d := B912.trans (hBd.mono B912.size)
  by_cases hok : okK l = true
  · have hC0 : C = 0 := by rw [← HCC.out, chkK, if_pos hok]
    subst hC0
    have hOO : octK l = O := by rw [← HO.out, octR, if_pos hok]
    have G12 := Lib.hid (F12.out hok)
    rw [hOO] at G12
    have hOl : O.length ≤ 140737488351232 := by
      rw [← hOO, octK_length l (fun x hx => (okK_mem hok x hx).2.2)]
      have := HOL.out hok
      omega
    have S7 := Lib.hid (fun W (hW : Below w9.heap.size w9 W) => run_string_at W A7 O.length O c7 rfl (S6.out W hW))
    obtain ⟨so, hso⟩ : ∃ so, strOfNums O = so := ⟨_, rfl⟩
    rw [hso] at S7
    have HSO := Lib.hid hso
    clear hok hOO F12 hso
    refine wp_region_noPanic ?_
    refine wp_region_last 9 (fun W' => (convert 23 9 (.slice A7 O.length c7)).run Try.prog W' = .ok (.string so) W') (by kernel_rfl) (S7.out _ B9d) (fun hHeld => ?_)
    refine wpAnyL_take 12 (i := 0) (oi := ⟨some 128, _, _, _, _, _⟩) (v := ?_) rfl (by kernel_rfl) (by kernel_rfl) (by kernel_rfl) (by kernel_rfl) (by kernel_rfl) (by kernel_rfl) (by kernel_rfl) (fun _ _ _ h => h) (Or.inl ⟨by rfl, ?_⟩) hHeld ?_
    rotate_left
    focus (intro w hSw; (try dsimp only at hSw); go_simp; try (with_reducible rfl))
    try simp only [Act.put, List.setIfInBounds_toArray, List.set_cons_zero, List.set_cons_succ]
    refine wpAnyL_one (i := 1) (o := ⟨some 129, _, _, _, _, _⟩) (by kernel_rfl) rfl (fun K hK => ?_)
    clear hHeld
    go_simp
    refine (F11.out _ B0d).mono ?_
    rintro e w13 ⟨rfl, B13⟩
    have B013 := B0d.trans (B13.mono B0d.size)
    have B913 := B9d.trans (B13.mono B9d.size)
    go_wp2_with fail
    refine hK.out _ _ (S7.out _ B913) (fun hHeld => ?_)
    clear hK K
    try simp only [Act.put, List.setIfInBounds_toArray, List.set_cons_zero, List.set_cons_succ]
    refine wpAnyL_take 12 (i := 2) (oi := ⟨some 130, _, _, _, _, _⟩) (v := ?_) rfl (by kernel_rfl) (by kernel_rfl) (by kernel_rfl) (by kernel_rfl) (by kernel_rfl) (by kernel_rfl) (by kernel_rfl) (fun _ _ _ h => h) (Or.inl ⟨by rfl, ?_⟩) hHeld ?_
    rotate_left
    focus (intro w hSw; (try dsimp only at hSw); go_simp; try (with_reducible rfl))
    try simp only [Act.put, List.setIfInBounds_toArray, List.set_cons_zero, List.set_cons_succ]
    refine wpAnyL_take 12 (i := 3) (oi := ⟨some 131, _, _, _, _, _⟩) (v := ?_) rfl (by kernel_rfl) (by kernel_rfl) (by kernel_rfl) (by kernel_rfl) (by kernel_rfl) (by kernel_rfl) (by kernel_rfl) (fun _ _ _ h => h) (Or.inl ⟨by rfl, ?_⟩) hHeld ?_
    rotate_left
    focus (intro w hSw; (try dsimp only at hSw); go_simp; try (with_reducible rfl))
    try simp only [Act.put, List.setIfInBounds_toArray, List.set_cons_zero, List.set_cons_succ]
    refine wpAnyL_take 12 (i := 4) (oi := ⟨some 132, _, _, _, _, _⟩) (v := ?_) rfl (by kernel_rfl) (by kernel_rfl) (by kernel_rfl) (by kernel_rfl) (by kernel_rfl) (by kernel_rfl) (by kernel_rfl) (fun _ _ _ h => h) (Or.inl ⟨by rfl, ?_⟩) hHeld ?_
    rotate_left
    focus (intro w hSw; (try dsimp only at hSw); go_simp; try (with_reducible rfl))
    try simp only [Act.put, List.setIfInBounds_toArray, List.set_cons_zero, List.set_cons_succ]
    refine wpAnyL_take 12 (i := 5) (oi := ⟨some 133, _, _, _, _, _⟩) (v := ?_) rfl (by kernel_rfl) (by kernel_rfl) (by kernel_rfl) (by kernel_rfl) (by kernel_rfl) (by kernel_rfl) (by kernel_rfl) (fun _ _ _ h => h) (Or.inl ⟨by rfl, ?_⟩) hHeld ?_
    rotate_left
    focus (intro w hSw; (try dsimp only at hSw); go_simp; try (with_reducible rfl))
    try simp only [Act.put, List.setIfInBounds_toArray, List.set_cons_zero, List.set_cons_succ]
    refine wpAnyL_take 12 (i := 6) (oi := ⟨some 134, _, _, _, _, _⟩) (v := ?_) rfl (by kernel_rfl) (by kernel_rfl) (by kernel_rfl) (by kernel_rfl) (by kernel_rfl) (by kernel_rfl) (by kernel_rfl) (fun _ _ _ h => h) (Or.inl ⟨by rfl, ?_⟩) hHeld ?_
    rotate_left
    focus (intro w hSw; (try dsimp only at hSw); go_simp; try (with_reducible rfl))
    try simp only [Act.put, List.setIfInBounds_toArray, List.set_cons_zero, List.set_cons_succ]
    refine wpAnyL_one (i := 7) (o := ⟨some 135, _, _, _, _, _⟩) (by kernel_rfl) rfl (fun K hK => ?_)
    clear hHeld
    go_simp
    refine (G12.out w13 B013).mono ?_
    rintro e w14 ⟨v14, rfl, ho14, B14⟩
    obtain ⟨A14, c14, rfl, q14, r14⟩ := own_slice ho14
    have hcv := run_string_at w14 A14 O.length O c14 rfl r14
    rw [HSO.out] at hcv
    have B014 := B013.trans (B14.mono B013.size)
    have B914 := B913.trans (B14.mono B913.size)
    clear ho14
    go_wp2_with fail
    refine hK.out _ _ (S7.out _ B914) (fun hHeld => ?_)
    clear hK K
    try simp only [Act.put, List.setIfInBounds_toArray, List.set_cons_zero, List.set_cons_succ]
    refine wpAnyL_one (i := 8) (o := ⟨some 136, _, _, _, _, _⟩) (by kernel_rfl) rfl (fun K hK => ?_)
    clear hHeld
    go_simp
    refine hK.out _ _ (S7.out _ B914) (fun hHeld => ?_)
    clear hK K
    try simp only [Act.put, List.setIfInBounds_toArray, List.set_cons_zero, List.set_cons_succ]
    refine wpAnyL_last (i := 9) (o := ⟨some 137, _, _, _, _, _⟩) (by kernel_rfl) rfl (by kernel_rfl) (fun K hK => ?_)
    clear hHeld
    go_simp
    refine hK.out _ _ ?_
    clear hK K
    try simp only [Act.put, List.setIfInBounds_toArray, List.set_cons_zero, List.set_cons_succ]
    refine wpAnyL_takeW (i := 10) (oi := ⟨some 138, _, _, _, _, _⟩) (v := ?_) rfl (by kernel_rfl) (by kernel_rfl) (by kernel_rfl) (by kernel_rfl) (fun _ _ _ h => h) (Or.inl ⟨by rfl, ?_⟩) (.inl (by kernel_rfl)) ?_
    rotate_left
    focus (intro w hSw; (try dsimp only at hSw); go_simp; try (with_reducible rfl))
    try simp only [Act.put, List.setIfInBounds_toArray, List.set_cons_zero, List.set_cons_succ]
    refine wpAnyL_done (by kernel_rfl) ?_ _
    refine NoPanic.normal ?_

    go_wp2_with fail
    refine (F10.out _ B014).mono ?_
    rintro e w16 ⟨rfl, B16⟩
    have B016 := B014.trans (B16.mono B014.size)
    go_wp2_with fail
    refine (num11_any 0 w16).mono ?_
    rintro e w16' ⟨rfl, rfl⟩
    go_wp2_with fail
    refine (F11.out w16' B016).mono ?_
    rintro e w17 ⟨rfl, B17⟩
    have B017 := B016.trans (B17.mono B016.size)
    go_wp2_with fail
    refine (num11_any 0 w17).mono ?_
    rintro e w17' ⟨rfl, rfl⟩
    go_wp2_with fail
    refine (F11.out w17' B017).mono ?_
    rintro e w18 ⟨rfl, B18⟩
    have B018 := B017.trans (B18.mono B017.size)
    have B918 := (B914.trans (B16.mono B914.size)).trans ((B17.trans (B18.mono B17.size)).mono (B914.trans (B16.mono B914.size)).size)
    obtain ⟨D, hD⟩ : ∃ D, decide (l = P1) = D := ⟨_, rfl⟩
    rw [hD] at S4 S5
    clear hD
    go_wp2_with fail
    refine (S4.out w18 B918).mono ?_
    rintro e w19 ⟨rfl, B19⟩
    have B919 := B918.trans (B19.mono B918.size)
    have B019 := B018.trans (B19.mono B018.size)
    go_wp2_with fail
    refine (S5.out w19 B919).mono ?_
    rintro e w20 ⟨rfl, B20⟩
    have B020 := B019.trans (B20.mono B019.size)
    have AL := Lib.hid (alive11_any w20)
    go_wp2_with fail
    refine AL.out.mono ?_
    rintro e w21 ⟨rfl, B21⟩
    go_wp2
    go_ret
    exact ⟨rfl, B020.trans (B21.mono B020.size)⟩
  · have hC0 : C = 9 := by rw [← HCC.out, chkK, if_neg hok]
    subst hC0
    clear hok F12
    refine wp_region_noPanic ?_
    refine wp_region_last 1 (fun _ => True) (by kernel_rfl) trivial (fun hHeld => ?_)
    refine wpAnyL_take 12 (i := 0) (oi := ⟨some 128, _, _, _, _, _⟩) (v := ?_) rfl (by kernel_rfl) (by kernel_rfl) (by kernel_rfl) (by kernel_rfl) (by kernel_rfl) (by kernel_rfl) (by kernel_rfl) (fun _ _ _ h => h) (Or.inl ⟨by rfl, ?_⟩) hHeld ?_
    rotate_left
    focus (intro w hSw; (try dsimp only at hSw); go_simp; try (with_reducible rfl))
    try simp only [Act.put, List.setIfInBounds_toArray, List.set_cons_zero, List.set_cons_succ]
    refine wpAnyL_last (i := 1) (o := ⟨some 129, _, _, _, _, _⟩) (by kernel_rfl) rfl (by kernel_rfl) (fun K hK => ?_)
    clear hHeld
    go_simp
    refine (F11.out _ B0d).mono ?_
    rintro e w13 ⟨rfl, B13⟩
    have B013 := B0d.trans (B13.mono B0d.size)
    have B913 := B9d.trans (B13.mono B9d.size)
    go_wp2_with fail
    refine hK.out _ _ ?_
    clear hK K
    try simp only [Act.put, List.setIfInBounds_toArray, List.set_cons_zero, List.set_cons_succ]
    refine wpAnyL_takeW (i := 2) (oi := ⟨some 130, _, _, _, _, _⟩) (v := ?_) rfl (by kernel_rfl) (by kernel_rfl) (by kernel_rfl) (by kernel_rfl) (fun _ _ _ h => h) (Or.inl ⟨by rfl, ?_⟩) (.inl (by kernel_rfl)) ?_
    rotate_left
    focus (intro w hSw; (try dsimp only at hSw); go_simp; try (with_reducible rfl))
    try simp only [Act.put, List.setIfInBounds_toArray, List.set_cons_zero, List.set_cons_succ]
    refine wpAnyL_takeW (i := 3) (oi := ⟨some 131, _, _, _, _, _⟩) (v := ?_) rfl (by kernel_rfl) (by kernel_rfl) (by kernel_rfl) (by kernel_rfl) (fun _ _ _ h => h) (Or.inl ⟨by rfl, ?_⟩) (.inl (by kernel_rfl)) ?_
    rotate_left
    focus (intro w hSw; (try dsimp only at hSw); go_simp; try (with_reducible rfl))
    try simp only [Act.put, List.setIfInBounds_toArray, List.set_cons_zero, List.set_cons_succ]
    refine wpAnyL_takeW (i := 4) (oi := ⟨some 132, _, _, _, _, _⟩) (v := undef) rfl (by kernel_rfl) (by kernel_rfl) (by kernel_rfl) (by kernel_rfl) (fun _ _ _ h => h) (Or.inr ⟨by rfl, rfl⟩) (.inl (by kernel_rfl)) ?_
    try simp only [Act.put, List.setIfInBounds_toArray, List.set_cons_zero, List.set_cons_succ]
    refine wpAnyL_takeW (i := 5) (oi := ⟨some 133, _, _, _, _, _⟩) (v := undef) rfl (by kernel_rfl) (by kernel_rfl) (by kernel_rfl) (by kernel_rfl) (fun _ _ _ h => h) (Or.inr ⟨by rfl, rfl⟩) (.inl (by kernel_rfl)) ?_
    try simp only [Act.put, List.setIfInBounds_toArray, List.set_cons_zero, List.set_cons_succ]
    refine wpAnyL_takeW (i := 6) (oi := ⟨some 134, _, _, _, _, _⟩) (v := undef) rfl (by kernel_rfl) (by kernel_rfl) (by kernel_rfl) (by kernel_rfl) (fun _ _ _ h => h) (Or.inr ⟨by rfl, rfl⟩) (.inl (by kernel_rfl)) ?_
    try simp only [Act.put, List.setIfInBounds_toArray, List.set_cons_zero, List.set_cons_succ]
    refine wpAnyL_takeW (i := 7) (oi := ⟨some 135, _, _, _, _, _⟩) (v := undef) rfl (by kernel_rfl) (by kernel_rfl) (by kernel_rfl) (by kernel_rfl) (fun _ _ _ h => h) (Or.inr ⟨by rfl, rfl⟩) (.inl (by kernel_rfl)) ?_
    try simp only [Act.put, List.setIfInBounds_toArray, List.set_cons_zero, List.set_cons_succ]
    refine wpAnyL_takeW (i := 8) (oi := ⟨some 136, _, _, _, _, _⟩) (v := undef) rfl (by kernel_rfl) (by kernel_rfl) (by kernel_rfl) (by kernel_rfl) (fun _ _ _ h => h) (Or.inr ⟨by rfl, rfl⟩) (.inl (by kernel_rfl)) ?_
    try simp only [Act.put, List.setIfInBounds_toArray, List.set_cons_zero, List.set_cons_succ]
    refine wpAnyL_takeW (i := 9) (oi := ⟨some 137, _, _, _, _, _⟩) (v := undef) rfl (by kernel_rfl) (by kernel_rfl) (by kernel_rfl) (by kernel_rfl) (fun _ _ _ h => h) (Or.inr ⟨by rfl, rfl⟩) (.inl (by kernel_rfl)) ?_
    try simp only [Act.put, List.setIfInBounds_toArray, List.set_cons_zero, List.set_cons_succ]
    refine wpAnyL_takeW (i := 10) (oi := ⟨some 138, _, _, _, _, _⟩) (v := ?_) rfl (by kernel_rfl) (by kernel_rfl) (by kernel_rfl) (by kernel_rfl) (fun _ _ _ h => h) (Or.inl ⟨by rfl, ?_⟩) (.inl (by kernel_rfl)) ?_
    rotate_left
    focus (intro w hSw; (try dsimp only at hSw); go_simp; try (with_reducible rfl))
    try simp only [Act.put, List.setIfInBounds_toArray, List.set_cons_zero, List.set_cons_succ]
    refine wpAnyL_done (by kernel_rfl) ?_ _
    refine NoPanic.normal ?_

    go_wp2_with fail
    refine (F10.out _ B013).mono ?_
    rintro e w16 ⟨rfl, B16⟩
    have B016 := B013.trans (B16.mono B013.size)
    go_wp2_with fail
    refine (num11_any 9 w16).mono ?_
    rintro e w16' ⟨rfl, rfl⟩
    go_wp2_with fail
    refine (F11.out w16' B016).mono ?_
    rintro e w17 ⟨rfl, B17⟩
    have B017 := B016.trans (B17.mono B016.size)
    go_wp2_with fail
    refine (num11_any 9 w17).mono ?_
    rintro e w17' ⟨rfl, rfl⟩
    go_wp2_with fail
    refine (F11.out w17' B017).mono ?_
    rintro e w18 ⟨rfl, B18⟩
    have B018 := B017.trans (B18.mono B017.size)
    have B918 := (B913.trans (B16.mono B913.size)).trans ((B17.trans (B18.mono B17.size)).mono (B913.trans (B16.mono B913.size)).size)
    obtain ⟨D, hD⟩ : ∃ D, decide (l = P1) = D := ⟨_, rfl⟩
    rw [hD] at S4 S5
    clear hD
    go_wp2_with fail
    refine (S4.out w18 B918).mono ?_
    rintro e w19 ⟨rfl, B19⟩
    have B919 := B918.trans (B19.mono B918.size)
    have B019 := B018.trans (B19.mono B018.size)
    go_wp2_with fail
    refine (S5.out w19 B919).mono ?_
    rintro e w20 ⟨rfl, B20⟩
    have B020 := B019.trans (B20.mono B019.size)
    have AL := Lib.hid (alive11_any w20)
    go_wp2_with fail
    refine AL.out.mono ?_
    rintro e w21 ⟨rfl, B21⟩
    go_wp2
    go_ret
    exact ⟨rfl, B020.trans (B21.mono B020.size)⟩

end Go.Proofs.Ytkebgfpghjgghaa
