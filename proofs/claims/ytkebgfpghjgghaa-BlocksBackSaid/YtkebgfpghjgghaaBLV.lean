/-
  Contents come back from their octets: BlocksBack's walk. No conditions.
-/
import Derived.Test.YtkebgfpghjgghaaBLP
namespace Go.Proofs.Ytkebgfpghjgghaa
open Go.ChangeShapes Go.WideShapes Go.ChangeAt Go.RowKit
set_option maxRecDepth 100000

theorem rdK_cons (u zs : List Int) (hu : u.length = 18) : rdK (u ++ zs) = (val (u.take 2), strOfNums ((u.drop 2).take 16)) :: rdK zs := by
  unfold rdK
  rw [show (u ++ zs).length / 18 = zs.length / 18 + 1 by rw [List.length_append]; omega, List.range_succ_eq_map, List.map_cons, List.map_map]
  congr 1
  · unfold bkAt
    rw [Nat.mul_zero, Nat.zero_add, List.drop_zero, List.take_append_of_le_length (by omega), List.drop_append_of_le_length (by omega), List.take_append_of_le_length (by rw [List.length_drop]; omega)]
  · refine List.map_congr_left fun i _ => ?_
    show bkAt (u ++ zs) (i + 1) = bkAt zs i
    unfold bkAt
    have key : ∀ k, (u ++ zs).drop (u.length + k) = zs.drop k := fun k => by
      rw [List.drop_append, List.drop_eq_nil_of_le (by omega), List.nil_append]
      congr 1
      omega
    rw [show 18 * (i + 1) = u.length + 18 * i by omega, show u.length + 18 * i + 2 = u.length + (18 * i + 2) by omega, key, key]
theorem octK_cons (x : Bk) (l : List Bk) : octK (x :: l) = (put x.1 2 ++ txo x.2) ++ octK l := by simp [octK]
theorem rdK_octK : ∀ (l : List Bk) (n : Int), 0 ≤ n → okF n l = true → rdK (octK l) = l
  | [], _, _, _ => rfl
  | x :: l, n, hn, h => by
    rw [okF_cons] at h
    have hp : (put x.1 2).length = 2 := put_length _ _
    have ht : (txo x.2).length = 16 := by rw [txo_length, h.2.2.1]
    rw [octK_cons, rdK_cons _ _ (by rw [List.length_append, hp, ht]), rdK_octK l (x.1 + 1) (by omega) h.2.2.2]
    congr 1
    rw [List.take_append_of_le_length (by omega), List.take_of_length_le (by omega), val_put2 _ (by omega) (by omega), show List.drop 2 (put x.1 2 ++ txo x.2) = txo x.2 by rw [List.drop_append_of_le_length (by omega), List.drop_eq_nil_of_le (by omega)]; rfl, List.take_of_length_le (by omega), str_txo]
theorem octK_rdK : ∀ (m : Nat) (zs : List Int), zs.length = 18 * m → Octs zs → octK (rdK zs) = zs
  | 0, zs, h, _ => by
    have : zs = [] := List.eq_nil_of_length_eq_zero (by omega)
    subst this
    rfl
  | m + 1, zs, h, ho => by
    have hu : (zs.take 18).length = 18 := by rw [List.length_take]; omega
    have e := rdK_cons (zs.take 18) (zs.drop 18) hu
    rw [List.take_append_drop] at e
    rw [e, octK_cons, octK_rdK m (zs.drop 18) (by rw [List.length_drop]; omega) (ho.dp 18)]
    rw [put_val2 _ (by rw [List.length_take]; omega) ((ho.tk 18).tk 2), txo_str _ (((ho.tk 18).dp 2).tk 16), List.take_of_length_le (show ((zs.take 18).drop 2).length ≤ 16 by rw [List.length_drop]; omega), List.take_append_drop, List.take_append_drop]
theorem octK_octs (l : List Bk) : Octs (octK l) := fun z hz => by
  obtain ⟨x, _, hx⟩ := List.mem_flatMap.1 hz
  exact ((put_octs _ _).app (txo_octs _)) z hx
theorem read_octs {l : List Bk} (h : okK l = true) : readE (octK l) = 0 ∧ readR (octK l) = l := by
  have hl := octK_length l (fun x hx => (okK_mem h x hx).2.2)
  have hr := rdK_octK l 0 (Int.le_refl _) h
  have hE : readE (octK l) = 0 := by unfold readE; rw [if_pos (by omega), hr, chkK, if_pos h]
  exact ⟨hE, by unfold readR; rw [if_pos hE, hr]⟩
theorem octs_read {zs : List Int} (ho : Octs zs) (h : readE zs = 0) : chkK (readR zs) = 0 ∧ octR (readR zs) = zs := by
  have hm : zs.length % 18 = 0 := by
    unfold readE at h
    split at h
    · assumption
    · omega
  have hR : readR zs = rdK zs := by unfold readR; rw [if_pos h]
  have hok := readR_ok zs
  refine ⟨by unfold chkK; rw [if_pos hok], ?_⟩
  unfold octR
  rw [if_pos hok, hR]
  exact octK_rdK (zs.length / 18) zs (by omega) ho

set_option maxRecDepth 100000 in
set_option maxHeartbeats 4000000 in
theorem back11_walk (A : Option Addr) (c : Nat) (l : List Bk) (B : Option Addr) (cb : Nat) (zs : List Int) (w : World) (h : Came w A c l) (hb : CameB w B cb zs) :
    Calls Try.prog 6 #[.slice A l.length c, .slice B zs.length cb] w fun e w' => e = .returned (.bool true) ∧ Below w.heap.size w w' := by
  have H := Lib.hid h
  have HB := Lib.hid hb
  clear h hb
  -- the second half
  obtain ⟨E3, e3⟩ : ∃ E, readE zs = E := ⟨_, rfl⟩
  obtain ⟨P3, p3⟩ : ∃ P, readR zs = P := ⟨_, rfl⟩
  have hP3 := readR_ok zs
  have hno : E3 ≠ 0 → P3 = [] := fun hE => by rw [← p3, readR, e3, if_neg hE]
  have hyes : E3 = 0 → chkK P3 = 0 ∧ octR P3 = zs := fun hE => by rw [← p3]; exact octs_read HB.out.octs (by rw [e3, hE])
  have F3 := Lib.hid (fun W (hW : Below w.heap.size w W) => (HB.out.below hW).read)
  rw [p3] at hP3
  rw [p3, e3] at F3
  have HNO := Lib.hid hno
  have HYES := Lib.hid hyes
  have HP3 := Lib.hid hP3
  clear p3 e3 hno hyes hP3
  have AL := Lib.hid (alive11_any w)
  by_cases hok : okK l = true
  · have hc0 : chkK l = 0 := by unfold chkK; rw [if_pos hok]
    have hOR : octR l = octK l := by unfold octR; rw [if_pos hok]
    have hOl : (octK l).length ≤ 18432 := by
      rw [octK_length l (fun x hx => (okK_mem hok x hx).2.2)]
      have := okK_len hok
      omega
    have hro := read_octs hok
    have hoo := octK_octs l
    have F1 := Lib.hid (fun W (hW : Below w.heap.size w W) => (H.out.below hW).octets)
    rw [hOR, hc0] at F1
    obtain ⟨O, hO⟩ : ∃ O, octK l = O := ⟨_, rfl⟩
    rw [hO] at F1 hOl hro hoo
    have F2 := Lib.hid (fun W B e (h : CameB W B e O) => h.read)
    rw [hro.1, hro.2] at F2
    have HOO := Lib.hid hoo
    have HOK := Lib.hid hok
    clear hc0 hOR hro hoo hO hok
    go_enter Try.func6, Try.ntmps6
    go_wp2_with fail
    refine AL.out.mono ?_
    rintro e w0 ⟨rfl, B0⟩
    go_wp2_with fail
    refine (F1.out w0 B0).mono ?_
    rintro e w1 ⟨A1, c1, rfl, q1, r1, B1⟩
    have X1 : Hid (CameB w1 A1 c1 O) := Lib.hid ⟨q1, r1, HOO.out, by omega⟩
    have B01 := B0.trans (B1.mono B0.size)
    clear q1 r1
    go_wp2_with fail
    refine (num11_any 0 w1).mono ?_
    rintro e w1' ⟨rfl, rfl⟩
    go_wp2_with fail
    refine (F2.out _ _ _ X1.out).mono ?_
    rintro e w2 ⟨A2, c2, rfl, q2, n2, r2, B2⟩
    have B02 := B01.trans (B2.mono B01.size)
    have X2 := Lib.hid (Came.of_ok HOK.out q2 n2 r2)
    clear q2 n2 r2
    go_wp2_with fail
    refine (num11_any 0 w2).mono ?_
    rintro e w2' ⟨rfl, rfl⟩
    have S1 := Lib.hid ((H.out.below B02).refSame X2.out)
    rw [decide_eq_true rfl] at S1
    go_wp2_with fail
    refine S1.out.mono ?_
    rintro e w3 ⟨rfl, B3⟩
    have B03 := B02.trans (B3.mono B02.size)
    clear F1 F2 S1
    go_wp2_with fail
    refine (F3.out w3 B03).mono ?_
    rintro e w4 ⟨A4, c4, rfl, q4, n4, r4, B4⟩
    have B04 := B03.trans (B4.mono B03.size)
    have X4 := Lib.hid (Came.of_ok HP3.out q4 n4 r4)
    clear q4 n4 r4 F3
    go_wp2_with fail
    refine (num11_any E3 w4).mono ?_
    rintro e w4' ⟨rfl, rfl⟩
    by_cases hE : E3 = 0
    · subst hE
      obtain ⟨hc, ho⟩ := HYES.out rfl
      have F5 := Lib.hid X4.out.octets
      rw [hc, ho] at F5
      clear hc ho
      go_wp2_with fail
      refine F5.out.mono ?_
      rintro e w5 ⟨A5, c5, rfl, q5, r5, B5⟩
      have B05 := B04.trans (B5.mono B04.size)
      have hcv1 := run_string_at w5 A5 zs.length zs c5 rfl r5
      have hcv2 := run_string_at w5 B zs.length zs cb rfl (HB.out.below B05).rd
      clear q5 r5 F5
      obtain ⟨so, hso⟩ : ∃ so, strOfNums zs = so := ⟨_, rfl⟩
      rw [hso] at hcv1 hcv2
      clear hso
      go_wp2_with fail
      refine (num11_any 0 w5).mono ?_
      rintro e w5' ⟨rfl, rfl⟩
      go_wp2
      go_ret
      exact ⟨rfl, B05⟩
    · have hP := HNO.out hE
      subst hP
      have hb0 : (E3 == 0) = false := beq_eq_false_iff_ne.2 hE
      go_wp2
      go_ret
      exact ⟨rfl, B04⟩
  · have hc0 : chkK l = 9 := by unfold chkK; rw [if_neg hok]
    have F1 := Lib.hid (fun W (hW : Below w.heap.size w W) => (H.out.below hW).octets)
    rw [hc0] at F1
    clear hc0 hok
    go_enter Try.func6, Try.ntmps6
    go_wp2_with fail
    refine AL.out.mono ?_
    rintro e w0 ⟨rfl, B0⟩
    go_wp2_with fail
    refine (F1.out w0 B0).mono ?_
    rintro e w3 ⟨A1, c1, rfl, q1, r1, B1⟩
    have B03 := B0.trans (B1.mono B0.size)
    clear q1 r1
    go_wp2_with fail
    refine (num11_any 9 w3).mono ?_
    rintro e w3' ⟨rfl, rfl⟩
    clear F1
    go_wp2_with fail
    refine (F3.out w3' B03).mono ?_
    rintro e w4 ⟨A4, c4, rfl, q4, n4, r4, B4⟩
    have B04 := B03.trans (B4.mono B03.size)
    have X4 := Lib.hid (Came.of_ok HP3.out q4 n4 r4)
    clear q4 n4 r4 F3
    go_wp2_with fail
    refine (num11_any E3 w4).mono ?_
    rintro e w4' ⟨rfl, rfl⟩
    by_cases hE : E3 = 0
    · subst hE
      obtain ⟨hc, ho⟩ := HYES.out rfl
      have F5 := Lib.hid X4.out.octets
      rw [hc, ho] at F5
      clear hc ho
      go_wp2_with fail
      refine F5.out.mono ?_
      rintro e w5 ⟨A5, c5, rfl, q5, r5, B5⟩
      have B05 := B04.trans (B5.mono B04.size)
      have hcv1 := run_string_at w5 A5 zs.length zs c5 rfl r5
      have hcv2 := run_string_at w5 B zs.length zs cb rfl (HB.out.below B05).rd
      clear q5 r5 F5
      obtain ⟨so, hso⟩ : ∃ so, strOfNums zs = so := ⟨_, rfl⟩
      rw [hso] at hcv1 hcv2
      clear hso
      go_wp2_with fail
      refine (num11_any 0 w5).mono ?_
      rintro e w5' ⟨rfl, rfl⟩
      go_wp2
      go_ret
      exact ⟨rfl, B05⟩
    · have hP := HNO.out hE
      subst hP
      have hb0 : (E3 == 0) = false := beq_eq_false_iff_ne.2 hE
      go_wp2
      go_ret
      exact ⟨rfl, B04⟩

end Go.Proofs.Ytkebgfpghjgghaa
