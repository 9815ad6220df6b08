/-
  DeviceRefuses returns true. Conditions: its arguments are a machine's.
-/
import Derived.BigQuiet
import Derived.Deep.CutBlock
import Derived.Test.YtddkalcgijeldaaDVT
namespace Go.Proofs.Ytddkalcgijeldaa
open Go.ChangeShapes Go.WideShapes Go.ChangeAt Go.RowKit

set_option maxHeartbeats 4000000 in
set_option maxRecDepth 100000 in
theorem refuses_walk (D : Dv) (n : Int) (x : Ac) (w : World) (hD : D.Came w) (hx : x.p.Came w) :
    Calls Try.prog 4 #[D.val, .int .i64 n, x.val] w fun e w' => e = .returned (.bool true) ∧ Below w.heap.size w w' := by
  have HD := Lib.hid hD
  have HX := Lib.hid hx
  have hpn := hD.fits.n
  have hwn := hD.fits.m
  clear hD hx
  go_enter Try.func4, Try.ntmps4
  have hB0 : Below w.heap.size w ((w.alloc (.cells #[.slice D.A D.ps.length D.c, .slice D.B D.ws.length D.d] 29)).alloc (.cells #[.bool x.fl, .int .i64 x.at_, .slice x.p.A x.p.zs.length x.p.c] 36)) := ((Below.refl _ w).alloc (Nat.le_refl _) _).alloc (by simp) _
  have kd : Blk ((w.alloc (.cells #[.slice D.A D.ps.length D.c, .slice D.B D.ws.length D.d] 29)).alloc (.cells #[.bool x.fl, .int .i64 x.at_, .slice x.p.A x.p.zs.length x.p.c] 36)) w.heap.size 29 [.slice D.A D.ps.length D.c, .slice D.B D.ws.length D.d] := allocs_blk [([.slice D.A D.ps.length D.c, .slice D.B D.ws.length D.d], 29), ([.bool x.fl, .int .i64 x.at_, .slice x.p.A x.p.zs.length x.p.c], 36)] w 0 rfl
  have ka : Blk ((w.alloc (.cells #[.slice D.A D.ps.length D.c, .slice D.B D.ws.length D.d] 29)).alloc (.cells #[.bool x.fl, .int .i64 x.at_, .slice x.p.A x.p.zs.length x.p.c] 36)) (w.heap.size + 1) 36 [.bool x.fl, .int .i64 x.at_, .slice x.p.A x.p.zs.length x.p.c] := allocs_blk [([.slice D.A D.ps.length D.c, .slice D.B D.ws.length D.d], 29), ([.bool x.fl, .int .i64 x.at_, .slice x.p.A x.p.zs.length x.p.c], 36)] w 1 rfl
  have HB0 := Lib.hid hB0
  have HKD := Lib.hid kd
  have HKA := Lib.hid ka
  clear hB0 kd ka
  go_upto_region 3 with (refine (alive_any _).mono ?_; rintro e w1 ⟨rfl, hB1⟩)
  have hB01 : Below w.heap.size w w1 := HB0.out.trans (hB1.mono HB0.out.size)
  have kd1 := HKD.out.below hB1 HKD.out.lt
  have ka1 := HKA.out.below hB1 HKA.out.lt
  have hs1 : w.heap.size + 1 < w1.heap.size := ka1.lt
  have hd0 := kd1.cell 0
  have hd1 := kd1.cell 1
  simp only [List.getElem?_cons_zero, List.getElem?_cons_succ] at hd0 hd1
  have HKD1 := Lib.hid kd1
  have HKA1 := Lib.hid ka1
  clear kd1 ka1 hB1
  go_cut [7] (fun b wx => b = .bool (decide (2 ≤ D.ps.length ∧ D.ps.length ≤ 8192)) ∧ wx = w1)
  case first =>
    by_cases h2 : 2 ≤ D.ps.length
    · by_cases h3 : D.ps.length ≤ 8192
      · have he : decide (2 ≤ D.ps.length ∧ D.ps.length ≤ 8192) = true := decide_eq_true ⟨h2, h3⟩
        have HE := Lib.hid he
        clear he
        go_wp2
        go_meet
        exact ⟨by first | (rw [HE.out]; done) | (rw [HE.out]; congr 1; simp; done) | (rw [HE.out]; congr 1; simp; omega), rfl⟩
      · have he : decide (2 ≤ D.ps.length ∧ D.ps.length ≤ 8192) = false := decide_eq_false (fun h => h3 h.2)
        have HE := Lib.hid he
        clear he
        go_wp2
        go_meet
        exact ⟨by first | (rw [HE.out]; done) | (rw [HE.out]; congr 1; simp; done) | (rw [HE.out]; congr 1; simp; omega), rfl⟩
    · have he : decide (2 ≤ D.ps.length ∧ D.ps.length ≤ 8192) = false := decide_eq_false (fun h => h2 h.1)
      have HE := Lib.hid he
      clear he
      go_wp2
      go_meet
      exact ⟨by first | (rw [HE.out]; done) | (rw [HE.out]; congr 1; simp; done) | (rw [HE.out]; congr 1; simp; omega), rfl⟩
  case rest =>
    obtain ⟨rfl, rfl⟩ := hcut
    generalize hb0 : decide (2 ≤ D.ps.length ∧ D.ps.length ≤ 8192) = bz
    have HBZ := Lib.hid hb0
    clear hb0
    go_wp2
    go_loopw [7, 8] (fun b i wr => ∃ j : Nat, j ≤ D.ps.length ∧ i = .int .i64 j ∧ b = .bool (bz && (D.ps.take j).all fun p => decide (p.zs.length = 64)) ∧ wr = wc) (fun _ i _ => D.ps.length - (intOf i).toNat)
    case atStart =>
      exact ⟨0, Nat.zero_le _, rfl, by simp, rfl⟩
    case round =>
      obtain ⟨j, hj, rfl, rfl, rfl⟩ := hrel
      by_cases hlt : j < D.ps.length
      · as_aux_lemma =>
          obtain ⟨p, hp⟩ : ∃ p, D.ps[j]? = some p := ⟨_, List.getElem?_eq_getElem hlt⟩
          obtain ⟨b, off, hA, hb, hc⟩ := (HD.out.below hB01).lies.reads.1.pt hp
          have hlen := HD.out.fits.sec p (List.mem_of_getElem? hp)
          have htk : D.ps.take (j + 1) = D.ps.take j ++ [p] := by
            rw [List.take_succ_eq_append_getElem hlt]
            rw [List.getElem?_eq_getElem hlt] at hp
            injection hp with hp
            rw [hp]
          obtain ⟨bj, hbj⟩ : ∃ bj, (bz && (D.ps.take j).all fun p => decide (p.zs.length = 64)) = bj := ⟨_, rfl⟩
          have hnx : (bz && (D.ps.take (j + 1)).all fun p => decide (p.zs.length = 64)) = (bj && decide (p.zs.length = 64)) := by
            rw [htk, List.all_append, ← Bool.and_assoc, hbj]
            simp
          rw [hbj]
          have HNX := Lib.hid hnx
          rw [hA] at hd0
          clear hp htk hbj hnx
          cases bj
          · go_wp2
            go_roundw
            case rel => exact ⟨j + 1, by omega, by go_num, by rw [HNX.out]; rfl, by first | rfl | trivial⟩
            case measure => simp [intOf]; omega
          · by_cases h64 : p.zs.length = 64
            · go_wp2
              go_roundw
              case rel => exact ⟨j + 1, by omega, by go_num, by rw [HNX.out]; simp [h64], by first | rfl | trivial⟩
              case measure => simp [intOf]; omega
            · go_wp2
              go_roundw
              case rel => exact ⟨j + 1, by omega, by go_num, by rw [HNX.out]; simp [h64]; omega, by first | rfl | trivial⟩
              case measure => simp [intOf]; omega
      · as_aux_lemma =>
          obtain rfl : j = D.ps.length := by omega
          rw [List.take_length]
          generalize hb1 : (bz && D.ps.all fun p => decide (p.zs.length = 64)) = by1
          have HBY := Lib.hid hb1
          clear hb1
          go_wp2
          go_loopw [7, 9] (fun b i W => ∃ j : Nat, j ≤ D.ws.length ∧ i = .int .i64 j ∧ b = .bool (by1 && (D.ws.take j).all fun x => decide (wrtE D.ps.length x.at_ x.p.zs.length = 0)) ∧ Below wr.heap.size wr W) (fun _ i _ => D.ws.length - (intOf i).toNat)
          case atStart =>
            exact ⟨0, Nat.zero_le _, rfl, by simp, Below.refl _ _⟩
          case round =>
            obtain ⟨j, hj2, rfl, rfl, hB2⟩ := hrel
            have hBw : Below w.heap.size w wr := hB01.trans (hB2.mono hB01.size)
            have hs2 := hB2.size
            have kd2 := HKD1.out.below hB2 (by omega)
            have e0 := kd2.cell 0
            have e1 := kd2.cell 1
            simp only [List.getElem?_cons_zero, List.getElem?_cons_succ] at e0 e1
            clear kd2
            by_cases hlt2 : j < D.ws.length
            · as_aux_lemma =>
                obtain ⟨q, hq⟩ : ∃ q, D.ws[j]? = some q := ⟨_, List.getElem?_eq_getElem hlt2⟩
                obtain ⟨b, off, hA, hb, hc1, hc2⟩ := (HD.out.below hBw).lies.reads.2.wt hq
                have hlen := HD.out.fits.wait q (List.mem_of_getElem? hq)
                have htk : D.ws.take (j + 1) = D.ws.take j ++ [q] := by
                  rw [List.take_succ_eq_append_getElem hlt2]
                  rw [List.getElem?_eq_getElem hlt2] at hq
                  injection hq with hq
                  rw [hq]
                obtain ⟨bj, hbj⟩ : ∃ bj, (by1 && (D.ws.take j).all fun x => decide (wrtE D.ps.length x.at_ x.p.zs.length = 0)) = bj := ⟨_, rfl⟩
                obtain ⟨wq, hwq⟩ : ∃ wq, decide (wrtE D.ps.length q.at_ q.p.zs.length = 0) = wq := ⟨_, rfl⟩
                have hnx : (by1 && (D.ws.take (j + 1)).all fun x => decide (wrtE D.ps.length x.at_ x.p.zs.length = 0)) = (bj && wq) := by
                  rw [htk, List.all_append, ← Bool.and_assoc, hbj, ← hwq]
                  simp
                rw [hbj]
                have HNX := Lib.hid hnx
                have HWQ := Lib.hid hwq
                rw [hA] at e1
                simp only [Pt.val] at hc2
                clear hq htk hbj hnx hwq hd0 hd1
                cases bj
                · have hv : (false && wq) = false := rfl
                  have HV := Lib.hid hv
                  clear hv
                  go_wp2_with fail
                  go_quiet (fail)
                  go_wp2
                  go_roundw
                  case rel => exact ⟨j + 1, by omega, by go_num, by first | (rw [HNX.out]; rfl) | (rw [HNX.out]; simp; done) | (rw [HNX.out]; simp; omega), by first | exact hB2.drew | exact hB2.trans ⟨rfl, rfl, rfl, Nat.le_refl _, fun _ _ => rfl⟩⟩
                  case measure => simp [intOf]; omega
                · by_cases hge : 0 ≤ q.at_
                  · by_cases hltn : q.at_ < (D.ps.length : Int)
                    · by_cases h64 : q.p.zs.length = 64
                      · have hv : wq = true := by rw [← HWQ.out]; simp [wrtE, hge, hltn, h64]
                        have HV := Lib.hid hv
                        clear hv
                        go_wp2_with fail
                        go_quiet (fail)
                        go_wp2
                        go_roundw
                        case rel => exact ⟨j + 1, by omega, by go_num, by first | (rw [HNX.out, HV.out]; rfl) | (rw [HNX.out, HV.out]; simp; done) | (rw [HNX.out, HV.out]; simp; omega), by first | exact hB2.drew | exact hB2.trans ⟨rfl, rfl, rfl, Nat.le_refl _, fun _ _ => rfl⟩⟩
                        case measure => simp [intOf]; omega
                      · have hv : wq = false := by rw [← HWQ.out]; simp [wrtE, hge, hltn, h64]
                        have h64' : ((q.p.zs.length : Int) == 64) = false := by simp; omega
                        have HV := Lib.hid hv
                        clear hv
                        go_wp2_with fail
                        go_quiet (fail)
                        go_wp2
                        go_roundw
                        case rel => exact ⟨j + 1, by omega, by go_num, by first | (rw [HNX.out, HV.out]; rfl) | (rw [HNX.out, HV.out]; simp; done) | (rw [HNX.out, HV.out]; simp; omega), by first | exact hB2.drew | exact hB2.trans ⟨rfl, rfl, rfl, Nat.le_refl _, fun _ _ => rfl⟩⟩
                        case measure => simp [intOf]; omega
                    · have hv : wq = false := by rw [← HWQ.out]; simp [wrtE, hltn]
                      have hd1 : decide (q.at_ < (D.ps.length : Int)) = false := decide_eq_false hltn
                      have HV := Lib.hid hv
                      clear hv
                      go_wp2_with fail
                      go_quiet (fail)
                      go_wp2
                      go_roundw
                      case rel => exact ⟨j + 1, by omega, by go_num, by first | (rw [HNX.out, HV.out]; rfl) | (rw [HNX.out, HV.out]; simp; done) | (rw [HNX.out, HV.out]; simp; omega), by first | exact hB2.drew | exact hB2.trans ⟨rfl, rfl, rfl, Nat.le_refl _, fun _ _ => rfl⟩⟩
                      case measure => simp [intOf]; omega
                  · have hv : wq = false := by rw [← HWQ.out]; simp [wrtE, hge]
                    have hd1 : decide (0 ≤ q.at_) = false := decide_eq_false hge
                    have hd2 : decide (q.at_ ≥ 0) = false := decide_eq_false hge
                    have HV := Lib.hid hv
                    clear hv
                    go_wp2_with fail
                    go_quiet (fail)
                    go_wp2
                    go_roundw
                    case rel => exact ⟨j + 1, by omega, by go_num, by first | (rw [HNX.out, HV.out]; rfl) | (rw [HNX.out, HV.out]; simp; done) | (rw [HNX.out, HV.out]; simp; omega), by first | exact hB2.drew | exact hB2.trans ⟨rfl, rfl, rfl, Nat.le_refl _, fun _ _ => rfl⟩⟩
                    case measure => simp [intOf]; omega
            · as_aux_lemma =>
                obtain rfl : j = D.ws.length := by omega
                rw [List.take_length]
                generalize hb2 : (by1 && D.ws.all fun x => decide (wrtE D.ps.length x.at_ x.p.zs.length = 0)) = by2
                have HB2' := Lib.hid hb2
                clear hb2 hj2 hlt2
                go_wp2_with fail
                refine (new_any n wr).mono ?_
                rintro e w3 ⟨E1, r1, rfl, HR1, hB3⟩
                have hs3 := hB3.size
                have hBw3 : Below w.heap.size w w3 := hBw.trans (hB3.mono hBw.size)
                have hsw := hBw.size
                have kd3 := HKD1.out.below (hB2.trans (hB3.mono hs2)) (by omega)
                have f0 := kd3.cell 0
                have f1 := kd3.cell 1
                simp only [List.getElem?_cons_zero, List.getElem?_cons_succ] at f0 f1
                have hlw3 := kd3.lt
                have HKD3 := Lib.hid kd3
                clear kd3 e0 e1
                go_wp2_with fail
                obtain ⟨w4, hw4⟩ : ∃ w4, w3.alloc (.cells #[.slice E1.A E1.ps.length E1.c, .slice E1.B E1.ws.length E1.d] 29) = w4 := ⟨_, rfl⟩
                have hB4 : Below w3.heap.size w3 w4 := hw4 ▸ (Below.refl _ w3).alloc (Nat.le_refl _) _
                rw [hw4]
                have hBw4 : Below w.heap.size w w4 := hBw3.trans (hB4.mono (by omega))
                refine (read_any' D n w4 (HD.out.below hBw4)).mono ?_
                rintro e w5 ⟨A5, k5, c5, r5, rfl, HR5, hB5⟩
                have hs5 := hB5.size
                have hs4 := hB4.size
                have hBw5 : Below w.heap.size w w5 := hBw4.trans (hB5.mono (by omega))
                have kd5 := (HKD3.out.below hB4 (by omega)).below hB5 (by omega)
                have ka5 := HKA1.out.below (hB2.trans ((hB3.trans (hB4.mono hs3)).trans (hB5.mono (by omega)) |>.mono hs2)) (by omega)
                have g0 := kd5.cell 0
                have g1 := kd5.cell 1
                have a0 := ka5.cell 0
                have a1 := ka5.cell 1
                have a2 := ka5.cell 2
                simp only [List.getElem?_cons_zero, List.getElem?_cons_succ] at g0 g1 a0 a1 a2
                have hlw5 := kd5.lt
                have hla5 := ka5.lt
                have HKD5 := Lib.hid kd5
                have HKA5 := Lib.hid ka5
                clear kd5 ka5 f0 f1
                go_wp2_with fail
                obtain ⟨w6, hw6⟩ : ∃ w6, w5.alloc (.cells #[.bool x.fl, .int .i64 x.at_, .slice x.p.A x.p.zs.length x.p.c] 36) = w6 := ⟨_, rfl⟩
                have hB6 : Below w5.heap.size w5 w6 := hw6 ▸ (Below.refl _ w5).alloc (Nat.le_refl _) _
                have kb6 : Blk w6 w5.heap.size 36 [.bool x.fl, .int .i64 x.at_, .slice x.p.A x.p.zs.length x.p.c] := hw6 ▸ Blk.new w5 _ _
                rw [hw6]
                have hs6 := hB6.size
                have hBw6 : Below w.heap.size w w6 := hBw5.trans (hB6.mono (by omega))
                refine (do_any1 D x w5.heap.size w6 (HD.out.below hBw6) (HX.out.below hBw6) kb6).mono ?_
                rintro e w7 ⟨E2, r2, rfl, HR7, hB7⟩
                have hs7 := hB7.size
                have hBw7 : Below w.heap.size w w7 := hBw6.trans (hB7.mono (by omega))
                have kd7 := (HKD5.out.below hB6 (by omega)).below hB7 (by omega)
                have ka7 := (HKA5.out.below hB6 (by omega)).below hB7 (by omega)
                have i0 := kd7.cell 0
                have i1 := kd7.cell 1
                simp only [List.getElem?_cons_zero, List.getElem?_cons_succ] at i0 i1
                have hlw7 := kd7.lt
                have hla7 := ka7.lt
                have HKD7 := Lib.hid kd7
                have HKA7 := Lib.hid ka7
                clear kd7 ka7 g0 g1 a0 a1 a2 kb6 hw4 hw6
                go_wp2_with fail
                obtain ⟨w8, hw8⟩ : ∃ w8, w7.alloc (.cells #[.slice E2.A E2.ps.length E2.c, .slice E2.B E2.ws.length E2.d] 29) = w8 := ⟨_, rfl⟩
                have hB8 : Below w7.heap.size w7 w8 := hw8 ▸ (Below.refl _ w7).alloc (Nat.le_refl _) _
                have kY8 : Blk w8 w7.heap.size 29 [.slice E2.A E2.ps.length E2.c, .slice E2.B E2.ws.length E2.d] := hw8 ▸ Blk.new w7 _ _
                rw [hw8]
                have hs8 := hB8.size
                have hlY8 := kY8.lt
                have hBw8 : Below w.heap.size w w8 := hBw7.trans (hB8.mono (by omega))
                refine (crash_any' D w8 (HD.out.below hBw8)).mono ?_
                rintro e w9 ⟨E3, r3, rfl, HR9, hB9⟩
                have hs9 := hB9.size
                have HKY9 := Lib.hid (kY8.below hB9 hlY8)
                have HKD9 := Lib.hid ((HKD7.out.below hB8 (by omega)).below hB9 (by omega))
                have HKA9 := Lib.hid ((HKA7.out.below hB8 (by omega)).below hB9 (by omega))
                have hBw9 : Below w.heap.size w w9 := hBw8.trans (hB9.mono (by omega))
                clear i0 i1 kY8 hw8
                go_upto_region 16 with fail
                obtain ⟨w10, hw10⟩ : ∃ w10, w9.alloc (.cells #[.slice E3.A E3.ps.length E3.c, .slice E3.B E3.ws.length E3.d] 29) = w10 := ⟨_, rfl⟩
                have hB10 : Below w9.heap.size w9 w10 := hw10 ▸ (Below.refl _ w9).alloc (Nat.le_refl _) _
                have kZ10 : Blk w10 w9.heap.size 29 [.slice E3.A E3.ps.length E3.c, .slice E3.B E3.ws.length E3.d] := hw10 ▸ Blk.new w9 _ _
                rw [hw10]
                have HZ := Lib.hid kZ10
                have HY := Lib.hid (HKY9.out.below hB10 (by omega))
                have HDD := Lib.hid (HKD9.out.below hB10 (by omega))
                have HAA := Lib.hid (HKA9.out.below hB10 (by omega))
                have HBW := Lib.hid (hBw9.trans (hB10.mono (by omega)))
                have hbo : by2 = true ↔ D.st.ok := by
                  rw [Dv.ok_iff, ← HB2'.out, ← HBY.out, ← HBZ.out]
                  simp only [Bool.and_eq_true, List.all_eq_true, decide_eq_true_eq]
                  constructor
                  · rintro ⟨⟨⟨h1, h2⟩, h3⟩, h4⟩
                    exact ⟨h1, h2, h3, h4⟩
                  · rintro ⟨h1, h2, h3, h4⟩
                    exact ⟨⟨⟨h1, h2⟩, h3⟩, h4⟩
                have HBO := Lib.hid hbo
                clear hbo kZ10 hw10
                go_cut [120] (fun v wx => v = .bool false ∧ wx = w10)
                case first =>
                  as_aux_lemma =>
                    rcases HR1.out with ⟨rfl, h2, h3⟩ | ⟨rfl, h⟩
                    · go_wp2_with (refine (num_any _ _).mono ?_; rintro e w' ⟨rfl, rfl⟩)
                      go_meet
                      exact ⟨by first | rfl | trivial | (congr 1; exact decide_eq_false (by omega)), by first | rfl | trivial⟩
                    · by_cases h2 : 2 ≤ n
                      · have h3 : ¬ n ≤ 8192 := fun h3 => h ⟨h2, h3⟩
                        clear h
                        go_wp2_with (refine (num_any _ _).mono ?_; rintro e w' ⟨rfl, rfl⟩)
                        go_meet
                        exact ⟨by first | rfl | trivial | (congr 1; exact decide_eq_false (by omega)), by first | rfl | trivial⟩
                      · clear h
                        go_wp2_with (refine (num_any _ _).mono ?_; rintro e w' ⟨rfl, rfl⟩)
                        go_meet
                        exact ⟨by first | rfl | trivial | (congr 1; exact decide_eq_false (by omega)), by first | rfl | trivial⟩
                case rest =>
                  obtain ⟨rfl, rfl⟩ := hcut
                  have HCM := Lib.hid (HD.out.below HBW.out)
                  have d0 := HDD.out.cell 0
                  have d1 := HDD.out.cell 1
                  simp only [List.getElem?_cons_zero, List.getElem?_cons_succ] at d0 d1
                  have hld := HDD.out.lt
                  have hla := HAA.out.lt
                  have hlz := HZ.out.lt
                  have hly := HY.out.lt
                  cases by2
                  · as_aux_lemma =>
                      have hno : ¬ D.st.ok := fun h => by have := HBO.out.2 h; cases this
                      have HN := Lib.hid (check_no D HD.out.fits hno)
                      have h5 : r5 = 9 ∧ k5 = 0 := by
                        rcases HR5.out with ⟨_, h1, h2⟩ | ⟨h, _⟩ | ⟨h, _⟩
                        · exact ⟨h1, h2⟩
                        · exact absurd h hno
                        · exact absurd h hno
                      have h7 : r2 = 9 ∧ E2.ps.length = 0 := by
                        rcases HR7.out with ⟨_, h1, h2⟩ | ⟨h, _⟩
                        · exact ⟨h1, h2⟩
                        · exact absurd h hno
                      have h9 : r3 = 9 ∧ E3.ps.length = 0 := by
                        rcases HR9.out with ⟨_, h1, h2⟩ | ⟨h, _⟩
                        · exact ⟨h1, h2⟩
                        · exact absurd h hno
                      obtain ⟨rfl, rfl⟩ := h5
                      obtain ⟨rfl, h7⟩ := h7
                      obtain ⟨rfl, h9⟩ := h9
                      have H7 := Lib.hid h7
                      have H9 := Lib.hid h9
                      clear h7 h9 hno HR5 HR7 HR9
                      go_wp2_with fail
                      refine (HN.out wc HCM.out.lies.reads.1 HCM.out.lies.reads.2).mono ?_
                      rintro e w11 ⟨rfl, hB11⟩
                      have y0 := (HY.out.below hB11 HY.out.lt).cell 0
                      have z0 := (HZ.out.below hB11 HZ.out.lt).cell 0
                      simp only [List.getElem?_cons_zero] at y0 z0
                      rw [H7.out] at y0
                      rw [H9.out] at z0
                      have hBe : Below w.heap.size w w11 := HBW.out.trans (hB11.mono HBW.out.size)
                      have HBE := Lib.hid hBe
                      clear hB11 hBe
                      go_wp2
                      go_ret
                      exact ⟨rfl, HBE.out⟩
                  · as_aux_lemma =>
                      have hok : D.st.ok := HBO.out.1 rfl
                      have HK := Lib.hid (check_ok D HD.out.fits hok)
                      obtain ⟨bb, hbb⟩ : ∃ bb, decide (0 ≤ n ∧ n < (D.ps.length : Int)) = bb := ⟨_, rfl⟩
                      have h5 : (r5 = 0 ∧ k5 = 64 ∧ bb = true) ∨ (r5 = 4 ∧ k5 = 0 ∧ bb = false) := by
                        rcases HR5.out with ⟨h, _⟩ | ⟨_, h1, h2, h3⟩ | ⟨_, h1, h2, h3⟩
                        · exact absurd hok h
                        · exact .inl ⟨h1, h2, by rw [← hbb]; exact decide_eq_true h3⟩
                        · exact .inr ⟨h1, h2, by rw [← hbb]; exact decide_eq_false h3⟩
                      have h7 : r2 = actE D.ps.length x.fl x.at_ x.p.zs.length := by
                        rcases HR7.out with ⟨h, _⟩ | ⟨_, h1⟩
                        · exact absurd hok h
                        · exact h1
                      have h9 : r3 = 0 ∧ E3.ws.length = 0 := by
                        rcases HR9.out with ⟨h, _⟩ | ⟨_, h1, h2⟩
                        · exact absurd hok h
                        · exact ⟨h1, h2⟩
                      obtain ⟨rfl, h9⟩ := h9
                      have H5 := Lib.hid h5
                      have H7 := Lib.hid h7
                      have H9 := Lib.hid h9
                      have HBB := Lib.hid hbb
                      clear h5 h7 h9 hbb hok HR5 HR7 HR9
                      go_upto_region 20 with fail
                      go_cut [18] (fun v wx => v = .bool bb ∧ wx = wc)
                      case first =>
                        as_aux_lemma =>
                          by_cases h2 : 0 ≤ n
                          · by_cases h3 : n < (D.ps.length : Int)
                            · have HE := Lib.hid (HBB.out.symm.trans (decide_eq_true ⟨h2, h3⟩))
                              go_wp2
                              go_meet
                              exact ⟨by first | (rw [HE.out]; done) | (rw [HE.out]; congr 1; simp; done) | (rw [HE.out]; congr 1; simp; omega), by first | rfl | trivial⟩
                            · have HE := Lib.hid (HBB.out.symm.trans (decide_eq_false (fun h => h3 h.2)))
                              go_wp2
                              go_meet
                              exact ⟨by first | (rw [HE.out]; done) | (rw [HE.out]; congr 1; simp; done) | (rw [HE.out]; congr 1; simp; omega), by first | rfl | trivial⟩
                          · have HE := Lib.hid (HBB.out.symm.trans (decide_eq_false (fun h => h2 h.1)))
                            go_wp2
                            go_meet
                            exact ⟨by first | (rw [HE.out]; done) | (rw [HE.out]; congr 1; simp; done) | (rw [HE.out]; congr 1; simp; omega), by first | rfl | trivial⟩
                      case rest =>
                        obtain ⟨rfl, rfl⟩ := hcut
                        have b0 := HAA.out.cell 0
                        have b1 := HAA.out.cell 1
                        have b2 := HAA.out.cell 2
                        simp only [List.getElem?_cons_zero, List.getElem?_cons_succ] at b0 b1 b2
                        go_upto_block 4 with fail
                        go_cut [19] (fun v wx => v = .int .i64 r2 ∧ wx = wc)
                        case first =>
                          as_aux_lemma =>
                            rcases hfl : x.fl with _ | _
                            · rw [hfl] at b0
                              by_cases h2 : x.at_ < 0
                              · have HE := Lib.hid (show r2 = 4 by rw [H7.out, hfl]; simp only [actE, wrtE]; rw [if_neg (by simp), if_neg (by omega)])
                                clear hfl
                                go_wp2
                                go_meet
                                exact ⟨by rw [HE.out], by first | rfl | trivial⟩
                              · by_cases h3 : (D.ps.length : Int) ≤ x.at_
                                · have HE := Lib.hid (show r2 = 4 by rw [H7.out, hfl]; simp only [actE, wrtE]; rw [if_neg (by simp), if_neg (by omega)])
                                  clear hfl
                                  go_wp2
                                  go_meet
                                  exact ⟨by rw [HE.out], by first | rfl | trivial⟩
                                · by_cases h4 : x.p.zs.length = 64
                                  · have HE := Lib.hid (show r2 = 0 by rw [H7.out, hfl]; simp only [actE, wrtE]; rw [if_neg (by simp), if_pos (by omega), if_pos h4])
                                    rw [h4] at b2
                                    have H4 := Lib.hid h4
                                    clear hfl h4
                                    go_wp2
                                    go_meet
                                    exact ⟨by rw [HE.out], by first | rfl | trivial⟩
                                  · have HE := Lib.hid (show r2 = 5 by rw [H7.out, hfl]; simp only [actE, wrtE]; rw [if_neg (by simp), if_pos (by omega), if_neg h4])
                                    have h5 : ((x.p.zs.length : Int) == 64) = false := by simp; omega
                                    have h6 : ((x.p.zs.length : Int) != 64) = true := by simp; omega
                                    clear hfl
                                    go_wp2
                                    go_meet
                                    exact ⟨by rw [HE.out], by first | rfl | trivial⟩
                            · rw [hfl] at b0
                              have HE := Lib.hid (show r2 = 0 by rw [H7.out, hfl]; simp [actE])
                              clear hfl
                              go_wp2
                              go_meet
                              exact ⟨by rw [HE.out], by first | rfl | trivial⟩
                        case rest =>
                          as_aux_lemma =>
                            obtain ⟨rfl, rfl⟩ := hcut
                            clear b0 b1 b2
                            rcases H5.out with ⟨rfl, rfl, rfl⟩ | ⟨rfl, rfl, rfl⟩
                            all_goals
                              go_wp2_with fail
                              refine (HK.out wc HCM.out.lies.reads.1 HCM.out.lies.reads.2).mono ?_
                              rintro e w11 ⟨rfl, hB11⟩
                              have z1 := (HZ.out.below hB11 HZ.out.lt).cell 1
                              simp only [List.getElem?_cons_zero, List.getElem?_cons_succ] at z1
                              rw [H9.out] at z1
                              have hlz' : w9.heap.size < w11.heap.size := by have := hB11.size; omega
                              have hBe : Below w.heap.size w w11 := HBW.out.trans (hB11.mono HBW.out.size)
                              have HBE := Lib.hid hBe
                              clear hB11 hBe
                              go_wp2
                              go_ret
                              exact ⟨rfl, HBE.out⟩

end Go.Proofs.Ytddkalcgijeldaa
