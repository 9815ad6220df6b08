/-
  The reference's Read: what it answers. Conditions: octets' length is one that an int holds.
-/
import Derived.Test.YtlondbfileohgaaTH
namespace Go.Proofs.Ytlondbfileohgaa
open Go.ChangeShapes Go.WideShapes Go.ChangeAt Go.RowKit

theorem refRead_short (A : Option Addr) (k c : Nat) (h : k < 2) (w : World) :
    Calls Try.prog 10 #[.slice A k c] w fun e w' => e = .returned (ansS none 0 0 8) ∧ w = w' := by
  go_enter Try.func10, Try.ntmps10
  go_wp2
  go_ret2
  exact ⟨rfl, rfl⟩

/-- The number in few octets. -/
theorem refNumber_few (A : Option Addr) (c m : Nat) (zs : List Int) (h1 : 1 ≤ m) (h3 : m ≤ 3) (hm : m ≤ zs.length) (ho : Octs zs) (w : World) (hr : RdB w A zs) :
    Calls Try.prog 22 #[.slice A m c] w fun e w' => e = .returned (ansN (val (zs.take m)) 0) ∧ w = w' := by
  have hk : (zs.take m).length = m := by simp; omega
  have hv := val_bound (zs.take m) (ho.tk m)
  have hv2 : val (zs.take m) ≤ 4611686018427387903 := by
    have h := hv.2
    rw [hk] at h
    have : (256 : Nat) ^ m ≤ 256 ^ 3 := Nat.pow_le_pow_right (by omega) h3
    have h7 : (256 : Nat) ^ 3 = 16777216 := by decide
    omega
  have hn := refNumber_any A c (zs.take m) (by omega) (by omega) (ho.tk m) w (rd_take hr m)
  have e1 : numO (zs.take m) = (val (zs.take m), 0) := by
    unfold numO
    rw [if_neg (by omega)]
  rw [hk, e1] at hn
  exact hn

set_option maxHeartbeats 1000000 in
theorem refRead_many (A : Option Addr) (c : Nat) (zs : List Int) (hm : 2 ≤ zs.length) (hc : zs.length ≤ c) (hl : zs.length ≤ 4611686018427387904) (ho : Octs zs) (hv : 1024 < val (zs.take 2)) (w : World) (hr : RdB w A zs) :
    Calls Try.prog 10 #[.slice A zs.length c] w fun e w' => e = .returned (ansS none 0 0 3) ∧ w = w' := by
  have hf := refNumber_few A c 2 zs (by omega) (by omega) hm ho w hr
  have HF := Lib.hid hf
  clear hf hr
  have hc2 : 2 ≤ c := by omega
  generalize val (zs.take 2) = n at *
  go_enter Try.func10, Try.ntmps10
  go_wp2_with (refine HF.out.mono ?_; rintro e w' ⟨rfl, rfl⟩; unfold ansN)
  go_ret2
  exact ⟨rfl, rfl⟩

theorem rd1_at (zs : List Int) (p : Nat) (ho : Octs zs) :
    (zs.length < p + 3 → rd1 (zs.drop p) = (8, ByteArray.empty, [])) ∧
    (p + 3 ≤ zs.length → ∃ k : Nat, val ((zs.drop p).take 3) = k ∧ k < 16777216 ∧ (65536 < k → rd1 (zs.drop p) = (5, ByteArray.empty, [])) ∧ (k ≤ 65536 → zs.length < p + 3 + k → rd1 (zs.drop p) = (8, ByteArray.empty, [])) ∧
      (k ≤ 65536 → p + 3 + k ≤ zs.length → rd1 (zs.drop p) = (0, strOfNums ((zs.drop (p + 3)).take k), zs.drop (p + 3 + k)))) := by
  constructor
  · intro h
    unfold rd1
    rw [if_pos (by rw [List.length_drop]; omega)]
  · intro h
    have hb := val3_bd ((zs.drop p).take 3) (by simp; omega) ((ho.dp p).tk 3)
    refine ⟨(val ((zs.drop p).take 3)).toNat, by omega, by omega, ?_, ?_, ?_⟩
    · intro h1
      unfold rd1
      rw [if_neg (by rw [List.length_drop]; omega), if_pos (by omega)]
    · intro h1 h2
      unfold rd1
      rw [if_neg (by rw [List.length_drop]; omega), if_neg (by omega), if_pos (by rw [List.length_drop, List.length_drop]; omega)]
    · intro h1 h2
      unfold rd1
      rw [if_neg (by rw [List.length_drop]; omega), if_neg (by omega), if_neg (by rw [List.length_drop, List.length_drop]; omega), List.drop_drop, List.drop_drop]

set_option maxHeartbeats 4000000 in
theorem refRead_loop (A : Option Addr) (c n : Nat) (zs : List Int) (hm : 2 ≤ zs.length) (hc : zs.length ≤ c) (hl : zs.length ≤ 4611686018427387904) (ho : Octs zs) (hv : val (zs.take 2) = n) (hn : n ≤ 1024) (R : Int × List ByteArray) (hR : rdL n (zs.drop 2) [] = R) (w : World) (hr : RdB w A zs) :
    Calls Try.prog 10 #[.slice A zs.length c] w fun e w' => ∃ B d, e = .returned (ansS B R.2.length d R.1) ∧ RdS w' B R.2 ∧ Below w.heap.size w w' := by
  obtain ⟨i0, hi, hz0, hz1, hz2⟩ := info_parts infoS
  have hf := refNumber_few A c 2 zs (by omega) (by omega) hm ho w hr
  rw [hv] at hf
  have HF := Lib.hid hf
  have HR := Lib.hid hR
  have HO := Lib.hid ho
  have HRA := Lib.hid hr
  have hc2 : 2 ≤ c := by omega
  clear hf hr hv hR ho
  go_enter Try.func10, Try.ntmps10
  go_wp2_with (refine HF.out.mono ?_; rintro e w' ⟨rfl, rfl⟩; unfold ansN)
  go_loopw [6, 7, 8] (fun p v i wr => ∃ (k at_ : Nat) (acc : List ByteArray), k ≤ n ∧ i = .int .i64 k ∧ p = .int .i64 at_ ∧ at_ ≤ zs.length ∧ acc.length = k ∧ Hid (wr.ownsRow w.heap.size 9 1 v k (acc.map Value.string)) ∧ Hid (rdL (n - k) (zs.drop at_) acc = R) ∧ Below w.heap.size w wr) (fun _ _ i _ => n - (intOf i).toNat)
  case atStart => exact ⟨0, 2, [], Nat.zero_le _, rfl, rfl, hm, rfl, Lib.hid ⟨rfl, .inl ⟨rfl, rfl⟩⟩, HR, Below.refl _ w⟩
  case round =>
    clear HF HR
    obtain ⟨k, p, acc, hk, rfl, rfl, hp, hacc, hown, hR, hBw⟩ := hrel
    by_cases hlt : k < n
    · obtain ⟨hA1, hA2⟩ := rd1_at zs p HO.out
      by_cases hs : zs.length < p + 3
      · have hRn := (rdL_go hlt hR.out (hA1 hs)).2 (by decide)
        have HRN := Lib.hid hRn
        clear hA1 hA2 hR hRn hown
        go_wp2
        go_ret2
        exact ⟨none, 0, by rw [HRN.out]; rfl, by rw [HRN.out]; exact RdS.nil _ _, hBw⟩
      · obtain ⟨q, hq, hq1, hL, hE, hG⟩ := hA2 (by omega)
        have hrp := rd_drop HRA.out p c hc
        have hpc : ¬ c = p := by omega
        rw [if_neg hpc] at hrp
        obtain ⟨A1, hA1'⟩ : ∃ A1, (Option.map (fun x => x.add p) A) = A1 := ⟨_, rfl⟩
        rw [hA1'] at hrp
        have hnum := refNumber_few A1 (c - p) 3 (zs.drop p) (by omega) (by omega) (by rw [List.length_drop]; omega) (HO.out.dp p) wr (Rd.below hrp hBw)
        rw [hq] at hnum
        have HN := Lib.hid hnum
        have hpc' : ¬ (c : Int) = p := by omega
        have hp3c : p + 3 ≤ c := by omega
        clear hA1 hA2 hnum hrp hq
        by_cases hbig : 65536 < q
        · have hRn := (rdL_go hlt hR.out (hL hbig)).2 (by decide)
          have HRN := Lib.hid hRn
          clear hR hRn hown hL hE hG
          go_wp2_with (refine HN.out.mono ?_; rintro e w' ⟨rfl, rfl⟩; unfold ansN)
          go_ret2
          exact ⟨none, 0, by rw [HRN.out]; rfl, by rw [HRN.out]; exact RdS.nil _ _, hBw⟩
        · by_cases hend : zs.length < p + 3 + q
          · have hRn := (rdL_go hlt hR.out (hE (by omega) hend)).2 (by decide)
            have HRN := Lib.hid hRn
            clear hR hRn hown hL hE hG
            go_wp2_with (refine HN.out.mono ?_; rintro e w' ⟨rfl, rfl⟩; unfold ansN)
            go_ret2
            exact ⟨none, 0, by rw [HRN.out]; rfl, by rw [HRN.out]; exact RdS.nil _ _, hBw⟩
          · have hRn := (rdL_go hlt hR.out (hG (by omega) (by omega))).1 rfl
            obtain ⟨m, hpm⟩ : ∃ m, p + 3 = m := ⟨_, rfl⟩
            have hpmI : (p : Int) + 3 = m := by omega
            have hm1 : m + q ≤ zs.length := by omega
            have hm2 : p ≤ m := by omega
            have hmp : m - p = 3 := by omega
            have hm3 : m ≤ c := by omega
            rw [hpm] at hRn
            clear hs hend hp3c hL hE hG
            by_cases hcp : c = m
            · have hq0 : q = 0 := by omega
              have hcv : (convert 23 9 (.slice A q 0)).run Try.prog wr = .ok (.string (strOfNums ((zs.drop m).take q))) wr := by
                rw [hq0, List.take_zero]
                exact run_string_rd (P := Try.prog) wr 23 5 9 Try.underlying23 Try.underlying5 Try.underlying9 A [] 0 (RdB.nil _ _)
              generalize strOfNums ((zs.drop m).take q) = s at *
              have hqI : (q : Int) ≤ 65536 := by omega
              have HQ0 := Lib.hid hq0
              clear hpm hq0
              subst hcp
              rw [hmp] at HN
              have HRN := Lib.hid hRn
              have HOW := Lib.hid hown.out
              clear hR hRn hown
              go_wp2_with (first
                | (refine HN.out.mono ?_; rintro e w' ⟨rfl, rfl⟩; unfold ansN)
                | (at_builtin; refine wpList_append_own _ rfl _ _ 22 rfl w.heap.size 9 i0 (.string ByteArray.empty) 1 16 Try.underlying22 hi hz0 hz1 hz2 rfl (by decide) _ k (acc.map Value.string) rfl (by exact HOW.out.alloc _) ⟨wr.heap.size, 0, none⟩ 1 1 [.string s] rfl rfl (by exact cell_one_new _ _ _) (by simp [Value.oneCell']) (by unfold maxLen; omega) (by omega) (by have := hBw.size; simp; omega) ?_; intro v4 w4 hown4 hgrow4 _; have hB4 : Below w.heap.size w w4 := (hBw.alloc hBw.size _).grown hgrow4 (by have := hBw.size; simp; omega) (fun j e => (HOW.out.lt j e).1); have HO4 := Lib.hid hown4; clear hgrow4 hown4))
              go_roundw
              case rel =>
                refine ⟨k + 1, c + q, acc ++ [s], by omega, by go_num, by go_num, by omega, by simp [hacc], ?_, HRN, hB4⟩
                have := HO4.out
                rw [List.map_append]
                exact Lib.hid this
              case measure => simp [intOf]; omega
            · have hrd := rd_take (rd_drop HRA.out m c hc) q
              rw [if_neg hcp] at hrd
              obtain ⟨A2, hA2'⟩ : ∃ A2, (Option.map (fun x => x.add m) A) = A2 := ⟨_, rfl⟩
              rw [hA2'] at hrd
              have hcv := run_string_rd (P := Try.prog) wr 23 5 9 Try.underlying23 Try.underlying5 Try.underlying9 _ _ (c - m) (Rd.below hrd hBw)
              rw [show ((zs.drop m).take q).length = q by simp; omega] at hcv
              generalize strOfNums ((zs.drop m).take q) = s at *
              have hqc : m + q ≤ c := by omega
              have hcp' : ¬ (c : Int) = m := by omega
              clear hrd hpm
              have HRN := Lib.hid hRn
              have HOW := Lib.hid hown.out
              clear hR hRn hown
              go_wp2_with (first
                | (refine HN.out.mono ?_; rintro e w' ⟨rfl, rfl⟩; unfold ansN)
                | (at_builtin; refine wpList_append_own _ rfl _ _ 22 rfl w.heap.size 9 i0 (.string ByteArray.empty) 1 16 Try.underlying22 hi hz0 hz1 hz2 rfl (by decide) _ k (acc.map Value.string) rfl (by exact HOW.out.alloc _) ⟨wr.heap.size, 0, none⟩ 1 1 [.string s] rfl rfl (by exact cell_one_new _ _ _) (by simp [Value.oneCell']) (by unfold maxLen; omega) (by omega) (by have := hBw.size; simp; omega) ?_; intro v4 w4 hown4 hgrow4 _; have hB4 : Below w.heap.size w w4 := (hBw.alloc hBw.size _).grown hgrow4 (by have := hBw.size; simp; omega) (fun j e => (HOW.out.lt j e).1); have HO4 := Lib.hid hown4; clear hgrow4 hown4))
              go_roundw
              case rel =>
                refine ⟨k + 1, m + q, acc ++ [s], by omega, by go_num, by go_num, by omega, by simp [hacc], ?_, HRN, hB4⟩
                have := HO4.out
                rw [List.map_append]
                exact Lib.hid this
              case measure => simp [intOf]; omega
    · obtain rfl : k = n := by omega
      have hR0 := hR.out
      rw [Nat.sub_self] at hR0
      by_cases h0 : p = zs.length
      · have hRn : R = (0, acc) := by
          rw [← hR0]
          simp only [rdL]
          rw [if_pos (by rw [List.length_drop]; omega)]
        obtain ⟨B4, d4, rfl, hd4, hr4⟩ := own_slice hown.out
        have HR4 := Lib.hid (show RdS wr B4 acc from hr4)
        have HRN := Lib.hid hRn
        clear hRn hR0 hR hown hr4
        subst h0
        go_wp2
        go_ret2
        exact ⟨B4, d4, by rw [HRN.out, ← hacc]; rfl, by rw [HRN.out]; exact HR4.out, hBw⟩
      · have hRn : R = (9, []) := by
          rw [← hR0]
          simp only [rdL]
          rw [if_neg (by rw [List.length_drop]; omega)]
        have HRN := Lib.hid hRn
        clear hRn hR0 hR hown
        have hne : ((p : Int) == (zs.length : Int)) = false := beq_eq_false_iff_ne.2 (by omega)
        go_wp2
        go_ret2
        exact ⟨none, 0, by rw [HRN.out]; rfl, by rw [HRN.out]; exact RdS.nil _ _, hBw⟩

/-- What the reference's Read answers. -/
theorem refRead_any (A : Option Addr) (c : Nat) (zs : List Int) (hc : zs.length ≤ c) (hl : zs.length ≤ 4611686018427387904) (ho : Octs zs) (w : World) (hr : RdB w A zs) :
    Calls Try.prog 10 #[.slice A zs.length c] w fun e w' => ∃ B d, e = .returned (ansS B (rd zs).2.length d (rd zs).1) ∧ RdS w' B (rd zs).2 ∧ Below w.heap.size w w' := by
  by_cases h1 : zs.length < 2
  · have e1 : rd zs = (8, []) := by unfold rd; rw [if_pos h1]
    rw [e1]
    refine (refRead_short A zs.length c h1 w).mono ?_
    rintro e w' ⟨rfl, rfl⟩
    exact ⟨none, 0, rfl, RdS.nil _ _, Below.refl _ _⟩
  · by_cases h2 : 1024 < val (zs.take 2)
    · have e1 : rd zs = (3, []) := by unfold rd; rw [if_neg h1, if_pos h2]
      rw [e1]
      refine (refRead_many A c zs (by omega) hc hl ho h2 w hr).mono ?_
      rintro e w' ⟨rfl, rfl⟩
      exact ⟨none, 0, rfl, RdS.nil _ _, Below.refl _ _⟩
    · have e1 : rd zs = rdL (val (zs.take 2)).toNat (zs.drop 2) [] := by unfold rd; rw [if_neg h1, if_neg h2]
      have hb := val2_bd (zs.take 2) (by simp; omega) (ho.tk 2)
      exact refRead_loop A c (val (zs.take 2)).toNat zs (by omega) hc hl ho (by omega) (by omega) (rd zs) e1.symm w hr

end Go.Proofs.Ytlondbfileohgaa
