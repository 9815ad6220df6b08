/-
  fields.Read: what it answers. Conditions: octets' length is one that an int holds.
-/
import Derived.Test.YtlondbfileohgaaTB
namespace Go.Proofs.Ytlondbfileohgaa
open Go.ChangeShapes Go.WideShapes Go.ChangeAt Go.RowKit

/-- Texts and what is told of them. -/
def ansS (A : Option Addr) (n c : Nat) (e : Int) : Value := .tuple #[.slice A n c, .int .i64 e]

theorem infoS : (Try.prog.info? 9).map (fun i => (i.zero, i.size, i.bytes)) = some (some (.string ByteArray.empty), 1, 16) := by kernel_rfl

theorem one_cellS (ss : List ByteArray) : ∀ u ∈ ss.map Value.string, u.oneCell' = true := by
  intro u hu
  obtain ⟨z, _, rfl⟩ := List.mem_map.1 hu
  rfl

theorem read_short (A : Option Addr) (k c : Nat) (h : k < 2) (w : World) :
    Calls Try.prog 9 #[.slice A k c] w fun e w' => e = .returned (ansS none 0 0 8) ∧ w = w' := by
  go_enter Try.func9, Try.ntmps9
  go_wp2_with (refine (first_short A k c 2 h _).mono ?_; rintro e w' ⟨rfl, rfl⟩; unfold ansF)
  go_ret2
  exact ⟨rfl, rfl⟩

set_option maxHeartbeats 1000000 in
theorem read_many (A : Option Addr) (c : Nat) (zs : List Int) (hm : 2 ≤ zs.length) (hc : zs.length ≤ c) (ho : Octs zs) (hv : 1024 < val (zs.take 2)) (w : World) (hr : RdB w A zs) :
    Calls Try.prog 9 #[.slice A zs.length c] w fun e w' => e = .returned (ansS none 0 0 3) ∧ Below w.heap.size w w' := by
  have hf := first_ok A c 2 zs (by omega) (by omega) hm hc ho w hr
  have HF := Lib.hid hf
  clear hf hr
  generalize val (zs.take 2) = n at *
  go_enter Try.func9, Try.ntmps9
  go_wp2_with (refine HF.out.mono ?_; rintro e w' ⟨B, rfl, hr, hB⟩; unfold ansF)
  go_ret2
  exact ⟨rfl, hB⟩

theorem rdL_go {n k : Nat} (h : k < n) {zs : List Int} {acc : List ByteArray} {R : Int × List ByteArray} (hR : rdL (n - k) zs acc = R) {e : Int} {s : ByteArray} {r : List Int} (h1 : rd1 zs = (e, s, r)) :
    (e = 0 → rdL (n - (k + 1)) r (acc ++ [s]) = R) ∧ (e ≠ 0 → R = (e, [])) := by
  rw [show n - k = (n - (k + 1)) + 1 by omega] at hR
  simp only [rdL, h1] at hR
  constructor
  · intro h0
    rw [if_pos h0] at hR
    exact hR
  · intro h0
    rw [if_neg h0] at hR
    exact hR.symm

theorem rd1_rest (zs : List Int) (ho : Octs zs) : Octs (rd1 zs).2.2 ∧ (rd1 zs).2.2.length ≤ zs.length := by
  unfold rd1
  split
  · exact ⟨fun _ h => (by cases h), Nat.zero_le _⟩
  split
  · exact ⟨fun _ h => (by cases h), Nat.zero_le _⟩
  split
  · exact ⟨fun _ h => (by cases h), Nat.zero_le _⟩
  · refine ⟨(ho.dp 3).dp _, ?_⟩
    simp only [List.length_drop]
    omega

set_option maxHeartbeats 2000000 in
theorem read_loop (A : Option Addr) (c n : Nat) (zs : List Int) (hm : 2 ≤ zs.length) (hc : zs.length ≤ c) (hl : zs.length ≤ 4611686018427387904) (ho : Octs zs) (hv : val (zs.take 2) = n) (hn : n ≤ 1024) (R : Int × List ByteArray) (hR : rdL n (zs.drop 2) [] = R) (w : World) (hr : RdB w A zs) :
    Calls Try.prog 9 #[.slice A zs.length c] w fun e w' => ∃ B d, e = .returned (ansS B R.2.length d R.1) ∧ RdS w' B R.2 ∧ Below w.heap.size w w' := by
  obtain ⟨i0, hi, hz0, hz1, hz2⟩ := info_parts infoS
  have hf := first_ok A c 2 zs (by omega) (by omega) hm hc ho w hr
  rw [hv] at hf
  have HF := Lib.hid hf
  have HR := Lib.hid hR
  have HO := Lib.hid (ho.dp 2)
  have hdl : (zs.drop 2).length = zs.length - 2 := by simp
  have HDL := Lib.hid hdl
  have HRA := Lib.hid hr
  clear hf hr hv hR ho hdl
  generalize zs.drop 2 = z0 at *
  go_enter Try.func9, Try.ntmps9
  go_wp2_with fail
  refine HF.out.mono ?_
  rintro e w1 ⟨B, rfl, hr, hB⟩
  unfold ansF
  have HR1 := Lib.hid (hr w HRA.out)
  clear hr
  go_wp2_with (at_make; refine wpList_make_own _ rfl _ _ 22 rfl w.heap.size 9 i0 (.string ByteArray.empty) 1 Try.underlying22 hi hz0 hz1 .i64 .i64 _ n rfl rfl (by omega) (by rw [hz2]; omega) (by unfold maxLen; omega) hB.size ?_; intro w2 hown2 hgrow2)
  have hB2 : Below w.heap.size w w2 := hB.grown hgrow2 hB.size (fun _ h => by cases h)
  clear hgrow2
  go_loopw [5, 7, 23] (fun rv v i wr => ∃ (k : Nat) (B : Option Addr) (d : Nat) (rest : List Int) (acc : List ByteArray), k ≤ n ∧ i = .int .i64 k ∧ rv = .slice B rest.length d ∧ rest.length ≤ d ∧ rest.length ≤ zs.length ∧ Hid (RdB w B rest) ∧ Hid (Octs rest) ∧ acc.length = k ∧ Hid (wr.ownsRow w.heap.size 9 1 v k (acc.map Value.string)) ∧ Hid (rdL (n - k) rest acc = R) ∧ Below w.heap.size w wr) (fun _ _ i _ => n - (intOf i).toNat)
  case atStart =>
    exact ⟨0, B, c - 2, z0, [], Nat.zero_le _, rfl, by rw [HDL.out], by have := HDL.out; omega, by have := HDL.out; omega, HR1, HO, rfl, Lib.hid hown2, HR, hB2⟩
  case round =>
    clear HR1 hown2 hB2 HDL HO HF HR hB
    obtain ⟨k, B, d, rest, acc, hk, rfl, rfl, hd, hrl, hrd, hoc, hacc, hown, hR, hBw⟩ := hrel
    by_cases hlt : k < n
    · have ht := text_any B d rest hd (by omega) hoc.out wr (Rd.below hrd.out hBw)
      have hrr := rd1_rest rest hoc.out
      rcases h1 : rd1 rest with ⟨e, s, r⟩
      rw [h1] at ht hrr
      have HT := Lib.hid ht
      have HG := Lib.hid (rdL_go hlt hR.out h1)
      have HOR := Lib.hid hrr.1
      have hrr2 : r.length ≤ rest.length := hrr.2
      clear ht h1 hrr hoc hR
      go_wp2_with fail
      refine HT.out.mono ?_
      rintro e' w3 ⟨B3, d3, rfl, hr3, hd3, hB3⟩
      have hd3' : r.length ≤ d3 := hd3
      have HR3 : Hid (RdB w B3 r) := Lib.hid (hr3 w hrd.out)
      have hB03 : Below w.heap.size w w3 := hBw.trans (hB3.mono hBw.size)
      have HOW := Lib.hid (own_below hown.out hB3 (Nat.le_refl _))
      clear hr3 hB3 hown HT hd3
      unfold ansT
      dsimp only
      by_cases he : e = 0
      · subst he
        have hRn := HG.out.1 rfl
        have HRN := Lib.hid hRn
        clear hRn HG
        go_wp2_with (at_builtin; refine wpList_append_own _ rfl _ _ 22 rfl w.heap.size 9 i0 (.string ByteArray.empty) 1 16 Try.underlying22 hi hz0 hz1 hz2 rfl (by decide) _ k (acc.map Value.string) rfl (by exact HOW.out.alloc _) ⟨w3.heap.size, 0, none⟩ 1 1 [.string s] rfl rfl (by exact cell_one_new _ _ _) (by simp [Value.oneCell']) (by unfold maxLen; omega) (by omega) (by have := hB03.size; simp; omega) ?_; intro v4 w4 hown4 hgrow4 _)
        have hB4 : Below w.heap.size w w4 := (hB03.alloc hB03.size _).grown hgrow4 (by have := hB03.size; simp; omega) (fun j e => (HOW.out.lt j e).1)
        have HO4 := Lib.hid hown4
        clear hgrow4 hown4
        go_roundw
        case rel =>
          refine ⟨k + 1, B3, d3, r, acc ++ [s], by omega, by go_num, rfl, hd3', by omega, HR3, HOR, by simp [hacc], ?_, HRN, hB4⟩
          have := HO4.out
          rw [List.map_append]
          exact Lib.hid this
        case measure => simp [intOf]; omega
      · have g : (e == 0) = false := beq_eq_false_iff_ne.2 he
        have hRn := HG.out.2 he
        have HRN := Lib.hid hRn
        clear hRn HG
        go_wp2
        go_ret2
        exact ⟨none, 0, by rw [HRN.out]; rfl, by rw [HRN.out]; exact RdS.nil _ _, hB03⟩
    · obtain rfl : k = n := by omega
      have hR0 := hR.out
      rw [Nat.sub_self] at hR0
      by_cases h0 : rest.length = 0
      · have hRn : R = (0, acc) := by
          rw [← hR0]
          simp only [rdL]
          rw [if_pos h0]
        obtain ⟨B4, d4, rfl, hd4, hr4⟩ := own_slice hown.out
        have HR4 := Lib.hid (show RdS wr B4 acc from hr4)
        have HRN := Lib.hid hRn
        clear hRn hR0 hR hown hr4
        go_wp2
        go_ret2
        exact ⟨B4, d4, by rw [HRN.out, ← hacc]; rfl, by rw [HRN.out]; exact HR4.out, hBw⟩
      · have hRn : R = (9, []) := by
          rw [← hR0]
          simp only [rdL]
          rw [if_neg h0]
        have HRN := Lib.hid hRn
        clear hRn hR0 hR hown
        have hpos : 0 < rest.length := by omega
        go_wp2
        go_ret2
        exact ⟨none, 0, by rw [HRN.out]; rfl, by rw [HRN.out]; exact RdS.nil _ _, hBw⟩

/-- What Read answers. -/
theorem read_any (A : Option Addr) (c : Nat) (zs : List Int) (hc : zs.length ≤ c) (hl : zs.length ≤ 4611686018427387904) (ho : Octs zs) (w : World) (hr : RdB w A zs) :
    Calls Try.prog 9 #[.slice A zs.length c] w fun e w' => ∃ B d, e = .returned (ansS B (rd zs).2.length d (rd zs).1) ∧ RdS w' B (rd zs).2 ∧ Below w.heap.size w w' := by
  by_cases h1 : zs.length < 2
  · have e1 : rd zs = (8, []) := by unfold rd; rw [if_pos h1]
    rw [e1]
    refine (read_short A zs.length c h1 w).mono ?_
    rintro e w' ⟨rfl, rfl⟩
    exact ⟨none, 0, rfl, RdS.nil _ _, Below.refl _ _⟩
  · by_cases h2 : 1024 < val (zs.take 2)
    · have e1 : rd zs = (3, []) := by unfold rd; rw [if_neg h1, if_pos h2]
      rw [e1]
      refine (read_many A c zs (by omega) hc ho h2 w hr).mono ?_
      rintro e w' ⟨rfl, hB⟩
      exact ⟨none, 0, rfl, RdS.nil _ _, hB⟩
    · have e1 : rd zs = rdL (val (zs.take 2)).toNat (zs.drop 2) [] := by unfold rd; rw [if_neg h1, if_neg h2]
      have hb := val2_bd (zs.take 2) (by simp; omega) (ho.tk 2)
      exact read_loop A c (val (zs.take 2)).toNat zs (by omega) hc hl ho (by omega) (by omega) (rd zs) e1.symm w hr

end Go.Proofs.Ytlondbfileohgaa
