/-
  The page's example holds, and OctetsBack returns true. Conditions: at most 2^47 - 4096 octets.
-/
import Derived.Test.YtedhahonanfnaaaF
namespace Go.Proofs.Ytedhahonanfnaaa
open Go.ChangeShapes Go.WideShapes Go.ChangeAt Go.RowKit
set_option maxRecDepth 100000

theorem put_at (n s : Int) (k : Nat) (hs : s = k) (h8 : k ≤ 8) (w : World) :
    Calls Try.prog 10 #[.int .i64 n, .int .i64 s] w fun e w' => ∃ A c, e = .returned (.slice A k c) ∧ RdB w' A (put n k) ∧ k ≤ c ∧ Below w.heap.size w w' := by
  subst hs
  exact put_any n k h8 w

/-- string(b), at the length as the walk spells it. -/
theorem str_of {w : World} {A : Option Addr} {zs : List Int} {n : Nat} (h : RdB w A zs) (hn : zs.length = n) (c : Nat) : (convert 22 9 (.slice A n c)).run Try.prog w = .ok (.string (strOfNums zs)) w := by
  subst hn
  exact run_string_rd w 22 5 9 Try.underlying22 Try.underlying5 Try.underlying9 A zs c h

theorem rd_one (w : World) (z : Int) : RdB (w.alloc (.cells #[.int .u8 z] 5)) (some ⟨w.heap.size, 0, none⟩) [z] := fun _ => by
  refine ⟨w.heap.size, 0, rfl, by simp, fun j u hu => ?_⟩
  rw [cell_of_row (w.alloc (.cells #[.int .u8 z] 5)) w.heap.size (0 + j) #[.int .u8 z] 5 (0, 0) (heap_alloc_new w _), Nat.zero_add]
  simpa using hu

set_option maxHeartbeats 400000 in
theorem alive_any (w : World) : Calls Try.prog 5 #[] w fun e w' => e = .returned (.bool true) ∧ Below w.heap.size w w' := by
  have e1 : (strOfNums (put 258 3)).toList = [0, 1, 2] := by kernel_rfl
  have e2 : (strOfNums (hexs [10])).toList = [48, 97] := by kernel_rfl
  go_enter Try.func5, Try.ntmps5
  go_wp2_with (first
    | (go_at_call 10; refine (put_at 258 3 3 rfl (by omega) _).mono ?_; rintro e w1 ⟨A, c, rfl, hR, hc, hB⟩; have hcv := str_of (n := 3) hR (put_length 258 3) c)
    | (go_at_call 7; refine (hex_any _ _ [10] (by simp) (by intro z hz; simp at hz; omega) _ (rd_one _ _)).mono ?_; rintro e w2 ⟨rfl, hB2⟩))
  go_ret
  exact ⟨rfl, (hB.alloc hB.size _).trans (hB2.mono (by have := hB.size; simp; omega))⟩

theorem val_put8 (n : Int) : val (put n 8) = n % 18446744073709551616 := by
  have : put n 8 = [n / 72057594037927936 % 256, n / 281474976710656 % 256, n / 1099511627776 % 256, n / 4294967296 % 256, n / 16777216 % 256, n / 65536 % 256, n / 256 % 256, n / 1 % 256] := rfl
  rw [this]
  simp only [val, List.foldl_cons, List.foldl_nil]
  omega

theorem number8_ok (A : Option Addr) (c : Nat) (n : Int) (w : World) (hr : RdB w A (put n 8)) (hv : val (put n 8) = n) (h : n ≤ 4611686018427387903) :
    Calls Try.prog 9 #[.slice A 8 c] w fun e w' => e = .returned (.tuple #[.int .i64 n, .int .i64 0]) ∧ w = w' := by
  have := number_ok A c (put n 8) (by rw [put_length]; omega) (by rw [put_length]; omega) (put_octs n 8) w hr (by rw [hv]; exact h)
  rw [put_length, hv] at this
  exact this
theorem number8_big (A : Option Addr) (c : Nat) (n : Int) (w : World) (hr : RdB w A (put n 8)) (h : 4611686018427387903 < val (put n 8)) :
    Calls Try.prog 9 #[.slice A 8 c] w fun e w' => e = .returned (.tuple #[.int .i64 0, .int .i64 4]) ∧ w = w' := by
  have := number_big A c (put n 8) (by rw [put_length]; omega) (by rw [put_length]; omega) (put_octs n 8) w hr h
  rw [put_length] at this
  exact this

set_option maxHeartbeats 1000000 in
theorem back_walk (n : Int) (hn0 : -9223372036854775808 ≤ n) (hn1 : n ≤ 9223372036854775807) (A : Option Addr) (c : Nat) (zs : List Int) (ho : Octs zs) (hl : zs.length ≤ 140737488351232) (w : World) (hr : RdB w A zs) :
    Calls Try.prog 3 #[.int .i64 n, .slice A zs.length c] w fun e w' => e = .returned (.bool true) ∧ Below w.heap.size w w' := by
  have hv := val_put8 n
  by_cases h1 : n < 0
  · have hvn : 4611686018427387903 < val (put n 8) := by rw [hv]; omega
    have HV := Lib.hid hvn
    clear hv hvn
    have HR := Lib.hid hr
    clear hr
    go_enter Try.func3, Try.ntmps3
    go_wp2_with fail
    refine (alive_any _).mono ?_
    rintro e w1 ⟨rfl, hB1⟩
    go_wp2_with fail
    refine (hex_any A c zs hl ho w1 (HR.out.below hB1)).mono ?_
    rintro e w2 ⟨rfl, hB2⟩
    go_wp2_with fail
    refine (unhex_hex zs ho hl w2).mono ?_
    rintro e w3 ⟨A3, c3, rfl, hr3, hc3, hB3⟩
    have HR3 := Lib.hid hr3
    have k1 := str_of hr3 rfl c3
    have hB03 : Below w.heap.size w w3 := (hB1.trans (hB2.mono hB1.size)).trans (hB3.mono (Nat.le_trans hB1.size hB2.size))
    have k2 := str_of (HR.out.below hB03) rfl c
    clear hr3
    go_wp2_with (go_at_call 8; refine (num_any _ _).mono ?_; rintro e w' ⟨rfl, rfl⟩)
    refine (put_at n 8 8 rfl (by omega) _).mono ?_
    rintro e w4 ⟨A4, c4, rfl, hr4, hc4, hB4⟩
    have hB04 : Below w.heap.size w w4 := hB03.trans (hB4.mono hB03.size)
    clear k1 k2
    go_wp2_with fail
    refine (number8_big A4 c4 n w4 hr4 HV.out).mono ?_
    rintro e w5 ⟨rfl, rfl⟩
    go_wp2_with (go_at_call 8; refine (num_any _ _).mono ?_; rintro e w' ⟨rfl, rfl⟩)
    go_ret
    exact ⟨rfl, hB04⟩
  · by_cases h2 : 4611686018427387903 < n
    · have hvn : 4611686018427387903 < val (put n 8) := by rw [hv]; omega
      have HV := Lib.hid hvn
      clear hv hvn
      have HR := Lib.hid hr
      clear hr
      go_enter Try.func3, Try.ntmps3
      go_wp2_with fail
      refine (alive_any _).mono ?_
      rintro e w1 ⟨rfl, hB1⟩
      go_wp2_with fail
      refine (hex_any A c zs hl ho w1 (HR.out.below hB1)).mono ?_
      rintro e w2 ⟨rfl, hB2⟩
      go_wp2_with fail
      refine (unhex_hex zs ho hl w2).mono ?_
      rintro e w3 ⟨A3, c3, rfl, hr3, hc3, hB3⟩
      have HR3 := Lib.hid hr3
      have k1 := str_of hr3 rfl c3
      have hB03 : Below w.heap.size w w3 := (hB1.trans (hB2.mono hB1.size)).trans (hB3.mono (Nat.le_trans hB1.size hB2.size))
      have k2 := str_of (HR.out.below hB03) rfl c
      clear hr3
      go_wp2_with (go_at_call 8; refine (num_any _ _).mono ?_; rintro e w' ⟨rfl, rfl⟩)
      refine (put_at n 8 8 rfl (by omega) _).mono ?_
      rintro e w4 ⟨A4, c4, rfl, hr4, hc4, hB4⟩
      have hB04 : Below w.heap.size w w4 := hB03.trans (hB4.mono hB03.size)
      clear k1 k2
      go_wp2_with fail
      refine (number8_big A4 c4 n w4 hr4 HV.out).mono ?_
      rintro e w5 ⟨rfl, rfl⟩
      go_wp2_with (go_at_call 8; refine (num_any _ _).mono ?_; rintro e w' ⟨rfl, rfl⟩)
      go_ret
      exact ⟨rfl, hB04⟩
    · have hvn : val (put n 8) = n := by rw [hv]; omega
      have HV := Lib.hid hvn
      clear hv hvn
      have HR := Lib.hid hr
      clear hr
      go_enter Try.func3, Try.ntmps3
      go_wp2_with fail
      refine (alive_any _).mono ?_
      rintro e w1 ⟨rfl, hB1⟩
      go_wp2_with fail
      refine (hex_any A c zs hl ho w1 (HR.out.below hB1)).mono ?_
      rintro e w2 ⟨rfl, hB2⟩
      go_wp2_with fail
      refine (unhex_hex zs ho hl w2).mono ?_
      rintro e w3 ⟨A3, c3, rfl, hr3, hc3, hB3⟩
      have HR3 := Lib.hid hr3
      have k1 := str_of hr3 rfl c3
      have hB03 : Below w.heap.size w w3 := (hB1.trans (hB2.mono hB1.size)).trans (hB3.mono (Nat.le_trans hB1.size hB2.size))
      have k2 := str_of (HR.out.below hB03) rfl c
      clear hr3
      go_wp2_with (go_at_call 8; refine (num_any _ _).mono ?_; rintro e w' ⟨rfl, rfl⟩)
      refine (put_at n 8 8 rfl (by omega) _).mono ?_
      rintro e w4 ⟨A4, c4, rfl, hr4, hc4, hB4⟩
      have hB04 : Below w.heap.size w w4 := hB03.trans (hB4.mono hB03.size)
      clear k1 k2
      go_wp2_with fail
      refine (number8_ok A4 c4 n w4 hr4 HV.out (by omega)).mono ?_
      rintro e w5 ⟨rfl, rfl⟩
      go_wp2_with (go_at_call 8; refine (num_any _ _).mono ?_; rintro e w' ⟨rfl, rfl⟩)
      go_ret
      exact ⟨rfl, hB04⟩

end Go.Proofs.Ytedhahonanfnaaa
