/-
  Add and the page's Add answer one sum, or tell that it is too large. Conditions: at most 2^44 numbers.
-/
import Derived.Test.YtibjhbejjjkoaaaCA
namespace Go.Proofs.Ytibjhbejjjkoaaa
open Go.ChangeShapes Go.WideShapes Go.ChangeAt Go.RowKit

theorem add_bad (A : Option Addr) (c : Nat) (zs : List Int) (hl : zs.length ≤ 17592186044416) (hs : zs.all am = false) (w : World) (hr : RdI w A zs) :
    Calls Try.prog 6 #[.slice A zs.length c] w fun e w' => e = .returned (.tuple #[.int .i64 0, .int .i64 4]) ∧ w = w' := by
  go_enter Try.func6, Try.ntmps6
  go_wp2_with (go_at_call 9; refine (check_bad A c zs hl hs w hr).mono ?_; rintro e w' ⟨rfl, rfl⟩)
  go_ret2
  exact ⟨rfl, rfl⟩

theorem add_ok (A : Option Addr) (c : Nat) (zs : List Int) (hl : zs.length ≤ 17592186044416) (hs : zs.all am = true) (w : World) (hr : RdI w A zs) :
    Calls Try.prog 6 #[.slice A zs.length c] w fun e w' => e = .returned (.tuple #[.int .i64 (addR 0 zs).1, .int .i64 (addR 0 zs).2]) ∧ w = w' := by
  go_enter Try.func6, Try.ntmps6
  go_wp2_with (go_at_call 9; refine (check_ok A c zs hl hs w hr).mono ?_; rintro e w' ⟨rfl, rfl⟩)
  go_loop [5, 15] (fun t i => ∃ (k : Nat) (s : Int), k ≤ zs.length ∧ i = .int .i64 k ∧ t = .int .i64 s ∧ 0 ≤ s ∧ s ≤ 1099511627776 ∧ addR 0 zs = addR s (zs.drop k)) (fun _ i => zs.length - (intOf i).toNat)
  case atStart => exact ⟨0, 0, Nat.zero_le _, rfl, rfl, by omega, by omega, rfl⟩
  case round =>
    obtain ⟨k, s, hk, rfl, rfl, s0, s1, hd⟩ := hrel
    by_cases hlt : k < zs.length
    · obtain ⟨b, off, z, rfl, hb, hc, HZ⟩ := hr.at_ hlt
      have hz := am_at hs HZ.out
      rw [drop_at zs HZ.out] at hd
      by_cases hbig : 1099511627776 < s + z
      · rw [show addR s (z :: zs.drop (k + 1)) = (0, 15) from if_pos hbig] at hd
        have HD := Lib.hid hd
        clear hd
        have hb2 : 1099511627776 - s < z := by omega
        go_wp2
        go_ret2
        exact ⟨by rw [HD.out]; rfl, rfl⟩
      · rw [show addR s (z :: zs.drop (k + 1)) = addR (s + z) (zs.drop (k + 1)) from if_neg hbig] at hd
        have HD := Lib.hid hd
        clear hd
        have hb2 : z ≤ 1099511627776 - s := by omega
        go_wp2
        go_round
        case rel => exact ⟨k + 1, s + z, by omega, by go_num, by go_num, by omega, by omega, HD.out⟩
        case measure => simp [intOf]; omega
    · obtain rfl : k = zs.length := by omega
      rw [List.drop_length, show addR s [] = (s, 0) from rfl] at hd
      have HD := Lib.hid hd
      clear hd
      go_wp2
      go_ret2
      exact ⟨by rw [HD.out]; rfl, rfl⟩

theorem radd_bad (A : Option Addr) (c : Nat) (zs : List Int) (hl : zs.length ≤ 17592186044416) (hs : zs.all am = false) (w : World) (hr : RdI w A zs) :
    Calls Try.prog 7 #[.slice A zs.length c] w fun e w' => e = .returned (.tuple #[.int .i64 0, .int .i64 4]) ∧ w = w' := by
  go_enter Try.func7, Try.ntmps7
  go_wp2_with (go_at_call 10; refine (amounts_bad A c zs hl hs w hr).mono ?_; rintro e w' ⟨rfl, rfl⟩)
  go_ret2
  exact ⟨rfl, rfl⟩

theorem radd_ok (A : Option Addr) (c : Nat) (zs : List Int) (hl : zs.length ≤ 17592186044416) (hs : zs.all am = true) (w : World) (hr : RdI w A zs) :
    Calls Try.prog 7 #[.slice A zs.length c] w fun e w' => e = .returned (.tuple #[.int .i64 (addR 0 zs).1, .int .i64 (addR 0 zs).2]) ∧ w = w' := by
  go_enter Try.func7, Try.ntmps7
  go_wp2_with (go_at_call 10; refine (amounts_ok A c zs hl hs w hr).mono ?_; rintro e w' ⟨rfl, rfl⟩)
  go_loop [4, 5] (fun t i => ∃ (k : Nat) (s : Int), k ≤ zs.length ∧ i = .int .i64 k ∧ t = .int .i64 s ∧ 0 ≤ s ∧ s ≤ 1099511627776 ∧ addR 0 zs = addR s (zs.drop k)) (fun _ i => zs.length - (intOf i).toNat)
  case atStart => exact ⟨0, 0, Nat.zero_le _, rfl, rfl, by omega, by omega, rfl⟩
  case round =>
    obtain ⟨k, s, hk, rfl, rfl, s0, s1, hd⟩ := hrel
    by_cases hlt : k < zs.length
    · obtain ⟨b, off, z, rfl, hb, hc, HZ⟩ := hr.at_ hlt
      have hz := am_at hs HZ.out
      rw [drop_at zs HZ.out] at hd
      by_cases hbig : 1099511627776 < s + z
      · rw [show addR s (z :: zs.drop (k + 1)) = (0, 15) from if_pos hbig] at hd
        have HD := Lib.hid hd
        clear hd
        go_wp2
        go_ret2
        exact ⟨by rw [HD.out]; rfl, rfl⟩
      · rw [show addR s (z :: zs.drop (k + 1)) = addR (s + z) (zs.drop (k + 1)) from if_neg hbig] at hd
        have HD := Lib.hid hd
        clear hd
        go_wp2
        go_round
        case rel => exact ⟨k + 1, s + z, by omega, by go_num, by go_num, by omega, by omega, HD.out⟩
        case measure => simp [intOf]; omega
    · obtain rfl : k = zs.length := by omega
      rw [List.drop_length, show addR s [] = (s, 0) from rfl] at hd
      have HD := Lib.hid hd
      clear hd
      go_wp2
      go_ret2
      exact ⟨by rw [HD.out]; rfl, rfl⟩

end Go.Proofs.Ytibjhbejjjkoaaa
