/-
  Check, Amounts, Add, the page's Add, Sub, Mul, Least: what they answer. Conditions: at most 2^44 numbers.
-/
import Derived.Test.YtibjhbejjjkoaaaV
namespace Go.Proofs.Ytibjhbejjjkoaaa
open Go.ChangeShapes Go.WideShapes Go.ChangeAt Go.RowKit

theorem num_any (n : Int) (w : World) :
    Calls Try.prog 8 #[.int .i64 n] w fun e w' => e = .returned (.int .i64 n) ∧ w = w' := by
  go_enter Try.func8, Try.ntmps8
  go_wp2
  go_ret
  exact ⟨rfl, rfl⟩

theorem check_ok (A : Option Addr) (c : Nat) (zs : List Int) (hl : zs.length ≤ 17592186044416) (hs : zs.all am = true) (w : World) (hr : RdI w A zs) :
    Calls Try.prog 9 #[.slice A zs.length c] w fun e w' => e = .returned (.int .i64 0) ∧ w = w' := by
  go_enter Try.func9, Try.ntmps9
  go_wp2
  go_loop [7] (fun i => ∃ k : Nat, k ≤ zs.length ∧ i = .int .i64 k) (fun i => zs.length - (intOf i).toNat)
  case atStart => exact ⟨0, Nat.zero_le _, rfl⟩
  case round =>
    obtain ⟨k, hk, rfl⟩ := hrel
    by_cases hlt : k < zs.length
    · obtain ⟨b, off, z, rfl, hb, hc, HZ⟩ := hr.at_ hlt
      have hz := am_at hs HZ.out
      go_wp2
      go_round
      case rel => exact ⟨k + 1, by omega, by go_num⟩
      case measure => simp [intOf]; omega
    · obtain rfl : k = zs.length := by omega
      go_wp2
      go_ret
      exact ⟨rfl, rfl⟩

theorem check_bad (A : Option Addr) (c : Nat) (zs : List Int) (hl : zs.length ≤ 17592186044416) (hs : zs.all am = false) (w : World) (hr : RdI w A zs) :
    Calls Try.prog 9 #[.slice A zs.length c] w fun e w' => e = .returned (.int .i64 4) ∧ w = w' := by
  go_enter Try.func9, Try.ntmps9
  go_wp2
  go_loop [7] (fun i => ∃ k : Nat, k ≤ zs.length ∧ i = .int .i64 k ∧ (zs.drop k).all am = false) (fun i => zs.length - (intOf i).toNat)
  case atStart => exact ⟨0, Nat.zero_le _, rfl, hs⟩
  case round =>
    obtain ⟨k, hk, rfl, hd⟩ := hrel
    by_cases hlt : k < zs.length
    · obtain ⟨b, off, z, rfl, hb, hc, HZ⟩ := hr.at_ hlt
      rw [drop_at zs HZ.out, List.all_cons] at hd
      rcases ha : am z with _ | _
      · clear hd
        rcases am_not.1 ha with h1 | h1
        · go_wp2
          go_ret
          exact ⟨rfl, rfl⟩
        · have h2 : 0 ≤ z := by omega
          go_wp2
          go_ret
          exact ⟨rfl, rfl⟩
      · have hz := am_iff.1 ha
        rw [ha, Bool.true_and] at hd
        have HD := Lib.hid hd
        clear hd
        go_wp2
        go_round
        case rel => exact ⟨k + 1, by omega, by go_num, HD.out⟩
        case measure => simp [intOf]; omega
    · obtain rfl : k = zs.length := by omega
      simp at hd

theorem amounts_ok (A : Option Addr) (c : Nat) (zs : List Int) (hl : zs.length ≤ 17592186044416) (hs : zs.all am = true) (w : World) (hr : RdI w A zs) :
    Calls Try.prog 10 #[.slice A zs.length c] w fun e w' => e = .returned (.bool true) ∧ w = w' := by
  go_enter Try.func10, Try.ntmps10
  go_wp2
  go_loop [3] (fun i => ∃ k : Nat, k ≤ zs.length ∧ i = .int .i64 k) (fun i => zs.length - (intOf i).toNat)
  case atStart => exact ⟨0, Nat.zero_le _, rfl⟩
  case round =>
    obtain ⟨k, hk, rfl⟩ := hrel
    by_cases hlt : k < zs.length
    · obtain ⟨b, off, z, rfl, hb, hc, HZ⟩ := hr.at_ hlt
      have hz := am_at hs HZ.out
      go_wp2
      go_round
      case rel => exact ⟨k + 1, by omega, by go_num⟩
      case measure => simp [intOf]; omega
    · obtain rfl : k = zs.length := by omega
      go_wp2
      go_ret
      exact ⟨rfl, rfl⟩

theorem amounts_bad (A : Option Addr) (c : Nat) (zs : List Int) (hl : zs.length ≤ 17592186044416) (hs : zs.all am = false) (w : World) (hr : RdI w A zs) :
    Calls Try.prog 10 #[.slice A zs.length c] w fun e w' => e = .returned (.bool false) ∧ w = w' := by
  go_enter Try.func10, Try.ntmps10
  go_wp2
  go_loop [3] (fun i => ∃ k : Nat, k ≤ zs.length ∧ i = .int .i64 k ∧ (zs.drop k).all am = false) (fun i => zs.length - (intOf i).toNat)
  case atStart => exact ⟨0, Nat.zero_le _, rfl, hs⟩
  case round =>
    obtain ⟨k, hk, rfl, hd⟩ := hrel
    by_cases hlt : k < zs.length
    · obtain ⟨b, off, z, rfl, hb, hc, HZ⟩ := hr.at_ hlt
      rw [drop_at zs HZ.out, List.all_cons] at hd
      rcases ha : am z with _ | _
      · clear hd
        rcases am_not.1 ha with h1 | h1
        · go_wp2
          go_ret
          exact ⟨rfl, rfl⟩
        · have h2 : 0 ≤ z := by omega
          go_wp2
          go_ret
          exact ⟨rfl, rfl⟩
      · have hz := am_iff.1 ha
        rw [ha, Bool.true_and] at hd
        have HD := Lib.hid hd
        clear hd
        go_wp2
        go_round
        case rel => exact ⟨k + 1, by omega, by go_num, HD.out⟩
        case measure => simp [intOf]; omega
    · obtain rfl : k = zs.length := by omega
      simp at hd

end Go.Proofs.Ytibjhbejjjkoaaa
