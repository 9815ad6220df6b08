/-
  Number reads 1 to 8 octets as the number that they make, or tells ErrRange where it is above 2^62 - 1. Conditions: 1 to 8 octets.
-/
import Derived.Test.YtedhahonanfnaaaW
import Derived.LoopTactic
import Derived.Lib.Hide
import Derived.IntWalk
import Derived.Laws.BitsAllLaws
namespace Go.Proofs.Ytedhahonanfnaaa
open Go.ChangeShapes Go.WideShapes Go.ChangeAt Go.RowKit
set_option maxRecDepth 100000

/-- A number, and an error. -/
def ansN (n e : Int) : Value := .tuple #[.int .i64 n, .int .i64 e]

/-- The number that octets make. -/
def val (zs : List Int) : Int := zs.foldl (fun a z => a * 256 + z) 0

theorem val_snoc (zs : List Int) (z : Int) : val (zs ++ [z]) = val zs * 256 + z := by simp [val]
theorem take_snoc' (zs : List Int) (k : Nat) (h : k < zs.length) : zs.take (k + 1) = zs.take k ++ [zs[k]?.getD 0] := by
  rw [List.take_succ_eq_append_getElem h, List.getElem?_eq_getElem h]
  rfl
theorem val_bound_aux : ∀ (zs : List Int) (a : Int) (m : Nat), Octs zs → 0 ≤ a → a < m → 0 ≤ zs.foldl (fun a z => a * 256 + z) a ∧ zs.foldl (fun a z => a * 256 + z) a < (m * 256 ^ zs.length : Nat)
  | [], a, m, _, h0, h1 => by simpa using ⟨h0, h1⟩
  | z :: zs, a, m, h, h0, h1 => by
    have hz := h z (by simp)
    have := val_bound_aux zs (a * 256 + z) (m * 256) (fun x hx => h x (by simp [hx])) (by omega) (by omega)
    simp only [List.foldl_cons, List.length_cons]
    rw [show m * 256 ^ (zs.length + 1) = m * 256 * 256 ^ zs.length by rw [Nat.pow_succ, Nat.mul_comm (256 ^ zs.length) 256, Nat.mul_assoc]]
    exact this
theorem val_bound (zs : List Int) (h : Octs zs) : 0 ≤ val zs ∧ val zs < (256 ^ zs.length : Nat) := by
  have := val_bound_aux zs 0 1 h (by omega) (by omega)
  simpa [val] using this

theorem or_low (a b i m : Nat) (hm : m = 2 ^ i) (h : a < m) : b * m ||| a = b * m + a := by
  subst hm
  rw [← Nat.shiftLeft_eq, Nat.shiftLeft_add_eq_or_of_lt h]

theorem wrap_u64_in (n : Int) (h0 : 0 ≤ n) (h1 : n < 18446744073709551616) : IntKind.u64.wrap n = n := by
  simp only [IntKind.wrap, IntKind.signed, IntKind.bits]
  simp
  omega

theorem or_u64 (a z : Int) (a0 : 0 ≤ a) (a1 : a < 72057594037927936) (z0 : 0 ≤ z) (z1 : z ≤ 255) :
    bits BinOp.or IntKind.u64 (IntKind.u64.wrap (a * 256)) (IntKind.u64.wrap z) = a * 256 + z := by
  rw [wrap_u64_in (a * 256) (by omega) (by omega), wrap_u64_in z (by omega) (by omega)]
  obtain ⟨n, rfl⟩ := Int.eq_ofNat_of_zero_le a0
  obtain ⟨m, rfl⟩ := Int.eq_ofNat_of_zero_le z0
  rw [show ((n : Int) * 256) = ((n * 256 : Nat) : Int) by omega, u64_or_nat (n * 256) m (by omega) (by omega), or_low m n 8 256 (by decide) (by omega)]
  omega

theorem val_take (zs : List Int) (h8 : zs.length ≤ 8) (ho : Octs zs) (k : Nat) (hk : k < zs.length) : 0 ≤ val (zs.take k) ∧ val (zs.take k) < 72057594037927936 := by
  have h := val_bound (zs.take k) (fun z hz => ho z (List.mem_of_mem_take hz))
  have hl : (zs.take k).length = k := by simp; omega
  rw [hl] at h
  refine ⟨h.1, ?_⟩
  have : (256 : Nat) ^ k ≤ 256 ^ 7 := Nat.pow_le_pow_right (by omega) (by omega)
  have h7 : (256 : Nat) ^ 7 = 72057594037927936 := by decide
  omega

theorem val_all (zs : List Int) (h8 : zs.length ≤ 8) (ho : Octs zs) : 0 ≤ val zs ∧ val zs < 18446744073709551616 := by
  have h := val_bound zs ho
  refine ⟨h.1, ?_⟩
  have : (256 : Nat) ^ zs.length ≤ 256 ^ 8 := Nat.pow_le_pow_right (by omega) (by omega)
  have h7 : (256 : Nat) ^ 8 = 18446744073709551616 := by decide
  omega

theorem val_step (zs : List Int) (h8 : zs.length ≤ 8) (ho : Octs zs) (k : Nat) (hk : k < zs.length) :
    bits BinOp.or IntKind.u64 (IntKind.u64.wrap (val (zs.take k) * 256)) (IntKind.u64.wrap zs[k]) = val (zs.take (k + 1)) := by
  have hv := val_take zs h8 ho k hk
  have hz := ho zs[k] (List.getElem_mem hk)
  rw [or_u64 _ _ hv.1 hv.2 hz.1 hz.2, List.take_succ_eq_append_getElem hk, val_snoc]

set_option maxHeartbeats 400000 in
theorem number_ok (A : Option Addr) (c : Nat) (zs : List Int) (h1 : 1 ≤ zs.length) (h8 : zs.length ≤ 8) (ho : Octs zs) (w : World) (hr : RdB w A zs) (hv : val zs ≤ 4611686018427387903) :
    Calls Try.prog 9 #[.slice A zs.length c] w fun e w' => e = .returned (.tuple #[.int .i64 (val zs), .int .i64 0]) ∧ w = w' := by
  have hv0 := (val_all zs h8 ho).1
  have g0 : ((zs.length : Int) == 0) = false := beq_eq_false_iff_ne.2 (by omega)
  have g8 : decide (8 < (zs.length : Int)) = false := by simp; omega
  go_enter Try.func9, Try.ntmps9
  go_wp2
  go_loop [4, 15] (fun t i => ∃ k : Nat, k ≤ zs.length ∧ i = .int .i64 k ∧ t = .int .u64 (val (zs.take k))) (fun _ i => zs.length - (intOf i).toNat)
  case atStart => exact ⟨0, Nat.zero_le _, rfl, rfl⟩
  case round =>
    obtain ⟨k, hk, rfl, rfl⟩ := hrel
    by_cases hlt : k < zs.length
    · obtain ⟨b, off, rfl, hb, hc⟩ := hr.cell hlt
      have hz := ho.at_ k
      go_wp2
      go_round
      case rel => exact ⟨k + 1, by omega, by go_num, by rw [val_step zs h8 ho k hlt]⟩
      case measure => simp [intOf]; omega
    · obtain rfl : k = zs.length := by omega
      rw [List.take_length]
      go_wp2
      go_ret2
      exact ⟨rfl, rfl⟩

set_option maxHeartbeats 400000 in
theorem number_big (A : Option Addr) (c : Nat) (zs : List Int) (h1 : 1 ≤ zs.length) (h8 : zs.length ≤ 8) (ho : Octs zs) (w : World) (hr : RdB w A zs) (hv : 4611686018427387903 < val zs) :
    Calls Try.prog 9 #[.slice A zs.length c] w fun e w' => e = .returned (.tuple #[.int .i64 0, .int .i64 4]) ∧ w = w' := by
  have g0 : ((zs.length : Int) == 0) = false := beq_eq_false_iff_ne.2 (by omega)
  have g8 : decide (8 < (zs.length : Int)) = false := by simp; omega
  go_enter Try.func9, Try.ntmps9
  go_wp2
  go_loop [4, 15] (fun t i => ∃ k : Nat, k ≤ zs.length ∧ i = .int .i64 k ∧ t = .int .u64 (val (zs.take k))) (fun _ i => zs.length - (intOf i).toNat)
  case atStart => exact ⟨0, Nat.zero_le _, rfl, rfl⟩
  case round =>
    obtain ⟨k, hk, rfl, rfl⟩ := hrel
    by_cases hlt : k < zs.length
    · obtain ⟨b, off, rfl, hb, hc⟩ := hr.cell hlt
      have hz := ho.at_ k
      go_wp2
      go_round
      case rel => exact ⟨k + 1, by omega, by go_num, by rw [val_step zs h8 ho k hlt]⟩
      case measure => simp [intOf]; omega
    · obtain rfl : k = zs.length := by omega
      rw [List.take_length]
      go_wp2
      go_ret2
      exact ⟨rfl, rfl⟩

end Go.Proofs.Ytedhahonanfnaaa
