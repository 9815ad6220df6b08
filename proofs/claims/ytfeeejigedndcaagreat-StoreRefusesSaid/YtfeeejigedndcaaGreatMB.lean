/-
  Put writes a number's octets, the highest first. Conditions: from 0 to 8 octets are asked for.
-/
import Derived.Test.YtfeeejigedndcaaGreatMW
import Derived.LoopTactic
import Derived.Lib.Hide
import Derived.IntWalk
import Derived.Laws.BitsAllLaws
namespace Go.Proofs.YtfeeejigedndcaaGreat
open Go.ChangeShapes Go.WideShapes Go.ChangeAt Go.RowKit
set_option maxRecDepth 100000

theorem info5 : (Tryz.prog.info? 5).map (fun i => (i.zero, i.size, i.bytes)) = some (some (.int .u8 0), 1, 1) := by kernel_rfl

/-- How many octets are asked for. -/
def clamp (s : Int) : Nat := (min (max s 0) 8).toNat
/-- The octets of n, s of them. -/
def put (n : Int) (s : Nat) : List Int := (List.range s).map fun i => n / (256 ^ (s - 1 - i) : Nat) % 256
theorem put_length (n : Int) (s : Nat) : (put n s).length = s := by simp [put]
theorem put_octs (n : Int) (s : Nat) : Octs (put n s) := by
  intro z hz
  simp only [put, List.mem_map] at hz
  obtain ⟨i, _, rfl⟩ := hz
  omega


/-- The row behind k rounds. -/
def putRow (n : Int) (s k : Nat) : List Value := (List.range s).map fun j => .int .u8 (if s ≤ j + k then n / (256 ^ (s - 1 - j) : Nat) % 256 else 0)
/-- What is left behind k rounds. -/
def putRest (n : Int) (k : Nat) : Int := n % 18446744073709551616 / (256 ^ k : Nat)

theorem putRow_get (n : Int) (s k j : Nat) (hj : j < s) : (putRow n s k)[j]? = some (.int .u8 (if s ≤ j + k then n / (256 ^ (s - 1 - j) : Nat) % 256 else 0)) := by
  simp [putRow, List.getElem?_map, List.getElem?_range hj]

theorem putRow_zero (n : Int) (s : Nat) : putRow n s 0 = List.replicate s (.int .u8 0) := by
  apply List.ext_getElem?
  intro j
  by_cases hj : j < s
  · rw [putRow_get n s 0 j hj, List.getElem?_replicate, if_pos hj, if_neg (by omega)]
  · rw [List.getElem?_eq_none (by simp [putRow]; omega), List.getElem?_eq_none (by simp; omega)]

theorem putRow_all (n : Int) (s : Nat) : putRow n s s = (put n s).map (Value.int .u8) := by
  simp [putRow, put]

theorem putRest_byte (n : Int) (k : Nat) (hk : k < 8) : putRest n k % 256 = n / (256 ^ k : Nat) % 256 := by
  have h : k = 0 ∨ k = 1 ∨ k = 2 ∨ k = 3 ∨ k = 4 ∨ k = 5 ∨ k = 6 ∨ k = 7 := by omega
  rcases h with rfl | rfl | rfl | rfl | rfl | rfl | rfl | rfl <;> simp only [putRest] <;> omega

theorem putRest_succ (n : Int) (k : Nat) : putRest n k / 256 = putRest n (k + 1) := by
  unfold putRest
  rw [Int.ediv_ediv_of_nonneg (Int.natCast_nonneg _)]
  congr 1

theorem putRow_step (n : Int) (s k : Nat) (hk : k < s) (hs : s ≤ 8) : (putRow n s k).set (s - 1 - k) (.int .u8 (putRest n k % 256)) = putRow n s (k + 1) := by
  rw [putRest_byte n k (by omega)]
  apply List.ext_getElem?
  intro j
  by_cases hj : j < s
  · rw [List.getElem?_set, putRow_get n s (k + 1) j hj]
    by_cases e : s - 1 - k = j
    · rw [if_pos e, if_pos (by simp [putRow]; omega), if_pos (by omega)]
      subst e
      rw [show s - 1 - (s - 1 - k) = k by omega]
    · rw [if_neg e, putRow_get n s k j hj]
      by_cases e2 : s ≤ j + k
      · rw [if_pos e2, if_pos (by omega)]
      · rw [if_neg e2, if_neg (by omega)]
  · rw [List.getElem?_eq_none (by simp [putRow]; omega), List.getElem?_eq_none (by simp [putRow]; omega)]

theorem putRest_zero (n : Int) : IntKind.u64.wrap n = putRest n 0 := by
  simp only [putRest, IntKind.wrap, IntKind.signed, IntKind.bits]
  simp

set_option maxHeartbeats 400000 in
theorem put_any (n : Int) (s : Nat) (hs : s ≤ 8) (w : World) :
    Calls Tryz.prog 104 #[.int .i64 n, .int .i64 s] w fun e w' => ∃ A c, e = .returned (.slice A s c) ∧ RdB w' A (put n s) ∧ s ≤ c ∧ Below w.heap.size w w' := by
  obtain ⟨i0, hi, hz0, hz1, hz2⟩ := info_parts info5
  go_enter Tryz.func104, Tryz.ntmps104
  go_wp2_with (at_make; refine wpList_make_full _ rfl _ _ 46 rfl w.heap.size 5 i0 (.int .u8 0) 1 Tryz.underlying46 hi hz0 hz1 .i64 .i64 _ _ s rfl rfl (by omega) (by omega) (by rw [hz2]; omega) (by unfold maxLen; omega) (Nat.le_refl _) ?_; intro w0 hown0 hgrow0)
  go_loopw [6, 7] (fun r i wr => ∃ k : Nat, k ≤ s ∧ i = .int .i64 (s - 1 - k) ∧ r = .int .u64 (putRest n k) ∧ wr.ownsRow w.heap.size 5 1 (.slice (some ⟨w.heap.size, 0, none⟩) s s) s (putRow n s k) ∧ Below w.heap.size w wr) (fun _ i _ => (intOf i + 1).toNat)
  case atStart =>
    refine ⟨0, Nat.zero_le _, by simp, by rw [putRest_zero n], ?_, (Below.refl _ w).grown hgrow0 (Nat.le_refl _) (fun _ h => by cases h)⟩
    rw [putRow_zero]
    simpa [Value.cells, toList_madeCells_one] using hown0
  case round =>
    obtain ⟨k, hk, rfl, rfl, hown, hB⟩ := hrel
    by_cases hlt : k < s
    · have hc := hown.cellAt (s - 1 - k) (by omega)
      rw [putRow_get n s k _ (by omega)] at hc
      have hf := hown.frozenAt (s - 1 - k)
      obtain ⟨hown1, hgrow1⟩ := hown.stored (s - 1 - k) (.int .u8 (putRest n k % 256))
      rw [putRow_step n s k hlt hs] at hown1
      go_wp2
      go_roundw
      case rel => exact ⟨k + 1, by omega, by go_num, by rw [putRest_succ], hown1, hB.setCell (p := ⟨w.heap.size, s - 1 - k, none⟩) (Nat.le_refl _) _⟩
      case measure => simp [intOf]; omega
    · obtain rfl : k = s := by omega
      go_wp2
      go_ret
      refine ⟨_, _, rfl, ?_, Nat.le_refl _, hB⟩
      rw [putRow_all] at hown
      exact Rd.of_own hown

end Go.Proofs.YtfeeejigedndcaaGreat

namespace Go.Proofs.YtfeeejigedndcaaGreat
open Go.ChangeShapes Go.WideShapes Go.ChangeAt Go.RowKit
set_option maxRecDepth 100000

/-- A number, and an error. -/
def ansN (n e : Int) : Value := .tuple #[.int .i64 n, .int .i64 e]

/-- The number that octets make. -/
def val (zs : List Int) : Int := zs.foldl (fun a z => a * 256 + z) 0

theorem val_snoc (zs : List Int) (z : Int) : val (zs ++ [z]) = val zs * 256 + z := by simp [val]
theorem take_snoc' (zs : List Int) (k : Nat) (h : k < zs.length) : zs.take (k + 1) = zs.take k ++ [zs[k]?.getD 0] := by
  rw [List.take_succ_eq_append_getElem h, List.getElem?_eq_getElem h]
  rfl
theorem val_bound_aux : ∀ (zs : List Int) (a : Int) (m : Nat), Octs zs → 0 ≤ a → a < m → 0 ≤ zs.foldl (fun a z => a * 256 + z) a ∧ zs.foldl (fun a z => a * 256 + z) a < (m * 256 ^ zs.length : Nat)
  | [], a, m, _, h0, h1 => by simpa using ⟨h0, h1⟩
  | z :: zs, a, m, h, h0, h1 => by
    have hz := h z (by simp)
    have := val_bound_aux zs (a * 256 + z) (m * 256) (fun x hx => h x (by simp [hx])) (by omega) (by omega)
    simp only [List.foldl_cons, List.length_cons]
    rw [show m * 256 ^ (zs.length + 1) = m * 256 * 256 ^ zs.length by rw [Nat.pow_succ, Nat.mul_comm (256 ^ zs.length) 256, Nat.mul_assoc]]
    exact this
theorem val_bound (zs : List Int) (h : Octs zs) : 0 ≤ val zs ∧ val zs < (256 ^ zs.length : Nat) := by
  have := val_bound_aux zs 0 1 h (by omega) (by omega)
  simpa [val] using this

theorem or_low (a b i m : Nat) (hm : m = 2 ^ i) (h : a < m) : b * m ||| a = b * m + a := by
  subst hm
  rw [← Nat.shiftLeft_eq, Nat.shiftLeft_add_eq_or_of_lt h]

theorem wrap_u64_in (n : Int) (h0 : 0 ≤ n) (h1 : n < 18446744073709551616) : IntKind.u64.wrap n = n := by
  simp only [IntKind.wrap, IntKind.signed, IntKind.bits]
  simp
  omega

theorem or_u64 (a z : Int) (a0 : 0 ≤ a) (a1 : a < 72057594037927936) (z0 : 0 ≤ z) (z1 : z ≤ 255) :
    bits BinOp.or IntKind.u64 (IntKind.u64.wrap (a * 256)) (IntKind.u64.wrap z) = a * 256 + z := by
  rw [wrap_u64_in (a * 256) (by omega) (by omega), wrap_u64_in z (by omega) (by omega)]
  obtain ⟨n, rfl⟩ := Int.eq_ofNat_of_zero_le a0
  obtain ⟨m, rfl⟩ := Int.eq_ofNat_of_zero_le z0
  rw [show ((n : Int) * 256) = ((n * 256 : Nat) : Int) by omega, u64_or_nat (n * 256) m (by omega) (by omega), or_low m n 8 256 (by decide) (by omega)]
  omega

theorem val_take (zs : List Int) (h8 : zs.length ≤ 8) (ho : Octs zs) (k : Nat) (hk : k < zs.length) : 0 ≤ val (zs.take k) ∧ val (zs.take k) < 72057594037927936 := by
  have h := val_bound (zs.take k) (fun z hz => ho z (List.mem_of_mem_take hz))
  have hl : (zs.take k).length = k := by simp; omega
  rw [hl] at h
  refine ⟨h.1, ?_⟩
  have : (256 : Nat) ^ k ≤ 256 ^ 7 := Nat.pow_le_pow_right (by omega) (by omega)
  have h7 : (256 : Nat) ^ 7 = 72057594037927936 := by decide
  omega

theorem val_all (zs : List Int) (h8 : zs.length ≤ 8) (ho : Octs zs) : 0 ≤ val zs ∧ val zs < 18446744073709551616 := by
  have h := val_bound zs ho
  refine ⟨h.1, ?_⟩
  have : (256 : Nat) ^ zs.length ≤ 256 ^ 8 := Nat.pow_le_pow_right (by omega) (by omega)
  have h7 : (256 : Nat) ^ 8 = 18446744073709551616 := by decide
  omega

theorem val_step (zs : List Int) (h8 : zs.length ≤ 8) (ho : Octs zs) (k : Nat) (hk : k < zs.length) :
    bits BinOp.or IntKind.u64 (IntKind.u64.wrap (val (zs.take k) * 256)) (IntKind.u64.wrap zs[k]) = val (zs.take (k + 1)) := by
  have hv := val_take zs h8 ho k hk
  have hz := ho zs[k] (List.getElem_mem hk)
  rw [or_u64 _ _ hv.1 hv.2 hz.1 hz.2, List.take_succ_eq_append_getElem hk, val_snoc]

set_option maxHeartbeats 400000 in
theorem number_ok (A : Option Addr) (c : Nat) (zs : List Int) (h1 : 1 ≤ zs.length) (h8 : zs.length ≤ 8) (ho : Octs zs) (w : World) (hr : RdB w A zs) (hv : val zs ≤ 4611686018427387903) :
    Calls Tryz.prog 127 #[.slice A zs.length c] w fun e w' => e = .returned (.tuple #[.int .i64 (val zs), .int .i64 0]) ∧ w = w' := by
  have hv0 := (val_all zs h8 ho).1
  have g0 : ((zs.length : Int) == 0) = false := beq_eq_false_iff_ne.2 (by omega)
  have g8 : decide (8 < (zs.length : Int)) = false := by simp; omega
  go_enter Tryz.func127, Tryz.ntmps127
  go_wp2
  go_loop [4, 15] (fun t i => ∃ k : Nat, k ≤ zs.length ∧ i = .int .i64 k ∧ t = .int .u64 (val (zs.take k))) (fun _ i => zs.length - (intOf i).toNat)
  case atStart => exact ⟨0, Nat.zero_le _, rfl, rfl⟩
  case round =>
    obtain ⟨k, hk, rfl, rfl⟩ := hrel
    by_cases hlt : k < zs.length
    · obtain ⟨b, off, rfl, hb, hc⟩ := hr.cell hlt
      have hz := ho.at_ k
      go_wp2
      go_round
      case rel => exact ⟨k + 1, by omega, by go_num, by rw [val_step zs h8 ho k hlt]⟩
      case measure => simp [intOf]; omega
    · obtain rfl : k = zs.length := by omega
      rw [List.take_length]
      go_wp2
      go_ret2
      exact ⟨rfl, rfl⟩

set_option maxHeartbeats 400000 in
theorem number_big (A : Option Addr) (c : Nat) (zs : List Int) (h1 : 1 ≤ zs.length) (h8 : zs.length ≤ 8) (ho : Octs zs) (w : World) (hr : RdB w A zs) (hv : 4611686018427387903 < val zs) :
    Calls Tryz.prog 127 #[.slice A zs.length c] w fun e w' => e = .returned (.tuple #[.int .i64 0, .int .i64 4]) ∧ w = w' := by
  have g0 : ((zs.length : Int) == 0) = false := beq_eq_false_iff_ne.2 (by omega)
  have g8 : decide (8 < (zs.length : Int)) = false := by simp; omega
  go_enter Tryz.func127, Tryz.ntmps127
  go_wp2
  go_loop [4, 15] (fun t i => ∃ k : Nat, k ≤ zs.length ∧ i = .int .i64 k ∧ t = .int .u64 (val (zs.take k))) (fun _ i => zs.length - (intOf i).toNat)
  case atStart => exact ⟨0, Nat.zero_le _, rfl, rfl⟩
  case round =>
    obtain ⟨k, hk, rfl, rfl⟩ := hrel
    by_cases hlt : k < zs.length
    · obtain ⟨b, off, rfl, hb, hc⟩ := hr.cell hlt
      have hz := ho.at_ k
      go_wp2
      go_round
      case rel => exact ⟨k + 1, by omega, by go_num, by rw [val_step zs h8 ho k hlt]⟩
      case measure => simp [intOf]; omega
    · obtain rfl : k = zs.length := by omega
      rw [List.take_length]
      go_wp2
      go_ret2
      exact ⟨rfl, rfl⟩

end Go.Proofs.YtfeeejigedndcaaGreat
