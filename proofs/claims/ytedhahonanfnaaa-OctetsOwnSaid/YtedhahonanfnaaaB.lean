/-
  Put writes a number's octets, the highest first. Conditions: from 0 to 8 octets are asked for.
-/
import Derived.Test.YtedhahonanfnaaaW
import Derived.LoopTactic
import Derived.Lib.Hide
import Derived.IntWalk
namespace Go.Proofs.Ytedhahonanfnaaa
open Go.ChangeShapes Go.WideShapes Go.ChangeAt Go.RowKit
set_option maxRecDepth 100000

theorem info5 : (Try.prog.info? 5).map (fun i => (i.zero, i.size, i.bytes)) = some (some (.int .u8 0), 1, 1) := by kernel_rfl

/-- How many octets are asked for. -/
def clamp (s : Int) : Nat := (min (max s 0) 8).toNat
/-- The octets of n, s of them. -/
def put (n : Int) (s : Nat) : List Int := (List.range s).map fun i => n / (256 ^ (s - 1 - i) : Nat) % 256
theorem put_length (n : Int) (s : Nat) : (put n s).length = s := by simp [put]
theorem put_octs (n : Int) (s : Nat) : Octs (put n s) := by
  intro z hz
  simp only [put, List.mem_map] at hz
  obtain ⟨i, _, rfl⟩ := hz
  omega


/-- The row behind k rounds. -/
def putRow (n : Int) (s k : Nat) : List Value := (List.range s).map fun j => .int .u8 (if s ≤ j + k then n / (256 ^ (s - 1 - j) : Nat) % 256 else 0)
/-- What is left behind k rounds. -/
def putRest (n : Int) (k : Nat) : Int := n % 18446744073709551616 / (256 ^ k : Nat)

theorem putRow_get (n : Int) (s k j : Nat) (hj : j < s) : (putRow n s k)[j]? = some (.int .u8 (if s ≤ j + k then n / (256 ^ (s - 1 - j) : Nat) % 256 else 0)) := by
  simp [putRow, List.getElem?_map, List.getElem?_range hj]

theorem putRow_zero (n : Int) (s : Nat) : putRow n s 0 = List.replicate s (.int .u8 0) := by
  apply List.ext_getElem?
  intro j
  by_cases hj : j < s
  · rw [putRow_get n s 0 j hj, List.getElem?_replicate, if_pos hj, if_neg (by omega)]
  · rw [List.getElem?_eq_none (by simp [putRow]; omega), List.getElem?_eq_none (by simp; omega)]

theorem putRow_all (n : Int) (s : Nat) : putRow n s s = (put n s).map (Value.int .u8) := by
  simp [putRow, put]

theorem putRest_byte (n : Int) (k : Nat) (hk : k < 8) : putRest n k % 256 = n / (256 ^ k : Nat) % 256 := by
  have h : k = 0 ∨ k = 1 ∨ k = 2 ∨ k = 3 ∨ k = 4 ∨ k = 5 ∨ k = 6 ∨ k = 7 := by omega
  rcases h with rfl | rfl | rfl | rfl | rfl | rfl | rfl | rfl <;> simp only [putRest] <;> omega

theorem putRest_succ (n : Int) (k : Nat) : putRest n k / 256 = putRest n (k + 1) := by
  unfold putRest
  rw [Int.ediv_ediv_of_nonneg (Int.natCast_nonneg _)]
  congr 1

theorem putRow_step (n : Int) (s k : Nat) (hk : k < s) (hs : s ≤ 8) : (putRow n s k).set (s - 1 - k) (.int .u8 (putRest n k % 256)) = putRow n s (k + 1) := by
  rw [putRest_byte n k (by omega)]
  apply List.ext_getElem?
  intro j
  by_cases hj : j < s
  · rw [List.getElem?_set, putRow_get n s (k + 1) j hj]
    by_cases e : s - 1 - k = j
    · rw [if_pos e, if_pos (by simp [putRow]; omega), if_pos (by omega)]
      subst e
      rw [show s - 1 - (s - 1 - k) = k by omega]
    · rw [if_neg e, putRow_get n s k j hj]
      by_cases e2 : s ≤ j + k
      · rw [if_pos e2, if_pos (by omega)]
      · rw [if_neg e2, if_neg (by omega)]
  · rw [List.getElem?_eq_none (by simp [putRow]; omega), List.getElem?_eq_none (by simp [putRow]; omega)]

theorem putRest_zero (n : Int) : IntKind.u64.wrap n = putRest n 0 := by
  simp only [putRest, IntKind.wrap, IntKind.signed, IntKind.bits]
  simp

set_option maxHeartbeats 400000 in
theorem put_any (n : Int) (s : Nat) (hs : s ≤ 8) (w : World) :
    Calls Try.prog 10 #[.int .i64 n, .int .i64 s] w fun e w' => ∃ A c, e = .returned (.slice A s c) ∧ RdB w' A (put n s) ∧ s ≤ c ∧ Below w.heap.size w w' := by
  obtain ⟨i0, hi, hz0, hz1, hz2⟩ := info_parts info5
  go_enter Try.func10, Try.ntmps10
  go_wp2_with (at_make; refine wpList_make_full _ rfl _ _ 22 rfl w.heap.size 5 i0 (.int .u8 0) 1 Try.underlying22 hi hz0 hz1 .i64 .i64 _ _ s rfl rfl (by omega) (by omega) (by rw [hz2]; omega) (by unfold maxLen; omega) (Nat.le_refl _) ?_; intro w0 hown0 hgrow0)
  go_loopw [6, 7] (fun r i wr => ∃ k : Nat, k ≤ s ∧ i = .int .i64 (s - 1 - k) ∧ r = .int .u64 (putRest n k) ∧ wr.ownsRow w.heap.size 5 1 (.slice (some ⟨w.heap.size, 0, none⟩) s s) s (putRow n s k) ∧ Below w.heap.size w wr) (fun _ i _ => (intOf i + 1).toNat)
  case atStart =>
    refine ⟨0, Nat.zero_le _, by simp, by rw [putRest_zero n], ?_, (Below.refl _ w).grown hgrow0 (Nat.le_refl _) (fun _ h => by cases h)⟩
    rw [putRow_zero]
    simpa [Value.cells, toList_madeCells_one] using hown0
  case round =>
    obtain ⟨k, hk, rfl, rfl, hown, hB⟩ := hrel
    by_cases hlt : k < s
    · have hc := hown.cellAt (s - 1 - k) (by omega)
      rw [putRow_get n s k _ (by omega)] at hc
      have hf := hown.frozenAt (s - 1 - k)
      obtain ⟨hown1, hgrow1⟩ := hown.stored (s - 1 - k) (.int .u8 (putRest n k % 256))
      rw [putRow_step n s k hlt hs] at hown1
      go_wp2
      go_roundw
      case rel => exact ⟨k + 1, by omega, by go_num, by rw [putRest_succ], hown1, hB.setCell (p := ⟨w.heap.size, s - 1 - k, none⟩) (Nat.le_refl _) _⟩
      case measure => simp [intOf]; omega
    · obtain rfl : k = s := by omega
      go_wp2
      go_ret
      refine ⟨_, _, rfl, ?_, Nat.le_refl _, hB⟩
      rw [putRow_all] at hown
      exact Rd.of_own hown

end Go.Proofs.Ytedhahonanfnaaa
