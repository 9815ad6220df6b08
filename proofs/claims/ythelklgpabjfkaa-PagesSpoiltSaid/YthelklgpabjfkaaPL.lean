/-
  a % n of any int, made a place; one octet turned. No conditions.
-/
import Derived.Test.YthelklgpabjfkaaW
import Derived.IntWalk
import Derived.Laws.BitsAllLaws
namespace Go.Proofs.Ythelklgpabjfkaa
open Go.ChangeShapes Go.WideShapes Go.ChangeAt Go.RowKit

theorem place (a : Int) (n : Nat) (h0 : 0 < n) (h1 : (n : Int) ≤ 35184372087808) : ∃ q : Nat, q < n ∧ (wrap64 (a.tmod n + n)).tmod n = q := by
  have t1 : a.tmod n < n := Int.tmod_lt_of_pos a (by omega)
  have t2 : -(n : Int) < a.tmod n := by
    have := Int.tmod_lt_of_pos (-a) (b := n) (by omega)
    rw [Int.neg_tmod] at this
    omega
  have e : wrap64 (a.tmod n + n) = a.tmod n + n := IntWalk.wrap64_in _ (by omega)
  rw [e]
  have t3 : (a.tmod n + n).tmod n < n := Int.tmod_lt_of_pos _ (by omega)
  have t4 : 0 ≤ (a.tmod n + n).tmod n := Int.tmod_nonneg _ (by omega)
  exact ⟨((a.tmod n + n).tmod n).toNat, by omega, by omega⟩

/-- An octet that is turned is an octet, and another one. -/
theorem xor8 (z o : Int) (h0 : 0 ≤ z ∧ z ≤ 255) (h1 : 0 ≤ o ∧ o ≤ 255) (hne : o ≠ 0) : 0 ≤ bits BinOp.xor IntKind.u8 z o ∧ bits BinOp.xor IntKind.u8 z o ≤ 255 ∧ bits BinOp.xor IntKind.u8 z o ≠ z := by
  obtain ⟨a, rfl⟩ := Int.eq_ofNat_of_zero_le h0.1
  obtain ⟨b, rfl⟩ := Int.eq_ofNat_of_zero_le h1.1
  rw [u8_xor_nat a b (by omega) (by omega)]
  have hlt : a ^^^ b < 2 ^ 8 := Nat.xor_lt_two_pow (by omega) (by omega)
  refine ⟨by omega, by omega, fun h => hne ?_⟩
  have h2 : a ^^^ b = a := by omega
  have h3 : a ^^^ (a ^^^ b) = b := by rw [← Nat.xor_assoc, Nat.xor_self, Nat.zero_xor]
  rw [h2, Nat.xor_self] at h3
  omega
theorem octs_set {zs : List Int} (h : Octs zs) (k : Nat) (z : Int) (hz : 0 ≤ z ∧ z ≤ 255) : Octs (zs.set k z) := fun x hx => by
  rcases List.mem_or_eq_of_mem_set hx with hx | rfl
  · exact h x hx
  · exact hz

end Go.Proofs.Ythelklgpabjfkaa
