/-
  FieldsNumbers returns true. Conditions: the number is an int.
-/
import Derived.Test.YtlondbfileohgaaTD
namespace Go.Proofs.Ytlondbfileohgaa
open Go.ChangeShapes Go.WideShapes Go.ChangeAt Go.RowKit

theorem numbers1 (n : Int) (w : World) (t : TypeId) :
    Calls Try.prog 11 #[.slice (some ⟨w.heap.size, 0, none⟩) 1 1] (w.alloc (.cells #[.int .i64 n] t)) fun e w' => ∃ b off d, e = .returned (.slice (some ⟨b, off, none⟩) 1 d) ∧ w'.cell? ⟨b, off, none⟩ = some (.string (numT n)) ∧ Below w.heap.size w w' := by
  refine (numbers_any (some ⟨w.heap.size, 0, none⟩) 1 [n] (by simp) (w.alloc (.cells #[.int .i64 n] t)) (rd_lit w t [n])).mono ?_
  rintro e w' ⟨v, rfl, hown, hB⟩
  obtain ⟨A, d, rfl, _, hr⟩ := own_slice hown
  obtain ⟨b, off, rfl, _, hc⟩ := hr (by simp)
  exact ⟨b, off, d, rfl, hc 0 _ rfl, ((Below.refl _ w).alloc (Nat.le_refl _) _).trans (hB.mono (by simp))⟩

set_option maxHeartbeats 1000000 in
theorem numbers_walk (n : Int) (h0 : -9223372036854775808 ≤ n) (h1 : n ≤ 9223372036854775807) (w : World) :
    Calls Try.prog 6 #[.int .i64 n] w fun e w' => e = .returned (.bool true) ∧ Below w.heap.size w w' := by
  have hb := numT_back n h0 h1
  have HN := Lib.hid (numbers1 n)
  have hnum := fun w => number_any (numT n) (by rw [numT_size]; omega) w
  have HA := Lib.hid alive_any
  by_cases hin : 0 ≤ n ∧ n ≤ 4611686018427387903
  · rw [hb.1 hin] at hnum
    have HM := Lib.hid hnum
    obtain ⟨h2, h3⟩ := hin
    clear hnum hb
    generalize numT n = s at *
    go_enter Try.func6, Try.ntmps6
    go_wp2_with fail
    refine (HA.out _).mono ?_
    rintro e w1 ⟨rfl, hB1⟩
    go_wp2_with fail
    refine (HN.out _ _).mono ?_
    rintro e w2 ⟨b, off, d, rfl, hc, hB2⟩
    have hB02 : Below w.heap.size w w2 := hB1.trans (hB2.mono hB1.size)
    clear hB1 hB2
    go_wp2_with fail
    refine (HM.out _).mono ?_
    rintro e w3 ⟨rfl, hB3⟩
    have hB03 : Below w.heap.size w w3 := hB02.trans (hB3.mono hB02.size)
    clear hB02 hB3 hc
    unfold ansN
    dsimp only
    go_wp2_with (refine (num_any _ _).mono ?_; rintro e w' ⟨rfl, rfl⟩)
    go_ret
    exact ⟨rfl, hB03⟩
  · rw [hb.2 hin] at hnum
    have HM := Lib.hid hnum
    clear hnum hb
    generalize numT n = s at *
    have hneg : n < 0 ∨ (0 ≤ n ∧ 4611686018427387903 < n) := by omega
    go_enter Try.func6, Try.ntmps6
    go_wp2_with fail
    refine (HA.out _).mono ?_
    rintro e w1 ⟨rfl, hB1⟩
    go_wp2_with fail
    refine (HN.out _ _).mono ?_
    rintro e w2 ⟨b, off, d, rfl, hc, hB2⟩
    have hB02 : Below w.heap.size w w2 := hB1.trans (hB2.mono hB1.size)
    clear hB1 hB2
    go_wp2_with fail
    refine (HM.out _).mono ?_
    rintro e w3 ⟨rfl, hB3⟩
    have hB03 : Below w.heap.size w w3 := hB02.trans (hB3.mono hB02.size)
    clear hB02 hB3 hc
    unfold ansN
    dsimp only
    rcases hneg with hneg | ⟨hp, hneg⟩
    · go_wp2_with (refine (num_any _ _).mono ?_; rintro e w' ⟨rfl, rfl⟩)
      go_ret
      exact ⟨rfl, hB03⟩
    · go_wp2_with (refine (num_any _ _).mono ?_; rintro e w' ⟨rfl, rfl⟩)
      go_ret
      exact ⟨rfl, hB03⟩

end Go.Proofs.Ytlondbfileohgaa
