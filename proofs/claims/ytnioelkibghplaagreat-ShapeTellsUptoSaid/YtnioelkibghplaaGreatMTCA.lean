/-
  Amounts: the program's isAmount and isFrom1, the reference's amount. No conditions.
-/
import Derived.Test.YtnioelkibghplaaGreatMTNP
import Derived.Test.YtnioelkibghplaaGreatMSL
namespace Go.Proofs.YtnioelkibghplaaGreat
open Go.ChangeShapes Go.WideShapes Go.ChangeAt Go.RowKit
set_option maxRecDepth 100000

theorem amt_no {m n : Int} (h : amt m n = false) : n < m ∨ m ≤ n ∧ 1099511627776 < n := by
  unfold amt at h
  by_cases h1 : m ≤ n
  · rw [decide_eq_true h1, Bool.true_and] at h
    have := of_decide_eq_false h
    omega
  · omega
theorem amt_yes {m n : Int} (h : amt m n = true) : m ≤ n ∧ n ≤ 1099511627776 := by
  unfold amt at h
  rw [Bool.and_eq_true] at h
  exact ⟨of_decide_eq_true h.1, of_decide_eq_true h.2⟩

theorem count1 (n : Int) (b : Nat) (w : World) (h0 : w.cell? ⟨b, 0, none⟩ = some (.int .i64 n)) :
    Calls Tryz.prog 147 #[.slice (some ⟨b, 0, none⟩) 1 1] w fun e w' => e = .returned (.int .i64 (if amt 0 n then 0 else 4)) ∧ w = w' := by
  rcases ha : amt 0 n with _ | _
  · rcases amt_no ha with h | ⟨h, h'⟩
    all_goals
      clear ha
      go_enter Tryz.func147, Tryz.ntmps147
      go_wp2
      go_loop [7] (fun i => i = .int .i64 0) (fun i => 1 - (intOf i).toNat)
      case atStart => rfl
      case round =>
        subst hrel
        have hlt : (0 : Int) < 1 := by omega
        go_wp2
        go_ret
        exact ⟨rfl, rfl⟩
  · obtain ⟨h1, h2⟩ := amt_yes ha
    clear ha
    go_enter Tryz.func147, Tryz.ntmps147
    go_wp2
    go_loop [7] (fun i => ∃ k : Nat, k ≤ 1 ∧ i = .int .i64 k) (fun i => 1 - (intOf i).toNat)
    case atStart => exact ⟨0, Nat.zero_le _, rfl⟩
    case round =>
      obtain ⟨k, hk, rfl⟩ := hrel
      by_cases hlt : k < 1
      · obtain rfl : k = 0 := by omega
        go_wp2
        go_round
        case rel => exact ⟨0 + 1, by omega, by go_num⟩
        case measure => simp [intOf]
      · obtain rfl : k = 1 := by omega
        go_wp2
        go_ret
        exact ⟨rfl, rfl⟩

theorem isAmount_any (n : Int) (w : World) :
    Calls Tryz.prog 96 #[.int .i64 n] w fun e w' => e = .returned (.bool (amt 0 n)) ∧ Below w.heap.size w w' := by
  obtain ⟨R, hR⟩ : ∃ R, amt 0 n = R := ⟨_, rfl⟩
  obtain ⟨w1, hw1⟩ : ∃ w1, w.alloc (.cells #[.int .i64 n] 3) = w1 := ⟨_, rfl⟩
  have hB1 : Below w.heap.size w w1 := hw1 ▸ (Below.refl _ w).alloc (Nat.le_refl _) _
  have k1 : Blk w1 w.heap.size 3 [.int .i64 n] := hw1 ▸ Blk.new w _ _
  have x0 := k1.cell 0
  simp only [List.getElem?_cons_zero] at x0
  have HC := Lib.hid (count1 n w.heap.size w1 x0)
  have HW := Lib.hid hw1
  rw [hR] at HC ⊢
  clear hw1 hR k1 x0
  go_enter Tryz.func96, Tryz.ntmps96
  go_wp2_with fail
  rw [HW.out]
  go_wp2_with fail
  refine HC.out.mono ?_
  rintro e w2 ⟨rfl, rfl⟩
  cases R
  all_goals
    go_wp2
    go_ret
    exact ⟨rfl, hB1⟩

theorem isFrom1_any (n : Int) (w : World) :
    Calls Tryz.prog 97 #[.int .i64 n] w fun e w' => e = .returned (.bool (amt 1 n)) ∧ Below w.heap.size w w' := by
  obtain ⟨R, hR⟩ : ∃ R, amt 1 n = R := ⟨_, rfl⟩
  have HR := Lib.hid hR
  rw [hR]
  clear hR
  by_cases h : 0 < n
  · have h' : amt 0 n = R := by
      rw [← HR.out, amt, amt, decide_eq_true (show 0 ≤ n by omega), decide_eq_true (show 1 ≤ n by omega)]
    have HC := Lib.hid (isAmount_any n)
    rw [h'] at HC
    clear HR h'
    go_enter Tryz.func97, Tryz.ntmps97
    go_wp2_with fail
    refine (HC.out _).mono ?_
    rintro e w2 ⟨rfl, hB⟩
    go_wp2
    go_ret
    exact ⟨rfl, hB⟩
  · obtain rfl : R = false := by
      rw [← HR.out, amt, decide_eq_false (by omega), Bool.false_and]
    clear HR
    go_enter Tryz.func97, Tryz.ntmps97
    go_wp2
    go_ret
    exact ⟨rfl, Below.refl _ _⟩

theorem amount_any (m n : Int) (w : World) :
    Calls Tryz.prog 63 #[.int .i64 n, .int .i64 m] w fun e w' => e = .returned (.bool (amt m n)) ∧ w = w' := by
  obtain ⟨R, hR⟩ : ∃ R, amt m n = R := ⟨_, rfl⟩
  have HR := Lib.hid hR
  rw [hR]
  clear hR
  by_cases h1 : m ≤ n
  · by_cases h2 : n ≤ 1099511627776
    · obtain rfl : R = true := by rw [← HR.out, amt, decide_eq_true h1, decide_eq_true h2]; rfl
      clear HR
      go_enter Tryz.func63, Tryz.ntmps63
      go_wp2
      go_ret
      exact ⟨rfl, rfl⟩
    · obtain rfl : R = false := by rw [← HR.out, amt, decide_eq_false h2, Bool.and_false]
      clear HR
      go_enter Tryz.func63, Tryz.ntmps63
      go_wp2
      go_ret
      exact ⟨rfl, rfl⟩
  · obtain rfl : R = false := by rw [← HR.out, amt, decide_eq_false h1, Bool.false_and]
    clear HR
    go_enter Tryz.func63, Tryz.ntmps63
    go_wp2
    go_ret
    exact ⟨rfl, rfl⟩

end Go.Proofs.YtnioelkibghplaaGreat
