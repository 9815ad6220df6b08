/-
  FletchOne returns true where there is no word, or nothing to turn, too. Conditions: at most 2^47 - 4096 octets.
-/
import Derived.Test.YthchpjfnbcjjbaaFO
namespace Go.Proofs.Ythchpjfnbcjjbaa
open Go.ChangeShapes Go.WideShapes Go.ChangeAt Go.RowKit

set_option maxHeartbeats 400000 in
theorem one_short (s : S4) (A : Option Addr) (ca k : Nat) (hk : k < 4) (at_ y : Int) (w : World) :
    Calls Try.prog 6 #[s.val, .slice A k ca, .int .i64 at_, .int .u32 y] w fun e w' => e = .returned (.bool true) ∧ Below w.heap.size w w' := by
  have hn : (k : Int) / 4 = 0 := by omega
  go_enter Try.func6, Try.ntmps6
  go_wp2_with fail
  refine (alive_any _).mono ?_
  rintro e w1 ⟨rfl, hB1⟩
  have hB0 : Below w.heap.size w w1 := ((Below.refl _ w).alloc (Nat.le_refl _) _).trans (hB1.mono (by simp))
  go_wp2
  go_ret
  exact ⟨rfl, hB0⟩

set_option maxHeartbeats 400000 in
theorem one_zero (s : S4) (A : Option Addr) (ca k : Nat) (hk : 4 ≤ k) (hl : k ≤ 140737488351232) (at_ : Int) (w : World) :
    Calls Try.prog 6 #[s.val, .slice A k ca, .int .i64 at_, .int .u32 0] w fun e w' => e = .returned (.bool true) ∧ Below w.heap.size w w' := by
  have hn : ((k : Int) / 4 == 0) = false := beq_eq_false_iff_ne.2 (by omega)
  go_enter Try.func6, Try.ntmps6
  go_wp2_with fail
  refine (alive_any _).mono ?_
  rintro e w1 ⟨rfl, hB1⟩
  have hB0 : Below w.heap.size w w1 := ((Below.refl _ w).alloc (Nat.le_refl _) _).trans (hB1.mono (by simp))
  go_wp2
  go_ret
  exact ⟨rfl, hB0⟩

theorem one_any (s : S4) (A : Option Addr) (ca : Nat) (za : List Int) (oa : Octs za) (la : za.length ≤ 140737488351232) (pa : za.length ≤ ca) (na : A = none → ca = 0) (at_ y : Int) (h0 : 0 ≤ y) (h1 : y ≤ 4294967295) (w : World) (ra : RdB w A za) :
    Calls Try.prog 6 #[s.val, .slice A za.length ca, .int .i64 at_, .int .u32 y] w fun e w' => e = .returned (.bool true) ∧ Below w.heap.size w w' := by
  by_cases h4 : za.length < 4
  · exact one_short s A ca za.length h4 at_ y w
  · by_cases hy : y = 0
    · subst hy
      exact one_zero s A ca za.length (by omega) la at_ w
    · exact one_walk s A ca za oa la pa na at_ y (by omega) h1 (by omega) w ra

end Go.Proofs.Ythchpjfnbcjjbaa
