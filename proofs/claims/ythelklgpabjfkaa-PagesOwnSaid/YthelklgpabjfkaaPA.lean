/-
  Count of pages and of the reference; number of pages. Conditions: the number is one.
-/
import Derived.Test.YthelklgpabjfkaaPN
import Derived.Test.YthelklgpabjfkaaGC
import Derived.Test.YthelklgpabjfkaaGD
import Derived.Test.YthelklgpabjfkaaGS
namespace Go.Proofs.Ythelklgpabjfkaa
open Go.ChangeShapes Go.WideShapes Go.ChangeAt Go.RowKit

/-- How many pages a number of octets needs. -/
def cntI (n : Int) : Int := if n ≤ 0 then 0 else (n - 1) / 52 + 1
theorem cntI_nat (n : Nat) : cntI n = (cntN n : Nat) := by
  unfold cntI cntN
  split <;> omega

set_option maxHeartbeats 400000 in
theorem count_any (n : Int) (hn : n ≤ 9223372036854775807) (w : World) :
    Calls Try.prog 11 #[.int .i64 n] w fun e w' => e = .returned (.int .i64 (cntI n)) ∧ w = w' := by
  by_cases h : n ≤ 0
  · have hr : cntI n = 0 := by unfold cntI; rw [if_pos h]
    rw [hr]
    clear hr
    go_enter Try.func11, Try.ntmps11
    go_wp2
    go_ret
    exact ⟨rfl, rfl⟩
  · have hr : cntI n = (n - 1) / 52 + 1 := by unfold cntI; rw [if_neg h]
    rw [hr]
    clear hr
    have h1 : wrap64 (n - 1) = n - 1 := IntWalk.wrap64_in _ (by omega)
    have h2 : (n - 1).tdiv 52 = (n - 1) / 52 := Int.tdiv_eq_ediv_of_nonneg (by omega)
    have h3 : wrap64 ((n - 1) / 52) = (n - 1) / 52 := IntWalk.wrap64_in _ (by omega)
    have h4 : wrap64 ((n - 1) / 52 + 1) = (n - 1) / 52 + 1 := IntWalk.wrap64_in _ (by omega)
    go_enter Try.func11, Try.ntmps11
    go_wp2
    go_ret
    refine ⟨?_, rfl⟩
    first | rfl | (simp only [h1, h2, h3, h4])

set_option maxHeartbeats 400000 in
theorem refCount_any (n : Int) (hn : n ≤ 9223372036854775807) (w : World) :
    Calls Try.prog 12 #[.int .i64 n] w fun e w' => e = .returned (.int .i64 (cntI n)) ∧ w = w' := by
  by_cases h : n ≤ 0
  · have hr : cntI n = 0 := by unfold cntI; rw [if_pos h]
    rw [hr]
    clear hr
    go_enter Try.func12, Try.ntmps12
    go_wp2
    go_ret
    exact ⟨rfl, rfl⟩
  · have h2 : n.tdiv 52 = n / 52 := Int.tdiv_eq_ediv_of_nonneg (by omega)
    have h3 : wrap64 (n / 52) = n / 52 := IntWalk.wrap64_in _ (by omega)
    have h5 : n.tmod 52 = n % 52 := Int.tmod_eq_emod_of_nonneg (by omega)
    have h4 : wrap64 (n / 52 + 1) = n / 52 + 1 := IntWalk.wrap64_in _ (by omega)
    by_cases h6 : 0 < n % 52
    · have hr : cntI n = n / 52 + 1 := by unfold cntI; rw [if_neg h]; omega
      rw [hr]
      clear hr
      go_enter Try.func12, Try.ntmps12
      go_wp2
      go_ret
      refine ⟨?_, rfl⟩
      first | rfl | (simp only [h2, h3, h4])
    · have hr : cntI n = n / 52 := by unfold cntI; rw [if_neg h]; omega
      rw [hr]
      clear hr
      go_enter Try.func12, Try.ntmps12
      go_wp2
      go_ret
      refine ⟨?_, rfl⟩
      first | rfl | (simp only [h2, h3, h4])

set_option maxHeartbeats 400000 in
theorem number2_any (A : Option Addr) (n c : Nat) (zs : List Int) (hn : zs.length = n) (h1 : 1 ≤ n) (h8 : n ≤ 4) (ho : Octs zs) (w : World) (hr : RdB w A zs) :
    Calls Try.prog 24 #[.slice A n c] w fun e w' => e = .returned (.int .i64 (val zs)) ∧ w = w' := by
  subst hn
  have hv : (numO zs).1 = val zs := numO_four ho (by omega)
  obtain ⟨r, hr'⟩ : ∃ r, numO zs = r := ⟨_, rfl⟩
  have hc : Calls Try.prog 33 #[.slice A zs.length c] w fun e w' => e = .returned (ansN r.1 r.2) ∧ w = w' := by
    rw [← hr']
    by_cases hv : val zs ≤ 4611686018427387903
    · have : numO zs = (val zs, 0) := by unfold numO; rw [if_neg (by omega)]
      rw [this]
      exact number_ok A c zs h1 (by omega) ho w hr hv
    · have : numO zs = (0, 4) := by unfold numO; rw [if_pos (by omega)]
      rw [this]
      exact number_big A c zs h1 (by omega) ho w hr (by omega)
  rw [hr'] at hv
  rw [← hv]
  obtain ⟨a, b⟩ := r
  have HC := Lib.hid hc
  clear hc hr' hr ho hv
  go_enter Try.func24, Try.ntmps24
  go_wp2_with (refine HC.out.mono ?_; rintro e w1 ⟨rfl, rfl⟩; unfold ansN)
  go_ret
  exact ⟨rfl, rfl⟩

end Go.Proofs.Ythelklgpabjfkaa
