/-
  A sum's octets: plain words. No conditions.
-/
import Derived.Test.YthelklgpabjfkaaFD
import Derived.Test.YthelklgpabjfkaaI
import Derived.Deep.RegionHeld3
namespace Go.Proofs.Ythelklgpabjfkaa
open Go.ChangeShapes Go.WideShapes Go.ChangeAt Go.RowKit

theorem put_wrap (n : Int) (h0 : 0 ≤ n) (h1 : n < 18446744073709551616) : put (wrap64 n) 8 = put n 8 := by
  have hw : wrap64 n = n ∨ wrap64 n = n - 18446744073709551616 := by
    unfold wrap64
    omega
  rcases hw with hw | hw
  · rw [hw]
  · rw [hw]
    simp only [put, List.range, List.range.loop, List.map_cons, List.map_nil]
    simp only [List.cons.injEq, and_true]
    refine ⟨?_, ?_, ?_, ?_, ?_, ?_, ?_, ?_⟩ <;> omega

/-- A sum's octets. -/
def sumOcts (s : S4) : List Int := put s.A 8 ++ (put s.B 8 ++ (put s.C 8 ++ put s.D 8))
theorem sumOcts_length (s : S4) : (sumOcts s).length = 32 := by simp [sumOcts, put_length]
theorem sumOcts_octs (s : S4) : Octs (sumOcts s) := (put_octs _ _).append ((put_octs _ _).append ((put_octs _ _).append (put_octs _ _)))

end Go.Proofs.Ythelklgpabjfkaa
