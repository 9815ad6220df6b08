/-
  num hands its number on; digitValue tells what a small hexadecimal digit stands for. Conditions: of digitValue, that the octet is a digit.
-/
import Derived.Test.YtedhahonanfnaaaRows
import Derived.WalkKit
import Derived.ProofKit
import Derived.OpenShut
namespace Go.Proofs.Ytedhahonanfnaaa
open Go.ChangeShapes Go.WideShapes Go.ChangeAt Go.RowKit
set_option maxRecDepth 100000

theorem num_any (n : Int) (w : World) :
    Calls Try.prog 8 #[.int .i64 n] w fun e w' => e = .returned (.int .i64 n) ∧ w = w' := by
  go_enter Try.func8, Try.ntmps8
  go_wp2
  go_ret
  exact ⟨rfl, rfl⟩

/-- What a digit stands for. -/
def dval (c : Int) : Int := if 48 ≤ c ∧ c ≤ 57 then c - 48 else if 97 ≤ c ∧ c ≤ 102 then c - 87 else 0
/-- Is it one? -/
def dok (c : Int) : Bool := decide (48 ≤ c ∧ c ≤ 57 ∨ 97 ≤ c ∧ c ≤ 102)

theorem digit_ok (c : Int) (h : 48 ≤ c ∧ c ≤ 57 ∨ 97 ≤ c ∧ c ≤ 102) (w : World) :
    Calls Try.prog 15 #[.int .u8 c] w fun e w' => e = .returned (.tuple #[.int .u8 (dval c), .bool true]) ∧ w = w' := by
  rcases h with ⟨a1, a2⟩ | ⟨a1, a2⟩
  · have hv : dval c = c - 48 := by unfold dval; rw [if_pos ⟨a1, a2⟩]
    rw [hv]
    clear hv
    go_enter Try.func15, Try.ntmps15
    go_wp2
    go_ret2
    exact ⟨rfl, rfl⟩
  · have hv : dval c = c - 97 + 10 := by unfold dval; rw [if_neg (by omega), if_pos ⟨a1, a2⟩]; omega
    rw [hv]
    clear hv
    have b1 : 48 ≤ c := by omega
    have b2 : 57 < c := by omega
    go_enter Try.func15, Try.ntmps15
    go_wp2
    go_ret2
    exact ⟨rfl, rfl⟩

end Go.Proofs.Ytedhahonanfnaaa
