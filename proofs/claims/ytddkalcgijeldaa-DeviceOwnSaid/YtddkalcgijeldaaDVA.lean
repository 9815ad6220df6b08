/-
  hasSector, checkWrite, checkAct: which sectors there are, and which writes and acts a device takes. No conditions.
-/
import Derived.Test.YtddkalcgijeldaaW
import Derived.Lib.Hide
import Derived.IntWalk
namespace Go.Proofs.Ytddkalcgijeldaa
open Go.ChangeShapes Go.WideShapes Go.ChangeAt Go.RowKit

/-- A device as a value. -/
abbrev dval (A : Option Addr) (n c : Nat) (B : Option Addr) (m d : Nat) : Value := .agg #[.slice A n c, .slice B m d]
/-- An act as a value. -/
abbrev aval (fl : Bool) (at_ : Int) (C : Option Addr) (k e : Nat) : Value := .agg #[.bool fl, .int .i64 at_, .slice C k e]
/-- A write as a value. -/
abbrev wval (at_ : Int) (C : Option Addr) (k e : Nat) : Value := .agg #[.int .i64 at_, .slice C k e]

/-- Why a write is refused. -/
def wrtE (n : Nat) (at_ : Int) (k : Nat) : Int := if 0 ≤ at_ ∧ at_ < n then (if k = 64 then 0 else 5) else 4
/-- Why an act is refused. -/
def actE (n : Nat) (fl : Bool) (at_ : Int) (k : Nat) : Int := if fl then 0 else wrtE n at_ k

set_option maxHeartbeats 400000 in
theorem hasSector_any (A : Option Addr) (n c : Nat) (B : Option Addr) (m d : Nat) (at_ : Int) (w : World) :
    Calls Try.prog 34 #[dval A n c B m d, .int .i64 at_] w fun e w' => e = .returned (.bool (decide (0 ≤ at_ ∧ at_ < n))) ∧ Below w.heap.size w w' := by
  have hB0 : Below w.heap.size w (w.alloc (.cells #[.slice A n c, .slice B m d] 29)) := (Below.refl _ w).alloc (Nat.le_refl _) _
  by_cases h0 : 0 ≤ at_
  · by_cases h1 : at_ < n
    · have hd : decide (0 ≤ at_ ∧ at_ < n) = true := by simp [h0, h1]
      rw [hd]
      clear hd
      go_enter Try.func34, Try.ntmps34
      go_wp2
      go_ret
      exact ⟨rfl, hB0⟩
    · have hd : decide (0 ≤ at_ ∧ at_ < n) = false := by simp [h1]
      rw [hd]
      clear hd
      go_enter Try.func34, Try.ntmps34
      go_wp2
      go_ret
      exact ⟨rfl, hB0⟩
  · have hd : decide (0 ≤ at_ ∧ at_ < n) = false := by simp [h0]
    rw [hd]
    clear hd
    go_enter Try.func34, Try.ntmps34
    go_wp2
    go_ret
    exact ⟨rfl, hB0⟩

set_option maxHeartbeats 400000 in
theorem checkWrite_any (A : Option Addr) (n c : Nat) (B : Option Addr) (m d : Nat) (at_ : Int) (C : Option Addr) (k e : Nat) (hk : k ≤ 9223372036854775807) (w : World) :
    Calls Try.prog 38 #[dval A n c B m d, .int .i64 at_, .slice C k e] w fun r w' => r = .returned (.int .i64 (wrtE n at_ k)) ∧ Below w.heap.size w w' := by
  have HS := Lib.hid (hasSector_any A n c B m d at_)
  have hB0 : Below w.heap.size w (w.alloc (.cells #[.slice A n c, .slice B m d] 29)) := (Below.refl _ w).alloc (Nat.le_refl _) _
  by_cases h : 0 ≤ at_ ∧ at_ < n
  · have hd : decide (0 ≤ at_ ∧ at_ < n) = true := decide_eq_true h
    rw [hd] at HS
    by_cases hl : k = 64
    · have he : wrtE n at_ k = 0 := by simp [wrtE, h, hl]
      rw [he]
      clear he hd h
      subst hl
      go_enter Try.func38, Try.ntmps38
      go_wp2_with (refine (HS.out _).mono ?_; rintro e w1 ⟨rfl, hB1⟩)
      go_ret
      exact ⟨rfl, hB0.trans (hB1.mono hB0.size)⟩
    · have he : wrtE n at_ k = 5 := by simp [wrtE, h, hl]
      rw [he]
      clear he hd h
      go_enter Try.func38, Try.ntmps38
      go_wp2_with (refine (HS.out _).mono ?_; rintro e w1 ⟨rfl, hB1⟩)
      go_ret
      exact ⟨rfl, hB0.trans (hB1.mono hB0.size)⟩
  · have hd : decide (0 ≤ at_ ∧ at_ < n) = false := decide_eq_false h
    rw [hd] at HS
    have he : wrtE n at_ k = 4 := by unfold wrtE; rw [if_neg h]
    rw [he]
    clear he hd h
    go_enter Try.func38, Try.ntmps38
    go_wp2_with (refine (HS.out _).mono ?_; rintro e w1 ⟨rfl, hB1⟩)
    go_ret
    exact ⟨rfl, hB0.trans (hB1.mono hB0.size)⟩

set_option maxHeartbeats 400000 in
theorem checkAct_any (A : Option Addr) (n c : Nat) (B : Option Addr) (m d : Nat) (fl : Bool) (at_ : Int) (C : Option Addr) (k e : Nat) (hk : k ≤ 9223372036854775807) (w : World) :
    Calls Try.prog 28 #[dval A n c B m d, aval fl at_ C k e] w fun r w' => r = .returned (.int .i64 (actE n fl at_ k)) ∧ Below w.heap.size w w' := by
  have HS := Lib.hid (checkWrite_any A n c B m d at_ C k e hk)
  have hB0 : Below w.heap.size w ((w.alloc (.cells #[.slice A n c, .slice B m d] 29)).alloc (.cells #[.bool fl, .int .i64 at_, .slice C k e] 36)) := ((Below.refl _ w).alloc (Nat.le_refl _) _).alloc (by simp) _
  cases fl
  · have he : actE n false at_ k = wrtE n at_ k := rfl
    rw [he]
    clear he
    generalize wrtE n at_ k = r at *
    go_enter Try.func28, Try.ntmps28
    go_wp2_with (refine (HS.out _).mono ?_; rintro e w1 ⟨rfl, hB1⟩)
    go_ret
    exact ⟨rfl, hB0.trans (hB1.mono hB0.size)⟩
  · have he : actE n true at_ k = 0 := rfl
    rw [he]
    clear he
    go_enter Try.func28, Try.ntmps28
    go_wp2
    go_ret
    exact ⟨rfl, hB0⟩

end Go.Proofs.Ytddkalcgijeldaa
