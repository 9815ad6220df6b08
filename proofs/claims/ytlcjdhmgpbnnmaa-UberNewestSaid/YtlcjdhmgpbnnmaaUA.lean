/-
  Uberblocks by value; Check, Slot and number of uber. No conditions.
-/
import Derived.Test.YtlcjdhmgpbnnmaaUM
import Derived.IntWalk
import Derived.Lib.Hide
namespace Go.Proofs.Ytlcjdhmgpbnnmaa
open Go.ChangeShapes Go.WideShapes Go.ChangeAt Go.RowKit

/-- An uberblock as a value. -/
abbrev Ub.val (u : Ub) : Value := .agg #[.int .i64 u.t, .int .i64 u.f, .int .i64 u.o]
/-- Its cells. -/
def Ub.cells (u : Ub) : List Value := [.int .i64 u.t, .int .i64 u.f, .int .i64 u.o]
/-- Why it may not be. -/
def Ub.err (u : Ub) : Int := if u.ok then 0 else 4
theorem Ub.err_ok {u : Ub} (h : u.ok = true) : u.err = 0 := by simp [Ub.err, h]
theorem Ub.err_no {u : Ub} (h : u.ok = false) : u.err = 4 := by simp [Ub.err, h]

/-- The ways through the tests. -/
theorem ub_ways (t f o : Int) (r : Int) (hr : (Ub.mk t f o).err = r) :
    (r = 4 ∧ t < 1) ∨ (r = 4 ∧ 1 ≤ t ∧ 1099511627776 < t) ∨ (r = 4 ∧ 1 ≤ t ∧ t ≤ 1099511627776 ∧ f < 0) ∨ (r = 4 ∧ 1 ≤ t ∧ t ≤ 1099511627776 ∧ f = 1) ∨ (r = 4 ∧ 1 ≤ t ∧ t ≤ 1099511627776 ∧ 2 ≤ f ∧ 8192 ≤ f) ∨
    (r = 4 ∧ 1 ≤ t ∧ t ≤ 1099511627776 ∧ f = 0 ∧ o < 0) ∨ (r = 4 ∧ 1 ≤ t ∧ t ≤ 1099511627776 ∧ f = 0 ∧ 0 ≤ o ∧ 1024 < o) ∨ (r = 4 ∧ 1 ≤ t ∧ t ≤ 1099511627776 ∧ f = 0 ∧ 0 < o ∧ o ≤ 1024) ∨ (r = 0 ∧ 1 ≤ t ∧ t ≤ 1099511627776 ∧ f = 0 ∧ o = 0) ∨
    (r = 4 ∧ 1 ≤ t ∧ t ≤ 1099511627776 ∧ 2 ≤ f ∧ f < 8192 ∧ o < 0) ∨ (r = 4 ∧ 1 ≤ t ∧ t ≤ 1099511627776 ∧ 2 ≤ f ∧ f < 8192 ∧ 0 ≤ o ∧ 1024 < o) ∨ (r = 4 ∧ 1 ≤ t ∧ t ≤ 1099511627776 ∧ 2 ≤ f ∧ f < 8192 ∧ o = 0) ∨ (r = 0 ∧ 1 ≤ t ∧ t ≤ 1099511627776 ∧ 2 ≤ f ∧ f < 8192 ∧ 0 < o ∧ o ≤ 1024) := by
  have h1 : r = 0 ∨ r = 4 := by
    subst hr
    unfold Ub.err
    split <;> simp
  have h2 : r = 0 ↔ (Ub.mk t f o).ok = true := by
    subst hr
    unfold Ub.err
    split <;> simp_all
  rw [Ub.ok_iff] at h2
  simp only at h2
  by_cases a1 : t < 1
  · exact .inl ⟨by omega, a1⟩
  by_cases a2 : 1099511627776 < t
  · exact .inr (.inl ⟨by omega, by omega, a2⟩)
  by_cases a3 : f < 0
  · exact .inr (.inr (.inl ⟨by omega, by omega, by omega, a3⟩))
  by_cases a4 : f = 1
  · exact .inr (.inr (.inr (.inl ⟨by omega, by omega, by omega, a4⟩)))
  by_cases a5 : 8192 ≤ f
  · exact .inr (.inr (.inr (.inr (.inl ⟨by omega, by omega, by omega, by omega, a5⟩))))
  by_cases b0 : f = 0
  · by_cases b1 : o < 0
    · exact .inr (.inr (.inr (.inr (.inr (.inl ⟨by omega, by omega, by omega, b0, b1⟩)))))
    by_cases b2 : 1024 < o
    · exact .inr (.inr (.inr (.inr (.inr (.inr (.inl ⟨by omega, by omega, by omega, b0, by omega, b2⟩))))))
    by_cases b3 : o = 0
    · exact .inr (.inr (.inr (.inr (.inr (.inr (.inr (.inr (.inl ⟨by omega, by omega, by omega, b0, b3⟩))))))))
    · exact .inr (.inr (.inr (.inr (.inr (.inr (.inr (.inl ⟨by omega, by omega, by omega, b0, by omega, by omega⟩)))))))
  by_cases b1 : o < 0
  · exact .inr (.inr (.inr (.inr (.inr (.inr (.inr (.inr (.inr (.inl ⟨by omega, by omega, by omega, by omega, by omega, b1⟩)))))))))
  by_cases b2 : 1024 < o
  · exact .inr (.inr (.inr (.inr (.inr (.inr (.inr (.inr (.inr (.inr (.inl ⟨by omega, by omega, by omega, by omega, by omega, by omega, b2⟩))))))))))
  by_cases b3 : o = 0
  · exact .inr (.inr (.inr (.inr (.inr (.inr (.inr (.inr (.inr (.inr (.inr (.inl ⟨by omega, by omega, by omega, by omega, by omega, b3⟩)))))))))))
  · exact .inr (.inr (.inr (.inr (.inr (.inr (.inr (.inr (.inr (.inr (.inr (.inr ⟨by omega, by omega, by omega, by omega, by omega, by omega, by omega⟩)))))))))))

set_option maxHeartbeats 1000000 in
set_option maxRecDepth 100000 in
theorem check_any (u : Ub) (w : World) :
    Calls Try.prog 12 #[u.val] w fun e w' => e = .returned (.int .i64 u.err) ∧ Below w.heap.size w w' := by
  obtain ⟨t, f, o⟩ := u
  have hB0 : Below w.heap.size w (w.alloc (.cells #[.int .i64 t, .int .i64 f, .int .i64 o] 23)) := (Below.refl _ w).alloc (Nat.le_refl _) _
  obtain ⟨r, hr⟩ : ∃ r, (Ub.mk t f o).err = r := ⟨_, rfl⟩
  have hw := ub_ways t f o r hr
  rw [hr]
  clear hr
  rcases hw with ⟨rfl, h1⟩ | ⟨rfl, h1, h2⟩ | ⟨rfl, h1, h2, h3⟩ | ⟨rfl, h1, h2, rfl⟩ | ⟨rfl, h1, h2, h3, h4⟩ | ⟨rfl, h1, h2, rfl, h4⟩ | ⟨rfl, h1, h2, rfl, h4, h5⟩ | ⟨rfl, h1, h2, rfl, h4, h5⟩ | ⟨rfl, h1, h2, rfl, rfl⟩ | ⟨rfl, h1, h2, h3, h4, h5⟩ | ⟨rfl, h1, h2, h3, h4, h5, h6⟩ | ⟨rfl, h1, h2, h3, h4, rfl⟩ | ⟨rfl, h1, h2, h3, h4, h5, h6⟩
  all_goals
    try have e1 : (f == 0) = false := beq_eq_false_iff_ne.2 (by omega)
    try have e2 : (o == 0) = false := beq_eq_false_iff_ne.2 (by omega)
    go_enter Try.func12, Try.ntmps12
    go_wp2
    go_ret
    exact ⟨rfl, hB0⟩

set_option maxHeartbeats 400000 in
theorem number8_any (A : Option Addr) (n c : Nat) (zs : List Int) (hn : zs.length = n) (h1 : 1 ≤ n) (h8 : n ≤ 8) (ho : Octs zs) (w : World) (hr : RdB w A zs) :
    Calls Try.prog 23 #[.slice A n c] w fun e w' => e = .returned (.int .i64 (numO zs).1) ∧ w = w' := by
  subst hn
  obtain ⟨r, hr'⟩ : ∃ r, numO zs = r := ⟨_, rfl⟩
  have hc : Calls Try.prog 32 #[.slice A zs.length c] w fun e w' => e = .returned (ansN r.1 r.2) ∧ w = w' := by
    rw [← hr']
    by_cases hv : val zs ≤ 4611686018427387903
    · have : numO zs = (val zs, 0) := by unfold numO; rw [if_neg (by omega)]
      rw [this]
      exact number_ok A c zs h1 h8 ho w hr hv
    · have : numO zs = (0, 4) := by unfold numO; rw [if_pos (by omega)]
      rw [this]
      exact number_big A c zs h1 h8 ho w hr (by omega)
  rw [hr']
  obtain ⟨a, b⟩ := r
  have HC := Lib.hid hc
  clear hc hr' hr ho
  go_enter Try.func23, Try.ntmps23
  go_wp2_with (refine HC.out.mono ?_; rintro e w1 ⟨rfl, rfl⟩; unfold ansN)
  go_ret
  exact ⟨rfl, rfl⟩

theorem and_one (t : Int) : bits BinOp.and IntKind.i64 t 1 = t % 2 := by
  show IntKind.i64.wrap ((BitVec.ofInt 64 t &&& BitVec.ofInt 64 1).toNat : Int) = _
  have h1 : (BitVec.ofInt 64 1).toNat = 1 := rfl
  rw [BitVec.toNat_and, h1, BitVec.toNat_ofInt, Nat.and_one_is_mod]
  have h2 : (((t % ((2 ^ 64 : Nat) : Int)).toNat % 2 : Nat) : Int) = t % 2 := by omega
  rw [h2]
  exact IntWalk.i64_in _ (by omega)

set_option maxHeartbeats 400000 in
theorem slot_any (u : Ub) (w : World) :
    Calls Try.prog 13 #[u.val] w fun e w' => e = .returned (.int .i64 (u.t % 2)) ∧ Below w.heap.size w w' := by
  have ha := and_one u.t
  have HA := Lib.hid ha
  clear ha
  have hB0 : Below w.heap.size w (w.alloc (.cells #[.int .i64 u.t, .int .i64 u.f, .int .i64 u.o] 23)) := (Below.refl _ w).alloc (Nat.le_refl _) _
  go_enter Try.func13, Try.ntmps13
  go_wp2
  go_ret
  exact ⟨by rw [← HA.out]; rfl, hB0⟩

end Go.Proofs.Ytlcjdhmgpbnnmaa
