/-
  CountAdds and CountBack return true. Conditions: at most 2^44 numbers.
-/
import Derived.Test.YtibjhbejjjkoaaaCC
namespace Go.Proofs.Ytibjhbejjjkoaaa
open Go.ChangeShapes Go.WideShapes Go.ChangeAt Go.RowKit

set_option maxHeartbeats 400000 in
theorem adds_walk (A : Option Addr) (c : Nat) (zs : List Int) (hl : zs.length ≤ 17592186044416) (w : World) (hr : RdI w A zs) :
    Calls Try.prog 3 #[.slice A zs.length c] w fun e w' => e = .returned (.bool true) ∧ Below w.heap.size w w' := by
  rcases hs : zs.all am with _ | _
  · have HS := Lib.hid hs
    clear hs
    go_enter Try.func3, Try.ntmps3
    go_wp2_with (first
      | (go_at_call 6; refine (add_bad A c zs hl HS.out w hr).mono ?_; rintro e w' ⟨rfl, rfl⟩)
      | (go_at_call 7; refine (radd_bad A c zs hl HS.out w hr).mono ?_; rintro e w' ⟨rfl, rfl⟩)
      | (go_at_call 8; refine (num_any _ _).mono ?_; rintro e w' ⟨rfl, rfl⟩)
      | (go_at_call 9; refine (check_bad A c zs hl HS.out w hr).mono ?_; rintro e w' ⟨rfl, rfl⟩)
      | (go_at_call 10; refine (amounts_bad A c zs hl HS.out w hr).mono ?_; rintro e w' ⟨rfl, rfl⟩)
      | (go_at_call 11; refine (alive_any w).mono ?_; rintro e w' ⟨rfl, hB⟩))
    go_ret
    exact ⟨rfl, hB⟩
  · have HS := Lib.hid hs
    clear hs
    have h1 := add_ok A c zs hl HS.out w hr
    have h2 := radd_ok A c zs hl HS.out w hr
    generalize (addR 0 zs).1 = s at h1 h2
    generalize (addR 0 zs).2 = r at h1 h2
    go_enter Try.func3, Try.ntmps3
    go_wp2_with (first
      | (go_at_call 6; refine h1.mono ?_; rintro e w' ⟨rfl, rfl⟩)
      | (go_at_call 7; refine h2.mono ?_; rintro e w' ⟨rfl, rfl⟩)
      | (go_at_call 8; refine (num_any _ _).mono ?_; rintro e w' ⟨rfl, rfl⟩)
      | (go_at_call 9; refine (check_ok A c zs hl HS.out w hr).mono ?_; rintro e w' ⟨rfl, rfl⟩)
      | (go_at_call 10; refine (amounts_ok A c zs hl HS.out w hr).mono ?_; rintro e w' ⟨rfl, rfl⟩)
      | (go_at_call 11; refine (alive_any w).mono ?_; rintro e w' ⟨rfl, hB⟩))
    go_ret
    exact ⟨rfl, hB⟩

theorem three_iff {a b c : Int} : [a, b, c].all am = true ↔ (0 ≤ a ∧ a ≤ 1099511627776) ∧ (0 ≤ b ∧ b ≤ 1099511627776) ∧ (0 ≤ c ∧ c ≤ 1099511627776) := by simp [am]
theorem three_turn (a b c : Int) : [c, a, b].all am = [a, b, c].all am := by
  simp only [List.all_cons, List.all_nil, Bool.and_true]
  rw [Bool.and_comm, Bool.and_assoc]

theorem add_three (a b c : Int) (h : [a, b, c].all am = true) : addR 0 [a, b, c] = if 1099511627776 < a + b + c then (0, 15) else (a + b + c, 0) := by
  have := three_iff.1 h
  simp only [addR]
  by_cases h1 : 1099511627776 < a + b + c
  · rw [if_neg (by omega), if_pos h1]
    by_cases h2 : 1099511627776 < a + b
    · rw [if_pos (by omega)]
    · rw [if_neg (by omega), if_pos (by omega)]
  · rw [if_neg (by omega), if_neg (by omega), if_neg (by omega), if_neg h1]
    simp

theorem add3_bad (a b c : Int) (hs : [a, b, c].all am = false) (w : World) (n : Nat) (hn : w.heap.size = n) :
    Calls Try.prog 6 #[.slice (some ⟨n, 0, none⟩) 3 3] (w.alloc (.cells #[.int .i64 a, .int .i64 b, .int .i64 c] 3)) fun e w' => e = .returned (.tuple #[.int .i64 0, .int .i64 4]) ∧ w.alloc (.cells #[.int .i64 a, .int .i64 b, .int .i64 c] 3) = w' := by
  subst hn
  exact add_bad _ _ [a, b, c] (by simp) hs _ (rd_three w a b c)
theorem add3_over (a b c : Int) (hs : [a, b, c].all am = true) (h : 1099511627776 < a + b + c) (w : World) (n : Nat) (hn : w.heap.size = n) :
    Calls Try.prog 6 #[.slice (some ⟨n, 0, none⟩) 3 3] (w.alloc (.cells #[.int .i64 a, .int .i64 b, .int .i64 c] 3)) fun e w' => e = .returned (.tuple #[.int .i64 0, .int .i64 15]) ∧ w.alloc (.cells #[.int .i64 a, .int .i64 b, .int .i64 c] 3) = w' := by
  subst hn
  have := add_ok _ 3 [a, b, c] (by simp) hs _ (rd_three w a b c)
  rw [add_three a b c hs, if_pos h] at this
  exact this
theorem add3_ok (a b c s : Int) (hs : [a, b, c].all am = true) (h : ¬ 1099511627776 < a + b + c) (e : s = a + b + c) (w : World) (n : Nat) (hn : w.heap.size = n) :
    Calls Try.prog 6 #[.slice (some ⟨n, 0, none⟩) 3 3] (w.alloc (.cells #[.int .i64 a, .int .i64 b, .int .i64 c] 3)) fun e w' => e = .returned (.tuple #[.int .i64 s, .int .i64 0]) ∧ w.alloc (.cells #[.int .i64 a, .int .i64 b, .int .i64 c] 3) = w' := by
  subst hn
  subst e
  have := add_ok _ 3 [a, b, c] (by simp) hs _ (rd_three w a b c)
  rw [add_three a b c hs, if_neg h] at this
  exact this

set_option maxHeartbeats 400000 in
theorem back_walk (a b c : Int) (w : World) :
    Calls Try.prog 5 #[.int .i64 a, .int .i64 b, .int .i64 c] w fun e w' => e = .returned (.bool true) ∧ Below w.heap.size w w' := by
  rcases hs : [a, b, c].all am with _ | _
  · have HS := Lib.hid hs
    clear hs
    go_enter Try.func5, Try.ntmps5
    go_wp2_with fail
    refine (alive_any w).mono ?_
    rintro e w1 ⟨rfl, hB⟩
    go_wp2_with fail
    refine (add3_bad a b c HS.out _ _ (by simp)).mono ?_
    rintro e w' ⟨rfl, rfl⟩
    go_wp2_with fail
    refine (add3_bad c a b ((three_turn a b c).trans HS.out) _ _ (by simp)).mono ?_
    rintro e w' ⟨rfl, rfl⟩
    go_wp2_with (go_at_call 8; refine (num_any _ _).mono ?_; rintro e w' ⟨rfl, rfl⟩)
    go_ret
    exact ⟨rfl, (hB.alloc hB.size _).alloc (by have := hB.size; simp; omega) _⟩
  · have hb := three_iff.1 hs
    have HS := Lib.hid hs
    clear hs
    by_cases ho : 1099511627776 < a + b + c
    · have HO := Lib.hid ho
      clear ho
      go_enter Try.func5, Try.ntmps5
      go_wp2_with fail
      refine (alive_any w).mono ?_
      rintro e w1 ⟨rfl, hB⟩
      go_wp2_with fail
      refine (add3_over a b c HS.out HO.out _ _ (by simp)).mono ?_
      rintro e w' ⟨rfl, rfl⟩
      go_wp2_with fail
      refine (add3_over c a b ((three_turn a b c).trans HS.out) (by have := HO.out; omega) _ _ (by simp)).mono ?_
      rintro e w' ⟨rfl, rfl⟩
      go_wp2_with (go_at_call 8; refine (num_any _ _).mono ?_; rintro e w' ⟨rfl, rfl⟩)
      go_ret
      exact ⟨rfl, (hB.alloc hB.size _).alloc (by have := hB.size; simp; omega) _⟩
    · obtain ⟨s, HE⟩ : ∃ s, RowKit.Hid (s = a + b + c) := ⟨_, Lib.hid rfl⟩
      obtain ⟨z, HF⟩ : ∃ z, RowKit.Hid (z = a + b) := ⟨_, Lib.hid rfl⟩
      have HO := Lib.hid ho
      have HB := Lib.hid hb
      clear ho hb
      go_enter Try.func5, Try.ntmps5
      go_wp2_with fail
      refine (alive_any w).mono ?_
      rintro e w1 ⟨rfl, hB⟩
      go_wp2_with fail
      refine (add3_ok a b c s HS.out (by have := HO.out; omega) HE.out _ _ (by simp)).mono ?_
      rintro e w' ⟨rfl, rfl⟩
      go_wp2_with fail
      refine (add3_ok c a b s ((three_turn a b c).trans HS.out) (by have := HO.out; omega) (by have := HE.out; omega) _ _ (by simp)).mono ?_
      rintro e w' ⟨rfl, rfl⟩
      go_wp2_with (go_at_call 8; refine (num_any _ _).mono ?_; rintro e w' ⟨rfl, rfl⟩)
      refine (sub_ok s c (two_iff.2 (by have := HB.out; have := HE.out; have := HO.out; omega)) (by have := HB.out; have := HE.out; omega) _).mono ?_
      rintro e w2 ⟨rfl, hB2⟩
      rw [show s - c = z by have := HE.out; have := HF.out; omega]
      go_wp2_with fail
      refine (sub_ok z b (two_iff.2 (by have := HB.out; have := HF.out; have := HO.out; omega)) (by have := HB.out; have := HF.out; omega) _).mono ?_
      rintro e w3 ⟨rfl, hB3⟩
      rw [show z - b = a by have := HF.out; omega]
      go_wp2_with (go_at_call 8; refine (num_any _ _).mono ?_; rintro e w' ⟨rfl, rfl⟩)
      go_ret
      have h1 := hB.size
      have h2 := hB2.size
      simp at h2
      exact ⟨rfl, (((hB.alloc hB.size _).alloc (by simp; omega) _).trans (hB2.mono (by simp; omega))).trans (hB3.mono (by omega))⟩

end Go.Proofs.Ytibjhbejjjkoaaa
