/-
  CountTells returns true. Conditions: at most 2^44 numbers.
-/
import Derived.Test.YtibjhbejjjkoaaaCD
namespace Go.Proofs.Ytibjhbejjjkoaaa
open Go.ChangeShapes Go.WideShapes Go.ChangeAt Go.RowKit

/-- What Least answers. -/
def leastR (zs : List Int) : Int × Int := if zs.length = 0 then (0, 3) else if zs.all am = true then (least zs, 0) else (0, 4)

theorem least_any (A : Option Addr) (c : Nat) (zs : List Int) (hl : zs.length ≤ 17592186044416) (w : World) (hr : RdI w A zs) :
    Calls Try.prog 14 #[.slice A zs.length c] w fun e w' => e = .returned (.tuple #[.int .i64 (leastR zs).1, .int .i64 (leastR zs).2]) ∧ w = w' := by
  unfold leastR
  by_cases h0 : zs.length = 0
  · rw [if_pos h0, h0]
    exact least_none A c w
  · rw [if_neg h0]
    rcases hs : zs.all am with _ | _
    · exact least_bad A c zs (by omega) hl hs w hr
    · exact least_ok A c zs (by omega) hl hs w hr

theorem leastR_none {zs : List Int} (h : zs.length = 0) : leastR zs = (0, 3) := if_pos h
theorem leastR_bad {zs : List Int} (h : zs.length ≠ 0) (hs : zs.all am = false) : leastR zs = (0, 4) := by
  unfold leastR
  rw [if_neg h, if_neg (by rw [hs]; decide)]
theorem leastR_ok {zs : List Int} (h : zs.length ≠ 0) (hs : zs.all am = true) : leastR zs = (least zs, 0) := by
  unfold leastR
  rw [if_neg h, if_pos hs]

theorem pair_amo (a b : Int) (w : World) : Calls Try.prog 10 #[.slice (some ⟨w.heap.size, 0, none⟩) 2 2] (w.alloc (.cells #[.int .i64 a, .int .i64 b] 3)) fun x w' => x = .returned (.bool ([a, b].all am)) ∧ w.alloc (.cells #[.int .i64 a, .int .i64 b] 3) = w' := by
  rcases hs : [a, b].all am with _ | _
  · exact amounts_bad _ _ [a, b] (by simp) hs _ (rd_two w a b)
  · exact amounts_ok _ _ [a, b] (by simp) hs _ (rd_two w a b)

/-- The round of the law's own loop. -/
theorem least_next {zs : List Int} {k : Nat} {z : Int} (h : zs[k]? = some z) : least (zs.take (k + 1)) = if (k = 0 ∨ z < least (zs.take k)) then z else least (zs.take k) := by
  by_cases hk : k = 0
  · subst hk
    rw [least_one h, if_pos (Or.inl rfl)]
  · rw [least_take h (by omega)]
    by_cases hz : z < least (zs.take k)
    · rw [if_pos (Or.inr hz)]; omega
    · rw [if_neg (by omega)]; omega

/-- What the law holds the pair's answers against. -/
def Told (a b d e p f : Int) (ok : Bool) : Prop :=
  (ok = false ∧ d = 0 ∧ e = 4 ∧ p = 0 ∧ f = 4) ∨
  (ok = true ∧ a < b ∧ d = 0 ∧ e = 16 ∧ p / b = a ∧ p % b = 0 ∧ 0 < b ∧ 0 ≤ p ∧ p ≤ 1099511627776 ∧ f = 0) ∨
  (ok = true ∧ a < b ∧ d = 0 ∧ e = 16 ∧ 1099511627776 / b < a ∧ (b == 0) = false ∧ 0 < b ∧ p = 0 ∧ f = 15) ∨
  (ok = true ∧ b ≤ a ∧ d = a - b ∧ e = 0 ∧ p / b = a ∧ p % b = 0 ∧ 0 < b ∧ 0 ≤ p ∧ p ≤ 1099511627776 ∧ f = 0) ∨
  (ok = true ∧ b ≤ a ∧ d = a - b ∧ e = 0 ∧ 1099511627776 / b < a ∧ (b == 0) = false ∧ 0 < b ∧ p = 0 ∧ f = 15) ∨
  (ok = true ∧ 0 ≤ a ∧ b = 0 ∧ d = a ∧ e = 0 ∧ p = 0 ∧ f = 0)

theorem pair_any (a b : Int) : ∃ d e p f : Int, ∃ ok : Bool, Told a b d e p f ok ∧
    (∀ w : World, Calls Try.prog 12 #[.int .i64 a, .int .i64 b] w fun x w' => x = .returned (.tuple #[.int .i64 d, .int .i64 e]) ∧ Below w.heap.size w w') ∧
    (∀ w : World, Calls Try.prog 13 #[.int .i64 a, .int .i64 b] w fun x w' => x = .returned (.tuple #[.int .i64 p, .int .i64 f]) ∧ Below w.heap.size w w') ∧
    (∀ w : World, Calls Try.prog 10 #[.slice (some ⟨w.heap.size, 0, none⟩) 2 2] (w.alloc (.cells #[.int .i64 a, .int .i64 b] 3)) fun x w' => x = .returned (.bool ok) ∧ w.alloc (.cells #[.int .i64 a, .int .i64 b] 3) = w') := by
  have hA := pair_amo a b
  rcases hs : [a, b].all am with _ | _
  · rw [hs] at hA
    exact ⟨0, 4, 0, 4, false, Or.inl ⟨rfl, rfl, rfl, rfl, rfl⟩, sub_bad a b hs, mul_bad a b hs, hA⟩
  · rw [hs] at hA
    have hb := two_iff.1 hs
    by_cases h0 : b = 0
    · subst h0
      exact ⟨a - 0, 0, 0, 0, true, Or.inr (Or.inr (Or.inr (Or.inr (Or.inr ⟨rfl, hb.1.1, rfl, by omega, rfl, rfl, rfl⟩)))), sub_ok a 0 hs hb.1.1, mul_zero_ok a hs, hA⟩
    · have hb1 : 1 ≤ b := by omega
      have hbn : (b == 0) = false := beq_eq_false_iff_ne.2 h0
      have e1 : a * b / b = a := Int.mul_ediv_cancel a h0
      have e2 : a * b % b = 0 := Int.mul_emod_left a b
      have e3 : 0 ≤ a * b := Int.mul_nonneg hb.1.1 hb.2.1
      by_cases hab : a < b
      · by_cases ho : 1099511627776 / b < a
        · exact ⟨0, 16, 0, 15, true, Or.inr (Or.inr (Or.inl ⟨rfl, hab, rfl, rfl, ho, hbn, hb1, rfl, rfl⟩)), sub_under a b hs hab, mul_over a b hs hb1 ho, hA⟩
        · have hm := mul_le (a := a) (M := 1099511627776) hb1 (by omega)
          exact ⟨0, 16, a * b, 0, true, Or.inr (Or.inl ⟨rfl, hab, rfl, rfl, e1, e2, hb1, e3, hm, rfl⟩), sub_under a b hs hab, mul_ok a b hs hb1 (by omega), hA⟩
      · by_cases ho : 1099511627776 / b < a
        · exact ⟨a - b, 0, 0, 15, true, Or.inr (Or.inr (Or.inr (Or.inr (Or.inl ⟨rfl, by omega, rfl, rfl, ho, hbn, hb1, rfl, rfl⟩)))), sub_ok a b hs (by omega), mul_over a b hs hb1 ho, hA⟩
        · have hm := mul_le (a := a) (M := 1099511627776) hb1 (by omega)
          exact ⟨a - b, 0, a * b, 0, true, Or.inr (Or.inr (Or.inr (Or.inl ⟨rfl, by omega, rfl, rfl, e1, e2, hb1, e3, hm, rfl⟩))), sub_ok a b hs (by omega), mul_ok a b hs hb1 (by omega), hA⟩

set_option maxRecDepth 100000 in
set_option maxHeartbeats 4000000 in
theorem tells_walk (a b : Int) (ha : -9223372036854775808 ≤ a ∧ a ≤ 9223372036854775807) (hb : -9223372036854775808 ≤ b ∧ b ≤ 9223372036854775807) (A : Option Addr) (c : Nat) (zs : List Int) (hl : zs.length ≤ 17592186044416) (w : World) (hr : RdI w A zs) :
    Calls Try.prog 4 #[.int .i64 a, .int .i64 b, .slice A zs.length c] w fun e w' => e = .returned (.bool true) ∧ Below w.heap.size w w' := by
  obtain ⟨d, e, p, f, ok, hT, hS, hM, hA⟩ := pair_any a b
  have HT := Lib.hid hT
  have HR := Lib.hid hr
  clear hr hT
  go_enter Try.func4, Try.ntmps4
  go_wp2_with fail
  refine (hS w).mono ?_
  rintro x w1 ⟨rfl, hB1⟩
  go_wp2_with fail
  refine (hM w1).mono ?_
  rintro x w2 ⟨rfl, hB2⟩
  have hB02 : Below w.heap.size w w2 := hB1.trans (hB2.mono hB1.size)
  go_wp2_with fail
  refine (least_any A c zs hl w2 (HR.out.below hB02)).mono ?_
  rintro x w3 ⟨rfl, rfl⟩
  obtain ⟨m, hm⟩ : ∃ m, (leastR zs).1 = m := ⟨_, rfl⟩
  obtain ⟨g, hg⟩ : ∃ g, (leastR zs).2 = g := ⟨_, rfl⟩
  rw [hm, hg]
  have HM := Lib.hid hm
  have HG := Lib.hid hg
  clear hm hg
  go_wp2_with fail
  refine (hA w2).mono ?_
  rintro x w3 ⟨rfl, hw3⟩
  have hB3 : Below w.heap.size w w3 := hw3 ▸ hB02.alloc hB02.size _
  clear hw3 hS hM hA hB1 hB2
  rcases HT.out with ⟨rfl, rfl, rfl, rfl, rfl⟩ | ⟨rfl, h1, rfl, rfl, h2, h3, h4, h5, h6, rfl⟩ | ⟨rfl, h1, rfl, rfl, h2, hbn, h3, rfl, rfl⟩ | ⟨rfl, h1, rfl, rfl, h2, h3, h4, h5, h6, rfl⟩ | ⟨rfl, h1, rfl, rfl, h2, hbn, h3, rfl, rfl⟩ | ⟨rfl, h1, rfl, rfl, rfl, rfl, rfl⟩
  all_goals clear HT
  all_goals go_wp2_with (go_at_call 8; refine (num_any _ _).mono ?_; rintro e w' ⟨rfl, rfl⟩)
  all_goals go_loop [14, 15] (fun t i => ∃ k : Nat, k ≤ zs.length ∧ i = .int .i64 k ∧ t = .int .i64 (least (zs.take k))) (fun _ i => zs.length - (intOf i).toNat)
  all_goals try (case atStart => exact ⟨0, Nat.zero_le _, rfl, rfl⟩)
  all_goals
    obtain ⟨k, hk, rfl, rfl⟩ := hrel
    by_cases hlt : k < zs.length
    · obtain ⟨b', off, z, rfl, hb', hc, HZ⟩ := (HR.out.below hB3).at_ hlt
      have HN := Lib.hid (least_next HZ.out)
      by_cases hk0 : k = 0
      · subst hk0
        rw [Nat.add_zero] at hc
        go_wp2
        go_round
        case rel => exact ⟨0 + 1, by omega, by go_num, by rw [HN.out, if_pos (Or.inl rfl)]⟩
        case measure => simp [intOf]; omega
      · have hkn : ((k : Int) == 0) = false := beq_eq_false_iff_ne.2 (by omega)
        generalize least (zs.take k) = s at HN ⊢
        by_cases hz : z < s
        · go_wp2
          go_round
          case rel => exact ⟨k + 1, by omega, by go_num, by rw [HN.out, if_pos (Or.inr hz)]⟩
          case measure => simp [intOf]; omega
        · go_wp2
          go_round
          case rel => exact ⟨k + 1, by omega, by go_num, by rw [HN.out, if_neg (by omega)]⟩
          case measure => simp [intOf]; omega
    · obtain rfl : k = zs.length := by omega
      rw [List.take_length]
      by_cases h0 : zs.length = 0
      · obtain rfl : m = 0 := by have h := HM.out; rw [leastR_none h0] at h; exact h.symm
        obtain rfl : g = 3 := by have h := HG.out; rw [leastR_none h0] at h; exact h.symm
        have h0' : ((zs.length : Int) == 0) = true := by rw [h0]; rfl
        clear h0
        generalize least zs = s
        go_wp2_with (first
          | (go_at_call 8; refine (num_any _ _).mono ?_; rintro e w' ⟨rfl, rfl⟩)
          | (go_at_call 11; refine (alive_any w3).mono ?_; rintro e w' ⟨rfl, hB⟩))
        go_ret
        exact ⟨rfl, hB3.trans (hB.mono hB3.size)⟩
      · have h0' : ((zs.length : Int) == 0) = false := beq_eq_false_iff_ne.2 (by omega)
        rcases hs : zs.all am with _ | _
        · obtain rfl : m = 0 := by have h := HM.out; rw [leastR_bad h0 hs] at h; exact h.symm
          obtain rfl : g = 4 := by have h := HG.out; rw [leastR_bad h0 hs] at h; exact h.symm
          have HS := Lib.hid hs
          clear hs
          generalize least zs = s
          go_wp2_with (first
            | (go_at_call 8; refine (num_any _ _).mono ?_; rintro e w' ⟨rfl, rfl⟩)
            | (go_at_call 10; refine (amounts_bad A c zs hl HS.out w3 (HR.out.below hB3)).mono ?_; rintro e w' ⟨rfl, rfl⟩)
            | (go_at_call 11; refine (alive_any w3).mono ?_; rintro e w' ⟨rfl, hB⟩))
          go_ret
          exact ⟨rfl, hB3.trans (hB.mono hB3.size)⟩
        · obtain rfl : m = least zs := by have h := HM.out; rw [leastR_ok h0 hs] at h; exact h.symm
          obtain rfl : g = 0 := by have h := HG.out; rw [leastR_ok h0 hs] at h; exact h.symm
          have HS := Lib.hid hs
          clear hs HM HG
          generalize least zs = s
          go_wp2_with (first
            | (go_at_call 8; refine (num_any _ _).mono ?_; rintro e w' ⟨rfl, rfl⟩)
            | (go_at_call 10; refine (amounts_ok A c zs hl HS.out w3 (HR.out.below hB3)).mono ?_; rintro e w' ⟨rfl, rfl⟩)
            | (go_at_call 11; refine (alive_any w3).mono ?_; rintro e w' ⟨rfl, hB⟩))
          go_ret
          exact ⟨rfl, hB3.trans (hB.mono hB3.size)⟩

end Go.Proofs.Ytibjhbejjjkoaaa
