/-
  Sub, Mul, Least and the page's example: what they answer. Conditions: at most 2^44 numbers, each of the machine's size.
-/
import Derived.Test.YtibjhbejjjkoaaaCB
namespace Go.Proofs.Ytibjhbejjjkoaaa
open Go.ChangeShapes Go.WideShapes Go.ChangeAt Go.RowKit

theorem rd_two (w : World) (a b : Int) : RdI (w.alloc (.cells #[.int .i64 a, .int .i64 b] 3)) (some ⟨w.heap.size, 0, none⟩) [a, b] := rd_lit w 3 [a, b]
theorem rd_three (w : World) (a b c : Int) : RdI (w.alloc (.cells #[.int .i64 a, .int .i64 b, .int .i64 c] 3)) (some ⟨w.heap.size, 0, none⟩) [a, b, c] := rd_lit w 3 [a, b, c]

theorem two_iff {a b : Int} : [a, b].all am = true ↔ (0 ≤ a ∧ a ≤ 1099511627776) ∧ (0 ≤ b ∧ b ≤ 1099511627776) := by simp [am]

theorem sub_bad (a b : Int) (hs : [a, b].all am = false) (w : World) :
    Calls Try.prog 12 #[.int .i64 a, .int .i64 b] w fun e w' => e = .returned (.tuple #[.int .i64 0, .int .i64 4]) ∧ Below w.heap.size w w' := by
  go_enter Try.func12, Try.ntmps12
  go_wp2_with (go_at_call 9; refine (check_bad _ _ [a, b] (by simp) hs _ (rd_two w a b)).mono ?_; rintro e w' ⟨rfl, rfl⟩)
  go_ret2
  exact ⟨rfl, (Below.refl _ _).alloc (Nat.le_refl _) _⟩

theorem sub_under (a b : Int) (hs : [a, b].all am = true) (h : a < b) (w : World) :
    Calls Try.prog 12 #[.int .i64 a, .int .i64 b] w fun e w' => e = .returned (.tuple #[.int .i64 0, .int .i64 16]) ∧ Below w.heap.size w w' := by
  go_enter Try.func12, Try.ntmps12
  go_wp2_with (go_at_call 9; refine (check_ok _ _ [a, b] (by simp) hs _ (rd_two w a b)).mono ?_; rintro e w' ⟨rfl, rfl⟩)
  go_ret2
  exact ⟨rfl, (Below.refl _ _).alloc (Nat.le_refl _) _⟩

theorem sub_ok (a b : Int) (hs : [a, b].all am = true) (h : b ≤ a) (w : World) :
    Calls Try.prog 12 #[.int .i64 a, .int .i64 b] w fun e w' => e = .returned (.tuple #[.int .i64 (a - b), .int .i64 0]) ∧ Below w.heap.size w w' := by
  have hab := two_iff.1 hs
  have HS := Lib.hid hs
  clear hs
  go_enter Try.func12, Try.ntmps12
  go_wp2_with (go_at_call 9; refine (check_ok _ _ [a, b] (by simp) HS.out _ (rd_two w a b)).mono ?_; rintro e w' ⟨rfl, rfl⟩)
  go_ret2
  exact ⟨rfl, (Below.refl _ _).alloc (Nat.le_refl _) _⟩

theorem mul_bad (a b : Int) (hs : [a, b].all am = false) (w : World) :
    Calls Try.prog 13 #[.int .i64 a, .int .i64 b] w fun e w' => e = .returned (.tuple #[.int .i64 0, .int .i64 4]) ∧ Below w.heap.size w w' := by
  go_enter Try.func13, Try.ntmps13
  go_wp2_with (go_at_call 9; refine (check_bad _ _ [a, b] (by simp) hs _ (rd_two w a b)).mono ?_; rintro e w' ⟨rfl, rfl⟩)
  go_ret2
  exact ⟨rfl, (Below.refl _ _).alloc (Nat.le_refl _) _⟩

theorem mul_zero_ok (a : Int) (hs : [a, 0].all am = true) (w : World) :
    Calls Try.prog 13 #[.int .i64 a, .int .i64 0] w fun e w' => e = .returned (.tuple #[.int .i64 0, .int .i64 0]) ∧ Below w.heap.size w w' := by
  have hab := two_iff.1 hs
  have HS := Lib.hid hs
  clear hs
  go_enter Try.func13, Try.ntmps13
  go_wp2_with (go_at_call 9; refine (check_ok _ _ [a, 0] (by simp) HS.out _ (rd_two w a 0)).mono ?_; rintro e w' ⟨rfl, rfl⟩)
  go_ret2
  exact ⟨rfl, (Below.refl _ _).alloc (Nat.le_refl _) _⟩

theorem mul_over (a b : Int) (hs : [a, b].all am = true) (hb : 1 ≤ b) (h : 1099511627776 / b < a) (w : World) :
    Calls Try.prog 13 #[.int .i64 a, .int .i64 b] w fun e w' => e = .returned (.tuple #[.int .i64 0, .int .i64 15]) ∧ Below w.heap.size w w' := by
  have hab := two_iff.1 hs
  have HS := Lib.hid hs
  have hq : IntKind.i64.wrap ((1099511627776 : Int).tdiv b) = 1099511627776 / b := IntWalk.i64_quo _ _ (by omega)
  have hb0 : 0 < b := hb
  have hbn : (b == 0) = false := beq_eq_false_iff_ne.2 (by omega)
  clear hs
  go_enter Try.func13, Try.ntmps13
  go_wp2_with (go_at_call 9; refine (check_ok _ _ [a, b] (by simp) HS.out _ (rd_two w a b)).mono ?_; rintro e w' ⟨rfl, rfl⟩)
  go_ret2
  exact ⟨rfl, (Below.refl _ _).alloc (Nat.le_refl _) _⟩

theorem mul_le {a b M : Int} (hb : 1 ≤ b) (h : a ≤ M / b) : a * b ≤ M :=
  Int.le_trans (Int.mul_le_mul_of_nonneg_right h (by omega)) (Int.ediv_mul_le M (by omega))

theorem mul_ok (a b : Int) (hs : [a, b].all am = true) (hb : 1 ≤ b) (h : a ≤ 1099511627776 / b) (w : World) :
    Calls Try.prog 13 #[.int .i64 a, .int .i64 b] w fun e w' => e = .returned (.tuple #[.int .i64 (a * b), .int .i64 0]) ∧ Below w.heap.size w w' := by
  have hab := two_iff.1 hs
  have HS := Lib.hid hs
  have hq : IntKind.i64.wrap ((1099511627776 : Int).tdiv b) = 1099511627776 / b := IntWalk.i64_quo _ _ (by omega)
  have hb0 : 0 < b := hb
  have hbn : (b == 0) = false := beq_eq_false_iff_ne.2 (by omega)
  have hm : 0 ≤ a * b := Int.mul_nonneg hab.1.1 hab.2.1
  have hm2 : a * b ≤ 1099511627776 := mul_le hb h
  have hmw : IntKind.i64.wrap (a * b) = a * b := IntWalk.i64_in _ (by omega)
  clear hs
  go_enter Try.func13, Try.ntmps13
  go_wp2_with (go_at_call 9; refine (check_ok _ _ [a, b] (by simp) HS.out _ (rd_two w a b)).mono ?_; rintro e w' ⟨rfl, rfl⟩)
  go_ret2
  exact ⟨rfl, (Below.refl _ _).alloc (Nat.le_refl _) _⟩

/-- The least of all. -/
def least : List Int → Int
  | [] => 0
  | z :: zs => zs.foldl min z

theorem least_take {zs : List Int} {k : Nat} {z : Int} (h : zs[k]? = some z) (hk : 1 ≤ k) : least (zs.take (k + 1)) = min (least (zs.take k)) z := by
  rcases zs with _ | ⟨y, ys⟩
  · simp at h
  · obtain ⟨k, rfl⟩ : ∃ j, k = j + 1 := ⟨k - 1, by omega⟩
    obtain ⟨hk', rfl⟩ := List.getElem?_eq_some_iff.1 h
    simp only [List.length_cons, Nat.add_lt_add_iff_right] at hk'
    simp only [List.take_succ_cons, least, List.getElem_cons_succ]
    rw [List.take_succ_eq_append_getElem hk', List.foldl_append]
    rfl

theorem least_one {zs : List Int} {z : Int} (h : zs[0]? = some z) : least (zs.take 1) = z := by
  rcases zs with _ | ⟨y, ys⟩
  · simp at h
  · simp at h; subst h; rfl

theorem min_any (A : Option Addr) (c : Nat) (zs : List Int) (h1 : 1 ≤ zs.length) (hl : zs.length ≤ 17592186044416) (w : World) (hr : RdI w A zs) :
    Calls Try.prog 15 #[.slice A zs.length c] w fun e w' => e = .returned (.int .i64 (least zs)) ∧ w = w' := by
  have g1 : decide ((zs.length : Int) < 1) = false := by simp; omega
  obtain ⟨b, off, z0, rfl, hb, hc0, HZ0⟩ := hr.at_ (k := 0) (by omega)
  rw [Nat.add_zero] at hc0
  go_enter Try.func15, Try.ntmps15
  go_wp2
  go_loop [3, 4] (fun t i => ∃ (k : Nat), 1 ≤ k ∧ k ≤ zs.length ∧ i = .int .i64 k ∧ t = .int .i64 (least (zs.take k))) (fun _ i => zs.length - (intOf i).toNat)
  case atStart => exact ⟨1, by omega, h1, rfl, by rw [least_one HZ0.out]⟩
  case round =>
    obtain ⟨k, hk1, hk, rfl, rfl⟩ := hrel
    by_cases hlt : k < zs.length
    · obtain ⟨b, off, z, e, hb, hc, HZ⟩ := hr.at_ hlt
      cases e
      have HL := Lib.hid (least_take HZ.out hk1)
      generalize least (zs.take k) = s at HL ⊢
      go_wp2
      go_round
      case rel => exact ⟨k + 1, by omega, by omega, by go_num, by rw [HL.out]; congr 1; split <;> omega⟩
      case measure => simp [intOf]; omega
    · obtain rfl : k = zs.length := by omega
      rw [List.take_length]
      go_wp2
      go_ret
      exact ⟨rfl, rfl⟩

theorem least_none (A : Option Addr) (c : Nat) (w : World) :
    Calls Try.prog 14 #[.slice A 0 c] w fun e w' => e = .returned (.tuple #[.int .i64 0, .int .i64 3]) ∧ w = w' := by
  go_enter Try.func14, Try.ntmps14
  go_wp2
  go_ret2
  exact ⟨rfl, rfl⟩

theorem least_bad (A : Option Addr) (c : Nat) (zs : List Int) (h1 : 1 ≤ zs.length) (hl : zs.length ≤ 17592186044416) (hs : zs.all am = false) (w : World) (hr : RdI w A zs) :
    Calls Try.prog 14 #[.slice A zs.length c] w fun e w' => e = .returned (.tuple #[.int .i64 0, .int .i64 4]) ∧ w = w' := by
  have g1 : ((zs.length : Int) == 0) = false := beq_eq_false_iff_ne.2 (by omega)
  go_enter Try.func14, Try.ntmps14
  go_wp2_with (go_at_call 9; refine (check_bad A c zs hl hs w hr).mono ?_; rintro e w' ⟨rfl, rfl⟩)
  go_ret2
  exact ⟨rfl, rfl⟩

theorem least_ok (A : Option Addr) (c : Nat) (zs : List Int) (h1 : 1 ≤ zs.length) (hl : zs.length ≤ 17592186044416) (hs : zs.all am = true) (w : World) (hr : RdI w A zs) :
    Calls Try.prog 14 #[.slice A zs.length c] w fun e w' => e = .returned (.tuple #[.int .i64 (least zs), .int .i64 0]) ∧ w = w' := by
  have g1 : ((zs.length : Int) == 0) = false := beq_eq_false_iff_ne.2 (by omega)
  go_enter Try.func14, Try.ntmps14
  go_wp2_with (first
    | (go_at_call 9; refine (check_ok A c zs hl hs w hr).mono ?_; rintro e w' ⟨rfl, rfl⟩)
    | (go_at_call 15; refine (min_any A c zs h1 hl w hr).mono ?_; rintro e w' ⟨rfl, rfl⟩))
  go_ret2
  exact ⟨rfl, rfl⟩

theorem alive_any (w : World) : Calls Try.prog 11 #[] w fun e w' => e = .returned (.bool true) ∧ Below w.heap.size w w' := by
  have k1 : [(1 : Int), 2].all am = true := by decide
  go_enter Try.func11, Try.ntmps11
  go_wp2_with fail
  refine (sub_under 1 2 k1 (by omega) w).mono ?_
  rintro e w1 ⟨rfl, hB⟩
  go_wp2_with (first
    | (go_at_call 6; refine (add_ok _ _ [1, 2] (by simp) k1 _ (rd_two w1 1 2)).mono ?_; rintro e w2 ⟨rfl, rfl⟩)
    | (go_at_call 8; refine (num_any _ _).mono ?_; rintro e w' ⟨rfl, rfl⟩))
  go_ret
  exact ⟨rfl, hB.alloc hB.size _⟩

end Go.Proofs.Ytibjhbejjjkoaaa
