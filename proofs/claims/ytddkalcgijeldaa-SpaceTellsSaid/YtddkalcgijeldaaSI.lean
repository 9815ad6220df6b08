/-
  SpaceTells' walk. Conditions: at most 2^44 numbers, each a machine's.
-/
import Derived.Test.YtddkalcgijeldaaSH
namespace Go.Proofs.Ytddkalcgijeldaa
open Go.ChangeShapes Go.WideShapes Go.ChangeAt Go.RowKit Go.Maps

theorem ints_len (A B : Option Addr) (c d n m : Nat) (zs : List Int) (hn : zs.length = n) (hm : zs.length = m) (hl : n ≤ 17592186044416) (w : World) (ha : RdI w A zs) (hb : RdI w B zs) :
    Calls Try.prog 22 #[.slice A n c, .slice B m d] w fun e w' => e = .returned (.bool true) ∧ Below w.heap.size w w' := by
  subst hn
  subst hm
  exact ints_true A B c d zs hl w ha hb

set_option maxRecDepth 100000 in
set_option maxHeartbeats 1000000 in
theorem tells7_no (t : Int) (A : Option Addr) (c : Nat) (zs : List Int) (n : Int) (hl : zs.length ≤ 17592186044416) (hcap : zs.length ≤ c) (hn : chk t zs ≠ 0) (w : World) (hr : RdI w A zs) :
    Calls Try.prog 7 #[.int .i64 t, .slice A zs.length c, .int .i64 n] w fun e w' => e = .returned (.bool true) ∧ Below w.heap.size w w' := by
  have ht : tk t zs n = chk t zs := by unfold tk; rw [if_pos hn]
  have H1 := Lib.hid (fun W (h : RdI W A zs) => free_no t A c zs hl hn W h)
  have H2 := Lib.hid (fun W (h : RdI W A zs) => rfree_no t A c zs hl hcap hn W h)
  have H3 := Lib.hid (fun W (h : RdI W A zs) => ht ▸ take_no t A c zs n hl (ht.symm ▸ hn) W h)
  have H4 := Lib.hid (fun W (h : RdI W A zs) => check_any t A c zs hl W h)
  have HR := Lib.hid hr
  clear hr ht
  generalize chk t zs = r at *
  have hr1 : (r == 0) = false := by simpa using hn
  have hr2 : (r != 0) = true := by simpa using hn
  go_enter Try.func7, Try.ntmps7
  go_wp2_with fail
  refine (H1.out w HR.out).mono ?_
  rintro e w1 ⟨rfl, hB1⟩
  go_wp2_with fail
  refine (H2.out w1 (RdI.below HR.out hB1)).mono ?_
  rintro e w2 ⟨rfl, hb2⟩
  have hB2 : Below w.heap.size w w2 := hB1.trans (hb2.mono hB1.size)
  clear hB1 hb2
  go_wp2_with fail
  refine (H3.out w2 (RdI.below HR.out hB2)).mono ?_
  rintro e w3 ⟨rfl, hb3⟩
  have hB3 : Below w.heap.size w w3 := hB2.trans (hb3.mono hB2.size)
  clear hB2 hb3
  go_wp2_with fail
  refine (ints_len none none 0 0 0 0 [] rfl rfl (by omega) w3 (RdI.nil _ _) (RdI.nil _ _)).mono ?_
  rintro e w4 ⟨rfl, hb4⟩
  have hB4 : Below w.heap.size w w4 := hB3.trans (hb4.mono hB3.size)
  clear hB3 hb4
  go_wp2_with (first
    | (go_at_call 23; refine (num7_any _ _).mono ?_; rintro e w' ⟨rfl, rfl⟩)
    | (go_at_call 24; refine (H4.out w4 (RdI.below HR.out hB4)).mono ?_; rintro e w5 ⟨rfl, hb5⟩; have hB5 : Below w.heap.size w w5 := hB4.trans (hb5.mono hB4.size); clear hB4 hb5)
    | (go_at_call 25; refine (alive7 _).mono ?_; rintro e w6 ⟨rfl, hb6⟩))
  go_ret
  exact ⟨rfl, hB5.trans (hb6.mono hB5.size)⟩

set_option maxRecDepth 100000 in
set_option maxHeartbeats 2000000 in
theorem tells7_bad (t : Int) (A : Option Addr) (c : Nat) (zs : List Int) (n : Int) (hl : zs.length ≤ 17592186044416) (hcap : zs.length ≤ c) (hn : chk t zs = 0) (h0 : tk t zs n ≠ 0) (w : World) (hr : RdI w A zs) :
    Calls Try.prog 7 #[.int .i64 t, .slice A zs.length c, .int .i64 n] w fun e w' => e = .returned (.bool true) ∧ Below w.heap.size w w' := by
  have hfl : (freeL t zs).length ≤ 17592186044416 := Nat.le_trans (length_free_le t zs) (by have := (chk_ok.1 hn).1; omega)
  have hcase : (n < 0 ∧ tk t zs n = 4) ∨ (0 ≤ n ∧ (freeL t zs).length < n ∧ tk t zs n = 17) := by
    unfold tk at h0 ⊢
    rw [if_neg (by simpa using hn)] at h0 ⊢
    by_cases h1 : n < 0
    · rw [if_pos h1]; exact .inl ⟨h1, rfl⟩
    · rw [if_neg h1] at h0 ⊢
      by_cases h2 : ((freeL t zs).length : Int) < n
      · rw [if_pos h2]; exact .inr ⟨by omega, h2, rfl⟩
      · rw [if_neg h2] at h0; exact absurd rfl h0
  have H1 := Lib.hid (fun W (h : RdI W A zs) => free_ok t A c zs hl hn W h)
  have H2 := Lib.hid (fun W (h : RdI W A zs) => rfree_ok t A c zs hl hcap hn W h)
  have H3 := Lib.hid (fun W (h : RdI W A zs) => take_no t A c zs n hl h0 W h)
  have H4 := Lib.hid (fun W (h : RdI W A zs) => hn ▸ check_any t A c zs hl W h)
  have HR := Lib.hid hr
  clear hr hn h0
  generalize tk t zs n = r at *
  generalize freeL t zs = L at *
  rcases hcase with ⟨hn0, rfl⟩ | ⟨hn0, hn1, rfl⟩
  all_goals
    go_enter Try.func7, Try.ntmps7
    go_wp2_with fail
    refine (H1.out w HR.out).mono ?_
    rintro e w1 ⟨B, d, rfl, hd, -, HL, hB1⟩
    go_wp2_with fail
    refine (H2.out w1 (RdI.below HR.out hB1)).mono ?_
    rintro e w2 ⟨B', d', rfl, hd', HL', hb2⟩
    have HL2 := Lib.hid (RdI.below HL.out hb2)
    have hB2 : Below w.heap.size w w2 := hB1.trans (hb2.mono hB1.size)
    clear hB1 hb2 HL
    go_wp2_with fail
    refine (H3.out w2 (RdI.below HR.out hB2)).mono ?_
    rintro e w3 ⟨rfl, hb3⟩
    have HL3 := Lib.hid (RdI.below HL2.out hb3)
    have HL4 := Lib.hid (RdI.below HL'.out hb3)
    have hB3 : Below w.heap.size w w3 := hB2.trans (hb3.mono hB2.size)
    clear hB2 hb3 HL2 HL'
    go_wp2_with fail
    refine (ints_len B B' d d' _ _ L rfl rfl hfl w3 HL3.out HL4.out).mono ?_
    rintro e w4 ⟨rfl, hb4⟩
    have hB4 : Below w.heap.size w w4 := hB3.trans (hb4.mono hB3.size)
    clear hB3 hb4
    go_wp2_with (first
      | (go_at_call 23; refine (num7_any _ _).mono ?_; rintro e w' ⟨rfl, rfl⟩)
      | (go_at_call 24; refine (H4.out w4 (RdI.below HR.out hB4)).mono ?_; rintro e w5 ⟨rfl, hb5⟩; have hB5 : Below w.heap.size w w5 := hB4.trans (hb5.mono hB4.size); clear hB4 hb5)
      | (go_at_call 25; refine (alive7 _).mono ?_; rintro e w6 ⟨rfl, hb6⟩))
    go_ret
    exact ⟨rfl, hB5.trans (hb6.mono hB5.size)⟩

set_option maxRecDepth 100000 in
set_option maxHeartbeats 2000000 in
theorem tells7_ok (t : Int) (A : Option Addr) (c : Nat) (zs : List Int) (n : Nat) (hl : zs.length ≤ 17592186044416) (hcap : zs.length ≤ c) (h0 : tk t zs n = 0) (w : World) (hr : RdI w A zs) :
    Calls Try.prog 7 #[.int .i64 t, .slice A zs.length c, .int .i64 n] w fun e w' => e = .returned (.bool true) ∧ Below w.heap.size w w' := by
  obtain ⟨hn, _, hle0⟩ := tk_ok.1 h0
  have hle : n ≤ (freeL t zs).length := by omega
  have hfl : (freeL t zs).length ≤ 17592186044416 := Nat.le_trans (length_free_le t zs) (by have := (chk_ok.1 hn).1; omega)
  have H1 := Lib.hid (fun W (h : RdI W A zs) => free_ok t A c zs hl hn W h)
  have H2 := Lib.hid (fun W (h : RdI W A zs) => rfree_ok t A c zs hl hcap hn W h)
  have H3 := Lib.hid (fun W (h : RdI W A zs) => take_ok t A c zs n hl h0 W h)
  have H4 := Lib.hid (fun W (h : RdI W A zs) => hn ▸ check_any t A c zs hl W h)
  have HR := Lib.hid hr
  clear hr hn h0 hle0
  generalize freeL t zs = L at *
  go_enter Try.func7, Try.ntmps7
  go_wp2_with fail
  refine (H1.out w HR.out).mono ?_
  rintro e w1 ⟨B, d, rfl, hd, -, HL, hB1⟩
  go_wp2_with fail
  refine (H2.out w1 (RdI.below HR.out hB1)).mono ?_
  rintro e w2 ⟨B', d', rfl, hd', HL', hb2⟩
  have HL2 := Lib.hid (RdI.below HL.out hb2)
  have hB2 : Below w.heap.size w w2 := hB1.trans (hb2.mono hB1.size)
  clear hB1 hb2 HL
  go_wp2_with fail
  refine (H3.out w2 (RdI.below HR.out hB2)).mono ?_
  rintro e w3 ⟨B3, d3, rfl, hd3, -, HL5, hb3⟩
  have HL3 := Lib.hid (RdI.below HL2.out hb3)
  have HL4 := Lib.hid (RdI.below HL'.out hb3)
  have hB3 : Below w.heap.size w w3 := hB2.trans (hb3.mono hB2.size)
  clear hB2 hb3 HL2 HL'
  go_wp2_with fail
  refine (ints_len B B' d d' _ _ L rfl rfl hfl w3 HL3.out HL4.out).mono ?_
  rintro e w4 ⟨rfl, hb4⟩
  have hB4 : Below w.heap.size w w4 := hB3.trans (hb4.mono hB3.size)
  have HL6 := Lib.hid (RdI.below HL5.out hb4)
  have HL7 := Lib.hid (RdI.below (RdI.take HL4.out n) hb4)
  have hnd : n ≤ d' := by omega
  have hck : decide (d' < n) = false := decide_eq_false (by omega)
  clear hB3 hb4 HL5 HL4
  go_wp2_with (first
    | (go_at_call 23; refine (num7_any _ _).mono ?_; rintro e w' ⟨rfl, rfl⟩)
    | (go_at_call 24; refine (H4.out w4 (RdI.below HR.out hB4)).mono ?_; rintro e w5 ⟨rfl, hb5⟩; have hB5 : Below w.heap.size w w5 := hB4.trans (hb5.mono hB4.size); have HL8 := Lib.hid (RdI.below HL6.out hb5); have HL9 := Lib.hid (RdI.below HL7.out hb5); clear hB4 hb5)
    | (go_at_call 22; refine (ints_len B3 B' d3 d' n n (L.take n) (by simp; omega) (by simp; omega) (by omega) w5 HL8.out HL9.out).mono ?_; rintro e w6 ⟨rfl, hb6⟩; have hB6 : Below w.heap.size w w6 := hB5.trans (hb6.mono hB5.size); clear hB5 hb6)
    | (go_at_call 25; refine (alive7 _).mono ?_; rintro e w7 ⟨rfl, hb7⟩))
  go_ret
  exact ⟨rfl, hB6.trans (hb7.mono hB6.size)⟩

theorem tells7_walk (t : Int) (A : Option Addr) (c : Nat) (zs : List Int) (n : Int) (hl : zs.length ≤ 17592186044416) (hcap : zs.length ≤ c) (w : World) (hr : RdI w A zs) :
    Calls Try.prog 7 #[.int .i64 t, .slice A zs.length c, .int .i64 n] w fun e w' => e = .returned (.bool true) ∧ Below w.heap.size w w' := by
  by_cases h1 : chk t zs = 0
  · by_cases h2 : tk t zs n = 0
    · obtain ⟨_, h3, _⟩ := tk_ok.1 h2
      obtain ⟨k, rfl⟩ := Int.eq_ofNat_of_zero_le h3
      exact tells7_ok t A c zs k hl hcap h2 w hr
    · exact tells7_bad t A c zs n hl hcap h1 h2 w hr
  · exact tells7_no t A c zs n hl hcap h1 w hr

end Go.Proofs.Ytddkalcgijeldaa
