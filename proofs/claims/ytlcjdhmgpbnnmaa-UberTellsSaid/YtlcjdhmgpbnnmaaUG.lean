/-
  num, alive of the law of uber; UberTells' walk. Conditions: the slice is one that may be.
-/
import Derived.Test.YtlcjdhmgpbnnmaaUE
import Derived.Test.YtlcjdhmgpbnnmaaUF
namespace Go.Proofs.Ytlcjdhmgpbnnmaa
open Go.ChangeShapes Go.WideShapes Go.ChangeAt Go.RowKit

theorem num_any (n : Int) (w : World) :
    Calls Try.prog 11 #[.int .i64 n] w fun e w' => e = .returned (.int .i64 n) ∧ w = w' := by
  go_enter Try.func11, Try.ntmps11
  go_wp2
  go_ret
  exact ⟨rfl, rfl⟩

/-- What Encode lays. -/
def Ub.enc (u : Ub) : List Int := if u.ok then u.octs else []
theorem encode_uni (u : Ub) (w : World) :
    Calls Try.prog 7 #[u.val] w fun e w' => ∃ A c, e = .returned (.tuple #[.slice A u.enc.length c, .int .i64 u.err]) ∧ RdB w' A u.enc ∧ u.enc.length ≤ c ∧ Below w.heap.size w w' := by
  rcases h : u.ok with _ | _
  · refine (encode_no u h w).mono ?_
    rintro e w' ⟨rfl, hB⟩
    have he : u.enc = [] := by simp [Ub.enc, h]
    rw [he, Ub.err_no h]
    exact ⟨none, 0, rfl, RdB.nil _ _, by simp, hB⟩
  · refine (encode_ok u h w).mono ?_
    rintro e w' ⟨v, rfl, hown, hB⟩
    have he : u.enc = u.octs := by simp [Ub.enc, h]
    obtain ⟨A, c, rfl, hc, hr⟩ := own_slice hown
    rw [he, Ub.err_ok h, u.octs_length]
    exact ⟨A, c, rfl, hr, hc, hB⟩
theorem refEncode_uni (u : Ub) (w : World) :
    Calls Try.prog 8 #[u.val] w fun e w' => ∃ A c, e = .returned (.tuple #[.slice A u.enc.length c, .int .i64 u.err]) ∧ RdB w' A u.enc ∧ Below w.heap.size w w' := by
  rcases h : u.ok with _ | _
  · refine (refEncode_no u h w).mono ?_
    rintro e w' ⟨rfl, hB⟩
    have he : u.enc = [] := by simp [Ub.enc, h]
    rw [he, Ub.err_no h]
    exact ⟨none, 0, rfl, RdB.nil _ _, hB⟩
  · refine (refEncode_ok u h w).mono ?_
    rintro e w' ⟨A, c, rfl, hr, hB⟩
    have he : u.enc = u.octs := by simp [Ub.enc, h]
    rw [he, Ub.err_ok h, u.octs_length]
    exact ⟨A, c, rfl, hr, hB⟩

def ub3 : Ub := ⟨3, 0, 0⟩
theorem enc3 : ub3.err = 0 ∧ ub3.enc.length = 64 := by
  have h : ub3.ok = true := by decide
  exact ⟨Ub.err_ok h, by simp [Ub.enc, h, Ub.octs_length]⟩

set_option maxHeartbeats 400000 in
theorem alive_any (w : World) : Calls Try.prog 14 #[] w fun e w' => e = .returned (.bool true) ∧ Below w.heap.size w w' := by
  have h1 := encode_uni ub3
  rw [enc3.1, enc3.2] at h1
  have HE := Lib.hid h1
  have h2 := slot_any ub3
  have HS := Lib.hid h2
  clear h1 h2
  unfold ub3 at HE HS
  go_enter Try.func14, Try.ntmps14
  go_wp2_with (first
    | (go_at_call 7; refine (HE.out _).mono ?_; rintro e w1 ⟨A, c, rfl, _, _, hB1⟩)
    | (go_at_call 11; refine (num_any _ _).mono ?_; rintro e w' ⟨rfl, rfl⟩)
    | (go_at_call 13; refine (HS.out _).mono ?_; rintro e w2 ⟨rfl, hB2⟩))
  go_ret
  exact ⟨rfl, hB1.trans (hB2.mono hB1.size)⟩

theorem slot_ways (t : Int) : (t.tmod 2 < 0 ∧ t % 2 = 1) ∨ (0 ≤ t.tmod 2 ∧ t.tmod 2 = t % 2) := by
  rcases Int.lt_or_le t 0 with h | h
  · have h1 : t.tmod 2 = -((-t) % 2) := by
      have := Int.neg_tmod (-t) 2
      rw [Int.neg_neg] at this
      rw [this, Int.tmod_eq_emod_of_nonneg (by omega)]
    omega
  · rw [Int.tmod_eq_emod_of_nonneg h]
    omega

set_option maxHeartbeats 2000000 in
set_option maxRecDepth 100000 in
theorem tells_walk (u : Ub) (s : Slc) (w : World) (hs : s.ok w) :
    Calls Try.prog 3 #[u.val, s.val] w fun e w' => e = .returned (.bool true) ∧ Below w.heap.size w w' := by
  have HE := Lib.hid (encode_uni u)
  have HE' := Lib.hid (refEncode_uni u)
  have hd : ∀ (w : World), s.ok w → Calls Try.prog 9 #[s.val] w fun e w' => e = .returned (ansU (ubOf s.zs)) ∧ Below w.heap.size w w' := fun w h => decode_any s.A s.zs.length s.c s.zs rfl h.1 h.2.1 h.2.2.1 w h.2.2.2
  have hd' : ∀ (w : World), s.ok w → Calls Try.prog 10 #[s.val] w fun e w' => e = .returned (ansU (ubOf s.zs)) ∧ Below w.heap.size w w' := fun w h => refDecode_any s.A s.zs.length s.c s.zs rfl h.1 h.2.1 h.2.2.1 w h.2.2.2
  have HD := Lib.hid hd
  have HD' := Lib.hid hd'
  have HCK := Lib.hid (check_any u)
  have HSL := Lib.hid (slot_any u)
  have HS := Lib.hid hs
  have hw := slot_ways u.t
  generalize hen : u.enc = zu at *
  generalize u.err = ue at *
  generalize ubOf s.zs = xx at *
  obtain ⟨⟨t1, f1, o1⟩, e1⟩ := xx
  obtain ⟨t, f, o⟩ := u
  dsimp only at hw HSL
  generalize t % 2 = sl at *
  clear hd hd' hs hen
  go_enter Try.func3, Try.ntmps3
  go_wp2_with fail
  obtain ⟨w0, hw0⟩ : ∃ w0, w.alloc (.cells #[.int .i64 t, .int .i64 f, .int .i64 o] 23) = w0 := ⟨_, rfl⟩
  have hB0 : Below w.heap.size w w0 := hw0 ▸ (Below.refl _ w).alloc (Nat.le_refl _) _
  have kb : Blk w0 w.heap.size 23 [.int .i64 t, .int .i64 f, .int .i64 o] := hw0 ▸ Blk.new w [.int .i64 t, .int .i64 f, .int .i64 o] 23
  rw [hw0]
  clear hw0
  refine (HE.out w0).mono ?_
  rintro e w1 ⟨A1, c1, rfl, hr1, _, hB1⟩
  have kb1 := kb.below hB1 kb.lt
  have hB01 : Below w.heap.size w w1 := hB0.trans (hB1.mono hB0.size)
  have x0 := kb1.cell 0
  have x1 := kb1.cell 1
  have x2 := kb1.cell 2
  simp only [List.getElem?_cons_zero, List.getElem?_cons_succ] at x0 x1 x2
  clear kb hB1 hB0
  go_wp2_with fail
  refine (HE'.out w1).mono ?_
  rintro e w2 ⟨A2, c2, rfl, hr2, hB2⟩
  have kb2 := kb1.below hB2 kb1.lt
  have hB02 : Below w.heap.size w w2 := hB01.trans (hB2.mono hB01.size)
  have hr1' := hr1.below hB2
  clear kb1 hB01 hr1 hB2 x0 x1 x2
  go_wp2_with fail
  refine (HD.out w2 (HS.out.below hB02)).mono ?_
  rintro e w3 ⟨rfl, hB3⟩
  have kb3 := kb2.below hB3 kb2.lt
  have hB03 : Below w.heap.size w w3 := hB02.trans (hB3.mono hB02.size)
  have hr13 := hr1'.below hB3
  have hr23 := hr2.below hB3
  clear kb2 hB02 hr1' hr2 hB3
  go_wp2_with fail
  obtain ⟨w4, hw4⟩ : ∃ w4, w3.alloc (.cells #[.int .i64 t1, .int .i64 f1, .int .i64 o1] 23) = w4 := ⟨_, rfl⟩
  have hB34 : Below w3.heap.size w3 w4 := hw4 ▸ (Below.refl _ w3).alloc (Nat.le_refl _) _
  have kv : Blk w4 w3.heap.size 23 [.int .i64 t1, .int .i64 f1, .int .i64 o1] := hw4 ▸ Blk.new w3 [.int .i64 t1, .int .i64 f1, .int .i64 o1] 23
  have kb4 := kb3.below hB34 kb3.lt
  rw [hw4]
  clear hw4
  have hB04 : Below w.heap.size w w4 := hB03.trans (hB34.mono hB03.size)
  have hr14 := hr13.below hB34
  have hr24 := hr23.below hB34
  clear kb3 hr13 hr23 hB34 hB03
  refine (HD'.out w4 (HS.out.below hB04)).mono ?_
  rintro e w5 ⟨rfl, hB5⟩
  have kb5 := kb4.below hB5 kb4.lt
  have kv5 := kv.below hB5 kv.lt
  have hB05 : Below w.heap.size w w5 := hB04.trans (hB5.mono hB04.size)
  have hr15 := hr14.below hB5
  have hr25 := hr24.below hB5
  clear kb4 hr14 hr24 hB04 kv hB5
  generalize w3.heap.size = V at *
  obtain ⟨w6, hw6⟩ : ∃ w6, w5.alloc (.cells #[.int .i64 t1, .int .i64 f1, .int .i64 o1] 23) = w6 := ⟨_, rfl⟩
  have hB56 : Below w5.heap.size w5 w6 := hw6 ▸ (Below.refl _ w5).alloc (Nat.le_refl _) _
  have kw : Blk w6 w5.heap.size 23 [.int .i64 t1, .int .i64 f1, .int .i64 o1] := hw6 ▸ Blk.new w5 [.int .i64 t1, .int .i64 f1, .int .i64 o1] 23
  have kb6 := kb5.below hB56 kb5.lt
  have kv6 := kv5.below hB56 kv5.lt
  have hB06 : Below w.heap.size w w6 := hB05.trans (hB56.mono hB05.size)
  have hcv := run_string_rd (P := Try.prog) w6 24 5 9 Try.underlying24 Try.underlying5 Try.underlying9 A1 zu c1 (hr15.below hB56)
  have hcw := run_string_rd (P := Try.prog) w6 24 5 9 Try.underlying24 Try.underlying5 Try.underlying9 A2 zu c2 (hr25.below hB56)
  clear kb5 kv5 hB05 hr15 hr25 hB56
  generalize strOfNums zu = sz at *
  generalize zu.length = n at *
  have x0 := kb6.cell 0
  have x1 := kb6.cell 1
  have x2 := kb6.cell 2
  simp only [List.getElem?_cons_zero, List.getElem?_cons_succ] at x0 x1 x2
  have l1 := kb6.lt
  have l2 := kv6.lt
  have l3 := kw.lt
  have HKB := Lib.hid kb6
  have HKV := Lib.hid kv6
  have HKW := Lib.hid kw
  generalize hW : w5.heap.size = W at *
  clear kb6 kv6 kw HE HE' HD HD' HS
  rcases hw with ⟨hm, rfl⟩ | ⟨hm, rfl⟩
  all_goals
    go_wp2_with (first
      | (go_at_call 11; refine (num_any _ _).mono ?_; rintro e w' ⟨rfl, rfl⟩)
      | (go_at_call 12; refine (HCK.out _).mono ?_; rintro e w7 ⟨rfl, hB7⟩
         have kb7 := HKB.out.below hB7 HKB.out.lt
         have kv7 := HKV.out.below hB7 HKV.out.lt
         have kw7 := HKW.out.below hB7 HKW.out.lt
         have hB07 : Below w.heap.size w w7 := hB06.trans (hB7.mono hB06.size)
         have xb0 := kb7.cell 0
         have xb1 := kb7.cell 1
         have xb2 := kb7.cell 2
         have xv0 := kv7.cell 0
         have xv1 := kv7.cell 1
         have xv2 := kv7.cell 2
         have xw0 := kw7.cell 0
         have xw1 := kw7.cell 1
         have xw2 := kw7.cell 2
         simp only [List.getElem?_cons_zero, List.getElem?_cons_succ] at xb0 xb1 xb2 xv0 xv1 xv2 xw0 xw1 xw2
         clear kb7 kv7 kw7 hB7 x0 x1 x2)
      | (go_at_call 13; refine (HSL.out _).mono ?_; rintro e w8 ⟨rfl, hB8⟩)
      | (go_at_call 14; refine (alive_any _).mono ?_; rintro e w9 ⟨rfl, hB9⟩))
    go_ret
    refine ⟨rfl, hB07.trans ((hB8.trans (hB9.mono hB8.size)).mono hB07.size)⟩

end Go.Proofs.Ytlcjdhmgpbnnmaa
