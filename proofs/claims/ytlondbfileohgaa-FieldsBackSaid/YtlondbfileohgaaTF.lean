/-
  FieldsBack returns true. Conditions: what the form's reach gives of lengths.
-/
import Derived.Test.YtlondbfileohgaaTD
namespace Go.Proofs.Ytlondbfileohgaa
open Go.ChangeShapes Go.WideShapes Go.ChangeAt Go.RowKit

theorem fit_len {ss : List ByteArray} (h : fit ss = true) : ∀ s ∈ ss, s.size ≤ maxLen := fun s hs => by
  have := List.all_eq_true.1 h s hs
  simp at this
  unfold maxLen
  omega

/-- What is written is read. -/
theorem read_back (ss : List ByteArray) (h : wrE ss = 0) (B : Option Addr) (d : Nat) (hd : (wr ss).length ≤ d) (w : World) (hr : RdB w B (wr ss)) :
    Calls Try.prog 9 #[.slice B (wr ss).length d] w fun e w' => ∃ B' d', e = .returned (ansS B' ss.length d' 0) ∧ RdS w' B' ss ∧ Below w.heap.size w w' := by
  have hle : (wr ss).length ≤ 4611686018427387904 := by
    have := wk_le (wrE_ok.1 h).2 ss.length (Nat.le_refl _) (wrE_ok.1 h).1
    rw [wk_all] at this
    omega
  have := read_any B d (wr ss) hd hle (wr_octs ss) w hr
  have e : rd (wr ss) = (0, ss) := by
    have := rd_wr ss h []
    simpa using this
  rw [e] at this
  exact this

/-- What is read is written. -/
theorem write_back (zs : List Int) (ho : Octs zs) (h : (rd zs).1 = 0) (B : Option Addr) (d : Nat) (w : World) (hr : RdS w B (rd zs).2) :
    Calls Try.prog 7 #[.slice B (rd zs).2.length d] w fun e w' => ∃ B' d', e = .returned (ansB B' zs.length d' 0) ∧ RdB w' B' zs ∧ Below w.heap.size w w' := by
  obtain ⟨h1, h2⟩ := rd_ok zs ho h
  obtain ⟨h3, h4⟩ := wrE_ok.1 h2
  have := write_fits B d (rd zs).2 h3 h4 w hr
  rw [h1] at this
  refine this.mono ?_
  rintro e w' ⟨B', d', rfl, hr', _, _, hB⟩
  exact ⟨B', d', rfl, hr', hB⟩

set_option maxHeartbeats 2000000 in
theorem back_walk (A : Option Addr) (c : Nat) (ss : List ByteArray) (hl : ss.length ≤ 8796093022208) (hm : ∀ s ∈ ss, s.size ≤ maxLen) (D : Option Addr) (d : Nat) (zs : List Int) (hd : zs.length ≤ d) (hz : zs.length ≤ 140737488351232) (ho : Octs zs) (w : World) (hA : RdS w A ss) (hD : RdB w D zs) :
    Calls Try.prog 4 #[.slice A ss.length c, .slice D zs.length d] w fun e w' => e = .returned (.bool true) ∧ Below w.heap.size w w' := by
  have HAL := Lib.hid alive_any
  have HA := Lib.hid hA
  have HD := Lib.hid hD
  have HW := Lib.hid fun w h => write_any A c ss hl hm w h
  have HB := Lib.hid fun h => read_back ss h
  have HR := Lib.hid fun w h => read_any D d zs hd (by omega) ho w h
  have HC := Lib.hid fun h => write_back zs ho h
  have HN := Lib.hid (rd_no zs)
  have HT := Lib.hid fun A B c d w h1 h2 => texts_one A B c d ss hl w h1 h2
  have hWE : wrE ss = 0 → wrB ss = wr ss := fun h => by simp [wrB, h]
  have HWE := Lib.hid hWE
  have hlr : (rd zs).2.length ≤ 1024 := by
    by_cases h : (rd zs).1 = 0
    · exact (wrE_ok.1 (rd_ok zs ho h).2).1
    · rw [rd_no zs h]; simp
  clear hA hD hm ho hWE
  generalize rd zs = R at *
  obtain ⟨er, ts⟩ := R
  dsimp only at HR HC HN hlr
  generalize wrE ss = ew at *
  generalize wrB ss = zb at *
  generalize wr ss = zw at *
  go_enter Try.func4, Try.ntmps4
  go_wp2_with fail
  refine (HAL.out _).mono ?_
  rintro e w1 ⟨rfl, hB1⟩
  go_wp2_with fail
  refine (HW.out w1 (HA.out.below hB1)).mono ?_
  rintro e w2 ⟨B2, d2, rfl, hr2, hd2, hn2, hBw2⟩
  have hB2 : Below w.heap.size w w2 := hB1.trans (hBw2.mono hB1.size)
  have HR2 := Lib.hid hr2
  clear hr2 hn2 hBw2 hB1 HW HAL
  unfold ansB
  by_cases he : ew = 0
  · obtain rfl := HWE.out he
    have HB2 := Lib.hid (HB.out he)
    subst he
    clear HB HWE
    go_wp2_with (refine (num_any _ _).mono ?_; rintro e w' ⟨rfl, rfl⟩)
    refine (HB2.out B2 d2 hd2 w2 HR2.out).mono ?_
    rintro e w3 ⟨B3, d3, rfl, hr3, hBw3⟩
    have hB3 : Below w.heap.size w w3 := hB2.trans (hBw3.mono hB2.size)
    have HR3 := Lib.hid hr3
    clear hr3 hBw3 hB2 HB2 HR2
    unfold ansS
    go_wp2_with (first
      | (go_at_call 14; refine (num_any _ _).mono ?_; rintro e w' ⟨rfl, rfl⟩)
      | (go_at_call 15; refine (HT.out A B3 c d3 w3 (HA.out.below hB3) HR3.out).mono ?_; rintro e w4 ⟨rfl, hBw4⟩))
    have hB4 : Below w.heap.size w w4 := hB3.trans (hBw4.mono hB3.size)
    clear hBw4 hB3 HR3 HT
    refine (HR.out w4 (Rd.below HD.out hB4)).mono ?_
    rintro e w5 ⟨B5, d5, rfl, hr5, hBw5⟩
    have hB5 : Below w.heap.size w w5 := hB4.trans (hBw5.mono hB4.size)
    have HR5 := Lib.hid hr5
    clear hr5 hBw5 hB4 HR
    unfold ansS
    by_cases h0 : er = 0
    · have HC2 := Lib.hid (HC.out h0)
      subst h0
      clear HC HN
      go_wp2_with (refine (num_any _ _).mono ?_; rintro e w' ⟨rfl, rfl⟩)
      refine (HC2.out B5 d5 w5 HR5.out).mono ?_
      rintro e w6 ⟨B6, d6, rfl, hr6, hBw6⟩
      have hB6 : Below w.heap.size w w6 := hB5.trans (hBw6.mono hB5.size)
      have hcv := run_string_rd (P := Try.prog) w6 23 5 9 Try.underlying23 Try.underlying5 Try.underlying9 _ _ d6 hr6
      have hcw := run_string_rd (P := Try.prog) w6 23 5 9 Try.underlying23 Try.underlying5 Try.underlying9 _ _ d (Rd.below HD.out hB6)
      generalize strOfNums zs = sz at *
      clear hr6 hBw6 HC2 HR5
      unfold ansB
      go_wp2_with (refine (num_any _ _).mono ?_; rintro e w' ⟨rfl, rfl⟩)
      go_ret
      exact ⟨rfl, hB6⟩
    · have g : (er == 0) = false := beq_eq_false_iff_ne.2 h0
      have hts := HN.out h0
      subst hts
      clear HC HN
      go_wp2_with (refine (num_any _ _).mono ?_; rintro e w' ⟨rfl, rfl⟩)
      go_ret
      exact ⟨rfl, hB5⟩
  · have ge : (ew == 0) = false := beq_eq_false_iff_ne.2 he
    clear HB HWE HT HR2
    go_wp2_with (refine (num_any _ _).mono ?_; rintro e w' ⟨rfl, rfl⟩)
    refine (HR.out w2 (Rd.below HD.out hB2)).mono ?_
    rintro e w5 ⟨B5, d5, rfl, hr5, hBw5⟩
    have hB5 : Below w.heap.size w w5 := hB2.trans (hBw5.mono hB2.size)
    have HR5 := Lib.hid hr5
    clear hr5 hBw5 hB2 HR
    unfold ansS
    by_cases h0 : er = 0
    · have HC2 := Lib.hid (HC.out h0)
      subst h0
      clear HC HN
      go_wp2_with (refine (num_any _ _).mono ?_; rintro e w' ⟨rfl, rfl⟩)
      refine (HC2.out B5 d5 w5 HR5.out).mono ?_
      rintro e w6 ⟨B6, d6, rfl, hr6, hBw6⟩
      have hB6 : Below w.heap.size w w6 := hB5.trans (hBw6.mono hB5.size)
      have hcv := run_string_rd (P := Try.prog) w6 23 5 9 Try.underlying23 Try.underlying5 Try.underlying9 _ _ d6 hr6
      have hcw := run_string_rd (P := Try.prog) w6 23 5 9 Try.underlying23 Try.underlying5 Try.underlying9 _ _ d (Rd.below HD.out hB6)
      generalize strOfNums zs = sz at *
      clear hr6 hBw6 HC2 HR5
      unfold ansB
      go_wp2_with (refine (num_any _ _).mono ?_; rintro e w' ⟨rfl, rfl⟩)
      go_ret
      exact ⟨rfl, hB6⟩
    · have g : (er == 0) = false := beq_eq_false_iff_ne.2 h0
      have hts := HN.out h0
      subst hts
      clear HC HN
      go_wp2_with (refine (num_any _ _).mono ?_; rintro e w' ⟨rfl, rfl⟩)
      go_ret
      exact ⟨rfl, hB5⟩

end Go.Proofs.Ytlondbfileohgaa
