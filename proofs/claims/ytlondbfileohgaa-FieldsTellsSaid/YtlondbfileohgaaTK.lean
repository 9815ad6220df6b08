/-
  FieldsTells returns true. Conditions: what the form's reach gives of lengths.
-/
import Derived.Test.YtlondbfileohgaaTI
import Derived.Test.YtlondbfileohgaaTJ
import Derived.Test.YtlondbfileohgaaTF
namespace Go.Proofs.Ytlondbfileohgaa
open Go.ChangeShapes Go.WideShapes Go.ChangeAt Go.RowKit

theorem numbers2 (n k : Int) (w : World) (t : TypeId) :
    Calls Try.prog 11 #[.slice (some ⟨w.heap.size, 0, none⟩) 2 2] (w.alloc (.cells #[.int .i64 n, .int .i64 k] t)) fun e w' => ∃ b off d, e = .returned (.slice (some ⟨b, off, none⟩) 2 d) ∧ b < w'.heap.size ∧ w'.cell? ⟨b, off, none⟩ = some (.string (numT n)) ∧ w'.cell? ⟨b, off + 1, none⟩ = some (.string (numT k)) ∧ Below w.heap.size w w' := by
  refine (numbers_any (some ⟨w.heap.size, 0, none⟩) 2 [n, k] (by simp) (w.alloc (.cells #[.int .i64 n, .int .i64 k] t)) (rd_lit w t [n, k])).mono ?_
  rintro e w' ⟨v, rfl, hown, hB⟩
  obtain ⟨A, d, rfl, _, hr⟩ := own_slice hown
  obtain ⟨b, off, rfl, hb, hc⟩ := hr (by simp)
  exact ⟨b, off, d, rfl, hb, hc 0 _ rfl, hc 1 _ rfl, ((Below.refl _ w).alloc (Nat.le_refl _) _).trans (hB.mono (by simp))⟩

theorem held2 {W w' : World} {b o p : Nat} {v u : Value} (hb : b < W.heap.size) (hc : W.cell? ⟨b, o, none⟩ = some v) (hd : W.cell? ⟨b, p, none⟩ = some u) (h : Below W.heap.size W w') : w'.cell? ⟨b, o, none⟩ = some v ∧ w'.cell? ⟨b, p, none⟩ = some u ∧ Below W.heap.size W w' :=
  ⟨(h.cell (p := ⟨b, o, none⟩) hb).trans hc, (h.cell (p := ⟨b, p, none⟩) hb).trans hd, h⟩

set_option maxHeartbeats 4000000 in
theorem tells_walk (A : Option Addr) (c : Nat) (ss : List ByteArray) (hl : ss.length ≤ 8796093022208) (hm : ∀ s ∈ ss, s.size ≤ maxLen) (D : Option Addr) (d : Nat) (zs : List Int) (hd : zs.length ≤ d) (hz : zs.length ≤ 140737488351232) (ho : Octs zs) (n : Int) (s : ByteArray) (hs : s.size ≤ 9223372036854775807) (w : World) (hA : RdS w A ss) (hD : RdB w D zs) :
    Calls Try.prog 3 #[.slice A ss.length c, .slice D zs.length d, .int .i64 n, .string s] w fun e w' => e = .returned (.bool true) ∧ Below w.heap.size w w' := by
  have HAL := Lib.hid alive_any
  have HA := Lib.hid hA
  have HD := Lib.hid hD
  have HW := Lib.hid fun w h => write_any A c ss hl hm w h
  have HW' := Lib.hid fun w h => refWrite_any A c ss hl hm w h
  have HR := Lib.hid fun w h => read_any D d zs hd (by omega) ho w h
  have HR' := Lib.hid fun w h => refRead_any D d zs hd (by omega) ho w h
  have HN := Lib.hid (number_any s hs)
  have HN' := Lib.hid (refOf_any s hs)
  have HM := Lib.hid (numbers2 n ss.length)
  have HU := Lib.hid (refNum_any n)
  have HV := Lib.hid (refNum_any ss.length)
  have hlr : (rd zs).2.length ≤ 1024 := by
    by_cases h : (rd zs).1 = 0
    · exact (wrE_ok.1 (rd_ok zs ho h).2).1
    · rw [rd_no zs h]; simp
  clear hA hD hm ho
  generalize rd zs = R at *
  obtain ⟨er, ts⟩ := R
  dsimp only at HR HR' hlr
  have HT := Lib.hid fun A B c d w h1 h2 => texts_one A B c d ts (by omega) w h1 h2
  generalize wrE ss = ew at *
  generalize wrB ss = zb at *
  generalize (numR s).1 = na at *
  generalize (numR s).2 = nb at *
  generalize numT n = tn at *
  generalize numT ss.length = tk at *
  go_enter Try.func3, Try.ntmps3
  go_wp2_with fail
  refine (HW.out w HA.out).mono ?_
  rintro e w1 ⟨B1, d1, rfl, hr1, _, _, hB1⟩
  have HR1 := Lib.hid hr1
  clear hr1 HW
  unfold ansB
  go_wp2_with fail
  refine (HW'.out w1 (HA.out.below hB1)).mono ?_
  rintro e w2 ⟨B2, d2, rfl, hr2, hBw2⟩
  have hB2 : Below w.heap.size w w2 := hB1.trans (hBw2.mono hB1.size)
  have HR1' := Lib.hid (HR1.out.below hBw2)
  have HR2 := Lib.hid hr2
  clear hr2 HW' hBw2 hB1 HR1
  unfold ansB
  go_wp2_with fail
  refine (HR.out w2 (Rd.below HD.out hB2)).mono ?_
  rintro e w3 ⟨B3, d3, rfl, hr3, hBw3⟩
  have hB3 : Below w.heap.size w w3 := hB2.trans (hBw3.mono hB2.size)
  have HR1'' := Lib.hid (HR1'.out.below hBw3)
  have HR2' := Lib.hid (HR2.out.below hBw3)
  have HR3 := Lib.hid hr3
  clear hr3 HR hBw3 hB2 HR1' HR2
  unfold ansS
  go_wp2_with fail
  refine (HR'.out w3 (Rd.below HD.out hB3)).mono ?_
  rintro e w4 ⟨B4, d4, rfl, hr4, hBw4⟩
  have hB4 : Below w.heap.size w w4 := hB3.trans (hBw4.mono hB3.size)
  have HX1 := Lib.hid (HR1''.out.below hBw4)
  have HX2 := Lib.hid (HR2'.out.below hBw4)
  have HX3 := Lib.hid (HR3.out.below hBw4)
  have HX4 := Lib.hid hr4
  clear hr4 HR' hBw4 hB3 HR1'' HR2' HR3
  unfold ansS
  go_wp2_with fail
  refine (HM.out w4 _).mono ?_
  rintro e w5 ⟨b, off, d5, rfl, hb5, hc0, hc1, hBw5⟩
  have hB5 : Below w.heap.size w w5 := hB4.trans (hBw5.mono hB4.size)
  have HX := Lib.hid hBw5
  clear hB4 hBw5 HM
  go_wp2_with fail
  refine (HN.out w5).mono ?_
  rintro e w6 ⟨rfl, hBw6⟩
  have HY := Lib.hid hBw6
  have hs6 := hBw6.size
  clear HN hBw6
  unfold ansN
  go_wp2_with fail
  refine (HN'.out w6).mono ?_
  rintro e w7 ⟨rfl, hBw7⟩
  have hs7 := hBw7.size
  have hx57 : Below w5.heap.size w5 w7 := HY.out.trans (hBw7.mono hs6)
  have hx47 : Below w4.heap.size w4 w7 := HX.out.trans (hx57.mono HX.out.size)
  have hB7 : Below w.heap.size w w7 := hB5.trans (hx57.mono hB5.size)
  have hcv := run_string_rd (P := Try.prog) w7 23 5 9 Try.underlying23 Try.underlying5 Try.underlying9 _ _ d1 (HX1.out.below hx47)
  have hcw := run_string_rd (P := Try.prog) w7 23 5 9 Try.underlying23 Try.underlying5 Try.underlying9 _ _ d2 (HX2.out.below hx47)
  generalize strOfNums zb = sb at *
  have HX5 := Lib.hid hx57
  have HP := Lib.hid (HX3.out.below hx47)
  have HQ := Lib.hid (HX4.out.below hx47)
  clear HN' hBw7 HY HX hx47 hx57 hB5 HX1 HX2 HX3 HX4
  unfold ansN
  go_wp2_with (first
    | (go_at_call 14; refine (num_any _ _).mono ?_; rintro e w' ⟨rfl, rfl⟩)
    | (go_at_call 15; refine (HT.out B3 B4 d3 d4 w7 HP.out HQ.out).mono ?_; rintro e w8 ⟨rfl, hBw8⟩))
  have hx58 : Below w5.heap.size w5 w8 := HX5.out.trans (hBw8.mono HX5.out.size)
  have hB8 : Below w.heap.size w w8 := hB7.trans (hBw8.mono hB7.size)
  have hb8 : b < w8.heap.size := by have := hx58.size; omega
  have e0 : w8.cell? ⟨b, off, none⟩ = some (.string tn) := (hx58.cell (p := ⟨b, off, none⟩) hb5).trans hc0
  have e1 : w8.cell? ⟨b, off + 1, none⟩ = some (.string tk) := (hx58.cell (p := ⟨b, off + 1, none⟩) hb5).trans hc1
  have hB88 : Below w8.heap.size w8 w8 := Below.refl _ _
  clear hcv hcw HX5 HP HQ hB7 hBw8 hx58 hc0 hc1 HT HA HD
  go_region_held3 (fun w' => w'.cell? ⟨b, off, none⟩ = some (.string tn) ∧ w'.cell? ⟨b, off + 1, none⟩ = some (.string tk) ∧ Below w8.heap.size w8 w')
    (first | exact held2 hb8 e0 e1 (by first | with_reducible assumption | with_reducible exact Below.drew ‹_›))
    (first
      | (go_at_call_of 16 (Value.int .i64 n); ((with_reducible refine (HU.out _).mono ?_); rintro e w9 ⟨rfl, hBw9⟩; have hB9 : Below w8.heap.size w8 w9 := hB88.drew.trans hBw9; clear hBw9))
      | (go_at_call 16; ((with_reducible refine (HV.out _).mono ?_); rintro e w10 ⟨rfl, hBw10⟩; have hB10 : Below w8.heap.size w8 w10 := hB9.trans (hBw10.mono hB9.size); clear hBw10))
      | (go_at_call 17; ((with_reducible refine (HAL.out _).mono ?_); rintro e w11 ⟨rfl, hBw11⟩; have hB11 : Below w8.heap.size w8 w11 := hB10.trans (hBw11.mono hB10.size); clear hBw11)))
  go_wp2
  go_ret
  exact ⟨rfl, hB8.trans (hB11.mono hB8.size)⟩

end Go.Proofs.Ytlondbfileohgaa
