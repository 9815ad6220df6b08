/-
  Numbers writes each number as a text of eight octets, Number reads it. Conditions: a text's length is one that an int holds.
-/
import Derived.Test.YtmehjmkakkiedaaGreatMTS
import Derived.Test.YtmehjmkakkiedaaGreatMTB
import Derived.Test.YtmehjmkakkiedaaGreatMV
import Derived.Lib.ConvBytes
namespace Go.Proofs.YtmehjmkakkiedaaGreat
open Go.ChangeShapes Go.WideShapes Go.ChangeAt Go.RowKit
set_option maxRecDepth 100000

/-- A text's new octets read so. -/
theorem rd_bytes (w : World) (e : TypeId) (s : ByteArray) : RdB (Lib.bytesWorld w e s) (some ⟨w.heap.size, 0, none⟩) (txo s) := fun _ => by
  refine ⟨w.heap.size, 0, rfl, by rw [Lib.bytesWorld_size]; omega, fun j u hu => ?_⟩
  have hj : j < s.size := by
    have := (List.getElem?_eq_some_iff.1 hu).1
    rw [List.length_map, txo_length] at this
    exact this
  rw [Nat.zero_add, Lib.bytesWorld_cell w e s j hj]
  have hd : j < s.data.toList.length := by
    rw [Array.length_toList]
    exact hj
  rw [List.getElem?_map, txo, List.getElem?_map, List.getElem?_eq_getElem hd] at hu
  simp only [Option.map_some, Option.some.injEq] at hu
  rw [← hu]
  simp [List.getD, List.getElem?_eq_getElem hd]
theorem below_bytes (w : World) (e : TypeId) (s : ByteArray) : Below w.heap.size w (Lib.bytesWorld w e s) :=
  ⟨rfl, rfl, rfl, by rw [Lib.bytesWorld_size]; omega, fun k hk => Lib.bytesWorld_at_old w e s k hk⟩

/-- What Number answers: the number, and what is told. -/
def numR (s : ByteArray) : Int × Int := if s.size < 8 then (0, 8) else if 8 < s.size then (0, 5) else if 4611686018427387903 < val (txo s) then (0, 4) else (val (txo s), 0)

theorem number_short (s : ByteArray) (h : s.size < 8) (w : World) :
    Calls Tryz.prog 113 #[.string s] w fun e w' => e = .returned (ansN 0 8) ∧ w = w' := by
  go_enter Tryz.func113, Tryz.ntmps113
  go_wp2
  go_ret2
  exact ⟨rfl, rfl⟩
theorem number_long (s : ByteArray) (h : 8 < s.size) (hm : s.size ≤ 9223372036854775807) (w : World) :
    Calls Tryz.prog 113 #[.string s] w fun e w' => e = .returned (ansN 0 5) ∧ w = w' := by
  go_enter Tryz.func113, Tryz.ntmps113
  go_wp2
  go_ret2
  exact ⟨rfl, rfl⟩

set_option maxHeartbeats 1000000 in
theorem number_eight (s : ByteArray) (h : s.size = 8) (w : World) :
    Calls Tryz.prog 113 #[.string s] w fun e w' => e = .returned (ansN (numR s).1 (numR s).2) ∧ Below w.heap.size w w' := by
  have hl : (txo s).length = 8 := by rw [txo_length, h]
  have hcv := Lib.run_convert_string_bytes (P := Tryz.prog) w 9 46 5 s Tryz.underlying9 Tryz.underlying46 Tryz.underlying5
  rw [h] at hcv
  generalize grownCap w 8 0 5 = cap at *
  have hrb := rd_bytes w 5 s
  have hbb := below_bytes w 5 s
  generalize Lib.bytesWorld w 5 s = w1 at *
  have hn : Calls Tryz.prog 127 #[.slice (some ⟨w.heap.size, 0, none⟩) 8 cap] w1 fun e w' => e = .returned (ansN (numR s).1 (numR s).2) ∧ w1 = w' := by
    by_cases hv : 4611686018427387903 < val (txo s)
    · have e1 : numR s = (0, 4) := by unfold numR; rw [if_neg (by omega), if_neg (by omega), if_pos hv]
      have := number_big (some ⟨w.heap.size, 0, none⟩) cap (txo s) (by omega) (by omega) (txo_octs s) w1 hrb hv
      rw [hl] at this
      rw [e1]
      exact this
    · have e1 : numR s = (val (txo s), 0) := by unfold numR; rw [if_neg (by omega), if_neg (by omega), if_neg hv]
      have := number_ok (some ⟨w.heap.size, 0, none⟩) cap (txo s) (by omega) (by omega) (txo_octs s) w1 hrb (by omega)
      rw [hl] at this
      rw [e1]
      exact this
  have HN := Lib.hid hn
  clear hn hrb hl
  generalize (numR s).1 = a at *
  generalize (numR s).2 = b at *
  go_enter Tryz.func113, Tryz.ntmps113
  go_wp2_with (refine HN.out.mono ?_; rintro e w' ⟨rfl, rfl⟩; unfold ansN)
  go_ret2
  exact ⟨rfl, hbb⟩

/-- What Number answers. -/
theorem number_any (s : ByteArray) (hm : s.size ≤ 9223372036854775807) (w : World) :
    Calls Tryz.prog 113 #[.string s] w fun e w' => e = .returned (ansN (numR s).1 (numR s).2) ∧ Below w.heap.size w w' := by
  by_cases h1 : s.size < 8
  · have e1 : numR s = (0, 8) := by unfold numR; rw [if_pos h1]
    rw [e1]
    exact (number_short s h1 w).mono fun e w' ⟨he, hw⟩ => ⟨he, hw ▸ Below.refl _ _⟩
  · by_cases h2 : 8 < s.size
    · have e1 : numR s = (0, 5) := by unfold numR; rw [if_neg h1, if_pos h2]
      rw [e1]
      exact (number_long s h2 hm w).mono fun e w' ⟨he, hw⟩ => ⟨he, hw ▸ Below.refl _ _⟩
    · exact number_eight s (by omega) w

/-- A number as a text. -/
def numT (n : Int) : ByteArray := strOfNums (put n 8)
theorem numT_size (n : Int) : (numT n).size = 8 := by rw [numT, strOfNums_size, put_length]
theorem numT_back (n : Int) (h0 : -9223372036854775808 ≤ n) (h1 : n ≤ 9223372036854775807) :
    (0 ≤ n ∧ n ≤ 4611686018427387903 → numR (numT n) = (n, 0)) ∧ (¬ (0 ≤ n ∧ n ≤ 4611686018427387903) → numR (numT n) = (0, 4)) := by
  have hv : val (txo (numT n)) = n % 18446744073709551616 := by rw [numT, txo_str _ (put_octs _ _), val_put8]
  unfold numR
  rw [hv, numT_size, if_neg (by omega), if_neg (by omega)]
  constructor
  · intro h
    rw [if_neg (by omega)]
    rw [show n % 18446744073709551616 = n by omega]
  · intro h
    rw [if_pos (by omega)]

set_option maxHeartbeats 1000000 in
theorem numbers_any (A : Option Addr) (c : Nat) (ns : List Int) (hl : ns.length ≤ 1048576) (w : World) (hr : RdI w A ns) :
    Calls Tryz.prog 100 #[.slice A ns.length c] w fun e w' => ∃ v, e = .returned v ∧ w'.ownsRow w.heap.size 9 1 v ns.length ((ns.map numT).map Value.string) ∧ Below w.heap.size w w' := by
  obtain ⟨i0, hi, hz0, hz1, hz2⟩ := info_parts infoS
  have HR := Lib.hid hr
  clear hr
  go_enter Tryz.func100, Tryz.ntmps100
  go_wp2_with (at_make; refine wpList_make_own _ rfl _ _ 123 rfl w.heap.size 9 i0 (.string ByteArray.empty) 1 Tryz.underlying123 hi hz0 hz1 .i64 .i64 _ ns.length rfl rfl (by omega) (by rw [hz2]; omega) (by unfold maxLen; omega) (Nat.le_refl _) ?_; intro w2 hown2 hgrow2)
  have hB2 : Below w.heap.size w w2 := (Below.refl _ w).grown hgrow2 (Nat.le_refl _) (fun _ h => by cases h)
  clear hgrow2
  go_loopw [3, 11] (fun v i wr => ∃ k : Nat, k ≤ ns.length ∧ i = .int .i64 k ∧ Hid (wr.ownsRow w.heap.size 9 1 v k (((ns.take k).map numT).map Value.string)) ∧ Below w.heap.size w wr) (fun _ i _ => ns.length - (intOf i).toNat)
  case atStart => exact ⟨0, Nat.zero_le _, rfl, Lib.hid hown2, hB2⟩
  case round =>
    clear hown2 hB2
    obtain ⟨k, hk, rfl, hown, hB⟩ := hrel
    by_cases hlt : k < ns.length
    · obtain ⟨b, off, z, rfl, hb, hc0, hz⟩ := HR.out.at_ hlt
      have hc : wr.cell? ⟨b, off + k, none⟩ = some (.int .i64 z) := (hB.cell (p := ⟨b, off + k, none⟩) hb).trans hc0
      have hs : ((ns.take (k + 1)).map numT).map Value.string = ((ns.take k).map numT).map Value.string ++ [.string (numT z)] := by
        obtain ⟨h1, h2⟩ := List.getElem?_eq_some_iff.1 hz.out
        rw [List.take_succ_eq_append_getElem h1, h2]
        simp
      have HS := Lib.hid hs
      clear hc0 hs
      generalize ((ns.take k).map numT).map Value.string = cs at *
      go_wp2_with fail
      refine (put_any z 8 (by omega) wr).mono ?_
      rintro e w3 ⟨B3, d3, rfl, hr3, hd3, hB3⟩
      have hcv := run_string_rd (P := Tryz.prog) w3 46 5 9 Tryz.underlying46 Tryz.underlying5 Tryz.underlying9 _ _ d3 hr3
      rw [put_length, show strOfNums (put z 8) = numT z from rfl] at hcv
      have HOW := Lib.hid (own_below hown.out hB3 (Nat.le_refl _))
      have hB03 : Below w.heap.size w w3 := hB.trans (hB3.mono hB.size)
      clear hr3 hB3 hown
      generalize numT z = s at *
      go_wp2_with (at_builtin; refine wpList_append_own _ rfl _ _ 123 rfl w.heap.size 9 i0 (.string ByteArray.empty) 1 16 Tryz.underlying123 hi hz0 hz1 hz2 rfl (by decide) _ k cs rfl (by exact HOW.out.alloc _) ⟨w3.heap.size, 0, none⟩ 1 1 [.string s] rfl rfl (by exact cell_one_new _ _ _) (by simp [Value.oneCell']) (by unfold maxLen; omega) (by omega) (by have := hB03.size; simp; omega) ?_; intro v4 w4 hown4 hgrow4 _)
      have hB4 : Below w.heap.size w w4 := (hB03.alloc hB03.size _).grown hgrow4 (by have := hB03.size; simp; omega) (fun j e => (HOW.out.lt j e).1)
      have HO4 := Lib.hid hown4
      clear hgrow4 hown4
      go_roundw
      case rel =>
        refine ⟨k + 1, by omega, by go_num, ?_, hB4⟩
        rw [HS.out]
        exact HO4
      case measure => simp [intOf]; omega
    · obtain rfl : k = ns.length := by omega
      rw [List.take_length] at hown
      go_wp2
      go_ret
      exact ⟨_, rfl, hown.out, hB⟩

end Go.Proofs.YtmehjmkakkiedaaGreat
