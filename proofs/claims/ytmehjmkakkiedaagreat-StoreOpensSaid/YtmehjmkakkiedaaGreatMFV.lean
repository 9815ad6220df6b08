/-
  The reference's Words answers the words of octets. Conditions: at most 2^47 - 4096 octets.
-/
import Derived.Test.YtmehjmkakkiedaaGreatMFM
namespace Go.Proofs.YtmehjmkakkiedaaGreat
open Go.ChangeShapes Go.WideShapes Go.ChangeAt Go.RowKit
set_option maxRecDepth 100000

/-- What the first j octets from a place on make. -/
def wp (zs : List Int) (p : Nat) : Nat → Int
  | 0 => 0
  | j + 1 => wp zs p j * 256 + oct zs (p + j)
theorem wp_bd {zs : List Int} (ho : Octs zs) (p : Nat) : ∀ j, 0 ≤ wp zs p j ∧ wp zs p j < (256 ^ j : Nat)
  | 0 => by simp [wp]
  | j + 1 => by
    have h := wp_bd ho p j
    have o := oct_bd ho (p + j)
    simp only [wp]
    rw [Nat.pow_succ]
    omega
theorem wp_bd4 {zs : List Int} (ho : Octs zs) (p j : Nat) (hj : j < 4) : 0 ≤ wp zs p j ∧ wp zs p j < 16777216 := by
  have h := wp_bd ho p j
  have : (256 : Nat) ^ j ≤ 256 ^ 3 := Nat.pow_le_pow_right (by omega) (by omega)
  have h7 : (256 : Nat) ^ 3 = 16777216 := by decide
  omega
theorem wp_bd8 {zs : List Int} (ho : Octs zs) (p j : Nat) (hj : j < 8) : 0 ≤ wp zs p j ∧ wp zs p j < 72057594037927936 := by
  have h := wp_bd ho p j
  have : (256 : Nat) ^ j ≤ 256 ^ 7 := Nat.pow_le_pow_right (by omega) (by omega)
  have h7 : (256 : Nat) ^ 7 = 72057594037927936 := by decide
  omega
theorem wp4 (zs : List Int) (p : Nat) : wp zs p 4 = word (zs.drop p) := by
  simp only [wp, word, oct_drop]
  omega
theorem wp8 (zs : List Int) (p : Nat) : wp zs p 8 = word (zs.drop p) * 4294967296 + word (zs.drop (p + 4)) := by
  simp only [wp, word, oct_drop, Nat.add_assoc, Nat.reduceAdd]
  omega
theorem wp_in (zs : List Int) (p j : Nat) : wp zs p (j + 1) = wp zs p j * 256 + oct zs (p + j) := rfl
theorem wp_out (zs : List Int) (p j : Nat) (h : zs.length ≤ p + j) : wp zs p (j + 1) = wp zs p j * 256 := by
  simp [wp, oct, List.getElem?_eq_none h]

set_option maxHeartbeats 1000000 in
theorem refWords_any (A : Option Addr) (c : Nat) (zs : List Int) (hl : zs.length ≤ 140737488351232) (ho : Octs zs) (w : World) (hr : RdB w A zs) :
    Calls Tryz.prog 92 #[.slice A zs.length c] w fun e w' => ∃ v, e = .returned v ∧ w'.ownsRow w.heap.size 169 1 v (words zs).length (wcells (words zs)) ∧ Below w.heap.size w w' := by
  obtain ⟨i0, hi, hz0, hz1, hz2⟩ := info_parts info34
  obtain ⟨m, hm⟩ : ∃ m, (words zs).length = m := ⟨_, rfl⟩
  have hm1 : zs.length ≤ 4 * m := by rw [words_length] at hm; omega
  have hm2 : 4 * m < zs.length + 4 := by rw [words_length] at hm; omega
  rw [hm]
  have HM := Lib.hid hm
  have HR := Lib.hid hr
  clear hm hr
  go_enter Tryz.func92, Tryz.ntmps92
  go_wp2
  go_loopw [3, 4] (fun v i wr => ∃ k : Nat, k ≤ m ∧ i = .int .i64 (4 * k) ∧ wr.ownsRow w.heap.size 169 1 v k (wcells ((words zs).take k)) ∧ Below w.heap.size w wr) (fun _ i _ => 4 * m - (intOf i).toNat)
  case atStart =>
    exact ⟨0, Nat.zero_le _, rfl, ⟨rfl, .inl ⟨rfl, rfl⟩⟩, Below.refl _ w⟩
  case round =>
    obtain ⟨k, hk, rfl, hown, hB⟩ := hrel
    by_cases hlt : 4 * k < zs.length
    · have hkm : k < m := by omega
      have hs := words_snoc zs k (by have := HM.out; rw [words_length] at this; omega)
      have hws : wcells ((words zs).take k) ++ [.int .u32 (wp zs (4 * k) 4)] = wcells ((words zs).take (k + 1)) := by
        rw [hs, wp4]
        simp [wcells]
      have HWS := Lib.hid hws
      have HO := Lib.hid hown
      clear hs hws hown
      go_wp2
      go_loop [5, 6] (fun x i => ∃ j : Nat, j ≤ 4 ∧ i = .int .i64 (4 * k + j) ∧ x = .int .u32 (wp zs (4 * k) j)) (fun _ i => 4 * k + 4 - (intOf i).toNat)
      case atStart => exact ⟨0, by omega, congrArg (Value.int .i64) (by omega), rfl⟩
      case round =>
        obtain ⟨j, hj, rfl, rfl⟩ := hrel
        by_cases hj4 : j < 4
        · obtain ⟨x0, x1⟩ := wp_bd4 ho (4 * k) j hj4
          by_cases hin : 4 * k + j < zs.length
          · obtain ⟨b, off, rfl, hb, hc0⟩ := HR.out.cell hin
            have hc : wr.cell? ⟨b, off + (4 * k + j), none⟩ = some (.int .u8 (oct zs (4 * k + j))) := (hB.cell (p := ⟨b, off + (4 * k + j), none⟩) hb).trans hc0
            have hz := oct_bd ho (4 * k + j)
            have hx := wp_in zs (4 * k) j
            have HX := Lib.hid hx
            generalize oct zs (4 * k + j) = z at *
            clear hx hc0
            go_wp2
            go_round
            case rel => exact ⟨j + 1, by omega, congrArg (Value.int .i64) (by omega), by rw [HX.out]⟩
            case measure => simp [intOf]; omega
          · have hx := wp_out zs (4 * k) j (by omega)
            have HX := Lib.hid hx
            clear hx
            go_wp2
            go_round
            case rel => exact ⟨j + 1, by omega, congrArg (Value.int .i64) (by omega), by rw [HX.out]⟩
            case measure => simp [intOf]; omega
        · obtain rfl : j = 4 := by omega
          generalize wp zs (4 * k) 4 = x at *
          generalize wcells ((words zs).take k) = cs at *
          go_wp2_with (at_builtin; refine wpList_append_own _ rfl _ _ 167 rfl w.heap.size 169 i0 (.int .u32 0) 1 4 Tryz.underlying167 hi hz0 hz1 hz2 rfl (by decide) _ k cs rfl (by exact HO.out.alloc _) ⟨wr.heap.size, 0, none⟩ 1 1 [.int .u32 x] rfl rfl (by exact cell_one_new _ _ _) (by simp [Value.oneCell']) (by unfold maxLen; omega) (by omega) (by have := hB.size; simp; omega) ?_; intro v2 w2 hown2 hgrow2 _)
          have hB2 : Below w.heap.size w w2 := (hB.alloc hB.size _).grown hgrow2 (by have := hB.size; simp; omega) (fun j e => (HO.out.lt j e).1)
          clear hgrow2
          rw [HWS.out] at hown2
          go_roundw
          case rel => exact ⟨k + 1, by omega, congrArg (Value.int .i64) (by omega), hown2, hB2⟩
          case measure => simp [intOf]; omega
    · have hke : k = m := by omega
      subst hke
      have HO := Lib.hid hown
      clear hown
      go_wp2
      go_ret
      refine ⟨_, rfl, ?_, hB⟩
      have := HO.out
      rw [← HM.out, List.take_length] at this
      rw [← HM.out]
      exact this

end Go.Proofs.YtmehjmkakkiedaaGreat
