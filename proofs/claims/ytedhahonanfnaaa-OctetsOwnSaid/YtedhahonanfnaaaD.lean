/-
  Hex writes two digits an octet. Conditions: at most 2^47 - 4096 octets.
-/
import Derived.Test.YtedhahonanfnaaaB
import Derived.Test.YtedhahonanfnaaaA
import Derived.LoopTactic
import Derived.Lib.Hide
import Derived.IntWalk
import Derived.Laws.BitsAllLaws
import Derived.RegionTactic
import Derived.Maps.AppendAt
namespace Go.Proofs.Ytedhahonanfnaaa
open Go.ChangeShapes Go.WideShapes Go.ChangeAt Go.RowKit
set_option maxRecDepth 100000

/-- A digit. -/
def hexd (d : Int) : Int := if d < 10 then 48 + d else 87 + d
/-- Two digits an octet. -/
def hexs (zs : List Int) : List Int := zs.flatMap fun z => [hexd (z / 16), hexd (z % 16)]

theorem hexs_length (zs : List Int) : (hexs zs).length = 2 * zs.length := by
  induction zs with
  | nil => rfl
  | cons z zs ih => simp only [hexs, List.flatMap_cons, List.length_append, List.length_cons, List.length_nil] at ih ⊢; omega

theorem hexs_snoc (zs : List Int) (z : Int) : hexs (zs ++ [z]) = hexs zs ++ [hexd (z / 16), hexd (z % 16)] := by
  simp [hexs]

theorem and15 (z : Int) (h0 : 0 ≤ z) (h1 : z ≤ 255) : bits BinOp.and IntKind.u8 z 15 = z % 16 := by
  obtain ⟨n, rfl⟩ := Int.eq_ofNat_of_zero_le h0
  have := u8_and_nat n 15 (by omega) (by omega)
  rw [show ((15 : Nat) : Int) = 15 from rfl] at this
  rw [this, show (15 : Nat) = 2 ^ 4 - 1 from rfl, Nat.and_two_pow_sub_one_eq_mod]
  omega

theorem cell_two_new (w : World) (x y : Value) (t : TypeId) : ∀ j u, [x, y][j]? = some u → (w.alloc (.cells #[x, y] t)).cell? ((⟨w.heap.size, 0, none⟩ : Addr).add j) = some u := by
  intro j u h
  rw [add_plain, cell_of_row (w.alloc (.cells #[x, y] t)) w.heap.size (0 + j) #[x, y] t (0, 0) (heap_alloc_new w _)]
  rw [Nat.zero_add]
  simpa using h

/-- The sixteen digits. -/
theorem digit_run (d : Int) (h0 : 0 ≤ d) (h1 : d < 16) (w : World) :
    (Instr.index 9 (.string { data := #[48, 49, 50, 51, 52, 53, 54, 55, 56, 57, 97, 98, 99, 100, 101, 102] }) (.int .u8 d)).run Try.prog w = .ok (.int .u8 (hexd d)) w := by
  obtain ⟨n, rfl⟩ := Int.eq_ofNat_of_zero_le h0
  have hn : n < 16 := by omega
  have : n = 0 ∨ n = 1 ∨ n = 2 ∨ n = 3 ∨ n = 4 ∨ n = 5 ∨ n = 6 ∨ n = 7 ∨ n = 8 ∨ n = 9 ∨ n = 10 ∨ n = 11 ∨ n = 12 ∨ n = 13 ∨ n = 14 ∨ n = 15 := by omega
  rcases this with rfl | rfl | rfl | rfl | rfl | rfl | rfl | rfl | rfl | rfl | rfl | rfl | rfl | rfl | rfl | rfl <;> rfl

theorem hexs_take (zs : List Int) (k : Nat) (h : k < zs.length) (z : Int) (hz : zs[k]?.getD 0 = z) :
    (hexs (zs.take k)).map (Value.int .u8) ++ [.int .u8 (hexd (z / 16)), .int .u8 (hexd (z % 16))] = (hexs (zs.take (k + 1))).map (Value.int .u8) := by
  subst hz
  rw [List.take_succ_eq_append_getElem h, List.getElem?_eq_getElem h, hexs_snoc]
  simp

set_option maxHeartbeats 400000 in
theorem hex_any (A : Option Addr) (c : Nat) (zs : List Int) (hl : zs.length ≤ 140737488351232) (ho : Octs zs) (w : World) (hr : RdB w A zs) :
    Calls Try.prog 7 #[.slice A zs.length c] w fun e w' => e = .returned (.string (strOfNums (hexs zs))) ∧ Below w.heap.size w w' := by
  obtain ⟨i0, hi, hz0, hz1, hz2⟩ := info_parts info5
  go_enter Try.func7, Try.ntmps7
  go_wp2_with (at_make; refine wpList_make_own _ rfl _ _ 22 rfl w.heap.size 5 i0 (.int .u8 0) 1 Try.underlying22 hi hz0 hz1 .i64 .i64 _ (2 * zs.length) rfl rfl (by omega) (by rw [hz2]; omega) (by unfold maxLen; omega) (Nat.le_refl _) ?_; intro w0 hown0 hgrow0)
  go_loopw [3, 12] (fun v i wr => ∃ k : Nat, k ≤ zs.length ∧ i = .int .i64 k ∧ v = .slice (some ⟨w.heap.size, 0, none⟩) (2 * k) (2 * zs.length) ∧ wr.ownsRow w.heap.size 5 1 (.slice (some ⟨w.heap.size, 0, none⟩) (2 * k) (2 * zs.length)) (2 * k) ((hexs (zs.take k)).map (Value.int .u8)) ∧ Below w.heap.size w wr) (fun _ i _ => zs.length - (intOf i).toNat)
  case atStart =>
    exact ⟨0, Nat.zero_le _, rfl, rfl, hown0, (Below.refl _ w).grown hgrow0 (Nat.le_refl _) (fun _ h => by cases h)⟩
  case round =>
    obtain ⟨k, hk, rfl, rfl, hown, hB⟩ := hrel
    by_cases hlt : k < zs.length
    · obtain ⟨b, off, rfl, hb, hc0⟩ := hr.cell hlt
      have hc : wr.cell? ⟨b, off + k, none⟩ = some (.int .u8 (zs[k]?.getD 0)) := (hB.cell (p := ⟨b, off + k, none⟩) hb).trans hc0
      have hz := ho.at_ k
      generalize hzz : zs[k]?.getD 0 = z at *
      have Hz := Lib.hid hzz
      clear hzz hc0
      go_wp2
      have hs16 : z / 16 < 16 := by omega
      have hd0 : 0 ≤ z / 16 := by omega
      have hm : bits BinOp.and IntKind.u8 z 15 = z % 16 := and15 z hz.1 hz.2
      have hs17 : z % 16 < 16 := by omega
      have hd1 : 0 ≤ z % 16 := by omega
      have ix0 := digit_run (z / 16) hd0 hs16
      have ix1 := digit_run (z % 16) hd1 hs17
      go_region_law (refine step_fits rfl _ _ 22 rfl w.heap.size 5 i0 1 Try.underlying22 hi hz1 w.heap.size (2 * k) (2 * zs.length) ((hexs (zs.take k)).map (Value.int .u8)) rfl (by exact hown.alloc _) ⟨wr.heap.size, 0, none⟩ 2 2 [.int .u8 (hexd (z / 16)), .int .u8 (hexd (z % 16))] rfl rfl (by exact cell_two_new _ _ _ _) (by simp [Value.oneCell']) (by omega) ?_; intro w1 hown1 hgrow1)
      all_goals
        rw [hexs_take zs k hlt z Hz.out] at hown1
        have hB1 : Below w.heap.size w w1 := ((hB.alloc hB.size _).drew).grown hgrow1 (by have := hB.size; simp; omega) (fun j e => by cases e; exact Nat.le_refl _)
        clear hgrow1
        go_wp2
        go_roundw
        case rel => exact ⟨k + 1, by omega, by go_num, rfl, hown1, hB1⟩
        case measure => simp [intOf]; omega
    · obtain rfl : k = zs.length := by omega
      rw [List.take_length] at hown
      have hR : RdB wr (some ⟨w.heap.size, 0, none⟩) (hexs zs) := Rd.of_own hown
      have hcv := run_string_rd (P := Try.prog) wr 22 5 9 Try.underlying22 Try.underlying5 Try.underlying9 _ _ (2 * zs.length) hR
      rw [hexs_length] at hcv
      go_wp2
      go_ret
      exact ⟨rfl, hB⟩

end Go.Proofs.Ytedhahonanfnaaa
