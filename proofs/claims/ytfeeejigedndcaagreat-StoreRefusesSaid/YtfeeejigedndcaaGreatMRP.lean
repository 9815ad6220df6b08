/-
  The reference's Put and Number: what they answer. Conditions: at most 8 octets.
-/
import Derived.Test.YtfeeejigedndcaaGreatMTM
import Derived.Laws.AppendOwn
namespace Go.Proofs.YtfeeejigedndcaaGreat
open Go.ChangeShapes Go.WideShapes Go.ChangeAt Go.RowKit
set_option maxRecDepth 100000

theorem put_tk (n : Int) (m k : Nat) (hk : k < m) : ((put n m).take k).map (Value.int .u8) ++ [.int .u8 (n / 2 ^ (8 * (m - 1 - k)) % 256)] = ((put n m).take (k + 1)).map (Value.int .u8) := by
  have hl : k < (put n m).length := by rw [put_length]; exact hk
  rw [List.take_succ_eq_append_getElem hl]
  have e : (put n m)[k] = n / 2 ^ (8 * (m - 1 - k)) % 256 := by
    simp only [put, List.getElem_map, List.getElem_range]
    have h : (256 : Nat) ^ (m - 1 - k) = 2 ^ (8 * (m - 1 - k)) := by rw [Nat.pow_mul]
    rw [h]
    simp
  rw [e]
  simp

set_option maxHeartbeats 1000000 in
theorem refPut_any (n : Int) (m : Nat) (hm : m ≤ 8) (w : World) :
    Calls Tryz.prog 64 #[.int .i64 n, .int .i64 m] w fun e w' => ∃ v, e = .returned v ∧ w'.ownsRow w.heap.size 5 1 v m ((put n m).map (Value.int .u8)) ∧ Below w.heap.size w w' := by
  obtain ⟨i0, hi, hz0, hz1, hz2⟩ := info_parts info5
  go_enter Tryz.func64, Tryz.ntmps64
  go_wp2
  go_loopw [5, 6] (fun v i wr => ∃ k : Nat, k ≤ m ∧ i = .int .i64 ((m : Int) - 1 - k) ∧ Hid (wr.ownsRow w.heap.size 5 1 v k (((put n m).take k).map (Value.int .u8))) ∧ Below w.heap.size w wr) (fun _ i _ => (intOf i + 1).toNat)
  case atStart => exact ⟨0, by omega, congrArg (Value.int .i64) (by omega), Lib.hid ⟨rfl, .inl ⟨rfl, rfl⟩⟩, Below.refl _ w⟩
  case round =>
    obtain ⟨k, hk, rfl, HO, hB⟩ := hrel
    by_cases hlt : k < m
    · have hp := put_tk n m k hlt
      have HP := Lib.hid hp
      have e1 : (m : Int) - 1 - k = ((m - 1 - k : Nat) : Int) := by omega
      rw [e1]
      obtain ⟨j, hj⟩ : ∃ j, m - 1 - k = j := ⟨_, rfl⟩
      rw [hj] at HP ⊢
      have hj7 : j ≤ 7 := by omega
      clear hp e1
      generalize ((put n m).take k).map (Value.int .u8) = cs at *
      go_wp2_with (at_builtin; refine wpList_append_own _ rfl _ _ 46 rfl w.heap.size 5 i0 (.int .u8 0) 1 1 Tryz.underlying46 hi hz0 hz1 hz2 rfl (by decide) _ k cs rfl (by exact HO.out.alloc _) ⟨wr.heap.size, 0, none⟩ 1 1 [.int .u8 (n / 2 ^ (8 * j) % 256)] rfl rfl (by exact cell_one_new _ _ _) (by simp [Value.oneCell']) (by unfold maxLen; omega) (by omega) (by have := hB.size; simp; omega) ?_; intro v2 w2 hown2 hgrow2 _)
      have hB2 : Below w.heap.size w w2 := (hB.alloc hB.size _).grown hgrow2 (by have := hB.size; simp; omega) (fun j e => (HO.out.lt j e).1)
      clear hgrow2
      rw [HP.out] at hown2
      go_roundw
      case rel => exact ⟨k + 1, by omega, congrArg (Value.int .i64) (by omega), Lib.hid hown2, hB2⟩
      case measure => simp [intOf]; try omega
    · obtain rfl : k = m := by omega
      go_wp2
      go_ret
      refine ⟨_, rfl, ?_, hB⟩
      have := HO.out
      rw [List.take_of_length_le (by rw [put_length]; omega)] at this
      exact this

theorem val_grow : ∀ (zs : List Int) (a : Int), Octs zs → 0 ≤ a → a ≤ zs.foldl (fun a z => a * 256 + z) a
  | [], a, _, _ => by simp
  | z :: zs, a, h, h0 => by
    have hz := h z (by simp)
    have := val_grow zs (a * 256 + z) (fun x hx => h x (by simp [hx])) (by omega)
    simp only [List.foldl_cons]
    omega
theorem val_take_le (zs : List Int) (h : Octs zs) (k : Nat) : val (zs.take k) ≤ val zs := by
  have e : val zs = (zs.drop k).foldl (fun a z => a * 256 + z) (val (zs.take k)) := by
    unfold val
    rw [← List.foldl_append, List.take_append_drop]
  rw [e]
  exact val_grow _ _ (h.dp k) (val_bound _ (h.tk k)).1

/-- What octets.Number answers of 1 to 8 octets. -/
def numO (zs : List Int) : Int × Int := if 4611686018427387903 < val zs then (0, 4) else (val zs, 0)

set_option maxHeartbeats 1000000 in
theorem refNumber_any (A : Option Addr) (c : Nat) (zs : List Int) (h1 : 1 ≤ zs.length) (h8 : zs.length ≤ 8) (ho : Octs zs) (w : World) (hr : RdB w A zs) :
    Calls Tryz.prog 30 #[.slice A zs.length c] w fun e w' => e = .returned (ansN (numO zs).1 (numO zs).2) ∧ w = w' := by
  obtain ⟨a, ha⟩ : ∃ a, (numO zs).1 = a := ⟨_, rfl⟩
  obtain ⟨b, hb⟩ : ∃ b, (numO zs).2 = b := ⟨_, rfl⟩
  have hok : val zs ≤ 4611686018427387903 → a = val zs ∧ b = 0 := fun h => by
    rw [← ha, ← hb]
    unfold numO
    rw [if_neg (by omega)]
    exact ⟨rfl, rfl⟩
  have hno : 4611686018427387903 < val zs → a = 0 ∧ b = 4 := fun h => by
    rw [← ha, ← hb]
    unfold numO
    rw [if_pos h]
    exact ⟨rfl, rfl⟩
  have HOK := Lib.hid hok
  have HNO := Lib.hid hno
  rw [ha, hb]
  have HR := Lib.hid hr
  have HO := Lib.hid ho
  have g0 : ((zs.length : Int) == 0) = false := beq_eq_false_iff_ne.2 (by omega)
  have g8 : decide (8 < (zs.length : Int)) = false := by simp; omega
  clear hok hno ha hb hr ho
  go_enter Tryz.func30, Tryz.ntmps30
  go_wp2
  go_loop [4, 5] (fun t i => ∃ (k : Nat) (n : Int), k ≤ zs.length ∧ i = .int .i64 k ∧ t = .int .i64 n ∧ 0 ≤ n ∧ n ≤ 4611686018427387903 ∧ Hid (n = val (zs.take k))) (fun _ i => zs.length - (intOf i).toNat)
  case atStart => exact ⟨0, 0, Nat.zero_le _, rfl, rfl, by omega, by omega, Lib.hid rfl⟩
  case round =>
    obtain ⟨k, n, hk, rfl, rfl, hn0, hn1, hn⟩ := hrel
    by_cases hlt : k < zs.length
    · obtain ⟨b', off, rfl, hb, hc⟩ := HR.out.cell hlt
      have hz := HO.out.at_ k
      have hs : val (zs.take (k + 1)) = n * 256 + zs[k]?.getD 0 := by rw [take_snoc' zs k hlt, val_snoc, hn.out]
      have HS := Lib.hid hs
      have HM := Lib.hid (val_take_le zs HO.out (k + 1))
      clear hs hn
      generalize zs[k]?.getD 0 = z at *
      by_cases hbig : (4611686018427387903 - z) / 256 < n
      · have hno : a = 0 ∧ b = 4 := HNO.out (by have h1 := HS.out; have h2 := HM.out; omega)
        obtain ⟨rfl, rfl⟩ := hno
        clear HOK HNO HS HM
        go_wp2
        go_ret2
        exact ⟨rfl, rfl⟩
      · go_wp2
        go_round
        case rel => exact ⟨k + 1, n * 256 + z, by omega, by go_num, by go_num, by omega, by omega, Lib.hid HS.out.symm⟩
        case measure => simp [intOf]; omega
    · obtain rfl : k = zs.length := by omega
      rw [List.take_length] at hn
      obtain ⟨rfl, rfl⟩ := HOK.out (by have := hn.out; omega)
      have hn' := hn.out
      subst hn'
      go_wp2
      go_ret2
      exact ⟨rfl, rfl⟩

end Go.Proofs.YtfeeejigedndcaaGreat
