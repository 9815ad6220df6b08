/-
  fields.first and fields.text: the number, and the text, at the beginning of octets, and what is behind. Conditions: octets' length is one that an int holds; two or three octets a number.
-/
import Derived.Test.YtlondbfileohgaaTS
import Derived.Deep.RegionWith
import Derived.WalkSpells
namespace Go.Proofs.Ytlondbfileohgaa
open Go.ChangeShapes Go.WideShapes Go.ChangeAt Go.RowKit

/-- A number, octets, and what is told. -/
def ansF (n : Int) (A : Option Addr) (k c : Nat) (e : Int) : Value := .tuple #[.int .i64 n, .slice A k c, .int .i64 e]
/-- A text, octets, and what is told. -/
def ansT (s : ByteArray) (A : Option Addr) (k c : Nat) (e : Int) : Value := .tuple #[.string s, .slice A k c, .int .i64 e]

theorem first_short (A : Option Addr) (k c m : Nat) (h : k < m) (w : World) :
    Calls Try.prog 20 #[.slice A k c, .int .i64 m] w fun e w' => e = .returned (ansF 0 none 0 0 8) ∧ w = w' := by
  go_enter Try.func20, Try.ntmps20
  go_wp2
  go_ret3
  exact ⟨rfl, rfl⟩

set_option maxHeartbeats 1000000 in
theorem first_ok (A : Option Addr) (c m : Nat) (zs : List Int) (h1 : 1 ≤ m) (h3 : m ≤ 3) (hm : m ≤ zs.length) (hc : zs.length ≤ c) (ho : Octs zs) (w : World) (hr : RdB w A zs) :
    Calls Try.prog 20 #[.slice A zs.length c, .int .i64 m] w fun e w' => ∃ B, e = .returned (ansF (val (zs.take m)) B (zs.length - m) (c - m) 0) ∧ (∀ W, RdB W A zs → RdB W B (zs.drop m)) ∧ Below w.heap.size w w' := by
  have hk : (zs.take m).length = m := by simp; omega
  have hv := val_bound (zs.take m) (ho.tk m)
  have hv2 : val (zs.take m) ≤ 4611686018427387903 := by
    have h := hv.2
    rw [hk] at h
    have : (256 : Nat) ^ m ≤ 256 ^ 3 := Nat.pow_le_pow_right (by omega) h3
    have h7 : (256 : Nat) ^ 3 = 16777216 := by decide
    omega
  have hn := number_ok A c (zs.take m) (by omega) (by omega) (ho.tk m) w (rd_take hr m) hv2
  rw [hk] at hn
  have HN := Lib.hid hn
  have hr2 := fun W (h : RdB W A zs) => rd_drop h m c hc
  obtain ⟨A2, hA2⟩ : ∃ A2, (if c = m then A else Option.map (fun x => x.add m) A) = A2 := ⟨_, rfl⟩
  rw [hA2] at hr2
  have HR2 := Lib.hid hr2
  have hmc : m ≤ c := by omega
  have hnd : decide (c < m) = false := by simp; omega
  generalize val (zs.take m) = n at *
  clear hn hr hr2 hk hv
  go_enter Try.func20, Try.ntmps20
  go_wp2_with (refine HN.out.mono ?_; rintro e w' ⟨rfl, rfl⟩)
  go_region
  go_wp2
  go_ret3
  exact ⟨A2, rfl, HR2.out, (Below.refl _ w).drew⟩

theorem text_short (A : Option Addr) (k c : Nat) (h : k < 3) (w : World) :
    Calls Try.prog 21 #[.slice A k c] w fun e w' => e = .returned (ansT ByteArray.empty none 0 0 8) ∧ w = w' := by
  go_enter Try.func21, Try.ntmps21
  go_wp2_with (refine (first_short A k c 3 h _).mono ?_; rintro e w' ⟨rfl, rfl⟩; unfold ansF)
  go_ret3
  exact ⟨rfl, rfl⟩

set_option maxHeartbeats 1000000 in
theorem text_long (A : Option Addr) (c : Nat) (zs : List Int) (hm : 3 ≤ zs.length) (hc : zs.length ≤ c) (ho : Octs zs) (hv : 65536 < val (zs.take 3)) (w : World) (hr : RdB w A zs) :
    Calls Try.prog 21 #[.slice A zs.length c] w fun e w' => e = .returned (ansT ByteArray.empty none 0 0 5) ∧ Below w.heap.size w w' := by
  have hf := first_ok A c 3 zs (by omega) (by omega) hm hc ho w hr
  have HF := Lib.hid hf
  clear hf hr
  generalize val (zs.take 3) = n at *
  go_enter Try.func21, Try.ntmps21
  go_wp2_with (refine HF.out.mono ?_; rintro e w' ⟨B, rfl, hr, hB⟩; unfold ansF)
  go_ret3
  exact ⟨rfl, hB⟩

set_option maxHeartbeats 1000000 in
theorem text_ends (A : Option Addr) (c : Nat) (zs : List Int) (hm : 3 ≤ zs.length) (hc : zs.length ≤ c) (ho : Octs zs) (hv : val (zs.take 3) ≤ 65536) (hk : ((zs.drop 3).length : Int) < val (zs.take 3)) (w : World) (hr : RdB w A zs) :
    Calls Try.prog 21 #[.slice A zs.length c] w fun e w' => e = .returned (ansT ByteArray.empty none 0 0 8) ∧ Below w.heap.size w w' := by
  have hf := first_ok A c 3 zs (by omega) (by omega) hm hc ho w hr
  have HF := Lib.hid hf
  rw [List.length_drop] at hk
  clear hf hr
  generalize val (zs.take 3) = n at *
  go_enter Try.func21, Try.ntmps21
  go_wp2_with (refine HF.out.mono ?_; rintro e w' ⟨B, rfl, hr, hB⟩; unfold ansF)
  go_ret3
  exact ⟨rfl, hB⟩

set_option maxHeartbeats 1000000 in
theorem text_ok (A : Option Addr) (c k : Nat) (zs : List Int) (hm : 3 ≤ zs.length) (hc : zs.length ≤ c) (hl : zs.length ≤ 4611686018427387904) (ho : Octs zs) (hv : val (zs.take 3) = k) (hk1 : k ≤ 65536) (hk : k ≤ (zs.drop 3).length) (w : World) (hr : RdB w A zs) :
    Calls Try.prog 21 #[.slice A zs.length c] w fun e w' => ∃ B, e = .returned (ansT (strOfNums ((zs.drop 3).take k)) B ((zs.drop 3).drop k).length (c - 3 - k) 0) ∧ (∀ W, RdB W A zs → RdB W B ((zs.drop 3).drop k)) ∧ Below w.heap.size w w' := by
  have hf := first_ok A c 3 zs (by omega) (by omega) hm hc ho w hr
  rw [hv] at hf
  have HF := Lib.hid hf
  have hd3 : (zs.drop 3).length = zs.length - 3 := by simp
  have hdk : ((zs.drop 3).drop k).length = zs.length - 3 - k := by simp; omega
  rw [hdk]
  rw [hd3] at hk
  obtain ⟨s, hs⟩ : ∃ s, strOfNums ((zs.drop 3).take k) = s := ⟨_, rfl⟩
  rw [hs]
  have HS := Lib.hid hs
  obtain ⟨rest, hrest⟩ : ∃ rest, (zs.drop 3).drop k = rest := ⟨_, rfl⟩
  rw [hrest]
  have HREST := Lib.hid hrest
  have HRA := Lib.hid hr
  clear hf hr hv hs hrest
  go_enter Try.func21, Try.ntmps21
  go_wp2_with fail
  refine HF.out.mono ?_
  rintro e w1 ⟨B, rfl, hr, hB⟩
  unfold ansF
  have hr1 := rd_take (Rd.below (hr w HRA.out) hB) k
  have hr2 := fun W (h : RdB W A zs) => rd_drop (hr W h) k (c - 3) (by omega)
  obtain ⟨B2, hB2⟩ : ∃ B2, (if c - 3 = k then B else Option.map (fun x => x.add k) B) = B2 := ⟨_, rfl⟩
  rw [hB2] at hr2
  have hcv := run_string_rd (P := Try.prog) w1.drew 23 5 9 Try.underlying23 Try.underlying5 Try.underlying9 _ _ (c - 3) (hr1.below (Below.refl _ w1).drew)
  rw [show ((zs.drop 3).take k).length = k by simp; omega] at hcv
  have HR2 := Lib.hid hr2
  have hkc : k ≤ c - 3 := by omega
  have hnd : decide (c - 3 < k) = false := by simp; omega
  clear hr1 hr2 hr hd3
  rw [HS.out] at hcv
  rw [HREST.out] at HR2
  go_wp2_with fail
  go_region
  go_wp2
  go_ret3
  exact ⟨B2, rfl, HR2.out, hB.drew⟩

/-- What text answers. -/
theorem text_any (A : Option Addr) (c : Nat) (zs : List Int) (hc : zs.length ≤ c) (hl : zs.length ≤ 4611686018427387904) (ho : Octs zs) (w : World) (hr : RdB w A zs) :
    Calls Try.prog 21 #[.slice A zs.length c] w fun e w' => ∃ B d, e = .returned (ansT (rd1 zs).2.1 B (rd1 zs).2.2.length d (rd1 zs).1) ∧ (∀ W, RdB W A zs → RdB W B (rd1 zs).2.2) ∧ (rd1 zs).2.2.length ≤ d ∧ Below w.heap.size w w' := by
  by_cases h1 : zs.length < 3
  · have e1 : rd1 zs = (8, ByteArray.empty, []) := by unfold rd1; rw [if_pos h1]
    rw [e1]
    refine (text_short A zs.length c h1 w).mono ?_
    rintro e w' ⟨rfl, rfl⟩
    exact ⟨none, 0, rfl, fun _ _ => RdB.nil _ _, Nat.le_refl _, Below.refl _ _⟩
  · by_cases h2 : 65536 < val (zs.take 3)
    · have e1 : rd1 zs = (5, ByteArray.empty, []) := by unfold rd1; rw [if_neg h1, if_pos h2]
      rw [e1]
      refine (text_long A c zs (by omega) hc ho h2 w hr).mono ?_
      rintro e w' ⟨rfl, hB⟩
      exact ⟨none, 0, rfl, fun _ _ => RdB.nil _ _, Nat.le_refl _, hB⟩
    · by_cases h3 : ((zs.drop 3).length : Int) < val (zs.take 3)
      · have e1 : rd1 zs = (8, ByteArray.empty, []) := by unfold rd1; rw [if_neg h1, if_neg h2, if_pos h3]
        rw [e1]
        refine (text_ends A c zs (by omega) hc ho (by omega) h3 w hr).mono ?_
        rintro e w' ⟨rfl, hB⟩
        exact ⟨none, 0, rfl, fun _ _ => RdB.nil _ _, Nat.le_refl _, hB⟩
      · have e1 : rd1 zs = (0, strOfNums ((zs.drop 3).take (val (zs.take 3)).toNat), (zs.drop 3).drop (val (zs.take 3)).toNat) := by unfold rd1; rw [if_neg h1, if_neg h2, if_neg h3]
        rw [e1]
        have hb := val3_bd (zs.take 3) (by simp; omega) (ho.tk 3)
        refine (text_ok A c (val (zs.take 3)).toNat zs (by omega) hc hl ho (by omega) (by omega) (by omega) w hr).mono ?_
        rintro e w' ⟨B, rfl, hr', hB⟩
        refine ⟨B, _, rfl, hr', ?_, hB⟩
        simp only [List.length_drop]
        omega

end Go.Proofs.Ytlondbfileohgaa
