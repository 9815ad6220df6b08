/-
  fields.first and fields.text: the number, and the text, at the beginning of octets, and what is behind. Conditions: octets' length is one that an int holds; two or three octets a number.
-/
import Derived.Test.YtmehjmkakkiedaaGreatMTS
import Derived.Deep.RegionWith
import Derived.WalkSpells
namespace Go.Proofs.YtmehjmkakkiedaaGreat
open Go.ChangeShapes Go.WideShapes Go.ChangeAt Go.RowKit
set_option maxRecDepth 100000

/-- A number, octets, and what is told. -/
def ansF (n : Int) (A : Option Addr) (k c : Nat) (e : Int) : Value := .tuple #[.int .i64 n, .slice A k c, .int .i64 e]
/-- A text, octets, and what is told. -/
def ansT (s : ByteArray) (A : Option Addr) (k c : Nat) (e : Int) : Value := .tuple #[.string s, .slice A k c, .int .i64 e]

theorem first_short (A : Option Addr) (k c m : Nat) (h : k < m) (w : World) :
    Calls Tryz.prog 111 #[.slice A k c, .int .i64 m] w fun e w' => e = .returned (ansF 0 none 0 0 8) ∧ w = w' := by
  go_enter Tryz.func111, Tryz.ntmps111
  go_wp2
  go_ret3
  exact ⟨rfl, rfl⟩

set_option maxHeartbeats 1000000 in
theorem first_ok (A : Option Addr) (c m : Nat) (zs : List Int) (h1 : 1 ≤ m) (h3 : m ≤ 3) (hm : m ≤ zs.length) (hc : zs.length ≤ c) (ho : Octs zs) (w : World) (hr : RdB w A zs) :
    Calls Tryz.prog 111 #[.slice A zs.length c, .int .i64 m] w fun e w' => ∃ B, e = .returned (ansF (val (zs.take m)) B (zs.length - m) (c - m) 0) ∧ (∀ W, RdB W A zs → RdB W B (zs.drop m)) ∧ Below w.heap.size w w' := by
  have hk : (zs.take m).length = m := by simp; omega
  have hv := val_bound (zs.take m) (ho.tk m)
  have hv2 : val (zs.take m) ≤ 4611686018427387903 := by
    have h := hv.2
    rw [hk] at h
    have : (256 : Nat) ^ m ≤ 256 ^ 3 := Nat.pow_le_pow_right (by omega) h3
    have h7 : (256 : Nat) ^ 3 = 16777216 := by decide
    omega
  have hn := number_ok A c (zs.take m) (by omega) (by omega) (ho.tk m) w (rd_take hr m) hv2
  rw [hk] at hn
  have HN := Lib.hid hn
  have hr2 := fun W (h : RdB W A zs) => rd_drop h m c hc
  obtain ⟨A2, hA2⟩ : ∃ A2, (if c = m then A else Option.map (fun x => x.add m) A) = A2 := ⟨_, rfl⟩
  rw [hA2] at hr2
  have HR2 := Lib.hid hr2
  have hmc : m ≤ c := by omega
  have hnd : decide (c < m) = false := by simp; omega
  generalize val (zs.take m) = n at *
  clear hn hr hr2 hk hv
  go_enter Tryz.func111, Tryz.ntmps111
  go_wp2_with (refine HN.out.mono ?_; rintro e w' ⟨rfl, rfl⟩)
  go_region
  go_wp2
  go_ret3
  exact ⟨A2, rfl, HR2.out, (Below.refl _ w).drew⟩

theorem text_short (A : Option Addr) (k c : Nat) (h : k < 3) (w : World) :
    Calls Tryz.prog 112 #[.slice A k c] w fun e w' => e = .returned (ansT ByteArray.empty none 0 0 8) ∧ w = w' := by
  go_enter Tryz.func112, Tryz.ntmps112
  go_wp2_with (refine (first_short A k c 3 h _).mono ?_; rintro e w' ⟨rfl, rfl⟩; unfold ansF)
  go_ret3
  exact ⟨rfl, rfl⟩

set_option maxHeartbeats 1000000 in
theorem text_long (A : Option Addr) (c : Nat) (zs : List Int) (hm : 3 ≤ zs.length) (hc : zs.length ≤ c) (ho : Octs zs) (hv : 65536 < val (zs.take 3)) (w : World) (hr : RdB w A zs) :
    Calls Tryz.prog 112 #[.slice A zs.length c] w fun e w' => e = .returned (ansT ByteArray.empty none 0 0 5) ∧ Below w.heap.size w w' := by
  have hf := first_ok A c 3 zs (by omega) (by omega) hm hc ho w hr
  have HF := Lib.hid hf
  clear hf hr
  generalize val (zs.take 3) = n at *
  go_enter Tryz.func112, Tryz.ntmps112
  go_wp2_with (refine HF.out.mono ?_; rintro e w' ⟨B, rfl, hr, hB⟩; unfold ansF)
  go_ret3
  exact ⟨rfl, hB⟩

set_option maxHeartbeats 1000000 in
theorem text_ends (A : Option Addr) (c : Nat) (zs : List Int) (hm : 3 ≤ zs.length) (hc : zs.length ≤ c) (ho : Octs zs) (hv : val (zs.take 3) ≤ 65536) (hk : ((zs.drop 3).length : Int) < val (zs.take 3)) (w : World) (hr : RdB w A zs) :
    Calls Tryz.prog 112 #[.slice A zs.length c] w fun e w' => e = .returned (ansT ByteArray.empty none 0 0 8) ∧ Below w.heap.size w w' := by
  have hf := first_ok A c 3 zs (by omega) (by omega) hm hc ho w hr
  have HF := Lib.hid hf
  rw [List.length_drop] at hk
  clear hf hr
  generalize val (zs.take 3) = n at *
  go_enter Tryz.func112, Tryz.ntmps112
  go_wp2_with (refine HF.out.mono ?_; rintro e w' ⟨B, rfl, hr, hB⟩; unfold ansF)
  go_ret3
  exact ⟨rfl, hB⟩

set_option maxHeartbeats 1000000 in
theorem text_ok (A : Option Addr) (c k : Nat) (zs : List Int) (hm : 3 ≤ zs.length) (hc : zs.length ≤ c) (hl : zs.length ≤ 4611686018427387904) (ho : Octs zs) (hv : val (zs.take 3) = k) (hk1 : k ≤ 65536) (hk : k ≤ (zs.drop 3).length) (w : World) (hr : RdB w A zs) :
    Calls Tryz.prog 112 #[.slice A zs.length c] w fun e w' => ∃ B, e = .returned (ansT (strOfNums ((zs.drop 3).take k)) B ((zs.drop 3).drop k).length (c - 3 - k) 0) ∧ (∀ W, RdB W A zs → RdB W B ((zs.drop 3).drop k)) ∧ Below w.heap.size w w' := by
  have hf := first_ok A c 3 zs (by omega) (by omega) hm hc ho w hr
  rw [hv] at hf
  have HF := Lib.hid hf
  have hd3 : (zs.drop 3).length = zs.length - 3 := by simp
  have hdk : ((zs.drop 3).drop k).length = zs.length - 3 - k := by simp; omega
  rw [hdk]
  rw [hd3] at hk
  obtain ⟨s, hs⟩ : ∃ s, strOfNums ((zs.drop 3).take k) = s := ⟨_, rfl⟩
  rw [hs]
  have HS := Lib.hid hs
  obtain ⟨rest, hrest⟩ : ∃ rest, (zs.drop 3).drop k = rest := ⟨_, rfl⟩
  rw [hrest]
  have HREST := Lib.hid hrest
  have HRA := Lib.hid hr
  clear hf hr hv hs hrest
  go_enter Tryz.func112, Tryz.ntmps112
  go_wp2_with fail
  refine HF.out.mono ?_
  rintro e w1 ⟨B, rfl, hr, hB⟩
  unfold ansF
  have hr1 := rd_take (Rd.below (hr w HRA.out) hB) k
  have hr2 := fun W (h : RdB W A zs) => rd_drop (hr W h) k (c - 3) (by omega)
  obtain ⟨B2, hB2⟩ : ∃ B2, (if c - 3 = k then B else Option.map (fun x => x.add k) B) = B2 := ⟨_, rfl⟩
  rw [hB2] at hr2
  have hcv := run_string_rd (P := Tryz.prog) w1.drew 46 5 9 Tryz.underlying46 Tryz.underlying5 Tryz.underlying9 _ _ (c - 3) (hr1.below (Below.refl _ w1).drew)
  rw [show ((zs.drop 3).take k).length = k by simp; omega] at hcv
  have HR2 := Lib.hid hr2
  have hkc : k ≤ c - 3 := by omega
  have hnd : decide (c - 3 < k) = false := by simp; omega
  clear hr1 hr2 hr hd3
  rw [HS.out] at hcv
  rw [HREST.out] at HR2
  go_wp2_with fail
  go_region
  go_wp2
  go_ret3
  exact ⟨B2, rfl, HR2.out, hB.drew⟩

/-- What text answers. -/
theorem text_any (A : Option Addr) (c : Nat) (zs : List Int) (hc : zs.length ≤ c) (hl : zs.length ≤ 4611686018427387904) (ho : Octs zs) (w : World) (hr : RdB w A zs) :
    Calls Tryz.prog 112 #[.slice A zs.length c] w fun e w' => ∃ B d, e = .returned (ansT (rd1 zs).2.1 B (rd1 zs).2.2.length d (rd1 zs).1) ∧ (∀ W, RdB W A zs → RdB W B (rd1 zs).2.2) ∧ (rd1 zs).2.2.length ≤ d ∧ Below w.heap.size w w' := by
  by_cases h1 : zs.length < 3
  · have e1 : rd1 zs = (8, ByteArray.empty, []) := by unfold rd1; rw [if_pos h1]
    rw [e1]
    refine (text_short A zs.length c h1 w).mono ?_
    rintro e w' ⟨rfl, rfl⟩
    exact ⟨none, 0, rfl, fun _ _ => RdB.nil _ _, Nat.le_refl _, Below.refl _ _⟩
  · by_cases h2 : 65536 < val (zs.take 3)
    · have e1 : rd1 zs = (5, ByteArray.empty, []) := by unfold rd1; rw [if_neg h1, if_pos h2]
      rw [e1]
      refine (text_long A c zs (by omega) hc ho h2 w hr).mono ?_
      rintro e w' ⟨rfl, hB⟩
      exact ⟨none, 0, rfl, fun _ _ => RdB.nil _ _, Nat.le_refl _, hB⟩
    · by_cases h3 : ((zs.drop 3).length : Int) < val (zs.take 3)
      · have e1 : rd1 zs = (8, ByteArray.empty, []) := by unfold rd1; rw [if_neg h1, if_neg h2, if_pos h3]
        rw [e1]
        refine (text_ends A c zs (by omega) hc ho (by omega) h3 w hr).mono ?_
        rintro e w' ⟨rfl, hB⟩
        exact ⟨none, 0, rfl, fun _ _ => RdB.nil _ _, Nat.le_refl _, hB⟩
      · have e1 : rd1 zs = (0, strOfNums ((zs.drop 3).take (val (zs.take 3)).toNat), (zs.drop 3).drop (val (zs.take 3)).toNat) := by unfold rd1; rw [if_neg h1, if_neg h2, if_neg h3]
        rw [e1]
        have hb := val3_bd (zs.take 3) (by simp; omega) (ho.tk 3)
        refine (text_ok A c (val (zs.take 3)).toNat zs (by omega) hc hl ho (by omega) (by omega) (by omega) w hr).mono ?_
        rintro e w' ⟨B, rfl, hr', hB⟩
        refine ⟨B, _, rfl, hr', ?_, hB⟩
        simp only [List.length_drop]
        omega

end Go.Proofs.YtmehjmkakkiedaaGreat

namespace Go.Proofs.YtmehjmkakkiedaaGreat
open Go.ChangeShapes Go.WideShapes Go.ChangeAt Go.RowKit
set_option maxRecDepth 100000

/-- Texts and what is told of them. -/
def ansS (A : Option Addr) (n c : Nat) (e : Int) : Value := .tuple #[.slice A n c, .int .i64 e]

theorem infoS : (Tryz.prog.info? 9).map (fun i => (i.zero, i.size, i.bytes)) = some (some (.string ByteArray.empty), 1, 16) := by kernel_rfl

theorem one_cellS (ss : List ByteArray) : ∀ u ∈ ss.map Value.string, u.oneCell' = true := by
  intro u hu
  obtain ⟨z, _, rfl⟩ := List.mem_map.1 hu
  rfl

theorem read_short (A : Option Addr) (k c : Nat) (h : k < 2) (w : World) :
    Calls Tryz.prog 88 #[.slice A k c] w fun e w' => e = .returned (ansS none 0 0 8) ∧ w = w' := by
  go_enter Tryz.func88, Tryz.ntmps88
  go_wp2_with (refine (first_short A k c 2 h _).mono ?_; rintro e w' ⟨rfl, rfl⟩; unfold ansF)
  go_ret2
  exact ⟨rfl, rfl⟩

set_option maxHeartbeats 1000000 in
theorem read_many (A : Option Addr) (c : Nat) (zs : List Int) (hm : 2 ≤ zs.length) (hc : zs.length ≤ c) (ho : Octs zs) (hv : 1024 < val (zs.take 2)) (w : World) (hr : RdB w A zs) :
    Calls Tryz.prog 88 #[.slice A zs.length c] w fun e w' => e = .returned (ansS none 0 0 3) ∧ Below w.heap.size w w' := by
  have hf := first_ok A c 2 zs (by omega) (by omega) hm hc ho w hr
  have HF := Lib.hid hf
  clear hf hr
  generalize val (zs.take 2) = n at *
  go_enter Tryz.func88, Tryz.ntmps88
  go_wp2_with (refine HF.out.mono ?_; rintro e w' ⟨B, rfl, hr, hB⟩; unfold ansF)
  go_ret2
  exact ⟨rfl, hB⟩

theorem rdL_go {n k : Nat} (h : k < n) {zs : List Int} {acc : List ByteArray} {R : Int × List ByteArray} (hR : rdL (n - k) zs acc = R) {e : Int} {s : ByteArray} {r : List Int} (h1 : rd1 zs = (e, s, r)) :
    (e = 0 → rdL (n - (k + 1)) r (acc ++ [s]) = R) ∧ (e ≠ 0 → R = (e, [])) := by
  rw [show n - k = (n - (k + 1)) + 1 by omega] at hR
  simp only [rdL, h1] at hR
  constructor
  · intro h0
    rw [if_pos h0] at hR
    exact hR
  · intro h0
    rw [if_neg h0] at hR
    exact hR.symm

theorem rd1_rest (zs : List Int) (ho : Octs zs) : Octs (rd1 zs).2.2 ∧ (rd1 zs).2.2.length ≤ zs.length := by
  unfold rd1
  split
  · exact ⟨fun _ h => (by cases h), Nat.zero_le _⟩
  split
  · exact ⟨fun _ h => (by cases h), Nat.zero_le _⟩
  split
  · exact ⟨fun _ h => (by cases h), Nat.zero_le _⟩
  · refine ⟨(ho.dp 3).dp _, ?_⟩
    simp only [List.length_drop]
    omega

theorem ownS0 (w : World) (base : Nat) (e : TypeId) : w.ownsRow base e 1 (.slice none 0 0) 0 [] := ⟨rfl, .inl ⟨rfl, rfl⟩⟩
set_option maxHeartbeats 2000000 in
theorem read_loop (A : Option Addr) (c n : Nat) (zs : List Int) (hm : 2 ≤ zs.length) (hc : zs.length ≤ c) (hl : zs.length ≤ 4611686018427387904) (ho : Octs zs) (hv : val (zs.take 2) = n) (hn : n ≤ 1024) (R : Int × List ByteArray) (hR : rdL n (zs.drop 2) [] = R) (w : World) (hr : RdB w A zs) :
    Calls Tryz.prog 88 #[.slice A zs.length c] w fun e w' => ∃ B d, e = .returned (ansS B R.2.length d R.1) ∧ w'.ownsRow w.heap.size 9 1 (.slice B R.2.length d) R.2.length (R.2.map Value.string) ∧ Below w.heap.size w w' := by
  obtain ⟨i0, hi, hz0, hz1, hz2⟩ := info_parts infoS
  have hf := first_ok A c 2 zs (by omega) (by omega) hm hc ho w hr
  rw [hv] at hf
  have HF := Lib.hid hf
  have HR := Lib.hid hR
  have HO := Lib.hid (ho.dp 2)
  have hdl : (zs.drop 2).length = zs.length - 2 := by simp
  have HDL := Lib.hid hdl
  have HRA := Lib.hid hr
  clear hf hr hv hR ho hdl
  generalize zs.drop 2 = z0 at *
  go_enter Tryz.func88, Tryz.ntmps88
  go_wp2_with fail
  refine HF.out.mono ?_
  rintro e w1 ⟨B, rfl, hr, hB⟩
  unfold ansF
  have HR1 := Lib.hid (hr w HRA.out)
  clear hr
  go_wp2_with (at_make; refine wpList_make_own _ rfl _ _ 123 rfl w.heap.size 9 i0 (.string ByteArray.empty) 1 Tryz.underlying123 hi hz0 hz1 .i64 .i64 _ n rfl rfl (by omega) (by rw [hz2]; omega) (by unfold maxLen; omega) hB.size ?_; intro w2 hown2 hgrow2)
  have hB2 : Below w.heap.size w w2 := hB.grown hgrow2 hB.size (fun _ h => by cases h)
  clear hgrow2
  go_loopw [5, 7, 23] (fun rv v i wr => ∃ (k : Nat) (B : Option Addr) (d : Nat) (rest : List Int) (acc : List ByteArray), k ≤ n ∧ i = .int .i64 k ∧ rv = .slice B rest.length d ∧ rest.length ≤ d ∧ rest.length ≤ zs.length ∧ Hid (RdB w B rest) ∧ Hid (Octs rest) ∧ acc.length = k ∧ Hid (wr.ownsRow w.heap.size 9 1 v k (acc.map Value.string)) ∧ Hid (rdL (n - k) rest acc = R) ∧ Below w.heap.size w wr) (fun _ _ i _ => n - (intOf i).toNat)
  case atStart =>
    exact ⟨0, B, c - 2, z0, [], Nat.zero_le _, rfl, by rw [HDL.out], by have := HDL.out; omega, by have := HDL.out; omega, HR1, HO, rfl, Lib.hid hown2, HR, hB2⟩
  case round =>
    clear HR1 hown2 hB2 HDL HO HF HR hB
    obtain ⟨k, B, d, rest, acc, hk, rfl, rfl, hd, hrl, hrd, hoc, hacc, hown, hR, hBw⟩ := hrel
    by_cases hlt : k < n
    · have ht := text_any B d rest hd (by omega) hoc.out wr (Rd.below hrd.out hBw)
      have hrr := rd1_rest rest hoc.out
      rcases h1 : rd1 rest with ⟨e, s, r⟩
      rw [h1] at ht hrr
      have HT := Lib.hid ht
      have HG := Lib.hid (rdL_go hlt hR.out h1)
      have HOR := Lib.hid hrr.1
      have hrr2 : r.length ≤ rest.length := hrr.2
      clear ht h1 hrr hoc hR
      go_wp2_with fail
      refine HT.out.mono ?_
      rintro e' w3 ⟨B3, d3, rfl, hr3, hd3, hB3⟩
      have hd3' : r.length ≤ d3 := hd3
      have HR3 : Hid (RdB w B3 r) := Lib.hid (hr3 w hrd.out)
      have hB03 : Below w.heap.size w w3 := hBw.trans (hB3.mono hBw.size)
      have HOW := Lib.hid (own_below hown.out hB3 (Nat.le_refl _))
      clear hr3 hB3 hown HT hd3
      unfold ansT
      dsimp only
      by_cases he : e = 0
      · subst he
        have hRn := HG.out.1 rfl
        have HRN := Lib.hid hRn
        clear hRn HG
        go_wp2_with (at_builtin; refine wpList_append_own _ rfl _ _ 123 rfl w.heap.size 9 i0 (.string ByteArray.empty) 1 16 Tryz.underlying123 hi hz0 hz1 hz2 rfl (by decide) _ k (acc.map Value.string) rfl (by exact HOW.out.alloc _) ⟨w3.heap.size, 0, none⟩ 1 1 [.string s] rfl rfl (by exact cell_one_new _ _ _) (by simp [Value.oneCell']) (by unfold maxLen; omega) (by omega) (by have := hB03.size; simp; omega) ?_; intro v4 w4 hown4 hgrow4 _)
        have hB4 : Below w.heap.size w w4 := (hB03.alloc hB03.size _).grown hgrow4 (by have := hB03.size; simp; omega) (fun j e => (HOW.out.lt j e).1)
        have HO4 := Lib.hid hown4
        clear hgrow4 hown4
        go_roundw
        case rel =>
          refine ⟨k + 1, B3, d3, r, acc ++ [s], by omega, by go_num, rfl, hd3', by omega, HR3, HOR, by simp [hacc], ?_, HRN, hB4⟩
          have := HO4.out
          rw [List.map_append]
          exact Lib.hid this
        case measure => simp [intOf]; omega
      · have g : (e == 0) = false := beq_eq_false_iff_ne.2 he
        have hRn := HG.out.2 he
        have HRN := Lib.hid hRn
        clear hRn HG
        go_wp2
        go_ret2
        exact ⟨none, 0, by rw [HRN.out]; rfl, by rw [HRN.out]; exact ownS0 _ _ _, hB03⟩
    · obtain rfl : k = n := by omega
      have hR0 := hR.out
      rw [Nat.sub_self] at hR0
      by_cases h0 : rest.length = 0
      · have hRn : R = (0, acc) := by
          rw [← hR0]
          simp only [rdL]
          rw [if_pos h0]
        obtain ⟨B4, d4, rfl, hd4, hr4⟩ := own_slice hown.out
        have HR4 := Lib.hid hown.out
        have HRN := Lib.hid hRn
        clear hRn hR0 hR hown hr4
        go_wp2
        go_ret2
        exact ⟨B4, d4, by rw [HRN.out, ← hacc]; rfl, by rw [HRN.out]; show wr.ownsRow _ _ _ (.slice B4 acc.length d4) acc.length _; rw [hacc]; exact HR4.out, hBw⟩
      · have hRn : R = (9, []) := by
          rw [← hR0]
          simp only [rdL]
          rw [if_neg h0]
        have HRN := Lib.hid hRn
        clear hRn hR0 hR hown
        have hpos : 0 < rest.length := by omega
        go_wp2
        go_ret2
        exact ⟨none, 0, by rw [HRN.out]; rfl, by rw [HRN.out]; exact ownS0 _ _ _, hBw⟩

/-- What Read answers. -/
theorem read_own (A : Option Addr) (c : Nat) (zs : List Int) (hc : zs.length ≤ c) (hl : zs.length ≤ 4611686018427387904) (ho : Octs zs) (w : World) (hr : RdB w A zs) :
    Calls Tryz.prog 88 #[.slice A zs.length c] w fun e w' => ∃ B d, e = .returned (ansS B (rd zs).2.length d (rd zs).1) ∧ w'.ownsRow w.heap.size 9 1 (.slice B (rd zs).2.length d) (rd zs).2.length ((rd zs).2.map Value.string) ∧ Below w.heap.size w w' := by
  by_cases h1 : zs.length < 2
  · have e1 : rd zs = (8, []) := by unfold rd; rw [if_pos h1]
    rw [e1]
    refine (read_short A zs.length c h1 w).mono ?_
    rintro e w' ⟨rfl, rfl⟩
    exact ⟨none, 0, rfl, ownS0 _ _ _, Below.refl _ _⟩
  · by_cases h2 : 1024 < val (zs.take 2)
    · have e1 : rd zs = (3, []) := by unfold rd; rw [if_neg h1, if_pos h2]
      rw [e1]
      refine (read_many A c zs (by omega) hc ho h2 w hr).mono ?_
      rintro e w' ⟨rfl, hB⟩
      exact ⟨none, 0, rfl, ownS0 _ _ _, hB⟩
    · have e1 : rd zs = rdL (val (zs.take 2)).toNat (zs.drop 2) [] := by unfold rd; rw [if_neg h1, if_neg h2]
      have hb := val2_bd (zs.take 2) (by simp; omega) (ho.tk 2)
      exact read_loop A c (val (zs.take 2)).toNat zs (by omega) hc hl ho (by omega) (by omega) (rd zs) e1.symm w hr

theorem read_any (A : Option Addr) (c : Nat) (zs : List Int) (hc : zs.length ≤ c) (hl : zs.length ≤ 4611686018427387904) (ho : Octs zs) (w : World) (hr : RdB w A zs) :
    Calls Tryz.prog 88 #[.slice A zs.length c] w fun e w' => ∃ B d, e = .returned (ansS B (rd zs).2.length d (rd zs).1) ∧ RdS w' B (rd zs).2 ∧ Below w.heap.size w w' := by
  refine (read_own A c zs hc hl ho w hr).mono ?_
  rintro e w' ⟨B, d, rfl, ho, hB⟩
  obtain ⟨B4, d4, e4, _, hr4⟩ := own_slice ho
  injection e4 with e1 _ _
  subst e1
  exact ⟨B, d, rfl, hr4, hB⟩

end Go.Proofs.YtmehjmkakkiedaaGreat
