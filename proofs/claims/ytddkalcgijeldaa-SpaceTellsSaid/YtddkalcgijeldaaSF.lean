/-
  Free, Take and Union: what they answer. Conditions: at most 2^44 numbers in all, each a machine's.
-/
import Derived.Test.YtddkalcgijeldaaSE
namespace Go.Proofs.Ytddkalcgijeldaa
open Go.ChangeShapes Go.WideShapes Go.ChangeAt Go.RowKit Go.Maps

/-- Numbers, and an error. -/
abbrev ansI (A : Option Addr) (n c : Nat) (e : Int) : Value := .tuple #[.slice A n c, .int .i64 e]

theorem run_makeMap_hint {P : Program} {t k e : TypeId} (ht : P.underlying t = some (.map k e)) (n : Int) (w : World) : (Instr.makeMap t (some (.int .i64 n))).run P w = .ok (.map (some w.heap.size)) (w.alloc (.map #[] 0)) := by
  simp [Instr.makeMap, run_underlying ht, asInt, asIntOf, Result.andThen]

theorem free_no (t : Int) (A : Option Addr) (c : Nat) (zs : List Int) (hl : zs.length ≤ 17592186044416) (hn : chk t zs ≠ 0) (w : World) (hr : RdI w A zs) :
    Calls Try.prog 19 #[.int .i64 t, .slice A zs.length c] w fun e w' => e = .returned (ansI none 0 0 (chk t zs)) ∧ Below w.heap.size w w' := by
  have HC := Lib.hid (check_any t A c zs hl w hr)
  generalize chk t zs = r at *
  have hr1 : (r == 0) = false := by simpa using hn
  have hr2 : (r != 0) = true := by simpa using hn
  go_enter Try.func19, Try.ntmps19
  go_wp2_with (go_at_call 24; refine HC.out.mono ?_; rintro e w1 ⟨rfl, hB⟩)
  go_ret2
  exact ⟨rfl, hB⟩

theorem upto_take_succ {t : Int} {k : Nat} (h : (k : Int) + 2 < t) : (upto t).take (k + 1) = (upto t).take k ++ [(k : Int) + 2] := by
  have hlt : k < (t - 2).toNat := by omega
  have : (upto t)[k]? = some ((k : Int) + 2) := by simp [upto, hlt]
  rw [List.take_add_one, this]
  rfl

/-- What is left when these are struck. -/
def less (S T : List Int) : List Int := S.filter fun z => !T.contains z
theorem less_nil (S : List Int) : less S [] = S := by simp [less, List.filter_eq_self]
theorem less_snoc (S T : List Int) (z : Int) : ∀ x, x ∈ (less S T).filter (fun x => decide (x ≠ z)) ↔ x ∈ less S (T ++ [z]) := fun x => by
  simp only [less, List.mem_filter, decide_eq_true_eq, Bool.not_eq_true', List.contains_eq_mem, decide_eq_false_iff_not, List.mem_append, List.mem_singleton]
  constructor
  · rintro ⟨⟨h1, h2⟩, h3⟩; exact ⟨h1, fun h => h.elim h2 h3⟩
  · rintro ⟨h1, h2⟩; exact ⟨⟨h1, fun h => h2 (.inl h)⟩, fun h => h2 (.inr h)⟩

set_option maxRecDepth 100000 in
set_option maxHeartbeats 1000000 in
theorem free_ok (t : Int) (A : Option Addr) (c : Nat) (zs : List Int) (hl : zs.length ≤ 17592186044416) (hn : chk t zs = 0) (w : World) (hr : RdI w A zs) :
    Calls Try.prog 19 #[.int .i64 t, .slice A zs.length c] w fun e w' => ∃ (B : Option Addr) (d : Nat), e = .returned (ansI B (freeL t zs).length d 0) ∧ (freeL t zs).length ≤ d ∧ Hid (B = none → d = 0) ∧ Hid (RdI w' B (freeL t zs)) ∧ Below w.heap.size w w' := by
  have HC := Lib.hid (hn ▸ check_any t A c zs hl w hr)
  obtain ⟨⟨h1, h2⟩, hin, _⟩ := chk_ok.1 hn
  have HI := Lib.hid (ints_of_ins h2 hin)
  have HR := Lib.hid hr
  clear hn hr hin
  have hmm := fun W => run_makeMap_hint (P := Try.prog) Try.underlying72 t W
  go_enter Try.func19, Try.ntmps19
  go_wp2_with (go_at_call 24; refine HC.out.mono ?_; rintro e w1 ⟨rfl, hB1⟩)
  go_loopw [8] (fun i wr => ∃ (k m : Nat) (D : Dz), (k : Int) + 2 ≤ t ∧ i = .int .i64 ((k : Int) + 2) ∧ m ≤ k ∧ Hid (OwnS wr w1.heap.size m D) ∧ Hid (SetIs D ((upto t).take k)) ∧ Below w.heap.size w wr ∧ w1.heap.size < wr.heap.size) (fun i _ => (t - intOf i).toNat)
  case atStart =>
    have hs := hB1.size
    exact ⟨0, 0, .map [], by omega, rfl, Nat.le_refl _, Lib.hid (World.ownsMap_made _ _ _ _), Lib.hid (by simpa using SetIs.empty), hB1.alloc hs _, by simp⟩
  case round =>
    obtain ⟨k, m, D, hk, rfl, hm, HO, HS, hB, hs1⟩ := hrel
    by_cases hlt : (k : Int) + 2 < t
    · go_wp2_with (at_mapUpdate; refine wpList_mapUpdate_own _ rfl _ _ _ 72 rfl 3 73 keyed Try.underlying72 (unitElem (H := Unit)) w1.heap.size m D rfl HO.out (by unfold maxLen; omega) _ _ _ rfl rfl (key_int (by omega)) (.agg []) [] unitElem_mk ?_; intro w2 hown2 hgrow2)
      go_roundw
      case rel =>
        refine ⟨k + 1, m + 1, _, by omega, by go_num, by omega, Lib.hid hown2, Lib.hid ?_, hB.grown hgrow2 hB.size (fun i hi => by cases hi; exact hB1.size), by have := hgrow2.size; omega⟩
        rw [upto_take_succ hlt]
        exact HS.out.put _ _
      case measure => simp [intOf]; omega
    · have hkt : (upto t).take k = upto t := List.take_of_length_le (by rw [length_upto]; omega)
      rw [hkt] at HS
      have hm' : m ≤ 8192 := by omega
      have hbs := hB1.size
      clear hkt hm hk hmm
      go_wp2
      go_loopw [29] (fun i wr' => ∃ (j : Nat) (D' : Dz), j ≤ zs.length ∧ i = .int .i64 j ∧ Hid (OwnS wr' w1.heap.size m D') ∧ Hid (SetIs D' (less (upto t) (zs.take j))) ∧ Below w.heap.size w wr') (fun i _ => zs.length - (intOf i).toNat)
      case atStart => exact ⟨0, D, Nat.zero_le _, rfl, HO, Lib.hid (by rw [List.take_zero, less_nil]; exact HS.out), hB⟩
      case round =>
        obtain ⟨j, D', hj, rfl, HO', HS', hB'⟩ := hrel
        by_cases hlt' : j < zs.length
        · obtain ⟨b', off', z, rfl, hb', hc', HZ⟩ := RdI.at_ (RdI.below HR.out hB') hlt'
          have hz := HI.out z (List.mem_of_getElem? HZ.out)
          go_wp2_with (at_delete; refine wpList_delete_own _ rfl _ _ 72 3 rfl 73 keyed Try.underlying72 (unitElem (H := Unit)) w1.heap.size m D' rfl HO'.out _ _ rfl (key_int hz) ?_; intro w2 hown2 hturn2)
          go_roundw
          case rel =>
            refine ⟨j + 1, _, by omega, by go_num, Lib.hid hown2, Lib.hid ?_, hB'.grown hturn2.grown hB'.size (fun i hi => by cases hi; exact hbs)⟩
            rw [take_at HZ.out]
            exact (HS'.out.del z).of_mem (less_snoc _ _ _)
          case measure => simp [intOf]; omega
        · obtain rfl : j = zs.length := by omega
          rw [List.take_length] at HS'
          go_wp2_with (go_at_call 39; refine (rising_any w1.heap.size m D' _ _ HO'.out HS'.out (Nat.le_trans (length_free_le t zs) (by omega))).mono ?_; rintro e w3 ⟨B, d, L, rfl, HL, hd, HD0, HL', hB3⟩)
          have hLe : L = freeL t zs := HL.out.1.eq (rise_free t zs) HL.out.2.1
          subst hLe
          go_ret2
          exact ⟨B, d, rfl, hd, HD0, HL', hB'.trans (hB3.mono hB'.size)⟩

/-- What Take tells. -/
def tk (t : Int) (zs : List Int) (n : Int) : Int := if chk t zs ≠ 0 then chk t zs else if n < 0 then 4 else if (freeL t zs).length < n then 17 else 0

theorem take_no (t : Int) (A : Option Addr) (c : Nat) (zs : List Int) (n : Int) (hl : zs.length ≤ 17592186044416) (hn : tk t zs n ≠ 0) (w : World) (hr : RdI w A zs) :
    Calls Try.prog 21 #[.int .i64 t, .slice A zs.length c, .int .i64 n] w fun e w' => e = .returned (ansI none 0 0 (tk t zs n)) ∧ Below w.heap.size w w' := by
  by_cases h : chk t zs = 0
  · have HC := Lib.hid (free_ok t A c zs hl h w hr)
    have hfl : (freeL t zs).length ≤ 17592186044416 := Nat.le_trans (length_free_le t zs) (by have := (chk_ok.1 h).1; omega)
    unfold tk at hn ⊢
    rw [if_neg (by simpa using h)] at hn ⊢
    generalize freeL t zs = L at *
    by_cases h1 : n < 0
    · rw [if_pos h1]
      clear hn
      go_enter Try.func21, Try.ntmps21
      go_wp2_with (go_at_call 19; refine HC.out.mono ?_; rintro e w1 ⟨B, d, rfl, hd, HD0, HL, hB⟩)
      go_ret2
      exact ⟨rfl, hB⟩
    · rw [if_neg h1] at hn ⊢
      by_cases h2 : (L.length : Int) < n
      · rw [if_pos h2]
        clear hn
        have h3 : 0 ≤ n := by omega
        go_enter Try.func21, Try.ntmps21
        go_wp2_with (go_at_call 19; refine HC.out.mono ?_; rintro e w1 ⟨B, d, rfl, hd, HD0, HL, hB⟩)
        go_ret2
        exact ⟨rfl, hB⟩
      · rw [if_neg h2] at hn
        exact absurd rfl hn
  · have HC := Lib.hid (free_no t A c zs hl h w hr)
    have e : tk t zs n = chk t zs := by unfold tk; rw [if_pos h]
    rw [e] at hn ⊢
    clear e
    generalize chk t zs = r at *
    have hr1 : (r == 0) = false := by simpa using hn
    have hr2 : (r != 0) = true := by simpa using hn
    go_enter Try.func21, Try.ntmps21
    go_wp2_with (go_at_call 19; refine HC.out.mono ?_; rintro e w1 ⟨rfl, hB⟩)
    go_ret2
    exact ⟨rfl, hB⟩

theorem tk_ok {t : Int} {zs : List Int} {n : Int} : tk t zs n = 0 ↔ chk t zs = 0 ∧ 0 ≤ n ∧ n ≤ (freeL t zs).length := by
  unfold tk
  by_cases h : chk t zs = 0
  · rw [if_neg (by simpa using h)]
    by_cases h1 : n < 0
    · rw [if_pos h1]; omega
    · rw [if_neg h1]
      by_cases h2 : ((freeL t zs).length : Int) < n
      · rw [if_pos h2]; omega
      · rw [if_neg h2]; omega
  · rw [if_pos h]
    exact ⟨fun e => absurd e h, fun e => absurd e.1 h⟩

theorem take_ok (t : Int) (A : Option Addr) (c : Nat) (zs : List Int) (n : Nat) (hl : zs.length ≤ 17592186044416) (hn : tk t zs n = 0) (w : World) (hr : RdI w A zs) :
    Calls Try.prog 21 #[.int .i64 t, .slice A zs.length c, .int .i64 n] w fun e w' => ∃ (B : Option Addr) (d : Nat), e = .returned (ansI B n d 0) ∧ n ≤ d ∧ Hid (B = none → d = 0) ∧ Hid (RdI w' B ((freeL t zs).take n)) ∧ Below w.heap.size w w' := by
  obtain ⟨h, _, h2⟩ := tk_ok.1 hn
  have HC := Lib.hid (free_ok t A c zs hl h w hr)
  have hfl : (freeL t zs).length ≤ 17592186044416 := Nat.le_trans (length_free_le t zs) (by have := (chk_ok.1 h).1; omega)
  clear hn h
  generalize freeL t zs = L at *
  have h3 : n ≤ L.length := by omega
  clear h2
  go_enter Try.func21, Try.ntmps21
  go_wp2_with (go_at_call 19; refine HC.out.mono ?_; rintro e w1 ⟨B, d, rfl, hd, HD0, HL, hB⟩; have hnd : n ≤ d := by omega)
  go_ret2
  exact ⟨B, d, rfl, hnd, HD0, Lib.hid (RdI.take HL.out n), hB⟩

theorem union_any (A : Option Addr) (c : Nat) (ls : List Li) (w : World) (hr : RdL w A ls) :
    Calls Try.prog 26 #[.slice A ls.length c] w fun e w' => ∃ (B : Option Addr) (d : Nat) (L : List Int), e = .returned (.slice B L.length d) ∧ Hid (Rise L ∧ (∀ x, x ∈ L ↔ x ∈ flat ls) ∧ L.length ≤ (flat ls).length) ∧ L.length ≤ d ∧ Hid (RdI w' B L) ∧ Below w.heap.size w w' := by
  have HM := Lib.hid (met_any A c ls w hr)
  have hfew := hr.few
  clear hr
  go_enter Try.func26, Try.ntmps26
  go_wp2_with fail
  refine HM.out.mono ?_
  rintro e w1 ⟨m, D, rfl, HO, HS, hB1⟩
  go_wp2_with fail
  refine (rising_any w.heap.size m D _ _ HO.out HS.out hfew).mono ?_
  rintro e w3 ⟨B, d, L, rfl, HL, hd, HD0, HL', hB3⟩
  go_wp2
  go_ret
  exact ⟨B, d, L, rfl, HL, hd, HL', hB1.trans (hB3.mono hB1.size)⟩

end Go.Proofs.Ytddkalcgijeldaa
