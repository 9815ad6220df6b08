/-
  Check, Free, Take and Union: what they answer. Conditions: at most 2^44 numbers in all, each a machine's.
-/
import Derived.Test.YtddkalcgijeldaaSD
import Derived.Test.YtddkalcgijeldaaSB
namespace Go.Proofs.Ytddkalcgijeldaa
open Go.ChangeShapes Go.WideShapes Go.ChangeAt Go.RowKit Go.Maps

theorem met_one (B : Option Addr) (zs : List Int) (d : Nat) (w : World) (n t : Nat) (hn : w.heap.size = n) (hl : zs.length ≤ 17592186044416) (hi : Ints zs) (hr : RdI w B zs) :
    Calls Try.prog 41 #[.slice (some ⟨n, 0, none⟩) 1 1] (w.alloc (.cells #[.slice B zs.length d] t)) fun e w' => ∃ (m : Nat) (D : Dz), e = .returned (.map (some (n + 1))) ∧ Hid (OwnS w' (n + 1) m D) ∧ Hid (SetIs D zs) ∧ Below n w w' := by
  subst hn
  have hB : Below w.heap.size w (w.alloc (.cells #[.slice B zs.length d] t)) := (Below.refl _ _).alloc (Nat.le_refl _) _
  have hR : RdL (w.alloc (.cells #[.slice B zs.length d] t)) (some ⟨w.heap.size, 0, none⟩) [⟨B, zs, d⟩] :=
    ⟨fun _ => ⟨w.heap.size, 0, rfl, by simp, fun j u hu => by
        rcases j with _ | j
        · have hu' : some (Value.slice B zs.length d) = some u := hu
          injection hu' with hu'
          subst hu'
          rw [cell_of_row (w.alloc (.cells #[.slice B zs.length d] t)) w.heap.size (0 + 0) #[.slice B zs.length d] t (0, 0) (heap_alloc_new w _)]
          rfl
        · simp at hu⟩,
      fun l hl => by simp at hl; subst hl; exact RdI.below hr hB, fun l hl => by simp at hl; subst hl; exact hi, by simpa [flat] using hl, by simp⟩
  refine (met_any (some ⟨w.heap.size, 0, none⟩) 1 [⟨B, zs, d⟩] _ hR).mono ?_
  rintro e w' ⟨m, D, rfl, HO, HS, hb⟩
  have hsz : (w.alloc (.cells #[.slice B zs.length d] t)).heap.size = w.heap.size + 1 := by simp
  rw [hsz] at HO hb
  exact ⟨m, D, by rw [hsz], HO, Lib.hid (by simpa [flat] using HS.out), hB.trans (hb.mono (by omega))⟩

theorem check_tot (t : Int) (A : Option Addr) (c : Nat) (zs : List Int) (ht : tot t = false) (w : World) :
    Calls Try.prog 24 #[.int .i64 t, .slice A zs.length c] w fun e w' => e = .returned (.int .i64 4) ∧ Below w.heap.size w w' := by
  have h : t < 2 ∨ (2 ≤ t ∧ 8192 < t) := by
    have : ¬ (2 ≤ t ∧ t ≤ 8192) := fun h => by rw [tot_iff.2 h] at ht; cases ht
    omega
  rcases h with h | ⟨h1, h2⟩
  · go_enter Try.func24, Try.ntmps24
    go_wp2
    go_ret
    exact ⟨rfl, Below.refl _ _⟩
  · go_enter Try.func24, Try.ntmps24
    go_wp2
    go_ret
    exact ⟨rfl, Below.refl _ _⟩

theorem check_out (t : Int) (A : Option Addr) (c : Nat) (zs : List Int) (ht : tot t = true) (hi : ins t zs = false) (hl : zs.length ≤ 17592186044416) (w : World) (hr : RdI w A zs) :
    Calls Try.prog 24 #[.int .i64 t, .slice A zs.length c] w fun e w' => e = .returned (.int .i64 4) ∧ Below w.heap.size w w' := by
  obtain ⟨h1, h2⟩ := tot_iff.1 ht
  have HI := Lib.hid hi
  clear ht hi
  go_enter Try.func24, Try.ntmps24
  go_wp2
  go_loop [15] (fun i => ∃ k : Nat, k ≤ zs.length ∧ i = .int .i64 k ∧ Hid (ins t (zs.drop k) = false)) (fun i => zs.length - (intOf i).toNat)
  case atStart => exact ⟨0, Nat.zero_le _, rfl, HI⟩
  case round =>
    obtain ⟨k, hk, rfl, HD⟩ := hrel
    by_cases hlt : k < zs.length
    · obtain ⟨b, off, z, rfl, hb, hc, HZ⟩ := hr.at_ hlt
      by_cases h3 : z < 2
      · go_wp2
        go_ret
        exact ⟨rfl, Below.refl _ _⟩
      · by_cases h4 : t ≤ z
        · have h5 : 2 ≤ z := by omega
          go_wp2
          go_ret
          exact ⟨rfl, Below.refl _ _⟩
        · have h5 : 2 ≤ z := by omega
          have h6 : z < t := by omega
          have HD' : Hid (ins t (zs.drop (k + 1)) = false) := by
            have := HD.out
            rw [drop_at zs HZ.out, ins_cons] at this
            exact Lib.hid (by simpa [h5, h6] using this)
          go_wp2
          go_round
          case rel => exact ⟨k + 1, by omega, by go_num, HD'⟩
          case measure => simp [intOf]; omega
    · exfalso
      have := HD.out
      rw [List.drop_eq_nil_of_le (by omega)] at this
      simp [ins] at this

theorem ints_of_ins {t : Int} {zs : List Int} (h2 : t ≤ 8192) (h : ∀ z ∈ zs, 2 ≤ z ∧ z < t) : Ints zs := fun z hz => by
  have := h z hz
  omega

set_option maxRecDepth 100000 in
theorem check_in (t : Int) (A : Option Addr) (c : Nat) (zs : List Int) (ht : tot t = true) (hi : ins t zs = true) (hl : zs.length ≤ 17592186044416) (w : World) (hr : RdI w A zs) :
    Calls Try.prog 24 #[.int .i64 t, .slice A zs.length c] w fun e w' => e = .returned (.int .i64 (chk t zs)) ∧ Below w.heap.size w w' := by
  obtain ⟨h1, h2⟩ := tot_iff.1 ht
  have HT := Lib.hid (show (tot t && ins t zs) = true by rw [ht, hi]; rfl)
  have HI := Lib.hid (ins_iff.1 hi)
  have HM := Lib.hid (fun n ty hn => met_one A zs c w n ty hn hl (ints_of_ins h2 (ins_iff.1 hi)) hr)
  clear ht hi
  go_enter Try.func24, Try.ntmps24
  go_wp2
  go_loop [15] (fun i => ∃ k : Nat, k ≤ zs.length ∧ i = .int .i64 k) (fun i => zs.length - (intOf i).toNat)
  case atStart => exact ⟨0, Nat.zero_le _, rfl⟩
  case round =>
    obtain ⟨k, hk, rfl⟩ := hrel
    by_cases hlt : k < zs.length
    · obtain ⟨b, off, z, rfl, hb, hc, HZ⟩ := hr.at_ hlt
      obtain ⟨h5, h6⟩ := HI.out z (List.mem_of_getElem? HZ.out)
      go_wp2
      go_round
      case rel => exact ⟨k + 1, by omega, by go_num⟩
      case measure => simp [intOf]; omega
    · go_wp2_with fail
      refine (HM.out _ _ rfl).mono ?_
      rintro e w1 ⟨m, D, rfl, HO, HS, hB⟩
      obtain ⟨hs1, hs2, hs3⟩ := size_set HO.out HS.out
      by_cases hn : zs.Nodup
      · have hd : decide (Maps.size D < zs.length) = false := decide_eq_false (by have := hs2 hn; omega)
        have HN := Lib.hid (chk_0 HT.out hn)
        clear hs1 hs2 hs3 hn
        go_wp2_with (at_len; refine wpList_len_own _ rfl _ 72 rfl 3 73 Try.underlying72 (unitElem (H := Unit)) (w.heap.size + 1) m D rfl HO.out ?_)
        go_ret
        exact ⟨by rw [HN.out]; rfl, hB⟩
      · have hd : decide (Maps.size D < zs.length) = true := decide_eq_true (hs3 hn)
        have HN := Lib.hid (chk_6 HT.out hn)
        clear hs1 hs2 hs3 hn
        go_wp2_with (at_len; refine wpList_len_own _ rfl _ 72 rfl 3 73 Try.underlying72 (unitElem (H := Unit)) (w.heap.size + 1) m D rfl HO.out ?_)
        go_ret
        exact ⟨by rw [HN.out]; rfl, hB⟩

theorem check_any (t : Int) (A : Option Addr) (c : Nat) (zs : List Int) (hl : zs.length ≤ 17592186044416) (w : World) (hr : RdI w A zs) :
    Calls Try.prog 24 #[.int .i64 t, .slice A zs.length c] w fun e w' => e = .returned (.int .i64 (chk t zs)) ∧ Below w.heap.size w w' := by
  rcases ht : tot t with _ | _
  · rw [chk_4 (by rw [ht]; rfl)]
    exact check_tot t A c zs ht w
  · rcases hi : ins t zs with _ | _
    · rw [chk_4 (by rw [ht, hi]; rfl)]
      exact check_out t A c zs ht hi hl w hr
    · exact check_in t A c zs ht hi hl w hr

end Go.Proofs.Ytddkalcgijeldaa
