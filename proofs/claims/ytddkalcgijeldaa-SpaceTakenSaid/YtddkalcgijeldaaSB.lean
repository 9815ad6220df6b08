/-
  What the page's Check and Free answer. Conditions: at most 2^44 numbers.
-/
import Derived.Test.YtddkalcgijeldaaSA
namespace Go.Proofs.Ytddkalcgijeldaa
open Go.ChangeShapes Go.WideShapes Go.ChangeAt Go.RowKit

theorem has_len (A : Option Addr) (c n : Nat) (zs : List Int) (x : Int) (hn : zs.length = n) (hl : n ≤ 17592186044416) (w : World) (hr : RdI w A zs) :
    Calls Try.prog 27 #[.slice A n c, .int .i64 x] w fun e w' => e = .returned (.bool (hasB zs x)) ∧ w = w' := by
  subst hn
  exact has_any A c zs x hl w hr

theorem rchk_tot (t : Int) (A : Option Addr) (c : Nat) (zs : List Int) (ht : tot t = false) (w : World) :
    Calls Try.prog 40 #[.int .i64 t, .slice A zs.length c] w fun e w' => e = .returned (.int .i64 4) ∧ Below w.heap.size w w' := by
  have h : t < 2 ∨ (2 ≤ t ∧ 8192 < t) := by
    have : ¬ (2 ≤ t ∧ t ≤ 8192) := fun h => by rw [tot_iff.2 h] at ht; cases ht
    omega
  rcases h with h | ⟨h1, h2⟩
  · go_enter Try.func40, Try.ntmps40
    go_wp2
    go_ret
    exact ⟨rfl, Below.refl _ _⟩
  · go_enter Try.func40, Try.ntmps40
    go_wp2
    go_ret
    exact ⟨rfl, Below.refl _ _⟩

theorem ins_cons {t z : Int} {zs : List Int} : ins t (z :: zs) = (decide (2 ≤ z) && decide (z < t) && ins t zs) := rfl

theorem rchk_out (t : Int) (A : Option Addr) (c : Nat) (zs : List Int) (ht : tot t = true) (hi : ins t zs = false) (hl : zs.length ≤ 17592186044416) (w : World) (hr : RdI w A zs) :
    Calls Try.prog 40 #[.int .i64 t, .slice A zs.length c] w fun e w' => e = .returned (.int .i64 4) ∧ Below w.heap.size w w' := by
  obtain ⟨h1, h2⟩ := tot_iff.1 ht
  have HI := Lib.hid hi
  clear ht hi
  go_enter Try.func40, Try.ntmps40
  go_wp2
  go_loop [5] (fun i => ∃ k : Nat, k ≤ zs.length ∧ i = .int .i64 k ∧ Hid (ins t (zs.drop k) = false)) (fun i => zs.length - (intOf i).toNat)
  case atStart => exact ⟨0, Nat.zero_le _, rfl, HI⟩
  case round =>
    obtain ⟨k, hk, rfl, HD⟩ := hrel
    by_cases hlt : k < zs.length
    · obtain ⟨b, off, z, rfl, hb, hc, HZ⟩ := hr.at_ hlt
      by_cases h3 : z < 2
      · go_wp2
        go_ret
        exact ⟨rfl, Below.refl _ _⟩
      · by_cases h4 : t ≤ z
        · have h5 : 2 ≤ z := by omega
          go_wp2
          go_ret
          exact ⟨rfl, Below.refl _ _⟩
        · have h5 : 2 ≤ z := by omega
          have h6 : z < t := by omega
          have HD' : Hid (ins t (zs.drop (k + 1)) = false) := by
            have := HD.out
            rw [drop_at zs HZ.out, ins_cons] at this
            exact Lib.hid (by simpa [h5, h6] using this)
          go_wp2
          go_round
          case rel => exact ⟨k + 1, by omega, by go_num, HD'⟩
          case measure => simp [intOf]; omega
    · exfalso
      have := HD.out
      rw [List.drop_eq_nil_of_le (by omega)] at this
      simp [ins] at this

theorem take_at {zs : List Int} {k : Nat} {z : Int} (h : zs[k]? = some z) : zs.take (k + 1) = zs.take k ++ [z] := by
  rw [List.take_add_one, h]; rfl

theorem rchk_in (t : Int) (A : Option Addr) (c : Nat) (zs : List Int) (ht : tot t = true) (hi : ins t zs = true) (hl : zs.length ≤ 17592186044416) (hcap : zs.length ≤ c) (w : World) (hr : RdI w A zs) :
    Calls Try.prog 40 #[.int .i64 t, .slice A zs.length c] w fun e w' => e = .returned (.int .i64 (chk t zs)) ∧ Below w.heap.size w w' := by
  obtain ⟨h1, h2⟩ := tot_iff.1 ht
  have HT := Lib.hid (show (tot t && ins t zs) = true by rw [ht, hi]; rfl)
  have HI := Lib.hid (ins_iff.1 hi)
  clear ht hi
  go_enter Try.func40, Try.ntmps40
  go_wp2
  go_loop [5] (fun i => ∃ k : Nat, k ≤ zs.length ∧ i = .int .i64 k) (fun i => zs.length - (intOf i).toNat)
  case atStart => exact ⟨0, Nat.zero_le _, rfl⟩
  case round =>
    obtain ⟨k, hk, rfl⟩ := hrel
    by_cases hlt : k < zs.length
    · obtain ⟨b, off, z, rfl, hb, hc, HZ⟩ := hr.at_ hlt
      obtain ⟨h5, h6⟩ := HI.out z (List.mem_of_getElem? HZ.out)
      go_wp2
      go_round
      case rel => exact ⟨k + 1, by omega, by go_num⟩
      case measure => simp [intOf]; omega
    · go_wp2
      go_loopw [6] (fun i wr => ∃ k : Nat, k ≤ zs.length ∧ i = .int .i64 k ∧ Hid ((zs.take k).Nodup) ∧ Below w.heap.size w wr) (fun i _ => zs.length - (intOf i).toNat)
      case atStart => exact ⟨0, Nat.zero_le _, rfl, Lib.hid (by simp), Below.refl _ _⟩
      case round =>
        obtain ⟨k, hk, rfl, HN, hB⟩ := hrel
        by_cases hlt : k < zs.length
        · have hr' := RdI.below hr hB
          obtain ⟨b, off, z, rfl, hb, hc, HZ⟩ := hr'.at_ hlt
          have HR := Lib.hid (RdI.take hr' k)
          have hck : decide (c < k) = false := decide_eq_false (by omega)
          have hk0 : (0 : Int) ≤ (k : Int) := by omega
          have hkc : (k : Int) ≤ (c : Int) := by omega
          clear hr' hr
          rcases hbb : hasB (zs.take k) z with _ | _
          · have HH : Hid (∀ w', RdI w' (some ⟨b, off, none⟩) (zs.take k) → Calls Try.prog 27 #[.slice (some ⟨b, off, none⟩) k c, .int .i64 z] w' fun e w'' => e = .returned (.bool false) ∧ w' = w'') :=
              Lib.hid fun w' h => hbb ▸ has_len _ c k (zs.take k) z (by simp; omega) (by omega) w' h
            have HB := Lib.hid hbb
            clear hbb
            go_wp2
            go_region_held3 (fun w' => w'.cell? ⟨b, off + k, none⟩ = some (.int .i64 z))
              (exact hc)
              (first | (go_at_call 27; ((with_reducible refine (HH.out _ (RdI.below HR.out (Below.refl _ _).drew)).mono ?_); rintro e w3 ⟨rfl, rfl⟩)))
            go_wp2
            go_roundw
            case rel =>
              refine ⟨k + 1, by omega, by go_num, ?_, hB.drew⟩
              have h1 := HB.out
              rw [← Bool.not_eq_true, hasB_iff] at h1
              rw [take_at HZ.out]
              exact Lib.hid (nodup_snoc.2 ⟨HN.out, h1⟩)
            case measure => simp [intOf]; omega
          · have HH : Hid (∀ w', RdI w' (some ⟨b, off, none⟩) (zs.take k) → Calls Try.prog 27 #[.slice (some ⟨b, off, none⟩) k c, .int .i64 z] w' fun e w'' => e = .returned (.bool true) ∧ w' = w'') :=
              Lib.hid fun w' h => hbb ▸ has_len _ c k (zs.take k) z (by simp; omega) (by omega) w' h
            have HB := Lib.hid hbb
            clear hbb
            go_wp2
            go_region_held3 (fun w' => w'.cell? ⟨b, off + k, none⟩ = some (.int .i64 z))
              (exact hc)
              (first | (go_at_call 27; ((with_reducible refine (HH.out _ (RdI.below HR.out (Below.refl _ _).drew)).mono ?_); rintro e w3 ⟨rfl, rfl⟩)))
            go_wp2
            go_ret
            have h1 := hasB_iff.1 HB.out
            exact ⟨by rw [chk_6 HT.out (fun h => (nodup_snoc.1 (by rw [← take_at HZ.out]; exact h.sublist (List.take_sublist _ _))).2 h1)]; rfl, hB.drew⟩
        · go_wp2
          go_ret
          exact ⟨by rw [chk_0 HT.out (by have := HN.out; rwa [List.take_of_length_le (by omega)] at this)]; rfl, hB⟩

theorem rchk_any (t : Int) (A : Option Addr) (c : Nat) (zs : List Int) (hl : zs.length ≤ 17592186044416) (hcap : zs.length ≤ c) (w : World) (hr : RdI w A zs) :
    Calls Try.prog 40 #[.int .i64 t, .slice A zs.length c] w fun e w' => e = .returned (.int .i64 (chk t zs)) ∧ Below w.heap.size w w' := by
  rcases ht : tot t with _ | _
  · rw [chk_4 (by rw [ht]; rfl)]
    exact rchk_tot t A c zs ht w
  · rcases hi : ins t zs with _ | _
    · rw [chk_4 (by rw [ht, hi]; rfl)]
      exact rchk_out t A c zs ht hi hl w hr
    · exact rchk_in t A c zs ht hi hl hcap w hr

end Go.Proofs.Ytddkalcgijeldaa
