/-
  What the page's Has and Check, and the plain comparison of numbers, answer. Conditions: at most 2^44 numbers.
-/
import Derived.Test.YtddkalcgijeldaaV
import Derived.Test.YtddkalcgijeldaaSM
import Derived.Deep.QuietTactic
import Derived.BigQuiet
import Derived.Deep.RegionHeld3
namespace Go.Proofs.Ytddkalcgijeldaa
open Go.ChangeShapes Go.WideShapes Go.ChangeAt Go.RowKit

theorem num7_any (n : Int) (w : World) :
    Calls Try.prog 23 #[.int .i64 n] w fun e w' => e = .returned (.int .i64 n) ∧ w = w' := by
  go_enter Try.func23, Try.ntmps23
  go_wp2
  go_ret
  exact ⟨rfl, rfl⟩

theorem has_yes (A : Option Addr) (c : Nat) (zs : List Int) (x : Int) (hl : zs.length ≤ 17592186044416) (hx : x ∈ zs) (w : World) (hr : RdI w A zs) :
    Calls Try.prog 27 #[.slice A zs.length c, .int .i64 x] w fun e w' => e = .returned (.bool true) ∧ w = w' := by
  have HX := Lib.hid hx
  clear hx
  go_enter Try.func27, Try.ntmps27
  go_wp2
  go_loop [5] (fun i => ∃ k : Nat, k ≤ zs.length ∧ i = .int .i64 k ∧ Hid (x ∈ zs.drop k)) (fun i => zs.length - (intOf i).toNat)
  case atStart => exact ⟨0, Nat.zero_le _, rfl, HX⟩
  case round =>
    obtain ⟨k, hk, rfl, HD⟩ := hrel
    by_cases hlt : k < zs.length
    · obtain ⟨b, off, z, rfl, hb, hc, HZ⟩ := hr.at_ hlt
      by_cases he : z = x
      · subst he
        go_wp2
        go_ret
        exact ⟨rfl, rfl⟩
      · have HD' : Hid (x ∈ zs.drop (k + 1)) := by
          have := HD.out
          rw [drop_at zs HZ.out] at this
          rcases List.mem_cons.1 this with h | h
          · exact absurd h.symm he
          · exact h
        go_wp2
        go_round
        case rel => exact ⟨k + 1, by omega, by go_num, HD'⟩
        case measure => simp [intOf]; omega
    · exfalso
      have := HD.out
      rw [List.drop_eq_nil_of_le (by omega)] at this
      simp at this

theorem has_no (A : Option Addr) (c : Nat) (zs : List Int) (x : Int) (hl : zs.length ≤ 17592186044416) (hx : x ∉ zs) (w : World) (hr : RdI w A zs) :
    Calls Try.prog 27 #[.slice A zs.length c, .int .i64 x] w fun e w' => e = .returned (.bool false) ∧ w = w' := by
  have HX := Lib.hid hx
  clear hx
  go_enter Try.func27, Try.ntmps27
  go_wp2
  go_loop [5] (fun i => ∃ k : Nat, k ≤ zs.length ∧ i = .int .i64 k) (fun i => zs.length - (intOf i).toNat)
  case atStart => exact ⟨0, Nat.zero_le _, rfl⟩
  case round =>
    obtain ⟨k, hk, rfl⟩ := hrel
    by_cases hlt : k < zs.length
    · obtain ⟨b, off, z, rfl, hb, hc, HZ⟩ := hr.at_ hlt
      have he : ¬ z = x := fun e => HX.out (e ▸ List.mem_of_getElem? HZ.out)
      go_wp2
      go_round
      case rel => exact ⟨k + 1, by omega, by go_num⟩
      case measure => simp [intOf]; omega
    · go_wp2
      go_ret
      exact ⟨rfl, rfl⟩

/-- Is a number among these? -/
def hasB (zs : List Int) (x : Int) : Bool := zs.contains x
theorem hasB_iff {zs : List Int} {x : Int} : hasB zs x = true ↔ x ∈ zs := by simp [hasB]
theorem has_any (A : Option Addr) (c : Nat) (zs : List Int) (x : Int) (hl : zs.length ≤ 17592186044416) (w : World) (hr : RdI w A zs) :
    Calls Try.prog 27 #[.slice A zs.length c, .int .i64 x] w fun e w' => e = .returned (.bool (hasB zs x)) ∧ w = w' := by
  by_cases hx : x ∈ zs
  · rw [hasB_iff.2 hx]
    exact has_yes A c zs x hl hx w hr
  · rw [show hasB zs x = false by rw [← Bool.not_eq_true, hasB_iff]; exact hx]
    exact has_no A c zs x hl hx w hr

theorem RdI.take {w : World} {A : Option Addr} {zs : List Int} (h : RdI w A zs) (n : Nat) : RdI w A (zs.take n) := fun hne => by
  obtain ⟨b, off, e, hb, hc⟩ := h (by intro e; simp at e; subst e; simp at hne)
  refine ⟨b, off, e, hb, fun j u hu => hc j u ?_⟩
  rw [List.getElem?_map] at hu ⊢
  rw [List.getElem?_take] at hu
  split at hu
  · exact hu
  · cases hu

theorem ints_true (A B : Option Addr) (c d : Nat) (zs : List Int) (hl : zs.length ≤ 17592186044416) (w : World) (ha : RdI w A zs) (hb : RdI w B zs) :
    Calls Try.prog 22 #[.slice A zs.length c, .slice B zs.length d] w fun e w' => e = .returned (.bool true) ∧ Below w.heap.size w w' := by
  go_enter Try.func22, Try.ntmps22
  go_wp2
  go_loopw [5] (fun i wr => ∃ k : Nat, k ≤ zs.length ∧ i = .int .i64 k ∧ Below w.heap.size w wr) (fun i _ => zs.length - (intOf i).toNat)
  case atStart => exact ⟨0, Nat.zero_le _, rfl, Below.refl _ _⟩
  case round =>
    obtain ⟨k, hk, rfl, hB⟩ := hrel
    by_cases hlt : k < zs.length
    · obtain ⟨b1, o1, z, rfl, hb1, hc1, HZ1⟩ := (RdI.below ha hB).at_ hlt
      obtain ⟨b2, o2, z', rfl, hb2, hc2, HZ2⟩ := (RdI.below hb hB).at_ hlt
      obtain rfl : z = z' := by have h1 := HZ1.out; have h2 := HZ2.out; rw [h1] at h2; injection h2
      go_wp2
      go_region
      go_wp2
      go_roundw
      case rel => exact ⟨k + 1, by omega, by go_num, hB.trans ⟨rfl, rfl, rfl, Nat.le_refl _, fun _ _ => rfl⟩⟩
      case measure => simp [intOf]; omega
    · go_wp2
      go_ret
      exact ⟨rfl, hB⟩

end Go.Proofs.Ytddkalcgijeldaa
