/-
 snaps: when, and what it calls; cmp.Or of errors. Conditions: lists of at most 64.
-/
import Derived.Test.YtimmcmjipmkebaaGreatVSNU
import Derived.LoopTactic
import Derived.BigQuiet
namespace Go.Proofs.YtimmcmjipmkebaaGreat
open Go.ChangeShapes Go.WideShapes Go.ChangeAt Go.RowKit
set_option maxRecDepth 100000
set_option linter.unusedSimpArgs false
theorem orL_drop {l : List Int} {k : Nat} {v : Int} (h : l[k]? = some v) : orL (l.drop k) = if v ≠ 0 then v else orL (l.drop (k + 1)) := by
 have hk := (List.getElem?_eq_some_iff.1 h).1
 rw [List.drop_eq_getElem_cons hk, (List.getElem?_eq_some_iff.1 h).2]
 rfl
theorem any_drop {l : List Bool} {k : Nat} {v : Bool} (h : l[k]? = some v) : (l.drop k).any id = (v || (l.drop (k + 1)).any id) := by
 have hk := (List.getElem?_eq_some_iff.1 h).1
 rw [List.drop_eq_getElem_cons hk, (List.getElem?_eq_some_iff.1 h).2]
 rfl
theorem cmpOrL_any (l : List Int) (n : Nat) (hn : n = l.length) (hl : l.length ≤ 64) (b : Nat) (w : World) (hc : ∀ (k : Nat) (v : Int), l[k]? = some v → w.cell? ⟨b, k, none⟩ = some (.int .i64 v)) :
 Calls Tryz.prog 41 #[.slice (some ⟨b, 0, none⟩) n n] w fun e w' => e = .returned (.int .i64 (orL l)) ∧ w = w' := by
 subst hn
 have HC := zI hc
 obtain ⟨R, hR⟩ : ∃ R, orL l = R := ⟨_, rfl⟩
 rw [hR]
 have HR := zI hR
 clear hc hR
 go_enter Tryz.func41, Tryz.ntmps41
 go_wp2
 go_loopw [5, 8] (fun _ i W => ∃ k : Nat, k ≤ l.length ∧ i = .int .i64 k ∧ Hid (orL (l.drop k) = R) ∧ w = W) (fun _ i _ => l.length - (intOf i).toNat)
 case atStart => exact ⟨0, by omega, rfl, HR, rfl⟩
 case round =>
  obtain ⟨k, hk, rfl, HO, rfl⟩ := hrel
  by_cases hlt : k < l.length
  · obtain ⟨v, hv⟩ : ∃ v, l[k]? = some v := ⟨_, qZa hlt⟩
    have c0 := HC.out k v hv
    have h9 := orL_drop hv
    rw [HO.out] at h9
    have h2 : wrap64 ((k : Int) + 1) = (k : Int) + 1 := IntWalk.wrap64_in _ (by omega)
    have HV := zI h9
    clear hv h9
    by_cases hx : v = 0
    · have hq : (v == 0) = true := beq_iff_eq.2 hx
      have HX : Hid (orL (l.drop (k + 1)) = R) := zI (by have := HV.out; rw [if_neg (by rw [hx]; decide)] at this; exact this.symm)
      clear hx
      go_wp2
      go_roundw
      case rel => exact ⟨k + 1, by omega, by go_num, HX, by trivial⟩
      case measure => simp [intOf]; omega
    · have hq : (v == 0) = false := beq_eq_false_iff_ne.2 hx
      have HX : Hid (R = v) := zI (by have := HV.out; rw [if_pos hx] at this; exact this)
      clear hx
      go_wp2
      go_ret
      rw [HX.out]
      exact ⟨rfl, rfl⟩
  · obtain rfl : k = l.length := by omega
    have HX : Hid (R = 0) := zI (by have := HO.out; rw [List.drop_length] at this; exact this.symm)
    go_wp2
    go_ret
    rw [HX.out]
    exact ⟨rfl, rfl⟩
theorem indexBl_any (l : List Bool) (n : Nat) (hn : n = l.length) (hl : l.length ≤ 64) (b : Nat) (w : World) (hc : ∀ (k : Nat) (v : Bool), l[k]? = some v → w.cell? ⟨b, k, none⟩ = some (.bool v)) :
 Calls Tryz.prog 152 #[.slice (some ⟨b, 0, none⟩) n n, .bool true] w fun e w' => (∃ i : Int, e = .returned (.int .i64 i) ∧ decide (0 ≤ i) = l.any id) ∧ w = w' := by
 subst hn
 have HC := zI hc
 obtain ⟨R, hR⟩ : ∃ R, l.any id = R := ⟨_, rfl⟩
 rw [hR]
 have HR := zI hR
 clear hc hR
 go_enter Tryz.func152, Tryz.ntmps152
 go_wp2
 go_loopw [8] (fun i W => ∃ k : Nat, k ≤ l.length ∧ i = .int .i64 k ∧ Hid ((l.drop k).any id = R) ∧ w = W) (fun i _ => l.length - (intOf i).toNat)
 case atStart => exact ⟨0, by omega, rfl, HR, rfl⟩
 case round =>
  obtain ⟨k, hk, rfl, HO, rfl⟩ := hrel
  by_cases hlt : k < l.length
  · obtain ⟨v, hv⟩ : ∃ v, l[k]? = some v := ⟨_, qZa hlt⟩
    have c0 := HC.out k v hv
    have h9 := any_drop hv
    rw [HO.out] at h9
    have h2 : wrap64 ((k : Int) + 1) = (k : Int) + 1 := IntWalk.wrap64_in _ (by omega)
    have HV := zI h9
    clear hv h9
    rcases v with _ | _
    · have HX : Hid ((l.drop (k + 1)).any id = R) := zI (by have := HV.out; rw [Bool.false_or] at this; exact this.symm)
      go_wp2
      go_roundw
      case rel => exact ⟨k + 1, by omega, by go_num, HX, by trivial⟩
      case measure => simp [intOf]; omega
    · have HX : Hid (R = true) := zI (by have := HV.out; rw [Bool.true_or] at this; exact this)
      go_wp2
      go_ret
      rw [HX.out]
      exact ⟨⟨_, rfl, by simp⟩, rfl⟩
  · obtain rfl : k = l.length := by omega
    have HX : Hid (R = false) := zI (by have := HO.out; rw [List.drop_length] at this; exact this.symm)
    go_wp2
    go_ret
    rw [HX.out]
    exact ⟨⟨_, rfl, by decide⟩, rfl⟩
theorem containsBl_any (l : List Bool) (n : Nat) (hn : n = l.length) (hl : l.length ≤ 64) (b : Nat) (w : World) (hc : ∀ (k : Nat) (v : Bool), l[k]? = some v → w.cell? ⟨b, k, none⟩ = some (.bool v)) :
 Calls Tryz.prog 92 #[.slice (some ⟨b, 0, none⟩) n n, .bool true] w fun e w' => e = .returned (.bool (l.any id)) ∧ w = w' := by
 have HI := zI (indexBl_any l n hn hl b w hc)
 obtain ⟨R, hR⟩ : ∃ R, l.any id = R := ⟨_, rfl⟩
 rw [hR] at HI ⊢
 clear hc hR hn hl
 go_enter Tryz.func92, Tryz.ntmps92
 go_wp2_with fail
 refine HI.out.mono ?_
 rintro e w1 ⟨⟨i, rfl, hi⟩, rfl⟩
 have HX : Hid ((decide (0 ≤ i)) = R) := zI hi
 clear hi HI
 go_wp2
 go_ret
 exact ⟨congrArg (fun b => Ending.returned (.bool b)) HX.out, rfl⟩
theorem when_any (E : Int) (l : List Bool) (n : Nat) (hn : n = l.length) (hl : l.length ≤ 64) (b : Nat) (w : World) (hc : ∀ (k : Nat) (v : Bool), l[k]? = some v → w.cell? ⟨b, k, none⟩ = some (.bool v)) :
 Calls Tryz.prog 43 #[.int .i64 E, .slice (some ⟨b, 0, none⟩) n n] w fun e w' => e = .returned (.int .i64 (whenI E (l.any id))) ∧ w = w' := by
 have HI := zI (containsBl_any l n hn hl b w hc)
 clear hc hn hl
 obtain ⟨R, hR⟩ : ∃ R, l.any id = R := ⟨_, rfl⟩
 rw [hR] at HI ⊢
 clear hR
 go_enter Tryz.func43, Tryz.ntmps43
 go_wp2_with fail
 refine HI.out.mono ?_
 rintro e w1 ⟨rfl, rfl⟩
 rcases R with _ | _
 · go_wp2
   go_ret
   exact ⟨rfl, rfl⟩
 · go_wp2
   go_ret
   exact ⟨rfl, rfl⟩
end Go.Proofs.YtimmcmjipmkebaaGreat
