/-
 Amounts: the program's isAmount and isFrom1, the reference's amount. No conditions.
-/
import Derived.Test.YtimmcmjipmkebaaGreatVTNP
import Derived.Test.YtimmcmjipmkebaaGreatVSL
import Derived.Great.BuildSlice
namespace Go.Proofs.YtimmcmjipmkebaaGreat
open Go.ChangeShapes Go.WideShapes Go.ChangeAt Go.RowKit
set_option maxRecDepth 100000
theorem amt_no {m n : Int} (h : amt m n = false) : n < m ∨ m ≤ n ∧ 1099511627776 < n := by
 unfold amt at h
 by_cases h1 : m ≤ n
 · rw [decide_eq_true h1, Bool.true_and] at h
   have := of_decide_eq_false h
   omega
 · omega
theorem amt_yes {m n : Int} (h : amt m n = true) : m ≤ n ∧ n ≤ 1099511627776 := by
 unfold amt at h
 rw [Bool.and_eq_true] at h
 exact ⟨of_decide_eq_true h.1, of_decide_eq_true h.2⟩
theorem count1 (n : Int) (b : Nat) (w : World) (h0 : w.cell? ⟨b, 0, none⟩ = some (.int .i64 n)) :
 Calls Tryz.prog 138 #[.slice (some ⟨b, 0, none⟩) 1 1] w fun e w' => e = .returned (.int .i64 (if amt 0 n then 0 else 4)) ∧ w = w' := by
 rcases ha : amt 0 n with _ | _
 · rcases amt_no ha with h | ⟨h, h'⟩
   all_goals
    clear ha
    go_enter Tryz.func138, Tryz.ntmps138
    go_wp2
    go_loop [7] (fun i => i = .int .i64 0) (fun i => 1 - (intOf i).toNat)
    case atStart => rfl
    case round =>
     subst hrel
     have hlt : (0 : Int) < 1 := by omega
     go_wp2
     go_ret
     exact ⟨rfl, rfl⟩
 · obtain ⟨h1, h2⟩ := amt_yes ha
   clear ha
   go_enter Tryz.func138, Tryz.ntmps138
   go_wp2
   go_loop [7] (fun i => ∃ k : Nat, k ≤ 1 ∧ i = .int .i64 k) (fun i => 1 - (intOf i).toNat)
   case atStart => exact ⟨0, Nat.zero_le _, rfl⟩
   case round =>
    obtain ⟨k, hk, rfl⟩ := hrel
    by_cases hlt : k < 1
    · obtain rfl : k = 0 := by omega
      go_wp2
      go_round
      case rel => exact ⟨0 + 1, by omega, by go_num⟩
      case measure => simp [intOf]
    · obtain rfl : k = 1 := by omega
      go_wp2
      go_ret
      exact ⟨rfl, rfl⟩
theorem isAmount_any (n : Int) (w : World) :
 Calls Tryz.prog 86 #[.int .i64 n] w fun e w' => e = .returned (.bool (amt 0 n)) ∧ Below w.heap.size w w' := by
 obtain ⟨R, hR⟩ : ∃ R, amt 0 n = R := ⟨_, rfl⟩
 obtain ⟨w1, hw1⟩ : ∃ w1, w.alloc (.cells #[.int .i64 n] 3) = w1 := ⟨_, rfl⟩
 have hB1 : Below w.heap.size w w1 := hw1 ▸ (Below.refl _ w).alloc (Nat.le_refl _) _
 have k1 : Blk w1 w.heap.size 3 [.int .i64 n] := hw1 ▸ Blk.new w _ _
 have x0 := k1.cell 0
 simp only [List.getElem?_cons_zero] at x0
 have HC := zI (count1 n w.heap.size w1 x0)
 have HW := zI hw1
 rw [hR] at HC ⊢
 clear hw1 hR k1 x0
 go_enter Tryz.func86, Tryz.ntmps86
 go_wp2_with fail
 rw [HW.out]
 go_wp2_with fail
 refine HC.out.mono ?_
 rintro e w2 ⟨rfl, rfl⟩
 cases R
 all_goals
  go_wp2
  go_ret
  exact ⟨rfl, hB1⟩
theorem isFrom1_any (n : Int) (w : World) :
 Calls Tryz.prog 87 #[.int .i64 n] w fun e w' => e = .returned (.bool (amt 1 n)) ∧ Below w.heap.size w w' := by
 obtain ⟨R, hR⟩ : ∃ R, amt 1 n = R := ⟨_, rfl⟩
 have HR := zI hR
 rw [hR]
 clear hR
 by_cases h : 0 < n
 · have h' : amt 0 n = R := by
    rw [← HR.out, amt, amt, decide_eq_true (show 0 ≤ n by omega), decide_eq_true (show 1 ≤ n by omega)]
   have HC := zI (isAmount_any n)
   rw [h'] at HC
   clear HR h'
   go_enter Tryz.func87, Tryz.ntmps87
   go_wp2_with fail
   refine (HC.out _).mono ?_
   rintro e w2 ⟨rfl, hB⟩
   go_wp2
   go_ret
   exact ⟨rfl, hB⟩
 · obtain rfl : R = false := by
    rw [← HR.out, amt, decide_eq_false (by omega), Bool.false_and]
   clear HR
   go_enter Tryz.func87, Tryz.ntmps87
   go_wp2
   go_ret
   exact ⟨rfl, Below.refl _ _⟩
theorem amount_any (m n : Int) (w : World) :
 Calls Tryz.prog 68 #[.int .i64 n, .int .i64 m] w fun e w' => e = .returned (.bool (amt m n)) ∧ w = w' := by
 obtain ⟨R, hR⟩ : ∃ R, amt m n = R := ⟨_, rfl⟩
 have HR := zI hR
 rw [hR]
 clear hR
 by_cases h1 : m ≤ n
 · by_cases h2 : n ≤ 1099511627776
   · obtain rfl : R = true := by rw [← HR.out, amt, decide_eq_true h1, decide_eq_true h2]; rfl
     clear HR
     go_enter Tryz.func68, Tryz.ntmps68
     go_wp2
     go_ret
     exact ⟨rfl, rfl⟩
   · obtain rfl : R = false := by rw [← HR.out, amt, decide_eq_false h2, Bool.and_false]
     clear HR
     go_enter Tryz.func68, Tryz.ntmps68
     go_wp2
     go_ret
     exact ⟨rfl, rfl⟩
 · obtain rfl : R = false := by rw [← HR.out, amt, decide_eq_false h1, Bool.false_and]
   clear HR
   go_enter Tryz.func68, Tryz.ntmps68
   go_wp2
   go_ret
   exact ⟨rfl, rfl⟩
theorem run_buildOne (P : Program) (w : World) (t e : TypeId) (cs : Array Value) (n : Nat) (z : Value) (bytes : Nat) (hu : P.underlying t = some (.slice e)) (hi : (P.info? e).map (fun i => (i.zero, i.size, i.bytes)) = some (some z, n, bytes)) (hp : 0 < n) (hn : n ≤ 16777216) (hc : cs.size = n) :
 (Instr.buildSlice t 1 #[(0, .agg cs)]).run P w = .ok (.slice (some ⟨w.heap.size, 0, none⟩) 1 1) (w.alloc (.cells cs e)) := by
 obtain ⟨ie, hie, hz0, hz1, hz2⟩ := infoParts hi
 refine run_buildSlice w t e 1 _ cs ie z hu hie hz0 (by rw [hz1]; omega) (by rw [hz1]; omega) ?_
 rw [hz1]
 obtain ⟨r, hr, hs, hk⟩ := Great.fill_dense hp [.agg cs] 0 ((Array.range (1 * n)).map (z.cells[· % z.cells.size]!)) (fun v hv => by simp at hv; subst hv; exact hc) (by simp)
 have : r = cs := by
  refine Array.ext_getElem? fun k => ?_
  rw [hk]
  have hsz : r.size = n := by rw [hs]; simp
  by_cases h : k < n
  · rw [if_pos (by simp; omega)]
    rw [Nat.div_eq_of_lt h, Nat.mod_eq_of_lt h]
    rfl
  · rw [if_neg (by simp; omega)]
    rw [Array.getElem?_eq_none (by simp; omega), Array.getElem?_eq_none (by omega)]
 subst this
 exact hr
end Go.Proofs.YtimmcmjipmkebaaGreat
