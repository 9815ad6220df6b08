/-
 props: slices.Equal, Same; the reference SameProps. Conditions: the lists are as they come in.
-/
import Derived.Test.YtimmcmjipmkebaaGreatVEM
import Derived.Test.YtimmcmjipmkebaaGreatVRL
namespace Go.Proofs.YtimmcmjipmkebaaGreat
open Go.ChangeShapes Go.WideShapes Go.ChangeAt Go.RowKit
set_option maxRecDepth 100000
theorem pr_ne {x1 y1 x2 y2 : ByteArray} (h : ¬ ((x1, x2) : Pr) = (y1, y2)) : (x1.toList == y1.toList) = false ∨ (x1 = y1 ∧ (x2.toList == y2.toList) = false) := by
 by_cases h1 : x1 = y1
 · refine .inr ⟨h1, ?_⟩
   rw [beqTE, decide_eq_false]
   intro e
   exact h (by rw [h1, e])
 · exact .inl (by rw [beqTE, decide_eq_false h1])
theorem sameSplit {α : Type} [DecidableEq α] (a b : List α) (_h : a.length = b.length) (k : Nat) (hp : a.take k = b.take k) (x y : α) (hx : a[k]? = some x) (hy : b[k]? = some y) : a.take (k + 1) = b.take (k + 1) ↔ x = y := by
 rw [List.take_add_one, List.take_add_one, hx, hy, hp]
 simp
set_option maxHeartbeats 1000000 in
theorem refSameP_any (A B : Option Addr) (c d n m : Nat) (a b : List Pr) (hn : a.length = n) (hm : b.length = m) (hl : n ≤ 8796093022208) (hl2 : m ≤ 8796093022208) (w : World) (hr : Rd w A (prs a)) (hs : Rd w B (prs b)) :
 Calls Tryz.prog 110 #[.slice A n c, .slice B m d] w fun e w' => e = .returned (.bool (decide (a = b))) ∧ Below w.heap.size w w' := by
 subst hn hm
 obtain ⟨R, hR⟩ : ∃ R, decide (a = b) = R := ⟨_, rfl⟩
 rw [hR]
 by_cases hab : a.length = b.length
 · have HAB := zI hab
   have hq : ((a.length : Int) == b.length) = true := beq_iff_eq.2 (by omega)
   go_enter Tryz.func110, Tryz.ntmps110
   go_wp2
   clear hq
   go_loopw [5] (fun i W => ∃ k : Nat, k ≤ a.length ∧ i = .int .i64 k ∧ Hid (a.take k = b.take k) ∧ Below w.heap.size w W) (fun i _ => a.length - (intOf i).toNat)
   case atStart => exact ⟨0, Nat.zero_le _, rfl, zI rfl, Below.refl _ _⟩
   case round =>
    obtain ⟨k, hk, rfl, HT, hB⟩ := hrel
    by_cases hlt : k < a.length
    · obtain ⟨x, hx⟩ : ∃ x, a[k]? = some x := ⟨a[k], qZa hlt⟩
      obtain ⟨y, hy⟩ : ∃ y, b[k]? = some y := ⟨b[k]'(by omega), qZa (by omega)⟩
      obtain ⟨ba, oa, rfl, hba, hc0, hc1⟩ := (Rd.below hr hB).pr hx
      obtain ⟨bb, ob, rfl, hbb, hd0, hd1⟩ := (Rd.below hs hB).pr hy
      have hsp := sameSplit a b hab k HT.out x y hx hy
      have HS := zI hsp
      clear hsp hx hy
      have hlb : k < b.length := by omega
      by_cases he : x = y
      · subst he
        have HT' : Hid (a.take (k + 1) = b.take (k + 1)) := zI (HS.out.2 rfl)
        clear HT HS hab
        go_wp2_with (go_quiet (fail))
        go_round
        case rel => exact ⟨k + 1, by omega, by go_num, HT', hB.trans (zaX _ _ _)⟩
        case measure => simp [intOf]; omega
      · have HR : Hid (R = false) := zI (by
         rw [← hR]
         refine decide_eq_false fun e => he (HS.out.1 (by rw [e])))
        clear hR HS HT hab
        obtain ⟨x1, x2⟩ := x
        obtain ⟨y1, y2⟩ := y
        dsimp only at hc0 hc1 hd0 hd1
        rcases pr_ne he with h | ⟨rfl, h⟩
        · clear he
          go_wp2_with (go_quiet (fail))
          go_ret
          rw [HR.out]
          exact ⟨rfl, hB.trans (zaX _ _ _)⟩
        · clear he
          go_wp2_with (go_quiet (fail))
          go_ret
          rw [HR.out]
          exact ⟨rfl, hB.trans (zaX _ _ _)⟩
    · have HR : Hid (R = true) := zI (by
       have := HT.out
       rw [List.take_of_length_le (by omega), List.take_of_length_le (by omega)] at this
       rw [← hR]
       exact decide_eq_true this)
      have hlb : ¬ k < b.length := by omega
      clear hR HT hab
      go_wp2
      go_ret
      rw [HR.out]
      exact ⟨rfl, hB⟩
 · have HR : Hid (R = false) := zI (by rw [← hR]; exact decide_eq_false fun e => hab (by rw [e]))
   have hq : ((a.length : Int) == b.length) = false := beq_eq_false_iff_ne.2 (by omega)
   clear hR
   go_enter Tryz.func110, Tryz.ntmps110
   go_wp2
   go_ret
   rw [HR.out]
   exact ⟨rfl, Below.refl _ _⟩
end Go.Proofs.YtimmcmjipmkebaaGreat
