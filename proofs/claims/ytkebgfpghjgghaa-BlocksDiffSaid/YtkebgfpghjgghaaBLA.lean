/-
  blocks: Check, isIndex; strings.Clone. Conditions: the lists are as they come in.
-/
import Derived.Test.YtkebgfpghjgghaaBLM
import Derived.Test.YtkebgfpghjgghaaShelf
import Derived.LoopTactic
import Derived.Lib.Hide
import Derived.IntWalk
import Derived.RegionTactic
namespace Go.Proofs.Ytkebgfpghjgghaa
open Go.ChangeShapes Go.WideShapes Go.ChangeAt Go.RowKit
set_option maxRecDepth 100000

theorem dropB {α : Type} (zs : List α) {k : Nat} {z : α} (h : zs[k]? = some z) : zs.drop k = z :: zs.drop (k + 1) := by
  obtain ⟨hk, rfl⟩ := List.getElem?_eq_some_iff.1 h
  exact List.drop_eq_getElem_cons hk

set_option maxHeartbeats 1000000 in
theorem blkCheck_any (A : Option Addr) (c n : Nat) (l : List Bk) (hn : l.length = n) (hl : n ≤ 8796093022208) (hf : ∀ x ∈ l, x.2.size ≤ 140737488351232) (w : World) (hr : Rd w A (bks l)) :
    Calls Try.prog 21 #[.slice A n c] w fun e w' => e = .returned (.int .i64 (chkK l)) ∧ Below w.heap.size w w' := by
  subst hn
  obtain ⟨R, hR⟩ : ∃ R, chkK l = R := ⟨_, rfl⟩
  rw [hR]
  go_enter Try.func21, Try.ntmps21
  go_wp2
  go_loopw [3, 8] (fun last i W => ∃ (k : Nat) (n : Int), k ≤ l.length ∧ 0 ≤ n ∧ i = .int .i64 k ∧ last = .int .i64 n ∧ Hid (okF n (l.drop k) = okK l) ∧ Below w.heap.size w W) (fun last i _ => l.length - (intOf i).toNat)
  case atStart => exact ⟨0, 0, Nat.zero_le _, Int.le_refl _, rfl, rfl, Lib.hid rfl, Below.refl _ _⟩
  case round =>
    obtain ⟨k, n, hk, hn0, rfl, rfl, HD, hB⟩ := hrel
    by_cases hlt : k < l.length
    · obtain ⟨x, hx⟩ : ∃ x, l[k]? = some x := ⟨l[k], List.getElem?_eq_getElem hlt⟩
      obtain ⟨b, off, rfl, hb, hc0, hc1⟩ := (Rd.below hr hB).bk hx
      have hdr : l.drop k = x :: l.drop (k + 1) := dropB _ hx
      have hks : x.2.size ≤ 140737488351232 := hf x (List.mem_of_getElem? hx)
      rw [hdr] at HD
      have hB5 : Below w.heap.size w (wr.alloc (.cells #[.int .i64 x.1, .string x.2] 58)) := hB.alloc hB.size _
      by_cases h1 : x.1 < n
      · have HR : Hid (R = 9) := by
          have := HD.out
          rw [okF, decide_eq_false (show ¬ n ≤ x.1 by omega)] at this
          simp only [Bool.false_and] at this
          exact Lib.hid (by rw [← hR, chkK, ← this]; rfl)
        clear HD hR hdr hf
        go_wp2
        go_ret
        rw [HR.out]
        exact ⟨rfl, hB5⟩
      · by_cases h2 : 1024 ≤ x.1
        · have HR : Hid (R = 9) := by
            have := HD.out
            rw [okF, decide_eq_false (show ¬ x.1 < 1024 by omega)] at this
            simp only [Bool.false_and, Bool.and_false] at this
            exact Lib.hid (by rw [← hR, chkK, ← this]; rfl)
          clear HD hR hdr hf
          go_wp2
          go_ret
          rw [HR.out]
          exact ⟨rfl, hB5⟩
        · by_cases h3 : x.2.size = 16
          · have HD' : Hid (okF (x.1 + 1) (l.drop (k + 1)) = okK l) := by
              have := HD.out
              rw [okF, decide_eq_true (show n ≤ x.1 by omega), decide_eq_true (show x.1 < 1024 by omega), decide_eq_true h3] at this
              exact Lib.hid (by simpa using this)
            have g3 : ((x.2.size : Int) == 16) = true := beq_iff_eq.2 (by omega)
            have hw1 : wrap64 (x.1 + 1) = x.1 + 1 := IntWalk.wrap64_in _ (by omega)
            clear HD hdr hf
            go_wp2
            go_round
            case rel => exact ⟨k + 1, x.1 + 1, by omega, by omega, by go_num, rfl, HD', by first | exact hB5 | trivial⟩
            case measure => simp [intOf]; omega
          · have HR : Hid (R = 9) := by
              have := HD.out
              rw [okF, decide_eq_false h3] at this
              simp only [Bool.false_and, Bool.and_false] at this
              exact Lib.hid (by rw [← hR, chkK, ← this]; rfl)
            have g3 : ((x.2.size : Int) == 16) = false := beq_eq_false_iff_ne.2 (by omega)
            clear HD hR hdr hf
            go_wp2
            go_ret
            rw [HR.out]
            exact ⟨rfl, hB5⟩
    · have HR : Hid (R = 0) := by
        have := HD.out
        rw [List.drop_eq_nil_of_le (by omega), okF] at this
        exact Lib.hid (by rw [← hR, chkK, ← this]; rfl)
      clear HD
      go_wp2
      go_ret
      rw [HR.out]
      exact ⟨rfl, by first | exact hB | assumption⟩

theorem isIndex_any (n : Int) (w : World) :
    Calls Try.prog 27 #[.int .i64 n] w fun e w' => e = .returned (.bool (decide (0 ≤ n) && decide (n < 1024))) ∧ w' = w := by
  by_cases h1 : 0 ≤ n
  · by_cases h2 : n < 1024
    · rw [decide_eq_true h1, decide_eq_true h2]
      go_enter Try.func27, Try.ntmps27
      go_wp2
      go_ret
      exact ⟨rfl, rfl⟩
    · rw [decide_eq_true h1, decide_eq_false h2]
      go_enter Try.func27, Try.ntmps27
      go_wp2
      go_ret
      exact ⟨rfl, rfl⟩
  · rw [decide_eq_false h1]
    go_enter Try.func27, Try.ntmps27
    go_wp2
    go_ret
    exact ⟨rfl, rfl⟩

theorem cloneT_any (s : ByteArray) (hl : s.size ≤ 281474976710656) (w : World) :
    Calls Try.prog 31 #[.string s] w fun e w' => e = .returned (.string s) ∧ Below w.heap.size w w' := by
  go_enter Try.func31, Try.ntmps31
  go_wp2_with (refine (Try.stringslite_Clone _ _ hl).mono ?_; rintro e w' ⟨rfl, hB⟩)
  go_ret
  exact ⟨rfl, hB⟩

end Go.Proofs.Ytkebgfpghjgghaa
