/-
 The reference's Same of contents
-/
import Derived.Test.YtimmcmjipmkebaaGreatVBLM
import Derived.Test.YtimmcmjipmkebaaGreatVGO
import Derived.Test.YtimmcmjipmkebaaGreatVRL
import Derived.BigQuiet
import Derived.LoopTactic
import Derived.Lib.Hide
import Derived.IntWalk
import Derived.RegionTactic
import Derived.Deep.QuietTactic
import Derived.Laws.StructEq
namespace Go.Proofs.YtimmcmjipmkebaaGreat
open Go.ChangeShapes Go.WideShapes Go.ChangeAt Go.RowKit
set_option maxRecDepth 100000
set_option linter.unusedSimpArgs false
set_option linter.unusedVariables false
theorem dropB {α : Type} (zs : List α) {k : Nat} {z : α} (h : zs[k]? = some z) : zs.drop k = z :: zs.drop (k + 1) := by
 obtain ⟨hk, rfl⟩ := List.getElem?_eq_some_iff.1 h
 exact List.drop_eq_getElem_cons hk
theorem bk_ne {x1 y1 : Int} {x2 y2 : ByteArray} (h : ¬ ((x1, x2) : Bk) = (y1, y2)) : (x1 == y1) = false ∨ (x1 = y1 ∧ (x2.toList == y2.toList) = false) := by
 by_cases h1 : x1 = y1
 · refine .inr ⟨h1, beq_eq_false_iff_ne.2 fun e => h ?_⟩
   rw [Lib.toList_data, Lib.toList_data] at e
   rw [h1, ByteArray.ext (Array.toList_inj.1 e)]
 · exact .inl (beq_eq_false_iff_ne.2 h1)
theorem same_split {α : Type} [DecidableEq α] (a b : List α) (h : a.length = b.length) (k : Nat) (hp : a.take k = b.take k) (x y : α) (hx : a[k]? = some x) (hy : b[k]? = some y) : a.take (k + 1) = b.take (k + 1) ↔ x = y := by
 rw [List.take_add_one, List.take_add_one, hx, hy, hp]
 simp
set_option maxHeartbeats 1000000 in
theorem refSame_any (A B : Option Addr) (c d n m : Nat) (a b : List Bk) (hn : a.length = n) (hm : b.length = m) (hl : n ≤ 8796093022208) (hl2 : m ≤ 8796093022208) (w : World) (hr : Rd w A (bks a)) (hs : Rd w B (bks b)) :
 Calls Tryz.prog 26 #[.slice A n c, .slice B m d] w fun e w' => e = .returned (.bool (decide (a = b))) ∧ Below w.heap.size w w' := by
 subst hn hm
 obtain ⟨R, hR⟩ : ∃ R, decide (a = b) = R := ⟨_, rfl⟩
 rw [hR]
 by_cases hab : a.length = b.length
 · have HAB := zI hab
   have hq : ((a.length : Int) == b.length) = true := beq_iff_eq.2 (by omega)
   go_enter Tryz.func26, Tryz.ntmps26
   go_wp2
   clear hq
   go_loopw [5] (fun i W => ∃ k : Nat, k ≤ a.length ∧ i = .int .i64 k ∧ Hid (a.take k = b.take k) ∧ Below w.heap.size w W) (fun i _ => a.length - (intOf i).toNat)
   case atStart => exact ⟨0, Nat.zero_le _, rfl, zI rfl, Below.refl _ _⟩
   case round =>
    obtain ⟨k, hk, rfl, HT, hB⟩ := hrel
    by_cases hlt : k < a.length
    · obtain ⟨x, hx⟩ : ∃ x, a[k]? = some x := ⟨a[k], qZa hlt⟩
      obtain ⟨y, hy⟩ : ∃ y, b[k]? = some y := ⟨b[k]'(by omega), qZa (by omega)⟩
      obtain ⟨ba, oa, rfl, hba, hc0, hc1⟩ := (Rd.below hr hB).bk hx
      obtain ⟨bb, ob, rfl, hbb, hd0, hd1⟩ := (Rd.below hs hB).bk hy
      have hsp := same_split a b hab k HT.out x y hx hy
      have HS := zI hsp
      clear hsp hx hy
      have hlb : k < b.length := by omega
      by_cases he : x = y
      · subst he
        have HT' : Hid (a.take (k + 1) = b.take (k + 1)) := zI (HS.out.2 rfl)
        clear HT HS hab
        go_wp2_with (go_quiet (fail))
        go_round
        case rel => exact ⟨k + 1, by omega, by go_num, HT', hB.trans (zaX _ _ _)⟩
        case measure => simp [intOf]; omega
      · have HR : Hid (R = false) := zI (by
         rw [← hR]
         refine decide_eq_false fun e => he (HS.out.1 (by rw [e]))
        )
        clear hR HS HT hab
        obtain ⟨x1, x2⟩ := x
        obtain ⟨y1, y2⟩ := y
        dsimp only at hc0 hc1 hd0 hd1
        rcases bk_ne he with h | ⟨rfl, h⟩
        · clear he
          go_wp2_with (go_quiet (fail))
          go_ret
          rw [HR.out]
          exact ⟨rfl, hB.trans (zaX _ _ _)⟩
        · clear he
          go_wp2_with (go_quiet (fail))
          go_ret
          rw [HR.out]
          exact ⟨rfl, hB.trans (zaX _ _ _)⟩
    · have HR : Hid (R = true) := zI (by
       have := HT.out
       rw [List.take_of_length_le (by omega), List.take_of_length_le (by omega)] at this
       rw [← hR]
       exact decide_eq_true this)
      have hlb : ¬ k < b.length := by omega
      clear hR HT hab
      go_wp2
      go_ret
      rw [HR.out]
      exact ⟨rfl, hB⟩
 · have HR : Hid (R = false) := zI (by rw [← hR]; exact decide_eq_false fun e => hab (by rw [e]))
   have hq : ((a.length : Int) == b.length) = false := beq_eq_false_iff_ne.2 (by omega)
   clear hR
   go_enter Tryz.func26, Tryz.ntmps26
   go_wp2
   go_ret
   rw [HR.out]
   exact ⟨rfl, Below.refl _ _⟩
set_option maxHeartbeats 2000000
theorem blkCheck_any (A : Option Addr) (c n : Nat) (l : List Bk) (hn : l.length = n) (hl : n ≤ 8796093022208) (hf : ∀ x ∈ l, x.2.size ≤ 140737488351232) (w : World) (hr : Rd w A (bks l)) :
 Calls Tryz.prog 192 #[.slice A n c] w fun e w' => e = .returned (.int .i64 (chkK l)) ∧ Below w.heap.size w w' := by
 subst hn
 obtain ⟨R, hR⟩ : ∃ R, chkK l = R := ⟨_, rfl⟩
 rw [hR]
 go_enter Tryz.func192, Tryz.ntmps192
 go_wp2
 go_loopw [3, 8] (fun last i W => ∃ (k : Nat) (n : Int), k ≤ l.length ∧ 0 ≤ n ∧ i = .int .i64 k ∧ last = .int .i64 n ∧ Hid (okF n (l.drop k) = okK l) ∧ Below w.heap.size w W) (fun last i _ => l.length - (intOf i).toNat)
 case atStart => exact ⟨0, 0, Nat.zero_le _, Int.le_refl _, rfl, rfl, zI rfl, Below.refl _ _⟩
 case round =>
  obtain ⟨k, n, hk, hn0, rfl, rfl, HD, hB⟩ := hrel
  by_cases hlt : k < l.length
  · obtain ⟨x, hx⟩ : ∃ x, l[k]? = some x := ⟨l[k], qZa hlt⟩
    obtain ⟨b, off, rfl, hb, hc0, hc1⟩ := (Rd.below hr hB).bk hx
    have hdr : l.drop k = x :: l.drop (k + 1) := dropB _ hx
    have hks : x.2.size ≤ 140737488351232 := hf x (mG hx)
    rw [hdr] at HD
    have hB5 : Below w.heap.size w (wr.alloc (.cells #[.int .i64 x.1, .string x.2] 106)) := hB.alloc hB.size _
    by_cases h1 : x.1 < n
    · have HR : Hid (R = 9) := by
       have := HD.out
       rw [okF, decide_eq_false (show ¬ n ≤ x.1 by omega)] at this
       simp only [Bool.false_and] at this
       exact zI (by rw [← hR, chkK, ← this]; rfl)
      clear HD hR hdr hf
      go_wp2
      go_ret
      rw [HR.out]
      exact ⟨rfl, hB5⟩
    · by_cases h2 : 1024 ≤ x.1
      · have HR : Hid (R = 9) := by
         have := HD.out
         rw [okF, decide_eq_false (show ¬ x.1 < 1024 by omega)] at this
         simp only [Bool.false_and, Bool.and_false] at this
         exact zI (by rw [← hR, chkK, ← this]; rfl)
        clear HD hR hdr hf
        go_wp2
        go_ret
        rw [HR.out]
        exact ⟨rfl, hB5⟩
      · by_cases h3 : x.2.size = 16
        · have HD' : Hid (okF (x.1 + 1) (l.drop (k + 1)) = okK l) := by
           have := HD.out
           rw [okF, decide_eq_true (show n ≤ x.1 by omega), decide_eq_true (show x.1 < 1024 by omega), decide_eq_true h3] at this
           exact zI (by simpa using this)
          have g3 : ((x.2.size : Int) == 16) = true := beq_iff_eq.2 (by omega)
          have hw1 : wrap64 (x.1 + 1) = x.1 + 1 := IntWalk.wrap64_in _ (by omega)
          clear HD hdr hf
          go_wp2
          go_round
          case rel => exact ⟨k + 1, x.1 + 1, by omega, by omega, by go_num, rfl, HD', by first | exact hB5 | trivial⟩
          case measure => simp [intOf]; omega
        · have HR : Hid (R = 9) := by
           have := HD.out
           rw [okF, decide_eq_false h3] at this
           simp only [Bool.false_and, Bool.and_false] at this
           exact zI (by rw [← hR, chkK, ← this]; rfl)
          have g3 : ((x.2.size : Int) == 16) = false := beq_eq_false_iff_ne.2 (by omega)
          clear HD hR hdr hf
          go_wp2
          go_ret
          rw [HR.out]
          exact ⟨rfl, hB5⟩
  · have HR : Hid (R = 0) := by
     have := HD.out
     rw [List.drop_eq_nil_of_le (by omega), okF] at this
     exact zI (by rw [← hR, chkK, ← this]; rfl)
    clear HD
    go_wp2
    go_ret
    rw [HR.out]
    exact ⟨rfl, by first | exact hB | assumption⟩
theorem refCheck_any (A : Option Addr) (c n : Nat) (l : List Bk) (hn : l.length = n) (hl : n ≤ 8796093022208) (hf : ∀ x ∈ l, x.2.size ≤ 140737488351232) (w : World) (hr : Rd w A (bks l)) :
 Calls Tryz.prog 123 #[.slice A n c] w fun e w' => e = .returned (.int .i64 (chkK l)) ∧ Below w.heap.size w w' := by
 subst hn
 obtain ⟨R, hR⟩ : ∃ R, chkK l = R := ⟨_, rfl⟩
 rw [hR]
 go_enter Tryz.func123, Tryz.ntmps123
 go_wp2
 go_loopw [3] (fun i W => ∃ (k : Nat) (n : Int), k ≤ l.length ∧ 0 ≤ n ∧ i = .int .i64 k ∧ Hid (okF n (l.drop k) = okK l) ∧ Hid (k = 0 ∧ n = 0 ∨ ∃ (j : Nat) (y : Bk), k = j + 1 ∧ l[j]? = some y ∧ n = y.1 + 1) ∧ Below w.heap.size w W) (fun i _ => l.length - (intOf i).toNat)
 case atStart => exact ⟨0, 0, Nat.zero_le _, Int.le_refl _, rfl, zI rfl, zI (.inl ⟨rfl, rfl⟩), Below.refl _ _⟩
 case round =>
  obtain ⟨k, n, hk, hn0, rfl, HD, HN, hB⟩ := hrel
  by_cases hlt : k < l.length
  · obtain ⟨x, hx⟩ : ∃ x, l[k]? = some x := ⟨l[k], qZa hlt⟩
    obtain ⟨b, off, rfl, hb, hc0, hc1⟩ := (Rd.below hr hB).bk hx
    have hdr : l.drop k = x :: l.drop (k + 1) := dropB _ hx
    have hks : x.2.size ≤ 140737488351232 := hf x (mG hx)
    rw [hdr] at HD
    have hBd : ∀ n, Below w.heap.size w (wr.drewN n) := fun n => hB.trans (zaX _ _ _)
    by_cases h1 : x.1 < 0
    · have HR : Hid (R = 9) := by
       have := HD.out
       rw [okF, decide_eq_false (show ¬ n ≤ x.1 by omega)] at this
       simp only [Bool.false_and] at this
       exact zI (by rw [← hR, chkK, ← this]; rfl)
      clear HD hR hdr hf HN hx
      go_wp2_with (go_quiet (fail))
      go_ret
      rw [HR.out]
      exact ⟨rfl, hBd _⟩
    · by_cases h2 : 1024 ≤ x.1
      · have HR : Hid (R = 9) := by
         have := HD.out
         rw [okF, decide_eq_false (show ¬ x.1 < 1024 by omega)] at this
         simp only [Bool.false_and, Bool.and_false] at this
         exact zI (by rw [← hR, chkK, ← this]; rfl)
        clear HD hR hdr hf HN hx
        go_wp2_with (go_quiet (fail))
        go_ret
        rw [HR.out]
        exact ⟨rfl, hBd _⟩
      · by_cases h3 : x.2.size = 16
        · have g3 : ((x.2.size : Int) == 16) = true := beq_iff_eq.2 (by omega)
          rcases HN.out with ⟨rfl, rfl⟩ | ⟨j, y, rfl, hy, rfl⟩
          · have HD' : Hid (okF (x.1 + 1) (l.drop (0 + 1)) = okK l) := by
             have := HD.out
             rw [okF, decide_eq_true (show 0 ≤ x.1 by omega), decide_eq_true (show x.1 < 1024 by omega), decide_eq_true h3] at this
             exact zI (by simpa using this)
            have HX := zI hx
            simp only [Nat.zero_mul, Nat.add_zero, Nat.zero_add] at hc0 hc1
            clear HD hdr hf HN hx
            go_wp2_with (go_quiet (fail))
            go_round
            case rel => exact ⟨1, x.1 + 1, by omega, by omega, by go_num, HD', zI (.inr ⟨0, x, rfl, HX.out, rfl⟩), hBd _⟩
            case measure => simp [intOf]; omega
          · obtain ⟨b', off', e', _, hd0, _⟩ := (Rd.below hr hB).bk hy
            injection e' with e'
            injection e' with e1 e2 _
            subst e1 e2
            have hwj : wrap64 (((j + 1 : Nat) : Int) - 1) = (j : Int) := by
             rw [show (((j + 1 : Nat) : Int) - 1) = (j : Int) by omega]
             exact IntWalk.wrap64_in _ (by omega)
            have hj0 : ¬ (((j + 1 : Nat) : Int)) ≤ 0 := by omega
            have hjl : (j : Int) < l.length := by omega
            by_cases h4 : x.1 ≤ y.1
            · have HR : Hid (R = 9) := by
               have := HD.out
               rw [okF, decide_eq_false (show ¬ y.1 + 1 ≤ x.1 by omega)] at this
               simp only [Bool.false_and] at this
               exact zI (by rw [← hR, chkK, ← this]; rfl)
              clear HD hR hdr hf HN hx hy
              go_wp2_with (go_quiet (fail))
              go_ret
              rw [HR.out]
              exact ⟨rfl, hBd _⟩
            · have HD' : Hid (okF (x.1 + 1) (l.drop (j + 1 + 1)) = okK l) := by
               have := HD.out
               rw [okF, decide_eq_true (show y.1 + 1 ≤ x.1 by omega), decide_eq_true (show x.1 < 1024 by omega), decide_eq_true h3] at this
               exact zI (by simpa using this)
              have HX := zI hx
              clear HD hdr hf HN hx hy
              go_wp2_with (go_quiet (fail))
              go_round
              case rel => exact ⟨j + 1 + 1, x.1 + 1, by omega, by omega, by go_num, HD', zI (.inr ⟨j + 1, x, rfl, HX.out, rfl⟩), hBd _⟩
              case measure => simp [intOf]; omega
        · have HR : Hid (R = 9) := by
           have := HD.out
           rw [okF, decide_eq_false h3] at this
           simp only [Bool.false_and, Bool.and_false] at this
           exact zI (by rw [← hR, chkK, ← this]; rfl)
          have g3 : ((x.2.size : Int) == 16) = false := beq_eq_false_iff_ne.2 (by omega)
          have g4 : ((x.2.size : Int) != 16) = true := by rw [bne, g3]; rfl
          have g5 : (x.2.size == 16) = false := beq_eq_false_iff_ne.2 h3
          clear HD hR hdr hf HN hx
          go_wp2_with (go_quiet (fail))
          go_ret
          rw [HR.out]
          exact ⟨rfl, hBd _⟩
  · have HR : Hid (R = 0) := by
     have := HD.out
     rw [List.drop_eq_nil_of_le (by omega), okF] at this
     exact zI (by rw [← hR, chkK, ← this]; rfl)
    clear HD HN
    go_wp2
    go_ret
    rw [HR.out]
    exact ⟨rfl, by first | exact hB | assumption⟩
end Go.Proofs.YtimmcmjipmkebaaGreat
