/-
  props: Get and copied; the reference's Prop. Conditions: the lists are as they come in.
-/
import Derived.Test.YteaohmlbddgfgaaEM
import Derived.Test.YteaohmlbddgfgaaSX
import Derived.Test.YteaohmlbddgfgaaLayH
import Derived.Test.YteaohmlbddgfgaaCS
import Derived.Test.YteaohmlbddgfgaaRF
import Derived.BigQuiet
namespace Go.Proofs.Yteaohmlbddgfgaa
open Go.ChangeShapes Go.WideShapes Go.ChangeAt Go.RowKit
set_option maxRecDepth 100000

/-- A text, is it there? -/
abbrev ansO (o : Option ByteArray) : Value := .tuple #[.string (o.getD ByteArray.empty), .bool o.isSome]
theorem beqT (a b : ByteArray) : (a.toList == b.toList) = decide (a = b) := by
  rw [Bool.eq_iff_iff, beq_iff_eq, decide_eq_true_eq]
  exact ⟨ba_toList, fun h => by rw [h]⟩
theorem getP_at {l : List Pr} {n : ByteArray} : ∀ {j : Nat} {x : Pr}, l[j]? = some x → x.1 = n → (∀ y ∈ l.take j, y.1 ≠ n) → getP l n = some x.2 := by
  induction l with
  | nil => intro j x h; simp at h
  | cons z l ih =>
    intro j x h hx hn
    unfold getP
    rcases j with _ | j
    · simp at h
      subst h
      rw [if_pos hx]
    · rw [if_neg (hn z (by simp)), ih (by simpa using h) hx fun y hy => hn y (by simp [hy])]

theorem propGet1_any (B0 : Nat) (n : ByteArray) (x : Pr) (w : World) (h0 : w.cell? ⟨B0, 0, none⟩ = some (.string n)) :
    Calls Try.prog 33 #[prV x, .pointer (some ⟨B0, 0, none⟩)] w fun e w' => e = .returned (.bool (decide (x.1 = n))) ∧ Below w.heap.size w w' := by
  have hB0 : Below w.heap.size w (w.alloc (.cells #[.string x.1, .string x.2] 50)) := (Below.refl _ w).alloc (Nat.le_refl _) _
  have hl := World.block_lt_of_cell? w ⟨B0, 0, none⟩ h0
  have hd := beqT x.1 n
  go_enter Try.func33, Try.ntmps33
  go_wp2
  go_ret
  exact ⟨rfl, hB0⟩

set_option maxRecDepth 100000 in
set_option maxHeartbeats 1000000 in
theorem propGet_any (A : Option Addr) (c m : Nat) (l : List Pr) (hm : l.length = m) (hl : m ≤ 4398046511104) (hf : ∀ x ∈ l, x.2.size ≤ 140737488351232) (n : ByteArray) (w : World) (hr : Rd w A (prs l)) :
    Calls Try.prog 11 #[.slice A m c, .string n] w fun e w' => e = .returned (ansO (getP l n)) ∧ Below w.heap.size w w' := by
  subst hm
  have hB1 : Below w.heap.size w (w.alloc (.cells #[.string n] 9)) := (Below.refl _ w).alloc (Nat.le_refl _) _
  have hc0 : (w.alloc (.cells #[.string n] 9)).cell? ⟨w.heap.size, 0, none⟩ = some (.string n) := by simp
  have hlt : w.heap.size < (w.alloc (.cells #[.string n] 9)).heap.size := by simp
  have HI := indexFn Try.indexP 2 Try.isAgg50 Try.sizeOf50 prC (fun _ => rfl) (by omega) (fun x => decide (x.1 = n)) 33 #[.pointer (some ⟨w.heap.size, 0, none⟩)] (enters_of Try.func33 (by kernel_rfl) rfl) A c l.length l rfl (w.alloc (.cells #[.string n] 9))
    (fun W x hB => propGet1_any w.heap.size n x W ((hB.cell (p := ⟨w.heap.size, 0, none⟩) hlt).trans hc0)) (by omega) (hr.below hB1)
  change Calls _ 32 _ _ _ at HI
  have HI' := Lib.hid HI
  have HR := Lib.hid hr
  have HF := Lib.hid hf
  obtain ⟨R, hR⟩ : ∃ R, getP l n = R := ⟨_, rfl⟩
  rw [hR]
  have HRR := Lib.hid hR
  clear HI hR hf hr
  go_enter Try.func11, Try.ntmps11
  go_wp2_with fail
  refine HI'.out.mono ?_
  rintro e w1 ⟨hB2, ⟨j, x, hj, hx, hno, rfl⟩ | ⟨hno, rfl⟩⟩
  · have hg : getP l n = some x.2 := getP_at hj (of_decide_eq_true hx) fun y hy => of_decide_eq_false (hno y hy)
    have HG : Hid (R = some x.2) := Lib.hid (by rw [← HRR.out, hg])
    have hB12 : Below w.heap.size w w1 := hB1.trans (hB2.mono hB1.size)
    obtain ⟨b, off, rfl, hb, _, hc1⟩ := (HR.out.below hB12).pr hj
    have hjl : j < l.length := (List.getElem?_eq_some_iff.1 hj).1
    have hxs := HF.out x (List.mem_of_getElem? hj)
    have HC := Lib.hid (cloneU_any x.2 (by omega) w1)
    clear hno hj hx hg HRR HI' HF
    go_wp2_with fail
    refine HC.out.mono ?_
    rintro e w2 ⟨rfl, hB3⟩
    go_wp2
    go_ret2
    rw [HG.out]
    exact ⟨rfl, hB12.trans (hB3.mono hB12.size)⟩
  · have HG : Hid (R = none) := Lib.hid (by rw [← HRR.out, getP_none]; exact fun p hp => of_decide_eq_false (hno p hp))
    clear hno HRR HI'
    go_wp2
    go_ret2
    rw [HG.out]
    exact ⟨rfl, hB1.trans (hB2.mono hB1.size)⟩

set_option maxHeartbeats 1000000 in
theorem refProp_any (A : Option Addr) (c m : Nat) (l : List Pr) (hm : l.length = m) (hl : m ≤ 4398046511104) (n : ByteArray) (w : World) (hr : Rd w A (prs l)) :
    Calls Try.prog 12 #[.slice A m c, .string n] w fun e w' => e = .returned (ansO (getP l n)) ∧ Below w.heap.size w w' := by
  subst hm
  obtain ⟨R, hR⟩ : ∃ R, getP l n = R := ⟨_, rfl⟩
  rw [hR]
  go_enter Try.func12, Try.ntmps12
  go_wp2
  go_loopw [6] (fun j W => ∃ k : Nat, k ≤ l.length ∧ j = .int .i64 k ∧ Hid (∀ y ∈ l.take k, y.1 ≠ n) ∧ Below w.heap.size w W) (fun j _ => l.length - (intOf j).toNat)
  case atStart => exact ⟨0, Nat.zero_le _, rfl, Lib.hid (by simp), Below.refl _ _⟩
  case round =>
    obtain ⟨k, hk, rfl, HD, hB⟩ := hrel
    by_cases hlt : k < l.length
    · obtain ⟨x, hx⟩ : ∃ x, l[k]? = some x := ⟨l[k], List.getElem?_eq_getElem hlt⟩
      obtain ⟨b, off, rfl, hb, hc0, hc1⟩ := (Rd.below hr hB).pr hx
      have hlk : (k : Int) < l.length := by omega
      have hd := beqT x.1 n
      by_cases he : x.1 = n
      · have HG : Hid (R = some x.2) := Lib.hid (by rw [← hR, getP_at hx he HD.out])
        rw [decide_eq_true he] at hd
        clear HD hR he hx
        go_wp2
        go_ret2
        rw [HG.out]
        exact ⟨rfl, hB⟩
      · have HD' : Hid (∀ y ∈ l.take (k + 1), y.1 ≠ n) := Lib.hid (by
          rw [List.take_add_one, hx]
          intro y hy
          rcases List.mem_append.1 hy with hy | hy
          · exact HD.out y hy
          · simp at hy
            rw [hy]
            exact he)
        rw [decide_eq_false he] at hd
        clear HD hR he hx
        go_wp2
        go_round
        case rel => exact ⟨k + 1, by omega, by go_num, HD', hB⟩
        case measure => simp [intOf]; omega
    · have HG : Hid (R = none) := Lib.hid (by
        have := HD.out
        rw [List.take_of_length_le (by omega)] at this
        rw [← hR]
        exact getP_none.2 this)
      clear HD hR
      go_wp2
      go_ret2
      rw [HG.out]
      exact ⟨rfl, hB⟩

end Go.Proofs.Yteaohmlbddgfgaa
