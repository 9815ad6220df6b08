/-
  The reference’s Prop. Conditions: the list is as it comes in.
-/
import Derived.Test.YtoonebbbgchkhaaGreatMEM
import Derived.Test.YtoonebbbgchkhaaGreatMRL
import Derived.Test.YtoonebbbgchkhaaGreatMNM
import Derived.Test.YtoonebbbgchkhaaGreatMGY
import Derived.BigQuiet
namespace Go.Proofs.YtoonebbbgchkhaaGreat
open Go.ChangeShapes Go.WideShapes Go.ChangeAt Go.RowKit
set_option maxRecDepth 100000

/-- A text, is it there? -/
abbrev ansO (o : Option ByteArray) : Value := .tuple #[.string (o.getD ByteArray.empty), .bool o.isSome]

theorem beqT (a b : ByteArray) : (a.toList == b.toList) = decide (a = b) := by
  rw [Bool.eq_iff_iff, beq_iff_eq, decide_eq_true_eq]
  exact ⟨ba_toList, fun h => by rw [h]⟩

theorem getP_at {l : List Pr} {n : ByteArray} : ∀ {j : Nat} {x : Pr}, l[j]? = some x → x.1 = n → (∀ y ∈ l.take j, y.1 ≠ n) → getP l n = some x.2 := by
  induction l with
  | nil => intro j x h; simp at h
  | cons z l ih =>
    intro j x h hx hn
    unfold getP
    rcases j with _ | j
    · simp at h
      subst h
      rw [if_pos hx]
    · rw [if_neg (hn z (by simp)), ih (by simpa using h) hx fun y hy => hn y (by simp [hy])]

set_option maxHeartbeats 1000000 in
theorem refProp_any (A : Option Addr) (c m : Nat) (l : List Pr) (hm : l.length = m) (hl : m ≤ 4398046511104) (n : ByteArray) (w : World) (hr : Rd w A (prs l)) :
    Calls Tryz.prog 18 #[.slice A m c, .string n] w fun e w' => e = .returned (ansO (getP l n)) ∧ Below w.heap.size w w' := by
  subst hm
  obtain ⟨R, hR⟩ : ∃ R, getP l n = R := ⟨_, rfl⟩
  rw [hR]
  go_enter Tryz.func18, Tryz.ntmps18
  go_wp2
  go_loopw [6] (fun j W => ∃ k : Nat, k ≤ l.length ∧ j = .int .i64 k ∧ Hid (∀ y ∈ l.take k, y.1 ≠ n) ∧ Below w.heap.size w W) (fun j _ => l.length - (intOf j).toNat)
  case atStart => exact ⟨0, Nat.zero_le _, rfl, Lib.hid (by simp), Below.refl _ _⟩
  case round =>
    obtain ⟨k, hk, rfl, HD, hB⟩ := hrel
    by_cases hlt : k < l.length
    · obtain ⟨x, hx⟩ : ∃ x, l[k]? = some x := ⟨l[k], List.getElem?_eq_getElem hlt⟩
      obtain ⟨b, off, rfl, hb, hc0, hc1⟩ := (Rd.below hr hB).pr hx
      have hlk : (k : Int) < l.length := by omega
      have hd := beqT x.1 n
      by_cases he : x.1 = n
      · have HG : Hid (R = some x.2) := Lib.hid (by rw [← hR, getP_at hx he HD.out])
        rw [decide_eq_true he] at hd
        clear HD hR he hx
        go_wp2
        go_ret2
        rw [HG.out]
        exact ⟨rfl, hB⟩
      · have HD' : Hid (∀ y ∈ l.take (k + 1), y.1 ≠ n) := Lib.hid (by
          rw [List.take_add_one, hx]
          intro y hy
          rcases List.mem_append.1 hy with hy | hy
          · exact HD.out y hy
          · simp at hy
            rw [hy]
            exact he)
        rw [decide_eq_false he] at hd
        clear HD hR he hx
        go_wp2
        go_round
        case rel => exact ⟨k + 1, by omega, by go_num, HD', hB⟩
        case measure => simp [intOf]; omega
    · have HG : Hid (R = none) := Lib.hid (by
        have := HD.out
        rw [List.take_of_length_le (by omega)] at this
        rw [← hR]
        exact getP_none.2 this)
      clear HD hR
      go_wp2
      go_ret2
      rw [HG.out]
      exact ⟨rfl, hB⟩

end Go.Proofs.YtoonebbbgchkhaaGreat
