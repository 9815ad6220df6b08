/-
  The reference's values. No conditions but on the text's length.
-/
import Derived.Test.YtnioelkibghplaaGreatQEM
import Derived.Test.YtnioelkibghplaaGreatQENN
namespace Go.Proofs.YtnioelkibghplaaGreat
open Go.ChangeShapes Go.WideShapes Go.ChangeAt Go.RowKit
set_option maxRecDepth 100000

def okv (c : UInt8) : Bool := decide (32 ≤ c.toNat) && decide (c.toNat ≤ 126)
theorem valOk_eq (s : ByteArray) : valOk s = ((bs s).all okv && decide (s.size ≤ 32)) := rfl

theorem refValue_any (s : ByteArray) (hs : s.size ≤ 140737488355328) (w : World) :
    Calls Tryz.prog 114 #[.string s] w fun e w' => e = .returned (.bool (valOk s)) ∧ w = w' := by
  obtain ⟨R, hR⟩ : ∃ R, valOk s = R := ⟨_, rfl⟩
  rw [hR]
  go_enter Tryz.func114, Tryz.ntmps114
  go_wp2
  go_loop [3] (fun i => ∃ k : Nat, k ≤ s.size ∧ i = .int .i64 k ∧ Hid (((bs s).take k).all okv = true)) (fun i => s.size - (intOf i).toNat)
  case atStart => exact ⟨0, Nat.zero_le _, rfl, Lib.hid (by simp)⟩
  case round =>
    obtain ⟨k, hk, rfl, HD⟩ := hrel
    by_cases hlt : k < s.size
    · have HT : Hid (((bs s).take (k + 1)).all okv = okv s[k]) := Lib.hid (by
        have e : (bs s)[k]? = some s[k] := by
          rw [List.getElem?_eq_getElem (by rw [bs_length]; exact hlt)]
          rfl
        rw [List.take_add_one, e, List.all_append, HD.out]
        simp)
      rcases ho : okv s[k] with _ | _
      · have HR : Hid (R = false) := Lib.hid (by
          rw [← hR, valOk_eq]
          have h1 : (bs s).all okv = false := by
            rw [← List.take_append_drop (k + 1) (bs s), List.all_append, HT.out, ho]; rfl
          rw [h1, Bool.false_and])
        clear HT hR
        unfold okv at ho
        by_cases h1 : s[k].toNat < 32
        · clear ho
          go_wp2
          go_ret
          exact ⟨ret_boolE HR.out.symm, rfl⟩
        · have h2 : 126 < s[k].toNat := by
            simp at ho
            have := ho (by omega)
            omega
          clear ho
          go_wp2
          go_ret
          exact ⟨ret_boolE HR.out.symm, rfl⟩
      · have HT' : Hid (((bs s).take (k + 1)).all okv = true) := Lib.hid (by rw [HT.out, ho])
        clear HT hR
        unfold okv at ho
        have h1 : ¬ s[k].toNat < 32 := by simp at ho; omega
        have h2 : ¬ 126 < s[k].toNat := by simp at ho; omega
        clear ho
        go_wp2
        go_round
        case rel => exact ⟨k + 1, by omega, by go_num, HT'⟩
        case measure => simp [intOf]; omega
    · have HR : Hid (R = decide (s.size ≤ 32)) := Lib.hid (by
        have := HD.out
        rw [List.take_of_length_le (by rw [bs_length]; omega)] at this
        rw [← hR, valOk_eq, this, Bool.true_and])
      clear HD hR
      go_wp2
      all_goals
        go_ret
        exact ⟨ret_boolE (by rw [HR.out, Bool.eq_iff_iff]; simp; try omega), rfl⟩

end Go.Proofs.YtnioelkibghplaaGreat
