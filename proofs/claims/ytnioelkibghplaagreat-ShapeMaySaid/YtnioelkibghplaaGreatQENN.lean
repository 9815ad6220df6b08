/-
  The reference's names. No conditions but on the text's length.
-/
import Derived.Test.YtnioelkibghplaaGreatQW
import Derived.Test.YtnioelkibghplaaGreatQGY
namespace Go.Proofs.YtnioelkibghplaaGreat
open Go.ChangeShapes Go.WideShapes Go.ChangeAt Go.RowKit
set_option maxRecDepth 100000

theorem ret_boolE {a b : Bool} (h : a = b) : Ending.returned (.bool a) = .returned (.bool b) := by rw [h]
theorem okc_intE (c : UInt8) : okc c = (decide (97 ≤ (c.toNat : Int)) && decide ((c.toNat : Int) ≤ 122) || decide (48 ≤ (c.toNat : Int)) && decide ((c.toNat : Int) ≤ 57) || decide ((c.toNat : Int) = 45) || decide ((c.toNat : Int) = 95)) := by
  revert c
  refine fun c => (by decide +kernel : ∀ c : Fin 256, okc ⟨⟨c⟩⟩ = (decide (97 ≤ (((⟨⟨c⟩⟩ : UInt8).toNat : Nat) : Int)) && decide ((((⟨⟨c⟩⟩ : UInt8).toNat : Nat) : Int) ≤ 122) || decide (48 ≤ (((⟨⟨c⟩⟩ : UInt8).toNat : Nat) : Int)) && decide ((((⟨⟨c⟩⟩ : UInt8).toNat : Nat) : Int) ≤ 57) || decide ((((⟨⟨c⟩⟩ : UInt8).toNat : Nat) : Int) = 45) || decide ((((⟨⟨c⟩⟩ : UInt8).toNat : Nat) : Int) = 95))) c.toFin

theorem refLetter_any (c : UInt8) (w : World) :
    Calls Tryz.prog 122 #[.int .u8 (c.toNat : Int)] w fun e w' => e = .returned (.bool (okc c)) ∧ w = w' := by
  have hc := okc_intE c
  have HC := Lib.hid hc
  clear hc
  go_enter Tryz.func122, Tryz.ntmps122
  go_wp2
  all_goals
    go_ret
    exact ⟨ret_boolE (by rw [HC.out, Bool.eq_iff_iff]; simp; try omega), rfl⟩

theorem refName_any (s : ByteArray) (hs : s.size ≤ 140737488355328) (w : World) :
    Calls Tryz.prog 62 #[.string s] w fun e w' => e = .returned (.bool (isName (bs s))) ∧ w = w' := by
  obtain ⟨R, hR⟩ : ∃ R, isName (bs s) = R := ⟨_, rfl⟩
  rw [hR]
  go_enter Tryz.func62, Tryz.ntmps62
  go_wp2
  go_loop [3] (fun i => ∃ k : Nat, k ≤ s.size ∧ i = .int .i64 k ∧ Hid (((bs s).take k).all okc = true)) (fun i => s.size - (intOf i).toNat)
  case atStart => exact ⟨0, Nat.zero_le _, rfl, Lib.hid (by simp)⟩
  case round =>
    obtain ⟨k, hk, rfl, HD⟩ := hrel
    by_cases hlt : k < s.size
    · have HT : Hid (((bs s).take (k + 1)).all okc = okc s[k]) := Lib.hid (by
        have e : (bs s)[k]? = some s[k] := by
          rw [List.getElem?_eq_getElem (by rw [bs_length]; exact hlt)]
          rfl
        rw [List.take_add_one, e, List.all_append, HD.out]
        simp)
      rcases ho : okc s[k] with _ | _
      · have HR : Hid (R = false) := Lib.hid (by
          rw [← hR]
          unfold isName
          have h1 : (bs s).all okc = false := by
            rw [← List.take_append_drop (k + 1) (bs s), List.all_append, HT.out, ho]; rfl
          rw [h1, Bool.and_false])
        have HO := Lib.hid ho
        clear HT hR
        go_wp2_with (refine (refLetter_any _ _).mono ?_; rintro e w' ⟨rfl, rfl⟩)
        go_ret
        exact ⟨ret_boolE HR.out.symm, rfl⟩
      · have HT' : Hid (((bs s).take (k + 1)).all okc = true) := Lib.hid (by rw [HT.out, ho])
        have HO := Lib.hid ho
        clear HT hR
        go_wp2_with (refine (refLetter_any _ _).mono ?_; rintro e w' ⟨rfl, rfl⟩)
        go_round
        case rel => exact ⟨k + 1, by omega, by go_num, HT'⟩
        case measure => simp [intOf]; omega
    · have HR : Hid (R = (decide (1 ≤ s.size) && decide (s.size ≤ 16))) := Lib.hid (by
        have := HD.out
        rw [List.take_of_length_le (by rw [bs_length]; omega)] at this
        rw [← hR]
        unfold isName
        rw [this, bs_length, Bool.and_true])
      clear HD hR
      go_wp2
      all_goals
        go_ret
        exact ⟨ret_boolE (by rw [HR.out, Bool.eq_iff_iff]; simp; try omega), rfl⟩

end Go.Proofs.YtnioelkibghplaaGreat
