/-
  Name: what it answers. No conditions but on the text's length.
-/
import Derived.Test.YtnioelkibghplaaGreatQGY
import Derived.Test.YtnioelkibghplaaGreatQW
import Derived.Test.YtnioelkibghplaaGreatShelf
import Derived.Lib.Hide
namespace Go.Proofs.YtnioelkibghplaaGreat
open Go.ChangeShapes Go.WideShapes Go.ChangeAt Go.RowKit
set_option maxRecDepth 100000

theorem ret_bool {a b : Bool} (h : a = b) : Ending.returned (.bool a) = .returned (.bool b) := by rw [h]

theorem okc_int (c : UInt8) : okc c = (decide (97 ≤ (c.toNat : Int)) && decide ((c.toNat : Int) ≤ 122) || decide (48 ≤ (c.toNat : Int)) && decide ((c.toNat : Int) ≤ 57) || decide ((c.toNat : Int) = 45) || decide ((c.toNat : Int) = 95)) := by
  revert c
  refine fun c => (by decide +kernel : ∀ c : Fin 256, okc ⟨⟨c⟩⟩ = (decide (97 ≤ (((⟨⟨c⟩⟩ : UInt8).toNat : Nat) : Int)) && decide ((((⟨⟨c⟩⟩ : UInt8).toNat : Nat) : Int) ≤ 122) || decide (48 ≤ (((⟨⟨c⟩⟩ : UInt8).toNat : Nat) : Int)) && decide ((((⟨⟨c⟩⟩ : UInt8).toNat : Nat) : Int) ≤ 57) || decide ((((⟨⟨c⟩⟩ : UInt8).toNat : Nat) : Int) = 45) || decide ((((⟨⟨c⟩⟩ : UInt8).toNat : Nat) : Int) = 95))) c.toFin

theorem octet_any (c : UInt8) (w : World) :
    Calls Tryz.prog 146 #[.int .u8 (c.toNat : Int)] w fun e w' => e = .returned (.bool (okc c)) ∧ w = w' := by
  have hc := okc_int c
  have HC := Lib.hid hc
  clear hc
  go_enter Tryz.func146, Tryz.ntmps146
  go_wp2
  all_goals
    go_ret
    exact ⟨ret_bool (by rw [HC.out, Bool.eq_iff_iff]; simp; try omega), rfl⟩

theorem every_any (s : ByteArray) (hs : s.size ≤ 64) (w : World) :
    Calls Tryz.prog 145 #[.string s, .func (.func 146) #[] #[]] w fun e w' => e = .returned (.bool ((bs s).all okc)) ∧ w = w' := by
  go_enter Tryz.func145, Tryz.ntmps145
  go_wp2
  go_loop [8] (fun i => ∃ k : Nat, k ≤ s.size ∧ i = .int .i64 k ∧ ((bs s).drop k).all okc = (bs s).all okc) (fun i => s.size - (intOf i).toNat)
  case atStart => exact ⟨0, Nat.zero_le _, rfl, by simp⟩
  case round =>
    obtain ⟨k, hk, rfl, hd⟩ := hrel
    by_cases hlt : k < s.size
    · rw [bs_at s k hlt, List.all_cons] at hd
      have HD := Lib.hid hd
      clear hd
      rcases ho : okc s[k] with _ | _
      · have HO := Lib.hid ho
        go_wp2_with (refine (octet_any _ _).mono ?_; rintro e w' ⟨rfl, rfl⟩)
        go_ret
        exact ⟨ret_bool (by rw [← HD.out, HO.out]; rfl), rfl⟩
      · have HO := Lib.hid ho
        go_wp2_with (refine (octet_any _ _).mono ?_; rintro e w' ⟨rfl, rfl⟩)
        go_round
        case rel => exact ⟨k + 1, by omega, by go_num, by rw [← HD.out, HO.out]; rfl⟩
        case measure => simp [intOf]; omega
    · have HD := Lib.hid hd
      clear hd
      go_wp2
      go_ret
      exact ⟨ret_bool (by rw [← HD.out, List.drop_of_length_le (by rw [bs_length]; omega)]; rfl), rfl⟩

theorem name_any (s : ByteArray) (w : World) :
    Calls Tryz.prog 95 #[.string s] w fun e w' => e = .returned (.bool (isName (bs s))) ∧ w = w' := by
  by_cases h1 : 1 ≤ s.size
  · by_cases h2 : s.size ≤ 16
    · have HN : Hid (isName (bs s) = (bs s).all okc) := by
        show isName (bs s) = (bs s).all okc
        simp [isName, bs_length, h1, h2]
      go_enter Tryz.func95, Tryz.ntmps95
      go_wp2_with (refine (every_any _ (by omega) _).mono ?_; rintro e w' ⟨rfl, rfl⟩)
      go_ret
      exact ⟨ret_bool HN.out.symm, rfl⟩
    · have HN : Hid (isName (bs s) = false) := by
        show isName (bs s) = false
        simp [isName, bs_length, h2]
      go_enter Tryz.func95, Tryz.ntmps95
      go_wp2
      go_ret
      exact ⟨ret_bool HN.out.symm, rfl⟩
  · have HN : Hid (isName (bs s) = false) := by
      show isName (bs s) = false
      simp [isName, bs_length, h1]
    go_enter Tryz.func95, Tryz.ntmps95
    go_wp2
    go_ret
    exact ⟨ret_bool HN.out.symm, rfl⟩

end Go.Proofs.YtnioelkibghplaaGreat
