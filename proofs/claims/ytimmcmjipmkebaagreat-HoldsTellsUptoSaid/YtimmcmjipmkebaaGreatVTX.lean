/-
 plain.Texts of one list. Conditions: at most 2^43 texts.
-/
import Derived.Test.YtimmcmjipmkebaaGreatVTS
namespace Go.Proofs.YtimmcmjipmkebaaGreat
open Go.ChangeShapes Go.WideShapes Go.ChangeAt Go.RowKit
set_option maxRecDepth 100000
theorem texts_one (A B : Option Addr) (c d : Nat) (ss : List ByteArray) (hl : ss.length ≤ 8796093022208) (w : World) (ha : RdS w A ss) (hb : RdS w B ss) :
 Calls Tryz.prog 33 #[.slice A ss.length c, .slice B ss.length d] w fun e w' => e = .returned (.bool true) ∧ Below w.heap.size w w' := by
 have HA := zI ha
 have HB := zI hb
 clear ha hb
 go_enter Tryz.func33, Tryz.ntmps33
 go_wp2
 go_loopw [5] (fun i wr => ∃ k : Nat, k ≤ ss.length ∧ i = .int .i64 k ∧ Below w.heap.size w wr) (fun i _ => ss.length - (intOf i).toNat)
 case atStart => exact ⟨0, Nat.zero_le _, rfl, Below.refl _ w⟩
 case round =>
  obtain ⟨k, hk, rfl, hBw⟩ := hrel
  by_cases hlt : k < ss.length
  · obtain ⟨b, off, s, rfl, hb1, hc1, hs1⟩ := HA.out.at_ hlt
    obtain ⟨b', off', s', rfl, hb2, hc2, hs2⟩ := HB.out.at_ hlt
    obtain rfl : s = s' := by
     have := hs1.out.symm.trans hs2.out
     injection this
    have e1 : wr.cell? ⟨b, off + k, none⟩ = some (.string s) := (hBw.cell (p := ⟨b, off + k, none⟩) hb1).trans hc1
    have e2 : wr.cell? ⟨b', off' + k, none⟩ = some (.string s) := (hBw.cell (p := ⟨b', off' + k, none⟩) hb2).trans hc2
    have hkl : (k : Int) < (ss.length : Int) := by omega
    clear hc1 hc2
    go_wp2
    go_region
    go_wp2
    go_roundw
    case rel => exact ⟨k + 1, by omega, by go_num, hBw.drew⟩
    case measure => simp [intOf]; omega
  · obtain rfl : k = ss.length := by omega
    go_wp2
    go_ret
    exact ⟨rfl, hBw⟩
end Go.Proofs.YtimmcmjipmkebaaGreat
