/-
  The reference’s Find, Snap, tags. Conditions: the tenant is as it comes in.
-/
import Derived.Test.YtnioelkibghplaaGreatMTMG
import Derived.Test.YtnioelkibghplaaGreatMTMK
import Derived.Test.YtnioelkibghplaaGreatMTMB
import Derived.Test.YtnioelkibghplaaGreatMGRC
import Derived.Test.YtnioelkibghplaaGreatMGRX
import Derived.Test.YtnioelkibghplaaGreatMTMH
import Derived.Test.YtnioelkibghplaaGreatMLDC
namespace Go.Proofs.YtnioelkibghplaaGreat
open Go.ChangeShapes Go.WideShapes Go.ChangeAt Go.RowKit
set_option maxRecDepth 100000
set_option linter.unusedSimpArgs false

set_option maxHeartbeats 1000000 in
theorem refFind_any (x : MTenant) (p : ByteArray) (w : World) (hx : x.Good w) :
    Calls Tryz.prog 24 #[.agg x.cells.toArray, .string p] w fun e w' => e = .returned (.int .i64 (findM x p)) ∧ Below w.heap.size w w' := by
  obtain ⟨xn, xq, xt, ⟨A, l, c⟩, xg, xs, xl⟩ := x
  have hr := hx.gsets_.rd
  have hlen := hx.gsets_.len
  dsimp only at hr hlen
  obtain ⟨F, hF⟩ : ∃ F, findM ⟨xn, xq, xt, ⟨A, l, c⟩, xg, xs, xl⟩ p = F := ⟨_, rfl⟩
  rw [hF]
  have HF : Hid (findI (fun z : MSet => decide (z.path_ = p)) l = F) := Lib.hid hF
  obtain ⟨w1, hw1⟩ : ∃ w1, w.alloc (.cells #[.string xn, .int .i64 xq, .int .i64 xt, .slice A l.length c, .slice xg.A xg.l.length xg.c, .slice xs.A xs.l.length xs.c, .slice xl.A xl.l.length xl.c] 27) = w1 := ⟨_, rfl⟩
  have hB1 : Below w.heap.size w w1 := hw1 ▸ (Below.refl _ w).alloc (Nat.le_refl _) _
  have k1 : Blk w1 w.heap.size 27 [.string xn, .int .i64 xq, .int .i64 xt, .slice A l.length c, .slice xg.A xg.l.length xg.c, .slice xs.A xs.l.length xs.c, .slice xl.A xl.l.length xl.c] := hw1 ▸ Blk.new w _ _
  have hr1 := hr.below hB1
  have HK1 := Lib.hid k1
  have HW1 := Lib.hid hw1
  have hs1 := hB1.size
  clear k1 hw1 hF hr hx
  go_enter Tryz.func24, Tryz.ntmps24
  go_upto_region 1 with fail
  rw [HW1.out]
  go_wp2
  go_loopw [5] (fun i W => ∃ k : Nat, k ≤ l.length ∧ i = .int .i64 k ∧ Hid (∀ y ∈ l.take k, decide (y.path_ = p) = false) ∧ Below w1.heap.size w1 W) (fun i _ => l.length - (intOf i).toNat)
  case atStart => exact ⟨0, Nat.zero_le _, rfl, Lib.hid (by simp), Below.refl _ _⟩
  case round =>
    obtain ⟨k, hk, rfl, HU, hB⟩ := hrel
    have z3 := (HK1.out.below hB HK1.out.lt).cell 3
    simp only [gA, gB] at z3
    have hX := hB1.trans (hB.mono hs1)
    by_cases hlt : k < l.length
    · obtain ⟨y, hy⟩ : ∃ y, l[k]? = some y := ⟨l[k], List.getElem?_eq_getElem hlt⟩
      obtain ⟨b, off, rfl, hb, hc⟩ := Rd.elem (n := 5) (fun _ => rfl) (by omega) (hr1.below hB) hy
      have c0 : wr.cell? ⟨b, off + k * 5, none⟩ = some (.string y.path_) := hc 0 _ rfl
      have HY := Lib.hid hy
      clear hc hy
      by_cases he : y.path_ = p
      · have hd : (y.path_.toList == p.toList) = true := by rw [beqS]; exact decide_eq_true he
        obtain rfl : F = k := by rw [← HF.out]; exact findI_some HY.out (decide_eq_true he) HU.out
        clear he HU HF HY
        go_wp2
        go_ret
        exact ⟨rfl, hX⟩
      · have hd : (y.path_.toList == p.toList) = false := by rw [beqS]; exact decide_eq_false he
        have HU' : Hid (∀ y ∈ l.take (k + 1), decide (y.path_ = p) = false) := Lib.hid fun z hz => by
          rw [List.take_add_one, HY.out] at hz
          rcases List.mem_append.1 hz with h | h
          · exact HU.out z h
          · simp at h
            subst h
            exact decide_eq_false he
        clear he HU HF HY
        go_wp2
        go_roundw
        case rel => exact ⟨k + 1, by omega, by go_num, HU', hB⟩
        case measure => simp [intOf]; omega
    · obtain rfl : F = -1 := by
        rw [← HF.out]
        refine findI_none fun y hy => HU.out y ?_
        rw [List.take_of_length_le (by omega)]
        exact hy
      clear HU HF
      go_wp2
      go_ret
      exact ⟨rfl, hX⟩

end Go.Proofs.YtnioelkibghplaaGreat

namespace Go.Proofs.YtnioelkibghplaaGreat
open Go.ChangeShapes Go.WideShapes Go.ChangeAt Go.RowKit
set_option maxRecDepth 100000
set_option linter.unusedSimpArgs false

structure MTenant.Tiny (x : MTenant) : Prop where
  sets : ∀ s ∈ x.sets_.l, s.path_.size ≤ 4398046511104 ∧ s.origin_.size ≤ 4398046511104
  stages : ∀ s ∈ x.stages_.l, s.into_.size ≤ 4398046511104
  log : ∀ s ∈ x.log_.l, s.path_.size ≤ 4398046511104
  grants : ∀ g ∈ x.grants_.l, g.2.1.size ≤ 4398046511104

attribute [-simp] Tryz.isAgg55 Tryz.sizeOf55
end Go.Proofs.YtnioelkibghplaaGreat
