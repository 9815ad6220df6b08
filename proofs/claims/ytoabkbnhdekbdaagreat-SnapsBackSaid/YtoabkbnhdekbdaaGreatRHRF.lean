/-
  shape: refused, place; the reference’s asked, room. Conditions: the tenant is as it comes in.
-/
import Derived.Test.YtoabkbnhdekbdaaGreatRHLB
import Derived.Test.YtoabkbnhdekbdaaGreatRTMH
import Derived.Test.YtoabkbnhdekbdaaGreatRTMD
import Derived.Test.YtoabkbnhdekbdaaGreatRNPS
import Derived.Test.YtoabkbnhdekbdaaGreatRRPP
namespace Go.Proofs.YtoabkbnhdekbdaaGreat
open Go.ChangeShapes Go.WideShapes Go.ChangeAt Go.RowKit
set_option maxRecDepth 100000
set_option linter.unusedSimpArgs false
def placeE (t : PTenant) (p : ByteArray) : Int := if askE t p ≠ 0 then askE t p else if hasSet t p = true then 0 else 71
def placeI (x : MTenant) (p : ByteArray) : Int := if placeE x.plain p ≠ 0 then 0 else findM x p
theorem refAsked_any (x : MTenant) (p : ByteArray) (hp : p.size ≤ 4398046511104) (w : World) (hx : x.Good w) (ht : x.Tiny) :
    Calls Tryz.prog 46 #[.agg x.cells.toArray, .string p] w fun e w' => e = .returned (.int .i64 (askE x.plain p)) ∧ Below w.heap.size w w' := by
  obtain ⟨a1, hw1⟩ : ∃ a1, w.alloc (.cells #[.string x.name_, .int .i64 x.quota_, .int .i64 x.next_, .slice x.sets_.A x.sets_.l.length x.sets_.c, .slice x.grants_.A x.grants_.l.length x.grants_.c, .slice x.stages_.A x.stages_.l.length x.stages_.c, .slice x.log_.A x.log_.l.length x.log_.c] 27) = a1 := ⟨_, rfl⟩
  have b1 : Below w.heap.size w a1 := hw1 ▸ (Below.refl _ w).alloc (Nat.le_refl _) _
  have k1 : Blk a1 w.heap.size 27 [.string x.name_, .int .i64 x.quota_, .int .i64 x.next_, .slice x.sets_.A x.sets_.l.length x.sets_.c, .slice x.grants_.A x.grants_.l.length x.grants_.c, .slice x.stages_.A x.stages_.l.length x.stages_.c, .slice x.log_.A x.log_.l.length x.log_.c] := hw1 ▸ Blk.new w _ _
  have hB1 : Below w.heap.size w a1 := b1
  have hs1 := hB1.size
  have HW1 := Lib.hid hw1
  clear hw1 b1
  obtain ⟨q0, q1, q2, q3, q4, q5, q6⟩ := k1.all7
  have HC := Lib.hid (refCheck_any14 x a1 (hx.below hB1) ht)
  have HP := Lib.hid (fun W => refPath_any p hp W)
  unfold askE
  rcases hk : okT x.plain with _ | _
  · rw [hk, if_neg (by decide)] at HC
    rw [if_pos rfl]
    clear hk hx
    go_enter Tryz.func46, Tryz.ntmps46
    go_upto_region 1 with fail
    rw [HW1.out]
    go_wp2_with fail
    refine HC.out.mono ?_
    rintro e w3 ⟨rfl, hV⟩
    go_wp2
    go_ret
    exact ⟨rfl, hB1.trans (hV.mono hs1)⟩
  · rw [hk, if_pos rfl] at HC
    rw [if_neg (by decide)]
    rcases hi : isPath (bs p) with _ | _
    · rw [hi] at HP
      rw [if_pos rfl]
      clear hk hx hi
      go_enter Tryz.func46, Tryz.ntmps46
      go_upto_region 1 with fail
      rw [HW1.out]
      go_wp2_with fail
      refine HC.out.mono ?_
      rintro e w3 ⟨rfl, hV⟩
      go_wp2_with fail
      refine (HP.out _).mono ?_
      rintro e w4 ⟨rfl, hV2⟩
      go_wp2
      go_ret
      exact ⟨rfl, hB1.trans ((hV.trans (hV2.mono hV.size)).mono hs1)⟩
    · rw [hi] at HP
      rw [if_neg (by decide)]
      clear hk hx hi
      go_enter Tryz.func46, Tryz.ntmps46
      go_upto_region 1 with fail
      rw [HW1.out]
      go_wp2_with fail
      refine HC.out.mono ?_
      rintro e w3 ⟨rfl, hV⟩
      go_wp2_with fail
      refine (HP.out _).mono ?_
      rintro e w4 ⟨rfl, hV2⟩
      go_wp2
      go_ret
      exact ⟨rfl, hB1.trans ((hV.trans (hV2.mono hV.size)).mono hs1)⟩
end Go.Proofs.YtoabkbnhdekbdaaGreat
