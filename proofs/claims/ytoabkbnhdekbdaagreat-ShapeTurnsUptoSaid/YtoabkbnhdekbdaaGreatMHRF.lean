/-
  shape: refused, place; the reference’s asked, room. Conditions: the tenant is as it comes in.
-/
import Derived.Test.YtoabkbnhdekbdaaGreatMHLB
import Derived.Test.YtoabkbnhdekbdaaGreatMTMH
import Derived.Test.YtoabkbnhdekbdaaGreatMTMD
import Derived.Test.YtoabkbnhdekbdaaGreatMNPS
import Derived.Test.YtoabkbnhdekbdaaGreatMRPP
namespace Go.Proofs.YtoabkbnhdekbdaaGreat
open Go.ChangeShapes Go.WideShapes Go.ChangeAt Go.RowKit
set_option maxRecDepth 100000
set_option linter.unusedSimpArgs false
theorem refused_any (x : MTenant) (p : ByteArray) (hp : p.size ≤ 9223372036854775807) (w : World) (hx : x.Good w) :
    Calls Tryz.prog 64 #[.agg x.cells.toArray, .string p] w fun e w' => e = .returned (.int .i64 (askE x.plain p)) ∧ Below w.heap.size w w' := by
  obtain ⟨a1, hw1⟩ : ∃ a1, w.alloc (.cells #[.string x.name_, .int .i64 x.quota_, .int .i64 x.next_, .slice x.sets_.A x.sets_.l.length x.sets_.c, .slice x.grants_.A x.grants_.l.length x.grants_.c, .slice x.stages_.A x.stages_.l.length x.stages_.c, .slice x.log_.A x.log_.l.length x.log_.c] 27) = a1 := ⟨_, rfl⟩
  have b1 : Below w.heap.size w a1 := hw1 ▸ (Below.refl _ w).alloc (Nat.le_refl _) _
  have k1 : Blk a1 w.heap.size 27 [.string x.name_, .int .i64 x.quota_, .int .i64 x.next_, .slice x.sets_.A x.sets_.l.length x.sets_.c, .slice x.grants_.A x.grants_.l.length x.grants_.c, .slice x.stages_.A x.stages_.l.length x.stages_.c, .slice x.log_.A x.log_.l.length x.log_.c] := hw1 ▸ Blk.new w _ _
  have hB1 : Below w.heap.size w a1 := b1
  have hs1 := hB1.size
  have HW1 := Lib.hid hw1
  clear hw1 b1
  obtain ⟨q0, q1, q2, q3, q4, q5, q6⟩ := k1.all7
  have HC := Lib.hid (check_any14 x a1 (hx.below hB1))
  have HP := Lib.hid (fun W => path_is (isPath (bs p)) p rfl hp W)
  unfold askE
  rcases hk : okT x.plain with _ | _
  · rw [hk, if_neg (by decide)] at HC
    rw [if_pos rfl]
    clear hk hx
    go_enter Tryz.func64, Tryz.ntmps64
    go_upto_region 1 with fail
    rw [HW1.out]
    go_wp2_with fail
    refine HC.out.mono ?_
    rintro e w3 ⟨rfl, hV⟩
    go_wp2
    go_ret
    exact ⟨rfl, hB1.trans (hV.mono hs1)⟩
  · rw [hk, if_pos rfl] at HC
    rw [if_neg (by decide)]
    rcases hi : isPath (bs p) with _ | _
    · rw [hi] at HP
      rw [if_pos rfl]
      clear hk hx hi
      go_enter Tryz.func64, Tryz.ntmps64
      go_upto_region 1 with fail
      rw [HW1.out]
      go_wp2_with fail
      refine HC.out.mono ?_
      rintro e w3 ⟨rfl, hV⟩
      go_wp2_with fail
      refine (HP.out _).mono ?_
      rintro e w4 ⟨rfl, hV2⟩
      go_wp2
      go_ret
      exact ⟨rfl, hB1.trans ((hV.trans (hV2.mono hV.size)).mono hs1)⟩
    · rw [hi] at HP
      rw [if_neg (by decide)]
      clear hk hx hi
      go_enter Tryz.func64, Tryz.ntmps64
      go_upto_region 1 with fail
      rw [HW1.out]
      go_wp2_with fail
      refine HC.out.mono ?_
      rintro e w3 ⟨rfl, hV⟩
      go_wp2_with fail
      refine (HP.out _).mono ?_
      rintro e w4 ⟨rfl, hV2⟩
      go_wp2
      go_ret
      exact ⟨rfl, hB1.trans ((hV.trans (hV2.mono hV.size)).mono hs1)⟩
def placeE (t : PTenant) (p : ByteArray) : Int := if askE t p ≠ 0 then askE t p else if hasSet t p = true then 0 else 71
def placeI (x : MTenant) (p : ByteArray) : Int := if placeE x.plain p ≠ 0 then 0 else findM x p
set_option maxHeartbeats 1000000 in
theorem place_any (x : MTenant) (p : ByteArray) (hp : p.size ≤ 9223372036854775807) (w : World) (hx : x.Good w) :
    Calls Tryz.prog 95 #[.agg x.cells.toArray, .string p] w fun e w' => e = .returned (.tuple #[.int .i64 (placeI x p), .int .i64 (placeE x.plain p)]) ∧ Below w.heap.size w w' := by
  obtain ⟨a1, hw1⟩ : ∃ a1, w.alloc (.cells #[.string x.name_, .int .i64 x.quota_, .int .i64 x.next_, .slice x.sets_.A x.sets_.l.length x.sets_.c, .slice x.grants_.A x.grants_.l.length x.grants_.c, .slice x.stages_.A x.stages_.l.length x.stages_.c, .slice x.log_.A x.log_.l.length x.log_.c] 27) = a1 := ⟨_, rfl⟩
  have b1 : Below w.heap.size w a1 := hw1 ▸ (Below.refl _ w).alloc (Nat.le_refl _) _
  have k1 : Blk a1 w.heap.size 27 [.string x.name_, .int .i64 x.quota_, .int .i64 x.next_, .slice x.sets_.A x.sets_.l.length x.sets_.c, .slice x.grants_.A x.grants_.l.length x.grants_.c, .slice x.stages_.A x.stages_.l.length x.stages_.c, .slice x.log_.A x.log_.l.length x.log_.c] := hw1 ▸ Blk.new w _ _
  have hB1 : Below w.heap.size w a1 := b1
  have hs1 := hB1.size
  have HW1 := Lib.hid hw1
  clear hw1 b1
  obtain ⟨q0, q1, q2, q3, q4, q5, q6⟩ := k1.all7
  have HC := Lib.hid (refused_any x p hp a1 (hx.below hB1))
  have HF := Lib.hid (fun W (hW : Below a1.heap.size a1 W) => find_any x p W ((hx.below hB1).below hW))
  have hh := hasSet_find x p
  by_cases hk : askE x.plain p ≠ 0
  · have h1 : placeE x.plain p = askE x.plain p := if_pos hk
    have h2 : placeI x p = 0 := if_pos (by rw [h1]; exact hk)
    rw [h1, h2]
    generalize askE x.plain p = E at *
    clear h1 h2 hx hh
    go_enter Tryz.func95, Tryz.ntmps95
    go_upto_region 1 with fail
    rw [HW1.out]
    go_wp2_with fail
    refine HC.out.mono ?_
    rintro e w3 ⟨rfl, hV⟩
    go_wp2
    exact bodyPost_ret (v := .tuple #[.int .i64 0, .int .i64 E]) (by simp [results, Tryz.results95, go_sem]) rfl ⟨rfl, hB1.trans (hV.mono hs1)⟩
  · have hk0 : askE x.plain p = 0 := Classical.not_not.1 hk
    rw [hk0] at HC
    obtain ⟨F, hF⟩ : ∃ F, findM x p = F := ⟨_, rfl⟩
    rw [hF] at hh HF
    by_cases h0 : 0 ≤ F
    · have h1 : placeE x.plain p = 0 := by unfold placeE; rw [if_neg hk, if_pos (by rw [hh]; exact decide_eq_true h0)]
      have h2 : placeI x p = F := by unfold placeI; rw [if_neg (by rw [h1]; decide), hF]
      rw [h1, h2]
      clear h1 h2 hk hk0 hF hh hx
      go_enter Tryz.func95, Tryz.ntmps95
      go_upto_region 1 with fail
      rw [HW1.out]
      go_wp2_with fail
      refine HC.out.mono ?_
      rintro e w3 ⟨rfl, hV⟩
      have K1 := k1.of hV
      obtain ⟨d0, d1, d2, d3, d4, d5, d6⟩ := K1.all7
      go_wp2_with fail
      refine (HF.out _ hV).mono ?_
      rintro e w4 ⟨rfl, hV2⟩
      go_wp2
      exact bodyPost_ret (v := .tuple #[.int .i64 F, .int .i64 0]) (by simp [results, Tryz.results95, go_sem]) rfl ⟨rfl, hB1.trans ((hV.trans (hV2.mono hV.size)).mono hs1)⟩
    · have h1 : placeE x.plain p = 71 := by unfold placeE; rw [if_neg hk, if_neg (by rw [hh]; simpa using h0)]
      have h2 : placeI x p = 0 := by unfold placeI; rw [if_pos (by rw [h1]; decide)]
      rw [h1, h2]
      clear h1 h2 hk hk0 hF hh hx
      go_enter Tryz.func95, Tryz.ntmps95
      go_upto_region 1 with fail
      rw [HW1.out]
      go_wp2_with fail
      refine HC.out.mono ?_
      rintro e w3 ⟨rfl, hV⟩
      have K1 := k1.of hV
      obtain ⟨d0, d1, d2, d3, d4, d5, d6⟩ := K1.all7
      go_wp2_with fail
      refine (HF.out _ hV).mono ?_
      rintro e w4 ⟨rfl, hV2⟩
      go_wp2
      exact bodyPost_ret (v := .tuple #[.int .i64 0, .int .i64 71]) (by simp [results, Tryz.results95, go_sem]) rfl ⟨rfl, hB1.trans ((hV.trans (hV2.mono hV.size)).mono hs1)⟩
theorem refAsked_any (x : MTenant) (p : ByteArray) (hp : p.size ≤ 4398046511104) (w : World) (hx : x.Good w) (ht : x.Tiny) :
    Calls Tryz.prog 46 #[.agg x.cells.toArray, .string p] w fun e w' => e = .returned (.int .i64 (askE x.plain p)) ∧ Below w.heap.size w w' := by
  obtain ⟨a1, hw1⟩ : ∃ a1, w.alloc (.cells #[.string x.name_, .int .i64 x.quota_, .int .i64 x.next_, .slice x.sets_.A x.sets_.l.length x.sets_.c, .slice x.grants_.A x.grants_.l.length x.grants_.c, .slice x.stages_.A x.stages_.l.length x.stages_.c, .slice x.log_.A x.log_.l.length x.log_.c] 27) = a1 := ⟨_, rfl⟩
  have b1 : Below w.heap.size w a1 := hw1 ▸ (Below.refl _ w).alloc (Nat.le_refl _) _
  have k1 : Blk a1 w.heap.size 27 [.string x.name_, .int .i64 x.quota_, .int .i64 x.next_, .slice x.sets_.A x.sets_.l.length x.sets_.c, .slice x.grants_.A x.grants_.l.length x.grants_.c, .slice x.stages_.A x.stages_.l.length x.stages_.c, .slice x.log_.A x.log_.l.length x.log_.c] := hw1 ▸ Blk.new w _ _
  have hB1 : Below w.heap.size w a1 := b1
  have hs1 := hB1.size
  have HW1 := Lib.hid hw1
  clear hw1 b1
  obtain ⟨q0, q1, q2, q3, q4, q5, q6⟩ := k1.all7
  have HC := Lib.hid (refCheck_any14 x a1 (hx.below hB1) ht)
  have HP := Lib.hid (fun W => refPath_any p hp W)
  unfold askE
  rcases hk : okT x.plain with _ | _
  · rw [hk, if_neg (by decide)] at HC
    rw [if_pos rfl]
    clear hk hx
    go_enter Tryz.func46, Tryz.ntmps46
    go_upto_region 1 with fail
    rw [HW1.out]
    go_wp2_with fail
    refine HC.out.mono ?_
    rintro e w3 ⟨rfl, hV⟩
    go_wp2
    go_ret
    exact ⟨rfl, hB1.trans (hV.mono hs1)⟩
  · rw [hk, if_pos rfl] at HC
    rw [if_neg (by decide)]
    rcases hi : isPath (bs p) with _ | _
    · rw [hi] at HP
      rw [if_pos rfl]
      clear hk hx hi
      go_enter Tryz.func46, Tryz.ntmps46
      go_upto_region 1 with fail
      rw [HW1.out]
      go_wp2_with fail
      refine HC.out.mono ?_
      rintro e w3 ⟨rfl, hV⟩
      go_wp2_with fail
      refine (HP.out _).mono ?_
      rintro e w4 ⟨rfl, hV2⟩
      go_wp2
      go_ret
      exact ⟨rfl, hB1.trans ((hV.trans (hV2.mono hV.size)).mono hs1)⟩
    · rw [hi] at HP
      rw [if_neg (by decide)]
      clear hk hx hi
      go_enter Tryz.func46, Tryz.ntmps46
      go_upto_region 1 with fail
      rw [HW1.out]
      go_wp2_with fail
      refine HC.out.mono ?_
      rintro e w3 ⟨rfl, hV⟩
      go_wp2_with fail
      refine (HP.out _).mono ?_
      rintro e w4 ⟨rfl, hV2⟩
      go_wp2
      go_ret
      exact ⟨rfl, hB1.trans ((hV.trans (hV2.mono hV.size)).mono hs1)⟩
end Go.Proofs.YtoabkbnhdekbdaaGreat
