/-
  BlocksDiff's walk. No conditions.
-/
import Derived.Test.YtkebgfpghjgghaaBLN
import Derived.Test.YtkebgfpghjgghaaBLS
namespace Go.Proofs.Ytkebgfpghjgghaa
open Go.ChangeShapes Go.WideShapes Go.ChangeAt Go.RowKit
set_option maxRecDepth 100000

set_option maxRecDepth 100000 in
set_option maxHeartbeats 8000000 in
theorem diff11_walk (A B : Option Addr) (c d : Nat) (a b : List Bk) (w : World) (ha : Came w A c a) (hb : Came w B d b) :
    Calls Try.prog 4 #[.slice A a.length c, .slice B b.length d] w fun e w' => e = .returned (.bool true) ∧ Below w.heap.size w w' := by
  have F1 := Lib.hid (blkDiff_any A B c d a b w ha hb)
  have F2 := Lib.hid (fun W (hW : Below w.heap.size w W) => refDiff_any A B c d a b W (ha.below hW) (hb.below hW))
  have hRl : (diffR a b).length ≤ 1024 := by
    unfold diffR
    split
    · rename_i h
      have := goodR_len _ 0 (by omega) (recs_good h.1 h.2)
      omega
    · simp
  obtain ⟨R, hR⟩ : ∃ R, diffR a b = R := ⟨_, rfl⟩
  obtain ⟨E, hE⟩ : ∃ E, diffE a b = E := ⟨_, rfl⟩
  rw [hR, hE] at F1 F2
  rw [hR] at hRl
  clear ha hb hR hE
  go_enter Try.func4, Try.ntmps4
  go_wp2_with fail
  refine F1.out.mono ?_
  rintro e w1 ⟨v1, rfl, ho1, B1⟩
  obtain ⟨A5, c5, rfl, _, _, r5, _⟩ := ownAny ho1
  have R5 := Lib.hid r5.1
  clear ho1 r5 F1
  go_wp2_with fail
  refine (F2.out w1 B1).mono ?_
  rintro e w2 ⟨v2, rfl, ho2, B2⟩
  obtain ⟨A7, c7, rfl, _, _, r7, _⟩ := ownAny ho2
  have R7 := Lib.hid r7.1
  have R52 := Lib.hid (R5.out.below B2)
  have B02 := B1.trans (B2.mono B1.size)
  clear ho2 r7 F2
  go_wp2_with fail
  refine (num11_any E w2).mono ?_
  rintro e w2' ⟨rfl, rfl⟩
  go_wp2
  go_loopw [9] (fun vi W => ∃ k : Nat, k ≤ R.length ∧ vi = .int .i64 k ∧ Below w2'.heap.size w2' W) (fun vi _ => R.length - (intOf vi).toNat)
  case atStart => exact ⟨0, Nat.zero_le _, rfl, Below.refl _ _⟩
  case round =>
    obtain ⟨k, hk, rfl, hB⟩ := hrel
    by_cases hlt : k < R.length
    · obtain ⟨r, hr⟩ : ∃ r, R[k]? = some r := ⟨R[k], List.getElem?_eq_getElem hlt⟩
      obtain ⟨g, o, rfl, hg, hcell⟩ := (R52.out.below hB).rc hr
      obtain ⟨g', o', rfl, hg', hcell'⟩ := (R7.out.below hB).rc hr
      have x0 : wr.cell? ⟨g, o + k * 12, none⟩ = some (.int .i64 r.k) := hcell 0 (.int .i64 r.k) rfl (by omega)
      have x1 := hcell 1 (.string ByteArray.empty) rfl (by omega)
      have x4 := hcell 4 (.slice none 0 0) rfl (by omega)
      have x5 := hcell 5 (.int .i64 r.ix) rfl (by omega)
      have x6 := hcell 6 (.int .i64 r.ct) rfl (by omega)
      have x7 := hcell 7 (.string r.d) rfl (by omega)
      have y0 : wr.cell? ⟨g', o' + k * 12, none⟩ = some (.int .i64 r.k) := hcell' 0 (.int .i64 r.k) rfl (by omega)
      have y5 := hcell' 5 (.int .i64 r.ix) rfl (by omega)
      have y6 := hcell' 6 (.int .i64 r.ct) rfl (by omega)
      have y7 := hcell' 7 (.string r.d) rfl (by omega)
      clear hr hcell hcell'
      go_wp2_with (go_quiet (fail))
      go_roundw
      case rel => exact ⟨k + 1, by omega, by go_num, hB.trans (belowDrewN _ _ _)⟩
      case measure => simp [intOf]; omega
    · have AL := Lib.hid (alive11_any wr)
      go_wp2_with fail
      refine AL.out.mono ?_
      rintro e w3 ⟨rfl, B3⟩
      have B0r := B02.trans (hB.mono B02.size)
      go_wp2
      go_ret
      exact ⟨rfl, B0r.trans (B3.mono B0r.size)⟩

end Go.Proofs.Ytkebgfpghjgghaa
