/-
  The program’s Clones of a set's snapshots. Conditions: the tenant is as it comes in.
-/
import Derived.Test.YtnioelkibghplaaGreatQTMG
import Derived.Test.YtnioelkibghplaaGreatQCHG
namespace Go.Proofs.YtnioelkibghplaaGreat
open Go.ChangeShapes Go.WideShapes Go.ChangeAt Go.RowKit
set_option maxRecDepth 100000
set_option linter.unusedSimpArgs false

def clB (p o : ByteArray) : Bool := match splitP o with
  | none => false
  | some (q, _) => decide (q = p)

theorem clones1_any (B0 B1 : Nat) (p : ByteArray) (y : MSet) (w : World) (hy : y.origin_.size ≤ 140737488351232) (h0 : w.cell? ⟨B0, 0, none⟩ = some (.string p)) (h1 : w.cell? ⟨B1, 0, none⟩ = some (.string ⟨#[]⟩)) :
    Calls Tryz.prog 135 (#[.agg y.cells.toArray] ++ #[.pointer (some ⟨B0, 0, none⟩), .pointer (some ⟨B1, 0, none⟩)]) w fun e w' => e = .returned (.bool (clB p y.origin_)) ∧ Below w.heap.size w w' := by
  have hl := World.block_lt_of_cell? w ⟨B0, 0, none⟩ h0
  have hl1 := World.block_lt_of_cell? w ⟨B1, 0, none⟩ h1
  obtain ⟨w1, hw1⟩ : ∃ w1, w.alloc (.cells #[.string y.path_, .string y.origin_, .slice y.body_.A y.body_.l.length y.body_.c, .slice y.snaps_.A y.snaps_.l.length y.snaps_.c, .slice y.own_.A y.own_.l.length y.own_.c] 62) = w1 := ⟨_, rfl⟩
  have hB1 : Below w.heap.size w w1 := hw1 ▸ (Below.refl _ w).alloc (Nat.le_refl _) _
  have k1 : Blk w1 w.heap.size 62 [.string y.path_, .string y.origin_, .slice y.body_.A y.body_.l.length y.body_.c, .slice y.snaps_.A y.snaps_.l.length y.snaps_.c, .slice y.own_.A y.own_.l.length y.own_.c] := hw1 ▸ Blk.new w _ _
  have z0 := k1.cell 1
  simp only [gA, gB] at z0
  have HP := Lib.hid (split_any y.origin_ hy w1)
  have HW1 := Lib.hid hw1
  have hs1 := hB1.size
  rcases hu : splitP y.origin_ with _ | ⟨q, r⟩
  · have hv : splV y.origin_ = .tuple #[.string ByteArray.empty, .string ByteArray.empty, .int .i64 31] := by unfold splV; rw [hu]
    rw [hv] at HP
    rw [show clB p y.origin_ = false by unfold clB; rw [hu]]
    clear hv hu k1 hw1
    go_enter Tryz.func135, Tryz.ntmps135
    go_upto_region 1 with fail
    rw [HW1.out]
    go_wp2_with fail
    refine HP.out.mono ?_
    rintro e w2 ⟨rfl, hB2⟩
    go_wp2
    go_ret
    exact ⟨rfl, hB1.trans (hB2.mono hs1)⟩
  · have hv : splV y.origin_ = .tuple #[.string q, .string r, .int .i64 0] := by unfold splV; rw [hu]
    rw [hv] at HP
    obtain ⟨kb, hkb⟩ : ∃ kb, (q.toList == p.toList) = kb := ⟨_, rfl⟩
    have hd : clB p y.origin_ = kb := by
      unfold clB
      rw [hu]
      rw [← hkb, beqS]
    rw [hd]
    have HKB := Lib.hid hkb
    clear hv hu k1 hw1 hd hkb
    go_enter Tryz.func135, Tryz.ntmps135
    go_upto_region 1 with fail
    rw [HW1.out]
    go_wp2_with fail
    refine HP.out.mono ?_
    rintro e w2 ⟨rfl, hB2⟩
    have q0 : w2.cell? ⟨B0, 0, none⟩ = some (.string p) := ((hB1.trans (hB2.mono hs1)).cell (p := ⟨B0, 0, none⟩) hl).trans h0
    have q1 : w2.cell? ⟨B1, 0, none⟩ = some (.string ⟨#[]⟩) := ((hB1.trans (hB2.mono hs1)).cell (p := ⟨B1, 0, none⟩) hl1).trans h1
    have hkb := HKB.out
    rcases kb with _ | _
    · go_wp2
      go_ret
      exact ⟨rfl, hB1.trans (hB2.mono hs1)⟩
    · go_wp2
      go_ret
      exact ⟨rfl, hB1.trans (hB2.mono hs1)⟩

theorem clones_any (x : MTenant) (p : ByteArray) (w : World) (hx : x.Good w) :
    Calls Tryz.prog 80 #[.agg x.cells.toArray, .string p, .string ⟨#[]⟩] w fun e w' => ∃ v, e = .returned v ∧ ownT w' w.heap.size v (clonesP x.plain p) ∧ Below w.heap.size w w' := by
  have hk : clonesP x.plain p = (x.sets_.l.filter fun s => clB p s.origin_).map MSet.path_ := by
    unfold clonesP
    rw [show x.plain.sets_ = x.sets_.l.map MSet.plain from rfl, List.filter_map, List.map_map]
    rfl
  obtain ⟨w1, hw1⟩ : ∃ w1, w.alloc (.cells #[.string x.name_, .int .i64 x.quota_, .int .i64 x.next_, .slice x.sets_.A x.sets_.l.length x.sets_.c, .slice x.grants_.A x.grants_.l.length x.grants_.c, .slice x.stages_.A x.stages_.l.length x.stages_.c, .slice x.log_.A x.log_.l.length x.log_.c] 27) = w1 := ⟨_, rfl⟩
  have hB1 : Below w.heap.size w w1 := hw1 ▸ (Below.refl _ w).alloc (Nat.le_refl _) _
  have k1 : Blk w1 w.heap.size 27 x.cells := hw1 ▸ Blk.new w _ _
  obtain ⟨w2, hw2⟩ : ∃ w2, w1.alloc (.cells #[.string p] 9) = w2 := ⟨_, rfl⟩
  have hB2 : Below w1.heap.size w1 w2 := hw2 ▸ (Below.refl _ w1).alloc (Nat.le_refl _) _
  have k2 : Blk w2 w1.heap.size 9 [.string p] := hw2 ▸ Blk.new w1 _ _
  obtain ⟨w3, hw3⟩ : ∃ w3, w2.alloc (.cells #[.string ⟨#[]⟩] 9) = w3 := ⟨_, rfl⟩
  have hB3 : Below w2.heap.size w2 w3 := hw3 ▸ (Below.refl _ w2).alloc (Nat.le_refl _) _
  have k3 : Blk w3 w2.heap.size 9 [.string ⟨#[]⟩] := hw3 ▸ Blk.new w2 _ _
  have hA2 : Below w.heap.size w w2 := hB1.trans (hB2.mono hB1.size)
  have hA : Below w.heap.size w w3 := hA2.trans (hB3.mono hA2.size)
  have hB23 : Below w1.heap.size w1 w3 := hB2.trans (hB3.mono hB2.size)
  have kt := k1.below hB23 k1.lt
  have z0 := kt.cell 0
  have z1 := kt.cell 1
  have z2 := kt.cell 2
  have z3 := kt.cell 3
  have z4 := kt.cell 4
  have z5 := kt.cell 5
  have z6 := kt.cell 6
  simp only [gA, gB] at z0 z1 z2 z3 z4 z5 z6
  have HP := Lib.hid (paths_any x 135 #[.pointer (some ⟨w1.heap.size, 0, none⟩), .pointer (some ⟨w2.heap.size, 0, none⟩)] (enters_of Tryz.func135 (by kernel_rfl) rfl) (fun s => clB p s.origin_) w3 (hx.below hA)
    (fun W y hy hB => clones1_any w1.heap.size w2.heap.size p y W (hx.gsets_.el y hy).gorigin_ (((k2.below hB3 k2.lt).below hB (k2.below hB3 k2.lt).lt).cell 0) ((k3.below hB k3.lt).cell 0)))
  have HW1 := Lib.hid hw1
  have HW2 := Lib.hid hw2
  have HW3 := Lib.hid hw3
  have HK := Lib.hid hk
  have hX : w.heap.size + 1 = w1.heap.size := by rw [← hw1, World.size_alloc]
  have hX2 : w1.heap.size + 1 = w2.heap.size := by rw [← hw2, World.size_alloc]
  clear hw1 hw2 hw3 k1 k2 k3 hx hk kt
  go_enter Tryz.func80, Tryz.ntmps80
  go_upto_region 1 with fail
  rw [HW1.out, HW2.out, HW3.out]
  try rw [hX]
  try rw [hX2]
  go_wp2_with fail
  refine HP.out.mono ?_
  rintro e w4 ⟨v, rfl, ho, hB4⟩
  go_wp2
  go_ret
  rw [HK.out]
  exact ⟨_, rfl, ownBase ho hA.size, hA.trans (hB4.mono hA.size)⟩

end Go.Proofs.YtnioelkibghplaaGreat
