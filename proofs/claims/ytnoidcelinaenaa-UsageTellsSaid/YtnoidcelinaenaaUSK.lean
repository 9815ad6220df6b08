/-
  The reference's Charge. Conditions: the tenant is as it comes in.
-/
import Derived.Test.YtnoidcelinaenaaUSJ
namespace Go.Proofs.Ytnoidcelinaenaa
open Go.ChangeShapes Go.WideShapes Go.ChangeAt Go.RowKit
set_option maxRecDepth 100000
set_option linter.unusedSimpArgs false

set_option maxHeartbeats 2000000 in
theorem refCharge_any (x : MTenant) (w : World) (hx : x.Good w) :
    Calls Try.prog 7 #[.agg x.cells.toArray] w fun e w' => e = .returned (.int .i64 (wrap64 (tenC x))) ∧ Below w.heap.size w w' := by
  obtain ⟨w1, hw1⟩ : ∃ w1, w.alloc (.cells #[.string x.name_, .int .i64 x.quota_, .int .i64 x.next_, .slice x.sets_.A x.sets_.l.length x.sets_.c, .slice x.grants_.A x.grants_.l.length x.grants_.c, .slice x.stages_.A x.stages_.l.length x.stages_.c, .slice x.log_.A x.log_.l.length x.log_.c] 27) = w1 := ⟨_, rfl⟩
  have hB1 : Below w.heap.size w w1 := hw1 ▸ (Below.refl _ w).alloc (Nat.le_refl _) _
  have k1 : Blk w1 w.heap.size 27 x.cells := hw1 ▸ Blk.new w _ _
  have HX := Lib.hid (hx.below hB1)
  have HK := Lib.hid k1
  have hns : x.sets_.l.length ≤ 8796093022208 := by have := hx.gsets_.len; omega
  have hnt : x.stages_.l.length ≤ 8796093022208 := by have := hx.gstages_.len; omega
  have HW1 := Lib.hid hw1
  have HB := Lib.hid hB1
  clear hw1 k1 hB1 hx
  go_enter Try.func7, Try.ntmps7
  go_wp2_with (rw [HW1.out])
  go_loopw [3, 4] (fun n i W => ∃ k : Nat, k ≤ x.sets_.l.length ∧ i = .int .i64 k ∧ n = .int .i64 (wrap64 (((x.sets_.l.take k).map setC).sum : Nat)) ∧ Below w1.heap.size w1 W) (fun _ i _ => x.sets_.l.length - (intOf i).toNat)
  case atStart => exact ⟨0, Nat.zero_le _, rfl, by simp [wrap64], Below.refl _ _⟩
  case round =>
    obtain ⟨k, hk, rfl, rfl, hB⟩ := hrel
    have k1 := HK.out.below hB HK.out.lt
    have z3 := k1.cell 3
    simp only [List.getElem?_cons_zero, List.getElem?_cons_succ] at z3
    by_cases hlt : k < x.sets_.l.length
    · obtain ⟨y, hy⟩ : ∃ y, x.sets_.l[k]? = some y := ⟨_, List.getElem?_eq_getElem hlt⟩
      obtain ⟨b, off, hA, hb, hc⟩ := Rd.elem (cells := MSet.cells) (n := 5) (fun _ => rfl) (by omega) (HX.out.gsets_.rd.below hB) hy
      rw [hA] at z3
      have c0 : wr.cell? ⟨b, off + k * 5, none⟩ = some (.string y.path_) := hc 0 _ rfl
      have c1 : wr.cell? ⟨b, off + k * 5 + 1, none⟩ = some (.string y.origin_) := hc 1 _ rfl
      have c2 : wr.cell? ⟨b, off + k * 5 + 2, none⟩ = some (.slice y.body_.A y.body_.l.length y.body_.c) := hc 2 _ rfl
      have c3 : wr.cell? ⟨b, off + k * 5 + 3, none⟩ = some (.slice y.snaps_.A y.snaps_.l.length y.snaps_.c) := hc 3 _ rfl
      have c4 : wr.cell? ⟨b, off + k * 5 + 4, none⟩ = some (.slice y.own_.A y.own_.l.length y.own_.c) := hc 4 _ rfl
      have HC := Lib.hid (refSet_any y wr (SetU.of ((HX.out.gsets_.el y (List.mem_of_getElem? hy)).below hB)))
      have HN : Hid (wrap64 (wrap64 (((x.sets_.l.take k).map setC).sum : Nat) + wrap64 (setC y)) = wrap64 (((x.sets_.l.take (k + 1)).map setC).sum : Nat)) := Lib.hid (by
        rw [w64_add, w64_add', sum_take hy, Int.natCast_add])
      generalize wrap64 (((x.sets_.l.take k).map setC).sum : Nat) = X at *
      generalize wrap64 (setC y) = Y at *
      clear hc hy k1
      go_wp2_with fail
      refine HC.out.mono ?_
      rintro e w3 ⟨rfl, hB3⟩
      have hB3' := hB.trans (hB3.mono hB.size)
      clear HC hB3
      go_wp2
      go_roundw
      case rel => exact ⟨k + 1, by omega, by go_num, by rw [← HN.out], hB3'⟩
      case measure => simp [intOf]; omega
    · obtain rfl : k = x.sets_.l.length := by omega
      rw [List.take_length]
      have hX0 : wrap64 (((x.sets_.l.map setC).sum : Nat)) = wrap64 (((x.sets_.l.map setC).sum + ((x.stages_.l.take 0).map fun s => 1 + s.body_.l.length).sum : Nat)) := by simp
      rw [hX0]
      clear k1
      go_wp2
      go_loopw [3, 5] (fun n i W => ∃ k : Nat, k ≤ x.stages_.l.length ∧ i = .int .i64 k ∧ n = .int .i64 (wrap64 (((x.sets_.l.map setC).sum + ((x.stages_.l.take k).map fun s => 1 + s.body_.l.length).sum : Nat))) ∧ W = wr) (fun _ i _ => x.stages_.l.length - (intOf i).toNat)
      case atStart => exact ⟨0, Nat.zero_le _, rfl, rfl, rfl⟩
      case round =>
        obtain ⟨k, hk, rfl, rfl, rfl⟩ := hrel
        have k1 := HK.out.below hB HK.out.lt
        have z5 := k1.cell 5
        simp only [List.getElem?_cons_zero, List.getElem?_cons_succ] at z5
        by_cases hlt : k < x.stages_.l.length
        · obtain ⟨y, hy⟩ : ∃ y, x.stages_.l[k]? = some y := ⟨_, List.getElem?_eq_getElem hlt⟩
          obtain ⟨b, off, hA, hb, hc⟩ := Rd.elem (cells := MStage.cells) (n := 21) (fun _ => rfl) (by omega) (HX.out.gstages_.rd.below hB) hy
          rw [hA] at z5
          have c13 := hc 13 (.slice y.body_.A y.body_.l.length y.body_.c) rfl
          rw [← Nat.add_assoc] at c13
          have HN : Hid (wrap64 (wrap64 (wrap64 (((x.sets_.l.map setC).sum + ((x.stages_.l.take k).map fun s => 1 + s.body_.l.length).sum : Nat)) + 1) + (y.body_.l.length : Int)) = wrap64 (((x.sets_.l.map setC).sum + ((x.stages_.l.take (k + 1)).map fun s => 1 + s.body_.l.length).sum : Nat))) := Lib.hid (by
            rw [w64_add, Int.add_assoc, w64_add, sum_take hy]
            congr 1
            omega)
          generalize wrap64 (((x.sets_.l.map setC).sum + ((x.stages_.l.take k).map fun s => 1 + s.body_.l.length).sum : Nat)) = X at *
          clear hc hy k1
          go_wp2
          go_roundw
          case rel => exact ⟨k + 1, by omega, by go_num, by rw [← HN.out], by first | rfl | trivial⟩
          case measure => simp [intOf]; omega
        · obtain rfl : k = x.stages_.l.length := by omega
          rw [List.take_length]
          have HN : Hid (wrap64 (((x.sets_.l.map setC).sum + (x.stages_.l.map fun s => 1 + s.body_.l.length).sum : Nat)) = wrap64 (tenC x)) := Lib.hid rfl
          generalize wrap64 (((x.sets_.l.map setC).sum + (x.stages_.l.map fun s => 1 + s.body_.l.length).sum : Nat)) = X at *
          clear k1
          go_wp2
          go_ret
          rw [← HN.out]
          exact ⟨rfl, HB.out.trans (hB.mono HB.out.size)⟩

end Go.Proofs.Ytnoidcelinaenaa
