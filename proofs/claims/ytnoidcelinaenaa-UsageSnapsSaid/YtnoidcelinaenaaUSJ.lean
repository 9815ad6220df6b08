/-
  usage: Fits, Body; the reference's Set and Charge. Conditions: the tenant is as it comes in.
-/
import Derived.Test.YtnoidcelinaenaaUSI
namespace Go.Proofs.Ytnoidcelinaenaa
open Go.ChangeShapes Go.WideShapes Go.ChangeAt Go.RowKit
set_option maxRecDepth 100000
set_option linter.unusedSimpArgs false

set_option maxHeartbeats 2000000 in
theorem fits_any (x : MTenant) (w : World) (hx : x.Good w) :
    Calls Try.prog 8 #[.agg x.cells.toArray] w fun e w' => e = .returned (.bool (decide (wrap64 (tenC x) ≤ x.quota_))) ∧ Below w.heap.size w w' := by
  obtain ⟨w1, hw1⟩ : ∃ w1, w.alloc (.cells #[.string x.name_, .int .i64 x.quota_, .int .i64 x.next_, .slice x.sets_.A x.sets_.l.length x.sets_.c, .slice x.grants_.A x.grants_.l.length x.grants_.c, .slice x.stages_.A x.stages_.l.length x.stages_.c, .slice x.log_.A x.log_.l.length x.log_.c] 27) = w1 := ⟨_, rfl⟩
  have hB1 : Below w.heap.size w w1 := hw1 ▸ (Below.refl _ w).alloc (Nat.le_refl _) _
  have k1 : Blk w1 w.heap.size 27 x.cells := hw1 ▸ Blk.new w _ _
  have hlt := k1.lt
  have z0 := k1.cell 0
  have z1 := k1.cell 1
  have z2 := k1.cell 2
  have z3 := k1.cell 3
  have z4 := k1.cell 4
  have z5 := k1.cell 5
  have z6 := k1.cell 6
  simp only [List.getElem?_cons_zero, List.getElem?_cons_succ] at z0 z1 z2 z3 z4 z5 z6
  have HT := Lib.hid (fun W (hW : Below w1.heap.size w1 W) => tenant_any x W ((hx.below hB1).below hW))
  generalize wrap64 (tenC x) = T at *
  have HW1 := Lib.hid hw1
  have HB := Lib.hid hB1
  clear hw1 k1 hB1
  go_enter Try.func8, Try.ntmps8
  go_upto_region 1 with fail
  rw [HW1.out]
  refine wp_region_noPanic ?_
  refine wp_region_last 4 (fun W => W.cell? ⟨w.heap.size, 0, none⟩ = some (.string x.name_) ∧ W.cell? ⟨w.heap.size, 1, none⟩ = some (.int .i64 x.quota_) ∧ W.cell? ⟨w.heap.size, 2, none⟩ = some (.int .i64 x.next_) ∧ W.cell? ⟨w.heap.size, 3, none⟩ = some (.slice x.sets_.A x.sets_.l.length x.sets_.c) ∧ W.cell? ⟨w.heap.size, 4, none⟩ = some (.slice x.grants_.A x.grants_.l.length x.grants_.c) ∧ W.cell? ⟨w.heap.size, 5, none⟩ = some (.slice x.stages_.A x.stages_.l.length x.stages_.c) ∧ W.cell? ⟨w.heap.size, 6, none⟩ = some (.slice x.log_.A x.log_.l.length x.log_.c)) (by kernel_rfl) ⟨z0, z1, z2, z3, z4, z5, z6⟩ (fun hHeld => ?_)
  refine wpAnyL_take 16 (i := 0) (oi := ⟨some 3, _, _, _, _, _⟩) (v := ?_) rfl (by kernel_rfl) (by kernel_rfl) (by kernel_rfl) (by kernel_rfl) (by kernel_rfl) (by kernel_rfl) (by kernel_rfl) (fun _ _ _ h => h) (Or.inl ⟨by rfl, ?_⟩) hHeld ?_
  rotate_left
  focus (intro w hSw; (try dsimp only at hSw); go_simp; try (with_reducible rfl))
  try simp only [Act.put, List.setIfInBounds_toArray, List.set_cons_zero, List.set_cons_succ]
  refine wpAnyL_take 16 (i := 2) (oi := ⟨some 5, _, _, _, _, _⟩) (v := ?_) rfl (by kernel_rfl) (by kernel_rfl) (by kernel_rfl) (by kernel_rfl) (by kernel_rfl) (by kernel_rfl) (by kernel_rfl) (fun _ _ _ h => h) (Or.inl ⟨by rfl, ?_⟩) hHeld ?_
  rotate_left
  focus (intro w hSw; (try dsimp only at hSw); go_simp; try (with_reducible rfl))
  try simp only [Act.put, List.setIfInBounds_toArray, List.set_cons_zero, List.set_cons_succ]
  refine wpAnyL_take 16 (i := 3) (oi := ⟨some 6, _, _, _, _, _⟩) (v := ?_) rfl (by kernel_rfl) (by kernel_rfl) (by kernel_rfl) (by kernel_rfl) (by kernel_rfl) (by kernel_rfl) (by kernel_rfl) (fun _ _ _ h => h) (Or.inl ⟨by rfl, ?_⟩) hHeld ?_
  rotate_left
  focus (intro w hSw; (try dsimp only at hSw); go_simp; try (with_reducible rfl))
  try simp only [Act.put, List.setIfInBounds_toArray, List.set_cons_zero, List.set_cons_succ]
  clear hHeld
  refine wpAnyL_facts 16 1 2 [(1, 4)] (fun s v w => match s with
    | 4 => v = .int .i64 T
    | _ => True) (fun w w' => Below w.heap.size w w') (by kernel_rfl) (by kernel_rfl) (fun w w' h h' => h.trans (h'.mono h.size)) ⟨?_, trivial⟩ (fun w' hB => ⟨(hB.cell (p := ⟨w.heap.size, 0, none⟩) hlt).trans z0, (hB.cell (p := ⟨w.heap.size, 1, none⟩) hlt).trans z1, (hB.cell (p := ⟨w.heap.size, 2, none⟩) hlt).trans z2, (hB.cell (p := ⟨w.heap.size, 3, none⟩) hlt).trans z3, (hB.cell (p := ⟨w.heap.size, 4, none⟩) hlt).trans z4, (hB.cell (p := ⟨w.heap.size, 5, none⟩) hlt).trans z5, (hB.cell (p := ⟨w.heap.size, 6, none⟩) hlt).trans z6⟩) ⟨?_, trivial⟩ ?_
  focus
    intro v w w' h hB
    exact h
  focus
    intro vs w2 hBf hFf o ho K hK
    obtain rfl : (⟨some 4, _, _, _, _, _⟩ : Oper) = o := Option.some.inj ho
    clear ho
    (try simp only [fillL, List.foldl_cons, List.foldl_nil, Act.put, List.setIfInBounds_toArray, List.set_cons_zero, List.set_cons_succ] at hK ⊢)
    go_simp
    refine (HT.out _ ((Below.refl w1.heap.size w1).drew.trans hBf)).mono ?_
    rintro e w3 ⟨rfl, hB3⟩
    refine hK.out _ _ ⟨rfl, hB3⟩
  intro vs w2 hBf hFf
  (try simp only [fillL, List.foldl_cons, List.foldl_nil, Act.put, List.setIfInBounds_toArray, List.set_cons_zero, List.set_cons_succ])
  have e1 : vs 4 = .int .i64 T := (hFf (1, 4) (by simp))
  simp only [e1]
  have hBw5 : Below w.heap.size w w2 := HB.out.trans (((Below.refl w1.heap.size w1).drew.trans hBf).mono HB.out.size)
  refine wpAnyL_last (i := 4) (o := ⟨some 7, _, _, _, _, _⟩) (by kernel_rfl) rfl (by kernel_rfl) (fun K hK => ?_)
  go_simp
  refine hK.out _ _ ?_
  clear hK K
  try simp only [Act.put, List.setIfInBounds_toArray, List.set_cons_zero, List.set_cons_succ]
  refine wpAnyL_last (i := 5) (o := ⟨some 2, _, _, _, _, _⟩) (by kernel_rfl) rfl (by kernel_rfl) (fun K hK => ?_)
  go_simp
  refine hK.out _ _ ?_
  clear hK K
  try simp only [Act.put, List.setIfInBounds_toArray, List.set_cons_zero, List.set_cons_succ]
  refine wpAnyL_done (by kernel_rfl) ?_ _
  refine NoPanic.normal ?_
  go_wp2
  go_ret
  exact ⟨rfl, hBw5⟩

theorem refSet_any (s : MSet) (w : World) (hs : SetU w s) :
    Calls Try.prog 10 #[.agg s.cells.toArray] w fun e w' => e = .returned (.int .i64 (wrap64 (setC s))) ∧ Below w.heap.size w w' := by
  obtain ⟨w1, hw1⟩ : ∃ w1, w.alloc (.cells #[.string s.path_, .string s.origin_, .slice s.body_.A s.body_.l.length s.body_.c, .slice s.snaps_.A s.snaps_.l.length s.snaps_.c, .slice s.own_.A s.own_.l.length s.own_.c] 32) = w1 := ⟨_, rfl⟩
  have hB1 : Below w.heap.size w w1 := hw1 ▸ (Below.refl _ w).alloc (Nat.le_refl _) _
  have k1 : Blk w1 w.heap.size 32 s.cells := hw1 ▸ Blk.new w _ _
  have z2 := k1.cell 2
  have z3 := k1.cell 3
  simp only [List.getElem?_cons_zero, List.getElem?_cons_succ] at z2 z3
  have hbl : s.body_.l.length * 24 ≤ 140737488351232 := (hs.bo s.body_ (by simp [lineM])).2
  have h1 : wrap64 (1 + (s.body_.l.length : Int)) = 1 + (s.body_.l.length : Int) := IntWalk.wrap64_in _ (by omega)
  have hnn := hs.nn
  have HS := Lib.hid (hs.below hB1)
  have HW1 := Lib.hid hw1
  have HB := Lib.hid hB1
  clear hw1 k1 hB1 hs
  go_enter Try.func10, Try.ntmps10
  go_wp2_with (rw [HW1.out])
  go_loopw [3, 4] (fun n i W => ∃ k : Nat, k ≤ s.snaps_.l.length ∧ i = .int .i64 k ∧ n = .int .i64 (wrap64 ((1 + s.body_.l.length + chgL ((s.snaps_.l.take k).map MSnap.body_) : Nat))) ∧ W = w1) (fun _ i _ => s.snaps_.l.length - (intOf i).toNat)
  case atStart => exact ⟨0, Nat.zero_le _, rfl, by
      rw [show wrap64 ((1 + s.body_.l.length + chgL ((s.snaps_.l.take 0).map MSnap.body_) : Nat)) = 1 + (s.body_.l.length : Int) from by
        rw [← h1]
        congr 1], rfl⟩
  case round =>
    obtain ⟨k, hk, rfl, rfl, rfl⟩ := hrel
    by_cases hlt : k < s.snaps_.l.length
    · obtain ⟨y, hy⟩ : ∃ y, s.snaps_.l[k]? = some y := ⟨_, List.getElem?_eq_getElem hlt⟩
      obtain ⟨b, off, hA, hb, hc⟩ := Rd.elem (cells := MSnap.cells) (n := 5) (fun _ => rfl) (by omega) HS.out.sn hy
      rw [hA] at z3
      have c2 : wr.cell? ⟨b, off + k * 5 + 2, none⟩ = some (.slice y.body_.A y.body_.l.length y.body_.c) := hc 2 _ rfl
      have HN : Hid (wrap64 (wrap64 (wrap64 ((1 + s.body_.l.length + chgL ((s.snaps_.l.take k).map MSnap.body_) : Nat)) + 1) + (y.body_.l.length : Int)) = wrap64 ((1 + s.body_.l.length + chgL ((s.snaps_.l.take (k + 1)).map MSnap.body_) : Nat))) := Lib.hid (by
        rw [w64_add, Int.add_assoc, w64_add]
        congr 1
        have e1 : chgL ((s.snaps_.l.take (k + 1)).map MSnap.body_) = chgL ((s.snaps_.l.take k).map MSnap.body_) + (1 + y.body_.l.length) := by
          rw [List.take_add_one, hy]
          unfold chgL
          simp [chg]
        omega)
      generalize wrap64 ((1 + s.body_.l.length + chgL ((s.snaps_.l.take k).map MSnap.body_) : Nat)) = X at *
      clear hc hy
      go_wp2
      go_roundw
      case rel => exact ⟨k + 1, by omega, by go_num, by rw [← HN.out], by first | rfl | trivial⟩
      case measure => simp [intOf]; omega
    · obtain rfl : k = s.snaps_.l.length := by omega
      have HN : Hid (wrap64 ((1 + s.body_.l.length + chgL ((s.snaps_.l.take s.snaps_.l.length).map MSnap.body_) : Nat)) = wrap64 (setC s)) := Lib.hid (by
        congr 1
        rw [List.take_length]
        unfold setC lineM chgL
        rw [List.map_append, chg_append]
        simp [chg]
        omega)
      generalize wrap64 ((1 + s.body_.l.length + chgL ((s.snaps_.l.take s.snaps_.l.length).map MSnap.body_) : Nat)) = X at *
      go_wp2
      go_ret
      rw [← HN.out]
      exact ⟨rfl, HB.out⟩

end Go.Proofs.Ytnoidcelinaenaa
