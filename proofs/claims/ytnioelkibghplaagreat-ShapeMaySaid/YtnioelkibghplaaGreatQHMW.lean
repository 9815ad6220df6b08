/-
  ShapeMay’s walk. Conditions: the tenant is as it comes in.
-/
import Derived.Test.YtnioelkibghplaaGreatQHWB
import Derived.Test.YtnioelkibghplaaGreatQHCR
import Derived.Test.YtnioelkibghplaaGreatQUSI
import Derived.Test.YtnioelkibghplaaGreatQTMJ
namespace Go.Proofs.YtnioelkibghplaaGreat
open Go.ChangeShapes Go.WideShapes Go.ChangeAt Go.RowKit
set_option maxRecDepth 100000
set_option linter.unusedSimpArgs false
theorem may_charge {y : MTenant} (h : okT y.plain = true) : wrap64 (tenC y) = chgP y.plain := by
  rw [tenC_plain]
  have := chgP_small h
  unfold wrap64
  omega
set_option maxHeartbeats 4000000 in
theorem may_walk (x : MTenant) (p : ByteArray) (i : Int) (d : ByteArray) (hp : p.size ≤ 140737488351232) (hd : d.size ≤ 140737488351232) (w : World) (hx : x.Good w) :
    Calls Tryz.prog 5 #[.agg x.cells.toArray, .string p, .int .i64 i, .string d] w fun e w' => e = .returned (.bool true) ∧ Below w.heap.size w w' := by
  obtain ⟨a1, hw1⟩ : ∃ a1, w.alloc (.cells #[.string x.name_, .int .i64 x.quota_, .int .i64 x.next_, .slice x.sets_.A x.sets_.l.length x.sets_.c, .slice x.grants_.A x.grants_.l.length x.grants_.c, .slice x.stages_.A x.stages_.l.length x.stages_.c, .slice x.log_.A x.log_.l.length x.log_.c] 27) = a1 := ⟨_, rfl⟩
  have b1 : Below w.heap.size w a1 := hw1 ▸ (Below.refl _ w).alloc (Nat.le_refl _) _
  have k1 : Blk a1 w.heap.size 27 [.string x.name_, .int .i64 x.quota_, .int .i64 x.next_, .slice x.sets_.A x.sets_.l.length x.sets_.c, .slice x.grants_.A x.grants_.l.length x.grants_.c, .slice x.stages_.A x.stages_.l.length x.stages_.c, .slice x.log_.A x.log_.l.length x.log_.c] := hw1 ▸ Blk.new w _ _
  have hB1 : Below w.heap.size w a1 := b1
  have hs1 := hB1.size
  have HW1 := Lib.hid hw1
  clear hw1 b1
  have hx1 := hx.below hB1
  have H1 := Lib.hid (fun W (hW : Below a1.heap.size a1 W) => create_any x p hp W (hx1.below hW))
  have H2 := Lib.hid (fun W (hW : Below a1.heap.size a1 W) => write_any x p i d hp hd W (hx1.below hW))
  have H3 := Lib.hid (fun W (hW : Below a1.heap.size a1 W) => destroy_any x p hp W (hx1.below hW))
  have M1 : Hid ((createU x.plain p).2 = 0 → okT (createU x.plain p).1 = true ∧ (chgP (createU x.plain p).1 : Int) ≤ (createU x.plain p).1.quota_) := Lib.hid (by
    rw [create_isP]
    intro h
    obtain ⟨a, b, _⟩ := create_may h
    exact ⟨a, b⟩)
  have M2 : Hid ((writeU x.plain p i d).2 = 0 → okT (writeU x.plain p i d).1 = true ∧ (chgP (writeU x.plain p i d).1 : Int) ≤ (writeU x.plain p i d).1.quota_) := Lib.hid (by
    rw [write_isP]
    exact write_may)
  have M3 : Hid ((goneU x.plain p).2 = 0 → okT (goneU x.plain p).1 = true ∧ chgP (goneU x.plain p).1 ≤ chgP x.plain ∧ okT x.plain = true) := Lib.hid (by
    rw [gone_isP]
    intro h
    obtain ⟨a, b⟩ := destroy_may h
    exact ⟨a, b, (destroy_ways h).1⟩)
  generalize createU x.plain p = P1 at *
  generalize writeU x.plain p i d = P2 at *
  generalize goneU x.plain p = P3 at *
  have HA := Lib.hid (fun W => alive16_any W)
  have HGX := Lib.hid hx1
  clear hx hx1 hp hd
  go_enter Tryz.func5, Tryz.ntmps5
  go_upto_region 1 with fail
  rw [HW1.out]
  go_wp2_with fail
  refine (HA.out _).mono ?_
  rintro e v0 ⟨rfl, hV0⟩
  have kx0 := k1.of hV0
  have hU0 := hV0
  obtain ⟨q0_0, q0_1, q0_2, q0_3, q0_4, q0_5, q0_6⟩ := kx0.all7
  have G1 := Lib.hid (H1.out v0 hU0)
  go_wp2_with fail
  refine G1.out.mono ?_
  rintro e v1 ⟨y1, rfl, hoy1, hg1, hp1, hV1⟩
  obtain ⟨z1, hz1⟩ : ∃ z, v1.alloc (.cells #[.string y1.name_, .int .i64 y1.quota_, .int .i64 y1.next_, .slice y1.sets_.A y1.sets_.l.length y1.sets_.c, .slice y1.grants_.A y1.grants_.l.length y1.grants_.c, .slice y1.stages_.A y1.stages_.l.length y1.stages_.c, .slice y1.log_.A y1.log_.l.length y1.log_.c] 27) = z := ⟨_, rfl⟩
  have hA1 : Below v1.heap.size v1 z1 := hz1 ▸ (Below.refl _ v1).alloc (Nat.le_refl _) _
  have kY1 : Blk z1 v1.heap.size 27 [.string y1.name_, .int .i64 y1.quota_, .int .i64 y1.next_, .slice y1.sets_.A y1.sets_.l.length y1.sets_.c, .slice y1.grants_.A y1.grants_.l.length y1.grants_.c, .slice y1.stages_.A y1.stages_.l.length y1.stages_.c, .slice y1.log_.A y1.log_.l.length y1.log_.c] := hz1 ▸ Blk.new v1 _ _
  have hW1 : Below v0.heap.size v0 z1 := hV1.trans (hA1.mono hV1.size)
  have hU1 : Below a1.heap.size a1 z1 := hU0.trans (hW1.mono hU0.size)
  have HZ1 := Lib.hid hz1
  have hgz1 := hg1.below hA1
  clear hz1 G1
  have kx1 := kx0.of hW1
  clear q0_0 q0_1 q0_2 q0_3 q0_4 q0_5 q0_6
  go_upto_region 4 with fail
  rw [HZ1.out]
  obtain ⟨q1_0, q1_1, q1_2, q1_3, q1_4, q1_5, q1_6⟩ := kx1.all7
  have G2 := Lib.hid (H2.out z1 hU1)
  go_wp2_with fail
  refine G2.out.mono ?_
  rintro e v2 ⟨y2, rfl, hoy2, hg2, hp2, hV2⟩
  obtain ⟨z2, hz2⟩ : ∃ z, v2.alloc (.cells #[.string y2.name_, .int .i64 y2.quota_, .int .i64 y2.next_, .slice y2.sets_.A y2.sets_.l.length y2.sets_.c, .slice y2.grants_.A y2.grants_.l.length y2.grants_.c, .slice y2.stages_.A y2.stages_.l.length y2.stages_.c, .slice y2.log_.A y2.log_.l.length y2.log_.c] 27) = z := ⟨_, rfl⟩
  have hA2 : Below v2.heap.size v2 z2 := hz2 ▸ (Below.refl _ v2).alloc (Nat.le_refl _) _
  have kY2 : Blk z2 v2.heap.size 27 [.string y2.name_, .int .i64 y2.quota_, .int .i64 y2.next_, .slice y2.sets_.A y2.sets_.l.length y2.sets_.c, .slice y2.grants_.A y2.grants_.l.length y2.grants_.c, .slice y2.stages_.A y2.stages_.l.length y2.stages_.c, .slice y2.log_.A y2.log_.l.length y2.log_.c] := hz2 ▸ Blk.new v2 _ _
  have hW2 : Below z1.heap.size z1 z2 := hV2.trans (hA2.mono hV2.size)
  have hU2 : Below a1.heap.size a1 z2 := hU1.trans (hW2.mono hU1.size)
  have HZ2 := Lib.hid hz2
  have hgz2 := hg2.below hA2
  clear hz2 G2
  have kx2 := kx1.of hW2
  have kY1 := kY1.of hW2
  have hgz1 := hgz1.below hW2
  clear q1_0 q1_1 q1_2 q1_3 q1_4 q1_5 q1_6
  go_upto_region 5 with fail
  rw [HZ2.out]
  obtain ⟨q2_0, q2_1, q2_2, q2_3, q2_4, q2_5, q2_6⟩ := kx2.all7
  have G3 := Lib.hid (H3.out z2 hU2)
  go_wp2_with fail
  refine G3.out.mono ?_
  rintro e v3 ⟨y3, rfl, hoy3, hg3, hp3, hV3⟩
  obtain ⟨z3, hz3⟩ : ∃ z, v3.alloc (.cells #[.string y3.name_, .int .i64 y3.quota_, .int .i64 y3.next_, .slice y3.sets_.A y3.sets_.l.length y3.sets_.c, .slice y3.grants_.A y3.grants_.l.length y3.grants_.c, .slice y3.stages_.A y3.stages_.l.length y3.stages_.c, .slice y3.log_.A y3.log_.l.length y3.log_.c] 27) = z := ⟨_, rfl⟩
  have hA3 : Below v3.heap.size v3 z3 := hz3 ▸ (Below.refl _ v3).alloc (Nat.le_refl _) _
  have kY3 : Blk z3 v3.heap.size 27 [.string y3.name_, .int .i64 y3.quota_, .int .i64 y3.next_, .slice y3.sets_.A y3.sets_.l.length y3.sets_.c, .slice y3.grants_.A y3.grants_.l.length y3.grants_.c, .slice y3.stages_.A y3.stages_.l.length y3.stages_.c, .slice y3.log_.A y3.log_.l.length y3.log_.c] := hz3 ▸ Blk.new v3 _ _
  have hW3 : Below z2.heap.size z2 z3 := hV3.trans (hA3.mono hV3.size)
  have hU3 : Below a1.heap.size a1 z3 := hU2.trans (hW3.mono hU2.size)
  have HZ3 := Lib.hid hz3
  have hgz3 := hg3.below hA3
  clear hz3 G3
  have kx3 := kx2.of hW3
  have kY1 := kY1.of hW3
  have hgz1 := hgz1.below hW3
  have kY2 := kY2.of hW3
  have hgz2 := hgz2.below hW3
  clear q2_0 q2_1 q2_2 q2_3 q2_4 q2_5 q2_6
  go_upto_region 6 with fail
  rw [HZ3.out]
  have hT : Below z3.heap.size z3 z3 := Below.refl _ _
  obtain ⟨E1, hE1⟩ : ∃ E, P1.2 = E := ⟨_, rfl⟩
  have HM1 : Hid (E1 = 0 → okT y1.plain = true ∧ (chgP y1.plain : Int) ≤ y1.plain.quota_) := Lib.hid (by
    rw [hp1, ← hE1]
    exact M1.out)
  rw [hE1]
  clear hE1
  obtain ⟨E2, hE2⟩ : ∃ E, P2.2 = E := ⟨_, rfl⟩
  have HM2 : Hid (E2 = 0 → okT y2.plain = true ∧ (chgP y2.plain : Int) ≤ y2.plain.quota_) := Lib.hid (by
    rw [hp2, ← hE2]
    exact M2.out)
  rw [hE2]
  clear hE2
  obtain ⟨E3, hE3⟩ : ∃ E, P3.2 = E := ⟨_, rfl⟩
  have HM3 : Hid (E3 = 0 → okT y3.plain = true ∧ chgP y3.plain ≤ chgP x.plain ∧ okT x.plain = true) := Lib.hid (by
    rw [hp3, ← hE3]
    exact M3.out)
  rw [hE3]
  clear hE3
  have hTT := Below.refl z3.heap.size z3
  by_cases he1 : E1 = 0
  · subst he1
    have hgc1 := hgz1.below hTT
    have kC := kY1.of hTT
    have hok1 := (HM1.out rfl).1
    have hch1 := (HM1.out rfl).2
    have HCK := Lib.hid (fun W (hW : Below z3.heap.size z3 W) => refCheck_any14 y1 W (hgc1.below hW) (tiny_of hok1))
    rw [hok1, if_pos rfl] at HCK
    have HCG := Lib.hid (fun W (hW : Below z3.heap.size z3 W) => refCharge_any y1 W (hgc1.below hW))
    rw [may_charge hok1] at HCG
    have hle : ¬ (y1.quota_ < (chgP y1.plain : Int)) := by
      have h9 : y1.plain.quota_ = y1.quota_ := rfl
      rw [h9] at hch1
      omega
    generalize (chgP y1.plain : Int) = C at *
    have hlt := kC.lt
    obtain ⟨m0, m1, m2, m3, m4, m5, m6⟩ := kC.all7
    refine wp_region_noPanic ?_
    refine wp_region_last 13 (fun W => W.cell? ⟨v1.heap.size, 0, none⟩ = some (.string y1.name_) ∧ W.cell? ⟨v1.heap.size, 1, none⟩ = some (.int .i64 y1.quota_) ∧ W.cell? ⟨v1.heap.size, 2, none⟩ = some (.int .i64 y1.next_) ∧ W.cell? ⟨v1.heap.size, 3, none⟩ = some (.slice y1.sets_.A y1.sets_.l.length y1.sets_.c) ∧ W.cell? ⟨v1.heap.size, 4, none⟩ = some (.slice y1.grants_.A y1.grants_.l.length y1.grants_.c) ∧ W.cell? ⟨v1.heap.size, 5, none⟩ = some (.slice y1.stages_.A y1.stages_.l.length y1.stages_.c) ∧ W.cell? ⟨v1.heap.size, 6, none⟩ = some (.slice y1.log_.A y1.log_.l.length y1.log_.c)) (by kernel_rfl) ⟨m0, m1, m2, m3, m4, m5, m6⟩ (fun hHeld => ?_)
    refine wpAnyL_take 16 (i := 0) (oi := ⟨some 37, _, _, _, _, _⟩) (v := ?_) rfl (by kernel_rfl) (by kernel_rfl) (by kernel_rfl) (by kernel_rfl) (by kernel_rfl) (by kernel_rfl) (by kernel_rfl) (fun _ _ _ h => h) (Or.inl ⟨by rfl, ?_⟩) hHeld ?_
    rotate_left
    focus (intro w hSw; (try dsimp only at hSw); go_simp; try (with_reducible rfl))
    try simp only [Act.put, pA, pB, pC]
    refine wpAnyL_take 16 (i := 1) (oi := ⟨some 38, _, _, _, _, _⟩) (v := ?_) rfl (by kernel_rfl) (by kernel_rfl) (by kernel_rfl) (by kernel_rfl) (by kernel_rfl) (by kernel_rfl) (by kernel_rfl) (fun _ _ _ h => h) (Or.inl ⟨by rfl, ?_⟩) hHeld ?_
    rotate_left
    focus (intro w hSw; (try dsimp only at hSw); go_simp; try (with_reducible rfl))
    try simp only [Act.put, pA, pB, pC]
    refine wpAnyL_take 16 (i := 2) (oi := ⟨some 39, _, _, _, _, _⟩) (v := ?_) rfl (by kernel_rfl) (by kernel_rfl) (by kernel_rfl) (by kernel_rfl) (by kernel_rfl) (by kernel_rfl) (by kernel_rfl) (fun _ _ _ h => h) (Or.inl ⟨by rfl, ?_⟩) hHeld ?_
    rotate_left
    focus (intro w hSw; (try dsimp only at hSw); go_simp; try (with_reducible rfl))
    try simp only [Act.put, pA, pB, pC]
    refine wpAnyL_take 16 (i := 3) (oi := ⟨some 40, _, _, _, _, _⟩) (v := ?_) rfl (by kernel_rfl) (by kernel_rfl) (by kernel_rfl) (by kernel_rfl) (by kernel_rfl) (by kernel_rfl) (by kernel_rfl) (fun _ _ _ h => h) (Or.inl ⟨by rfl, ?_⟩) hHeld ?_
    rotate_left
    focus (intro w hSw; (try dsimp only at hSw); go_simp; try (with_reducible rfl))
    try simp only [Act.put, pA, pB, pC]
    clear hHeld
    refine wpAnyL_facts 16 1 9 [(4, 41)] (fun s v w => match s with
      | 41 => v = .int .i64 0
      | _ => True) (fun w w' => Below w.heap.size w w') (by kernel_rfl) (by kernel_rfl) (fun w w' h h' => h.trans (h'.mono h.size)) ⟨?_, trivial⟩ (fun w' hB => ⟨(hB.cell (p := ⟨v1.heap.size, 0, none⟩) hlt).trans m0, (hB.cell (p := ⟨v1.heap.size, 1, none⟩) hlt).trans m1, (hB.cell (p := ⟨v1.heap.size, 2, none⟩) hlt).trans m2, (hB.cell (p := ⟨v1.heap.size, 3, none⟩) hlt).trans m3, (hB.cell (p := ⟨v1.heap.size, 4, none⟩) hlt).trans m4, (hB.cell (p := ⟨v1.heap.size, 5, none⟩) hlt).trans m5, (hB.cell (p := ⟨v1.heap.size, 6, none⟩) hlt).trans m6⟩) ⟨?_, trivial⟩ ?_
    focus
      intro v w w' h hB
      exact h
    focus
      intro vs w2 hBf hFf o ho K hK
      obtain rfl : (⟨some 41, _, _, _, _, _⟩ : Oper) = o := Option.some.inj ho
      clear ho
      (try simp only [fillL, List.foldl_cons, List.foldl_nil, Act.put, List.setIfInBounds_toArray, List.set_cons_zero, List.set_cons_succ] at hK ⊢)
      rw [if_pos (by rfl)]
      go_simp
      refine (HCK.out _ ((Below.refl z3.heap.size z3).drew.trans hBf)).mono ?_
      rintro e w3 ⟨rfl, hB3⟩
      refine hK.out _ _ ⟨rfl, hB3⟩
    intro vs w2 hBf hFf
    (try simp only [fillL, List.foldl_cons, List.foldl_nil, Act.put, List.setIfInBounds_toArray, List.set_cons_zero, List.set_cons_succ])
    have e41 : vs 41 = .int .i64 0 := (hFf (4, 41) (by simp))
    simp only [e41]
    have hBw : Below z3.heap.size z3 w2 := (Below.refl z3.heap.size z3).drew.trans hBf
    have hHeld : (fun W => W.cell? ⟨v1.heap.size, 0, none⟩ = some (.string y1.name_) ∧ W.cell? ⟨v1.heap.size, 1, none⟩ = some (.int .i64 y1.quota_) ∧ W.cell? ⟨v1.heap.size, 2, none⟩ = some (.int .i64 y1.next_) ∧ W.cell? ⟨v1.heap.size, 3, none⟩ = some (.slice y1.sets_.A y1.sets_.l.length y1.sets_.c) ∧ W.cell? ⟨v1.heap.size, 4, none⟩ = some (.slice y1.grants_.A y1.grants_.l.length y1.grants_.c) ∧ W.cell? ⟨v1.heap.size, 5, none⟩ = some (.slice y1.stages_.A y1.stages_.l.length y1.stages_.c) ∧ W.cell? ⟨v1.heap.size, 6, none⟩ = some (.slice y1.log_.A y1.log_.l.length y1.log_.c)) w2 := ⟨(hBf.cell (p := ⟨v1.heap.size, 0, none⟩) hlt).trans m0, (hBf.cell (p := ⟨v1.heap.size, 1, none⟩) hlt).trans m1, (hBf.cell (p := ⟨v1.heap.size, 2, none⟩) hlt).trans m2, (hBf.cell (p := ⟨v1.heap.size, 3, none⟩) hlt).trans m3, (hBf.cell (p := ⟨v1.heap.size, 4, none⟩) hlt).trans m4, (hBf.cell (p := ⟨v1.heap.size, 5, none⟩) hlt).trans m5, (hBf.cell (p := ⟨v1.heap.size, 6, none⟩) hlt).trans m6⟩
    refine wpAnyL_take 16 (i := 5) (oi := ⟨some 42, _, _, _, _, _⟩) (v := ?_) rfl (by kernel_rfl) (by kernel_rfl) (by kernel_rfl) (by kernel_rfl) (by kernel_rfl) (by kernel_rfl) (by kernel_rfl) (fun _ _ _ h => h) (Or.inl ⟨by rfl, ?_⟩) hHeld ?_
    rotate_left
    focus (intro w hSw; (try dsimp only at hSw); go_simp; try (with_reducible rfl))
    try simp only [Act.put, pA, pB, pC]
    refine wpAnyL_take 16 (i := 6) (oi := ⟨some 43, _, _, _, _, _⟩) (v := ?_) rfl (by kernel_rfl) (by kernel_rfl) (by kernel_rfl) (by kernel_rfl) (by kernel_rfl) (by kernel_rfl) (by kernel_rfl) (fun _ _ _ h => h) (Or.inl ⟨by rfl, ?_⟩) hHeld ?_
    rotate_left
    focus (intro w hSw; (try dsimp only at hSw); go_simp; try (with_reducible rfl))
    try simp only [Act.put, pA, pB, pC]
    refine wpAnyL_take 16 (i := 7) (oi := ⟨some 44, _, _, _, _, _⟩) (v := ?_) rfl (by kernel_rfl) (by kernel_rfl) (by kernel_rfl) (by kernel_rfl) (by kernel_rfl) (by kernel_rfl) (by kernel_rfl) (fun _ _ _ h => h) (Or.inl ⟨by rfl, ?_⟩) hHeld ?_
    rotate_left
    focus (intro w hSw; (try dsimp only at hSw); go_simp; try (with_reducible rfl))
    try simp only [Act.put, pA, pB, pC]
    refine wpAnyL_take 16 (i := 9) (oi := ⟨some 46, _, _, _, _, _⟩) (v := ?_) rfl (by kernel_rfl) (by kernel_rfl) (by kernel_rfl) (by kernel_rfl) (by kernel_rfl) (by kernel_rfl) (by kernel_rfl) (fun _ _ _ h => h) (Or.inl ⟨by rfl, ?_⟩) hHeld ?_
    rotate_left
    focus (intro w hSw; (try dsimp only at hSw); go_simp; try (with_reducible rfl))
    try simp only [Act.put, pA, pB, pC]
    refine wpAnyL_take 16 (i := 10) (oi := ⟨some 47, _, _, _, _, _⟩) (v := ?_) rfl (by kernel_rfl) (by kernel_rfl) (by kernel_rfl) (by kernel_rfl) (by kernel_rfl) (by kernel_rfl) (by kernel_rfl) (fun _ _ _ h => h) (Or.inl ⟨by rfl, ?_⟩) hHeld ?_
    rotate_left
    focus (intro w hSw; (try dsimp only at hSw); go_simp; try (with_reducible rfl))
    try simp only [Act.put, pA, pB, pC]
    refine wpAnyL_one (i := 8) (o := ⟨some 45, _, _, _, _, _⟩) (by kernel_rfl) rfl (fun K hK => ?_)
    clear hHeld
    rw [if_pos (by rfl)]
    go_simp
    refine (HCG.out _ hBw).mono ?_
    rintro e wk1_ ⟨rfl, hB4⟩
    have hBx : Below z3.heap.size z3 wk1_ := hBw.trans (hB4.mono hBw.size)
    refine hK.out _ _ ⟨(hBx.cell (p := ⟨v1.heap.size, 0, none⟩) hlt).trans m0, (hBx.cell (p := ⟨v1.heap.size, 1, none⟩) hlt).trans m1, (hBx.cell (p := ⟨v1.heap.size, 2, none⟩) hlt).trans m2, (hBx.cell (p := ⟨v1.heap.size, 3, none⟩) hlt).trans m3, (hBx.cell (p := ⟨v1.heap.size, 4, none⟩) hlt).trans m4, (hBx.cell (p := ⟨v1.heap.size, 5, none⟩) hlt).trans m5, (hBx.cell (p := ⟨v1.heap.size, 6, none⟩) hlt).trans m6⟩ (fun hHeld => ?_)
    clear hK K
    try simp only [Act.put, pA, pB, pC]
    refine wpAnyL_take 16 (i := 11) (oi := ⟨some 48, _, _, _, _, _⟩) (v := ?_) rfl (by kernel_rfl) (by kernel_rfl) (by kernel_rfl) (by kernel_rfl) (by kernel_rfl) (by kernel_rfl) (by kernel_rfl) (fun _ _ _ h => h) (Or.inl ⟨by rfl, ?_⟩) hHeld ?_
    rotate_left
    focus (intro w hSw; (try dsimp only at hSw); go_simp; try (with_reducible rfl))
    try simp only [Act.put, pA, pB, pC]
    refine wpAnyL_take 16 (i := 12) (oi := ⟨some 49, _, _, _, _, _⟩) (v := ?_) rfl (by kernel_rfl) (by kernel_rfl) (by kernel_rfl) (by kernel_rfl) (by kernel_rfl) (by kernel_rfl) (by kernel_rfl) (fun _ _ _ h => h) (Or.inl ⟨by rfl, ?_⟩) hHeld ?_
    rotate_left
    focus (intro w hSw; (try dsimp only at hSw); go_simp; try (with_reducible rfl))
    try simp only [Act.put, pA, pB, pC]
    refine wpAnyL_last (i := 13) (o := ⟨some 50, _, _, _, _, _⟩) (by kernel_rfl) rfl (by kernel_rfl) (fun K hK => ?_)
    go_simp
    refine hK.out _ _ ?_
    clear hK K
    try simp only [Act.put, pA, pB, pC]
    refine wpAnyL_done (by kernel_rfl) ?_ _
    refine NoPanic.normal ?_
    clear hle HCK HCG
    go_upto_region 8 with fail
    have hT0 := hTT.trans (hBx.mono hTT.size)
    clear kC m0 m1 m2 m3 m4 m5 m6 hlt hBx hBw
    by_cases he2 : E2 = 0
    · subst he2
      have hgc2 := hgz2.below hT0
      have kC := kY2.of hT0
      have hok2 := (HM2.out rfl).1
      have hch2 := (HM2.out rfl).2
      have HCK := Lib.hid (fun W (hW : Below wk1_.heap.size wk1_ W) => refCheck_any14 y2 W (hgc2.below hW) (tiny_of hok2))
      rw [hok2, if_pos rfl] at HCK
      have HCG := Lib.hid (fun W (hW : Below wk1_.heap.size wk1_ W) => refCharge_any y2 W (hgc2.below hW))
      rw [may_charge hok2] at HCG
      have hle : ¬ (y2.quota_ < (chgP y2.plain : Int)) := by
        have h9 : y2.plain.quota_ = y2.quota_ := rfl
        rw [h9] at hch2
        omega
      generalize (chgP y2.plain : Int) = C at *
      have hlt := kC.lt
      obtain ⟨m0, m1, m2, m3, m4, m5, m6⟩ := kC.all7
      refine wp_region_noPanic ?_
      refine wp_region_last 13 (fun W => W.cell? ⟨v2.heap.size, 0, none⟩ = some (.string y2.name_) ∧ W.cell? ⟨v2.heap.size, 1, none⟩ = some (.int .i64 y2.quota_) ∧ W.cell? ⟨v2.heap.size, 2, none⟩ = some (.int .i64 y2.next_) ∧ W.cell? ⟨v2.heap.size, 3, none⟩ = some (.slice y2.sets_.A y2.sets_.l.length y2.sets_.c) ∧ W.cell? ⟨v2.heap.size, 4, none⟩ = some (.slice y2.grants_.A y2.grants_.l.length y2.grants_.c) ∧ W.cell? ⟨v2.heap.size, 5, none⟩ = some (.slice y2.stages_.A y2.stages_.l.length y2.stages_.c) ∧ W.cell? ⟨v2.heap.size, 6, none⟩ = some (.slice y2.log_.A y2.log_.l.length y2.log_.c)) (by kernel_rfl) ⟨m0, m1, m2, m3, m4, m5, m6⟩ (fun hHeld => ?_)
      refine wpAnyL_take 16 (i := 0) (oi := ⟨some 51, _, _, _, _, _⟩) (v := ?_) rfl (by kernel_rfl) (by kernel_rfl) (by kernel_rfl) (by kernel_rfl) (by kernel_rfl) (by kernel_rfl) (by kernel_rfl) (fun _ _ _ h => h) (Or.inl ⟨by rfl, ?_⟩) hHeld ?_
      rotate_left
      focus (intro w hSw; (try dsimp only at hSw); go_simp; try (with_reducible rfl))
      try simp only [Act.put, pA, pB, pC]
      refine wpAnyL_take 16 (i := 1) (oi := ⟨some 52, _, _, _, _, _⟩) (v := ?_) rfl (by kernel_rfl) (by kernel_rfl) (by kernel_rfl) (by kernel_rfl) (by kernel_rfl) (by kernel_rfl) (by kernel_rfl) (fun _ _ _ h => h) (Or.inl ⟨by rfl, ?_⟩) hHeld ?_
      rotate_left
      focus (intro w hSw; (try dsimp only at hSw); go_simp; try (with_reducible rfl))
      try simp only [Act.put, pA, pB, pC]
      refine wpAnyL_take 16 (i := 2) (oi := ⟨some 53, _, _, _, _, _⟩) (v := ?_) rfl (by kernel_rfl) (by kernel_rfl) (by kernel_rfl) (by kernel_rfl) (by kernel_rfl) (by kernel_rfl) (by kernel_rfl) (fun _ _ _ h => h) (Or.inl ⟨by rfl, ?_⟩) hHeld ?_
      rotate_left
      focus (intro w hSw; (try dsimp only at hSw); go_simp; try (with_reducible rfl))
      try simp only [Act.put, pA, pB, pC]
      refine wpAnyL_take 16 (i := 3) (oi := ⟨some 54, _, _, _, _, _⟩) (v := ?_) rfl (by kernel_rfl) (by kernel_rfl) (by kernel_rfl) (by kernel_rfl) (by kernel_rfl) (by kernel_rfl) (by kernel_rfl) (fun _ _ _ h => h) (Or.inl ⟨by rfl, ?_⟩) hHeld ?_
      rotate_left
      focus (intro w hSw; (try dsimp only at hSw); go_simp; try (with_reducible rfl))
      try simp only [Act.put, pA, pB, pC]
      clear hHeld
      refine wpAnyL_facts 16 1 9 [(4, 55)] (fun s v w => match s with
        | 55 => v = .int .i64 0
        | _ => True) (fun w w' => Below w.heap.size w w') (by kernel_rfl) (by kernel_rfl) (fun w w' h h' => h.trans (h'.mono h.size)) ⟨?_, trivial⟩ (fun w' hB => ⟨(hB.cell (p := ⟨v2.heap.size, 0, none⟩) hlt).trans m0, (hB.cell (p := ⟨v2.heap.size, 1, none⟩) hlt).trans m1, (hB.cell (p := ⟨v2.heap.size, 2, none⟩) hlt).trans m2, (hB.cell (p := ⟨v2.heap.size, 3, none⟩) hlt).trans m3, (hB.cell (p := ⟨v2.heap.size, 4, none⟩) hlt).trans m4, (hB.cell (p := ⟨v2.heap.size, 5, none⟩) hlt).trans m5, (hB.cell (p := ⟨v2.heap.size, 6, none⟩) hlt).trans m6⟩) ⟨?_, trivial⟩ ?_
      focus
        intro v w w' h hB
        exact h
      focus
        intro vs w2 hBf hFf o ho K hK
        obtain rfl : (⟨some 55, _, _, _, _, _⟩ : Oper) = o := Option.some.inj ho
        clear ho
        (try simp only [fillL, List.foldl_cons, List.foldl_nil, Act.put, List.setIfInBounds_toArray, List.set_cons_zero, List.set_cons_succ] at hK ⊢)
        rw [if_pos (by rfl)]
        go_simp
        refine (HCK.out _ ((Below.refl wk1_.heap.size wk1_).drew.trans hBf)).mono ?_
        rintro e w3 ⟨rfl, hB3⟩
        refine hK.out _ _ ⟨rfl, hB3⟩
      intro vs w2 hBf hFf
      (try simp only [fillL, List.foldl_cons, List.foldl_nil, Act.put, List.setIfInBounds_toArray, List.set_cons_zero, List.set_cons_succ])
      have e41 : vs 55 = .int .i64 0 := (hFf (4, 55) (by simp))
      simp only [e41]
      have hBw : Below wk1_.heap.size wk1_ w2 := (Below.refl wk1_.heap.size wk1_).drew.trans hBf
      have hHeld : (fun W => W.cell? ⟨v2.heap.size, 0, none⟩ = some (.string y2.name_) ∧ W.cell? ⟨v2.heap.size, 1, none⟩ = some (.int .i64 y2.quota_) ∧ W.cell? ⟨v2.heap.size, 2, none⟩ = some (.int .i64 y2.next_) ∧ W.cell? ⟨v2.heap.size, 3, none⟩ = some (.slice y2.sets_.A y2.sets_.l.length y2.sets_.c) ∧ W.cell? ⟨v2.heap.size, 4, none⟩ = some (.slice y2.grants_.A y2.grants_.l.length y2.grants_.c) ∧ W.cell? ⟨v2.heap.size, 5, none⟩ = some (.slice y2.stages_.A y2.stages_.l.length y2.stages_.c) ∧ W.cell? ⟨v2.heap.size, 6, none⟩ = some (.slice y2.log_.A y2.log_.l.length y2.log_.c)) w2 := ⟨(hBf.cell (p := ⟨v2.heap.size, 0, none⟩) hlt).trans m0, (hBf.cell (p := ⟨v2.heap.size, 1, none⟩) hlt).trans m1, (hBf.cell (p := ⟨v2.heap.size, 2, none⟩) hlt).trans m2, (hBf.cell (p := ⟨v2.heap.size, 3, none⟩) hlt).trans m3, (hBf.cell (p := ⟨v2.heap.size, 4, none⟩) hlt).trans m4, (hBf.cell (p := ⟨v2.heap.size, 5, none⟩) hlt).trans m5, (hBf.cell (p := ⟨v2.heap.size, 6, none⟩) hlt).trans m6⟩
      refine wpAnyL_take 16 (i := 5) (oi := ⟨some 56, _, _, _, _, _⟩) (v := ?_) rfl (by kernel_rfl) (by kernel_rfl) (by kernel_rfl) (by kernel_rfl) (by kernel_rfl) (by kernel_rfl) (by kernel_rfl) (fun _ _ _ h => h) (Or.inl ⟨by rfl, ?_⟩) hHeld ?_
      rotate_left
      focus (intro w hSw; (try dsimp only at hSw); go_simp; try (with_reducible rfl))
      try simp only [Act.put, pA, pB, pC]
      refine wpAnyL_take 16 (i := 6) (oi := ⟨some 57, _, _, _, _, _⟩) (v := ?_) rfl (by kernel_rfl) (by kernel_rfl) (by kernel_rfl) (by kernel_rfl) (by kernel_rfl) (by kernel_rfl) (by kernel_rfl) (fun _ _ _ h => h) (Or.inl ⟨by rfl, ?_⟩) hHeld ?_
      rotate_left
      focus (intro w hSw; (try dsimp only at hSw); go_simp; try (with_reducible rfl))
      try simp only [Act.put, pA, pB, pC]
      refine wpAnyL_take 16 (i := 7) (oi := ⟨some 58, _, _, _, _, _⟩) (v := ?_) rfl (by kernel_rfl) (by kernel_rfl) (by kernel_rfl) (by kernel_rfl) (by kernel_rfl) (by kernel_rfl) (by kernel_rfl) (fun _ _ _ h => h) (Or.inl ⟨by rfl, ?_⟩) hHeld ?_
      rotate_left
      focus (intro w hSw; (try dsimp only at hSw); go_simp; try (with_reducible rfl))
      try simp only [Act.put, pA, pB, pC]
      refine wpAnyL_take 16 (i := 9) (oi := ⟨some 60, _, _, _, _, _⟩) (v := ?_) rfl (by kernel_rfl) (by kernel_rfl) (by kernel_rfl) (by kernel_rfl) (by kernel_rfl) (by kernel_rfl) (by kernel_rfl) (fun _ _ _ h => h) (Or.inl ⟨by rfl, ?_⟩) hHeld ?_
      rotate_left
      focus (intro w hSw; (try dsimp only at hSw); go_simp; try (with_reducible rfl))
      try simp only [Act.put, pA, pB, pC]
      refine wpAnyL_take 16 (i := 10) (oi := ⟨some 61, _, _, _, _, _⟩) (v := ?_) rfl (by kernel_rfl) (by kernel_rfl) (by kernel_rfl) (by kernel_rfl) (by kernel_rfl) (by kernel_rfl) (by kernel_rfl) (fun _ _ _ h => h) (Or.inl ⟨by rfl, ?_⟩) hHeld ?_
      rotate_left
      focus (intro w hSw; (try dsimp only at hSw); go_simp; try (with_reducible rfl))
      try simp only [Act.put, pA, pB, pC]
      refine wpAnyL_one (i := 8) (o := ⟨some 59, _, _, _, _, _⟩) (by kernel_rfl) rfl (fun K hK => ?_)
      clear hHeld
      rw [if_pos (by rfl)]
      go_simp
      refine (HCG.out _ hBw).mono ?_
      rintro e wk2_ ⟨rfl, hB4⟩
      have hBx : Below wk1_.heap.size wk1_ wk2_ := hBw.trans (hB4.mono hBw.size)
      refine hK.out _ _ ⟨(hBx.cell (p := ⟨v2.heap.size, 0, none⟩) hlt).trans m0, (hBx.cell (p := ⟨v2.heap.size, 1, none⟩) hlt).trans m1, (hBx.cell (p := ⟨v2.heap.size, 2, none⟩) hlt).trans m2, (hBx.cell (p := ⟨v2.heap.size, 3, none⟩) hlt).trans m3, (hBx.cell (p := ⟨v2.heap.size, 4, none⟩) hlt).trans m4, (hBx.cell (p := ⟨v2.heap.size, 5, none⟩) hlt).trans m5, (hBx.cell (p := ⟨v2.heap.size, 6, none⟩) hlt).trans m6⟩ (fun hHeld => ?_)
      clear hK K
      try simp only [Act.put, pA, pB, pC]
      refine wpAnyL_take 16 (i := 11) (oi := ⟨some 62, _, _, _, _, _⟩) (v := ?_) rfl (by kernel_rfl) (by kernel_rfl) (by kernel_rfl) (by kernel_rfl) (by kernel_rfl) (by kernel_rfl) (by kernel_rfl) (fun _ _ _ h => h) (Or.inl ⟨by rfl, ?_⟩) hHeld ?_
      rotate_left
      focus (intro w hSw; (try dsimp only at hSw); go_simp; try (with_reducible rfl))
      try simp only [Act.put, pA, pB, pC]
      refine wpAnyL_take 16 (i := 12) (oi := ⟨some 63, _, _, _, _, _⟩) (v := ?_) rfl (by kernel_rfl) (by kernel_rfl) (by kernel_rfl) (by kernel_rfl) (by kernel_rfl) (by kernel_rfl) (by kernel_rfl) (fun _ _ _ h => h) (Or.inl ⟨by rfl, ?_⟩) hHeld ?_
      rotate_left
      focus (intro w hSw; (try dsimp only at hSw); go_simp; try (with_reducible rfl))
      try simp only [Act.put, pA, pB, pC]
      refine wpAnyL_last (i := 13) (o := ⟨some 64, _, _, _, _, _⟩) (by kernel_rfl) rfl (by kernel_rfl) (fun K hK => ?_)
      go_simp
      refine hK.out _ _ ?_
      clear hK K
      try simp only [Act.put, pA, pB, pC]
      refine wpAnyL_done (by kernel_rfl) ?_ _
      refine NoPanic.normal ?_
      clear hle HCK HCG
      go_upto_region 10 with fail
      have hT1 := hT0.trans (hBx.mono hT0.size)
      clear kC m0 m1 m2 m3 m4 m5 m6 hlt hBx hBw
      by_cases he3 : E3 = 0
      · subst he3
        have hgc3 := hgz3.below hT1
        have hgx := HGX.out.below (hU3.trans (hT1.mono hU3.size))
        have kC := kY3.of hT1
        have kX := kx3.of hT1
        have hok3 := (HM3.out rfl).1
        have hch3 := (HM3.out rfl).2.1
        have hokx := (HM3.out rfl).2.2
        have HCK := Lib.hid (fun W (hW : Below wk2_.heap.size wk2_ W) => refCheck_any14 y3 W (hgc3.below hW) (tiny_of hok3))
        rw [hok3, if_pos rfl] at HCK
        have HCG := Lib.hid (fun W (hW : Below wk2_.heap.size wk2_ W) => refCharge_any y3 W (hgc3.below hW))
        rw [may_charge hok3] at HCG
        have HCX := Lib.hid (fun W (hW : Below wk2_.heap.size wk2_ W) => refCharge_any x W (hgx.below hW))
        rw [may_charge hokx] at HCX
        have hle : (chgP y3.plain : Int) ≤ (chgP x.plain : Int) := by omega
        generalize (chgP y3.plain : Int) = C at *
        generalize (chgP x.plain : Int) = CX at *
        have hlt := kC.lt
        have hltx := kX.lt
        obtain ⟨m0, m1, m2, m3, m4, m5, m6⟩ := kC.all7
        obtain ⟨n0, n1, n2, n3, n4, n5, n6⟩ := kX.all7
        refine wp_region_noPanic ?_
        refine wp_region_last 11 (fun W => W.cell? ⟨v3.heap.size, 0, none⟩ = some (.string y3.name_) ∧ W.cell? ⟨v3.heap.size, 1, none⟩ = some (.int .i64 y3.quota_) ∧ W.cell? ⟨v3.heap.size, 2, none⟩ = some (.int .i64 y3.next_) ∧ W.cell? ⟨v3.heap.size, 3, none⟩ = some (.slice y3.sets_.A y3.sets_.l.length y3.sets_.c) ∧ W.cell? ⟨v3.heap.size, 4, none⟩ = some (.slice y3.grants_.A y3.grants_.l.length y3.grants_.c) ∧ W.cell? ⟨v3.heap.size, 5, none⟩ = some (.slice y3.stages_.A y3.stages_.l.length y3.stages_.c) ∧ W.cell? ⟨v3.heap.size, 6, none⟩ = some (.slice y3.log_.A y3.log_.l.length y3.log_.c) ∧ W.cell? ⟨w.heap.size, 0, none⟩ = some (.string x.name_) ∧ W.cell? ⟨w.heap.size, 1, none⟩ = some (.int .i64 x.quota_) ∧ W.cell? ⟨w.heap.size, 2, none⟩ = some (.int .i64 x.next_) ∧ W.cell? ⟨w.heap.size, 3, none⟩ = some (.slice x.sets_.A x.sets_.l.length x.sets_.c) ∧ W.cell? ⟨w.heap.size, 4, none⟩ = some (.slice x.grants_.A x.grants_.l.length x.grants_.c) ∧ W.cell? ⟨w.heap.size, 5, none⟩ = some (.slice x.stages_.A x.stages_.l.length x.stages_.c) ∧ W.cell? ⟨w.heap.size, 6, none⟩ = some (.slice x.log_.A x.log_.l.length x.log_.c)) (by kernel_rfl) ⟨m0, m1, m2, m3, m4, m5, m6, n0, n1, n2, n3, n4, n5, n6⟩ (fun hHeld => ?_)
        refine wpAnyL_take 16 (i := 0) (oi := ⟨some 65, _, _, _, _, _⟩) (v := ?_) rfl (by kernel_rfl) (by kernel_rfl) (by kernel_rfl) (by kernel_rfl) (by kernel_rfl) (by kernel_rfl) (by kernel_rfl) (fun _ _ _ h => h) (Or.inl ⟨by rfl, ?_⟩) hHeld ?_
        rotate_left
        focus (intro w hSw; (try dsimp only at hSw); go_simp; try (with_reducible rfl))
        try simp only [Act.put, pA, pB, pC]
        refine wpAnyL_take 16 (i := 1) (oi := ⟨some 66, _, _, _, _, _⟩) (v := ?_) rfl (by kernel_rfl) (by kernel_rfl) (by kernel_rfl) (by kernel_rfl) (by kernel_rfl) (by kernel_rfl) (by kernel_rfl) (fun _ _ _ h => h) (Or.inl ⟨by rfl, ?_⟩) hHeld ?_
        rotate_left
        focus (intro w hSw; (try dsimp only at hSw); go_simp; try (with_reducible rfl))
        try simp only [Act.put, pA, pB, pC]
        refine wpAnyL_take 16 (i := 2) (oi := ⟨some 67, _, _, _, _, _⟩) (v := ?_) rfl (by kernel_rfl) (by kernel_rfl) (by kernel_rfl) (by kernel_rfl) (by kernel_rfl) (by kernel_rfl) (by kernel_rfl) (fun _ _ _ h => h) (Or.inl ⟨by rfl, ?_⟩) hHeld ?_
        rotate_left
        focus (intro w hSw; (try dsimp only at hSw); go_simp; try (with_reducible rfl))
        try simp only [Act.put, pA, pB, pC]
        refine wpAnyL_take 16 (i := 3) (oi := ⟨some 68, _, _, _, _, _⟩) (v := ?_) rfl (by kernel_rfl) (by kernel_rfl) (by kernel_rfl) (by kernel_rfl) (by kernel_rfl) (by kernel_rfl) (by kernel_rfl) (fun _ _ _ h => h) (Or.inl ⟨by rfl, ?_⟩) hHeld ?_
        rotate_left
        focus (intro w hSw; (try dsimp only at hSw); go_simp; try (with_reducible rfl))
        try simp only [Act.put, pA, pB, pC]
        clear hHeld
        refine wpAnyL_facts 16 7 4 [(4, 69), (5, 70), (6, 71), (7, 72), (8, 73), (9, 74), (10, 75)] (fun s v w => match s with
          | 69 => v = .int .i64 0
          | 70 => v = .bool true
          | 71 => v = .bool true
          | 72 => v = .agg y3.cells.toArray
          | 73 => v = .int .i64 C
          | 74 => v = .agg x.cells.toArray
          | 75 => v = .int .i64 CX
          | _ => True) (fun w w' => Below w.heap.size w w') (by kernel_rfl) (by kernel_rfl) (fun w w' h h' => h.trans (h'.mono h.size)) ⟨?_, ?_, ?_, ?_, ?_, ?_, ?_, trivial⟩ (fun w' hB => ⟨(hB.cell (p := ⟨v3.heap.size, 0, none⟩) hlt).trans m0, (hB.cell (p := ⟨v3.heap.size, 1, none⟩) hlt).trans m1, (hB.cell (p := ⟨v3.heap.size, 2, none⟩) hlt).trans m2, (hB.cell (p := ⟨v3.heap.size, 3, none⟩) hlt).trans m3, (hB.cell (p := ⟨v3.heap.size, 4, none⟩) hlt).trans m4, (hB.cell (p := ⟨v3.heap.size, 5, none⟩) hlt).trans m5, (hB.cell (p := ⟨v3.heap.size, 6, none⟩) hlt).trans m6, (hB.cell (p := ⟨w.heap.size, 0, none⟩) hltx).trans n0, (hB.cell (p := ⟨w.heap.size, 1, none⟩) hltx).trans n1, (hB.cell (p := ⟨w.heap.size, 2, none⟩) hltx).trans n2, (hB.cell (p := ⟨w.heap.size, 3, none⟩) hltx).trans n3, (hB.cell (p := ⟨w.heap.size, 4, none⟩) hltx).trans n4, (hB.cell (p := ⟨w.heap.size, 5, none⟩) hltx).trans n5, (hB.cell (p := ⟨w.heap.size, 6, none⟩) hltx).trans n6⟩) ⟨?_, ?_, ?_, ?_, ?_, ?_, ?_, trivial⟩ ?_
        focus
          intro v w w' h hB
          exact h
        focus
          intro v w w' h hB
          exact h
        focus
          intro v w w' h hB
          exact h
        focus
          intro v w w' h hB
          exact h
        focus
          intro v w w' h hB
          exact h
        focus
          intro v w w' h hB
          exact h
        focus
          intro v w w' h hB
          exact h
        focus
          intro vs w2 hBf hFf o ho K hK
          obtain rfl : (⟨some 69, _, _, _, _, _⟩ : Oper) = o := Option.some.inj ho
          clear ho
          (try simp only [fillL, List.foldl_cons, List.foldl_nil, Act.put, List.setIfInBounds_toArray, List.set_cons_zero, List.set_cons_succ] at hK ⊢)
          rw [if_pos (by rfl)]
          go_simp
          refine (HCK.out _ ((Below.refl wk2_.heap.size wk2_).drew.trans hBf)).mono ?_
          rintro e w3 ⟨rfl, hB3⟩
          refine hK.out _ _ ⟨rfl, hB3⟩
        focus
          intro vs w2 hBf hFf o ho K hK
          obtain rfl : (⟨some 70, _, _, _, _, _⟩ : Oper) = o := Option.some.inj ho
          clear ho
          (try simp only [fillL, List.foldl_cons, List.foldl_nil, Act.put, List.setIfInBounds_toArray, List.set_cons_zero, List.set_cons_succ] at hK ⊢)
          have e69 := (hFf (4, 69) (by simp) (by kernel_rfl))
          simp only [] at e69
          simp only [e69] at hK ⊢
          rw [if_pos (by rfl)]
          go_simp
          exact hK.out _ _ ⟨rfl, Below.refl _ _⟩
        focus
          intro vs w2 hBf hFf o ho K hK
          obtain rfl : (⟨some 71, _, _, _, _, _⟩ : Oper) = o := Option.some.inj ho
          clear ho
          (try simp only [fillL, List.foldl_cons, List.foldl_nil, Act.put, List.setIfInBounds_toArray, List.set_cons_zero, List.set_cons_succ] at hK ⊢)
          have e70 := (hFf (5, 70) (by simp) (by kernel_rfl))
          simp only [] at e70
          simp only [e70] at hK ⊢
          rw [if_pos (by rfl)]
          go_simp
          exact hK.out _ _ ⟨rfl, Below.refl _ _⟩
        focus
          intro vs w2 hBf hFf o ho K hK
          obtain rfl : (⟨some 72, _, _, _, _, _⟩ : Oper) = o := Option.some.inj ho
          clear ho
          (try simp only [fillL, List.foldl_cons, List.foldl_nil, Act.put, List.setIfInBounds_toArray, List.set_cons_zero, List.set_cons_succ] at hK ⊢)
          have e71 := (hFf (6, 71) (by simp) (by kernel_rfl))
          simp only [] at e71
          simp only [e71] at hK ⊢
          rw [if_pos (by rfl)]
          have h0_ := (((Below.refl wk2_.heap.size wk2_).drew.trans hBf).cell (p := ⟨v3.heap.size, 0, none⟩) hlt).trans m0
          have h1_ := (((Below.refl wk2_.heap.size wk2_).drew.trans hBf).cell (p := ⟨v3.heap.size, 1, none⟩) hlt).trans m1
          have h2_ := (((Below.refl wk2_.heap.size wk2_).drew.trans hBf).cell (p := ⟨v3.heap.size, 2, none⟩) hlt).trans m2
          have h3_ := (((Below.refl wk2_.heap.size wk2_).drew.trans hBf).cell (p := ⟨v3.heap.size, 3, none⟩) hlt).trans m3
          have h4_ := (((Below.refl wk2_.heap.size wk2_).drew.trans hBf).cell (p := ⟨v3.heap.size, 4, none⟩) hlt).trans m4
          have h5_ := (((Below.refl wk2_.heap.size wk2_).drew.trans hBf).cell (p := ⟨v3.heap.size, 5, none⟩) hlt).trans m5
          have h6_ := (((Below.refl wk2_.heap.size wk2_).drew.trans hBf).cell (p := ⟨v3.heap.size, 6, none⟩) hlt).trans m6
          go_simp
          exact hK.out _ _ ⟨rfl, Below.refl _ _⟩
        focus
          intro vs w2 hBf hFf o ho K hK
          obtain rfl : (⟨some 73, _, _, _, _, _⟩ : Oper) = o := Option.some.inj ho
          clear ho
          (try simp only [fillL, List.foldl_cons, List.foldl_nil, Act.put, List.setIfInBounds_toArray, List.set_cons_zero, List.set_cons_succ] at hK ⊢)
          have e71 := (hFf (6, 71) (by simp) (by kernel_rfl))
          have e72 := (hFf (7, 72) (by simp) (by kernel_rfl))
          simp only [] at e71 e72
          simp only [e71, e72] at hK ⊢
          rw [if_pos (by rfl)]
          go_simp
          refine (HCG.out _ ((Below.refl wk2_.heap.size wk2_).drew.trans hBf)).mono ?_
          rintro e w3 ⟨rfl, hB3⟩
          exact hK.out _ _ ⟨rfl, hB3⟩
        focus
          intro vs w2 hBf hFf o ho K hK
          obtain rfl : (⟨some 74, _, _, _, _, _⟩ : Oper) = o := Option.some.inj ho
          clear ho
          (try simp only [fillL, List.foldl_cons, List.foldl_nil, Act.put, List.setIfInBounds_toArray, List.set_cons_zero, List.set_cons_succ] at hK ⊢)
          have e71 := (hFf (6, 71) (by simp) (by kernel_rfl))
          simp only [] at e71
          simp only [e71] at hK ⊢
          rw [if_pos (by rfl)]
          have h0_ := (((Below.refl wk2_.heap.size wk2_).drew.trans hBf).cell (p := ⟨w.heap.size, 0, none⟩) hltx).trans n0
          have h1_ := (((Below.refl wk2_.heap.size wk2_).drew.trans hBf).cell (p := ⟨w.heap.size, 1, none⟩) hltx).trans n1
          have h2_ := (((Below.refl wk2_.heap.size wk2_).drew.trans hBf).cell (p := ⟨w.heap.size, 2, none⟩) hltx).trans n2
          have h3_ := (((Below.refl wk2_.heap.size wk2_).drew.trans hBf).cell (p := ⟨w.heap.size, 3, none⟩) hltx).trans n3
          have h4_ := (((Below.refl wk2_.heap.size wk2_).drew.trans hBf).cell (p := ⟨w.heap.size, 4, none⟩) hltx).trans n4
          have h5_ := (((Below.refl wk2_.heap.size wk2_).drew.trans hBf).cell (p := ⟨w.heap.size, 5, none⟩) hltx).trans n5
          have h6_ := (((Below.refl wk2_.heap.size wk2_).drew.trans hBf).cell (p := ⟨w.heap.size, 6, none⟩) hltx).trans n6
          go_simp
          exact hK.out _ _ ⟨rfl, Below.refl _ _⟩
        focus
          intro vs w2 hBf hFf o ho K hK
          obtain rfl : (⟨some 75, _, _, _, _, _⟩ : Oper) = o := Option.some.inj ho
          clear ho
          (try simp only [fillL, List.foldl_cons, List.foldl_nil, Act.put, List.setIfInBounds_toArray, List.set_cons_zero, List.set_cons_succ] at hK ⊢)
          have e71 := (hFf (6, 71) (by simp) (by kernel_rfl))
          have e74 := (hFf (9, 74) (by simp) (by kernel_rfl))
          simp only [] at e71 e74
          simp only [e71, e74] at hK ⊢
          rw [if_pos (by rfl)]
          go_simp
          refine (HCX.out _ ((Below.refl wk2_.heap.size wk2_).drew.trans hBf)).mono ?_
          rintro e w3 ⟨rfl, hB3⟩
          exact hK.out _ _ ⟨rfl, hB3⟩
        intro vs w2 hBf hFf
        (try simp only [fillL, List.foldl_cons, List.foldl_nil, Act.put, List.setIfInBounds_toArray, List.set_cons_zero, List.set_cons_succ])
        have e69 := (hFf (4, 69) (by simp))
        have e70 := (hFf (5, 70) (by simp))
        have e71 := (hFf (6, 71) (by simp))
        have e72 := (hFf (7, 72) (by simp))
        have e73 := (hFf (8, 73) (by simp))
        have e74 := (hFf (9, 74) (by simp))
        have e75 := (hFf (10, 75) (by simp))
        simp only [] at e69 e70 e71 e72 e73 e74 e75
        simp only [e69, e70, e71, e72, e73, e74, e75]
        have hBw : Below wk2_.heap.size wk2_ w2 := ((Below.refl wk2_.heap.size wk2_).drew.trans hBf)
        refine wpAnyL_last (i := 11) (o := ⟨some 76, _, _, _, _, _⟩) (by kernel_rfl) rfl (by kernel_rfl) (fun K hK => ?_)
        go_simp
        refine hK.out _ _ ?_
        clear hK K
        try simp only [Act.put, pA, pB, pC]
        refine wpAnyL_last (i := 12) (o := ⟨some 77, _, _, _, _, _⟩) (by kernel_rfl) rfl (by kernel_rfl) (fun K hK => ?_)
        go_simp
        refine hK.out _ _ ?_
        clear hK K
        try simp only [Act.put, pA, pB, pC]
        refine wpAnyL_last (i := 13) (o := ⟨some 78, _, _, _, _, _⟩) (by kernel_rfl) rfl (by kernel_rfl) (fun K hK => ?_)
        go_simp
        refine hK.out _ _ ?_
        clear hK K
        try simp only [Act.put, pA, pB, pC]
        refine wpAnyL_last (i := 14) (o := ⟨some 8, _, _, _, _, _⟩) (by kernel_rfl) rfl (by kernel_rfl) (fun K hK => ?_)
        go_simp
        refine hK.out _ _ ?_
        clear hK K
        try simp only [Act.put, pA, pB, pC]
        refine wpAnyL_done (by kernel_rfl) ?_ _
        refine NoPanic.normal ?_
        go_wp2
        go_ret
        exact ⟨rfl, hB1.trans ((hU3.trans ((hT1.trans (hBw.mono hT1.size)).mono hU3.size)).mono hs1)⟩
      · have qe1 : (E3 == 0) = false := beq_eq_false_iff_ne.2 he3
        have qe2 : (E3 != 0) = true := bne_iff_ne.2 he3
        have qe3 : (!(E3 == 0)) = true := by rw [qe1]; rfl
        go_wp2_with (go_big_quiet (fail))
        go_ret
        first
          | exact ⟨rfl, hB1.trans ((hU3.trans (hT1.mono hU3.size)).mono hs1)⟩
          | exact ⟨rfl, hB1.trans ((hU3.trans ((hT1.trans ((belowDrewN wk2_ _ _).mono hT1.size)).mono hU3.size)).mono hs1)⟩
    · have qe2 : (E2 == 0) = false := beq_eq_false_iff_ne.2 he2
      go_upto_region 10 with (go_big_quiet (fail))
      generalize hv1 : World.drewN wk1_ _ = d1_
      have hB1_ : Below wk1_.heap.size wk1_ d1_ := hv1 ▸ belowDrewN wk1_ _ _
      have hT1 := hT0.trans (hB1_.mono hT0.size)
      clear hv1
      by_cases he3 : E3 = 0
      · subst he3
        have hgc3 := hgz3.below hT1
        have hgx := HGX.out.below (hU3.trans (hT1.mono hU3.size))
        have kC := kY3.of hT1
        have kX := kx3.of hT1
        have hok3 := (HM3.out rfl).1
        have hch3 := (HM3.out rfl).2.1
        have hokx := (HM3.out rfl).2.2
        have HCK := Lib.hid (fun W (hW : Below d1_.heap.size d1_ W) => refCheck_any14 y3 W (hgc3.below hW) (tiny_of hok3))
        rw [hok3, if_pos rfl] at HCK
        have HCG := Lib.hid (fun W (hW : Below d1_.heap.size d1_ W) => refCharge_any y3 W (hgc3.below hW))
        rw [may_charge hok3] at HCG
        have HCX := Lib.hid (fun W (hW : Below d1_.heap.size d1_ W) => refCharge_any x W (hgx.below hW))
        rw [may_charge hokx] at HCX
        have hle : (chgP y3.plain : Int) ≤ (chgP x.plain : Int) := by omega
        generalize (chgP y3.plain : Int) = C at *
        generalize (chgP x.plain : Int) = CX at *
        have hlt := kC.lt
        have hltx := kX.lt
        obtain ⟨m0, m1, m2, m3, m4, m5, m6⟩ := kC.all7
        obtain ⟨n0, n1, n2, n3, n4, n5, n6⟩ := kX.all7
        refine wp_region_noPanic ?_
        refine wp_region_last 11 (fun W => W.cell? ⟨v3.heap.size, 0, none⟩ = some (.string y3.name_) ∧ W.cell? ⟨v3.heap.size, 1, none⟩ = some (.int .i64 y3.quota_) ∧ W.cell? ⟨v3.heap.size, 2, none⟩ = some (.int .i64 y3.next_) ∧ W.cell? ⟨v3.heap.size, 3, none⟩ = some (.slice y3.sets_.A y3.sets_.l.length y3.sets_.c) ∧ W.cell? ⟨v3.heap.size, 4, none⟩ = some (.slice y3.grants_.A y3.grants_.l.length y3.grants_.c) ∧ W.cell? ⟨v3.heap.size, 5, none⟩ = some (.slice y3.stages_.A y3.stages_.l.length y3.stages_.c) ∧ W.cell? ⟨v3.heap.size, 6, none⟩ = some (.slice y3.log_.A y3.log_.l.length y3.log_.c) ∧ W.cell? ⟨w.heap.size, 0, none⟩ = some (.string x.name_) ∧ W.cell? ⟨w.heap.size, 1, none⟩ = some (.int .i64 x.quota_) ∧ W.cell? ⟨w.heap.size, 2, none⟩ = some (.int .i64 x.next_) ∧ W.cell? ⟨w.heap.size, 3, none⟩ = some (.slice x.sets_.A x.sets_.l.length x.sets_.c) ∧ W.cell? ⟨w.heap.size, 4, none⟩ = some (.slice x.grants_.A x.grants_.l.length x.grants_.c) ∧ W.cell? ⟨w.heap.size, 5, none⟩ = some (.slice x.stages_.A x.stages_.l.length x.stages_.c) ∧ W.cell? ⟨w.heap.size, 6, none⟩ = some (.slice x.log_.A x.log_.l.length x.log_.c)) (by kernel_rfl) ⟨m0, m1, m2, m3, m4, m5, m6, n0, n1, n2, n3, n4, n5, n6⟩ (fun hHeld => ?_)
        refine wpAnyL_take 16 (i := 0) (oi := ⟨some 65, _, _, _, _, _⟩) (v := ?_) rfl (by kernel_rfl) (by kernel_rfl) (by kernel_rfl) (by kernel_rfl) (by kernel_rfl) (by kernel_rfl) (by kernel_rfl) (fun _ _ _ h => h) (Or.inl ⟨by rfl, ?_⟩) hHeld ?_
        rotate_left
        focus (intro w hSw; (try dsimp only at hSw); go_simp; try (with_reducible rfl))
        try simp only [Act.put, pA, pB, pC]
        refine wpAnyL_take 16 (i := 1) (oi := ⟨some 66, _, _, _, _, _⟩) (v := ?_) rfl (by kernel_rfl) (by kernel_rfl) (by kernel_rfl) (by kernel_rfl) (by kernel_rfl) (by kernel_rfl) (by kernel_rfl) (fun _ _ _ h => h) (Or.inl ⟨by rfl, ?_⟩) hHeld ?_
        rotate_left
        focus (intro w hSw; (try dsimp only at hSw); go_simp; try (with_reducible rfl))
        try simp only [Act.put, pA, pB, pC]
        refine wpAnyL_take 16 (i := 2) (oi := ⟨some 67, _, _, _, _, _⟩) (v := ?_) rfl (by kernel_rfl) (by kernel_rfl) (by kernel_rfl) (by kernel_rfl) (by kernel_rfl) (by kernel_rfl) (by kernel_rfl) (fun _ _ _ h => h) (Or.inl ⟨by rfl, ?_⟩) hHeld ?_
        rotate_left
        focus (intro w hSw; (try dsimp only at hSw); go_simp; try (with_reducible rfl))
        try simp only [Act.put, pA, pB, pC]
        refine wpAnyL_take 16 (i := 3) (oi := ⟨some 68, _, _, _, _, _⟩) (v := ?_) rfl (by kernel_rfl) (by kernel_rfl) (by kernel_rfl) (by kernel_rfl) (by kernel_rfl) (by kernel_rfl) (by kernel_rfl) (fun _ _ _ h => h) (Or.inl ⟨by rfl, ?_⟩) hHeld ?_
        rotate_left
        focus (intro w hSw; (try dsimp only at hSw); go_simp; try (with_reducible rfl))
        try simp only [Act.put, pA, pB, pC]
        clear hHeld
        refine wpAnyL_facts 16 7 4 [(4, 69), (5, 70), (6, 71), (7, 72), (8, 73), (9, 74), (10, 75)] (fun s v w => match s with
          | 69 => v = .int .i64 0
          | 70 => v = .bool true
          | 71 => v = .bool true
          | 72 => v = .agg y3.cells.toArray
          | 73 => v = .int .i64 C
          | 74 => v = .agg x.cells.toArray
          | 75 => v = .int .i64 CX
          | _ => True) (fun w w' => Below w.heap.size w w') (by kernel_rfl) (by kernel_rfl) (fun w w' h h' => h.trans (h'.mono h.size)) ⟨?_, ?_, ?_, ?_, ?_, ?_, ?_, trivial⟩ (fun w' hB => ⟨(hB.cell (p := ⟨v3.heap.size, 0, none⟩) hlt).trans m0, (hB.cell (p := ⟨v3.heap.size, 1, none⟩) hlt).trans m1, (hB.cell (p := ⟨v3.heap.size, 2, none⟩) hlt).trans m2, (hB.cell (p := ⟨v3.heap.size, 3, none⟩) hlt).trans m3, (hB.cell (p := ⟨v3.heap.size, 4, none⟩) hlt).trans m4, (hB.cell (p := ⟨v3.heap.size, 5, none⟩) hlt).trans m5, (hB.cell (p := ⟨v3.heap.size, 6, none⟩) hlt).trans m6, (hB.cell (p := ⟨w.heap.size, 0, none⟩) hltx).trans n0, (hB.cell (p := ⟨w.heap.size, 1, none⟩) hltx).trans n1, (hB.cell (p := ⟨w.heap.size, 2, none⟩) hltx).trans n2, (hB.cell (p := ⟨w.heap.size, 3, none⟩) hltx).trans n3, (hB.cell (p := ⟨w.heap.size, 4, none⟩) hltx).trans n4, (hB.cell (p := ⟨w.heap.size, 5, none⟩) hltx).trans n5, (hB.cell (p := ⟨w.heap.size, 6, none⟩) hltx).trans n6⟩) ⟨?_, ?_, ?_, ?_, ?_, ?_, ?_, trivial⟩ ?_
        focus
          intro v w w' h hB
          exact h
        focus
          intro v w w' h hB
          exact h
        focus
          intro v w w' h hB
          exact h
        focus
          intro v w w' h hB
          exact h
        focus
          intro v w w' h hB
          exact h
        focus
          intro v w w' h hB
          exact h
        focus
          intro v w w' h hB
          exact h
        focus
          intro vs w2 hBf hFf o ho K hK
          obtain rfl : (⟨some 69, _, _, _, _, _⟩ : Oper) = o := Option.some.inj ho
          clear ho
          (try simp only [fillL, List.foldl_cons, List.foldl_nil, Act.put, List.setIfInBounds_toArray, List.set_cons_zero, List.set_cons_succ] at hK ⊢)
          rw [if_pos (by rfl)]
          go_simp
          refine (HCK.out _ ((Below.refl d1_.heap.size d1_).drew.trans hBf)).mono ?_
          rintro e w3 ⟨rfl, hB3⟩
          refine hK.out _ _ ⟨rfl, hB3⟩
        focus
          intro vs w2 hBf hFf o ho K hK
          obtain rfl : (⟨some 70, _, _, _, _, _⟩ : Oper) = o := Option.some.inj ho
          clear ho
          (try simp only [fillL, List.foldl_cons, List.foldl_nil, Act.put, List.setIfInBounds_toArray, List.set_cons_zero, List.set_cons_succ] at hK ⊢)
          have e69 := (hFf (4, 69) (by simp) (by kernel_rfl))
          simp only [] at e69
          simp only [e69] at hK ⊢
          rw [if_pos (by rfl)]
          go_simp
          exact hK.out _ _ ⟨rfl, Below.refl _ _⟩
        focus
          intro vs w2 hBf hFf o ho K hK
          obtain rfl : (⟨some 71, _, _, _, _, _⟩ : Oper) = o := Option.some.inj ho
          clear ho
          (try simp only [fillL, List.foldl_cons, List.foldl_nil, Act.put, List.setIfInBounds_toArray, List.set_cons_zero, List.set_cons_succ] at hK ⊢)
          have e70 := (hFf (5, 70) (by simp) (by kernel_rfl))
          simp only [] at e70
          simp only [e70] at hK ⊢
          rw [if_pos (by rfl)]
          go_simp
          exact hK.out _ _ ⟨rfl, Below.refl _ _⟩
        focus
          intro vs w2 hBf hFf o ho K hK
          obtain rfl : (⟨some 72, _, _, _, _, _⟩ : Oper) = o := Option.some.inj ho
          clear ho
          (try simp only [fillL, List.foldl_cons, List.foldl_nil, Act.put, List.setIfInBounds_toArray, List.set_cons_zero, List.set_cons_succ] at hK ⊢)
          have e71 := (hFf (6, 71) (by simp) (by kernel_rfl))
          simp only [] at e71
          simp only [e71] at hK ⊢
          rw [if_pos (by rfl)]
          have h0_ := (((Below.refl d1_.heap.size d1_).drew.trans hBf).cell (p := ⟨v3.heap.size, 0, none⟩) hlt).trans m0
          have h1_ := (((Below.refl d1_.heap.size d1_).drew.trans hBf).cell (p := ⟨v3.heap.size, 1, none⟩) hlt).trans m1
          have h2_ := (((Below.refl d1_.heap.size d1_).drew.trans hBf).cell (p := ⟨v3.heap.size, 2, none⟩) hlt).trans m2
          have h3_ := (((Below.refl d1_.heap.size d1_).drew.trans hBf).cell (p := ⟨v3.heap.size, 3, none⟩) hlt).trans m3
          have h4_ := (((Below.refl d1_.heap.size d1_).drew.trans hBf).cell (p := ⟨v3.heap.size, 4, none⟩) hlt).trans m4
          have h5_ := (((Below.refl d1_.heap.size d1_).drew.trans hBf).cell (p := ⟨v3.heap.size, 5, none⟩) hlt).trans m5
          have h6_ := (((Below.refl d1_.heap.size d1_).drew.trans hBf).cell (p := ⟨v3.heap.size, 6, none⟩) hlt).trans m6
          go_simp
          exact hK.out _ _ ⟨rfl, Below.refl _ _⟩
        focus
          intro vs w2 hBf hFf o ho K hK
          obtain rfl : (⟨some 73, _, _, _, _, _⟩ : Oper) = o := Option.some.inj ho
          clear ho
          (try simp only [fillL, List.foldl_cons, List.foldl_nil, Act.put, List.setIfInBounds_toArray, List.set_cons_zero, List.set_cons_succ] at hK ⊢)
          have e71 := (hFf (6, 71) (by simp) (by kernel_rfl))
          have e72 := (hFf (7, 72) (by simp) (by kernel_rfl))
          simp only [] at e71 e72
          simp only [e71, e72] at hK ⊢
          rw [if_pos (by rfl)]
          go_simp
          refine (HCG.out _ ((Below.refl d1_.heap.size d1_).drew.trans hBf)).mono ?_
          rintro e w3 ⟨rfl, hB3⟩
          exact hK.out _ _ ⟨rfl, hB3⟩
        focus
          intro vs w2 hBf hFf o ho K hK
          obtain rfl : (⟨some 74, _, _, _, _, _⟩ : Oper) = o := Option.some.inj ho
          clear ho
          (try simp only [fillL, List.foldl_cons, List.foldl_nil, Act.put, List.setIfInBounds_toArray, List.set_cons_zero, List.set_cons_succ] at hK ⊢)
          have e71 := (hFf (6, 71) (by simp) (by kernel_rfl))
          simp only [] at e71
          simp only [e71] at hK ⊢
          rw [if_pos (by rfl)]
          have h0_ := (((Below.refl d1_.heap.size d1_).drew.trans hBf).cell (p := ⟨w.heap.size, 0, none⟩) hltx).trans n0
          have h1_ := (((Below.refl d1_.heap.size d1_).drew.trans hBf).cell (p := ⟨w.heap.size, 1, none⟩) hltx).trans n1
          have h2_ := (((Below.refl d1_.heap.size d1_).drew.trans hBf).cell (p := ⟨w.heap.size, 2, none⟩) hltx).trans n2
          have h3_ := (((Below.refl d1_.heap.size d1_).drew.trans hBf).cell (p := ⟨w.heap.size, 3, none⟩) hltx).trans n3
          have h4_ := (((Below.refl d1_.heap.size d1_).drew.trans hBf).cell (p := ⟨w.heap.size, 4, none⟩) hltx).trans n4
          have h5_ := (((Below.refl d1_.heap.size d1_).drew.trans hBf).cell (p := ⟨w.heap.size, 5, none⟩) hltx).trans n5
          have h6_ := (((Below.refl d1_.heap.size d1_).drew.trans hBf).cell (p := ⟨w.heap.size, 6, none⟩) hltx).trans n6
          go_simp
          exact hK.out _ _ ⟨rfl, Below.refl _ _⟩
        focus
          intro vs w2 hBf hFf o ho K hK
          obtain rfl : (⟨some 75, _, _, _, _, _⟩ : Oper) = o := Option.some.inj ho
          clear ho
          (try simp only [fillL, List.foldl_cons, List.foldl_nil, Act.put, List.setIfInBounds_toArray, List.set_cons_zero, List.set_cons_succ] at hK ⊢)
          have e71 := (hFf (6, 71) (by simp) (by kernel_rfl))
          have e74 := (hFf (9, 74) (by simp) (by kernel_rfl))
          simp only [] at e71 e74
          simp only [e71, e74] at hK ⊢
          rw [if_pos (by rfl)]
          go_simp
          refine (HCX.out _ ((Below.refl d1_.heap.size d1_).drew.trans hBf)).mono ?_
          rintro e w3 ⟨rfl, hB3⟩
          exact hK.out _ _ ⟨rfl, hB3⟩
        intro vs w2 hBf hFf
        (try simp only [fillL, List.foldl_cons, List.foldl_nil, Act.put, List.setIfInBounds_toArray, List.set_cons_zero, List.set_cons_succ])
        have e69 := (hFf (4, 69) (by simp))
        have e70 := (hFf (5, 70) (by simp))
        have e71 := (hFf (6, 71) (by simp))
        have e72 := (hFf (7, 72) (by simp))
        have e73 := (hFf (8, 73) (by simp))
        have e74 := (hFf (9, 74) (by simp))
        have e75 := (hFf (10, 75) (by simp))
        simp only [] at e69 e70 e71 e72 e73 e74 e75
        simp only [e69, e70, e71, e72, e73, e74, e75]
        have hBw : Below d1_.heap.size d1_ w2 := ((Below.refl d1_.heap.size d1_).drew.trans hBf)
        refine wpAnyL_last (i := 11) (o := ⟨some 76, _, _, _, _, _⟩) (by kernel_rfl) rfl (by kernel_rfl) (fun K hK => ?_)
        go_simp
        refine hK.out _ _ ?_
        clear hK K
        try simp only [Act.put, pA, pB, pC]
        refine wpAnyL_last (i := 12) (o := ⟨some 77, _, _, _, _, _⟩) (by kernel_rfl) rfl (by kernel_rfl) (fun K hK => ?_)
        go_simp
        refine hK.out _ _ ?_
        clear hK K
        try simp only [Act.put, pA, pB, pC]
        refine wpAnyL_last (i := 13) (o := ⟨some 78, _, _, _, _, _⟩) (by kernel_rfl) rfl (by kernel_rfl) (fun K hK => ?_)
        go_simp
        refine hK.out _ _ ?_
        clear hK K
        try simp only [Act.put, pA, pB, pC]
        refine wpAnyL_last (i := 14) (o := ⟨some 8, _, _, _, _, _⟩) (by kernel_rfl) rfl (by kernel_rfl) (fun K hK => ?_)
        go_simp
        refine hK.out _ _ ?_
        clear hK K
        try simp only [Act.put, pA, pB, pC]
        refine wpAnyL_done (by kernel_rfl) ?_ _
        refine NoPanic.normal ?_
        go_wp2
        go_ret
        exact ⟨rfl, hB1.trans ((hU3.trans ((hT1.trans (hBw.mono hT1.size)).mono hU3.size)).mono hs1)⟩
      · have qe1 : (E3 == 0) = false := beq_eq_false_iff_ne.2 he3
        have qe2 : (E3 != 0) = true := bne_iff_ne.2 he3
        have qe3 : (!(E3 == 0)) = true := by rw [qe1]; rfl
        go_wp2_with (go_big_quiet (fail))
        go_ret
        first
          | exact ⟨rfl, hB1.trans ((hU3.trans (hT1.mono hU3.size)).mono hs1)⟩
          | exact ⟨rfl, hB1.trans ((hU3.trans ((hT1.trans ((belowDrewN d1_ _ _).mono hT1.size)).mono hU3.size)).mono hs1)⟩
  · have qe1 : (E1 == 0) = false := beq_eq_false_iff_ne.2 he1
    go_upto_region 8 with (go_big_quiet (fail))
    generalize hv0 : World.drewN z3 _ = d0_
    have hB0_ : Below z3.heap.size z3 d0_ := hv0 ▸ belowDrewN z3 _ _
    have hT0 := hTT.trans (hB0_.mono hTT.size)
    clear hv0
    by_cases he2 : E2 = 0
    · subst he2
      have hgc2 := hgz2.below hT0
      have kC := kY2.of hT0
      have hok2 := (HM2.out rfl).1
      have hch2 := (HM2.out rfl).2
      have HCK := Lib.hid (fun W (hW : Below d0_.heap.size d0_ W) => refCheck_any14 y2 W (hgc2.below hW) (tiny_of hok2))
      rw [hok2, if_pos rfl] at HCK
      have HCG := Lib.hid (fun W (hW : Below d0_.heap.size d0_ W) => refCharge_any y2 W (hgc2.below hW))
      rw [may_charge hok2] at HCG
      have hle : ¬ (y2.quota_ < (chgP y2.plain : Int)) := by
        have h9 : y2.plain.quota_ = y2.quota_ := rfl
        rw [h9] at hch2
        omega
      generalize (chgP y2.plain : Int) = C at *
      have hlt := kC.lt
      obtain ⟨m0, m1, m2, m3, m4, m5, m6⟩ := kC.all7
      refine wp_region_noPanic ?_
      refine wp_region_last 13 (fun W => W.cell? ⟨v2.heap.size, 0, none⟩ = some (.string y2.name_) ∧ W.cell? ⟨v2.heap.size, 1, none⟩ = some (.int .i64 y2.quota_) ∧ W.cell? ⟨v2.heap.size, 2, none⟩ = some (.int .i64 y2.next_) ∧ W.cell? ⟨v2.heap.size, 3, none⟩ = some (.slice y2.sets_.A y2.sets_.l.length y2.sets_.c) ∧ W.cell? ⟨v2.heap.size, 4, none⟩ = some (.slice y2.grants_.A y2.grants_.l.length y2.grants_.c) ∧ W.cell? ⟨v2.heap.size, 5, none⟩ = some (.slice y2.stages_.A y2.stages_.l.length y2.stages_.c) ∧ W.cell? ⟨v2.heap.size, 6, none⟩ = some (.slice y2.log_.A y2.log_.l.length y2.log_.c)) (by kernel_rfl) ⟨m0, m1, m2, m3, m4, m5, m6⟩ (fun hHeld => ?_)
      refine wpAnyL_take 16 (i := 0) (oi := ⟨some 51, _, _, _, _, _⟩) (v := ?_) rfl (by kernel_rfl) (by kernel_rfl) (by kernel_rfl) (by kernel_rfl) (by kernel_rfl) (by kernel_rfl) (by kernel_rfl) (fun _ _ _ h => h) (Or.inl ⟨by rfl, ?_⟩) hHeld ?_
      rotate_left
      focus (intro w hSw; (try dsimp only at hSw); go_simp; try (with_reducible rfl))
      try simp only [Act.put, pA, pB, pC]
      refine wpAnyL_take 16 (i := 1) (oi := ⟨some 52, _, _, _, _, _⟩) (v := ?_) rfl (by kernel_rfl) (by kernel_rfl) (by kernel_rfl) (by kernel_rfl) (by kernel_rfl) (by kernel_rfl) (by kernel_rfl) (fun _ _ _ h => h) (Or.inl ⟨by rfl, ?_⟩) hHeld ?_
      rotate_left
      focus (intro w hSw; (try dsimp only at hSw); go_simp; try (with_reducible rfl))
      try simp only [Act.put, pA, pB, pC]
      refine wpAnyL_take 16 (i := 2) (oi := ⟨some 53, _, _, _, _, _⟩) (v := ?_) rfl (by kernel_rfl) (by kernel_rfl) (by kernel_rfl) (by kernel_rfl) (by kernel_rfl) (by kernel_rfl) (by kernel_rfl) (fun _ _ _ h => h) (Or.inl ⟨by rfl, ?_⟩) hHeld ?_
      rotate_left
      focus (intro w hSw; (try dsimp only at hSw); go_simp; try (with_reducible rfl))
      try simp only [Act.put, pA, pB, pC]
      refine wpAnyL_take 16 (i := 3) (oi := ⟨some 54, _, _, _, _, _⟩) (v := ?_) rfl (by kernel_rfl) (by kernel_rfl) (by kernel_rfl) (by kernel_rfl) (by kernel_rfl) (by kernel_rfl) (by kernel_rfl) (fun _ _ _ h => h) (Or.inl ⟨by rfl, ?_⟩) hHeld ?_
      rotate_left
      focus (intro w hSw; (try dsimp only at hSw); go_simp; try (with_reducible rfl))
      try simp only [Act.put, pA, pB, pC]
      clear hHeld
      refine wpAnyL_facts 16 1 9 [(4, 55)] (fun s v w => match s with
        | 55 => v = .int .i64 0
        | _ => True) (fun w w' => Below w.heap.size w w') (by kernel_rfl) (by kernel_rfl) (fun w w' h h' => h.trans (h'.mono h.size)) ⟨?_, trivial⟩ (fun w' hB => ⟨(hB.cell (p := ⟨v2.heap.size, 0, none⟩) hlt).trans m0, (hB.cell (p := ⟨v2.heap.size, 1, none⟩) hlt).trans m1, (hB.cell (p := ⟨v2.heap.size, 2, none⟩) hlt).trans m2, (hB.cell (p := ⟨v2.heap.size, 3, none⟩) hlt).trans m3, (hB.cell (p := ⟨v2.heap.size, 4, none⟩) hlt).trans m4, (hB.cell (p := ⟨v2.heap.size, 5, none⟩) hlt).trans m5, (hB.cell (p := ⟨v2.heap.size, 6, none⟩) hlt).trans m6⟩) ⟨?_, trivial⟩ ?_
      focus
        intro v w w' h hB
        exact h
      focus
        intro vs w2 hBf hFf o ho K hK
        obtain rfl : (⟨some 55, _, _, _, _, _⟩ : Oper) = o := Option.some.inj ho
        clear ho
        (try simp only [fillL, List.foldl_cons, List.foldl_nil, Act.put, List.setIfInBounds_toArray, List.set_cons_zero, List.set_cons_succ] at hK ⊢)
        rw [if_pos (by rfl)]
        go_simp
        refine (HCK.out _ ((Below.refl d0_.heap.size d0_).drew.trans hBf)).mono ?_
        rintro e w3 ⟨rfl, hB3⟩
        refine hK.out _ _ ⟨rfl, hB3⟩
      intro vs w2 hBf hFf
      (try simp only [fillL, List.foldl_cons, List.foldl_nil, Act.put, List.setIfInBounds_toArray, List.set_cons_zero, List.set_cons_succ])
      have e41 : vs 55 = .int .i64 0 := (hFf (4, 55) (by simp))
      simp only [e41]
      have hBw : Below d0_.heap.size d0_ w2 := (Below.refl d0_.heap.size d0_).drew.trans hBf
      have hHeld : (fun W => W.cell? ⟨v2.heap.size, 0, none⟩ = some (.string y2.name_) ∧ W.cell? ⟨v2.heap.size, 1, none⟩ = some (.int .i64 y2.quota_) ∧ W.cell? ⟨v2.heap.size, 2, none⟩ = some (.int .i64 y2.next_) ∧ W.cell? ⟨v2.heap.size, 3, none⟩ = some (.slice y2.sets_.A y2.sets_.l.length y2.sets_.c) ∧ W.cell? ⟨v2.heap.size, 4, none⟩ = some (.slice y2.grants_.A y2.grants_.l.length y2.grants_.c) ∧ W.cell? ⟨v2.heap.size, 5, none⟩ = some (.slice y2.stages_.A y2.stages_.l.length y2.stages_.c) ∧ W.cell? ⟨v2.heap.size, 6, none⟩ = some (.slice y2.log_.A y2.log_.l.length y2.log_.c)) w2 := ⟨(hBf.cell (p := ⟨v2.heap.size, 0, none⟩) hlt).trans m0, (hBf.cell (p := ⟨v2.heap.size, 1, none⟩) hlt).trans m1, (hBf.cell (p := ⟨v2.heap.size, 2, none⟩) hlt).trans m2, (hBf.cell (p := ⟨v2.heap.size, 3, none⟩) hlt).trans m3, (hBf.cell (p := ⟨v2.heap.size, 4, none⟩) hlt).trans m4, (hBf.cell (p := ⟨v2.heap.size, 5, none⟩) hlt).trans m5, (hBf.cell (p := ⟨v2.heap.size, 6, none⟩) hlt).trans m6⟩
      refine wpAnyL_take 16 (i := 5) (oi := ⟨some 56, _, _, _, _, _⟩) (v := ?_) rfl (by kernel_rfl) (by kernel_rfl) (by kernel_rfl) (by kernel_rfl) (by kernel_rfl) (by kernel_rfl) (by kernel_rfl) (fun _ _ _ h => h) (Or.inl ⟨by rfl, ?_⟩) hHeld ?_
      rotate_left
      focus (intro w hSw; (try dsimp only at hSw); go_simp; try (with_reducible rfl))
      try simp only [Act.put, pA, pB, pC]
      refine wpAnyL_take 16 (i := 6) (oi := ⟨some 57, _, _, _, _, _⟩) (v := ?_) rfl (by kernel_rfl) (by kernel_rfl) (by kernel_rfl) (by kernel_rfl) (by kernel_rfl) (by kernel_rfl) (by kernel_rfl) (fun _ _ _ h => h) (Or.inl ⟨by rfl, ?_⟩) hHeld ?_
      rotate_left
      focus (intro w hSw; (try dsimp only at hSw); go_simp; try (with_reducible rfl))
      try simp only [Act.put, pA, pB, pC]
      refine wpAnyL_take 16 (i := 7) (oi := ⟨some 58, _, _, _, _, _⟩) (v := ?_) rfl (by kernel_rfl) (by kernel_rfl) (by kernel_rfl) (by kernel_rfl) (by kernel_rfl) (by kernel_rfl) (by kernel_rfl) (fun _ _ _ h => h) (Or.inl ⟨by rfl, ?_⟩) hHeld ?_
      rotate_left
      focus (intro w hSw; (try dsimp only at hSw); go_simp; try (with_reducible rfl))
      try simp only [Act.put, pA, pB, pC]
      refine wpAnyL_take 16 (i := 9) (oi := ⟨some 60, _, _, _, _, _⟩) (v := ?_) rfl (by kernel_rfl) (by kernel_rfl) (by kernel_rfl) (by kernel_rfl) (by kernel_rfl) (by kernel_rfl) (by kernel_rfl) (fun _ _ _ h => h) (Or.inl ⟨by rfl, ?_⟩) hHeld ?_
      rotate_left
      focus (intro w hSw; (try dsimp only at hSw); go_simp; try (with_reducible rfl))
      try simp only [Act.put, pA, pB, pC]
      refine wpAnyL_take 16 (i := 10) (oi := ⟨some 61, _, _, _, _, _⟩) (v := ?_) rfl (by kernel_rfl) (by kernel_rfl) (by kernel_rfl) (by kernel_rfl) (by kernel_rfl) (by kernel_rfl) (by kernel_rfl) (fun _ _ _ h => h) (Or.inl ⟨by rfl, ?_⟩) hHeld ?_
      rotate_left
      focus (intro w hSw; (try dsimp only at hSw); go_simp; try (with_reducible rfl))
      try simp only [Act.put, pA, pB, pC]
      refine wpAnyL_one (i := 8) (o := ⟨some 59, _, _, _, _, _⟩) (by kernel_rfl) rfl (fun K hK => ?_)
      clear hHeld
      rw [if_pos (by rfl)]
      go_simp
      refine (HCG.out _ hBw).mono ?_
      rintro e wk2_ ⟨rfl, hB4⟩
      have hBx : Below d0_.heap.size d0_ wk2_ := hBw.trans (hB4.mono hBw.size)
      refine hK.out _ _ ⟨(hBx.cell (p := ⟨v2.heap.size, 0, none⟩) hlt).trans m0, (hBx.cell (p := ⟨v2.heap.size, 1, none⟩) hlt).trans m1, (hBx.cell (p := ⟨v2.heap.size, 2, none⟩) hlt).trans m2, (hBx.cell (p := ⟨v2.heap.size, 3, none⟩) hlt).trans m3, (hBx.cell (p := ⟨v2.heap.size, 4, none⟩) hlt).trans m4, (hBx.cell (p := ⟨v2.heap.size, 5, none⟩) hlt).trans m5, (hBx.cell (p := ⟨v2.heap.size, 6, none⟩) hlt).trans m6⟩ (fun hHeld => ?_)
      clear hK K
      try simp only [Act.put, pA, pB, pC]
      refine wpAnyL_take 16 (i := 11) (oi := ⟨some 62, _, _, _, _, _⟩) (v := ?_) rfl (by kernel_rfl) (by kernel_rfl) (by kernel_rfl) (by kernel_rfl) (by kernel_rfl) (by kernel_rfl) (by kernel_rfl) (fun _ _ _ h => h) (Or.inl ⟨by rfl, ?_⟩) hHeld ?_
      rotate_left
      focus (intro w hSw; (try dsimp only at hSw); go_simp; try (with_reducible rfl))
      try simp only [Act.put, pA, pB, pC]
      refine wpAnyL_take 16 (i := 12) (oi := ⟨some 63, _, _, _, _, _⟩) (v := ?_) rfl (by kernel_rfl) (by kernel_rfl) (by kernel_rfl) (by kernel_rfl) (by kernel_rfl) (by kernel_rfl) (by kernel_rfl) (fun _ _ _ h => h) (Or.inl ⟨by rfl, ?_⟩) hHeld ?_
      rotate_left
      focus (intro w hSw; (try dsimp only at hSw); go_simp; try (with_reducible rfl))
      try simp only [Act.put, pA, pB, pC]
      refine wpAnyL_last (i := 13) (o := ⟨some 64, _, _, _, _, _⟩) (by kernel_rfl) rfl (by kernel_rfl) (fun K hK => ?_)
      go_simp
      refine hK.out _ _ ?_
      clear hK K
      try simp only [Act.put, pA, pB, pC]
      refine wpAnyL_done (by kernel_rfl) ?_ _
      refine NoPanic.normal ?_
      clear hle HCK HCG
      go_upto_region 10 with fail
      have hT4 := hT0.trans (hBx.mono hT0.size)
      clear kC m0 m1 m2 m3 m4 m5 m6 hlt hBx hBw
      by_cases he3 : E3 = 0
      · subst he3
        have hgc3 := hgz3.below hT4
        have hgx := HGX.out.below (hU3.trans (hT4.mono hU3.size))
        have kC := kY3.of hT4
        have kX := kx3.of hT4
        have hok3 := (HM3.out rfl).1
        have hch3 := (HM3.out rfl).2.1
        have hokx := (HM3.out rfl).2.2
        have HCK := Lib.hid (fun W (hW : Below wk2_.heap.size wk2_ W) => refCheck_any14 y3 W (hgc3.below hW) (tiny_of hok3))
        rw [hok3, if_pos rfl] at HCK
        have HCG := Lib.hid (fun W (hW : Below wk2_.heap.size wk2_ W) => refCharge_any y3 W (hgc3.below hW))
        rw [may_charge hok3] at HCG
        have HCX := Lib.hid (fun W (hW : Below wk2_.heap.size wk2_ W) => refCharge_any x W (hgx.below hW))
        rw [may_charge hokx] at HCX
        have hle : (chgP y3.plain : Int) ≤ (chgP x.plain : Int) := by omega
        generalize (chgP y3.plain : Int) = C at *
        generalize (chgP x.plain : Int) = CX at *
        have hlt := kC.lt
        have hltx := kX.lt
        obtain ⟨m0, m1, m2, m3, m4, m5, m6⟩ := kC.all7
        obtain ⟨n0, n1, n2, n3, n4, n5, n6⟩ := kX.all7
        refine wp_region_noPanic ?_
        refine wp_region_last 11 (fun W => W.cell? ⟨v3.heap.size, 0, none⟩ = some (.string y3.name_) ∧ W.cell? ⟨v3.heap.size, 1, none⟩ = some (.int .i64 y3.quota_) ∧ W.cell? ⟨v3.heap.size, 2, none⟩ = some (.int .i64 y3.next_) ∧ W.cell? ⟨v3.heap.size, 3, none⟩ = some (.slice y3.sets_.A y3.sets_.l.length y3.sets_.c) ∧ W.cell? ⟨v3.heap.size, 4, none⟩ = some (.slice y3.grants_.A y3.grants_.l.length y3.grants_.c) ∧ W.cell? ⟨v3.heap.size, 5, none⟩ = some (.slice y3.stages_.A y3.stages_.l.length y3.stages_.c) ∧ W.cell? ⟨v3.heap.size, 6, none⟩ = some (.slice y3.log_.A y3.log_.l.length y3.log_.c) ∧ W.cell? ⟨w.heap.size, 0, none⟩ = some (.string x.name_) ∧ W.cell? ⟨w.heap.size, 1, none⟩ = some (.int .i64 x.quota_) ∧ W.cell? ⟨w.heap.size, 2, none⟩ = some (.int .i64 x.next_) ∧ W.cell? ⟨w.heap.size, 3, none⟩ = some (.slice x.sets_.A x.sets_.l.length x.sets_.c) ∧ W.cell? ⟨w.heap.size, 4, none⟩ = some (.slice x.grants_.A x.grants_.l.length x.grants_.c) ∧ W.cell? ⟨w.heap.size, 5, none⟩ = some (.slice x.stages_.A x.stages_.l.length x.stages_.c) ∧ W.cell? ⟨w.heap.size, 6, none⟩ = some (.slice x.log_.A x.log_.l.length x.log_.c)) (by kernel_rfl) ⟨m0, m1, m2, m3, m4, m5, m6, n0, n1, n2, n3, n4, n5, n6⟩ (fun hHeld => ?_)
        refine wpAnyL_take 16 (i := 0) (oi := ⟨some 65, _, _, _, _, _⟩) (v := ?_) rfl (by kernel_rfl) (by kernel_rfl) (by kernel_rfl) (by kernel_rfl) (by kernel_rfl) (by kernel_rfl) (by kernel_rfl) (fun _ _ _ h => h) (Or.inl ⟨by rfl, ?_⟩) hHeld ?_
        rotate_left
        focus (intro w hSw; (try dsimp only at hSw); go_simp; try (with_reducible rfl))
        try simp only [Act.put, pA, pB, pC]
        refine wpAnyL_take 16 (i := 1) (oi := ⟨some 66, _, _, _, _, _⟩) (v := ?_) rfl (by kernel_rfl) (by kernel_rfl) (by kernel_rfl) (by kernel_rfl) (by kernel_rfl) (by kernel_rfl) (by kernel_rfl) (fun _ _ _ h => h) (Or.inl ⟨by rfl, ?_⟩) hHeld ?_
        rotate_left
        focus (intro w hSw; (try dsimp only at hSw); go_simp; try (with_reducible rfl))
        try simp only [Act.put, pA, pB, pC]
        refine wpAnyL_take 16 (i := 2) (oi := ⟨some 67, _, _, _, _, _⟩) (v := ?_) rfl (by kernel_rfl) (by kernel_rfl) (by kernel_rfl) (by kernel_rfl) (by kernel_rfl) (by kernel_rfl) (by kernel_rfl) (fun _ _ _ h => h) (Or.inl ⟨by rfl, ?_⟩) hHeld ?_
        rotate_left
        focus (intro w hSw; (try dsimp only at hSw); go_simp; try (with_reducible rfl))
        try simp only [Act.put, pA, pB, pC]
        refine wpAnyL_take 16 (i := 3) (oi := ⟨some 68, _, _, _, _, _⟩) (v := ?_) rfl (by kernel_rfl) (by kernel_rfl) (by kernel_rfl) (by kernel_rfl) (by kernel_rfl) (by kernel_rfl) (by kernel_rfl) (fun _ _ _ h => h) (Or.inl ⟨by rfl, ?_⟩) hHeld ?_
        rotate_left
        focus (intro w hSw; (try dsimp only at hSw); go_simp; try (with_reducible rfl))
        try simp only [Act.put, pA, pB, pC]
        clear hHeld
        refine wpAnyL_facts 16 7 4 [(4, 69), (5, 70), (6, 71), (7, 72), (8, 73), (9, 74), (10, 75)] (fun s v w => match s with
          | 69 => v = .int .i64 0
          | 70 => v = .bool true
          | 71 => v = .bool true
          | 72 => v = .agg y3.cells.toArray
          | 73 => v = .int .i64 C
          | 74 => v = .agg x.cells.toArray
          | 75 => v = .int .i64 CX
          | _ => True) (fun w w' => Below w.heap.size w w') (by kernel_rfl) (by kernel_rfl) (fun w w' h h' => h.trans (h'.mono h.size)) ⟨?_, ?_, ?_, ?_, ?_, ?_, ?_, trivial⟩ (fun w' hB => ⟨(hB.cell (p := ⟨v3.heap.size, 0, none⟩) hlt).trans m0, (hB.cell (p := ⟨v3.heap.size, 1, none⟩) hlt).trans m1, (hB.cell (p := ⟨v3.heap.size, 2, none⟩) hlt).trans m2, (hB.cell (p := ⟨v3.heap.size, 3, none⟩) hlt).trans m3, (hB.cell (p := ⟨v3.heap.size, 4, none⟩) hlt).trans m4, (hB.cell (p := ⟨v3.heap.size, 5, none⟩) hlt).trans m5, (hB.cell (p := ⟨v3.heap.size, 6, none⟩) hlt).trans m6, (hB.cell (p := ⟨w.heap.size, 0, none⟩) hltx).trans n0, (hB.cell (p := ⟨w.heap.size, 1, none⟩) hltx).trans n1, (hB.cell (p := ⟨w.heap.size, 2, none⟩) hltx).trans n2, (hB.cell (p := ⟨w.heap.size, 3, none⟩) hltx).trans n3, (hB.cell (p := ⟨w.heap.size, 4, none⟩) hltx).trans n4, (hB.cell (p := ⟨w.heap.size, 5, none⟩) hltx).trans n5, (hB.cell (p := ⟨w.heap.size, 6, none⟩) hltx).trans n6⟩) ⟨?_, ?_, ?_, ?_, ?_, ?_, ?_, trivial⟩ ?_
        focus
          intro v w w' h hB
          exact h
        focus
          intro v w w' h hB
          exact h
        focus
          intro v w w' h hB
          exact h
        focus
          intro v w w' h hB
          exact h
        focus
          intro v w w' h hB
          exact h
        focus
          intro v w w' h hB
          exact h
        focus
          intro v w w' h hB
          exact h
        focus
          intro vs w2 hBf hFf o ho K hK
          obtain rfl : (⟨some 69, _, _, _, _, _⟩ : Oper) = o := Option.some.inj ho
          clear ho
          (try simp only [fillL, List.foldl_cons, List.foldl_nil, Act.put, List.setIfInBounds_toArray, List.set_cons_zero, List.set_cons_succ] at hK ⊢)
          rw [if_pos (by rfl)]
          go_simp
          refine (HCK.out _ ((Below.refl wk2_.heap.size wk2_).drew.trans hBf)).mono ?_
          rintro e w3 ⟨rfl, hB3⟩
          refine hK.out _ _ ⟨rfl, hB3⟩
        focus
          intro vs w2 hBf hFf o ho K hK
          obtain rfl : (⟨some 70, _, _, _, _, _⟩ : Oper) = o := Option.some.inj ho
          clear ho
          (try simp only [fillL, List.foldl_cons, List.foldl_nil, Act.put, List.setIfInBounds_toArray, List.set_cons_zero, List.set_cons_succ] at hK ⊢)
          have e69 := (hFf (4, 69) (by simp) (by kernel_rfl))
          simp only [] at e69
          simp only [e69] at hK ⊢
          rw [if_pos (by rfl)]
          go_simp
          exact hK.out _ _ ⟨rfl, Below.refl _ _⟩
        focus
          intro vs w2 hBf hFf o ho K hK
          obtain rfl : (⟨some 71, _, _, _, _, _⟩ : Oper) = o := Option.some.inj ho
          clear ho
          (try simp only [fillL, List.foldl_cons, List.foldl_nil, Act.put, List.setIfInBounds_toArray, List.set_cons_zero, List.set_cons_succ] at hK ⊢)
          have e70 := (hFf (5, 70) (by simp) (by kernel_rfl))
          simp only [] at e70
          simp only [e70] at hK ⊢
          rw [if_pos (by rfl)]
          go_simp
          exact hK.out _ _ ⟨rfl, Below.refl _ _⟩
        focus
          intro vs w2 hBf hFf o ho K hK
          obtain rfl : (⟨some 72, _, _, _, _, _⟩ : Oper) = o := Option.some.inj ho
          clear ho
          (try simp only [fillL, List.foldl_cons, List.foldl_nil, Act.put, List.setIfInBounds_toArray, List.set_cons_zero, List.set_cons_succ] at hK ⊢)
          have e71 := (hFf (6, 71) (by simp) (by kernel_rfl))
          simp only [] at e71
          simp only [e71] at hK ⊢
          rw [if_pos (by rfl)]
          have h0_ := (((Below.refl wk2_.heap.size wk2_).drew.trans hBf).cell (p := ⟨v3.heap.size, 0, none⟩) hlt).trans m0
          have h1_ := (((Below.refl wk2_.heap.size wk2_).drew.trans hBf).cell (p := ⟨v3.heap.size, 1, none⟩) hlt).trans m1
          have h2_ := (((Below.refl wk2_.heap.size wk2_).drew.trans hBf).cell (p := ⟨v3.heap.size, 2, none⟩) hlt).trans m2
          have h3_ := (((Below.refl wk2_.heap.size wk2_).drew.trans hBf).cell (p := ⟨v3.heap.size, 3, none⟩) hlt).trans m3
          have h4_ := (((Below.refl wk2_.heap.size wk2_).drew.trans hBf).cell (p := ⟨v3.heap.size, 4, none⟩) hlt).trans m4
          have h5_ := (((Below.refl wk2_.heap.size wk2_).drew.trans hBf).cell (p := ⟨v3.heap.size, 5, none⟩) hlt).trans m5
          have h6_ := (((Below.refl wk2_.heap.size wk2_).drew.trans hBf).cell (p := ⟨v3.heap.size, 6, none⟩) hlt).trans m6
          go_simp
          exact hK.out _ _ ⟨rfl, Below.refl _ _⟩
        focus
          intro vs w2 hBf hFf o ho K hK
          obtain rfl : (⟨some 73, _, _, _, _, _⟩ : Oper) = o := Option.some.inj ho
          clear ho
          (try simp only [fillL, List.foldl_cons, List.foldl_nil, Act.put, List.setIfInBounds_toArray, List.set_cons_zero, List.set_cons_succ] at hK ⊢)
          have e71 := (hFf (6, 71) (by simp) (by kernel_rfl))
          have e72 := (hFf (7, 72) (by simp) (by kernel_rfl))
          simp only [] at e71 e72
          simp only [e71, e72] at hK ⊢
          rw [if_pos (by rfl)]
          go_simp
          refine (HCG.out _ ((Below.refl wk2_.heap.size wk2_).drew.trans hBf)).mono ?_
          rintro e w3 ⟨rfl, hB3⟩
          exact hK.out _ _ ⟨rfl, hB3⟩
        focus
          intro vs w2 hBf hFf o ho K hK
          obtain rfl : (⟨some 74, _, _, _, _, _⟩ : Oper) = o := Option.some.inj ho
          clear ho
          (try simp only [fillL, List.foldl_cons, List.foldl_nil, Act.put, List.setIfInBounds_toArray, List.set_cons_zero, List.set_cons_succ] at hK ⊢)
          have e71 := (hFf (6, 71) (by simp) (by kernel_rfl))
          simp only [] at e71
          simp only [e71] at hK ⊢
          rw [if_pos (by rfl)]
          have h0_ := (((Below.refl wk2_.heap.size wk2_).drew.trans hBf).cell (p := ⟨w.heap.size, 0, none⟩) hltx).trans n0
          have h1_ := (((Below.refl wk2_.heap.size wk2_).drew.trans hBf).cell (p := ⟨w.heap.size, 1, none⟩) hltx).trans n1
          have h2_ := (((Below.refl wk2_.heap.size wk2_).drew.trans hBf).cell (p := ⟨w.heap.size, 2, none⟩) hltx).trans n2
          have h3_ := (((Below.refl wk2_.heap.size wk2_).drew.trans hBf).cell (p := ⟨w.heap.size, 3, none⟩) hltx).trans n3
          have h4_ := (((Below.refl wk2_.heap.size wk2_).drew.trans hBf).cell (p := ⟨w.heap.size, 4, none⟩) hltx).trans n4
          have h5_ := (((Below.refl wk2_.heap.size wk2_).drew.trans hBf).cell (p := ⟨w.heap.size, 5, none⟩) hltx).trans n5
          have h6_ := (((Below.refl wk2_.heap.size wk2_).drew.trans hBf).cell (p := ⟨w.heap.size, 6, none⟩) hltx).trans n6
          go_simp
          exact hK.out _ _ ⟨rfl, Below.refl _ _⟩
        focus
          intro vs w2 hBf hFf o ho K hK
          obtain rfl : (⟨some 75, _, _, _, _, _⟩ : Oper) = o := Option.some.inj ho
          clear ho
          (try simp only [fillL, List.foldl_cons, List.foldl_nil, Act.put, List.setIfInBounds_toArray, List.set_cons_zero, List.set_cons_succ] at hK ⊢)
          have e71 := (hFf (6, 71) (by simp) (by kernel_rfl))
          have e74 := (hFf (9, 74) (by simp) (by kernel_rfl))
          simp only [] at e71 e74
          simp only [e71, e74] at hK ⊢
          rw [if_pos (by rfl)]
          go_simp
          refine (HCX.out _ ((Below.refl wk2_.heap.size wk2_).drew.trans hBf)).mono ?_
          rintro e w3 ⟨rfl, hB3⟩
          exact hK.out _ _ ⟨rfl, hB3⟩
        intro vs w2 hBf hFf
        (try simp only [fillL, List.foldl_cons, List.foldl_nil, Act.put, List.setIfInBounds_toArray, List.set_cons_zero, List.set_cons_succ])
        have e69 := (hFf (4, 69) (by simp))
        have e70 := (hFf (5, 70) (by simp))
        have e71 := (hFf (6, 71) (by simp))
        have e72 := (hFf (7, 72) (by simp))
        have e73 := (hFf (8, 73) (by simp))
        have e74 := (hFf (9, 74) (by simp))
        have e75 := (hFf (10, 75) (by simp))
        simp only [] at e69 e70 e71 e72 e73 e74 e75
        simp only [e69, e70, e71, e72, e73, e74, e75]
        have hBw : Below wk2_.heap.size wk2_ w2 := ((Below.refl wk2_.heap.size wk2_).drew.trans hBf)
        refine wpAnyL_last (i := 11) (o := ⟨some 76, _, _, _, _, _⟩) (by kernel_rfl) rfl (by kernel_rfl) (fun K hK => ?_)
        go_simp
        refine hK.out _ _ ?_
        clear hK K
        try simp only [Act.put, pA, pB, pC]
        refine wpAnyL_last (i := 12) (o := ⟨some 77, _, _, _, _, _⟩) (by kernel_rfl) rfl (by kernel_rfl) (fun K hK => ?_)
        go_simp
        refine hK.out _ _ ?_
        clear hK K
        try simp only [Act.put, pA, pB, pC]
        refine wpAnyL_last (i := 13) (o := ⟨some 78, _, _, _, _, _⟩) (by kernel_rfl) rfl (by kernel_rfl) (fun K hK => ?_)
        go_simp
        refine hK.out _ _ ?_
        clear hK K
        try simp only [Act.put, pA, pB, pC]
        refine wpAnyL_last (i := 14) (o := ⟨some 8, _, _, _, _, _⟩) (by kernel_rfl) rfl (by kernel_rfl) (fun K hK => ?_)
        go_simp
        refine hK.out _ _ ?_
        clear hK K
        try simp only [Act.put, pA, pB, pC]
        refine wpAnyL_done (by kernel_rfl) ?_ _
        refine NoPanic.normal ?_
        go_wp2
        go_ret
        exact ⟨rfl, hB1.trans ((hU3.trans ((hT4.trans (hBw.mono hT4.size)).mono hU3.size)).mono hs1)⟩
      · have qe1 : (E3 == 0) = false := beq_eq_false_iff_ne.2 he3
        have qe2 : (E3 != 0) = true := bne_iff_ne.2 he3
        have qe3 : (!(E3 == 0)) = true := by rw [qe1]; rfl
        go_wp2_with (go_big_quiet (fail))
        go_ret
        first
          | exact ⟨rfl, hB1.trans ((hU3.trans (hT4.mono hU3.size)).mono hs1)⟩
          | exact ⟨rfl, hB1.trans ((hU3.trans ((hT4.trans ((belowDrewN wk2_ _ _).mono hT4.size)).mono hU3.size)).mono hs1)⟩
    · have qe2 : (E2 == 0) = false := beq_eq_false_iff_ne.2 he2
      go_upto_region 10 with (go_big_quiet (fail))
      generalize hv4 : World.drewN d0_ _ = d4_
      have hB4_ : Below d0_.heap.size d0_ d4_ := hv4 ▸ belowDrewN d0_ _ _
      have hT4 := hT0.trans (hB4_.mono hT0.size)
      clear hv4
      by_cases he3 : E3 = 0
      · subst he3
        have hgc3 := hgz3.below hT4
        have hgx := HGX.out.below (hU3.trans (hT4.mono hU3.size))
        have kC := kY3.of hT4
        have kX := kx3.of hT4
        have hok3 := (HM3.out rfl).1
        have hch3 := (HM3.out rfl).2.1
        have hokx := (HM3.out rfl).2.2
        have HCK := Lib.hid (fun W (hW : Below d4_.heap.size d4_ W) => refCheck_any14 y3 W (hgc3.below hW) (tiny_of hok3))
        rw [hok3, if_pos rfl] at HCK
        have HCG := Lib.hid (fun W (hW : Below d4_.heap.size d4_ W) => refCharge_any y3 W (hgc3.below hW))
        rw [may_charge hok3] at HCG
        have HCX := Lib.hid (fun W (hW : Below d4_.heap.size d4_ W) => refCharge_any x W (hgx.below hW))
        rw [may_charge hokx] at HCX
        have hle : (chgP y3.plain : Int) ≤ (chgP x.plain : Int) := by omega
        generalize (chgP y3.plain : Int) = C at *
        generalize (chgP x.plain : Int) = CX at *
        have hlt := kC.lt
        have hltx := kX.lt
        obtain ⟨m0, m1, m2, m3, m4, m5, m6⟩ := kC.all7
        obtain ⟨n0, n1, n2, n3, n4, n5, n6⟩ := kX.all7
        refine wp_region_noPanic ?_
        refine wp_region_last 11 (fun W => W.cell? ⟨v3.heap.size, 0, none⟩ = some (.string y3.name_) ∧ W.cell? ⟨v3.heap.size, 1, none⟩ = some (.int .i64 y3.quota_) ∧ W.cell? ⟨v3.heap.size, 2, none⟩ = some (.int .i64 y3.next_) ∧ W.cell? ⟨v3.heap.size, 3, none⟩ = some (.slice y3.sets_.A y3.sets_.l.length y3.sets_.c) ∧ W.cell? ⟨v3.heap.size, 4, none⟩ = some (.slice y3.grants_.A y3.grants_.l.length y3.grants_.c) ∧ W.cell? ⟨v3.heap.size, 5, none⟩ = some (.slice y3.stages_.A y3.stages_.l.length y3.stages_.c) ∧ W.cell? ⟨v3.heap.size, 6, none⟩ = some (.slice y3.log_.A y3.log_.l.length y3.log_.c) ∧ W.cell? ⟨w.heap.size, 0, none⟩ = some (.string x.name_) ∧ W.cell? ⟨w.heap.size, 1, none⟩ = some (.int .i64 x.quota_) ∧ W.cell? ⟨w.heap.size, 2, none⟩ = some (.int .i64 x.next_) ∧ W.cell? ⟨w.heap.size, 3, none⟩ = some (.slice x.sets_.A x.sets_.l.length x.sets_.c) ∧ W.cell? ⟨w.heap.size, 4, none⟩ = some (.slice x.grants_.A x.grants_.l.length x.grants_.c) ∧ W.cell? ⟨w.heap.size, 5, none⟩ = some (.slice x.stages_.A x.stages_.l.length x.stages_.c) ∧ W.cell? ⟨w.heap.size, 6, none⟩ = some (.slice x.log_.A x.log_.l.length x.log_.c)) (by kernel_rfl) ⟨m0, m1, m2, m3, m4, m5, m6, n0, n1, n2, n3, n4, n5, n6⟩ (fun hHeld => ?_)
        refine wpAnyL_take 16 (i := 0) (oi := ⟨some 65, _, _, _, _, _⟩) (v := ?_) rfl (by kernel_rfl) (by kernel_rfl) (by kernel_rfl) (by kernel_rfl) (by kernel_rfl) (by kernel_rfl) (by kernel_rfl) (fun _ _ _ h => h) (Or.inl ⟨by rfl, ?_⟩) hHeld ?_
        rotate_left
        focus (intro w hSw; (try dsimp only at hSw); go_simp; try (with_reducible rfl))
        try simp only [Act.put, pA, pB, pC]
        refine wpAnyL_take 16 (i := 1) (oi := ⟨some 66, _, _, _, _, _⟩) (v := ?_) rfl (by kernel_rfl) (by kernel_rfl) (by kernel_rfl) (by kernel_rfl) (by kernel_rfl) (by kernel_rfl) (by kernel_rfl) (fun _ _ _ h => h) (Or.inl ⟨by rfl, ?_⟩) hHeld ?_
        rotate_left
        focus (intro w hSw; (try dsimp only at hSw); go_simp; try (with_reducible rfl))
        try simp only [Act.put, pA, pB, pC]
        refine wpAnyL_take 16 (i := 2) (oi := ⟨some 67, _, _, _, _, _⟩) (v := ?_) rfl (by kernel_rfl) (by kernel_rfl) (by kernel_rfl) (by kernel_rfl) (by kernel_rfl) (by kernel_rfl) (by kernel_rfl) (fun _ _ _ h => h) (Or.inl ⟨by rfl, ?_⟩) hHeld ?_
        rotate_left
        focus (intro w hSw; (try dsimp only at hSw); go_simp; try (with_reducible rfl))
        try simp only [Act.put, pA, pB, pC]
        refine wpAnyL_take 16 (i := 3) (oi := ⟨some 68, _, _, _, _, _⟩) (v := ?_) rfl (by kernel_rfl) (by kernel_rfl) (by kernel_rfl) (by kernel_rfl) (by kernel_rfl) (by kernel_rfl) (by kernel_rfl) (fun _ _ _ h => h) (Or.inl ⟨by rfl, ?_⟩) hHeld ?_
        rotate_left
        focus (intro w hSw; (try dsimp only at hSw); go_simp; try (with_reducible rfl))
        try simp only [Act.put, pA, pB, pC]
        clear hHeld
        refine wpAnyL_facts 16 7 4 [(4, 69), (5, 70), (6, 71), (7, 72), (8, 73), (9, 74), (10, 75)] (fun s v w => match s with
          | 69 => v = .int .i64 0
          | 70 => v = .bool true
          | 71 => v = .bool true
          | 72 => v = .agg y3.cells.toArray
          | 73 => v = .int .i64 C
          | 74 => v = .agg x.cells.toArray
          | 75 => v = .int .i64 CX
          | _ => True) (fun w w' => Below w.heap.size w w') (by kernel_rfl) (by kernel_rfl) (fun w w' h h' => h.trans (h'.mono h.size)) ⟨?_, ?_, ?_, ?_, ?_, ?_, ?_, trivial⟩ (fun w' hB => ⟨(hB.cell (p := ⟨v3.heap.size, 0, none⟩) hlt).trans m0, (hB.cell (p := ⟨v3.heap.size, 1, none⟩) hlt).trans m1, (hB.cell (p := ⟨v3.heap.size, 2, none⟩) hlt).trans m2, (hB.cell (p := ⟨v3.heap.size, 3, none⟩) hlt).trans m3, (hB.cell (p := ⟨v3.heap.size, 4, none⟩) hlt).trans m4, (hB.cell (p := ⟨v3.heap.size, 5, none⟩) hlt).trans m5, (hB.cell (p := ⟨v3.heap.size, 6, none⟩) hlt).trans m6, (hB.cell (p := ⟨w.heap.size, 0, none⟩) hltx).trans n0, (hB.cell (p := ⟨w.heap.size, 1, none⟩) hltx).trans n1, (hB.cell (p := ⟨w.heap.size, 2, none⟩) hltx).trans n2, (hB.cell (p := ⟨w.heap.size, 3, none⟩) hltx).trans n3, (hB.cell (p := ⟨w.heap.size, 4, none⟩) hltx).trans n4, (hB.cell (p := ⟨w.heap.size, 5, none⟩) hltx).trans n5, (hB.cell (p := ⟨w.heap.size, 6, none⟩) hltx).trans n6⟩) ⟨?_, ?_, ?_, ?_, ?_, ?_, ?_, trivial⟩ ?_
        focus
          intro v w w' h hB
          exact h
        focus
          intro v w w' h hB
          exact h
        focus
          intro v w w' h hB
          exact h
        focus
          intro v w w' h hB
          exact h
        focus
          intro v w w' h hB
          exact h
        focus
          intro v w w' h hB
          exact h
        focus
          intro v w w' h hB
          exact h
        focus
          intro vs w2 hBf hFf o ho K hK
          obtain rfl : (⟨some 69, _, _, _, _, _⟩ : Oper) = o := Option.some.inj ho
          clear ho
          (try simp only [fillL, List.foldl_cons, List.foldl_nil, Act.put, List.setIfInBounds_toArray, List.set_cons_zero, List.set_cons_succ] at hK ⊢)
          rw [if_pos (by rfl)]
          go_simp
          refine (HCK.out _ ((Below.refl d4_.heap.size d4_).drew.trans hBf)).mono ?_
          rintro e w3 ⟨rfl, hB3⟩
          refine hK.out _ _ ⟨rfl, hB3⟩
        focus
          intro vs w2 hBf hFf o ho K hK
          obtain rfl : (⟨some 70, _, _, _, _, _⟩ : Oper) = o := Option.some.inj ho
          clear ho
          (try simp only [fillL, List.foldl_cons, List.foldl_nil, Act.put, List.setIfInBounds_toArray, List.set_cons_zero, List.set_cons_succ] at hK ⊢)
          have e69 := (hFf (4, 69) (by simp) (by kernel_rfl))
          simp only [] at e69
          simp only [e69] at hK ⊢
          rw [if_pos (by rfl)]
          go_simp
          exact hK.out _ _ ⟨rfl, Below.refl _ _⟩
        focus
          intro vs w2 hBf hFf o ho K hK
          obtain rfl : (⟨some 71, _, _, _, _, _⟩ : Oper) = o := Option.some.inj ho
          clear ho
          (try simp only [fillL, List.foldl_cons, List.foldl_nil, Act.put, List.setIfInBounds_toArray, List.set_cons_zero, List.set_cons_succ] at hK ⊢)
          have e70 := (hFf (5, 70) (by simp) (by kernel_rfl))
          simp only [] at e70
          simp only [e70] at hK ⊢
          rw [if_pos (by rfl)]
          go_simp
          exact hK.out _ _ ⟨rfl, Below.refl _ _⟩
        focus
          intro vs w2 hBf hFf o ho K hK
          obtain rfl : (⟨some 72, _, _, _, _, _⟩ : Oper) = o := Option.some.inj ho
          clear ho
          (try simp only [fillL, List.foldl_cons, List.foldl_nil, Act.put, List.setIfInBounds_toArray, List.set_cons_zero, List.set_cons_succ] at hK ⊢)
          have e71 := (hFf (6, 71) (by simp) (by kernel_rfl))
          simp only [] at e71
          simp only [e71] at hK ⊢
          rw [if_pos (by rfl)]
          have h0_ := (((Below.refl d4_.heap.size d4_).drew.trans hBf).cell (p := ⟨v3.heap.size, 0, none⟩) hlt).trans m0
          have h1_ := (((Below.refl d4_.heap.size d4_).drew.trans hBf).cell (p := ⟨v3.heap.size, 1, none⟩) hlt).trans m1
          have h2_ := (((Below.refl d4_.heap.size d4_).drew.trans hBf).cell (p := ⟨v3.heap.size, 2, none⟩) hlt).trans m2
          have h3_ := (((Below.refl d4_.heap.size d4_).drew.trans hBf).cell (p := ⟨v3.heap.size, 3, none⟩) hlt).trans m3
          have h4_ := (((Below.refl d4_.heap.size d4_).drew.trans hBf).cell (p := ⟨v3.heap.size, 4, none⟩) hlt).trans m4
          have h5_ := (((Below.refl d4_.heap.size d4_).drew.trans hBf).cell (p := ⟨v3.heap.size, 5, none⟩) hlt).trans m5
          have h6_ := (((Below.refl d4_.heap.size d4_).drew.trans hBf).cell (p := ⟨v3.heap.size, 6, none⟩) hlt).trans m6
          go_simp
          exact hK.out _ _ ⟨rfl, Below.refl _ _⟩
        focus
          intro vs w2 hBf hFf o ho K hK
          obtain rfl : (⟨some 73, _, _, _, _, _⟩ : Oper) = o := Option.some.inj ho
          clear ho
          (try simp only [fillL, List.foldl_cons, List.foldl_nil, Act.put, List.setIfInBounds_toArray, List.set_cons_zero, List.set_cons_succ] at hK ⊢)
          have e71 := (hFf (6, 71) (by simp) (by kernel_rfl))
          have e72 := (hFf (7, 72) (by simp) (by kernel_rfl))
          simp only [] at e71 e72
          simp only [e71, e72] at hK ⊢
          rw [if_pos (by rfl)]
          go_simp
          refine (HCG.out _ ((Below.refl d4_.heap.size d4_).drew.trans hBf)).mono ?_
          rintro e w3 ⟨rfl, hB3⟩
          exact hK.out _ _ ⟨rfl, hB3⟩
        focus
          intro vs w2 hBf hFf o ho K hK
          obtain rfl : (⟨some 74, _, _, _, _, _⟩ : Oper) = o := Option.some.inj ho
          clear ho
          (try simp only [fillL, List.foldl_cons, List.foldl_nil, Act.put, List.setIfInBounds_toArray, List.set_cons_zero, List.set_cons_succ] at hK ⊢)
          have e71 := (hFf (6, 71) (by simp) (by kernel_rfl))
          simp only [] at e71
          simp only [e71] at hK ⊢
          rw [if_pos (by rfl)]
          have h0_ := (((Below.refl d4_.heap.size d4_).drew.trans hBf).cell (p := ⟨w.heap.size, 0, none⟩) hltx).trans n0
          have h1_ := (((Below.refl d4_.heap.size d4_).drew.trans hBf).cell (p := ⟨w.heap.size, 1, none⟩) hltx).trans n1
          have h2_ := (((Below.refl d4_.heap.size d4_).drew.trans hBf).cell (p := ⟨w.heap.size, 2, none⟩) hltx).trans n2
          have h3_ := (((Below.refl d4_.heap.size d4_).drew.trans hBf).cell (p := ⟨w.heap.size, 3, none⟩) hltx).trans n3
          have h4_ := (((Below.refl d4_.heap.size d4_).drew.trans hBf).cell (p := ⟨w.heap.size, 4, none⟩) hltx).trans n4
          have h5_ := (((Below.refl d4_.heap.size d4_).drew.trans hBf).cell (p := ⟨w.heap.size, 5, none⟩) hltx).trans n5
          have h6_ := (((Below.refl d4_.heap.size d4_).drew.trans hBf).cell (p := ⟨w.heap.size, 6, none⟩) hltx).trans n6
          go_simp
          exact hK.out _ _ ⟨rfl, Below.refl _ _⟩
        focus
          intro vs w2 hBf hFf o ho K hK
          obtain rfl : (⟨some 75, _, _, _, _, _⟩ : Oper) = o := Option.some.inj ho
          clear ho
          (try simp only [fillL, List.foldl_cons, List.foldl_nil, Act.put, List.setIfInBounds_toArray, List.set_cons_zero, List.set_cons_succ] at hK ⊢)
          have e71 := (hFf (6, 71) (by simp) (by kernel_rfl))
          have e74 := (hFf (9, 74) (by simp) (by kernel_rfl))
          simp only [] at e71 e74
          simp only [e71, e74] at hK ⊢
          rw [if_pos (by rfl)]
          go_simp
          refine (HCX.out _ ((Below.refl d4_.heap.size d4_).drew.trans hBf)).mono ?_
          rintro e w3 ⟨rfl, hB3⟩
          exact hK.out _ _ ⟨rfl, hB3⟩
        intro vs w2 hBf hFf
        (try simp only [fillL, List.foldl_cons, List.foldl_nil, Act.put, List.setIfInBounds_toArray, List.set_cons_zero, List.set_cons_succ])
        have e69 := (hFf (4, 69) (by simp))
        have e70 := (hFf (5, 70) (by simp))
        have e71 := (hFf (6, 71) (by simp))
        have e72 := (hFf (7, 72) (by simp))
        have e73 := (hFf (8, 73) (by simp))
        have e74 := (hFf (9, 74) (by simp))
        have e75 := (hFf (10, 75) (by simp))
        simp only [] at e69 e70 e71 e72 e73 e74 e75
        simp only [e69, e70, e71, e72, e73, e74, e75]
        have hBw : Below d4_.heap.size d4_ w2 := ((Below.refl d4_.heap.size d4_).drew.trans hBf)
        refine wpAnyL_last (i := 11) (o := ⟨some 76, _, _, _, _, _⟩) (by kernel_rfl) rfl (by kernel_rfl) (fun K hK => ?_)
        go_simp
        refine hK.out _ _ ?_
        clear hK K
        try simp only [Act.put, pA, pB, pC]
        refine wpAnyL_last (i := 12) (o := ⟨some 77, _, _, _, _, _⟩) (by kernel_rfl) rfl (by kernel_rfl) (fun K hK => ?_)
        go_simp
        refine hK.out _ _ ?_
        clear hK K
        try simp only [Act.put, pA, pB, pC]
        refine wpAnyL_last (i := 13) (o := ⟨some 78, _, _, _, _, _⟩) (by kernel_rfl) rfl (by kernel_rfl) (fun K hK => ?_)
        go_simp
        refine hK.out _ _ ?_
        clear hK K
        try simp only [Act.put, pA, pB, pC]
        refine wpAnyL_last (i := 14) (o := ⟨some 8, _, _, _, _, _⟩) (by kernel_rfl) rfl (by kernel_rfl) (fun K hK => ?_)
        go_simp
        refine hK.out _ _ ?_
        clear hK K
        try simp only [Act.put, pA, pB, pC]
        refine wpAnyL_done (by kernel_rfl) ?_ _
        refine NoPanic.normal ?_
        go_wp2
        go_ret
        exact ⟨rfl, hB1.trans ((hU3.trans ((hT4.trans (hBw.mono hT4.size)).mono hU3.size)).mono hs1)⟩
      · have qe1 : (E3 == 0) = false := beq_eq_false_iff_ne.2 he3
        have qe2 : (E3 != 0) = true := bne_iff_ne.2 he3
        have qe3 : (!(E3 == 0)) = true := by rw [qe1]; rfl
        go_wp2_with (go_big_quiet (fail))
        go_ret
        first
          | exact ⟨rfl, hB1.trans ((hU3.trans (hT4.mono hU3.size)).mono hs1)⟩
          | exact ⟨rfl, hB1.trans ((hU3.trans ((hT4.trans ((belowDrewN d4_ _ _).mono hT4.size)).mono hU3.size)).mono hs1)⟩

end Go.Proofs.YtnioelkibghplaaGreat
