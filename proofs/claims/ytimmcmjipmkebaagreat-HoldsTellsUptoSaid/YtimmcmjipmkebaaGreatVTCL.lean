/-
 Copies of a block, a property, a grant, an entry. Conditions: they are as they come in.
-/
import Derived.Test.YtimmcmjipmkebaaGreatVGRX
import Derived.Test.YtimmcmjipmkebaaGreatVENN
import Derived.Deep.DeepCutAuto
import Derived.BigQuiet
namespace Go.Proofs.YtimmcmjipmkebaaGreat
set_option maxHeartbeats 2000000
open Go.ChangeShapes Go.WideShapes Go.ChangeAt Go.RowKit
set_option maxRecDepth 100000
set_option linter.unusedSimpArgs false
theorem copiedBk (x1 : Int) (x2 : ByteArray) (h2 : x2.size ≤ 140737488351232) (w : World) :
 Calls Tryz.prog 155 #[.agg #[.int .i64 x1, .string x2]] w fun e w' => e = .returned (.agg #[.int .i64 x1, .string x2]) ∧ Below w.heap.size w w' := by
 obtain ⟨u1, hw1⟩ : ∃ u1, w.alloc (.cells #[.int .i64 x1, .string x2] 106) = u1 := ⟨_, rfl⟩
 have k1 : Blk u1 w.heap.size 106 [.int .i64 x1, .string x2] := hw1 ▸ Blk.new w _ _
 have hB1 : Below w.heap.size w u1 := hw1 ▸ (Below.refl _ w).alloc (Nat.le_refl _) _
 have hlt1 : w.heap.size < u1.heap.size := k1.lt
 obtain ⟨u2, hw2⟩ : ∃ u2, u1.alloc (.cells #[.int .i64 0, .string ⟨#[]⟩] 106) = u2 := ⟨_, rfl⟩
 have k2 : Blk u2 u1.heap.size 106 [.int .i64 0, .string ⟨#[]⟩] := hw2 ▸ Blk.new u1 _ _
 have hB2 : Below u1.heap.size u1 u2 := hw2 ▸ (Below.refl _ u1).alloc (Nat.le_refl _) _
 have hlt2 : u1.heap.size < u2.heap.size := k2.lt
 have hlt12 : w.heap.size < u2.heap.size := by omega
 have k12 := k1.below hB2 hlt1
 have x0_ := k12.cell 0
 have x1_ := k12.cell 1
 simp only [gZa, gZb] at x0_ x1_
 have HK2 := zI k2
 have HB1 := zI hB1
 have HB2 := zI hB2
 have HW1 := zI hw1
 have HW2 := zI hw2
 clear k1 k2 k12 hB1 hB2 hw1 hw2
 go_enter Tryz.func155, Tryz.ntmps155
 go_upto_region 1 with fail
 have hX : w.heap.size + 1 = u1.heap.size := by rw [← HW1.out, World.size_alloc]
 rw [HW1.out, HW2.out, hX]
 refine wp_region_noPanic ?_
 refine zcX 6 (fun W' => W'.cell? ⟨w.heap.size, 0, none⟩ = some (.int .i64 x1) ∧ W'.cell? ⟨w.heap.size, 1, none⟩ = some (.string x2)) (by kernel_rfl) ⟨x0_, x1_⟩ (fun hHeld => ?_)
 refine tkA 16 (i := 0) (oi := ⟨some 3, _, _, _, _, _⟩) rfl hHeld ?_
 try simp only [zP]
 refine tkA 16 (i := 1) (oi := ⟨some 4, _, _, _, _, _⟩) rfl hHeld ?_
 try simp only [zP]
 refine tkA 16 (i := 2) (oi := ⟨some 5, _, _, _, _, _⟩) rfl hHeld ?_
 try simp only [zP]
 refine tkA 16 (i := 3) (oi := ⟨some 6, _, _, _, _, _⟩) rfl hHeld ?_
 try simp only [zP]
 clear hHeld
 refine zdZ 16 2 1 [(4, 7), (5, 8)] (fun s v w => match s with
  | 7 => v = .string x2
  | 8 => v = .agg #[.int .i64 x1, .string x2]
  | _ => True) (fun w w' => Below w.heap.size w w') (by kernel_rfl) (by kernel_rfl) bZh ⟨?_, ?_, trivial⟩ (fun w' hB => ⟨(hB.cell (p := ⟨w.heap.size, 0, none⟩) hlt12).trans x0_, (hB.cell (p := ⟨w.heap.size, 1, none⟩) hlt12).trans x1_⟩) ⟨?_, ?_, trivial⟩ ?_
 focus
  intro v w w' h hB
  exact h
 focus
  intro v w w' h hB
  exact h
 focus
  intro vs w2 hBf hFf o ho K hK
  obtain rfl : (⟨some 7, _, _, _, _, _⟩ : Oper) = o := Option.some.inj ho
  clear ho
  (try simp only [fillL, zQ, zP] at hK ⊢)
  go_simp
  refine (cloneU_any x2 (by omega) w2).mono ?_
  rintro e w3 ⟨rfl, hB9⟩
  refine hK.out _ _ ⟨rfl, hB9⟩
 focus
  intro vs w2 hBf hFf o ho K hK
  obtain rfl : (⟨some 8, _, _, _, _, _⟩ : Oper) = o := Option.some.inj ho
  clear ho
  (try simp only [fillL, zQ, zP] at hK ⊢)
  have e1 : vs 7 = .string x2 := (hFf (4, 7) (by simp) (by kernel_rfl))
  simp only [e1] at hK ⊢
  go_simp
  refine hK.out _ _ ⟨rfl, Below.refl _ _⟩
 intro vs w2 hBf hFf
 (try simp only [fillL, zQ, zP])
 have e1 : vs 8 = .agg #[.int .i64 x1, .string x2] := (hFf (5, 8) (by simp))
 have KX := HK2.out.below ((Below.refl _ _).drew.trans hBf) HK2.out.lt
 simp only [e1]
 have fx0 := KX.frozen 0
 have cx0 := KX.cell 0
 have fx1 := KX.frozen 1
 have cx1 := KX.cell 1
 simp only [gZa, gZb] at cx0 cx1
 refine zcZ (i := 6) (o := ⟨none, _, _, _, _, _⟩) (by kernel_rfl) rfl (by kernel_rfl) (fun K hK => ?_)
 go_simp
 go_wp2_with fail
 refine hK.out _ _ ?_
 clear hK K
 try simp only [zP]
 refine zdQ (by kernel_rfl) ?_ _
 refine NoPanic.normal ?_
 have k5 : Blk ((w2.setCell ⟨u1.heap.size, 0, none⟩ (.int .i64 x1)).setCell ⟨u1.heap.size, 1, none⟩ (.string x2)) u1.heap.size 106 [.int .i64 x1, .string x2] := ((KX.set 0 (.int .i64 x1)).set 1 (.string x2))
 have hB02 : Below w.heap.size w u2 := HB1.out.trans (HB2.out.mono HB1.out.size)
 have hB2 : Below w.heap.size w w2 := hB02.trans ((((Below.refl _ u2).drew.trans hBf)).mono hB02.size)
 have hB5 := (((hB2.setCell (p := ⟨u1.heap.size, 0, none⟩) (by show w.heap.size ≤ u1.heap.size; omega) (.int .i64 x1)).setCell (p := ⟨u1.heap.size, 1, none⟩) (by show w.heap.size ≤ u1.heap.size; omega) (.string x2)) : Below w.heap.size w ((w2.setCell ⟨u1.heap.size, 0, none⟩ (.int .i64 x1)).setCell ⟨u1.heap.size, 1, none⟩ (.string x2)))
 have z0_ := k5.cell 0
 have z1_ := k5.cell 1
 simp only [gZa, gZb] at z0_ z1_
 generalize ((w2.setCell ⟨u1.heap.size, 0, none⟩ (.int .i64 x1)).setCell ⟨u1.heap.size, 1, none⟩ (.string x2)) = w5 at *
 go_wp2
 refine bodyPost_ret (v := .agg #[.int .i64 x1, .string x2]) (by simp [results, Tryz.results155, go_sem, z0_, z1_]) rfl ⟨rfl, hB5⟩
theorem copiedPr (x1 x2 : ByteArray) (h1 : x1.size ≤ 140737488351232) (h2 : x2.size ≤ 140737488351232) (w : World) :
 Calls Tryz.prog 159 #[.agg #[.string x1, .string x2]] w fun e w' => e = .returned (.agg #[.string x1, .string x2]) ∧ Below w.heap.size w w' := by
 obtain ⟨u1, hw1⟩ : ∃ u1, w.alloc (.cells #[.string x1, .string x2] 109) = u1 := ⟨_, rfl⟩
 have k1 : Blk u1 w.heap.size 109 [.string x1, .string x2] := hw1 ▸ Blk.new w _ _
 have hB1 : Below w.heap.size w u1 := hw1 ▸ (Below.refl _ w).alloc (Nat.le_refl _) _
 have hlt1 : w.heap.size < u1.heap.size := k1.lt
 obtain ⟨u2, hw2⟩ : ∃ u2, u1.alloc (.cells #[.string ⟨#[]⟩, .string ⟨#[]⟩] 109) = u2 := ⟨_, rfl⟩
 have k2 : Blk u2 u1.heap.size 109 [.string ⟨#[]⟩, .string ⟨#[]⟩] := hw2 ▸ Blk.new u1 _ _
 have hB2 : Below u1.heap.size u1 u2 := hw2 ▸ (Below.refl _ u1).alloc (Nat.le_refl _) _
 have hlt2 : u1.heap.size < u2.heap.size := k2.lt
 have hlt12 : w.heap.size < u2.heap.size := by omega
 have k12 := k1.below hB2 hlt1
 have x0_ := k12.cell 0
 have x1_ := k12.cell 1
 simp only [gZa, gZb] at x0_ x1_
 have HK2 := zI k2
 have HB1 := zI hB1
 have HB2 := zI hB2
 have HW1 := zI hw1
 have HW2 := zI hw2
 clear k1 k2 k12 hB1 hB2 hw1 hw2
 go_enter Tryz.func159, Tryz.ntmps159
 go_upto_region 1 with fail
 have hX : w.heap.size + 1 = u1.heap.size := by rw [← HW1.out, World.size_alloc]
 rw [HW1.out, HW2.out, hX]
 refine wp_region_noPanic ?_
 refine zcX 7 (fun W' => W'.cell? ⟨w.heap.size, 0, none⟩ = some (.string x1) ∧ W'.cell? ⟨w.heap.size, 1, none⟩ = some (.string x2)) (by kernel_rfl) ⟨x0_, x1_⟩ (fun hHeld => ?_)
 refine tkA 16 (i := 0) (oi := ⟨some 3, _, _, _, _, _⟩) rfl hHeld ?_
 try simp only [zP]
 refine tkA 16 (i := 1) (oi := ⟨some 4, _, _, _, _, _⟩) rfl hHeld ?_
 try simp only [zP]
 refine tkA 16 (i := 3) (oi := ⟨some 6, _, _, _, _, _⟩) rfl hHeld ?_
 try simp only [zP]
 refine tkA 16 (i := 4) (oi := ⟨some 7, _, _, _, _, _⟩) rfl hHeld ?_
 try simp only [zP]
 clear hHeld
 refine zdZ 16 3 1 [(2, 5), (5, 8), (6, 9)] (fun s v w => match s with
  | 5 => v = .string x1
  | 8 => v = .string x2
  | 9 => v = .agg #[.string x1, .string x2]
  | _ => True) (fun w w' => Below w.heap.size w w') (by kernel_rfl) (by kernel_rfl) bZh ⟨?_, ?_, ?_, trivial⟩ (fun w' hB => ⟨(hB.cell (p := ⟨w.heap.size, 0, none⟩) hlt12).trans x0_, (hB.cell (p := ⟨w.heap.size, 1, none⟩) hlt12).trans x1_⟩) ⟨?_, ?_, ?_, trivial⟩ ?_
 focus
  intro v w w' h hB
  exact h
 focus
  intro v w w' h hB
  exact h
 focus
  intro v w w' h hB
  exact h
 focus
  intro vs w2 hBf hFf o ho K hK
  obtain rfl : (⟨some 5, _, _, _, _, _⟩ : Oper) = o := Option.some.inj ho
  clear ho
  (try simp only [fillL, zQ, zP] at hK ⊢)
  go_simp
  refine (cloneU_any x1 (by omega) w2).mono ?_
  rintro e w3 ⟨rfl, hB9⟩
  refine hK.out _ _ ⟨rfl, hB9⟩
 focus
  intro vs w2 hBf hFf o ho K hK
  obtain rfl : (⟨some 8, _, _, _, _, _⟩ : Oper) = o := Option.some.inj ho
  clear ho
  (try simp only [fillL, zQ, zP] at hK ⊢)
  go_simp
  refine (cloneU_any x2 (by omega) w2).mono ?_
  rintro e w3 ⟨rfl, hB9⟩
  refine hK.out _ _ ⟨rfl, hB9⟩
 focus
  intro vs w2 hBf hFf o ho K hK
  obtain rfl : (⟨some 9, _, _, _, _, _⟩ : Oper) = o := Option.some.inj ho
  clear ho
  (try simp only [fillL, zQ, zP] at hK ⊢)
  have e1 : vs 5 = .string x1 := (hFf (2, 5) (by simp) (by kernel_rfl))
  have e2 : vs 8 = .string x2 := (hFf (5, 8) (by simp) (by kernel_rfl))
  simp only [e1, e2] at hK ⊢
  go_simp
  refine hK.out _ _ ⟨rfl, Below.refl _ _⟩
 intro vs w2 hBf hFf
 (try simp only [fillL, zQ, zP])
 have e1 : vs 9 = .agg #[.string x1, .string x2] := (hFf (6, 9) (by simp))
 have KX := HK2.out.below ((Below.refl _ _).drew.trans hBf) HK2.out.lt
 simp only [e1]
 have fx0 := KX.frozen 0
 have cx0 := KX.cell 0
 have fx1 := KX.frozen 1
 have cx1 := KX.cell 1
 simp only [gZa, gZb] at cx0 cx1
 refine zcZ (i := 7) (o := ⟨none, _, _, _, _, _⟩) (by kernel_rfl) rfl (by kernel_rfl) (fun K hK => ?_)
 go_simp
 go_wp2_with fail
 refine hK.out _ _ ?_
 clear hK K
 try simp only [zP]
 refine zdQ (by kernel_rfl) ?_ _
 refine NoPanic.normal ?_
 have k5 : Blk ((w2.setCell ⟨u1.heap.size, 0, none⟩ (.string x1)).setCell ⟨u1.heap.size, 1, none⟩ (.string x2)) u1.heap.size 109 [.string x1, .string x2] := ((KX.set 0 (.string x1)).set 1 (.string x2))
 have hB02 : Below w.heap.size w u2 := HB1.out.trans (HB2.out.mono HB1.out.size)
 have hB2 : Below w.heap.size w w2 := hB02.trans ((((Below.refl _ u2).drew.trans hBf)).mono hB02.size)
 have hB5 := (((hB2.setCell (p := ⟨u1.heap.size, 0, none⟩) (by show w.heap.size ≤ u1.heap.size; omega) (.string x1)).setCell (p := ⟨u1.heap.size, 1, none⟩) (by show w.heap.size ≤ u1.heap.size; omega) (.string x2)) : Below w.heap.size w ((w2.setCell ⟨u1.heap.size, 0, none⟩ (.string x1)).setCell ⟨u1.heap.size, 1, none⟩ (.string x2)))
 have z0_ := k5.cell 0
 have z1_ := k5.cell 1
 simp only [gZa, gZb] at z0_ z1_
 generalize ((w2.setCell ⟨u1.heap.size, 0, none⟩ (.string x1)).setCell ⟨u1.heap.size, 1, none⟩ (.string x2)) = w5 at *
 go_wp2
 refine bodyPost_ret (v := .agg #[.string x1, .string x2]) (by simp [results, Tryz.results159, go_sem, z0_, z1_]) rfl ⟨rfl, hB5⟩
theorem copiedGr (x1 x2 : ByteArray) (x3 : Int) (h1 : x1.size ≤ 140737488351232) (h2 : x2.size ≤ 140737488351232) (w : World) :
 Calls Tryz.prog 100 #[.agg #[.string x1, .string x2, .int .i64 x3]] w fun e w' => e = .returned (.agg #[.string x1, .string x2, .int .i64 x3]) ∧ Below w.heap.size w w' := by
 obtain ⟨u1, hw1⟩ : ∃ u1, w.alloc (.cells #[.string x1, .string x2, .int .i64 x3] 111) = u1 := ⟨_, rfl⟩
 have k1 : Blk u1 w.heap.size 111 [.string x1, .string x2, .int .i64 x3] := hw1 ▸ Blk.new w _ _
 have hB1 : Below w.heap.size w u1 := hw1 ▸ (Below.refl _ w).alloc (Nat.le_refl _) _
 have hlt1 : w.heap.size < u1.heap.size := k1.lt
 obtain ⟨u2, hw2⟩ : ∃ u2, u1.alloc (.cells #[.string ⟨#[]⟩, .string ⟨#[]⟩, .int .i64 0] 111) = u2 := ⟨_, rfl⟩
 have k2 : Blk u2 u1.heap.size 111 [.string ⟨#[]⟩, .string ⟨#[]⟩, .int .i64 0] := hw2 ▸ Blk.new u1 _ _
 have hB2 : Below u1.heap.size u1 u2 := hw2 ▸ (Below.refl _ u1).alloc (Nat.le_refl _) _
 have hlt2 : u1.heap.size < u2.heap.size := k2.lt
 have hlt12 : w.heap.size < u2.heap.size := by omega
 have k12 := k1.below hB2 hlt1
 have x0_ := k12.cell 0
 have x1_ := k12.cell 1
 have x2_ := k12.cell 2
 simp only [gZa, gZb] at x0_ x1_ x2_
 have HK2 := zI k2
 have HB1 := zI hB1
 have HB2 := zI hB2
 have HW1 := zI hw1
 have HW2 := zI hw2
 clear k1 k2 k12 hB1 hB2 hw1 hw2
 go_enter Tryz.func100, Tryz.ntmps100
 go_upto_region 1 with fail
 have hX : w.heap.size + 1 = u1.heap.size := by rw [← HW1.out, World.size_alloc]
 rw [HW1.out, HW2.out, hX]
 refine wp_region_noPanic ?_
 refine zcX 9 (fun W' => W'.cell? ⟨w.heap.size, 0, none⟩ = some (.string x1) ∧ W'.cell? ⟨w.heap.size, 1, none⟩ = some (.string x2) ∧ W'.cell? ⟨w.heap.size, 2, none⟩ = some (.int .i64 x3)) (by kernel_rfl) ⟨x0_, x1_, x2_⟩ (fun hHeld => ?_)
 refine tkA 16 (i := 0) (oi := ⟨some 3, _, _, _, _, _⟩) rfl hHeld ?_
 try simp only [zP]
 refine tkA 16 (i := 1) (oi := ⟨some 4, _, _, _, _, _⟩) rfl hHeld ?_
 try simp only [zP]
 refine tkA 16 (i := 3) (oi := ⟨some 6, _, _, _, _, _⟩) rfl hHeld ?_
 try simp only [zP]
 refine tkA 16 (i := 4) (oi := ⟨some 7, _, _, _, _, _⟩) rfl hHeld ?_
 try simp only [zP]
 refine tkA 16 (i := 6) (oi := ⟨some 9, _, _, _, _, _⟩) rfl hHeld ?_
 try simp only [zP]
 refine tkA 16 (i := 7) (oi := ⟨some 10, _, _, _, _, _⟩) rfl hHeld ?_
 try simp only [zP]
 clear hHeld
 refine zdZ 16 3 1 [(2, 5), (5, 8), (8, 11)] (fun s v w => match s with
  | 5 => v = .string x1
  | 8 => v = .string x2
  | 11 => v = .agg #[.string x1, .string x2, .int .i64 x3]
  | _ => True) (fun w w' => Below w.heap.size w w') (by kernel_rfl) (by kernel_rfl) bZh ⟨?_, ?_, ?_, trivial⟩ (fun w' hB => ⟨(hB.cell (p := ⟨w.heap.size, 0, none⟩) hlt12).trans x0_, (hB.cell (p := ⟨w.heap.size, 1, none⟩) hlt12).trans x1_, (hB.cell (p := ⟨w.heap.size, 2, none⟩) hlt12).trans x2_⟩) ⟨?_, ?_, ?_, trivial⟩ ?_
 focus
  intro v w w' h hB
  exact h
 focus
  intro v w w' h hB
  exact h
 focus
  intro v w w' h hB
  exact h
 focus
  intro vs w2 hBf hFf o ho K hK
  obtain rfl : (⟨some 5, _, _, _, _, _⟩ : Oper) = o := Option.some.inj ho
  clear ho
  (try simp only [fillL, zQ, zP] at hK ⊢)
  go_simp
  refine (cloneU_any x1 (by omega) w2).mono ?_
  rintro e w3 ⟨rfl, hB9⟩
  refine hK.out _ _ ⟨rfl, hB9⟩
 focus
  intro vs w2 hBf hFf o ho K hK
  obtain rfl : (⟨some 8, _, _, _, _, _⟩ : Oper) = o := Option.some.inj ho
  clear ho
  (try simp only [fillL, zQ, zP] at hK ⊢)
  go_simp
  refine (cloneU_any x2 (by omega) w2).mono ?_
  rintro e w3 ⟨rfl, hB9⟩
  refine hK.out _ _ ⟨rfl, hB9⟩
 focus
  intro vs w2 hBf hFf o ho K hK
  obtain rfl : (⟨some 11, _, _, _, _, _⟩ : Oper) = o := Option.some.inj ho
  clear ho
  (try simp only [fillL, zQ, zP] at hK ⊢)
  have e1 : vs 5 = .string x1 := (hFf (2, 5) (by simp) (by kernel_rfl))
  have e2 : vs 8 = .string x2 := (hFf (5, 8) (by simp) (by kernel_rfl))
  simp only [e1, e2] at hK ⊢
  go_simp
  refine hK.out _ _ ⟨rfl, Below.refl _ _⟩
 intro vs w2 hBf hFf
 (try simp only [fillL, zQ, zP])
 have e1 : vs 11 = .agg #[.string x1, .string x2, .int .i64 x3] := (hFf (8, 11) (by simp))
 have KX := HK2.out.below ((Below.refl _ _).drew.trans hBf) HK2.out.lt
 simp only [e1]
 have fx0 := KX.frozen 0
 have cx0 := KX.cell 0
 have fx1 := KX.frozen 1
 have cx1 := KX.cell 1
 have fx2 := KX.frozen 2
 have cx2 := KX.cell 2
 simp only [gZa, gZb] at cx0 cx1 cx2
 refine zcZ (i := 9) (o := ⟨none, _, _, _, _, _⟩) (by kernel_rfl) rfl (by kernel_rfl) (fun K hK => ?_)
 go_simp
 go_wp2_with fail
 refine hK.out _ _ ?_
 clear hK K
 try simp only [zP]
 refine zdQ (by kernel_rfl) ?_ _
 refine NoPanic.normal ?_
 have k5 : Blk (((w2.setCell ⟨u1.heap.size, 0, none⟩ (.string x1)).setCell ⟨u1.heap.size, 1, none⟩ (.string x2)).setCell ⟨u1.heap.size, 2, none⟩ (.int .i64 x3)) u1.heap.size 111 [.string x1, .string x2, .int .i64 x3] := (((KX.set 0 (.string x1)).set 1 (.string x2)).set 2 (.int .i64 x3))
 have hB02 : Below w.heap.size w u2 := HB1.out.trans (HB2.out.mono HB1.out.size)
 have hB2 : Below w.heap.size w w2 := hB02.trans ((((Below.refl _ u2).drew.trans hBf)).mono hB02.size)
 have hB5 := ((((hB2.setCell (p := ⟨u1.heap.size, 0, none⟩) (by show w.heap.size ≤ u1.heap.size; omega) (.string x1)).setCell (p := ⟨u1.heap.size, 1, none⟩) (by show w.heap.size ≤ u1.heap.size; omega) (.string x2)).setCell (p := ⟨u1.heap.size, 2, none⟩) (by show w.heap.size ≤ u1.heap.size; omega) (.int .i64 x3)) : Below w.heap.size w (((w2.setCell ⟨u1.heap.size, 0, none⟩ (.string x1)).setCell ⟨u1.heap.size, 1, none⟩ (.string x2)).setCell ⟨u1.heap.size, 2, none⟩ (.int .i64 x3)))
 have z0_ := k5.cell 0
 have z1_ := k5.cell 1
 have z2_ := k5.cell 2
 simp only [gZa, gZb] at z0_ z1_ z2_
 generalize (((w2.setCell ⟨u1.heap.size, 0, none⟩ (.string x1)).setCell ⟨u1.heap.size, 1, none⟩ (.string x2)).setCell ⟨u1.heap.size, 2, none⟩ (.int .i64 x3)) = w5 at *
 go_wp2
 refine bodyPost_ret (v := .agg #[.string x1, .string x2, .int .i64 x3]) (by simp [results, Tryz.results100, go_sem, z0_, z1_, z2_]) rfl ⟨rfl, hB5⟩
theorem copiedEn (x1 x3 : ByteArray) (x2 x4 : Int) (h1 : x1.size ≤ 140737488351232) (h3 : x3.size ≤ 140737488351232) (w : World) :
 Calls Tryz.prog 104 #[.agg #[.string x1, .int .i64 x2, .string x3, .int .i64 x4]] w fun e w' => e = .returned (.agg #[.string x1, .int .i64 x2, .string x3, .int .i64 x4]) ∧ Below w.heap.size w w' := by
 obtain ⟨u1, hw1⟩ : ∃ u1, w.alloc (.cells #[.string x1, .int .i64 x2, .string x3, .int .i64 x4] 104) = u1 := ⟨_, rfl⟩
 have k1 : Blk u1 w.heap.size 104 [.string x1, .int .i64 x2, .string x3, .int .i64 x4] := hw1 ▸ Blk.new w _ _
 have hB1 : Below w.heap.size w u1 := hw1 ▸ (Below.refl _ w).alloc (Nat.le_refl _) _
 have hlt1 : w.heap.size < u1.heap.size := k1.lt
 obtain ⟨u2, hw2⟩ : ∃ u2, u1.alloc (.cells #[.string ⟨#[]⟩, .int .i64 0, .string ⟨#[]⟩, .int .i64 0] 104) = u2 := ⟨_, rfl⟩
 have k2 : Blk u2 u1.heap.size 104 [.string ⟨#[]⟩, .int .i64 0, .string ⟨#[]⟩, .int .i64 0] := hw2 ▸ Blk.new u1 _ _
 have hB2 : Below u1.heap.size u1 u2 := hw2 ▸ (Below.refl _ u1).alloc (Nat.le_refl _) _
 have hlt2 : u1.heap.size < u2.heap.size := k2.lt
 have hlt12 : w.heap.size < u2.heap.size := by omega
 have k12 := k1.below hB2 hlt1
 have x0_ := k12.cell 0
 have x1_ := k12.cell 1
 have x2_ := k12.cell 2
 have x3_ := k12.cell 3
 simp only [gZa, gZb] at x0_ x1_ x2_ x3_
 have HK2 := zI k2
 have HB1 := zI hB1
 have HB2 := zI hB2
 have HW1 := zI hw1
 have HW2 := zI hw2
 clear k1 k2 k12 hB1 hB2 hw1 hw2
 go_enter Tryz.func104, Tryz.ntmps104
 go_upto_region 1 with fail
 have hX : w.heap.size + 1 = u1.heap.size := by rw [← HW1.out, World.size_alloc]
 rw [HW1.out, HW2.out, hX]
 refine wp_region_noPanic ?_
 refine zcX 11 (fun W' => W'.cell? ⟨w.heap.size, 0, none⟩ = some (.string x1) ∧ W'.cell? ⟨w.heap.size, 1, none⟩ = some (.int .i64 x2) ∧ W'.cell? ⟨w.heap.size, 2, none⟩ = some (.string x3) ∧ W'.cell? ⟨w.heap.size, 3, none⟩ = some (.int .i64 x4)) (by kernel_rfl) ⟨x0_, x1_, x2_, x3_⟩ (fun hHeld => ?_)
 refine tkA 16 (i := 0) (oi := ⟨some 3, _, _, _, _, _⟩) rfl hHeld ?_
 try simp only [zP]
 refine tkA 16 (i := 1) (oi := ⟨some 4, _, _, _, _, _⟩) rfl hHeld ?_
 try simp only [zP]
 refine tkA 16 (i := 3) (oi := ⟨some 6, _, _, _, _, _⟩) rfl hHeld ?_
 try simp only [zP]
 refine tkA 16 (i := 4) (oi := ⟨some 7, _, _, _, _, _⟩) rfl hHeld ?_
 try simp only [zP]
 refine tkA 16 (i := 5) (oi := ⟨some 8, _, _, _, _, _⟩) rfl hHeld ?_
 try simp only [zP]
 refine tkA 16 (i := 6) (oi := ⟨some 9, _, _, _, _, _⟩) rfl hHeld ?_
 try simp only [zP]
 refine tkA 16 (i := 8) (oi := ⟨some 11, _, _, _, _, _⟩) rfl hHeld ?_
 try simp only [zP]
 refine tkA 16 (i := 9) (oi := ⟨some 12, _, _, _, _, _⟩) rfl hHeld ?_
 try simp only [zP]
 clear hHeld
 refine zdZ 16 3 1 [(2, 5), (7, 10), (10, 13)] (fun s v w => match s with
  | 5 => v = .string x1
  | 10 => v = .string x3
  | 13 => v = .agg #[.string x1, .int .i64 x2, .string x3, .int .i64 x4]
  | _ => True) (fun w w' => Below w.heap.size w w') (by kernel_rfl) (by kernel_rfl) bZh ⟨?_, ?_, ?_, trivial⟩ (fun w' hB => ⟨(hB.cell (p := ⟨w.heap.size, 0, none⟩) hlt12).trans x0_, (hB.cell (p := ⟨w.heap.size, 1, none⟩) hlt12).trans x1_, (hB.cell (p := ⟨w.heap.size, 2, none⟩) hlt12).trans x2_, (hB.cell (p := ⟨w.heap.size, 3, none⟩) hlt12).trans x3_⟩) ⟨?_, ?_, ?_, trivial⟩ ?_
 focus
  intro v w w' h hB
  exact h
 focus
  intro v w w' h hB
  exact h
 focus
  intro v w w' h hB
  exact h
 focus
  intro vs w2 hBf hFf o ho K hK
  obtain rfl : (⟨some 5, _, _, _, _, _⟩ : Oper) = o := Option.some.inj ho
  clear ho
  (try simp only [fillL, zQ, zP] at hK ⊢)
  go_simp
  refine (cloneU_any x1 (by omega) w2).mono ?_
  rintro e w3 ⟨rfl, hB9⟩
  refine hK.out _ _ ⟨rfl, hB9⟩
 focus
  intro vs w2 hBf hFf o ho K hK
  obtain rfl : (⟨some 10, _, _, _, _, _⟩ : Oper) = o := Option.some.inj ho
  clear ho
  (try simp only [fillL, zQ, zP] at hK ⊢)
  go_simp
  refine (cloneU_any x3 (by omega) w2).mono ?_
  rintro e w3 ⟨rfl, hB9⟩
  refine hK.out _ _ ⟨rfl, hB9⟩
 focus
  intro vs w2 hBf hFf o ho K hK
  obtain rfl : (⟨some 13, _, _, _, _, _⟩ : Oper) = o := Option.some.inj ho
  clear ho
  (try simp only [fillL, zQ, zP] at hK ⊢)
  have e1 : vs 5 = .string x1 := (hFf (2, 5) (by simp) (by kernel_rfl))
  have e2 : vs 10 = .string x3 := (hFf (7, 10) (by simp) (by kernel_rfl))
  simp only [e1, e2] at hK ⊢
  go_simp
  refine hK.out _ _ ⟨rfl, Below.refl _ _⟩
 intro vs w2 hBf hFf
 (try simp only [fillL, zQ, zP])
 have e1 : vs 13 = .agg #[.string x1, .int .i64 x2, .string x3, .int .i64 x4] := (hFf (10, 13) (by simp))
 have KX := HK2.out.below ((Below.refl _ _).drew.trans hBf) HK2.out.lt
 simp only [e1]
 have fx0 := KX.frozen 0
 have cx0 := KX.cell 0
 have fx1 := KX.frozen 1
 have cx1 := KX.cell 1
 have fx2 := KX.frozen 2
 have cx2 := KX.cell 2
 have fx3 := KX.frozen 3
 have cx3 := KX.cell 3
 simp only [gZa, gZb] at cx0 cx1 cx2 cx3
 refine zcZ (i := 11) (o := ⟨none, _, _, _, _, _⟩) (by kernel_rfl) rfl (by kernel_rfl) (fun K hK => ?_)
 go_simp
 go_wp2_with fail
 refine hK.out _ _ ?_
 clear hK K
 try simp only [zP]
 refine zdQ (by kernel_rfl) ?_ _
 refine NoPanic.normal ?_
 have k5 : Blk ((((w2.setCell ⟨u1.heap.size, 0, none⟩ (.string x1)).setCell ⟨u1.heap.size, 1, none⟩ (.int .i64 x2)).setCell ⟨u1.heap.size, 2, none⟩ (.string x3)).setCell ⟨u1.heap.size, 3, none⟩ (.int .i64 x4)) u1.heap.size 104 [.string x1, .int .i64 x2, .string x3, .int .i64 x4] := ((((KX.set 0 (.string x1)).set 1 (.int .i64 x2)).set 2 (.string x3)).set 3 (.int .i64 x4))
 have hB02 : Below w.heap.size w u2 := HB1.out.trans (HB2.out.mono HB1.out.size)
 have hB2 : Below w.heap.size w w2 := hB02.trans ((((Below.refl _ u2).drew.trans hBf)).mono hB02.size)
 have hB5 := (((((hB2.setCell (p := ⟨u1.heap.size, 0, none⟩) (by show w.heap.size ≤ u1.heap.size; omega) (.string x1)).setCell (p := ⟨u1.heap.size, 1, none⟩) (by show w.heap.size ≤ u1.heap.size; omega) (.int .i64 x2)).setCell (p := ⟨u1.heap.size, 2, none⟩) (by show w.heap.size ≤ u1.heap.size; omega) (.string x3)).setCell (p := ⟨u1.heap.size, 3, none⟩) (by show w.heap.size ≤ u1.heap.size; omega) (.int .i64 x4)) : Below w.heap.size w ((((w2.setCell ⟨u1.heap.size, 0, none⟩ (.string x1)).setCell ⟨u1.heap.size, 1, none⟩ (.int .i64 x2)).setCell ⟨u1.heap.size, 2, none⟩ (.string x3)).setCell ⟨u1.heap.size, 3, none⟩ (.int .i64 x4)))
 have z0_ := k5.cell 0
 have z1_ := k5.cell 1
 have z2_ := k5.cell 2
 have z3_ := k5.cell 3
 simp only [gZa, gZb] at z0_ z1_ z2_ z3_
 generalize ((((w2.setCell ⟨u1.heap.size, 0, none⟩ (.string x1)).setCell ⟨u1.heap.size, 1, none⟩ (.int .i64 x2)).setCell ⟨u1.heap.size, 2, none⟩ (.string x3)).setCell ⟨u1.heap.size, 3, none⟩ (.int .i64 x4)) = w5 at *
 go_wp2
 refine bodyPost_ret (v := .agg #[.string x1, .int .i64 x2, .string x3, .int .i64 x4]) (by simp [results, Tryz.results104, go_sem, z0_, z1_, z2_, z3_]) rfl ⟨rfl, hB5⟩
end Go.Proofs.YtimmcmjipmkebaaGreat
