/-
  Copies of a stage. Conditions: it is as it comes in.
-/
import Derived.Test.YtimmcmjipmkebaaGreatVTCT
import Derived.Laws.CopyOwn
import Derived.BigQuiet
namespace Go.Proofs.YtimmcmjipmkebaaGreat
open Go.ChangeShapes Go.WideShapes Go.ChangeAt Go.RowKit
set_option maxRecDepth 100000
set_option linter.unusedSimpArgs false
theorem own_row {W : World} {n e size k B : Nat} {v : Value} {xs : List Value} {cs : Array Value} (h : W.ownsRow n e size v k xs) (hb : B < n) : (W.setRow B cs).ownsRow n e size v k xs :=
  ownStay h fun b hv => setRow_other W B b cs (by have := (h.lt b hv).1; omega)
theorem Bx.row {w u : World} {n B R : Nat} {t : TypeId} {C Z : List Value} (h : Bx w n t B R C Z u) (cs : List Value) : Bx w n t B R C cs (u.setRow R cs.toArray) :=
  ⟨below_setRow h.below h.r0 _, (setRow_other u R B _ h.ne.symm).trans h.box, setRow_heap u R _ _ t _ h.res, by simpa [World.setRow] using h.big, h.b0, h.r0, h.bn, h.rn, h.ne⟩
attribute [-simp] Tryz.isAgg91 Tryz.sizeOf91
set_option maxHeartbeats 4000000 in
theorem copiedSt (x : Mta) (w : World) (hx : x.Good w) :
    Calls Tryz.prog 102 (#[.agg x.cells.toArray] ++ #[]) w fun e w' => ∃ y : Mta, e = .returned (.agg y.cells.toArray) ∧ OwnSt w.heap.size w' y ∧ y.plain = x.plain ∧ Below w.heap.size w w' := by
  obtain ⟨wb, hwb⟩ : ∃ wb, (w.alloc (.cells #[.string x.S_, .int .i64 x.o_.N_, .string x.o_.x_, .int .i64 x.o_.from_, .int .i64 x.o_.z_, .slice x.o_.j_.A x.o_.j_.l.length x.o_.j_.c, .int .i64 x.o_.E_, .int .i64 x.o_.Y_, .string x.o_.P_, .int .u64 x.o_.T_.a_, .int .u64 x.o_.T_.b_, .int .u64 x.o_.T_.c_, .int .u64 x.o_.T_.d_, .slice x.p_.A x.p_.l.length x.p_.c, .int .i64 x.at_, .int .i64 x.v_, .int .u64 x.T_.a_, .int .u64 x.T_.b_, .int .u64 x.T_.c_, .int .u64 x.T_.d_, .bool x.done_] 91)).alloc (.cells #[.string ⟨#[]⟩, .int .i64 0, .string ⟨#[]⟩, .int .i64 0, .int .i64 0, .slice none 0 0, .int .i64 0, .int .i64 0, .string ⟨#[]⟩, .int .u64 0, .int .u64 0, .int .u64 0, .int .u64 0, .slice none 0 0, .int .i64 0, .int .i64 0, .int .u64 0, .int .u64 0, .int .u64 0, .int .u64 0, .bool false] 91) = wb := ⟨_, rfl⟩
  have X0 : Bx w wb.heap.size 91 w.heap.size (w.heap.size + 1) [.string x.S_, .int .i64 x.o_.N_, .string x.o_.x_, .int .i64 x.o_.from_, .int .i64 x.o_.z_, .slice x.o_.j_.A x.o_.j_.l.length x.o_.j_.c, .int .i64 x.o_.E_, .int .i64 x.o_.Y_, .string x.o_.P_, .int .u64 x.o_.T_.a_, .int .u64 x.o_.T_.b_, .int .u64 x.o_.T_.c_, .int .u64 x.o_.T_.d_, .slice x.p_.A x.p_.l.length x.p_.c, .int .i64 x.at_, .int .i64 x.v_, .int .u64 x.T_.a_, .int .u64 x.T_.b_, .int .u64 x.T_.c_, .int .u64 x.T_.d_, .bool x.done_] [.string ⟨#[]⟩, .int .i64 0, .string ⟨#[]⟩, .int .i64 0, .int .i64 0, .slice none 0 0, .int .i64 0, .int .i64 0, .string ⟨#[]⟩, .int .u64 0, .int .u64 0, .int .u64 0, .int .u64 0, .slice none 0 0, .int .i64 0, .int .i64 0, .int .u64 0, .int .u64 0, .int .u64 0, .int .u64 0, .bool false] wb := hwb ▸ Bx.new w 91 [.string x.S_, .int .i64 x.o_.N_, .string x.o_.x_, .int .i64 x.o_.from_, .int .i64 x.o_.z_, .slice x.o_.j_.A x.o_.j_.l.length x.o_.j_.c, .int .i64 x.o_.E_, .int .i64 x.o_.Y_, .string x.o_.P_, .int .u64 x.o_.T_.a_, .int .u64 x.o_.T_.b_, .int .u64 x.o_.T_.c_, .int .u64 x.o_.T_.d_, .slice x.p_.A x.p_.l.length x.p_.c, .int .i64 x.at_, .int .i64 x.v_, .int .u64 x.T_.a_, .int .u64 x.T_.b_, .int .u64 x.T_.c_, .int .u64 x.T_.d_, .bool x.done_] [.string ⟨#[]⟩, .int .i64 0, .string ⟨#[]⟩, .int .i64 0, .int .i64 0, .slice none 0 0, .int .i64 0, .int .i64 0, .string ⟨#[]⟩, .int .u64 0, .int .u64 0, .int .u64 0, .int .u64 0, .slice none 0 0, .int .i64 0, .int .i64 0, .int .u64 0, .int .u64 0, .int .u64 0, .int .u64 0, .bool false]
  have HG := zI hx
  have HX0 := zI X0
  have HW := zI hwb
  have hn2 : w.heap.size ≤ wb.heap.size := X0.below.size
  have a0 := X0.box.cell 0
  simp only [List.getElem?_cons_zero, List.getElem?_cons_succ, List.set_cons_zero, List.set_cons_succ] at a0
  clear X0 hwb hx
  go_enter Tryz.func102, Tryz.ntmps102
  go_upto_region 1 with fail
  rw [HW.out]
  have HC0 := zI (cloneU_any x.S_ (by have := HG.out.ginto_; omega) wb)
  go_wp2_with fail
  refine HC0.out.mono ?_
  rintro e v0 ⟨rfl, hV0⟩
  have V0 := HX0.out.call hV0
  have b0_0 := V0.box.cell 0
  simp only [List.getElem?_cons_zero, List.getElem?_cons_succ, List.set_cons_zero, List.set_cons_succ] at b0_0
  have f0 := V0.box.frozen 0
  have HX1 := zI (V0.set 0 (.string x.S_))
  obtain ⟨u1, hu1⟩ : ∃ u, v0.setCell ⟨w.heap.size, 0, none⟩ (.string x.S_) = u := ⟨_, rfl⟩
  rw [hu1] at HX1  
  simp only [List.set_cons_zero, List.set_cons_succ] at HX1
  have c1_2 := HX1.out.box.cell 2
  have c1_8 := HX1.out.box.cell 8
  simp only [List.getElem?_cons_zero, List.getElem?_cons_succ, List.set_cons_zero, List.set_cons_succ] at c1_2 c1_8
  clear V0 HC0
  obtain ⟨Bd, hBd⟩ : ∃ B, w.heap.size = B := ⟨_, rfl⟩
  have HBd := zI hBd
  clear hBd
  go_upto_region 2 with fail
  refine wp_region_noPanic ?_
  refine zcX 10 (fun W' => W'.cell? ⟨w.heap.size, 2, none⟩ = some (.string x.o_.x_) ∧ W'.cell? ⟨w.heap.size, 8, none⟩ = some (.string x.o_.P_)) (by kernel_rfl) ⟨c1_2, c1_8⟩ (fun hHeld => ?_)
  refine tkA 16 (i := 0) (oi := ⟨some 7, _, _, _, _, _⟩) rfl hHeld ?_
  try simp only [zP]
  refine tkA 16 (i := 1) (oi := ⟨some 8, _, _, _, _, _⟩) rfl hHeld ?_
  try simp only [zP]
  refine tkA 16 (i := 2) (oi := ⟨some 9, _, _, _, _, _⟩) rfl hHeld ?_
  try simp only [zP]
  refine tkA 16 (i := 4) (oi := ⟨some 11, _, _, _, _, _⟩) rfl hHeld ?_
  try simp only [zP]
  refine tkA 16 (i := 5) (oi := ⟨some 12, _, _, _, _, _⟩) rfl hHeld ?_
  try simp only [zP]
  refine tkA 16 (i := 6) (oi := ⟨some 13, _, _, _, _, _⟩) rfl hHeld ?_
  try simp only [zP]
  clear hHeld
  refine zdZ 16 4 4 [(3, 10), (7, 14), (8, 15), (9, 16)] (fun s v w => match s with
    | 10 => v = .string x.o_.x_
    | 14 => v = .string x.o_.P_
    | 15 => v = .pointer (some ⟨Bd, 1, none⟩)
    | 16 => v = .pointer (some ⟨Bd, 2, none⟩)
    | _ => True) (fun w w' => Below w.heap.size w w') (by kernel_rfl) (by kernel_rfl) bZh ⟨?_, ?_, ?_, ?_, trivial⟩ (fun w' hB => ⟨(hB.cell (p := ⟨w.heap.size, 2, none⟩) HX1.out.box.lt).trans c1_2, (hB.cell (p := ⟨w.heap.size, 8, none⟩) HX1.out.box.lt).trans c1_8⟩) ⟨?_, ?_, ?_, ?_, trivial⟩ ?_
  focus
    intro v w w' h hB
    exact h
  focus
    intro v w w' h hB
    exact h
  focus
    intro v w w' h hB
    exact h
  focus
    intro v w w' h hB
    exact h
  focus
    intro vs w2 hBf hFf o ho K hK
    obtain rfl : (⟨some 10, _, _, _, _, _⟩ : Oper) = o := Option.some.inj ho
    clear ho
    (try simp only [fillL, zQ, zP] at hK ⊢)
    go_simp
    refine (cloneU_any x.o_.x_ (by have := HG.out.X_.L_; omega) w2).mono ?_
    rintro e w3 ⟨rfl, hB9⟩
    refine hK.out _ _ ⟨rfl, hB9⟩
  focus
    intro vs w2 hBf hFf o ho K hK
    obtain rfl : (⟨some 14, _, _, _, _, _⟩ : Oper) = o := Option.some.inj ho
    clear ho
    (try simp only [fillL, zQ, zP] at hK ⊢)
    go_simp
    refine (cloneU_any x.o_.P_ (by have := HG.out.X_.gdata_; omega) w2).mono ?_
    rintro e w3 ⟨rfl, hB9⟩
    refine hK.out _ _ ⟨rfl, hB9⟩
  focus
    intro vs w2 hBf hFf o ho K hK
    obtain rfl : (⟨some 15, _, _, _, _, _⟩ : Oper) = o := Option.some.inj ho
    clear ho
    (try simp only [fillL, zQ, zP] at hK ⊢)
    go_simp
    refine hK.out _ _ ⟨by rw [HBd.out], Below.refl _ _⟩
  focus
    intro vs w2 hBf hFf o ho K hK
    obtain rfl : (⟨some 16, _, _, _, _, _⟩ : Oper) = o := Option.some.inj ho
    clear ho
    (try simp only [fillL, zQ, zP] at hK ⊢)
    have e9 : vs 15 = .pointer (some ⟨Bd, 1, none⟩) := (hFf (8, 15) (by simp) (by kernel_rfl))
    simp only [e9] at hK ⊢
    go_simp
    refine hK.out _ _ ⟨rfl, Below.refl _ _⟩
  intro vs w2 hBf hFf
  (try simp only [fillL, zQ, zP])
  have p15 : vs 15 = .pointer (some ⟨w.heap.size, 1, none⟩) := by rw [HBd.out]; exact (hFf (8, 15) (by simp))
  have p16 : vs 16 = .pointer (some ⟨w.heap.size, 2, none⟩) := by rw [HBd.out]; exact (hFf (9, 16) (by simp))
  have e1 : vs 10 = .string x.o_.x_ := (hFf (3, 10) (by simp))
  have e2 : vs 14 = .string x.o_.P_ := (hFf (7, 14) (by simp))
  have YX := HX1.out.call ((Below.refl _ _).drew.trans hBf)
  simp only [e1, e2, p15, p16]
  have f1 := YX.box.frozen 2
  have f2 := YX.box.frozen 8
  have b1 := YX.box.cell 2
  have b2 := YX.box.cell 8
  simp only [List.getElem?_cons_zero, List.getElem?_cons_succ, List.set_cons_zero, List.set_cons_succ] at b1 b2
  refine zcZ (i := 10) (o := ⟨none, _, _, _, _, _⟩) (by kernel_rfl) rfl (by kernel_rfl) (fun K hK => ?_)
  go_simp
  go_wp2_with fail
  refine hK.out _ _ ?_
  clear hK K
  try simp only [zP]
  refine zcZ (i := 11) (o := ⟨some 17, _, _, _, _, _⟩) (by kernel_rfl) rfl (by kernel_rfl) (fun K hK => ?_)
  go_simp
  refine hK.out _ _ ?_
  clear hK K
  try simp only [zP]
  refine zcZ (i := 12) (o := ⟨some 18, _, _, _, _, _⟩) (by kernel_rfl) rfl (by kernel_rfl) (fun K hK => ?_)
  go_simp
  refine hK.out _ _ ?_
  clear hK K
  try simp only [zP]
  refine zcZ (i := 13) (o := ⟨none, _, _, _, _, _⟩) (by kernel_rfl) rfl (by kernel_rfl) (fun K hK => ?_)
  go_simp
  go_wp2_with fail
  refine hK.out _ _ ?_
  clear hK K
  try simp only [zP]
  refine zdQ (by kernel_rfl) ?_ _
  refine NoPanic.normal ?_
  have HX2 := zI ((YX.set 2 (.string x.o_.x_)).set 8 (.string x.o_.P_))
  obtain ⟨u2, hu2⟩ : ∃ u, (w2.setCell ⟨w.heap.size, 2, none⟩ (.string x.o_.x_)).setCell ⟨w.heap.size, 8, none⟩ (.string x.o_.P_) = u := ⟨_, rfl⟩
  rw [hu2] at HX2
  simp only [List.set_cons_zero, List.set_cons_succ] at HX2
  rw [hu2]
  clear hu2 YX f1 f2 b1 b2 e1 e2 p15 p16 hBf hFf
  have c2_5 := HX2.out.box.cell 5
  simp only [List.getElem?_cons_zero, List.getElem?_cons_succ, List.set_cons_zero, List.set_cons_succ] at c2_5
  have HC2 := zI (each_Pr 159 #[] (enters_of Tryz.func159 (by kernel_rfl) rfl) x.o_.j_ u2 HG.out.X_.G_.len (HG.out.X_.G_.rd.below HX2.out.below) (fun W b hb hW => (copiedPr b.1 b.2 (HG.out.X_.G_.el b hb).1 (HG.out.X_.G_.el b hb).2 W).mono fun e W' ⟨he, hB⟩ => ⟨b, he, trivial, rfl, hB⟩))
  go_wp2_with fail
  refine HC2.out.mono ?_
  rintro e v2 ⟨Y2, rfl, hm2, ho2, he2, hV2⟩
  have HM2 := zI hm2
  clear hm2
  have V2 := HX2.out.call hV2
  have b2_5 := V2.box.cell 5
  simp only [List.getElem?_cons_zero, List.getElem?_cons_succ, List.set_cons_zero, List.set_cons_succ] at b2_5
  have f2 := V2.box.frozen 5
  have HX3 := zI (V2.set 5 (.slice Y2.A Y2.l.length Y2.c))
  have RO2_3 := zI (zbQ (B := w.heap.size) (j := 5) (u := .slice Y2.A Y2.l.length Y2.c) (zfZ ho2 HX2.out.big) HX2.out.bn)
  obtain ⟨u3, hu3⟩ : ∃ u, v2.setCell ⟨w.heap.size, 5, none⟩ (.slice Y2.A Y2.l.length Y2.c) = u := ⟨_, rfl⟩
  rw [hu3] at HX3 RO2_3 
  simp only [List.set_cons_zero, List.set_cons_succ] at HX3
  have c3_13 := HX3.out.box.cell 13
  simp only [List.getElem?_cons_zero, List.getElem?_cons_succ, List.set_cons_zero, List.set_cons_succ] at c3_13
  clear V2 HC2
  have HC3 := zI (each_Bk 155 #[] (enters_of Tryz.func155 (by kernel_rfl) rfl) x.p_ u3 HG.out.K_.len (HG.out.K_.rd.below HX3.out.below) (fun W b hb hW => (copiedBk b.1 b.2 (HG.out.K_.el b hb).1 W).mono fun e W' ⟨he, hB⟩ => ⟨b, he, trivial, rfl, hB⟩))
  go_wp2_with fail
  refine HC3.out.mono ?_
  rintro e v3 ⟨Y3, rfl, hm3, ho3, he3, hV3⟩
  have HM3 := zI hm3
  clear hm3
  have V3 := HX3.out.call hV3
  have b3_13 := V3.box.cell 13
  simp only [List.getElem?_cons_zero, List.getElem?_cons_succ, List.set_cons_zero, List.set_cons_succ] at b3_13
  have f3 := V3.box.frozen 13
  have HX4 := zI (V3.set 13 (.slice Y3.A Y3.l.length Y3.c))
  have RO2_4 := zI (zbQ (B := w.heap.size) (j := 13) (u := .slice Y3.A Y3.l.length Y3.c) (zgQ RO2_3.out hV3 (Nat.le_refl _)) HX3.out.bn)
  have RO3_4 := zI (zbQ (B := w.heap.size) (j := 13) (u := .slice Y3.A Y3.l.length Y3.c) (zfZ ho3 HX3.out.big) HX3.out.bn)
  obtain ⟨u4, hu4⟩ : ∃ u, v3.setCell ⟨w.heap.size, 13, none⟩ (.slice Y3.A Y3.l.length Y3.c) = u := ⟨_, rfl⟩
  rw [hu4] at HX4 RO2_4 RO3_4 
  simp only [List.set_cons_zero, List.set_cons_succ] at HX4
  have c4_0 := HX4.out.box.cell 0
  have c4_1 := HX4.out.box.cell 1
  have c4_2 := HX4.out.box.cell 2
  have c4_3 := HX4.out.box.cell 3
  have c4_4 := HX4.out.box.cell 4
  have c4_5 := HX4.out.box.cell 5
  have c4_6 := HX4.out.box.cell 6
  have c4_7 := HX4.out.box.cell 7
  have c4_8 := HX4.out.box.cell 8
  have c4_9 := HX4.out.box.cell 9
  have c4_10 := HX4.out.box.cell 10
  have c4_11 := HX4.out.box.cell 11
  have c4_12 := HX4.out.box.cell 12
  have c4_13 := HX4.out.box.cell 13
  have c4_14 := HX4.out.box.cell 14
  have c4_15 := HX4.out.box.cell 15
  have c4_16 := HX4.out.box.cell 16
  have c4_17 := HX4.out.box.cell 17
  have c4_18 := HX4.out.box.cell 18
  have c4_19 := HX4.out.box.cell 19
  have c4_20 := HX4.out.box.cell 20
  simp only [List.getElem?_cons_zero, List.getElem?_cons_succ, List.set_cons_zero, List.set_cons_succ] at c4_0 c4_1 c4_2 c4_3 c4_4 c4_5 c4_6 c4_7 c4_8 c4_9 c4_10 c4_11 c4_12 c4_13 c4_14 c4_15 c4_16 c4_17 c4_18 c4_19 c4_20
  clear V3 HC3
  obtain ⟨cs, hcs⟩ : ∃ cs : List Value, [.string x.S_, .int .i64 x.o_.N_, .string x.o_.x_, .int .i64 x.o_.from_, .int .i64 x.o_.z_, .slice Y2.A Y2.l.length Y2.c, .int .i64 x.o_.E_, .int .i64 x.o_.Y_, .string x.o_.P_, .int .u64 x.o_.T_.a_, .int .u64 x.o_.T_.b_, .int .u64 x.o_.T_.c_, .int .u64 x.o_.T_.d_, .slice Y3.A Y3.l.length Y3.c, .int .i64 x.at_, .int .i64 x.v_, .int .u64 x.T_.a_, .int .u64 x.T_.b_, .int .u64 x.T_.c_, .int .u64 x.T_.d_, .bool x.done_] = cs := ⟨_, rfl⟩
  have HXm := HX4.out
  rw [hcs] at HXm
  have hn : cs.length = 21 := by rw [← hcs]; rfl
  have hone : ∀ v ∈ cs, v.oneCell' = true := by
    rw [← hcs]
    intro v hv
    simp only [List.mem_cons, List.not_mem_nil, or_false] at hv
    rcases hv with rfl | rfl | rfl | rfl | rfl | rfl | rfl | rfl | rfl | rfl | rfl | rfl | rfl | rfl | rfl | rfl | rfl | rfl | rfl | rfl | rfl <;> rfl
  have hld := run_loadCellsFrom_list Tryz.prog u4 ⟨w.heap.size, 0, none⟩ cs 21 hn (fun j v hv => by rw [Addr.add_lit, HXm.box.cell, Nat.zero_add]; exact hv)
  have hst := run_storeCells_from (P := Tryz.prog) (w.heap.size + 1) 91 cs 0 _ u4 HXm.res (by rw [hn]; rfl) hone
  rw [List.take_zero, List.nil_append] at hst
  have hst2 : (storeCells ⟨w.heap.size + 1, 0, none⟩ cs.toArray.toList 0).run Tryz.prog u4 = .ok () (u4.setRow (w.heap.size + 1) cs.toArray) := hst
  have hsz : cs.toArray.size = 21 := by simpa using hn
  have XF := HXm.row cs
  have RF2 := zI (own_row (cs := cs.toArray) RO2_4.out HX0.out.rn)
  have RF3 := zI (own_row (cs := cs.toArray) RO3_4.out HX0.out.rn)
  have HC := zI hcs
  clear hcs
  obtain ⟨ca, hca⟩ : ∃ ca : Array Value, cs.toArray = ca := ⟨_, rfl⟩
  rw [hca] at hld hst2 hsz RF2 RF3
  go_wp2_with fail
  simp only [Tryz.isAgg91, Tryz.sizeOf91, Result.andThen, ↓reduceIte, hld]
  rw [Oper.upon_value]
  go_wp2_with fail
  simp only [Tryz.sizeOf91, Result.andThen, ↓reduceIte, hsz, hst2]
  rw [Oper.upon_skip]
  go_wp2
  have hinf : (Tryz.prog.info? 91).map (·.size) = some ca.size := by rw [hsz]; kernel_rfl
  have hres : (u4.setRow (w.heap.size + 1) ca).heap[w.heap.size + 1]? = some (.cells ca 91 (0, 0)) := hca ▸ XF.res
  have hBF : Below w.heap.size w (u4.setRow (w.heap.size + 1) ca) := hca ▸ XF.below
  exact bodyPost_ret (v := .agg ca) (results_cell_row (p := 2) (ty := 91) Tryz.results102 _ _ (w.heap.size + 1) 91 ca (0, 0) _ rfl hres Tryz.underlying91 rfl hinf) rfl ⟨⟨x.S_, ⟨x.o_.N_, x.o_.x_, x.o_.from_, x.o_.z_, Y2, x.o_.E_, x.o_.Y_, x.o_.P_, x.o_.T_⟩, Y3, x.at_, x.v_, x.T_, x.done_⟩, (by rw [← hca, ← HC.out]), ⟨zfZ RF3.out hn2, zfZ RF2.out hn2⟩, (by simp only [Mta.plain, MR_.plain]; rw [show Y3.l = x.p_.l by simpa using HM3.out, show Y2.l = x.o_.j_.l by simpa using HM2.out]), hBF⟩
end Go.Proofs.YtimmcmjipmkebaaGreat
namespace Go.Proofs.YtimmcmjipmkebaaGreat
open Go.ChangeShapes Go.WideShapes Go.ChangeAt Go.RowKit
set_option maxRecDepth 100000
set_option linter.unusedSimpArgs false
set_option maxHeartbeats 4000000 in
theorem copy_sepX (x : MT_) (w : World) (hx : x.Good w) :
    Calls Tryz.prog 46 #[.agg x.cells.toArray] w fun e w' => ∃ y : MT_, e = .returned (.agg y.cells.toArray) ∧ OwnTe w.heap.size w' y ∧ y.plain = x.plain ∧ SepX y ∧ Below w.heap.size w w' := by
  obtain ⟨wb, hwb⟩ : ∃ wb, (w.alloc (.cells #[.string x.x_, .int .i64 x.r_, .int .i64 x.v_, .slice x.y_.A x.y_.l.length x.y_.c, .slice x.g_.A x.g_.l.length x.g_.c, .slice x.t_.A x.t_.l.length x.t_.c, .slice x.h_.A x.h_.l.length x.h_.c] 27)).alloc (.cells #[.string ⟨#[]⟩, .int .i64 0, .int .i64 0, .slice none 0 0, .slice none 0 0, .slice none 0 0, .slice none 0 0] 27) = wb := ⟨_, rfl⟩
  have X0 : Bx w wb.heap.size 27 w.heap.size (w.heap.size + 1) [.string x.x_, .int .i64 x.r_, .int .i64 x.v_, .slice x.y_.A x.y_.l.length x.y_.c, .slice x.g_.A x.g_.l.length x.g_.c, .slice x.t_.A x.t_.l.length x.t_.c, .slice x.h_.A x.h_.l.length x.h_.c] [.string ⟨#[]⟩, .int .i64 0, .int .i64 0, .slice none 0 0, .slice none 0 0, .slice none 0 0, .slice none 0 0] wb := hwb ▸ Bx.new w 27 [.string x.x_, .int .i64 x.r_, .int .i64 x.v_, .slice x.y_.A x.y_.l.length x.y_.c, .slice x.g_.A x.g_.l.length x.g_.c, .slice x.t_.A x.t_.l.length x.t_.c, .slice x.h_.A x.h_.l.length x.h_.c] [.string ⟨#[]⟩, .int .i64 0, .int .i64 0, .slice none 0 0, .slice none 0 0, .slice none 0 0, .slice none 0 0]
  have HG := zI hx
  have HX0 := zI X0
  have HW := zI hwb
  have hn2 : w.heap.size ≤ wb.heap.size := X0.below.size
  have a0 := X0.box.cell 0
  simp only [List.getElem?_cons_zero, List.getElem?_cons_succ, List.set_cons_zero, List.set_cons_succ] at a0
  clear X0 hwb hx
  go_enter Tryz.func46, Tryz.ntmps46
  go_upto_region 1 with fail
  rw [HW.out]
  have HC0 := zI (cloneU_any x.x_ (by have := HG.out.L_; omega) wb)
  go_wp2_with fail
  refine HC0.out.mono ?_
  rintro e v0 ⟨rfl, hV0⟩
  have V0 := HX0.out.call hV0
  have b0_0 := V0.box.cell 0
  simp only [List.getElem?_cons_zero, List.getElem?_cons_succ, List.set_cons_zero, List.set_cons_succ] at b0_0
  have f0 := V0.box.frozen 0
  have HX1 := zI (V0.set 0 (.string x.x_))
  obtain ⟨u1, hu1⟩ : ∃ u, v0.setCell ⟨w.heap.size, 0, none⟩ (.string x.x_) = u := ⟨_, rfl⟩
  rw [hu1] at HX1  
  simp only [List.set_cons_zero, List.set_cons_succ] at HX1
  have c1_3 := HX1.out.box.cell 3
  simp only [List.getElem?_cons_zero, List.getElem?_cons_succ, List.set_cons_zero, List.set_cons_succ] at c1_3
  clear V0 HC0
  have HC1 := zI (each_Se 98 #[] (enters_of Tryz.func98 (by kernel_rfl) rfl) x.y_ u1 HG.out.w_.len (HG.out.w_.rd.below HX1.out.below) (fun W b hb hW => copiedSe b W ((HG.out.w_.el b hb).below (HX1.out.below.trans (hW.mono HX1.out.below.size)))))
  go_wp2_with fail
  refine HC1.out.mono ?_
  rintro e v1 ⟨Y1, rfl, hm1, ho1, he1, hq1, hq1t, hq1g, hV1⟩
  have HQ1 : Hid (∀ (a1 : ByteArray) (a2 a3 : Int) (a4 : Sl Gr) (a5 : Sl Mta) (a6 : Sl ME_), SepX (⟨a1, a2, a3, Y1, a4, a5, a6⟩ : MT_)) := zI fun _ _ _ _ _ _ => ⟨hq1, hq1t, hq1g⟩
  clear hq1 hq1t hq1g
  have HM1 := zI hm1
  clear hm1
  have V1 := HX1.out.call hV1
  have b1_3 := V1.box.cell 3
  simp only [List.getElem?_cons_zero, List.getElem?_cons_succ, List.set_cons_zero, List.set_cons_succ] at b1_3
  have f1 := V1.box.frozen 3
  have HX2 := zI (V1.set 3 (.slice Y1.A Y1.l.length Y1.c))
  have RO1_2 := zI (zbQ (B := w.heap.size) (j := 3) (u := .slice Y1.A Y1.l.length Y1.c) (zfZ ho1 HX1.out.big) HX1.out.bn)
  have RE1_2 : Hid (∀ t ∈ Y1.l, OwnSe wb.heap.size (v1.setCell ⟨w.heap.size, 3, none⟩ (.slice Y1.A Y1.l.length Y1.c)) t) := zI fun t ht => ((he1 t ht).base HX1.out.big).set HX1.out.bn
  obtain ⟨u2, hu2⟩ : ∃ u, v1.setCell ⟨w.heap.size, 3, none⟩ (.slice Y1.A Y1.l.length Y1.c) = u := ⟨_, rfl⟩
  rw [hu2] at HX2 RO1_2 RE1_2
  simp only [List.set_cons_zero, List.set_cons_succ] at HX2
  have c2_4 := HX2.out.box.cell 4
  simp only [List.getElem?_cons_zero, List.getElem?_cons_succ, List.set_cons_zero, List.set_cons_succ] at c2_4
  clear V1 HC1
  have HC2 := zI (each_Gr 100 #[] (enters_of Tryz.func100 (by kernel_rfl) rfl) x.g_ u2 HG.out.Q_.len (HG.out.Q_.rd.below HX2.out.below) (fun W b hb hW => (copiedGr b.1 b.2.1 b.2.2 (HG.out.Q_.el b hb).1 (HG.out.Q_.el b hb).2.1 W).mono fun e W' ⟨he, hB⟩ => ⟨b, he, trivial, rfl, hB⟩))
  go_wp2_with fail
  refine HC2.out.mono ?_
  rintro e v2 ⟨Y2, rfl, hm2, ho2, he2, hV2⟩
  have HM2 := zI hm2
  clear hm2
  have V2 := HX2.out.call hV2
  have b2_4 := V2.box.cell 4
  simp only [List.getElem?_cons_zero, List.getElem?_cons_succ, List.set_cons_zero, List.set_cons_succ] at b2_4
  have f2 := V2.box.frozen 4
  have HX3 := zI (V2.set 4 (.slice Y2.A Y2.l.length Y2.c))
  have RO1_3 := zI (zbQ (B := w.heap.size) (j := 4) (u := .slice Y2.A Y2.l.length Y2.c) (zgQ RO1_2.out hV2 (Nat.le_refl _)) HX2.out.bn)
  have RE1_3 : Hid (∀ t ∈ Y1.l, OwnSe wb.heap.size (v2.setCell ⟨w.heap.size, 4, none⟩ (.slice Y2.A Y2.l.length Y2.c)) t) := zI fun t ht => ((RE1_2.out t ht).below hV2).set HX2.out.bn
  have RO2_3 := zI (zbQ (B := w.heap.size) (j := 4) (u := .slice Y2.A Y2.l.length Y2.c) (zfZ ho2 HX2.out.big) HX2.out.bn)
  obtain ⟨u3, hu3⟩ : ∃ u, v2.setCell ⟨w.heap.size, 4, none⟩ (.slice Y2.A Y2.l.length Y2.c) = u := ⟨_, rfl⟩
  rw [hu3] at HX3 RO1_3 RO2_3 RE1_3
  simp only [List.set_cons_zero, List.set_cons_succ] at HX3
  have c3_5 := HX3.out.box.cell 5
  simp only [List.getElem?_cons_zero, List.getElem?_cons_succ, List.set_cons_zero, List.set_cons_succ] at c3_5
  clear V2 HC2
  have HC3 := zI (each_St 102 #[] (enters_of Tryz.func102 (by kernel_rfl) rfl) x.t_ u3 HG.out.B_.len (HG.out.B_.rd.below HX3.out.below) (fun W b hb hW => copiedSt b W ((HG.out.B_.el b hb).below (HX3.out.below.trans (hW.mono HX3.out.below.size)))))
  go_wp2_with fail
  refine HC3.out.mono ?_
  rintro e v3 ⟨Y3, rfl, hm3, ho3, he3, hV3⟩
  have HM3 := zI hm3
  clear hm3
  have V3 := HX3.out.call hV3
  have b3_5 := V3.box.cell 5
  simp only [List.getElem?_cons_zero, List.getElem?_cons_succ, List.set_cons_zero, List.set_cons_succ] at b3_5
  have f3 := V3.box.frozen 5
  have HX4 := zI (V3.set 5 (.slice Y3.A Y3.l.length Y3.c))
  have RO1_4 := zI (zbQ (B := w.heap.size) (j := 5) (u := .slice Y3.A Y3.l.length Y3.c) (zgQ RO1_3.out hV3 (Nat.le_refl _)) HX3.out.bn)
  have RE1_4 : Hid (∀ t ∈ Y1.l, OwnSe wb.heap.size (v3.setCell ⟨w.heap.size, 5, none⟩ (.slice Y3.A Y3.l.length Y3.c)) t) := zI fun t ht => ((RE1_3.out t ht).below hV3).set HX3.out.bn
  have RO2_4 := zI (zbQ (B := w.heap.size) (j := 5) (u := .slice Y3.A Y3.l.length Y3.c) (zgQ RO2_3.out hV3 (Nat.le_refl _)) HX3.out.bn)
  have RO3_4 := zI (zbQ (B := w.heap.size) (j := 5) (u := .slice Y3.A Y3.l.length Y3.c) (zfZ ho3 HX3.out.big) HX3.out.bn)
  have RE3_4 : Hid (∀ t ∈ Y3.l, OwnSt wb.heap.size (v3.setCell ⟨w.heap.size, 5, none⟩ (.slice Y3.A Y3.l.length Y3.c)) t) := zI fun t ht => ((he3 t ht).base HX3.out.big).set HX3.out.bn
  obtain ⟨u4, hu4⟩ : ∃ u, v3.setCell ⟨w.heap.size, 5, none⟩ (.slice Y3.A Y3.l.length Y3.c) = u := ⟨_, rfl⟩
  rw [hu4] at HX4 RO1_4 RO2_4 RO3_4 RE1_4 RE3_4
  simp only [List.set_cons_zero, List.set_cons_succ] at HX4
  have c4_6 := HX4.out.box.cell 6
  simp only [List.getElem?_cons_zero, List.getElem?_cons_succ, List.set_cons_zero, List.set_cons_succ] at c4_6
  clear V3 HC3
  have HC4 := zI (each_En 104 #[] (enters_of Tryz.func104 (by kernel_rfl) rfl) x.h_ u4 HG.out.glog_.len (HG.out.glog_.rd.below HX4.out.below) (fun W b hb hW => (copiedEn b.O_ b.l_ b.N_ b.err_ (HG.out.glog_.el b hb).guser_ (HG.out.glog_.el b hb).C_ W).mono fun e W' ⟨he, hB⟩ => ⟨b, he, trivial, rfl, hB⟩))
  go_wp2_with fail
  refine HC4.out.mono ?_
  rintro e v4 ⟨Y4, rfl, hm4, ho4, he4, hV4⟩
  have HM4 := zI hm4
  clear hm4
  have V4 := HX4.out.call hV4
  have b4_6 := V4.box.cell 6
  simp only [List.getElem?_cons_zero, List.getElem?_cons_succ, List.set_cons_zero, List.set_cons_succ] at b4_6
  have f4 := V4.box.frozen 6
  have HX5 := zI (V4.set 6 (.slice Y4.A Y4.l.length Y4.c))
  have RO1_5 := zI (zbQ (B := w.heap.size) (j := 6) (u := .slice Y4.A Y4.l.length Y4.c) (zgQ RO1_4.out hV4 (Nat.le_refl _)) HX4.out.bn)
  have RE1_5 : Hid (∀ t ∈ Y1.l, OwnSe wb.heap.size (v4.setCell ⟨w.heap.size, 6, none⟩ (.slice Y4.A Y4.l.length Y4.c)) t) := zI fun t ht => ((RE1_4.out t ht).below hV4).set HX4.out.bn
  have RO2_5 := zI (zbQ (B := w.heap.size) (j := 6) (u := .slice Y4.A Y4.l.length Y4.c) (zgQ RO2_4.out hV4 (Nat.le_refl _)) HX4.out.bn)
  have RO3_5 := zI (zbQ (B := w.heap.size) (j := 6) (u := .slice Y4.A Y4.l.length Y4.c) (zgQ RO3_4.out hV4 (Nat.le_refl _)) HX4.out.bn)
  have RE3_5 : Hid (∀ t ∈ Y3.l, OwnSt wb.heap.size (v4.setCell ⟨w.heap.size, 6, none⟩ (.slice Y4.A Y4.l.length Y4.c)) t) := zI fun t ht => ((RE3_4.out t ht).below hV4).set HX4.out.bn
  have RO4_5 := zI (zbQ (B := w.heap.size) (j := 6) (u := .slice Y4.A Y4.l.length Y4.c) (zfZ ho4 HX4.out.big) HX4.out.bn)
  obtain ⟨u5, hu5⟩ : ∃ u, v4.setCell ⟨w.heap.size, 6, none⟩ (.slice Y4.A Y4.l.length Y4.c) = u := ⟨_, rfl⟩
  rw [hu5] at HX5 RO1_5 RO2_5 RO3_5 RO4_5 RE1_5 RE3_5
  simp only [List.set_cons_zero, List.set_cons_succ] at HX5
  have c5_0 := HX5.out.box.cell 0
  have c5_1 := HX5.out.box.cell 1
  have c5_2 := HX5.out.box.cell 2
  have c5_3 := HX5.out.box.cell 3
  have c5_4 := HX5.out.box.cell 4
  have c5_5 := HX5.out.box.cell 5
  have c5_6 := HX5.out.box.cell 6
  simp only [List.getElem?_cons_zero, List.getElem?_cons_succ, List.set_cons_zero, List.set_cons_succ] at c5_0 c5_1 c5_2 c5_3 c5_4 c5_5 c5_6
  clear V4 HC4
  have r0 := HX5.out.res.cell 0
  have g0 := HX5.out.res.frozen 0
  have r1 := HX5.out.res.cell 1
  have g1 := HX5.out.res.frozen 1
  have r2 := HX5.out.res.cell 2
  have g2 := HX5.out.res.frozen 2
  have r3 := HX5.out.res.cell 3
  have g3 := HX5.out.res.frozen 3
  have r4 := HX5.out.res.cell 4
  have g4 := HX5.out.res.frozen 4
  have r5 := HX5.out.res.cell 5
  have g5 := HX5.out.res.frozen 5
  have r6 := HX5.out.res.cell 6
  have g6 := HX5.out.res.frozen 6
  simp only [gZa, gZb] at r0 r1 r2 r3 r4 r5 r6
  have XF : Bx w wb.heap.size 27 w.heap.size (w.heap.size + 1) _ [.string x.x_, .int .i64 x.r_, .int .i64 x.v_, .slice Y1.A Y1.l.length Y1.c, .slice Y2.A Y2.l.length Y2.c, .slice Y3.A Y3.l.length Y3.c, .slice Y4.A Y4.l.length Y4.c] (((((((u5.setCell ⟨w.heap.size + 1, 0, none⟩ (.string x.x_)).setCell ⟨w.heap.size + 1, 1, none⟩ (.int .i64 x.r_)).setCell ⟨w.heap.size + 1, 2, none⟩ (.int .i64 x.v_)).setCell ⟨w.heap.size + 1, 3, none⟩ (.slice Y1.A Y1.l.length Y1.c)).setCell ⟨w.heap.size + 1, 4, none⟩ (.slice Y2.A Y2.l.length Y2.c)).setCell ⟨w.heap.size + 1, 5, none⟩ (.slice Y3.A Y3.l.length Y3.c)).setCell ⟨w.heap.size + 1, 6, none⟩ (.slice Y4.A Y4.l.length Y4.c)) := (((((((HX5.out.ans 0 (.string x.x_)).ans 1 (.int .i64 x.r_)).ans 2 (.int .i64 x.v_)).ans 3 (.slice Y1.A Y1.l.length Y1.c)).ans 4 (.slice Y2.A Y2.l.length Y2.c)).ans 5 (.slice Y3.A Y3.l.length Y3.c)).ans 6 (.slice Y4.A Y4.l.length Y4.c))
  have RF1 := zI (zbQ (B := w.heap.size + 1) (j := 6) (u := .slice Y4.A Y4.l.length Y4.c) (zbQ (B := w.heap.size + 1) (j := 5) (u := .slice Y3.A Y3.l.length Y3.c) (zbQ (B := w.heap.size + 1) (j := 4) (u := .slice Y2.A Y2.l.length Y2.c) (zbQ (B := w.heap.size + 1) (j := 3) (u := .slice Y1.A Y1.l.length Y1.c) (zbQ (B := w.heap.size + 1) (j := 2) (u := .int .i64 x.v_) (zbQ (B := w.heap.size + 1) (j := 1) (u := .int .i64 x.r_) (zbQ (B := w.heap.size + 1) (j := 0) (u := .string x.x_) RO1_5.out HX0.out.rn) HX0.out.rn) HX0.out.rn) HX0.out.rn) HX0.out.rn) HX0.out.rn) HX0.out.rn)
  have EF1 : Hid (∀ t ∈ Y1.l, OwnSe wb.heap.size (((((((u5.setCell ⟨w.heap.size + 1, 0, none⟩ (.string x.x_)).setCell ⟨w.heap.size + 1, 1, none⟩ (.int .i64 x.r_)).setCell ⟨w.heap.size + 1, 2, none⟩ (.int .i64 x.v_)).setCell ⟨w.heap.size + 1, 3, none⟩ (.slice Y1.A Y1.l.length Y1.c)).setCell ⟨w.heap.size + 1, 4, none⟩ (.slice Y2.A Y2.l.length Y2.c)).setCell ⟨w.heap.size + 1, 5, none⟩ (.slice Y3.A Y3.l.length Y3.c)).setCell ⟨w.heap.size + 1, 6, none⟩ (.slice Y4.A Y4.l.length Y4.c)) t) := zI fun t ht => (OwnSe.set (B := w.heap.size + 1) (j := 6) (u := .slice Y4.A Y4.l.length Y4.c) (OwnSe.set (B := w.heap.size + 1) (j := 5) (u := .slice Y3.A Y3.l.length Y3.c) (OwnSe.set (B := w.heap.size + 1) (j := 4) (u := .slice Y2.A Y2.l.length Y2.c) (OwnSe.set (B := w.heap.size + 1) (j := 3) (u := .slice Y1.A Y1.l.length Y1.c) (OwnSe.set (B := w.heap.size + 1) (j := 2) (u := .int .i64 x.v_) (OwnSe.set (B := w.heap.size + 1) (j := 1) (u := .int .i64 x.r_) (OwnSe.set (B := w.heap.size + 1) (j := 0) (u := .string x.x_) (RE1_5.out t ht) HX0.out.rn) HX0.out.rn) HX0.out.rn) HX0.out.rn) HX0.out.rn) HX0.out.rn) HX0.out.rn)
  have RF2 := zI (zbQ (B := w.heap.size + 1) (j := 6) (u := .slice Y4.A Y4.l.length Y4.c) (zbQ (B := w.heap.size + 1) (j := 5) (u := .slice Y3.A Y3.l.length Y3.c) (zbQ (B := w.heap.size + 1) (j := 4) (u := .slice Y2.A Y2.l.length Y2.c) (zbQ (B := w.heap.size + 1) (j := 3) (u := .slice Y1.A Y1.l.length Y1.c) (zbQ (B := w.heap.size + 1) (j := 2) (u := .int .i64 x.v_) (zbQ (B := w.heap.size + 1) (j := 1) (u := .int .i64 x.r_) (zbQ (B := w.heap.size + 1) (j := 0) (u := .string x.x_) RO2_5.out HX0.out.rn) HX0.out.rn) HX0.out.rn) HX0.out.rn) HX0.out.rn) HX0.out.rn) HX0.out.rn)
  have RF3 := zI (zbQ (B := w.heap.size + 1) (j := 6) (u := .slice Y4.A Y4.l.length Y4.c) (zbQ (B := w.heap.size + 1) (j := 5) (u := .slice Y3.A Y3.l.length Y3.c) (zbQ (B := w.heap.size + 1) (j := 4) (u := .slice Y2.A Y2.l.length Y2.c) (zbQ (B := w.heap.size + 1) (j := 3) (u := .slice Y1.A Y1.l.length Y1.c) (zbQ (B := w.heap.size + 1) (j := 2) (u := .int .i64 x.v_) (zbQ (B := w.heap.size + 1) (j := 1) (u := .int .i64 x.r_) (zbQ (B := w.heap.size + 1) (j := 0) (u := .string x.x_) RO3_5.out HX0.out.rn) HX0.out.rn) HX0.out.rn) HX0.out.rn) HX0.out.rn) HX0.out.rn) HX0.out.rn)
  have EF3 : Hid (∀ t ∈ Y3.l, OwnSt wb.heap.size (((((((u5.setCell ⟨w.heap.size + 1, 0, none⟩ (.string x.x_)).setCell ⟨w.heap.size + 1, 1, none⟩ (.int .i64 x.r_)).setCell ⟨w.heap.size + 1, 2, none⟩ (.int .i64 x.v_)).setCell ⟨w.heap.size + 1, 3, none⟩ (.slice Y1.A Y1.l.length Y1.c)).setCell ⟨w.heap.size + 1, 4, none⟩ (.slice Y2.A Y2.l.length Y2.c)).setCell ⟨w.heap.size + 1, 5, none⟩ (.slice Y3.A Y3.l.length Y3.c)).setCell ⟨w.heap.size + 1, 6, none⟩ (.slice Y4.A Y4.l.length Y4.c)) t) := zI fun t ht => (OwnSt.set (B := w.heap.size + 1) (j := 6) (u := .slice Y4.A Y4.l.length Y4.c) (OwnSt.set (B := w.heap.size + 1) (j := 5) (u := .slice Y3.A Y3.l.length Y3.c) (OwnSt.set (B := w.heap.size + 1) (j := 4) (u := .slice Y2.A Y2.l.length Y2.c) (OwnSt.set (B := w.heap.size + 1) (j := 3) (u := .slice Y1.A Y1.l.length Y1.c) (OwnSt.set (B := w.heap.size + 1) (j := 2) (u := .int .i64 x.v_) (OwnSt.set (B := w.heap.size + 1) (j := 1) (u := .int .i64 x.r_) (OwnSt.set (B := w.heap.size + 1) (j := 0) (u := .string x.x_) (RE3_5.out t ht) HX0.out.rn) HX0.out.rn) HX0.out.rn) HX0.out.rn) HX0.out.rn) HX0.out.rn) HX0.out.rn)
  have RF4 := zI (zbQ (B := w.heap.size + 1) (j := 6) (u := .slice Y4.A Y4.l.length Y4.c) (zbQ (B := w.heap.size + 1) (j := 5) (u := .slice Y3.A Y3.l.length Y3.c) (zbQ (B := w.heap.size + 1) (j := 4) (u := .slice Y2.A Y2.l.length Y2.c) (zbQ (B := w.heap.size + 1) (j := 3) (u := .slice Y1.A Y1.l.length Y1.c) (zbQ (B := w.heap.size + 1) (j := 2) (u := .int .i64 x.v_) (zbQ (B := w.heap.size + 1) (j := 1) (u := .int .i64 x.r_) (zbQ (B := w.heap.size + 1) (j := 0) (u := .string x.x_) RO4_5.out HX0.out.rn) HX0.out.rn) HX0.out.rn) HX0.out.rn) HX0.out.rn) HX0.out.rn) HX0.out.rn)
  have hne1 : w.heap.size ≠ w.heap.size + 1 := by omega
  go_wp2
  obtain ⟨wF, hwF⟩ : ∃ wF, (((((((u5.setCell ⟨w.heap.size + 1, 0, none⟩ (.string x.x_)).setCell ⟨w.heap.size + 1, 1, none⟩ (.int .i64 x.r_)).setCell ⟨w.heap.size + 1, 2, none⟩ (.int .i64 x.v_)).setCell ⟨w.heap.size + 1, 3, none⟩ (.slice Y1.A Y1.l.length Y1.c)).setCell ⟨w.heap.size + 1, 4, none⟩ (.slice Y2.A Y2.l.length Y2.c)).setCell ⟨w.heap.size + 1, 5, none⟩ (.slice Y3.A Y3.l.length Y3.c)).setCell ⟨w.heap.size + 1, 6, none⟩ (.slice Y4.A Y4.l.length Y4.c)) = wF := ⟨_, rfl⟩
  rw [hwF] at XF RF1 RF2 RF3 RF4 EF1 EF3
  rw [hwF]
  have z0 := XF.res.cell 0
  have z1 := XF.res.cell 1
  have z2 := XF.res.cell 2
  have z3 := XF.res.cell 3
  have z4 := XF.res.cell 4
  have z5 := XF.res.cell 5
  have z6 := XF.res.cell 6
  simp only [gZa, gZb] at z0 z1 z2 z3 z4 z5 z6
  clear hwF
  refine bodyPost_ret (v := .agg #[.string x.x_, .int .i64 x.r_, .int .i64 x.v_, .slice Y1.A Y1.l.length Y1.c, .slice Y2.A Y2.l.length Y2.c, .slice Y3.A Y3.l.length Y3.c, .slice Y4.A Y4.l.length Y4.c]) (by simp [results, Tryz.results46, go_sem, z0, z1, z2, z3, z4, z5, z6]) rfl ⟨⟨x.x_, x.r_, x.v_, Y1, Y2, Y3, Y4⟩, rfl, ⟨zfZ RF1.out hn2, zfZ RF2.out hn2, zfZ RF3.out hn2, zfZ RF4.out hn2, fun t ht => (EF1.out t ht).base hn2, fun t ht => (EF3.out t ht).base hn2⟩, (by simp only [MT_.plain]; rw [HM1.out, show Y2.l = x.g_.l by simpa using HM2.out, HM3.out, HM4.out]), HQ1.out _ _ _ _ _ _, XF.below⟩
theorem copy_sep (x : MT_) (w : World) (hx : x.Good w) :
    Calls Tryz.prog 46 #[.agg x.cells.toArray] w fun e w' => ∃ y : MT_, e = .returned (.agg y.cells.toArray) ∧ OwnTe w.heap.size w' y ∧ y.plain = x.plain ∧ y.y_.l.Pairwise SepS ∧ Below w.heap.size w w' :=
  (copy_sepX x w hx).mono fun _ _ ⟨y, h1, h2, h3, h4, h5⟩ => ⟨y, h1, h2, h3, h4.sn, h5⟩
theorem copy_any (x : MT_) (w : World) (hx : x.Good w) :
    Calls Tryz.prog 46 #[.agg x.cells.toArray] w fun e w' => ∃ y : MT_, e = .returned (.agg y.cells.toArray) ∧ OwnTe w.heap.size w' y ∧ y.plain = x.plain ∧ Below w.heap.size w w' :=
  (copy_sep x w hx).mono fun _ _ ⟨y, h1, h2, h3, _, h5⟩ => ⟨y, h1, h2, h3, h5⟩
set_option maxHeartbeats 1000000 in
theorem sameLog_true (A B : Option Addr) (c d : Nat) (l : List ME_) (hl : l.length ≤ 8796093022208) (w : World) (hr : Rd w A (l.flatMap ME_.cells)) (hs : Rd w B (l.flatMap ME_.cells)) :
    Calls Tryz.prog 54 #[.slice A l.length c, .slice B l.length d] w fun e w' => e = .returned (.bool true) ∧ Below w.heap.size w w' := by
  go_enter Tryz.func54, Tryz.ntmps54
  go_wp2
  go_loopw [5] (fun i W => ∃ k : Nat, k ≤ l.length ∧ i = .int .i64 k ∧ Below w.heap.size w W) (fun i _ => l.length - (intOf i).toNat)
  case atStart => exact ⟨0, Nat.zero_le _, rfl, Below.refl _ _⟩
  case round =>
    obtain ⟨k, hk, rfl, hB⟩ := hrel
    by_cases hlt : k < l.length
    · obtain ⟨x, hx⟩ : ∃ x, l[k]? = some x := ⟨l[k], qZa hlt⟩
      obtain ⟨ba, oa, rfl, hba, hc⟩ := Rd.elem (n := 4) (fun _ => rfl) (by omega) (hr.below hB) hx
      obtain ⟨bb, ob, rfl, hbb, hd⟩ := Rd.elem (n := 4) (fun _ => rfl) (by omega) (hs.below hB) hx
      have hc0 : wr.cell? ⟨ba, oa + k * 4, none⟩ = some (.string x.O_) := hc 0 _ rfl
      have hd0 : wr.cell? ⟨bb, ob + k * 4, none⟩ = some (.string x.O_) := hd 0 _ rfl
      have hc1 : wr.cell? ⟨ba, oa + k * 4 + 1, none⟩ = some (.int .i64 x.N_) := hc 1 _ rfl
      have hd1 : wr.cell? ⟨bb, ob + k * 4 + 1, none⟩ = some (.int .i64 x.N_) := hd 1 _ rfl
      have hc2 : wr.cell? ⟨ba, oa + k * 4 + 2, none⟩ = some (.string x.l_) := hc 2 _ rfl
      have hd2 : wr.cell? ⟨bb, ob + k * 4 + 2, none⟩ = some (.string x.l_) := hd 2 _ rfl
      have hc3 : wr.cell? ⟨ba, oa + k * 4 + 3, none⟩ = some (.int .i64 x.err_) := hc 3 _ rfl
      have hd3 : wr.cell? ⟨bb, ob + k * 4 + 3, none⟩ = some (.int .i64 x.err_) := hd 3 _ rfl
      clear hc hd
      clear hx
      go_wp2_with (go_quiet (fail))
      go_round
      case rel => exact ⟨k + 1, by omega, by go_num, hB.trans (zaX _ _ _)⟩
      case measure => simp [intOf]; omega
    · go_wp2
      go_ret
      exact ⟨rfl, hB⟩
end Go.Proofs.YtimmcmjipmkebaaGreat
namespace Go.Proofs.YtimmcmjipmkebaaGreat
open Go.ChangeShapes Go.WideShapes Go.ChangeAt Go.RowKit
set_option maxRecDepth 100000
set_option linter.unusedSimpArgs false
theorem map_at {α β : Type} {f : α → β} {X Y : List α} (h : Y.map f = X.map f) {k : Nat} {x y : α} (hx : X[k]? = some x) (hy : Y[k]? = some y) : f y = f x := by
  have := congrArg (fun l => l[k]?) h
  simpa [List.getElem?_map, hx, hy] using this
attribute [-simp] Tryz.isAgg91 Tryz.sizeOf91
end Go.Proofs.YtimmcmjipmkebaaGreat
namespace Go.Proofs.YtimmcmjipmkebaaGreat
open Go.ChangeShapes Go.WideShapes Go.ChangeAt Go.RowKit
set_option maxRecDepth 100000
theorem OwnSn.setT {W : World} {n B j e2 : Nat} {u : Value} {C : List Value} {y : Mna} (h : OwnSn n W y) (hb : Blk W B e2 C) (h1 : 106 ≠ e2) (h2 : 9 ≠ e2) (h3 : 109 ≠ e2) : OwnSn n (W.setCell ⟨B, j, none⟩ u) y := ⟨own_setT h.body hb h1, own_setT h.tags hb h2, own_setT h.own hb h3⟩
theorem OwnSe.setT {W : World} {n B j e2 : Nat} {u : Value} {C : List Value} {y : MSet} (h : OwnSe n W y) (hb : Blk W B e2 C) (h1 : 106 ≠ e2) (h2 : 9 ≠ e2) (h3 : 109 ≠ e2) (h4 : 49 ≠ e2) : OwnSe n (W.setCell ⟨B, j, none⟩ u) y := ⟨own_setT h.body hb h1, own_setT h.snaps hb h4, own_setT h.own hb h3, fun s hs => (h.each s hs).setT hb h1 h2 h3⟩
theorem OwnSt.setT {W : World} {n B j e2 : Nat} {u : Value} {C : List Value} {y : Mta} (h : OwnSt n W y) (hb : Blk W B e2 C) (h1 : 106 ≠ e2) (h3 : 109 ≠ e2) : OwnSt n (W.setCell ⟨B, j, none⟩ u) y := ⟨own_setT h.body hb h1, own_setT h.own hb h3⟩
theorem OwnTe.keep {n : Nat} {W W' : World} {y : MT_} {e : TypeId} (h : OwnTe n W y) (hk : Keeps e W W') (h1 : 106 ≠ e) (h2 : 9 ≠ e) (h3 : 109 ≠ e) (h4 : 49 ≠ e) (h5 : 52 ≠ e) (h6 : 111 ≠ e) (h7 : 91 ≠ e) (h8 : 104 ≠ e) : OwnTe n W' y :=
  ⟨zbX h.sets h5 hk, zbX h.grants h6 hk, zbX h.stages h7 hk, zbX h.log h8 hk, fun s hs => (h.eset s hs).keep hk h1 h2 h3 h4, fun s hs => (h.estage s hs).keep hk h1 h3⟩
theorem wpAppendE {P : Program} {α : Type} {W : World} {N : Nat} {ops : Array Oper} {rest : List Oper} {o : Oper} {a : Act} {Q : Exit → Act → World → Prop} {s x : Operand} {t e : TypeId} (hgd : o.guard = none)
    (ho : o.op = .call { callee := .builtin .append, args := #[s, x], argTypes := #[t, t] }) (ht : P.underlying t = some (.slice e)) {k bytes : Nat} {z : Value} (cells : α → List Value) (hk : ∀ a, (cells a).length = k) (hk0 : 0 < k) (hone : ∀ a, ∀ u ∈ cells a, u.oneCell' = true)
    (hinfo : (P.info? e).map (fun i => (i.zero, i.size, i.bytes)) = some (some z, k, bytes)) (hz : z.cells.size = k) {A : Option Addr} {c : Nat} {l : List α} (hr : Rd W A (l.flatMap cells)) (hnil : A = none → c = 0) (hN : W.heap.size = N)
    (hs : a.eval s = .slice (some ⟨N, 0, none⟩) 0 0) (hx : a.eval x = .slice A l.length c) (h63 : l.length ≤ maxLen) (hbytes : l.length * bytes ≤ 140737488355328)
    (h : ∀ v' w', Hid (w'.ownsRow W.heap.size e k v' l.length (l.flatMap cells)) → Hid (Below W.heap.size W w') → wpList P ops Q rest (a.put o.dst v') w') :
    wpList P ops Q (o :: rest) a (W.alloc (.cells #[] e)) := by
  subst hN
  obtain ⟨i0, hi, hz0, hz1, hz2⟩ := infoParts hinfo
  have hlen : (l.flatMap cells).length = l.length * k := by
    rw [List.length_flatMap]
    simp only [hk]
    rw [List.map_const', List.sum_replicate_nat]
  have hB : Below W.heap.size W (W.alloc (.cells #[] e)) := (Below.refl _ W).alloc (Nat.le_refl _) _
  refine wpList_append_rdS hgd s x t ho W.heap.size e i0 z k bytes ht hi hz0 hz1 hz2 hz hk0 (.slice (some ⟨W.heap.size, 0, none⟩) 0 0) 0 [] hs ⟨by simp, .inr ⟨W.heap.size, 0, #[], rfl, Nat.le_refl _, heap_alloc_new W _, Nat.le_refl _, Nat.zero_le _, by simp, by simp⟩⟩ A l.length c (l.flatMap cells) hx hlen (hr.below hB) hnil (fun u hu => ?_) (by rw [Nat.zero_add]; exact h63) (by rw [Nat.zero_add]; exact hbytes) hB.size ?_
  · obtain ⟨y, _, hu⟩ := List.mem_flatMap.1 hu
    exact hone y u hu
  · intro v7 w7 ho7 hg7
    refine h v7 w7 (zI (ownBare ho7)) (zI (hB.grown hg7 hB.size fun j e => ?_))
    simp only [Value.ownBlock, Option.some.injEq] at e
    omega
theorem wpAppendZ {P : Program} {α : Type} {W : World} {ops : Array Oper} {rest : List Oper} {o : Oper} {a : Act} {Q : Exit → Act → World → Prop} {s x : Operand} {t e : TypeId} (hgd : o.guard = none)
    (ho : o.op = .call { callee := .builtin .append, args := #[s, x], argTypes := #[t, t] }) (ht : P.underlying t = some (.slice e)) {k bytes : Nat} {z : Value} (cells : α → List Value) (hk : ∀ a, (cells a).length = k) (hk0 : 0 < k) (hone : ∀ a, ∀ u ∈ cells a, u.oneCell' = true)
    (hinfo : (P.info? e).map (fun i => (i.zero, i.size, i.bytes)) = some (some z, k, bytes)) (hz : z.cells.size = k) {A : Option Addr} {c : Nat} {l : List α} (hr : Rd W A (l.flatMap cells)) (hnil : A = none → c = 0)
    (hs : a.eval s = .slice none 0 0) (hx : a.eval x = .slice A l.length c) (h63 : l.length ≤ maxLen) (hbytes : l.length * bytes ≤ 140737488355328)
    (h : ∀ v' w', Hid (w'.ownsRow W.heap.size e k v' l.length (l.flatMap cells)) → Hid (Below W.heap.size W w') → wpList P ops Q rest (a.put o.dst v') w') :
    wpList P ops Q (o :: rest) a W := by
  obtain ⟨i0, hi, hz0, hz1, hz2⟩ := infoParts hinfo
  have hlen : (l.flatMap cells).length = l.length * k := by
    rw [List.length_flatMap]
    simp only [hk]
    rw [List.map_const', List.sum_replicate_nat]
  refine wpList_append_rdS hgd s x t ho W.heap.size e i0 z k bytes ht hi hz0 hz1 hz2 hz hk0 (.slice none 0 0) 0 [] hs (ownNone _ _ _ _) A l.length c (l.flatMap cells) hx hlen hr hnil (fun u hu => ?_) (by rw [Nat.zero_add]; exact h63) (by rw [Nat.zero_add]; exact hbytes) (Nat.le_refl _) ?_
  · obtain ⟨y, _, hu⟩ := List.mem_flatMap.1 hu
    exact hone y u hu
  · intro v7 w7 ho7 hg7
    exact h v7 w7 (zI (ownBare ho7)) (zI ((Below.refl _ W).grown hg7 (Nat.le_refl _) fun j e => by cases e))
theorem run_buildNone (P : Program) (w : World) (t e : TypeId) (n : Nat) (z : Value) (bytes : Nat) (hu : P.underlying t = some (.slice e)) (hi : (P.info? e).map (fun i => (i.zero, i.size, i.bytes)) = some (some z, n, bytes)) :
    (Instr.buildSlice t 0 #[]).run P w = .ok (.slice (some ⟨w.heap.size, 0, none⟩) 0 0) (w.alloc (.cells #[] e)) := by
  obtain ⟨ie, hie, hz0, hz1, hz2⟩ := infoParts hi
  simp [Instr.buildSlice, run_underlying hu, sizeOf, typeInfo, hie, newRow, Instr.fill, Array.range_zero']
theorem wpAppendKN {P : Program} {α : Type} {W : World} {N : Nat} {ops : Array Oper} {rest : List Oper} {o : Oper} {a : Act} {Q : Exit → Act → World → Prop} {s x : Operand} {t e : TypeId} (hgd : o.guard = none)
    (ho : o.op = .call { callee := .builtin .append, args := #[s, x], argTypes := #[t, t] }) (ht : P.underlying t = some (.slice e)) {k bytes : Nat} {z : Value} (cells : α → List Value) (hk : ∀ a, (cells a).length = k) (hk0 : 0 < k) (hone : ∀ a, ∀ u ∈ cells a, u.oneCell' = true)
    (hinfo : (P.info? e).map (fun i => (i.zero, i.size, i.bytes)) = some (some z, k, bytes)) (hz : z.cells.size = k) {base : Nat} {w0 : World} {Av : Option Addr} {cv : Nat} {l : List α} (hB : Below base w0 W) (hsz : base ≤ W.heap.size)
    (hown : W.ownsRow base e k (.slice Av l.length cv) l.length (l.flatMap cells)) (y : α) (hN : W.heap.size = N) (hs : a.eval s = .slice Av l.length cv) (hx : a.eval x = .slice (some ⟨N, 0, none⟩) 1 1) (h63 : l.length + 1 ≤ maxLen) (hbytes : (l.length + 1) * bytes ≤ 140737488355328)
    (h : ∀ g c w', Hid (w'.ownsRow base e k (.slice (some ⟨g, 0, none⟩) (l.length + 1) c) (l ++ [y]).length ((l ++ [y]).flatMap cells)) → Hid (Below base w0 w') → Hid (Keeps e W w') → wpList P ops Q rest (a.put o.dst (.slice (some ⟨g, 0, none⟩) (l.length + 1) c)) w') :
    wpList P ops Q (o :: rest) a (W.alloc (.cells (cells y).toArray e)) := by
  subst hN
  exact wpAppendK hgd ho ht cells hk hk0 hone hinfo hz hB hsz hown y hs hx h63 hbytes h
theorem oneBk (a : Bk) : ∀ u ∈ bkC a, u.oneCell' = true := fun u hu => by simp only [List.mem_cons, List.not_mem_nil, or_false] at hu; rcases hu with rfl | rfl <;> rfl
theorem onePr (a : Pr) : ∀ u ∈ prC a, u.oneCell' = true := fun u hu => by simp only [List.mem_cons, List.not_mem_nil, or_false] at hu; rcases hu with rfl | rfl <;> rfl
theorem oneGr (a : Gr) : ∀ u ∈ grC a, u.oneCell' = true := fun u hu => by simp only [List.mem_cons, List.not_mem_nil, or_false] at hu; rcases hu with rfl | rfl | rfl <;> rfl
theorem oneEn (a : ME_) : ∀ u ∈ ME_.cells a, u.oneCell' = true := fun u hu => by simp only [List.mem_cons, List.not_mem_nil, or_false] at hu; rcases hu with rfl | rfl | rfl | rfl <;> rfl
theorem oneTx (a : ByteArray) : ∀ u ∈ [Value.string a], u.oneCell' = true := fun u hu => by simp only [List.mem_cons, List.not_mem_nil, or_false] at hu; rcases hu with rfl; rfl
theorem oneSn (a : Mna) : ∀ u ∈ Mna.cells a, u.oneCell' = true := fun u hu => by simp only [List.mem_cons, List.not_mem_nil, or_false] at hu; rcases hu with rfl | rfl | rfl | rfl | rfl <;> rfl
theorem oneSe (a : MSet) : ∀ u ∈ MSet.cells a, u.oneCell' = true := fun u hu => by simp only [List.mem_cons, List.not_mem_nil, or_false] at hu; rcases hu with rfl | rfl | rfl | rfl | rfl <;> rfl
theorem oneSt (a : Mta) : ∀ u ∈ Mta.cells a, u.oneCell' = true := fun u hu => by simp only [Mta.cells, List.mem_cons, List.not_mem_nil, or_false] at hu; rcases hu with rfl | rfl | rfl | rfl | rfl | rfl | rfl | rfl | rfl | rfl | rfl | rfl | rfl | rfl | rfl | rfl | rfl | rfl | rfl | rfl | rfl <;> rfl
theorem infoTx : (Tryz.prog.info? 9).map (fun i => (i.zero, i.size, i.bytes)) = some (some (.string ByteArray.empty), 1, 16) := by kernel_rfl
theorem refOwnB (X : Sl Bk) (hl : X.l.length * 24 ≤ 140737488351232) (hA : X.A = none → X.c = 0) (w : World) (hr : Rd w X.A (X.l.flatMap bkC)) :
    Calls Tryz.prog 73 #[.slice X.A X.l.length X.c] w fun e w' => ∃ Y : Sl Bk, e = .returned Y.val ∧ Y.l = X.l ∧ w'.ownsRow w.heap.size 106 2 Y.val Y.l.length (Y.l.flatMap bkC) ∧ Below w.heap.size w w' := by
  obtain ⟨A, l, c⟩ := X
  dsimp only at hl hA hr ⊢
  obtain ⟨i0, hi, hz0, hz1, hz2⟩ := infoParts infoEBk
  go_enter Tryz.func73, Tryz.ntmps73
  go_wp2_with (first
    | (at_builtin; refine wpList_append_rdS rfl _ _ 45 rfl w.heap.size 106 i0 (.agg #[.int .i64 0, .string ByteArray.empty]) 2 24 Tryz.underlying45 hi hz0 hz1 hz2 rfl (by decide) (.slice none 0 0) 0 [] rfl (ownNone _ _ _ _) A l.length c (l.flatMap bkC) rfl (by show (bks l).length = _; rw [bks_length]; omega) hr hA (fun u hu => by obtain ⟨y, _, hu⟩ := List.mem_flatMap.1 hu; exact oneBk y u hu) (by unfold maxLen; omega) (by omega) (by omega) ?_
       intro v7 w7 ho7 hg7
       have HO7 := zI (ownBare ho7)
       have HB7 : Hid (Below w.heap.size w w7) := zI ((Below.refl _ w).grown hg7 (by omega) (fun j e => (by cases e)))
       clear ho7 hg7))
  go_ret
  obtain ⟨A7, c7, rfl, _, _, _, _⟩ := ownAny HO7.out
  exact ⟨⟨A7, l, c7⟩, rfl, rfl, HO7.out, HB7.out⟩
end Go.Proofs.YtimmcmjipmkebaaGreat
namespace Go.Proofs.YtimmcmjipmkebaaGreat
open Go.ChangeShapes Go.WideShapes Go.ChangeAt Go.RowKit
set_option maxRecDepth 100000
set_option linter.unusedSimpArgs false
attribute [-simp] Tryz.isAgg91 Tryz.sizeOf91
attribute [-go_sem] Instr.buildSlice
set_option maxHeartbeats 8000000 in
theorem refOwnT_sep (x : MT_) (w : World) (hx : x.Good w) :
    Calls Tryz.prog 27 #[.agg x.cells.toArray] w fun e w' => ∃ y : MT_, e = .returned (.agg y.cells.toArray) ∧ OwnTe w.heap.size w' y ∧ y.plain = x.plain ∧ y.y_.l.Pairwise SepS ∧ Below w.heap.size w w' := by
  have HG := zI hx
  clear hx
  have hinf : (Tryz.prog.info? 91).map (·.size) = some 21 := by kernel_rfl
  have hb0P : ∀ W : World, (Instr.buildSlice 47 0 #[]).run Tryz.prog W = .ok (.slice (some ⟨W.heap.size, 0, none⟩) 0 0) (W.alloc (.cells #[] 109)) := fun W => run_buildNone Tryz.prog W _ _ _ _ _ Tryz.underlying47 infoEPr
  have hb0S : ∀ W : World, (Instr.buildSlice 46 0 #[]).run Tryz.prog W = .ok (.slice (some ⟨W.heap.size, 0, none⟩) 0 0) (W.alloc (.cells #[] 9)) := fun W => run_buildNone Tryz.prog W _ _ _ _ _ Tryz.underlying46 infoTx
  have hb1N : ∀ (W : World) (a b c d e : Value), (Instr.buildSlice 50 1 #[(0, .agg #[a, b, c, d, e])]).run Tryz.prog W = .ok (.slice (some ⟨W.heap.size, 0, none⟩) 1 1) (W.alloc (.cells #[a, b, c, d, e] 49)) := fun W a b c d e => run_buildOne Tryz.prog W _ _ _ 5 _ 96 Tryz.underlying50 infoESn (by decide) (by decide) rfl
  have hb1S : ∀ (W : World) (a b c d e : Value), (Instr.buildSlice 22 1 #[(0, .agg #[a, b, c, d, e])]).run Tryz.prog W = .ok (.slice (some ⟨W.heap.size, 0, none⟩) 1 1) (W.alloc (.cells #[a, b, c, d, e] 52)) := fun W a b c d e => run_buildOne Tryz.prog W _ _ _ 5 _ 104 Tryz.underlying22 infoESe (by decide) (by decide) rfl
  go_enter Tryz.func27, Tryz.ntmps27
  go_wp2
  obtain ⟨u, hu⟩ : ∃ u, ((w.alloc (.cells x.cells.toArray 27)).alloc (.cells #[.string ⟨#[]⟩, .int .i64 0, .int .i64 0, .slice none 0 0, .slice none 0 0, .slice none 0 0, .slice none 0 0] 27)).alloc (.cells #[.string x.x_, .int .i64 x.r_, .int .i64 x.v_, .slice none 0 0, .slice none 0 0, .slice none 0 0, .slice none 0 0] 27) = u := ⟨_, rfl⟩
  have kT1 : Blk (w.alloc (.cells x.cells.toArray 27)) w.heap.size 27 x.cells := Blk.new w _ _
  have kR1 : Blk ((w.alloc (.cells x.cells.toArray 27)).alloc (.cells #[.string ⟨#[]⟩, .int .i64 0, .int .i64 0, .slice none 0 0, .slice none 0 0, .slice none 0 0, .slice none 0 0] 27)) (w.heap.size + 1) 27 [.string ⟨#[]⟩, .int .i64 0, .int .i64 0, .slice none 0 0, .slice none 0 0, .slice none 0 0, .slice none 0 0] := by
    have := Blk.new (w.alloc (.cells x.cells.toArray 27)) [.string ⟨#[]⟩, .int .i64 0, .int .i64 0, .slice none 0 0, .slice none 0 0, .slice none 0 0, .slice none 0 0] 27
    rwa [World.size_alloc] at this
  have kO1 : Blk u (w.heap.size + 1 + 1) 27 [.string x.x_, .int .i64 x.r_, .int .i64 x.v_, .slice none 0 0, .slice none 0 0, .slice none 0 0, .slice none 0 0] := by
    have := Blk.new ((w.alloc (.cells x.cells.toArray 27)).alloc (.cells #[.string ⟨#[]⟩, .int .i64 0, .int .i64 0, .slice none 0 0, .slice none 0 0, .slice none 0 0, .slice none 0 0] 27)) [.string x.x_, .int .i64 x.r_, .int .i64 x.v_, .slice none 0 0, .slice none 0 0, .slice none 0 0, .slice none 0 0] 27
    rw [World.size_alloc, World.size_alloc] at this
    exact hu ▸ this
  have HT0 : Hid (Blk u w.heap.size 27 x.cells) := zI (hu ▸ (kT1.alloc _).alloc _)
  have HR0 : Hid (Blk u (w.heap.size + 1) 27 [.string ⟨#[]⟩, .int .i64 0, .int .i64 0, .slice none 0 0, .slice none 0 0, .slice none 0 0, .slice none 0 0]) := zI (hu ▸ kR1.alloc _)
  have HO0 := zI kO1
  have hBu : Below w.heap.size w u := hu ▸ (((Below.refl _ w).alloc (Nat.le_refl _) _).alloc (by simp) _).alloc (by simp; omega) _
  rw [hu]
  clear kT1 kR1 kO1 hu
  go_loopw [4] (fun i W => ∃ (k : Nat) (o : List MSet) (Av : Option Addr) (cv : Nat), k ≤ x.y_.l.length ∧ i = .int .i64 k ∧ o.length ≤ k ∧ Hid (o.map MSet.plain = (x.y_.l.take k).map MSet.plain) ∧ Hid (Blk W w.heap.size 27 x.cells) ∧ Hid (Blk W (w.heap.size + 1) 27 [.string ⟨#[]⟩, .int .i64 0, .int .i64 0, .slice none 0 0, .slice none 0 0, .slice none 0 0, .slice none 0 0]) ∧ Hid (Blk W (w.heap.size + 1 + 1) 27 [.string x.x_, .int .i64 x.r_, .int .i64 x.v_, .slice Av o.length cv, .slice none 0 0, .slice none 0 0, .slice none 0 0]) ∧ Hid (W.ownsRow w.heap.size 52 5 (.slice Av o.length cv) o.length (o.flatMap MSet.cells)) ∧ Hid (∀ y ∈ o, OwnSe w.heap.size W y) ∧ Hid (o.Pairwise SepS) ∧ Below w.heap.size w W) (fun i _ => x.y_.l.length - (intOf i).toNat)
  case atStart => exact ⟨0, [], none, 0, Nat.zero_le _, rfl, Nat.le_refl _, zI (by simp), HT0, HR0, HO0, zI (ownNone _ _ _ _), zI (by simp), zI List.Pairwise.nil, hBu⟩
  case round =>
    obtain ⟨k, o, Av, cv, hk, rfl, hol, HM, HT, HR, HO, HS, HE, HSP, hB⟩ := hrel
    clear HT0 HR0 HO0 hBu
    obtain ⟨wo, hwo⟩ : ∃ wo, wo = wr := ⟨_, rfl⟩
    subst hwo
    have hso := hB.size
    have hlen := HG.out.w_.len
    have t3 := HT.out.cell 3
    simp only [List.getElem?_cons_zero, List.getElem?_cons_succ, List.set_cons_zero, List.set_cons_succ] at t3
    by_cases hlt : k < x.y_.l.length
    · obtain ⟨y, hy⟩ : ∃ y, x.y_.l[k]? = some y := ⟨_, qZa hlt⟩
      obtain ⟨b, off, eA, hb, hc⟩ := Rd.elem (n := 5) (fun _ => rfl) (by omega) (HG.out.w_.rd.below hB) hy
      rw [eA] at t3
      have HEA := zI eA
      clear eA
      have c0 : wo.cell? ⟨b, off + k * 5, none⟩ = some (.string y.l_) := hc 0 _ rfl
      have c1 : wo.cell? ⟨b, off + k * 5 + 1, none⟩ = some (.string y.m_) := hc 1 _ rfl
      have c2 : wo.cell? ⟨b, off + k * 5 + 2, none⟩ = some (.slice y.p_.A y.p_.l.length y.p_.c) := hc 2 _ rfl
      have c3 : wo.cell? ⟨b, off + k * 5 + 3, none⟩ = some (.slice y.n_.A y.n_.l.length y.n_.c) := hc 3 _ rfl
      have c4 : wo.cell? ⟨b, off + k * 5 + 4, none⟩ = some (.slice y.j_.A y.j_.l.length y.j_.c) := hc 4 _ rfl
      have HYG := zI (HG.out.w_.el y (mG hy))
      have HY := zI hy
      have hltT : w.heap.size < wo.heap.size := HT.out.lt
      have hltO : w.heap.size + 1 + 1 < wo.heap.size := HO.out.lt
      obtain ⟨w1, hw1⟩ : ∃ w1, wo.alloc (.cells #[.string y.l_, .string y.m_, .slice y.p_.A y.p_.l.length y.p_.c, .slice y.n_.A y.n_.l.length y.n_.c, .slice y.j_.A y.j_.l.length y.j_.c] 52) = w1 := ⟨_, rfl⟩
      have hB1 : Below wo.heap.size wo w1 := hw1 ▸ (Below.refl _ wo).alloc (Nat.le_refl _) _
      have hBw1 := hB.trans (hB1.mono hso)
      have kS1 : Blk w1 wo.heap.size 52 [.string y.l_, .string y.m_, .slice y.p_.A y.p_.l.length y.p_.c, .slice y.n_.A y.n_.l.length y.n_.c, .slice y.j_.A y.j_.l.length y.j_.c] := hw1 ▸ Blk.new wo _ _
      have s2 := kS1.cell 2
      simp only [List.getElem?_cons_zero, List.getElem?_cons_succ, List.set_cons_zero, List.set_cons_succ] at s2
      have HC1 := zI (refOwnB y.p_ HYG.out.K_.len HYG.out.K_.nil w1 (HYG.out.K_.rd.below hBw1))
      have HW1 := zI hw1
      have HK1 := zI kS1
      clear hc hy hw1 kS1
      go_wp2_with fail
      rw [HW1.out]
      try go_wp2_with fail
      refine HC1.out.mono ?_
      rintro e w2 ⟨Y1, rfl, hl1, ho1, hV2⟩
      have HL1 := zI hl1
      clear hl1
      have kS2 := HK1.out.of hV2
      have f2 := kS2.frozen 2
      have g2 := kS2.cell 2
      simp only [List.getElem?_cons_zero, List.getElem?_cons_succ, List.set_cons_zero, List.set_cons_succ] at g2
      have kS3 := kS2.set 2 (.slice Y1.A Y1.l.length Y1.c)
      simp only [List.set_cons_zero, List.set_cons_succ] at kS3
      have RB3 := zbQ (B := wo.heap.size) (j := 2) (u := .slice Y1.A Y1.l.length Y1.c) ho1 HK1.out.lt
      have hBo3 : Below wo.heap.size wo (w2.setCell ⟨wo.heap.size, 2, none⟩ (.slice Y1.A Y1.l.length Y1.c)) := (hB1.trans (hV2.mono hB1.size)).setCell (p := ⟨wo.heap.size, 2, none⟩) (Nat.le_refl _) _
      obtain ⟨w3, hw3⟩ : ∃ w3, w2.setCell ⟨wo.heap.size, 2, none⟩ (.slice Y1.A Y1.l.length Y1.c) = w3 := ⟨_, rfl⟩
      rw [hw3] at kS3 RB3 hBo3
      have a4 : (w3.alloc (.cells #[] 109)).cell? ⟨wo.heap.size, 4, none⟩ = some (.slice y.j_.A y.j_.l.length y.j_.c) := by
        have := (kS3.alloc (.cells #[] 109)).cell 4
        simpa using this
      have HP3 := zI (HYG.out.G_.rd.below (hB.trans (hBo3.mono hso)))
      have HKS3 := zI kS3
      have HRB3 := zI RB3
      have HB3 := zI hBo3
      have hs3 := hBo3.size
      have hone : y.j_.l.length * 32 ≤ 140737488351232 := HYG.out.G_.len
      have hs2 : wo.heap.size < w1.heap.size := HK1.out.lt
      clear kS2 kS3 RB3 hBo3 HC1 ho1
      go_wp2_with (at_builtin; refine wpAppendE rfl rfl Tryz.underlying47 prC (fun _ => rfl) (by decide) onePr infoEPr rfl HP3.out HYG.out.G_.nil rfl rfl rfl (by unfold maxLen; omega) (by omega) ?_; intro v4 w4 HO4 HB4; obtain ⟨A4, cq, rfl, _, _, _, _⟩ := ownAny HO4.out; have HK4 := zI (HKS3.out.of HB4.out); have q4 := HK4.out.cell 4; have q3 := HK4.out.cell 3; have p4 := HK4.out.frozen 4; have p3 := HK4.out.frozen 3; simp only [List.getElem?_cons_zero, List.getElem?_cons_succ, List.set_cons_zero, List.set_cons_succ] at q4 q3)
      clear q4 q3 p4 p3 a4 f2 g2 s2
      have hs34 : w3.heap.size ≤ w4.heap.size := HB4.out.size
      have K4 := HK4.out
      have K5 := (K4.set 4 (.slice A4 y.j_.l.length cq)).set 3 (.slice none 0 0)
      simp only [List.set_cons_zero, List.set_cons_succ] at K5
      have RB5 : ((w4.setCell ⟨wo.heap.size, 4, none⟩ (.slice A4 y.j_.l.length cq)).setCell ⟨wo.heap.size, 3, none⟩ (.slice none 0 0)).ownsRow w1.heap.size 106 2 Y1.val Y1.l.length (Y1.l.flatMap bkC) := zbQ (zbQ (zgQ HRB3.out HB4.out (Nat.le_refl _)) hs2) hs2
      have RP5 : ((w4.setCell ⟨wo.heap.size, 4, none⟩ (.slice A4 y.j_.l.length cq)).setCell ⟨wo.heap.size, 3, none⟩ (.slice none 0 0)).ownsRow w3.heap.size 109 2 (.slice A4 y.j_.l.length cq) y.j_.l.length (y.j_.l.flatMap prC) := zbQ (zbQ HO4.out HKS3.out.lt) HKS3.out.lt
      have hBo5 : Below wo.heap.size wo ((w4.setCell ⟨wo.heap.size, 4, none⟩ (.slice A4 y.j_.l.length cq)).setCell ⟨wo.heap.size, 3, none⟩ (.slice none 0 0)) := ((HB3.out.trans (HB4.out.mono hs3)).setCell (p := ⟨wo.heap.size, 4, none⟩) (Nat.le_refl _) _).setCell (p := ⟨wo.heap.size, 3, none⟩) (Nat.le_refl _) _
      obtain ⟨w5, hw5⟩ : ∃ w5, (w4.setCell ⟨wo.heap.size, 4, none⟩ (.slice A4 y.j_.l.length cq)).setCell ⟨wo.heap.size, 3, none⟩ (.slice none 0 0) = w5 := ⟨_, rfl⟩
      rw [hw5] at K5 RB5 RP5 hBo5
      rw [hw5]
      have HK5 := zI K5
      have HRB5 := zI (zfZ RB5 (Nat.le_trans hso (Nat.le_of_lt hs2)))
      have HRP5 := zI (zfZ RP5 (Nat.le_trans hso hs3))
      have HB5 := zI hBo5
      clear K4 K5 RB5 RP5 hBo5 hw5 hw3 HKS3 HRB3 HB3 HP3 HK4 HO4 HB4 HK1 HW1 hBw1 hB1 hV2
      go_loopw [6] (fun i W => ∃ (k2 : Nat) (p : List Mna) (Ap : Option Addr) (cp : Nat), k2 ≤ y.n_.l.length ∧ i = .int .i64 k2 ∧ p.length ≤ k2 ∧ Hid (p.map Mna.plain = (y.n_.l.take k2).map Mna.plain) ∧ Hid (Blk W wo.heap.size 52 [.string y.l_, .string y.m_, .slice Y1.A Y1.l.length Y1.c, .slice Ap p.length cp, .slice A4 y.j_.l.length cq]) ∧ Hid (W.ownsRow w.heap.size 106 2 Y1.val Y1.l.length (Y1.l.flatMap bkC)) ∧ Hid (W.ownsRow w.heap.size 109 2 (.slice A4 y.j_.l.length cq) y.j_.l.length (y.j_.l.flatMap prC)) ∧ Hid (W.ownsRow wo.heap.size 49 5 (.slice Ap p.length cp) p.length (p.flatMap Mna.cells)) ∧ Hid (∀ z ∈ p, OwnSn w.heap.size W z) ∧ Below wo.heap.size wo W) (fun i _ => y.n_.l.length - (intOf i).toNat)
      case atStart => exact ⟨0, [], none, 0, Nat.zero_le _, rfl, Nat.le_refl _, zI (by simp), HK5, HRB5, HRP5, zI (ownNone _ _ _ _), zI (by simp), HB5.out⟩
      case round =>
        obtain ⟨k2, p, Ap, cp, hk2, rfl, hpl, HPM, HKS, HRB, HRP, HRS, HPE, hBi⟩ := hrel
        clear HK5 HRB5 HRP5 HB5
        obtain ⟨wi, hwi⟩ : ∃ wi, wi = wr := ⟨_, rfl⟩
        subst hwi
        have hsi := hBi.size
        have hBwi := hB.trans (hBi.mono hso)
        have hlen2 := HYG.out.f_.len
        have tt3 := (HT.out.of hBi).cell 3
        simp only [List.getElem?_cons_zero, List.getElem?_cons_succ, List.set_cons_zero, List.set_cons_succ] at tt3
        rw [HEA.out] at tt3
        have cc3 : wi.cell? ⟨b, off + k * 5 + 3, none⟩ = some (.slice y.n_.A y.n_.l.length y.n_.c) := (hBi.cell (p := ⟨b, off + k * 5 + 3, none⟩) hb).trans c3
        clear t3 c0 c1 c2 c4
        by_cases hlt2 : k2 < y.n_.l.length
        · obtain ⟨z, hz⟩ : ∃ z, y.n_.l[k2]? = some z := ⟨_, qZa hlt2⟩
          obtain ⟨b2, off2, eA2, hb2, hd⟩ := Rd.elem (n := 5) (fun _ => rfl) (by omega) (HYG.out.f_.rd.below hBwi) hz
          rw [eA2] at cc3
          clear eA2
          have d0 : wi.cell? ⟨b2, off2 + k2 * 5, none⟩ = some (.string z.x_) := hd 0 _ rfl
          have d1 : wi.cell? ⟨b2, off2 + k2 * 5 + 1, none⟩ = some (.int .i64 z.z_) := hd 1 _ rfl
          have d2 : wi.cell? ⟨b2, off2 + k2 * 5 + 2, none⟩ = some (.slice z.p_.A z.p_.l.length z.p_.c) := hd 2 _ rfl
          have d3 : wi.cell? ⟨b2, off2 + k2 * 5 + 3, none⟩ = some (.slice z.u_.A z.u_.l.length z.u_.c) := hd 3 _ rfl
          have d4 : wi.cell? ⟨b2, off2 + k2 * 5 + 4, none⟩ = some (.slice z.j_.A z.j_.l.length z.j_.c) := hd 4 _ rfl
          have HZG := zI (HYG.out.f_.el z (mG hz))
          have HZ := zI hz
          obtain ⟨v1, hv1⟩ : ∃ v1, wi.alloc (.cells #[.string z.x_, .int .i64 z.z_, .slice z.p_.A z.p_.l.length z.p_.c, .slice z.u_.A z.u_.l.length z.u_.c, .slice z.j_.A z.j_.l.length z.j_.c] 49) = v1 := ⟨_, rfl⟩
          have hC1 : Below wi.heap.size wi v1 := hv1 ▸ (Below.refl _ wi).alloc (Nat.le_refl _) _
          have hCw1 := hBwi.trans (hC1.mono hBwi.size)
          have kX1 : Blk v1 wi.heap.size 49 [.string z.x_, .int .i64 z.z_, .slice z.p_.A z.p_.l.length z.p_.c, .slice z.u_.A z.u_.l.length z.u_.c, .slice z.j_.A z.j_.l.length z.j_.c] := hv1 ▸ Blk.new wi _ _
          have x2 := kX1.cell 2
          simp only [List.getElem?_cons_zero, List.getElem?_cons_succ, List.set_cons_zero, List.set_cons_succ] at x2
          have HD1 := zI (refOwnB z.p_ HZG.out.K_.len HZG.out.K_.nil v1 (HZG.out.K_.rd.below hCw1))
          have HV1 := zI hv1
          have HX1 := zI kX1
          clear hd hz hv1 kX1
          go_wp2_with fail
          rw [HV1.out]
          try go_wp2_with fail
          refine HD1.out.mono ?_
          rintro e v2 ⟨Z1, rfl, hl2, hp1, hV2⟩
          have HL2 := zI hl2
          clear hl2
          have kX2 := HX1.out.of hV2
          have f2 := kX2.frozen 2
          have g2 := kX2.cell 2
          simp only [List.getElem?_cons_zero, List.getElem?_cons_succ, List.set_cons_zero, List.set_cons_succ] at g2
          have kX3 := kX2.set 2 (.slice Z1.A Z1.l.length Z1.c)
          simp only [List.set_cons_zero, List.set_cons_succ] at kX3
          have RB3 := zbQ (B := wi.heap.size) (j := 2) (u := .slice Z1.A Z1.l.length Z1.c) hp1 HX1.out.lt
          have hBx3 : Below wi.heap.size wi (v2.setCell ⟨wi.heap.size, 2, none⟩ (.slice Z1.A Z1.l.length Z1.c)) := (hC1.trans (hV2.mono hC1.size)).setCell (p := ⟨wi.heap.size, 2, none⟩) (Nat.le_refl _) _
          obtain ⟨v3, hv3⟩ : ∃ v3, v2.setCell ⟨wi.heap.size, 2, none⟩ (.slice Z1.A Z1.l.length Z1.c) = v3 := ⟨_, rfl⟩
          rw [hv3] at kX3 RB3 hBx3
          have a4 : (v3.alloc (.cells #[] 109)).cell? ⟨wi.heap.size, 4, none⟩ = some (.slice z.j_.A z.j_.l.length z.j_.c) := by
            have := (kX3.alloc (.cells #[] 109)).cell 4
            simpa using this
          have HP3 := zI (HZG.out.G_.rd.below (hBwi.trans (hBx3.mono hBwi.size)))
          have HKX3 := zI kX3
          have HRB3 := zI RB3
          have HBX3 := zI hBx3
          have hx3 := hBx3.size
          have hone2 : z.j_.l.length * 32 ≤ 140737488351232 := HZG.out.G_.len
          have hone3 : z.u_.l.length * 16 ≤ 140737488351232 := HZG.out.U_.len
          have hx2 : wi.heap.size < v1.heap.size := HX1.out.lt
          clear kX2 kX3 RB3 hBx3 HD1 hp1
          have hneSX : wo.heap.size ≠ wi.heap.size := Nat.ne_of_lt HKS.out.lt
          go_wp2_with (first
            | (at_builtin; refine wpAppendE rfl rfl Tryz.underlying47 prC (fun _ => rfl) (by decide) onePr infoEPr rfl HP3.out HZG.out.G_.nil rfl rfl rfl (by unfold maxLen; omega) (by omega) ?_
               intro n4 v4 HO4 HB4
               obtain ⟨A5, cr, rfl, _, _, _, _⟩ := ownAny HO4.out
               have HK4 := zI (HKX3.out.of HB4.out)
               have HBX5 : Hid (Below wi.heap.size wi (v4.setCell ⟨wi.heap.size, 4, none⟩ (.slice A5 z.j_.l.length cr))) := zI ((HBX3.out.trans (HB4.out.mono hx3)).setCell (p := ⟨wi.heap.size, 4, none⟩) (Nat.le_refl _) _)
               have HP5 := zI (HZG.out.U_.rd.below (hBwi.trans (HBX5.out.mono hBwi.size)))
               have q4 := HK4.out.cell 4
               have p4 := HK4.out.frozen 4
               have q3 : ((v4.setCell ⟨wi.heap.size, 4, none⟩ (.slice A5 z.j_.l.length cr)).alloc (.cells #[] 9)).cell? ⟨wi.heap.size, 3, none⟩ = some (.slice z.u_.A z.u_.l.length z.u_.c) := (by have := ((HK4.out.set 4 (.slice A5 z.j_.l.length cr)).alloc (.cells #[] 9)).cell 3; simpa using this)
               simp only [List.getElem?_cons_zero, List.getElem?_cons_succ, List.set_cons_zero, List.set_cons_succ] at q4)
            | (at_builtin; refine wpAppendE rfl rfl Tryz.underlying46 (fun s => [Value.string s]) (fun _ => rfl) (by decide) oneTx infoTx rfl HP5.out HZG.out.U_.nil (World.size_setCell _ _ _) rfl rfl (by unfold maxLen; omega) (by omega) ?_
               intro n6 v6 HO6 HB6
               obtain ⟨A6, ct, rfl, _, _, _, _⟩ := ownAny HO6.out
               have HK6 := zI ((HK4.out.set 4 (.slice A5 z.j_.l.length cr)).of HB6.out)
               have HBX6 := zI (HBX5.out.trans (HB6.out.mono HBX5.out.size))
               have HS6 := zI (HKS.out.of HBX6.out)
               clear q3 q4 p4
               have e0 := HK6.out.cell 0
               have e1 := HK6.out.cell 1
               have e2 := HK6.out.cell 2
               have e3 := HK6.out.cell 3
               have e4 := HK6.out.cell 4
               have e5 := HS6.out.cell 3
               have e6 := HK6.out.frozen 3
               simp only [List.getElem?_cons_zero, List.getElem?_cons_succ, List.set_cons_zero, List.set_cons_succ] at e0 e1 e2 e3 e4 e5
               have HBX7 : Hid (Below wi.heap.size wi (v6.setCell ⟨wi.heap.size, 3, none⟩ (.slice A6 z.u_.l.length ct))) := zI (HBX6.out.setCell (p := ⟨wi.heap.size, 3, none⟩) (Nat.le_refl _) _)
               have HBO7 := zI (hBi.trans (HBX7.out.mono hsi))
               have HS7 := zI (HKS.out.of HBX7.out)
               have HR7 := zI (zgQ HRS.out HBX7.out (Nat.le_refl _)))
            | (at_builtin; refine wpAppendKN rfl rfl Tryz.underlying50 Mna.cells (fun _ => rfl) (by decide) oneSn infoESn rfl HBO7.out HBO7.out.size HR7.out ⟨z.x_, z.z_, ⟨Z1.A, Z1.l, Z1.c⟩, ⟨A6, z.u_.l, ct⟩, ⟨A5, z.j_.l, cr⟩⟩ (World.size_setCell _ _ _) rfl rfl (by unfold maxLen; omega) (by omega) ?_
               intro g9 c9 v9 HO9 HB9 HK9
               clear e0 e1 e2 e3 e4 e5 e6
               have HS9 := zI (HS7.out.keep HK9.out (by decide))
               have e5 := HS9.out.cell 3
               have e6 := HS9.out.frozen 3
               simp only [List.getElem?_cons_zero, List.getElem?_cons_succ, List.set_cons_zero, List.set_cons_succ] at e5))
          have HM' : Hid ((p ++ [(⟨z.x_, z.z_, ⟨Z1.A, Z1.l, Z1.c⟩, ⟨A6, z.u_.l, ct⟩, ⟨A5, z.j_.l, cr⟩⟩ : Mna)]).map Mna.plain = (y.n_.l.take (k2 + 1)).map Mna.plain) := zI (by
            rw [List.map_append, HPM.out, List.take_add_one, HZ.out, List.map_append]
            show _ ++ [Mna.plain (⟨z.x_, z.z_, ⟨Z1.A, Z1.l, Z1.c⟩, ⟨A6, z.u_.l, ct⟩, ⟨A5, z.j_.l, cr⟩⟩ : Mna)] = _ ++ [Mna.plain z]
            simp only [Mna.plain]
            rw [HL2.out])
          have hB6s := HB6.out
          have hNX : w.heap.size ≤ wi.heap.size := hBwi.size
          have HN7 : Hid (OwnSn w.heap.size (v6.setCell ⟨wi.heap.size, 3, none⟩ (.slice A6 z.u_.l.length ct)) (⟨z.x_, z.z_, ⟨Z1.A, Z1.l, Z1.c⟩, ⟨A6, z.u_.l, ct⟩, ⟨A5, z.j_.l, cr⟩⟩ : Mna)) := zI ⟨zfZ (zbQ (zgQ (zbQ (zgQ HRB3.out HB4.out (Nat.le_refl _)) hx2) hB6s (Nat.le_refl _)) hx2) (by omega), zfZ (zbQ HO6.out (by have := HKX3.out.lt; have := HB4.out.size; simp; omega)) (by have := HB4.out.size; simp; omega), zfZ (zbQ (zgQ (zbQ HO4.out HKX3.out.lt) hB6s (Nat.le_refl _)) HKX3.out.lt) (by omega)⟩
          have HE' : Hid (∀ t ∈ p ++ [(⟨z.x_, z.z_, ⟨Z1.A, Z1.l, Z1.c⟩, ⟨A6, z.u_.l, ct⟩, ⟨A5, z.j_.l, cr⟩⟩ : Mna)], OwnSn w.heap.size (v9.setCell ⟨wo.heap.size, 3, none⟩ (.slice (some ⟨g9, 0, none⟩) (p.length + 1) c9)) t) := zI fun t ht => by
            have h7 : OwnSn w.heap.size (v6.setCell ⟨wi.heap.size, 3, none⟩ (.slice A6 z.u_.l.length ct)) t := by
              rcases List.mem_append.1 ht with h | h
              · exact (HPE.out t h).below HBX7.out
              · simp only [List.mem_singleton] at h
                subst h
                exact HN7.out
            exact (h7.keep HK9.out (by decide) (by decide) (by decide)).setT HS9.out (by decide) (by decide) (by decide)
          have HS' := zI (HS9.out.set 3 (.slice (some ⟨g9, 0, none⟩) (p.length + 1) c9))
          have HRB' := zI (own_setT (j := 3) (u := (.slice (some ⟨g9, 0, none⟩) (p.length + 1) c9)) (zbX (zgQ HRB.out HBX7.out (Nat.le_refl _)) (by decide) HK9.out) HS9.out (by decide))
          have HRP' := zI (own_setT (j := 3) (u := (.slice (some ⟨g9, 0, none⟩) (p.length + 1) c9)) (zbX (zgQ HRP.out HBX7.out (Nat.le_refl _)) (by decide) HK9.out) HS9.out (by decide))
          have HRS' := zI (own_setT (j := 3) (u := (.slice (some ⟨g9, 0, none⟩) (p.length + 1) c9)) HO9.out HS9.out (by decide))
          have HB' := HB9.out.setCell (p := ⟨wo.heap.size, 3, none⟩) (Nat.le_refl _) (.slice (some ⟨g9, 0, none⟩) (p.length + 1) c9)
          go_roundw
          case rel => exact ⟨k2 + 1, p ++ [(⟨z.x_, z.z_, ⟨Z1.A, Z1.l, Z1.c⟩, ⟨A6, z.u_.l, ct⟩, ⟨A5, z.j_.l, cr⟩⟩ : Mna)], some ⟨g9, 0, none⟩, c9, by omega, by go_num, by simp; omega, HM', by simpa using HS', HRB', HRP', by simpa using HRS', HE', HB'⟩
          case measure => simp [intOf]; omega
        · have hke : y.n_.l.take k2 = y.n_.l := List.take_of_length_le (by omega)
          rw [hke] at HPM
          clear hke
          have e0 := HKS.out.cell 0
          have e1 := HKS.out.cell 1
          have e2 := HKS.out.cell 2
          have e3 := HKS.out.cell 3
          have e4 := HKS.out.cell 4
          have HOi := zI (HO.out.of hBi)
          have e5 := HOi.out.cell 3
          simp only [List.getElem?_cons_zero, List.getElem?_cons_succ, List.set_cons_zero, List.set_cons_succ] at e0 e1 e2 e3 e4 e5
          have HSi := zI (zgQ HS.out hBi (Nat.le_refl _))
          go_wp2_with (at_builtin; refine wpAppendKN rfl rfl Tryz.underlying22 MSet.cells (fun _ => rfl) (by decide) oneSe infoESe rfl hBwi hBwi.size HSi.out (⟨y.l_, y.m_, ⟨Y1.A, Y1.l, Y1.c⟩, ⟨Ap, p, cp⟩, ⟨A4, y.j_.l, cq⟩⟩ : MSet) rfl rfl rfl (by unfold maxLen; omega) (by omega) ?_; intro g9 c9 v9 HO9 HB9 HK9; clear e0 e1 e2 e3 e4 e5; have HO9O := zI (HOi.out.keep HK9.out (by decide)); have e5 := HO9O.out.cell 3; have e6 := HO9O.out.frozen 3; simp only [List.getElem?_cons_zero, List.getElem?_cons_succ, List.set_cons_zero, List.set_cons_succ] at e5)
          have HMo : Hid ((o ++ [(⟨y.l_, y.m_, ⟨Y1.A, Y1.l, Y1.c⟩, ⟨Ap, p, cp⟩, ⟨A4, y.j_.l, cq⟩⟩ : MSet)]).map MSet.plain = (x.y_.l.take (k + 1)).map MSet.plain) := zI (by
            rw [List.map_append, HM.out, List.take_add_one, HY.out, List.map_append]
            show _ ++ [MSet.plain (⟨y.l_, y.m_, ⟨Y1.A, Y1.l, Y1.c⟩, ⟨Ap, p, cp⟩, ⟨A4, y.j_.l, cq⟩⟩ : MSet)] = _ ++ [MSet.plain y]
            simp only [MSet.plain]
            rw [HL1.out, HPM.out])
          have HNi : Hid (OwnSe w.heap.size wi (⟨y.l_, y.m_, ⟨Y1.A, Y1.l, Y1.c⟩, ⟨Ap, p, cp⟩, ⟨A4, y.j_.l, cq⟩⟩ : MSet)) := zI ⟨HRB.out, zfZ HRS.out hso, HRP.out, HPE.out⟩
          have HEo : Hid (∀ t ∈ o ++ [(⟨y.l_, y.m_, ⟨Y1.A, Y1.l, Y1.c⟩, ⟨Ap, p, cp⟩, ⟨A4, y.j_.l, cq⟩⟩ : MSet)], OwnSe w.heap.size (v9.setCell ⟨w.heap.size + 1 + 1, 3, none⟩ (.slice (some ⟨g9, 0, none⟩) (o.length + 1) c9)) t) := zI fun t ht => by
            have h7 : OwnSe w.heap.size wi t := by
              rcases List.mem_append.1 ht with h | h
              · exact (HE.out t h).below hBi
              · simp only [List.mem_singleton] at h
                subst h
                exact HNi.out
            exact (h7.keep HK9.out (by decide) (by decide) (by decide) (by decide)).setT HO9O.out (by decide) (by decide) (by decide) (by decide)
          have HSPo : Hid ((o ++ [(⟨y.l_, y.m_, ⟨Y1.A, Y1.l, Y1.c⟩, ⟨Ap, p, cp⟩, ⟨A4, y.j_.l, cq⟩⟩ : MSet)]).Pairwise SepS) := zI (List.pairwise_append.2 ⟨HSP.out, List.pairwise_singleton _ _, fun a ha b hb g h hg hh => by
            rw [List.mem_singleton] at hb
            subst hb
            have h1 := ((HE.out a ha).blk hg).2
            have h2 := (row_blk HRS.out hh).1
            omega⟩)
          have HOo := zI (HO9O.out.set 3 (.slice (some ⟨g9, 0, none⟩) (o.length + 1) c9))
          have hneT : w.heap.size ≠ w.heap.size + 1 + 1 := by omega
          have hneR : w.heap.size + 1 ≠ w.heap.size + 1 + 1 := by omega
          have HTo := zI (((HT.out.of hBi).keep HK9.out (by decide)).other hneT 3 (.slice (some ⟨g9, 0, none⟩) (o.length + 1) c9))
          have HRo := zI (((HR.out.of hBi).keep HK9.out (by decide)).other hneR 3 (.slice (some ⟨g9, 0, none⟩) (o.length + 1) c9))
          have HSo := zI (own_setT (j := 3) (u := (.slice (some ⟨g9, 0, none⟩) (o.length + 1) c9)) HO9.out HO9O.out (by decide))
          have HBo := HB9.out.setCell (p := ⟨w.heap.size + 1 + 1, 3, none⟩) (by show w.heap.size ≤ w.heap.size + 1 + 1; omega) (.slice (some ⟨g9, 0, none⟩) (o.length + 1) c9)
          go_roundw
          case rel =>
            exact ⟨k + 1, o ++ [(⟨y.l_, y.m_, ⟨Y1.A, Y1.l, Y1.c⟩, ⟨Ap, p, cp⟩, ⟨A4, y.j_.l, cq⟩⟩ : MSet)], some ⟨g9, 0, none⟩, c9, by omega, by go_num, by simp; omega, HMo, HTo, HRo, by simpa using HOo, by simpa using HSo, HEo, HSPo, HBo⟩
          case measure => simp [intOf]; omega
    · have hke : x.y_.l.take k = x.y_.l := List.take_of_length_le (by omega)
      rw [hke] at HM
      clear hke
      have e3 := HO.out.cell 4
      have e4 := HT.out.cell 4
      simp only [List.getElem?_cons_zero, List.getElem?_cons_succ, List.set_cons_zero, List.set_cons_succ] at e3 e4
      have hlg := HG.out.Q_.len
      have HRG := zI (HG.out.Q_.rd.below hB)
      have HNG : Hid (x.g_.A = none → x.g_.c = 0) := zI HG.out.Q_.nil
      go_wp2_with (at_builtin; refine wpAppendZ rfl rfl Tryz.underlying23 grC (fun _ => rfl) (by decide) oneGr infoEGr rfl HRG.out HNG.out rfl rfl (by unfold maxLen; omega) (by omega) ?_; intro n1 v1 HO1 HB1; obtain ⟨Ag, cg, rfl, _, _, _, _⟩ := ownAny HO1.out; have HOg := zI (HO.out.of HB1.out); have q4 := HOg.out.cell 4; have p4 := HOg.out.frozen 4; simp only [List.getElem?_cons_zero, List.getElem?_cons_succ, List.set_cons_zero, List.set_cons_succ] at q4)
      clear e3 e4 q4 p4
      have hneT : w.heap.size ≠ w.heap.size + 1 + 1 := by omega
      have hneR : w.heap.size + 1 ≠ w.heap.size + 1 + 1 := by omega
      have HO2 := zI (HOg.out.set 4 (.slice Ag x.g_.l.length cg))
      have HT2 := zI ((HT.out.of HB1.out).other hneT 4 (.slice Ag x.g_.l.length cg))
      have HR2 := zI ((HR.out.of HB1.out).other hneR 4 (.slice Ag x.g_.l.length cg))
      have HKP := zI (Keeps.set HOg.out 4 (.slice Ag x.g_.l.length cg))
      have HS2 := zI (zbX (zgQ HS.out HB1.out (Nat.le_refl _)) (by decide) HKP.out)
      have HE2 : Hid (∀ y ∈ o, OwnSe w.heap.size (v1.setCell ⟨w.heap.size + 1 + 1, 4, none⟩ (.slice Ag x.g_.l.length cg)) y) := zI fun y hy => ((HE.out y hy).below HB1.out).keep HKP.out (by decide) (by decide) (by decide) (by decide)
      have HG2 := zI (zbX (zfZ HO1.out hso) (by decide) HKP.out)
      have HB2 := zI ((hB.trans (HB1.out.mono hso)).setCell (p := ⟨w.heap.size + 1 + 1, 4, none⟩) (by show w.heap.size ≤ w.heap.size + 1 + 1; omega) (.slice Ag x.g_.l.length cg))
      obtain ⟨u2, hu2⟩ : ∃ u2, v1.setCell ⟨w.heap.size + 1 + 1, 4, none⟩ (.slice Ag x.g_.l.length cg) = u2 := ⟨_, rfl⟩
      rw [hu2] at HO2 HT2 HR2 HS2 HE2 HG2 HB2
      rw [hu2]
      simp only [List.set_cons_zero, List.set_cons_succ] at HO2
      clear hu2 HKP HO1 HB1 HOg HT HR HO HS HE HRG HNG hB
      go_loopw [8] (fun i W => ∃ (k : Nat) (q : List Mta) (Ab : Option Addr) (cb : Nat), k ≤ x.t_.l.length ∧ i = .int .i64 k ∧ q.length ≤ k ∧ Hid (q.map Mta.plain = (x.t_.l.take k).map Mta.plain) ∧ Hid (Blk W w.heap.size 27 x.cells) ∧ Hid (Blk W (w.heap.size + 1) 27 [.string ⟨#[]⟩, .int .i64 0, .int .i64 0, .slice none 0 0, .slice none 0 0, .slice none 0 0, .slice none 0 0]) ∧ Hid (Blk W (w.heap.size + 1 + 1) 27 [.string x.x_, .int .i64 x.r_, .int .i64 x.v_, .slice Av o.length cv, .slice Ag x.g_.l.length cg, .slice Ab q.length cb, .slice none 0 0]) ∧ Hid (W.ownsRow w.heap.size 52 5 (.slice Av o.length cv) o.length (o.flatMap MSet.cells)) ∧ Hid (∀ y ∈ o, OwnSe w.heap.size W y) ∧ Hid (W.ownsRow w.heap.size 111 3 (.slice Ag x.g_.l.length cg) x.g_.l.length (x.g_.l.flatMap grC)) ∧ Hid (W.ownsRow w.heap.size 91 21 (.slice Ab q.length cb) q.length (q.flatMap Mta.cells)) ∧ Hid (∀ y ∈ q, OwnSt w.heap.size W y) ∧ Below w.heap.size w W) (fun i _ => x.t_.l.length - (intOf i).toNat)
      case atStart => exact ⟨0, [], none, 0, Nat.zero_le _, rfl, Nat.le_refl _, zI (by simp), HT2, HR2, HO2, HS2, HE2, HG2, zI (ownNone _ _ _ _), zI (by simp), HB2.out⟩
      case round =>
        clear hlt hk hol
        obtain ⟨k, q, Ab, cb, hk, rfl, hql, HQM, HT, HR, HO, HS, HE, HGR, HST, HSE, hB⟩ := hrel
        clear HT2 HR2 HO2 HS2 HE2 HG2 HB2
        obtain ⟨wq, hwq⟩ : ∃ wq, wq = wr := ⟨_, rfl⟩
        subst hwq
        have hsq := hB.size
        have hlens := HG.out.B_.len
        have t5 := HT.out.cell 5
        simp only [List.getElem?_cons_zero, List.getElem?_cons_succ, List.set_cons_zero, List.set_cons_succ] at t5
        by_cases hlt : k < x.t_.l.length
        · obtain ⟨s, hs⟩ : ∃ s, x.t_.l[k]? = some s := ⟨_, qZa hlt⟩
          obtain ⟨b, off, eA, hb, hc⟩ := load_elem Tryz.prog (n := 21) (fun _ => rfl) (by omega) (HG.out.B_.rd.below hB) hs
          rw [eA] at t5
          clear eA
          have HSG := zI (HG.out.B_.el s (mG hs))
          have HY := zI hs
          obtain ⟨cs, hcs⟩ : ∃ cs, s.cells.toArray = cs := ⟨_, rfl⟩
          have hn : cs.size = 21 := by rw [← hcs]; rfl
          have hone : cs.all (·.oneCell') = true := by rw [← hcs]; simp [Mta.cells, MR_.cells, MSum.cells, Value.oneCell']
          rw [hcs] at hc
          have hlc := hc wq (Below.refl _ _)
          have hsc := run_storeCells_new (P := Tryz.prog) wq 91 #[.string ⟨#[]⟩, .int .i64 0, .string ⟨#[]⟩, .int .i64 0, .int .i64 0, .slice none 0 0, .int .i64 0, .int .i64 0, .string ⟨#[]⟩, .int .u64 0, .int .u64 0, .int .u64 0, .int .u64 0, .slice none 0 0, .int .i64 0, .int .i64 0, .int .u64 0, .int .u64 0, .int .u64 0, .int .u64 0, .bool false] cs (by rw [hinf, hn]) (by rw [hn]; rfl) hone
          obtain ⟨v1, hv1⟩ : ∃ v1, wq.alloc (.cells cs 91) = v1 := ⟨_, rfl⟩
          have hC1 : Below wq.heap.size wq v1 := hv1 ▸ (Below.refl _ wq).alloc (Nat.le_refl _) _
          have hCw1 := hB.trans (hC1.mono hsq)
          have kX1 : Blk v1 wq.heap.size 91 [.string s.S_, .int .i64 s.o_.N_, .string s.o_.x_, .int .i64 s.o_.from_, .int .i64 s.o_.z_, .slice s.o_.j_.A s.o_.j_.l.length s.o_.j_.c, .int .i64 s.o_.E_, .int .i64 s.o_.Y_, .string s.o_.P_, .int .u64 s.o_.T_.a_, .int .u64 s.o_.T_.b_, .int .u64 s.o_.T_.c_, .int .u64 s.o_.T_.d_, .slice s.p_.A s.p_.l.length s.p_.c, .int .i64 s.at_, .int .i64 s.v_, .int .u64 s.T_.a_, .int .u64 s.T_.b_, .int .u64 s.T_.c_, .int .u64 s.T_.d_, .bool s.done_] := by rw [← hv1, ← hcs]; exact Blk.new wq _ _
          rw [hv1] at hsc
          have x13 := kX1.cell 13
          simp only [List.getElem?_cons_zero, List.getElem?_cons_succ, List.set_cons_zero, List.set_cons_succ] at x13
          have HD1 := zI (refOwnB s.p_ HSG.out.K_.len HSG.out.K_.nil v1 (HSG.out.K_.rd.below hCw1))
          have HX1 := zI kX1
          have HHN := zI hone
          clear hc hs hv1 kX1 hcs hone
          go_wp2_with fail
          simp only [Tryz.sizeOf91, Result.andThen]
          rw [Oper.upon_value]
          go_wp2_with fail
          simp only [Tryz.isAgg91, Tryz.sizeOf91, Result.andThen, ↓reduceIte, hlc]
          rw [Oper.upon_value]
          go_wp2_with fail
          simp only [Tryz.sizeOf91, Result.andThen, ↓reduceIte, hsc]
          rw [Oper.upon_skip]
          clear hlc hsc hn
          go_wp2_with fail
          refine HD1.out.mono ?_
          rintro e v2 ⟨Z1, rfl, hl2, hp1, hV2⟩
          have HL2 := zI hl2
          clear hl2
          have kX2 := HX1.out.of hV2
          have f2 := kX2.frozen 13
          have g2 := kX2.cell 13
          simp only [List.getElem?_cons_zero, List.getElem?_cons_succ, List.set_cons_zero, List.set_cons_succ] at g2
          have kX3 := kX2.set 13 (.slice Z1.A Z1.l.length Z1.c)
          simp only [List.set_cons_zero, List.set_cons_succ] at kX3
          have RB3 := zbQ (B := wq.heap.size) (j := 13) (u := (.slice Z1.A Z1.l.length Z1.c)) hp1 HX1.out.lt
          have hBx3 : Below wq.heap.size wq (v2.setCell ⟨wq.heap.size, 13, none⟩ (.slice Z1.A Z1.l.length Z1.c)) := (hC1.trans (hV2.mono hC1.size)).setCell (p := ⟨wq.heap.size, 13, none⟩) (Nat.le_refl _) _
          obtain ⟨v3, hv3⟩ : ∃ v3, v2.setCell ⟨wq.heap.size, 13, none⟩ (.slice Z1.A Z1.l.length Z1.c) = v3 := ⟨_, rfl⟩
          rw [hv3] at kX3 RB3 hBx3
          have a5 : (v3.alloc (.cells #[] 109)).cell? ⟨wq.heap.size, 5, none⟩ = some (.slice s.o_.j_.A s.o_.j_.l.length s.o_.j_.c) := by
            have := (kX3.alloc (.cells #[] 109)).cell 5
            simpa using this
          have HP3 := zI (HSG.out.X_.G_.rd.below (hB.trans (hBx3.mono hsq)))
          have HKX3 := zI kX3
          have HRB3 := zI RB3
          have HBX3 := zI hBx3
          have hx3 := hBx3.size
          have hone2 : s.o_.j_.l.length * 32 ≤ 140737488351232 := HSG.out.X_.G_.len
          have hx2 : wq.heap.size < v1.heap.size := HX1.out.lt
          have hneOX : w.heap.size + 1 + 1 ≠ wq.heap.size := Nat.ne_of_lt HO.out.lt
          clear kX2 kX3 RB3 hBx3 HD1 hp1
          go_wp2_with (at_builtin; refine wpAppendE rfl rfl Tryz.underlying47 prC (fun _ => rfl) (by decide) onePr infoEPr rfl HP3.out HSG.out.X_.G_.nil rfl rfl rfl (by unfold maxLen; omega) (by omega) ?_; intro n4 v4 HO4 HB4; obtain ⟨A5, cr, rfl, _, _, _, _⟩ := ownAny HO4.out; have HK4 := zI (HKX3.out.of HB4.out); have q4 := HK4.out.cell 5; have p4 := HK4.out.frozen 5; have HOX4 := zI (HO.out.of (HBX3.out.trans (HB4.out.mono hx3))); have q5 := HOX4.out.cell 5; simp only [List.getElem?_cons_zero, List.getElem?_cons_succ, List.set_cons_zero, List.set_cons_succ] at q4 q5)
          obtain ⟨s', hs'⟩ : ∃ s' : Mta, s' = (⟨s.S_, ⟨s.o_.N_, s.o_.x_, s.o_.from_, s.o_.z_, ⟨A5, s.o_.j_.l, cr⟩, s.o_.E_, s.o_.Y_, s.o_.P_, s.o_.T_⟩, ⟨Z1.A, Z1.l, Z1.c⟩, s.at_, s.v_, s.T_, s.done_⟩ : Mta) := ⟨_, rfl⟩
          have kX5 : Blk (v4.setCell ⟨wq.heap.size, 5, none⟩ (.slice A5 s.o_.j_.l.length cr)) wq.heap.size 91 s'.cells := by
            rw [hs']
            exact HK4.out.set 5 (.slice A5 s.o_.j_.l.length cr)
          have HOX5 := zI (HOX4.out.other hneOX 5 (.slice A5 s.o_.j_.l.length cr))
          have hBX5 : Below wq.heap.size wq (v4.setCell ⟨wq.heap.size, 5, none⟩ (.slice A5 s.o_.j_.l.length cr)) := (HBX3.out.trans (HB4.out.mono hx3)).setCell (p := ⟨wq.heap.size, 5, none⟩) (Nat.le_refl _) _
          have HN5 : Hid (OwnSt w.heap.size (v4.setCell ⟨wq.heap.size, 5, none⟩ (.slice A5 s.o_.j_.l.length cr)) s') := zI (by
            rw [hs']
            exact ⟨zfZ (zbQ (zgQ HRB3.out HB4.out (Nat.le_refl _)) hx2) (by omega), zfZ (zbQ HO4.out HKX3.out.lt) (by omega)⟩)
          have HPS : Hid (Mta.plain s' = Mta.plain s) := zI (by
            rw [hs']
            simp only [Mta.plain, MR_.plain]
            rw [HL2.out])
          clear hs' q4 p4 q5
          obtain ⟨v5, hv5⟩ : ∃ v5, v4.setCell ⟨wq.heap.size, 5, none⟩ (.slice A5 s.o_.j_.l.length cr) = v5 := ⟨_, rfl⟩
          rw [hv5] at kX5 HOX5 hBX5 HN5
          obtain ⟨ds, hds⟩ : ∃ ds, s'.cells.toArray = ds := ⟨_, rfl⟩
          have hnd : ds.size = 21 := by rw [← hds]; rfl
          have hld := run_loadCellsFrom_list Tryz.prog v5 ⟨wq.heap.size, 0, none⟩ s'.cells 21 rfl (fun j v hv => by rw [Addr.add_lit, kX5.cell, Nat.zero_add]; exact hv)
          rw [hds] at hld
          have hbu : ∀ W : World, (Instr.buildSlice 24 1 #[(0, .agg ds)]).run Tryz.prog W = .ok (.slice (some ⟨W.heap.size, 0, none⟩) 1 1) (W.alloc (.cells ds 91)) := fun W => run_buildOne Tryz.prog W _ _ _ 21 _ 224 Tryz.underlying24 infoESt (by decide) (by decide) hnd
          have HDS := zI hds
          have hBq5 := hB.trans (hBX5.mono hsq)
          have HST5 := zI (zgQ HST.out hBX5 (Nat.le_refl _))
          have q5 := HOX5.out.cell 5
          simp only [List.getElem?_cons_zero, List.getElem?_cons_succ, List.set_cons_zero, List.set_cons_succ] at q5
          have HBX5 := zI hBX5
          rw [hv5]
          clear hds hnd hv3 kX5 hBX5
          simp only [Tryz.isAgg91, Tryz.sizeOf91, Result.andThen, ↓reduceIte, hld]
          rw [Oper.upon_value]
          go_wp2_with (at_builtin; rw [← HDS.out]; refine wpAppendKN rfl rfl Tryz.underlying24 Mta.cells (fun _ => rfl) (by decide) oneSt infoESt rfl hBq5 hBq5.size HST5.out s' rfl rfl rfl (by unfold maxLen; omega) (by omega) ?_; intro g9 c9 v9 HO9 HB9 HK9; have HOO9 := zI (HOX5.out.keep HK9.out (by decide)); have q9 := HOO9.out.cell 5; have p9 := HOO9.out.frozen 5; simp only [List.getElem?_cons_zero, List.getElem?_cons_succ, List.set_cons_zero, List.set_cons_succ] at q9)
          have HMo : Hid ((q ++ [s']).map Mta.plain = (x.t_.l.take (k + 1)).map Mta.plain) := zI (by
            rw [List.map_append, HQM.out, List.take_add_one, HY.out, List.map_append]
            show _ ++ [Mta.plain s'] = _ ++ [Mta.plain s]
            rw [HPS.out])
          have HKO := zI (Keeps.set HOO9.out 5 (.slice (some ⟨g9, 0, none⟩) (q.length + 1) c9))
          have HOo := zI (HOO9.out.set 5 (.slice (some ⟨g9, 0, none⟩) (q.length + 1) c9))
          have HTo := zI (((HT.out.of HBX5.out).keep HK9.out (by decide)).other hneT 5 (.slice (some ⟨g9, 0, none⟩) (q.length + 1) c9))
          have HRo := zI (((HR.out.of HBX5.out).keep HK9.out (by decide)).other hneR 5 (.slice (some ⟨g9, 0, none⟩) (q.length + 1) c9))
          have HSo := zI (zbX (zbX (zgQ HS.out HBX5.out (Nat.le_refl _)) (by decide) HK9.out) (by decide) HKO.out)
          have HGo := zI (zbX (zbX (zgQ HGR.out HBX5.out (Nat.le_refl _)) (by decide) HK9.out) (by decide) HKO.out)
          have HEo : Hid (∀ t ∈ o, OwnSe w.heap.size (v9.setCell ⟨w.heap.size + 1 + 1, 5, none⟩ (.slice (some ⟨g9, 0, none⟩) (q.length + 1) c9)) t) := zI fun t ht => (((HE.out t ht).below HBX5.out).keep HK9.out (by decide) (by decide) (by decide) (by decide)).keep HKO.out (by decide) (by decide) (by decide) (by decide)
          have HSo2 := zI (zbX HO9.out (by decide) HKO.out)
          have HFo : Hid (∀ t ∈ q ++ [s'], OwnSt w.heap.size (v9.setCell ⟨w.heap.size + 1 + 1, 5, none⟩ (.slice (some ⟨g9, 0, none⟩) (q.length + 1) c9)) t) := zI fun t ht => by
            have h7 : OwnSt w.heap.size v5 t := by
              rcases List.mem_append.1 ht with h | h
              · exact (HSE.out t h).below HBX5.out
              · simp only [List.mem_singleton] at h
                subst h
                exact HN5.out
            exact (h7.keep HK9.out (by decide) (by decide)).keep HKO.out (by decide) (by decide)
          have HBo := HB9.out.setCell (p := ⟨w.heap.size + 1 + 1, 5, none⟩) (by show w.heap.size ≤ w.heap.size + 1 + 1; omega) (.slice (some ⟨g9, 0, none⟩) (q.length + 1) c9)
          go_roundw
          case rel => exact ⟨k + 1, q ++ [s'], some ⟨g9, 0, none⟩, c9, by omega, by go_num, by simp; omega, HMo, HTo, HRo, by simpa using HOo, HSo, HEo, HGo, by simpa using HSo2, HFo, HBo⟩
          case measure => simp [intOf]; omega
        · have hke : x.t_.l.take k = x.t_.l := List.take_of_length_le (by omega)
          rw [hke] at HQM
          clear hke
          have e3 := HO.out.cell 6
          have e4 := HT.out.cell 6
          simp only [List.getElem?_cons_zero, List.getElem?_cons_succ, List.set_cons_zero, List.set_cons_succ] at e3 e4
          have hlg := HG.out.glog_.len
          have HRG := zI (HG.out.glog_.rd.below hB)
          have HNG : Hid (x.h_.A = none → x.h_.c = 0) := zI HG.out.glog_.nil
          have hne1 : w.heap.size + 1 ≠ w.heap.size + 1 + 1 := by omega
          go_wp2_with (at_builtin; refine wpAppendZ rfl rfl Tryz.underlying25 ME_.cells (fun _ => rfl) (by decide) oneEn infoEEn rfl HRG.out HNG.out rfl rfl (by unfold maxLen; omega) (by omega) ?_; intro n1 v1 HO1 HB1; obtain ⟨Al, cl, rfl, _, _, _, _⟩ := ownAny HO1.out; have HOg := zI (HO.out.of HB1.out); have HRg := zI (HR.out.of HB1.out); have q0 := HOg.out.cell 0; have q1 := HOg.out.cell 1; have q2 := HOg.out.cell 2; have q3 := HOg.out.cell 3; have q4 := HOg.out.cell 4; have q5 := HOg.out.cell 5; have q6 := HOg.out.cell 6; have p6 := HOg.out.frozen 6; have r0 := HRg.out.cell 0; have g0 := HRg.out.frozen 0; have r1 := HRg.out.cell 1; have g1 := HRg.out.frozen 1; have r2 := HRg.out.cell 2; have g2 := HRg.out.frozen 2; have r3 := HRg.out.cell 3; have g3 := HRg.out.frozen 3; have r4 := HRg.out.cell 4; have g4 := HRg.out.frozen 4; have r5 := HRg.out.cell 5; have g5 := HRg.out.frozen 5; have r6 := HRg.out.cell 6; have g6 := HRg.out.frozen 6; simp only [List.getElem?_cons_zero, List.getElem?_cons_succ, List.set_cons_zero, List.set_cons_succ] at q0 q1 q2 q3 q4 q5 q6 r0 r1 r2 r3 r4 r5 r6)
          have HK1 := zI (Keeps.set HOg.out 6 (.slice Al x.h_.l.length cl))
          have kR0 := HRg.out.other hne1 6 (.slice Al x.h_.l.length cl)
          have kR1 := kR0.set 0 (.string x.x_)
          have kR2 := kR1.set 1 (.int .i64 x.r_)
          have kR3 := kR2.set 2 (.int .i64 x.v_)
          have kR4 := kR3.set 3 (.slice Av o.length cv)
          have kR5 := kR4.set 4 (.slice Ag x.g_.l.length cg)
          have kR6 := kR5.set 5 (.slice Ab q.length cb)
          have kR7 := kR6.set 6 (.slice Al x.h_.l.length cl)
          simp only [List.set_cons_zero, List.set_cons_succ] at kR7
          have HKK := zI ((((((((HK1.out.trans (Keeps.set kR0 0 (.string x.x_))).trans (Keeps.set kR1 1 (.int .i64 x.r_))).trans (Keeps.set kR2 2 (.int .i64 x.v_))).trans (Keeps.set kR3 3 (.slice Av o.length cv))).trans (Keeps.set kR4 4 (.slice Ag x.g_.l.length cg))).trans (Keeps.set kR5 5 (.slice Ab q.length cb))).trans (Keeps.set kR6 6 (.slice Al x.h_.l.length cl))))
          have kF : Blk ((((((((v1.setCell ⟨w.heap.size + 1 + 1, 6, none⟩ (.slice Al x.h_.l.length cl)).setCell ⟨w.heap.size + 1, 0, none⟩ (.string x.x_)).setCell ⟨w.heap.size + 1, 1, none⟩ (.int .i64 x.r_)).setCell ⟨w.heap.size + 1, 2, none⟩ (.int .i64 x.v_)).setCell ⟨w.heap.size + 1, 3, none⟩ (.slice Av o.length cv)).setCell ⟨w.heap.size + 1, 4, none⟩ (.slice Ag x.g_.l.length cg)).setCell ⟨w.heap.size + 1, 5, none⟩ (.slice Ab q.length cb)).setCell ⟨w.heap.size + 1, 6, none⟩ (.slice Al x.h_.l.length cl)) (w.heap.size + 1) 27 [.string x.x_, .int .i64 x.r_, .int .i64 x.v_, .slice Av o.length cv, .slice Ag x.g_.l.length cg, .slice Ab q.length cb, .slice Al x.h_.l.length cl] := kR7
          have hBF : Below w.heap.size w ((((((((v1.setCell ⟨w.heap.size + 1 + 1, 6, none⟩ (.slice Al x.h_.l.length cl)).setCell ⟨w.heap.size + 1, 0, none⟩ (.string x.x_)).setCell ⟨w.heap.size + 1, 1, none⟩ (.int .i64 x.r_)).setCell ⟨w.heap.size + 1, 2, none⟩ (.int .i64 x.v_)).setCell ⟨w.heap.size + 1, 3, none⟩ (.slice Av o.length cv)).setCell ⟨w.heap.size + 1, 4, none⟩ (.slice Ag x.g_.l.length cg)).setCell ⟨w.heap.size + 1, 5, none⟩ (.slice Ab q.length cb)).setCell ⟨w.heap.size + 1, 6, none⟩ (.slice Al x.h_.l.length cl)) := (((((((((hB.trans (HB1.out.mono hsq)).setCell (p := ⟨w.heap.size + 1 + 1, 6, none⟩) (by show w.heap.size ≤ w.heap.size + 1 + 1; omega) (.slice Al x.h_.l.length cl)).setCell (p := ⟨w.heap.size + 1, 0, none⟩) (by show w.heap.size ≤ w.heap.size + 1; omega) (.string x.x_)).setCell (p := ⟨w.heap.size + 1, 1, none⟩) (by show w.heap.size ≤ w.heap.size + 1; omega) (.int .i64 x.r_)).setCell (p := ⟨w.heap.size + 1, 2, none⟩) (by show w.heap.size ≤ w.heap.size + 1; omega) (.int .i64 x.v_)).setCell (p := ⟨w.heap.size + 1, 3, none⟩) (by show w.heap.size ≤ w.heap.size + 1; omega) (.slice Av o.length cv)).setCell (p := ⟨w.heap.size + 1, 4, none⟩) (by show w.heap.size ≤ w.heap.size + 1; omega) (.slice Ag x.g_.l.length cg)).setCell (p := ⟨w.heap.size + 1, 5, none⟩) (by show w.heap.size ≤ w.heap.size + 1; omega) (.slice Ab q.length cb)).setCell (p := ⟨w.heap.size + 1, 6, none⟩) (by show w.heap.size ≤ w.heap.size + 1; omega) (.slice Al x.h_.l.length cl))
          have HTE : Hid (OwnTe w.heap.size v1 ⟨x.x_, x.r_, x.v_, ⟨Av, o, cv⟩, ⟨Ag, x.g_.l, cg⟩, ⟨Ab, q, cb⟩, ⟨Al, x.h_.l, cl⟩⟩) := zI ⟨zgQ HS.out HB1.out (Nat.le_refl _), zgQ HGR.out HB1.out (Nat.le_refl _), zgQ HST.out HB1.out (Nat.le_refl _), zfZ HO1.out hsq, fun t ht => (HE.out t ht).below HB1.out, fun t ht => (HSE.out t ht).below HB1.out⟩
          have HTF := zI (HTE.out.keep HKK.out (by decide) (by decide) (by decide) (by decide) (by decide) (by decide) (by decide) (by decide))
          obtain ⟨wF, hwF⟩ : ∃ wF, ((((((((v1.setCell ⟨w.heap.size + 1 + 1, 6, none⟩ (.slice Al x.h_.l.length cl)).setCell ⟨w.heap.size + 1, 0, none⟩ (.string x.x_)).setCell ⟨w.heap.size + 1, 1, none⟩ (.int .i64 x.r_)).setCell ⟨w.heap.size + 1, 2, none⟩ (.int .i64 x.v_)).setCell ⟨w.heap.size + 1, 3, none⟩ (.slice Av o.length cv)).setCell ⟨w.heap.size + 1, 4, none⟩ (.slice Ag x.g_.l.length cg)).setCell ⟨w.heap.size + 1, 5, none⟩ (.slice Ab q.length cb)).setCell ⟨w.heap.size + 1, 6, none⟩ (.slice Al x.h_.l.length cl)) = wF := ⟨_, rfl⟩
          rw [hwF] at kF hBF HTF
          rw [hwF]
          have z0 := kF.cell 0
          have z1 := kF.cell 1
          have z2 := kF.cell 2
          have z3 := kF.cell 3
          have z4 := kF.cell 4
          have z5 := kF.cell 5
          have z6 := kF.cell 6
          simp only [gZa, gZb] at z0 z1 z2 z3 z4 z5 z6
          clear hwF
          refine bodyPost_ret (v := .agg #[.string x.x_, .int .i64 x.r_, .int .i64 x.v_, .slice Av o.length cv, .slice Ag x.g_.l.length cg, .slice Ab q.length cb, .slice Al x.h_.l.length cl]) (by simp [results, Tryz.results27, go_sem, z0, z1, z2, z3, z4, z5, z6]) rfl ⟨⟨x.x_, x.r_, x.v_, ⟨Av, o, cv⟩, ⟨Ag, x.g_.l, cg⟩, ⟨Ab, q, cb⟩, ⟨Al, x.h_.l, cl⟩⟩, rfl, HTF.out, (by simp only [MT_.plain]; rw [HM.out, HQM.out]), HSP.out, hBF⟩
end Go.Proofs.YtimmcmjipmkebaaGreat
