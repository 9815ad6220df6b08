/-
  Copies of a stage. Conditions: it is as it comes in.
-/
import Derived.Test.YtimmcmjipmkebaaGreatUTCT
import Derived.Test.YtimmcmjipmkebaaGreatURSM
import Derived.Test.YtimmcmjipmkebaaGreatUTMB
import Derived.Test.YtimmcmjipmkebaaGreatURPA
import Derived.Test.YtimmcmjipmkebaaGreatURL
import Derived.Test.YtimmcmjipmkebaaGreatUEM
import Derived.Test.YtimmcmjipmkebaaGreatUSL
import Derived.Test.YtimmcmjipmkebaaGreatUGRX
import Derived.Test.YtimmcmjipmkebaaGreatUTCA
import Derived.Test.YtimmcmjipmkebaaGreatUTNP
import Derived.Laws.CopyOwn
import Derived.BigQuiet
namespace Go.Proofs.YtimmcmjipmkebaaGreat
open Go.ChangeShapes Go.WideShapes Go.ChangeAt Go.RowKit
set_option maxRecDepth 100000
set_option linter.unusedSimpArgs false
theorem own_row {W : World} {n e size k B : Nat} {v : Value} {xs : List Value} {cs : Array Value} (h : W.ownsRow n e size v k xs) (hb : B < n) : (W.setRow B cs).ownsRow n e size v k xs :=
  ownStay h fun b hv => setRow_other W B b cs (by have := (h.lt b hv).1; omega)
theorem Bx.row {w u : World} {n B R : Nat} {t : TypeId} {C Z : List Value} (h : Bx w n t B R C Z u) (cs : List Value) : Bx w n t B R C cs (u.setRow R cs.toArray) :=
  ⟨below_setRow h.below h.r0 _, (setRow_other u R B _ h.ne.symm).trans h.box, setRow_heap u R _ _ t _ h.res, by simpa [World.setRow] using h.big, h.b0, h.r0, h.bn, h.rn, h.ne⟩
attribute [-simp] Tryz.isAgg91 Tryz.sizeOf91
set_option maxHeartbeats 4000000 in
theorem copiedSt (x : MStage) (w : World) (hx : x.Good w) :
    Calls Tryz.prog 102 (#[.agg x.cells.toArray] ++ #[]) w fun e w' => ∃ y : MStage, e = .returned (.agg y.cells.toArray) ∧ OwnSt w.heap.size w' y ∧ y.plain = x.plain ∧ Below w.heap.size w w' := by
  obtain ⟨wb, hwb⟩ : ∃ wb, (w.alloc (.cells #[.string x.into_, .int .i64 x.begin_.kind_, .string x.begin_.name_, .int .i64 x.begin_.from_, .int .i64 x.begin_.guid_, .slice x.begin_.own_.A x.begin_.own_.l.length x.begin_.own_.c, .int .i64 x.begin_.index_, .int .i64 x.begin_.count_, .string x.begin_.data_, .int .u64 x.begin_.sum_.a_, .int .u64 x.begin_.sum_.b_, .int .u64 x.begin_.sum_.c_, .int .u64 x.begin_.sum_.d_, .slice x.body_.A x.body_.l.length x.body_.c, .int .i64 x.at_, .int .i64 x.next_, .int .u64 x.sum_.a_, .int .u64 x.sum_.b_, .int .u64 x.sum_.c_, .int .u64 x.sum_.d_, .bool x.done_] 91)).alloc (.cells #[.string ⟨#[]⟩, .int .i64 0, .string ⟨#[]⟩, .int .i64 0, .int .i64 0, .slice none 0 0, .int .i64 0, .int .i64 0, .string ⟨#[]⟩, .int .u64 0, .int .u64 0, .int .u64 0, .int .u64 0, .slice none 0 0, .int .i64 0, .int .i64 0, .int .u64 0, .int .u64 0, .int .u64 0, .int .u64 0, .bool false] 91) = wb := ⟨_, rfl⟩
  have X0 : Bx w wb.heap.size 91 w.heap.size (w.heap.size + 1) [.string x.into_, .int .i64 x.begin_.kind_, .string x.begin_.name_, .int .i64 x.begin_.from_, .int .i64 x.begin_.guid_, .slice x.begin_.own_.A x.begin_.own_.l.length x.begin_.own_.c, .int .i64 x.begin_.index_, .int .i64 x.begin_.count_, .string x.begin_.data_, .int .u64 x.begin_.sum_.a_, .int .u64 x.begin_.sum_.b_, .int .u64 x.begin_.sum_.c_, .int .u64 x.begin_.sum_.d_, .slice x.body_.A x.body_.l.length x.body_.c, .int .i64 x.at_, .int .i64 x.next_, .int .u64 x.sum_.a_, .int .u64 x.sum_.b_, .int .u64 x.sum_.c_, .int .u64 x.sum_.d_, .bool x.done_] [.string ⟨#[]⟩, .int .i64 0, .string ⟨#[]⟩, .int .i64 0, .int .i64 0, .slice none 0 0, .int .i64 0, .int .i64 0, .string ⟨#[]⟩, .int .u64 0, .int .u64 0, .int .u64 0, .int .u64 0, .slice none 0 0, .int .i64 0, .int .i64 0, .int .u64 0, .int .u64 0, .int .u64 0, .int .u64 0, .bool false] wb := hwb ▸ Bx.new w 91 [.string x.into_, .int .i64 x.begin_.kind_, .string x.begin_.name_, .int .i64 x.begin_.from_, .int .i64 x.begin_.guid_, .slice x.begin_.own_.A x.begin_.own_.l.length x.begin_.own_.c, .int .i64 x.begin_.index_, .int .i64 x.begin_.count_, .string x.begin_.data_, .int .u64 x.begin_.sum_.a_, .int .u64 x.begin_.sum_.b_, .int .u64 x.begin_.sum_.c_, .int .u64 x.begin_.sum_.d_, .slice x.body_.A x.body_.l.length x.body_.c, .int .i64 x.at_, .int .i64 x.next_, .int .u64 x.sum_.a_, .int .u64 x.sum_.b_, .int .u64 x.sum_.c_, .int .u64 x.sum_.d_, .bool x.done_] [.string ⟨#[]⟩, .int .i64 0, .string ⟨#[]⟩, .int .i64 0, .int .i64 0, .slice none 0 0, .int .i64 0, .int .i64 0, .string ⟨#[]⟩, .int .u64 0, .int .u64 0, .int .u64 0, .int .u64 0, .slice none 0 0, .int .i64 0, .int .i64 0, .int .u64 0, .int .u64 0, .int .u64 0, .int .u64 0, .bool false]
  have HG := Lib.hid hx
  have HX0 := Lib.hid X0
  have HW := Lib.hid hwb
  have hn2 : w.heap.size ≤ wb.heap.size := X0.below.size
  have a0 := X0.box.cell 0
  simp only [List.getElem?_cons_zero, List.getElem?_cons_succ, List.set_cons_zero, List.set_cons_succ] at a0
  clear X0 hwb hx
  go_enter Tryz.func102, Tryz.ntmps102
  go_upto_region 1 with fail
  rw [HW.out]
  have HC0 := Lib.hid (cloneU_any x.into_ (by have := HG.out.ginto_; omega) wb)
  go_wp2_with fail
  refine HC0.out.mono ?_
  rintro e v0 ⟨rfl, hV0⟩
  have V0 := HX0.out.call hV0
  have b0_0 := V0.box.cell 0
  simp only [List.getElem?_cons_zero, List.getElem?_cons_succ, List.set_cons_zero, List.set_cons_succ] at b0_0
  have f0 := V0.box.frozen 0
  have HX1 := Lib.hid (V0.set 0 (.string x.into_))
  obtain ⟨u1, hu1⟩ : ∃ u, v0.setCell ⟨w.heap.size, 0, none⟩ (.string x.into_) = u := ⟨_, rfl⟩
  rw [hu1] at HX1  
  simp only [List.set_cons_zero, List.set_cons_succ] at HX1
  have c1_2 := HX1.out.box.cell 2
  have c1_8 := HX1.out.box.cell 8
  simp only [List.getElem?_cons_zero, List.getElem?_cons_succ, List.set_cons_zero, List.set_cons_succ] at c1_2 c1_8
  clear V0 HC0
  obtain ⟨Bd, hBd⟩ : ∃ B, w.heap.size = B := ⟨_, rfl⟩
  have HBd := Lib.hid hBd
  clear hBd
  go_upto_region 2 with fail
  refine wp_region_noPanic ?_
  refine wp_region_last 10 (fun W' => W'.cell? ⟨w.heap.size, 2, none⟩ = some (.string x.begin_.name_) ∧ W'.cell? ⟨w.heap.size, 8, none⟩ = some (.string x.begin_.data_)) (by kernel_rfl) ⟨c1_2, c1_8⟩ (fun hHeld => ?_)
  refine tkA 16 (i := 0) (oi := ⟨some 7, _, _, _, _, _⟩) rfl hHeld ?_
  try simp only [Act.put, pZa, pZb, pZc]
  refine tkA 16 (i := 1) (oi := ⟨some 8, _, _, _, _, _⟩) rfl hHeld ?_
  try simp only [Act.put, pZa, pZb, pZc]
  refine tkA 16 (i := 2) (oi := ⟨some 9, _, _, _, _, _⟩) rfl hHeld ?_
  try simp only [Act.put, pZa, pZb, pZc]
  refine tkA 16 (i := 4) (oi := ⟨some 11, _, _, _, _, _⟩) rfl hHeld ?_
  try simp only [Act.put, pZa, pZb, pZc]
  refine tkA 16 (i := 5) (oi := ⟨some 12, _, _, _, _, _⟩) rfl hHeld ?_
  try simp only [Act.put, pZa, pZb, pZc]
  refine tkA 16 (i := 6) (oi := ⟨some 13, _, _, _, _, _⟩) rfl hHeld ?_
  try simp only [Act.put, pZa, pZb, pZc]
  clear hHeld
  refine wpAnyL_facts 16 4 4 [(3, 10), (7, 14), (8, 15), (9, 16)] (fun s v w => match s with
    | 10 => v = .string x.begin_.name_
    | 14 => v = .string x.begin_.data_
    | 15 => v = .pointer (some ⟨Bd, 1, none⟩)
    | 16 => v = .pointer (some ⟨Bd, 2, none⟩)
    | _ => True) (fun w w' => Below w.heap.size w w') (by kernel_rfl) (by kernel_rfl) bZh ⟨?_, ?_, ?_, ?_, trivial⟩ (fun w' hB => ⟨(hB.cell (p := ⟨w.heap.size, 2, none⟩) HX1.out.box.lt).trans c1_2, (hB.cell (p := ⟨w.heap.size, 8, none⟩) HX1.out.box.lt).trans c1_8⟩) ⟨?_, ?_, ?_, ?_, trivial⟩ ?_
  focus
    intro v w w' h hB
    exact h
  focus
    intro v w w' h hB
    exact h
  focus
    intro v w w' h hB
    exact h
  focus
    intro v w w' h hB
    exact h
  focus
    intro vs w2 hBf hFf o ho K hK
    obtain rfl : (⟨some 10, _, _, _, _, _⟩ : Oper) = o := Option.some.inj ho
    clear ho
    (try simp only [fillL, pZd, pZe, Act.put, pZa, pZb, pZc] at hK ⊢)
    go_simp
    refine (cloneU_any x.begin_.name_ (by have := HG.out.gbegin_.gname_; omega) w2).mono ?_
    rintro e w3 ⟨rfl, hB9⟩
    refine hK.out _ _ ⟨rfl, hB9⟩
  focus
    intro vs w2 hBf hFf o ho K hK
    obtain rfl : (⟨some 14, _, _, _, _, _⟩ : Oper) = o := Option.some.inj ho
    clear ho
    (try simp only [fillL, pZd, pZe, Act.put, pZa, pZb, pZc] at hK ⊢)
    go_simp
    refine (cloneU_any x.begin_.data_ (by have := HG.out.gbegin_.gdata_; omega) w2).mono ?_
    rintro e w3 ⟨rfl, hB9⟩
    refine hK.out _ _ ⟨rfl, hB9⟩
  focus
    intro vs w2 hBf hFf o ho K hK
    obtain rfl : (⟨some 15, _, _, _, _, _⟩ : Oper) = o := Option.some.inj ho
    clear ho
    (try simp only [fillL, pZd, pZe, Act.put, pZa, pZb, pZc] at hK ⊢)
    go_simp
    refine hK.out _ _ ⟨by rw [HBd.out], Below.refl _ _⟩
  focus
    intro vs w2 hBf hFf o ho K hK
    obtain rfl : (⟨some 16, _, _, _, _, _⟩ : Oper) = o := Option.some.inj ho
    clear ho
    (try simp only [fillL, pZd, pZe, Act.put, pZa, pZb, pZc] at hK ⊢)
    have e9 : vs 15 = .pointer (some ⟨Bd, 1, none⟩) := (hFf (8, 15) (by simp) (by kernel_rfl))
    simp only [e9] at hK ⊢
    go_simp
    refine hK.out _ _ ⟨rfl, Below.refl _ _⟩
  intro vs w2 hBf hFf
  (try simp only [fillL, pZd, pZe, Act.put, pZa, pZb, pZc])
  have p15 : vs 15 = .pointer (some ⟨w.heap.size, 1, none⟩) := by rw [HBd.out]; exact (hFf (8, 15) (by simp))
  have p16 : vs 16 = .pointer (some ⟨w.heap.size, 2, none⟩) := by rw [HBd.out]; exact (hFf (9, 16) (by simp))
  have e1 : vs 10 = .string x.begin_.name_ := (hFf (3, 10) (by simp))
  have e2 : vs 14 = .string x.begin_.data_ := (hFf (7, 14) (by simp))
  have YX := HX1.out.call ((Below.refl _ _).drew.trans hBf)
  simp only [e1, e2, p15, p16]
  have f1 := YX.box.frozen 2
  have f2 := YX.box.frozen 8
  have b1 := YX.box.cell 2
  have b2 := YX.box.cell 8
  simp only [List.getElem?_cons_zero, List.getElem?_cons_succ, List.set_cons_zero, List.set_cons_succ] at b1 b2
  refine wpAnyL_last (i := 10) (o := ⟨none, _, _, _, _, _⟩) (by kernel_rfl) rfl (by kernel_rfl) (fun K hK => ?_)
  go_simp
  go_wp2_with fail
  refine hK.out _ _ ?_
  clear hK K
  try simp only [Act.put, pZa, pZb, pZc]
  refine wpAnyL_last (i := 11) (o := ⟨some 17, _, _, _, _, _⟩) (by kernel_rfl) rfl (by kernel_rfl) (fun K hK => ?_)
  go_simp
  refine hK.out _ _ ?_
  clear hK K
  try simp only [Act.put, pZa, pZb, pZc]
  refine wpAnyL_last (i := 12) (o := ⟨some 18, _, _, _, _, _⟩) (by kernel_rfl) rfl (by kernel_rfl) (fun K hK => ?_)
  go_simp
  refine hK.out _ _ ?_
  clear hK K
  try simp only [Act.put, pZa, pZb, pZc]
  refine wpAnyL_last (i := 13) (o := ⟨none, _, _, _, _, _⟩) (by kernel_rfl) rfl (by kernel_rfl) (fun K hK => ?_)
  go_simp
  go_wp2_with fail
  refine hK.out _ _ ?_
  clear hK K
  try simp only [Act.put, pZa, pZb, pZc]
  refine wpAnyL_done (by kernel_rfl) ?_ _
  refine NoPanic.normal ?_
  have HX2 := Lib.hid ((YX.set 2 (.string x.begin_.name_)).set 8 (.string x.begin_.data_))
  obtain ⟨u2, hu2⟩ : ∃ u, (w2.setCell ⟨w.heap.size, 2, none⟩ (.string x.begin_.name_)).setCell ⟨w.heap.size, 8, none⟩ (.string x.begin_.data_) = u := ⟨_, rfl⟩
  rw [hu2] at HX2
  simp only [List.set_cons_zero, List.set_cons_succ] at HX2
  rw [hu2]
  clear hu2 YX f1 f2 b1 b2 e1 e2 p15 p16 hBf hFf
  have c2_5 := HX2.out.box.cell 5
  simp only [List.getElem?_cons_zero, List.getElem?_cons_succ, List.set_cons_zero, List.set_cons_succ] at c2_5
  have HC2 := Lib.hid (each_Pr 159 #[] (enters_of Tryz.func159 (by kernel_rfl) rfl) x.begin_.own_ u2 HG.out.gbegin_.gown_.len (HG.out.gbegin_.gown_.rd.below HX2.out.below) (fun W b hb hW => (copiedPr b.1 b.2 (HG.out.gbegin_.gown_.el b hb).1 (HG.out.gbegin_.gown_.el b hb).2 W).mono fun e W' ⟨he, hB⟩ => ⟨b, he, trivial, rfl, hB⟩))
  go_wp2_with fail
  refine HC2.out.mono ?_
  rintro e v2 ⟨Y2, rfl, hm2, ho2, he2, hV2⟩
  have HM2 := Lib.hid hm2
  clear hm2
  have V2 := HX2.out.call hV2
  have b2_5 := V2.box.cell 5
  simp only [List.getElem?_cons_zero, List.getElem?_cons_succ, List.set_cons_zero, List.set_cons_succ] at b2_5
  have f2 := V2.box.frozen 5
  have HX3 := Lib.hid (V2.set 5 (.slice Y2.A Y2.l.length Y2.c))
  have RO2_3 := Lib.hid (own_set (B := w.heap.size) (j := 5) (u := .slice Y2.A Y2.l.length Y2.c) (ownBase ho2 HX2.out.big) HX2.out.bn)
  obtain ⟨u3, hu3⟩ : ∃ u, v2.setCell ⟨w.heap.size, 5, none⟩ (.slice Y2.A Y2.l.length Y2.c) = u := ⟨_, rfl⟩
  rw [hu3] at HX3 RO2_3 
  simp only [List.set_cons_zero, List.set_cons_succ] at HX3
  have c3_13 := HX3.out.box.cell 13
  simp only [List.getElem?_cons_zero, List.getElem?_cons_succ, List.set_cons_zero, List.set_cons_succ] at c3_13
  clear V2 HC2
  have HC3 := Lib.hid (each_Bk 155 #[] (enters_of Tryz.func155 (by kernel_rfl) rfl) x.body_ u3 HG.out.gbody_.len (HG.out.gbody_.rd.below HX3.out.below) (fun W b hb hW => (copiedBk b.1 b.2 (HG.out.gbody_.el b hb).1 W).mono fun e W' ⟨he, hB⟩ => ⟨b, he, trivial, rfl, hB⟩))
  go_wp2_with fail
  refine HC3.out.mono ?_
  rintro e v3 ⟨Y3, rfl, hm3, ho3, he3, hV3⟩
  have HM3 := Lib.hid hm3
  clear hm3
  have V3 := HX3.out.call hV3
  have b3_13 := V3.box.cell 13
  simp only [List.getElem?_cons_zero, List.getElem?_cons_succ, List.set_cons_zero, List.set_cons_succ] at b3_13
  have f3 := V3.box.frozen 13
  have HX4 := Lib.hid (V3.set 13 (.slice Y3.A Y3.l.length Y3.c))
  have RO2_4 := Lib.hid (own_set (B := w.heap.size) (j := 13) (u := .slice Y3.A Y3.l.length Y3.c) (ownBelow RO2_3.out hV3 (Nat.le_refl _)) HX3.out.bn)
  have RO3_4 := Lib.hid (own_set (B := w.heap.size) (j := 13) (u := .slice Y3.A Y3.l.length Y3.c) (ownBase ho3 HX3.out.big) HX3.out.bn)
  obtain ⟨u4, hu4⟩ : ∃ u, v3.setCell ⟨w.heap.size, 13, none⟩ (.slice Y3.A Y3.l.length Y3.c) = u := ⟨_, rfl⟩
  rw [hu4] at HX4 RO2_4 RO3_4 
  simp only [List.set_cons_zero, List.set_cons_succ] at HX4
  have c4_0 := HX4.out.box.cell 0
  have c4_1 := HX4.out.box.cell 1
  have c4_2 := HX4.out.box.cell 2
  have c4_3 := HX4.out.box.cell 3
  have c4_4 := HX4.out.box.cell 4
  have c4_5 := HX4.out.box.cell 5
  have c4_6 := HX4.out.box.cell 6
  have c4_7 := HX4.out.box.cell 7
  have c4_8 := HX4.out.box.cell 8
  have c4_9 := HX4.out.box.cell 9
  have c4_10 := HX4.out.box.cell 10
  have c4_11 := HX4.out.box.cell 11
  have c4_12 := HX4.out.box.cell 12
  have c4_13 := HX4.out.box.cell 13
  have c4_14 := HX4.out.box.cell 14
  have c4_15 := HX4.out.box.cell 15
  have c4_16 := HX4.out.box.cell 16
  have c4_17 := HX4.out.box.cell 17
  have c4_18 := HX4.out.box.cell 18
  have c4_19 := HX4.out.box.cell 19
  have c4_20 := HX4.out.box.cell 20
  simp only [List.getElem?_cons_zero, List.getElem?_cons_succ, List.set_cons_zero, List.set_cons_succ] at c4_0 c4_1 c4_2 c4_3 c4_4 c4_5 c4_6 c4_7 c4_8 c4_9 c4_10 c4_11 c4_12 c4_13 c4_14 c4_15 c4_16 c4_17 c4_18 c4_19 c4_20
  clear V3 HC3
  obtain ⟨cs, hcs⟩ : ∃ cs : List Value, [.string x.into_, .int .i64 x.begin_.kind_, .string x.begin_.name_, .int .i64 x.begin_.from_, .int .i64 x.begin_.guid_, .slice Y2.A Y2.l.length Y2.c, .int .i64 x.begin_.index_, .int .i64 x.begin_.count_, .string x.begin_.data_, .int .u64 x.begin_.sum_.a_, .int .u64 x.begin_.sum_.b_, .int .u64 x.begin_.sum_.c_, .int .u64 x.begin_.sum_.d_, .slice Y3.A Y3.l.length Y3.c, .int .i64 x.at_, .int .i64 x.next_, .int .u64 x.sum_.a_, .int .u64 x.sum_.b_, .int .u64 x.sum_.c_, .int .u64 x.sum_.d_, .bool x.done_] = cs := ⟨_, rfl⟩
  have HXm := HX4.out
  rw [hcs] at HXm
  have hn : cs.length = 21 := by rw [← hcs]; rfl
  have hone : ∀ v ∈ cs, v.oneCell' = true := by
    rw [← hcs]
    intro v hv
    simp only [List.mem_cons, List.not_mem_nil, or_false] at hv
    rcases hv with rfl | rfl | rfl | rfl | rfl | rfl | rfl | rfl | rfl | rfl | rfl | rfl | rfl | rfl | rfl | rfl | rfl | rfl | rfl | rfl | rfl <;> rfl
  have hld := run_loadCellsFrom_list Tryz.prog u4 ⟨w.heap.size, 0, none⟩ cs 21 hn (fun j v hv => by rw [Addr.add_lit, HXm.box.cell, Nat.zero_add]; exact hv)
  have hst := run_storeCells_from (P := Tryz.prog) (w.heap.size + 1) 91 cs 0 _ u4 HXm.res (by rw [hn]; rfl) hone
  rw [List.take_zero, List.nil_append] at hst
  have hst2 : (storeCells ⟨w.heap.size + 1, 0, none⟩ cs.toArray.toList 0).run Tryz.prog u4 = .ok () (u4.setRow (w.heap.size + 1) cs.toArray) := hst
  have hsz : cs.toArray.size = 21 := by simpa using hn
  have XF := HXm.row cs
  have RF2 := Lib.hid (own_row (cs := cs.toArray) RO2_4.out HX0.out.rn)
  have RF3 := Lib.hid (own_row (cs := cs.toArray) RO3_4.out HX0.out.rn)
  have HC := Lib.hid hcs
  clear hcs
  obtain ⟨ca, hca⟩ : ∃ ca : Array Value, cs.toArray = ca := ⟨_, rfl⟩
  rw [hca] at hld hst2 hsz RF2 RF3
  go_wp2_with fail
  simp only [Tryz.isAgg91, Tryz.sizeOf91, Result.andThen, ↓reduceIte, hld]
  rw [Oper.upon_value]
  go_wp2_with fail
  simp only [Tryz.sizeOf91, Result.andThen, ↓reduceIte, hsz, hst2]
  rw [Oper.upon_skip]
  go_wp2
  have hinf : (Tryz.prog.info? 91).map (·.size) = some ca.size := by rw [hsz]; kernel_rfl
  have hres : (u4.setRow (w.heap.size + 1) ca).heap[w.heap.size + 1]? = some (.cells ca 91 (0, 0)) := hca ▸ XF.res
  have hBF : Below w.heap.size w (u4.setRow (w.heap.size + 1) ca) := hca ▸ XF.below
  exact bodyPost_ret (v := .agg ca) (results_cell_row (p := 2) (ty := 91) Tryz.results102 _ _ (w.heap.size + 1) 91 ca (0, 0) _ rfl hres Tryz.underlying91 rfl hinf) rfl ⟨⟨x.into_, ⟨x.begin_.kind_, x.begin_.name_, x.begin_.from_, x.begin_.guid_, Y2, x.begin_.index_, x.begin_.count_, x.begin_.data_, x.begin_.sum_⟩, Y3, x.at_, x.next_, x.sum_, x.done_⟩, (by rw [← hca, ← HC.out]), ⟨ownBase RF3.out hn2, ownBase RF2.out hn2⟩, (by simp only [MStage.plain, MRecord.plain]; rw [show Y3.l = x.body_.l by simpa using HM3.out, show Y2.l = x.begin_.own_.l by simpa using HM2.out]), hBF⟩
end Go.Proofs.YtimmcmjipmkebaaGreat
namespace Go.Proofs.YtimmcmjipmkebaaGreat
open Go.ChangeShapes Go.WideShapes Go.ChangeAt Go.RowKit
set_option maxRecDepth 100000
set_option linter.unusedSimpArgs false
set_option maxHeartbeats 4000000 in
theorem copy_sepX (x : MTenant) (w : World) (hx : x.Good w) :
    Calls Tryz.prog 46 #[.agg x.cells.toArray] w fun e w' => ∃ y : MTenant, e = .returned (.agg y.cells.toArray) ∧ OwnTe w.heap.size w' y ∧ y.plain = x.plain ∧ SepX y ∧ Below w.heap.size w w' := by
  obtain ⟨wb, hwb⟩ : ∃ wb, (w.alloc (.cells #[.string x.name_, .int .i64 x.quota_, .int .i64 x.next_, .slice x.sets_.A x.sets_.l.length x.sets_.c, .slice x.grants_.A x.grants_.l.length x.grants_.c, .slice x.stages_.A x.stages_.l.length x.stages_.c, .slice x.log_.A x.log_.l.length x.log_.c] 27)).alloc (.cells #[.string ⟨#[]⟩, .int .i64 0, .int .i64 0, .slice none 0 0, .slice none 0 0, .slice none 0 0, .slice none 0 0] 27) = wb := ⟨_, rfl⟩
  have X0 : Bx w wb.heap.size 27 w.heap.size (w.heap.size + 1) [.string x.name_, .int .i64 x.quota_, .int .i64 x.next_, .slice x.sets_.A x.sets_.l.length x.sets_.c, .slice x.grants_.A x.grants_.l.length x.grants_.c, .slice x.stages_.A x.stages_.l.length x.stages_.c, .slice x.log_.A x.log_.l.length x.log_.c] [.string ⟨#[]⟩, .int .i64 0, .int .i64 0, .slice none 0 0, .slice none 0 0, .slice none 0 0, .slice none 0 0] wb := hwb ▸ Bx.new w 27 [.string x.name_, .int .i64 x.quota_, .int .i64 x.next_, .slice x.sets_.A x.sets_.l.length x.sets_.c, .slice x.grants_.A x.grants_.l.length x.grants_.c, .slice x.stages_.A x.stages_.l.length x.stages_.c, .slice x.log_.A x.log_.l.length x.log_.c] [.string ⟨#[]⟩, .int .i64 0, .int .i64 0, .slice none 0 0, .slice none 0 0, .slice none 0 0, .slice none 0 0]
  have HG := Lib.hid hx
  have HX0 := Lib.hid X0
  have HW := Lib.hid hwb
  have hn2 : w.heap.size ≤ wb.heap.size := X0.below.size
  have a0 := X0.box.cell 0
  simp only [List.getElem?_cons_zero, List.getElem?_cons_succ, List.set_cons_zero, List.set_cons_succ] at a0
  clear X0 hwb hx
  go_enter Tryz.func46, Tryz.ntmps46
  go_upto_region 1 with fail
  rw [HW.out]
  have HC0 := Lib.hid (cloneU_any x.name_ (by have := HG.out.gname_; omega) wb)
  go_wp2_with fail
  refine HC0.out.mono ?_
  rintro e v0 ⟨rfl, hV0⟩
  have V0 := HX0.out.call hV0
  have b0_0 := V0.box.cell 0
  simp only [List.getElem?_cons_zero, List.getElem?_cons_succ, List.set_cons_zero, List.set_cons_succ] at b0_0
  have f0 := V0.box.frozen 0
  have HX1 := Lib.hid (V0.set 0 (.string x.name_))
  obtain ⟨u1, hu1⟩ : ∃ u, v0.setCell ⟨w.heap.size, 0, none⟩ (.string x.name_) = u := ⟨_, rfl⟩
  rw [hu1] at HX1  
  simp only [List.set_cons_zero, List.set_cons_succ] at HX1
  have c1_3 := HX1.out.box.cell 3
  simp only [List.getElem?_cons_zero, List.getElem?_cons_succ, List.set_cons_zero, List.set_cons_succ] at c1_3
  clear V0 HC0
  have HC1 := Lib.hid (each_Se 98 #[] (enters_of Tryz.func98 (by kernel_rfl) rfl) x.sets_ u1 HG.out.gsets_.len (HG.out.gsets_.rd.below HX1.out.below) (fun W b hb hW => copiedSe b W ((HG.out.gsets_.el b hb).below (HX1.out.below.trans (hW.mono HX1.out.below.size)))))
  go_wp2_with fail
  refine HC1.out.mono ?_
  rintro e v1 ⟨Y1, rfl, hm1, ho1, he1, hq1, hq1t, hq1g, hV1⟩
  have HQ1 : Hid (∀ (a1 : ByteArray) (a2 a3 : Int) (a4 : Sl Gr) (a5 : Sl MStage) (a6 : Sl MEntry), SepX (⟨a1, a2, a3, Y1, a4, a5, a6⟩ : MTenant)) := Lib.hid fun _ _ _ _ _ _ => ⟨hq1, hq1t, hq1g⟩
  clear hq1 hq1t hq1g
  have HM1 := Lib.hid hm1
  clear hm1
  have V1 := HX1.out.call hV1
  have b1_3 := V1.box.cell 3
  simp only [List.getElem?_cons_zero, List.getElem?_cons_succ, List.set_cons_zero, List.set_cons_succ] at b1_3
  have f1 := V1.box.frozen 3
  have HX2 := Lib.hid (V1.set 3 (.slice Y1.A Y1.l.length Y1.c))
  have RO1_2 := Lib.hid (own_set (B := w.heap.size) (j := 3) (u := .slice Y1.A Y1.l.length Y1.c) (ownBase ho1 HX1.out.big) HX1.out.bn)
  have RE1_2 : Hid (∀ t ∈ Y1.l, OwnSe wb.heap.size (v1.setCell ⟨w.heap.size, 3, none⟩ (.slice Y1.A Y1.l.length Y1.c)) t) := Lib.hid fun t ht => ((he1 t ht).base HX1.out.big).set HX1.out.bn
  obtain ⟨u2, hu2⟩ : ∃ u, v1.setCell ⟨w.heap.size, 3, none⟩ (.slice Y1.A Y1.l.length Y1.c) = u := ⟨_, rfl⟩
  rw [hu2] at HX2 RO1_2 RE1_2
  simp only [List.set_cons_zero, List.set_cons_succ] at HX2
  have c2_4 := HX2.out.box.cell 4
  simp only [List.getElem?_cons_zero, List.getElem?_cons_succ, List.set_cons_zero, List.set_cons_succ] at c2_4
  clear V1 HC1
  have HC2 := Lib.hid (each_Gr 100 #[] (enters_of Tryz.func100 (by kernel_rfl) rfl) x.grants_ u2 HG.out.ggrants_.len (HG.out.ggrants_.rd.below HX2.out.below) (fun W b hb hW => (copiedGr b.1 b.2.1 b.2.2 (HG.out.ggrants_.el b hb).1 (HG.out.ggrants_.el b hb).2.1 W).mono fun e W' ⟨he, hB⟩ => ⟨b, he, trivial, rfl, hB⟩))
  go_wp2_with fail
  refine HC2.out.mono ?_
  rintro e v2 ⟨Y2, rfl, hm2, ho2, he2, hV2⟩
  have HM2 := Lib.hid hm2
  clear hm2
  have V2 := HX2.out.call hV2
  have b2_4 := V2.box.cell 4
  simp only [List.getElem?_cons_zero, List.getElem?_cons_succ, List.set_cons_zero, List.set_cons_succ] at b2_4
  have f2 := V2.box.frozen 4
  have HX3 := Lib.hid (V2.set 4 (.slice Y2.A Y2.l.length Y2.c))
  have RO1_3 := Lib.hid (own_set (B := w.heap.size) (j := 4) (u := .slice Y2.A Y2.l.length Y2.c) (ownBelow RO1_2.out hV2 (Nat.le_refl _)) HX2.out.bn)
  have RE1_3 : Hid (∀ t ∈ Y1.l, OwnSe wb.heap.size (v2.setCell ⟨w.heap.size, 4, none⟩ (.slice Y2.A Y2.l.length Y2.c)) t) := Lib.hid fun t ht => ((RE1_2.out t ht).below hV2).set HX2.out.bn
  have RO2_3 := Lib.hid (own_set (B := w.heap.size) (j := 4) (u := .slice Y2.A Y2.l.length Y2.c) (ownBase ho2 HX2.out.big) HX2.out.bn)
  obtain ⟨u3, hu3⟩ : ∃ u, v2.setCell ⟨w.heap.size, 4, none⟩ (.slice Y2.A Y2.l.length Y2.c) = u := ⟨_, rfl⟩
  rw [hu3] at HX3 RO1_3 RO2_3 RE1_3
  simp only [List.set_cons_zero, List.set_cons_succ] at HX3
  have c3_5 := HX3.out.box.cell 5
  simp only [List.getElem?_cons_zero, List.getElem?_cons_succ, List.set_cons_zero, List.set_cons_succ] at c3_5
  clear V2 HC2
  have HC3 := Lib.hid (each_St 102 #[] (enters_of Tryz.func102 (by kernel_rfl) rfl) x.stages_ u3 HG.out.gstages_.len (HG.out.gstages_.rd.below HX3.out.below) (fun W b hb hW => copiedSt b W ((HG.out.gstages_.el b hb).below (HX3.out.below.trans (hW.mono HX3.out.below.size)))))
  go_wp2_with fail
  refine HC3.out.mono ?_
  rintro e v3 ⟨Y3, rfl, hm3, ho3, he3, hV3⟩
  have HM3 := Lib.hid hm3
  clear hm3
  have V3 := HX3.out.call hV3
  have b3_5 := V3.box.cell 5
  simp only [List.getElem?_cons_zero, List.getElem?_cons_succ, List.set_cons_zero, List.set_cons_succ] at b3_5
  have f3 := V3.box.frozen 5
  have HX4 := Lib.hid (V3.set 5 (.slice Y3.A Y3.l.length Y3.c))
  have RO1_4 := Lib.hid (own_set (B := w.heap.size) (j := 5) (u := .slice Y3.A Y3.l.length Y3.c) (ownBelow RO1_3.out hV3 (Nat.le_refl _)) HX3.out.bn)
  have RE1_4 : Hid (∀ t ∈ Y1.l, OwnSe wb.heap.size (v3.setCell ⟨w.heap.size, 5, none⟩ (.slice Y3.A Y3.l.length Y3.c)) t) := Lib.hid fun t ht => ((RE1_3.out t ht).below hV3).set HX3.out.bn
  have RO2_4 := Lib.hid (own_set (B := w.heap.size) (j := 5) (u := .slice Y3.A Y3.l.length Y3.c) (ownBelow RO2_3.out hV3 (Nat.le_refl _)) HX3.out.bn)
  have RO3_4 := Lib.hid (own_set (B := w.heap.size) (j := 5) (u := .slice Y3.A Y3.l.length Y3.c) (ownBase ho3 HX3.out.big) HX3.out.bn)
  have RE3_4 : Hid (∀ t ∈ Y3.l, OwnSt wb.heap.size (v3.setCell ⟨w.heap.size, 5, none⟩ (.slice Y3.A Y3.l.length Y3.c)) t) := Lib.hid fun t ht => ((he3 t ht).base HX3.out.big).set HX3.out.bn
  obtain ⟨u4, hu4⟩ : ∃ u, v3.setCell ⟨w.heap.size, 5, none⟩ (.slice Y3.A Y3.l.length Y3.c) = u := ⟨_, rfl⟩
  rw [hu4] at HX4 RO1_4 RO2_4 RO3_4 RE1_4 RE3_4
  simp only [List.set_cons_zero, List.set_cons_succ] at HX4
  have c4_6 := HX4.out.box.cell 6
  simp only [List.getElem?_cons_zero, List.getElem?_cons_succ, List.set_cons_zero, List.set_cons_succ] at c4_6
  clear V3 HC3
  have HC4 := Lib.hid (each_En 104 #[] (enters_of Tryz.func104 (by kernel_rfl) rfl) x.log_ u4 HG.out.glog_.len (HG.out.glog_.rd.below HX4.out.below) (fun W b hb hW => (copiedEn b.user_ b.path_ b.kind_ b.err_ (HG.out.glog_.el b hb).guser_ (HG.out.glog_.el b hb).gpath_ W).mono fun e W' ⟨he, hB⟩ => ⟨b, he, trivial, rfl, hB⟩))
  go_wp2_with fail
  refine HC4.out.mono ?_
  rintro e v4 ⟨Y4, rfl, hm4, ho4, he4, hV4⟩
  have HM4 := Lib.hid hm4
  clear hm4
  have V4 := HX4.out.call hV4
  have b4_6 := V4.box.cell 6
  simp only [List.getElem?_cons_zero, List.getElem?_cons_succ, List.set_cons_zero, List.set_cons_succ] at b4_6
  have f4 := V4.box.frozen 6
  have HX5 := Lib.hid (V4.set 6 (.slice Y4.A Y4.l.length Y4.c))
  have RO1_5 := Lib.hid (own_set (B := w.heap.size) (j := 6) (u := .slice Y4.A Y4.l.length Y4.c) (ownBelow RO1_4.out hV4 (Nat.le_refl _)) HX4.out.bn)
  have RE1_5 : Hid (∀ t ∈ Y1.l, OwnSe wb.heap.size (v4.setCell ⟨w.heap.size, 6, none⟩ (.slice Y4.A Y4.l.length Y4.c)) t) := Lib.hid fun t ht => ((RE1_4.out t ht).below hV4).set HX4.out.bn
  have RO2_5 := Lib.hid (own_set (B := w.heap.size) (j := 6) (u := .slice Y4.A Y4.l.length Y4.c) (ownBelow RO2_4.out hV4 (Nat.le_refl _)) HX4.out.bn)
  have RO3_5 := Lib.hid (own_set (B := w.heap.size) (j := 6) (u := .slice Y4.A Y4.l.length Y4.c) (ownBelow RO3_4.out hV4 (Nat.le_refl _)) HX4.out.bn)
  have RE3_5 : Hid (∀ t ∈ Y3.l, OwnSt wb.heap.size (v4.setCell ⟨w.heap.size, 6, none⟩ (.slice Y4.A Y4.l.length Y4.c)) t) := Lib.hid fun t ht => ((RE3_4.out t ht).below hV4).set HX4.out.bn
  have RO4_5 := Lib.hid (own_set (B := w.heap.size) (j := 6) (u := .slice Y4.A Y4.l.length Y4.c) (ownBase ho4 HX4.out.big) HX4.out.bn)
  obtain ⟨u5, hu5⟩ : ∃ u, v4.setCell ⟨w.heap.size, 6, none⟩ (.slice Y4.A Y4.l.length Y4.c) = u := ⟨_, rfl⟩
  rw [hu5] at HX5 RO1_5 RO2_5 RO3_5 RO4_5 RE1_5 RE3_5
  simp only [List.set_cons_zero, List.set_cons_succ] at HX5
  have c5_0 := HX5.out.box.cell 0
  have c5_1 := HX5.out.box.cell 1
  have c5_2 := HX5.out.box.cell 2
  have c5_3 := HX5.out.box.cell 3
  have c5_4 := HX5.out.box.cell 4
  have c5_5 := HX5.out.box.cell 5
  have c5_6 := HX5.out.box.cell 6
  simp only [List.getElem?_cons_zero, List.getElem?_cons_succ, List.set_cons_zero, List.set_cons_succ] at c5_0 c5_1 c5_2 c5_3 c5_4 c5_5 c5_6
  clear V4 HC4
  have r0 := HX5.out.res.cell 0
  have g0 := HX5.out.res.frozen 0
  have r1 := HX5.out.res.cell 1
  have g1 := HX5.out.res.frozen 1
  have r2 := HX5.out.res.cell 2
  have g2 := HX5.out.res.frozen 2
  have r3 := HX5.out.res.cell 3
  have g3 := HX5.out.res.frozen 3
  have r4 := HX5.out.res.cell 4
  have g4 := HX5.out.res.frozen 4
  have r5 := HX5.out.res.cell 5
  have g5 := HX5.out.res.frozen 5
  have r6 := HX5.out.res.cell 6
  have g6 := HX5.out.res.frozen 6
  simp only [gZa, gZb] at r0 r1 r2 r3 r4 r5 r6
  have XF : Bx w wb.heap.size 27 w.heap.size (w.heap.size + 1) _ [.string x.name_, .int .i64 x.quota_, .int .i64 x.next_, .slice Y1.A Y1.l.length Y1.c, .slice Y2.A Y2.l.length Y2.c, .slice Y3.A Y3.l.length Y3.c, .slice Y4.A Y4.l.length Y4.c] (((((((u5.setCell ⟨w.heap.size + 1, 0, none⟩ (.string x.name_)).setCell ⟨w.heap.size + 1, 1, none⟩ (.int .i64 x.quota_)).setCell ⟨w.heap.size + 1, 2, none⟩ (.int .i64 x.next_)).setCell ⟨w.heap.size + 1, 3, none⟩ (.slice Y1.A Y1.l.length Y1.c)).setCell ⟨w.heap.size + 1, 4, none⟩ (.slice Y2.A Y2.l.length Y2.c)).setCell ⟨w.heap.size + 1, 5, none⟩ (.slice Y3.A Y3.l.length Y3.c)).setCell ⟨w.heap.size + 1, 6, none⟩ (.slice Y4.A Y4.l.length Y4.c)) := (((((((HX5.out.ans 0 (.string x.name_)).ans 1 (.int .i64 x.quota_)).ans 2 (.int .i64 x.next_)).ans 3 (.slice Y1.A Y1.l.length Y1.c)).ans 4 (.slice Y2.A Y2.l.length Y2.c)).ans 5 (.slice Y3.A Y3.l.length Y3.c)).ans 6 (.slice Y4.A Y4.l.length Y4.c))
  have RF1 := Lib.hid (own_set (B := w.heap.size + 1) (j := 6) (u := .slice Y4.A Y4.l.length Y4.c) (own_set (B := w.heap.size + 1) (j := 5) (u := .slice Y3.A Y3.l.length Y3.c) (own_set (B := w.heap.size + 1) (j := 4) (u := .slice Y2.A Y2.l.length Y2.c) (own_set (B := w.heap.size + 1) (j := 3) (u := .slice Y1.A Y1.l.length Y1.c) (own_set (B := w.heap.size + 1) (j := 2) (u := .int .i64 x.next_) (own_set (B := w.heap.size + 1) (j := 1) (u := .int .i64 x.quota_) (own_set (B := w.heap.size + 1) (j := 0) (u := .string x.name_) RO1_5.out HX0.out.rn) HX0.out.rn) HX0.out.rn) HX0.out.rn) HX0.out.rn) HX0.out.rn) HX0.out.rn)
  have EF1 : Hid (∀ t ∈ Y1.l, OwnSe wb.heap.size (((((((u5.setCell ⟨w.heap.size + 1, 0, none⟩ (.string x.name_)).setCell ⟨w.heap.size + 1, 1, none⟩ (.int .i64 x.quota_)).setCell ⟨w.heap.size + 1, 2, none⟩ (.int .i64 x.next_)).setCell ⟨w.heap.size + 1, 3, none⟩ (.slice Y1.A Y1.l.length Y1.c)).setCell ⟨w.heap.size + 1, 4, none⟩ (.slice Y2.A Y2.l.length Y2.c)).setCell ⟨w.heap.size + 1, 5, none⟩ (.slice Y3.A Y3.l.length Y3.c)).setCell ⟨w.heap.size + 1, 6, none⟩ (.slice Y4.A Y4.l.length Y4.c)) t) := Lib.hid fun t ht => (OwnSe.set (B := w.heap.size + 1) (j := 6) (u := .slice Y4.A Y4.l.length Y4.c) (OwnSe.set (B := w.heap.size + 1) (j := 5) (u := .slice Y3.A Y3.l.length Y3.c) (OwnSe.set (B := w.heap.size + 1) (j := 4) (u := .slice Y2.A Y2.l.length Y2.c) (OwnSe.set (B := w.heap.size + 1) (j := 3) (u := .slice Y1.A Y1.l.length Y1.c) (OwnSe.set (B := w.heap.size + 1) (j := 2) (u := .int .i64 x.next_) (OwnSe.set (B := w.heap.size + 1) (j := 1) (u := .int .i64 x.quota_) (OwnSe.set (B := w.heap.size + 1) (j := 0) (u := .string x.name_) (RE1_5.out t ht) HX0.out.rn) HX0.out.rn) HX0.out.rn) HX0.out.rn) HX0.out.rn) HX0.out.rn) HX0.out.rn)
  have RF2 := Lib.hid (own_set (B := w.heap.size + 1) (j := 6) (u := .slice Y4.A Y4.l.length Y4.c) (own_set (B := w.heap.size + 1) (j := 5) (u := .slice Y3.A Y3.l.length Y3.c) (own_set (B := w.heap.size + 1) (j := 4) (u := .slice Y2.A Y2.l.length Y2.c) (own_set (B := w.heap.size + 1) (j := 3) (u := .slice Y1.A Y1.l.length Y1.c) (own_set (B := w.heap.size + 1) (j := 2) (u := .int .i64 x.next_) (own_set (B := w.heap.size + 1) (j := 1) (u := .int .i64 x.quota_) (own_set (B := w.heap.size + 1) (j := 0) (u := .string x.name_) RO2_5.out HX0.out.rn) HX0.out.rn) HX0.out.rn) HX0.out.rn) HX0.out.rn) HX0.out.rn) HX0.out.rn)
  have RF3 := Lib.hid (own_set (B := w.heap.size + 1) (j := 6) (u := .slice Y4.A Y4.l.length Y4.c) (own_set (B := w.heap.size + 1) (j := 5) (u := .slice Y3.A Y3.l.length Y3.c) (own_set (B := w.heap.size + 1) (j := 4) (u := .slice Y2.A Y2.l.length Y2.c) (own_set (B := w.heap.size + 1) (j := 3) (u := .slice Y1.A Y1.l.length Y1.c) (own_set (B := w.heap.size + 1) (j := 2) (u := .int .i64 x.next_) (own_set (B := w.heap.size + 1) (j := 1) (u := .int .i64 x.quota_) (own_set (B := w.heap.size + 1) (j := 0) (u := .string x.name_) RO3_5.out HX0.out.rn) HX0.out.rn) HX0.out.rn) HX0.out.rn) HX0.out.rn) HX0.out.rn) HX0.out.rn)
  have EF3 : Hid (∀ t ∈ Y3.l, OwnSt wb.heap.size (((((((u5.setCell ⟨w.heap.size + 1, 0, none⟩ (.string x.name_)).setCell ⟨w.heap.size + 1, 1, none⟩ (.int .i64 x.quota_)).setCell ⟨w.heap.size + 1, 2, none⟩ (.int .i64 x.next_)).setCell ⟨w.heap.size + 1, 3, none⟩ (.slice Y1.A Y1.l.length Y1.c)).setCell ⟨w.heap.size + 1, 4, none⟩ (.slice Y2.A Y2.l.length Y2.c)).setCell ⟨w.heap.size + 1, 5, none⟩ (.slice Y3.A Y3.l.length Y3.c)).setCell ⟨w.heap.size + 1, 6, none⟩ (.slice Y4.A Y4.l.length Y4.c)) t) := Lib.hid fun t ht => (OwnSt.set (B := w.heap.size + 1) (j := 6) (u := .slice Y4.A Y4.l.length Y4.c) (OwnSt.set (B := w.heap.size + 1) (j := 5) (u := .slice Y3.A Y3.l.length Y3.c) (OwnSt.set (B := w.heap.size + 1) (j := 4) (u := .slice Y2.A Y2.l.length Y2.c) (OwnSt.set (B := w.heap.size + 1) (j := 3) (u := .slice Y1.A Y1.l.length Y1.c) (OwnSt.set (B := w.heap.size + 1) (j := 2) (u := .int .i64 x.next_) (OwnSt.set (B := w.heap.size + 1) (j := 1) (u := .int .i64 x.quota_) (OwnSt.set (B := w.heap.size + 1) (j := 0) (u := .string x.name_) (RE3_5.out t ht) HX0.out.rn) HX0.out.rn) HX0.out.rn) HX0.out.rn) HX0.out.rn) HX0.out.rn) HX0.out.rn)
  have RF4 := Lib.hid (own_set (B := w.heap.size + 1) (j := 6) (u := .slice Y4.A Y4.l.length Y4.c) (own_set (B := w.heap.size + 1) (j := 5) (u := .slice Y3.A Y3.l.length Y3.c) (own_set (B := w.heap.size + 1) (j := 4) (u := .slice Y2.A Y2.l.length Y2.c) (own_set (B := w.heap.size + 1) (j := 3) (u := .slice Y1.A Y1.l.length Y1.c) (own_set (B := w.heap.size + 1) (j := 2) (u := .int .i64 x.next_) (own_set (B := w.heap.size + 1) (j := 1) (u := .int .i64 x.quota_) (own_set (B := w.heap.size + 1) (j := 0) (u := .string x.name_) RO4_5.out HX0.out.rn) HX0.out.rn) HX0.out.rn) HX0.out.rn) HX0.out.rn) HX0.out.rn) HX0.out.rn)
  have hne1 : w.heap.size ≠ w.heap.size + 1 := by omega
  go_wp2
  obtain ⟨wF, hwF⟩ : ∃ wF, (((((((u5.setCell ⟨w.heap.size + 1, 0, none⟩ (.string x.name_)).setCell ⟨w.heap.size + 1, 1, none⟩ (.int .i64 x.quota_)).setCell ⟨w.heap.size + 1, 2, none⟩ (.int .i64 x.next_)).setCell ⟨w.heap.size + 1, 3, none⟩ (.slice Y1.A Y1.l.length Y1.c)).setCell ⟨w.heap.size + 1, 4, none⟩ (.slice Y2.A Y2.l.length Y2.c)).setCell ⟨w.heap.size + 1, 5, none⟩ (.slice Y3.A Y3.l.length Y3.c)).setCell ⟨w.heap.size + 1, 6, none⟩ (.slice Y4.A Y4.l.length Y4.c)) = wF := ⟨_, rfl⟩
  rw [hwF] at XF RF1 RF2 RF3 RF4 EF1 EF3
  rw [hwF]
  have z0 := XF.res.cell 0
  have z1 := XF.res.cell 1
  have z2 := XF.res.cell 2
  have z3 := XF.res.cell 3
  have z4 := XF.res.cell 4
  have z5 := XF.res.cell 5
  have z6 := XF.res.cell 6
  simp only [gZa, gZb] at z0 z1 z2 z3 z4 z5 z6
  clear hwF
  refine bodyPost_ret (v := .agg #[.string x.name_, .int .i64 x.quota_, .int .i64 x.next_, .slice Y1.A Y1.l.length Y1.c, .slice Y2.A Y2.l.length Y2.c, .slice Y3.A Y3.l.length Y3.c, .slice Y4.A Y4.l.length Y4.c]) (by simp [results, Tryz.results46, go_sem, z0, z1, z2, z3, z4, z5, z6]) rfl ⟨⟨x.name_, x.quota_, x.next_, Y1, Y2, Y3, Y4⟩, rfl, ⟨ownBase RF1.out hn2, ownBase RF2.out hn2, ownBase RF3.out hn2, ownBase RF4.out hn2, fun t ht => (EF1.out t ht).base hn2, fun t ht => (EF3.out t ht).base hn2⟩, (by simp only [MTenant.plain]; rw [HM1.out, show Y2.l = x.grants_.l by simpa using HM2.out, HM3.out, HM4.out]), HQ1.out _ _ _ _ _ _, XF.below⟩
theorem copy_sep (x : MTenant) (w : World) (hx : x.Good w) :
    Calls Tryz.prog 46 #[.agg x.cells.toArray] w fun e w' => ∃ y : MTenant, e = .returned (.agg y.cells.toArray) ∧ OwnTe w.heap.size w' y ∧ y.plain = x.plain ∧ y.sets_.l.Pairwise SepS ∧ Below w.heap.size w w' :=
  (copy_sepX x w hx).mono fun _ _ ⟨y, h1, h2, h3, h4, h5⟩ => ⟨y, h1, h2, h3, h4.sn, h5⟩
theorem copy_any (x : MTenant) (w : World) (hx : x.Good w) :
    Calls Tryz.prog 46 #[.agg x.cells.toArray] w fun e w' => ∃ y : MTenant, e = .returned (.agg y.cells.toArray) ∧ OwnTe w.heap.size w' y ∧ y.plain = x.plain ∧ Below w.heap.size w w' :=
  (copy_sep x w hx).mono fun _ _ ⟨y, h1, h2, h3, _, h5⟩ => ⟨y, h1, h2, h3, h5⟩
theorem refSame_true (A B : Option Addr) (c d : Nat) (l : List Bk) (hl : l.length ≤ 8796093022208) (w : World) (hr : Rd w A (l.flatMap bkC)) (hs : Rd w B (l.flatMap bkC)) : Calls Tryz.prog 26 #[.slice A l.length c, .slice B l.length d] w fun e w' => e = .returned (.bool true) ∧ Below w.heap.size w w' :=
  (refSame_any A B c d _ _ l l rfl rfl hl hl w hr hs).mono fun e w' ⟨he, hB⟩ => ⟨by rw [he]; simp, hB⟩
theorem entries_eq : ∀ {a b : List MEntry}, a.map MEntry.plain = b.map MEntry.plain → a = b
  | [], [], _ => rfl
  | [], _ :: _, h => by simp at h
  | _ :: _, [], h => by simp at h
  | x :: a, y :: b, h => by
    simp only [List.map_cons, List.cons.injEq] at h
    obtain ⟨h1, h2⟩ := h
    obtain ⟨e1, e2, e3, e4⟩ := PEntry.eq_iff.1 h1
    have : x = y := by
      obtain ⟨a1, a2, a3, a4⟩ := x
      obtain ⟨b1, b2, b3, b4⟩ := y
      simp only [MEntry.plain] at e1 e2 e3 e4
      subst e1 e2 e3 e4
      rfl
    rw [this, entries_eq h2]
theorem own_stays {W W' : World} {n e size k : Nat} {v : Value} {xs : List Value} (h : W.ownsRow n e size v k xs) (hk : ∀ b, n ≤ b → b < W.heap.size → W'.heap[b]? = W.heap[b]?) : W'.ownsRow n e size v k xs := ownStay h fun b hb => hk b (h.lt b hb).1 (h.lt b hb).2
theorem OwnTe.stays {n : Nat} {W W' : World} {y : MTenant} (h : OwnTe n W y) (hk : ∀ b, n ≤ b → b < W.heap.size → W'.heap[b]? = W.heap[b]?) : OwnTe n W' y :=
  ⟨own_stays h.sets hk, own_stays h.grants hk, own_stays h.stages hk, own_stays h.log hk, fun s hs => ⟨own_stays (h.eset s hs).body hk, own_stays (h.eset s hs).snaps hk, own_stays (h.eset s hs).own hk, fun z hz => ⟨own_stays ((h.eset s hs).each z hz).body hk, own_stays ((h.eset s hs).each z hz).tags hk, own_stays ((h.eset s hs).each z hz).own hk⟩⟩, fun s hs => ⟨own_stays (h.estage s hs).body hk, own_stays (h.estage s hs).own hk⟩⟩
theorem OwnTe.below {n : Nat} {W W' : World} {y : MTenant} (h : OwnTe n W y) (hB : Below W.heap.size W W') : OwnTe n W' y := h.stays fun b _ hb => hB.block b hb
theorem sum_eq {a b : MSum} (h : a.plain = b.plain) : a = b := by
  obtain ⟨a1, a2, a3, a4⟩ := a
  obtain ⟨b1, b2, b3, b4⟩ := b
  obtain ⟨h1, h2, h3, h4⟩ := PSum.eq_iff.1 h
  simp only [MSum.plain] at h1 h2 h3 h4
  subst h1 h2 h3 h4
  rfl
theorem MSum.Good.to {W : World} {x : MSum} (h : x.Good W) (W' : World) : x.Good W' := ⟨h.ga_, h.gb_, h.gc_, h.gd_⟩
theorem MEntry.Good.to {W : World} {x : MEntry} (h : x.Good W) (W' : World) : x.Good W' := ⟨h.guser_, h.gkind_, h.gpath_, h.gerr_⟩
theorem MStage.Good.of_own {W W' : World} {n : Nat} {x y : MStage} (h : x.Good W) (hp : y.plain = x.plain) (ho : OwnSt n W' y) : y.Good W' := by
  obtain ⟨h1, h2, h3, h4, h5, h6, h7⟩ := PStage.eq_iff.1 hp
  obtain ⟨r1, r2, r3, r4, r5, r6, r7, r8, r9⟩ := PRecord.eq_iff.1 h2
  have e1 := sum_eq h6
  have e2 := sum_eq r9
  have b := h.gbegin_
  refine ⟨by have := h.ginto_; rw [show y.into_ = x.into_ from h1]; exact this, ⟨?_, ?_, ?_, ?_, slGood_own b.gown_ (by rw [show y.begin_.own_.l = x.begin_.own_.l from r5]) ho.own fun q hq => b.gown_.el q (by rw [← show y.begin_.own_.l = x.begin_.own_.l from r5]; exact hq), ?_, ?_, ?_, ?_⟩, slGood_own h.gbody_ (by rw [show y.body_.l = x.body_.l from h3]) ho.body fun q hq => h.gbody_.el q (by rw [← show y.body_.l = x.body_.l from h3]; exact hq), by rw [show y.at_ = x.at_ from h4]; exact h.gat_, by rw [show y.next_ = x.next_ from h5]; exact h.gnext_, by rw [e1]; exact h.gsum_.to W'⟩
  · rw [show y.begin_.kind_ = x.begin_.kind_ from r1]; exact b.gkind_
  · rw [show y.begin_.name_ = x.begin_.name_ from r2]; exact b.gname_
  · rw [show y.begin_.from_ = x.begin_.from_ from r3]; exact b.gfrom_
  · rw [show y.begin_.guid_ = x.begin_.guid_ from r4]; exact b.gguid_
  · rw [show y.begin_.index_ = x.begin_.index_ from r6]; exact b.gindex_
  · rw [show y.begin_.count_ = x.begin_.count_ from r7]; exact b.gcount_
  · rw [show y.begin_.data_ = x.begin_.data_ from r8]; exact b.gdata_
  · rw [e2]; exact b.gsum_.to W'
theorem MTenant.Good.of_own {W W' : World} {n : Nat} {x y : MTenant} (h : x.Good W) (hp : y.plain = x.plain) (ho : OwnTe n W' y) : y.Good W' := by
  obtain ⟨h1, h2, h3, h4, h5, h6, h7⟩ := PTenant.eq_iff.1 hp
  have e7 : y.log_.l = x.log_.l := entries_eq h7
  refine ⟨by rw [show y.name_ = x.name_ from h1]; exact h.gname_, by rw [show y.quota_ = x.quota_ from h2]; exact h.gquota_, by rw [show y.next_ = x.next_ from h3]; exact h.gnext_, slGood_own h.gsets_ (map_len h4) ho.sets fun s hs => ?_, slGood_own h.ggrants_ (by rw [show y.grants_.l = x.grants_.l from h5]) ho.grants fun q hq => h.ggrants_.el q (by rw [← show y.grants_.l = x.grants_.l from h5]; exact hq), slGood_own h.gstages_ (map_len h6) ho.stages fun s hs => ?_, slGood_own h.glog_ (by rw [e7]) ho.log fun q hq => (h.glog_.el q (by rw [← e7]; exact hq)).to W'⟩
  · obtain ⟨s', hs', e⟩ := mem_plain h4 hs
    exact (h.gsets_.el s' hs').of_own e (ho.eset s hs)
  · obtain ⟨s', hs', e⟩ := mem_plain h6 hs
    exact (h.gstages_.el s' hs').of_own e (ho.estage s hs)
theorem OwnTe.keep {n : Nat} {W W' : World} {y : MTenant} {e : TypeId} (h : OwnTe n W y) (hk : Keeps e W W') (h1 : 106 ≠ e) (h2 : 9 ≠ e) (h3 : 109 ≠ e) (h4 : 49 ≠ e) (h5 : 52 ≠ e) (h6 : 111 ≠ e) (h7 : 91 ≠ e) (h8 : 104 ≠ e) : OwnTe n W' y :=
  ⟨own_keeps h.sets h5 hk, own_keeps h.grants h6 hk, own_keeps h.stages h7 hk, own_keeps h.log h8 hk, fun s hs => (h.eset s hs).keep hk h1 h2 h3 h4, fun s hs => (h.estage s hs).keep hk h1 h3⟩
theorem oneSn (a : MSnap) : ∀ u ∈ MSnap.cells a, u.oneCell' = true := fun u hu => by simp only [List.mem_cons, List.not_mem_nil, or_false] at hu; rcases hu with rfl | rfl | rfl | rfl | rfl <;> rfl
theorem oneSe (a : MSet) : ∀ u ∈ MSet.cells a, u.oneCell' = true := fun u hu => by simp only [List.mem_cons, List.not_mem_nil, or_false] at hu; rcases hu with rfl | rfl | rfl | rfl | rfl <;> rfl
theorem flat_set {α : Type} (cells : α → List Value) {n : Nat} (hn : ∀ a, (cells a).length = n) : ∀ {l : List α} {j : Nat} {x y : α} {f : Nat} {u : Value}, l[j]? = some x → cells y = (cells x).set f u → f < n → (l.set j y).flatMap cells = (l.flatMap cells).set (j * n + f) u
  | [], j, x, y, f, u, h, _, _ => by simp at h
  | a :: l, 0, x, y, f, u, h, hy, hf => by
    simp only [List.getElem?_cons_zero, Option.some.injEq] at h
    subst h
    rw [List.set_cons_zero, List.flatMap_cons, List.flatMap_cons, hy, Nat.zero_mul, Nat.zero_add, List.set_append_left _ _ (by rw [hn]; exact hf)]
  | a :: l, j + 1, x, y, f, u, h, hy, hf => by
    rw [List.getElem?_cons_succ] at h
    have ih := flat_set cells hn h hy hf
    rw [List.set_cons_succ, List.flatMap_cons, List.flatMap_cons, ih, List.set_append_right _ _ (by rw [hn]; have : (j + 1) * n = j * n + n := Nat.succ_mul j n; omega), hn]
    congr 2
    have : (j + 1) * n = j * n + n := Nat.succ_mul j n
    omega
theorem heap_setIn {W : World} {g i : Nat} {cur : Array Value} {e : TypeId} {u : Value} (h : W.heap[g]? = some (.cells cur e (0, 0))) : (W.setCell ⟨g, i, none⟩ u).heap[g]? = some (.cells (cur.setIfInBounds i u) e (0, 0)) := by
  have hlt := lt_of_block h
  have h' : W.heap[g] = .cells cur e (0, 0) := by simpa [Array.getElem?_eq_getElem hlt] using h
  show (W.heap.modify g _)[g]? = _
  rw [Array.getElem?_eq_getElem (by simpa using hlt), Array.getElem_modify_self, h']
  rfl
theorem own_setIn {W : World} {n size k g cap : Nat} {e : TypeId} {xs : List Value} (h : W.ownsRow n e size (.slice (some ⟨g, 0, none⟩) k cap) k xs) (i : Nat) (u : Value) : (W.setCell ⟨g, i, none⟩ u).ownsRow n e size (.slice (some ⟨g, 0, none⟩) k cap) k (xs.set i u) := by
  obtain ⟨h0, ⟨hv, _⟩ | ⟨g2, cap2, cur, hv, hn, hb, h2, h3, h4, h5⟩⟩ := h
  · cases hv
  · injection hv with e1 e2 e3
    injection e1 with e1
    injection e1 with e1
    subst e1 e3
    refine ⟨by rw [List.length_set]; exact h0, .inr ⟨g, cap, _, rfl, hn, heap_setIn hb, h2, h3, by rw [Array.size_setIfInBounds]; exact h4, ?_⟩⟩
    rw [Array.toList_setIfInBounds, List.take_set, h5]
theorem keeps_setIn {W : World} {n size k g cap : Nat} {e : TypeId} {xs : List Value} (h : W.ownsRow n e size (.slice (some ⟨g, 0, none⟩) k cap) k xs) (i : Nat) (u : Value) : Keeps e W (W.setCell ⟨g, i, none⟩ u) := fun b cur e' hb hne => heap_setCell_other W ⟨g, i, none⟩ b u (by
  intro e1
  have e1 : b = g := e1
  subst e1
  obtain ⟨_, ⟨hv, _⟩ | ⟨g2, cap2, cur2, hv, _, hb2, _⟩⟩ := h
  · cases hv
  · injection hv with e1 e2 e3
    injection e1 with e1
    injection e1 with e1
    subst e1
    rw [hb] at hb2
    injection hb2 with hb2
    injection hb2 with _ h6 _
    exact hne h6)
theorem OwnSe.setIn {n : Nat} {W W' : World} {s : MSet} (h : OwnSe n W s) (hk : Keeps 52 W W') : OwnSe n W' s := h.keep hk (by decide) (by decide) (by decide) (by decide)
theorem OwnTe.setIn {n : Nat} {W : World} {y : MTenant} (h : OwnTe n W y) {g j : Nat} {s s' : MSet} (hA : y.sets_.A = some ⟨g, 0, none⟩) (hj : y.sets_.l[j]? = some s) {f : Nat} {u : Value} (hf : f < 5) (hs : s'.cells = s.cells.set f u) (ho : OwnSe n W s') :
    OwnTe n (W.setCell ⟨g, j * 5 + f, none⟩ u) { y with sets_ := ⟨some ⟨g, 0, none⟩, y.sets_.l.set j s', y.sets_.c⟩ } := by
  have h1 : W.ownsRow n 52 5 (.slice (some ⟨g, 0, none⟩) y.sets_.l.length y.sets_.c) y.sets_.l.length (y.sets_.l.flatMap MSet.cells) := by
    rw [← hA]
    exact h.sets
  have hk := keeps_setIn h1 (j * 5 + f) u
  have h2 := own_setIn h1 (j * 5 + f) u
  rw [← flat_set MSet.cells (fun _ => rfl) hj hs hf] at h2
  refine ⟨?_, own_keeps h.grants (by decide) hk, own_keeps h.stages (by decide) hk, own_keeps h.log (by decide) hk, fun x hx => ?_, fun x hx => (h.estage x hx).keep hk (by decide) (by decide)⟩
  · show (W.setCell ⟨g, j * 5 + f, none⟩ u).ownsRow n 52 5 (.slice (some ⟨g, 0, none⟩) (y.sets_.l.set j s').length y.sets_.c) (y.sets_.l.set j s').length ((y.sets_.l.set j s').flatMap MSet.cells)
    rw [List.length_set]
    exact h2
  · rcases List.mem_or_eq_of_mem_set hx with hx | rfl
    · exact (h.eset x hx).setIn hk
    · exact ho.setIn hk
theorem MTenant.Good.of_sets {W W' : World} {n : Nat} {x y : MTenant} (h : x.Good W) (hp : { y.plain with sets_ := [] } = { x.plain with sets_ := [] }) (hl : y.sets_.l.length * 104 ≤ 140737488351232) (hg : ∀ s ∈ y.sets_.l, s.Good W') (ho : OwnTe n W' y) : y.Good W' := by
  obtain ⟨h1, h2, h3, _, h5, h6, h7⟩ := PTenant.eq_iff.1 hp
  have e7 : y.log_.l = x.log_.l := entries_eq h7
  obtain ⟨A, c, hv, hcap, hnil, hrd, _⟩ := ownAny ho.sets
  injection hv with v1 v2 v3
  refine ⟨by rw [show y.name_ = x.name_ from h1]; exact h.gname_, by rw [show y.quota_ = x.quota_ from h2]; exact h.gquota_, by rw [show y.next_ = x.next_ from h3]; exact h.gnext_, ⟨by rw [v1]; exact hrd.1, hg, by rw [v3]; exact hcap, by rw [v1, v3]; exact hnil, hl⟩, slGood_own h.ggrants_ (by rw [show y.grants_.l = x.grants_.l from h5]) ho.grants fun q hq => h.ggrants_.el q (by rw [← show y.grants_.l = x.grants_.l from h5]; exact hq), slGood_own h.gstages_ (map_len h6) ho.stages fun s hs => ?_, slGood_own h.glog_ (by rw [e7]) ho.log fun q hq => (h.glog_.el q (by rw [← e7]; exact hq)).to W'⟩
  obtain ⟨s', hs', e⟩ := mem_plain h6 hs
  exact (h.gstages_.el s' hs').of_own e (ho.estage s hs)
end Go.Proofs.YtimmcmjipmkebaaGreat
