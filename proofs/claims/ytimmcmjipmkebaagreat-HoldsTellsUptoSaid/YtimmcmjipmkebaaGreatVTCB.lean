/-
 A box whose fields are written one by one behind calls, and the row where the answer is laid; copies of lists of texts. No conditions but those written.
-/
import Derived.Test.YtimmcmjipmkebaaGreatVTCE
import Derived.Test.YtimmcmjipmkebaaGreatVTMB
namespace Go.Proofs.YtimmcmjipmkebaaGreat
open Go.ChangeShapes Go.WideShapes Go.ChangeAt Go.RowKit
set_option maxRecDepth 100000
theorem zbQ {W : World} {n e size k B j : Nat} {v u : Value} {xs : List Value} (h : W.ownsRow n e size v k xs) (hb : B < n) : (W.setCell ⟨B, j, none⟩ u).ownsRow n e size v k xs :=
 ownStay h fun b hv => heap_setCell_other W ⟨B, j, none⟩ b u (by
  have := (h.lt b hv).1
  show b ≠ B
  omega)
theorem OwnSn.set {W : World} {n B j : Nat} {u : Value} {y : Mna} (h : OwnSn n W y) (hb : B < n) : OwnSn n (W.setCell ⟨B, j, none⟩ u) y := ⟨zbQ h.body hb, zbQ h.tags hb, zbQ h.own hb⟩
theorem OwnSe.set {W : World} {n B j : Nat} {u : Value} {y : MSet} (h : OwnSe n W y) (hb : B < n) : OwnSe n (W.setCell ⟨B, j, none⟩ u) y := ⟨zbQ h.body hb, zbQ h.snaps hb, zbQ h.own hb, fun s hs => (h.each s hs).set hb⟩
theorem OwnSt.set {W : World} {n B j : Nat} {u : Value} {y : Mta} (h : OwnSt n W y) (hb : B < n) : OwnSt n (W.setCell ⟨B, j, none⟩ u) y := ⟨zbQ h.body hb, zbQ h.own hb⟩
structure Bx (w : World) (n : Nat) (t : TypeId) (B R : Nat) (C Z : List Value) (u : World) : Prop where
 below : Below w.heap.size w u
 box : Blk u B t C
 res : Blk u R t Z
 big : n ≤ u.heap.size
 b0 : w.heap.size ≤ B
 r0 : w.heap.size ≤ R
 bn : B < n
 rn : R < n
 ne : R ≠ B
theorem Bx.call {w u v : World} {n B R : Nat} {t : TypeId} {C Z : List Value} (h : Bx w n t B R C Z u) (hV : Below u.heap.size u v) : Bx w n t B R C Z v :=
 ⟨h.below.trans (hV.mono h.below.size), h.box.below hV h.box.lt, h.res.below hV h.res.lt, Nat.le_trans h.big hV.size, h.b0, h.r0, h.bn, h.rn, h.ne⟩
theorem Bx.set {w u : World} {n B R : Nat} {t : TypeId} {C Z : List Value} (h : Bx w n t B R C Z u) (j : Nat) (x : Value) : Bx w n t B R (C.set j x) Z (u.setCell ⟨B, j, none⟩ x) :=
 ⟨h.below.setCell (p := ⟨B, j, none⟩) h.b0 x, h.box.set j x, h.res.other h.ne j x, by simpa using h.big, h.b0, h.r0, h.bn, h.rn, h.ne⟩
theorem Bx.ans {w u : World} {n B R : Nat} {t : TypeId} {C Z : List Value} (h : Bx w n t B R C Z u) (j : Nat) (x : Value) : Bx w n t B R C (Z.set j x) (u.setCell ⟨R, j, none⟩ x) :=
 ⟨h.below.setCell (p := ⟨R, j, none⟩) h.r0 x, h.box.other h.ne.symm j x, h.res.set j x, by simpa using h.big, h.b0, h.r0, h.bn, h.rn, h.ne⟩
theorem Bx.new (w : World) (t : TypeId) (C Z : List Value) : Bx w ((w.alloc (.cells C.toArray t)).alloc (.cells Z.toArray t)).heap.size t w.heap.size (w.heap.size + 1) C Z ((w.alloc (.cells C.toArray t)).alloc (.cells Z.toArray t)) := by
 have k1 : Blk (w.alloc (.cells C.toArray t)) w.heap.size t C := Blk.new w _ _
 have k2 := Blk.new (w.alloc (.cells C.toArray t)) Z t
 have hz : (w.alloc (.cells C.toArray t)).heap.size = w.heap.size + 1 := by simp
 rw [hz] at k2
 refine ⟨((Below.refl _ w).alloc (Nat.le_refl _) _).alloc (by simp) _, k1.alloc _, k2, Nat.le_refl _, Nat.le_refl _, by omega, by simp; omega, by simp, by omega⟩
set_option maxHeartbeats 1000000 in
theorem each_Str (X : Sl ByteArray) (w : World) (hlen : X.l.length * 16 ≤ 140737488351232) (hf : ∀ s ∈ X.l, s.size ≤ 140737488351232) (hr : Rd w X.A (X.l.map Value.string)) :
 Calls Tryz.prog 188 #[.slice X.A X.l.length X.c, .func (.func 65) #[] #[]] w fun e w' => ∃ Y : Sl ByteArray, e = .returned Y.val ∧ Y.l = X.l ∧ w'.ownsRow w.heap.size 9 1 Y.val Y.l.length (Y.l.flatMap fun s => [Value.string s]) ∧ Below w.heap.size w w' := by
 obtain ⟨A, l, c⟩ := X
 dsimp only at hlen hr hf ⊢
 have HF := zI hf
 clear hf
 go_enter Tryz.func188, Tryz.ntmps188
 go_wp2
 go_loopw [5, 10] (fun v i W => ∃ (k : Nat) (o : List ByteArray), k ≤ l.length ∧ i = .int .i64 k ∧ o.length ≤ k ∧ Hid (o = l.take k) ∧ Hid (ownT W w.heap.size v o) ∧ Below w.heap.size w W) (fun _ i _ => l.length - (intOf i).toNat)
 case atStart => exact ⟨0, [], Nat.zero_le _, rfl, Nat.le_refl _, zI (by simp), zI (ownNone _ _ _ _), Below.refl _ _⟩
 case round =>
  obtain ⟨k, o, hk, rfl, hol, HM, HO, hB⟩ := hrel
  obtain ⟨Av, cv, hv, _, _, _, _⟩ := ownAny HO.out
  subst hv
  by_cases hlt : k < l.length
  · obtain ⟨y, hy⟩ : ∃ y, l[k]? = some y := ⟨l[k], qZa hlt⟩
    obtain ⟨b, off, rfl, hb, hc⟩ := rdT_at (hr.below hB) hy
    have HC := zI (cloneU_any y (by have := HF.out y (mG hy); omega) wr)
    have HM' : Hid (o ++ [y] = l.take (k + 1)) := zI (by
     rw [List.take_add_one, hy, HM.out]
     rfl)
    clear hy HM
    go_wp2_with fail
    refine HC.out.mono ?_
    rintro e w3 ⟨rfl, hB3⟩
    have hX3 := hB.trans (hB3.mono hB.size)
    have hs3 := hX3.size
    have HO3 := zI (zgQ HO.out hB3 (Nat.le_refl _))
    clear HC HO
    go_wp2_with (at_builtin; refine wpAppT rfl rfl hX3 hs3 HO3.out rfl y rfl rfl (by omega) ?_; intro g6 c6 x6 HO6 HB6)
    go_roundw
    case rel => exact ⟨k + 1, o ++ [y], by omega, by go_num, by simp; omega, HM', zI (by simpa using HO6.out), HB6.out⟩
    case measure => simp [intOf]; omega
  · have HM' : Hid (o = l) := zI (by rw [HM.out, List.take_of_length_le (by omega)])
    clear HM
    go_wp2
    go_ret
    refine ⟨⟨Av, o, cv⟩, rfl, HM'.out, ?_, hB⟩
    rw [flat_one]
    exact HO.out
set_option linter.unusedSimpArgs false
set_option maxHeartbeats 4000000 in
theorem copiedSn (x : Mna) (w : World) (hx : x.Good w) :
 Calls Tryz.prog 157 (#[.agg x.cells.toArray] ++ #[]) w fun e w' => ∃ y : Mna, e = .returned (.agg y.cells.toArray) ∧ OwnSn w.heap.size w' y ∧ y.plain = x.plain ∧ Below w.heap.size w w' := by
 obtain ⟨wb, hwb⟩ : ∃ wb, (w.alloc (.cells #[.string x.x_, .int .i64 x.z_, .slice x.p_.A x.p_.l.length x.p_.c, .slice x.u_.A x.u_.l.length x.u_.c, .slice x.j_.A x.j_.l.length x.j_.c] 49)).alloc (.cells #[.string ⟨#[]⟩, .int .i64 0, .slice none 0 0, .slice none 0 0, .slice none 0 0] 49) = wb := ⟨_, rfl⟩
 have X0 : Bx w wb.heap.size 49 w.heap.size (w.heap.size + 1) [.string x.x_, .int .i64 x.z_, .slice x.p_.A x.p_.l.length x.p_.c, .slice x.u_.A x.u_.l.length x.u_.c, .slice x.j_.A x.j_.l.length x.j_.c] [.string ⟨#[]⟩, .int .i64 0, .slice none 0 0, .slice none 0 0, .slice none 0 0] wb := hwb ▸ Bx.new w 49 [.string x.x_, .int .i64 x.z_, .slice x.p_.A x.p_.l.length x.p_.c, .slice x.u_.A x.u_.l.length x.u_.c, .slice x.j_.A x.j_.l.length x.j_.c] [.string ⟨#[]⟩, .int .i64 0, .slice none 0 0, .slice none 0 0, .slice none 0 0]
 have HG := zI hx
 have HX0 := zI X0
 have HW := zI hwb
 have hn2 : w.heap.size ≤ wb.heap.size := X0.below.size
 have a0 := X0.box.cell 0
 simp only [List.getElem?_cons_zero, List.getElem?_cons_succ, List.set_cons_zero, List.set_cons_succ] at a0
 clear X0 hwb hx
 go_enter Tryz.func157, Tryz.ntmps157
 go_upto_region 1 with fail
 rw [HW.out]
 have HC0 := zI (cloneU_any x.x_ (by have := HG.out.L_; omega) wb)
 go_wp2_with fail
 refine HC0.out.mono ?_
 rintro e v0 ⟨rfl, hV0⟩
 have V0 := HX0.out.call hV0
 have b0_0 := V0.box.cell 0
 simp only [List.getElem?_cons_zero, List.getElem?_cons_succ, List.set_cons_zero, List.set_cons_succ] at b0_0
 have f0 := V0.box.frozen 0
 have HX1 := zI (V0.set 0 (.string x.x_))
 obtain ⟨u1, hu1⟩ : ∃ u, v0.setCell ⟨w.heap.size, 0, none⟩ (.string x.x_) = u := ⟨_, rfl⟩
 rw [hu1] at HX1  
 simp only [List.set_cons_zero, List.set_cons_succ] at HX1
 have c1_2 := HX1.out.box.cell 2
 simp only [List.getElem?_cons_zero, List.getElem?_cons_succ, List.set_cons_zero, List.set_cons_succ] at c1_2
 clear V0 HC0
 have HC1 := zI (each_Bk 155 #[] (enters_of Tryz.func155 (by kernel_rfl) rfl) x.p_ u1 HG.out.K_.len (HG.out.K_.rd.below HX1.out.below) (fun W b hb hW => (copiedBk b.1 b.2 (HG.out.K_.el b hb).1 W).mono fun e W' ⟨he, hB⟩ => ⟨b, he, trivial, rfl, hB⟩))
 go_wp2_with fail
 refine HC1.out.mono ?_
 rintro e v1 ⟨Y1, rfl, hm1, ho1, he1, hV1⟩
 have HM1 := zI hm1
 clear hm1
 have V1 := HX1.out.call hV1
 have b1_2 := V1.box.cell 2
 simp only [List.getElem?_cons_zero, List.getElem?_cons_succ, List.set_cons_zero, List.set_cons_succ] at b1_2
 have f1 := V1.box.frozen 2
 have HX2 := zI (V1.set 2 (.slice Y1.A Y1.l.length Y1.c))
 have RO1_2 := zI (zbQ (B := w.heap.size) (j := 2) (u := .slice Y1.A Y1.l.length Y1.c) (zfZ ho1 HX1.out.big) HX1.out.bn)
 obtain ⟨u2, hu2⟩ : ∃ u, v1.setCell ⟨w.heap.size, 2, none⟩ (.slice Y1.A Y1.l.length Y1.c) = u := ⟨_, rfl⟩
 rw [hu2] at HX2 RO1_2 
 simp only [List.set_cons_zero, List.set_cons_succ] at HX2
 have c2_3 := HX2.out.box.cell 3
 simp only [List.getElem?_cons_zero, List.getElem?_cons_succ, List.set_cons_zero, List.set_cons_succ] at c2_3
 clear V1 HC1
 have HC2 := zI (each_Str x.u_ u2 (HG.out.U_.len) (fun t ht => HG.out.U_.el t ht) (tagsRd (HG.out.U_.rd.below HX2.out.below)))
 go_wp2_with fail
 refine HC2.out.mono ?_
 rintro e v2 ⟨Y2, rfl, hm2, ho2, hV2⟩
 have HM2 := zI hm2
 clear hm2
 have V2 := HX2.out.call hV2
 have b2_3 := V2.box.cell 3
 simp only [List.getElem?_cons_zero, List.getElem?_cons_succ, List.set_cons_zero, List.set_cons_succ] at b2_3
 have f2 := V2.box.frozen 3
 have HX3 := zI (V2.set 3 (.slice Y2.A Y2.l.length Y2.c))
 have RO1_3 := zI (zbQ (B := w.heap.size) (j := 3) (u := .slice Y2.A Y2.l.length Y2.c) (zgQ RO1_2.out hV2 (Nat.le_refl _)) HX2.out.bn)
 have RO2_3 := zI (zbQ (B := w.heap.size) (j := 3) (u := .slice Y2.A Y2.l.length Y2.c) (zfZ ho2 HX2.out.big) HX2.out.bn)
 obtain ⟨u3, hu3⟩ : ∃ u, v2.setCell ⟨w.heap.size, 3, none⟩ (.slice Y2.A Y2.l.length Y2.c) = u := ⟨_, rfl⟩
 rw [hu3] at HX3 RO1_3 RO2_3 
 simp only [List.set_cons_zero, List.set_cons_succ] at HX3
 have c3_4 := HX3.out.box.cell 4
 simp only [List.getElem?_cons_zero, List.getElem?_cons_succ, List.set_cons_zero, List.set_cons_succ] at c3_4
 clear V2 HC2
 have HC3 := zI (each_Pr 159 #[] (enters_of Tryz.func159 (by kernel_rfl) rfl) x.j_ u3 HG.out.G_.len (HG.out.G_.rd.below HX3.out.below) (fun W b hb hW => (copiedPr b.1 b.2 (HG.out.G_.el b hb).1 (HG.out.G_.el b hb).2 W).mono fun e W' ⟨he, hB⟩ => ⟨b, he, trivial, rfl, hB⟩))
 go_wp2_with fail
 refine HC3.out.mono ?_
 rintro e v3 ⟨Y3, rfl, hm3, ho3, he3, hV3⟩
 have HM3 := zI hm3
 clear hm3
 have V3 := HX3.out.call hV3
 have b3_4 := V3.box.cell 4
 simp only [List.getElem?_cons_zero, List.getElem?_cons_succ, List.set_cons_zero, List.set_cons_succ] at b3_4
 have f3 := V3.box.frozen 4
 have HX4 := zI (V3.set 4 (.slice Y3.A Y3.l.length Y3.c))
 have RO1_4 := zI (zbQ (B := w.heap.size) (j := 4) (u := .slice Y3.A Y3.l.length Y3.c) (zgQ RO1_3.out hV3 (Nat.le_refl _)) HX3.out.bn)
 have RO2_4 := zI (zbQ (B := w.heap.size) (j := 4) (u := .slice Y3.A Y3.l.length Y3.c) (zgQ RO2_3.out hV3 (Nat.le_refl _)) HX3.out.bn)
 have RO3_4 := zI (zbQ (B := w.heap.size) (j := 4) (u := .slice Y3.A Y3.l.length Y3.c) (zfZ ho3 HX3.out.big) HX3.out.bn)
 obtain ⟨u4, hu4⟩ : ∃ u, v3.setCell ⟨w.heap.size, 4, none⟩ (.slice Y3.A Y3.l.length Y3.c) = u := ⟨_, rfl⟩
 rw [hu4] at HX4 RO1_4 RO2_4 RO3_4 
 simp only [List.set_cons_zero, List.set_cons_succ] at HX4
 have c4_0 := HX4.out.box.cell 0
 have c4_1 := HX4.out.box.cell 1
 have c4_2 := HX4.out.box.cell 2
 have c4_3 := HX4.out.box.cell 3
 have c4_4 := HX4.out.box.cell 4
 simp only [List.getElem?_cons_zero, List.getElem?_cons_succ, List.set_cons_zero, List.set_cons_succ] at c4_0 c4_1 c4_2 c4_3 c4_4
 clear V3 HC3
 have r0 := HX4.out.res.cell 0
 have g0 := HX4.out.res.frozen 0
 have r1 := HX4.out.res.cell 1
 have g1 := HX4.out.res.frozen 1
 have r2 := HX4.out.res.cell 2
 have g2 := HX4.out.res.frozen 2
 have r3 := HX4.out.res.cell 3
 have g3 := HX4.out.res.frozen 3
 have r4 := HX4.out.res.cell 4
 have g4 := HX4.out.res.frozen 4
 simp only [gZa, gZb] at r0 r1 r2 r3 r4
 have XF : Bx w wb.heap.size 49 w.heap.size (w.heap.size + 1) _ [.string x.x_, .int .i64 x.z_, .slice Y1.A Y1.l.length Y1.c, .slice Y2.A Y2.l.length Y2.c, .slice Y3.A Y3.l.length Y3.c] (((((u4.setCell ⟨w.heap.size + 1, 0, none⟩ (.string x.x_)).setCell ⟨w.heap.size + 1, 1, none⟩ (.int .i64 x.z_)).setCell ⟨w.heap.size + 1, 2, none⟩ (.slice Y1.A Y1.l.length Y1.c)).setCell ⟨w.heap.size + 1, 3, none⟩ (.slice Y2.A Y2.l.length Y2.c)).setCell ⟨w.heap.size + 1, 4, none⟩ (.slice Y3.A Y3.l.length Y3.c)) := (((((HX4.out.ans 0 (.string x.x_)).ans 1 (.int .i64 x.z_)).ans 2 (.slice Y1.A Y1.l.length Y1.c)).ans 3 (.slice Y2.A Y2.l.length Y2.c)).ans 4 (.slice Y3.A Y3.l.length Y3.c))
 have RF1 := zI (zbQ (B := w.heap.size + 1) (j := 4) (u := .slice Y3.A Y3.l.length Y3.c) (zbQ (B := w.heap.size + 1) (j := 3) (u := .slice Y2.A Y2.l.length Y2.c) (zbQ (B := w.heap.size + 1) (j := 2) (u := .slice Y1.A Y1.l.length Y1.c) (zbQ (B := w.heap.size + 1) (j := 1) (u := .int .i64 x.z_) (zbQ (B := w.heap.size + 1) (j := 0) (u := .string x.x_) RO1_4.out HX0.out.rn) HX0.out.rn) HX0.out.rn) HX0.out.rn) HX0.out.rn)
 have RF2 := zI (zbQ (B := w.heap.size + 1) (j := 4) (u := .slice Y3.A Y3.l.length Y3.c) (zbQ (B := w.heap.size + 1) (j := 3) (u := .slice Y2.A Y2.l.length Y2.c) (zbQ (B := w.heap.size + 1) (j := 2) (u := .slice Y1.A Y1.l.length Y1.c) (zbQ (B := w.heap.size + 1) (j := 1) (u := .int .i64 x.z_) (zbQ (B := w.heap.size + 1) (j := 0) (u := .string x.x_) RO2_4.out HX0.out.rn) HX0.out.rn) HX0.out.rn) HX0.out.rn) HX0.out.rn)
 have RF3 := zI (zbQ (B := w.heap.size + 1) (j := 4) (u := .slice Y3.A Y3.l.length Y3.c) (zbQ (B := w.heap.size + 1) (j := 3) (u := .slice Y2.A Y2.l.length Y2.c) (zbQ (B := w.heap.size + 1) (j := 2) (u := .slice Y1.A Y1.l.length Y1.c) (zbQ (B := w.heap.size + 1) (j := 1) (u := .int .i64 x.z_) (zbQ (B := w.heap.size + 1) (j := 0) (u := .string x.x_) RO3_4.out HX0.out.rn) HX0.out.rn) HX0.out.rn) HX0.out.rn) HX0.out.rn)
 have hne1 : w.heap.size ≠ w.heap.size + 1 := by omega
 go_wp2
 obtain ⟨wF, hwF⟩ : ∃ wF, (((((u4.setCell ⟨w.heap.size + 1, 0, none⟩ (.string x.x_)).setCell ⟨w.heap.size + 1, 1, none⟩ (.int .i64 x.z_)).setCell ⟨w.heap.size + 1, 2, none⟩ (.slice Y1.A Y1.l.length Y1.c)).setCell ⟨w.heap.size + 1, 3, none⟩ (.slice Y2.A Y2.l.length Y2.c)).setCell ⟨w.heap.size + 1, 4, none⟩ (.slice Y3.A Y3.l.length Y3.c)) = wF := ⟨_, rfl⟩
 rw [hwF] at XF RF1 RF2 RF3 
 rw [hwF]
 have z0 := XF.res.cell 0
 have z1 := XF.res.cell 1
 have z2 := XF.res.cell 2
 have z3 := XF.res.cell 3
 have z4 := XF.res.cell 4
 simp only [gZa, gZb] at z0 z1 z2 z3 z4
 clear hwF
 refine bodyPost_ret (v := .agg #[.string x.x_, .int .i64 x.z_, .slice Y1.A Y1.l.length Y1.c, .slice Y2.A Y2.l.length Y2.c, .slice Y3.A Y3.l.length Y3.c]) (by simp [results, Tryz.results157, go_sem, z0, z1, z2, z3, z4]) rfl ⟨⟨x.x_, x.z_, Y1, Y2, Y3⟩, rfl, ⟨zfZ RF1.out hn2, zfZ RF2.out hn2, zfZ RF3.out hn2⟩, (by simp only [Mna.plain]; rw [show Y1.l = x.p_.l by simpa using HM1.out, HM2.out, show Y3.l = x.j_.l by simpa using HM3.out]), XF.below⟩
set_option maxHeartbeats 4000000 in
theorem copiedSe (x : MSet) (w : World) (hx : x.Good w) :
 Calls Tryz.prog 98 (#[.agg x.cells.toArray] ++ #[]) w fun e w' => ∃ y : MSet, e = .returned (.agg y.cells.toArray) ∧ OwnSe w.heap.size w' y ∧ y.plain = x.plain ∧ y.n_.l.Pairwise SepG ∧ Below w.heap.size w w' := by
 obtain ⟨wb, hwb⟩ : ∃ wb, (w.alloc (.cells #[.string x.l_, .string x.m_, .slice x.p_.A x.p_.l.length x.p_.c, .slice x.n_.A x.n_.l.length x.n_.c, .slice x.j_.A x.j_.l.length x.j_.c] 52)).alloc (.cells #[.string ⟨#[]⟩, .string ⟨#[]⟩, .slice none 0 0, .slice none 0 0, .slice none 0 0] 52) = wb := ⟨_, rfl⟩
 have X0 : Bx w wb.heap.size 52 w.heap.size (w.heap.size + 1) [.string x.l_, .string x.m_, .slice x.p_.A x.p_.l.length x.p_.c, .slice x.n_.A x.n_.l.length x.n_.c, .slice x.j_.A x.j_.l.length x.j_.c] [.string ⟨#[]⟩, .string ⟨#[]⟩, .slice none 0 0, .slice none 0 0, .slice none 0 0] wb := hwb ▸ Bx.new w 52 [.string x.l_, .string x.m_, .slice x.p_.A x.p_.l.length x.p_.c, .slice x.n_.A x.n_.l.length x.n_.c, .slice x.j_.A x.j_.l.length x.j_.c] [.string ⟨#[]⟩, .string ⟨#[]⟩, .slice none 0 0, .slice none 0 0, .slice none 0 0]
 have HG := zI hx
 have HX0 := zI X0
 have HW := zI hwb
 have hn2 : w.heap.size ≤ wb.heap.size := X0.below.size
 have a0 := X0.box.cell 0
 have a1 := X0.box.cell 1
 simp only [List.getElem?_cons_zero, List.getElem?_cons_succ, List.set_cons_zero, List.set_cons_succ] at a0 a1
 clear X0 hwb hx
 go_enter Tryz.func98, Tryz.ntmps98
 go_upto_region 1 with fail
 rw [HW.out]
 obtain ⟨Bd, hBd⟩ : ∃ B, w.heap.size = B := ⟨_, rfl⟩
 have HBd := zI hBd
 clear hBd
 refine wp_region_noPanic ?_
 refine zcX 7 (fun W' => W'.cell? ⟨w.heap.size, 0, none⟩ = some (.string x.l_) ∧ W'.cell? ⟨w.heap.size, 1, none⟩ = some (.string x.m_)) (by kernel_rfl) ⟨a0, a1⟩ (fun hHeld => ?_)
 refine tkA 16 (i := 0) (oi := ⟨some 3, _, _, _, _, _⟩) rfl hHeld ?_
 try simp only [zP]
 refine tkA 16 (i := 1) (oi := ⟨some 4, _, _, _, _, _⟩) rfl hHeld ?_
 try simp only [zP]
 refine tkA 16 (i := 3) (oi := ⟨some 6, _, _, _, _, _⟩) rfl hHeld ?_
 try simp only [zP]
 refine tkA 16 (i := 4) (oi := ⟨some 7, _, _, _, _, _⟩) rfl hHeld ?_
 try simp only [zP]
 clear hHeld
 refine zdZ 16 3 3 [(2, 5), (5, 8), (6, 9)] (fun s v w => match s with
  | 5 => v = .string x.l_
  | 8 => v = .string x.m_
  | 9 => v = .pointer (some ⟨Bd, 0, none⟩)
  | _ => True) (fun w w' => Below w.heap.size w w') (by kernel_rfl) (by kernel_rfl) bZh ⟨?_, ?_, ?_, trivial⟩ (fun w' hB => ⟨(hB.cell (p := ⟨w.heap.size, 0, none⟩) HX0.out.box.lt).trans a0, (hB.cell (p := ⟨w.heap.size, 1, none⟩) HX0.out.box.lt).trans a1⟩) ⟨?_, ?_, ?_, trivial⟩ ?_
 focus
  intro v w w' h hB
  exact h
 focus
  intro v w w' h hB
  exact h
 focus
  intro v w w' h hB
  exact h
 focus
  intro vs w2 hBf hFf o ho K hK
  obtain rfl : (⟨some 5, _, _, _, _, _⟩ : Oper) = o := Option.some.inj ho
  clear ho
  (try simp only [fillL, zQ, zP] at hK ⊢)
  go_simp
  refine (cloneU_any x.l_ (by have := HG.out.C_; omega) w2).mono ?_
  rintro e w3 ⟨rfl, hB9⟩
  refine hK.out _ _ ⟨rfl, hB9⟩
 focus
  intro vs w2 hBf hFf o ho K hK
  obtain rfl : (⟨some 8, _, _, _, _, _⟩ : Oper) = o := Option.some.inj ho
  clear ho
  (try simp only [fillL, zQ, zP] at hK ⊢)
  go_simp
  refine (cloneU_any x.m_ (by have := HG.out.gorigin_; omega) w2).mono ?_
  rintro e w3 ⟨rfl, hB9⟩
  refine hK.out _ _ ⟨rfl, hB9⟩
 focus
  intro vs w2 hBf hFf o ho K hK
  obtain rfl : (⟨some 9, _, _, _, _, _⟩ : Oper) = o := Option.some.inj ho
  clear ho
  (try simp only [fillL, zQ, zP] at hK ⊢)
  go_simp
  refine hK.out _ _ ⟨by rw [HBd.out], Below.refl _ _⟩
 intro vs w2 hBf hFf
 (try simp only [fillL, zQ, zP])
 have p9 : vs 9 = .pointer (some ⟨w.heap.size, 0, none⟩) := by rw [HBd.out]; exact (hFf (6, 9) (by simp))
 have e1 : vs 5 = .string x.l_ := (hFf (2, 5) (by simp))
 have e2 : vs 8 = .string x.m_ := (hFf (5, 8) (by simp))
 have YX := HX0.out.call ((Below.refl _ _).drew.trans hBf)
 simp only [e1, e2, p9]
 have f1 := YX.box.frozen 0
 have f2 := YX.box.frozen 1
 have b1 := YX.box.cell 0
 have b2 := YX.box.cell 1
 simp only [List.getElem?_cons_zero, List.getElem?_cons_succ, List.set_cons_zero, List.set_cons_succ] at b1 b2
 refine zcZ (i := 7) (o := ⟨none, _, _, _, _, _⟩) (by kernel_rfl) rfl (by kernel_rfl) (fun K hK => ?_)
 go_simp
 go_wp2_with fail
 refine hK.out _ _ ?_
 clear hK K
 try simp only [zP]
 refine zcZ (i := 8) (o := ⟨some 10, _, _, _, _, _⟩) (by kernel_rfl) rfl (by kernel_rfl) (fun K hK => ?_)
 go_simp
 refine hK.out _ _ ?_
 clear hK K
 try simp only [zP]
 refine zcZ (i := 9) (o := ⟨none, _, _, _, _, _⟩) (by kernel_rfl) rfl (by kernel_rfl) (fun K hK => ?_)
 go_simp
 go_wp2_with fail
 refine hK.out _ _ ?_
 clear hK K
 try simp only [zP]
 refine zdQ (by kernel_rfl) ?_ _
 refine NoPanic.normal ?_
 have HX1 := zI ((YX.set 0 (.string x.l_)).set 1 (.string x.m_))
 obtain ⟨u1, hu1⟩ : ∃ u, (w2.setCell ⟨w.heap.size, 0, none⟩ (.string x.l_)).setCell ⟨w.heap.size, 1, none⟩ (.string x.m_) = u := ⟨_, rfl⟩
 rw [hu1] at HX1
 simp only [List.set_cons_zero, List.set_cons_succ] at HX1
 rw [hu1]
 clear hu1 YX f1 f2 b1 b2 e1 e2 p9 hBf hFf
 have c1_2 := HX1.out.box.cell 2
 simp only [List.getElem?_cons_zero, List.getElem?_cons_succ, List.set_cons_zero, List.set_cons_succ] at c1_2
 have HC1 := zI (each_Bk 155 #[] (enters_of Tryz.func155 (by kernel_rfl) rfl) x.p_ u1 HG.out.K_.len (HG.out.K_.rd.below HX1.out.below) (fun W b hb hW => (copiedBk b.1 b.2 (HG.out.K_.el b hb).1 W).mono fun e W' ⟨he, hB⟩ => ⟨b, he, trivial, rfl, hB⟩))
 go_wp2_with fail
 refine HC1.out.mono ?_
 rintro e v1 ⟨Y1, rfl, hm1, ho1, he1, hV1⟩
 have HM1 := zI hm1
 clear hm1
 have V1 := HX1.out.call hV1
 have b1_2 := V1.box.cell 2
 simp only [List.getElem?_cons_zero, List.getElem?_cons_succ, List.set_cons_zero, List.set_cons_succ] at b1_2
 have f1 := V1.box.frozen 2
 have HX2 := zI (V1.set 2 (.slice Y1.A Y1.l.length Y1.c))
 have RO1_2 := zI (zbQ (B := w.heap.size) (j := 2) (u := .slice Y1.A Y1.l.length Y1.c) (zfZ ho1 HX1.out.big) HX1.out.bn)
 obtain ⟨u2, hu2⟩ : ∃ u, v1.setCell ⟨w.heap.size, 2, none⟩ (.slice Y1.A Y1.l.length Y1.c) = u := ⟨_, rfl⟩
 rw [hu2] at HX2 RO1_2 
 simp only [List.set_cons_zero, List.set_cons_succ] at HX2
 have c2_3 := HX2.out.box.cell 3
 simp only [List.getElem?_cons_zero, List.getElem?_cons_succ, List.set_cons_zero, List.set_cons_succ] at c2_3
 clear V1 HC1
 have HC2 := zI (each_Sn 157 #[] (enters_of Tryz.func157 (by kernel_rfl) rfl) x.n_ u2 HG.out.f_.len (HG.out.f_.rd.below HX2.out.below) (fun W b hb hW => copiedSn b W ((HG.out.f_.el b hb).below (HX2.out.below.trans (hW.mono HX2.out.below.size)))))
 go_wp2_with fail
 refine HC2.out.mono ?_
 rintro e v2 ⟨Y2, rfl, hm2, ho2, he2, hq2, hV2⟩
 have HQ2 := zI hq2
 clear hq2
 have HM2 := zI hm2
 clear hm2
 have V2 := HX2.out.call hV2
 have b2_3 := V2.box.cell 3
 simp only [List.getElem?_cons_zero, List.getElem?_cons_succ, List.set_cons_zero, List.set_cons_succ] at b2_3
 have f2 := V2.box.frozen 3
 have HX3 := zI (V2.set 3 (.slice Y2.A Y2.l.length Y2.c))
 have RO1_3 := zI (zbQ (B := w.heap.size) (j := 3) (u := .slice Y2.A Y2.l.length Y2.c) (zgQ RO1_2.out hV2 (Nat.le_refl _)) HX2.out.bn)
 have RO2_3 := zI (zbQ (B := w.heap.size) (j := 3) (u := .slice Y2.A Y2.l.length Y2.c) (zfZ ho2 HX2.out.big) HX2.out.bn)
 have RE2_3 : Hid (∀ t ∈ Y2.l, OwnSn wb.heap.size (v2.setCell ⟨w.heap.size, 3, none⟩ (.slice Y2.A Y2.l.length Y2.c)) t) := zI fun t ht => ((he2 t ht).base HX2.out.big).set HX2.out.bn
 obtain ⟨u3, hu3⟩ : ∃ u, v2.setCell ⟨w.heap.size, 3, none⟩ (.slice Y2.A Y2.l.length Y2.c) = u := ⟨_, rfl⟩
 rw [hu3] at HX3 RO1_3 RO2_3 RE2_3
 simp only [List.set_cons_zero, List.set_cons_succ] at HX3
 have c3_4 := HX3.out.box.cell 4
 simp only [List.getElem?_cons_zero, List.getElem?_cons_succ, List.set_cons_zero, List.set_cons_succ] at c3_4
 clear V2 HC2
 have HC3 := zI (each_Pr 159 #[] (enters_of Tryz.func159 (by kernel_rfl) rfl) x.j_ u3 HG.out.G_.len (HG.out.G_.rd.below HX3.out.below) (fun W b hb hW => (copiedPr b.1 b.2 (HG.out.G_.el b hb).1 (HG.out.G_.el b hb).2 W).mono fun e W' ⟨he, hB⟩ => ⟨b, he, trivial, rfl, hB⟩))
 go_wp2_with fail
 refine HC3.out.mono ?_
 rintro e v3 ⟨Y3, rfl, hm3, ho3, he3, hV3⟩
 have HM3 := zI hm3
 clear hm3
 have V3 := HX3.out.call hV3
 have b3_4 := V3.box.cell 4
 simp only [List.getElem?_cons_zero, List.getElem?_cons_succ, List.set_cons_zero, List.set_cons_succ] at b3_4
 have f3 := V3.box.frozen 4
 have HX4 := zI (V3.set 4 (.slice Y3.A Y3.l.length Y3.c))
 have RO1_4 := zI (zbQ (B := w.heap.size) (j := 4) (u := .slice Y3.A Y3.l.length Y3.c) (zgQ RO1_3.out hV3 (Nat.le_refl _)) HX3.out.bn)
 have RO2_4 := zI (zbQ (B := w.heap.size) (j := 4) (u := .slice Y3.A Y3.l.length Y3.c) (zgQ RO2_3.out hV3 (Nat.le_refl _)) HX3.out.bn)
 have RE2_4 : Hid (∀ t ∈ Y2.l, OwnSn wb.heap.size (v3.setCell ⟨w.heap.size, 4, none⟩ (.slice Y3.A Y3.l.length Y3.c)) t) := zI fun t ht => ((RE2_3.out t ht).below hV3).set HX3.out.bn
 have RO3_4 := zI (zbQ (B := w.heap.size) (j := 4) (u := .slice Y3.A Y3.l.length Y3.c) (zfZ ho3 HX3.out.big) HX3.out.bn)
 obtain ⟨u4, hu4⟩ : ∃ u, v3.setCell ⟨w.heap.size, 4, none⟩ (.slice Y3.A Y3.l.length Y3.c) = u := ⟨_, rfl⟩
 rw [hu4] at HX4 RO1_4 RO2_4 RO3_4 RE2_4
 simp only [List.set_cons_zero, List.set_cons_succ] at HX4
 have c4_0 := HX4.out.box.cell 0
 have c4_1 := HX4.out.box.cell 1
 have c4_2 := HX4.out.box.cell 2
 have c4_3 := HX4.out.box.cell 3
 have c4_4 := HX4.out.box.cell 4
 simp only [List.getElem?_cons_zero, List.getElem?_cons_succ, List.set_cons_zero, List.set_cons_succ] at c4_0 c4_1 c4_2 c4_3 c4_4
 clear V3 HC3
 have r0 := HX4.out.res.cell 0
 have g0 := HX4.out.res.frozen 0
 have r1 := HX4.out.res.cell 1
 have g1 := HX4.out.res.frozen 1
 have r2 := HX4.out.res.cell 2
 have g2 := HX4.out.res.frozen 2
 have r3 := HX4.out.res.cell 3
 have g3 := HX4.out.res.frozen 3
 have r4 := HX4.out.res.cell 4
 have g4 := HX4.out.res.frozen 4
 simp only [gZa, gZb] at r0 r1 r2 r3 r4
 have XF : Bx w wb.heap.size 52 w.heap.size (w.heap.size + 1) _ [.string x.l_, .string x.m_, .slice Y1.A Y1.l.length Y1.c, .slice Y2.A Y2.l.length Y2.c, .slice Y3.A Y3.l.length Y3.c] (((((u4.setCell ⟨w.heap.size + 1, 0, none⟩ (.string x.l_)).setCell ⟨w.heap.size + 1, 1, none⟩ (.string x.m_)).setCell ⟨w.heap.size + 1, 2, none⟩ (.slice Y1.A Y1.l.length Y1.c)).setCell ⟨w.heap.size + 1, 3, none⟩ (.slice Y2.A Y2.l.length Y2.c)).setCell ⟨w.heap.size + 1, 4, none⟩ (.slice Y3.A Y3.l.length Y3.c)) := (((((HX4.out.ans 0 (.string x.l_)).ans 1 (.string x.m_)).ans 2 (.slice Y1.A Y1.l.length Y1.c)).ans 3 (.slice Y2.A Y2.l.length Y2.c)).ans 4 (.slice Y3.A Y3.l.length Y3.c))
 have RF1 := zI (zbQ (B := w.heap.size + 1) (j := 4) (u := .slice Y3.A Y3.l.length Y3.c) (zbQ (B := w.heap.size + 1) (j := 3) (u := .slice Y2.A Y2.l.length Y2.c) (zbQ (B := w.heap.size + 1) (j := 2) (u := .slice Y1.A Y1.l.length Y1.c) (zbQ (B := w.heap.size + 1) (j := 1) (u := .string x.m_) (zbQ (B := w.heap.size + 1) (j := 0) (u := .string x.l_) RO1_4.out HX0.out.rn) HX0.out.rn) HX0.out.rn) HX0.out.rn) HX0.out.rn)
 have RF2 := zI (zbQ (B := w.heap.size + 1) (j := 4) (u := .slice Y3.A Y3.l.length Y3.c) (zbQ (B := w.heap.size + 1) (j := 3) (u := .slice Y2.A Y2.l.length Y2.c) (zbQ (B := w.heap.size + 1) (j := 2) (u := .slice Y1.A Y1.l.length Y1.c) (zbQ (B := w.heap.size + 1) (j := 1) (u := .string x.m_) (zbQ (B := w.heap.size + 1) (j := 0) (u := .string x.l_) RO2_4.out HX0.out.rn) HX0.out.rn) HX0.out.rn) HX0.out.rn) HX0.out.rn)
 have EF2 : Hid (∀ t ∈ Y2.l, OwnSn wb.heap.size (((((u4.setCell ⟨w.heap.size + 1, 0, none⟩ (.string x.l_)).setCell ⟨w.heap.size + 1, 1, none⟩ (.string x.m_)).setCell ⟨w.heap.size + 1, 2, none⟩ (.slice Y1.A Y1.l.length Y1.c)).setCell ⟨w.heap.size + 1, 3, none⟩ (.slice Y2.A Y2.l.length Y2.c)).setCell ⟨w.heap.size + 1, 4, none⟩ (.slice Y3.A Y3.l.length Y3.c)) t) := zI fun t ht => (OwnSn.set (B := w.heap.size + 1) (j := 4) (u := .slice Y3.A Y3.l.length Y3.c) (OwnSn.set (B := w.heap.size + 1) (j := 3) (u := .slice Y2.A Y2.l.length Y2.c) (OwnSn.set (B := w.heap.size + 1) (j := 2) (u := .slice Y1.A Y1.l.length Y1.c) (OwnSn.set (B := w.heap.size + 1) (j := 1) (u := .string x.m_) (OwnSn.set (B := w.heap.size + 1) (j := 0) (u := .string x.l_) (RE2_4.out t ht) HX0.out.rn) HX0.out.rn) HX0.out.rn) HX0.out.rn) HX0.out.rn)
 have RF3 := zI (zbQ (B := w.heap.size + 1) (j := 4) (u := .slice Y3.A Y3.l.length Y3.c) (zbQ (B := w.heap.size + 1) (j := 3) (u := .slice Y2.A Y2.l.length Y2.c) (zbQ (B := w.heap.size + 1) (j := 2) (u := .slice Y1.A Y1.l.length Y1.c) (zbQ (B := w.heap.size + 1) (j := 1) (u := .string x.m_) (zbQ (B := w.heap.size + 1) (j := 0) (u := .string x.l_) RO3_4.out HX0.out.rn) HX0.out.rn) HX0.out.rn) HX0.out.rn) HX0.out.rn)
 have hne1 : w.heap.size ≠ w.heap.size + 1 := by omega
 go_wp2
 obtain ⟨wF, hwF⟩ : ∃ wF, (((((u4.setCell ⟨w.heap.size + 1, 0, none⟩ (.string x.l_)).setCell ⟨w.heap.size + 1, 1, none⟩ (.string x.m_)).setCell ⟨w.heap.size + 1, 2, none⟩ (.slice Y1.A Y1.l.length Y1.c)).setCell ⟨w.heap.size + 1, 3, none⟩ (.slice Y2.A Y2.l.length Y2.c)).setCell ⟨w.heap.size + 1, 4, none⟩ (.slice Y3.A Y3.l.length Y3.c)) = wF := ⟨_, rfl⟩
 rw [hwF] at XF RF1 RF2 RF3 EF2
 rw [hwF]
 have z0 := XF.res.cell 0
 have z1 := XF.res.cell 1
 have z2 := XF.res.cell 2
 have z3 := XF.res.cell 3
 have z4 := XF.res.cell 4
 simp only [gZa, gZb] at z0 z1 z2 z3 z4
 clear hwF
 refine bodyPost_ret (v := .agg #[.string x.l_, .string x.m_, .slice Y1.A Y1.l.length Y1.c, .slice Y2.A Y2.l.length Y2.c, .slice Y3.A Y3.l.length Y3.c]) (by simp [results, Tryz.results98, go_sem, z0, z1, z2, z3, z4]) rfl ⟨⟨x.l_, x.m_, Y1, Y2, Y3⟩, rfl, ⟨zfZ RF1.out hn2, zfZ RF2.out hn2, zfZ RF3.out hn2, fun t ht => (EF2.out t ht).base hn2⟩, (by simp only [MSet.plain]; rw [show Y1.l = x.p_.l by simpa using HM1.out, HM2.out, show Y3.l = x.j_.l by simpa using HM3.out]), HQ2.out, XF.below⟩
end Go.Proofs.YtimmcmjipmkebaaGreat
