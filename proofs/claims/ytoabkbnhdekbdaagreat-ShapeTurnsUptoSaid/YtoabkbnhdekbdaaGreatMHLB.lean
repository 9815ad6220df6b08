/-
  Tenants as answers: none; what is settled; a box that is stored into. No conditions.
-/
import Derived.Test.YtoabkbnhdekbdaaGreatMTES
import Derived.Test.YtoabkbnhdekbdaaGreatMUSI
namespace Go.Proofs.YtoabkbnhdekbdaaGreat
open Go.ChangeShapes Go.WideShapes Go.ChangeAt Go.RowKit
set_option maxRecDepth 100000
def noM : MTenant := ⟨ByteArray.empty, 0, 0, ⟨none, [], 0⟩, ⟨none, [], 0⟩, ⟨none, [], 0⟩, ⟨none, [], 0⟩⟩
theorem noM_own (n : Nat) (W : World) : OwnTe n W noM := ⟨ownNone _ _ _ _, ownNone _ _ _ _, ownNone _ _ _ _, ownNone _ _ _ _, fun s hs => (by simp [noM] at hs), fun s hs => (by simp [noM] at hs)⟩
theorem slNone {α : Type} (W : World) (cells : α → List Value) (good : α → Prop) (b : Nat) : SlGood W cells good b ⟨none, [], 0⟩ := ⟨Rd.nil _ _, by simp, Nat.le_refl _, fun _ => rfl, by simp⟩
theorem noM_good (W : World) : noM.Good W := ⟨by decide, by decide, by decide, slNone _ _ _ _, slNone _ _ _ _, slNone _ _ _ _, slNone _ _ _ _⟩
def AnsT (w : World) (P : PTenant × Int) (e : Ending) (w' : World) : Prop := ∃ y : MTenant, e = .returned (.tuple #[.agg y.cells.toArray, .int .i64 P.2]) ∧ OwnTe w.heap.size w' y ∧ y.Good w' ∧ y.plain = P.1 ∧ Below w.heap.size w w'
theorem tenC_plain (x : MTenant) : tenC x = chgP x.plain := by
  unfold tenC chgP
  simp only [MTenant.plain, List.map_map]
  congr 2
  refine List.map_congr_left fun s _ => ?_
  simp only [setC, chgL, lineM, setN, Function.comp_apply, MSet.plain, List.map_append, List.map_map, List.map_cons, List.map_nil]
  rfl
def setlP (t : PTenant) : PTenant × Int := if wrap64 (chgP t) ≤ t.quota_ then (t, 0) else (noT, 42)
def setlM (x : MTenant) : MTenant := if wrap64 (chgP x.plain) ≤ x.quota_ then x else noM
theorem setlM_plain (x : MTenant) : (setlM x).plain = (setlP x.plain).1 := by
  unfold setlM setlP
  split
  · rw [if_pos (by assumption)]
  · rw [if_neg (by assumption)]
    rfl
theorem setlM_own {n : Nat} {W : World} {x : MTenant} (h : OwnTe n W x) : OwnTe n W (setlM x) := by
  unfold setlM
  split
  · exact h
  · exact noM_own _ _
theorem setlM_good {W : World} {x : MTenant} (h : x.Good W) : (setlM x).Good W := by
  unfold setlM
  split
  · exact h
  · exact noM_good _
theorem setl_pos {x : MTenant} (h : wrap64 (chgP x.plain) ≤ x.quota_) : setlM x = x ∧ (setlP x.plain).2 = 0 := ⟨if_pos h, by
  unfold setlP
  rw [if_pos (show wrap64 (chgP x.plain) ≤ x.plain.quota_ from h)]⟩
theorem setl_neg {x : MTenant} (h : ¬ wrap64 (chgP x.plain) ≤ x.quota_) : setlM x = noM ∧ (setlP x.plain).2 = 42 := ⟨if_neg h, by
  unfold setlP
  rw [if_neg (show ¬ wrap64 (chgP x.plain) ≤ x.plain.quota_ from h)]⟩
theorem Blk.all5 {W : World} {R : Nat} {t : TypeId} {v0 v1 v2 v3 v4 : Value} (h : Blk W R t [v0, v1, v2, v3, v4]) : W.cell? ⟨R, 0, none⟩ = some v0 ∧ W.cell? ⟨R, 1, none⟩ = some v1 ∧ W.cell? ⟨R, 2, none⟩ = some v2 ∧ W.cell? ⟨R, 3, none⟩ = some v3 ∧ W.cell? ⟨R, 4, none⟩ = some v4 := ⟨h.cell 0, h.cell 1, h.cell 2, h.cell 3, h.cell 4⟩
theorem Blk.all7 {W : World} {R : Nat} {t : TypeId} {v0 v1 v2 v3 v4 v5 v6 : Value} (h : Blk W R t [v0, v1, v2, v3, v4, v5, v6]) : W.cell? ⟨R, 0, none⟩ = some v0 ∧ W.cell? ⟨R, 1, none⟩ = some v1 ∧ W.cell? ⟨R, 2, none⟩ = some v2 ∧ W.cell? ⟨R, 3, none⟩ = some v3 ∧ W.cell? ⟨R, 4, none⟩ = some v4 ∧ W.cell? ⟨R, 5, none⟩ = some v5 ∧ W.cell? ⟨R, 6, none⟩ = some v6 := ⟨h.cell 0, h.cell 1, h.cell 2, h.cell 3, h.cell 4, h.cell 5, h.cell 6⟩
theorem Blk.fz7 {W : World} {R : Nat} {t : TypeId} {v0 v1 v2 v3 v4 v5 v6 : Value} (h : Blk W R t [v0, v1, v2, v3, v4, v5, v6]) : W.frozen? ⟨R, 0, none⟩ = false ∧ W.frozen? ⟨R, 1, none⟩ = false ∧ W.frozen? ⟨R, 2, none⟩ = false ∧ W.frozen? ⟨R, 3, none⟩ = false ∧ W.frozen? ⟨R, 4, none⟩ = false ∧ W.frozen? ⟨R, 5, none⟩ = false ∧ W.frozen? ⟨R, 6, none⟩ = false := ⟨h.frozen 0, h.frozen 1, h.frozen 2, h.frozen 3, h.frozen 4, h.frozen 5, h.frozen 6⟩
theorem store7 {W W' : World} {R : Nat} {c0 c1 c2 c3 c4 c5 c6 v0 v1 v2 v3 v4 v5 v6 : Value} (hb : Blk W R 27 [c0, c1, c2, c3, c4, c5, c6])
    (h : ((((((W.setCell ⟨R, 0, none⟩ v0).setCell ⟨R, 1, none⟩ v1).setCell ⟨R, 2, none⟩ v2).setCell ⟨R, 3, none⟩ v3).setCell ⟨R, 4, none⟩ v4).setCell ⟨R, 5, none⟩ v5).setCell ⟨R, 6, none⟩ v6 = W') :
    Blk W' R 27 [v0, v1, v2, v3, v4, v5, v6] ∧ (∀ b, b ≠ R → W'.heap[b]? = W.heap[b]?) ∧ W'.heap.size = W.heap.size ∧ ∀ (B : Nat) (w0 : World), Below B w0 W → B ≤ R → Below B w0 W' := by
  subst h
  refine ⟨((((((hb.set 0 v0).set 1 v1).set 2 v2).set 3 v3).set 4 v4).set 5 v5).set 6 v6, fun b hne => ?_, by simp [World.setCell], fun B w0 hB hR => ((((((hB.setCell (p := ⟨R, 0, none⟩) hR _).setCell (p := ⟨R, 1, none⟩) hR _).setCell (p := ⟨R, 2, none⟩) hR _).setCell (p := ⟨R, 3, none⟩) hR _).setCell (p := ⟨R, 4, none⟩) hR _).setCell (p := ⟨R, 5, none⟩) hR _).setCell (p := ⟨R, 6, none⟩) hR _⟩
  rw [heap_setCell_other _ ⟨R, 6, none⟩ b _ hne, heap_setCell_other _ ⟨R, 5, none⟩ b _ hne, heap_setCell_other _ ⟨R, 4, none⟩ b _ hne, heap_setCell_other _ ⟨R, 3, none⟩ b _ hne, heap_setCell_other _ ⟨R, 2, none⟩ b _ hne, heap_setCell_other _ ⟨R, 1, none⟩ b _ hne, heap_setCell_other _ ⟨R, 0, none⟩ b _ hne]
theorem OwnTe.base {n n' : Nat} {W : World} {y : MTenant} (h : OwnTe n W y) (hn : n' ≤ n) : OwnTe n' W y := ⟨ownBase h.sets hn, ownBase h.grants hn, ownBase h.stages hn, ownBase h.log hn, fun s hs => (h.eset s hs).base hn, fun s hs => (h.estage s hs).base hn⟩
theorem OwnTe.store {W W' : World} {R n : Nat} {y : MTenant} (h : OwnTe n W y) (hR : R < n) (hs : ∀ b, b ≠ R → W'.heap[b]? = W.heap[b]?) : OwnTe n W' y := h.stays fun b hb _ => hs b (by omega)
set_option linter.unusedSimpArgs false
theorem settled_any (x : MTenant) (w : World) (hx : x.Good w) :
    Calls Tryz.prog 45 #[.agg x.cells.toArray] w fun e w' => e = .returned (.tuple #[.agg (setlM x).cells.toArray, .int .i64 (setlP x.plain).2]) ∧ Below w.heap.size w w' ∧ (∀ b, b < w.heap.size → w'.heap[b]? = w.heap[b]?) := by
  obtain ⟨a1, hw1⟩ : ∃ a1, w.alloc (.cells #[.string x.name_, .int .i64 x.quota_, .int .i64 x.next_, .slice x.sets_.A x.sets_.l.length x.sets_.c, .slice x.grants_.A x.grants_.l.length x.grants_.c, .slice x.stages_.A x.stages_.l.length x.stages_.c, .slice x.log_.A x.log_.l.length x.log_.c] 27) = a1 := ⟨_, rfl⟩
  have b1 : Below w.heap.size w a1 := hw1 ▸ (Below.refl _ w).alloc (Nat.le_refl _) _
  have k1 : Blk a1 w.heap.size 27 [.string x.name_, .int .i64 x.quota_, .int .i64 x.next_, .slice x.sets_.A x.sets_.l.length x.sets_.c, .slice x.grants_.A x.grants_.l.length x.grants_.c, .slice x.stages_.A x.stages_.l.length x.stages_.c, .slice x.log_.A x.log_.l.length x.log_.c] := hw1 ▸ Blk.new w _ _
  obtain ⟨a2, hw2⟩ : ∃ a2, a1.alloc (.cells #[.string ⟨#[]⟩, .int .i64 0, .int .i64 0, .slice none 0 0, .slice none 0 0, .slice none 0 0, .slice none 0 0] 27) = a2 := ⟨_, rfl⟩
  have b2 : Below a1.heap.size a1 a2 := hw2 ▸ (Below.refl _ a1).alloc (Nat.le_refl _) _
  have k2 : Blk a2 a1.heap.size 27 [.string ⟨#[]⟩, .int .i64 0, .int .i64 0, .slice none 0 0, .slice none 0 0, .slice none 0 0, .slice none 0 0] := hw2 ▸ Blk.new a1 _ _
  have hX2 : w.heap.size + 1 = a1.heap.size := by rw [← hw1, World.size_alloc]
  have hB1 : Below w.heap.size w a1 := b1
  have hB2 : Below w.heap.size w a2 := hB1.trans (b2.mono hB1.size)
  have k1 := k1.of b2
  have hs2 := hB2.size
  have hs1 := hB1.size
  have ht1 : a1.heap.size ≤ a2.heap.size := b2.size
  have HW1 := Lib.hid hw1
  have HW2 := Lib.hid hw2
  clear hw1 b1 hw2 b2
  have HF := Lib.hid (fits_any x a2 (hx.below hB2))
  obtain ⟨q0, q1, q2, q3, q4, q5, q6⟩ := k1.all7
  have hc : tenC x = chgP x.plain := tenC_plain x
  rw [hc] at HF
  have hq := Nat.lt_irrefl 0
  clear hq
  by_cases hq : wrap64 (chgP x.plain) ≤ x.quota_
  · obtain ⟨h1, h2⟩ := setl_pos hq
    rw [h1, h2]
    rw [decide_eq_true hq] at HF
    generalize wrap64 (chgP x.plain) = T at *
    clear h1 h2 hc hx
    go_enter Tryz.func45, Tryz.ntmps45
    go_upto_region 1 with fail
    rw [HW1.out, HW2.out]
    try rw [hX2]
    go_wp2_with fail
    refine HF.out.mono ?_
    rintro e w3 ⟨rfl, hV⟩
    have K1 := k1.of hV
    have K2 := k2.of hV
    have hB3 := hB2.trans (hV.mono hs2)
    obtain ⟨d0, d1, d2, d3, d4, d5, d6⟩ := K1.all7
    obtain ⟨zr0, zr1, zr2, zr3, zr4, zr5, zr6⟩ := K2.all7
    obtain ⟨zrf0, zrf1, zrf2, zrf3, zrf4, zrf5, zrf6⟩ := K2.fz7
    go_wp2
    generalize hwE : World.setCell _ ⟨a1.heap.size, 6, none⟩ _ = wE
    obtain ⟨KE, SE, ZE, BE⟩ := store7 K2 hwE
    obtain ⟨ze0, ze1, ze2, ze3, ze4, ze5, ze6⟩ := KE.all7
    refine bodyPost_ret (v := .tuple #[.agg #[.string x.name_, .int .i64 x.quota_, .int .i64 x.next_, .slice x.sets_.A x.sets_.l.length x.sets_.c, .slice x.grants_.A x.grants_.l.length x.grants_.c, .slice x.stages_.A x.stages_.l.length x.stages_.c, .slice x.log_.A x.log_.l.length x.log_.c], .int .i64 0]) (by simp [results, Tryz.results45, go_sem, ze0, ze1, ze2, ze3, ze4, ze5, ze6]) rfl ?_
    exact ⟨rfl, BE _ _ hB3 hs1, fun b hb => (BE _ _ hB3 hs1).block b hb⟩
  · obtain ⟨h1, h2⟩ := setl_neg hq
    rw [h1, h2]
    rw [decide_eq_false hq] at HF
    generalize wrap64 (chgP x.plain) = T at *
    clear h1 h2 hc hx
    go_enter Tryz.func45, Tryz.ntmps45
    go_upto_region 1 with fail
    rw [HW1.out, HW2.out]
    try rw [hX2]
    go_wp2_with fail
    refine HF.out.mono ?_
    rintro e w3 ⟨rfl, hV⟩
    have K1 := k1.of hV
    have K2 := k2.of hV
    have hB3 := hB2.trans (hV.mono hs2)
    obtain ⟨zr0, zr1, zr2, zr3, zr4, zr5, zr6⟩ := K2.all7
    obtain ⟨zrf0, zrf1, zrf2, zrf3, zrf4, zrf5, zrf6⟩ := K2.fz7
    go_wp2
    generalize hwE : World.setCell _ ⟨a1.heap.size, 6, none⟩ _ = wE
    obtain ⟨KE, SE, ZE, BE⟩ := store7 K2 hwE
    obtain ⟨ze0, ze1, ze2, ze3, ze4, ze5, ze6⟩ := KE.all7
    refine bodyPost_ret (v := .tuple #[.agg #[.string ⟨#[]⟩, .int .i64 0, .int .i64 0, .slice none 0 0, .slice none 0 0, .slice none 0 0, .slice none 0 0], .int .i64 42]) (by simp [results, Tryz.results45, go_sem, ze0, ze1, ze2, ze3, ze4, ze5, ze6]) rfl ?_
    exact ⟨rfl, BE _ _ hB3 hs1, fun b hb => (BE _ _ hB3 hs1).block b hb⟩
theorem refSettled_any (x : MTenant) (w : World) (hx : x.Good w) :
    Calls Tryz.prog 51 #[.agg x.cells.toArray] w fun e w' => e = .returned (.tuple #[.agg (setlM x).cells.toArray, .int .i64 (setlP x.plain).2]) ∧ Below w.heap.size w w' ∧ (∀ b, b < w.heap.size → w'.heap[b]? = w.heap[b]?) := by
  obtain ⟨a1, hw1⟩ : ∃ a1, w.alloc (.cells #[.string x.name_, .int .i64 x.quota_, .int .i64 x.next_, .slice x.sets_.A x.sets_.l.length x.sets_.c, .slice x.grants_.A x.grants_.l.length x.grants_.c, .slice x.stages_.A x.stages_.l.length x.stages_.c, .slice x.log_.A x.log_.l.length x.log_.c] 27) = a1 := ⟨_, rfl⟩
  have b1 : Below w.heap.size w a1 := hw1 ▸ (Below.refl _ w).alloc (Nat.le_refl _) _
  have k1 : Blk a1 w.heap.size 27 [.string x.name_, .int .i64 x.quota_, .int .i64 x.next_, .slice x.sets_.A x.sets_.l.length x.sets_.c, .slice x.grants_.A x.grants_.l.length x.grants_.c, .slice x.stages_.A x.stages_.l.length x.stages_.c, .slice x.log_.A x.log_.l.length x.log_.c] := hw1 ▸ Blk.new w _ _
  obtain ⟨a2, hw2⟩ : ∃ a2, a1.alloc (.cells #[.string ⟨#[]⟩, .int .i64 0, .int .i64 0, .slice none 0 0, .slice none 0 0, .slice none 0 0, .slice none 0 0] 27) = a2 := ⟨_, rfl⟩
  have b2 : Below a1.heap.size a1 a2 := hw2 ▸ (Below.refl _ a1).alloc (Nat.le_refl _) _
  have k2 : Blk a2 a1.heap.size 27 [.string ⟨#[]⟩, .int .i64 0, .int .i64 0, .slice none 0 0, .slice none 0 0, .slice none 0 0, .slice none 0 0] := hw2 ▸ Blk.new a1 _ _
  have hX2 : w.heap.size + 1 = a1.heap.size := by rw [← hw1, World.size_alloc]
  have hB1 : Below w.heap.size w a1 := b1
  have hB2 : Below w.heap.size w a2 := hB1.trans (b2.mono hB1.size)
  have k1 := k1.of b2
  have hs2 := hB2.size
  have hs1 := hB1.size
  have ht1 : a1.heap.size ≤ a2.heap.size := b2.size
  have HW1 := Lib.hid hw1
  have HW2 := Lib.hid hw2
  clear hw1 b1 hw2 b2
  have HF := Lib.hid (fun W (hW : Below a2.heap.size a2 W) => refCharge_any x W ((hx.below hB2).below hW))
  obtain ⟨q0, q1, q2, q3, q4, q5, q6⟩ := k1.all7
  have hc : tenC x = chgP x.plain := tenC_plain x
  rw [hc] at HF
  have hq := Nat.lt_irrefl 0
  clear hq
  by_cases hq : wrap64 (chgP x.plain) ≤ x.quota_
  · obtain ⟨h1, h2⟩ := setl_pos hq
    rw [h1, h2]
    generalize wrap64 (chgP x.plain) = T at *
    clear h1 h2 hc hx
    go_enter Tryz.func51, Tryz.ntmps51
    go_upto_region 1 with fail
    rw [HW1.out, HW2.out]
    try rw [hX2]
    have hlt := k1.lt
    refine wp_region_noPanic ?_
    refine wp_region_last 4 (fun W => W.cell? ⟨w.heap.size, 0, none⟩ = some (.string x.name_) ∧ W.cell? ⟨w.heap.size, 1, none⟩ = some (.int .i64 x.quota_) ∧ W.cell? ⟨w.heap.size, 2, none⟩ = some (.int .i64 x.next_) ∧ W.cell? ⟨w.heap.size, 3, none⟩ = some (.slice x.sets_.A x.sets_.l.length x.sets_.c) ∧ W.cell? ⟨w.heap.size, 4, none⟩ = some (.slice x.grants_.A x.grants_.l.length x.grants_.c) ∧ W.cell? ⟨w.heap.size, 5, none⟩ = some (.slice x.stages_.A x.stages_.l.length x.stages_.c) ∧ W.cell? ⟨w.heap.size, 6, none⟩ = some (.slice x.log_.A x.log_.l.length x.log_.c)) (by kernel_rfl) ⟨q0, q1, q2, q3, q4, q5, q6⟩ (fun hHeld => ?_)
    refine tkA 16 (i := 0) (oi := ⟨some 4, _, _, _, _, _⟩) rfl hHeld ?_
    try simp only [Act.put, pZa, pZb, pZc]
    refine tkA 16 (i := 2) (oi := ⟨some 6, _, _, _, _, _⟩) rfl hHeld ?_
    try simp only [Act.put, pZa, pZb, pZc]
    refine tkA 16 (i := 3) (oi := ⟨some 7, _, _, _, _, _⟩) rfl hHeld ?_
    try simp only [Act.put, pZa, pZb, pZc]
    clear hHeld
    refine wpAnyL_facts 16 1 1 [(1, 5)] (fun s v w => match s with
      | 5 => v = .int .i64 T
      | _ => True) (fun w w' => Below w.heap.size w w') (by kernel_rfl) (by kernel_rfl) bZh ⟨?_, trivial⟩ (fun w' hB => ⟨(hB.cell (p := ⟨w.heap.size, 0, none⟩) hlt).trans q0, (hB.cell (p := ⟨w.heap.size, 1, none⟩) hlt).trans q1, (hB.cell (p := ⟨w.heap.size, 2, none⟩) hlt).trans q2, (hB.cell (p := ⟨w.heap.size, 3, none⟩) hlt).trans q3, (hB.cell (p := ⟨w.heap.size, 4, none⟩) hlt).trans q4, (hB.cell (p := ⟨w.heap.size, 5, none⟩) hlt).trans q5, (hB.cell (p := ⟨w.heap.size, 6, none⟩) hlt).trans q6⟩) ⟨?_, trivial⟩ ?_
    focus
      intro v w w' h hB
      exact h
    focus
      intro vs w2 hBf hFf o ho K hK
      obtain rfl : (⟨some 5, _, _, _, _, _⟩ : Oper) = o := Option.some.inj ho
      clear ho
      (try simp only [fillL, pZd, pZe, Act.put, pZa, pZb, pZc] at hK ⊢)
      go_simp
      refine (HF.out _ ((Below.refl a2.heap.size a2).drew.trans hBf)).mono ?_
      rintro e w3 ⟨rfl, hB3⟩
      refine hK.out _ _ ⟨rfl, hB3⟩
    intro vs w2 hBf hFf
    (try simp only [fillL, pZd, pZe, Act.put, pZa, pZb, pZc])
    have e1 : vs 5 = .int .i64 T := (hFf (1, 5) (by simp))
    simp only [e1]
    have hV : Below a2.heap.size a2 w2 := (Below.refl a2.heap.size a2).drew.trans hBf
    refine wpAnyL_last (i := 4) (o := ⟨some 8, _, _, _, _, _⟩) (by kernel_rfl) rfl (by kernel_rfl) (fun K hK => ?_)
    go_simp
    refine hK.out _ _ ?_
    clear hK K
    try simp only [Act.put, pZa, pZb, pZc]
    refine wpAnyL_done (by kernel_rfl) ?_ _
    refine NoPanic.normal ?_
    have K1 := k1.of hV
    have K2 := k2.of hV
    have hB3 := hB2.trans (hV.mono hs2)
    obtain ⟨d0, d1, d2, d3, d4, d5, d6⟩ := K1.all7
    obtain ⟨zr0, zr1, zr2, zr3, zr4, zr5, zr6⟩ := K2.all7
    obtain ⟨zrf0, zrf1, zrf2, zrf3, zrf4, zrf5, zrf6⟩ := K2.fz7
    go_wp2
    generalize hwE : World.setCell _ ⟨a1.heap.size, 6, none⟩ _ = wE
    obtain ⟨KE, SE, ZE, BE⟩ := store7 K2 hwE
    obtain ⟨ze0, ze1, ze2, ze3, ze4, ze5, ze6⟩ := KE.all7
    refine bodyPost_ret (v := .tuple #[.agg #[.string x.name_, .int .i64 x.quota_, .int .i64 x.next_, .slice x.sets_.A x.sets_.l.length x.sets_.c, .slice x.grants_.A x.grants_.l.length x.grants_.c, .slice x.stages_.A x.stages_.l.length x.stages_.c, .slice x.log_.A x.log_.l.length x.log_.c], .int .i64 0]) (by simp [results, Tryz.results51, go_sem, ze0, ze1, ze2, ze3, ze4, ze5, ze6]) rfl ?_
    exact ⟨rfl, BE _ _ hB3 hs1, fun b hb => (BE _ _ hB3 hs1).block b hb⟩
  · obtain ⟨h1, h2⟩ := setl_neg hq
    rw [h1, h2]
    generalize wrap64 (chgP x.plain) = T at *
    clear h1 h2 hc hx
    go_enter Tryz.func51, Tryz.ntmps51
    go_upto_region 1 with fail
    rw [HW1.out, HW2.out]
    try rw [hX2]
    have hlt := k1.lt
    refine wp_region_noPanic ?_
    refine wp_region_last 4 (fun W => W.cell? ⟨w.heap.size, 0, none⟩ = some (.string x.name_) ∧ W.cell? ⟨w.heap.size, 1, none⟩ = some (.int .i64 x.quota_) ∧ W.cell? ⟨w.heap.size, 2, none⟩ = some (.int .i64 x.next_) ∧ W.cell? ⟨w.heap.size, 3, none⟩ = some (.slice x.sets_.A x.sets_.l.length x.sets_.c) ∧ W.cell? ⟨w.heap.size, 4, none⟩ = some (.slice x.grants_.A x.grants_.l.length x.grants_.c) ∧ W.cell? ⟨w.heap.size, 5, none⟩ = some (.slice x.stages_.A x.stages_.l.length x.stages_.c) ∧ W.cell? ⟨w.heap.size, 6, none⟩ = some (.slice x.log_.A x.log_.l.length x.log_.c)) (by kernel_rfl) ⟨q0, q1, q2, q3, q4, q5, q6⟩ (fun hHeld => ?_)
    refine tkA 16 (i := 0) (oi := ⟨some 4, _, _, _, _, _⟩) rfl hHeld ?_
    try simp only [Act.put, pZa, pZb, pZc]
    refine tkA 16 (i := 2) (oi := ⟨some 6, _, _, _, _, _⟩) rfl hHeld ?_
    try simp only [Act.put, pZa, pZb, pZc]
    refine tkA 16 (i := 3) (oi := ⟨some 7, _, _, _, _, _⟩) rfl hHeld ?_
    try simp only [Act.put, pZa, pZb, pZc]
    clear hHeld
    refine wpAnyL_facts 16 1 1 [(1, 5)] (fun s v w => match s with
      | 5 => v = .int .i64 T
      | _ => True) (fun w w' => Below w.heap.size w w') (by kernel_rfl) (by kernel_rfl) bZh ⟨?_, trivial⟩ (fun w' hB => ⟨(hB.cell (p := ⟨w.heap.size, 0, none⟩) hlt).trans q0, (hB.cell (p := ⟨w.heap.size, 1, none⟩) hlt).trans q1, (hB.cell (p := ⟨w.heap.size, 2, none⟩) hlt).trans q2, (hB.cell (p := ⟨w.heap.size, 3, none⟩) hlt).trans q3, (hB.cell (p := ⟨w.heap.size, 4, none⟩) hlt).trans q4, (hB.cell (p := ⟨w.heap.size, 5, none⟩) hlt).trans q5, (hB.cell (p := ⟨w.heap.size, 6, none⟩) hlt).trans q6⟩) ⟨?_, trivial⟩ ?_
    focus
      intro v w w' h hB
      exact h
    focus
      intro vs w2 hBf hFf o ho K hK
      obtain rfl : (⟨some 5, _, _, _, _, _⟩ : Oper) = o := Option.some.inj ho
      clear ho
      (try simp only [fillL, pZd, pZe, Act.put, pZa, pZb, pZc] at hK ⊢)
      go_simp
      refine (HF.out _ ((Below.refl a2.heap.size a2).drew.trans hBf)).mono ?_
      rintro e w3 ⟨rfl, hB3⟩
      refine hK.out _ _ ⟨rfl, hB3⟩
    intro vs w2 hBf hFf
    (try simp only [fillL, pZd, pZe, Act.put, pZa, pZb, pZc])
    have e1 : vs 5 = .int .i64 T := (hFf (1, 5) (by simp))
    simp only [e1]
    have hV : Below a2.heap.size a2 w2 := (Below.refl a2.heap.size a2).drew.trans hBf
    refine wpAnyL_last (i := 4) (o := ⟨some 8, _, _, _, _, _⟩) (by kernel_rfl) rfl (by kernel_rfl) (fun K hK => ?_)
    go_simp
    refine hK.out _ _ ?_
    clear hK K
    try simp only [Act.put, pZa, pZb, pZc]
    refine wpAnyL_done (by kernel_rfl) ?_ _
    refine NoPanic.normal ?_
    have K1 := k1.of hV
    have K2 := k2.of hV
    have hB3 := hB2.trans (hV.mono hs2)
    obtain ⟨d0, d1, d2, d3, d4, d5, d6⟩ := K1.all7
    obtain ⟨zr0, zr1, zr2, zr3, zr4, zr5, zr6⟩ := K2.all7
    obtain ⟨zrf0, zrf1, zrf2, zrf3, zrf4, zrf5, zrf6⟩ := K2.fz7
    go_wp2
    generalize hwE : World.setCell _ ⟨a1.heap.size, 6, none⟩ _ = wE
    obtain ⟨KE, SE, ZE, BE⟩ := store7 K2 hwE
    obtain ⟨ze0, ze1, ze2, ze3, ze4, ze5, ze6⟩ := KE.all7
    refine bodyPost_ret (v := .tuple #[.agg #[.string ⟨#[]⟩, .int .i64 0, .int .i64 0, .slice none 0 0, .slice none 0 0, .slice none 0 0, .slice none 0 0], .int .i64 42]) (by simp [results, Tryz.results51, go_sem, ze0, ze1, ze2, ze3, ze4, ze5, ze6]) rfl ?_
    exact ⟨rfl, BE _ _ hB3 hs1, fun b hb => (BE _ _ hB3 hs1).block b hb⟩
end Go.Proofs.YtoabkbnhdekbdaaGreat
