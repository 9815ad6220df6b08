/-
  Tenants as answers: none; what is settled; a box that is stored into. No conditions.
-/
import Derived.Test.YtoabkbnhdekbdaaGreatRTES
import Derived.Test.YtoabkbnhdekbdaaGreatRUSI
import Derived.Test.YtoabkbnhdekbdaaGreatRSPF
import Derived.Test.YtoabkbnhdekbdaaGreatRTMB
import Derived.Test.YtoabkbnhdekbdaaGreatRTMA
import Derived.Test.YtoabkbnhdekbdaaGreatRRL
import Derived.Test.YtoabkbnhdekbdaaGreatRRSM
import Derived.LoopTactic
import Derived.BigQuiet
namespace Go.Proofs.YtoabkbnhdekbdaaGreat
open Go.ChangeShapes Go.WideShapes Go.ChangeAt Go.RowKit
set_option maxRecDepth 100000
def noM : MTenant := ⟨ByteArray.empty, 0, 0, ⟨none, [], 0⟩, ⟨none, [], 0⟩, ⟨none, [], 0⟩, ⟨none, [], 0⟩⟩
theorem noM_own (n : Nat) (W : World) : OwnTe n W noM := ⟨ownNone _ _ _ _, ownNone _ _ _ _, ownNone _ _ _ _, ownNone _ _ _ _, fun s hs => (by simp [noM] at hs), fun s hs => (by simp [noM] at hs)⟩
theorem slNone {α : Type} (W : World) (cells : α → List Value) (good : α → Prop) (b : Nat) : SlGood W cells good b ⟨none, [], 0⟩ := ⟨Rd.nil _ _, by simp, Nat.le_refl _, fun _ => rfl, by simp⟩
theorem noM_good (W : World) : noM.Good W := ⟨by decide, by decide, by decide, slNone _ _ _ _, slNone _ _ _ _, slNone _ _ _ _, slNone _ _ _ _⟩
def AnsT (w : World) (P : PTenant × Int) (e : Ending) (w' : World) : Prop := ∃ y : MTenant, e = .returned (.tuple #[.agg y.cells.toArray, .int .i64 P.2]) ∧ OwnTe w.heap.size w' y ∧ y.Good w' ∧ y.plain = P.1 ∧ Below w.heap.size w w'
theorem tenC_plain (x : MTenant) : tenC x = chgP x.plain := by
  unfold tenC chgP
  simp only [MTenant.plain, List.map_map]
  congr 2
  refine List.map_congr_left fun s _ => ?_
  simp only [setC, chgL, lineM, setN, Function.comp_apply, MSet.plain, List.map_append, List.map_map, List.map_cons, List.map_nil]
  rfl
def setlP (t : PTenant) : PTenant × Int := if wrap64 (chgP t) ≤ t.quota_ then (t, 0) else (noT, 42)
def setlM (x : MTenant) : MTenant := if wrap64 (chgP x.plain) ≤ x.quota_ then x else noM
theorem setlM_plain (x : MTenant) : (setlM x).plain = (setlP x.plain).1 := by
  unfold setlM setlP
  split
  · rw [if_pos (by assumption)]
  · rw [if_neg (by assumption)]
    rfl
theorem setlM_own {n : Nat} {W : World} {x : MTenant} (h : OwnTe n W x) : OwnTe n W (setlM x) := by
  unfold setlM
  split
  · exact h
  · exact noM_own _ _
theorem setlM_good {W : World} {x : MTenant} (h : x.Good W) : (setlM x).Good W := by
  unfold setlM
  split
  · exact h
  · exact noM_good _
theorem setl_pos {x : MTenant} (h : wrap64 (chgP x.plain) ≤ x.quota_) : setlM x = x ∧ (setlP x.plain).2 = 0 := ⟨if_pos h, by
  unfold setlP
  rw [if_pos (show wrap64 (chgP x.plain) ≤ x.plain.quota_ from h)]⟩
theorem setl_neg {x : MTenant} (h : ¬ wrap64 (chgP x.plain) ≤ x.quota_) : setlM x = noM ∧ (setlP x.plain).2 = 42 := ⟨if_neg h, by
  unfold setlP
  rw [if_neg (show ¬ wrap64 (chgP x.plain) ≤ x.plain.quota_ from h)]⟩
theorem setl_ok {t : PTenant} (h : okT t = true) : setlP t = settledP t := by
  unfold setlP settledP
  have := chgP_small h
  rw [show wrap64 (chgP t : Int) = chgP t by unfold wrap64; omega]
theorem Blk.all5 {W : World} {R : Nat} {t : TypeId} {v0 v1 v2 v3 v4 : Value} (h : Blk W R t [v0, v1, v2, v3, v4]) : W.cell? ⟨R, 0, none⟩ = some v0 ∧ W.cell? ⟨R, 1, none⟩ = some v1 ∧ W.cell? ⟨R, 2, none⟩ = some v2 ∧ W.cell? ⟨R, 3, none⟩ = some v3 ∧ W.cell? ⟨R, 4, none⟩ = some v4 := ⟨h.cell 0, h.cell 1, h.cell 2, h.cell 3, h.cell 4⟩
theorem Blk.all7 {W : World} {R : Nat} {t : TypeId} {v0 v1 v2 v3 v4 v5 v6 : Value} (h : Blk W R t [v0, v1, v2, v3, v4, v5, v6]) : W.cell? ⟨R, 0, none⟩ = some v0 ∧ W.cell? ⟨R, 1, none⟩ = some v1 ∧ W.cell? ⟨R, 2, none⟩ = some v2 ∧ W.cell? ⟨R, 3, none⟩ = some v3 ∧ W.cell? ⟨R, 4, none⟩ = some v4 ∧ W.cell? ⟨R, 5, none⟩ = some v5 ∧ W.cell? ⟨R, 6, none⟩ = some v6 := ⟨h.cell 0, h.cell 1, h.cell 2, h.cell 3, h.cell 4, h.cell 5, h.cell 6⟩
theorem Blk.fz7 {W : World} {R : Nat} {t : TypeId} {v0 v1 v2 v3 v4 v5 v6 : Value} (h : Blk W R t [v0, v1, v2, v3, v4, v5, v6]) : W.frozen? ⟨R, 0, none⟩ = false ∧ W.frozen? ⟨R, 1, none⟩ = false ∧ W.frozen? ⟨R, 2, none⟩ = false ∧ W.frozen? ⟨R, 3, none⟩ = false ∧ W.frozen? ⟨R, 4, none⟩ = false ∧ W.frozen? ⟨R, 5, none⟩ = false ∧ W.frozen? ⟨R, 6, none⟩ = false := ⟨h.frozen 0, h.frozen 1, h.frozen 2, h.frozen 3, h.frozen 4, h.frozen 5, h.frozen 6⟩
theorem store7 {W W' : World} {R : Nat} {c0 c1 c2 c3 c4 c5 c6 v0 v1 v2 v3 v4 v5 v6 : Value} (hb : Blk W R 27 [c0, c1, c2, c3, c4, c5, c6])
    (h : ((((((W.setCell ⟨R, 0, none⟩ v0).setCell ⟨R, 1, none⟩ v1).setCell ⟨R, 2, none⟩ v2).setCell ⟨R, 3, none⟩ v3).setCell ⟨R, 4, none⟩ v4).setCell ⟨R, 5, none⟩ v5).setCell ⟨R, 6, none⟩ v6 = W') :
    Blk W' R 27 [v0, v1, v2, v3, v4, v5, v6] ∧ (∀ b, b ≠ R → W'.heap[b]? = W.heap[b]?) ∧ W'.heap.size = W.heap.size ∧ ∀ (B : Nat) (w0 : World), Below B w0 W → B ≤ R → Below B w0 W' := by
  subst h
  refine ⟨((((((hb.set 0 v0).set 1 v1).set 2 v2).set 3 v3).set 4 v4).set 5 v5).set 6 v6, fun b hne => ?_, by simp [World.setCell], fun B w0 hB hR => ((((((hB.setCell (p := ⟨R, 0, none⟩) hR _).setCell (p := ⟨R, 1, none⟩) hR _).setCell (p := ⟨R, 2, none⟩) hR _).setCell (p := ⟨R, 3, none⟩) hR _).setCell (p := ⟨R, 4, none⟩) hR _).setCell (p := ⟨R, 5, none⟩) hR _).setCell (p := ⟨R, 6, none⟩) hR _⟩
  rw [heap_setCell_other _ ⟨R, 6, none⟩ b _ hne, heap_setCell_other _ ⟨R, 5, none⟩ b _ hne, heap_setCell_other _ ⟨R, 4, none⟩ b _ hne, heap_setCell_other _ ⟨R, 3, none⟩ b _ hne, heap_setCell_other _ ⟨R, 2, none⟩ b _ hne, heap_setCell_other _ ⟨R, 1, none⟩ b _ hne, heap_setCell_other _ ⟨R, 0, none⟩ b _ hne]
theorem OwnTe.base {n n' : Nat} {W : World} {y : MTenant} (h : OwnTe n W y) (hn : n' ≤ n) : OwnTe n' W y := ⟨ownBase h.sets hn, ownBase h.grants hn, ownBase h.stages hn, ownBase h.log hn, fun s hs => (h.eset s hs).base hn, fun s hs => (h.estage s hs).base hn⟩
theorem OwnTe.store {W W' : World} {R n : Nat} {y : MTenant} (h : OwnTe n W y) (hR : R < n) (hs : ∀ b, b ≠ R → W'.heap[b]? = W.heap[b]?) : OwnTe n W' y := h.stays fun b hb _ => hs b (by omega)
set_option linter.unusedSimpArgs false
theorem Blk.all12 {W : World} {R : Nat} {t : TypeId} {v0 v1 v2 v3 v4 v5 v6 v7 v8 v9 v10 v11 : Value} (h : Blk W R t [v0, v1, v2, v3, v4, v5, v6, v7, v8, v9, v10, v11]) : W.cell? ⟨R, 0, none⟩ = some v0 ∧ W.cell? ⟨R, 1, none⟩ = some v1 ∧ W.cell? ⟨R, 2, none⟩ = some v2 ∧ W.cell? ⟨R, 3, none⟩ = some v3 ∧ W.cell? ⟨R, 4, none⟩ = some v4 ∧ W.cell? ⟨R, 5, none⟩ = some v5 ∧ W.cell? ⟨R, 6, none⟩ = some v6 ∧ W.cell? ⟨R, 7, none⟩ = some v7 ∧ W.cell? ⟨R, 8, none⟩ = some v8 ∧ W.cell? ⟨R, 9, none⟩ = some v9 ∧ W.cell? ⟨R, 10, none⟩ = some v10 ∧ W.cell? ⟨R, 11, none⟩ = some v11 := ⟨h.cell 0, h.cell 1, h.cell 2, h.cell 3, h.cell 4, h.cell 5, h.cell 6, h.cell 7, h.cell 8, h.cell 9, h.cell 10, h.cell 11⟩
theorem Blk.fz12 {W : World} {R : Nat} {t : TypeId} {v0 v1 v2 v3 v4 v5 v6 v7 v8 v9 v10 v11 : Value} (h : Blk W R t [v0, v1, v2, v3, v4, v5, v6, v7, v8, v9, v10, v11]) : W.frozen? ⟨R, 0, none⟩ = false ∧ W.frozen? ⟨R, 1, none⟩ = false ∧ W.frozen? ⟨R, 2, none⟩ = false ∧ W.frozen? ⟨R, 3, none⟩ = false ∧ W.frozen? ⟨R, 4, none⟩ = false ∧ W.frozen? ⟨R, 5, none⟩ = false ∧ W.frozen? ⟨R, 6, none⟩ = false ∧ W.frozen? ⟨R, 7, none⟩ = false ∧ W.frozen? ⟨R, 8, none⟩ = false ∧ W.frozen? ⟨R, 9, none⟩ = false ∧ W.frozen? ⟨R, 10, none⟩ = false ∧ W.frozen? ⟨R, 11, none⟩ = false := ⟨h.frozen 0, h.frozen 1, h.frozen 2, h.frozen 3, h.frozen 4, h.frozen 5, h.frozen 6, h.frozen 7, h.frozen 8, h.frozen 9, h.frozen 10, h.frozen 11⟩
theorem storeRow {W W' : World} {R : Nat} {t : TypeId} : ∀ {C : List Value} (js : List (Nat × Value)) (_ : Blk W R t C) (_ : js.foldl (fun w e => w.setCell ⟨R, e.1, none⟩ e.2) W = W'), Blk W' R t (js.foldl (fun c e => c.set e.1 e.2) C) ∧ (∀ b, b ≠ R → W'.heap[b]? = W.heap[b]?) ∧ W'.heap.size = W.heap.size ∧ ∀ (B : Nat) (w0 : World), Below B w0 W → B ≤ R → Below B w0 W'
  | C, [], hb, h => by
    simp only [List.foldl_nil] at h
    subst h
    exact ⟨hb, fun _ _ => rfl, rfl, fun _ _ h _ => h⟩
  | C, e :: js, hb, h => by
    obtain ⟨h1, h2, h3, h4⟩ := storeRow js (hb.set e.1 e.2) h
    refine ⟨h1, fun b hne => (h2 b hne).trans (heap_setCell_other _ ⟨R, e.1, none⟩ b _ hne), by rw [h3]; simp [World.setCell], fun B w0 hB hR => h4 B w0 (hB.setCell (p := ⟨R, e.1, none⟩) hR _) hR⟩
abbrev placeC (i k : Int) (s : MSet) (y : MSnap) : List Value := [.int .i64 i, .int .i64 k, .string s.path_, .string s.origin_, .slice s.body_.A s.body_.l.length s.body_.c, .slice s.snaps_.A s.snaps_.l.length s.snaps_.c, .slice s.own_.A s.own_.l.length s.own_.c, .string y.name_, .int .i64 y.guid_, .slice y.body_.A y.body_.l.length y.body_.c, .slice y.tags_.A y.tags_.l.length y.tags_.c, .slice y.own_.A y.own_.l.length y.own_.c]
set_option maxHeartbeats 4000000 in
theorem find17_any (x : MTenant) (p n : ByteArray) (w : World) (hx : x.Good w) :
    Calls Tryz.prog 72 #[.agg x.cells.toArray, .string p, .string n] w fun e w' => e = .returned (.agg (placeC (findM x p) (atN x p n) (atS x p) (atY x p n)).toArray) ∧ Below w.heap.size w w' := by
  obtain ⟨a1, hw1⟩ : ∃ a1, w.alloc (.cells #[.string x.name_, .int .i64 x.quota_, .int .i64 x.next_, .slice x.sets_.A x.sets_.l.length x.sets_.c, .slice x.grants_.A x.grants_.l.length x.grants_.c, .slice x.stages_.A x.stages_.l.length x.stages_.c, .slice x.log_.A x.log_.l.length x.log_.c] 27) = a1 := ⟨_, rfl⟩
  have b1 : Below w.heap.size w a1 := hw1 ▸ (Below.refl _ w).alloc (Nat.le_refl _) _
  have k1 : Blk a1 w.heap.size 27 [.string x.name_, .int .i64 x.quota_, .int .i64 x.next_, .slice x.sets_.A x.sets_.l.length x.sets_.c, .slice x.grants_.A x.grants_.l.length x.grants_.c, .slice x.stages_.A x.stages_.l.length x.stages_.c, .slice x.log_.A x.log_.l.length x.log_.c] := hw1 ▸ Blk.new w _ _
  obtain ⟨a2, hw2⟩ : ∃ a2, a1.alloc (.cells #[.int .i64 0, .int .i64 0, .string ⟨#[]⟩, .string ⟨#[]⟩, .slice none 0 0, .slice none 0 0, .slice none 0 0, .string ⟨#[]⟩, .int .i64 0, .slice none 0 0, .slice none 0 0, .slice none 0 0] 114) = a2 := ⟨_, rfl⟩
  have b2 : Below a1.heap.size a1 a2 := hw2 ▸ (Below.refl _ a1).alloc (Nat.le_refl _) _
  have k2 : Blk a2 a1.heap.size 114 [.int .i64 0, .int .i64 0, .string ⟨#[]⟩, .string ⟨#[]⟩, .slice none 0 0, .slice none 0 0, .slice none 0 0, .string ⟨#[]⟩, .int .i64 0, .slice none 0 0, .slice none 0 0, .slice none 0 0] := hw2 ▸ Blk.new a1 _ _
  have hX2 : w.heap.size + 1 = a1.heap.size := by rw [← hw1, World.size_alloc]
  have hB1 : Below w.heap.size w a1 := b1
  have hB2 : Below w.heap.size w a2 := hB1.trans (b2.mono hB1.size)
  have k1 := k1.of b2
  have hs2 := hB2.size
  have hs1 := hB1.size
  have ht1 : a1.heap.size ≤ a2.heap.size := b2.size
  have HW1 := Lib.hid hw1
  have HW2 := Lib.hid hw2
  clear hw1 b1 hw2 b2
  have hx2 := hx.below hB2
  have HF := Lib.hid (find_any x p a2 hx2)
  have HG := Lib.hid hx2
  have hlk1 := k1.lt
  have hlk2 := k2.lt
  obtain ⟨q0, q1, q2, q3, q4, q5, q6⟩ := k1.all7
  rcases place_ways17 x p n with ⟨hF, hS, hN, hY, -⟩ | ⟨j, s, hF, hj, -, hS, hN, hY, -, -, -, hM⟩ | ⟨j, s, k, y, hF, hj, -, hS, hN, hk, -, hY, -, -, -, hM, -⟩
  · rw [hF, hS, hN, hY]
    rw [hF] at HF
    clear hF hS hN hY hx hx2
    go_enter Tryz.func72, Tryz.ntmps72
    go_upto_region 1 with fail
    rw [HW1.out, HW2.out]
    try rw [hX2]
    go_wp2_with fail
    refine HF.out.mono ?_
    rintro e w3 ⟨rfl, hV⟩
    have K1 := k1.of hV
    have K2 := k2.of hV
    have hs3 := hV.size
    have hB3 := hB2.trans (hV.mono hs2)
    have HG3 := Lib.hid (HG.out.below hV)
    obtain ⟨w4, hw4⟩ : ∃ w4, w3.alloc (.cells #[.int .i64 (-1), .int .i64 (-1), .string ⟨#[]⟩, .string ⟨#[]⟩, .slice none 0 0, .slice none 0 0, .slice none 0 0, .string ⟨#[]⟩, .int .i64 0, .slice none 0 0, .slice none 0 0, .slice none 0 0] 114) = w4 := ⟨_, rfl⟩
    have hV4 : Below w3.heap.size w3 w4 := hw4 ▸ (Below.refl _ w3).alloc (Nat.le_refl _) _
    have kP : Blk w4 w3.heap.size 114 [.int .i64 (-1), .int .i64 (-1), .string ⟨#[]⟩, .string ⟨#[]⟩, .slice none 0 0, .slice none 0 0, .slice none 0 0, .string ⟨#[]⟩, .int .i64 0, .slice none 0 0, .slice none 0 0, .slice none 0 0] := hw4 ▸ Blk.new w3 _ _
    have hsz4 : w4.heap.size = w3.heap.size + 1 := by rw [← hw4, World.size_alloc]
    have K1 := K1.of hV4
    have K2 := K2.of hV4
    have HG4 := Lib.hid (HG3.out.below hV4)
    have hB4 := hB3.trans (hV4.mono hB3.size)
    have HW4 := Lib.hid hw4
    clear hw4
    go_upto_region 2 with fail
    rw [HW4.out]
    obtain ⟨c0, c1, c2, c3, c4, c5, c6, c7, c8, c9, c10, c11⟩ := kP.all12
    obtain ⟨r0, r1, r2, r3, r4, r5, r6, r7, r8, r9, r10, r11⟩ := K2.all12
    obtain ⟨rf0, rf1, rf2, rf3, rf4, rf5, rf6, rf7, rf8, rf9, rf10, rf11⟩ := K2.fz12
    go_wp2
    generalize hwE : World.setCell _ ⟨a1.heap.size, 11, none⟩ _ = wE
    obtain ⟨KE, SE, ZE, BE⟩ := storeRow [(0, .int .i64 (-1)), (1, .int .i64 (-1)), (2, .string ⟨#[]⟩), (3, .string ⟨#[]⟩), (4, .slice none 0 0), (5, .slice none 0 0), (6, .slice none 0 0), (7, .string ⟨#[]⟩), (8, .int .i64 0), (9, .slice none 0 0), (10, .slice none 0 0), (11, .slice none 0 0)] K2 hwE
    simp only [List.foldl_cons, List.foldl_nil, List.set_cons_zero, List.set_cons_succ] at KE
    obtain ⟨ze0, ze1, ze2, ze3, ze4, ze5, ze6, ze7, ze8, ze9, ze10, ze11⟩ := KE.all12
    refine bodyPost_ret (v := .agg #[.int .i64 (-1), .int .i64 (-1), .string ⟨#[]⟩, .string ⟨#[]⟩, .slice none 0 0, .slice none 0 0, .slice none 0 0, .string ⟨#[]⟩, .int .i64 0, .slice none 0 0, .slice none 0 0, .slice none 0 0]) (by simp [results, Tryz.results72, go_sem, ze0, ze1, ze2, ze3, ze4, ze5, ze6, ze7, ze8, ze9, ze10, ze11]) rfl ?_
    exact ⟨rfl, BE _ _ hB4 hs1⟩
  · rw [hF, hS, hN, hY]
    rw [hF] at HF
    have HJ := Lib.hid hj
    have HM := Lib.hid hM
    have hjl : j < x.sets_.l.length := (List.getElem?_eq_some_iff.1 hj).1
    have hjm : x.sets_.l.length * 104 ≤ 140737488351232 := hx.gsets_.len
    clear hF hS hN hY hx hx2 hj hM
    go_enter Tryz.func72, Tryz.ntmps72
    go_upto_region 1 with fail
    rw [HW1.out, HW2.out]
    try rw [hX2]
    go_wp2_with fail
    refine HF.out.mono ?_
    rintro e w3 ⟨rfl, hV⟩
    have K1 := k1.of hV
    have K2 := k2.of hV
    have hs3 := hV.size
    have hB3 := hB2.trans (hV.mono hs2)
    have HG3 := Lib.hid (HG.out.below hV)
    obtain ⟨w4, hw4⟩ : ∃ w4, w3.alloc (.cells #[.int .i64 j, .int .i64 (-1), .string ⟨#[]⟩, .string ⟨#[]⟩, .slice none 0 0, .slice none 0 0, .slice none 0 0, .string ⟨#[]⟩, .int .i64 0, .slice none 0 0, .slice none 0 0, .slice none 0 0] 114) = w4 := ⟨_, rfl⟩
    have hV4 : Below w3.heap.size w3 w4 := hw4 ▸ (Below.refl _ w3).alloc (Nat.le_refl _) _
    have kP : Blk w4 w3.heap.size 114 [.int .i64 j, .int .i64 (-1), .string ⟨#[]⟩, .string ⟨#[]⟩, .slice none 0 0, .slice none 0 0, .slice none 0 0, .string ⟨#[]⟩, .int .i64 0, .slice none 0 0, .slice none 0 0, .slice none 0 0] := hw4 ▸ Blk.new w3 _ _
    have hsz4 : w4.heap.size = w3.heap.size + 1 := by rw [← hw4, World.size_alloc]
    have K1 := K1.of hV4
    have K2 := K2.of hV4
    have HG4 := Lib.hid (HG3.out.below hV4)
    have hB4 := hB3.trans (hV4.mono hB3.size)
    have HW4 := Lib.hid hw4
    clear hw4
    obtain ⟨b, off, hA, hb, hcc⟩ := Rd.elem (n := 5) (fun _ => rfl) (by omega) HG4.out.gsets_.rd HJ.out
    have d0 : w4.cell? ⟨b, off + j * 5, none⟩ = some (.string s.path_) := hcc 0 _ rfl
    have d1 : w4.cell? ⟨b, off + j * 5 + 1, none⟩ = some (.string s.origin_) := hcc 1 _ rfl
    have d2 : w4.cell? ⟨b, off + j * 5 + 2, none⟩ = some (.slice s.body_.A s.body_.l.length s.body_.c) := hcc 2 _ rfl
    have d3 : w4.cell? ⟨b, off + j * 5 + 3, none⟩ = some (.slice s.snaps_.A s.snaps_.l.length s.snaps_.c) := hcc 3 _ rfl
    have d4 : w4.cell? ⟨b, off + j * 5 + 4, none⟩ = some (.slice s.own_.A s.own_.l.length s.own_.c) := hcc 4 _ rfl
    obtain ⟨t0, t1, t2, t3, t4, t5, t6⟩ := K1.all7
    rw [hA] at t3
    clear hcc hA
    obtain ⟨c0, c1, c2, c3, c4, c5, c6, c7, c8, c9, c10, c11⟩ := kP.all12
    obtain ⟨cf0, cf1, cf2, cf3, cf4, cf5, cf6, cf7, cf8, cf9, cf10, cf11⟩ := kP.fz12
    go_upto_region 2 with fail
    rw [HW4.out]
    go_upto_region 5 with fail
    generalize hw5 : World.setCell _ ⟨w3.heap.size, 6, none⟩ _ = w5
    obtain ⟨kP5, S5, Z5, B5⟩ := storeRow [(2, .string s.path_), (3, .string s.origin_), (4, .slice s.body_.A s.body_.l.length s.body_.c), (5, .slice s.snaps_.A s.snaps_.l.length s.snaps_.c), (6, .slice s.own_.A s.own_.l.length s.own_.c)] kP hw5
    simp only [List.foldl_cons, List.foldl_nil, List.set_cons_zero, List.set_cons_succ] at kP5
    have hne1 : w.heap.size ≠ w3.heap.size := by have := K1.lt; omega
    have hne2 : a1.heap.size ≠ w3.heap.size := by omega
    have K1 : Blk w5 w.heap.size 27 [.string x.name_, .int .i64 x.quota_, .int .i64 x.next_, .slice x.sets_.A x.sets_.l.length x.sets_.c, .slice x.grants_.A x.grants_.l.length x.grants_.c, .slice x.stages_.A x.stages_.l.length x.stages_.c, .slice x.log_.A x.log_.l.length x.log_.c] := (S5 _ hne1).trans K1
    have K2 : Blk w5 a1.heap.size 114 [.int .i64 0, .int .i64 0, .string ⟨#[]⟩, .string ⟨#[]⟩, .slice none 0 0, .slice none 0 0, .slice none 0 0, .string ⟨#[]⟩, .int .i64 0, .slice none 0 0, .slice none 0 0, .slice none 0 0] := (S5 _ hne2).trans K2
    have hB5 : Below w.heap.size w w5 := B5 _ _ hB4 (by omega)
    have hV5 : Below w3.heap.size w3 w5 := B5 _ _ hV4 (Nat.le_refl _)
    have hs5 := hB5.size
    have HG5 := Lib.hid (HG3.out.below hV5)
    have HS5 := Lib.hid (snap_any s n w5 (HG5.out.gsets_.el s (List.mem_of_getElem? HJ.out)).gsnaps_)
    rw [HM.out] at HS5
    clear c0 c1 c2 c3 c4 c5 c6 c7 c8 c9 c10 c11 cf0 cf1 cf2 cf3 cf4 cf5 cf6 cf7 cf8 cf9 cf10 cf11 d0 d1 d2 d3 d4 t0 t1 t2 t3 t4 t5 t6 hw5
    obtain ⟨c0, c1, c2, c3, c4, c5, c6, c7, c8, c9, c10, c11⟩ := kP5.all12
    obtain ⟨cf0, cf1, cf2, cf3, cf4, cf5, cf6, cf7, cf8, cf9, cf10, cf11⟩ := kP5.fz12
    go_wp2_with fail
    refine HS5.out.mono ?_
    rintro e w6 ⟨rfl, hV6⟩
    have kP6 := kP5.of hV6
    have K1 := K1.of hV6
    have K2 := K2.of hV6
    have hB6 := hB5.trans (hV6.mono hs5)
    have hs6 := hV6.size
    have hV36 := hV5.trans (hV6.mono hV5.size)
    have HG6 := Lib.hid (HG3.out.below hV36)
    clear c0 c1 c2 c3 c4 c5 c6 c7 c8 c9 c10 c11 cf0 cf1 cf2 cf3 cf4 cf5 cf6 cf7 cf8 cf9 cf10 cf11
    obtain ⟨c0, c1, c2, c3, c4, c5, c6, c7, c8, c9, c10, c11⟩ := kP6.all12
    obtain ⟨cf0, cf1, cf2, cf3, cf4, cf5, cf6, cf7, cf8, cf9, cf10, cf11⟩ := kP6.fz12
    go_upto_region 8 with fail
    generalize hw7 : World.setCell _ ⟨w3.heap.size, 1, none⟩ _ = w7
    obtain ⟨kP7, S7, Z7, B7⟩ := storeRow [(1, .int .i64 (-1))] kP6 hw7
    simp only [List.foldl_cons, List.foldl_nil, List.set_cons_zero, List.set_cons_succ] at kP7
    have K2 : Blk w7 a1.heap.size 114 [.int .i64 0, .int .i64 0, .string ⟨#[]⟩, .string ⟨#[]⟩, .slice none 0 0, .slice none 0 0, .slice none 0 0, .string ⟨#[]⟩, .int .i64 0, .slice none 0 0, .slice none 0 0, .slice none 0 0] := (S7 _ hne2).trans K2
    have hB7 : Below w.heap.size w w7 := B7 _ _ hB6 (by omega)
    clear hw7 c0 c1 c2 c3 c4 c5 c6 c7 c8 c9 c10 c11 cf0 cf1 cf2 cf3 cf4 cf5 cf6 cf7 cf8 cf9 cf10 cf11
    obtain ⟨c0, c1, c2, c3, c4, c5, c6, c7, c8, c9, c10, c11⟩ := kP7.all12
    obtain ⟨r0, r1, r2, r3, r4, r5, r6, r7, r8, r9, r10, r11⟩ := K2.all12
    obtain ⟨rf0, rf1, rf2, rf3, rf4, rf5, rf6, rf7, rf8, rf9, rf10, rf11⟩ := K2.fz12
    go_wp2
    generalize hwE : World.setCell _ ⟨a1.heap.size, 11, none⟩ _ = wE
    obtain ⟨KE, SE, ZE, BE⟩ := storeRow [(0, .int .i64 j), (1, .int .i64 (-1)), (2, .string s.path_), (3, .string s.origin_), (4, .slice s.body_.A s.body_.l.length s.body_.c), (5, .slice s.snaps_.A s.snaps_.l.length s.snaps_.c), (6, .slice s.own_.A s.own_.l.length s.own_.c), (7, .string ⟨#[]⟩), (8, .int .i64 0), (9, .slice none 0 0), (10, .slice none 0 0), (11, .slice none 0 0)] K2 hwE
    simp only [List.foldl_cons, List.foldl_nil, List.set_cons_zero, List.set_cons_succ] at KE
    obtain ⟨ze0, ze1, ze2, ze3, ze4, ze5, ze6, ze7, ze8, ze9, ze10, ze11⟩ := KE.all12
    refine bodyPost_ret (v := .agg #[.int .i64 j, .int .i64 (-1), .string s.path_, .string s.origin_, .slice s.body_.A s.body_.l.length s.body_.c, .slice s.snaps_.A s.snaps_.l.length s.snaps_.c, .slice s.own_.A s.own_.l.length s.own_.c, .string ⟨#[]⟩, .int .i64 0, .slice none 0 0, .slice none 0 0, .slice none 0 0]) (by simp [results, Tryz.results72, go_sem, ze0, ze1, ze2, ze3, ze4, ze5, ze6, ze7, ze8, ze9, ze10, ze11]) rfl ?_
    exact ⟨rfl, BE _ _ hB7 hs1⟩
  · rw [hF, hS, hN, hY]
    rw [hF] at HF
    have HJ := Lib.hid hj
    have HM := Lib.hid hM
    have HK := Lib.hid hk
    have hjl : j < x.sets_.l.length := (List.getElem?_eq_some_iff.1 hj).1
    have hkl : k < s.snaps_.l.length := (List.getElem?_eq_some_iff.1 hk).1
    have hjm : x.sets_.l.length * 104 ≤ 140737488351232 := hx.gsets_.len
    have hkm : s.snaps_.l.length * 96 ≤ 140737488351232 := (hx.gsets_.el s (List.mem_of_getElem? hj)).gsnaps_.len
    clear hF hS hN hY hx hx2 hj hM hk
    go_enter Tryz.func72, Tryz.ntmps72
    go_upto_region 1 with fail
    rw [HW1.out, HW2.out]
    try rw [hX2]
    go_wp2_with fail
    refine HF.out.mono ?_
    rintro e w3 ⟨rfl, hV⟩
    have K1 := k1.of hV
    have K2 := k2.of hV
    have hs3 := hV.size
    have hB3 := hB2.trans (hV.mono hs2)
    have HG3 := Lib.hid (HG.out.below hV)
    obtain ⟨w4, hw4⟩ : ∃ w4, w3.alloc (.cells #[.int .i64 j, .int .i64 (-1), .string ⟨#[]⟩, .string ⟨#[]⟩, .slice none 0 0, .slice none 0 0, .slice none 0 0, .string ⟨#[]⟩, .int .i64 0, .slice none 0 0, .slice none 0 0, .slice none 0 0] 114) = w4 := ⟨_, rfl⟩
    have hV4 : Below w3.heap.size w3 w4 := hw4 ▸ (Below.refl _ w3).alloc (Nat.le_refl _) _
    have kP : Blk w4 w3.heap.size 114 [.int .i64 j, .int .i64 (-1), .string ⟨#[]⟩, .string ⟨#[]⟩, .slice none 0 0, .slice none 0 0, .slice none 0 0, .string ⟨#[]⟩, .int .i64 0, .slice none 0 0, .slice none 0 0, .slice none 0 0] := hw4 ▸ Blk.new w3 _ _
    have hsz4 : w4.heap.size = w3.heap.size + 1 := by rw [← hw4, World.size_alloc]
    have K1 := K1.of hV4
    have K2 := K2.of hV4
    have HG4 := Lib.hid (HG3.out.below hV4)
    have hB4 := hB3.trans (hV4.mono hB3.size)
    have HW4 := Lib.hid hw4
    clear hw4
    obtain ⟨b, off, hA, hb, hcc⟩ := Rd.elem (n := 5) (fun _ => rfl) (by omega) HG4.out.gsets_.rd HJ.out
    have d0 : w4.cell? ⟨b, off + j * 5, none⟩ = some (.string s.path_) := hcc 0 _ rfl
    have d1 : w4.cell? ⟨b, off + j * 5 + 1, none⟩ = some (.string s.origin_) := hcc 1 _ rfl
    have d2 : w4.cell? ⟨b, off + j * 5 + 2, none⟩ = some (.slice s.body_.A s.body_.l.length s.body_.c) := hcc 2 _ rfl
    have d3 : w4.cell? ⟨b, off + j * 5 + 3, none⟩ = some (.slice s.snaps_.A s.snaps_.l.length s.snaps_.c) := hcc 3 _ rfl
    have d4 : w4.cell? ⟨b, off + j * 5 + 4, none⟩ = some (.slice s.own_.A s.own_.l.length s.own_.c) := hcc 4 _ rfl
    obtain ⟨t0, t1, t2, t3, t4, t5, t6⟩ := K1.all7
    rw [hA] at t3
    clear hcc hA
    obtain ⟨c0, c1, c2, c3, c4, c5, c6, c7, c8, c9, c10, c11⟩ := kP.all12
    obtain ⟨cf0, cf1, cf2, cf3, cf4, cf5, cf6, cf7, cf8, cf9, cf10, cf11⟩ := kP.fz12
    go_upto_region 2 with fail
    rw [HW4.out]
    go_upto_region 5 with fail
    generalize hw5 : World.setCell _ ⟨w3.heap.size, 6, none⟩ _ = w5
    obtain ⟨kP5, S5, Z5, B5⟩ := storeRow [(2, .string s.path_), (3, .string s.origin_), (4, .slice s.body_.A s.body_.l.length s.body_.c), (5, .slice s.snaps_.A s.snaps_.l.length s.snaps_.c), (6, .slice s.own_.A s.own_.l.length s.own_.c)] kP hw5
    simp only [List.foldl_cons, List.foldl_nil, List.set_cons_zero, List.set_cons_succ] at kP5
    have hne1 : w.heap.size ≠ w3.heap.size := by have := K1.lt; omega
    have hne2 : a1.heap.size ≠ w3.heap.size := by omega
    have K1 : Blk w5 w.heap.size 27 [.string x.name_, .int .i64 x.quota_, .int .i64 x.next_, .slice x.sets_.A x.sets_.l.length x.sets_.c, .slice x.grants_.A x.grants_.l.length x.grants_.c, .slice x.stages_.A x.stages_.l.length x.stages_.c, .slice x.log_.A x.log_.l.length x.log_.c] := (S5 _ hne1).trans K1
    have K2 : Blk w5 a1.heap.size 114 [.int .i64 0, .int .i64 0, .string ⟨#[]⟩, .string ⟨#[]⟩, .slice none 0 0, .slice none 0 0, .slice none 0 0, .string ⟨#[]⟩, .int .i64 0, .slice none 0 0, .slice none 0 0, .slice none 0 0] := (S5 _ hne2).trans K2
    have hB5 : Below w.heap.size w w5 := B5 _ _ hB4 (by omega)
    have hV5 : Below w3.heap.size w3 w5 := B5 _ _ hV4 (Nat.le_refl _)
    have hs5 := hB5.size
    have HG5 := Lib.hid (HG3.out.below hV5)
    have HS5 := Lib.hid (snap_any s n w5 (HG5.out.gsets_.el s (List.mem_of_getElem? HJ.out)).gsnaps_)
    rw [HM.out] at HS5
    clear c0 c1 c2 c3 c4 c5 c6 c7 c8 c9 c10 c11 cf0 cf1 cf2 cf3 cf4 cf5 cf6 cf7 cf8 cf9 cf10 cf11 d0 d1 d2 d3 d4 t0 t1 t2 t3 t4 t5 t6 hw5
    obtain ⟨c0, c1, c2, c3, c4, c5, c6, c7, c8, c9, c10, c11⟩ := kP5.all12
    obtain ⟨cf0, cf1, cf2, cf3, cf4, cf5, cf6, cf7, cf8, cf9, cf10, cf11⟩ := kP5.fz12
    go_wp2_with fail
    refine HS5.out.mono ?_
    rintro e w6 ⟨rfl, hV6⟩
    have kP6 := kP5.of hV6
    have K1 := K1.of hV6
    have K2 := K2.of hV6
    have hB6 := hB5.trans (hV6.mono hs5)
    have hs6 := hV6.size
    have hV36 := hV5.trans (hV6.mono hV5.size)
    have HG6 := Lib.hid (HG3.out.below hV36)
    clear c0 c1 c2 c3 c4 c5 c6 c7 c8 c9 c10 c11 cf0 cf1 cf2 cf3 cf4 cf5 cf6 cf7 cf8 cf9 cf10 cf11
    obtain ⟨c0, c1, c2, c3, c4, c5, c6, c7, c8, c9, c10, c11⟩ := kP6.all12
    obtain ⟨cf0, cf1, cf2, cf3, cf4, cf5, cf6, cf7, cf8, cf9, cf10, cf11⟩ := kP6.fz12
    go_upto_region 6 with fail
    generalize hw7 : World.setCell _ ⟨w3.heap.size, 1, none⟩ _ = w7
    obtain ⟨kP7, S7, Z7, B7⟩ := storeRow [(1, .int .i64 k)] kP6 hw7
    simp only [List.foldl_cons, List.foldl_nil, List.set_cons_zero, List.set_cons_succ] at kP7
    have K2 : Blk w7 a1.heap.size 114 [.int .i64 0, .int .i64 0, .string ⟨#[]⟩, .string ⟨#[]⟩, .slice none 0 0, .slice none 0 0, .slice none 0 0, .string ⟨#[]⟩, .int .i64 0, .slice none 0 0, .slice none 0 0, .slice none 0 0] := (S7 _ hne2).trans K2
    have hB7 : Below w.heap.size w w7 := B7 _ _ hB6 (by omega)
    have hV7 : Below w3.heap.size w3 w7 := B7 _ _ hV36 (Nat.le_refl _)
    have HG7 := Lib.hid (HG3.out.below hV7)
    clear hw7 c0 c1 c2 c3 c4 c5 c6 c7 c8 c9 c10 c11 cf0 cf1 cf2 cf3 cf4 cf5 cf6 cf7 cf8 cf9 cf10 cf11
    obtain ⟨c0, c1, c2, c3, c4, c5, c6, c7, c8, c9, c10, c11⟩ := kP7.all12
    obtain ⟨cf0, cf1, cf2, cf3, cf4, cf5, cf6, cf7, cf8, cf9, cf10, cf11⟩ := kP7.fz12
    obtain ⟨b2, off2, hA2, hb2, hcc2⟩ := Rd.elem (n := 5) (fun _ => rfl) (by omega) (HG7.out.gsets_.el s (List.mem_of_getElem? HJ.out)).gsnaps_.rd HK.out
    have d0 : w7.cell? ⟨b2, off2 + k * 5, none⟩ = some (.string y.name_) := hcc2 0 _ rfl
    have d1 : w7.cell? ⟨b2, off2 + k * 5 + 1, none⟩ = some (.int .i64 y.guid_) := hcc2 1 _ rfl
    have d2 : w7.cell? ⟨b2, off2 + k * 5 + 2, none⟩ = some (.slice y.body_.A y.body_.l.length y.body_.c) := hcc2 2 _ rfl
    have d3 : w7.cell? ⟨b2, off2 + k * 5 + 3, none⟩ = some (.slice y.tags_.A y.tags_.l.length y.tags_.c) := hcc2 3 _ rfl
    have d4 : w7.cell? ⟨b2, off2 + k * 5 + 4, none⟩ = some (.slice y.own_.A y.own_.l.length y.own_.c) := hcc2 4 _ rfl
    rw [hA2] at c5
    clear hcc2
    go_upto_region 8 with fail
    generalize hw8 : World.setCell _ ⟨w3.heap.size, 11, none⟩ _ = w8
    obtain ⟨kP8, S8, Z8, B8⟩ := storeRow [(7, .string y.name_), (8, .int .i64 y.guid_), (9, .slice y.body_.A y.body_.l.length y.body_.c), (10, .slice y.tags_.A y.tags_.l.length y.tags_.c), (11, .slice y.own_.A y.own_.l.length y.own_.c)] kP7 hw8
    simp only [List.foldl_cons, List.foldl_nil, List.set_cons_zero, List.set_cons_succ] at kP8
    have K2 : Blk w8 a1.heap.size 114 [.int .i64 0, .int .i64 0, .string ⟨#[]⟩, .string ⟨#[]⟩, .slice none 0 0, .slice none 0 0, .slice none 0 0, .string ⟨#[]⟩, .int .i64 0, .slice none 0 0, .slice none 0 0, .slice none 0 0] := (S8 _ hne2).trans K2
    have hB8 : Below w.heap.size w w8 := B8 _ _ hB7 (by omega)
    clear hw8 c0 c1 c2 c3 c4 c5 c6 c7 c8 c9 c10 c11 cf0 cf1 cf2 cf3 cf4 cf5 cf6 cf7 cf8 cf9 cf10 cf11 d0 d1 d2 d3 d4
    obtain ⟨c0, c1, c2, c3, c4, c5, c6, c7, c8, c9, c10, c11⟩ := kP8.all12
    obtain ⟨r0, r1, r2, r3, r4, r5, r6, r7, r8, r9, r10, r11⟩ := K2.all12
    obtain ⟨rf0, rf1, rf2, rf3, rf4, rf5, rf6, rf7, rf8, rf9, rf10, rf11⟩ := K2.fz12
    go_wp2
    generalize hwE : World.setCell _ ⟨a1.heap.size, 11, none⟩ _ = wE
    obtain ⟨KE, SE, ZE, BE⟩ := storeRow [(0, .int .i64 j), (1, .int .i64 k), (2, .string s.path_), (3, .string s.origin_), (4, .slice s.body_.A s.body_.l.length s.body_.c), (5, .slice (some ⟨b2, off2, none⟩) s.snaps_.l.length s.snaps_.c), (6, .slice s.own_.A s.own_.l.length s.own_.c), (7, .string y.name_), (8, .int .i64 y.guid_), (9, .slice y.body_.A y.body_.l.length y.body_.c), (10, .slice y.tags_.A y.tags_.l.length y.tags_.c), (11, .slice y.own_.A y.own_.l.length y.own_.c)] K2 hwE
    simp only [List.foldl_cons, List.foldl_nil, List.set_cons_zero, List.set_cons_succ] at KE
    obtain ⟨ze0, ze1, ze2, ze3, ze4, ze5, ze6, ze7, ze8, ze9, ze10, ze11⟩ := KE.all12
    refine bodyPost_ret (v := .agg #[.int .i64 j, .int .i64 k, .string s.path_, .string s.origin_, .slice s.body_.A s.body_.l.length s.body_.c, .slice (some ⟨b2, off2, none⟩) s.snaps_.l.length s.snaps_.c, .slice s.own_.A s.own_.l.length s.own_.c, .string y.name_, .int .i64 y.guid_, .slice y.body_.A y.body_.l.length y.body_.c, .slice y.tags_.A y.tags_.l.length y.tags_.c, .slice y.own_.A y.own_.l.length y.own_.c]) (by simp [results, Tryz.results72, go_sem, ze0, ze1, ze2, ze3, ze4, ze5, ze6, ze7, ze8, ze9, ze10, ze11]) rfl ?_
    exact ⟨by unfold placeC; rw [hA2], BE _ _ hB8 hs1⟩
def guidM (x : MTenant) (s : MSet) : Int := match s.snaps_.l.getLast? with
  | none => x.next_
  | some z => max x.next_ (IntKind.i64.wrap (z.guid_ + 1))
set_option maxHeartbeats 2000000 in
theorem newGuid_any (x : MTenant) (s : MSet) (w : World) (hs : s.Good w) :
    Calls Tryz.prog 73 #[.agg x.cells.toArray, .agg s.cells.toArray] w fun e w' => e = .returned (.int .i64 (guidM x s)) ∧ Below w.heap.size w w' := by
  obtain ⟨a1, hw1⟩ : ∃ a1, w.alloc (.cells #[.string x.name_, .int .i64 x.quota_, .int .i64 x.next_, .slice x.sets_.A x.sets_.l.length x.sets_.c, .slice x.grants_.A x.grants_.l.length x.grants_.c, .slice x.stages_.A x.stages_.l.length x.stages_.c, .slice x.log_.A x.log_.l.length x.log_.c] 27) = a1 := ⟨_, rfl⟩
  have b1 : Below w.heap.size w a1 := hw1 ▸ (Below.refl _ w).alloc (Nat.le_refl _) _
  have k1 : Blk a1 w.heap.size 27 [.string x.name_, .int .i64 x.quota_, .int .i64 x.next_, .slice x.sets_.A x.sets_.l.length x.sets_.c, .slice x.grants_.A x.grants_.l.length x.grants_.c, .slice x.stages_.A x.stages_.l.length x.stages_.c, .slice x.log_.A x.log_.l.length x.log_.c] := hw1 ▸ Blk.new w _ _
  obtain ⟨a2, hw2⟩ : ∃ a2, a1.alloc (.cells #[.string s.path_, .string s.origin_, .slice s.body_.A s.body_.l.length s.body_.c, .slice s.snaps_.A s.snaps_.l.length s.snaps_.c, .slice s.own_.A s.own_.l.length s.own_.c] 49) = a2 := ⟨_, rfl⟩
  have b2 : Below a1.heap.size a1 a2 := hw2 ▸ (Below.refl _ a1).alloc (Nat.le_refl _) _
  have k2 : Blk a2 a1.heap.size 49 [.string s.path_, .string s.origin_, .slice s.body_.A s.body_.l.length s.body_.c, .slice s.snaps_.A s.snaps_.l.length s.snaps_.c, .slice s.own_.A s.own_.l.length s.own_.c] := hw2 ▸ Blk.new a1 _ _
  have hX2 : w.heap.size + 1 = a1.heap.size := by rw [← hw1, World.size_alloc]
  have hB1 : Below w.heap.size w a1 := b1
  have hB2 : Below w.heap.size w a2 := hB1.trans (b2.mono hB1.size)
  have k1 := k1.of b2
  have hs2 := hB2.size
  have hs1 := hB1.size
  have ht1 : a1.heap.size ≤ a2.heap.size := b2.size
  have HW1 := Lib.hid hw1
  have HW2 := Lib.hid hw2
  clear hw1 b1 hw2 b2
  have hlen := hs.gsnaps_.len
  rcases hl : s.snaps_.l.getLast? with _ | z
  · have hn : s.snaps_.l.length = 0 := by rw [List.getLast?_eq_none_iff.1 hl]; rfl
    rw [show guidM x s = x.next_ by unfold guidM; rw [hl]]
    clear hl hlen hs
    obtain ⟨t0, t1, t2, t3, t4, t5, t6⟩ := k1.all7
    obtain ⟨u0, u1, u2, u3, u4⟩ := k2.all5
    rw [hn] at u3
    go_enter Tryz.func73, Tryz.ntmps73
    go_upto_region 1 with fail
    rw [HW1.out, HW2.out]
    try rw [hX2]
    go_wp2
    go_ret
    exact ⟨rfl, hB2⟩
  · have hz : s.snaps_.l[s.snaps_.l.length - 1]? = some z := by rw [← List.getLast?_eq_getElem?]; exact hl
    have hpos : 0 < s.snaps_.l.length := by have := (List.getElem?_eq_some_iff.1 hz).1; omega
    obtain ⟨m, hm⟩ : ∃ m, s.snaps_.l.length = m + 1 := ⟨s.snaps_.l.length - 1, by omega⟩
    rw [show s.snaps_.l.length - 1 = m by omega] at hz
    obtain ⟨b, off, hA, hb, hcc⟩ := Rd.elem (n := 5) (fun _ => rfl) (by omega) (hs.gsnaps_.rd.below hB2) hz
    have d1 : a2.cell? ⟨b, off + m * 5 + 1, none⟩ = some (.int .i64 z.guid_) := hcc 1 _ rfl
    rw [show guidM x s = max x.next_ (IntKind.i64.wrap (z.guid_ + 1)) by unfold guidM; rw [hl]]
    have hlt1 := k1.lt
    have hlt2 := k2.lt
    obtain ⟨t0, t1, t2, t3, t4, t5, t6⟩ := k1.all7
    obtain ⟨u0, u1, u2, u3, u4⟩ := k2.all5
    rw [hA, hm] at u3
    rw [hm] at hlen
    clear hl hz hcc hs hA hm hpos
    have hw1 : IntKind.i64.wrap (m : Int) = m := IntWalk.i64_in _ (by omega)
    have hlm : (m : Int) < (m : Int) + 1 := by omega
    have hq : ((m : Int) + 1 == 0) = false := beq_eq_false_iff_ne.2 (by omega)
    go_enter Tryz.func73, Tryz.ntmps73
    go_upto_region 1 with fail
    rw [HW1.out, HW2.out]
    try rw [hX2]
    go_upto_region 3 with fail
    refine wp_region_noPanic ?_
    refine wp_region_last 13 (fun W => W.cell? ⟨w.heap.size, 2, none⟩ = some (.int .i64 x.next_) ∧ W.cell? ⟨a1.heap.size, 3, none⟩ = some (.slice (some ⟨b, off, none⟩) (m + 1) s.snaps_.c) ∧ W.cell? ⟨b, off + m * 5 + 1, none⟩ = some (.int .i64 z.guid_)) (by kernel_rfl) ⟨t2, u3, d1⟩ (fun hHeld => ?_)
    refine tkA 16 (i := 0) (oi := ⟨some 11, _, _, _, _, _⟩) rfl hHeld ?_
    try simp only [Act.put, pZa, pZb, pZc]
    refine tkA 16 (i := 1) (oi := ⟨some 12, _, _, _, _, _⟩) rfl hHeld ?_
    try simp only [Act.put, pZa, pZb, pZc]
    refine tkA 16 (i := 2) (oi := ⟨some 13, _, _, _, _, _⟩) rfl hHeld ?_
    try simp only [Act.put, pZa, pZb, pZc]
    refine tkA 16 (i := 3) (oi := ⟨some 14, _, _, _, _, _⟩) rfl hHeld ?_
    try simp only [Act.put, pZa, pZb, pZc]
    refine tkA 16 (i := 4) (oi := ⟨some 15, _, _, _, _, _⟩) rfl hHeld ?_
    try simp only [Act.put, pZa, pZb, pZc]
    refine tkA 16 (i := 5) (oi := ⟨some 16, _, _, _, _, _⟩) rfl hHeld ?_
    try simp only [Act.put, pZa, pZb, pZc]
    refine tkA 16 (i := 6) (oi := ⟨some 17, _, _, _, _, _⟩) rfl hHeld ?_
    try simp only [Act.put, pZa, pZb, pZc]
    refine tkA 16 (i := 7) (oi := ⟨some 18, _, _, _, _, _⟩) rfl hHeld ?_
    try simp only [Act.put, pZa, pZb, pZc]
    clear hHeld
    refine wpAnyL_facts 16 5 1 [(8, 19), (9, 20), (10, 21), (11, 22), (12, 23)] (fun s v w => match s with
      | 19 => v = .pointer (some ⟨b, off + m * 5, none⟩)
      | 20 => v = .pointer (some ⟨b, off + m * 5 + 1, none⟩)
      | 21 => v = .int .i64 z.guid_
      | 22 => v = .int .i64 (IntKind.i64.wrap (z.guid_ + 1))
      | 23 => v = .int .i64 (max x.next_ (IntKind.i64.wrap (z.guid_ + 1)))
      | _ => True) (fun w w' => Below w.heap.size w w') (by kernel_rfl) (by kernel_rfl) bZh ⟨?_, ?_, ?_, ?_, ?_, trivial⟩ (fun w' hB => ⟨(hB.cell (p := ⟨w.heap.size, 2, none⟩) hlt1).trans t2, (hB.cell (p := ⟨a1.heap.size, 3, none⟩) hlt2).trans u3, (hB.cell (p := ⟨b, off + m * 5 + 1, none⟩) hb).trans d1⟩) ⟨?_, ?_, ?_, ?_, ?_, trivial⟩ ?_
    focus
      intro v w w' h hB
      exact h
    focus
      intro v w w' h hB
      exact h
    focus
      intro v w w' h hB
      exact h
    focus
      intro v w w' h hB
      exact h
    focus
      intro v w w' h hB
      exact h
    focus
      intro vs w2 hBf hFf o ho K hK
      obtain rfl : (⟨some 19, _, _, _, _, _⟩ : Oper) = o := Option.some.inj ho
      clear ho
      (try simp only [fillL, pZd, pZe, Act.put, pZa, pZb, pZc] at hK ⊢)
      go_simp
      refine hK.out _ _ ⟨rfl, Below.refl _ _⟩
    focus
      intro vs w2 hBf hFf o ho K hK
      obtain rfl : (⟨some 20, _, _, _, _, _⟩ : Oper) = o := Option.some.inj ho
      clear ho
      (try simp only [fillL, pZd, pZe, Act.put, pZa, pZb, pZc] at hK ⊢)
      have e19 := (hFf (8, 19) (by simp) (by kernel_rfl))
      simp only [] at e19
      simp only [e19] at hK ⊢
      go_simp
      refine hK.out _ _ ⟨rfl, Below.refl _ _⟩
    focus
      intro vs w2 hBf hFf o ho K hK
      obtain rfl : (⟨some 21, _, _, _, _, _⟩ : Oper) = o := Option.some.inj ho
      clear ho
      (try simp only [fillL, pZd, pZe, Act.put, pZa, pZb, pZc] at hK ⊢)
      have e20 := (hFf (9, 20) (by simp) (by kernel_rfl))
      simp only [] at e20
      simp only [e20] at hK ⊢
      have d2 := (hBf.cell (p := ⟨b, off + m * 5 + 1, none⟩) hb).trans d1
      go_simp
      refine hK.out _ _ ⟨rfl, Below.refl _ _⟩
    focus
      intro vs w2 hBf hFf o ho K hK
      obtain rfl : (⟨some 22, _, _, _, _, _⟩ : Oper) = o := Option.some.inj ho
      clear ho
      (try simp only [fillL, pZd, pZe, Act.put, pZa, pZb, pZc] at hK ⊢)
      have e21 := (hFf (10, 21) (by simp) (by kernel_rfl))
      simp only [] at e21
      simp only [e21] at hK ⊢
      go_simp
      refine hK.out _ _ ⟨rfl, Below.refl _ _⟩
    focus
      intro vs w2 hBf hFf o ho K hK
      obtain rfl : (⟨some 23, _, _, _, _, _⟩ : Oper) = o := Option.some.inj ho
      clear ho
      (try simp only [fillL, pZd, pZe, Act.put, pZa, pZb, pZc] at hK ⊢)
      have e22 := (hFf (11, 22) (by simp) (by kernel_rfl))
      simp only [] at e22
      simp only [e22] at hK ⊢
      go_simp
      refine hK.out _ _ ⟨rfl, Below.refl _ _⟩
    intro vs w2 hBf hFf
    (try simp only [fillL, pZd, pZe, Act.put, pZa, pZb, pZc])
    have h23 := (hFf (12, 23) (by simp))
    simp only [] at h23
    simp only [h23]
    have hBw : Below a2.heap.size a2 w2 := (Below.refl a2.heap.size a2).drew.trans hBf
    refine wpAnyL_last (i := 13) (o := ⟨some 4, _, _, _, _, _⟩) (by kernel_rfl) rfl (by kernel_rfl) (fun K hK => ?_)
    go_simp
    refine hK.out _ _ ?_
    clear hK K
    try simp only [Act.put, pZa, pZb, pZc]
    refine wpAnyL_done (by kernel_rfl) ?_ _
    refine NoPanic.normal ?_
    go_wp2
    go_ret
    exact ⟨rfl, hB2.trans (hBw.mono hs2)⟩
def okE (x : MTenant) : Int := if okT x.plain = true then 0 else 9
theorem set_ok17 {x : MTenant} (h : okT x.plain = true) {j : Nat} {s : MSet} (hj : x.sets_.l[j]? = some s) : setB x.plain s.plain = true :=
  ((goodL_iff ltPath_trans).1 (okT_parts.1 h).2.2.2).1 s.plain (List.mem_map.2 ⟨s, List.mem_of_getElem? hj, rfl⟩)
theorem snaps_ok17 {x : MTenant} (h : okT x.plain = true) {j : Nat} {s : MSet} (hj : x.sets_.l[j]? = some s) : (∀ y ∈ s.snaps_.l, 1 ≤ y.guid_ ∧ y.guid_ ≤ 1099511627776) ∧ s.snaps_.l.length ≤ 16 := by
  have h1 := snapsB_parts.1 (setB_parts (set_ok17 h hj)).2.2.1
  refine ⟨fun y hy => ?_, ?_⟩
  · have h2 := h1.1.1 y.plain (List.mem_map.2 ⟨y, hy, rfl⟩)
    unfold snapB at h2
    simp only [Bool.and_eq_true] at h2
    have h3 := h2.2.1
    unfold amt at h3
    simp only [Bool.and_eq_true, decide_eq_true_eq] at h3
    exact h3
  · have h2 := h1.2.2
    rwa [show s.plain.snaps_ = s.snaps_.l.map MSnap.plain from rfl, List.length_map] at h2
theorem guid_ok17 {x : MTenant} (h : okT x.plain = true) {j : Nat} {s : MSet} (hj : x.sets_.l[j]? = some s) : guidM x s = guidP x.plain s.plain := by
  unfold guidM guidP
  rw [show s.plain.snaps_ = s.snaps_.l.map MSnap.plain from rfl, List.getLast?_map]
  rcases hl : s.snaps_.l.getLast? with _ | z
  · rfl
  · have hz := (snaps_ok17 h hj).1 z (List.mem_of_getLast? hl)
    show max x.next_ (IntKind.i64.wrap (z.guid_ + 1)) = if x.next_ ≤ z.guid_ then z.guid_ + 1 else x.next_
    rw [IntWalk.i64_in _ (by omega)]
    show max x.next_ (z.guid_ + 1) = if x.next_ ≤ z.guid_ then z.guid_ + 1 else x.next_
    split
    · omega
    · omega
theorem snapE_is (x : MTenant) (p n : ByteArray) : orL [okE x, whenI 31 ([!isPath (bs p), !isName (bs n)].any id), whenI 71 ([decide (findM x p < 0)].any id), whenI 6 ([decide (0 ≤ atN x p n)].any id), whenI 3 ([decide ((16 : Int) ≤ ((atS x p).snaps_.l.length : Int))].any id), whenI 15 ([decide (1099511627776 ≤ guidM x (atS x p))].any id)] = snapE x.plain p n := by
  unfold snapE
  rw [foundE_is]
  unfold whenI okE
  rcases h1 : okT x.plain with _ | _
  · simp [orL_cons, orL_nil]
  · rcases h2 : isPath (bs p) with _ | _
    · simp [orL_cons, orL_nil]
    · rcases h3 : isName (bs n) with _ | _
      · simp [orL_cons, orL_nil]
      · rcases place_ways17 x p n with ⟨a, b, c, d, e⟩ | ⟨j, s, a, b, b2, c, d, d2, e, f, _⟩ | ⟨j, s, k, y, a, b, b2, c, d, d3, d4, d2, e, f, _⟩
        · rw [a]; simp [orL_cons, orL_nil]
        · have h5 := snaps_ok17 h1 b
          have h6 := guid_ok17 h1 b
          have h7 : ¬ (j : Int) < 0 := by omega
          have h8 : (16 ≤ s.snaps_.l.length) ↔ (s.plain.snaps_.length = 16) := by
            rw [show s.plain.snaps_ = s.snaps_.l.map MSnap.plain from rfl, List.length_map]
            omega
          rw [e, a, c, d, h6]
          have h9 : ((16 : Int) ≤ (s.snaps_.l.length : Int)) ↔ (s.plain.snaps_.length = 16) := by rw [← h8]; omega
          simp only [h9]
          by_cases hA : s.plain.snaps_.length = 16 <;> by_cases hB : 1099511627776 ≤ guidP x.plain s.plain <;> simp [orL_cons, orL_nil, h7, f, hA, hB]
        · have h7 : ¬ (j : Int) < 0 := by omega
          have h8 : (0 : Int) ≤ (k : Int) := by omega
          rw [e, a, d]
          simp [orL_cons, orL_nil, h7, h8, f]
theorem found_zero {x : MTenant} {p n : ByteArray} {more : Bool} (h : foundE x.plain p n more true = 0) : okT x.plain = true ∧ isPath (bs p) = true ∧ isName (bs n) = true ∧ more = true ∧ ∃ (j : Nat) (s : MSet) (k : Nat) (y : MSnap), findM x p = j ∧ x.sets_.l[j]? = some s ∧ s.path_ = p ∧ atS x p = s ∧ atN x p n = k ∧ s.snaps_.l[k]? = some y ∧ y.name_ = n ∧ atY x p n = y ∧ setAt x.plain p = some s.plain ∧ hasSnap s.plain n = true ∧ snapOf s.plain n = some y.plain ∧ snapM s n = k ∧ (∀ z ∈ s.snaps_.l.take k, z.name_ ≠ n) := by
  obtain ⟨h1, h2, h3, h4, s, hs, h5⟩ := found_ways h
  refine ⟨h1, h2, h3, h4, ?_⟩
  rcases place_ways17 x p n with ⟨a, b, c, d, e⟩ | ⟨j, t, a, b, b2, c, d, d2, e, f, _⟩ | h9
  · rw [e] at hs
    cases hs
  · rw [e] at hs
    injection hs with hs
    have := h5 rfl
    rw [← hs, f] at this
    cases this
  · exact h9
theorem idx17 {s : MSet} {n : ByteArray} {k : Nat} {y : MSnap} (hk : s.snaps_.l[k]? = some y) (hn : y.name_ = n) (ht : ∀ z ∈ s.snaps_.l.take k, z.name_ ≠ n) : s.plain.snaps_.findIdx (fun z => decide (z.name_ = n)) = k := by
  obtain ⟨hl, he⟩ := List.getElem?_eq_some_iff.1 hk
  show (s.snaps_.l.map MSnap.plain).findIdx _ = k
  rw [List.findIdx_map, List.findIdx_eq hl]
  refine ⟨?_, fun i hi => ?_⟩
  · show decide ((MSnap.plain (s.snaps_.l[k])).name_ = n) = true
    rw [he, decide_eq_true_eq]
    exact hn
  · show decide ((MSnap.plain (s.snaps_.l[i])).name_ = n) = false
    rw [decide_eq_false_iff_not]
    exact ht _ (List.mem_take_iff_getElem.2 ⟨i, by omega, rfl⟩)
theorem rollE_is (x : MTenant) (p n : ByteArray) : orL [okE x, whenI 31 ([!isPath (bs p), !isName (bs n)].any id), whenI 71 ([decide (atN x p n < 0)].any id), whenI 44 ([decide (atN x p n < ((atS x p).snaps_.l.length : Int) - 1)].any id)] = rollE x.plain p n := by
  unfold rollE
  by_cases hf : foundE x.plain p n true true = 0
  · obtain ⟨h1, h2, h3, _, j, s, k, y, a, b, b2, c, d, d3, d4, d2, e, f, f2, g, h⟩ := found_zero hf
    rw [hf, c, d, e]
    have h8 : ¬ (k : Int) < 0 := by omega
    have h9 := idx17 d3 d4 h
    dsimp only
    rw [h9]
    have h10 : ((k : Int) < (s.snaps_.l.length : Int) - 1) ↔ (k + 1 < s.plain.snaps_.length) := by
      rw [show s.plain.snaps_ = s.snaps_.l.map MSnap.plain from rfl, List.length_map]
      omega
    simp only [h10]
    unfold whenI okE
    rw [h1, h2, h3]
    by_cases hA : k + 1 < s.plain.snaps_.length <;> simp [orL_cons, orL_nil, h8, hA]
  · rw [if_pos hf, foundE_is]
    rw [foundE_is] at hf
    unfold whenI okE at *
    rcases h1 : okT x.plain with _ | _
    · simp [orL_cons, orL_nil]
    · rcases h2 : isPath (bs p) with _ | _
      · simp [orL_cons, orL_nil]
      · rcases h3 : isName (bs n) with _ | _
        · simp [orL_cons, orL_nil]
        · rcases place_ways17 x p n with ⟨a, b, c, d, e⟩ | ⟨j, s, a, b, b2, c, d, d2, e, f, _⟩ | ⟨j, s, k, y, a, b, b2, c, d, d3, d4, d2, e, f, _⟩
          · rw [a, c]; simp [orL_cons, orL_nil]
          · have h7 : ¬ (j : Int) < 0 := by omega
            rw [a, d]; simp [orL_cons, orL_nil, h7]
          · have h7 : ¬ (j : Int) < 0 := by omega
            have h8 : ¬ (k : Int) < 0 := by omega
            rw [h1, h2, h3, a, d] at hf
            exact absurd (by simp [orL_cons, orL_nil, h7, h8]) hf
theorem rollS_path (p : ByteArray) (y : PSnap) (x : PSet) : (rollS p y x).path_ = x.path_ := by unfold rollS; split <;> rfl
theorem rollS_origin (p : ByteArray) (y : PSnap) (x : PSet) : (rollS p y x).origin_ = x.origin_ := by unfold rollS; split <;> rfl
theorem rollS_snaps (p : ByteArray) (y : PSnap) (x : PSet) : (rollS p y x).snaps_ = x.snaps_ := by unfold rollS; split <;> rfl
theorem roll_ok17 {t : PTenant} {p n : ByteArray} {s : PSet} {y : PSnap} (h : okT t = true) (hs : setAt t p = some s) (hy : snapOf s n = some y) : okT (mapP t (rollS p y) t.next_) = true := by
  have hsb : setB t s = true := ((goodL_iff ltPath_trans).1 (okT_parts.1 h).2.2.2).1 s (setAt_some hs).1
  have hyb := (snapsB_parts.1 (setB_parts hsb).2.2.1).1.1 y (snapOf_some hy).1
  unfold snapB at hyb
  simp only [Bool.and_eq_true] at hyb
  refine map_ok h (okT_parts.1 h).1.2.2.1 (rollS_path p y) fun x hx hb => ?_
  obtain ⟨b1, b2, b3, b4⟩ := setB_parts hb
  refine setB_to hb (rollS_path p y x) ?_ ?_ (by rw [rollS_snaps]; exact b3) (fun q z hz => ⟨_, mapT_at (rollS_path p y) hz⟩) (orig_move b4 (rollS_path p y x) (rollS_origin p y x) fun q m _ z hz hm => ⟨_, mapT_at (rollS_path p y) hz, by unfold hasSnap at *; rw [rollS_snaps]; exact hm⟩)
  · unfold rollS
    split
    · exact hyb.2.2.2.1
    · exact b1
  · unfold rollS
    split
    · exact hyb.2.2.2.2
    · exact b2
theorem settled_any (x : MTenant) (w : World) (hx : x.Good w) :
    Calls Tryz.prog 45 #[.agg x.cells.toArray] w fun e w' => e = .returned (.tuple #[.agg (setlM x).cells.toArray, .int .i64 (setlP x.plain).2]) ∧ Below w.heap.size w w' ∧ (∀ b, b < w.heap.size → w'.heap[b]? = w.heap[b]?) := by
  obtain ⟨a1, hw1⟩ : ∃ a1, w.alloc (.cells #[.string x.name_, .int .i64 x.quota_, .int .i64 x.next_, .slice x.sets_.A x.sets_.l.length x.sets_.c, .slice x.grants_.A x.grants_.l.length x.grants_.c, .slice x.stages_.A x.stages_.l.length x.stages_.c, .slice x.log_.A x.log_.l.length x.log_.c] 27) = a1 := ⟨_, rfl⟩
  have b1 : Below w.heap.size w a1 := hw1 ▸ (Below.refl _ w).alloc (Nat.le_refl _) _
  have k1 : Blk a1 w.heap.size 27 [.string x.name_, .int .i64 x.quota_, .int .i64 x.next_, .slice x.sets_.A x.sets_.l.length x.sets_.c, .slice x.grants_.A x.grants_.l.length x.grants_.c, .slice x.stages_.A x.stages_.l.length x.stages_.c, .slice x.log_.A x.log_.l.length x.log_.c] := hw1 ▸ Blk.new w _ _
  obtain ⟨a2, hw2⟩ : ∃ a2, a1.alloc (.cells #[.string ⟨#[]⟩, .int .i64 0, .int .i64 0, .slice none 0 0, .slice none 0 0, .slice none 0 0, .slice none 0 0] 27) = a2 := ⟨_, rfl⟩
  have b2 : Below a1.heap.size a1 a2 := hw2 ▸ (Below.refl _ a1).alloc (Nat.le_refl _) _
  have k2 : Blk a2 a1.heap.size 27 [.string ⟨#[]⟩, .int .i64 0, .int .i64 0, .slice none 0 0, .slice none 0 0, .slice none 0 0, .slice none 0 0] := hw2 ▸ Blk.new a1 _ _
  have hX2 : w.heap.size + 1 = a1.heap.size := by rw [← hw1, World.size_alloc]
  have hB1 : Below w.heap.size w a1 := b1
  have hB2 : Below w.heap.size w a2 := hB1.trans (b2.mono hB1.size)
  have k1 := k1.of b2
  have hs2 := hB2.size
  have hs1 := hB1.size
  have ht1 : a1.heap.size ≤ a2.heap.size := b2.size
  have HW1 := Lib.hid hw1
  have HW2 := Lib.hid hw2
  clear hw1 b1 hw2 b2
  have HF := Lib.hid (fits_any x a2 (hx.below hB2))
  obtain ⟨q0, q1, q2, q3, q4, q5, q6⟩ := k1.all7
  have hc : tenC x = chgP x.plain := tenC_plain x
  rw [hc] at HF
  have hq := Nat.lt_irrefl 0
  clear hq
  by_cases hq : wrap64 (chgP x.plain) ≤ x.quota_
  · obtain ⟨h1, h2⟩ := setl_pos hq
    rw [h1, h2]
    rw [decide_eq_true hq] at HF
    generalize wrap64 (chgP x.plain) = T at *
    clear h1 h2 hc hx
    go_enter Tryz.func45, Tryz.ntmps45
    go_upto_region 1 with fail
    rw [HW1.out, HW2.out]
    try rw [hX2]
    go_wp2_with fail
    refine HF.out.mono ?_
    rintro e w3 ⟨rfl, hV⟩
    have K1 := k1.of hV
    have K2 := k2.of hV
    have hB3 := hB2.trans (hV.mono hs2)
    obtain ⟨d0, d1, d2, d3, d4, d5, d6⟩ := K1.all7
    obtain ⟨zr0, zr1, zr2, zr3, zr4, zr5, zr6⟩ := K2.all7
    obtain ⟨zrf0, zrf1, zrf2, zrf3, zrf4, zrf5, zrf6⟩ := K2.fz7
    go_wp2
    generalize hwE : World.setCell _ ⟨a1.heap.size, 6, none⟩ _ = wE
    obtain ⟨KE, SE, ZE, BE⟩ := store7 K2 hwE
    obtain ⟨ze0, ze1, ze2, ze3, ze4, ze5, ze6⟩ := KE.all7
    refine bodyPost_ret (v := .tuple #[.agg #[.string x.name_, .int .i64 x.quota_, .int .i64 x.next_, .slice x.sets_.A x.sets_.l.length x.sets_.c, .slice x.grants_.A x.grants_.l.length x.grants_.c, .slice x.stages_.A x.stages_.l.length x.stages_.c, .slice x.log_.A x.log_.l.length x.log_.c], .int .i64 0]) (by simp [results, Tryz.results45, go_sem, ze0, ze1, ze2, ze3, ze4, ze5, ze6]) rfl ?_
    exact ⟨rfl, BE _ _ hB3 hs1, fun b hb => (BE _ _ hB3 hs1).block b hb⟩
  · obtain ⟨h1, h2⟩ := setl_neg hq
    rw [h1, h2]
    rw [decide_eq_false hq] at HF
    generalize wrap64 (chgP x.plain) = T at *
    clear h1 h2 hc hx
    go_enter Tryz.func45, Tryz.ntmps45
    go_upto_region 1 with fail
    rw [HW1.out, HW2.out]
    try rw [hX2]
    go_wp2_with fail
    refine HF.out.mono ?_
    rintro e w3 ⟨rfl, hV⟩
    have K1 := k1.of hV
    have K2 := k2.of hV
    have hB3 := hB2.trans (hV.mono hs2)
    obtain ⟨zr0, zr1, zr2, zr3, zr4, zr5, zr6⟩ := K2.all7
    obtain ⟨zrf0, zrf1, zrf2, zrf3, zrf4, zrf5, zrf6⟩ := K2.fz7
    go_wp2
    generalize hwE : World.setCell _ ⟨a1.heap.size, 6, none⟩ _ = wE
    obtain ⟨KE, SE, ZE, BE⟩ := store7 K2 hwE
    obtain ⟨ze0, ze1, ze2, ze3, ze4, ze5, ze6⟩ := KE.all7
    refine bodyPost_ret (v := .tuple #[.agg #[.string ⟨#[]⟩, .int .i64 0, .int .i64 0, .slice none 0 0, .slice none 0 0, .slice none 0 0, .slice none 0 0], .int .i64 42]) (by simp [results, Tryz.results45, go_sem, ze0, ze1, ze2, ze3, ze4, ze5, ze6]) rfl ?_
    exact ⟨rfl, BE _ _ hB3 hs1, fun b hb => (BE _ _ hB3 hs1).block b hb⟩
theorem refSettled_any (x : MTenant) (w : World) (hx : x.Good w) :
    Calls Tryz.prog 51 #[.agg x.cells.toArray] w fun e w' => e = .returned (.tuple #[.agg (setlM x).cells.toArray, .int .i64 (setlP x.plain).2]) ∧ Below w.heap.size w w' ∧ (∀ b, b < w.heap.size → w'.heap[b]? = w.heap[b]?) := by
  obtain ⟨a1, hw1⟩ : ∃ a1, w.alloc (.cells #[.string x.name_, .int .i64 x.quota_, .int .i64 x.next_, .slice x.sets_.A x.sets_.l.length x.sets_.c, .slice x.grants_.A x.grants_.l.length x.grants_.c, .slice x.stages_.A x.stages_.l.length x.stages_.c, .slice x.log_.A x.log_.l.length x.log_.c] 27) = a1 := ⟨_, rfl⟩
  have b1 : Below w.heap.size w a1 := hw1 ▸ (Below.refl _ w).alloc (Nat.le_refl _) _
  have k1 : Blk a1 w.heap.size 27 [.string x.name_, .int .i64 x.quota_, .int .i64 x.next_, .slice x.sets_.A x.sets_.l.length x.sets_.c, .slice x.grants_.A x.grants_.l.length x.grants_.c, .slice x.stages_.A x.stages_.l.length x.stages_.c, .slice x.log_.A x.log_.l.length x.log_.c] := hw1 ▸ Blk.new w _ _
  obtain ⟨a2, hw2⟩ : ∃ a2, a1.alloc (.cells #[.string ⟨#[]⟩, .int .i64 0, .int .i64 0, .slice none 0 0, .slice none 0 0, .slice none 0 0, .slice none 0 0] 27) = a2 := ⟨_, rfl⟩
  have b2 : Below a1.heap.size a1 a2 := hw2 ▸ (Below.refl _ a1).alloc (Nat.le_refl _) _
  have k2 : Blk a2 a1.heap.size 27 [.string ⟨#[]⟩, .int .i64 0, .int .i64 0, .slice none 0 0, .slice none 0 0, .slice none 0 0, .slice none 0 0] := hw2 ▸ Blk.new a1 _ _
  have hX2 : w.heap.size + 1 = a1.heap.size := by rw [← hw1, World.size_alloc]
  have hB1 : Below w.heap.size w a1 := b1
  have hB2 : Below w.heap.size w a2 := hB1.trans (b2.mono hB1.size)
  have k1 := k1.of b2
  have hs2 := hB2.size
  have hs1 := hB1.size
  have ht1 : a1.heap.size ≤ a2.heap.size := b2.size
  have HW1 := Lib.hid hw1
  have HW2 := Lib.hid hw2
  clear hw1 b1 hw2 b2
  have HF := Lib.hid (fun W (hW : Below a2.heap.size a2 W) => refCharge_any x W ((hx.below hB2).below hW))
  obtain ⟨q0, q1, q2, q3, q4, q5, q6⟩ := k1.all7
  have hc : tenC x = chgP x.plain := tenC_plain x
  rw [hc] at HF
  have hq := Nat.lt_irrefl 0
  clear hq
  by_cases hq : wrap64 (chgP x.plain) ≤ x.quota_
  · obtain ⟨h1, h2⟩ := setl_pos hq
    rw [h1, h2]
    generalize wrap64 (chgP x.plain) = T at *
    clear h1 h2 hc hx
    go_enter Tryz.func51, Tryz.ntmps51
    go_upto_region 1 with fail
    rw [HW1.out, HW2.out]
    try rw [hX2]
    have hlt := k1.lt
    refine wp_region_noPanic ?_
    refine wp_region_last 4 (fun W => W.cell? ⟨w.heap.size, 0, none⟩ = some (.string x.name_) ∧ W.cell? ⟨w.heap.size, 1, none⟩ = some (.int .i64 x.quota_) ∧ W.cell? ⟨w.heap.size, 2, none⟩ = some (.int .i64 x.next_) ∧ W.cell? ⟨w.heap.size, 3, none⟩ = some (.slice x.sets_.A x.sets_.l.length x.sets_.c) ∧ W.cell? ⟨w.heap.size, 4, none⟩ = some (.slice x.grants_.A x.grants_.l.length x.grants_.c) ∧ W.cell? ⟨w.heap.size, 5, none⟩ = some (.slice x.stages_.A x.stages_.l.length x.stages_.c) ∧ W.cell? ⟨w.heap.size, 6, none⟩ = some (.slice x.log_.A x.log_.l.length x.log_.c)) (by kernel_rfl) ⟨q0, q1, q2, q3, q4, q5, q6⟩ (fun hHeld => ?_)
    refine tkA 16 (i := 0) (oi := ⟨some 4, _, _, _, _, _⟩) rfl hHeld ?_
    try simp only [Act.put, pZa, pZb, pZc]
    refine tkA 16 (i := 2) (oi := ⟨some 6, _, _, _, _, _⟩) rfl hHeld ?_
    try simp only [Act.put, pZa, pZb, pZc]
    refine tkA 16 (i := 3) (oi := ⟨some 7, _, _, _, _, _⟩) rfl hHeld ?_
    try simp only [Act.put, pZa, pZb, pZc]
    clear hHeld
    refine wpAnyL_facts 16 1 1 [(1, 5)] (fun s v w => match s with
      | 5 => v = .int .i64 T
      | _ => True) (fun w w' => Below w.heap.size w w') (by kernel_rfl) (by kernel_rfl) bZh ⟨?_, trivial⟩ (fun w' hB => ⟨(hB.cell (p := ⟨w.heap.size, 0, none⟩) hlt).trans q0, (hB.cell (p := ⟨w.heap.size, 1, none⟩) hlt).trans q1, (hB.cell (p := ⟨w.heap.size, 2, none⟩) hlt).trans q2, (hB.cell (p := ⟨w.heap.size, 3, none⟩) hlt).trans q3, (hB.cell (p := ⟨w.heap.size, 4, none⟩) hlt).trans q4, (hB.cell (p := ⟨w.heap.size, 5, none⟩) hlt).trans q5, (hB.cell (p := ⟨w.heap.size, 6, none⟩) hlt).trans q6⟩) ⟨?_, trivial⟩ ?_
    focus
      intro v w w' h hB
      exact h
    focus
      intro vs w2 hBf hFf o ho K hK
      obtain rfl : (⟨some 5, _, _, _, _, _⟩ : Oper) = o := Option.some.inj ho
      clear ho
      (try simp only [fillL, pZd, pZe, Act.put, pZa, pZb, pZc] at hK ⊢)
      go_simp
      refine (HF.out _ ((Below.refl a2.heap.size a2).drew.trans hBf)).mono ?_
      rintro e w3 ⟨rfl, hB3⟩
      refine hK.out _ _ ⟨rfl, hB3⟩
    intro vs w2 hBf hFf
    (try simp only [fillL, pZd, pZe, Act.put, pZa, pZb, pZc])
    have e1 : vs 5 = .int .i64 T := (hFf (1, 5) (by simp))
    simp only [e1]
    have hV : Below a2.heap.size a2 w2 := (Below.refl a2.heap.size a2).drew.trans hBf
    refine wpAnyL_last (i := 4) (o := ⟨some 8, _, _, _, _, _⟩) (by kernel_rfl) rfl (by kernel_rfl) (fun K hK => ?_)
    go_simp
    refine hK.out _ _ ?_
    clear hK K
    try simp only [Act.put, pZa, pZb, pZc]
    refine wpAnyL_done (by kernel_rfl) ?_ _
    refine NoPanic.normal ?_
    have K1 := k1.of hV
    have K2 := k2.of hV
    have hB3 := hB2.trans (hV.mono hs2)
    obtain ⟨d0, d1, d2, d3, d4, d5, d6⟩ := K1.all7
    obtain ⟨zr0, zr1, zr2, zr3, zr4, zr5, zr6⟩ := K2.all7
    obtain ⟨zrf0, zrf1, zrf2, zrf3, zrf4, zrf5, zrf6⟩ := K2.fz7
    go_wp2
    generalize hwE : World.setCell _ ⟨a1.heap.size, 6, none⟩ _ = wE
    obtain ⟨KE, SE, ZE, BE⟩ := store7 K2 hwE
    obtain ⟨ze0, ze1, ze2, ze3, ze4, ze5, ze6⟩ := KE.all7
    refine bodyPost_ret (v := .tuple #[.agg #[.string x.name_, .int .i64 x.quota_, .int .i64 x.next_, .slice x.sets_.A x.sets_.l.length x.sets_.c, .slice x.grants_.A x.grants_.l.length x.grants_.c, .slice x.stages_.A x.stages_.l.length x.stages_.c, .slice x.log_.A x.log_.l.length x.log_.c], .int .i64 0]) (by simp [results, Tryz.results51, go_sem, ze0, ze1, ze2, ze3, ze4, ze5, ze6]) rfl ?_
    exact ⟨rfl, BE _ _ hB3 hs1, fun b hb => (BE _ _ hB3 hs1).block b hb⟩
  · obtain ⟨h1, h2⟩ := setl_neg hq
    rw [h1, h2]
    generalize wrap64 (chgP x.plain) = T at *
    clear h1 h2 hc hx
    go_enter Tryz.func51, Tryz.ntmps51
    go_upto_region 1 with fail
    rw [HW1.out, HW2.out]
    try rw [hX2]
    have hlt := k1.lt
    refine wp_region_noPanic ?_
    refine wp_region_last 4 (fun W => W.cell? ⟨w.heap.size, 0, none⟩ = some (.string x.name_) ∧ W.cell? ⟨w.heap.size, 1, none⟩ = some (.int .i64 x.quota_) ∧ W.cell? ⟨w.heap.size, 2, none⟩ = some (.int .i64 x.next_) ∧ W.cell? ⟨w.heap.size, 3, none⟩ = some (.slice x.sets_.A x.sets_.l.length x.sets_.c) ∧ W.cell? ⟨w.heap.size, 4, none⟩ = some (.slice x.grants_.A x.grants_.l.length x.grants_.c) ∧ W.cell? ⟨w.heap.size, 5, none⟩ = some (.slice x.stages_.A x.stages_.l.length x.stages_.c) ∧ W.cell? ⟨w.heap.size, 6, none⟩ = some (.slice x.log_.A x.log_.l.length x.log_.c)) (by kernel_rfl) ⟨q0, q1, q2, q3, q4, q5, q6⟩ (fun hHeld => ?_)
    refine tkA 16 (i := 0) (oi := ⟨some 4, _, _, _, _, _⟩) rfl hHeld ?_
    try simp only [Act.put, pZa, pZb, pZc]
    refine tkA 16 (i := 2) (oi := ⟨some 6, _, _, _, _, _⟩) rfl hHeld ?_
    try simp only [Act.put, pZa, pZb, pZc]
    refine tkA 16 (i := 3) (oi := ⟨some 7, _, _, _, _, _⟩) rfl hHeld ?_
    try simp only [Act.put, pZa, pZb, pZc]
    clear hHeld
    refine wpAnyL_facts 16 1 1 [(1, 5)] (fun s v w => match s with
      | 5 => v = .int .i64 T
      | _ => True) (fun w w' => Below w.heap.size w w') (by kernel_rfl) (by kernel_rfl) bZh ⟨?_, trivial⟩ (fun w' hB => ⟨(hB.cell (p := ⟨w.heap.size, 0, none⟩) hlt).trans q0, (hB.cell (p := ⟨w.heap.size, 1, none⟩) hlt).trans q1, (hB.cell (p := ⟨w.heap.size, 2, none⟩) hlt).trans q2, (hB.cell (p := ⟨w.heap.size, 3, none⟩) hlt).trans q3, (hB.cell (p := ⟨w.heap.size, 4, none⟩) hlt).trans q4, (hB.cell (p := ⟨w.heap.size, 5, none⟩) hlt).trans q5, (hB.cell (p := ⟨w.heap.size, 6, none⟩) hlt).trans q6⟩) ⟨?_, trivial⟩ ?_
    focus
      intro v w w' h hB
      exact h
    focus
      intro vs w2 hBf hFf o ho K hK
      obtain rfl : (⟨some 5, _, _, _, _, _⟩ : Oper) = o := Option.some.inj ho
      clear ho
      (try simp only [fillL, pZd, pZe, Act.put, pZa, pZb, pZc] at hK ⊢)
      go_simp
      refine (HF.out _ ((Below.refl a2.heap.size a2).drew.trans hBf)).mono ?_
      rintro e w3 ⟨rfl, hB3⟩
      refine hK.out _ _ ⟨rfl, hB3⟩
    intro vs w2 hBf hFf
    (try simp only [fillL, pZd, pZe, Act.put, pZa, pZb, pZc])
    have e1 : vs 5 = .int .i64 T := (hFf (1, 5) (by simp))
    simp only [e1]
    have hV : Below a2.heap.size a2 w2 := (Below.refl a2.heap.size a2).drew.trans hBf
    refine wpAnyL_last (i := 4) (o := ⟨some 8, _, _, _, _, _⟩) (by kernel_rfl) rfl (by kernel_rfl) (fun K hK => ?_)
    go_simp
    refine hK.out _ _ ?_
    clear hK K
    try simp only [Act.put, pZa, pZb, pZc]
    refine wpAnyL_done (by kernel_rfl) ?_ _
    refine NoPanic.normal ?_
    have K1 := k1.of hV
    have K2 := k2.of hV
    have hB3 := hB2.trans (hV.mono hs2)
    obtain ⟨d0, d1, d2, d3, d4, d5, d6⟩ := K1.all7
    obtain ⟨zr0, zr1, zr2, zr3, zr4, zr5, zr6⟩ := K2.all7
    obtain ⟨zrf0, zrf1, zrf2, zrf3, zrf4, zrf5, zrf6⟩ := K2.fz7
    go_wp2
    generalize hwE : World.setCell _ ⟨a1.heap.size, 6, none⟩ _ = wE
    obtain ⟨KE, SE, ZE, BE⟩ := store7 K2 hwE
    obtain ⟨ze0, ze1, ze2, ze3, ze4, ze5, ze6⟩ := KE.all7
    refine bodyPost_ret (v := .tuple #[.agg #[.string ⟨#[]⟩, .int .i64 0, .int .i64 0, .slice none 0 0, .slice none 0 0, .slice none 0 0, .slice none 0 0], .int .i64 42]) (by simp [results, Tryz.results51, go_sem, ze0, ze1, ze2, ze3, ze4, ze5, ze6]) rfl ?_
    exact ⟨rfl, BE _ _ hB3 hs1, fun b hb => (BE _ _ hB3 hs1).block b hb⟩
set_option maxHeartbeats 2000000
theorem refHas_in (A : Option Addr) (c : Nat) (l : List Bk) (hl : l.length ≤ 8796093022208) (b : Bk) (hb : b ∈ l) (w : World) (hr : Rd w A (bks l)) :
    Calls Tryz.prog 89 #[.slice A l.length c, .agg #[.int .i64 b.1, .string b.2]] w fun e w' => e = .returned (.bool true) ∧ Below w.heap.size w w' := by
  obtain ⟨w1, hw1⟩ : ∃ w1, w.alloc (.cells #[.int .i64 b.1, .string b.2] 103) = w1 := ⟨_, rfl⟩
  have k1 : Blk w1 w.heap.size 103 [.int .i64 b.1, .string b.2] := hw1 ▸ Blk.new w _ _
  have hB1 : Below w.heap.size w w1 := hw1 ▸ (Below.refl _ w).alloc (Nat.le_refl _) _
  have HRD := Lib.hid (hr.below hB1)
  have HK := Lib.hid k1
  have HW1 := Lib.hid hw1
  have HB := Lib.hid hB1
  have HM := Lib.hid hb
  obtain ⟨b1, b2⟩ := b
  dsimp only at *
  clear hw1 k1 hB1 hr hb
  go_enter Tryz.func89, Tryz.ntmps89
  go_wp2_with (rw [HW1.out])
  go_loopw [5] (fun i W => ∃ k : Nat, k ≤ l.length ∧ i = .int .i64 k ∧ Hid (∀ y ∈ l.take k, y ≠ (b1, b2)) ∧ Below w1.heap.size w1 W) (fun i _ => l.length - (intOf i).toNat)
  case atStart => exact ⟨0, Nat.zero_le _, rfl, Lib.hid (by simp), Below.refl _ _⟩
  case round =>
    obtain ⟨k, hk, rfl, HT, hB⟩ := hrel
    by_cases hlt : k < l.length
    · obtain ⟨x, hx⟩ : ∃ x, l[k]? = some x := ⟨_, qZa hlt⟩
      obtain ⟨g, off, rfl, hg, d0, d1⟩ := (HRD.out.below hB).bk hx
      have k2 := HK.out.below hB HK.out.lt
      have z0 := k2.cell 0
      have z1 := k2.cell 1
      simp only [gZa, gZb] at z0 z1
      by_cases he : x = (b1, b2)
      · subst he
        clear hx HT k2
        go_wp2_with (go_quiet (fail))
        go_ret
        exact ⟨rfl, HB.out.trans ((hB.trans (belowDrewN _ _ _)).mono HB.out.size)⟩
      · have HT' : Hid (∀ y ∈ l.take (k + 1), y ≠ (b1, b2)) := Lib.hid fun y hy => by
          rw [List.take_add_one, hx] at hy
          rcases List.mem_append.1 hy with hy | hy
          · exact HT.out y hy
          · simp at hy
            subst hy
            exact he
        obtain ⟨x1, x2⟩ := x
        dsimp only at d0 d1
        rcases bk_ne he with h | ⟨rfl, h⟩
        · clear hx HT k2 he
          go_wp2_with (go_quiet (fail))
          go_round
          case rel => exact ⟨k + 1, by omega, by go_num, HT', hB.trans (belowDrewN _ _ _)⟩
          case measure => simp [intOf]; omega
        · clear hx HT k2 he
          go_wp2_with (go_quiet (fail))
          go_round
          case rel => exact ⟨k + 1, by omega, by go_num, HT', hB.trans (belowDrewN _ _ _)⟩
          case measure => simp [intOf]; omega
    · exfalso
      have h9 := HT.out (b1, b2) (by rw [List.take_of_length_le (by omega)]; exact HM.out)
      exact h9 rfl
theorem refChanged_no (s : MSet) (z : MSnap) (hz : s.snaps_.l.getLast? = some z) (he : z.body_.l = s.body_.l) (w : World) (hs : s.Good w) :
    Calls Tryz.prog 39 #[.agg s.cells.toArray] w fun e w' => e = .returned (.int .i64 0) ∧ Below w.heap.size w w' := by
  obtain ⟨a1, hw1⟩ : ∃ a1, w.alloc (.cells #[.string s.path_, .string s.origin_, .slice s.body_.A s.body_.l.length s.body_.c, .slice s.snaps_.A s.snaps_.l.length s.snaps_.c, .slice s.own_.A s.own_.l.length s.own_.c] 49) = a1 := ⟨_, rfl⟩
  have b1 : Below w.heap.size w a1 := hw1 ▸ (Below.refl _ w).alloc (Nat.le_refl _) _
  have k1 : Blk a1 w.heap.size 49 [.string s.path_, .string s.origin_, .slice s.body_.A s.body_.l.length s.body_.c, .slice s.snaps_.A s.snaps_.l.length s.snaps_.c, .slice s.own_.A s.own_.l.length s.own_.c] := hw1 ▸ Blk.new w _ _
  have hB1 : Below w.heap.size w a1 := b1
  have hs1 := hB1.size
  have HW1 := Lib.hid hw1
  clear hw1 b1
  have hlen := hs.gsnaps_.len
  have hlb := hs.gbody_.len
  have hz1 : s.snaps_.l[s.snaps_.l.length - 1]? = some z := by rw [← List.getLast?_eq_getElem?]; exact hz
  have hpos : 0 < s.snaps_.l.length := by have := (List.getElem?_eq_some_iff.1 hz1).1; omega
  obtain ⟨m, hm⟩ : ∃ m, s.snaps_.l.length = m + 1 := ⟨s.snaps_.l.length - 1, by omega⟩
  rw [show s.snaps_.l.length - 1 = m by omega] at hz1
  have hs1' := hs.below hB1
  obtain ⟨b, off, hA, hb, hcc⟩ := Rd.elem (n := 5) (fun _ => rfl) (by omega) hs1'.gsnaps_.rd hz1
  have d2 : a1.cell? ⟨b, off + m * 5 + 2, none⟩ = some (.slice z.body_.A z.body_.l.length z.body_.c) := hcc 2 _ rfl
  have hzg := hs1'.gsnaps_.el z (List.mem_of_getElem? hz1)
  have HZB := Lib.hid (show Rd a1 z.body_.A (bks z.body_.l) from hzg.gbody_.rd)
  have HSB := Lib.hid (show Rd a1 s.body_.A (bks s.body_.l) from hs1'.gbody_.rd)
  have hw1 : IntKind.i64.wrap (m : Int) = m := IntWalk.i64_in _ (by omega)
  have hlm : (m : Int) < (m : Int) + 1 := by omega
  have hq : ((m : Int) + 1 == 0) = false := beq_eq_false_iff_ne.2 (by omega)
  have hlt1 := k1.lt
  obtain ⟨u0, u1, u2, u3, u4⟩ := k1.all5
  rw [hA, hm] at u3
  rw [he] at d2
  have HE := Lib.hid he
  have K1 := Lib.hid k1
  clear hz hz1 hcc hs1' hzg hA hm hpos hs k1 he
  go_enter Tryz.func39, Tryz.ntmps39
  go_upto_region 1 with fail
  rw [HW1.out]
  go_upto_region 3 with fail
  go_loopw [3, 4] (fun v i W => ∃ k : Nat, k ≤ s.body_.l.length ∧ v = .int .i64 0 ∧ i = .int .i64 k ∧ Below a1.heap.size a1 W) (fun _ i _ => s.body_.l.length - (intOf i).toNat)
  case atStart => exact ⟨0, Nat.zero_le _, rfl, rfl, Below.refl _ _⟩
  case round =>
    obtain ⟨k, hk, rfl, rfl, hB⟩ := hrel
    have e2 := (hB.cell (p := ⟨w.heap.size, 2, none⟩) hlt1).trans u2
    have e3 := (hB.cell (p := ⟨w.heap.size, 3, none⟩) hlt1).trans u3
    have f2 := (hB.cell (p := ⟨b, off + m * 5 + 2, none⟩) hb).trans d2
    have hbw : b < wr.heap.size := Nat.lt_of_lt_of_le hb hB.size
    have hlw : w.heap.size < wr.heap.size := Nat.lt_of_lt_of_le hlt1 hB.size
    by_cases hlt : k < s.body_.l.length
    · obtain ⟨y, hy⟩ : ∃ y, s.body_.l[k]? = some y := ⟨_, qZa hlt⟩
      obtain ⟨bb, ob, hAB, hbb, g0, g1⟩ := (HSB.out.below hB).bk hy
      have hbb2 : bb < wr.heap.size := hbb
      rw [hAB] at e2
      have hmem := List.mem_of_getElem? hy
      have HH : Hid (∀ W, Below wr.heap.size wr W → Calls Tryz.prog 89 #[.slice z.body_.A s.body_.l.length z.body_.c, .agg #[.int .i64 y.1, .string y.2]] W fun e w' => e = .returned (.bool true) ∧ Below W.heap.size W w') := Lib.hid fun W hW => by
        have h9 := refHas_in z.body_.A z.body_.c z.body_.l (by rw [HE.out]; omega) y (by rw [HE.out]; exact hmem) W (HZB.out.below (hB.trans (hW.mono hB.size)))
        rwa [HE.out] at h9
      have h2 : wrap64 ((k : Int) + 1) = (k : Int) + 1 := IntWalk.wrap64_in _ (by omega)
      clear hy hmem hAB
      go_upto_region 5 with fail
      have hBd : Below wr.heap.size wr wr.drew := (Below.refl _ _).drew
      refine wp_region_noPanic ?_
      refine wp_region_last 19 (fun W => W.cell? ⟨w.heap.size, 2, none⟩ = some (.slice (some ⟨bb, ob, none⟩) s.body_.l.length s.body_.c) ∧ W.cell? ⟨w.heap.size, 3, none⟩ = some (.slice (some ⟨b, off, none⟩) (m + 1) s.snaps_.c) ∧ W.cell? ⟨b, off + m * 5 + 2, none⟩ = some (.slice z.body_.A s.body_.l.length z.body_.c) ∧ W.cell? ⟨bb, ob + k * 2, none⟩ = some (.int .i64 y.1) ∧ W.cell? ⟨bb, ob + k * 2 + 1, none⟩ = some (.string y.2)) (by kernel_rfl) ⟨e2, e3, f2, g0, g1⟩ (fun hHeld => ?_)
      refine tkA 12 (i := 0) (oi := ⟨some 12, _, _, _, _, _⟩) rfl hHeld ?_
      try simp only [Act.put, pZa, pZb, pZc]
      refine tkA 12 (i := 1) (oi := ⟨some 13, _, _, _, _, _⟩) rfl hHeld ?_
      try simp only [Act.put, pZa, pZb, pZc]
      refine tkA 12 (i := 2) (oi := ⟨some 14, _, _, _, _, _⟩) rfl hHeld ?_
      try simp only [Act.put, pZa, pZb, pZc]
      refine tkA 12 (i := 3) (oi := ⟨some 15, _, _, _, _, _⟩) rfl hHeld ?_
      try simp only [Act.put, pZa, pZb, pZc]
      refine tkA 12 (i := 4) (oi := ⟨some 16, _, _, _, _, _⟩) rfl hHeld ?_
      try simp only [Act.put, pZa, pZb, pZc]
      refine tkA 12 (i := 5) (oi := ⟨some 17, _, _, _, _, _⟩) rfl hHeld ?_
      try simp only [Act.put, pZa, pZb, pZc]
      refine tkA 12 (i := 6) (oi := ⟨some 18, _, _, _, _, _⟩) rfl hHeld ?_
      try simp only [Act.put, pZa, pZb, pZc]
      refine tkA 12 (i := 7) (oi := ⟨some 19, _, _, _, _, _⟩) rfl hHeld ?_
      try simp only [Act.put, pZa, pZb, pZc]
      refine tkA 12 (i := 8) (oi := ⟨some 20, _, _, _, _, _⟩) rfl hHeld ?_
      try simp only [Act.put, pZa, pZb, pZc]
      refine tkA 12 (i := 9) (oi := ⟨some 21, _, _, _, _, _⟩) rfl hHeld ?_
      try simp only [Act.put, pZa, pZb, pZc]
      refine tkA 12 (i := 10) (oi := ⟨some 22, _, _, _, _, _⟩) rfl hHeld ?_
      try simp only [Act.put, pZa, pZb, pZc]
      refine tkA 12 (i := 11) (oi := ⟨some 23, _, _, _, _, _⟩) rfl hHeld ?_
      try simp only [Act.put, pZa, pZb, pZc]
      refine tkA 12 (i := 12) (oi := ⟨some 24, _, _, _, _, _⟩) rfl hHeld ?_
      try simp only [Act.put, pZa, pZb, pZc]
      refine tkA 12 (i := 13) (oi := ⟨some 25, _, _, _, _, _⟩) rfl hHeld ?_
      try simp only [Act.put, pZa, pZb, pZc]
      refine tkA 12 (i := 14) (oi := ⟨some 26, _, _, _, _, _⟩) rfl hHeld ?_
      try simp only [Act.put, pZa, pZb, pZc]
      refine tkA 12 (i := 15) (oi := ⟨some 27, _, _, _, _, _⟩) rfl hHeld ?_
      try simp only [Act.put, pZa, pZb, pZc]
      refine tkA 12 (i := 16) (oi := ⟨some 28, _, _, _, _, _⟩) rfl hHeld ?_
      try simp only [Act.put, pZa, pZb, pZc]
      refine tkA 12 (i := 17) (oi := ⟨some 29, _, _, _, _, _⟩) rfl hHeld ?_
      try simp only [Act.put, pZa, pZb, pZc]
      refine tkA 12 (i := 18) (oi := ⟨some 30, _, _, _, _, _⟩) rfl hHeld ?_
      try simp only [Act.put, pZa, pZb, pZc]
      refine wpAnyL_last (i := 19) (o := ⟨some 31, _, _, _, _, _⟩) (by kernel_rfl) rfl (by kernel_rfl) (fun K hK => ?_)
      clear hHeld
      go_simp
      refine (HH.out _ hBd).mono ?_
      rintro e w4 ⟨rfl, hB4⟩
      have hB5 := hBd.trans (hB4.mono hBd.size)
      go_wp2_with fail
      refine hK.out _ _ ?_
      clear hK K
      try simp only [Act.put, pZa, pZb, pZc]
      refine wpAnyL_takeW (i := 20) (oi := ⟨some 32, _, _, _, _, _⟩) (v := ?_) rfl (by kernel_rfl) (by kernel_rfl) (by kernel_rfl) (by kernel_rfl) (fun _ _ _ h => h) (Or.inl ⟨by rfl, ?_⟩) (.inl (by kernel_rfl)) ?_
      rotate_left
      focus (intro w hSw; (try dsimp only at hSw); go_simp; try (with_reducible rfl))
      try simp only [Act.put, pZa, pZb, pZc]
      refine wpAnyL_takeW (i := 21) (oi := ⟨some 33, _, _, _, _, _⟩) (v := ?_) rfl (by kernel_rfl) (by kernel_rfl) (by kernel_rfl) (by kernel_rfl) (fun _ _ _ h => h) (Or.inl ⟨by rfl, ?_⟩) (.inl (by kernel_rfl)) ?_
      rotate_left
      focus (intro w hSw; (try dsimp only at hSw); go_simp; try (with_reducible rfl))
      try simp only [Act.put, pZa, pZb, pZc]
      refine wpAnyL_done (by kernel_rfl) ?_ _
      refine NoPanic.normal ?_
      clear e2 e3 f2 g0 g1 u0 u1 u2 u3 u4 d2 HH hq hw1 hlm hB4 hBd
      go_wp2
      go_roundw
      case rel => exact ⟨k + 1, by omega, rfl, by go_num, hB.trans (hB5.mono hB.size)⟩
      case measure => simp [intOf]; omega
    · obtain rfl : k = s.body_.l.length := by omega
      clear e3 f2 u0 u1 u3 u4 d2 hq hw1 hlm
      go_wp2
      go_ret
      exact ⟨rfl, hB1.trans (hB.mono hs1)⟩
end Go.Proofs.YtoabkbnhdekbdaaGreat
