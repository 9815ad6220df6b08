/-
 Tenants as answers: none; what is settled; a box that is stored into. No conditions.
-/
import Derived.Test.YtimmcmjipmkebaaGreatVTES
import Derived.Test.YtimmcmjipmkebaaGreatVUSI
import Derived.Test.YtimmcmjipmkebaaGreatVSPF
namespace Go.Proofs.YtimmcmjipmkebaaGreat
open Go.ChangeShapes Go.WideShapes Go.ChangeAt Go.RowKit
set_option maxRecDepth 100000
def noM : MT_ := ⟨ByteArray.empty, 0, 0, ⟨none, [], 0⟩, ⟨none, [], 0⟩, ⟨none, [], 0⟩, ⟨none, [], 0⟩⟩
theorem noM_own (n : Nat) (W : World) : OwnTe n W noM := ⟨ownNone _ _ _ _, ownNone _ _ _ _, ownNone _ _ _ _, ownNone _ _ _ _, fun s hs => (by simp [noM] at hs), fun s hs => (by simp [noM] at hs)⟩
theorem slNone {α : Type} (W : World) (cells : α → List Value) (good : α → Prop) (b : Nat) : SlGood W cells good b ⟨none, [], 0⟩ := ⟨Rd.nil _ _, by simp, Nat.le_refl _, fun _ => rfl, by simp⟩
theorem noM_good (W : World) : noM.Good W := ⟨by decide, by decide, by decide, slNone _ _ _ _, slNone _ _ _ _, slNone _ _ _ _, slNone _ _ _ _⟩
def AnsT (w : World) (P : PT_ × Int) (e : Ending) (w' : World) : Prop := ∃ y : MT_, e = .returned (.tuple #[.agg y.cells.toArray, .int .i64 P.2]) ∧ OwnTe w.heap.size w' y ∧ y.Good w' ∧ y.plain = P.1 ∧ Below w.heap.size w w'
theorem tenC_plain (x : MT_) : tenC x = chgP x.plain := by
 unfold tenC chgP
 simp only [MT_.plain, List.map_map]
 congr 2
 refine List.map_congr_left fun s _ => ?_
 simp only [setC, chgL, lineM, setN, Function.comp_apply, MSet.plain, List.map_append, List.map_map, List.map_cons, List.map_nil]
 rfl
def setlP (t : PT_) : PT_ × Int := if wrap64 (chgP t) ≤ t.r_ then (t, 0) else (noT, 42)
def setlM (x : MT_) : MT_ := if wrap64 (chgP x.plain) ≤ x.r_ then x else noM
theorem setlM_plain (x : MT_) : (setlM x).plain = (setlP x.plain).1 := by
 unfold setlM setlP
 split
 · rw [if_pos (by assumption)]
 · rw [if_neg (by assumption)]
   rfl
theorem setlM_own {n : Nat} {W : World} {x : MT_} (h : OwnTe n W x) : OwnTe n W (setlM x) := by
 unfold setlM
 split
 · exact h
 · exact noM_own _ _
theorem setlM_good {W : World} {x : MT_} (h : x.Good W) : (setlM x).Good W := by
 unfold setlM
 split
 · exact h
 · exact noM_good _
theorem setl_pos {x : MT_} (h : wrap64 (chgP x.plain) ≤ x.r_) : setlM x = x ∧ (setlP x.plain).2 = 0 := ⟨if_pos h, by
 unfold setlP
 rw [if_pos (show wrap64 (chgP x.plain) ≤ x.plain.r_ from h)]⟩
theorem setl_neg {x : MT_} (h : ¬ wrap64 (chgP x.plain) ≤ x.r_) : setlM x = noM ∧ (setlP x.plain).2 = 42 := ⟨if_neg h, by
 unfold setlP
 rw [if_neg (show ¬ wrap64 (chgP x.plain) ≤ x.plain.r_ from h)]⟩
theorem setl_ok {t : PT_} (h : okT t = true) : setlP t = settledP t := by
 unfold setlP settledP
 have := chgP_small h
 rw [show wrap64 (chgP t : Int) = chgP t by unfold wrap64; omega]
theorem Blk.all5 {W : World} {R : Nat} {t : TypeId} {v0 v1 v2 v3 v4 : Value} (h : Blk W R t [v0, v1, v2, v3, v4]) : W.cell? ⟨R, 0, none⟩ = some v0 ∧ W.cell? ⟨R, 1, none⟩ = some v1 ∧ W.cell? ⟨R, 2, none⟩ = some v2 ∧ W.cell? ⟨R, 3, none⟩ = some v3 ∧ W.cell? ⟨R, 4, none⟩ = some v4 := ⟨h.cell 0, h.cell 1, h.cell 2, h.cell 3, h.cell 4⟩
theorem Blk.all7 {W : World} {R : Nat} {t : TypeId} {v0 v1 v2 v3 v4 v5 v6 : Value} (h : Blk W R t [v0, v1, v2, v3, v4, v5, v6]) : W.cell? ⟨R, 0, none⟩ = some v0 ∧ W.cell? ⟨R, 1, none⟩ = some v1 ∧ W.cell? ⟨R, 2, none⟩ = some v2 ∧ W.cell? ⟨R, 3, none⟩ = some v3 ∧ W.cell? ⟨R, 4, none⟩ = some v4 ∧ W.cell? ⟨R, 5, none⟩ = some v5 ∧ W.cell? ⟨R, 6, none⟩ = some v6 := ⟨h.cell 0, h.cell 1, h.cell 2, h.cell 3, h.cell 4, h.cell 5, h.cell 6⟩
theorem Blk.fz7 {W : World} {R : Nat} {t : TypeId} {v0 v1 v2 v3 v4 v5 v6 : Value} (h : Blk W R t [v0, v1, v2, v3, v4, v5, v6]) : W.frozen? ⟨R, 0, none⟩ = false ∧ W.frozen? ⟨R, 1, none⟩ = false ∧ W.frozen? ⟨R, 2, none⟩ = false ∧ W.frozen? ⟨R, 3, none⟩ = false ∧ W.frozen? ⟨R, 4, none⟩ = false ∧ W.frozen? ⟨R, 5, none⟩ = false ∧ W.frozen? ⟨R, 6, none⟩ = false := ⟨h.frozen 0, h.frozen 1, h.frozen 2, h.frozen 3, h.frozen 4, h.frozen 5, h.frozen 6⟩
theorem store7 {W W' : World} {R : Nat} {c0 c1 c2 c3 c4 c5 c6 v0 v1 v2 v3 v4 v5 v6 : Value} (hb : Blk W R 27 [c0, c1, c2, c3, c4, c5, c6])
 (h : ((((((W.setCell ⟨R, 0, none⟩ v0).setCell ⟨R, 1, none⟩ v1).setCell ⟨R, 2, none⟩ v2).setCell ⟨R, 3, none⟩ v3).setCell ⟨R, 4, none⟩ v4).setCell ⟨R, 5, none⟩ v5).setCell ⟨R, 6, none⟩ v6 = W') :
 Blk W' R 27 [v0, v1, v2, v3, v4, v5, v6] ∧ (∀ b, b ≠ R → W'.heap[b]? = W.heap[b]?) ∧ W'.heap.size = W.heap.size ∧ ∀ (B : Nat) (w0 : World), Below B w0 W → B ≤ R → Below B w0 W' := by
 subst h
 refine ⟨((((((hb.set 0 v0).set 1 v1).set 2 v2).set 3 v3).set 4 v4).set 5 v5).set 6 v6, fun b hne => ?_, by simp [World.setCell], fun B w0 hB hR => ((((((hB.setCell (p := ⟨R, 0, none⟩) hR _).setCell (p := ⟨R, 1, none⟩) hR _).setCell (p := ⟨R, 2, none⟩) hR _).setCell (p := ⟨R, 3, none⟩) hR _).setCell (p := ⟨R, 4, none⟩) hR _).setCell (p := ⟨R, 5, none⟩) hR _).setCell (p := ⟨R, 6, none⟩) hR _⟩
 rw [heap_setCell_other _ ⟨R, 6, none⟩ b _ hne, heap_setCell_other _ ⟨R, 5, none⟩ b _ hne, heap_setCell_other _ ⟨R, 4, none⟩ b _ hne, heap_setCell_other _ ⟨R, 3, none⟩ b _ hne, heap_setCell_other _ ⟨R, 2, none⟩ b _ hne, heap_setCell_other _ ⟨R, 1, none⟩ b _ hne, heap_setCell_other _ ⟨R, 0, none⟩ b _ hne]
theorem OwnTe.base {n n' : Nat} {W : World} {y : MT_} (h : OwnTe n W y) (hn : n' ≤ n) : OwnTe n' W y := ⟨zfZ h.sets hn, zfZ h.grants hn, zfZ h.stages hn, zfZ h.log hn, fun s hs => (h.eset s hs).base hn, fun s hs => (h.estage s hs).base hn⟩
theorem OwnTe.store {W W' : World} {R n : Nat} {y : MT_} (h : OwnTe n W y) (hR : R < n) (hs : ∀ b, b ≠ R → W'.heap[b]? = W.heap[b]?) : OwnTe n W' y := h.stays fun b hb _ => hs b (by omega)
set_option linter.unusedSimpArgs false
theorem Blk.all12 {W : World} {R : Nat} {t : TypeId} {v0 v1 v2 v3 v4 v5 v6 v7 v8 v9 v10 v11 : Value} (h : Blk W R t [v0, v1, v2, v3, v4, v5, v6, v7, v8, v9, v10, v11]) : W.cell? ⟨R, 0, none⟩ = some v0 ∧ W.cell? ⟨R, 1, none⟩ = some v1 ∧ W.cell? ⟨R, 2, none⟩ = some v2 ∧ W.cell? ⟨R, 3, none⟩ = some v3 ∧ W.cell? ⟨R, 4, none⟩ = some v4 ∧ W.cell? ⟨R, 5, none⟩ = some v5 ∧ W.cell? ⟨R, 6, none⟩ = some v6 ∧ W.cell? ⟨R, 7, none⟩ = some v7 ∧ W.cell? ⟨R, 8, none⟩ = some v8 ∧ W.cell? ⟨R, 9, none⟩ = some v9 ∧ W.cell? ⟨R, 10, none⟩ = some v10 ∧ W.cell? ⟨R, 11, none⟩ = some v11 := ⟨h.cell 0, h.cell 1, h.cell 2, h.cell 3, h.cell 4, h.cell 5, h.cell 6, h.cell 7, h.cell 8, h.cell 9, h.cell 10, h.cell 11⟩
theorem Blk.fz12 {W : World} {R : Nat} {t : TypeId} {v0 v1 v2 v3 v4 v5 v6 v7 v8 v9 v10 v11 : Value} (h : Blk W R t [v0, v1, v2, v3, v4, v5, v6, v7, v8, v9, v10, v11]) : W.frozen? ⟨R, 0, none⟩ = false ∧ W.frozen? ⟨R, 1, none⟩ = false ∧ W.frozen? ⟨R, 2, none⟩ = false ∧ W.frozen? ⟨R, 3, none⟩ = false ∧ W.frozen? ⟨R, 4, none⟩ = false ∧ W.frozen? ⟨R, 5, none⟩ = false ∧ W.frozen? ⟨R, 6, none⟩ = false ∧ W.frozen? ⟨R, 7, none⟩ = false ∧ W.frozen? ⟨R, 8, none⟩ = false ∧ W.frozen? ⟨R, 9, none⟩ = false ∧ W.frozen? ⟨R, 10, none⟩ = false ∧ W.frozen? ⟨R, 11, none⟩ = false := ⟨h.frozen 0, h.frozen 1, h.frozen 2, h.frozen 3, h.frozen 4, h.frozen 5, h.frozen 6, h.frozen 7, h.frozen 8, h.frozen 9, h.frozen 10, h.frozen 11⟩
theorem storeRow {W W' : World} {R : Nat} {t : TypeId} : ∀ {C : List Value} (js : List (Nat × Value)) (_ : Blk W R t C) (_ : js.foldl (fun w e => w.setCell ⟨R, e.1, none⟩ e.2) W = W'), Blk W' R t (js.foldl (fun c e => c.set e.1 e.2) C) ∧ (∀ b, b ≠ R → W'.heap[b]? = W.heap[b]?) ∧ W'.heap.size = W.heap.size ∧ ∀ (B : Nat) (w0 : World), Below B w0 W → B ≤ R → Below B w0 W'
 | C, [], hb, h => by
  simp only [List.foldl_nil] at h
  subst h
  exact ⟨hb, fun _ _ => rfl, rfl, fun _ _ h _ => h⟩
 | C, e :: js, hb, h => by
  obtain ⟨h1, h2, h3, h4⟩ := storeRow js (hb.set e.1 e.2) h
  refine ⟨h1, fun b hne => (h2 b hne).trans (heap_setCell_other _ ⟨R, e.1, none⟩ b _ hne), by rw [h3]; simp [World.setCell], fun B w0 hB hR => h4 B w0 (hB.setCell (p := ⟨R, e.1, none⟩) hR _) hR⟩
abbrev placeC (i k : Int) (s : MSet) (y : Mna) : List Value := [.int .i64 i, .int .i64 k, .string s.l_, .string s.m_, .slice s.p_.A s.p_.l.length s.p_.c, .slice s.n_.A s.n_.l.length s.n_.c, .slice s.j_.A s.j_.l.length s.j_.c, .string y.x_, .int .i64 y.z_, .slice y.p_.A y.p_.l.length y.p_.c, .slice y.u_.A y.u_.l.length y.u_.c, .slice y.j_.A y.j_.l.length y.j_.c]
set_option maxHeartbeats 4000000 in
theorem find17_any (x : MT_) (p n : ByteArray) (w : World) (hx : x.Good w) :
 Calls Tryz.prog 39 #[.agg x.cells.toArray, .string p, .string n] w fun e w' => e = .returned (.agg (placeC (findM x p) (atN x p n) (atS x p) (atY x p n)).toArray) ∧ Below w.heap.size w w' := by
 obtain ⟨a1, hw1⟩ : ∃ a1, w.alloc (.cells #[.string x.x_, .int .i64 x.r_, .int .i64 x.v_, .slice x.y_.A x.y_.l.length x.y_.c, .slice x.g_.A x.g_.l.length x.g_.c, .slice x.t_.A x.t_.l.length x.t_.c, .slice x.h_.A x.h_.l.length x.h_.c] 27) = a1 := ⟨_, rfl⟩
 have b1 : Below w.heap.size w a1 := hw1 ▸ (Below.refl _ w).alloc (Nat.le_refl _) _
 have k1 : Blk a1 w.heap.size 27 [.string x.x_, .int .i64 x.r_, .int .i64 x.v_, .slice x.y_.A x.y_.l.length x.y_.c, .slice x.g_.A x.g_.l.length x.g_.c, .slice x.t_.A x.t_.l.length x.t_.c, .slice x.h_.A x.h_.l.length x.h_.c] := hw1 ▸ Blk.new w _ _
 obtain ⟨a2, hw2⟩ : ∃ a2, a1.alloc (.cells #[.int .i64 0, .int .i64 0, .string ⟨#[]⟩, .string ⟨#[]⟩, .slice none 0 0, .slice none 0 0, .slice none 0 0, .string ⟨#[]⟩, .int .i64 0, .slice none 0 0, .slice none 0 0, .slice none 0 0] 67) = a2 := ⟨_, rfl⟩
 have b2 : Below a1.heap.size a1 a2 := hw2 ▸ (Below.refl _ a1).alloc (Nat.le_refl _) _
 have k2 : Blk a2 a1.heap.size 67 [.int .i64 0, .int .i64 0, .string ⟨#[]⟩, .string ⟨#[]⟩, .slice none 0 0, .slice none 0 0, .slice none 0 0, .string ⟨#[]⟩, .int .i64 0, .slice none 0 0, .slice none 0 0, .slice none 0 0] := hw2 ▸ Blk.new a1 _ _
 have hX2 : w.heap.size + 1 = a1.heap.size := by rw [← hw1, World.size_alloc]
 have hB1 : Below w.heap.size w a1 := b1
 have hB2 : Below w.heap.size w a2 := hB1.trans (b2.mono hB1.size)
 have k1 := k1.of b2
 have hs2 := hB2.size
 have hs1 := hB1.size
 have ht1 : a1.heap.size ≤ a2.heap.size := b2.size
 have HW1 := zI hw1
 have HW2 := zI hw2
 clear hw1 b1 hw2 b2
 have hx2 := hx.below hB2
 have HF := zI (find_any x p a2 hx2)
 have HG := zI hx2
 have hlk1 := k1.lt
 have hlk2 := k2.lt
 obtain ⟨q0, q1, q2, q3, q4, q5, q6⟩ := k1.all7
 rcases zhX x p n with ⟨hF, hS, hN, hY, -⟩ | ⟨j, s, hF, hj, -, hS, hN, hY, -, -, -, hM⟩ | ⟨j, s, k, y, hF, hj, -, hS, hN, hk, -, hY, -, -, -, hM, -⟩
 · rw [hF, hS, hN, hY]
   rw [hF] at HF
   clear hF hS hN hY hx hx2
   go_enter Tryz.func39, Tryz.ntmps39
   go_upto_region 1 with fail
   rw [HW1.out, HW2.out]
   try rw [hX2]
   go_wp2_with fail
   refine HF.out.mono ?_
   rintro e w3 ⟨rfl, hV⟩
   have K1 := k1.of hV
   have K2 := k2.of hV
   have hs3 := hV.size
   have hB3 := hB2.trans (hV.mono hs2)
   have HG3 := zI (HG.out.below hV)
   obtain ⟨w4, hw4⟩ : ∃ w4, w3.alloc (.cells #[.int .i64 (-1), .int .i64 (-1), .string ⟨#[]⟩, .string ⟨#[]⟩, .slice none 0 0, .slice none 0 0, .slice none 0 0, .string ⟨#[]⟩, .int .i64 0, .slice none 0 0, .slice none 0 0, .slice none 0 0] 67) = w4 := ⟨_, rfl⟩
   have hV4 : Below w3.heap.size w3 w4 := hw4 ▸ (Below.refl _ w3).alloc (Nat.le_refl _) _
   have kP : Blk w4 w3.heap.size 67 [.int .i64 (-1), .int .i64 (-1), .string ⟨#[]⟩, .string ⟨#[]⟩, .slice none 0 0, .slice none 0 0, .slice none 0 0, .string ⟨#[]⟩, .int .i64 0, .slice none 0 0, .slice none 0 0, .slice none 0 0] := hw4 ▸ Blk.new w3 _ _
   have hsz4 : w4.heap.size = w3.heap.size + 1 := by rw [← hw4, World.size_alloc]
   have K1 := K1.of hV4
   have K2 := K2.of hV4
   have HG4 := zI (HG3.out.below hV4)
   have hB4 := hB3.trans (hV4.mono hB3.size)
   have HW4 := zI hw4
   clear hw4
   go_upto_region 2 with fail
   rw [HW4.out]
   obtain ⟨c0, c1, c2, c3, c4, c5, c6, c7, c8, c9, c10, c11⟩ := kP.all12
   obtain ⟨r0, r1, r2, r3, r4, r5, r6, r7, r8, r9, r10, r11⟩ := K2.all12
   obtain ⟨rf0, rf1, rf2, rf3, rf4, rf5, rf6, rf7, rf8, rf9, rf10, rf11⟩ := K2.fz12
   go_wp2
   generalize hwE : World.setCell _ ⟨a1.heap.size, 11, none⟩ _ = wE
   obtain ⟨KE, SE, ZE, BE⟩ := storeRow [(0, .int .i64 (-1)), (1, .int .i64 (-1)), (2, .string ⟨#[]⟩), (3, .string ⟨#[]⟩), (4, .slice none 0 0), (5, .slice none 0 0), (6, .slice none 0 0), (7, .string ⟨#[]⟩), (8, .int .i64 0), (9, .slice none 0 0), (10, .slice none 0 0), (11, .slice none 0 0)] K2 hwE
   simp only [List.foldl_cons, List.foldl_nil, List.set_cons_zero, List.set_cons_succ] at KE
   obtain ⟨ze0, ze1, ze2, ze3, ze4, ze5, ze6, ze7, ze8, ze9, ze10, ze11⟩ := KE.all12
   refine bodyPost_ret (v := .agg #[.int .i64 (-1), .int .i64 (-1), .string ⟨#[]⟩, .string ⟨#[]⟩, .slice none 0 0, .slice none 0 0, .slice none 0 0, .string ⟨#[]⟩, .int .i64 0, .slice none 0 0, .slice none 0 0, .slice none 0 0]) (by simp [results, Tryz.results39, go_sem, ze0, ze1, ze2, ze3, ze4, ze5, ze6, ze7, ze8, ze9, ze10, ze11]) rfl ?_
   exact ⟨rfl, BE _ _ hB4 hs1⟩
 · rw [hF, hS, hN, hY]
   rw [hF] at HF
   have HJ := zI hj
   have HM := zI hM
   have hjl : j < x.y_.l.length := (List.getElem?_eq_some_iff.1 hj).1
   have hjm : x.y_.l.length * 104 ≤ 140737488351232 := hx.w_.len
   clear hF hS hN hY hx hx2 hj hM
   go_enter Tryz.func39, Tryz.ntmps39
   go_upto_region 1 with fail
   rw [HW1.out, HW2.out]
   try rw [hX2]
   go_wp2_with fail
   refine HF.out.mono ?_
   rintro e w3 ⟨rfl, hV⟩
   have K1 := k1.of hV
   have K2 := k2.of hV
   have hs3 := hV.size
   have hB3 := hB2.trans (hV.mono hs2)
   have HG3 := zI (HG.out.below hV)
   obtain ⟨w4, hw4⟩ : ∃ w4, w3.alloc (.cells #[.int .i64 j, .int .i64 (-1), .string ⟨#[]⟩, .string ⟨#[]⟩, .slice none 0 0, .slice none 0 0, .slice none 0 0, .string ⟨#[]⟩, .int .i64 0, .slice none 0 0, .slice none 0 0, .slice none 0 0] 67) = w4 := ⟨_, rfl⟩
   have hV4 : Below w3.heap.size w3 w4 := hw4 ▸ (Below.refl _ w3).alloc (Nat.le_refl _) _
   have kP : Blk w4 w3.heap.size 67 [.int .i64 j, .int .i64 (-1), .string ⟨#[]⟩, .string ⟨#[]⟩, .slice none 0 0, .slice none 0 0, .slice none 0 0, .string ⟨#[]⟩, .int .i64 0, .slice none 0 0, .slice none 0 0, .slice none 0 0] := hw4 ▸ Blk.new w3 _ _
   have hsz4 : w4.heap.size = w3.heap.size + 1 := by rw [← hw4, World.size_alloc]
   have K1 := K1.of hV4
   have K2 := K2.of hV4
   have HG4 := zI (HG3.out.below hV4)
   have hB4 := hB3.trans (hV4.mono hB3.size)
   have HW4 := zI hw4
   clear hw4
   obtain ⟨b, off, hA, hb, hcc⟩ := Rd.elem (n := 5) (fun _ => rfl) (by omega) HG4.out.w_.rd HJ.out
   have d0 : w4.cell? ⟨b, off + j * 5, none⟩ = some (.string s.l_) := hcc 0 _ rfl
   have d1 : w4.cell? ⟨b, off + j * 5 + 1, none⟩ = some (.string s.m_) := hcc 1 _ rfl
   have d2 : w4.cell? ⟨b, off + j * 5 + 2, none⟩ = some (.slice s.p_.A s.p_.l.length s.p_.c) := hcc 2 _ rfl
   have d3 : w4.cell? ⟨b, off + j * 5 + 3, none⟩ = some (.slice s.n_.A s.n_.l.length s.n_.c) := hcc 3 _ rfl
   have d4 : w4.cell? ⟨b, off + j * 5 + 4, none⟩ = some (.slice s.j_.A s.j_.l.length s.j_.c) := hcc 4 _ rfl
   obtain ⟨t0, t1, t2, t3, t4, t5, t6⟩ := K1.all7
   rw [hA] at t3
   clear hcc hA
   obtain ⟨c0, c1, c2, c3, c4, c5, c6, c7, c8, c9, c10, c11⟩ := kP.all12
   obtain ⟨cf0, cf1, cf2, cf3, cf4, cf5, cf6, cf7, cf8, cf9, cf10, cf11⟩ := kP.fz12
   go_upto_region 2 with fail
   rw [HW4.out]
   go_upto_region 5 with fail
   generalize hw5 : World.setCell _ ⟨w3.heap.size, 6, none⟩ _ = w5
   obtain ⟨kP5, S5, Z5, B5⟩ := storeRow [(2, .string s.l_), (3, .string s.m_), (4, .slice s.p_.A s.p_.l.length s.p_.c), (5, .slice s.n_.A s.n_.l.length s.n_.c), (6, .slice s.j_.A s.j_.l.length s.j_.c)] kP hw5
   simp only [List.foldl_cons, List.foldl_nil, List.set_cons_zero, List.set_cons_succ] at kP5
   have hne1 : w.heap.size ≠ w3.heap.size := by have := K1.lt; omega
   have hne2 : a1.heap.size ≠ w3.heap.size := by omega
   have K1 : Blk w5 w.heap.size 27 [.string x.x_, .int .i64 x.r_, .int .i64 x.v_, .slice x.y_.A x.y_.l.length x.y_.c, .slice x.g_.A x.g_.l.length x.g_.c, .slice x.t_.A x.t_.l.length x.t_.c, .slice x.h_.A x.h_.l.length x.h_.c] := (S5 _ hne1).trans K1
   have K2 : Blk w5 a1.heap.size 67 [.int .i64 0, .int .i64 0, .string ⟨#[]⟩, .string ⟨#[]⟩, .slice none 0 0, .slice none 0 0, .slice none 0 0, .string ⟨#[]⟩, .int .i64 0, .slice none 0 0, .slice none 0 0, .slice none 0 0] := (S5 _ hne2).trans K2
   have hB5 : Below w.heap.size w w5 := B5 _ _ hB4 (by omega)
   have hV5 : Below w3.heap.size w3 w5 := B5 _ _ hV4 (Nat.le_refl _)
   have hs5 := hB5.size
   have HG5 := zI (HG3.out.below hV5)
   have HS5 := zI (snap_any s n w5 (HG5.out.w_.el s (mG HJ.out)).f_)
   rw [HM.out] at HS5
   clear c0 c1 c2 c3 c4 c5 c6 c7 c8 c9 c10 c11 cf0 cf1 cf2 cf3 cf4 cf5 cf6 cf7 cf8 cf9 cf10 cf11 d0 d1 d2 d3 d4 t0 t1 t2 t3 t4 t5 t6 hw5
   obtain ⟨c0, c1, c2, c3, c4, c5, c6, c7, c8, c9, c10, c11⟩ := kP5.all12
   obtain ⟨cf0, cf1, cf2, cf3, cf4, cf5, cf6, cf7, cf8, cf9, cf10, cf11⟩ := kP5.fz12
   go_wp2_with fail
   refine HS5.out.mono ?_
   rintro e w6 ⟨rfl, hV6⟩
   have kP6 := kP5.of hV6
   have K1 := K1.of hV6
   have K2 := K2.of hV6
   have hB6 := hB5.trans (hV6.mono hs5)
   have hs6 := hV6.size
   have hV36 := hV5.trans (hV6.mono hV5.size)
   have HG6 := zI (HG3.out.below hV36)
   clear c0 c1 c2 c3 c4 c5 c6 c7 c8 c9 c10 c11 cf0 cf1 cf2 cf3 cf4 cf5 cf6 cf7 cf8 cf9 cf10 cf11
   obtain ⟨c0, c1, c2, c3, c4, c5, c6, c7, c8, c9, c10, c11⟩ := kP6.all12
   obtain ⟨cf0, cf1, cf2, cf3, cf4, cf5, cf6, cf7, cf8, cf9, cf10, cf11⟩ := kP6.fz12
   go_upto_region 8 with fail
   generalize hw7 : World.setCell _ ⟨w3.heap.size, 1, none⟩ _ = w7
   obtain ⟨kP7, S7, Z7, B7⟩ := storeRow [(1, .int .i64 (-1))] kP6 hw7
   simp only [List.foldl_cons, List.foldl_nil, List.set_cons_zero, List.set_cons_succ] at kP7
   have K2 : Blk w7 a1.heap.size 67 [.int .i64 0, .int .i64 0, .string ⟨#[]⟩, .string ⟨#[]⟩, .slice none 0 0, .slice none 0 0, .slice none 0 0, .string ⟨#[]⟩, .int .i64 0, .slice none 0 0, .slice none 0 0, .slice none 0 0] := (S7 _ hne2).trans K2
   have hB7 : Below w.heap.size w w7 := B7 _ _ hB6 (by omega)
   clear hw7 c0 c1 c2 c3 c4 c5 c6 c7 c8 c9 c10 c11 cf0 cf1 cf2 cf3 cf4 cf5 cf6 cf7 cf8 cf9 cf10 cf11
   obtain ⟨c0, c1, c2, c3, c4, c5, c6, c7, c8, c9, c10, c11⟩ := kP7.all12
   obtain ⟨r0, r1, r2, r3, r4, r5, r6, r7, r8, r9, r10, r11⟩ := K2.all12
   obtain ⟨rf0, rf1, rf2, rf3, rf4, rf5, rf6, rf7, rf8, rf9, rf10, rf11⟩ := K2.fz12
   go_wp2
   generalize hwE : World.setCell _ ⟨a1.heap.size, 11, none⟩ _ = wE
   obtain ⟨KE, SE, ZE, BE⟩ := storeRow [(0, .int .i64 j), (1, .int .i64 (-1)), (2, .string s.l_), (3, .string s.m_), (4, .slice s.p_.A s.p_.l.length s.p_.c), (5, .slice s.n_.A s.n_.l.length s.n_.c), (6, .slice s.j_.A s.j_.l.length s.j_.c), (7, .string ⟨#[]⟩), (8, .int .i64 0), (9, .slice none 0 0), (10, .slice none 0 0), (11, .slice none 0 0)] K2 hwE
   simp only [List.foldl_cons, List.foldl_nil, List.set_cons_zero, List.set_cons_succ] at KE
   obtain ⟨ze0, ze1, ze2, ze3, ze4, ze5, ze6, ze7, ze8, ze9, ze10, ze11⟩ := KE.all12
   refine bodyPost_ret (v := .agg #[.int .i64 j, .int .i64 (-1), .string s.l_, .string s.m_, .slice s.p_.A s.p_.l.length s.p_.c, .slice s.n_.A s.n_.l.length s.n_.c, .slice s.j_.A s.j_.l.length s.j_.c, .string ⟨#[]⟩, .int .i64 0, .slice none 0 0, .slice none 0 0, .slice none 0 0]) (by simp [results, Tryz.results39, go_sem, ze0, ze1, ze2, ze3, ze4, ze5, ze6, ze7, ze8, ze9, ze10, ze11]) rfl ?_
   exact ⟨rfl, BE _ _ hB7 hs1⟩
 · rw [hF, hS, hN, hY]
   rw [hF] at HF
   have HJ := zI hj
   have HM := zI hM
   have HK := zI hk
   have hjl : j < x.y_.l.length := (List.getElem?_eq_some_iff.1 hj).1
   have hkl : k < s.n_.l.length := (List.getElem?_eq_some_iff.1 hk).1
   have hjm : x.y_.l.length * 104 ≤ 140737488351232 := hx.w_.len
   have hkm : s.n_.l.length * 96 ≤ 140737488351232 := (hx.w_.el s (mG hj)).f_.len
   clear hF hS hN hY hx hx2 hj hM hk
   go_enter Tryz.func39, Tryz.ntmps39
   go_upto_region 1 with fail
   rw [HW1.out, HW2.out]
   try rw [hX2]
   go_wp2_with fail
   refine HF.out.mono ?_
   rintro e w3 ⟨rfl, hV⟩
   have K1 := k1.of hV
   have K2 := k2.of hV
   have hs3 := hV.size
   have hB3 := hB2.trans (hV.mono hs2)
   have HG3 := zI (HG.out.below hV)
   obtain ⟨w4, hw4⟩ : ∃ w4, w3.alloc (.cells #[.int .i64 j, .int .i64 (-1), .string ⟨#[]⟩, .string ⟨#[]⟩, .slice none 0 0, .slice none 0 0, .slice none 0 0, .string ⟨#[]⟩, .int .i64 0, .slice none 0 0, .slice none 0 0, .slice none 0 0] 67) = w4 := ⟨_, rfl⟩
   have hV4 : Below w3.heap.size w3 w4 := hw4 ▸ (Below.refl _ w3).alloc (Nat.le_refl _) _
   have kP : Blk w4 w3.heap.size 67 [.int .i64 j, .int .i64 (-1), .string ⟨#[]⟩, .string ⟨#[]⟩, .slice none 0 0, .slice none 0 0, .slice none 0 0, .string ⟨#[]⟩, .int .i64 0, .slice none 0 0, .slice none 0 0, .slice none 0 0] := hw4 ▸ Blk.new w3 _ _
   have hsz4 : w4.heap.size = w3.heap.size + 1 := by rw [← hw4, World.size_alloc]
   have K1 := K1.of hV4
   have K2 := K2.of hV4
   have HG4 := zI (HG3.out.below hV4)
   have hB4 := hB3.trans (hV4.mono hB3.size)
   have HW4 := zI hw4
   clear hw4
   obtain ⟨b, off, hA, hb, hcc⟩ := Rd.elem (n := 5) (fun _ => rfl) (by omega) HG4.out.w_.rd HJ.out
   have d0 : w4.cell? ⟨b, off + j * 5, none⟩ = some (.string s.l_) := hcc 0 _ rfl
   have d1 : w4.cell? ⟨b, off + j * 5 + 1, none⟩ = some (.string s.m_) := hcc 1 _ rfl
   have d2 : w4.cell? ⟨b, off + j * 5 + 2, none⟩ = some (.slice s.p_.A s.p_.l.length s.p_.c) := hcc 2 _ rfl
   have d3 : w4.cell? ⟨b, off + j * 5 + 3, none⟩ = some (.slice s.n_.A s.n_.l.length s.n_.c) := hcc 3 _ rfl
   have d4 : w4.cell? ⟨b, off + j * 5 + 4, none⟩ = some (.slice s.j_.A s.j_.l.length s.j_.c) := hcc 4 _ rfl
   obtain ⟨t0, t1, t2, t3, t4, t5, t6⟩ := K1.all7
   rw [hA] at t3
   clear hcc hA
   obtain ⟨c0, c1, c2, c3, c4, c5, c6, c7, c8, c9, c10, c11⟩ := kP.all12
   obtain ⟨cf0, cf1, cf2, cf3, cf4, cf5, cf6, cf7, cf8, cf9, cf10, cf11⟩ := kP.fz12
   go_upto_region 2 with fail
   rw [HW4.out]
   go_upto_region 5 with fail
   generalize hw5 : World.setCell _ ⟨w3.heap.size, 6, none⟩ _ = w5
   obtain ⟨kP5, S5, Z5, B5⟩ := storeRow [(2, .string s.l_), (3, .string s.m_), (4, .slice s.p_.A s.p_.l.length s.p_.c), (5, .slice s.n_.A s.n_.l.length s.n_.c), (6, .slice s.j_.A s.j_.l.length s.j_.c)] kP hw5
   simp only [List.foldl_cons, List.foldl_nil, List.set_cons_zero, List.set_cons_succ] at kP5
   have hne1 : w.heap.size ≠ w3.heap.size := by have := K1.lt; omega
   have hne2 : a1.heap.size ≠ w3.heap.size := by omega
   have K1 : Blk w5 w.heap.size 27 [.string x.x_, .int .i64 x.r_, .int .i64 x.v_, .slice x.y_.A x.y_.l.length x.y_.c, .slice x.g_.A x.g_.l.length x.g_.c, .slice x.t_.A x.t_.l.length x.t_.c, .slice x.h_.A x.h_.l.length x.h_.c] := (S5 _ hne1).trans K1
   have K2 : Blk w5 a1.heap.size 67 [.int .i64 0, .int .i64 0, .string ⟨#[]⟩, .string ⟨#[]⟩, .slice none 0 0, .slice none 0 0, .slice none 0 0, .string ⟨#[]⟩, .int .i64 0, .slice none 0 0, .slice none 0 0, .slice none 0 0] := (S5 _ hne2).trans K2
   have hB5 : Below w.heap.size w w5 := B5 _ _ hB4 (by omega)
   have hV5 : Below w3.heap.size w3 w5 := B5 _ _ hV4 (Nat.le_refl _)
   have hs5 := hB5.size
   have HG5 := zI (HG3.out.below hV5)
   have HS5 := zI (snap_any s n w5 (HG5.out.w_.el s (mG HJ.out)).f_)
   rw [HM.out] at HS5
   clear c0 c1 c2 c3 c4 c5 c6 c7 c8 c9 c10 c11 cf0 cf1 cf2 cf3 cf4 cf5 cf6 cf7 cf8 cf9 cf10 cf11 d0 d1 d2 d3 d4 t0 t1 t2 t3 t4 t5 t6 hw5
   obtain ⟨c0, c1, c2, c3, c4, c5, c6, c7, c8, c9, c10, c11⟩ := kP5.all12
   obtain ⟨cf0, cf1, cf2, cf3, cf4, cf5, cf6, cf7, cf8, cf9, cf10, cf11⟩ := kP5.fz12
   go_wp2_with fail
   refine HS5.out.mono ?_
   rintro e w6 ⟨rfl, hV6⟩
   have kP6 := kP5.of hV6
   have K1 := K1.of hV6
   have K2 := K2.of hV6
   have hB6 := hB5.trans (hV6.mono hs5)
   have hs6 := hV6.size
   have hV36 := hV5.trans (hV6.mono hV5.size)
   have HG6 := zI (HG3.out.below hV36)
   clear c0 c1 c2 c3 c4 c5 c6 c7 c8 c9 c10 c11 cf0 cf1 cf2 cf3 cf4 cf5 cf6 cf7 cf8 cf9 cf10 cf11
   obtain ⟨c0, c1, c2, c3, c4, c5, c6, c7, c8, c9, c10, c11⟩ := kP6.all12
   obtain ⟨cf0, cf1, cf2, cf3, cf4, cf5, cf6, cf7, cf8, cf9, cf10, cf11⟩ := kP6.fz12
   go_upto_region 6 with fail
   generalize hw7 : World.setCell _ ⟨w3.heap.size, 1, none⟩ _ = w7
   obtain ⟨kP7, S7, Z7, B7⟩ := storeRow [(1, .int .i64 k)] kP6 hw7
   simp only [List.foldl_cons, List.foldl_nil, List.set_cons_zero, List.set_cons_succ] at kP7
   have K2 : Blk w7 a1.heap.size 67 [.int .i64 0, .int .i64 0, .string ⟨#[]⟩, .string ⟨#[]⟩, .slice none 0 0, .slice none 0 0, .slice none 0 0, .string ⟨#[]⟩, .int .i64 0, .slice none 0 0, .slice none 0 0, .slice none 0 0] := (S7 _ hne2).trans K2
   have hB7 : Below w.heap.size w w7 := B7 _ _ hB6 (by omega)
   have hV7 : Below w3.heap.size w3 w7 := B7 _ _ hV36 (Nat.le_refl _)
   have HG7 := zI (HG3.out.below hV7)
   clear hw7 c0 c1 c2 c3 c4 c5 c6 c7 c8 c9 c10 c11 cf0 cf1 cf2 cf3 cf4 cf5 cf6 cf7 cf8 cf9 cf10 cf11
   obtain ⟨c0, c1, c2, c3, c4, c5, c6, c7, c8, c9, c10, c11⟩ := kP7.all12
   obtain ⟨cf0, cf1, cf2, cf3, cf4, cf5, cf6, cf7, cf8, cf9, cf10, cf11⟩ := kP7.fz12
   obtain ⟨b2, off2, hA2, hb2, hcc2⟩ := Rd.elem (n := 5) (fun _ => rfl) (by omega) (HG7.out.w_.el s (mG HJ.out)).f_.rd HK.out
   have d0 : w7.cell? ⟨b2, off2 + k * 5, none⟩ = some (.string y.x_) := hcc2 0 _ rfl
   have d1 : w7.cell? ⟨b2, off2 + k * 5 + 1, none⟩ = some (.int .i64 y.z_) := hcc2 1 _ rfl
   have d2 : w7.cell? ⟨b2, off2 + k * 5 + 2, none⟩ = some (.slice y.p_.A y.p_.l.length y.p_.c) := hcc2 2 _ rfl
   have d3 : w7.cell? ⟨b2, off2 + k * 5 + 3, none⟩ = some (.slice y.u_.A y.u_.l.length y.u_.c) := hcc2 3 _ rfl
   have d4 : w7.cell? ⟨b2, off2 + k * 5 + 4, none⟩ = some (.slice y.j_.A y.j_.l.length y.j_.c) := hcc2 4 _ rfl
   rw [hA2] at c5
   clear hcc2
   go_upto_region 8 with fail
   generalize hw8 : World.setCell _ ⟨w3.heap.size, 11, none⟩ _ = w8
   obtain ⟨kP8, S8, Z8, B8⟩ := storeRow [(7, .string y.x_), (8, .int .i64 y.z_), (9, .slice y.p_.A y.p_.l.length y.p_.c), (10, .slice y.u_.A y.u_.l.length y.u_.c), (11, .slice y.j_.A y.j_.l.length y.j_.c)] kP7 hw8
   simp only [List.foldl_cons, List.foldl_nil, List.set_cons_zero, List.set_cons_succ] at kP8
   have K2 : Blk w8 a1.heap.size 67 [.int .i64 0, .int .i64 0, .string ⟨#[]⟩, .string ⟨#[]⟩, .slice none 0 0, .slice none 0 0, .slice none 0 0, .string ⟨#[]⟩, .int .i64 0, .slice none 0 0, .slice none 0 0, .slice none 0 0] := (S8 _ hne2).trans K2
   have hB8 : Below w.heap.size w w8 := B8 _ _ hB7 (by omega)
   clear hw8 c0 c1 c2 c3 c4 c5 c6 c7 c8 c9 c10 c11 cf0 cf1 cf2 cf3 cf4 cf5 cf6 cf7 cf8 cf9 cf10 cf11 d0 d1 d2 d3 d4
   obtain ⟨c0, c1, c2, c3, c4, c5, c6, c7, c8, c9, c10, c11⟩ := kP8.all12
   obtain ⟨r0, r1, r2, r3, r4, r5, r6, r7, r8, r9, r10, r11⟩ := K2.all12
   obtain ⟨rf0, rf1, rf2, rf3, rf4, rf5, rf6, rf7, rf8, rf9, rf10, rf11⟩ := K2.fz12
   go_wp2
   generalize hwE : World.setCell _ ⟨a1.heap.size, 11, none⟩ _ = wE
   obtain ⟨KE, SE, ZE, BE⟩ := storeRow [(0, .int .i64 j), (1, .int .i64 k), (2, .string s.l_), (3, .string s.m_), (4, .slice s.p_.A s.p_.l.length s.p_.c), (5, .slice (some ⟨b2, off2, none⟩) s.n_.l.length s.n_.c), (6, .slice s.j_.A s.j_.l.length s.j_.c), (7, .string y.x_), (8, .int .i64 y.z_), (9, .slice y.p_.A y.p_.l.length y.p_.c), (10, .slice y.u_.A y.u_.l.length y.u_.c), (11, .slice y.j_.A y.j_.l.length y.j_.c)] K2 hwE
   simp only [List.foldl_cons, List.foldl_nil, List.set_cons_zero, List.set_cons_succ] at KE
   obtain ⟨ze0, ze1, ze2, ze3, ze4, ze5, ze6, ze7, ze8, ze9, ze10, ze11⟩ := KE.all12
   refine bodyPost_ret (v := .agg #[.int .i64 j, .int .i64 k, .string s.l_, .string s.m_, .slice s.p_.A s.p_.l.length s.p_.c, .slice (some ⟨b2, off2, none⟩) s.n_.l.length s.n_.c, .slice s.j_.A s.j_.l.length s.j_.c, .string y.x_, .int .i64 y.z_, .slice y.p_.A y.p_.l.length y.p_.c, .slice y.u_.A y.u_.l.length y.u_.c, .slice y.j_.A y.j_.l.length y.j_.c]) (by simp [results, Tryz.results39, go_sem, ze0, ze1, ze2, ze3, ze4, ze5, ze6, ze7, ze8, ze9, ze10, ze11]) rfl ?_
   exact ⟨by unfold placeC; rw [hA2], BE _ _ hB8 hs1⟩
set_option maxHeartbeats 2000000
def ptrN (x : MT_) (p n : ByteArray) : Option Addr := if atN x p n < 0 then none else (atS x p).n_.A.map fun a => ⟨a.block, a.off + (atN x p n).toNat * 5, none⟩
def heldM (x : MT_) (p n : ByteArray) : Bool := decide (0 ≤ atN x p n) && decide (0 < (atY x p n).u_.l.length)
theorem hfind_any (x : MT_) (p n : ByteArray) (w : World) (hx : x.Good w) :
 Calls Tryz.prog 81 #[.agg x.cells.toArray, .string p, .string n] w fun e w' => e = .returned (.pointer (ptrN x p n)) ∧ Below w.heap.size w w' := by
 obtain ⟨a1, hw1⟩ : ∃ a1, w.alloc (.cells #[.string x.x_, .int .i64 x.r_, .int .i64 x.v_, .slice x.y_.A x.y_.l.length x.y_.c, .slice x.g_.A x.g_.l.length x.g_.c, .slice x.t_.A x.t_.l.length x.t_.c, .slice x.h_.A x.h_.l.length x.h_.c] 27) = a1 := ⟨_, rfl⟩
 have b1 : Below w.heap.size w a1 := hw1 ▸ (Below.refl _ w).alloc (Nat.le_refl _) _
 have k1 : Blk a1 w.heap.size 27 [.string x.x_, .int .i64 x.r_, .int .i64 x.v_, .slice x.y_.A x.y_.l.length x.y_.c, .slice x.g_.A x.g_.l.length x.g_.c, .slice x.t_.A x.t_.l.length x.t_.c, .slice x.h_.A x.h_.l.length x.h_.c] := hw1 ▸ Blk.new w _ _
 have hB1 : Below w.heap.size w a1 := b1
 have hs1 := hB1.size
 have HW1 := zI hw1
 clear hw1 b1
 have hx1 := hx.below hB1
 have HF := zI (find_any x p a1 hx1)
 have HG := zI hx1
 have hlk1 := k1.lt
 obtain ⟨q0, q1, q2, q3, q4, q5, q6⟩ := k1.all7
 obtain ⟨P, hP⟩ : ∃ P, ptrN x p n = P := ⟨_, rfl⟩
 rw [hP]
 rcases zhX x p n with ⟨hF, hS, hN, hY, -⟩ | ⟨j, s, hF, hj, -, hS, hN, hY, -, -, -, hM⟩ | ⟨j, s, k, y, hF, hj, -, hS, hN, hk, -, hY, -, -, -, hM, -⟩
 · obtain rfl : P = none := by rw [← hP]; unfold ptrN; rw [hN]; rfl
   rw [hF] at HF
   clear hF hS hN hY hP hx hx1
   go_enter Tryz.func81, Tryz.ntmps81
   go_upto_region 1 with fail
   rw [HW1.out]
   go_wp2_with fail
   refine HF.out.mono ?_
   rintro e w3 ⟨rfl, hV⟩
   have K1 := k1.of hV
   have hs3 := hV.size
   have hB3 := hB1.trans (hV.mono hs1)
   have HG3 := zI (HG.out.below hV)
   clear q0 q1 q2 q3 q4 q5 q6
   go_wp2
   go_ret
   exact ⟨rfl, hB3⟩
 · obtain rfl : P = none := by rw [← hP]; unfold ptrN; rw [hN]; rfl
   rw [hF] at HF
   have HJ := zI hj
   have HM := zI hM
   have hjl : j < x.y_.l.length := (List.getElem?_eq_some_iff.1 hj).1
   have hsl := HG.out.w_.len
   clear hF hS hN hY hP hx hx1 hj hM
   go_enter Tryz.func81, Tryz.ntmps81
   go_upto_region 1 with fail
   rw [HW1.out]
   go_wp2_with fail
   refine HF.out.mono ?_
   rintro e w3 ⟨rfl, hV⟩
   have K1 := k1.of hV
   have hs3 := hV.size
   have hB3 := hB1.trans (hV.mono hs1)
   have HG3 := zI (HG.out.below hV)
   clear q0 q1 q2 q3 q4 q5 q6
   obtain ⟨b, off, hA, hb, hcc⟩ := Rd.elem (n := 5) (fun _ => rfl) (by omega) HG3.out.w_.rd HJ.out
   have d0 : w3.cell? ⟨b, off + j * 5, none⟩ = some (.string s.l_) := hcc 0 _ rfl
   have d1 : w3.cell? ⟨b, off + j * 5 + 1, none⟩ = some (.string s.m_) := hcc 1 _ rfl
   have d2 : w3.cell? ⟨b, off + j * 5 + 2, none⟩ = some (.slice s.p_.A s.p_.l.length s.p_.c) := hcc 2 _ rfl
   have d3 : w3.cell? ⟨b, off + j * 5 + 3, none⟩ = some (.slice s.n_.A s.n_.l.length s.n_.c) := hcc 3 _ rfl
   have d4 : w3.cell? ⟨b, off + j * 5 + 4, none⟩ = some (.slice s.j_.A s.j_.l.length s.j_.c) := hcc 4 _ rfl
   obtain ⟨t0, t1, t2, t3, t4, t5, t6⟩ := K1.all7
   rw [hA] at t3
   clear hcc hA
   obtain ⟨w4, hw4⟩ : ∃ w4, w3.alloc (.cells #[.string s.l_, .string s.m_, .slice s.p_.A s.p_.l.length s.p_.c, .slice s.n_.A s.n_.l.length s.n_.c, .slice s.j_.A s.j_.l.length s.j_.c] 52) = w4 := ⟨_, rfl⟩
   have hV4 : Below w3.heap.size w3 w4 := hw4 ▸ (Below.refl _ w3).alloc (Nat.le_refl _) _
   have kS : Blk w4 w3.heap.size 52 [.string s.l_, .string s.m_, .slice s.p_.A s.p_.l.length s.p_.c, .slice s.n_.A s.n_.l.length s.n_.c, .slice s.j_.A s.j_.l.length s.j_.c] := hw4 ▸ Blk.new w3 _ _
   have hB4 := hB3.trans (hV4.mono hB3.size)
   have HG4 := zI (HG3.out.below hV4)
   have HS4 := zI (snap_any s n w4 (HG4.out.w_.el s (mG HJ.out)).f_)
   rw [HM.out] at HS4
   have HW4 := zI hw4
   clear hw4
   go_upto_region 5 with fail
   rw [HW4.out]
   obtain ⟨c0, c1, c2, c3, c4⟩ := kS.all5
   go_wp2_with fail
   refine HS4.out.mono ?_
   rintro e w6 ⟨rfl, hV6⟩
   have kS6 := kS.of hV6
   have hB6 := hB4.trans (hV6.mono hB4.size)
   have HG6 := zI (HG4.out.below hV6)
   clear c0 c1 c2 c3 c4 d0 d1 d2 d3 d4 t0 t1 t2 t3 t4 t5 t6
   obtain ⟨m0, m1, m2, m3, m4⟩ := kS6.all5
   go_wp2
   go_ret
   exact ⟨rfl, hB6⟩
 · rw [hF] at HF
   have HJ := zI hj
   have HM := zI hM
   have HK := zI hk
   have hjl : j < x.y_.l.length := (List.getElem?_eq_some_iff.1 hj).1
   have hkl : k < s.n_.l.length := (List.getElem?_eq_some_iff.1 hk).1
   have hsl := HG.out.w_.len
   have hql := (HG.out.w_.el s (mG hj)).f_.len
   have HP : Hid (∀ b off, s.n_.A = some ⟨b, off, none⟩ → P = some ⟨b, off + k * 5, none⟩) := zI fun b off h => by
    rw [← hP]
    unfold ptrN
    rw [hN, if_neg (by omega), hS, h]
    rfl
   clear hF hS hN hY hP hx hx1 hj hM hk
   go_enter Tryz.func81, Tryz.ntmps81
   go_upto_region 1 with fail
   rw [HW1.out]
   go_wp2_with fail
   refine HF.out.mono ?_
   rintro e w3 ⟨rfl, hV⟩
   have K1 := k1.of hV
   have hs3 := hV.size
   have hB3 := hB1.trans (hV.mono hs1)
   have HG3 := zI (HG.out.below hV)
   clear q0 q1 q2 q3 q4 q5 q6
   obtain ⟨b, off, hA, hb, hcc⟩ := Rd.elem (n := 5) (fun _ => rfl) (by omega) HG3.out.w_.rd HJ.out
   have d0 : w3.cell? ⟨b, off + j * 5, none⟩ = some (.string s.l_) := hcc 0 _ rfl
   have d1 : w3.cell? ⟨b, off + j * 5 + 1, none⟩ = some (.string s.m_) := hcc 1 _ rfl
   have d2 : w3.cell? ⟨b, off + j * 5 + 2, none⟩ = some (.slice s.p_.A s.p_.l.length s.p_.c) := hcc 2 _ rfl
   have d3 : w3.cell? ⟨b, off + j * 5 + 3, none⟩ = some (.slice s.n_.A s.n_.l.length s.n_.c) := hcc 3 _ rfl
   have d4 : w3.cell? ⟨b, off + j * 5 + 4, none⟩ = some (.slice s.j_.A s.j_.l.length s.j_.c) := hcc 4 _ rfl
   obtain ⟨t0, t1, t2, t3, t4, t5, t6⟩ := K1.all7
   rw [hA] at t3
   clear hcc hA
   obtain ⟨w4, hw4⟩ : ∃ w4, w3.alloc (.cells #[.string s.l_, .string s.m_, .slice s.p_.A s.p_.l.length s.p_.c, .slice s.n_.A s.n_.l.length s.n_.c, .slice s.j_.A s.j_.l.length s.j_.c] 52) = w4 := ⟨_, rfl⟩
   have hV4 : Below w3.heap.size w3 w4 := hw4 ▸ (Below.refl _ w3).alloc (Nat.le_refl _) _
   have kS : Blk w4 w3.heap.size 52 [.string s.l_, .string s.m_, .slice s.p_.A s.p_.l.length s.p_.c, .slice s.n_.A s.n_.l.length s.n_.c, .slice s.j_.A s.j_.l.length s.j_.c] := hw4 ▸ Blk.new w3 _ _
   have hB4 := hB3.trans (hV4.mono hB3.size)
   have HG4 := zI (HG3.out.below hV4)
   have HS4 := zI (snap_any s n w4 (HG4.out.w_.el s (mG HJ.out)).f_)
   rw [HM.out] at HS4
   have HW4 := zI hw4
   clear hw4
   go_upto_region 5 with fail
   rw [HW4.out]
   obtain ⟨c0, c1, c2, c3, c4⟩ := kS.all5
   go_wp2_with fail
   refine HS4.out.mono ?_
   rintro e w6 ⟨rfl, hV6⟩
   have kS6 := kS.of hV6
   have hB6 := hB4.trans (hV6.mono hB4.size)
   have HG6 := zI (HG4.out.below hV6)
   clear c0 c1 c2 c3 c4 d0 d1 d2 d3 d4 t0 t1 t2 t3 t4 t5 t6
   obtain ⟨m0, m1, m2, m3, m4⟩ := kS6.all5
   obtain ⟨bk, ok, hAk, hbk, hck⟩ := Rd.elem (n := 5) (fun _ => rfl) (by omega) (HG6.out.w_.el s (mG HJ.out)).f_.rd HK.out
   obtain rfl := HP.out bk ok hAk
   rw [hAk] at m3
   clear hAk hbk hck
   go_wp2
   go_ret
   exact ⟨rfl, hB6⟩
theorem isHeld18_any (y : Mna) (w : World) : Calls Tryz.prog 80 #[.agg y.cells.toArray] w fun e w' => e = .returned (.bool (decide (0 < y.u_.l.length))) ∧ Below w.heap.size w w' := by
 obtain ⟨a1, hw1⟩ : ∃ a1, w.alloc (.cells #[.string y.x_, .int .i64 y.z_, .slice y.p_.A y.p_.l.length y.p_.c, .slice y.u_.A y.u_.l.length y.u_.c, .slice y.j_.A y.j_.l.length y.j_.c] 49) = a1 := ⟨_, rfl⟩
 have b1 : Below w.heap.size w a1 := hw1 ▸ (Below.refl _ w).alloc (Nat.le_refl _) _
 have k1 : Blk a1 w.heap.size 49 [.string y.x_, .int .i64 y.z_, .slice y.p_.A y.p_.l.length y.p_.c, .slice y.u_.A y.u_.l.length y.u_.c, .slice y.j_.A y.j_.l.length y.j_.c] := hw1 ▸ Blk.new w _ _
 have hB1 : Below w.heap.size w a1 := b1
 have hs1 := hB1.size
 have HW1 := zI hw1
 clear hw1 b1
 obtain ⟨q0, q1, q2, q3, q4⟩ := k1.all5
 go_enter Tryz.func80, Tryz.ntmps80
 go_upto_region 1 with fail
 rw [HW1.out]
 go_wp2
 go_ret
 exact ⟨rfl, hB1⟩
theorem held18_any (x : MT_) (p n : ByteArray) (w : World) (hx : x.Good w) :
 Calls Tryz.prog 35 #[.agg x.cells.toArray, .string p, .string n] w fun e w' => e = .returned (.bool (heldM x p n)) ∧ Below w.heap.size w w' := by
 obtain ⟨a1, hw1⟩ : ∃ a1, w.alloc (.cells #[.string x.x_, .int .i64 x.r_, .int .i64 x.v_, .slice x.y_.A x.y_.l.length x.y_.c, .slice x.g_.A x.g_.l.length x.g_.c, .slice x.t_.A x.t_.l.length x.t_.c, .slice x.h_.A x.h_.l.length x.h_.c] 27) = a1 := ⟨_, rfl⟩
 have b1 : Below w.heap.size w a1 := hw1 ▸ (Below.refl _ w).alloc (Nat.le_refl _) _
 have k1 : Blk a1 w.heap.size 27 [.string x.x_, .int .i64 x.r_, .int .i64 x.v_, .slice x.y_.A x.y_.l.length x.y_.c, .slice x.g_.A x.g_.l.length x.g_.c, .slice x.t_.A x.t_.l.length x.t_.c, .slice x.h_.A x.h_.l.length x.h_.c] := hw1 ▸ Blk.new w _ _
 have hB1 : Below w.heap.size w a1 := b1
 have hs1 := hB1.size
 have HW1 := zI hw1
 clear hw1 b1
 have hx1 := hx.below hB1
 have HF := zI (hfind_any x p n a1 hx1)
 have HG := zI hx1
 have HI := zI (fun y W => isHeld18_any y W)
 obtain ⟨q0, q1, q2, q3, q4, q5, q6⟩ := k1.all7
 rcases zhX x p n with ⟨hF, hS, hN, hY, -⟩ | ⟨j, s, hF, hj, -, hS, hN, hY, -, -, -, hM⟩ | ⟨j, s, k, y, hF, hj, -, hS, hN, hk, -, hY, -, -, -, hM, -⟩
 · have hP : ptrN x p n = none := by unfold ptrN; rw [hN]; rfl
   have hH : heldM x p n = false := by unfold heldM; rw [hN]; rfl
   rw [hP] at HF
   rw [hH]
   clear hF hS hN hY hP hH hx hx1
   go_enter Tryz.func35, Tryz.ntmps35
   go_upto_region 1 with fail
   rw [HW1.out]
   go_wp2_with fail
   refine HF.out.mono ?_
   rintro e w3 ⟨rfl, hV⟩
   have hB3 := hB1.trans (hV.mono hs1)
   go_wp2
   go_ret
   exact ⟨rfl, hB3⟩
 · have hP : ptrN x p n = none := by unfold ptrN; rw [hN]; rfl
   have hH : heldM x p n = false := by unfold heldM; rw [hN]; rfl
   rw [hP] at HF
   rw [hH]
   clear hF hS hN hY hP hH hx hx1
   go_enter Tryz.func35, Tryz.ntmps35
   go_upto_region 1 with fail
   rw [HW1.out]
   go_wp2_with fail
   refine HF.out.mono ?_
   rintro e w3 ⟨rfl, hV⟩
   have hB3 := hB1.trans (hV.mono hs1)
   go_wp2
   go_ret
   exact ⟨rfl, hB3⟩
 · have hH : heldM x p n = decide (0 < y.u_.l.length) := by unfold heldM; rw [hN, hY, decide_eq_true (by omega), Bool.true_and]
   rw [hH]
   have HJ := zI hj
   have HK := zI hk
   have hkl : k < s.n_.l.length := (List.getElem?_eq_some_iff.1 hk).1
   have hql := (HG.out.w_.el s (mG hj)).f_.len
   obtain ⟨bk, ok, hAk, hbk, hck⟩ := Rd.elem (n := 5) (fun _ => rfl) (by omega) (HG.out.w_.el s (mG hj)).f_.rd hk
   have hP : ptrN x p n = some ⟨bk, ok + k * 5, none⟩ := by
    unfold ptrN
    rw [hN, if_neg (by omega), hS, hAk]
    rfl
   rw [hP] at HF
   have HCK : Hid (∀ W, Below a1.heap.size a1 W → ∀ i v, y.cells[i]? = some v → W.cell? ⟨bk, ok + k * 5 + i, none⟩ = some v) := zI fun W hW i v h => (hW.cell (p := ⟨bk, ok + k * 5 + i, none⟩) hbk).trans (by rw [Nat.add_assoc]; exact hck i v h)
   clear hF hS hN hY hP hH hx hx1 hj hk hM hAk hbk hck
   go_enter Tryz.func35, Tryz.ntmps35
   go_upto_region 1 with fail
   rw [HW1.out]
   go_wp2_with fail
   refine HF.out.mono ?_
   rintro e w3 ⟨rfl, hV⟩
   have hB3 := hB1.trans (hV.mono hs1)
   have d0 : w3.cell? ⟨bk, ok + k * 5, none⟩ = some (.string y.x_) := HCK.out w3 hV 0 _ rfl
   have d1 : w3.cell? ⟨bk, ok + k * 5 + 1, none⟩ = some (.int .i64 y.z_) := HCK.out w3 hV 1 _ rfl
   have d2 : w3.cell? ⟨bk, ok + k * 5 + 2, none⟩ = some (.slice y.p_.A y.p_.l.length y.p_.c) := HCK.out w3 hV 2 _ rfl
   have d3 : w3.cell? ⟨bk, ok + k * 5 + 3, none⟩ = some (.slice y.u_.A y.u_.l.length y.u_.c) := HCK.out w3 hV 3 _ rfl
   have d4 : w3.cell? ⟨bk, ok + k * 5 + 4, none⟩ = some (.slice y.j_.A y.j_.l.length y.j_.c) := HCK.out w3 hV 4 _ rfl
   go_wp2_with fail
   refine (HI.out y w3).mono ?_
   rintro e w4 ⟨rfl, hV4⟩
   go_wp2
   go_ret
   exact ⟨rfl, hB3.trans (hV4.mono hB3.size)⟩
def guidM (x : MT_) (s : MSet) : Int := match s.n_.l.getLast? with
 | none => x.v_
 | some z => max x.v_ (IntKind.i64.wrap (z.z_ + 1))
set_option maxHeartbeats 2000000 in
theorem newGuid_any (x : MT_) (s : MSet) (w : World) (hs : s.Good w) :
 Calls Tryz.prog 40 #[.agg x.cells.toArray, .agg s.cells.toArray] w fun e w' => e = .returned (.int .i64 (guidM x s)) ∧ Below w.heap.size w w' := by
 obtain ⟨a1, hw1⟩ : ∃ a1, w.alloc (.cells #[.string x.x_, .int .i64 x.r_, .int .i64 x.v_, .slice x.y_.A x.y_.l.length x.y_.c, .slice x.g_.A x.g_.l.length x.g_.c, .slice x.t_.A x.t_.l.length x.t_.c, .slice x.h_.A x.h_.l.length x.h_.c] 27) = a1 := ⟨_, rfl⟩
 have b1 : Below w.heap.size w a1 := hw1 ▸ (Below.refl _ w).alloc (Nat.le_refl _) _
 have k1 : Blk a1 w.heap.size 27 [.string x.x_, .int .i64 x.r_, .int .i64 x.v_, .slice x.y_.A x.y_.l.length x.y_.c, .slice x.g_.A x.g_.l.length x.g_.c, .slice x.t_.A x.t_.l.length x.t_.c, .slice x.h_.A x.h_.l.length x.h_.c] := hw1 ▸ Blk.new w _ _
 obtain ⟨a2, hw2⟩ : ∃ a2, a1.alloc (.cells #[.string s.l_, .string s.m_, .slice s.p_.A s.p_.l.length s.p_.c, .slice s.n_.A s.n_.l.length s.n_.c, .slice s.j_.A s.j_.l.length s.j_.c] 52) = a2 := ⟨_, rfl⟩
 have b2 : Below a1.heap.size a1 a2 := hw2 ▸ (Below.refl _ a1).alloc (Nat.le_refl _) _
 have k2 : Blk a2 a1.heap.size 52 [.string s.l_, .string s.m_, .slice s.p_.A s.p_.l.length s.p_.c, .slice s.n_.A s.n_.l.length s.n_.c, .slice s.j_.A s.j_.l.length s.j_.c] := hw2 ▸ Blk.new a1 _ _
 have hX2 : w.heap.size + 1 = a1.heap.size := by rw [← hw1, World.size_alloc]
 have hB1 : Below w.heap.size w a1 := b1
 have hB2 : Below w.heap.size w a2 := hB1.trans (b2.mono hB1.size)
 have k1 := k1.of b2
 have hs2 := hB2.size
 have hs1 := hB1.size
 have ht1 : a1.heap.size ≤ a2.heap.size := b2.size
 have HW1 := zI hw1
 have HW2 := zI hw2
 clear hw1 b1 hw2 b2
 have hlen := hs.f_.len
 rcases hl : s.n_.l.getLast? with _ | z
 · have hn : s.n_.l.length = 0 := by rw [List.getLast?_eq_none_iff.1 hl]; rfl
   rw [show guidM x s = x.v_ by unfold guidM; rw [hl]]
   clear hl hlen hs
   obtain ⟨t0, t1, t2, t3, t4, t5, t6⟩ := k1.all7
   obtain ⟨u0, u1, u2, u3, u4⟩ := k2.all5
   rw [hn] at u3
   go_enter Tryz.func40, Tryz.ntmps40
   go_upto_region 1 with fail
   rw [HW1.out, HW2.out]
   try rw [hX2]
   go_wp2
   go_ret
   exact ⟨rfl, hB2⟩
 · have hz : s.n_.l[s.n_.l.length - 1]? = some z := by rw [← List.getLast?_eq_getElem?]; exact hl
   have hpos : 0 < s.n_.l.length := by have := (List.getElem?_eq_some_iff.1 hz).1; omega
   obtain ⟨m, hm⟩ : ∃ m, s.n_.l.length = m + 1 := ⟨s.n_.l.length - 1, by omega⟩
   rw [show s.n_.l.length - 1 = m by omega] at hz
   obtain ⟨b, off, hA, hb, hcc⟩ := Rd.elem (n := 5) (fun _ => rfl) (by omega) (hs.f_.rd.below hB2) hz
   have d1 : a2.cell? ⟨b, off + m * 5 + 1, none⟩ = some (.int .i64 z.z_) := hcc 1 _ rfl
   rw [show guidM x s = max x.v_ (IntKind.i64.wrap (z.z_ + 1)) by unfold guidM; rw [hl]]
   have hlt1 := k1.lt
   have hlt2 := k2.lt
   obtain ⟨t0, t1, t2, t3, t4, t5, t6⟩ := k1.all7
   obtain ⟨u0, u1, u2, u3, u4⟩ := k2.all5
   rw [hA, hm] at u3
   rw [hm] at hlen
   clear hl hz hcc hs hA hm hpos
   have hw1 : IntKind.i64.wrap (m : Int) = m := IntWalk.i64_in _ (by omega)
   have hlm : (m : Int) < (m : Int) + 1 := by omega
   have hq : ((m : Int) + 1 == 0) = false := beq_eq_false_iff_ne.2 (by omega)
   go_enter Tryz.func40, Tryz.ntmps40
   go_upto_region 1 with fail
   rw [HW1.out, HW2.out]
   try rw [hX2]
   go_upto_region 3 with fail
   refine wp_region_noPanic ?_
   refine zcX 13 (fun W => W.cell? ⟨w.heap.size, 2, none⟩ = some (.int .i64 x.v_) ∧ W.cell? ⟨a1.heap.size, 3, none⟩ = some (.slice (some ⟨b, off, none⟩) (m + 1) s.n_.c) ∧ W.cell? ⟨b, off + m * 5 + 1, none⟩ = some (.int .i64 z.z_)) (by kernel_rfl) ⟨t2, u3, d1⟩ (fun hHeld => ?_)
   refine tkA 16 (i := 0) (oi := ⟨some 11, _, _, _, _, _⟩) rfl hHeld ?_
   try simp only [zP]
   refine tkA 16 (i := 1) (oi := ⟨some 12, _, _, _, _, _⟩) rfl hHeld ?_
   try simp only [zP]
   refine tkA 16 (i := 2) (oi := ⟨some 13, _, _, _, _, _⟩) rfl hHeld ?_
   try simp only [zP]
   refine tkA 16 (i := 3) (oi := ⟨some 14, _, _, _, _, _⟩) rfl hHeld ?_
   try simp only [zP]
   refine tkA 16 (i := 4) (oi := ⟨some 15, _, _, _, _, _⟩) rfl hHeld ?_
   try simp only [zP]
   refine tkA 16 (i := 5) (oi := ⟨some 16, _, _, _, _, _⟩) rfl hHeld ?_
   try simp only [zP]
   refine tkA 16 (i := 6) (oi := ⟨some 17, _, _, _, _, _⟩) rfl hHeld ?_
   try simp only [zP]
   refine tkA 16 (i := 7) (oi := ⟨some 18, _, _, _, _, _⟩) rfl hHeld ?_
   try simp only [zP]
   clear hHeld
   refine zdZ 16 5 1 [(8, 19), (9, 20), (10, 21), (11, 22), (12, 23)] (fun s v w => match s with
    | 19 => v = .pointer (some ⟨b, off + m * 5, none⟩)
    | 20 => v = .pointer (some ⟨b, off + m * 5 + 1, none⟩)
    | 21 => v = .int .i64 z.z_
    | 22 => v = .int .i64 (IntKind.i64.wrap (z.z_ + 1))
    | 23 => v = .int .i64 (max x.v_ (IntKind.i64.wrap (z.z_ + 1)))
    | _ => True) (fun w w' => Below w.heap.size w w') (by kernel_rfl) (by kernel_rfl) bZh ⟨?_, ?_, ?_, ?_, ?_, trivial⟩ (fun w' hB => ⟨(hB.cell (p := ⟨w.heap.size, 2, none⟩) hlt1).trans t2, (hB.cell (p := ⟨a1.heap.size, 3, none⟩) hlt2).trans u3, (hB.cell (p := ⟨b, off + m * 5 + 1, none⟩) hb).trans d1⟩) ⟨?_, ?_, ?_, ?_, ?_, trivial⟩ ?_
   focus
    intro v w w' h hB
    exact h
   focus
    intro v w w' h hB
    exact h
   focus
    intro v w w' h hB
    exact h
   focus
    intro v w w' h hB
    exact h
   focus
    intro v w w' h hB
    exact h
   focus
    intro vs w2 hBf hFf o ho K hK
    obtain rfl : (⟨some 19, _, _, _, _, _⟩ : Oper) = o := Option.some.inj ho
    clear ho
    (try simp only [fillL, zQ, zP] at hK ⊢)
    go_simp
    refine hK.out _ _ ⟨rfl, Below.refl _ _⟩
   focus
    intro vs w2 hBf hFf o ho K hK
    obtain rfl : (⟨some 20, _, _, _, _, _⟩ : Oper) = o := Option.some.inj ho
    clear ho
    (try simp only [fillL, zQ, zP] at hK ⊢)
    have e19 := (hFf (8, 19) (by simp) (by kernel_rfl))
    simp only [] at e19
    simp only [e19] at hK ⊢
    go_simp
    refine hK.out _ _ ⟨rfl, Below.refl _ _⟩
   focus
    intro vs w2 hBf hFf o ho K hK
    obtain rfl : (⟨some 21, _, _, _, _, _⟩ : Oper) = o := Option.some.inj ho
    clear ho
    (try simp only [fillL, zQ, zP] at hK ⊢)
    have e20 := (hFf (9, 20) (by simp) (by kernel_rfl))
    simp only [] at e20
    simp only [e20] at hK ⊢
    have d2 := (hBf.cell (p := ⟨b, off + m * 5 + 1, none⟩) hb).trans d1
    go_simp
    refine hK.out _ _ ⟨rfl, Below.refl _ _⟩
   focus
    intro vs w2 hBf hFf o ho K hK
    obtain rfl : (⟨some 22, _, _, _, _, _⟩ : Oper) = o := Option.some.inj ho
    clear ho
    (try simp only [fillL, zQ, zP] at hK ⊢)
    have e21 := (hFf (10, 21) (by simp) (by kernel_rfl))
    simp only [] at e21
    simp only [e21] at hK ⊢
    go_simp
    refine hK.out _ _ ⟨rfl, Below.refl _ _⟩
   focus
    intro vs w2 hBf hFf o ho K hK
    obtain rfl : (⟨some 23, _, _, _, _, _⟩ : Oper) = o := Option.some.inj ho
    clear ho
    (try simp only [fillL, zQ, zP] at hK ⊢)
    have e22 := (hFf (11, 22) (by simp) (by kernel_rfl))
    simp only [] at e22
    simp only [e22] at hK ⊢
    go_simp
    refine hK.out _ _ ⟨rfl, Below.refl _ _⟩
   intro vs w2 hBf hFf
   (try simp only [fillL, zQ, zP])
   have h23 := (hFf (12, 23) (by simp))
   simp only [] at h23
   simp only [h23]
   have hBw : Below a2.heap.size a2 w2 := (Below.refl a2.heap.size a2).drew.trans hBf
   refine zcZ (i := 13) (o := ⟨some 4, _, _, _, _, _⟩) (by kernel_rfl) rfl (by kernel_rfl) (fun K hK => ?_)
   go_simp
   refine hK.out _ _ ?_
   clear hK K
   try simp only [zP]
   refine zdQ (by kernel_rfl) ?_ _
   refine NoPanic.normal ?_
   go_wp2
   go_ret
   exact ⟨rfl, hB2.trans (hBw.mono hs2)⟩
def okE (x : MT_) : Int := if okT x.plain = true then 0 else 9
theorem set_ok17 {x : MT_} (h : okT x.plain = true) {j : Nat} {s : MSet} (hj : x.y_.l[j]? = some s) : setB x.plain s.plain = true :=
 ((goodL_iff ltPath_trans).1 (okT_parts.1 h).2.2.2).1 s.plain (List.mem_map.2 ⟨s, mG hj, rfl⟩)
theorem snaps_ok17 {x : MT_} (h : okT x.plain = true) {j : Nat} {s : MSet} (hj : x.y_.l[j]? = some s) : (∀ y ∈ s.n_.l, 1 ≤ y.z_ ∧ y.z_ ≤ 1099511627776) ∧ s.n_.l.length ≤ 16 := by
 have h1 := snapsB_parts.1 (setB_parts (set_ok17 h hj)).2.2.1
 refine ⟨fun y hy => ?_, ?_⟩
 · have h2 := h1.1.1 y.plain (List.mem_map.2 ⟨y, hy, rfl⟩)
   unfold snapB at h2
   simp only [Bool.and_eq_true] at h2
   have h3 := h2.2.1
   unfold amt at h3
   simp only [Bool.and_eq_true, decide_eq_true_eq] at h3
   exact h3
 · have h2 := h1.2.2
   rwa [show s.plain.n_ = s.n_.l.map Mna.plain from rfl, List.length_map] at h2
theorem guid_ok17 {x : MT_} (h : okT x.plain = true) {j : Nat} {s : MSet} (hj : x.y_.l[j]? = some s) : guidM x s = guidP x.plain s.plain := by
 unfold guidM guidP
 rw [show s.plain.n_ = s.n_.l.map Mna.plain from rfl, List.getLast?_map]
 rcases hl : s.n_.l.getLast? with _ | z
 · rfl
 · have hz := (snaps_ok17 h hj).1 z (List.mem_of_getLast? hl)
   show max x.v_ (IntKind.i64.wrap (z.z_ + 1)) = if x.v_ ≤ z.z_ then z.z_ + 1 else x.v_
   rw [IntWalk.i64_in _ (by omega)]
   show max x.v_ (z.z_ + 1) = if x.v_ ≤ z.z_ then z.z_ + 1 else x.v_
   split
   · omega
   · omega
theorem snapE_is (x : MT_) (p n : ByteArray) : orL [okE x, whenI 31 ([!zeX (bs p), !zaQ (bs n)].any id), whenI 71 ([decide (findM x p < 0)].any id), whenI 6 ([decide (0 ≤ atN x p n)].any id), whenI 3 ([decide ((16 : Int) ≤ ((atS x p).n_.l.length : Int))].any id), whenI 15 ([decide (1099511627776 ≤ guidM x (atS x p))].any id)] = snapE x.plain p n := by
 unfold snapE
 rw [foundE_is]
 unfold whenI okE
 rcases h1 : okT x.plain with _ | _
 · simp [orL_cons, orL_nil]
 · rcases h2 : zeX (bs p) with _ | _
   · simp [orL_cons, orL_nil]
   · rcases h3 : zaQ (bs n) with _ | _
     · simp [orL_cons, orL_nil]
     · rcases zhX x p n with ⟨a, b, c, d, e⟩ | ⟨j, s, a, b, b2, c, d, d2, e, f, _⟩ | ⟨j, s, k, y, a, b, b2, c, d, d3, d4, d2, e, f, _⟩
       · rw [a]; simp [orL_cons, orL_nil]
       · have h5 := snaps_ok17 h1 b
         have h6 := guid_ok17 h1 b
         have h7 : ¬ (j : Int) < 0 := by omega
         have h8 : (16 ≤ s.n_.l.length) ↔ (s.plain.n_.length = 16) := by
          rw [show s.plain.n_ = s.n_.l.map Mna.plain from rfl, List.length_map]
          omega
         rw [e, a, c, d, h6]
         have h9 : ((16 : Int) ≤ (s.n_.l.length : Int)) ↔ (s.plain.n_.length = 16) := by rw [← h8]; omega
         simp only [h9]
         by_cases hA : s.plain.n_.length = 16 <;> by_cases hB : 1099511627776 ≤ guidP x.plain s.plain <;> simp [orL_cons, orL_nil, h7, f, hA, hB]
       · have h7 : ¬ (j : Int) < 0 := by omega
         have h8 : (0 : Int) ≤ (k : Int) := by omega
         rw [e, a, d]
         simp [orL_cons, orL_nil, h7, h8, f]
theorem found_zero {x : MT_} {p n : ByteArray} {more : Bool} (h : zfX x.plain p n more true = 0) : okT x.plain = true ∧ zeX (bs p) = true ∧ zaQ (bs n) = true ∧ more = true ∧ ∃ (j : Nat) (s : MSet) (k : Nat) (y : Mna), findM x p = j ∧ x.y_.l[j]? = some s ∧ s.l_ = p ∧ atS x p = s ∧ atN x p n = k ∧ s.n_.l[k]? = some y ∧ y.x_ = n ∧ atY x p n = y ∧ setAt x.plain p = some s.plain ∧ zeQ s.plain n = true ∧ snapOf s.plain n = some y.plain ∧ snapM s n = k ∧ (∀ z ∈ s.n_.l.take k, z.x_ ≠ n) := by
 obtain ⟨h1, h2, h3, h4, s, hs, h5⟩ := found_ways h
 refine ⟨h1, h2, h3, h4, ?_⟩
 rcases zhX x p n with ⟨a, b, c, d, e⟩ | ⟨j, t, a, b, b2, c, d, d2, e, f, _⟩ | h9
 · rw [e] at hs
   cases hs
 · rw [e] at hs
   injection hs with hs
   have := h5 rfl
   rw [← hs, f] at this
   cases this
 · exact h9
def clBX (p n o : ByteArray) : Bool := match splitP o with
 | none => false
 | some (q, m) => decide (q = p) && (decide (n = ByteArray.empty) || decide (m = n))
def clonesX (x : MT_) (p n : ByteArray) : List ByteArray := (x.y_.l.filter fun s => clBX p n s.m_).map MSet.l_
theorem clonesX_is {x : MT_} {p n : ByteArray} (h : n ≠ ByteArray.empty) : clonesX x p n = clonesN x.plain p n := by
 unfold clonesX clonesN
 rw [show x.plain.y_ = x.y_.l.map MSet.plain from rfl, List.filter_map, List.map_map]
 congr 2
 funext s
 show clBX p n s.m_ = match splitP s.m_ with | none => false | some (q, m) => decide (q = p) && decide (m = n)
 unfold clBX
 rcases splitP s.m_ with _ | ⟨q, m⟩
 · rfl
 · simp [h]
theorem name_ne {n : ByteArray} (h : zaQ (bs n) = true) : n ≠ ByteArray.empty := by
 rintro rfl
 revert h
 decide
theorem unsnapE_is (x : MT_) (p n : ByteArray) : orL [okE x, whenI 31 ([!zeX (bs p), !zaQ (bs n)].any id), whenI 71 ([decide (atN x p n < 0)].any id), whenI 44 ([decide ((0 : Int) < ((clonesX x p n).length : Int))].any id), whenI 43 ([decide ((0 : Int) < ((atY x p n).u_.l.length : Int))].any id)] = unsnapE x.plain p n := by
 unfold unsnapE
 by_cases hf : zfX x.plain p n true true = 0
 · obtain ⟨h1, h2, h3, _, j, s, k, y, a, b, b2, c, d, d3, d4, d2, e, f, f2, _⟩ := found_zero hf
   rw [hf, ← clonesX_is (name_ne h3)]
   have h8 : ¬ (k : Int) < 0 := by omega
   have h9 : ((0 : Int) < ((clonesX x p n).length : Int)) ↔ clonesX x p n ≠ [] := by
    rw [List.ne_nil_iff_length_pos]
    omega
   have h10 : ((0 : Int) < (y.u_.l.length : Int)) ↔ y.plain.u_ ≠ [] := by
    rw [show y.plain.u_ = y.u_.l from rfl, List.ne_nil_iff_length_pos]
    omega
   rw [d, d2, e]
   dsimp only
   rw [f2]
   dsimp only
   simp only [h9, h10]
   unfold whenI okE
   rw [h1, h2, h3]
   by_cases hA : clonesX x p n = [] <;> by_cases hB : y.plain.u_ = [] <;> simp [orL_cons, orL_nil, h8, hA, hB]
 · rw [if_pos hf, foundE_is]
   rw [foundE_is] at hf
   unfold whenI okE at *
   rcases h1 : okT x.plain with _ | _
   · simp [orL_cons, orL_nil]
   · rcases h2 : zeX (bs p) with _ | _
     · simp [orL_cons, orL_nil]
     · rcases h3 : zaQ (bs n) with _ | _
       · simp [orL_cons, orL_nil]
       · rcases zhX x p n with ⟨a, b, c, d, e⟩ | ⟨j, s, a, b, b2, c, d, d2, e, f, _⟩ | ⟨j, s, k, y, a, b, b2, c, d, d3, d4, d2, e, f, _⟩
         · rw [a, c]; simp [orL_cons, orL_nil]
         · have h7 : ¬ (j : Int) < 0 := by omega
           rw [a, d]; simp [orL_cons, orL_nil, h7]
         · have h7 : ¬ (j : Int) < 0 := by omega
           have h8 : ¬ (k : Int) < 0 := by omega
           rw [h1, h2, h3, a, d] at hf
           exact absurd (by simp [orL_cons, orL_nil, h7, h8]) hf
theorem settled_any (x : MT_) (w : World) (hx : x.Good w) :
 Calls Tryz.prog 105 #[.agg x.cells.toArray] w fun e w' => e = .returned (.tuple #[.agg (setlM x).cells.toArray, .int .i64 (setlP x.plain).2]) ∧ Below w.heap.size w w' ∧ (∀ b, b < w.heap.size → w'.heap[b]? = w.heap[b]?) := by
 obtain ⟨a1, hw1⟩ : ∃ a1, w.alloc (.cells #[.string x.x_, .int .i64 x.r_, .int .i64 x.v_, .slice x.y_.A x.y_.l.length x.y_.c, .slice x.g_.A x.g_.l.length x.g_.c, .slice x.t_.A x.t_.l.length x.t_.c, .slice x.h_.A x.h_.l.length x.h_.c] 27) = a1 := ⟨_, rfl⟩
 have b1 : Below w.heap.size w a1 := hw1 ▸ (Below.refl _ w).alloc (Nat.le_refl _) _
 have k1 : Blk a1 w.heap.size 27 [.string x.x_, .int .i64 x.r_, .int .i64 x.v_, .slice x.y_.A x.y_.l.length x.y_.c, .slice x.g_.A x.g_.l.length x.g_.c, .slice x.t_.A x.t_.l.length x.t_.c, .slice x.h_.A x.h_.l.length x.h_.c] := hw1 ▸ Blk.new w _ _
 obtain ⟨a2, hw2⟩ : ∃ a2, a1.alloc (.cells #[.string ⟨#[]⟩, .int .i64 0, .int .i64 0, .slice none 0 0, .slice none 0 0, .slice none 0 0, .slice none 0 0] 27) = a2 := ⟨_, rfl⟩
 have b2 : Below a1.heap.size a1 a2 := hw2 ▸ (Below.refl _ a1).alloc (Nat.le_refl _) _
 have k2 : Blk a2 a1.heap.size 27 [.string ⟨#[]⟩, .int .i64 0, .int .i64 0, .slice none 0 0, .slice none 0 0, .slice none 0 0, .slice none 0 0] := hw2 ▸ Blk.new a1 _ _
 have hX2 : w.heap.size + 1 = a1.heap.size := by rw [← hw1, World.size_alloc]
 have hB1 : Below w.heap.size w a1 := b1
 have hB2 : Below w.heap.size w a2 := hB1.trans (b2.mono hB1.size)
 have k1 := k1.of b2
 have hs2 := hB2.size
 have hs1 := hB1.size
 have ht1 : a1.heap.size ≤ a2.heap.size := b2.size
 have HW1 := zI hw1
 have HW2 := zI hw2
 clear hw1 b1 hw2 b2
 have HF := zI (fits_any x a2 (hx.below hB2))
 obtain ⟨q0, q1, q2, q3, q4, q5, q6⟩ := k1.all7
 have hc : tenC x = chgP x.plain := tenC_plain x
 rw [hc] at HF
 have hq := Nat.lt_irrefl 0
 clear hq
 by_cases hq : wrap64 (chgP x.plain) ≤ x.r_
 · obtain ⟨h1, h2⟩ := setl_pos hq
   rw [h1, h2]
   rw [decide_eq_true hq] at HF
   generalize wrap64 (chgP x.plain) = T at *
   clear h1 h2 hc hx
   go_enter Tryz.func105, Tryz.ntmps105
   go_upto_region 1 with fail
   rw [HW1.out, HW2.out]
   try rw [hX2]
   go_wp2_with fail
   refine HF.out.mono ?_
   rintro e w3 ⟨rfl, hV⟩
   have K1 := k1.of hV
   have K2 := k2.of hV
   have hB3 := hB2.trans (hV.mono hs2)
   obtain ⟨d0, d1, d2, d3, d4, d5, d6⟩ := K1.all7
   obtain ⟨zr0, zr1, zr2, zr3, zr4, zr5, zr6⟩ := K2.all7
   obtain ⟨zrf0, zrf1, zrf2, zrf3, zrf4, zrf5, zrf6⟩ := K2.fz7
   go_wp2
   generalize hwE : World.setCell _ ⟨a1.heap.size, 6, none⟩ _ = wE
   obtain ⟨KE, SE, ZE, BE⟩ := store7 K2 hwE
   obtain ⟨ze0, ze1, ze2, ze3, ze4, ze5, ze6⟩ := KE.all7
   refine bodyPost_ret (v := .tuple #[.agg #[.string x.x_, .int .i64 x.r_, .int .i64 x.v_, .slice x.y_.A x.y_.l.length x.y_.c, .slice x.g_.A x.g_.l.length x.g_.c, .slice x.t_.A x.t_.l.length x.t_.c, .slice x.h_.A x.h_.l.length x.h_.c], .int .i64 0]) (by simp [results, Tryz.results105, go_sem, ze0, ze1, ze2, ze3, ze4, ze5, ze6]) rfl ?_
   exact ⟨rfl, BE _ _ hB3 hs1, fun b hb => (BE _ _ hB3 hs1).block b hb⟩
 · obtain ⟨h1, h2⟩ := setl_neg hq
   rw [h1, h2]
   rw [decide_eq_false hq] at HF
   generalize wrap64 (chgP x.plain) = T at *
   clear h1 h2 hc hx
   go_enter Tryz.func105, Tryz.ntmps105
   go_upto_region 1 with fail
   rw [HW1.out, HW2.out]
   try rw [hX2]
   go_wp2_with fail
   refine HF.out.mono ?_
   rintro e w3 ⟨rfl, hV⟩
   have K1 := k1.of hV
   have K2 := k2.of hV
   have hB3 := hB2.trans (hV.mono hs2)
   obtain ⟨zr0, zr1, zr2, zr3, zr4, zr5, zr6⟩ := K2.all7
   obtain ⟨zrf0, zrf1, zrf2, zrf3, zrf4, zrf5, zrf6⟩ := K2.fz7
   go_wp2
   generalize hwE : World.setCell _ ⟨a1.heap.size, 6, none⟩ _ = wE
   obtain ⟨KE, SE, ZE, BE⟩ := store7 K2 hwE
   obtain ⟨ze0, ze1, ze2, ze3, ze4, ze5, ze6⟩ := KE.all7
   refine bodyPost_ret (v := .tuple #[.agg #[.string ⟨#[]⟩, .int .i64 0, .int .i64 0, .slice none 0 0, .slice none 0 0, .slice none 0 0, .slice none 0 0], .int .i64 42]) (by simp [results, Tryz.results105, go_sem, ze0, ze1, ze2, ze3, ze4, ze5, ze6]) rfl ?_
   exact ⟨rfl, BE _ _ hB3 hs1, fun b hb => (BE _ _ hB3 hs1).block b hb⟩
set_option maxHeartbeats 2000000
theorem clones1X_any (B0 B1 : Nat) (p n : ByteArray) (y : MSet) (w : World) (hy : y.m_.size ≤ 140737488351232) (h0 : w.cell? ⟨B0, 0, none⟩ = some (.string p)) (h1 : w.cell? ⟨B1, 0, none⟩ = some (.string n)) :
 Calls Tryz.prog 108 (#[.agg y.cells.toArray] ++ #[.pointer (some ⟨B0, 0, none⟩), .pointer (some ⟨B1, 0, none⟩)]) w fun e w' => e = .returned (.bool (clBX p n y.m_)) ∧ Below w.heap.size w w' := by
 have hl := World.block_lt_of_cell? w ⟨B0, 0, none⟩ h0
 have hl1 := World.block_lt_of_cell? w ⟨B1, 0, none⟩ h1
 obtain ⟨w1, hw1⟩ : ∃ w1, w.alloc (.cells #[.string y.l_, .string y.m_, .slice y.p_.A y.p_.l.length y.p_.c, .slice y.n_.A y.n_.l.length y.n_.c, .slice y.j_.A y.j_.l.length y.j_.c] 52) = w1 := ⟨_, rfl⟩
 have hB1 : Below w.heap.size w w1 := hw1 ▸ (Below.refl _ w).alloc (Nat.le_refl _) _
 have k1 : Blk w1 w.heap.size 52 [.string y.l_, .string y.m_, .slice y.p_.A y.p_.l.length y.p_.c, .slice y.n_.A y.n_.l.length y.n_.c, .slice y.j_.A y.j_.l.length y.j_.c] := hw1 ▸ Blk.new w _ _
 have z0 := k1.cell 1
 simp only [gZa, gZb] at z0
 have HP := zI (split_any y.m_ hy w1)
 have HW1 := zI hw1
 have hs1 := hB1.size
 rcases hu : splitP y.m_ with _ | ⟨q, r⟩
 · have hv : splV y.m_ = .tuple #[.string ByteArray.empty, .string ByteArray.empty, .int .i64 31] := by unfold splV; rw [hu]
   rw [hv] at HP
   rw [show clBX p n y.m_ = false by unfold clBX; rw [hu]]
   clear hv hu k1 hw1
   go_enter Tryz.func108, Tryz.ntmps108
   go_upto_region 1 with fail
   rw [HW1.out]
   go_wp2_with fail
   refine HP.out.mono ?_
   rintro e w2 ⟨rfl, hB2⟩
   go_wp2
   go_ret
   exact ⟨rfl, hB1.trans (hB2.mono hs1)⟩
 · have hv : splV y.m_ = .tuple #[.string q, .string r, .int .i64 0] := by unfold splV; rw [hu]
   rw [hv] at HP
   obtain ⟨kb, hkb⟩ : ∃ kb, (q.toList == p.toList) = kb := ⟨_, rfl⟩
   obtain ⟨kc, hkc⟩ : ∃ kc, (n.toList == ([] : List UInt8)) = kc := ⟨_, rfl⟩
   obtain ⟨kd, hkd⟩ : ∃ kd, (r.toList == n.toList) = kd := ⟨_, rfl⟩
   have hd : clBX p n y.m_ = (kb && (kc || kd)) := by
    unfold clBX
    rw [hu]
    have e1 : (n.toList == ([] : List UInt8)) = decide (n = ByteArray.empty) := by
     have := beqS n ByteArray.empty
     rwa [show ByteArray.empty.toList = [] by rw [Lib.toList_data]; rfl] at this
    rw [← hkb, ← hkc, ← hkd, beqS, beqS, e1]
   rw [hd]
   have HKB := zI hkb
   have HKC := zI hkc
   have HKD := zI hkd
   clear hv hu k1 hw1 hd hkb hkc hkd
   go_enter Tryz.func108, Tryz.ntmps108
   go_upto_region 1 with fail
   rw [HW1.out]
   go_wp2_with fail
   refine HP.out.mono ?_
   rintro e w2 ⟨rfl, hB2⟩
   have q0 : w2.cell? ⟨B0, 0, none⟩ = some (.string p) := ((hB1.trans (hB2.mono hs1)).cell (p := ⟨B0, 0, none⟩) hl).trans h0
   have q1 : w2.cell? ⟨B1, 0, none⟩ = some (.string n) := ((hB1.trans (hB2.mono hs1)).cell (p := ⟨B1, 0, none⟩) hl1).trans h1
   have hkb := HKB.out
   have hkc := HKC.out
   have hkd := HKD.out
   rcases kb with _ | _ <;> rcases kc with _ | _ <;> rcases kd with _ | _
   all_goals
    go_wp2
    go_ret
    exact ⟨rfl, hB1.trans (hB2.mono hs1)⟩
theorem clonesX_any (x : MT_) (p n : ByteArray) (w : World) (hx : x.Good w) :
 Calls Tryz.prog 50 #[.agg x.cells.toArray, .string p, .string n] w fun e w' => ∃ v, e = .returned v ∧ ownT w' w.heap.size v (clonesX x p n) ∧ Below w.heap.size w w' := by
 have hk : clonesX x p n = (x.y_.l.filter fun s => clBX p n s.m_).map MSet.l_ := rfl
 obtain ⟨w1, hw1⟩ : ∃ w1, w.alloc (.cells #[.string x.x_, .int .i64 x.r_, .int .i64 x.v_, .slice x.y_.A x.y_.l.length x.y_.c, .slice x.g_.A x.g_.l.length x.g_.c, .slice x.t_.A x.t_.l.length x.t_.c, .slice x.h_.A x.h_.l.length x.h_.c] 27) = w1 := ⟨_, rfl⟩
 have hB1 : Below w.heap.size w w1 := hw1 ▸ (Below.refl _ w).alloc (Nat.le_refl _) _
 have k1 : Blk w1 w.heap.size 27 x.cells := hw1 ▸ Blk.new w _ _
 obtain ⟨w2, hw2⟩ : ∃ w2, w1.alloc (.cells #[.string p] 9) = w2 := ⟨_, rfl⟩
 have hB2 : Below w1.heap.size w1 w2 := hw2 ▸ (Below.refl _ w1).alloc (Nat.le_refl _) _
 have k2 : Blk w2 w1.heap.size 9 [.string p] := hw2 ▸ Blk.new w1 _ _
 obtain ⟨w3, hw3⟩ : ∃ w3, w2.alloc (.cells #[.string n] 9) = w3 := ⟨_, rfl⟩
 have hB3 : Below w2.heap.size w2 w3 := hw3 ▸ (Below.refl _ w2).alloc (Nat.le_refl _) _
 have k3 : Blk w3 w2.heap.size 9 [.string n] := hw3 ▸ Blk.new w2 _ _
 have hA2 : Below w.heap.size w w2 := hB1.trans (hB2.mono hB1.size)
 have hA : Below w.heap.size w w3 := hA2.trans (hB3.mono hA2.size)
 have hB23 : Below w1.heap.size w1 w3 := hB2.trans (hB3.mono hB2.size)
 have kt := k1.below hB23 k1.lt
 have z0 := kt.cell 0
 have z1 := kt.cell 1
 have z2 := kt.cell 2
 have z3 := kt.cell 3
 have z4 := kt.cell 4
 have z5 := kt.cell 5
 have z6 := kt.cell 6
 simp only [gZa, gZb] at z0 z1 z2 z3 z4 z5 z6
 have HP := zI (paths_any x 108 #[.pointer (some ⟨w1.heap.size, 0, none⟩), .pointer (some ⟨w2.heap.size, 0, none⟩)] (enters_of Tryz.func108 (by kernel_rfl) rfl) (fun s => clBX p n s.m_) w3 (hx.below hA)
  (fun W y hy hB => clones1X_any w1.heap.size w2.heap.size p n y W (hx.w_.el y hy).gorigin_ (((k2.below hB3 k2.lt).below hB (k2.below hB3 k2.lt).lt).cell 0) ((k3.below hB k3.lt).cell 0)))
 have HW1 := zI hw1
 have HW2 := zI hw2
 have HW3 := zI hw3
 have HK := zI hk
 have hX : w.heap.size + 1 = w1.heap.size := by rw [← hw1, World.size_alloc]
 have hX2 : w1.heap.size + 1 = w2.heap.size := by rw [← hw2, World.size_alloc]
 clear hw1 hw2 hw3 k1 k2 k3 hx hk kt
 go_enter Tryz.func50, Tryz.ntmps50
 go_upto_region 1 with fail
 rw [HW1.out, HW2.out, HW3.out]
 try rw [hX]
 try rw [hX2]
 go_wp2_with fail
 refine HP.out.mono ?_
 rintro e w4 ⟨v, rfl, ho, hB4⟩
 go_wp2
 go_ret
 rw [HK.out]
 exact ⟨_, rfl, zfZ ho hA.size, hA.trans (hB4.mono hA.size)⟩
end Go.Proofs.YtimmcmjipmkebaaGreat
