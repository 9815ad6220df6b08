/-
  The law's num, size, first. Conditions: as written.
-/
import Derived.Test.YtmehjmkakkiedaaGreatMYH
import Derived.Test.YtmehjmkakkiedaaGreatMQV
import Derived.Test.YtmehjmkakkiedaaGreatMQX
import Derived.Test.YtmehjmkakkiedaaGreatMQS
import Derived.Test.YtmehjmkakkiedaaGreatMGW
import Derived.Test.YtmehjmkakkiedaaGreatMQC
import Derived.Test.YtmehjmkakkiedaaGreatMQM
import Derived.BigQuiet
namespace Go.Proofs.YtmehjmkakkiedaaGreat
open Go.ChangeShapes Go.WideShapes Go.ChangeAt Go.RowKit
set_option maxRecDepth 100000

theorem num10_any (n : Int) (w : World) :
    Calls Tryz.prog 12 #[.int .i64 n] w fun e w' => e = .returned (.int .i64 n) ∧ w' = w := by
  go_enter Tryz.func12, Tryz.ntmps12
  go_wp2
  go_ret
  exact ⟨rfl, rfl⟩

/-- A device's size, of any number. -/
def sizeN (n : Int) : Int := 6 + (n.tmod 60 + 60).tmod 60
theorem sizeN_le (n : Int) : 6 ≤ sizeN n ∧ sizeN n ≤ 65 := by
  have h1 := Int.tmod_lt_of_pos n (show (0 : Int) < 60 by decide)
  have h2 : -60 < n.tmod 60 := Int.lt_tmod_of_pos n (by decide)
  have h3 := Int.tmod_lt_of_pos (n.tmod 60 + 60) (show (0 : Int) < 60 by decide)
  have h4 := Int.tmod_nonneg 60 (show 0 ≤ n.tmod 60 + 60 by omega)
  unfold sizeN
  omega
theorem size10_any (n : Int) (w : World) :
    Calls Tryz.prog 9 #[.int .i64 n] w fun e w' => e = .returned (.int .i64 (sizeN n)) ∧ w' = w := by
  have h1 := Int.tmod_lt_of_pos n (show (0 : Int) < 60 by decide)
  have h2 : -60 < n.tmod 60 := Int.lt_tmod_of_pos n (by decide)
  have h3 := Int.tmod_lt_of_pos (n.tmod 60 + 60) (show (0 : Int) < 60 by decide)
  have h4 := Int.tmod_nonneg 60 (show 0 ≤ n.tmod 60 + 60 by omega)
  have e1 : wrap64 (n.tmod 60) = n.tmod 60 := IntWalk.wrap64_in _ (by omega)
  have e2 : wrap64 (n.tmod 60 + 60) = n.tmod 60 + 60 := IntWalk.wrap64_in _ (by omega)
  have e3 : wrap64 ((n.tmod 60 + 60).tmod 60) = (n.tmod 60 + 60).tmod 60 := IntWalk.wrap64_in _ (by omega)
  have e4 : wrap64 (6 + (n.tmod 60 + 60).tmod 60) = 6 + (n.tmod 60 + 60).tmod 60 := IntWalk.wrap64_in _ (by omega)
  go_enter Tryz.func9, Tryz.ntmps9
  go_wp2
  go_ret
  have e5 : (n.tmod 60 + 60).tmod 60 = n.tmod 60 % 60 := by rw [Int.tmod_eq_emod_of_nonneg (by omega)]; omega
  exact ⟨by unfold sizeN; rw [e5]; simp, rfl⟩

/-- A new store, in memory. -/
abbrev newSt (E : Dv) : St := ⟨E, uTwo, none, [], 0, none, [], 0⟩
/-- A store of no objects that stands, as it was made. -/
structure New (n m : Nat) (W : World) (E : Dv) : Prop where
  lies : E.Lies m W
  ps : E.ps.length = n
  stands : StandsP (newSt E).st
theorem New.fits {n m : Nat} {W : World} {E : Dv} (h : New n m W E) : (newSt E).Fits :=
  ⟨Dv.fits_of h.stands.ok.dev h.stands.ok.waits, by simp, fun o ho => (by cases ho), by simp⟩
theorem New.stl {n m : Nat} {W : World} {E : Dv} (h : New n m W E) : (newSt E).Lies m W :=
  ⟨h.lies, RdF.nil _ _ _, fun o ho => (by cases ho), fun o ho => (by cases ho), RdF.nil _ _ _⟩
theorem New.mono {n m m' : Nat} {W : World} {E : Dv} (h : New n m W E) (hm : m' ≤ m) : New n m' W E := ⟨h.lies.mono hm, h.ps, h.stands⟩
theorem New.below {n m : Nat} {W W' : World} {E : Dv} (h : New n m W E) (hB : Below W.heap.size W W') : New n m W' E := ⟨h.lies.below hB, h.ps, h.stands⟩

set_option maxHeartbeats 1000000 in
theorem first10_any (n : Nat) (h2 : 2 ≤ n) (h3 : n ≤ 8192) (w : World) :
    Calls Tryz.prog 8 #[.int .i64 n] w fun e w' => ∃ E : Dv, e = .returned (.tuple #[(newSt E).val, .bool true]) ∧ New n w.heap.size w' E ∧ Below w.heap.size w w' := by
  obtain ⟨w1, hw1⟩ : ∃ w1, w.alloc (.cells #[.slice none 0 0, .slice none 0 0, .int .i64 0, .int .i64 0, .int .i64 0, .slice none 0 0, .slice none 0 0] 32) = w1 := ⟨_, rfl⟩
  have hB1 : Below w.heap.size w w1 := hw1 ▸ (Below.refl _ w).alloc (Nat.le_refl _) _
  have kr : Blk w1 w.heap.size 32 [.slice none 0 0, .slice none 0 0, .int .i64 0, .int .i64 0, .int .i64 0, .slice none 0 0, .slice none 0 0] := hw1 ▸ Blk.new w _ _
  have HF := Lib.hid (formatTop_ok n h2 h3 w1)
  have hs1 : w1.heap.size = w.heap.size + 1 := by rw [← hw1, World.size_alloc]
  have HW1 := Lib.hid hw1
  have HKR := Lib.hid kr
  clear hw1 kr
  go_enter Tryz.func8, Tryz.ntmps8
  go_upto_region 1 with fail
  rw [HW1.out]
  go_wp2_with fail
  refine HF.out.mono ?_
  rintro e w2 ⟨E, A, c, l, rfl, hl, hE, hL, hB2⟩
  have hln : l.length = 3 := by have := congrArg List.length hl; simpa using this
  have hst := new_stands n h2 h3
  rw [hl] at hE
  rw [← hE] at hst
  have hps : E.ps.length = n := by
    have := congrArg (fun D : DS => D.secs.length) hE
    rw [newDev] at this
    simpa [Dv.st] using this
  have HN : Hid (New n w1.heap.size w2 E) := Lib.hid ⟨hL, hps, hst⟩
  have kr2 := HKR.out.below hB2 HKR.out.lt
  have HK2 := Lib.hid kr2
  have hB02 : Below w.heap.size w w2 := hB1.trans (hB2.mono hB1.size)
  clear hl hE hL hst kr2 HF hps
  obtain ⟨dA, ps, c', B, ws, d⟩ := E
  obtain ⟨w3, hw3⟩ : ∃ w3, w2.alloc (.cells #[.slice dA ps.length c', .slice B ws.length d, .int .i64 2, .int .i64 0, .int .i64 0, .slice none 0 0, .slice none 0 0] 32) = w3 := ⟨_, rfl⟩
  have hB23 : Below w2.heap.size w2 w3 := hw3 ▸ (Below.refl _ w2).alloc (Nat.le_refl _) _
  have k3 : Blk w3 w2.heap.size 32 [.slice dA ps.length c', .slice B ws.length d, .int .i64 2, .int .i64 0, .int .i64 0, .slice none 0 0, .slice none 0 0] := hw3 ▸ Blk.new w2 _ _
  have kr3 := HK2.out.below hB23 HK2.out.lt
  have hN3 := HN.out.below hB23
  have hlt : w.heap.size < w2.heap.size := HK2.out.lt
  have HW3 := Lib.hid hw3
  obtain ⟨p0, p1, p2, p3, p4, p5, p6⟩ := blk7 k3
  obtain ⟨r0, r1, r2, r3, r4, r5, r6⟩ := blk7 kr3
  have s0 := kr3.frozen 0
  have s1 := kr3.frozen 1
  have s2 := kr3.frozen 2
  have s3 := kr3.frozen 3
  have s4 := kr3.frozen 4
  have s5 := kr3.frozen 5
  have s6 := kr3.frozen 6
  obtain ⟨W9, hW9, k9, hh9, hsz9, hB9⟩ := set7_facts kr3 (.slice dA ps.length c') (.slice B ws.length d) (.int .i64 2) (.int .i64 0) (.int .i64 0) (.slice none 0 0) (.slice none 0 0)
  unfold set7 at hW9
  have HW9 := Lib.hid hW9
  have HH9 := Lib.hid hh9
  have HN3 := Lib.hid hN3
  clear hW9 hw3 kr3 k3 hN3 hh9
  have hs02 := hB02.size
  have hBF : Below w.heap.size w W9 := (hB02.trans (hB23.mono hs02)).trans (hB9.mono (Nat.le_refl _))
  have hsz3 := hB23.size
  have hNF : New n w.heap.size W9.drew ⟨dA, ps, c', B, ws, d⟩ := New.mono ⟨(HN.out.lies.stays (W' := W9.drew) (by show w2.heap.size ≤ W9.heap.size; omega) fun k h1 h2 => (HH9.out k (by omega)).trans (hB23.block k h2)), HN.out.ps, HN.out.stands⟩ hB1.size
  obtain ⟨d0, d1, d2, d3, d4, d5, d6⟩ := blk7 k9
  clear hsz3 hsz9 hs02 hs1 hB23 hB02 hB1 hB2
  go_upto_region 2 with fail
  rw [HW3.out]
  go_region_with (go_at_call 12; refine (num10_any _ _).mono ?_; rintro e w4 ⟨rfl, rfl⟩)
  all_goals (
    go_wp2
    rw [HW9.out]
    refine bodyPost_ret (v := .tuple #[(newSt ⟨dA, ps, c', B, ws, d⟩).val, .bool true]) ?_ rfl ⟨_, rfl, hNF, hBF.drew⟩
    simp [results, Tryz.results8, go_sem, d0, d1, d2, d3, d4, d5, d6])

end Go.Proofs.YtmehjmkakkiedaaGreat

namespace Go.Proofs.YtmehjmkakkiedaaGreat
open Go.ChangeShapes Go.WideShapes Go.ChangeAt Go.RowKit
set_option maxRecDepth 100000

/-- An object's key and its data. -/
abbrev kd (o : Ob) : ByteArray × List Int := (o.key, o.d.zs)
theorem kd_at {xs ys : List Ob} (h : xs.map kd = ys.map kd) {k : Nat} {x y : Ob} (hx : xs[k]? = some x) (hy : ys[k]? = some y) : x.key = y.key ∧ x.d.zs = y.d.zs := by
  have h1 := congrArg (fun l => l[k]?) h
  simp only [List.getElem?_map, hx, hy, Option.map_some, Option.some.injEq] at h1
  injection h1 with h2 h3
  exact ⟨h2, h3⟩

theorem below_dN (w : World) (n m : Nat) : Below m w (w.drewN n) := ⟨rfl, rfl, rfl, Nat.le_refl _, fun _ _ => rfl⟩
theorem conv_oct (W : World) (A : Option Addr) (c : Nat) (zs : List Int) (h : Rd W A (octCells zs)) : (convert 46 9 (.slice A zs.length c)).run Tryz.prog W = .ok (.string (strOfNums zs)) W :=
  run_string_rd (P := Tryz.prog) W 46 5 9 Tryz.underlying46 Tryz.underlying5 Tryz.underlying9 A zs c h

set_option maxHeartbeats 2000000 in
theorem has10_any (T : St) (hf : T.Fits) (A : Option Addr) (c : Nat) (ls : List Ob) (hll : ls.length ≤ 4398046511104) (w : World) (hL : T.Lies 0 w) (hr : Rd w A (obCells ls)) (hrd : ∀ o ∈ ls, Rd w o.d.A (octCells o.d.zs)) :
    Calls Tryz.prog 14 #[T.val, .slice A ls.length c] w fun e w' => ∃ b, e = .returned (.bool b) ∧ (T.os.map kd = ls.map kd → b = true) ∧ Below w.heap.size w w' := by
  have HL := Lib.hid hL
  have HR := Lib.hid hr
  have HRD := Lib.hid hrd
  have hn := hf.n
  have HSM : Hid (T.os.map kd = ls.map kd → T.os.length = ls.length ∧ ∀ (k : Nat) (x y : Ob), T.os[k]? = some x → ls[k]? = some y → x.key = y.key ∧ x.d.zs = y.d.zs) := Lib.hid fun h => ⟨by simpa using congrArg List.length h, fun k x y hx hy => kd_at h hx hy⟩
  obtain ⟨SM, hSM⟩ : ∃ SM, (T.os.map kd = ls.map kd) = SM := ⟨_, rfl⟩
  rw [hSM] at HSM ⊢
  clear hf hL hr hrd hSM
  obtain ⟨⟨dA, ps, dc, B, ws, d⟩, ⟨t, f, o⟩, O, os, oc, I, is, ic⟩ := T
  dsimp only [St.val] at *
  obtain ⟨w1, hw1⟩ : ∃ w1, w.alloc (.cells #[.slice dA ps.length dc, .slice B ws.length d, .int .i64 t, .int .i64 f, .int .i64 o, .slice O os.length oc, .slice I is.length ic] 32) = w1 := ⟨_, rfl⟩
  have kx : Blk w1 w.heap.size 32 [.slice dA ps.length dc, .slice B ws.length d, .int .i64 t, .int .i64 f, .int .i64 o, .slice O os.length oc, .slice I is.length ic] := hw1 ▸ Blk.new w _ _
  have hB1 : Below w.heap.size w w1 := hw1 ▸ (Below.refl _ w).alloc (Nat.le_refl _) _
  have HL1 := Lib.hid (HL.out.below hB1)
  have HR1 := Lib.hid (HR.out.below hB1)
  have HRD1 := Lib.hid (fun o ho => (HRD.out o ho).below hB1)
  have hc5 := kx.cell 5
  simp only [List.getElem?_cons_zero, List.getElem?_cons_succ] at hc5
  have hlt1 := kx.lt
  have HW1 := Lib.hid hw1
  clear kx hw1 HL HR HRD
  go_enter Tryz.func14, Tryz.ntmps14
  go_upto_region 1 with fail
  rw [HW1.out]
  by_cases hlen : os.length = ls.length
  rotate_left
  · have hi : ¬ ((os.length : Int) = (ls.length : Int)) := by omega
    go_wp2
    go_ret
    exact ⟨false, rfl, fun h => absurd (HSM.out h).1 hlen, hB1⟩
  have hi : (os.length : Int) = (ls.length : Int) := by omega
  go_wp2
  go_loopw [5] (fun i W => ∃ k : Nat, k ≤ ls.length ∧ i = .int .i64 k ∧ Below w1.heap.size w1 W) (fun i _ => ls.length - (intOf i).toNat)
  case atStart => exact ⟨0, Nat.zero_le _, rfl, Below.refl _ _⟩
  case round =>
    obtain ⟨k, hk, rfl, hBr⟩ := hrel
    have hBw : Below w.heap.size w wr := hB1.trans (hBr.mono hB1.size)
    have hcr5 := (hBr.cell (p := ⟨w.heap.size, 5, none⟩) hlt1).trans hc5
    have hltr := Nat.lt_of_lt_of_le hlt1 hBr.size
    by_cases hlt : k < ls.length
    · obtain ⟨x, hx⟩ : ∃ x, os[k]? = some x := ⟨_, List.getElem?_eq_getElem (by omega)⟩
      obtain ⟨y, hy⟩ : ∃ y, ls[k]? = some y := ⟨_, List.getElem?_eq_getElem hlt⟩
      obtain ⟨b, off, rfl, hb, hk0, hk1, _⟩ := (HL1.out.below hBr).arr.1.ob hx
      obtain ⟨b', off', rfl, hb', hj0, hj1, _⟩ := (HR1.out.below hBr).ob hy
      have hcx := fun n => conv_oct (wr.drewN n) x.d.A x.d.c x.d.zs (((HL1.out.data x (List.mem_of_getElem? hx)).1.below hBr).below (below_dN _ n _))
      have hcy := fun n => conv_oct (wr.drewN n) y.d.A y.d.c y.d.zs (((HRD1.out y (List.mem_of_getElem? hy)).below hBr).below (below_dN _ n _))
      have HXY := Lib.hid (fun h => (HSM.out h).2 k x y hx hy)
      obtain ⟨kb, hkb⟩ : ∃ kb, (x.key.toList == y.key.toList) = kb := ⟨_, rfl⟩
      obtain ⟨db, hdb⟩ : ∃ db, ((strOfNums x.d.zs).toList == (strOfNums y.d.zs).toList) = db := ⟨_, rfl⟩
      have HNO : Hid (SM → kb = true ∧ db = true) := Lib.hid fun h => by
        obtain ⟨h1, h2⟩ := HXY.out h
        rw [← hkb, ← hdb, h1, h2]
        exact ⟨beq_self_eq_true _, beq_self_eq_true _⟩
      generalize strOfNums x.d.zs = sx at *
      generalize strOfNums y.d.zs = sy at *
      obtain ⟨xk, ⟨xA, xz, xc⟩, xB, xn, xe⟩ := x
      obtain ⟨yk, ⟨yA, yz, yc⟩, yB, yn, ye⟩ := y
      dsimp only at *
      have hos : (k : Int) < os.length := by omega
      have hls : (k : Int) < ls.length := by omega
      have hosn : k < os.length := by omega
      clear HXY hx hy hi hlen
      rcases kb with _ | _
      · go_wp2_with fail
        go_big_quiet (fail)
        go_wp2
        go_ret
        exact ⟨false, rfl, fun h => (by cases (HNO.out h).1), hBw.trans (below_dN _ _ _)⟩
      · rcases db with _ | _
        · go_wp2_with fail
          go_big_quiet (fail)
          go_wp2
          go_ret
          exact ⟨false, rfl, fun h => (by cases (HNO.out h).2), hBw.trans (below_dN _ _ _)⟩
        · go_wp2_with fail
          go_big_quiet (fail)
          go_wp2
          go_roundw
          case rel => exact ⟨k + 1, by omega, by go_num, hBr.trans (below_dN _ _ _)⟩
          case measure => simp [intOf]; omega
    · go_wp2
      go_ret
      exact ⟨true, rfl, fun _ => rfl, hBw⟩

end Go.Proofs.YtmehjmkakkiedaaGreat

namespace Go.Proofs.YtmehjmkakkiedaaGreat
open Go.ChangeShapes Go.WideShapes Go.ChangeAt Go.RowKit
set_option maxRecDepth 100000

theorem riseK_snoc : ∀ (ks : List ByteArray) (last k : ByteArray), riseK last ks = true → ltK (ks.getLastD last) k → k.size ≤ 96 → riseK last (ks ++ [k]) = true
  | [], last, k, _, h2, h3 => riseK_cons.2 ⟨h2, h3, rfl⟩
  | x :: ks, last, k, h1, h2, h3 => by
    obtain ⟨g1, g2, g3⟩ := riseK_cons.1 h1
    refine riseK_cons.2 ⟨g1, g2, riseK_snoc ks x k g3 ?_ h3⟩
    rw [List.getLastD_cons] at h2
    exact h2
theorem ltK_empty {k : ByteArray} (h : (k.toList == ([] : List UInt8)) = false) : ltK ByteArray.empty k := by
  unfold ltK
  have e : ByteArray.empty.toList = [] := by rw [ByteArray.toList_eq]; rfl
  rw [e]
  rcases hk : k.toList with _ | ⟨a, l⟩
  · rw [hk] at h; cases h
  · rfl

/-- Objects that may be, of these. -/
structure GL (ls : List Ob) (n : Nat) (ys : List Ob) : Prop where
  mem : ∀ y ∈ ys, y.B = none ∧ y.ns = [] ∧ y.e = 0 ∧ y.key.size ≤ 96 ∧ y.d.zs.length ≤ 400 ∧ ∃ x ∈ ls, x.d = y.d
  len : ys.length ≤ n
  rise : riseK ByteArray.empty (ys.map (·.key)) = true
theorem GL.le {ls : List Ob} {n n' : Nat} {ys : List Ob} (h : GL ls n ys) (hn : n ≤ n') : GL ls n' ys := ⟨h.mem, Nat.le_trans h.len hn, h.rise⟩
theorem GL.push {ls : List Ob} {n : Nat} {ys : List Ob} (h : GL ls n ys) {x : Ob} (hx : x ∈ ls) (h1 : ltK ((ys.map (·.key)).getLastD ByteArray.empty) x.key) (h2 : x.key.size ≤ 96) (h3 : x.d.zs.length ≤ 400) : GL ls (n + 1) (ys ++ [⟨x.key, x.d, none, [], 0⟩]) := by
  refine ⟨fun y hy => ?_, by rw [List.length_append]; have := h.len; simp; exact this, ?_⟩
  · rcases List.mem_append.1 hy with hy | hy
    · exact h.mem y hy
    · simp at hy
      subst hy
      exact ⟨rfl, rfl, rfl, h2, h3, x, hx, rfl⟩
  · rw [List.map_append]
    exact riseK_snoc _ _ _ h.rise h1 h2
theorem GL.objE {ls : List Ob} {ys : List Ob} (h : GL ls 6 ys) : objE (ys.map Ob.st) = 0 := by
  unfold Go.Proofs.YtmehjmkakkiedaaGreat.objE
  have h1 := h.len
  have e : (ys.map Ob.st).map (·.key) = ys.map (·.key) := by rw [List.map_map]; rfl
  rw [if_neg (by rw [List.length_map]; omega), e, h.rise, if_neg (by decide), if_pos]
  rw [List.all_eq_true]
  intro o ho
  obtain ⟨y, hy, rfl⟩ := List.mem_map.1 ho
  have := (h.mem y hy).2.2.2.2.1
  exact decide_eq_true (by show y.d.zs.length ≤ 65536; omega)

set_option maxHeartbeats 4000000 in
theorem good10_any (A : Option Addr) (c : Nat) (ls : List Ob) (_hll : ls.length ≤ 4398046511104) (hlf : ∀ o ∈ ls, o.Fits) (w : World) (hr : Rd w A (obCells ls)) :
    Calls Tryz.prog 10 #[.slice A ls.length c] w fun e w' => ∃ v, e = .returned v ∧ ∃ ys, GL ls 6 ys ∧ w'.ownsRow w.heap.size 58 3 v ys.length (obCells ys) ∧ Below w.heap.size w w' := by
  obtain ⟨i0, hi, hz0, hz1, hz2⟩ := dinfo_parts infoObj
  have HLF := Lib.hid hlf
  clear hlf
  go_enter Tryz.func10, Tryz.ntmps10
  go_wp2
  go_loopw [3, 4] (fun v j W => ∃ (k : Nat) (ys : List Ob), k ≤ ls.length ∧ k ≤ 6 ∧ j = .int .i64 k ∧ Hid (GL ls k ys) ∧ Hid (W.ownsRow w.heap.size 58 3 v ys.length (obCells ys)) ∧ Below w.heap.size w W) (fun _ j _ => ls.length - (intOf j).toNat)
  case atStart => exact ⟨0, [], Nat.zero_le _, Nat.zero_le _, rfl, Lib.hid ⟨fun y hy => (by cases hy), Nat.zero_le _, rfl⟩, Lib.hid (own_none' _ _ _ _), Below.refl _ _⟩
  case round =>
    obtain ⟨k, ys, hk, hk6, rfl, HG, HO, hB⟩ := hrel
    obtain ⟨V, cv, rfl, hcv, _, hrV, _⟩ := own_any HO.out
    have hyl := HG.out.len
    have hBs := hB.size
    by_cases hend : k < ls.length ∧ k < 6
    rotate_left
    · by_cases hlt : k < ls.length
      · have hk7 : ¬ (k : Int) < 6 := by omega
        go_wp2
        go_ret
        exact ⟨_, rfl, ys, HG.out.le hk6, HO.out, hB⟩
      · go_wp2
        go_ret
        exact ⟨_, rfl, ys, HG.out.le hk6, HO.out, hB⟩
    obtain ⟨hlt, hlt6⟩ := hend
    obtain ⟨x, hx⟩ : ∃ x, ls[k]? = some x := ⟨_, List.getElem?_eq_getElem hlt⟩
    have hxm := List.mem_of_getElem? hx
    obtain ⟨b, off, rfl, hb, hd0, hd1, hd2⟩ := (Rd.below hr hB).ob hx
    have hks : x.key.size ≤ maxLen := (HLF.out x hxm).1
    have hds : x.d.zs.length ≤ 140737488351232 := (HLF.out x hxm).2
    unfold maxLen at hks
    obtain ⟨w5, hw5⟩ : ∃ w5, wr.alloc (.cells #[.string x.key, x.d.val, .slice x.B x.ns.length x.e] 58) = w5 := ⟨_, rfl⟩
    have hB5 : Below wr.heap.size wr w5 := hw5 ▸ (Below.refl _ wr).alloc (Nat.le_refl _) _
    have k5 : Blk w5 wr.heap.size 58 [.string x.key, x.d.val, .slice x.B x.ns.length x.e] := hw5 ▸ Blk.new wr _ _
    have hB05 : Below w.heap.size w w5 := hB.trans (hB5.mono hBs)
    have HO5 := Lib.hid (own_below3 HO.out hB5 (Nat.le_refl _))
    have hlt5 := k5.lt
    have x0 := k5.cell 0
    have x1 := k5.cell 1
    simp only [List.getElem?_cons_zero, List.getElem?_cons_succ] at x0 x1
    have HPUSH := Lib.hid (fun h1 h2 h3 => HG.out.push hxm h1 h2 h3)
    have HW5 := Lib.hid hw5
    obtain ⟨eb, heb⟩ : ∃ eb, (x.key.toList == ([] : List UInt8)) = eb := ⟨_, rfl⟩
    have HEB := Lib.hid heb
    have hls : (k : Int) < ls.length := by omega
    have hk6' : (k : Int) < 6 := by omega
    have HGK := Lib.hid (HG.out.le (Nat.le_succ k))
    clear hx hxm hw5 k5
    obtain ⟨xk, ⟨xA, xz, xc⟩, xB, xn, xe⟩ := x
    dsimp only at *
    go_wp2_with fail
    rw [HW5.out]
    rcases eb with _ | _
    rotate_left
    · go_big_quiet (fail)
      go_wp2
      go_roundw
      case rel => exact ⟨k + 1, ys, by omega, by omega, by go_num, HGK, Lib.hid (own_below3 HO5.out (below_dN _ _ _) (Nat.le_refl _)), hB05.trans (below_dN _ _ _)⟩
      case measure => simp [intOf]; omega
    by_cases h96 : (96 : Int) < xk.size
    · go_big_quiet (fail)
      go_wp2
      go_roundw
      case rel => exact ⟨k + 1, ys, by omega, by omega, by go_num, HGK, Lib.hid (own_below3 HO5.out (below_dN _ _ _) (Nat.le_refl _)), hB05.trans (below_dN _ _ _)⟩
      case measure => simp [intOf]; omega
    by_cases h400 : (400 : Int) < xz.length
    · go_big_quiet (fail)
      go_wp2
      go_roundw
      case rel => exact ⟨k + 1, ys, by omega, by omega, by go_num, HGK, Lib.hid (own_below3 HO5.out (below_dN _ _ _) (Nat.le_refl _)), hB05.trans (below_dN _ _ _)⟩
      case measure => simp [intOf]; omega
    have HLT0 := Lib.hid (ltK_empty HEB.out)
    have hway : (Hid (ltK ((ys.map (·.key)).getLastD ByteArray.empty) xk) ∧ decide (0 < ys.length) = false) ∨ ∃ (m : Nat) (y : Ob) (gb : Bool) (vb vo : Nat), Hid (gb = true → ltK ((ys.map (·.key)).getLastD ByteArray.empty) xk) ∧ (Op.bytesLess y.key.toList xk.toList) = gb ∧ decide (0 < ys.length) = true ∧ IntKind.i64.wrap ((ys.length : Int) - 1) = (m : Int) ∧ m < ys.length ∧ V = some ⟨vb, vo, none⟩ ∧ w5.cell? ⟨vb, vo + m * 3, none⟩ = some (.string y.key) := by
      rcases hys : ys with _ | ⟨y0, ys0⟩
      · exact .inl ⟨HLT0, rfl⟩
      · obtain ⟨m, hm⟩ : ∃ m, ys.length = m + 1 := ⟨ys0.length, by rw [hys]; rfl⟩
        obtain ⟨y, hy⟩ : ∃ y, ys[m]? = some y := ⟨_, List.getElem?_eq_getElem (by omega)⟩
        obtain ⟨vb, vo, e, hvb, hv0, _, _⟩ := (hrV.1.below hB5).ob hy
        have hlast : (ys.map (·.key)).getLastD ByteArray.empty = y.key := by
          rw [List.getLastD_eq_getLast?, List.getLast?_eq_getElem?, List.length_map, hm, List.getElem?_map]
          show (Option.map _ ys[m]?).getD _ = _
          rw [hy]
          rfl
        rw [← hys]
        exact .inr ⟨m, y, _, vb, vo, Lib.hid (by rw [hlast]; exact fun h => h), rfl, decide_eq_true (by omega), by rw [IntWalk.i64_in _ (by omega)]; omega, by omega, e, hv0⟩
    rcases hway with ⟨HLT, hd⟩ | ⟨m, y, gb, vb, vo, HLT, hgb, hd, hw, hm, rfl, hv0⟩
    rotate_left
    · rcases gb with _ | _
      · go_big_quiet (fail)
        go_wp2
        go_roundw
        case rel => exact ⟨k + 1, ys, by omega, by omega, by go_num, HGK, Lib.hid (own_below3 HO5.out (below_dN _ _ _) (Nat.le_refl _)), hB05.trans (below_dN _ _ _)⟩
        case measure => simp [intOf]; omega
      · have HNG := Lib.hid (HPUSH.out (HLT.out rfl) (by show xk.size ≤ 96; omega) (by show xz.length ≤ 400; omega))
        go_big_quiet (fail)
        go_wp2_with (at_builtin; refine wpList_append_lies _ rfl _ _ 22 rfl w.heap.size 58 i0 (.agg #[.string ByteArray.empty, .slice none 0 0, .slice none 0 0]) 3 64 Tryz.underlying22 hi hz0 hz1 hz2 rfl (by decide) (.slice (some ⟨vb, vo, none⟩) ys.length cv) ys.length (obCells ys) rfl (own_below3 (own_below3 HO5.out (below_dN _ _ _) (Nat.le_refl _)) ((Below.refl _ _).alloc (Nat.le_refl _) _) (Nat.le_refl _)) ⟨_, 0, none⟩ 1 1 [.string xk, .slice xA xz.length xc, .slice none 0 0] rfl rfl (newsNew _ _ _) (by simp [Value.oneCell']) (by omega) (by unfold maxLen; omega) (by omega) (by simp; omega) _ rfl ?_
                     intro g6 c6 x6 ho6 hg6 _ _
                     have HB6 : Hid (Below w.heap.size w x6) := Lib.hid (((hB05.trans (below_dN _ _ _)).alloc (hB05.trans (below_dN _ _ _)).size _).grown hg6 (by simp; omega) (fun j e => (HO5.out.lt j e).1))
                     have HO6 : Hid (x6.ownsRow w.heap.size 58 3 (.slice (some ⟨g6, 0, none⟩) (ys.length + 1) c6) (ys ++ [(⟨xk, ⟨xA, xz, xc⟩, none, [], 0⟩ : Ob)]).length (obCells (ys ++ [(⟨xk, ⟨xA, xz, xc⟩, none, [], 0⟩ : Ob)]))) := Lib.hid (by rw [obCells_snoc, List.length_append]; exact ho6)
                     clear ho6 hg6)
        go_roundw
        case rel => exact ⟨k + 1, _, by omega, by omega, by go_num, HNG, HO6, HB6.out⟩
        case measure => simp [intOf]; omega
    · have HNG := Lib.hid (HPUSH.out HLT.out (by show xk.size ≤ 96; omega) (by show xz.length ≤ 400; omega))
      go_big_quiet (fail)
      go_wp2_with (at_builtin; refine wpList_append_lies _ rfl _ _ 22 rfl w.heap.size 58 i0 (.agg #[.string ByteArray.empty, .slice none 0 0, .slice none 0 0]) 3 64 Tryz.underlying22 hi hz0 hz1 hz2 rfl (by decide) (.slice V ys.length cv) ys.length (obCells ys) rfl (own_below3 (own_below3 HO5.out (below_dN _ _ _) (Nat.le_refl _)) ((Below.refl _ _).alloc (Nat.le_refl _) _) (Nat.le_refl _)) ⟨_, 0, none⟩ 1 1 [.string xk, .slice xA xz.length xc, .slice none 0 0] rfl rfl (newsNew _ _ _) (by simp [Value.oneCell']) (by omega) (by unfold maxLen; omega) (by omega) (by simp; omega) _ rfl ?_
                   intro g6 c6 x6 ho6 hg6 _ _
                   have HB6 : Hid (Below w.heap.size w x6) := Lib.hid (((hB05.trans (below_dN _ _ _)).alloc (hB05.trans (below_dN _ _ _)).size _).grown hg6 (by simp; omega) (fun j e => (HO5.out.lt j e).1))
                   have HO6 : Hid (x6.ownsRow w.heap.size 58 3 (.slice (some ⟨g6, 0, none⟩) (ys.length + 1) c6) (ys ++ [(⟨xk, ⟨xA, xz, xc⟩, none, [], 0⟩ : Ob)]).length (obCells (ys ++ [(⟨xk, ⟨xA, xz, xc⟩, none, [], 0⟩ : Ob)]))) := Lib.hid (by rw [obCells_snoc, List.length_append]; exact ho6)
                   clear ho6 hg6)
      go_roundw
      case rel => exact ⟨k + 1, _, by omega, by omega, by go_num, HNG, HO6, HB6.out⟩
      case measure => simp [intOf]; omega

end Go.Proofs.YtmehjmkakkiedaaGreat

namespace Go.Proofs.YtmehjmkakkiedaaGreat
open Go.ChangeShapes Go.WideShapes Go.ChangeAt Go.RowKit Go.Maps Go.Shelf
set_option maxRecDepth 100000

abbrev STY : TypeId := 32
/-- All blocks below n but three are as they were. -/
structure Out3 (a b c n : Nat) (w w' : World) : Prop where
  os : w'.os = w.os
  tape : w'.tape = w.tape
  output : w'.output = w.output
  size : w.heap.size ≤ w'.heap.size
  block : ∀ k, k < n → k ≠ a → k ≠ b → k ≠ c → w'.heap[k]? = w.heap[k]?
theorem Out3.refl (a b c n : Nat) (w : World) : Out3 a b c n w w := ⟨rfl, rfl, rfl, Nat.le_refl _, fun _ _ _ _ _ => rfl⟩
theorem Out3.trans {a b c n : Nat} {u v w : World} (h : Out3 a b c n u v) (k : Out3 a b c n v w) : Out3 a b c n u w :=
  ⟨k.os.trans h.os, k.tape.trans h.tape, k.output.trans h.output, Nat.le_trans h.size k.size, fun i hi h1 h2 h3 => (k.block i hi h1 h2 h3).trans (h.block i hi h1 h2 h3)⟩
theorem Out3.of_below {a b c n : Nat} {w w' : World} (h : Below n w w') : Out3 a b c n w w' := ⟨h.os, h.tape, h.output, h.size, fun k hk _ _ _ => h.block k hk⟩
theorem Out3.grown {a b c n : Nat} {w w' : World} {row : Option Nat} (hg : w.grownBy w' row) (hr : ∀ r, row = some r → n ≤ r) (hs : n ≤ w.heap.size) : Out3 a b c n w w' :=
  ⟨hg.os, hg.tape, hg.output, hg.size, fun k hk _ _ _ => hg.block k (by omega) (fun e => by have := hr k e.symm; omega)⟩
theorem set_other {W : World} {B o : Nat} {v : Value} {k : Nat} (h : k ≠ B) : (W.setCell ⟨B, o, none⟩ v).heap[k]? = W.heap[k]? := by
  simp only [World.setCell, Array.getElem?_modify]
  rw [if_neg (Ne.symm h)]
theorem Out3.set {a b c n : Nat} (w : World) (B o : Nat) (v : Value) (h : B = a ∨ B = b ∨ B = c ∨ n ≤ B) : Out3 a b c n w (w.setCell ⟨B, o, none⟩ v) :=
  ⟨rfl, rfl, rfl, by simp, fun k hk h1 h2 h3 => set_other (by omega)⟩

/-- What the index's pages hold, one behind the other. -/
def catC (zs : List Int) (pre : List CE) : List Int := (pre.map fun x => piece zs x.1).flatten
def atC (ix : List Int) (pre : List CE) : List Int := pre.map fun x => ix.getD x.1 0
theorem catC_snoc (zs : List Int) (pre : List CE) (x : CE) : catC zs (pre ++ [x]) = catC zs pre ++ piece zs x.1 := by simp [catC]
theorem atC_snoc (ix : List Int) (pre : List CE) (x : CE) : atC ix (pre ++ [x]) = atC ix pre ++ [ix.getD x.1 0] := by simp [atC]

theorem catC_le (zs : List Int) (pre : List CE) : (catC zs pre).length ≤ 52 * pre.length := by
  induction pre with
  | nil => simp [catC]
  | cons x pre ih =>
    have h1 := piece_le zs x.1
    simp only [catC, List.map_cons, List.flatten_cons, List.length_append, List.length_cons] at ih ⊢
    omega
theorem atC_length (ix : List Int) (pre : List CE) : (atC ix pre).length = pre.length := by simp [atC]
/-- What a round needs to know behind its first append. -/
theorem opJ_mid {w0 : World} {bS bI : Nat} {c0 c1 c2 c3 c4 c5 : Value} {zs ix : List Int} {pre : List CE} {W W1 : World} {iv bv v' : Value} {z : Int} {A : Option Addr} {c : Nat} {ps : List Int}
    (hst : Blk W bS STY [c0, c1, c2, c3, c4, c5, iv]) (hib : Blk W bI 46 [bv]) (hir : W.ownsRow w0.heap.size 3 1 iv (atC ix pre).length (ints (atC ix pre))) (hbr : W.ownsRow w0.heap.size 5 1 bv (catC zs pre).length (octCells (catC zs pre)))
    (hA : W.ownsRow 0 5 1 (.slice A ps.length c) ps.length (octCells ps)) (n1 : bS ≠ bI)
    (hg1 : (W.alloc (.cells #[.int .i64 z] 3)).grownBy W1 iv.ownBlock) :
    Blk W1 bS STY [c0, c1, c2, c3, c4, c5, iv] ∧ Blk (W1.setCell ⟨bS, 6, none⟩ v') bI 46 [bv] ∧ (W1.setCell ⟨bS, 6, none⟩ v').ownsRow w0.heap.size 5 1 bv (catC zs pre).length (octCells (catC zs pre)) ∧ (W1.setCell ⟨bS, 6, none⟩ v').ownsRow 0 5 1 (.slice A ps.length c) ps.length (octCells ps) ∧ W.heap.size ≤ (W1.setCell ⟨bS, 6, none⟩ v').heap.size := by
  have hBa : Below W.heap.size W (W.alloc (.cells #[.int .i64 z] 3)) := (Below.refl _ _).alloc (Nat.le_refl _) _
  have hia := own_below hir hBa (Nat.le_refl _)
  have ksa := hst.below hBa hst.lt
  have kba := hib.below hBa hib.lt
  have hst2 : ∀ {base k : Nat} {v : Value} {xs : List Value}, W.ownsRow base 5 1 v k xs → (W1.setCell ⟨bS, 6, none⟩ v').ownsRow base 5 1 v k xs := fun ho => by
    have ha := own_below ho hBa (Nat.le_refl _)
    have h1 := own_stay ha fun b hb => hg1.block b (ha.lt b hb).2 (fun e => own_apart ha hia (by decide) b hb e.symm)
    have ks1 := grown_blk ksa hia (by decide) hg1
    exact own_stay h1 fun b hb => set_other (fun e => by subst e; exact blk_apart ks1 h1 (by decide) hb)
  refine ⟨grown_blk ksa hia (by decide) hg1, (set_other (Ne.symm n1)).trans (grown_blk kba hia (by decide) hg1), hst2 hbr, hst2 hA, ?_⟩
  have := hBa.size
  have := hg1.size
  simp at *
  omega

structure OpJ (w0 : World) (bS bI mb : Nat) (c0 c1 c2 c3 c4 c5 : Value) (zs ix : List Int) (pre : List CE) (W : World) (iv bv : Value) : Prop where
  st : Blk W bS STY [c0, c1, c2, c3, c4, c5, iv]
  ib : Blk W bI 46 [bv]
  irow : W.ownsRow w0.heap.size 3 1 iv (atC ix pre).length (ints (atC ix pre))
  brow : W.ownsRow w0.heap.size 5 1 bv (catC zs pre).length (octCells (catC zs pre))
  out : Out3 bS bI mb w0.heap.size w0 W

theorem OpJ.step {w0 : World} {bS bI mb m X b1 b2 L : Nat} {c0 c1 c2 c3 c4 c5 : Value} {zs ix : List Int} {pre : List CE} {x : CE} {W W1 W3 : World} {iv bv v' u' : Value}
    (h : OpJ w0 bS bI mb c0 c1 c2 c3 c4 c5 zs ix pre W iv bv) (hS : bS < w0.heap.size) (hI : bI < w0.heap.size) (hX : X < w0.heap.size) (hm : mb < w0.heap.size) (hb1 : b1 < w0.heap.size) (hb2 : b2 < w0.heap.size) (hmS : m ≤ bS) (hmI : m ≤ bI)
    (n1 : bS ≠ bI) (n2 : X ≠ bS) (n3 : X ≠ bI) (n4 : mb ≠ bS) (n5 : mb ≠ bI) (n6 : b1 ≠ bS) (n7 : b1 ≠ bI) (n8 : b2 ≠ bS) (n9 : b2 ≠ bI)
    (hg1 : (W.alloc (.cells #[.int .i64 (ix.getD x.1 0)] 3)).grownBy W1 iv.ownBlock) (ho1 : W1.ownsRow w0.heap.size 3 1 v' ((atC ix pre).length + 1) (ints (atC ix pre) ++ [.int .i64 (ix.getD x.1 0)]))
    (hg3 : (W1.setCell ⟨bS, 6, none⟩ v').grownBy W3 bv.ownBlock) (ho3 : W3.ownsRow w0.heap.size 5 1 u' ((catC zs pre).length + (piece zs x.1).length) (octCells (catC zs pre) ++ octCells (piece zs x.1))) :
    KeepsFrom L W (W3.setCell ⟨bI, 0, none⟩ u') ∧ cKp m X mb b1 b2 W (W3.setCell ⟨bI, 0, none⟩ u') ∧ OpJ w0 bS bI mb c0 c1 c2 c3 c4 c5 zs ix (pre ++ [x]) (W3.setCell ⟨bI, 0, none⟩ u') v' u' := by
  have hWs := h.out.size
  have hBa : Below W.heap.size W (W.alloc (.cells #[.int .i64 (ix.getD x.1 0)] 3)) := (Below.refl _ _).alloc (Nat.le_refl _) _
  have hia := own_below h.irow hBa (Nat.le_refl _)
  have hba := own_below h.brow hBa (Nat.le_refl _)
  have ksa := h.st.below hBa h.st.lt
  have kba := h.ib.below hBa h.ib.lt
  have hsa := hBa.size
  have hcell : ∀ {V : World} {base size k : Nat} {e : TypeId} {v : Value} {xs : List Value}, V.ownsRow base e size v k xs → ∀ (j : Nat) (o : Obj), v.ownBlock = some j → V.heap[j]? = some o → o.isCells = true := fun ho j o hj ho' => by
    rcases ho.2 with ⟨rfl, _⟩ | ⟨g, cap, cur, rfl, _, hh, _⟩
    · cases hj
    · simp [Value.ownBlock] at hj
      subst hj
      rw [hh] at ho'
      cases ho'
      rfl
  have ko1 : KeepsOthers W W1 := KeepsOthers.trans ⟨hBa.size, fun k o hk _ => (hBa.block k (Array.getElem?_eq_some_iff.1 hk).1).trans hk⟩ (KeepsOthers.of_grownBy hg1 (hcell hia))
  have hOa : Out3 bS bI mb w0.heap.size W (W.alloc (.cells #[.int .i64 (ix.getD x.1 0)] 3)) := Out3.of_below (hBa.mono hWs)
  generalize W.alloc (.cells #[.int .i64 (ix.getD x.1 0)] 3) = Wa at *
  have ks1 : Blk W1 bS STY [c0, c1, c2, c3, c4, c5, iv] := grown_blk ksa hia (by decide) hg1
  have kb1 : Blk W1 bI 46 [bv] := grown_blk kba hia (by decide) hg1
  have hb1' : W1.ownsRow w0.heap.size 5 1 bv (catC zs pre).length (octCells (catC zs pre)) := own_stay hba fun b hb => hg1.block b (hba.lt b hb).2 (fun e => own_apart hba hia (by decide) b hb e.symm)
  have ks2 := ks1.set 6 v'
  have kb2 : Blk (W1.setCell ⟨bS, 6, none⟩ v') bI 46 [bv] := (set_other (Ne.symm n1)).trans kb1
  have hi2 : (W1.setCell ⟨bS, 6, none⟩ v').ownsRow w0.heap.size 3 1 v' ((atC ix pre).length + 1) (ints (atC ix pre) ++ [.int .i64 (ix.getD x.1 0)]) := own_stay ho1 fun b hb => set_other (fun e => by subst e; exact blk_apart ks1 ho1 (by decide) hb)
  have hb2' : (W1.setCell ⟨bS, 6, none⟩ v').ownsRow w0.heap.size 5 1 bv (catC zs pre).length (octCells (catC zs pre)) := own_stay hb1' fun b hb => set_other (fun e => by subst e; exact blk_apart ks1 hb1' (by decide) hb)
  have ko2 : KeepsOthers W1 (W1.setCell ⟨bS, 6, none⟩ v') := KeepsOthers.setCell _ _ _
  have ho2' : Out3 bS bI mb w0.heap.size W1 (W1.setCell ⟨bS, 6, none⟩ v') := Out3.set _ _ _ _ (.inl rfl)
  have hs1 := hg1.size
  have hs2 := ho2'.size
  generalize hW2 : W1.setCell ⟨bS, 6, none⟩ v' = W2 at *
  have hs3 := hg3.size
  have ks3 : Blk W3 bS STY [c0, c1, c2, c3, c4, c5, v'] := grown_blk ks2 hb2' (by decide) hg3
  have kb3 : Blk W3 bI 46 [bv] := grown_blk kb2 hb2' (by decide) hg3
  have hi3 : W3.ownsRow w0.heap.size 3 1 v' ((atC ix pre).length + 1) (ints (atC ix pre) ++ [.int .i64 (ix.getD x.1 0)]) := own_stay hi2 fun b hb => hg3.block b (hi2.lt b hb).2 (fun e => own_apart hi2 hb2' (by decide) b hb e.symm)
  have ko3 : KeepsOthers W2 W3 := KeepsOthers.of_grownBy hg3 (hcell hb2')
  have o4 : Out3 bS bI mb w0.heap.size W (W3.setCell ⟨bI, 0, none⟩ u') :=
    (((hOa.trans (Out3.grown hg1 (fun r e => (hia.lt r e).1) (Nat.le_trans hWs hsa))).trans ho2').trans (Out3.grown hg3 (fun r e => (hb2'.lt r e).1) (by omega))).trans (Out3.set _ _ _ _ (.inr (.inl rfl)))
  have hsame : ∀ k, k < w0.heap.size → k ≠ bS → k ≠ bI → (W3.setCell ⟨bI, 0, none⟩ u').heap[k]? = W.heap[k]? := fun k hk k1 k2 => by
    refine (set_other k2).trans ((hg3.block k (by omega) (fun e => by have := (hb2'.lt k e.symm).1; omega)).trans ?_)
    rw [← hW2]
    refine (set_other k1).trans ((hg1.block k (by omega) (fun e => by have := (hia.lt k e.symm).1; omega)).trans ?_)
    exact hBa.block k (by omega)
  refine ⟨((ko1.trans ko2).trans (ko3.trans (KeepsOthers.setCell _ _ _))).from L, ⟨hsame X hX n2 n3, hsame mb hm n4 n5, fun b hb o v hv => (World.cell?_of_block (hsame b (by omega) (by omega) (by omega))).trans hv, fun o v hv => (World.cell?_of_block (hsame b1 hb1 n6 n7)).trans hv, fun o v hv => (World.cell?_of_block (hsame b2 hb2 n8 n9)).trans hv⟩, ?_⟩
  refine ⟨(set_other n1).trans ks3, kb3.set 0 u', ?_, ?_, h.out.trans o4⟩
  · rw [atC_snoc, List.length_append, ints_snoc]
    exact own_stay hi3 fun b hb => set_other (fun e => by subst e; exact blk_apart kb3 hi3 (by decide) hb)
  · have e : octCells (catC zs (pre ++ [x])) = octCells (catC zs pre) ++ octCells (piece zs x.1) := by rw [catC_snoc]; simp [octCells]
    rw [e, catC_snoc, List.length_append]
    exact own_stay ho3 fun b hb => set_other (fun e => by subst e; exact blk_apart kb3 ho3 (by decide) hb)

end Go.Proofs.YtmehjmkakkiedaaGreat

namespace Go.Proofs.YtmehjmkakkiedaaGreat
open Go.ChangeShapes Go.WideShapes Go.ChangeAt Go.RowKit Go.Maps Go.Shelf
set_option maxRecDepth 100000

theorem take_pieces (zs : List Int) : ∀ k, ((List.range k).map (piece zs)).flatten = zs.take (52 * k)
  | 0 => by simp
  | k + 1 => by rw [List.range_succ, List.map_append, List.flatten_append, take_pieces zs k, ← take_piece]; simp
theorem catC_all {zs ix : List Int} {ys : List CE} (h : ys.map (·.1) = List.range ix.length) (hl : ix.length = cntN zs.length) : catC zs ys = zs ∧ atC ix ys = ix := by
  have e1 : catC zs ys = ((ys.map (·.1)).map (piece zs)).flatten := by simp [catC, List.map_map]; rfl
  have e2 : atC ix ys = (ys.map (·.1)).map fun i => ix.getD i 0 := by simp [atC, List.map_map]
  rw [e1, e2, h, take_pieces, range_getD]
  exact ⟨List.take_of_length_le (by rw [hl]; unfold cntN; omega), rfl⟩

/-- Three texts for each object. -/
theorem idxT_at (os : List PO) (k : Nat) (h : k < os.length) : ((idxT os).drop (3 * k)).take 3 = [os[k].key, numT os[k].data.length, numsT os[k].at_] := by
  have e : idxT os = (os.map oneT).flatten := by simp [idxT, List.flatMap]
  rw [e, flat_piece _ 3 ?_ k (by simpa using h)]
  · simp [List.getD, List.getElem?_map, List.getElem?_eq_getElem h, oneT]
  · intro x hx
    obtain ⟨o, _, rfl⟩ := List.mem_map.1 hx
    rfl

/-- Objects that were read. -/
structure OpK (w0 : World) (bS mb : Nat) (c0 c1 c2 c3 c4 c6 : Value) (W : World) (vO : Value) (ys : List Ob) : Prop where
  st : Blk W bS STY [c0, c1, c2, c3, c4, vO, c6]
  row : W.ownsRow w0.heap.size 58 3 vO ys.length (obCells ys)
  data : ∀ y ∈ ys, W.ownsRow w0.heap.size 5 1 y.d.val y.d.zs.length (octCells y.d.zs)
  at_ : ∀ y ∈ ys, W.ownsRow w0.heap.size 3 1 (.slice y.B y.ns.length y.e) y.ns.length (ints y.ns)
  out : Out3 bS mb mb w0.heap.size w0 W
theorem OpK.own {w0 : World} {bS mb L : Nat} {c0 c1 c2 c3 c4 c6 vO : Value} {ys : List Ob} {W W' : World} {row : Option Nat} (hL : w0.heap.size ≤ L) (h : OpK w0 bS mb c0 c1 c2 c3 c4 c6 W vO ys) (hg : W.grownBy W' row) (hr : ∀ r, row = some r → L ≤ r ∧ ∃ o : Obj, W.heap[r]? = some o ∧ o.isCells = false) : OpK w0 bS mb c0 c1 c2 c3 c4 c6 W' vO ys :=
  ⟨(hg.block _ h.st.lt (fun e => by
      obtain ⟨_, o, ho, hc⟩ := hr _ e.symm
      rw [show W.heap[_]? = _ from h.st] at ho
      cases ho
      cases hc)).trans h.st,
    own_other2 h.row hg (fun r e => (hr r e).2), fun y hy => own_other2 (h.data y hy) hg (fun r e => (hr r e).2), fun y hy => own_other2 (h.at_ y hy) hg (fun r e => (hr r e).2),
    h.out.trans (Out3.grown hg (fun r e => by have := (hr r e).1; omega) h.out.size)⟩

theorem OpK.below {w0 : World} {bS mb : Nat} {c0 c1 c2 c3 c4 c6 vO : Value} {ys : List Ob} {W W' : World} (h : OpK w0 bS mb c0 c1 c2 c3 c4 c6 W vO ys) (hB : Below W.heap.size W W') : OpK w0 bS mb c0 c1 c2 c3 c4 c6 W' vO ys :=
  ⟨h.st.below hB h.st.lt, own_below3 h.row hB (Nat.le_refl _), fun y hy => own_below3 (h.data y hy) hB (Nat.le_refl _), fun y hy => own_below3 (h.at_ y hy) hB (Nat.le_refl _), h.out.trans (Out3.of_below (hB.mono h.out.size))⟩
theorem RdAt.grown {m X mb L : Nat} {D : Dv} {S : List Int} {A B : World} {row : Option Nat} (h : RdAt m X mb D S A) (hX : X < L) (hm : mb < L) (hg : A.grownBy B row) (hr : ∀ r, row = some r → L ≤ r) : RdAt m X mb D S B :=
  h.keep (hg.block X h.blk.lt (fun e => by have := hr _ e.symm; omega)) (hg.block mb h.mlt (fun e => by have := hr _ e.symm; omega)) (fun b hb o v hv => by
    have h1 := h.mX
    exact (World.cell?_of_block (hg.block b (World.block_lt_of_cell? A ⟨b, o, none⟩ hv) (fun e => by have := hr _ e.symm; omega))).trans hv)

theorem RdAt.set {m X mb B o : Nat} {D : Dv} {S : List Int} {W : World} {v : Value} (h : RdAt m X mb D S W) (hX : X ≠ B) (hm : mb ≠ B) (hB : m ≤ B) : RdAt m X mb D S (W.setCell ⟨B, o, none⟩ v) :=
  h.keep (set_other hX) (set_other hm) (fun b hb o v hv => (World.cell?_of_block (set_other (k := b) (by omega))).trans hv)

theorem OpK.step {w0 : World} {bS mb Bn Bm L : Nat} {c0 c1 c2 c3 c4 c6 vO v' : Value} {ys : List Ob} {y : Ob} {W Wd W5 W6 : World}
    (h : OpK w0 bS mb c0 c1 c2 c3 c4 c6 W vO ys) (hL : w0.heap.size ≤ L) (hS : bS < w0.heap.size) (hm : mb < w0.heap.size) (hn : Bn < w0.heap.size) (hn2 : Bm < w0.heap.size) (n1 : bS ≠ mb) (n2 : Bn ≠ bS) (n3 : Bm ≠ bS) (n4 : Bn ≠ mb) (n5 : Bm ≠ mb)
    (hBd : Below W.heap.size W Wd) (hO : Out mb (mb + 1) Wd.heap.size Wd W5)
    (hd : W5.ownsRow Wd.heap.size 5 1 y.d.val y.d.zs.length (octCells y.d.zs)) (ha : W5.ownsRow Wd.heap.size 3 1 (.slice y.B y.ns.length y.e) y.ns.length (ints y.ns))
    (hown : W6.ownsRow w0.heap.size 58 3 v' (ys.length + 1) (obCells ys ++ [.string y.key, y.d.val, .slice y.B y.ns.length y.e])) (hgrow : (W5.alloc (.cells #[.string y.key, y.d.val, .slice y.B y.ns.length y.e] 58)).grownBy W6 vO.ownBlock) :
    KeepsFrom L W (W6.setCell ⟨bS, 5, none⟩ v') ∧ KeepsTwo Bn Bm W (W6.setCell ⟨bS, 5, none⟩ v') ∧ OpK w0 bS mb c0 c1 c2 c3 c4 c6 (W6.setCell ⟨bS, 5, none⟩ v') v' (ys ++ [y]) ∧ Blk W6 bS STY [c0, c1, c2, c3, c4, vO, c6] := by
  have hWs := h.out.size
  have hds := hBd.size
  have hs5 := hO.size
  have st5 : ∀ k, k < W.heap.size → k ≠ mb → W5.heap[k]? = W.heap[k]? := fun k hk h1 => (hO.block k (by omega) (by omega)).trans (hBd.block k hk)
  have keep5 : ∀ {size k : Nat} {e : TypeId} {v : Value} {xs : List Value}, W.ownsRow w0.heap.size e size v k xs → W5.ownsRow w0.heap.size e size v k xs := fun ho => own_stay ho fun b hb => st5 b (ho.lt b hb).2 (by have := (ho.lt b hb).1; omega)
  have o5 : Out3 bS mb mb w0.heap.size w0 W5 := h.out.trans ⟨hO.os.trans hBd.os, hO.tape.trans hBd.tape, hO.output.trans hBd.output, by omega, fun k hk _ h2 _ => st5 k (by omega) h2⟩
  have s5 : Blk W5 bS STY [c0, c1, c2, c3, c4, vO, c6] := (st5 bS h.st.lt n1).trans h.st
  have r5 := keep5 h.row
  have d5 : ∀ z ∈ ys ++ [y], W5.ownsRow w0.heap.size 5 1 z.d.val z.d.zs.length (octCells z.d.zs) := fun z hz => by
    rcases List.mem_append.1 hz with hz | hz
    · exact keep5 (h.data z hz)
    · simp at hz
      subst hz
      exact own_base hd (by omega)
  have a5 : ∀ z ∈ ys ++ [y], W5.ownsRow w0.heap.size 3 1 (.slice z.B z.ns.length z.e) z.ns.length (ints z.ns) := fun z hz => by
    rcases List.mem_append.1 hz with hz | hz
    · exact keep5 (h.at_ z hz)
    · simp at hz
      subst hz
      exact own_base ha (by omega)
  have hBa : Below W5.heap.size W5 (W5.alloc (.cells #[.string y.key, y.d.val, .slice y.B y.ns.length y.e] 58)) := (Below.refl _ _).alloc (Nat.le_refl _) _
  have hsa := hBa.size
  have ra := own_below3 r5 hBa (Nat.le_refl _)
  have sa := s5.below hBa s5.lt
  have da := fun z hz => own_below3 (d5 z hz) hBa (Nat.le_refl _)
  have aa := fun z hz => own_below3 (a5 z hz) hBa (Nat.le_refl _)
  have hlo : ∀ k, k < W5.heap.size → (W5.alloc (.cells #[.string y.key, y.d.val, .slice y.B y.ns.length y.e] 58)).heap[k]? = W5.heap[k]? := fun k hk => hBa.block k hk
  have oa := o5.trans (Out3.of_below (a := bS) (b := mb) (c := mb) (hBa.mono (by omega : w0.heap.size ≤ W5.heap.size)))
  generalize W5.alloc (.cells #[.string y.key, y.d.val, .slice y.B y.ns.length y.e] 58) = Wa at *
  have hA : Away 58 Wa W6 := away_grown ra hgrow
  have s6 := hA.blk sa (by decide)
  have hA2 : Away STY W6 (W6.setCell ⟨bS, 5, none⟩ v') := away_set s6
  have hsame : ∀ k, k < w0.heap.size → k ≠ bS → k ≠ mb → (W6.setCell ⟨bS, 5, none⟩ v').heap[k]? = W.heap[k]? := fun k hk k1 k2 =>
    (set_other k1).trans ((hgrow.block k (by omega) (fun e => by have := (ra.lt k e.symm).1; omega)).trans ((hlo k (by omega)).trans (st5 k (by omega) k2)))
  have hgs := hgrow.size
  have hkf : KeepsFrom L W (W6.setCell ⟨bS, 5, none⟩ v') := ⟨by simp; omega, fun k o hk ho hc => by
    have hkl := (Array.getElem?_eq_some_iff.1 ho).1
    have e5 : Wa.heap[k]? = some o := (hlo k (by omega)).trans ((st5 k hkl (by omega)).trans ho)
    refine (set_other (by omega)).trans ((hgrow.block k (by omega) (fun e => ?_)).trans e5)
    rcases ra.2 with ⟨rfl, _⟩ | ⟨g, cap, cur, rfl, _, hh, _⟩
    · cases e
    · simp only [Value.ownBlock, Option.some.injEq] at e
      subst e
      rw [hh] at e5
      cases e5
      cases hc⟩
  refine ⟨hkf, ⟨fun o u hu => (World.cell?_of_block (hsame Bn hn n2 n4)).trans hu, fun o u hu => (World.cell?_of_block (hsame Bm hn2 n3 n5)).trans hu⟩, ⟨s6.set 5 v', ?_, fun z hz => hA2.own (hA.own (da z hz) (by decide)) (by decide), fun z hz => hA2.own (hA.own (aa z hz) (by decide)) (by decide), ?_⟩, s6⟩
  · rw [List.length_append, obCells_snoc]
    exact hA2.own hown (by decide)
  · exact (oa.trans (Out3.grown hgrow (fun r e => (ra.lt r e).1) (by omega))).trans (Out3.set _ _ _ _ (.inl rfl))

theorem Out3.below {a b c n m : Nat} {w w' : World} (h : Out3 a b c n w w') (h1 : m ≤ n) (ha : m ≤ a) (hb : m ≤ b) (hc : m ≤ c) : Below m w w' := ⟨h.os, h.tape, h.output, h.size, fun k hk => h.block k (by omega) (by omega) (by omega) (by omega)⟩
theorem RdF.keepAll {n : Nat} {W W' : World} {A : Option Addr} {vs : List Value} (h : RdF n W A vs) (hs : W.heap.size ≤ W'.heap.size) (hk : ∀ b, KeepsBlk b W W') : RdF n W' A vs := ⟨fun hv => by
  obtain ⟨b, off, e, hb, hc⟩ := h.1 hv
  exact ⟨b, off, e, by omega, fun j u hu => hk b _ _ (hc j u hu)⟩, h.2⟩
theorem Dv.Lies.keepAll {n : Nat} {W W' : World} {D : Dv} (h : D.Lies n W) (hs : W.heap.size ≤ W'.heap.size) (hk : ∀ b, KeepsBlk b W W') : D.Lies n W' :=
  ⟨h.secs.keepAll hs hk, fun p hp => (h.sec p hp).keepAll hs hk, h.waits.keepAll hs hk, fun x hx => (h.wait x hx).keepAll hs hk⟩
theorem St.Lies.keepAll {n : Nat} {W W' : World} {s : St} (h : s.Lies n W) (hs : W.heap.size ≤ W'.heap.size) (hk : ∀ b, KeepsBlk b W W') : s.Lies n W' :=
  ⟨h.dev.keepAll hs hk, h.arr.keepAll hs hk, fun o ho => (h.data o ho).keepAll hs hk, fun o ho => (h.at_ o ho).keepAll hs hk, h.ix.keepAll hs hk⟩
theorem St.Lies.putObj {n : Nat} {W : World} {s : St} (h : s.Lies n W) (l : Nat) (o o' : Obj) (hl : W.heap[l]? = some o) (hc : o.isCells = false) : s.Lies n (W.putObj l o') :=
  h.keepAll (by simp [World.putObj]) (fun _ => KeepsBlk.putObj W l o o' hl hc)

/-- The store that was read, in memory. -/
theorem opened_st {E : Dv} {w12 W2 : World} {bS mb : Nat} {c0 c1 c2 c3 c4 c6 : Value} {vA : Option Addr} {vc : Nat} {yO : List Ob} {os : List PO} {u : Ub} {iA : Option Addr} {ic : Nat} {ix : List Int} {m : Nat} (hE : E.Lies m W2) (hK : OpK w12 bS mb c0 c1 c2 c3 c4 c6 W2 (.slice vA yO.length vc) yO) (hys : yO.map Ob.st = os)
    (hix : RdF m W2 iA (ints ix)) (hm : m ≤ w12.heap.size) (hok : PS.ok ⟨E.st, u, os, ix⟩) (hoc : ∀ o ∈ os, Octs o.data) (hw : E.ws = []) :
    (⟨E, u, vA, yO, vc, iA, ix, ic⟩ : St).Lies m W2 ∧ (⟨E, u, vA, yO, vc, iA, ix, ic⟩ : St).Fits ∧ (⟨E, u, vA, yO, vc, iA, ix, ic⟩ : St).st = ⟨E.st, u, os, ix⟩ := by
  have hobs := hok.os
  have hl : yO.length = os.length := by rw [← hys, List.length_map]
  have hdok := hok.dev
  have hat := hok.at_
  have htot : (os.flatMap (·.at_) ++ ix).length ≤ 8192 := by
    obtain ⟨⟨_, h2⟩, h3, h4⟩ := chk_ok.1 hok.secs
    have := length_free h3 h4
    show (PS.secs ⟨E.st, u, os, ix⟩).length ≤ _
    omega
  dsimp only at hobs hdok hat
  rw [List.length_append] at htot
  refine ⟨⟨hE, (RdF.of_own hK.row).mono hm, fun o ho => (RdF.of_own (hK.data o ho)).mono hm, fun o ho => (RdF.of_own (hK.at_ o ho)).mono hm, hix⟩, ⟨dv_fits hdok (by rw [hw]; simp), by show yO.length ≤ _; have := (objE_ok hobs).1; omega, fun y hy => ?_, by show ix.length ≤ _; omega⟩, by show PS.mk _ _ _ _ = _; rw [hys]⟩
  have hm : y.st ∈ os := hys ▸ List.mem_map.2 ⟨y, hy, rfl⟩
  have h1 := ((objE_keys hobs).1 _ hm).1
  have h2 := (objE_ok hobs).2.2 _ hm
  have h3 := hat _ hm
  have h4 := hoc _ hm
  dsimp only [Ob.st] at h1 h2 h3 h4
  obtain ⟨_, c1, e1, g1, g2, _, _⟩ := own_any (hK.data y hy)
  obtain ⟨_, c2, e2, g3, g4, _, _⟩ := own_any (hK.at_ y hy)
  injection e1 with e11 _ e12
  injection e2 with e21 _ e22
  subst e11 e12 e21 e22
  exact ⟨by unfold maxLen; omega, by omega, g1, g2, by rw [h3]; unfold cntN; omega, g3, g4, h4⟩

/-- Chunk of texts, for a loop that must know which piece comes. -/
theorem chunkS_both (n Bn Bm b off c L m : Nat) (hm : 0 < m) (hm2 : m ≤ 1048576) (hL : L ≤ 140737488351232) (hc : L ≤ c) (A : Option Addr) (hA : 0 < L → A = some ⟨b, off, none⟩) (w : World) (h1 : Bn < w.heap.size) (h2 : Bm < w.heap.size) (hc0 : w.cell? ⟨Bn, 0, none⟩ = some (.slice A L c)) (hd0 : w.cell? ⟨Bm, 0, none⟩ = some (.int .i64 m)) :
    SeqBoth Fence.wide n Tryz.prog 110 #[.pointer (some ⟨Bn, 0, none⟩), .pointer (some ⟨Bm, 0, none⟩)] (cxEnc m b off L) (fun A B => Below A.heap.size A B) (KeepsTwo Bn Bm) (fun pre (x : CX (cntM m L)) _ => x.1 = pre.length) (fun (ys : List (CX (cntM m L))) _ => cvals ys = List.range (cntM m L)) w := fun l J W hW hJ hY h0 =>
  (chunkS1_in n l Bn Bm b off c L m hm hm2 hL hc A hA J (fun _ _ => False) hJ (fun pre x W1 h hx _ => by
    obtain ⟨fn, tmps, assign, body, hy, hR⟩ := hY pre x W1 h hx
    exact ⟨fn, tmps, assign, body, hy, hR.mono fun _ _ h => .inl h⟩) W ((hW.cell (p := ⟨Bn, 0, none⟩) h1).trans hc0) ((hW.cell (p := ⟨Bm, 0, none⟩) h2).trans hd0) h0).mono fun e W' ⟨hv, h⟩ => ⟨hv, by
    rcases h with ⟨ys, hy, hj⟩ | ⟨_, _, hf⟩
    · exact ⟨ys, hy, hj⟩
    · exact hf.elim⟩

theorem take_ats {os : List PO} {i : Nat} {o : PO} (ho : os[i]? = some o) : os.flatMap (·.at_) = (os.take i).flatMap (·.at_) ++ (o.at_ ++ (os.drop (i + 1)).flatMap (·.at_)) ∧ (os.take (i + 1)).flatMap (·.at_) = (os.take i).flatMap (·.at_) ++ o.at_ := by
  have e : os = os.take i ++ (o :: os.drop (i + 1)) := by rw [← dropA os ho, List.take_append_drop]
  refine ⟨?_, ?_⟩
  · conv => lhs; rw [e]
    rw [List.flatMap_append, List.flatMap_cons]
  · rw [List.take_add_one, ho, List.flatMap_append]
    simp

/-- What reading an object comes to, in open's loop. -/
theorem object_at (m X mb : Nat) (D : Dv) (ix : List Int) (os : List PO) (i tb tf : Nat) (o : PO) (ho : os[i]? = some o) (hdl : ∀ o ∈ os, o.data.length ≤ 65536)
    (hpg : ∀ o ∈ os, o.at_.length = cntN o.data.length ∧ ∀ j, j < o.at_.length → ∃ k : Nat, o.at_[j]? = some (k : Int) ∧ PgAt D k (piece o.data j) 0)
    (h8 : D.ps.length ≤ 8192) (hnd : (ix ++ os.flatMap (·.at_)).Nodup) (hcn : (ix ++ os.flatMap (·.at_)).length ≤ 8192)
    (w : World) (h : RdAt m X mb D (ix ++ (os.take i).flatMap (·.at_)) w) (hT : Rd w (some ⟨tb, tf, none⟩) ((idxT os).map Value.string)) :
    Calls Tryz.prog 63 #[.pointer (some ⟨X, 0, none⟩), .slice (some ⟨tb, tf + 3 * i, none⟩) 3 3] w fun e w' => ∃ A c B d, e = .returned (obval o.key A o.data.length c B o.at_.length d) ∧ w'.ownsRow w.heap.size 5 1 (.slice A o.data.length c) o.data.length (octCells o.data) ∧ w'.ownsRow w.heap.size 3 1 (.slice B o.at_.length d) o.at_.length (ints o.at_) ∧ RdAt m X mb D (ix ++ (os.take (i + 1)).flatMap (·.at_)) w' ∧ Out mb (mb + 1) w.heap.size w w' := by
  obtain ⟨hi, hio⟩ := List.getElem?_eq_some_iff.1 ho
  have hm := List.mem_of_getElem? ho
  obtain ⟨e1, e2⟩ := take_ats ho
  rw [e1, ← List.append_assoc, ← List.append_assoc] at hnd
  rw [e1, ← List.append_assoc, ← List.append_assoc, List.length_append] at hcn
  rw [e2, ← List.append_assoc]
  refine objectS_ok m X mb D _ o.key o.data o.at_ tb (tf + 3 * i) 3 (hdl o hm) (hpg o hm).1 (hpg o hm).2 h8 (List.nodup_append.1 hnd).1 (by omega) (Nat.le_refl _) w h ?_
  have ht := idxT_at os i hi
  rw [hio] at ht
  rw [← ht]
  intro hne
  have hl : ((idxT os).map Value.string) ≠ [] := fun h0 => hne (by rw [List.map_eq_nil_iff] at h0; rw [h0]; simp)
  obtain ⟨b, off, e, hb, hc⟩ := hT hl
  injection e with e
  injection e with e3 e4 _
  subst e3 e4
  refine ⟨tb, tf + 3 * i, rfl, hb, fun k u hu => ?_⟩
  have := hc (3 * i + k) u
  rw [Nat.add_assoc]
  refine this ?_
  rw [List.getElem?_map] at hu ⊢
  rw [List.getElem?_take, List.getElem?_drop] at hu
  split at hu
  · exact hu
  · cases hu

end Go.Proofs.YtmehjmkakkiedaaGreat
