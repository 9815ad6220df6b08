/-
  The law's num, size, first. Conditions: as written.
-/
import Derived.Test.YtfeeejigedndcaaGreatMYS
import Derived.Test.YtfeeejigedndcaaGreatMYD
import Derived.Test.YtfeeejigedndcaaGreatMQX
import Derived.Test.YtfeeejigedndcaaGreatMYC
import Derived.Test.YtfeeejigedndcaaGreatMGW
import Derived.BigQuiet
namespace Go.Proofs.YtfeeejigedndcaaGreat
open Go.ChangeShapes Go.WideShapes Go.ChangeAt Go.RowKit
set_option maxRecDepth 100000

theorem num10_any (n : Int) (w : World) :
    Calls Tryz.prog 12 #[.int .i64 n] w fun e w' => e = .returned (.int .i64 n) ∧ w' = w := by
  go_enter Tryz.func12, Tryz.ntmps12
  go_wp2
  go_ret
  exact ⟨rfl, rfl⟩

/-- A device's size, of any number. -/
def sizeN (n : Int) : Int := 6 + (n.tmod 60 + 60).tmod 60
theorem sizeN_le (n : Int) : 6 ≤ sizeN n ∧ sizeN n ≤ 65 := by
  have h1 := Int.tmod_lt_of_pos n (show (0 : Int) < 60 by decide)
  have h2 : -60 < n.tmod 60 := Int.lt_tmod_of_pos n (by decide)
  have h3 := Int.tmod_lt_of_pos (n.tmod 60 + 60) (show (0 : Int) < 60 by decide)
  have h4 := Int.tmod_nonneg 60 (show 0 ≤ n.tmod 60 + 60 by omega)
  unfold sizeN
  omega
theorem size10_any (n : Int) (w : World) :
    Calls Tryz.prog 9 #[.int .i64 n] w fun e w' => e = .returned (.int .i64 (sizeN n)) ∧ w' = w := by
  have h1 := Int.tmod_lt_of_pos n (show (0 : Int) < 60 by decide)
  have h2 : -60 < n.tmod 60 := Int.lt_tmod_of_pos n (by decide)
  have h3 := Int.tmod_lt_of_pos (n.tmod 60 + 60) (show (0 : Int) < 60 by decide)
  have h4 := Int.tmod_nonneg 60 (show 0 ≤ n.tmod 60 + 60 by omega)
  have e1 : wrap64 (n.tmod 60) = n.tmod 60 := IntWalk.wrap64_in _ (by omega)
  have e2 : wrap64 (n.tmod 60 + 60) = n.tmod 60 + 60 := IntWalk.wrap64_in _ (by omega)
  have e3 : wrap64 ((n.tmod 60 + 60).tmod 60) = (n.tmod 60 + 60).tmod 60 := IntWalk.wrap64_in _ (by omega)
  have e4 : wrap64 (6 + (n.tmod 60 + 60).tmod 60) = 6 + (n.tmod 60 + 60).tmod 60 := IntWalk.wrap64_in _ (by omega)
  go_enter Tryz.func9, Tryz.ntmps9
  go_wp2
  go_ret
  have e5 : (n.tmod 60 + 60).tmod 60 = n.tmod 60 % 60 := by rw [Int.tmod_eq_emod_of_nonneg (by omega)]; omega
  exact ⟨by unfold sizeN; rw [e5]; simp, rfl⟩

/-- A new store, in memory. -/
abbrev newSt (E : Dv) : St := ⟨E, uTwo, none, [], 0, none, [], 0⟩
/-- A store of no objects that stands, as it was made. -/
structure New (n m : Nat) (W : World) (E : Dv) : Prop where
  lies : E.Lies m W
  ps : E.ps.length = n
  stands : StandsP (newSt E).st
theorem New.fits {n m : Nat} {W : World} {E : Dv} (h : New n m W E) : (newSt E).Fits :=
  ⟨Dv.fits_of h.stands.ok.dev h.stands.ok.waits, by simp, fun o ho => (by cases ho), by simp⟩
theorem New.stl {n m : Nat} {W : World} {E : Dv} (h : New n m W E) : (newSt E).Lies m W :=
  ⟨h.lies, RdF.nil _ _ _, fun o ho => (by cases ho), fun o ho => (by cases ho), RdF.nil _ _ _⟩
theorem New.mono {n m m' : Nat} {W : World} {E : Dv} (h : New n m W E) (hm : m' ≤ m) : New n m' W E := ⟨h.lies.mono hm, h.ps, h.stands⟩
theorem New.below {n m : Nat} {W W' : World} {E : Dv} (h : New n m W E) (hB : Below W.heap.size W W') : New n m W' E := ⟨h.lies.below hB, h.ps, h.stands⟩

set_option maxHeartbeats 1000000 in
theorem first10_any (n : Nat) (h2 : 2 ≤ n) (h3 : n ≤ 8192) (w : World) :
    Calls Tryz.prog 8 #[.int .i64 n] w fun e w' => ∃ E : Dv, e = .returned (.tuple #[(newSt E).val, .bool true]) ∧ New n w.heap.size w' E ∧ Below w.heap.size w w' := by
  obtain ⟨w1, hw1⟩ : ∃ w1, w.alloc (.cells #[.slice none 0 0, .slice none 0 0, .int .i64 0, .int .i64 0, .int .i64 0, .slice none 0 0, .slice none 0 0] 32) = w1 := ⟨_, rfl⟩
  have hB1 : Below w.heap.size w w1 := hw1 ▸ (Below.refl _ w).alloc (Nat.le_refl _) _
  have kr : Blk w1 w.heap.size 32 [.slice none 0 0, .slice none 0 0, .int .i64 0, .int .i64 0, .int .i64 0, .slice none 0 0, .slice none 0 0] := hw1 ▸ Blk.new w _ _
  have HF := Lib.hid (formatTop_ok n h2 h3 w1)
  have hs1 : w1.heap.size = w.heap.size + 1 := by rw [← hw1, World.size_alloc]
  have HW1 := Lib.hid hw1
  have HKR := Lib.hid kr
  clear hw1 kr
  go_enter Tryz.func8, Tryz.ntmps8
  go_upto_region 1 with fail
  rw [HW1.out]
  go_wp2_with fail
  refine HF.out.mono ?_
  rintro e w2 ⟨E, A, c, l, rfl, hl, hE, hL, hB2⟩
  have hln : l.length = 3 := by have := congrArg List.length hl; simpa using this
  have hst := new_stands n h2 h3
  rw [hl] at hE
  rw [← hE] at hst
  have hps : E.ps.length = n := by
    have := congrArg (fun D : DS => D.secs.length) hE
    rw [newDev] at this
    simpa [Dv.st] using this
  have HN : Hid (New n w1.heap.size w2 E) := Lib.hid ⟨hL, hps, hst⟩
  have kr2 := HKR.out.below hB2 HKR.out.lt
  have HK2 := Lib.hid kr2
  have hB02 : Below w.heap.size w w2 := hB1.trans (hB2.mono hB1.size)
  clear hl hE hL hst kr2 HF hps
  obtain ⟨dA, ps, c', B, ws, d⟩ := E
  obtain ⟨w3, hw3⟩ : ∃ w3, w2.alloc (.cells #[.slice dA ps.length c', .slice B ws.length d, .int .i64 2, .int .i64 0, .int .i64 0, .slice none 0 0, .slice none 0 0] 32) = w3 := ⟨_, rfl⟩
  have hB23 : Below w2.heap.size w2 w3 := hw3 ▸ (Below.refl _ w2).alloc (Nat.le_refl _) _
  have k3 : Blk w3 w2.heap.size 32 [.slice dA ps.length c', .slice B ws.length d, .int .i64 2, .int .i64 0, .int .i64 0, .slice none 0 0, .slice none 0 0] := hw3 ▸ Blk.new w2 _ _
  have kr3 := HK2.out.below hB23 HK2.out.lt
  have hN3 := HN.out.below hB23
  have hlt : w.heap.size < w2.heap.size := HK2.out.lt
  have HW3 := Lib.hid hw3
  obtain ⟨p0, p1, p2, p3, p4, p5, p6⟩ := blk7 k3
  obtain ⟨r0, r1, r2, r3, r4, r5, r6⟩ := blk7 kr3
  have s0 := kr3.frozen 0
  have s1 := kr3.frozen 1
  have s2 := kr3.frozen 2
  have s3 := kr3.frozen 3
  have s4 := kr3.frozen 4
  have s5 := kr3.frozen 5
  have s6 := kr3.frozen 6
  obtain ⟨W9, hW9, k9, hh9, hsz9, hB9⟩ := set7_facts kr3 (.slice dA ps.length c') (.slice B ws.length d) (.int .i64 2) (.int .i64 0) (.int .i64 0) (.slice none 0 0) (.slice none 0 0)
  unfold set7 at hW9
  have HW9 := Lib.hid hW9
  have HH9 := Lib.hid hh9
  have HN3 := Lib.hid hN3
  clear hW9 hw3 kr3 k3 hN3 hh9
  have hs02 := hB02.size
  have hBF : Below w.heap.size w W9 := (hB02.trans (hB23.mono hs02)).trans (hB9.mono (Nat.le_refl _))
  have hsz3 := hB23.size
  have hNF : New n w.heap.size W9.drew ⟨dA, ps, c', B, ws, d⟩ := New.mono ⟨(HN.out.lies.stays (W' := W9.drew) (by show w2.heap.size ≤ W9.heap.size; omega) fun k h1 h2 => (HH9.out k (by omega)).trans (hB23.block k h2)), HN.out.ps, HN.out.stands⟩ hB1.size
  obtain ⟨d0, d1, d2, d3, d4, d5, d6⟩ := blk7 k9
  clear hsz3 hsz9 hs02 hs1 hB23 hB02 hB1 hB2
  go_upto_region 2 with fail
  rw [HW3.out]
  go_region_with (go_at_call 12; refine (num10_any _ _).mono ?_; rintro e w4 ⟨rfl, rfl⟩)
  all_goals (
    go_wp2
    rw [HW9.out]
    refine bodyPost_ret (v := .tuple #[(newSt ⟨dA, ps, c', B, ws, d⟩).val, .bool true]) ?_ rfl ⟨_, rfl, hNF, hBF.drew⟩
    simp [results, Tryz.results8, go_sem, d0, d1, d2, d3, d4, d5, d6])

end Go.Proofs.YtfeeejigedndcaaGreat

namespace Go.Proofs.YtfeeejigedndcaaGreat
open Go.ChangeShapes Go.WideShapes Go.ChangeAt Go.RowKit
set_option maxRecDepth 100000

/-- An object's key and its data. -/
abbrev kd (o : Ob) : ByteArray × List Int := (o.key, o.d.zs)
theorem kd_at {xs ys : List Ob} (h : xs.map kd = ys.map kd) {k : Nat} {x y : Ob} (hx : xs[k]? = some x) (hy : ys[k]? = some y) : x.key = y.key ∧ x.d.zs = y.d.zs := by
  have h1 := congrArg (fun l => l[k]?) h
  simp only [List.getElem?_map, hx, hy, Option.map_some, Option.some.injEq] at h1
  injection h1 with h2 h3
  exact ⟨h2, h3⟩

theorem below_dN (w : World) (n m : Nat) : Below m w (w.drewN n) := ⟨rfl, rfl, rfl, Nat.le_refl _, fun _ _ => rfl⟩
theorem conv_oct (W : World) (A : Option Addr) (c : Nat) (zs : List Int) (h : Rd W A (octCells zs)) : (convert 46 9 (.slice A zs.length c)).run Tryz.prog W = .ok (.string (strOfNums zs)) W :=
  run_string_rd (P := Tryz.prog) W 46 5 9 Tryz.underlying46 Tryz.underlying5 Tryz.underlying9 A zs c h

set_option maxHeartbeats 2000000 in
theorem has10_any (T : St) (hf : T.Fits) (A : Option Addr) (c : Nat) (ls : List Ob) (hll : ls.length ≤ 4398046511104) (w : World) (hL : T.Lies 0 w) (hr : Rd w A (obCells ls)) (hrd : ∀ o ∈ ls, Rd w o.d.A (octCells o.d.zs)) :
    Calls Tryz.prog 14 #[T.val, .slice A ls.length c] w fun e w' => ∃ b, e = .returned (.bool b) ∧ (T.os.map kd = ls.map kd → b = true) ∧ Below w.heap.size w w' := by
  have HL := Lib.hid hL
  have HR := Lib.hid hr
  have HRD := Lib.hid hrd
  have hn := hf.n
  have HSM : Hid (T.os.map kd = ls.map kd → T.os.length = ls.length ∧ ∀ (k : Nat) (x y : Ob), T.os[k]? = some x → ls[k]? = some y → x.key = y.key ∧ x.d.zs = y.d.zs) := Lib.hid fun h => ⟨by simpa using congrArg List.length h, fun k x y hx hy => kd_at h hx hy⟩
  obtain ⟨SM, hSM⟩ : ∃ SM, (T.os.map kd = ls.map kd) = SM := ⟨_, rfl⟩
  rw [hSM] at HSM ⊢
  clear hf hL hr hrd hSM
  obtain ⟨⟨dA, ps, dc, B, ws, d⟩, ⟨t, f, o⟩, O, os, oc, I, is, ic⟩ := T
  dsimp only [St.val] at *
  obtain ⟨w1, hw1⟩ : ∃ w1, w.alloc (.cells #[.slice dA ps.length dc, .slice B ws.length d, .int .i64 t, .int .i64 f, .int .i64 o, .slice O os.length oc, .slice I is.length ic] 32) = w1 := ⟨_, rfl⟩
  have kx : Blk w1 w.heap.size 32 [.slice dA ps.length dc, .slice B ws.length d, .int .i64 t, .int .i64 f, .int .i64 o, .slice O os.length oc, .slice I is.length ic] := hw1 ▸ Blk.new w _ _
  have hB1 : Below w.heap.size w w1 := hw1 ▸ (Below.refl _ w).alloc (Nat.le_refl _) _
  have HL1 := Lib.hid (HL.out.below hB1)
  have HR1 := Lib.hid (HR.out.below hB1)
  have HRD1 := Lib.hid (fun o ho => (HRD.out o ho).below hB1)
  have hc5 := kx.cell 5
  simp only [List.getElem?_cons_zero, List.getElem?_cons_succ] at hc5
  have hlt1 := kx.lt
  have HW1 := Lib.hid hw1
  clear kx hw1 HL HR HRD
  go_enter Tryz.func14, Tryz.ntmps14
  go_upto_region 1 with fail
  rw [HW1.out]
  by_cases hlen : os.length = ls.length
  rotate_left
  · have hi : ¬ ((os.length : Int) = (ls.length : Int)) := by omega
    go_wp2
    go_ret
    exact ⟨false, rfl, fun h => absurd (HSM.out h).1 hlen, hB1⟩
  have hi : (os.length : Int) = (ls.length : Int) := by omega
  go_wp2
  go_loopw [5] (fun i W => ∃ k : Nat, k ≤ ls.length ∧ i = .int .i64 k ∧ Below w1.heap.size w1 W) (fun i _ => ls.length - (intOf i).toNat)
  case atStart => exact ⟨0, Nat.zero_le _, rfl, Below.refl _ _⟩
  case round =>
    obtain ⟨k, hk, rfl, hBr⟩ := hrel
    have hBw : Below w.heap.size w wr := hB1.trans (hBr.mono hB1.size)
    have hcr5 := (hBr.cell (p := ⟨w.heap.size, 5, none⟩) hlt1).trans hc5
    have hltr := Nat.lt_of_lt_of_le hlt1 hBr.size
    by_cases hlt : k < ls.length
    · obtain ⟨x, hx⟩ : ∃ x, os[k]? = some x := ⟨_, List.getElem?_eq_getElem (by omega)⟩
      obtain ⟨y, hy⟩ : ∃ y, ls[k]? = some y := ⟨_, List.getElem?_eq_getElem hlt⟩
      obtain ⟨b, off, rfl, hb, hk0, hk1, _⟩ := (HL1.out.below hBr).arr.1.ob hx
      obtain ⟨b', off', rfl, hb', hj0, hj1, _⟩ := (HR1.out.below hBr).ob hy
      have hcx := fun n => conv_oct (wr.drewN n) x.d.A x.d.c x.d.zs (((HL1.out.data x (List.mem_of_getElem? hx)).1.below hBr).below (below_dN _ n _))
      have hcy := fun n => conv_oct (wr.drewN n) y.d.A y.d.c y.d.zs (((HRD1.out y (List.mem_of_getElem? hy)).below hBr).below (below_dN _ n _))
      have HXY := Lib.hid (fun h => (HSM.out h).2 k x y hx hy)
      obtain ⟨kb, hkb⟩ : ∃ kb, (x.key.toList == y.key.toList) = kb := ⟨_, rfl⟩
      obtain ⟨db, hdb⟩ : ∃ db, ((strOfNums x.d.zs).toList == (strOfNums y.d.zs).toList) = db := ⟨_, rfl⟩
      have HNO : Hid (SM → kb = true ∧ db = true) := Lib.hid fun h => by
        obtain ⟨h1, h2⟩ := HXY.out h
        rw [← hkb, ← hdb, h1, h2]
        exact ⟨beq_self_eq_true _, beq_self_eq_true _⟩
      generalize strOfNums x.d.zs = sx at *
      generalize strOfNums y.d.zs = sy at *
      obtain ⟨xk, ⟨xA, xz, xc⟩, xB, xn, xe⟩ := x
      obtain ⟨yk, ⟨yA, yz, yc⟩, yB, yn, ye⟩ := y
      dsimp only at *
      have hos : (k : Int) < os.length := by omega
      have hls : (k : Int) < ls.length := by omega
      have hosn : k < os.length := by omega
      clear HXY hx hy hi hlen
      rcases kb with _ | _
      · go_wp2_with fail
        go_big_quiet (fail)
        go_wp2
        go_ret
        exact ⟨false, rfl, fun h => (by cases (HNO.out h).1), hBw.trans (below_dN _ _ _)⟩
      · rcases db with _ | _
        · go_wp2_with fail
          go_big_quiet (fail)
          go_wp2
          go_ret
          exact ⟨false, rfl, fun h => (by cases (HNO.out h).2), hBw.trans (below_dN _ _ _)⟩
        · go_wp2_with fail
          go_big_quiet (fail)
          go_wp2
          go_roundw
          case rel => exact ⟨k + 1, by omega, by go_num, hBr.trans (below_dN _ _ _)⟩
          case measure => simp [intOf]; omega
    · go_wp2
      go_ret
      exact ⟨true, rfl, fun _ => rfl, hBw⟩

end Go.Proofs.YtfeeejigedndcaaGreat

namespace Go.Proofs.YtfeeejigedndcaaGreat
open Go.ChangeShapes Go.WideShapes Go.ChangeAt Go.RowKit
set_option maxRecDepth 100000

theorem riseK_snoc : ∀ (ks : List ByteArray) (last k : ByteArray), riseK last ks = true → ltK (ks.getLastD last) k → k.size ≤ 96 → riseK last (ks ++ [k]) = true
  | [], last, k, _, h2, h3 => riseK_cons.2 ⟨h2, h3, rfl⟩
  | x :: ks, last, k, h1, h2, h3 => by
    obtain ⟨g1, g2, g3⟩ := riseK_cons.1 h1
    refine riseK_cons.2 ⟨g1, g2, riseK_snoc ks x k g3 ?_ h3⟩
    rw [List.getLastD_cons] at h2
    exact h2
theorem ltK_empty {k : ByteArray} (h : (k.toList == ([] : List UInt8)) = false) : ltK ByteArray.empty k := by
  unfold ltK
  have e : ByteArray.empty.toList = [] := by rw [ByteArray.toList_eq]; rfl
  rw [e]
  rcases hk : k.toList with _ | ⟨a, l⟩
  · rw [hk] at h; cases h
  · rfl

/-- Objects that may be, of these. -/
structure GL (ls : List Ob) (n : Nat) (ys : List Ob) : Prop where
  mem : ∀ y ∈ ys, y.B = none ∧ y.ns = [] ∧ y.e = 0 ∧ y.key.size ≤ 96 ∧ y.d.zs.length ≤ 400 ∧ ∃ x ∈ ls, x.d = y.d
  len : ys.length ≤ n
  rise : riseK ByteArray.empty (ys.map (·.key)) = true
theorem GL.le {ls : List Ob} {n n' : Nat} {ys : List Ob} (h : GL ls n ys) (hn : n ≤ n') : GL ls n' ys := ⟨h.mem, Nat.le_trans h.len hn, h.rise⟩
theorem GL.push {ls : List Ob} {n : Nat} {ys : List Ob} (h : GL ls n ys) {x : Ob} (hx : x ∈ ls) (h1 : ltK ((ys.map (·.key)).getLastD ByteArray.empty) x.key) (h2 : x.key.size ≤ 96) (h3 : x.d.zs.length ≤ 400) : GL ls (n + 1) (ys ++ [⟨x.key, x.d, none, [], 0⟩]) := by
  refine ⟨fun y hy => ?_, by rw [List.length_append]; have := h.len; simp; exact this, ?_⟩
  · rcases List.mem_append.1 hy with hy | hy
    · exact h.mem y hy
    · simp at hy
      subst hy
      exact ⟨rfl, rfl, rfl, h2, h3, x, hx, rfl⟩
  · rw [List.map_append]
    exact riseK_snoc _ _ _ h.rise h1 h2
theorem GL.objE {ls : List Ob} {ys : List Ob} (h : GL ls 6 ys) : objE (ys.map Ob.st) = 0 := by
  unfold Go.Proofs.YtfeeejigedndcaaGreat.objE
  have h1 := h.len
  have e : (ys.map Ob.st).map (·.key) = ys.map (·.key) := by rw [List.map_map]; rfl
  rw [if_neg (by rw [List.length_map]; omega), e, h.rise, if_neg (by decide), if_pos]
  rw [List.all_eq_true]
  intro o ho
  obtain ⟨y, hy, rfl⟩ := List.mem_map.1 ho
  have := (h.mem y hy).2.2.2.2.1
  exact decide_eq_true (by show y.d.zs.length ≤ 65536; omega)

set_option maxHeartbeats 4000000 in
theorem good10_any (A : Option Addr) (c : Nat) (ls : List Ob) (_hll : ls.length ≤ 4398046511104) (hlf : ∀ o ∈ ls, o.Fits) (w : World) (hr : Rd w A (obCells ls)) :
    Calls Tryz.prog 10 #[.slice A ls.length c] w fun e w' => ∃ v, e = .returned v ∧ ∃ ys, GL ls 6 ys ∧ w'.ownsRow w.heap.size 58 3 v ys.length (obCells ys) ∧ Below w.heap.size w w' := by
  obtain ⟨i0, hi, hz0, hz1, hz2⟩ := dinfo_parts infoObj
  have HLF := Lib.hid hlf
  clear hlf
  go_enter Tryz.func10, Tryz.ntmps10
  go_wp2
  go_loopw [3, 4] (fun v j W => ∃ (k : Nat) (ys : List Ob), k ≤ ls.length ∧ k ≤ 6 ∧ j = .int .i64 k ∧ Hid (GL ls k ys) ∧ Hid (W.ownsRow w.heap.size 58 3 v ys.length (obCells ys)) ∧ Below w.heap.size w W) (fun _ j _ => ls.length - (intOf j).toNat)
  case atStart => exact ⟨0, [], Nat.zero_le _, Nat.zero_le _, rfl, Lib.hid ⟨fun y hy => (by cases hy), Nat.zero_le _, rfl⟩, Lib.hid (own_none' _ _ _ _), Below.refl _ _⟩
  case round =>
    obtain ⟨k, ys, hk, hk6, rfl, HG, HO, hB⟩ := hrel
    obtain ⟨V, cv, rfl, hcv, _, hrV, _⟩ := own_any HO.out
    have hyl := HG.out.len
    have hBs := hB.size
    by_cases hend : k < ls.length ∧ k < 6
    rotate_left
    · by_cases hlt : k < ls.length
      · have hk7 : ¬ (k : Int) < 6 := by omega
        go_wp2
        go_ret
        exact ⟨_, rfl, ys, HG.out.le hk6, HO.out, hB⟩
      · go_wp2
        go_ret
        exact ⟨_, rfl, ys, HG.out.le hk6, HO.out, hB⟩
    obtain ⟨hlt, hlt6⟩ := hend
    obtain ⟨x, hx⟩ : ∃ x, ls[k]? = some x := ⟨_, List.getElem?_eq_getElem hlt⟩
    have hxm := List.mem_of_getElem? hx
    obtain ⟨b, off, rfl, hb, hd0, hd1, hd2⟩ := (Rd.below hr hB).ob hx
    have hks : x.key.size ≤ maxLen := (HLF.out x hxm).1
    have hds : x.d.zs.length ≤ 140737488351232 := (HLF.out x hxm).2
    unfold maxLen at hks
    obtain ⟨w5, hw5⟩ : ∃ w5, wr.alloc (.cells #[.string x.key, x.d.val, .slice x.B x.ns.length x.e] 58) = w5 := ⟨_, rfl⟩
    have hB5 : Below wr.heap.size wr w5 := hw5 ▸ (Below.refl _ wr).alloc (Nat.le_refl _) _
    have k5 : Blk w5 wr.heap.size 58 [.string x.key, x.d.val, .slice x.B x.ns.length x.e] := hw5 ▸ Blk.new wr _ _
    have hB05 : Below w.heap.size w w5 := hB.trans (hB5.mono hBs)
    have HO5 := Lib.hid (own_below3 HO.out hB5 (Nat.le_refl _))
    have hlt5 := k5.lt
    have x0 := k5.cell 0
    have x1 := k5.cell 1
    simp only [List.getElem?_cons_zero, List.getElem?_cons_succ] at x0 x1
    have HPUSH := Lib.hid (fun h1 h2 h3 => HG.out.push hxm h1 h2 h3)
    have HW5 := Lib.hid hw5
    obtain ⟨eb, heb⟩ : ∃ eb, (x.key.toList == ([] : List UInt8)) = eb := ⟨_, rfl⟩
    have HEB := Lib.hid heb
    have hls : (k : Int) < ls.length := by omega
    have hk6' : (k : Int) < 6 := by omega
    have HGK := Lib.hid (HG.out.le (Nat.le_succ k))
    clear hx hxm hw5 k5
    obtain ⟨xk, ⟨xA, xz, xc⟩, xB, xn, xe⟩ := x
    dsimp only at *
    go_wp2_with fail
    rw [HW5.out]
    rcases eb with _ | _
    rotate_left
    · go_big_quiet (fail)
      go_wp2
      go_roundw
      case rel => exact ⟨k + 1, ys, by omega, by omega, by go_num, HGK, Lib.hid (own_below3 HO5.out (below_dN _ _ _) (Nat.le_refl _)), hB05.trans (below_dN _ _ _)⟩
      case measure => simp [intOf]; omega
    by_cases h96 : (96 : Int) < xk.size
    · go_big_quiet (fail)
      go_wp2
      go_roundw
      case rel => exact ⟨k + 1, ys, by omega, by omega, by go_num, HGK, Lib.hid (own_below3 HO5.out (below_dN _ _ _) (Nat.le_refl _)), hB05.trans (below_dN _ _ _)⟩
      case measure => simp [intOf]; omega
    by_cases h400 : (400 : Int) < xz.length
    · go_big_quiet (fail)
      go_wp2
      go_roundw
      case rel => exact ⟨k + 1, ys, by omega, by omega, by go_num, HGK, Lib.hid (own_below3 HO5.out (below_dN _ _ _) (Nat.le_refl _)), hB05.trans (below_dN _ _ _)⟩
      case measure => simp [intOf]; omega
    have HLT0 := Lib.hid (ltK_empty HEB.out)
    have hway : (Hid (ltK ((ys.map (·.key)).getLastD ByteArray.empty) xk) ∧ decide (0 < ys.length) = false) ∨ ∃ (m : Nat) (y : Ob) (gb : Bool) (vb vo : Nat), Hid (gb = true → ltK ((ys.map (·.key)).getLastD ByteArray.empty) xk) ∧ (Op.bytesLess y.key.toList xk.toList) = gb ∧ decide (0 < ys.length) = true ∧ IntKind.i64.wrap ((ys.length : Int) - 1) = (m : Int) ∧ m < ys.length ∧ V = some ⟨vb, vo, none⟩ ∧ w5.cell? ⟨vb, vo + m * 3, none⟩ = some (.string y.key) := by
      rcases hys : ys with _ | ⟨y0, ys0⟩
      · exact .inl ⟨HLT0, rfl⟩
      · obtain ⟨m, hm⟩ : ∃ m, ys.length = m + 1 := ⟨ys0.length, by rw [hys]; rfl⟩
        obtain ⟨y, hy⟩ : ∃ y, ys[m]? = some y := ⟨_, List.getElem?_eq_getElem (by omega)⟩
        obtain ⟨vb, vo, e, hvb, hv0, _, _⟩ := (hrV.1.below hB5).ob hy
        have hlast : (ys.map (·.key)).getLastD ByteArray.empty = y.key := by
          rw [List.getLastD_eq_getLast?, List.getLast?_eq_getElem?, List.length_map, hm, List.getElem?_map]
          show (Option.map _ ys[m]?).getD _ = _
          rw [hy]
          rfl
        rw [← hys]
        exact .inr ⟨m, y, _, vb, vo, Lib.hid (by rw [hlast]; exact fun h => h), rfl, decide_eq_true (by omega), by rw [IntWalk.i64_in _ (by omega)]; omega, by omega, e, hv0⟩
    rcases hway with ⟨HLT, hd⟩ | ⟨m, y, gb, vb, vo, HLT, hgb, hd, hw, hm, rfl, hv0⟩
    rotate_left
    · rcases gb with _ | _
      · go_big_quiet (fail)
        go_wp2
        go_roundw
        case rel => exact ⟨k + 1, ys, by omega, by omega, by go_num, HGK, Lib.hid (own_below3 HO5.out (below_dN _ _ _) (Nat.le_refl _)), hB05.trans (below_dN _ _ _)⟩
        case measure => simp [intOf]; omega
      · have HNG := Lib.hid (HPUSH.out (HLT.out rfl) (by show xk.size ≤ 96; omega) (by show xz.length ≤ 400; omega))
        go_big_quiet (fail)
        go_wp2_with (at_builtin; refine wpList_append_lies _ rfl _ _ 22 rfl w.heap.size 58 i0 (.agg #[.string ByteArray.empty, .slice none 0 0, .slice none 0 0]) 3 64 Tryz.underlying22 hi hz0 hz1 hz2 rfl (by decide) (.slice (some ⟨vb, vo, none⟩) ys.length cv) ys.length (obCells ys) rfl (own_below3 (own_below3 HO5.out (below_dN _ _ _) (Nat.le_refl _)) ((Below.refl _ _).alloc (Nat.le_refl _) _) (Nat.le_refl _)) ⟨_, 0, none⟩ 1 1 [.string xk, .slice xA xz.length xc, .slice none 0 0] rfl rfl (newsNew _ _ _) (by simp [Value.oneCell']) (by omega) (by unfold maxLen; omega) (by omega) (by simp; omega) _ rfl ?_
                     intro g6 c6 x6 ho6 hg6 _ _
                     have HB6 : Hid (Below w.heap.size w x6) := Lib.hid (((hB05.trans (below_dN _ _ _)).alloc (hB05.trans (below_dN _ _ _)).size _).grown hg6 (by simp; omega) (fun j e => (HO5.out.lt j e).1))
                     have HO6 : Hid (x6.ownsRow w.heap.size 58 3 (.slice (some ⟨g6, 0, none⟩) (ys.length + 1) c6) (ys ++ [(⟨xk, ⟨xA, xz, xc⟩, none, [], 0⟩ : Ob)]).length (obCells (ys ++ [(⟨xk, ⟨xA, xz, xc⟩, none, [], 0⟩ : Ob)]))) := Lib.hid (by rw [obCells_snoc, List.length_append]; exact ho6)
                     clear ho6 hg6)
        go_roundw
        case rel => exact ⟨k + 1, _, by omega, by omega, by go_num, HNG, HO6, HB6.out⟩
        case measure => simp [intOf]; omega
    · have HNG := Lib.hid (HPUSH.out HLT.out (by show xk.size ≤ 96; omega) (by show xz.length ≤ 400; omega))
      go_big_quiet (fail)
      go_wp2_with (at_builtin; refine wpList_append_lies _ rfl _ _ 22 rfl w.heap.size 58 i0 (.agg #[.string ByteArray.empty, .slice none 0 0, .slice none 0 0]) 3 64 Tryz.underlying22 hi hz0 hz1 hz2 rfl (by decide) (.slice V ys.length cv) ys.length (obCells ys) rfl (own_below3 (own_below3 HO5.out (below_dN _ _ _) (Nat.le_refl _)) ((Below.refl _ _).alloc (Nat.le_refl _) _) (Nat.le_refl _)) ⟨_, 0, none⟩ 1 1 [.string xk, .slice xA xz.length xc, .slice none 0 0] rfl rfl (newsNew _ _ _) (by simp [Value.oneCell']) (by omega) (by unfold maxLen; omega) (by omega) (by simp; omega) _ rfl ?_
                   intro g6 c6 x6 ho6 hg6 _ _
                   have HB6 : Hid (Below w.heap.size w x6) := Lib.hid (((hB05.trans (below_dN _ _ _)).alloc (hB05.trans (below_dN _ _ _)).size _).grown hg6 (by simp; omega) (fun j e => (HO5.out.lt j e).1))
                   have HO6 : Hid (x6.ownsRow w.heap.size 58 3 (.slice (some ⟨g6, 0, none⟩) (ys.length + 1) c6) (ys ++ [(⟨xk, ⟨xA, xz, xc⟩, none, [], 0⟩ : Ob)]).length (obCells (ys ++ [(⟨xk, ⟨xA, xz, xc⟩, none, [], 0⟩ : Ob)]))) := Lib.hid (by rw [obCells_snoc, List.length_append]; exact ho6)
                   clear ho6 hg6)
      go_roundw
      case rel => exact ⟨k + 1, _, by omega, by omega, by go_num, HNG, HO6, HB6.out⟩
      case measure => simp [intOf]; omega

end Go.Proofs.YtfeeejigedndcaaGreat
