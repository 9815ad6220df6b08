/-
  DeviceOwn: what its two acts become, in whatever order their boxes are laid. Conditions: its arguments are a machine's.
-/
import Derived.Test.YtddkalcgijeldaaDVT
import Derived.Deep.RegionHeld3
import Derived.Deep.CutBlock
namespace Go.Proofs.Ytddkalcgijeldaa
open Go.ChangeShapes Go.WideShapes Go.ChangeAt Go.RowKit

/-- An act's cells. -/
def acl (x : Ac) : List Value := [.bool x.fl, .int .i64 x.at_, .slice x.p.A x.p.zs.length x.p.c]
def acl0 : List Value := [.bool false, .int .i64 0, .slice none 0 0]

theorem blkA_zero (w : World) (g : Nat) (hg : w.heap.size = g) : Blk (w.alloc (.cells #[.bool false, .int .i64 0, .slice none 0 0] 36)) g 36 acl0 := by
  subst hg
  exact Blk.new w acl0 36
theorem blkA_new (w : World) (x : Ac) (g : Nat) (hg : w.heap.size = g) : Blk (w.alloc (.cells #[.bool x.fl, .int .i64 x.at_, .slice x.p.A x.p.zs.length x.p.c] 36)) g 36 (acl x) := by
  subst hg
  exact Blk.new w (acl x) 36
theorem blkA_put {W0 : World} {g : Nat} {x : Ac} (h : Blk W0 g 36 acl0) :
    Blk (((W0.setCell ⟨g, 0, none⟩ (.bool x.fl)).setCell ⟨g, 1, none⟩ (.int .i64 x.at_)).setCell ⟨g, 2, none⟩ (.slice x.p.A x.p.zs.length x.p.c)) g 36 (acl x) :=
  ((h.set 0 _).set 1 _).set 2 _
theorem blkA_other {W0 : World} {g g' : Nat} {a b c : Value} {vs : List Value} (h : Blk W0 g 36 vs) (hne : g ≠ g') :
    Blk (((W0.setCell ⟨g', 0, none⟩ a).setCell ⟨g', 1, none⟩ b).setCell ⟨g', 2, none⟩ c) g 36 vs :=
  ((h.other hne 0 _).other hne 1 _).other hne 2 _
theorem rightA_set {n base : Nat} {W : World} {r : Ac} {g : Nat} {a b c : Value} {vs : List Value} (h : r.Right n base W) (hb : Blk W g 36 vs) :
    r.Right n base (((W.setCell ⟨g, 0, none⟩ a).setCell ⟨g, 1, none⟩ b).setCell ⟨g, 2, none⟩ c) := by
  refine h.stay fun k _ hk hkb => ?_
  have hne : k ≠ g := by
    rintro rfl
    unfold Blk at hb hkb
    rw [hb] at hkb
    injection hkb with hkb
    injection hkb with _ hkb
    cases hkb
  rw [heap_setCell_other _ _ k _ hne, heap_setCell_other _ _ k _ hne, heap_setCell_other _ _ k _ hne]
theorem rightA_alloc {n base : Nat} {W : World} {r : Ac} (h : r.Right n base W) (o : Obj) : r.Right n base (W.alloc o) := h.below ((Below.refl W.heap.size W).alloc (Nat.le_refl _) o)
theorem rightA_drew {n base : Nat} {W : World} {r : Ac} (h : r.Right n base W) : r.Right n base W.drew := h.below (Below.refl _ _).drew

/-- Two acts lie in blocks of the call's own. -/
structure MetA (wr : World) (k gx gy : Nat) (rX rY : Ac) (wx : World) : Prop where
  x : Blk wx gx 36 (acl rX)
  y : Blk wx gy 36 (acl rY)
  rx : rX.Right k wr.heap.size wx
  ry : rY.Right k wr.heap.size wx
  b : Below wr.heap.size wr wx
  lx : wr.heap.size ≤ gx
  ly : wr.heap.size ≤ gy
  ne : gx ≠ gy

/-- What a right act tells, wherever the world has come to. -/
theorem right_hid (x : Ac) (n : Nat) (h2 : 2 ≤ n) (h15 : n ≤ 15) (w : World) (hx : x.p.Came w) (W : World) (hb : Below w.heap.size w W) :
    Calls Try.prog 13 #[x.val, .int .i64 n] W fun e w' => ∃ r : Ac, e = .returned r.val ∧ Hid (r.fl = x.fl) ∧ Hid (r.Right n w.heap.size w') ∧ Below W.heap.size W w' := by
  refine (right_any x n h2 h15 W (hx.below hb)).mono ?_
  rintro e w' ⟨r, rfl, hf, hr, hB⟩
  exact ⟨r, rfl, Lib.hid hf, Lib.hid (hr.base hb.size), hB⟩

theorem held6 {W W' : World} {g g' n : Nat} {a b c d e f : Value} (hg : g < n) (hg' : g' < n) (h0 : W.cell? ⟨g, 0, none⟩ = some a) (h1 : W.cell? ⟨g, 1, none⟩ = some b) (h2 : W.cell? ⟨g, 2, none⟩ = some c)
    (h3 : W.cell? ⟨g', 0, none⟩ = some d) (h4 : W.cell? ⟨g', 1, none⟩ = some e) (h5 : W.cell? ⟨g', 2, none⟩ = some f) (hB : Below n W W') :
    W'.cell? ⟨g, 0, none⟩ = some a ∧ W'.cell? ⟨g, 1, none⟩ = some b ∧ W'.cell? ⟨g, 2, none⟩ = some c ∧ W'.cell? ⟨g', 0, none⟩ = some d ∧ W'.cell? ⟨g', 1, none⟩ = some e ∧ W'.cell? ⟨g', 2, none⟩ = some f ∧ Below n W W' :=
  ⟨(hB.cell (p := ⟨g, 0, none⟩) hg).trans h0, (hB.cell (p := ⟨g, 1, none⟩) hg).trans h1, (hB.cell (p := ⟨g, 2, none⟩) hg).trans h2, (hB.cell (p := ⟨g', 0, none⟩) hg').trans h3, (hB.cell (p := ⟨g', 1, none⟩) hg').trans h4, (hB.cell (p := ⟨g', 2, none⟩) hg').trans h5, hB⟩

theorem bcellA {W w1 : World} (hb : Below W.heap.size W w1) : (∀ b o, b < W.heap.size → w1.cell? ⟨b, o, none⟩ = W.cell? ⟨b, o, none⟩) ∧ (∀ b o, b < W.heap.size → w1.frozen? ⟨b, o, none⟩ = W.frozen? ⟨b, o, none⟩) :=
  ⟨fun b o h => hb.cell (p := ⟨b, o, none⟩) h, fun b o h => hb.frozen (p := ⟨b, o, none⟩) h⟩

theorem rightA_set1 {n base : Nat} {W : World} {r : Ac} {g j : Nat} {a : Value} {vs : List Value} (h : r.Right n base W) (hb : Blk W g 36 vs) : r.Right n base (W.setCell ⟨g, j, none⟩ a) := by
  refine h.stay fun k _ hk hkb => ?_
  have hne : k ≠ g := by
    rintro rfl
    unfold Blk at hb hkb
    rw [hb] at hkb
    injection hkb with hkb
    injection hkb with _ hkb
    cases hkb
  exact heap_setCell_other _ _ k _ hne

theorem ocl_set (zs : List Int) (i : Nat) (v : Int) : (ocl zs).set i (.int .u8 v) = ocl (zs.set i v) := by
  unfold ocl
  rw [List.map_set]

/-- 64 zeros, as a row of cells. -/
def z64A : Array Value := (ocl z64).toArray
theorem make64 (W : World) : (Instr.makeSlice 34 (.int .i64 64) (.int .i64 64)).run Try.prog W = .ok (.slice (some ⟨W.heap.size, 0, none⟩) 64 64) (W.alloc (.cells z64A 5)) := by
  obtain ⟨i0, hi, hz0, hz1, hz2⟩ := dinfo_parts dinfo8
  have := run_makeSlice (P := Try.prog) (w := W) 34 5 i0 (.int .u8 0) Try.underlying34 hi hz0 .i64 .i64 64 64 (by omega) (by omega) (by rw [hz1]; decide) (by rw [hz2]; omega) (by omega)
  rw [hz1] at this
  have e : madeCells (Value.int .u8 0).cells 64 = z64A := Array.ext' (by simp [Value.cells, toList_madeCells_one, z64A, ocl, z64])
  rw [← e]
  exact this
theorem conv64 (W : World) : (convert 34 9 (.slice (some ⟨W.heap.size, 0, none⟩) 64 64)).run Try.prog (W.alloc (.cells z64A 5)) = .ok (.string (strOfNums z64)) (W.alloc (.cells z64A 5)) := by
  refine conv_at _ (some ⟨W.heap.size, 0, none⟩) 64 z64 z64_length fun _ => ⟨W.heap.size, 0, rfl, by simp, fun j u hu => ?_⟩
  rw [cell_of_row (W.alloc (.cells z64A 5)) W.heap.size (0 + j) z64A 5 (0, 0) (heap_alloc_new W _), Nat.zero_add]
  unfold z64A
  simpa using hu

theorem blk_reads {W : World} {g : Nat} {t : TypeId} {vs : List Value} (h : Blk W g t vs) : Rd W (some ⟨g, 0, none⟩) vs := fun _ => ⟨g, 0, rfl, h.lt, fun j u hu => by rw [Nat.zero_add]; exact (h.cell j).trans hu⟩

/-- One write, done. -/
theorem do_one (D : Dv) (hok : D.st.ok) (hws : D.ws.length = 0) (q : Nat) (hq : q < D.ps.length) (g : Nat) (zx : List Int) (hz : zx.length = 64) (n : Nat) (W : World) (hD : D.Lies 0 W) (hb : Blk W g 5 (ocl zx)) (hn : W.heap.size = n) :
    Calls Try.prog 14 #[D.val, .slice (some ⟨n, 0, none⟩) 1 1] (W.alloc (.cells #[.bool false, .int .i64 q, .slice (some ⟨g, 0, none⟩) 64 64] 36)) fun e w' => ∃ E : Dv, e = .returned (ansD E.val 0) ∧
      Hid (E.st = ⟨D.st.secs, D.st.waits ++ [((q : Int), zx)]⟩) ∧ Hid (E.Lies n w') ∧ Below n W w' := by
  subst hn
  have h0 : Below W.heap.size W (W.alloc (.cells #[.bool false, .int .i64 q, .slice (some ⟨g, 0, none⟩) 64 64] 36)) := (Below.refl _ _).alloc (Nat.le_refl _) _
  have hrow : Blk (W.alloc (.cells #[.bool false, .int .i64 q, .slice (some ⟨g, 0, none⟩) 64 64] 36)) W.heap.size 36 (acCells [⟨false, q, ⟨some ⟨g, 0, none⟩, zx, 64⟩⟩]) := by
    have e : acCells [⟨false, q, ⟨some ⟨g, 0, none⟩, zx, 64⟩⟩] = [.bool false, .int .i64 q, .slice (some ⟨g, 0, none⟩) zx.length 64] := rfl
    rw [e, hz]
    exact Blk.new W [.bool false, .int .i64 q, .slice (some ⟨g, 0, none⟩) 64 64] 36
  have hac : Acts (W.alloc (.cells #[.bool false, .int .i64 q, .slice (some ⟨g, 0, none⟩) 64 64] 36)) (some ⟨W.heap.size, 0, none⟩) [⟨false, q, ⟨some ⟨g, 0, none⟩, zx, 64⟩⟩] :=
    ⟨blk_reads hrow, fun x hx => by simp at hx; subst hx; exact (blk_reads hb).below h0, fun x hx => by simp at hx; subst hx; show zx.length ≤ _; omega, by simp⟩
  have ha : actsE D.ps.length [(⟨false, q, ⟨some ⟨g, 0, none⟩, zx, 64⟩⟩ : Ac)] = 0 := actsE_none fun x hx => by
    simp at hx
    subst hx
    simp only [actE, wrtE]
    rw [if_neg (by simp), if_pos ⟨by omega, by omega⟩, if_pos hz]
  refine (do_ok D (Dv.fits hok (by omega)) hok (some ⟨W.heap.size, 0, none⟩) [⟨false, q, ⟨some ⟨g, 0, none⟩, zx, 64⟩⟩] 1 ha (by simp; omega) _ (hD.below h0) hac).mono ?_
  rintro e w' ⟨E, rfl, hst, hl, hB⟩
  refine ⟨E, rfl, Lib.hid ?_, Lib.hid (hl.mono (by simp)), h0.trans (hB.mono (by simp))⟩
  rw [hst]
  rfl

/-- A write, and a flush, done. -/
theorem do_two (D : Dv) (hok : D.st.ok) (hws : D.ws.length ≤ 1) (q : Nat) (hq : q < D.ps.length) (g : Nat) (zx : List Int) (hz : zx.length = 64) (n : Nat) (W : World) (hD : D.Lies 0 W) (hb : Blk W g 5 (ocl zx)) (hn : W.heap.size = n) :
    Calls Try.prog 14 #[D.val, .slice (some ⟨n, 0, none⟩) 2 2] (W.alloc (.cells #[.bool false, .int .i64 q, .slice (some ⟨g, 0, none⟩) 64 64, .bool true, .int .i64 0, .slice none 0 0] 36)) fun e w' => ∃ E : Dv, e = .returned (ansD E.val 0) ∧
      Hid (E.ws.length = 0) ∧ Below n W w' := by
  subst hn
  have h0 : Below W.heap.size W (W.alloc (.cells #[.bool false, .int .i64 q, .slice (some ⟨g, 0, none⟩) 64 64, .bool true, .int .i64 0, .slice none 0 0] 36)) := (Below.refl _ _).alloc (Nat.le_refl _) _
  have hrow : Blk (W.alloc (.cells #[.bool false, .int .i64 q, .slice (some ⟨g, 0, none⟩) 64 64, .bool true, .int .i64 0, .slice none 0 0] 36)) W.heap.size 36 (acCells [⟨false, q, ⟨some ⟨g, 0, none⟩, zx, 64⟩⟩, ⟨true, 0, ⟨none, [], 0⟩⟩]) := by
    have e : acCells [⟨false, q, ⟨some ⟨g, 0, none⟩, zx, 64⟩⟩, ⟨true, 0, ⟨none, [], 0⟩⟩] = [.bool false, .int .i64 q, .slice (some ⟨g, 0, none⟩) zx.length 64, .bool true, .int .i64 0, .slice none 0 0] := rfl
    rw [e, hz]
    exact Blk.new W [.bool false, .int .i64 q, .slice (some ⟨g, 0, none⟩) 64 64, .bool true, .int .i64 0, .slice none 0 0] 36
  have hac : Acts (W.alloc (.cells #[.bool false, .int .i64 q, .slice (some ⟨g, 0, none⟩) 64 64, .bool true, .int .i64 0, .slice none 0 0] 36)) (some ⟨W.heap.size, 0, none⟩) [⟨false, q, ⟨some ⟨g, 0, none⟩, zx, 64⟩⟩, ⟨true, 0, ⟨none, [], 0⟩⟩] :=
    ⟨blk_reads hrow, fun x hx => by
        simp at hx
        rcases hx with rfl | rfl
        · exact (blk_reads hb).below h0
        · exact Rd.nil _ _,
      fun x hx => by
        simp at hx
        rcases hx with rfl | rfl
        · show zx.length ≤ _
          omega
        · simp, by simp⟩
  have ha : actsE D.ps.length [(⟨false, q, ⟨some ⟨g, 0, none⟩, zx, 64⟩⟩ : Ac), ⟨true, 0, ⟨none, [], 0⟩⟩] = 0 := actsE_none fun x hx => by
    simp at hx
    rcases hx with rfl | rfl
    · simp only [actE, wrtE]
      rw [if_neg (by simp), if_pos ⟨by omega, by omega⟩, if_pos hz]
    · simp [actE]
  refine (do_ok D (Dv.fits hok (by omega)) hok (some ⟨W.heap.size, 0, none⟩) [⟨false, q, ⟨some ⟨g, 0, none⟩, zx, 64⟩⟩, ⟨true, 0, ⟨none, [], 0⟩⟩] 2 ha (by simp; omega) _ (hD.below h0) hac).mono ?_
  rintro e w' ⟨E, rfl, hst, hl, hB⟩
  refine ⟨E, rfl, Lib.hid ?_, h0.trans (hB.mono (by simp))⟩
  rw [(st_ws hst).1]
  rfl

theorem readS_one {k q : Nat} (hq : q < k) (zx : List Int) : readS ⟨List.replicate k z64, [((q : Int), zx)]⟩ q = zx := by
  simp [readS, applyW, hq]
theorem readS_none {k q : Nat} (hq : q < k) : readS ⟨List.replicate k z64, []⟩ q = z64 := by
  simp [readS, applyW, hq]

theorem own_st_ok {k q : Nat} (h2 : 2 ≤ k) (h15 : k ≤ 15) (hq : q < k) {zx : List Int} (hz : zx.length = 64) : (DS.mk (List.replicate k z64) [((q : Int), zx)]).ok := by
  refine ⟨by simpa using h2, by simp; omega, fun s hs => by rw [(List.mem_replicate.1 hs).2]; exact z64_length, fun x hx => ?_⟩
  simp at hx
  subst hx
  exact ⟨by simp, by simpa using hq, hz⟩

end Go.Proofs.Ytddkalcgijeldaa
