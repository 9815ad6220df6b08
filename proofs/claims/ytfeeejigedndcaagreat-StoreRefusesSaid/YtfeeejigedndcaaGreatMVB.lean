/-
  What StoreOwn's loops make of memory: plainly. No conditions.
-/
import Derived.Test.YtfeeejigedndcaaGreatMYO
import Derived.Test.YtfeeejigedndcaaGreatMVA
import Derived.Test.YtfeeejigedndcaaGreatMGW
namespace Go.Proofs.YtfeeejigedndcaaGreat
open Go.ChangeShapes Go.WideShapes Go.ChangeAt Go.RowKit
set_option maxRecDepth 100000

/-- append of cells that are read, at a step of a region that draws its order. -/
theorem step_append_rd {P : Program} {ops : Array Oper} {o : Oper} {a : Act} {w : World} {K : Act → World → Prop} {Q : Exit → Act → World → Prop} {E : Prop} (hgd : o.guard = none) (s x : Operand) (t : TypeId)
    (ho : o.op = .call { callee := .builtin .append, args := #[s, x], argTypes := #[t, t] })
    (base : Nat) (e : TypeId) (i : TypeInfo) (z : Value) (bytes : Nat) (ht : P.underlying t = some (.slice e)) (hi : P.info? e = some i) (hz : i.zero = some z) (hsize : i.size = 1) (hby : i.bytes = bytes) (hzs : z.cells.size = 1)
    (v : Value) (n : Nat) (xs : List Value) (hs : a.eval s = v) (hown : w.ownsRow base e 1 v n xs)
    (A : Option Addr) (m c : Nat) (news : List Value) (hx : a.eval x = .slice A m c) (hl : news.length = m) (hr : Rd w A news) (hnil : A = none → c = 0) (h1 : ∀ u ∈ news, u.oneCell' = true)
    (h63 : n + m ≤ maxLen) (hbytes : (n + m) * bytes ≤ 140737488355328) (hbase : base ≤ w.heap.size)
    (h : ∀ v' w', w'.ownsRow base e 1 v' (n + m) (xs ++ news) → w.grownBy w' v.ownBlock → K (a.put o.dst v') w') :
    if Region.wanted o (yielded ops a.tmps) = true then Oper.wp P o a w K Q else E := by
  have hw : Region.wanted o (yielded ops a.tmps) = true := by simp [Region.wanted, hgd]
  rw [if_pos hw]
  rcases A with _ | ad
  · have hz : news = [] := by
      rcases news with _ | ⟨u, us⟩
      · rfl
      · obtain ⟨b, off, e, _⟩ := hr (by simp)
        cases e
    subst hz
    obtain rfl : m = 0 := by simpa using hl.symm
    have := hnil rfl
    subst this
    have hrun := run_append_owned_none (P := P) (w := w) base t o.type e i 1 ht hi v n xs hown
    unfold Oper.wp
    simp [execOp, ho, resolve, invoke, builtin, hs, hx, hrun, Result.andThen]
    exact h v w (by simpa using hown) (World.grownBy.refl w _)
  · obtain ⟨v', w', hrun, r1, r2, _⟩ := run_append_own (P := P) w base t o.type e i z 1 bytes ht hi hz hsize hby hzs (by decide) v n xs hown ad m c news (by omega) (fun j u hu => by
      obtain ⟨b, off, e, _, hc⟩ := hr (by rintro rfl; simp at hu)
      injection e with e
      subst e
      rw [add_plain]
      exact hc j u hu) h1 h63 hbytes hbase
    unfold Oper.wp
    simp [execOp, ho, resolve, invoke, builtin, hs, hx, hrun, Result.andThen]
    exact h v' w' r1 r2

abbrev OBJ : TypeId := 58
/-- Copies of objects, as far as they are made. -/
structure InJ (w4 : World) (ys : List Ob) (k : Nat) (v : Value) (zs : List Ob) (W : World) : Prop where
  len : zs.length = k
  kd : zs.map kd = (ys.take k).map kd
  ob : ∀ z ∈ zs, z.B = none ∧ z.ns = [] ∧ z.e = 0 ∧ z.d.zs.length ≤ z.d.c ∧ (z.d.A = none → z.d.c = 0)
  row : W.ownsRow w4.heap.size OBJ 3 v zs.length (obCells zs)
  data : ∀ z ∈ zs, W.ownsRow w4.heap.size 5 1 z.d.val z.d.zs.length (octCells z.d.zs)
  apart : zs.Pairwise fun a b => ∀ g, a.d.val.ownBlock = some g → b.d.val.ownBlock ≠ some g
  out : Below w4.heap.size w4 W

theorem InJ.push {w4 : World} {ys : List Ob} {k : Nat} {v : Value} {zs : List Ob} {W Wc W' : World} {y : Ob} {A1 : Option Addr} {c1 : Nat} {v'' : Value} (h : InJ w4 ys k v zs W) (hy : ys[k]? = some y) (hB : Below W.heap.size W Wc)
    (hd : Wc.ownsRow W.heap.size 5 1 (.slice A1 y.d.zs.length c1) y.d.zs.length (octCells y.d.zs)) (ho : W'.ownsRow w4.heap.size OBJ 3 v'' (zs.length + 1) (obCells zs ++ [.string y.key, .slice A1 y.d.zs.length c1, .slice none 0 0])) (hg : Wc.grownBy W' v.ownBlock) :
    InJ w4 ys (k + 1) v'' (zs ++ [⟨y.key, ⟨A1, y.d.zs, c1⟩, none, [], 0⟩]) W' := by
  have hs := h.out.size
  have hrow := own_below3 h.row hB (Nat.le_refl _)
  obtain ⟨A2, c2, e2, g2, g3, _, _⟩ := own_any hd
  injection e2 with e3 _ e4
  subst e3 e4
  refine ⟨by rw [List.length_append, h.len]; rfl, ?_, fun z hz => ?_, ?_, fun z hz => ?_, ?_, ?_⟩
  · rw [List.map_append, h.kd, List.take_add_one, hy, List.map_append]
    rfl
  · rcases List.mem_append.1 hz with hz | hz
    · exact h.ob z hz
    · simp at hz
      subst hz
      exact ⟨rfl, rfl, rfl, g2, g3⟩
  · rw [obCells_snoc, List.length_append]
    exact ho
  · rcases List.mem_append.1 hz with hz | hz
    · have h1 := own_below3 (h.data z hz) hB (Nat.le_refl _)
      exact own_stay h1 fun b hb => hg.block b (h1.lt b hb).2 (fun e => own_apart h1 hrow (by decide) b hb e.symm)
    · simp at hz
      subst hz
      have h1 := own_base hd hs
      exact own_stay h1 fun b hb => hg.block b (h1.lt b hb).2 (fun e => own_apart h1 hrow (by decide) b hb e.symm)
  · refine List.pairwise_append.2 ⟨h.apart, List.pairwise_singleton _ _, fun a ha b hb g h1 h2 => ?_⟩
    simp at hb
    subst hb
    have h3 := ((h.data a ha).lt g h1).2
    have h4 := (hd.lt g h2).1
    omega
  · exact (h.out.trans (hB.mono hs)).grown hg (by have := hB.size; omega) (fun j e => (h.row.lt j e).1)

/-- Copies that are spoilt, one by one. -/
structure SpJ (lo hi : Nat) (w7 : World) (v : Value) (zs : List Ob) (k : Nat) (W : World) : Prop where
  row : W.ownsRow lo OBJ 3 v zs.length (obCells zs)
  left : ∀ j z, k ≤ j → zs[j]? = some z → W.ownsRow lo 5 1 z.d.val z.d.zs.length (octCells z.d.zs)
  out : Out lo hi w7.heap.size w7 W
theorem SpJ.step {lo hi : Nat} {w7 : World} {v : Value} {zs : List Ob} {k : Nat} {W W' : World} {z : Ob} (h : SpJ lo hi w7 v zs k W) (hz : zs[k]? = some z) (hap : zs.Pairwise fun a b => ∀ g, a.d.val.ownBlock = some g → b.d.val.ownBlock ≠ some g)
    (hlt : ∀ b, z.d.val.ownBlock = some b → lo ≤ b ∧ b < hi) (_hhi : hi ≤ w7.heap.size) (hg : W.grownBy W' z.d.val.ownBlock) : SpJ lo hi w7 v zs (k + 1) W' := by
  have hzk := h.left k z (Nat.le_refl _) hz
  have hsz := h.out.size
  refine ⟨own_stay h.row fun b hb => hg.block b (h.row.lt b hb).2 (fun e => own_apart h.row hzk (by decide) b hb e.symm), fun j z' hj hz' => ?_, h.out.trans ⟨hg.os, hg.tape, hg.output, hg.size, fun b hb ho => hg.block b (by omega) (fun e => ?_)⟩⟩
  · have h1 := h.left j z' (by omega) hz'
    refine own_stay h1 fun b hb => hg.block b (h1.lt b hb).2 (fun e => ?_)
    obtain ⟨hk', rfl⟩ := List.getElem?_eq_some_iff.1 hz
    obtain ⟨hj', rfl⟩ := List.getElem?_eq_some_iff.1 hz'
    exact List.pairwise_iff_getElem.1 hap k j hk' hj' (by omega) b e.symm hb
  · have := hlt b e.symm
    omega

theorem octv_cells {zs : List Int} (h : Octs zs) : Octv (octCells zs) := fun j u hu => by
  unfold octCells at hu
  rw [List.getElem?_map] at hu
  rcases hz : zs[j]? with _ | z
  · rw [hz] at hu; cases hu
  · rw [hz] at hu
    injection hu with hu
    have := h z (List.mem_of_getElem? hz)
    exact ⟨z, hu.symm, this.1, this.2⟩

end Go.Proofs.YtfeeejigedndcaaGreat

namespace Go.Proofs.YtfeeejigedndcaaGreat
open Go.ChangeShapes Go.WideShapes Go.ChangeAt Go.RowKit
set_option maxRecDepth 100000

/-- What came in as objects. -/
structure ObsIn (W : World) (A : Option Addr) (c : Nat) (ls : List Ob) : Prop where
  cap : ls.length ≤ c
  nil : A = none → c = 0
  rd : Rd W A (obCells ls)
  came : ∀ o ∈ ls, o.Came W
  len : ls.length ≤ 2199023255488
theorem ObsIn.below {W W' : World} {A : Option Addr} {c : Nat} {ls : List Ob} (h : ObsIn W A c ls) (hB : Below W.heap.size W W') : ObsIn W' A c ls := ⟨h.cap, h.nil, h.rd.below hB, fun o ho => (h.came o ho).below hB, h.len⟩
theorem ObsIn.fits {W : World} {A : Option Addr} {c : Nat} {ls : List Ob} (h : ObsIn W A c ls) : ∀ o ∈ ls, o.Fits := fun o ho => (h.came o ho).fits
theorem GL.data {W : World} {A : Option Addr} {c : Nat} {ls ys : List Ob} {n : Nat} (h : GL ls n ys) (hI : ObsIn W A c ls) : ∀ y ∈ ys, y.Fits ∧ Rd W y.d.A (octCells y.d.zs) := fun y hy => by
  obtain ⟨h1, h2, h3, h4, h5, x, hx, hxy⟩ := h.mem y hy
  have hf := (hI.came x hx).fits
  rw [← hxy]
  exact ⟨⟨by unfold maxLen; omega, by omega, hxy ▸ hf.dc, hxy ▸ hf.dn, by rw [h2]; simp, by rw [h2]; simp, fun _ => h3, hxy ▸ hf.octs⟩, (hI.came x hx).data⟩

theorem sum_le {l : List Nat} {m : Nat} (h : ∀ x ∈ l, x ≤ m) : l.foldr (· + ·) 0 ≤ l.length * m := by
  induction l with
  | nil => simp
  | cons x l ih =>
    have h1 := h x (by simp)
    have h2 := ih fun y hy => h y (by simp [hy])
    simp only [List.foldr_cons, List.length_cons]
    rw [Nat.add_mul]
    omega
theorem GL.idx {ls ys : List Ob} (h : GL ls 6 ys) : idxSize (ys.map Ob.st) ≤ 65536 := by
  have h1 := sum_le (l := (ys.map Ob.st).map one) (m := 177) fun x hx => by
    obtain ⟨o, ho, rfl⟩ := List.mem_map.1 hx
    obtain ⟨y, hy, rfl⟩ := List.mem_map.1 ho
    obtain ⟨_, _, _, h4, h5, _⟩ := h.mem y hy
    show 17 + y.key.size + 8 * cntN y.d.zs.length ≤ 177
    unfold cntN
    omega
  have h2 := h.len
  rw [List.length_map, List.length_map] at h1
  unfold idxSize sumOne
  split
  · omega
  · omega
theorem GL.in_ {W V : World} {A : Option Addr} {c : Nat} {ls ys : List Ob} (h : GL ls 6 ys) (hI : ObsIn W A c ls) {B : Option Addr} (hB : Below W.heap.size W V) (hr : Rd V B (obCells ys)) : In V B ys :=
  ⟨hr, fun y hy => (h.data hI y hy).2.below hB, fun y hy => (h.data hI y hy).1, by have := h.len; omega, h.objE, h.idx⟩
theorem st_of_kd {xs ys : List Ob} (h : xs.map kd = ys.map kd) (hx : ∀ x ∈ xs, x.ns = []) (hy : ∀ y ∈ ys, y.ns = []) : xs.map Ob.st = ys.map Ob.st := by
  have hl : xs.length = ys.length := by simpa using congrArg List.length h
  refine List.ext_getElem (by simpa using hl) fun i h1 h2 => ?_
  simp only [List.length_map] at h1 h2
  obtain ⟨e1, e2⟩ := kd_at h (List.getElem?_eq_getElem h1) (List.getElem?_eq_getElem h2)
  simp only [List.getElem_map, Ob.st, e1, e2, hx _ (List.getElem_mem h1), hy _ (List.getElem_mem h2)]

theorem inj_in {w4 : World} {ys : List Ob} {k : Nat} {Av : Option Addr} {cv : Nat} {zs : List Ob} {W V : World} {B : Option Addr} (h : InJ w4 ys k (.slice Av zs.length cv) zs W) (hk : k = ys.length) (hns : ∀ y ∈ ys, y.ns = []) (hI : In V B ys) : In W Av zs := by
  have hkd : zs.map kd = ys.map kd := by
    have := h.kd
    rw [hk, List.take_length] at this
    exact this
  have hst := st_of_kd hkd (fun z hz => (h.ob z hz).2.1) hns
  have hmem : ∀ z ∈ zs, ∃ y ∈ ys, z.key = y.key ∧ z.d.zs = y.d.zs := fun z hz => by
    have h1 : kd z ∈ ys.map kd := hkd ▸ List.mem_map.2 ⟨z, hz, rfl⟩
    obtain ⟨y, hy, e⟩ := List.mem_map.1 h1
    injection e with e1 e2
    exact ⟨y, hy, e1.symm, e2.symm⟩
  refine ⟨(RdF.of_own h.row).1, fun z hz => (RdF.of_own (h.data z hz)).1, fun z hz => ?_, ?_, by rw [hst]; exact hI.ok, by rw [hst]; exact hI.idx⟩
  · obtain ⟨y, hy, e1, e2⟩ := hmem z hz
    have hf := hI.fits y hy
    obtain ⟨g1, g2, g3, g4, g5⟩ := h.ob z hz
    exact ⟨e1 ▸ hf.k, by rw [e2]; exact hf.d, g4, g5, by rw [g2]; simp, by rw [g2]; simp, fun _ => g3, by rw [e2]; exact hf.octs⟩
  · rw [h.len, hk]
    exact hI.len
abbrev st0 : St := ⟨⟨none, [], 0, none, [], 0⟩, ⟨0, 0, 0⟩, none, [], 0, none, [], 0⟩
theorem commit_own (S : St) (A : Option Addr) (c : Nat) (ls : List Ob) (w : World) (hS : Up 0 w S) (ht : S.u.t < 1099511627776) (hI : In w A ls) :
    Calls Tryz.prog 11 #[S.val, .slice A ls.length c] w fun e w' => ∃ (T : St) (x : Int) (av : Value), e = .returned (.tuple #[T.val, av, .int .i64 x]) ∧ (x = 17 ∨ (x = 0 ∧ Up w.heap.size w' T ∧ T.os.map kd = ls.map kd)) ∧ Below w.heap.size w w' := by
  refine (commit_up S A c ls w hS ht hI).mono ?_
  rintro e w' ⟨⟨_, rfl⟩ | ⟨U, A', c', l, aw1, S1, rfl, hD⟩, hB⟩
  · exact ⟨st0, 17, _, rfl, .inl rfl, hB⟩
  · exact ⟨U, 0, _, rfl, .inr ⟨rfl, hD.up, hD.kd⟩, hB⟩

theorem get_own (s : St) (hf : s.Fits) (k : ByteArray) (w : World) (hL : s.Lies 0 w) :
    Calls Tryz.prog 22 #[s.val, .string k] w fun e w' => ∃ v b, e = .returned (.tuple #[v, .bool b]) ∧ (∃ n xs, w'.ownsRow w.heap.size 5 1 v n xs ∧ Octv xs ∧ n ≤ 140737488355328) ∧ Below w.heap.size w w' := by
  refine (get_any s hf k w hL).mono ?_
  rintro e w' ⟨hB, ⟨o, v, h1, rfl, h2⟩ | ⟨_, rfl⟩⟩
  · have hm : o ∈ s.os := List.mem_of_find?_eq_some h1
    have hof := hf.os o hm
    exact ⟨v, true, rfl, ⟨_, _, h2, octv_cells hof.octs, by have := hof.d; omega⟩, hB⟩
  · exact ⟨_, false, rfl, ⟨0, [], own_none' _ _ _ _, fun j u hu => (by simp at hu), by omega⟩, hB⟩

set_option maxHeartbeats 8000000 in
theorem owns10_walk (n : Int) (A : Option Addr) (c : Nat) (ls : List Ob) (w : World) (hI : ObsIn w A c ls) :
    Calls Tryz.prog 6 #[.int .i64 n, .slice A ls.length c] w fun e w' => e = .returned (.bool true) ∧ Below w.heap.size w w' := by
  obtain ⟨i0, hi, hz0, hz1, hz2⟩ := dinfo_parts infoObj
  obtain ⟨i1, hi1, hz10, hz11, hz12⟩ := dinfo_parts dinfo8
  have HI := Lib.hid hI
  have HAL := Lib.hid (alive10_any w)
  have hsz := sizeN_le n
  obtain ⟨m, hm⟩ : ∃ m : Nat, sizeN n = (m : Int) := ⟨(sizeN n).toNat, by omega⟩
  have HSZ := Lib.hid (fun w => size10_any n w)
  rw [hm] at HSZ hsz
  have hm2 : 2 ≤ m := by omega
  have hm3 : m ≤ 8192 := by omega
  clear hI hsz hm
  go_enter Tryz.func6, Tryz.ntmps6
  go_wp2_with fail
  refine HAL.out.mono ?_
  rintro e w1 ⟨rfl, hB1⟩
  go_wp2_with fail
  refine (HSZ.out w1).mono ?_
  rintro e w1' ⟨rfl, rfl⟩
  go_wp2_with fail
  refine (first10_any m hm2 hm3 w1').mono ?_
  rintro e w2 ⟨E, rfl, hN, hB2⟩
  have hB02 : Below w.heap.size w w2 := hB1.trans (hB2.mono hB1.size)
  obtain ⟨w3, hw3⟩ : ∃ w3, w2.alloc (.cells #[.slice E.A E.ps.length E.c, .slice E.B E.ws.length E.d, .int .i64 2, .int .i64 0, .int .i64 0, .slice none 0 0, .slice none 0 0] 32) = w3 := ⟨_, rfl⟩
  have hB23 : Below w2.heap.size w2 w3 := hw3 ▸ (Below.refl _ w2).alloc (Nat.le_refl _) _
  have ks : Blk w3 w2.heap.size 32 [.slice E.A E.ps.length E.c, .slice E.B E.ws.length E.d, .int .i64 2, .int .i64 0, .int .i64 0, .slice none 0 0, .slice none 0 0] := hw3 ▸ Blk.new w2 _ _
  have hB03 : Below w.heap.size w w3 := hB02.trans (hB23.mono hB02.size)
  have HN := Lib.hid (hN.below hB23)
  have HKS := Lib.hid ks
  have hlt3 := ks.lt
  have HG := Lib.hid (good10_any A c ls (by have := HI.out.len; omega) HI.out.fits w3 ((HI.out.below hB03).rd))
  have HW3 := Lib.hid hw3
  clear hw3 ks hN HAL HSZ hB23 hm2 hm3
  go_wp2_with fail
  rw [HW3.out]
  refine HG.out.mono ?_
  rintro e w4 ⟨v, rfl, ys, hgl, hoys, hB4⟩
  have hB04 : Below w.heap.size w w4 := hB03.trans (hB4.mono hB03.size)
  obtain ⟨V, vc, rfl, hvc, _, hrV, _⟩ := own_any hoys
  have HGL := Lib.hid hgl
  have HRV := Lib.hid hrV
  have hyl := hgl.len
  have HIN := Lib.hid (hgl.in_ HI.out hB04 hrV.1)
  clear hgl hoys hrV HG HW3
  go_wp2_with fail
  go_loopw [7, 8] (fun v i W => ∃ (k : Nat) (zs : List Ob), k ≤ ys.length ∧ i = .int .i64 k ∧ Hid (InJ w4 ys k v zs W)) (fun _ i _ => ys.length - (intOf i).toNat)
  case atStart => exact ⟨0, [], Nat.zero_le _, rfl, Lib.hid ⟨rfl, rfl, fun z hz => (by cases hz), own_none' _ _ _ _, fun z hz => (by cases hz), List.Pairwise.nil, Below.refl _ _⟩⟩
  case round =>
    obtain ⟨k, zs, hk, rfl, HJ⟩ := hrel
    obtain ⟨Av, cv, rfl, hcv, hnv, hrv, _⟩ := own_any HJ.out.row
    by_cases hlt : k < ys.length
    · obtain ⟨y, hy⟩ : ∃ y, ys[k]? = some y := ⟨_, List.getElem?_eq_getElem hlt⟩
      have hBr := HJ.out.out
      have hBs := hBr.size
      obtain ⟨vb, vo, rfl, hvb, hk0, hk1, _⟩ := (HRV.out.1.below hBr).ob hy
      have hym := List.mem_of_getElem? hy
      have hyd := (HIN.out.data y hym).below hBr
      have hyf := HIN.out.fits y hym
      have hyd4 : y.d.zs.length ≤ 400 := (HGL.out.mem y hym).2.2.2.2.1
      have HPU := Lib.hid (fun (Wc W' : World) (A1 : Option Addr) (c1 : Nat) (v'' : Value) h1 h2 h3 h4 => HJ.out.push (Wc := Wc) (W' := W') (A1 := A1) (c1 := c1) (v'' := v'') hy h1 h2 h3 h4)
      have HYN := Lib.hid hyf.dn
      have HYD := Lib.hid hyd
      have HSF : Hid (∀ W', Below wr.heap.size wr W' → W'.cell? ⟨vb, vo + k * 3, none⟩ = some (.string y.key) ∧ W'.cell? ⟨vb, vo + k * 3 + 1, none⟩ = some (.slice y.d.A y.d.zs.length y.d.c)) := Lib.hid fun W' hB => ⟨(hB.cell (p := ⟨vb, vo + k * 3, none⟩) hvb).trans hk0, (hB.cell (p := ⟨vb, vo + k * 3 + 1, none⟩) hvb).trans hk1⟩
      have HRW := Lib.hid HJ.out.row
      have HZL := HJ.out.len
      have hkl : (k : Int) < ys.length := by omega
      have hvn : zs.length ≤ 6 := by omega
      clear hk0 hk1 hy hym hyd hyf HZL
      obtain ⟨yk, ⟨yA, yz, yc⟩, yB, yn, ye⟩ := y
      dsimp only at *
      go_wp2_with fail
      have hBd : Below wr.heap.size wr wr.drew := (Below.refl _ _).drew
      refine wp_region_noPanic ?_
      refine wp_region_last 15 (fun W => W.cell? ⟨vb, vo + k * 3, none⟩ = some (.string yk) ∧ W.cell? ⟨vb, vo + k * 3 + 1, none⟩ = some (.slice yA yz.length yc)) (by kernel_rfl) (HSF.out _ hBd) (fun hHeld => ?_)
      refine wpAnyL_take 12 (i := 0) (oi := ⟨some 32, _, _, _, _, _⟩) (v := ?_) rfl (by kernel_rfl) (by kernel_rfl) (by kernel_rfl) (by kernel_rfl) (by kernel_rfl) (by kernel_rfl) (by kernel_rfl) (fun _ _ _ h => h) (Or.inl ⟨by rfl, ?_⟩) hHeld ?_
      rotate_left
      focus (intro w hSw; (try dsimp only at hSw); go_simp; try (with_reducible rfl))
      try simp only [Act.put, List.setIfInBounds_toArray, List.set_cons_zero, List.set_cons_succ]
      refine wpAnyL_take 12 (i := 1) (oi := ⟨some 33, _, _, _, _, _⟩) (v := ?_) rfl (by kernel_rfl) (by kernel_rfl) (by kernel_rfl) (by kernel_rfl) (by kernel_rfl) (by kernel_rfl) (by kernel_rfl) (fun _ _ _ h => h) (Or.inl ⟨by rfl, ?_⟩) hHeld ?_
      rotate_left
      focus (intro w hSw; (try dsimp only at hSw); go_simp; try (with_reducible rfl))
      try simp only [Act.put, List.setIfInBounds_toArray, List.set_cons_zero, List.set_cons_succ]
      refine wpAnyL_take 12 (i := 2) (oi := ⟨some 34, _, _, _, _, _⟩) (v := ?_) rfl (by kernel_rfl) (by kernel_rfl) (by kernel_rfl) (by kernel_rfl) (by kernel_rfl) (by kernel_rfl) (by kernel_rfl) (fun _ _ _ h => h) (Or.inl ⟨by rfl, ?_⟩) hHeld ?_
      rotate_left
      focus (intro w hSw; (try dsimp only at hSw); go_simp; try (with_reducible rfl))
      try simp only [Act.put, List.setIfInBounds_toArray, List.set_cons_zero, List.set_cons_succ]
      refine wpAnyL_take 12 (i := 3) (oi := ⟨some 35, _, _, _, _, _⟩) (v := ?_) rfl (by kernel_rfl) (by kernel_rfl) (by kernel_rfl) (by kernel_rfl) (by kernel_rfl) (by kernel_rfl) (by kernel_rfl) (fun _ _ _ h => h) (Or.inl ⟨by rfl, ?_⟩) hHeld ?_
      rotate_left
      focus (intro w hSw; (try dsimp only at hSw); go_simp; try (with_reducible rfl))
      try simp only [Act.put, List.setIfInBounds_toArray, List.set_cons_zero, List.set_cons_succ]
      refine wpAnyL_take 12 (i := 4) (oi := ⟨some 36, _, _, _, _, _⟩) (v := ?_) rfl (by kernel_rfl) (by kernel_rfl) (by kernel_rfl) (by kernel_rfl) (by kernel_rfl) (by kernel_rfl) (by kernel_rfl) (fun _ _ _ h => h) (Or.inl ⟨by rfl, ?_⟩) hHeld ?_
      rotate_left
      focus (intro w hSw; (try dsimp only at hSw); go_simp; try (with_reducible rfl))
      try simp only [Act.put, List.setIfInBounds_toArray, List.set_cons_zero, List.set_cons_succ]
      refine wpAnyL_take 12 (i := 5) (oi := ⟨some 37, _, _, _, _, _⟩) (v := ?_) rfl (by kernel_rfl) (by kernel_rfl) (by kernel_rfl) (by kernel_rfl) (by kernel_rfl) (by kernel_rfl) (by kernel_rfl) (fun _ _ _ h => h) (Or.inl ⟨by rfl, ?_⟩) hHeld ?_
      rotate_left
      focus (intro w hSw; (try dsimp only at hSw); go_simp; try (with_reducible rfl))
      try simp only [Act.put, List.setIfInBounds_toArray, List.set_cons_zero, List.set_cons_succ]
      refine wpAnyL_take 12 (i := 7) (oi := ⟨some 39, _, _, _, _, _⟩) (v := ?_) rfl (by kernel_rfl) (by kernel_rfl) (by kernel_rfl) (by kernel_rfl) (by kernel_rfl) (by kernel_rfl) (by kernel_rfl) (fun _ _ _ h => h) (Or.inl ⟨by rfl, ?_⟩) hHeld ?_
      rotate_left
      focus (intro w hSw; (try dsimp only at hSw); go_simp; try (with_reducible rfl))
      try simp only [Act.put, List.setIfInBounds_toArray, List.set_cons_zero, List.set_cons_succ]
      refine wpAnyL_take 12 (i := 8) (oi := ⟨some 40, _, _, _, _, _⟩) (v := ?_) rfl (by kernel_rfl) (by kernel_rfl) (by kernel_rfl) (by kernel_rfl) (by kernel_rfl) (by kernel_rfl) (by kernel_rfl) (fun _ _ _ h => h) (Or.inl ⟨by rfl, ?_⟩) hHeld ?_
      rotate_left
      focus (intro w hSw; (try dsimp only at hSw); go_simp; try (with_reducible rfl))
      try simp only [Act.put, List.setIfInBounds_toArray, List.set_cons_zero, List.set_cons_succ]
      refine wpAnyL_take 12 (i := 9) (oi := ⟨some 41, _, _, _, _, _⟩) (v := ?_) rfl (by kernel_rfl) (by kernel_rfl) (by kernel_rfl) (by kernel_rfl) (by kernel_rfl) (by kernel_rfl) (by kernel_rfl) (fun _ _ _ h => h) (Or.inl ⟨by rfl, ?_⟩) hHeld ?_
      rotate_left
      focus (intro w hSw; (try dsimp only at hSw); go_simp; try (with_reducible rfl))
      try simp only [Act.put, List.setIfInBounds_toArray, List.set_cons_zero, List.set_cons_succ]
      refine wpAnyL_take 12 (i := 10) (oi := ⟨some 42, _, _, _, _, _⟩) (v := ?_) rfl (by kernel_rfl) (by kernel_rfl) (by kernel_rfl) (by kernel_rfl) (by kernel_rfl) (by kernel_rfl) (by kernel_rfl) (fun _ _ _ h => h) (Or.inl ⟨by rfl, ?_⟩) hHeld ?_
      rotate_left
      focus (intro w hSw; (try dsimp only at hSw); go_simp; try (with_reducible rfl))
      try simp only [Act.put, List.setIfInBounds_toArray, List.set_cons_zero, List.set_cons_succ]
      refine wpAnyL_take 12 (i := 11) (oi := ⟨some 43, _, _, _, _, _⟩) (v := ?_) rfl (by kernel_rfl) (by kernel_rfl) (by kernel_rfl) (by kernel_rfl) (by kernel_rfl) (by kernel_rfl) (by kernel_rfl) (fun _ _ _ h => h) (Or.inl ⟨by rfl, ?_⟩) hHeld ?_
      rotate_left
      focus (intro w hSw; (try dsimp only at hSw); go_simp; try (with_reducible rfl))
      try simp only [Act.put, List.setIfInBounds_toArray, List.set_cons_zero, List.set_cons_succ]
      refine wpAnyL_one (i := 6) (o := ⟨some 38, _, _, _, _, _⟩) (by kernel_rfl) rfl (fun K hK => ?_)
      clear hHeld
      go_simp
      have hBa : Below wr.heap.size wr (wr.drew.alloc (.cells #[] 5)) := hBd.alloc (Nat.le_refl _) _
      have hno : (wr.drew.alloc (.cells #[] 5)).ownsRow wr.heap.size 5 1 (.slice (some ⟨wr.heap.size, 0, none⟩) 0 0) 0 [] := ⟨rfl, .inr ⟨_, _, #[], rfl, Nat.le_refl _, heap_alloc_new wr.drew _, Nat.le_refl _, by simp, rfl, rfl⟩⟩
      have HNO := Lib.hid hno
      clear hno
      go_wp2_with fail
      refine hK.out _ _ (HSF.out _ hBa) (fun hHeld => ?_)
      clear hK K
      try simp only [Act.put, List.setIfInBounds_toArray, List.set_cons_zero, List.set_cons_succ]
      refine wpAnyL_one (i := 12) (o := ⟨some 44, _, _, _, _, _⟩) (by kernel_rfl) rfl (fun K hK => ?_)
      clear hHeld
      refine step_append_rd (o := ⟨some 44, _, _, _, _, _⟩) (by rfl) _ _ 46 (by rfl) wr.heap.size 5 i1 (.int .u8 0) 1 Tryz.underlying46 hi1 hz10 hz11 hz12 rfl (.slice (some ⟨wr.heap.size, 0, none⟩) 0 0) 0 [] (by rfl) HNO.out yA yz.length yc (octCells yz) (by rfl) (octCells_length yz) (HYD.out.below hBa) HYN.out (octCells_one yz) (by unfold maxLen; omega) (by omega) hBa.size ?_
      intro v1 w8 ho8 hg8
      obtain ⟨A1, c1, rfl, _, _, _, _⟩ := own_any (own_bare ho8)
      have HO8 := Lib.hid (own_bare ho8)
      have hB8 : Below wr.heap.size wr w8 := hBa.grown hg8 (by simp) (fun j e => (HNO.out.lt j e).1)
      clear ho8 hg8
      refine hK.out _ _ (HSF.out _ hB8) (fun hHeld => ?_)
      clear hK K
      try simp only [Act.put, List.setIfInBounds_toArray, List.set_cons_zero, List.set_cons_succ]
      refine wpAnyL_take 12 (i := 13) (oi := ⟨some 45, _, _, _, _, _⟩) (v := ?_) rfl (by kernel_rfl) (by kernel_rfl) (by kernel_rfl) (by kernel_rfl) (by kernel_rfl) (by kernel_rfl) (by kernel_rfl) (fun _ _ _ h => h) (Or.inl ⟨by rfl, ?_⟩) hHeld ?_
      rotate_left
      focus (intro w hSw; (try dsimp only at hSw); go_simp; try (with_reducible rfl))
      try simp only [Act.put, List.setIfInBounds_toArray, List.set_cons_zero, List.set_cons_succ]
      refine wpAnyL_one (i := 14) (o := ⟨some 46, _, _, _, _, _⟩) (by kernel_rfl) rfl (fun K hK => ?_)
      clear hHeld
      go_simp
      have hBc : Below wr.heap.size wr (w8.alloc (.cells #[.string yk, .slice A1 yz.length c1, .slice none 0 0] 58)) := hB8.alloc hB8.size _
      have HOC := Lib.hid (own_below3 HO8.out ((Below.refl _ w8).alloc (Nat.le_refl _) (.cells #[.string yk, .slice A1 yz.length c1, .slice none 0 0] 58)) (Nat.le_refl _))
      go_wp2_with fail
      refine hK.out _ _ (HSF.out _ hBc) (fun hHeld => ?_)
      clear hK K
      try simp only [Act.put, List.setIfInBounds_toArray, List.set_cons_zero, List.set_cons_succ]
      refine wpAnyL_last (i := 15) (o := ⟨some 47, _, _, _, _, _⟩) (by kernel_rfl) rfl (by kernel_rfl) (fun K hK => ?_)
      clear hHeld
      refine step_append_lies (o := ⟨some 47, _, _, _, _, _⟩) _ (by rfl) _ _ 22 (by rfl) w4.heap.size 58 i0 (.agg #[.string ByteArray.empty, .slice none 0 0, .slice none 0 0]) 3 64 Tryz.underlying22 hi hz0 hz1 hz2 rfl (by omega) (.slice Av zs.length cv) zs.length (obCells zs) (by rfl) (own_below3 HRW.out hBc (Nat.le_refl _)) ⟨w8.heap.size, 0, none⟩ 1 1 [.string yk, .slice A1 yz.length c1, .slice none 0 0] (by rfl) rfl (news_new _ _ _) (by simp [Value.oneCell']) (by omega) (by unfold maxLen; omega) (by omega) (by have := hBc.size; simp at *; omega) _ rfl ?_
      intro g6 c6 w10 ho6 hg6 _ _
      have HJ10 := Lib.hid (HPU.out _ _ _ _ _ hBc HOC.out ho6 hg6)
      clear ho6 hg6
      refine hK.out _ _ ?_
      clear hK K
      try simp only [Act.put, List.setIfInBounds_toArray, List.set_cons_zero, List.set_cons_succ]
      refine wpAnyL_takeW (i := 16) (oi := ⟨some 7, _, _, _, _, _⟩) (v := ?_) rfl (by kernel_rfl) (by kernel_rfl) (by kernel_rfl) (by kernel_rfl) (fun _ _ _ h => h) (Or.inl ⟨by rfl, ?_⟩) (.inl (by kernel_rfl)) ?_
      rotate_left
      focus (intro w hSw; (try dsimp only at hSw); go_simp; try (with_reducible rfl))
      try simp only [Act.put, List.setIfInBounds_toArray, List.set_cons_zero, List.set_cons_succ]
      refine wpAnyL_done (by kernel_rfl) ?_ _
      refine NoPanic.normal ?_
      go_wp2
      go_roundw
      case rel => exact ⟨k + 1, _, by omega, by go_num, HJ10⟩
      case measure => simp [intOf]; omega
    · obtain rfl : k = ys.length := by omega
      have HNS : Hid (∀ y ∈ ys, y.ns = []) := Lib.hid fun y hy => (HGL.out.mem y hy).2.1
      have HKD : Hid (zs.map kd = ys.map kd) := Lib.hid (by
        have := HJ.out.kd
        rw [List.take_length] at this
        exact this)
      have hBr := HJ.out.out
      have hB3r : Below w3.heap.size w3 wr := hB4.trans (hBr.mono hB4.size)
      have HCM := Lib.hid (commit_own (newSt E) Av cv zs wr ((Up.of_new (HN.out.below hB3r)).mono (Nat.zero_le _)) (show (2 : Int) < 1099511627776 by decide) (inj_in HJ.out rfl HNS.out HIN.out))
      obtain ⟨r0, r1, r2, r3, r4, r5, r6⟩ := blk7 (HKS.out.below hB3r hlt3)
      go_wp2_with fail
      refine HCM.out.mono ?_
      rintro e w6 ⟨T, x, av, rfl, hT, hB6⟩
      obtain ⟨w7, hw7⟩ : ∃ w7, w6.alloc (.cells #[.slice T.dev.A T.dev.ps.length T.dev.c, .slice T.dev.B T.dev.ws.length T.dev.d, .int .i64 T.u.t, .int .i64 T.u.f, .int .i64 T.u.o, .slice T.O T.os.length T.oc, .slice T.I T.is.length T.ic] 32) = w7 := ⟨_, rfl⟩
      have hB67 : Below w6.heap.size w6 w7 := hw7 ▸ (Below.refl _ w6).alloc (Nat.le_refl _) _
      have kt : Blk w7 w6.heap.size 32 [.slice T.dev.A T.dev.ps.length T.dev.c, .slice T.dev.B T.dev.ws.length T.dev.d, .int .i64 T.u.t, .int .i64 T.u.f, .int .i64 T.u.o, .slice T.O T.os.length T.oc, .slice T.I T.is.length T.ic] := hw7 ▸ Blk.new w6 _ _
      have hBr7 : Below wr.heap.size wr w7 := hB6.trans (hB67.mono hB6.size)
      have HT : Hid (x = 17 ∨ (x = 0 ∧ Up wr.heap.size w7 T ∧ T.os.map kd = zs.map kd)) := Lib.hid (by
        rcases hT with h | ⟨h1, h2, h3⟩
        · exact .inl h
        · exact .inr ⟨h1, h2.below hB67, h3⟩)
      have HW7 := Lib.hid hw7
      have HKT := Lib.hid kt
      have hrs := hBr7.size
      have hr4 := hBr.size
      have HLT : Hid (∀ z ∈ zs, ∀ b, z.d.val.ownBlock = some b → w4.heap.size ≤ b ∧ b < wr.heap.size) := Lib.hid fun z hz b hb => (HJ.out.data z hz).lt b hb
      have HAP := Lib.hid HJ.out.apart
      have HS7 : Hid (SpJ w4.heap.size wr.heap.size w7 (.slice Av zs.length cv) zs 0 w7) := Lib.hid ⟨own_below3 HJ.out.row hBr7 (Nat.le_refl _), fun j z _ hz => own_below3 (HJ.out.data z (List.mem_of_getElem? hz)) hBr7 (Nat.le_refl _), Out.refl _ _ _ _⟩
      have HZO : Hid (∀ z ∈ zs, Octs z.d.zs ∧ z.d.zs.length ≤ 140737488351232) := Lib.hid fun z hz => by
        have := (inj_in HJ.out rfl HNS.out HIN.out).fits z hz
        exact ⟨this.octs, this.d⟩
      have hzl : zs.length ≤ 6 := by have := HJ.out.len; omega
      clear hw7 kt hT HCM r0 r1 r2 r3 r4 r5 r6 hrv
      go_wp2_with fail
      rw [HW7.out]
      go_loopw [12] (fun i W => ∃ k : Nat, k ≤ zs.length ∧ i = .int .i64 k ∧ Hid (SpJ w4.heap.size wr.heap.size w7 (.slice Av zs.length cv) zs k W)) (fun i _ => zs.length - (intOf i).toNat)
      case atStart => exact ⟨0, Nat.zero_le _, rfl, HS7⟩
      case round =>
        obtain ⟨k, hk, rfl, HJ2⟩ := hrel
        by_cases hlt : k < zs.length
        · obtain ⟨z, hz⟩ : ∃ z, zs[k]? = some z := ⟨_, List.getElem?_eq_getElem hlt⟩
          obtain ⟨vb, vo, rfl, hvb, _, hk1, _⟩ := (RdF.of_own HJ2.out.row).1.ob hz
          have hzm := List.mem_of_getElem? hz
          have HSP := Lib.hid (spoil_any w4.heap.size z.d.zs.length z.d.val (octCells z.d.zs) wr (HJ2.out.left k z (Nat.le_refl _) hz) (octv_cells (HZO.out z hzm).1) (by have := (HZO.out z hzm).2; omega))
          have HST := Lib.hid (fun W' (hg : wr.grownBy W' z.d.val.ownBlock) => HJ2.out.step hz HAP.out (HLT.out z hzm) hrs hg)
          clear hz hzm
          obtain ⟨zk, ⟨zA, zz, zc⟩, zB, zn, ze⟩ := z
          dsimp only at *
          go_wp2_with fail
          refine HSP.out.mono ?_
          rintro e w8 ⟨⟨r, rfl⟩, hg⟩
          have HJ8 := Lib.hid (HST.out w8 hg)
          clear hg
          go_wp2
          go_roundw
          case rel => exact ⟨k + 1, by omega, by go_num, HJ8⟩
          case measure => simp [intOf]; omega
        · obtain rfl : k = zs.length := by omega
          have hO := HJ2.out.out
          have hhi := hrs
          have h67 : _ ≤ w6.heap.size := hB6.size
          have hB47 : Below w4.heap.size w4 w7 := hBr.trans (hBr7.mono hr4)
          have hB4w : Below w4.heap.size w4 wr := hB47.trans (hO.below (by omega) (Nat.le_refl _))
          have hB3w : Below w3.heap.size w3 wr := hB4.trans (hB4w.mono hB4.size)
          have hB0w : Below w.heap.size w wr := hB03.trans (hB3w.mono hB03.size)
          have HKTw : Hid (Blk wr w6.heap.size 32 [.slice T.dev.A T.dev.ps.length T.dev.c, .slice T.dev.B T.dev.ws.length T.dev.d, .int .i64 T.u.t, .int .i64 T.u.f, .int .i64 T.u.o, .slice T.O T.os.length T.oc, .slice T.I T.is.length T.ic]) := Lib.hid ((hO.block _ HKT.out.lt (.inr h67)).trans HKT.out)
          have HKSw := Lib.hid (HKS.out.below hB3w hlt3)
          have HTw : Hid (x = 17 ∨ (x = 0 ∧ Up 0 wr T ∧ T.os.map kd = ys.map kd)) := Lib.hid (by
            rcases HT.out with h | ⟨h1, h2, h3⟩
            · exact .inl h
            · exact .inr ⟨h1, ⟨(h2.lies.stays hO.size fun j g1 g2 => hO.block j g2 (.inr g1)).mono (Nat.zero_le _), h2.fits, h2.st⟩, h3.trans HKD.out⟩)
          have HRVw : Hid (Rd wr V (obCells ys)) := Lib.hid (HRV.out.1.below hB4w)
          have HDw : Hid (∀ y ∈ ys, Rd wr y.d.A (octCells y.d.zs)) := Lib.hid fun y hy => (HIN.out.data y hy).below hB4w
          have HNw := Lib.hid ((Up.of_new (HN.out.below hB3w)).mono (Nat.zero_le _))
          obtain ⟨q0, q1, q2, q3, q4, q5, q6⟩ := blk7 HKSw.out
          obtain ⟨t0, t1, t2, t3, t4, t5, t6⟩ := blk7 HKTw.out
          have hltT := HKTw.out.lt
          have hltS := HKSw.out.lt
          have hx := HTw.out
          clear hO hB47 HJ2 HS7 HT HKT HAP HLT HZO HW7 hBr7 hB67 hB6 hBr hB3r HJ hB4 hB4w HKS HN HRV hhi h67 hrs hr4
          rcases hx with rfl | ⟨rfl, hU, hkd⟩
          · go_wp2_with (go_at_call 12; refine (num10_any _ _).mono ?_; rintro e w9 ⟨rfl, rfl⟩)
            go_ret
            exact ⟨rfl, hB0w⟩
          · have HU := Lib.hid hU
            have HK := Lib.hid hkd
            clear hU hkd
            go_wp2_with (go_at_call 12; refine (num10_any _ _).mono ?_; rintro e wL ⟨rfl, rfl⟩)
            have HW0 : Hid (T.Lies 0 wL) := Lib.hid HU.out.lies
            clear HTw
            go_loopw [13] (fun i W => ∃ k : Nat, k ≤ ys.length ∧ i = .int .i64 k ∧ Below wL.heap.size wL W) (fun i _ => ys.length - (intOf i).toNat)
            case atStart => exact ⟨0, Nat.zero_le _, rfl, Below.refl _ _⟩
            case round =>
              obtain ⟨k, hk, rfl, hBl⟩ := hrel
              by_cases hlt : k < ys.length
              · obtain ⟨y, hy⟩ : ∃ y, ys[k]? = some y := ⟨_, List.getElem?_eq_getElem hlt⟩
                obtain ⟨vb, vo, rfl, hvb, hk0, _, _⟩ := (HRVw.out.below hBl).ob hy
                have hkl : (k : Int) < ys.length := by omega
                have HKTr := Lib.hid (HKTw.out.below hBl hltT)
                have HSF : Hid (∀ W', Below wr.heap.size wr W' → (W'.cell? ⟨w6.heap.size, 0, none⟩ = some (.slice T.dev.A T.dev.ps.length T.dev.c) ∧ W'.cell? ⟨w6.heap.size, 1, none⟩ = some (.slice T.dev.B T.dev.ws.length T.dev.d) ∧ W'.cell? ⟨w6.heap.size, 2, none⟩ = some (.int .i64 T.u.t) ∧ W'.cell? ⟨w6.heap.size, 3, none⟩ = some (.int .i64 T.u.f) ∧ W'.cell? ⟨w6.heap.size, 4, none⟩ = some (.int .i64 T.u.o) ∧ W'.cell? ⟨w6.heap.size, 5, none⟩ = some (.slice T.O T.os.length T.oc) ∧ W'.cell? ⟨w6.heap.size, 6, none⟩ = some (.slice T.I T.is.length T.ic)) ∧ W'.cell? ⟨vb, vo + k * 3, none⟩ = some (.string y.key)) := Lib.hid fun W' hB => ⟨blk7 (HKTr.out.below hB HKTr.out.lt), (hB.cell (p := ⟨vb, vo + k * 3, none⟩) hvb).trans hk0⟩
                have HGT := Lib.hid (fun W' (hB : Below wr.heap.size wr W') => get_own T HU.out.fits y.key W' ((HW0.out.below hBl).below hB))
                have hBd : Below wr.heap.size wr wr.drew := (Below.refl _ _).drew
                clear hk0 hy t0 t1 t2 t3 t4 t5 t6
                obtain ⟨yk, yd, yB, yn, ye⟩ := y
                dsimp only at *
                go_wp2_with fail
                refine wp_region_noPanic ?_
                refine wp_region_last 6 (fun W' => (W'.cell? ⟨w6.heap.size, 0, none⟩ = some (.slice T.dev.A T.dev.ps.length T.dev.c) ∧ W'.cell? ⟨w6.heap.size, 1, none⟩ = some (.slice T.dev.B T.dev.ws.length T.dev.d) ∧ W'.cell? ⟨w6.heap.size, 2, none⟩ = some (.int .i64 T.u.t) ∧ W'.cell? ⟨w6.heap.size, 3, none⟩ = some (.int .i64 T.u.f) ∧ W'.cell? ⟨w6.heap.size, 4, none⟩ = some (.int .i64 T.u.o) ∧ W'.cell? ⟨w6.heap.size, 5, none⟩ = some (.slice T.O T.os.length T.oc) ∧ W'.cell? ⟨w6.heap.size, 6, none⟩ = some (.slice T.I T.is.length T.ic)) ∧ W'.cell? ⟨vb, vo + k * 3, none⟩ = some (.string yk)) (by kernel_rfl) (HSF.out _ hBd) (fun hHeld => ?_)
                refine wpAnyL_take 12 (i := 0) (oi := ⟨some 81, _, _, _, _, _⟩) (v := ?_) rfl (by kernel_rfl) (by kernel_rfl) (by kernel_rfl) (by kernel_rfl) (by kernel_rfl) (by kernel_rfl) (by kernel_rfl) (fun _ _ _ h => h) (Or.inl ⟨by rfl, ?_⟩) hHeld ?_
                rotate_left
                focus (intro w hSw; (try dsimp only at hSw); go_simp; try (with_reducible rfl))
                try simp only [Act.put, List.setIfInBounds_toArray, List.set_cons_zero, List.set_cons_succ]
                refine wpAnyL_take 12 (i := 1) (oi := ⟨some 82, _, _, _, _, _⟩) (v := ?_) rfl (by kernel_rfl) (by kernel_rfl) (by kernel_rfl) (by kernel_rfl) (by kernel_rfl) (by kernel_rfl) (by kernel_rfl) (fun _ _ _ h => h) (Or.inl ⟨by rfl, ?_⟩) hHeld ?_
                rotate_left
                focus (intro w hSw; (try dsimp only at hSw); go_simp; try (with_reducible rfl))
                try simp only [Act.put, List.setIfInBounds_toArray, List.set_cons_zero, List.set_cons_succ]
                refine wpAnyL_take 12 (i := 2) (oi := ⟨some 83, _, _, _, _, _⟩) (v := ?_) rfl (by kernel_rfl) (by kernel_rfl) (by kernel_rfl) (by kernel_rfl) (by kernel_rfl) (by kernel_rfl) (by kernel_rfl) (fun _ _ _ h => h) (Or.inl ⟨by rfl, ?_⟩) hHeld ?_
                rotate_left
                focus (intro w hSw; (try dsimp only at hSw); go_simp; try (with_reducible rfl))
                try simp only [Act.put, List.setIfInBounds_toArray, List.set_cons_zero, List.set_cons_succ]
                refine wpAnyL_take 12 (i := 3) (oi := ⟨some 84, _, _, _, _, _⟩) (v := ?_) rfl (by kernel_rfl) (by kernel_rfl) (by kernel_rfl) (by kernel_rfl) (by kernel_rfl) (by kernel_rfl) (by kernel_rfl) (fun _ _ _ h => h) (Or.inl ⟨by rfl, ?_⟩) hHeld ?_
                rotate_left
                focus (intro w hSw; (try dsimp only at hSw); go_simp; try (with_reducible rfl))
                try simp only [Act.put, List.setIfInBounds_toArray, List.set_cons_zero, List.set_cons_succ]
                refine wpAnyL_take 12 (i := 4) (oi := ⟨some 85, _, _, _, _, _⟩) (v := ?_) rfl (by kernel_rfl) (by kernel_rfl) (by kernel_rfl) (by kernel_rfl) (by kernel_rfl) (by kernel_rfl) (by kernel_rfl) (fun _ _ _ h => h) (Or.inl ⟨by rfl, ?_⟩) hHeld ?_
                rotate_left
                focus (intro w hSw; (try dsimp only at hSw); go_simp; try (with_reducible rfl))
                try simp only [Act.put, List.setIfInBounds_toArray, List.set_cons_zero, List.set_cons_succ]
                refine wpAnyL_take 12 (i := 5) (oi := ⟨some 86, _, _, _, _, _⟩) (v := ?_) rfl (by kernel_rfl) (by kernel_rfl) (by kernel_rfl) (by kernel_rfl) (by kernel_rfl) (by kernel_rfl) (by kernel_rfl) (fun _ _ _ h => h) (Or.inl ⟨by rfl, ?_⟩) hHeld ?_
                rotate_left
                focus (intro w hSw; (try dsimp only at hSw); go_simp; try (with_reducible rfl))
                try simp only [Act.put, List.setIfInBounds_toArray, List.set_cons_zero, List.set_cons_succ]
                refine wpAnyL_last (i := 6) (o := ⟨some 87, _, _, _, _, _⟩) (by kernel_rfl) rfl (by kernel_rfl) (fun K hK => ?_)
                clear hHeld
                go_simp
                refine (HGT.out _ hBd).mono ?_
                rintro e w8 ⟨gv, gb, rfl, ⟨gn, gx, ho8, hov, hgn⟩, hB8⟩
                have hB9 : Below wr.heap.size wr w8 := hBd.trans hB8
                have HSP := Lib.hid (spoil_any _ gn gv gx w8 ho8 hov hgn)
                have HO8 := Lib.hid ho8
                clear ho8 hov
                go_wp2_with fail
                refine hK.out _ _ ?_
                clear hK K
                try simp only [Act.put, List.setIfInBounds_toArray, List.set_cons_zero, List.set_cons_succ]
                refine wpAnyL_takeW (i := 7) (oi := ⟨some 80, _, _, _, _, _⟩) (v := ?_) rfl (by kernel_rfl) (by kernel_rfl) (by kernel_rfl) (by kernel_rfl) (fun _ _ _ h => h) (Or.inl ⟨by rfl, ?_⟩) (.inl (by kernel_rfl)) ?_
                rotate_left
                focus (intro w hSw; (try dsimp only at hSw); go_simp; try (with_reducible rfl))
                try simp only [Act.put, List.setIfInBounds_toArray, List.set_cons_zero, List.set_cons_succ]
                refine wpAnyL_takeW (i := 8) (oi := ⟨some 88, _, _, _, _, _⟩) (v := ?_) rfl (by kernel_rfl) (by kernel_rfl) (by kernel_rfl) (by kernel_rfl) (fun _ _ _ h => h) (Or.inl ⟨by rfl, ?_⟩) (.inl (by kernel_rfl)) ?_
                rotate_left
                focus (intro w hSw; (try dsimp only at hSw); go_simp; try (with_reducible rfl))
                try simp only [Act.put, List.setIfInBounds_toArray, List.set_cons_zero, List.set_cons_succ]
                refine wpAnyL_takeW (i := 9) (oi := ⟨some 89, _, _, _, _, _⟩) (v := ?_) rfl (by kernel_rfl) (by kernel_rfl) (by kernel_rfl) (by kernel_rfl) (fun _ _ _ h => h) (Or.inl ⟨by rfl, ?_⟩) (.inl (by kernel_rfl)) ?_
                rotate_left
                focus (intro w hSw; (try dsimp only at hSw); go_simp; try (with_reducible rfl))
                try simp only [Act.put, List.setIfInBounds_toArray, List.set_cons_zero, List.set_cons_succ]
                refine wpAnyL_takeW (i := 10) (oi := ⟨some 14, _, _, _, _, _⟩) (v := ?_) rfl (by kernel_rfl) (by kernel_rfl) (by kernel_rfl) (by kernel_rfl) (fun _ _ _ h => h) (Or.inl ⟨by rfl, ?_⟩) (.inl (by kernel_rfl)) ?_
                rotate_left
                focus (intro w hSw; (try dsimp only at hSw); go_simp; try (with_reducible rfl))
                try simp only [Act.put, List.setIfInBounds_toArray, List.set_cons_zero, List.set_cons_succ]
                refine wpAnyL_takeW (i := 11) (oi := ⟨some 15, _, _, _, _, _⟩) (v := ?_) rfl (by kernel_rfl) (by kernel_rfl) (by kernel_rfl) (by kernel_rfl) (fun _ _ _ h => h) (Or.inl ⟨by rfl, ?_⟩) (.inl (by kernel_rfl)) ?_
                rotate_left
                focus (intro w hSw; (try dsimp only at hSw); go_simp; try (with_reducible rfl))
                try simp only [Act.put, List.setIfInBounds_toArray, List.set_cons_zero, List.set_cons_succ]
                refine wpAnyL_done (by kernel_rfl) ?_ _
                refine NoPanic.normal ?_
                go_wp2_with fail
                refine HSP.out.mono ?_
                rintro e w9 ⟨⟨r, rfl⟩, hg⟩
                have hB10 : Below wL.heap.size wL w9 := (hBl.trans (hB9.mono hBl.size)).grown hg (by have := hBl.size; have := hB9.size; omega) (fun j e => by have := (HO8.out.lt j e).1; have := hBl.size; have : wr.drew.heap.size = wr.heap.size := rfl; omega)
                clear hg
                go_wp2
                go_roundw
                case rel => exact ⟨k + 1, by omega, by go_num, hB10⟩
                case measure => simp [intOf]; omega
              · obtain rfl : k = ys.length := by omega
                have HHS := Lib.hid (has10_any T HU.out.fits V vc ys (by omega) wr (HW0.out.below hBl) (HRVw.out.below hBl) (fun y hy => (HDw.out y hy).below hBl))
                obtain ⟨t0, t1, t2, t3, t4, t5, t6⟩ := blk7 (HKTw.out.below hBl hltT)
                have HKSr := Lib.hid (HKSw.out.below hBl hltS)
                clear q0 q1 q2 q3 q4 q5 q6
                go_wp2_with fail
                refine HHS.out.mono ?_
                rintro e w8 ⟨b, rfl, hb, hB8⟩
                obtain rfl : b = true := hb HK.out
                obtain ⟨q0, q1, q2, q3, q4, q5, q6⟩ := blk7 (HKSr.out.below hB8 HKSr.out.lt)
                have hB08 : Below w.heap.size w w8 := (hB0w.trans (hBl.mono hB0w.size)).trans (hB8.mono (by have := hB0w.size; have := hBl.size; omega))
                have HCK := Lib.hid (storeCheck_any (newSt E) HNw.out.fits w8 ((HNw.out.lies.below hBl).below hB8))
                clear hb t0 t1 t2 t3 t4 t5 t6
                go_wp2_with fail
                refine HCK.out.mono ?_
                rintro e w9 ⟨r, rfl, hr, hB9⟩
                obtain rfl : r = 0 := by
                  rcases hr with h | h
                  · exact h.1
                  · exact absurd HNw.out.st.ok h.2
                clear hr
                go_wp2
                go_ret
                exact ⟨rfl, hB08.trans (hB9.mono hB08.size)⟩

end Go.Proofs.YtfeeejigedndcaaGreat

namespace Go.Proofs.YtfeeejigedndcaaGreat
open Go.ChangeShapes Go.WideShapes Go.ChangeAt Go.RowKit
set_option maxRecDepth 100000

theorem less_not (a b : ByteArray) : (!(Op.bytesLess b.toList a.toList || b.toList == a.toList)) = Op.bytesLess a.toList b.toList := by
  rcases h : Op.bytesLess a.toList b.toList with _ | _
  · rcases h2 : (Op.bytesLess b.toList a.toList || b.toList == a.toList) with _ | _
    · have : ltK a b := ltK_iff.2 h2
      unfold ltK at this
      rw [h] at this
      cases this
    · rfl
  · rw [ltK_iff.1 h]
    rfl
theorem riseK_last : ∀ (ks : List ByteArray) (last x : ByteArray), riseK last (ks ++ [x]) = (riseK last ks && (Op.bytesLess (ks.getLastD last).toList x.toList && decide (x.size ≤ 96)))
  | [], last, x => by
    show (!(Op.bytesLess x.toList last.toList || x.toList == last.toList) && (decide (x.size ≤ 96) && true)) = _
    rw [less_not]
    simp [riseK]
  | k :: ks, last, x => by
    have ih := riseK_last ks k x
    have e : riseK last (k :: ks ++ [x]) = (!(Op.bytesLess k.toList last.toList || k.toList == last.toList) && (decide (k.size ≤ 96) && riseK k (ks ++ [x]))) := rfl
    have e2 : riseK last (k :: ks) = (!(Op.bytesLess k.toList last.toList || k.toList == last.toList) && (decide (k.size ≤ 96) && riseK k ks)) := rfl
    rw [e, e2, ih, List.getLastD_cons]
    simp only [Bool.and_assoc]
theorem less_empty (a x : ByteArray) (h : (x.toList == ([] : List UInt8)) = true) : Op.bytesLess a.toList x.toList = false := by
  have h1 : x.toList = [] := by simpa using h
  rw [h1]
  rcases a.toList with _ | ⟨_, _⟩ <;> rfl

/-- What a commit to any store answers, as the law looks at it. -/
structure RefT (s : PS) (lp : List PO) (T : St) (n : Nat) (x : Int) : Prop where
  bad : ¬ s.ok → x = 9 ∧ n = 0
  err : s.ok → objE lp ≠ 0 → x = objE lp ∧ n = 0 ∧ T.os.length = 0
  ok : s.ok → objE lp = 0 → (x ≠ 0 ∧ n = 0 ∧ T.os.length = 0) ∨ (x = 0 ∧ T.os.length = lp.length)
theorem commit_ref (s : St) (A : Option Addr) (c : Nat) (ls : List Ob) (w : World) (hS : StCame w s) (hI : ObsIn w A c ls) :
    Calls Tryz.prog 11 #[s.val, .slice A ls.length c] w fun e w' => ∃ (T : St) (A' : Option Addr) (n c' : Nat) (x : Int), e = .returned (.tuple #[T.val, .slice A' n c', .int .i64 x]) ∧ RefT s.st (ls.map Ob.st) T n x ∧ Below w.heap.size w w' := by
  refine (commitTop_any s hS.fits A c ls (by have := hI.len; omega) hI.fits w hS.lies hI.rd fun o ho => (hI.came o ho).data).mono ?_
  rintro e w' ⟨⟨x, hx, rfl⟩ | ⟨h1, h2, U, A', c', l, rfl, hcm, _⟩, hB⟩
  · refine ⟨st0, none, 0, 0, x, rfl, ⟨fun h => ?_, fun h h' => ?_, fun h h' => .inl ?_⟩, hB⟩
    · rcases hx with ⟨_, g⟩ | ⟨g, _⟩ | ⟨g, _⟩
      · exact ⟨g, rfl⟩
      · exact absurd g h
      · exact absurd g h
    · rcases hx with ⟨g, _⟩ | ⟨_, _, g⟩ | ⟨_, g, _⟩
      · exact absurd h g
      · exact ⟨g, rfl, rfl⟩
      · exact absurd g h'
    · rcases hx with ⟨g, _⟩ | ⟨_, g, _⟩ | ⟨_, _, ⟨_, g⟩ | ⟨_, g⟩ | ⟨_, g⟩⟩
      · exact absurd h g
      · exact absurd h' g
      · exact ⟨by omega, rfl, rfl⟩
      · exact ⟨by omega, rfl, rfl⟩
      · exact ⟨by omega, rfl, rfl⟩
  · obtain ⟨⟨fr, pl, wi, hP, _⟩, _⟩ := hcm
    have hl := hP.length
    refine ⟨U, A', l.length, c', 0, rfl, ⟨fun h => absurd h1 h, fun _ h => absurd h2 h, fun _ _ => .inr ⟨rfl, ?_⟩⟩, hB⟩
    rw [← hl]
    simp [St.st]
theorem objE_long {l : List PO} (h : 256 < l.length) : objE l = 3 := by unfold objE; rw [if_pos h]
theorem objE_rise {l : List PO} (h : ¬ 256 < l.length) (hr : riseK ByteArray.empty (l.map (·.key)) = false) : objE l = 31 := by unfold objE; rw [if_neg h, if_pos hr]
theorem objE_else {l : List PO} (h : ¬ 256 < l.length) (hr : riseK ByteArray.empty (l.map (·.key)) = true) : objE l = 0 ∨ objE l = 5 := by
  unfold objE
  rw [if_neg h, if_neg (by rw [hr]; decide)]
  split
  · exact .inl rfl
  · exact .inr rfl

set_option maxHeartbeats 4000000 in
theorem refuses10_walk (s : St) (A : Option Addr) (c : Nat) (ls : List Ob) (w : World) (hS : StCame w s) (hI : ObsIn w A c ls) :
    Calls Tryz.prog 5 #[s.val, .slice A ls.length c] w fun e w' => e = .returned (.bool true) ∧ Below w.heap.size w w' := by
  have HI := Lib.hid hI
  have HS := Lib.hid hS
  have hll := hI.len
  obtain ⟨w1, hw1⟩ : ∃ w1, w.alloc (.cells #[.slice s.dev.A s.dev.ps.length s.dev.c, .slice s.dev.B s.dev.ws.length s.dev.d, .int .i64 s.u.t, .int .i64 s.u.f, .int .i64 s.u.o, .slice s.O s.os.length s.oc, .slice s.I s.is.length s.ic] 32) = w1 := ⟨_, rfl⟩
  have hB1 : Below w.heap.size w w1 := hw1 ▸ (Below.refl _ w).alloc (Nat.le_refl _) _
  have ks : Blk w1 w.heap.size 32 [.slice s.dev.A s.dev.ps.length s.dev.c, .slice s.dev.B s.dev.ws.length s.dev.d, .int .i64 s.u.t, .int .i64 s.u.f, .int .i64 s.u.o, .slice s.O s.os.length s.oc, .slice s.I s.is.length s.ic] := hw1 ▸ Blk.new w _ _
  have HKS := Lib.hid ks
  have hlt1 := ks.lt
  have HAL := Lib.hid (alive10_any w1)
  have HW1 := Lib.hid hw1
  clear hw1 ks hI hS
  go_enter Tryz.func5, Tryz.ntmps5
  go_wp2_with fail
  rw [HW1.out]
  refine HAL.out.mono ?_
  rintro e w2 ⟨rfl, hB2⟩
  have hB02 : Below w.heap.size w w2 := hB1.trans (hB2.mono hB1.size)
  have HKS2 := Lib.hid (HKS.out.below hB2 hlt1)
  obtain ⟨q0, q1, q2, q3, q4, q5, q6⟩ := blk7 HKS2.out
  have HCM := Lib.hid (commit_ref s A c ls w2 ⟨HS.out.lies.below hB02, HS.out.fits⟩ (HI.out.below hB02))
  clear HAL
  go_wp2_with fail
  refine HCM.out.mono ?_
  rintro e w3 ⟨T, A', n, c', x, rfl, hT, hB3⟩
  have HT := Lib.hid hT
  obtain ⟨w4, hw4⟩ : ∃ w4, w3.alloc (.cells #[.slice T.dev.A T.dev.ps.length T.dev.c, .slice T.dev.B T.dev.ws.length T.dev.d, .int .i64 T.u.t, .int .i64 T.u.f, .int .i64 T.u.o, .slice T.O T.os.length T.oc, .slice T.I T.is.length T.ic] 32) = w4 := ⟨_, rfl⟩
  have hB34 : Below w3.heap.size w3 w4 := hw4 ▸ (Below.refl _ w3).alloc (Nat.le_refl _) _
  have kt : Blk w4 w3.heap.size 32 [.slice T.dev.A T.dev.ps.length T.dev.c, .slice T.dev.B T.dev.ws.length T.dev.d, .int .i64 T.u.t, .int .i64 T.u.f, .int .i64 T.u.o, .slice T.O T.os.length T.oc, .slice T.I T.is.length T.ic] := hw4 ▸ Blk.new w3 _ _
  have hB24 : Below w2.heap.size w2 w4 := hB3.trans (hB34.mono hB3.size)
  have hB04 : Below w.heap.size w w4 := hB02.trans (hB24.mono hB02.size)
  have HKT := Lib.hid kt
  have hlt4 := kt.lt
  have HKS4 := Lib.hid (HKS2.out.below hB24 HKS2.out.lt)
  have HCK := Lib.hid (storeCheck_any s HS.out.fits w4 (HS.out.lies.below hB04))
  have HW4 := Lib.hid hw4
  obtain ⟨p0, p1, p2, p3, p4, p5, p6⟩ := blk7 HKS4.out
  clear hw4 kt hT HCM q0 q1 q2 q3 q4 q5 q6
  go_upto_region 4 with fail
  rw [HW4.out]
  go_wp2_with fail
  refine HCK.out.mono ?_
  rintro e w5 ⟨r, rfl, hr, hB5⟩
  have hB05 : Below w.heap.size w w5 := hB04.trans (hB5.mono hB04.size)
  have HKT5 := Lib.hid (HKT.out.below hB5 hlt4)
  have hlt5 := HKT5.out.lt
  obtain ⟨t0, t1, t2, t3, t4, t5, t6⟩ := blk7 HKT5.out
  clear p0 p1 p2 p3 p4 p5 p6 HCK
  have hr9 : r = 9 ∧ ¬ s.st.ok ∨ r = 0 ∧ s.st.ok := hr.symm.imp_right id
  clear hr
  rcases hr9 with ⟨rfl, hno⟩ | ⟨rfl, hok⟩
  · obtain ⟨rfl, rfl⟩ := HT.out.bad hno
    go_wp2
    go_ret
    exact ⟨rfl, hB05⟩
  have HOK := Lib.hid hok
  clear hok
  go_wp2_with fail
  go_loopw [8, 9] (fun b i W => ∃ (k : Nat) (rb : Bool), k ≤ ls.length ∧ i = .int .i64 k ∧ b = .bool rb ∧ Hid (riseK ByteArray.empty ((ls.take k).map (·.key)) = rb) ∧ Below w5.heap.size w5 W) (fun _ i _ => ls.length - (intOf i).toNat)
  case atStart => exact ⟨0, true, Nat.zero_le _, rfl, rfl, Lib.hid rfl, Below.refl _ _⟩
  case round =>
    obtain ⟨k, rb, hk, rfl, rfl, HR, hBr⟩ := hrel
    by_cases hlt : k < ls.length
    · obtain ⟨y, hy⟩ : ∃ y, ls[k]? = some y := ⟨_, List.getElem?_eq_getElem hlt⟩
      have hBw : Below w.heap.size w wr := hB05.trans (hBr.mono hB05.size)
      obtain ⟨vb, vo, rfl, hvb, hk0, _, _⟩ := ((HI.out.below hBw).rd).ob hy
      have hkl : (k : Int) < ls.length := by omega
      have hks : y.key.size ≤ maxLen := (HI.out.fits y (List.mem_of_getElem? hy)).1
      unfold maxLen at hks
      have HNX : Hid (riseK ByteArray.empty ((ls.take (k + 1)).map (·.key)) = (rb && (Op.bytesLess (((ls.take k).map (·.key)).getLastD ByteArray.empty).toList y.key.toList && decide (y.key.size ≤ 96)))) := Lib.hid (by
        rw [List.take_add_one, hy]
        show riseK _ (List.map _ (ls.take k ++ [y])) = _
        rw [List.map_append, List.map_singleton, riseK_last, HR.out])
      rcases rb with _ | _
      · have HNX' : Hid (riseK ByteArray.empty ((ls.take (k + 1)).map (·.key)) = false) := Lib.hid (by rw [HNX.out, Bool.false_and])
        clear HNX
        go_wp2_with fail
        go_big_quiet (fail)
        go_wp2
        go_roundw
        case rel => exact ⟨k + 1, false, by omega, by go_num, rfl, HNX', hBr.trans (below_dN _ _ _)⟩
        case measure => simp [intOf]; omega
      obtain ⟨eb, heb⟩ : ∃ eb, (y.key.toList == ([] : List UInt8)) = eb := ⟨_, rfl⟩
      have HEB := Lib.hid heb
      rcases eb with _ | _
      rotate_left
      · have HNX' : Hid (riseK ByteArray.empty ((ls.take (k + 1)).map (·.key)) = false) := Lib.hid (by rw [HNX.out, less_empty _ _ HEB.out, Bool.false_and, Bool.and_false])
        clear HNX
        go_wp2_with fail
        go_big_quiet (fail)
        go_wp2
        go_roundw
        case rel => exact ⟨k + 1, false, by omega, by go_num, rfl, HNX', hBr.trans (below_dN _ _ _)⟩
        case measure => simp [intOf]; omega
      by_cases h96 : y.key.size ≤ 96
      rotate_left
      · have HNX' : Hid (riseK ByteArray.empty ((ls.take (k + 1)).map (·.key)) = false) := Lib.hid (by rw [HNX.out, decide_eq_false h96, Bool.and_false, Bool.and_false])
        have h96' : decide ((y.key.size : Int) ≤ 96) = false := decide_eq_false (by omega)
        clear HNX
        go_wp2_with fail
        go_big_quiet (fail)
        go_wp2
        go_roundw
        case rel => exact ⟨k + 1, false, by omega, by go_num, rfl, HNX', hBr.trans (below_dN _ _ _)⟩
        case measure => simp [intOf]; omega
      have hd96 : decide ((y.key.size : Int) ≤ 96) = true := decide_eq_true (by omega)
      have hway : (((k : Int) == 0) = true ∧ Hid (riseK ByteArray.empty ((ls.take (k + 1)).map (·.key)) = true)) ∨ ∃ (m : Nat) (y' : Ob) (lb : Bool), ((k : Int) == 0) = false ∧ IntKind.i64.wrap ((k : Int) - 1) = (m : Int) ∧ (m : Int) < ls.length ∧ m < ls.length ∧ wr.cell? ⟨vb, vo + m * 3, none⟩ = some (.string y'.key) ∧ Op.bytesLess y'.key.toList y.key.toList = lb ∧ Hid (riseK ByteArray.empty ((ls.take (k + 1)).map (·.key)) = lb) := by
        rcases k with _ | m
        · refine .inl ⟨rfl, Lib.hid ?_⟩
          rw [HNX.out, decide_eq_true h96, Bool.and_true, Bool.true_and]
          exact ltK_empty HEB.out
        · obtain ⟨y', hy'⟩ : ∃ y', ls[m]? = some y' := ⟨_, List.getElem?_eq_getElem (by omega)⟩
          obtain ⟨vb', vo', e, _, hj0, _, _⟩ := ((HI.out.below hBw).rd).ob hy'
          injection e with e
          injection e with e1 e2 _
          subst e1 e2
          have hlast : ((ls.take (m + 1)).map (·.key)).getLastD ByteArray.empty = y'.key := by
            rw [List.take_add_one, hy']
            show (List.map _ (ls.take m ++ [y'])).getLastD _ = _
            rw [List.map_append, List.map_singleton, List.getLastD_concat]
          refine .inr ⟨m, y', _, by simp; omega, by rw [IntWalk.i64_in _ (by omega)]; omega, by omega, by omega, hj0, rfl, Lib.hid ?_⟩
          rw [HNX.out, hlast, decide_eq_true h96, Bool.and_true, Bool.true_and]
      clear HNX hk hlt h96
      have hkle : k + 1 ≤ ls.length := by omega
      rcases hway with ⟨hz, HNX'⟩ | ⟨m, y', lb, hz, hw, hm, hmn, hj0, hlb, HNX'⟩
      · go_wp2_with fail
        go_big_quiet (fail)
        go_wp2
        go_roundw
        case rel => exact ⟨k + 1, true, by omega, by go_num, rfl, HNX', hBr.trans (below_dN _ _ _)⟩
        case measure => simp [intOf]; omega
      · go_wp2_with fail
        go_big_quiet (fail)
        go_wp2
        go_roundw
        case rel => exact ⟨k + 1, lb, by omega, by go_num, rfl, HNX', hBr.trans (below_dN _ _ _)⟩
        case measure => simp [intOf]; omega
    · obtain rfl : k = ls.length := by omega
      have hlp : (ls.map Ob.st).length = ls.length := List.length_map _
      have hkeys : (ls.map Ob.st).map (·.key) = ls.map (·.key) := by rw [List.map_map]; rfl
      have HRR : Hid (riseK ByteArray.empty ((ls.map Ob.st).map (·.key)) = rb) := Lib.hid (by
        have := HR.out
        rw [List.take_length] at this
        rw [hkeys, this])
      have hBw : Below w.heap.size w wr := hB05.trans (hBr.mono hB05.size)
      obtain ⟨t0, t1, t2, t3, t4, t5, t6⟩ := blk7 (HKT5.out.below hBr hlt5)
      have HLP := Lib.hid hlp
      clear hkeys hlp HR
      by_cases h256 : 256 < ls.length
      · have hE := objE_long (l := ls.map Ob.st) (by rw [HLP.out]; exact h256)
        obtain ⟨h1, rfl, _⟩ := HT.out.err HOK.out (by rw [hE]; decide)
        rw [hE] at h1
        subst h1
        have h256' : (256 : Int) < ls.length := by omega
        clear hE
        go_wp2
        go_ret
        exact ⟨rfl, hBw⟩
      have h256' : ¬ (256 : Int) < ls.length := by omega
      rcases rb with _ | _
      · have hE := objE_rise (l := ls.map Ob.st) (by rw [HLP.out]; exact h256) HRR.out
        obtain ⟨h1, rfl, _⟩ := HT.out.err HOK.out (by rw [hE]; decide)
        rw [hE] at h1
        subst h1
        clear hE
        go_wp2
        go_ret
        exact ⟨rfl, hBw⟩
      have hway : (x ≠ 0 ∧ n = 0 ∧ T.os.length = 0) ∨ (x = 0 ∧ T.os.length = ls.length) := by
        rcases objE_else (l := ls.map Ob.st) (by rw [HLP.out]; exact h256) HRR.out with hE | hE
        · have := HT.out.ok HOK.out hE
          rw [HLP.out] at this
          exact this
        · obtain ⟨h1, h2, h3⟩ := HT.out.err HOK.out (by rw [hE]; decide)
          exact .inl ⟨by omega, h2, h3⟩
      rcases hway with ⟨hx, rfl, h0⟩ | ⟨rfl, h0⟩
      · have hxf : (x == 0) = false := by simpa using hx
        go_wp2
        go_ret
        exact ⟨rfl, hBw⟩
      · go_wp2
        go_ret
        exact ⟨rfl, hBw⟩

end Go.Proofs.YtfeeejigedndcaaGreat
