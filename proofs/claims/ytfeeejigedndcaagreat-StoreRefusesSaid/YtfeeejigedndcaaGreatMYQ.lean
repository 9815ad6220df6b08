/-
  open's second loop: what holds between two rounds; what the first loop has read, in all. No conditions.
-/
import Derived.Test.YtfeeejigedndcaaGreatMYP
import Derived.Test.YtfeeejigedndcaaGreatMQC
import Derived.Test.YtfeeejigedndcaaGreatMQS
import Derived.Test.YtfeeejigedndcaaGreatMYK
namespace Go.Proofs.YtfeeejigedndcaaGreat
open Go.ChangeShapes Go.WideShapes Go.ChangeAt Go.RowKit Go.Maps Go.Shelf
set_option maxRecDepth 100000

theorem take_pieces (zs : List Int) : ∀ k, ((List.range k).map (piece zs)).flatten = zs.take (52 * k)
  | 0 => by simp
  | k + 1 => by rw [List.range_succ, List.map_append, List.flatten_append, take_pieces zs k, ← take_piece]; simp
theorem catC_all {zs ix : List Int} {ys : List CE} (h : ys.map (·.1) = List.range ix.length) (hl : ix.length = cntN zs.length) : catC zs ys = zs ∧ atC ix ys = ix := by
  have e1 : catC zs ys = ((ys.map (·.1)).map (piece zs)).flatten := by simp [catC, List.map_map]; rfl
  have e2 : atC ix ys = (ys.map (·.1)).map fun i => ix.getD i 0 := by simp [atC, List.map_map]
  rw [e1, e2, h, take_pieces, range_getD]
  exact ⟨List.take_of_length_le (by rw [hl]; unfold cntN; omega), rfl⟩

/-- Three texts for each object. -/
theorem idxT_at (os : List PO) (k : Nat) (h : k < os.length) : ((idxT os).drop (3 * k)).take 3 = [os[k].key, numT os[k].data.length, numsT os[k].at_] := by
  have e : idxT os = (os.map oneT).flatten := by simp [idxT, List.flatMap]
  rw [e, flat_piece _ 3 ?_ k (by simpa using h)]
  · simp [List.getD, List.getElem?_map, List.getElem?_eq_getElem h, oneT]
  · intro x hx
    obtain ⟨o, _, rfl⟩ := List.mem_map.1 hx
    rfl

/-- Objects that were read. -/
structure OpK (w0 : World) (bS mb : Nat) (c0 c1 c2 c3 c4 c6 : Value) (W : World) (vO : Value) (ys : List Ob) : Prop where
  st : Blk W bS STY [c0, c1, c2, c3, c4, vO, c6]
  row : W.ownsRow w0.heap.size 58 3 vO ys.length (obCells ys)
  data : ∀ y ∈ ys, W.ownsRow w0.heap.size 5 1 y.d.val y.d.zs.length (octCells y.d.zs)
  at_ : ∀ y ∈ ys, W.ownsRow w0.heap.size 3 1 (.slice y.B y.ns.length y.e) y.ns.length (ints y.ns)
  out : Out3 bS mb mb w0.heap.size w0 W
theorem OpK.own {w0 : World} {bS mb L : Nat} {c0 c1 c2 c3 c4 c6 vO : Value} {ys : List Ob} {W W' : World} {row : Option Nat} (hL : w0.heap.size ≤ L) (h : OpK w0 bS mb c0 c1 c2 c3 c4 c6 W vO ys) (hg : W.grownBy W' row) (hr : ∀ r, row = some r → L ≤ r ∧ ∃ o : Obj, W.heap[r]? = some o ∧ o.isCells = false) : OpK w0 bS mb c0 c1 c2 c3 c4 c6 W' vO ys :=
  ⟨(hg.block _ h.st.lt (fun e => by
      obtain ⟨_, o, ho, hc⟩ := hr _ e.symm
      rw [show W.heap[_]? = _ from h.st] at ho
      cases ho
      cases hc)).trans h.st,
    own_other2 h.row hg (fun r e => (hr r e).2), fun y hy => own_other2 (h.data y hy) hg (fun r e => (hr r e).2), fun y hy => own_other2 (h.at_ y hy) hg (fun r e => (hr r e).2),
    h.out.trans (Out3.grown hg (fun r e => by have := (hr r e).1; omega) h.out.size)⟩

theorem OpK.below {w0 : World} {bS mb : Nat} {c0 c1 c2 c3 c4 c6 vO : Value} {ys : List Ob} {W W' : World} (h : OpK w0 bS mb c0 c1 c2 c3 c4 c6 W vO ys) (hB : Below W.heap.size W W') : OpK w0 bS mb c0 c1 c2 c3 c4 c6 W' vO ys :=
  ⟨h.st.below hB h.st.lt, own_below3 h.row hB (Nat.le_refl _), fun y hy => own_below3 (h.data y hy) hB (Nat.le_refl _), fun y hy => own_below3 (h.at_ y hy) hB (Nat.le_refl _), h.out.trans (Out3.of_below (hB.mono h.out.size))⟩
theorem RdAt.grown {m X mb L : Nat} {D : Dv} {S : List Int} {A B : World} {row : Option Nat} (h : RdAt m X mb D S A) (hX : X < L) (hm : mb < L) (hg : A.grownBy B row) (hr : ∀ r, row = some r → L ≤ r) : RdAt m X mb D S B :=
  h.keep (hg.block X h.blk.lt (fun e => by have := hr _ e.symm; omega)) (hg.block mb h.mlt (fun e => by have := hr _ e.symm; omega)) (fun b hb o v hv => by
    have h1 := h.mX
    exact (World.cell?_of_block (hg.block b (World.block_lt_of_cell? A ⟨b, o, none⟩ hv) (fun e => by have := hr _ e.symm; omega))).trans hv)

theorem RdAt.set {m X mb B o : Nat} {D : Dv} {S : List Int} {W : World} {v : Value} (h : RdAt m X mb D S W) (hX : X ≠ B) (hm : mb ≠ B) (hB : m ≤ B) : RdAt m X mb D S (W.setCell ⟨B, o, none⟩ v) :=
  h.keep (set_other hX) (set_other hm) (fun b hb o v hv => (World.cell?_of_block (set_other (k := b) (by omega))).trans hv)

theorem OpK.step {w0 : World} {bS mb Bn Bm L : Nat} {c0 c1 c2 c3 c4 c6 vO v' : Value} {ys : List Ob} {y : Ob} {W Wd W5 W6 : World}
    (h : OpK w0 bS mb c0 c1 c2 c3 c4 c6 W vO ys) (hL : w0.heap.size ≤ L) (hS : bS < w0.heap.size) (hm : mb < w0.heap.size) (hn : Bn < w0.heap.size) (hn2 : Bm < w0.heap.size) (n1 : bS ≠ mb) (n2 : Bn ≠ bS) (n3 : Bm ≠ bS) (n4 : Bn ≠ mb) (n5 : Bm ≠ mb)
    (hBd : Below W.heap.size W Wd) (hO : Out mb (mb + 1) Wd.heap.size Wd W5)
    (hd : W5.ownsRow Wd.heap.size 5 1 y.d.val y.d.zs.length (octCells y.d.zs)) (ha : W5.ownsRow Wd.heap.size 3 1 (.slice y.B y.ns.length y.e) y.ns.length (ints y.ns))
    (hown : W6.ownsRow w0.heap.size 58 3 v' (ys.length + 1) (obCells ys ++ [.string y.key, y.d.val, .slice y.B y.ns.length y.e])) (hgrow : (W5.alloc (.cells #[.string y.key, y.d.val, .slice y.B y.ns.length y.e] 58)).grownBy W6 vO.ownBlock) :
    KeepsFrom L W (W6.setCell ⟨bS, 5, none⟩ v') ∧ KeepsTwo Bn Bm W (W6.setCell ⟨bS, 5, none⟩ v') ∧ OpK w0 bS mb c0 c1 c2 c3 c4 c6 (W6.setCell ⟨bS, 5, none⟩ v') v' (ys ++ [y]) ∧ Blk W6 bS STY [c0, c1, c2, c3, c4, vO, c6] := by
  have hWs := h.out.size
  have hds := hBd.size
  have hs5 := hO.size
  have st5 : ∀ k, k < W.heap.size → k ≠ mb → W5.heap[k]? = W.heap[k]? := fun k hk h1 => (hO.block k (by omega) (by omega)).trans (hBd.block k hk)
  have keep5 : ∀ {size k : Nat} {e : TypeId} {v : Value} {xs : List Value}, W.ownsRow w0.heap.size e size v k xs → W5.ownsRow w0.heap.size e size v k xs := fun ho => own_stay ho fun b hb => st5 b (ho.lt b hb).2 (by have := (ho.lt b hb).1; omega)
  have o5 : Out3 bS mb mb w0.heap.size w0 W5 := h.out.trans ⟨hO.os.trans hBd.os, hO.tape.trans hBd.tape, hO.output.trans hBd.output, by omega, fun k hk _ h2 _ => st5 k (by omega) h2⟩
  have s5 : Blk W5 bS STY [c0, c1, c2, c3, c4, vO, c6] := (st5 bS h.st.lt n1).trans h.st
  have r5 := keep5 h.row
  have d5 : ∀ z ∈ ys ++ [y], W5.ownsRow w0.heap.size 5 1 z.d.val z.d.zs.length (octCells z.d.zs) := fun z hz => by
    rcases List.mem_append.1 hz with hz | hz
    · exact keep5 (h.data z hz)
    · simp at hz
      subst hz
      exact own_base hd (by omega)
  have a5 : ∀ z ∈ ys ++ [y], W5.ownsRow w0.heap.size 3 1 (.slice z.B z.ns.length z.e) z.ns.length (ints z.ns) := fun z hz => by
    rcases List.mem_append.1 hz with hz | hz
    · exact keep5 (h.at_ z hz)
    · simp at hz
      subst hz
      exact own_base ha (by omega)
  have hBa : Below W5.heap.size W5 (W5.alloc (.cells #[.string y.key, y.d.val, .slice y.B y.ns.length y.e] 58)) := (Below.refl _ _).alloc (Nat.le_refl _) _
  have hsa := hBa.size
  have ra := own_below3 r5 hBa (Nat.le_refl _)
  have sa := s5.below hBa s5.lt
  have da := fun z hz => own_below3 (d5 z hz) hBa (Nat.le_refl _)
  have aa := fun z hz => own_below3 (a5 z hz) hBa (Nat.le_refl _)
  have hlo : ∀ k, k < W5.heap.size → (W5.alloc (.cells #[.string y.key, y.d.val, .slice y.B y.ns.length y.e] 58)).heap[k]? = W5.heap[k]? := fun k hk => hBa.block k hk
  have oa := o5.trans (Out3.of_below (a := bS) (b := mb) (c := mb) (hBa.mono (by omega : w0.heap.size ≤ W5.heap.size)))
  generalize W5.alloc (.cells #[.string y.key, y.d.val, .slice y.B y.ns.length y.e] 58) = Wa at *
  have hA : Away 58 Wa W6 := away_grown ra hgrow
  have s6 := hA.blk sa (by decide)
  have hA2 : Away STY W6 (W6.setCell ⟨bS, 5, none⟩ v') := away_set s6
  have hsame : ∀ k, k < w0.heap.size → k ≠ bS → k ≠ mb → (W6.setCell ⟨bS, 5, none⟩ v').heap[k]? = W.heap[k]? := fun k hk k1 k2 =>
    (set_other k1).trans ((hgrow.block k (by omega) (fun e => by have := (ra.lt k e.symm).1; omega)).trans ((hlo k (by omega)).trans (st5 k (by omega) k2)))
  have hgs := hgrow.size
  have hkf : KeepsFrom L W (W6.setCell ⟨bS, 5, none⟩ v') := ⟨by simp; omega, fun k o hk ho hc => by
    have hkl := (Array.getElem?_eq_some_iff.1 ho).1
    have e5 : Wa.heap[k]? = some o := (hlo k (by omega)).trans ((st5 k hkl (by omega)).trans ho)
    refine (set_other (by omega)).trans ((hgrow.block k (by omega) (fun e => ?_)).trans e5)
    rcases ra.2 with ⟨rfl, _⟩ | ⟨g, cap, cur, rfl, _, hh, _⟩
    · cases e
    · simp only [Value.ownBlock, Option.some.injEq] at e
      subst e
      rw [hh] at e5
      cases e5
      cases hc⟩
  refine ⟨hkf, ⟨fun o u hu => (World.cell?_of_block (hsame Bn hn n2 n4)).trans hu, fun o u hu => (World.cell?_of_block (hsame Bm hn2 n3 n5)).trans hu⟩, ⟨s6.set 5 v', ?_, fun z hz => hA2.own (hA.own (da z hz) (by decide)) (by decide), fun z hz => hA2.own (hA.own (aa z hz) (by decide)) (by decide), ?_⟩, s6⟩
  · rw [List.length_append, obCells_snoc]
    exact hA2.own hown (by decide)
  · exact (oa.trans (Out3.grown hgrow (fun r e => (ra.lt r e).1) (by omega))).trans (Out3.set _ _ _ _ (.inl rfl))

theorem Out3.below {a b c n m : Nat} {w w' : World} (h : Out3 a b c n w w') (h1 : m ≤ n) (ha : m ≤ a) (hb : m ≤ b) (hc : m ≤ c) : Below m w w' := ⟨h.os, h.tape, h.output, h.size, fun k hk => h.block k (by omega) (by omega) (by omega) (by omega)⟩
theorem RdF.keepAll {n : Nat} {W W' : World} {A : Option Addr} {vs : List Value} (h : RdF n W A vs) (hs : W.heap.size ≤ W'.heap.size) (hk : ∀ b, KeepsBlk b W W') : RdF n W' A vs := ⟨fun hv => by
  obtain ⟨b, off, e, hb, hc⟩ := h.1 hv
  exact ⟨b, off, e, by omega, fun j u hu => hk b _ _ (hc j u hu)⟩, h.2⟩
theorem Dv.Lies.keepAll {n : Nat} {W W' : World} {D : Dv} (h : D.Lies n W) (hs : W.heap.size ≤ W'.heap.size) (hk : ∀ b, KeepsBlk b W W') : D.Lies n W' :=
  ⟨h.secs.keepAll hs hk, fun p hp => (h.sec p hp).keepAll hs hk, h.waits.keepAll hs hk, fun x hx => (h.wait x hx).keepAll hs hk⟩
theorem St.Lies.keepAll {n : Nat} {W W' : World} {s : St} (h : s.Lies n W) (hs : W.heap.size ≤ W'.heap.size) (hk : ∀ b, KeepsBlk b W W') : s.Lies n W' :=
  ⟨h.dev.keepAll hs hk, h.arr.keepAll hs hk, fun o ho => (h.data o ho).keepAll hs hk, fun o ho => (h.at_ o ho).keepAll hs hk, h.ix.keepAll hs hk⟩
theorem St.Lies.putObj {n : Nat} {W : World} {s : St} (h : s.Lies n W) (l : Nat) (o o' : Obj) (hl : W.heap[l]? = some o) (hc : o.isCells = false) : s.Lies n (W.putObj l o') :=
  h.keepAll (by simp [World.putObj]) (fun _ => KeepsBlk.putObj W l o o' hl hc)

/-- The store that was read, in memory. -/
theorem opened_st {E : Dv} {w12 W2 : World} {bS mb : Nat} {c0 c1 c2 c3 c4 c6 : Value} {vA : Option Addr} {vc : Nat} {yO : List Ob} {os : List PO} {u : Ub} {iA : Option Addr} {ic : Nat} {ix : List Int} {m : Nat} (hE : E.Lies m W2) (hK : OpK w12 bS mb c0 c1 c2 c3 c4 c6 W2 (.slice vA yO.length vc) yO) (hys : yO.map Ob.st = os)
    (hix : RdF m W2 iA (ints ix)) (hm : m ≤ w12.heap.size) (hok : PS.ok ⟨E.st, u, os, ix⟩) (hoc : ∀ o ∈ os, Octs o.data) (hw : E.ws = []) :
    (⟨E, u, vA, yO, vc, iA, ix, ic⟩ : St).Lies m W2 ∧ (⟨E, u, vA, yO, vc, iA, ix, ic⟩ : St).Fits ∧ (⟨E, u, vA, yO, vc, iA, ix, ic⟩ : St).st = ⟨E.st, u, os, ix⟩ := by
  have hobs := hok.os
  have hl : yO.length = os.length := by rw [← hys, List.length_map]
  have hdok := hok.dev
  have hat := hok.at_
  have htot : (os.flatMap (·.at_) ++ ix).length ≤ 8192 := by
    obtain ⟨⟨_, h2⟩, h3, h4⟩ := chk_ok.1 hok.secs
    have := length_free h3 h4
    show (PS.secs ⟨E.st, u, os, ix⟩).length ≤ _
    omega
  dsimp only at hobs hdok hat
  rw [List.length_append] at htot
  refine ⟨⟨hE, (RdF.of_own hK.row).mono hm, fun o ho => (RdF.of_own (hK.data o ho)).mono hm, fun o ho => (RdF.of_own (hK.at_ o ho)).mono hm, hix⟩, ⟨dv_fits hdok (by rw [hw]; simp), by show yO.length ≤ _; have := (objE_ok hobs).1; omega, fun y hy => ?_, by show ix.length ≤ _; omega⟩, by show PS.mk _ _ _ _ = _; rw [hys]⟩
  have hm : y.st ∈ os := hys ▸ List.mem_map.2 ⟨y, hy, rfl⟩
  have h1 := ((objE_keys hobs).1 _ hm).1
  have h2 := (objE_ok hobs).2.2 _ hm
  have h3 := hat _ hm
  have h4 := hoc _ hm
  dsimp only [Ob.st] at h1 h2 h3 h4
  obtain ⟨_, c1, e1, g1, g2, _, _⟩ := own_any (hK.data y hy)
  obtain ⟨_, c2, e2, g3, g4, _, _⟩ := own_any (hK.at_ y hy)
  injection e1 with e11 _ e12
  injection e2 with e21 _ e22
  subst e11 e12 e21 e22
  exact ⟨by unfold maxLen; omega, by omega, g1, g2, by rw [h3]; unfold cntN; omega, g3, g4, h4⟩

/-- Chunk of texts, for a loop that must know which piece comes. -/
theorem chunkS_both (n Bn Bm b off c L m : Nat) (hm : 0 < m) (hm2 : m ≤ 1048576) (hL : L ≤ 140737488351232) (hc : L ≤ c) (A : Option Addr) (hA : 0 < L → A = some ⟨b, off, none⟩) (w : World) (h1 : Bn < w.heap.size) (h2 : Bm < w.heap.size) (hc0 : w.cell? ⟨Bn, 0, none⟩ = some (.slice A L c)) (hd0 : w.cell? ⟨Bm, 0, none⟩ = some (.int .i64 m)) :
    SeqBoth Fence.wide n Tryz.prog 110 #[.pointer (some ⟨Bn, 0, none⟩), .pointer (some ⟨Bm, 0, none⟩)] (cxEnc m b off L) (fun A B => Below A.heap.size A B) (KeepsTwo Bn Bm) (fun pre (x : CX (cntM m L)) _ => x.1 = pre.length) (fun (ys : List (CX (cntM m L))) _ => cvals ys = List.range (cntM m L)) w := fun l J W hW hJ hY h0 =>
  (chunkS1_in n l Bn Bm b off c L m hm hm2 hL hc A hA J (fun _ _ => False) hJ (fun pre x W1 h hx _ => by
    obtain ⟨fn, tmps, assign, body, hy, hR⟩ := hY pre x W1 h hx
    exact ⟨fn, tmps, assign, body, hy, hR.mono fun _ _ h => .inl h⟩) W ((hW.cell (p := ⟨Bn, 0, none⟩) h1).trans hc0) ((hW.cell (p := ⟨Bm, 0, none⟩) h2).trans hd0) h0).mono fun e W' ⟨hv, h⟩ => ⟨hv, by
    rcases h with ⟨ys, hy, hj⟩ | ⟨_, _, hf⟩
    · exact ⟨ys, hy, hj⟩
    · exact hf.elim⟩

theorem take_ats {os : List PO} {i : Nat} {o : PO} (ho : os[i]? = some o) : os.flatMap (·.at_) = (os.take i).flatMap (·.at_) ++ (o.at_ ++ (os.drop (i + 1)).flatMap (·.at_)) ∧ (os.take (i + 1)).flatMap (·.at_) = (os.take i).flatMap (·.at_) ++ o.at_ := by
  have e : os = os.take i ++ (o :: os.drop (i + 1)) := by rw [← dropA os ho, List.take_append_drop]
  refine ⟨?_, ?_⟩
  · conv => lhs; rw [e]
    rw [List.flatMap_append, List.flatMap_cons]
  · rw [List.take_add_one, ho, List.flatMap_append]
    simp

/-- What reading an object comes to, in open's loop. -/
theorem object_at (m X mb : Nat) (D : Dv) (ix : List Int) (os : List PO) (i tb tf : Nat) (o : PO) (ho : os[i]? = some o) (hdl : ∀ o ∈ os, o.data.length ≤ 65536)
    (hpg : ∀ o ∈ os, o.at_.length = cntN o.data.length ∧ ∀ j, j < o.at_.length → ∃ k : Nat, o.at_[j]? = some (k : Int) ∧ PgAt D k (piece o.data j) 0)
    (h8 : D.ps.length ≤ 8192) (hnd : (ix ++ os.flatMap (·.at_)).Nodup) (hcn : (ix ++ os.flatMap (·.at_)).length ≤ 8192)
    (w : World) (h : RdAt m X mb D (ix ++ (os.take i).flatMap (·.at_)) w) (hT : Rd w (some ⟨tb, tf, none⟩) ((idxT os).map Value.string)) :
    Calls Tryz.prog 63 #[.pointer (some ⟨X, 0, none⟩), .slice (some ⟨tb, tf + 3 * i, none⟩) 3 3] w fun e w' => ∃ A c B d, e = .returned (obval o.key A o.data.length c B o.at_.length d) ∧ w'.ownsRow w.heap.size 5 1 (.slice A o.data.length c) o.data.length (octCells o.data) ∧ w'.ownsRow w.heap.size 3 1 (.slice B o.at_.length d) o.at_.length (ints o.at_) ∧ RdAt m X mb D (ix ++ (os.take (i + 1)).flatMap (·.at_)) w' ∧ Out mb (mb + 1) w.heap.size w w' := by
  obtain ⟨hi, hio⟩ := List.getElem?_eq_some_iff.1 ho
  have hm := List.mem_of_getElem? ho
  obtain ⟨e1, e2⟩ := take_ats ho
  rw [e1, ← List.append_assoc, ← List.append_assoc] at hnd
  rw [e1, ← List.append_assoc, ← List.append_assoc, List.length_append] at hcn
  rw [e2, ← List.append_assoc]
  refine objectS_ok m X mb D _ o.key o.data o.at_ tb (tf + 3 * i) 3 (hdl o hm) (hpg o hm).1 (hpg o hm).2 h8 (List.nodup_append.1 hnd).1 (by omega) (Nat.le_refl _) w h ?_
  have ht := idxT_at os i hi
  rw [hio] at ht
  rw [← ht]
  intro hne
  have hl : ((idxT os).map Value.string) ≠ [] := fun h0 => hne (by rw [List.map_eq_nil_iff] at h0; rw [h0]; simp)
  obtain ⟨b, off, e, hb, hc⟩ := hT hl
  injection e with e
  injection e with e3 e4 _
  subst e3 e4
  refine ⟨tb, tf + 3 * i, rfl, hb, fun k u hu => ?_⟩
  have := hc (3 * i + k) u
  rw [Nat.add_assoc]
  refine this ?_
  rw [List.getElem?_map] at hu ⊢
  rw [List.getElem?_take, List.getElem?_drop] at hu
  split at hu
  · exact hu
  · cases hu

end Go.Proofs.YtfeeejigedndcaaGreat
