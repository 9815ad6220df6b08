/-
  open's first loop: what holds between two rounds. No conditions.
-/
import Derived.Test.YtfeeejigedndcaaGreatMYH
import Derived.Test.YtfeeejigedndcaaGreatMQV
namespace Go.Proofs.YtfeeejigedndcaaGreat
open Go.ChangeShapes Go.WideShapes Go.ChangeAt Go.RowKit Go.Maps Go.Shelf
set_option maxRecDepth 100000

abbrev STY : TypeId := 32
/-- All blocks below n but three are as they were. -/
structure Out3 (a b c n : Nat) (w w' : World) : Prop where
  os : w'.os = w.os
  tape : w'.tape = w.tape
  output : w'.output = w.output
  size : w.heap.size ≤ w'.heap.size
  block : ∀ k, k < n → k ≠ a → k ≠ b → k ≠ c → w'.heap[k]? = w.heap[k]?
theorem Out3.refl (a b c n : Nat) (w : World) : Out3 a b c n w w := ⟨rfl, rfl, rfl, Nat.le_refl _, fun _ _ _ _ _ => rfl⟩
theorem Out3.trans {a b c n : Nat} {u v w : World} (h : Out3 a b c n u v) (k : Out3 a b c n v w) : Out3 a b c n u w :=
  ⟨k.os.trans h.os, k.tape.trans h.tape, k.output.trans h.output, Nat.le_trans h.size k.size, fun i hi h1 h2 h3 => (k.block i hi h1 h2 h3).trans (h.block i hi h1 h2 h3)⟩
theorem Out3.of_below {a b c n : Nat} {w w' : World} (h : Below n w w') : Out3 a b c n w w' := ⟨h.os, h.tape, h.output, h.size, fun k hk _ _ _ => h.block k hk⟩
theorem Out3.grown {a b c n : Nat} {w w' : World} {row : Option Nat} (hg : w.grownBy w' row) (hr : ∀ r, row = some r → n ≤ r) (hs : n ≤ w.heap.size) : Out3 a b c n w w' :=
  ⟨hg.os, hg.tape, hg.output, hg.size, fun k hk _ _ _ => hg.block k (by omega) (fun e => by have := hr k e.symm; omega)⟩
theorem set_other {W : World} {B o : Nat} {v : Value} {k : Nat} (h : k ≠ B) : (W.setCell ⟨B, o, none⟩ v).heap[k]? = W.heap[k]? := by
  simp only [World.setCell, Array.getElem?_modify]
  rw [if_neg (Ne.symm h)]
theorem Out3.set {a b c n : Nat} (w : World) (B o : Nat) (v : Value) (h : B = a ∨ B = b ∨ B = c ∨ n ≤ B) : Out3 a b c n w (w.setCell ⟨B, o, none⟩ v) :=
  ⟨rfl, rfl, rfl, by simp, fun k hk h1 h2 h3 => set_other (by omega)⟩

/-- What the index's pages hold, one behind the other. -/
def catC (zs : List Int) (pre : List CE) : List Int := (pre.map fun x => piece zs x.1).flatten
def atC (ix : List Int) (pre : List CE) : List Int := pre.map fun x => ix.getD x.1 0
theorem catC_snoc (zs : List Int) (pre : List CE) (x : CE) : catC zs (pre ++ [x]) = catC zs pre ++ piece zs x.1 := by simp [catC]
theorem atC_snoc (ix : List Int) (pre : List CE) (x : CE) : atC ix (pre ++ [x]) = atC ix pre ++ [ix.getD x.1 0] := by simp [atC]

theorem catC_le (zs : List Int) (pre : List CE) : (catC zs pre).length ≤ 52 * pre.length := by
  induction pre with
  | nil => simp [catC]
  | cons x pre ih =>
    have h1 := piece_le zs x.1
    simp only [catC, List.map_cons, List.flatten_cons, List.length_append, List.length_cons] at ih ⊢
    omega
theorem atC_length (ix : List Int) (pre : List CE) : (atC ix pre).length = pre.length := by simp [atC]
/-- What a round needs to know behind its first append. -/
theorem opJ_mid {w0 : World} {bS bI : Nat} {c0 c1 c2 c3 c4 c5 : Value} {zs ix : List Int} {pre : List CE} {W W1 : World} {iv bv v' : Value} {z : Int} {A : Option Addr} {c : Nat} {ps : List Int}
    (hst : Blk W bS STY [c0, c1, c2, c3, c4, c5, iv]) (hib : Blk W bI 46 [bv]) (hir : W.ownsRow w0.heap.size 3 1 iv (atC ix pre).length (ints (atC ix pre))) (hbr : W.ownsRow w0.heap.size 5 1 bv (catC zs pre).length (octCells (catC zs pre)))
    (hA : W.ownsRow 0 5 1 (.slice A ps.length c) ps.length (octCells ps)) (n1 : bS ≠ bI)
    (hg1 : (W.alloc (.cells #[.int .i64 z] 3)).grownBy W1 iv.ownBlock) :
    Blk W1 bS STY [c0, c1, c2, c3, c4, c5, iv] ∧ Blk (W1.setCell ⟨bS, 6, none⟩ v') bI 46 [bv] ∧ (W1.setCell ⟨bS, 6, none⟩ v').ownsRow w0.heap.size 5 1 bv (catC zs pre).length (octCells (catC zs pre)) ∧ (W1.setCell ⟨bS, 6, none⟩ v').ownsRow 0 5 1 (.slice A ps.length c) ps.length (octCells ps) ∧ W.heap.size ≤ (W1.setCell ⟨bS, 6, none⟩ v').heap.size := by
  have hBa : Below W.heap.size W (W.alloc (.cells #[.int .i64 z] 3)) := (Below.refl _ _).alloc (Nat.le_refl _) _
  have hia := own_below hir hBa (Nat.le_refl _)
  have ksa := hst.below hBa hst.lt
  have kba := hib.below hBa hib.lt
  have hst2 : ∀ {base k : Nat} {v : Value} {xs : List Value}, W.ownsRow base 5 1 v k xs → (W1.setCell ⟨bS, 6, none⟩ v').ownsRow base 5 1 v k xs := fun ho => by
    have ha := own_below ho hBa (Nat.le_refl _)
    have h1 := own_stay ha fun b hb => hg1.block b (ha.lt b hb).2 (fun e => own_apart ha hia (by decide) b hb e.symm)
    have ks1 := grown_blk ksa hia (by decide) hg1
    exact own_stay h1 fun b hb => set_other (fun e => by subst e; exact blk_apart ks1 h1 (by decide) hb)
  refine ⟨grown_blk ksa hia (by decide) hg1, (set_other (Ne.symm n1)).trans (grown_blk kba hia (by decide) hg1), hst2 hbr, hst2 hA, ?_⟩
  have := hBa.size
  have := hg1.size
  simp at *
  omega

structure OpJ (w0 : World) (bS bI mb : Nat) (c0 c1 c2 c3 c4 c5 : Value) (zs ix : List Int) (pre : List CE) (W : World) (iv bv : Value) : Prop where
  st : Blk W bS STY [c0, c1, c2, c3, c4, c5, iv]
  ib : Blk W bI 46 [bv]
  irow : W.ownsRow w0.heap.size 3 1 iv (atC ix pre).length (ints (atC ix pre))
  brow : W.ownsRow w0.heap.size 5 1 bv (catC zs pre).length (octCells (catC zs pre))
  out : Out3 bS bI mb w0.heap.size w0 W

theorem OpJ.step {w0 : World} {bS bI mb m X b1 b2 L : Nat} {c0 c1 c2 c3 c4 c5 : Value} {zs ix : List Int} {pre : List CE} {x : CE} {W W1 W3 : World} {iv bv v' u' : Value}
    (h : OpJ w0 bS bI mb c0 c1 c2 c3 c4 c5 zs ix pre W iv bv) (hS : bS < w0.heap.size) (hI : bI < w0.heap.size) (hX : X < w0.heap.size) (hm : mb < w0.heap.size) (hb1 : b1 < w0.heap.size) (hb2 : b2 < w0.heap.size) (hmS : m ≤ bS) (hmI : m ≤ bI)
    (n1 : bS ≠ bI) (n2 : X ≠ bS) (n3 : X ≠ bI) (n4 : mb ≠ bS) (n5 : mb ≠ bI) (n6 : b1 ≠ bS) (n7 : b1 ≠ bI) (n8 : b2 ≠ bS) (n9 : b2 ≠ bI)
    (hg1 : (W.alloc (.cells #[.int .i64 (ix.getD x.1 0)] 3)).grownBy W1 iv.ownBlock) (ho1 : W1.ownsRow w0.heap.size 3 1 v' ((atC ix pre).length + 1) (ints (atC ix pre) ++ [.int .i64 (ix.getD x.1 0)]))
    (hg3 : (W1.setCell ⟨bS, 6, none⟩ v').grownBy W3 bv.ownBlock) (ho3 : W3.ownsRow w0.heap.size 5 1 u' ((catC zs pre).length + (piece zs x.1).length) (octCells (catC zs pre) ++ octCells (piece zs x.1))) :
    KeepsFrom L W (W3.setCell ⟨bI, 0, none⟩ u') ∧ cKp m X mb b1 b2 W (W3.setCell ⟨bI, 0, none⟩ u') ∧ OpJ w0 bS bI mb c0 c1 c2 c3 c4 c5 zs ix (pre ++ [x]) (W3.setCell ⟨bI, 0, none⟩ u') v' u' := by
  have hWs := h.out.size
  have hBa : Below W.heap.size W (W.alloc (.cells #[.int .i64 (ix.getD x.1 0)] 3)) := (Below.refl _ _).alloc (Nat.le_refl _) _
  have hia := own_below h.irow hBa (Nat.le_refl _)
  have hba := own_below h.brow hBa (Nat.le_refl _)
  have ksa := h.st.below hBa h.st.lt
  have kba := h.ib.below hBa h.ib.lt
  have hsa := hBa.size
  have hcell : ∀ {V : World} {base size k : Nat} {e : TypeId} {v : Value} {xs : List Value}, V.ownsRow base e size v k xs → ∀ (j : Nat) (o : Obj), v.ownBlock = some j → V.heap[j]? = some o → o.isCells = true := fun ho j o hj ho' => by
    rcases ho.2 with ⟨rfl, _⟩ | ⟨g, cap, cur, rfl, _, hh, _⟩
    · cases hj
    · simp [Value.ownBlock] at hj
      subst hj
      rw [hh] at ho'
      cases ho'
      rfl
  have ko1 : KeepsOthers W W1 := KeepsOthers.trans ⟨hBa.size, fun k o hk _ => (hBa.block k (Array.getElem?_eq_some_iff.1 hk).1).trans hk⟩ (KeepsOthers.of_grownBy hg1 (hcell hia))
  have hOa : Out3 bS bI mb w0.heap.size W (W.alloc (.cells #[.int .i64 (ix.getD x.1 0)] 3)) := Out3.of_below (hBa.mono hWs)
  generalize W.alloc (.cells #[.int .i64 (ix.getD x.1 0)] 3) = Wa at *
  have ks1 : Blk W1 bS STY [c0, c1, c2, c3, c4, c5, iv] := grown_blk ksa hia (by decide) hg1
  have kb1 : Blk W1 bI 46 [bv] := grown_blk kba hia (by decide) hg1
  have hb1' : W1.ownsRow w0.heap.size 5 1 bv (catC zs pre).length (octCells (catC zs pre)) := own_stay hba fun b hb => hg1.block b (hba.lt b hb).2 (fun e => own_apart hba hia (by decide) b hb e.symm)
  have ks2 := ks1.set 6 v'
  have kb2 : Blk (W1.setCell ⟨bS, 6, none⟩ v') bI 46 [bv] := (set_other (Ne.symm n1)).trans kb1
  have hi2 : (W1.setCell ⟨bS, 6, none⟩ v').ownsRow w0.heap.size 3 1 v' ((atC ix pre).length + 1) (ints (atC ix pre) ++ [.int .i64 (ix.getD x.1 0)]) := own_stay ho1 fun b hb => set_other (fun e => by subst e; exact blk_apart ks1 ho1 (by decide) hb)
  have hb2' : (W1.setCell ⟨bS, 6, none⟩ v').ownsRow w0.heap.size 5 1 bv (catC zs pre).length (octCells (catC zs pre)) := own_stay hb1' fun b hb => set_other (fun e => by subst e; exact blk_apart ks1 hb1' (by decide) hb)
  have ko2 : KeepsOthers W1 (W1.setCell ⟨bS, 6, none⟩ v') := KeepsOthers.setCell _ _ _
  have ho2' : Out3 bS bI mb w0.heap.size W1 (W1.setCell ⟨bS, 6, none⟩ v') := Out3.set _ _ _ _ (.inl rfl)
  have hs1 := hg1.size
  have hs2 := ho2'.size
  generalize hW2 : W1.setCell ⟨bS, 6, none⟩ v' = W2 at *
  have hs3 := hg3.size
  have ks3 : Blk W3 bS STY [c0, c1, c2, c3, c4, c5, v'] := grown_blk ks2 hb2' (by decide) hg3
  have kb3 : Blk W3 bI 46 [bv] := grown_blk kb2 hb2' (by decide) hg3
  have hi3 : W3.ownsRow w0.heap.size 3 1 v' ((atC ix pre).length + 1) (ints (atC ix pre) ++ [.int .i64 (ix.getD x.1 0)]) := own_stay hi2 fun b hb => hg3.block b (hi2.lt b hb).2 (fun e => own_apart hi2 hb2' (by decide) b hb e.symm)
  have ko3 : KeepsOthers W2 W3 := KeepsOthers.of_grownBy hg3 (hcell hb2')
  have o4 : Out3 bS bI mb w0.heap.size W (W3.setCell ⟨bI, 0, none⟩ u') :=
    (((hOa.trans (Out3.grown hg1 (fun r e => (hia.lt r e).1) (Nat.le_trans hWs hsa))).trans ho2').trans (Out3.grown hg3 (fun r e => (hb2'.lt r e).1) (by omega))).trans (Out3.set _ _ _ _ (.inr (.inl rfl)))
  have hsame : ∀ k, k < w0.heap.size → k ≠ bS → k ≠ bI → (W3.setCell ⟨bI, 0, none⟩ u').heap[k]? = W.heap[k]? := fun k hk k1 k2 => by
    refine (set_other k2).trans ((hg3.block k (by omega) (fun e => by have := (hb2'.lt k e.symm).1; omega)).trans ?_)
    rw [← hW2]
    refine (set_other k1).trans ((hg1.block k (by omega) (fun e => by have := (hia.lt k e.symm).1; omega)).trans ?_)
    exact hBa.block k (by omega)
  refine ⟨((ko1.trans ko2).trans (ko3.trans (KeepsOthers.setCell _ _ _))).from L, ⟨hsame X hX n2 n3, hsame mb hm n4 n5, fun b hb o v hv => (World.cell?_of_block (hsame b (by omega) (by omega) (by omega))).trans hv, fun o v hv => (World.cell?_of_block (hsame b1 hb1 n6 n7)).trans hv, fun o v hv => (World.cell?_of_block (hsame b2 hb2 n8 n9)).trans hv⟩, ?_⟩
  refine ⟨(set_other n1).trans ks3, kb3.set 0 u', ?_, ?_, h.out.trans o4⟩
  · rw [atC_snoc, List.length_append, ints_snoc]
    exact own_stay hi3 fun b hb => set_other (fun e => by subst e; exact blk_apart kb3 hi3 (by decide) hb)
  · have e : octCells (catC zs (pre ++ [x])) = octCells (catC zs pre) ++ octCells (piece zs x.1) := by rw [catC_snoc]; simp [octCells]
    rw [e, catC_snoc, List.length_append]
    exact own_stay ho3 fun b hb => set_other (fun e => by subst e; exact blk_apart kb3 ho3 (by decide) hb)

end Go.Proofs.YtfeeejigedndcaaGreat
