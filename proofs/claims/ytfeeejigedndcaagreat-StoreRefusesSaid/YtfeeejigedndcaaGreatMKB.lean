/-
  What an iterator owes of the memory that it reads: the cells of a block stay. No conditions.
-/
import Derived.Test.YtfeeejigedndcaaGreatMW
import Derived.Lib.Hide
import Derived.RangeFuncNested
import Derived.RangeFuncBound
import Derived.RangeFuncCalls
import Derived.RangeFuncLeaves
import Derived.RangeFuncBox
import Derived.Shelf.Abstract
import Derived.Shelf.RegionOpen
import Derived.OwnWalkIn
import Derived.TacticsInMore
import Derived.LoopNIn
import Derived.LoopIn
import Derived.IntWalk
namespace Go.Proofs.YtfeeejigedndcaaGreat
open Go.ChangeShapes Go.WideShapes Go.ChangeAt Go.RowKit Go.Shelf
set_option maxRecDepth 100000
attribute [local go_sem] Oper.semAt_some

theorem yield_bool {J Jx : Prop} {e : Ending} (h : (e = .returned (.bool true) ∧ J) ∨ (e = .returned (.bool false) ∧ Jx)) :
    ∃ b : Bool, e = .returned (.bool b) ∧ Hid ((b = true → J) ∧ (b = false → Jx)) := by
  rcases h with ⟨rfl, h⟩ | ⟨rfl, h⟩
  · exact ⟨true, rfl, fun _ => h, fun h => by cases h⟩
  · exact ⟨false, rfl, fun h => by (cases h), fun _ => h⟩

/-- The cells of block b stay. -/
def KeepsBlk (b : Nat) (W W' : World) : Prop := ∀ o v, W.cell? ⟨b, o, none⟩ = some v → W'.cell? ⟨b, o, none⟩ = some v
theorem KeepsBlk.refl (b : Nat) (W : World) : KeepsBlk b W W := fun _ _ h => h
theorem KeepsBlk.trans {b : Nat} {A B C : World} (h : KeepsBlk b A B) (k : KeepsBlk b B C) : KeepsBlk b A C := fun o v hv => k o v (h o v hv)
theorem KeepsBlk.putObj {b : Nat} (W : World) (l : Nat) (o o' : Obj) (h : W.heap[l]? = some o) (hc : o.isCells = false) : KeepsBlk b W (W.putObj l o') := fun _ _ hv =>
  cell_kept hv (grownBy_putObj' W l o') (fun r e => by cases e; exact ⟨o, h, hc⟩)
theorem KeepsBlk.below {b : Nat} {W W' : World} (h : Below (b + 1) W W') : KeepsBlk b W W' := fun o _ hv => (h.cell (p := ⟨b, o, none⟩) (Nat.lt_succ_self b)).trans hv
theorem KeepsBlk.grown {b : Nat} {W W' : World} {row : Option Nat} (hg : W.grownBy W' row) (hne : some b ≠ row) : KeepsBlk b W W' := fun _ _ hv => hg.cell hv hne

end Go.Proofs.YtfeeejigedndcaaGreat

namespace Go.Proofs.YtfeeejigedndcaaGreat
open Go.ChangeShapes Go.WideShapes Go.ChangeAt Go.RowKit Go.Shelf
set_option maxRecDepth 100000
attribute [local go_sem] Oper.semAt_some

/-- A list of octets as a value. -/
structure Part where
  A : Option Addr
  zs : List Int
  c : Nat
abbrev Part.val (p : Part) : Value := .slice p.A p.zs.length p.c
/-- Has it octets? -/
def Part.full (p : Part) : Bool := decide (0 < p.zs.length)
/-- One of ps that has octets. -/
abbrev PX (ps : List Part) := { p : Part // p ∈ ps ∧ p.full = true }
/-- As they are. -/
def vals {ps : List Part} (xs : List (PX ps)) : List Part := xs.map Subtype.val
theorem vals_snoc {ps : List Part} (xs : List (PX ps)) (x : PX ps) : vals (xs ++ [x]) = vals xs ++ [x.1] := by simp [vals, List.map_append]
theorem vals_length {ps : List Part} (xs : List (PX ps)) : (vals xs).length = xs.length := by simp [vals]
abbrev pxEnc {ps : List Part} (x : PX ps) : Array Value := #[x.1.val]

set_option maxRecDepth 100000 in
set_option maxHeartbeats 1000000 in
theorem parts1_in (n l Bn b off cp : Nat) (A : Option Addr) (ps : List Part) (hpl : ps.length ≤ 1048576) (hA : ps ≠ [] → A = some ⟨b, off, none⟩) (J Jx : List (PX ps) → World → Prop)
    (hY : ∀ pre x W, J pre W → pre.length < ps.length → YieldAt Fence.wide (n - 1) Tryz.prog l (pxEnc x) W fun e W' =>
      (e = .returned (.bool true) ∧ J (pre ++ [x]) W' ∧ KeepsBlk b W W') ∨ (e = .returned (.bool false) ∧ Jx (pre ++ [x]) W'))
    (W : World) (hc0 : W.cell? ⟨Bn, 0, none⟩ = some (.slice A ps.length cp)) (hcs : ∀ j p, ps[j]? = some p → W.cell? ⟨b, off + j, none⟩ = some p.val) (h0 : J [] W) :
    CallsIn Fence.wide n Tryz.prog 132 #[.func (.yield l) #[] #[], .pointer (some ⟨Bn, 0, none⟩)] W fun e W' => (∃ v, e = .returned v) ∧
      ((∃ ys : List (PX ps), vals ys = ps.filter Part.full ∧ J ys W') ∨ (∃ pre : List (PX ps), True ∧ Jx pre W')) := by
  refine callsIn_of_wp Tryz.func132 rfl trivial ?_ rfl
  simp only [Tryz.ntmps132, List.size_toArray, List.length_cons, List.length_nil, Nat.reduceAdd, Nat.reduceSub, Array.replicate_succ, Array.replicate_zero, List.push_toArray, List.append_toArray, List.nil_append, List.cons_append]
  gi_wp2
  gi_loopw [7] (fun i wr => ∃ (k : Nat) (pre : List (PX ps)), k ≤ ps.length ∧ i = .int .i64 k ∧ vals pre = (ps.take k).filter Part.full ∧ (∀ j p, ps[j]? = some p → wr.cell? ⟨b, off + j, none⟩ = some p.val) ∧ J pre wr)
    (fun i _ => ps.length - (intOf i).toNat)
  case atStart =>
    exact ⟨0, [], Nat.zero_le _, rfl, rfl, hcs, h0⟩
  case round =>
    obtain ⟨k, pre, hk, rfl, hpre, hcs', hJk⟩ := hrel
    by_cases hlt : k < ps.length
    · obtain ⟨p, hp⟩ : ∃ p, ps[k]? = some p := ⟨_, List.getElem?_eq_getElem hlt⟩
      have hAA := hA (by intro e; rw [e] at hlt; simp at hlt)
      have hck := hcs' k p hp
      have HCS := Lib.hid hcs'
      have htk : ps.take (k + 1) = ps.take k ++ [p] := by
        rw [List.take_succ_eq_append_getElem hlt]
        rw [List.getElem?_eq_getElem hlt] at hp
        injection hp with hp
        rw [hp]
      have HTK := Lib.hid htk
      have HPRE := Lib.hid hpre
      have hmem : p ∈ ps := List.mem_of_getElem? hp
      have hprel : pre.length ≤ k := by
        have := congrArg List.length hpre
        rw [vals_length] at this
        have h2 := List.length_filter_le Part.full (ps.take k)
        rw [List.length_take] at h2
        omega
      subst hAA
      clear hcs' hcs htk hpre hp hA hc0
      by_cases hfu : 0 < p.zs.length
      · obtain ⟨fn, tmps, assign, body, hy, hR⟩ := hY pre ⟨p, hmem, by simp [Part.full, hfu]⟩ wr hJk (by omega)
        dsimp only [pxEnc] at hy
        gi_wp2
        refine ⟨fun h => (by cases h), hR.mono ?_⟩
        rintro e W3 (⟨rfl, hJ3, hk3⟩ | ⟨rfl, hJx3⟩)
        · have hcs3 : ∀ j q, ps[j]? = some q → W3.cell? ⟨b, off + j, none⟩ = some q.val := fun j q hq => hk3 (off + j) _ (HCS.out j q hq)
          have HC3 := Lib.hid hcs3
          clear hcs3 hy hR
          gi_wp2
          go_roundw
          case rel =>
            refine ⟨k + 1, pre ++ [⟨p, hmem, by simp [Part.full, hfu]⟩], by omega, by go_num, ?_, HC3.out, hJ3⟩
            rw [HTK.out, List.filter_append, vals_snoc, HPRE.out]
            simp [Part.full, hfu]
          case measure => simp [intOf]; omega
        · clear hy hR
          gi_wp2
          refine bodyPost_ret (results_none rfl _ _ _) rfl ?_
          exact ⟨⟨_, rfl⟩, .inr ⟨_, trivial, hJx3⟩⟩
      · have hz : p.zs.length = 0 := by omega
        gi_wp2
        refine ⟨fun _ h => (by cases h), ?_⟩
        gi_wp2
        go_roundw
        case rel =>
          refine ⟨k + 1, pre, by omega, by go_num, ?_, HCS.out, hJk⟩
          rw [HTK.out, List.filter_append, HPRE.out]
          simp [Part.full, hz]
        case measure => simp [intOf]; omega
    · obtain rfl : k = ps.length := by omega
      rw [List.take_length] at hpre
      have HPRE := Lib.hid hpre
      clear hpre hcs' hcs hA
      gi_wp2
      go_end0
      exact ⟨⟨_, rfl⟩, .inl ⟨pre, HPRE.out, hJk⟩⟩

set_option maxHeartbeats 1000000 in
theorem parts_in (n : Nat) (v : Value) (hv : ∃ A k c, v = .slice A k c) (w : World) :
    CallsIn Fence.wide n Tryz.prog 122 #[v] w fun e w' => e = .returned (.func (.func 132) #[] #[.pointer (some ⟨w.heap.size, 0, none⟩)]) ∧ w' = w.alloc (.cells #[v] 24) := by
  obtain ⟨A, k, c, rfl⟩ := hv
  refine callsIn_of_wp Tryz.func122 rfl trivial ?_ rfl
  simp only [Tryz.ntmps122, List.size_toArray, List.length_cons, List.length_nil, Nat.reduceAdd, Nat.reduceSub, Array.replicate_succ, Array.replicate_zero, List.push_toArray, List.append_toArray, List.nil_append, List.cons_append]
  gi_wp2
  go_ret
  exact ⟨rfl, rfl⟩

theorem parts_stops (n : Nat) (Bn b off cp : Nat) (A : Option Addr) (ps : List Part) (hpl : ps.length ≤ 1048576) (hA : ps ≠ [] → A = some ⟨b, off, none⟩) (w : World) (hBn : Bn < w.heap.size) (hb : ps ≠ [] → b < w.heap.size)
    (hc : w.cell? ⟨Bn, 0, none⟩ = some (.slice A ps.length cp)) (hcs : ∀ j p, ps[j]? = some p → w.cell? ⟨b, off + j, none⟩ = some p.val) :
    SeqStopsK Fence.wide n Tryz.prog 132 #[.pointer (some ⟨Bn, 0, none⟩)] pxEnc (KeepsBlk b) (fun ys : List (PX ps) => vals ys = ps.filter Part.full) (fun _ => True) ps.length w := fun l J Jx W hW _ _ hY h0 =>
  parts1_in n l Bn b off cp A ps hpl hA J Jx hY W ((hW.cell (p := ⟨Bn, 0, none⟩) hBn).trans hc)
    (fun j p hp => (hW.cell (p := ⟨b, off + j, none⟩) (hb (by intro e; rw [e] at hp; simp at hp))).trans (hcs j p hp)) h0

end Go.Proofs.YtfeeejigedndcaaGreat

namespace Go.Proofs.YtfeeejigedndcaaGreat
open Go.ChangeShapes Go.WideShapes Go.ChangeAt Go.RowKit Go.Shelf
set_option maxRecDepth 100000

/-- The cells of the blocks below m stay. -/
def KeepsLo (m : Nat) (W W' : World) : Prop := ∀ b, b < m → KeepsBlk b W W'
theorem KeepsLo.trans {m : Nat} {A B C : World} (h : KeepsLo m A B) (k : KeepsLo m B C) : KeepsLo m A C := fun b hb => (h b hb).trans (k b hb)
theorem KeepsLo.putObj {m : Nat} (W : World) (l : Nat) (o o' : Obj) (h : W.heap[l]? = some o) (hc : o.isCells = false) : KeepsLo m W (W.putObj l o') := fun _ _ => KeepsBlk.putObj W l o o' h hc
theorem KeepsLo.below {m : Nat} {W W' : World} (h : Below W.heap.size W W') : KeepsLo m W W' := fun b _ o _ hv => (h.cell (p := ⟨b, o, none⟩) (World.block_lt_of_cell? W ⟨b, o, none⟩ hv)).trans hv
/-- It reads so, in a block below m. -/
def RdU (m : Nat) (w : World) (A : Option Addr) (vs : List Value) : Prop := vs ≠ [] → ∃ b off, A = some ⟨b, off, none⟩ ∧ b < m ∧ ∀ j u, vs[j]? = some u → w.cell? ⟨b, off + j, none⟩ = some u
theorem RdU.rd {m : Nat} {w : World} {A : Option Addr} {vs : List Value} (h : RdU m w A vs) : Rd w A vs := fun hv => by
  obtain ⟨b, off, e, hb, hc⟩ := h hv
  refine ⟨b, off, e, ?_, hc⟩
  have h0 : 0 < vs.length := List.length_pos_iff.2 hv
  exact World.block_lt_of_cell? w _ (hc 0 _ (List.getElem?_eq_getElem h0))
theorem RdU.keeps {m : Nat} {w w' : World} {A : Option Addr} {vs : List Value} (h : RdU m w A vs) (hk : KeepsLo m w w') : RdU m w' A vs := fun hv => by
  obtain ⟨b, off, e, hb, hc⟩ := h hv
  exact ⟨b, off, e, hb, fun j u hu => hk b hb _ _ (hc j u hu)⟩
theorem RdU.of {m : Nat} {w : World} {A : Option Addr} {vs : List Value} (h : Rd w A vs) (hm : w.heap.size ≤ m) : RdU m w A vs := fun hv => by
  obtain ⟨b, off, e, hb, hc⟩ := h hv
  exact ⟨b, off, e, by omega, hc⟩

end Go.Proofs.YtfeeejigedndcaaGreat
