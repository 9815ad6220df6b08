/-
  slices.Values and slices.Collect of a list of blocks: a copy of it. Conditions: the list is as it comes in.
-/
import Derived.Test.YtnoidcelinaenaaRX
import Derived.Test.YtnoidcelinaenaaBLM
import Derived.Test.YtnoidcelinaenaaAP
import Derived.LoopTactic
import Derived.BigQuiet
namespace Go.Proofs.Ytnoidcelinaenaa
open Go.ChangeShapes Go.WideShapes Go.ChangeAt Go.RowKit Go.Shelf
set_option maxRecDepth 100000
attribute [local go_sem] Oper.semAt_some

/-- The cells of the blocks below m stay. -/
def KeepsLo (m : Nat) (W W' : World) : Prop := ∀ b, b < m → KeepsBlk b W W'
theorem KeepsLo.trans {m : Nat} {A B C : World} (h : KeepsLo m A B) (k : KeepsLo m B C) : KeepsLo m A C := fun b hb => (h b hb).trans (k b hb)
theorem KeepsLo.putObj {m : Nat} (W : World) (l : Nat) (o o' : Obj) (h : W.heap[l]? = some o) (hc : o.isCells = false) : KeepsLo m W (W.putObj l o') := fun _ _ => KeepsBlk.putObj W l o o' h hc
theorem KeepsLo.below {m : Nat} {W W' : World} (h : Below W.heap.size W W') : KeepsLo m W W' := fun b _ o _ hv => (h.cell (p := ⟨b, o, none⟩) (World.block_lt_of_cell? W ⟨b, o, none⟩ hv)).trans hv
theorem KeepsLo.of {m : Nat} {W W' : World} (h : Below m W W') : KeepsLo m W W' := fun b hb o _ hv => (h.cell (p := ⟨b, o, none⟩) hb).trans hv
theorem KeepsLo.alloc {m : Nat} (W : World) (o : Obj) : KeepsLo m W (W.alloc o) := KeepsLo.below ((Below.refl _ W).alloc (Nat.le_refl _) o)
/-- It reads so, in a block below m. -/
def RdU (m : Nat) (w : World) (A : Option Addr) (vs : List Value) : Prop := vs ≠ [] → ∃ b off, A = some ⟨b, off, none⟩ ∧ b < m ∧ ∀ j u, vs[j]? = some u → w.cell? ⟨b, off + j, none⟩ = some u
theorem RdU.keeps {m : Nat} {w w' : World} {A : Option Addr} {vs : List Value} (h : RdU m w A vs) (hk : KeepsLo m w w') : RdU m w' A vs := fun hv => by
  obtain ⟨b, off, e, hb, hc⟩ := h hv
  exact ⟨b, off, e, hb, fun j u hu => hk b hb _ _ (hc j u hu)⟩
theorem RdU.of {m : Nat} {w : World} {A : Option Addr} {vs : List Value} (h : Rd w A vs) (hm : w.heap.size ≤ m) : RdU m w A vs := fun hv => by
  obtain ⟨b, off, e, hb, hc⟩ := h hv
  exact ⟨b, off, e, by omega, hc⟩
theorem RdU.rd {m : Nat} {w : World} {A : Option Addr} {vs : List Value} (h : RdU m w A vs) : Rd w A vs := fun hv => by
  obtain ⟨b, off, e, hb, hc⟩ := h hv
  refine ⟨b, off, e, ?_, hc⟩
  have h0 : 0 < vs.length := List.length_pos_iff.2 hv
  exact World.block_lt_of_cell? w _ (hc 0 _ (List.getElem?_eq_getElem h0))

abbrev bkEnc (x : Bk) : Array Value := #[bkV x]

set_option maxHeartbeats 1000000 in
theorem values1_in (n l m Bn : Nat) (A : Option Addr) (c : Nat) (xs : List Bk) (hl : xs.length ≤ 8796093022208)
    (J : List Bk → World → Prop) (hJ : ∀ s A B, J s A → Below A.heap.size A B → J s B)
    (hY : ∀ (pre : List Bk) x W, J pre W → pre.length < xs.length → YieldAt Fence.wide (n - 1) Try.prog l (bkEnc x) W fun e W' =>
      e = .returned (.bool true) ∧ J (pre ++ [x]) W' ∧ KeepsLo m W W')
    (W : World) (hc0 : W.cell? ⟨Bn, 0, none⟩ = some (.slice A xs.length c)) (hr : RdU m W A (bks xs)) (h0 : J [] W) :
    CallsIn Fence.wide n Try.prog 32 #[.func (.yield l) #[] #[], .pointer (some ⟨Bn, 0, none⟩)] W fun e W' => (∃ v, e = .returned v) ∧ J xs W' := by
  refine callsIn_of_wp Try.func32 rfl trivial ?_ rfl
  simp only [Try.ntmps32, List.size_toArray, List.length_cons, List.length_nil, Nat.reduceAdd, Nat.reduceSub, Array.replicate_succ, Array.replicate_zero, List.push_toArray, List.append_toArray, List.nil_append, List.cons_append]
  gi_wp2
  gi_loopw [7] (fun i wr => ∃ (k : Nat), k ≤ xs.length ∧ i = .int .i64 k ∧ Hid (RdU m wr A (bks xs)) ∧ Hid (J (xs.take k) wr)) (fun i _ => xs.length - (intOf i).toNat)
  case atStart => exact ⟨0, Nat.zero_le _, rfl, Lib.hid hr, Lib.hid h0⟩
  case round =>
    obtain ⟨k, hk, rfl, HR, HJ⟩ := hrel
    by_cases hlt : k < xs.length
    · obtain ⟨x, hx⟩ : ∃ x, xs[k]? = some x := ⟨_, List.getElem?_eq_getElem hlt⟩
      obtain ⟨b, off, rfl, hb, hk0, hk1⟩ := HR.out.rd.bk hx
      obtain ⟨W1, hW1⟩ : ∃ W1, wr.alloc (.cells #[.int .i64 x.1, .string x.2] 65) = W1 := ⟨_, rfl⟩
      have hB1 : Below wr.heap.size wr W1 := hW1 ▸ (Below.refl _ wr).alloc (Nat.le_refl _) _
      have HR1 := Lib.hid (HR.out.keeps (KeepsLo.below hB1))
      have HJ1 := hJ _ _ _ HJ.out hB1
      have kb : Blk W1 wr.heap.size 65 [.int .i64 x.1, .string x.2] := hW1 ▸ Blk.new wr _ _
      have z0 := kb.cell 0
      have z1 := kb.cell 1
      simp only [List.getElem?_cons_zero, List.getElem?_cons_succ] at z0 z1
      obtain ⟨fn, tmps, assign, body, hy, hRR⟩ := hY _ x W1 HJ1 (by simp only [List.length_take]; omega)
      have HRR := Lib.hid hRR
      dsimp only [bkEnc, bkV] at hy
      have HTK : Hid (xs.take (k + 1) = xs.take k ++ [x]) := Lib.hid (by rw [List.take_add_one, hx]; rfl)
      have HW1 := Lib.hid hW1
      clear hRR HJ HR HJ1 hr hc0 hW1 kb hB1
      gi_wp2_with (rw [HW1.out])
      refine ⟨fun h => (by cases h), HRR.out.mono ?_⟩
      rintro e W3 ⟨rfl, hJ3, hk3⟩
      have HS3 := Lib.hid (HR1.out.keeps hk3)
      have HJ3 : Hid (J (xs.take (k + 1)) W3) := Lib.hid (by rw [HTK.out]; exact hJ3)
      clear hy HRR hJ3 hk3 HR1
      gi_wp2
      go_roundw
      case rel => exact ⟨k + 1, by omega, by go_num, HS3, HJ3⟩
      case measure => simp [intOf]; omega
    · obtain rfl : k = xs.length := by omega
      have HJ1 : Hid (J xs wr) := Lib.hid (by simpa using HJ.out)
      clear HJ hr hc0
      gi_wp2
      go_end0
      exact ⟨⟨_, rfl⟩, HJ1.out⟩

theorem values_lay (n m Bn : Nat) (A : Option Addr) (c : Nat) (xs : List Bk) (hl : xs.length ≤ 8796093022208) (w : World) (hBw : Bn < w.heap.size) (hc0 : w.cell? ⟨Bn, 0, none⟩ = some (.slice A xs.length c)) (hr : RdU m w A (bks xs)) :
    SeqLay Fence.wide n Try.prog 32 #[.pointer (some ⟨Bn, 0, none⟩)] bkEnc (KeepsLo m) xs w := fun l J W hW hJ hY h0 =>
  values1_in n l m Bn A c xs hl J hJ hY W ((hW.cell (p := ⟨Bn, 0, none⟩) hBw).trans hc0) (hr.keeps (KeepsLo.below hW)) h0

theorem values_any (v : Value) (hv : ∃ A k c, v = .slice A k c) (w : World) :
    Calls Try.prog 27 #[v] w fun e w' => e = .returned (.func (.func 32) #[] #[.pointer (some ⟨w.heap.size, 0, none⟩)]) ∧ w' = w.alloc (.cells #[v] 28) := by
  obtain ⟨A, k, c, rfl⟩ := hv
  go_enter Try.func27, Try.ntmps27
  go_wp2
  go_ret
  exact ⟨rfl, rfl⟩

end Go.Proofs.Ytnoidcelinaenaa
