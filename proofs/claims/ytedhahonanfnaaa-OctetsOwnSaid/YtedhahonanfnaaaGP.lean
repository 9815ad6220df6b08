/-
  Spoil turns the octets of one row, and nothing else. Conditions: the row is the call's own; at most 2^47 octets.
-/
import Derived.Test.YtedhahonanfnaaaW
import Derived.LoopTactic
namespace Go.Proofs.Ytedhahonanfnaaa
open Go.ChangeShapes Go.WideShapes Go.ChangeAt Go.RowKit
set_option maxRecDepth 100000

theorem grownBy_trans {a b c : World} {row : Option Nat} (h : a.grownBy b row) (k : b.grownBy c row) : a.grownBy c row :=
  ⟨k.os.trans h.os, k.tape.trans h.tape, k.output.trans h.output, Nat.le_trans h.size k.size, fun i hi hne => (k.block i (Nat.lt_of_lt_of_le hi h.size) hne).trans (h.block i hi hne)⟩

/-- All cells are octets. -/
def Octv (xs : List Value) : Prop := ∀ (j : Nat) (u : Value), xs[j]? = some u → ∃ z, u = Value.int .u8 z ∧ 0 ≤ z ∧ z ≤ 255

theorem Octv.set {xs : List Value} (h : Octv xs) (k : Nat) (z : Int) (h0 : 0 ≤ z) (h1 : z ≤ 255) : Octv (xs.set k (.int .u8 z)) := by
  intro j u hu
  rw [List.getElem?_set] at hu
  split at hu
  · split at hu
    · injection hu with hu
      exact ⟨z, hu.symm, h0, h1⟩
    · cases hu
  · exact h j u hu

set_option maxHeartbeats 400000 in
theorem spoil_any (base n : Nat) (v : Value) (xs : List Value) (w : World) (hown : w.ownsRow base 5 1 v n xs) (hx : Octv xs) (hn : n ≤ 140737488355328) :
    Calls Try.prog 13 #[v] w fun e w' => (∃ r, e = .returned r) ∧ w.grownBy w' v.ownBlock := by
  obtain ⟨A, c, rfl⟩ : ∃ A c, v = .slice A n c := by
    rcases hown.2 with ⟨rfl, rfl⟩ | ⟨g, cap, cur, rfl, _⟩
    · exact ⟨_, _, rfl⟩
    · exact ⟨_, _, rfl⟩
  go_enter Try.func13, Try.ntmps13
  go_wp2
  go_loopw [2] (fun i wr => ∃ (k : Nat) (ys : List Value), k ≤ n ∧ i = .int .i64 k ∧ wr.ownsRow base 5 1 (.slice A n c) n ys ∧ Octv ys ∧ w.grownBy wr (Value.ownBlock (.slice A n c))) (fun i _ => n - (intOf i).toNat)
  case atStart => exact ⟨0, xs, Nat.zero_le _, rfl, hown, hx, World.grownBy.refl w _⟩
  case round =>
    obtain ⟨k, ys, hk, rfl, ho, hy, hg⟩ := hrel
    by_cases hlt : k < n
    · obtain ⟨g, cap, hv, _, _⟩ := ho.form (by omega)
      injection hv with hA _ hcap
      subst hA
      subst hcap
      have hc := ho.cellAt k (by omega)
      obtain ⟨u, hu⟩ : ∃ u, ys[k]? = some u := ⟨_, List.getElem?_eq_getElem (by have := ho.1; omega)⟩
      obtain ⟨z, rfl, z0, z1⟩ := hy k u hu
      rw [hu] at hc
      have hf := ho.frozenAt k
      clear hu
      have hb := bounds_u8 (wf_bits BinOp.xor IntKind.u8 z 255)
      go_wp2
      go_roundw
      case rel => exact ⟨k + 1, _, by omega, by go_num, (ho.stored k _).1, hy.set k _ hb.1 hb.2, grownBy_trans hg (ho.stored k _).2⟩
      case measure => simp [intOf]; omega
    · go_wp2
      go_end0
      exact ⟨⟨_, rfl⟩, hg⟩

end Go.Proofs.Ytedhahonanfnaaa
