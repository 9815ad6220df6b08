/-
  usage: the page's example. No conditions.
-/
import Derived.Test.YtnoidcelinaenaaUSJ
namespace Go.Proofs.Ytnoidcelinaenaa
open Go.ChangeShapes Go.WideShapes Go.ChangeAt Go.RowKit
set_option maxRecDepth 100000
set_option linter.unusedSimpArgs false

def setZ : MSet := ⟨ByteArray.empty, ByteArray.empty, ⟨none, [], 0⟩, ⟨none, [], 0⟩, ⟨none, [], 0⟩⟩
def tenB (q : Int) (g : Nat) : MTenant := ⟨ByteArray.empty, q, 0, ⟨some ⟨g, 0, none⟩, [setZ], 1⟩, ⟨none, [], 0⟩, ⟨none, [], 0⟩, ⟨none, [], 0⟩⟩
theorem slGood_none {α : Type} (W : World) (cells : α → List Value) (good : α → Prop) (b : Nat) : SlGood W cells good b ⟨none, [], 0⟩ := ⟨Rd.nil _ _, by simp, Nat.le_refl _, fun _ => rfl, by simp⟩
theorem tenB_good {q : Int} {g : Nat} {W : World} (hq : -9223372036854775808 ≤ q ∧ q ≤ 9223372036854775807) (k : Blk W g 32 setZ.cells) : (tenB q g).Good W := by
  refine ⟨(by show ByteArray.empty.size ≤ 140737488351232; decide), hq, (by show (-9223372036854775808 : Int) ≤ 0 ∧ (0 : Int) ≤ 9223372036854775807; decide), ⟨?_, ?_, by simp [tenB], (fun e => nomatch e), by simp [tenB]⟩, slGood_none _ _ _ _, slGood_none _ _ _ _, slGood_none _ _ _ _⟩
  · intro _
    refine ⟨g, 0, rfl, k.lt, fun j u hu => ?_⟩
    rw [Nat.zero_add, k.cell j]
    simpa [tenB] using hu
  · intro y hy
    simp [tenB] at hy
    subst hy
    exact ⟨by decide, by decide, slGood_none _ _ _ _, slGood_none _ _ _ _, slGood_none _ _ _ _⟩
theorem tenB_c (q : Int) (g : Nat) : tenC (tenB q g) = 1 := rfl

set_option maxHeartbeats 1000000 in
theorem alive15_any (w : World) : Calls Try.prog 16 #[] w fun e w' => e = .returned (.bool true) ∧ Below w.heap.size w w' := by
  have HC : Hid (∀ g W, Blk W g 32 setZ.cells → Calls Try.prog 6 #[.agg (tenB 0 g).cells.toArray] W fun e w' => e = .returned (.int .i64 1) ∧ Below W.heap.size W w') := Lib.hid fun g W k => by
    have := tenant_any (tenB 0 g) W (tenB_good (by decide) k)
    rwa [tenB_c, show wrap64 ((1 : Nat) : Int) = 1 from by unfold wrap64; omega] at this
  have HF : Hid (∀ g W, Blk W g 32 setZ.cells → Calls Try.prog 8 #[.agg (tenB 1 g).cells.toArray] W fun e w' => e = .returned (.bool true) ∧ Below W.heap.size W w') := Lib.hid fun g W k => by
    have := fits_any (tenB 1 g) W (tenB_good (by decide) k)
    rwa [tenB_c, show decide (wrap64 ((1 : Nat) : Int) ≤ (tenB 1 g).quota_) = true from decide_eq_true (by unfold wrap64 tenB; simp)] at this
  go_enter Try.func16, Try.ntmps16
  go_wp2_with fail
  refine (HC.out w.heap.size _ (Blk.new w _ _)).mono ?_
  rintro e w1 ⟨rfl, hB1⟩
  have hA1 : Below w.heap.size w w1 := ((Below.refl _ w).alloc (Nat.le_refl _) (.cells setZ.cells.toArray 32)).trans (hB1.mono (by simp))
  clear hB1
  go_wp2_with fail
  refine (HF.out w1.heap.size _ (Blk.new w1 _ _)).mono ?_
  rintro e w2 ⟨rfl, hB2⟩
  have hA2 : Below w.heap.size w w2 := hA1.trans ((((Below.refl _ w1).alloc (Nat.le_refl _) (.cells setZ.cells.toArray 32)).trans (hB2.mono (by simp))).mono hA1.size)
  go_wp2
  go_ret
  exact ⟨rfl, hA2⟩

end Go.Proofs.Ytnoidcelinaenaa
