/-
  The reference's Put and Number as callers want them. No conditions.
-/
import Derived.Test.YtmehjmkakkiedaaGreatMGB
import Derived.Test.YtmehjmkakkiedaaGreatMFW
import Derived.Test.YtmehjmkakkiedaaGreatMFX
namespace Go.Proofs.YtmehjmkakkiedaaGreat
open Go.ChangeShapes Go.WideShapes Go.ChangeAt Go.RowKit
set_option maxRecDepth 100000

theorem own_kept0 {W W' : World} {base g n c : Nat} {e : TypeId} {xs : List Value} (h : W.ownsRow base e 1 (.slice (some ⟨g, 0, none⟩) n c) n xs) (hg : W.grownBy W' none) : W'.ownsRow base e 1 (.slice (some ⟨g, 0, none⟩) n c) n xs :=
  h.kept hg (.inr (by simp [Value.ownBlock]))
theorem refPut_at (n : Int) (m : Nat) (k : Int) (hk : k = m) (h0 : 0 < m) (h8 : m ≤ 8) (w0 W : World) (hW : Below w0.heap.size w0 W) :
    Calls Tryz.prog 64 #[.int .i64 n, .int .i64 k] W fun e w' => ∃ g c, e = .returned (.slice (some ⟨g, 0, none⟩) m c) ∧ w'.ownsRow w0.heap.size 5 1 (.slice (some ⟨g, 0, none⟩) m c) m (octCells (put n m)) ∧ w0.heap.size ≤ g ∧ W.heap.size ≤ g ∧ g < w'.heap.size ∧ Below W.heap.size W w' := by
  subst hk
  refine (refPut_any n m h8 W).mono ?_
  rintro e w' ⟨v, rfl, hown, hB⟩
  obtain ⟨g, c, rfl, hg, hlt⟩ := hown.form h0
  exact ⟨g, c, rfl, own_below hown (Below.refl _ _) hW.size, Nat.le_trans hW.size hg, hg, hlt, hB⟩

/-- A slice's length. -/
def slen : Value → Nat
  | .slice _ n _ => n
  | _ => 0

theorem lit_news {W : World} {g : Nat} {zs : List Int} (h : RdB W (some ⟨g, 0, none⟩) zs) (hne : zs ≠ []) : ∀ b, some (⟨g, 0, none⟩ : Addr) = some b → ∀ j u, (octCells zs)[j]? = some u → W.cell? (b.add j) = some u := fun b hb j u hu => by
  injection hb with hb
  subst hb
  obtain ⟨b, off, e, _, hc⟩ := h (by simpa using hne)
  injection e with e
  injection e with e1 e2
  subst e1
  have := hc j u hu
  rw [← e2] at this
  have hadd : (⟨g, 0, none⟩ : Addr).add j = ⟨g, j, none⟩ := by unfold Addr.add; split <;> simp_all
  rw [hadd]
  simpa using this

theorem refNumber_at (A : Option Addr) (n c : Nat) (zs : List Int) (hn : zs.length = n) (h1 : 1 ≤ n) (h8 : n ≤ 8) (ho : Octs zs) (w : World) (hr : RdB w A zs) :
    Calls Tryz.prog 30 #[.slice A n c] w fun e w' => e = .returned (ansN (numO zs).1 (numO zs).2) ∧ w = w' := by
  subst hn
  exact refNumber_any A c zs h1 h8 ho w hr

end Go.Proofs.YtmehjmkakkiedaaGreat
