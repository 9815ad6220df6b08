/-
  Slices of octets as values; Join of what lies in one block. No conditions.
-/
import Derived.Test.YthelklgpabjfkaaUM
import Derived.Test.YthelklgpabjfkaaRF
import Derived.Test.YthelklgpabjfkaaI
import Derived.IntWalk
import Derived.Lib.Hide
namespace Go.Proofs.Ythelklgpabjfkaa
open Go.ChangeShapes Go.WideShapes Go.ChangeAt Go.RowKit

/-- A slice of n octets that are these. -/
def SlB (n : Nat) (zs : List Int) (v : Value) (w : World) : Prop := ∃ A c, v = .slice A n c ∧ RdB w A zs
theorem SlB.below {n : Nat} {zs : List Int} {v : Value} {w w' : World} (h : SlB n zs v w) (hB : Below w.heap.size w w') : SlB n zs v w' := by
  obtain ⟨A, c, e, hr⟩ := h
  exact ⟨A, c, e, hr.below hB⟩
theorem SlB.stays {n m : Nat} {zs : List Int} {v : Value} {w w' : World} (h : SlB n zs v w) (hB : Stays m w w') : SlB n zs v w' := by
  obtain ⟨A, c, e, hr⟩ := h
  exact ⟨A, c, e, hB.rd hr⟩
theorem RdB.of_blk {w : World} {g : Nat} {t : TypeId} {zs : List Int} (h : Blk w g t (zs.map (Value.int .u8))) : RdB w (some ⟨g, 0, none⟩) zs := fun _ => by
  refine ⟨g, 0, rfl, h.lt, fun j u hu => ?_⟩
  rw [Nat.zero_add]
  exact (h.cell j).trans hu

/-- Join of the slices that lie in one block. -/
theorem join_blk (ps : List Part) (n g : Nat) (t : TypeId) (w : World) (zs : List Int) (m : Nat) (hn : ps.length = n) (hn' : n ≤ 1048576) (hz : cat ps = zs) (hm : zs.length = m) (hb : Blk w g t (ps.map Part.val)) (hok : ∀ p ∈ ps, RdB w p.A p.zs ∧ p.zs.length ≤ 1048576) :
    Calls Try.prog 18 #[.slice (some ⟨g, 0, none⟩) n n] w fun e w' => ∃ v, e = .returned v ∧ w'.ownsRow w.heap.size 5 1 v m (octCells zs) ∧ Below w.heap.size w w' := by
  subst hn hm hz
  exact callsIn_wide.1 (join_in (some ⟨g, 0, none⟩) ps.length ps hn' w (fun _ => ⟨g, 0, rfl, hb.lt, fun j u hu => by
    rw [Nat.zero_add]
    exact (hb.cell j).trans hu⟩) hok)

end Go.Proofs.Ythelklgpabjfkaa
