/-
  An element of a slice, loaded as a whole. No conditions.
-/
import Derived.Test.YtnoidcelinaenaaSL
import Derived.Test.YtnoidcelinaenaaRF
import Derived.Shelf.SlicesQ.Load
import Derived.Deep.WholeRow
namespace Go.Proofs.Ytnoidcelinaenaa
open Go.ChangeShapes Go.WideShapes Go.ChangeAt Go.RowKit
set_option maxRecDepth 100000

theorem load_elem (P : Program) {w : World} {A : Option Addr} {α : Type} {cells : α → List Value} {n : Nat} {l : List α} (hn : ∀ a, (cells a).length = n) (hp : 0 < n) (h : Rd w A (l.flatMap cells)) {k : Nat} {x : α} (hk : l[k]? = some x) :
    ∃ b off, A = some ⟨b, off, none⟩ ∧ b < w.heap.size ∧ ∀ W, Below w.heap.size w W → Sem.run P (loadCellsFrom ⟨b, off + k * n, none⟩ 0 n #[]) W = .ok (cells x).toArray W := by
  obtain ⟨b, off, e, hb, hc⟩ := Rd.elem hn hp h hk
  refine ⟨b, off, e, hb, fun W hW => run_loadCellsFrom_list P W _ (cells x) n (hn x) fun j v hv => ?_⟩
  rw [Addr.add_lit, hW.cell (p := ⟨b, off + k * n + j, none⟩) hb, Nat.add_assoc]
  exact hc j v hv

end Go.Proofs.Ytnoidcelinaenaa
