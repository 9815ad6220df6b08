/-
  An element of a slice, loaded as a whole. No conditions.
-/
import Derived.Test.YtnioelkibghplaaGreatQSL
import Derived.Test.YtnioelkibghplaaGreatQRL
import Derived.Shelf.SlicesQ.Load
import Derived.Deep.WholeRow
import Derived.Great.BuildSlice
namespace Go.Proofs.YtnioelkibghplaaGreat
open Go.ChangeShapes Go.WideShapes Go.ChangeAt Go.RowKit
set_option maxRecDepth 100000

theorem load_elem (P : Program) {w : World} {A : Option Addr} {α : Type} {cells : α → List Value} {n : Nat} {l : List α} (hn : ∀ a, (cells a).length = n) (hp : 0 < n) (h : Rd w A (l.flatMap cells)) {k : Nat} {x : α} (hk : l[k]? = some x) :
    ∃ b off, A = some ⟨b, off, none⟩ ∧ b < w.heap.size ∧ ∀ W, Below w.heap.size w W → Sem.run P (loadCellsFrom ⟨b, off + k * n, none⟩ 0 n #[]) W = .ok (cells x).toArray W := by
  obtain ⟨b, off, e, hb, hc⟩ := Rd.elem hn hp h hk
  refine ⟨b, off, e, hb, fun W hW => run_loadCellsFrom_list P W _ (cells x) n (hn x) fun j v hv => ?_⟩
  rw [Addr.add_lit, hW.cell (p := ⟨b, off + k * n + j, none⟩) hb, Nat.add_assoc]
  exact hc j v hv

end Go.Proofs.YtnioelkibghplaaGreat

namespace Go.Proofs.YtnioelkibghplaaGreat
open Go.ChangeShapes Go.WideShapes Go.ChangeAt Go.RowKit
set_option maxRecDepth 100000

theorem run_buildOne (P : Program) (w : World) (t e : TypeId) (cs : Array Value) (n : Nat) (z : Value) (bytes : Nat) (hu : P.underlying t = some (.slice e)) (hi : (P.info? e).map (fun i => (i.zero, i.size, i.bytes)) = some (some z, n, bytes)) (hp : 0 < n) (hn : n ≤ 16777216) (hc : cs.size = n) :
    (Instr.buildSlice t 1 #[(0, .agg cs)]).run P w = .ok (.slice (some ⟨w.heap.size, 0, none⟩) 1 1) (w.alloc (.cells cs e)) := by
  obtain ⟨ie, hie, hz0, hz1, hz2⟩ := infoParts hi
  refine run_buildSlice w t e 1 _ cs ie z hu hie hz0 (by rw [hz1]; omega) (by rw [hz1]; omega) ?_
  rw [hz1]
  obtain ⟨r, hr, hs, hk⟩ := Great.fill_dense hp [.agg cs] 0 ((Array.range (1 * n)).map (z.cells[· % z.cells.size]!)) (fun v hv => by simp at hv; subst hv; exact hc) (by simp)
  have : r = cs := by
    refine Array.ext_getElem? fun k => ?_
    rw [hk]
    have hsz : r.size = n := by rw [hs]; simp
    by_cases h : k < n
    · rw [if_pos (by simp; omega)]
      rw [Nat.div_eq_of_lt h, Nat.mod_eq_of_lt h]
      rfl
    · rw [if_neg (by simp; omega)]
      rw [Array.getElem?_eq_none (by simp; omega), Array.getElem?_eq_none (by omega)]
  subst this
  exact hr

end Go.Proofs.YtnioelkibghplaaGreat
