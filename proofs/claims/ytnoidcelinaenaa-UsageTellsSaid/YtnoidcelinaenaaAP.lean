/-
  append of one element, made by the region itself, to a list of the call's own. No conditions.
-/
import Derived.Test.YtnoidcelinaenaaSL
namespace Go.Proofs.Ytnoidcelinaenaa
open Go.ChangeShapes Go.WideShapes Go.ChangeAt Go.RowKit
set_option maxRecDepth 100000

theorem wpAppend1 {P : Program} {α : Type} {W : World} {ops : Array Oper} {rest : List Oper} {o : Oper} {a : Act} {Q : Exit → Act → World → Prop} {s x : Operand} {t e : TypeId} (hgd : o.guard = none)
    (ho : o.op = .call { callee := .builtin .append, args := #[s, x], argTypes := #[t, t] }) (ht : P.underlying t = some (.slice e)) {k bytes : Nat} {z : Value} (cells : α → List Value) (hk : ∀ a, (cells a).length = k) (hk0 : 0 < k) (hone : ∀ a, ∀ u ∈ cells a, u.oneCell' = true)
    (hinfo : (P.info? e).map (fun i => (i.zero, i.size, i.bytes)) = some (some z, k, bytes)) (hz : z.cells.size = k) {base : Nat} {w0 : World} {Av : Option Addr} {cv : Nat} {l : List α} (hB : Below base w0 W) (hsz : base ≤ W.heap.size)
    (hown : W.ownsRow base e k (.slice Av l.length cv) l.length (l.flatMap cells)) (y : α) (hs : a.eval s = .slice Av l.length cv) (hx : a.eval x = .slice (some ⟨W.heap.size, 0, none⟩) 1 1) (h63 : l.length + 1 ≤ maxLen) (hbytes : (l.length + 1) * bytes ≤ 140737488355328)
    (h : ∀ g c w', Hid (w'.ownsRow base e k (.slice (some ⟨g, 0, none⟩) (l.length + 1) c) (l ++ [y]).length ((l ++ [y]).flatMap cells)) → Hid (Below base w0 w') → wpList P ops Q rest (a.put o.dst (.slice (some ⟨g, 0, none⟩) (l.length + 1) c)) w') :
    wpList P ops Q (o :: rest) a (W.alloc (.cells (cells y).toArray e)) := by
  obtain ⟨i0, hi, hz0, hz1, hz2⟩ := infoParts hinfo
  refine wpList_append_lies _ hgd s x t ho base e i0 z k bytes ht hi hz0 hz1 hz2 hz hk0 (.slice Av l.length cv) l.length (l.flatMap cells) hs (ownBelow hown ((Below.refl _ _).alloc (Nat.le_refl _) _) (Nat.le_refl _)) ⟨W.heap.size, 0, none⟩ 1 1 (cells y) hx (by rw [hk, Nat.one_mul]) (newsNew _ _ _) (hone y) (by omega) h63 hbytes (by simp; omega) _ rfl ?_
  intro g c w' ho' hg' _ _
  refine h g c w' (Lib.hid ?_) (Lib.hid ((hB.alloc hsz _).grown hg' (by simp; omega) (fun j e => (hown.lt j e).1)))
  rw [List.length_append, List.flatMap_append]
  simpa using ho'

end Go.Proofs.Ytnoidcelinaenaa
