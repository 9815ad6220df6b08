/-
  What an append, or a store, leaves as it was: blocks of other types. No conditions.
-/
import Derived.Test.YtnoidcelinaenaaAP
namespace Go.Proofs.Ytnoidcelinaenaa
open Go.ChangeShapes Go.WideShapes Go.ChangeAt Go.RowKit
set_option maxRecDepth 100000

/-- Rows of other kinds than e stay. -/
def Keeps (e : TypeId) (W W' : World) : Prop := ∀ (b : Nat) (cur : Array Value) (e' : TypeId), W.heap[b]? = some (Obj.cells cur e' (0, 0)) → e' ≠ e → W'.heap[b]? = W.heap[b]?

theorem own_keeps {W W' : World} {n size k : Nat} {e e' : TypeId} {v : Value} {xs : List Value} (h : W.ownsRow n e' size v k xs) (hne : e' ≠ e) (hk : Keeps e W W') : W'.ownsRow n e' size v k xs := by
  rcases h with ⟨h0, h1 | ⟨g, cap, cur, hv, hn, hb, h2, h3, h4, h5⟩⟩
  · exact ⟨h0, .inl h1⟩
  · exact ⟨h0, .inr ⟨g, cap, cur, hv, hn, (hk g cur e' hb hne).trans hb, h2, h3, h4, h5⟩⟩

/-- append of one element: what is kept of other rows, too. -/
theorem wpAppendK {P : Program} {α : Type} {W : World} {ops : Array Oper} {rest : List Oper} {o : Oper} {a : Act} {Q : Exit → Act → World → Prop} {s x : Operand} {t e : TypeId} (hgd : o.guard = none)
    (ho : o.op = .call { callee := .builtin .append, args := #[s, x], argTypes := #[t, t] }) (ht : P.underlying t = some (.slice e)) {k bytes : Nat} {z : Value} (cells : α → List Value) (hk : ∀ a, (cells a).length = k) (hk0 : 0 < k) (hone : ∀ a, ∀ u ∈ cells a, u.oneCell' = true)
    (hinfo : (P.info? e).map (fun i => (i.zero, i.size, i.bytes)) = some (some z, k, bytes)) (hz : z.cells.size = k) {base : Nat} {w0 : World} {Av : Option Addr} {cv : Nat} {l : List α} (hB : Below base w0 W) (hsz : base ≤ W.heap.size)
    (hown : W.ownsRow base e k (.slice Av l.length cv) l.length (l.flatMap cells)) (y : α) (hs : a.eval s = .slice Av l.length cv) (hx : a.eval x = .slice (some ⟨W.heap.size, 0, none⟩) 1 1) (h63 : l.length + 1 ≤ maxLen) (hbytes : (l.length + 1) * bytes ≤ 140737488355328)
    (h : ∀ g c w', Hid (w'.ownsRow base e k (.slice (some ⟨g, 0, none⟩) (l.length + 1) c) (l ++ [y]).length ((l ++ [y]).flatMap cells)) → Hid (Below base w0 w') → Hid (Keeps e W w') → wpList P ops Q rest (a.put o.dst (.slice (some ⟨g, 0, none⟩) (l.length + 1) c)) w') :
    wpList P ops Q (o :: rest) a (W.alloc (.cells (cells y).toArray e)) := by
  obtain ⟨i0, hi, hz0, hz1, hz2⟩ := infoParts hinfo
  refine wpList_append_lies _ hgd s x t ho base e i0 z k bytes ht hi hz0 hz1 hz2 hz hk0 (.slice Av l.length cv) l.length (l.flatMap cells) hs (ownBelow hown ((Below.refl _ _).alloc (Nat.le_refl _) _) (Nat.le_refl _)) ⟨W.heap.size, 0, none⟩ 1 1 (cells y) hx (by rw [hk, Nat.one_mul]) (newsNew _ _ _) (hone y) (by omega) h63 hbytes (by simp; omega) _ rfl ?_
  intro g c w' ho' hg' _ _
  refine h g c w' (Lib.hid ?_) (Lib.hid ((hB.alloc hsz _).grown hg' (by simp; omega) (fun j e => (hown.lt j e).1))) (Lib.hid fun b cur e' hb hne => ?_)
  · rw [List.length_append, List.flatMap_append]
    simpa using ho'
  · have hlt : b < W.heap.size := (Array.getElem?_eq_some_iff.1 hb).1
    have hnb : (Value.slice Av l.length cv).ownBlock ≠ some b := by
      intro e2
      rcases hown with ⟨_, ⟨hv, _⟩ | ⟨g2, cap, cur2, hv, _, hb2, _⟩⟩
      · rw [hv] at e2
        cases e2
      · rw [hv] at e2
        injection e2 with e2
        subst e2
        rw [hb] at hb2
        injection hb2 with hb2
        injection hb2 with _ h6 _
        exact hne h6
    have h1 : (W.alloc (.cells (cells y).toArray e)).heap[b]? = W.heap[b]? := ((Below.refl W.heap.size W).alloc (Nat.le_refl _) _).block b hlt
    rw [← h1]
    exact hg'.block b (by simp; omega) (fun e3 => hnb e3.symm)

theorem own_setT {W : World} {n e e2 size k B j : Nat} {v u : Value} {xs C : List Value} (h : W.ownsRow n e size v k xs) (hb : Blk W B e2 C) (hne : e ≠ e2) : (W.setCell ⟨B, j, none⟩ u).ownsRow n e size v k xs :=
  ownStay h fun b hv => heap_setCell_other W ⟨B, j, none⟩ b u (by
    intro e1
    have e1 : b = B := e1
    subst e1
    rcases h.2 with ⟨rfl, _⟩ | ⟨g, cap, cur, rfl, _, hg, _⟩
    · simp [Value.ownBlock] at hv
    · simp only [Value.ownBlock, Option.some.injEq] at hv
      subst hv
      unfold Blk at hb
      rw [hg] at hb
      injection hb with hb
      injection hb with _ h6 _
      exact hne h6)

theorem Blk.keep {W W' : World} {g : Nat} {t e : TypeId} {vs : List Value} (h : Blk W g t vs) (hk : Keeps e W W') (hne : t ≠ e) : Blk W' g t vs := (hk g _ t h hne).trans h

theorem Blk.of {W W' : World} {g : Nat} {t : TypeId} {vs : List Value} (h : Blk W g t vs) (hB : Below W.heap.size W W') : Blk W' g t vs := h.below hB h.lt

theorem Keeps.refl (e : TypeId) (W : World) : Keeps e W W := fun _ _ _ _ _ => rfl

theorem Keeps.trans {e : TypeId} {W W' W'' : World} (h : Keeps e W W') (h' : Keeps e W' W'') : Keeps e W W'' := fun b cur e' hb hne => (h' b cur e' ((h b cur e' hb hne).trans hb) hne).trans (h b cur e' hb hne)

theorem Keeps.set {e : TypeId} {W : World} {B : Nat} {C : List Value} (hb : Blk W B e C) (j : Nat) (u : Value) : Keeps e W (W.setCell ⟨B, j, none⟩ u) := fun b cur e' h hne => heap_setCell_other W ⟨B, j, none⟩ b u (by
  intro e1
  have e1 : b = B := e1
  subst e1
  unfold Blk at hb
  rw [h] at hb
  injection hb with hb
  injection hb with _ h6 _
  exact hne h6)

theorem own_not {W : World} {base size n F : Nat} {e T : TypeId} {v : Value} {xs vs : List Value} (h : W.ownsRow base e size v n xs) (hb : Blk W F T vs) (hT : T ≠ e) : v.ownBlock ≠ some F := by
  intro e2
  rcases h with ⟨_, ⟨hv, _⟩ | ⟨g2, cap, cur2, hv, _, hb2, _⟩⟩
  · rw [hv] at e2
    cases e2
  · rw [hv] at e2
    injection e2 with e2
    have e3 : g2 = F := e2
    subst e3
    rw [show W.heap[g2]? = _ from hb] at hb2
    injection hb2 with hb2
    injection hb2 with _ h6 _
    exact hT h6
theorem keeps_grown {W w' : World} {base size n : Nat} {e : TypeId} {v : Value} {xs : List Value} (h : W.ownsRow base e size v n xs) (o : Obj) (hg : (W.alloc o).grownBy w' v.ownBlock) : Keeps e W w' := fun b cur e' hb hne => by
  have hlt : b < W.heap.size := (Array.getElem?_eq_some_iff.1 hb).1
  have hnb : v.ownBlock ≠ some b := by
    intro e2
    rcases h with ⟨_, ⟨hv, _⟩ | ⟨g2, cap, cur2, hv, _, hb2, _⟩⟩
    · rw [hv] at e2
      cases e2
    · rw [hv] at e2
      injection e2 with e2
      have e3 : g2 = b := e2
      subst e3
      rw [hb] at hb2
      injection hb2 with hb2
      injection hb2 with _ h6 _
      exact hne h6
  have h1 : (W.alloc o).heap[b]? = W.heap[b]? := ((Below.refl W.heap.size W).alloc (Nat.le_refl _) _).block b hlt
  rw [← h1]
  exact hg.block b (by simp; omega) (fun e3 => hnb e3.symm)

end Go.Proofs.Ytnoidcelinaenaa
