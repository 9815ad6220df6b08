/-
 Slices of whatever elements, as lists in memory: how they came in, how they lie. No conditions.
-/
import Derived.Test.YtimmcmjipmkebaaGreatVRD
import Derived.Test.YtimmcmjipmkebaaGreatVGO
namespace Go.Proofs.YtimmcmjipmkebaaGreat
open Go.ChangeShapes Go.WideShapes Go.ChangeAt Go.RowKit
set_option maxRecDepth 100000
structure Sl (α : Type) where
 A : Option Addr
 l : List α
 c : Nat
abbrev Sl.val {α : Type} (s : Sl α) : Value := .slice s.A s.l.length s.c
structure SlGood {α : Type} (W : World) (cells : α → List Value) (good : α → Prop) (b : Nat) (s : Sl α) : Prop where
 rd : Rd W s.A (s.l.flatMap cells)
 el : ∀ y ∈ s.l, good y
 cap : s.l.length ≤ s.c
 nil : s.A = none → s.c = 0
 len : s.l.length * b ≤ 140737488351232
theorem SlGood.below {α : Type} {W W' : World} {cells : α → List Value} {good good' : α → Prop} {b : Nat} {s : Sl α} (h : SlGood W cells good b s) (hB : Below W.heap.size W W') (hg : ∀ y, good y → good' y) : SlGood W' cells good' b s :=
 ⟨h.rd.below hB, fun y hy => hg y (h.el y hy), h.cap, h.nil, h.len⟩
structure SlLies {α : Type} (n : Nat) (W : World) (cells : α → List Value) (lies : α → Prop) (s : Sl α) : Prop where
 rd : RdN n W s.A (s.l.flatMap cells)
 el : ∀ y ∈ s.l, lies y
theorem SlLies.imp {α : Type} {n n' : Nat} {W W' : World} {cells : α → List Value} {lies lies' : α → Prop} {s : Sl α} (h : SlLies n W cells lies s) (hr : RdN n W s.A (s.l.flatMap cells) → RdN n' W' s.A (s.l.flatMap cells)) (hl : ∀ y, lies y → lies' y) : SlLies n' W' cells lies' s :=
 ⟨hr h.rd, fun y hy => hl y (h.el y hy)⟩
theorem SlGood.lies {α : Type} {W : World} {cells : α → List Value} {good lies : α → Prop} {b : Nat} {s : Sl α} (h : SlGood W cells good b s) (hg : ∀ y, good y → lies y) : SlLies 0 W cells lies s :=
 ⟨RdN.zero h.rd, fun y hy => hg y (h.el y hy)⟩
section
variable {H : Type} {enc : TypeId × Value → H} {P : Program} {W : World}
theorem opensSl {t e : TypeId} {α : Type} {cells : α → List Value} {good : α → Prop} {n b : Nat} (ht : P.underlying t = some (.slice e)) (hc : P.cellsOf e = n) (hb : P.bytesOf e = b) (hpos : 0 < n) (hn : ∀ a, (cells a).length = n) (he : Opens enc P W e cells good) :
 Opens enc P W t (fun s : Sl α => [s.val]) (SlGood W cells good b) := fun fuel cs x h hf => by
 obtain ⟨A, l, c, rfl, hcap, hnil, hr, hg, hl⟩ := opens_slice ht hc hpos hn he h hf
 rw [hb] at hl
 exact ⟨⟨A, l, c⟩, rfl, hr, hg, hcap, hnil, hl⟩
theorem opensTx {t : TypeId} (ht : P.underlying t = some .string) : Opens enc P W t (fun s : ByteArray => [Value.string s]) (fun s => s.size ≤ 140737488351232) := fun fuel cs x h hf => by
 obtain ⟨s, rfl, rfl, _⟩ := DataW.trod_string ht h
 refine ⟨s, rfl, ?_⟩
 have := hf s.data.toList.length (by simp [DataW.weights])
 show s.data.size ≤ _
 rw [← Array.length_toList]
 exact this
theorem opensI64 {t : TypeId} (ht : P.underlying t = some (.int .i64)) : Opens enc P W t (fun n : Int => [Value.int .i64 n]) (fun n => -9223372036854775808 ≤ n ∧ n ≤ 9223372036854775807) := fun fuel cs x h _ => by
 obtain ⟨n, rfl, _, hw⟩ := DataW.trod_int ht h
 exact ⟨n, rfl, bounds_i64 hw⟩
theorem opensU64 {t : TypeId} (ht : P.underlying t = some (.int .u64)) : Opens enc P W t (fun n : Int => [Value.int .u64 n]) (fun n => (Lit.int .u64 n).wf = true) := fun fuel cs x h _ => by
 obtain ⟨n, rfl, _, hw⟩ := DataW.trod_int ht h
 exact ⟨n, rfl, hw⟩
theorem opensBo {t : TypeId} (ht : P.underlying t = some .bool) : Opens enc P W t (fun b : Bool => [Value.bool b]) (fun _ => True) := fun fuel cs x h _ => by
 obtain ⟨b, rfl, _⟩ := DataW.trod_bool ht h
 exact ⟨b, rfl, trivial⟩
end
theorem Rd.elem {w : World} {A : Option Addr} {α : Type} {cells : α → List Value} {n : Nat} {l : List α} (hn : ∀ a, (cells a).length = n) (hp : 0 < n) (h : Rd w A (l.flatMap cells)) {k : Nat} {x : α} (hk : l[k]? = some x) :
 ∃ b off, A = some ⟨b, off, none⟩ ∧ b < w.heap.size ∧ ∀ j u, (cells x)[j]? = some u → w.cell? ⟨b, off + (k * n + j), none⟩ = some u := by
 have key : ∀ j u, (cells x)[j]? = some u → (l.flatMap cells)[k * n + j]? = some u := fun j u hu => by
  have hj : j < n := by rw [← hn x]; exact (List.getElem?_eq_some_iff.1 hu).1
  rw [flat_at_of hn l k j x hk hj, hu]
 have h0 : ∃ u, (cells x)[0]? = some u := ⟨_, qZa (by rw [hn]; exact hp)⟩
 obtain ⟨u0, hu0⟩ := h0
 obtain ⟨b, off, e, hb, hc⟩ := h (by intro e; have := key 0 u0 hu0; rw [e] at this; simp at this)
 exact ⟨b, off, e, hb, fun j u hu => hc _ _ (key j u hu)⟩
theorem wpAppend1 {P : Program} {α : Type} {W : World} {ops : Array Oper} {rest : List Oper} {o : Oper} {a : Act} {Q : Exit → Act → World → Prop} {s x : Operand} {t e : TypeId} (hgd : o.guard = none)
 (ho : o.op = .call { callee := .builtin .append, args := #[s, x], argTypes := #[t, t] }) (ht : P.underlying t = some (.slice e)) {k bytes : Nat} {z : Value} (cells : α → List Value) (hk : ∀ a, (cells a).length = k) (hk0 : 0 < k) (hone : ∀ a, ∀ u ∈ cells a, u.oneCell' = true)
 (hinfo : (P.info? e).map (fun i => (i.zero, i.size, i.bytes)) = some (some z, k, bytes)) (hz : z.cells.size = k) {base : Nat} {w0 : World} {Av : Option Addr} {cv : Nat} {l : List α} (hB : Below base w0 W) (hsz : base ≤ W.heap.size)
 (hown : W.ownsRow base e k (.slice Av l.length cv) l.length (l.flatMap cells)) (y : α) (hs : a.eval s = .slice Av l.length cv) (hx : a.eval x = .slice (some ⟨W.heap.size, 0, none⟩) 1 1) (h63 : l.length + 1 ≤ maxLen) (hbytes : (l.length + 1) * bytes ≤ 140737488355328)
 (h : ∀ g c w', Hid (w'.ownsRow base e k (.slice (some ⟨g, 0, none⟩) (l.length + 1) c) (l ++ [y]).length ((l ++ [y]).flatMap cells)) → Hid (Below base w0 w') → wpList P ops Q rest (a.put o.dst (.slice (some ⟨g, 0, none⟩) (l.length + 1) c)) w') :
 wpList P ops Q (o :: rest) a (W.alloc (.cells (cells y).toArray e)) := by
 obtain ⟨i0, hi, hz0, hz1, hz2⟩ := infoParts hinfo
 refine wpList_append_lies _ hgd s x t ho base e i0 z k bytes ht hi hz0 hz1 hz2 hz hk0 (.slice Av l.length cv) l.length (l.flatMap cells) hs (zgQ hown ((Below.refl _ _).alloc (Nat.le_refl _) _) (Nat.le_refl _)) ⟨W.heap.size, 0, none⟩ 1 1 (cells y) hx (by rw [hk, Nat.one_mul]) (newsNew _ _ _) (hone y) (by omega) h63 hbytes (by simp; omega) _ rfl ?_
 intro g c w' ho' hg' _ _
 refine h g c w' (zI ?_) (zI ((hB.alloc hsz _).grown hg' (by simp; omega) (fun j e => (hown.lt j e).1)))
 rw [List.length_append, List.flatMap_append]
 simpa using ho'
theorem infoSt : (Tryz.prog.info? 9).map (fun i => (i.zero, i.size, i.bytes)) = some (some (.string ByteArray.empty), 1, 16) := by kernel_rfl
abbrev ownT (w : World) (base : Nat) (v : Value) (l : List ByteArray) : Prop := w.ownsRow base 9 1 v l.length (l.map Value.string)
theorem flatT (l : List ByteArray) : l.flatMap (fun s => [Value.string s]) = l.map Value.string := by
 induction l with
 | nil => rfl
 | cons x l ih => rw [List.flatMap_cons, ih]; rfl
theorem wpAppT {W : World} {ops : Array Oper} {rest : List Oper} {o : Oper} {a : Act} {Q : Exit → Act → World → Prop} {s x : Operand} (hgd : o.guard = none)
 (ho : o.op = .call { callee := .builtin .append, args := #[s, x], argTypes := #[46, 46] }) {base : Nat} {w0 : World} {Av : Option Addr} {cv n : Nat} {l : List ByteArray} (hB : Below base w0 W) (hsz : base ≤ W.heap.size)
 (hown : ownT W base (.slice Av n cv) l) (hn : l.length = n) (y : ByteArray) (hs : a.eval s = .slice Av n cv) (hx : a.eval x = .slice (some ⟨W.heap.size, 0, none⟩) 1 1) (hl : n < 8796093022207)
 (h : ∀ g c w', Hid (ownT w' base (.slice (some ⟨g, 0, none⟩) (n + 1) c) (l ++ [y])) → Hid (Below base w0 w') → wpList Tryz.prog ops Q rest (a.put o.dst (.slice (some ⟨g, 0, none⟩) (n + 1) c)) w') :
 wpList Tryz.prog ops Q (o :: rest) a (W.alloc (.cells #[.string y] 9)) := by
 subst hn
 refine wpAppend1 hgd ho Tryz.underlying46 (fun s => [Value.string s]) (fun _ => rfl) (by decide) (fun y u hu => by rw [List.mem_singleton] at hu; subst hu; rfl) infoSt rfl hB hsz (by rw [flatT]; exact hown) y hs hx (by unfold maxLen; omega) (by omega) (fun g c w' h1 h2 => h g c w' (zI (by have := h1.out; rw [flatT] at this; exact this)) h2)
def Keeps (e : TypeId) (W W' : World) : Prop := ∀ (b : Nat) (cur : Array Value) (e' : TypeId), W.heap[b]? = some (Obj.cells cur e' (0, 0)) → e' ≠ e → W'.heap[b]? = W.heap[b]?
theorem zbX {W W' : World} {n size k : Nat} {e e' : TypeId} {v : Value} {xs : List Value} (h : W.ownsRow n e' size v k xs) (hne : e' ≠ e) (hk : Keeps e W W') : W'.ownsRow n e' size v k xs := by
 rcases h with ⟨h0, h1 | ⟨g, cap, cur, hv, hn, hb, h2, h3, h4, h5⟩⟩
 · exact ⟨h0, .inl h1⟩
 · exact ⟨h0, .inr ⟨g, cap, cur, hv, hn, (hk g cur e' hb hne).trans hb, h2, h3, h4, h5⟩⟩
theorem wpAppendK {P : Program} {α : Type} {W : World} {ops : Array Oper} {rest : List Oper} {o : Oper} {a : Act} {Q : Exit → Act → World → Prop} {s x : Operand} {t e : TypeId} (hgd : o.guard = none)
 (ho : o.op = .call { callee := .builtin .append, args := #[s, x], argTypes := #[t, t] }) (ht : P.underlying t = some (.slice e)) {k bytes : Nat} {z : Value} (cells : α → List Value) (hk : ∀ a, (cells a).length = k) (hk0 : 0 < k) (hone : ∀ a, ∀ u ∈ cells a, u.oneCell' = true)
 (hinfo : (P.info? e).map (fun i => (i.zero, i.size, i.bytes)) = some (some z, k, bytes)) (hz : z.cells.size = k) {base : Nat} {w0 : World} {Av : Option Addr} {cv : Nat} {l : List α} (hB : Below base w0 W) (hsz : base ≤ W.heap.size)
 (hown : W.ownsRow base e k (.slice Av l.length cv) l.length (l.flatMap cells)) (y : α) (hs : a.eval s = .slice Av l.length cv) (hx : a.eval x = .slice (some ⟨W.heap.size, 0, none⟩) 1 1) (h63 : l.length + 1 ≤ maxLen) (hbytes : (l.length + 1) * bytes ≤ 140737488355328)
 (h : ∀ g c w', Hid (w'.ownsRow base e k (.slice (some ⟨g, 0, none⟩) (l.length + 1) c) (l ++ [y]).length ((l ++ [y]).flatMap cells)) → Hid (Below base w0 w') → Hid (Keeps e W w') → wpList P ops Q rest (a.put o.dst (.slice (some ⟨g, 0, none⟩) (l.length + 1) c)) w') :
 wpList P ops Q (o :: rest) a (W.alloc (.cells (cells y).toArray e)) := by
 obtain ⟨i0, hi, hz0, hz1, hz2⟩ := infoParts hinfo
 refine wpList_append_lies _ hgd s x t ho base e i0 z k bytes ht hi hz0 hz1 hz2 hz hk0 (.slice Av l.length cv) l.length (l.flatMap cells) hs (zgQ hown ((Below.refl _ _).alloc (Nat.le_refl _) _) (Nat.le_refl _)) ⟨W.heap.size, 0, none⟩ 1 1 (cells y) hx (by rw [hk, Nat.one_mul]) (newsNew _ _ _) (hone y) (by omega) h63 hbytes (by simp; omega) _ rfl ?_
 intro g c w' ho' hg' _ _
 refine h g c w' (zI ?_) (zI ((hB.alloc hsz _).grown hg' (by simp; omega) (fun j e => (hown.lt j e).1))) (zI fun b cur e' hb hne => ?_)
 · rw [List.length_append, List.flatMap_append]
   simpa using ho'
 · have hlt : b < W.heap.size := (Array.getElem?_eq_some_iff.1 hb).1
   have hnb : (Value.slice Av l.length cv).ownBlock ≠ some b := by
    intro e2
    rcases hown with ⟨_, ⟨hv, _⟩ | ⟨g2, cap, cur2, hv, _, hb2, _⟩⟩
    · rw [hv] at e2
      cases e2
    · rw [hv] at e2
      injection e2 with e2
      subst e2
      rw [hb] at hb2
      injection hb2 with hb2
      injection hb2 with _ h6 _
      exact hne h6
   have h1 : (W.alloc (.cells (cells y).toArray e)).heap[b]? = W.heap[b]? := ((Below.refl W.heap.size W).alloc (Nat.le_refl _) _).block b hlt
   rw [← h1]
   exact hg'.block b (by simp; omega) (fun e3 => hnb e3.symm)
theorem own_setT {W : World} {n e e2 size k B j : Nat} {v u : Value} {xs C : List Value} (h : W.ownsRow n e size v k xs) (hb : Blk W B e2 C) (hne : e ≠ e2) : (W.setCell ⟨B, j, none⟩ u).ownsRow n e size v k xs :=
 ownStay h fun b hv => heap_setCell_other W ⟨B, j, none⟩ b u (by
  intro e1
  have e1 : b = B := e1
  subst e1
  rcases h.2 with ⟨rfl, _⟩ | ⟨g, cap, cur, rfl, _, hg, _⟩
  · simp [Value.ownBlock] at hv
  · simp only [Value.ownBlock, Option.some.injEq] at hv
    subst hv
    unfold Blk at hb
    rw [hg] at hb
    injection hb with hb
    injection hb with _ h6 _
    exact hne h6)
theorem Blk.keep {W W' : World} {g : Nat} {t e : TypeId} {vs : List Value} (h : Blk W g t vs) (hk : Keeps e W W') (hne : t ≠ e) : Blk W' g t vs := (hk g _ t h hne).trans h
theorem Blk.of {W W' : World} {g : Nat} {t : TypeId} {vs : List Value} (h : Blk W g t vs) (hB : Below W.heap.size W W') : Blk W' g t vs := h.below hB h.lt
theorem Keeps.refl (e : TypeId) (W : World) : Keeps e W W := fun _ _ _ _ _ => rfl
theorem Keeps.trans {e : TypeId} {W W' W'' : World} (h : Keeps e W W') (h' : Keeps e W' W'') : Keeps e W W'' := fun b cur e' hb hne => (h' b cur e' ((h b cur e' hb hne).trans hb) hne).trans (h b cur e' hb hne)
theorem Keeps.set {e : TypeId} {W : World} {B : Nat} {C : List Value} (hb : Blk W B e C) (j : Nat) (u : Value) : Keeps e W (W.setCell ⟨B, j, none⟩ u) := fun b cur e' h hne => heap_setCell_other W ⟨B, j, none⟩ b u (by
 intro e1
 have e1 : b = B := e1
 subst e1
 unfold Blk at hb
 rw [h] at hb
 injection hb with hb
 injection hb with _ h6 _
 exact hne h6)
end Go.Proofs.YtimmcmjipmkebaaGreat
