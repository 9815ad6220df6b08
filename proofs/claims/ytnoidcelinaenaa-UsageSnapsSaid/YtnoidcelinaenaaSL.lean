/-
  Slices of whatever elements, as lists in memory: how they came in, how they lie. No conditions.
-/
import Derived.Test.YtnoidcelinaenaaRD
import Derived.Test.YtnoidcelinaenaaGO
namespace Go.Proofs.Ytnoidcelinaenaa
open Go.ChangeShapes Go.WideShapes Go.ChangeAt Go.RowKit
set_option maxRecDepth 100000

/-- A slice in memory: where it lies, its elements, its capacity. -/
structure Sl (α : Type) where
  A : Option Addr
  l : List α
  c : Nat
abbrev Sl.val {α : Type} (s : Sl α) : Value := .slice s.A s.l.length s.c

/-- It came in: it reads, each element is good, it is no greater than an array may be. -/
structure SlGood {α : Type} (W : World) (cells : α → List Value) (good : α → Prop) (b : Nat) (s : Sl α) : Prop where
  rd : Rd W s.A (s.l.flatMap cells)
  el : ∀ y ∈ s.l, good y
  cap : s.l.length ≤ s.c
  nil : s.A = none → s.c = 0
  len : s.l.length * b ≤ 140737488351232
theorem SlGood.below {α : Type} {W W' : World} {cells : α → List Value} {good good' : α → Prop} {b : Nat} {s : Sl α} (h : SlGood W cells good b s) (hB : Below W.heap.size W W') (hg : ∀ y, good y → good' y) : SlGood W' cells good' b s :=
  ⟨h.rd.below hB, fun y hy => hg y (h.el y hy), h.cap, h.nil, h.len⟩
/-- It lies so, from block n on. -/
structure SlLies {α : Type} (n : Nat) (W : World) (cells : α → List Value) (lies : α → Prop) (s : Sl α) : Prop where
  rd : RdN n W s.A (s.l.flatMap cells)
  el : ∀ y ∈ s.l, lies y
theorem SlLies.imp {α : Type} {n n' : Nat} {W W' : World} {cells : α → List Value} {lies lies' : α → Prop} {s : Sl α} (h : SlLies n W cells lies s) (hr : RdN n W s.A (s.l.flatMap cells) → RdN n' W' s.A (s.l.flatMap cells)) (hl : ∀ y, lies y → lies' y) : SlLies n' W' cells lies' s :=
  ⟨hr h.rd, fun y hy => hl y (h.el y hy)⟩
theorem SlGood.lies {α : Type} {W : World} {cells : α → List Value} {good lies : α → Prop} {b : Nat} {s : Sl α} (h : SlGood W cells good b s) (hg : ∀ y, good y → lies y) : SlLies 0 W cells lies s :=
  ⟨RdN.zero h.rd, fun y hy => hg y (h.el y hy)⟩

section
variable {H : Type} {enc : TypeId × Value → H} {P : Program} {W : World}
theorem opensSl {t e : TypeId} {α : Type} {cells : α → List Value} {good : α → Prop} {n b : Nat} (ht : P.underlying t = some (.slice e)) (hc : P.cellsOf e = n) (hb : P.bytesOf e = b) (hpos : 0 < n) (hn : ∀ a, (cells a).length = n) (he : Opens enc P W e cells good) :
    Opens enc P W t (fun s : Sl α => [s.val]) (SlGood W cells good b) := fun fuel cs x h hf => by
  obtain ⟨A, l, c, rfl, hcap, hnil, hr, hg, hl⟩ := opens_slice ht hc hpos hn he h hf
  rw [hb] at hl
  exact ⟨⟨A, l, c⟩, rfl, hr, hg, hcap, hnil, hl⟩
theorem opensTx {t : TypeId} (ht : P.underlying t = some .string) : Opens enc P W t (fun s : ByteArray => [Value.string s]) (fun s => s.size ≤ 140737488351232) := fun fuel cs x h hf => by
  obtain ⟨s, rfl, rfl, _⟩ := DataW.trod_string ht h
  refine ⟨s, rfl, ?_⟩
  have := hf s.data.toList.length (by simp [DataW.weights])
  show s.data.size ≤ _
  rw [← Array.length_toList]
  exact this
theorem opensI64 {t : TypeId} (ht : P.underlying t = some (.int .i64)) : Opens enc P W t (fun n : Int => [Value.int .i64 n]) (fun n => -9223372036854775808 ≤ n ∧ n ≤ 9223372036854775807) := fun fuel cs x h _ => by
  obtain ⟨n, rfl, _, hw⟩ := DataW.trod_int ht h
  exact ⟨n, rfl, bounds_i64 hw⟩
theorem opensU8 {t : TypeId} (ht : P.underlying t = some (.int .u8)) : Opens enc P W t (fun n : Int => [Value.int .u8 n]) (fun n => 0 ≤ n ∧ n ≤ 255) := fun fuel cs x h _ => by
  obtain ⟨n, rfl, _, hw⟩ := DataW.trod_int ht h
  exact ⟨n, rfl, bounds_u8 hw⟩
theorem opensU32 {t : TypeId} (ht : P.underlying t = some (.int .u32)) : Opens enc P W t (fun n : Int => [Value.int .u32 n]) (fun n => (Lit.int .u32 n).wf = true) := fun fuel cs x h _ => by
  obtain ⟨n, rfl, _, hw⟩ := DataW.trod_int ht h
  exact ⟨n, rfl, hw⟩
theorem opensU64 {t : TypeId} (ht : P.underlying t = some (.int .u64)) : Opens enc P W t (fun n : Int => [Value.int .u64 n]) (fun n => (Lit.int .u64 n).wf = true) := fun fuel cs x h _ => by
  obtain ⟨n, rfl, _, hw⟩ := DataW.trod_int ht h
  exact ⟨n, rfl, hw⟩
theorem opensBo {t : TypeId} (ht : P.underlying t = some .bool) : Opens enc P W t (fun b : Bool => [Value.bool b]) (fun _ => True) := fun fuel cs x h _ => by
  obtain ⟨b, rfl, _⟩ := DataW.trod_bool ht h
  exact ⟨b, rfl, trivial⟩
/-- An argument of a type that is opened: a slice. -/
theorem argSl {r : Reach} {b0 : Nat} {v : Value} {d : DataW H} {ps : List MemPlace} {t e : TypeId} {α : Type} {good : Sl α → Prop} (ht : P.underlying t = some (.slice e)) (ho : Opens enc P W t (fun s : Sl α => [s.val]) good)
    (hval : Value.okWide P W r b0 t v) (hd : DataW.Trod enc P W 0 (fun _ => true) true t v d ps) (hf : Fit P t d) : ∃ s : Sl α, v = s.val ∧ good s := by
  obtain ⟨a0, len, cap, rfl⟩ := okWide_slice ht hval
  obtain ⟨fuel, hx⟩ := hd
  obtain ⟨s, hcs, hg⟩ := ho fuel _ _ hx hf
  have h1 : [Value.slice a0 len cap] = [s.val] := hcs
  injection h1 with h1
  exact ⟨s, h1, hg⟩
/-- An argument of a type that is opened: a struct by value. -/
theorem argSt {r : Reach} {b0 : Nat} {v : Value} {d : DataW H} {ps : List MemPlace} {t : TypeId} {fs : Array Field} {α : Type} {cells : α → List Value} {good : α → Prop} (ht : P.underlying t = some (.struct fs)) (ho : Opens enc P W t cells good)
    (hval : Value.okWide P W r b0 t v) (hd : DataW.Trod enc P W 0 (fun _ => true) true t v d ps) (hf : Fit P t d) : ∃ x : α, v = .agg (cells x).toArray ∧ good x := by
  obtain ⟨cs, rfl, _⟩ := okWide_struct ht hval
  obtain ⟨fuel, hx⟩ := hd
  have hcs : (Value.agg cs).cells.toList = cs.toList := rfl
  rw [hcs] at hx
  obtain ⟨x, h1, hg⟩ := ho fuel _ _ hx hf
  exact ⟨x, by rw [← h1], hg⟩
end

/-- An element's cells, where a slice reads. -/
theorem Rd.elem {w : World} {A : Option Addr} {α : Type} {cells : α → List Value} {n : Nat} {l : List α} (hn : ∀ a, (cells a).length = n) (hp : 0 < n) (h : Rd w A (l.flatMap cells)) {k : Nat} {x : α} (hk : l[k]? = some x) :
    ∃ b off, A = some ⟨b, off, none⟩ ∧ b < w.heap.size ∧ ∀ j u, (cells x)[j]? = some u → w.cell? ⟨b, off + (k * n + j), none⟩ = some u := by
  have key : ∀ j u, (cells x)[j]? = some u → (l.flatMap cells)[k * n + j]? = some u := fun j u hu => by
    have hj : j < n := by rw [← hn x]; exact (List.getElem?_eq_some_iff.1 hu).1
    rw [flat_at_of hn l k j x hk hj, hu]
  have h0 : ∃ u, (cells x)[0]? = some u := ⟨_, List.getElem?_eq_getElem (by rw [hn]; exact hp)⟩
  obtain ⟨u0, hu0⟩ := h0
  obtain ⟨b, off, e, hb, hc⟩ := h (by intro e; have := key 0 u0 hu0; rw [e] at this; simp at this)
  exact ⟨b, off, e, hb, fun j u hu => hc _ _ (key j u hu)⟩
theorem flat_snoc {α : Type} (cells : α → List Value) (l : List α) (x : α) : (l ++ [x]).flatMap cells = l.flatMap cells ++ cells x := by simp
/-- What an own row holds reads, from its base on. -/
theorem slLies_own {α : Type} {W : World} {base size n c : Nat} {e : TypeId} {cells : α → List Value} {lies : α → Prop} {A : Option Addr} {l : List α} (h : W.ownsRow base e size (.slice A n c) n (l.flatMap cells)) (hl : ∀ y ∈ l, lies y) (_hn : n = l.length) : SlLies base W cells lies ⟨A, l, c⟩ :=
  ⟨RdN.of_own h, hl⟩

end Go.Proofs.Ytnoidcelinaenaa
