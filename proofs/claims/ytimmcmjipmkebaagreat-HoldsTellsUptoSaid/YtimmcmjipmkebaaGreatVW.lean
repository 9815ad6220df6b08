/-
 Words for slices that read as lists, and what keeps them. No conditions.
-/
import Derived.Test.YtimmcmjipmkebaaGreatRows
import Derived.WalkKit
import Derived.ProofKit
import Derived.OpenShut
import Derived.Below
import Derived.OwnWalk
import Derived.Laws.OwnMore
import Derived.Laws.BytesArg
import Derived.Deep.AppendLies
import Derived.Deep.Draws
import Derived.Deep.RegionLaw
import Derived.Laws.AppendOwnNone
import Derived.Lib.Hide
import Derived.SizedLaws
import Derived.Carry
namespace Go.Proofs.YtimmcmjipmkebaaGreat
open Go.ChangeShapes Go.WideShapes Go.ChangeAt Go.RowKit
theorem zP : (∀ (a : Act) (d : Tmp) (v : Value), Act.put a (some d) v = { a with tmps := a.tmps.setIfInBounds d v }) ∧ (∀ (a : Act) (v : Value), Act.put a none v = a) ∧ (∀ {α : Type} (l : List α) (i : Nat) (a : α), l.toArray.setIfInBounds i a = (l.set i a).toArray) ∧ (∀ {α : Type} (a b : α) (l : List α), (a :: l).set 0 b = b :: l) ∧ (∀ {α : Type} (a b : α) (l : List α) (n : Nat), (a :: l).set (n + 1) b = a :: l.set n b) := ⟨fun _ _ _ => rfl, fun _ _ => rfl, fun _ _ _ => List.setIfInBounds_toArray .., fun _ _ _ => rfl, fun _ _ _ _ => rfl⟩
theorem zI {p : Prop} (h : p) : RowKit.Hid p := h
theorem mG {α : Type} {l : List α} {i : Nat} {a : α} (h : l[i]? = some a) : a ∈ l := List.mem_of_getElem? h
theorem pZa {α : Type} (l : List α) (i : Nat) (a : α) : l.toArray.setIfInBounds i a = (l.set i a).toArray := List.setIfInBounds_toArray ..
theorem pZb {α : Type} (a b : α) (l : List α) : (a :: l).set 0 b = b :: l := rfl
theorem pZc {α : Type} (a b : α) (l : List α) (n : Nat) : (a :: l).set (n + 1) b = a :: l.set n b := rfl
theorem qZa {α : Type} {l : List α} {i : Nat} (h : i < l.length) : l[i]? = some l[i] := List.getElem?_eq_getElem h
theorem gZa {α : Type} (a : α) (l : List α) : (a :: l)[0]? = some a := rfl
theorem gZb {α : Type} (a : α) (l : List α) (n : Nat) : (a :: l)[n + 1]? = l[n]? := rfl
set_option maxRecDepth 100000
def Rd (w : World) (A : Option Addr) (vs : List Value) : Prop :=
 vs ≠ [] → ∃ b off, A = some ⟨b, off, none⟩ ∧ b < w.heap.size ∧ ∀ j u, vs[j]? = some u → w.cell? ⟨b, off + j, none⟩ = some u
def RdB (w : World) (A : Option Addr) (zs : List Int) : Prop := Rd w A (zs.map (Value.int .u8))
def Octs (zs : List Int) : Prop := ∀ z ∈ zs, 0 ≤ z ∧ z ≤ 255
theorem Octs.at_ {zs : List Int} (h : Octs zs) (k : Nat) : 0 ≤ zs[k]?.getD 0 ∧ zs[k]?.getD 0 ≤ 255 := by
 rcases hk : zs[k]? with _ | z
 · simp
 · exact h z (mG hk)
theorem Rd.nil (w : World) (A : Option Addr) : Rd w A [] := fun h => absurd rfl h
theorem RdB.nil (w : World) (A : Option Addr) : RdB w A [] := fun h => absurd rfl h
theorem Rd.keep {w w' : World} {A : Option Addr} {vs : List Value} (h : Rd w A vs) (hs : w.heap.size ≤ w'.heap.size)
 (hk : ∀ b o, b < w.heap.size → w'.cell? ⟨b, o, none⟩ = w.cell? ⟨b, o, none⟩) : Rd w' A vs := fun hv => by
 obtain ⟨b, off, e, hb, hc⟩ := h hv
 exact ⟨b, off, e, by omega, fun j u hu => (hk b _ hb).trans (hc j u hu)⟩
theorem Rd.below {w w' : World} {A : Option Addr} {vs : List Value} (h : Rd w A vs) (hb : Below w.heap.size w w') : Rd w' A vs :=
 h.keep hb.size fun b o hlt => hb.cell (p := ⟨b, o, none⟩) hlt
theorem RdB.below {w w' : World} {A : Option Addr} {zs : List Int} (h : RdB w A zs) (hb : Below w.heap.size w w') : RdB w' A zs := Rd.below h hb
theorem RdB.cell {w : World} {A : Option Addr} {zs : List Int} (h : RdB w A zs) {k : Nat} (hk : k < zs.length) :
 ∃ b off, A = some ⟨b, off, none⟩ ∧ b < w.heap.size ∧ w.cell? ⟨b, off + k, none⟩ = some (.int .u8 (zs[k]?.getD 0)) := by
 obtain ⟨b, off, e, hb, hc⟩ := h (by intro h0; have := congrArg List.length h0; simp at this; subst this; simp at hk)
 exact ⟨b, off, e, hb, hc k _ (by simp [List.getElem?_map, List.getElem?_eq_getElem hk])⟩
theorem Rd.of_own {w : World} {base : Nat} {e : TypeId} {c n : Nat} {A : Option Addr} {vs : List Value} (h : w.ownsRow base e 1 (.slice A n c) n vs) : Rd w A vs := fun hv => by
 have hl : vs.length = n := by have := h.1; omega
 have hn : 0 < n := by
  rcases Nat.eq_zero_or_pos n with h0 | h0
  · subst h0; exact absurd (List.eq_nil_of_length_eq_zero hl) hv
  · exact h0
 obtain ⟨g, cap, hvv, _, hlt⟩ := h.form hn
 have hA : A = some ⟨g, 0, none⟩ := by injection hvv
 subst hA
 refine ⟨g, 0, rfl, hlt, fun j u hu => ?_⟩
 have := h.cells (g := g) rfl j u hu
 rw [add_plain] at this
 exact this
def Blk (w : World) (g : Nat) (t : TypeId) (vs : List Value) : Prop := w.heap[g]? = some (.cells vs.toArray t (0, 0))
theorem Blk.cell {w : World} {g : Nat} {t : TypeId} {vs : List Value} (h : Blk w g t vs) (j : Nat) : w.cell? ⟨g, j, none⟩ = vs[j]? := by
 rw [cell_of_row w g j _ t _ h]
 simp
theorem Blk.frozen {w : World} {g : Nat} {t : TypeId} {vs : List Value} (h : Blk w g t vs) (j : Nat) : w.frozen? ⟨g, j, none⟩ = false := frozen_of_row w g j _ t h
theorem Blk.lt {w : World} {g : Nat} {t : TypeId} {vs : List Value} (h : Blk w g t vs) : g < w.heap.size := (Array.getElem?_eq_some_iff.1 h).1
theorem Blk.set {w : World} {g : Nat} {t : TypeId} {vs : List Value} (h : Blk w g t vs) (j : Nat) (u : Value) : Blk (w.setCell ⟨g, j, none⟩ u) g t (vs.set j u) := by
 unfold Blk
 rw [heap_setCell_same w g j _ t u h]
 simp
theorem Blk.other {w : World} {g : Nat} {t : TypeId} {vs : List Value} (h : Blk w g t vs) {g' : Nat} (hg : g ≠ g') (j : Nat) (u : Value) : Blk (w.setCell ⟨g', j, none⟩ u) g t vs :=
 (heap_setCell_other w ⟨g', j, none⟩ g u hg).trans h
theorem Blk.new (w : World) (vs : List Value) (t : TypeId) : Blk (w.alloc (.cells vs.toArray t)) w.heap.size t vs := heap_alloc_new w _
theorem Blk.below {w w' : World} {g n : Nat} {t : TypeId} {vs : List Value} (h : Blk w g t vs) (hb : Below n w w') (hn : g < n) : Blk w' g t vs := (hb.block g hn).trans h
theorem Blk.alloc {w : World} {g : Nat} {t : TypeId} {vs : List Value} (h : Blk w g t vs) (o : Obj) : Blk (w.alloc o) g t vs := h.below ((Below.refl w.heap.size w).alloc (Nat.le_refl _) o) h.lt
theorem Blk.drew {w : World} {g : Nat} {t : TypeId} {vs : List Value} (h : Blk w g t vs) : Blk w.drew g t vs := h
theorem Rd.other {w : World} {b off : Nat} {vs : List Value} (h : Rd w (some ⟨b, off, none⟩) vs) {g' : Nat} (hg : b ≠ g') (j : Nat) (u : Value) : Rd (w.setCell ⟨g', j, none⟩ u) (some ⟨b, off, none⟩) vs := fun hv => by
 obtain ⟨b', off', e, hb, hc⟩ := h hv
 injection e with e
 injection e with e1 e2
 subst e1 e2
 refine ⟨b, off, rfl, by simpa using hb, fun i v hi => ?_⟩
 rw [World.cell?_setCell_other _ _ _ _ (fun e => hg (by injection e with e _; exact e.symm))]
 exact hc i v hi
theorem trodAll_below {H : Type} {enc : TypeId × Value → H} {P : Program} (hl : laidOutB P = true) {W W' : World} (hb : Below W.heap.size W W') :
 ∀ {ts : List TypeId} {vs : List Value} {ds : List (DataW H)} {ps : List MemPlace}, (∀ t ∈ ts, P.readableRec t = true ∧ t < P.types.size) → DataW.TrodAll enc P W 0 (fun _ => true) true ts vs ds ps →
  (∀ x ∈ ps, x.block < W.heap.size) → DataW.TrodAll enc P W' 0 (fun b => decide (b < W.heap.size)) true ts vs ds ps
 | [], vs, ds, ps, _, h, _ => by
  obtain ⟨rfl, rfl, rfl⟩ := trodAll_nil h
  exact trodAll_mk0
 | t :: ts, vs, ds, ps, ht, h, hlt => by
  obtain ⟨v, vs', d, ds', p, q, rfl, rfl, rfl, h0, hs⟩ := trodAll_cons h
  have h1 := ht t (by simp)
  exact trodAll_cons_mk (Below.trod hl h1.1 h1.2 h0 hb (fun x hx => hlt x (by simp [hx]))) (trodAll_below hl hb (fun u hu => ht u (by simp [hu])) hs (fun x hx => hlt x (by simp [hx])))
theorem law_post {H : Type} {enc : TypeId × Value → H} {P : Program} {f : Func} {s : ChangeSpec} {apart fresh : Bool} {W W' : World} {args : Array Value} {ds : List (DataW H)} {before : List MemPlace} {tb : TypeId}
 (hl : laidOutB P = true) (hr : ∀ t ∈ f.params.toList, P.readableRec t = true ∧ t < P.types.size) (hv : s.vars = []) (hres : f.resultTypes = #[tb]) (htb : P.underlying tb = some .bool)
 (hW : DataW.Whole enc P f.params.toList s.vars apart W args.toList ds [] before) (hB : Below W.heap.size W W')
 (h1 : (s.fn H (ds ++ [])).results = [.lit (.bool true)]) (h2 : (s.fn H (ds ++ [])).args = ds) (h3 : (s.fn H (ds ++ [])).vars = []) :
 s.post enc P f apart fresh false false W args (.bool true) W' := by
 have hlt : ∀ x ∈ before, x.block < W.heap.size := fun x hx => hW.lt x hx
 have hW0 := hW
 obtain ⟨p, q, hA, hV, rfl, _, _⟩ := hW
 refine ⟨ds, [], p ++ q, [], p, [], hW0, ?_, ?_, ?_, hB.frame _, fun h => by cases h⟩
 · rw [h1, hres]
   exact trodAll_mk1 (shut_bool htb true)
 · rw [h2]
   exact trodAll_below hl hB hr hA (fun x hx => hlt x (by simp [hx]))
 · rw [h3, hv]
   rfl
end Go.Proofs.YtimmcmjipmkebaaGreat
