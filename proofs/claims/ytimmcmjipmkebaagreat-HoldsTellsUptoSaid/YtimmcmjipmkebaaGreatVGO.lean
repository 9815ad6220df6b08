/-
 Rows of the call's own, of elements of any size. No conditions.
-/
import Derived.Test.YtimmcmjipmkebaaGreatVW
import Derived.Deep.DeepAppendWide
namespace Go.Proofs.YtimmcmjipmkebaaGreat
open Go.ChangeShapes Go.WideShapes Go.ChangeAt Go.RowKit
set_option maxRecDepth 100000
theorem infoParts {P : Program} {t : TypeId} {z : Option Value} {a b : Nat} (h : (P.info? t).map (fun i => (i.zero, i.size, i.bytes)) = some (z, a, b)) : ∃ i, P.info? t = some i ∧ i.zero = z ∧ i.size = a ∧ i.bytes = b := by
 rcases hi : P.info? t with _ | i
 · rw [hi] at h; cases h
 · rw [hi] at h
   simp at h
   exact ⟨i, rfl, h.1, h.2.1, h.2.2⟩
theorem zaX (w : World) (n m : Nat) : Below m w (w.drewN n) := ⟨rfl, rfl, rfl, Nat.le_refl _, fun _ _ => rfl⟩
theorem ownNone (w : World) (base : Nat) (t : TypeId) (size : Nat) : w.ownsRow base t size (.slice none 0 0) 0 [] := ⟨by simp, .inl ⟨rfl, rfl⟩⟩
theorem ownStay {W W' : World} {base size k : Nat} {e : TypeId} {v : Value} {xs : List Value} (h : W.ownsRow base e size v k xs) (hk : ∀ b, v.ownBlock = some b → W'.heap[b]? = W.heap[b]?) : W'.ownsRow base e size v k xs := by
 rcases h with ⟨h1, h2 | ⟨b, cap, cur, rfl, hb, hh, h3⟩⟩
 · exact ⟨h1, .inl h2⟩
 · exact ⟨h1, .inr ⟨b, cap, cur, rfl, hb, (hk b rfl).trans hh, h3⟩⟩
theorem zfZ {W : World} {base base' size k : Nat} {e : TypeId} {v : Value} {xs : List Value} (h : W.ownsRow base e size v k xs) (hb : base' ≤ base) : W.ownsRow base' e size v k xs := by
 rcases h with ⟨h1, h2 | ⟨b, cap, cur, rfl, h4, hh, h3⟩⟩
 · exact ⟨h1, .inl h2⟩
 · exact ⟨h1, .inr ⟨b, cap, cur, rfl, Nat.le_trans hb h4, hh, h3⟩⟩
theorem zgQ {W W' : World} {base base' k size : Nat} {e : TypeId} {v : Value} {xs : List Value} (h : W.ownsRow base e size v k xs) (hb : Below W.heap.size W W') (hs : base' ≤ base) : W'.ownsRow base' e size v k xs :=
 zfZ (ownStay h fun b hb' => hb.block b (h.lt b hb').2) hs
theorem ownBare {w : World} {base : Nat} {e : TypeId} {size : Nat} {v : Value} {n : Nat} {xs : List Value} (h : w.ownsRow base e size v (0 + n) ([] ++ xs)) : w.ownsRow base e size v n xs := by
 rw [Nat.zero_add, List.nil_append] at h
 exact h
theorem newsNew (W : World) (vs : List Value) (t : TypeId) : ∀ j u, vs[j]? = some u → (W.alloc (.cells vs.toArray t)).cell? (Addr.add ⟨W.heap.size, 0, none⟩ j) = some u := fun j u hu => by
 rw [add_plain, Nat.zero_add]
 exact ((Blk.new W vs t).cell j).trans hu
def RdN (n : Nat) (w : World) (A : Option Addr) (vs : List Value) : Prop := Rd w A vs ∧ ∀ a, A = some a → vs ≠ [] → n ≤ a.block
theorem RdN.below {n : Nat} {w w' : World} {A : Option Addr} {vs : List Value} (h : RdN n w A vs) (hb : Below w.heap.size w w') : RdN n w' A vs := ⟨h.1.below hb, h.2⟩
theorem RdN.mono {n n' : Nat} {w : World} {A : Option Addr} {vs : List Value} (h : RdN n w A vs) (hn : n' ≤ n) : RdN n' w A vs := ⟨h.1, fun a e hv => Nat.le_trans hn (h.2 a e hv)⟩
theorem RdN.zero {w : World} {A : Option Addr} {vs : List Value} (h : Rd w A vs) : RdN 0 w A vs := ⟨h, fun _ _ _ => Nat.zero_le _⟩
theorem RdN.nil (n : Nat) (w : World) (A : Option Addr) : RdN n w A [] := ⟨Rd.nil w A, fun _ _ h => absurd rfl h⟩
theorem RdN.stays {n : Nat} {w w' : World} {A : Option Addr} {vs : List Value} (h : RdN n w A vs) (hs : w.heap.size ≤ w'.heap.size) (hk : ∀ k, n ≤ k → k < w.heap.size → w'.heap[k]? = w.heap[k]?) : RdN n w' A vs := by
 refine ⟨fun hv => ?_, h.2⟩
 obtain ⟨b, off, e, hb, hc⟩ := h.1 hv
 refine ⟨b, off, e, by omega, fun j u hu => ?_⟩
 have h1 := hk b (h.2 _ e hv) hb
 rw [← hc j u hu]
 unfold World.cell?
 simp only [h1]
theorem RdN.of_own {w : World} {base : Nat} {e : TypeId} {size c n : Nat} {A : Option Addr} {vs : List Value} (h : w.ownsRow base e size (.slice A n c) n vs) : RdN base w A vs := by
 rcases h.2 with ⟨hv, h0⟩ | ⟨g, cap, cur, hv, hb, hh, _⟩
 · subst h0
   have : vs = [] := List.eq_nil_of_length_eq_zero (by have := h.1; simpa using this)
   subst this
   exact RdN.nil _ _ _
 · have hA : A = some ⟨g, 0, none⟩ := by injection hv
   subst hA
   refine ⟨fun _ => ⟨g, 0, rfl, (Array.getElem?_eq_some_iff.1 hh).1, fun j u hu => ?_⟩, fun a e _ => by injection e with e; subst e; exact hb⟩
   have := h.cells (g := g) rfl j u hu
   rw [add_plain] at this
   exact this
theorem ownAny {w : World} {base : Nat} {e : TypeId} {size n : Nat} {v : Value} {vs : List Value} (h : w.ownsRow base e size v n vs) :
 ∃ A c, v = .slice A n c ∧ n ≤ c ∧ (A = none → c = 0) ∧ RdN base w A vs ∧ (A = none → n = 0) := by
 rcases h.2 with ⟨rfl, rfl⟩ | ⟨g, cap, cur, rfl, _, _, hn, _⟩
 · exact ⟨none, 0, rfl, Nat.le_refl _, fun _ => rfl, RdN.of_own h, fun _ => rfl⟩
 · exact ⟨_, cap, rfl, hn, (fun e => nomatch e), RdN.of_own h, (fun e => nomatch e)⟩
theorem wpList_append_rdS {P : Program} {w : World} {ops : Array Oper} {rest : List Oper} {o : Oper} {a : Act} {Q : Exit → Act → World → Prop} (hgd : o.guard = none) (s x : Operand) (t : TypeId)
 (ho : o.op = .call { callee := .builtin .append, args := #[s, x], argTypes := #[t, t] })
 (base : Nat) (e : TypeId) (i : TypeInfo) (z : Value) (size bytes : Nat) (ht : P.underlying t = some (.slice e)) (hi : P.info? e = some i) (hz : i.zero = some z) (hsize : i.size = size) (hby : i.bytes = bytes) (hzs : z.cells.size = size) (hsz : 0 < size)
 (v : Value) (n : Nat) (xs : List Value) (hs : a.eval s = v) (hown : w.ownsRow base e size v n xs)
 (A : Option Addr) (m c : Nat) (news : List Value) (hx : a.eval x = .slice A m c) (hl : news.length = m * size) (hr : Rd w A news) (hnil : A = none → c = 0) (h1 : ∀ u ∈ news, u.oneCell' = true)
 (h63 : n + m ≤ maxLen) (hbytes : (n + m) * bytes ≤ 140737488355328) (hbase : base ≤ w.heap.size)
 (h : ∀ v' w', w'.ownsRow base e size v' (n + m) (xs ++ news) → w.grownBy w' v.ownBlock → wpList P ops Q rest (a.put o.dst v') w') : wpList P ops Q (o :: rest) a w := by
 rcases A with _ | ad
 · have hz : news = [] := by
    rcases news with _ | ⟨u, us⟩
    · rfl
    · obtain ⟨b, off, e, _⟩ := hr (by simp)
      cases e
   subst hz
   obtain rfl : m = 0 := by
    rcases Nat.eq_zero_or_pos m with h0 | h0
    · exact h0
    · have := Nat.mul_pos h0 hsz
      simp at hl
      omega
   have := hnil rfl
   subst this
   refine wpList_append_own_none hgd s x t ho base e i size ht hi v n xs hs hown hx (h v w ?_ (World.grownBy.refl w _))
   simpa using hown
 · refine wpList_append_own w hgd s x t ho base e i z size bytes ht hi hz hsize hby hzs hsz v n xs hs hown ad m c news hx hl ?_ h1 h63 hbytes hbase (fun v' w' a b _ => h v' w' a b)
   intro j u hu
   obtain ⟨b, off, e, _, hc⟩ := hr (by rintro rfl; simp at hu)
   injection e with e
   subst e
   rw [add_plain]
   exact hc j u hu
end Go.Proofs.YtimmcmjipmkebaaGreat
