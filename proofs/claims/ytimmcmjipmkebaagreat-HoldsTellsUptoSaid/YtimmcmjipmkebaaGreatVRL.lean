/-
 Regions that draw their order: a load may be taken first where nobody but one operation, which waits for it, writes its cell. No conditions.
-/
import Derived.Test.YtimmcmjipmkebaaGreatVW
import Derived.Deep.RegionHeld3
import Derived.OrdersIn
import Derived.RangeFuncCalls
namespace Go.Proofs.YtimmcmjipmkebaaGreat
open Go.ChangeShapes Go.WideShapes Go.ChangeAt Go.RowKit
set_option maxRecDepth 100000
section
variable {P : Program} {ops : Array Oper} {Q : Exit → Act → World → Prop} {md : Region.Mode} {S : World → Prop} {l : Nat}
def waitsFor (md : Region.Mode) (ops : Array Oper) : Nat → Nat → Nat → Bool
 | 0, _, _ => false
 | n + 1, l, i => match ops[l]? with
  | none => false
  | some o => o.after.any fun e => Region.binds md e && (e.on == i || waitsFor md ops n e.on i)
def inTurn (md : Region.Mode) (ops : Array Oper) (listed : Array Bool) : Prop := ∀ (j : Nat) (o : Oper), ops[j]? = some o → listed.getD j false = true → ∀ e ∈ o.after, Region.binds md e = true → listed.getD e.on false = true
def inTurnB (md : Region.Mode) (ops : Array Oper) (listed : Array Bool) : Bool :=
 (List.range ops.size).all fun j => !listed.getD j false || match ops[j]? with
  | none => true
  | some o => o.after.all fun e => !Region.binds md e || listed.getD e.on false
theorem inTurn_of {listed : Array Bool} (h : inTurnB md ops listed = true) : inTurn md ops listed := fun j o ho hj e he hb => by
 unfold inTurnB at h
 rw [List.all_eq_true] at h
 have hlt : j < ops.size := (Array.getElem?_eq_some_iff.1 ho).1
 have := h j (List.mem_range.2 hlt)
 rw [hj, ho] at this
 simp only [Bool.not_true, Bool.false_or] at this
 rw [Array.all_eq_true_iff_forall_mem] at this
 have := this e he
 rw [hb] at this
 simpa using this
theorem inTurn.add {listed : Array Bool} (h : inTurn md ops listed) {i : Nat} (hr : i ∈ Region.ready md ops listed) : inTurn md ops (listed.setIfInBounds i true) := fun j o ho hj e he hb => by
 refine getD_set_true ?_
 by_cases hji : i = j
 · subst hji
   obtain ⟨_, o', ho', hall⟩ := mem_ready.1 hr
   rw [ho] at ho'
   injection ho' with ho'
   subst ho'
   exact hall e he hb
 · rw [getD_set_ne false hji] at hj
   exact h j o ho hj e he hb
theorem waits_listed {listed : Array Bool} (h : inTurn md ops listed) (n : Nat) : ∀ (l i : Nat) (o : Oper), ops[l]? = some o → (∀ e ∈ o.after, Region.binds md e = true → listed.getD e.on false = true) → waitsFor md ops n l i = true → listed.getD i false = true := by
 induction n with
 | zero => intro l i o _ _ hw; simp [waitsFor] at hw
 | succ n ih =>
  intro l i o ho hall hw
  unfold waitsFor at hw
  rw [ho] at hw
  simp only at hw
  rw [Array.any_eq_true'] at hw
  obtain ⟨e, he, hw⟩ := hw
  simp only [Bool.and_eq_true, Bool.or_eq_true, beq_iff_eq] at hw
  obtain ⟨hb, h1 | h1⟩ := hw
  · rw [← h1]
    exact hall e he hb
  · have hl := hall e he hb
    have : ∃ o', ops[e.on]? = some o' := by
     rcases n with _ | n
     · simp [waitsFor] at h1
     · unfold waitsFor at h1
       split at h1
       · cases h1
       · exact ⟨_, by assumption⟩
    obtain ⟨o', ho'⟩ := this
    exact ih e.on i o' ho' (fun e' he' hb' => h e.on o' ho' hl e' he' hb') h1
def wpOpS (P : Program) (ops : Array Oper) (Q : Exit → Act → World → Prop) (i : Nat) (K : Act → World → Prop) (a : Act) (w : World) : Prop :=
 match ops[i]? with
 | none => K a w
 | some o => if Region.wanted o (yielded ops a.tmps) then o.wp P a w K Q else K (a.put o.dst undef) w
theorem wpOpS.wpOp {i : Nat} {K : Act → World → Prop} {a : Act} {w : World} (h : wpOpS P ops Q i K a w) : wpOp P ops Q i K a w := by
 unfold wpOpS at h
 unfold Go.wpOp
 split
 · rename_i ho; simpa only [ho] using h
 · rename_i o ho
   simp only [ho] at h
   split
   · rename_i hw; simp only [hw, if_true] at h; exact .inl h
   · rename_i hw; simp only [hw] at h; exact h
theorem wpOpS_mono {i : Nat} {a : Act} {w : World} {K K' : Act → World → Prop} (h : ∀ a w, K a w → K' a w) (hh : wpOpS P ops Q i K a w) : wpOpS P ops Q i K' a w := by
 unfold wpOpS at *
 split
 · rename_i ho; simp only [ho] at hh; exact h _ _ hh
 · rename_i o ho
   simp only [ho] at hh
   split
   · rename_i hw; simp only [hw, if_true] at hh; exact Oper.wp_mono h hh
   · rename_i hw; simp only [hw] at hh; exact h _ _ hh
theorem wpOpS_step {i : Nat} {o : Oper} {K : Act → World → Prop} {a : Act} {w : World} (ho : ops[i]? = some o)
 (h : ∀ K' : Act → World → Prop, (∀ a w, K a w → K' a w) → if Region.wanted o (yielded ops a.tmps) = true then Oper.wp P o a w K' Q else K' (a.put o.dst undef) w) : wpOpS P ops Q i K a w := by
 have := h K (fun _ _ h => h)
 unfold wpOpS
 rw [ho]
 exact this
theorem yieldsIf_wpOpS {i : Nat} {o : Oper} {v : Value} {a : Act} (hi : ops[i]? = some o) (hy : YieldsIf P ops S o v a)
 {K : Act → World → Prop} {w : World} (hS : S w) (h : K (a.put o.dst v) w) : wpOpS P ops Q i K a w := by
 unfold wpOpS
 simp only [hi]
 rcases hy with ⟨hw, hv⟩ | ⟨hw, rfl⟩
 · simp only [hw, if_true, Oper.wp, hv w hS, Oper.upon]; exact h
 · simp only [hw, Bool.false_eq_true, if_false]; exact h
theorem wpOpS_putIf {j : Nat} {oi oj : Oper} {v : Value} (hj : ops[j]? = some oj) (hap : oi.apart ops oj = true)
 (hsi : ∀ cs b, oi.op ≠ .select cs b) (hsj : ∀ cs b, oj.op ≠ .select cs b)
 (hQ : ∀ c a w, Q (.panic c) (a.put oi.dst v) w → Q (.panic c) a w) {K : Act → World → Prop} {a : Act} {w : World}
 (hy : YieldsIf P ops S oi v a) (h : wpOpS P ops Q j K (a.put oi.dst v) w) :
 wpOpS P ops Q j (fun a' w' => YieldsIf P ops S oi v a' ∧ K (a'.put oi.dst v) w') a w := by
 obtain ⟨h1, h2, h3⟩ := Oper.apart_spec hap
 have keep : ∀ (a : Act), YieldsIf P ops S oi v a → ∀ u, YieldsIf P ops S oi v (a.put oj.dst u) := fun a hy u =>
  hy.of_same (execOp_put oi hsi a oj.dst u h3) (wanted_put oi a oj.dst u h3)
 have keepD : ∀ d, YieldsIf P ops S oi v { a with defers := d :: a.defers } := fun d => hy.of_same rfl rfl
 unfold wpOpS at *
 simp only [hj] at *
 rw [wanted_put oj a oi.dst v h1] at h
 split
 · rename_i hw
   simp only [hw, if_true] at h
   unfold Oper.wp at *
   rw [execOp_put oj hsj a oi.dst v h1] at h
   generalize (execOp a.eval oj).run P w = r at *
   cases r with
   | ok n w' =>
    cases n <;> simp only [Oper.upon] at h ⊢
    case value u => exact ⟨keep a hy u, by rw [← Act.put_comm a v u h2]; exact h⟩
    case skip => exact ⟨keep a hy _, by rw [← Act.put_comm a v undef h2]; exact h⟩
    case defer d =>
     refine ⟨keep _ (keepD d) _, ?_⟩
     rw [← Act.put_comm _ v undef h2, ← Act.put_defers]
     exact h
    case enter f args =>
     refine Calls.mono h fun e w'' he => ?_
     cases e with
     | returned u => exact ⟨keep a hy u, by rw [← Act.put_comm a v u h2]; exact he⟩
     | panicked c => exact hQ _ _ _ he
     | outgrown => exact he
    case row row args => exact Rows.mono h fun u w'' he => ⟨keep a hy u, by rw [← Act.put_comm a v u h2]; exact he⟩
   | halt x w' =>
    cases x <;> simp only [Oper.upon] at h ⊢
    case panic u => exact hQ _ _ _ h
 · rename_i hw
   simp only [hw] at h
   exact ⟨keep a hy _, by rw [← Act.put_comm a v undef h2]; exact h⟩
def wpAnyL (P : Program) (md : Region.Mode) (ops : Array Oper) (Q : Exit → Act → World → Prop) (S : World → Prop) (l : Nat) : Nat → Array Bool → Act → World → Prop
 | 0, listed, a, w => Region.ready md ops listed = [] ∧ Q .normal a w
 | fuel + 1, listed, a, w =>
  (Region.ready md ops listed = [] → Q .normal a w) ∧
  ∀ i ∈ Region.ready md ops listed, wpOpS P ops Q i (fun a' w' => ((listed.setIfInBounds i true).getD l false = true ∨ S w') ∧ wpAnyL P md ops Q S l fuel (listed.setIfInBounds i true) a' w') a w
theorem wpAny_of_last : ∀ (fuel : Nat) (listed : Array Bool) (a : Act) (w : World), wpAnyL P md ops Q S l fuel listed a w → wpAny P md ops Q fuel listed a w
 | 0, _, _, _, h => h
 | fuel + 1, _, _, _, h => ⟨h.1, fun i hi => (wpOpS_mono (fun a' w' h' => wpAny_of_last fuel _ a' w' h'.2) (h.2 i hi)).wpOp⟩
theorem wpAnyL_first {i n : Nat} {oi : Oper} {v : Value} (hi : ops[i]? = some oi) (hsel : ∀ (j : Nat) (o : Oper) cs b, ops[j]? = some o → o.op ≠ .select cs b)
 (hQ : ∀ c a w, Q (.panic c) (a.put oi.dst v) w → Q (.panic c) a w) (hl : waitsFor md ops n l i = true) (hil : i ≠ l) :
 ∀ (fuel : Nat) (listed : Array Bool) (a : Act) (w : World), inTurn md ops listed → listed.getD l false = false →
  (∀ j oj, ops[j]? = some oj → j ≠ i → listed.getD j true = false → (∀ e ∈ oj.after, Region.binds md e = true → e.on ≠ i) → oi.apart ops oj = true) →
  i ∈ Region.ready md ops listed → YieldsIf P ops S oi v a → S w →
  wpAnyL P md ops Q S l fuel (listed.setIfInBounds i true) (a.put oi.dst v) w → wpAnyL P md ops Q S l (fuel + 1) listed a w := by
 intro fuel
 induction fuel with
 | zero =>
  intro listed a w _ _ _ hr hy hS H
  refine ⟨fun h => (by rw [h] at hr; cases hr), fun j hj => ?_⟩
  by_cases hji : j = i
  · subst hji; exact yieldsIf_wpOpS hi hy hS ⟨.inr hS, H⟩
  · have := ready_mono hj hji
    rw [H.1] at this
    cases this
 | succ fuel ih =>
  intro listed a w ht hun0 hfree hr hy hS H
  refine ⟨fun h => (by rw [h] at hr; cases hr), fun j hj => ?_⟩
  by_cases hji : j = i
  · subst hji; exact yieldsIf_wpOpS hi hy hS ⟨.inr hS, H⟩
  · have h1 := H.2 j (ready_mono hj hji)
    obtain ⟨hjun, oj, hoj, hall⟩ := mem_ready.1 hj
    have hnl : listed.getD i false = true → False := fun h1 => by
     have h0 := (mem_ready.1 hr).1
     rcases Nat.lt_or_ge i listed.size with h' | h'
     · simp [h'] at h0 h1; rw [h0] at h1; cases h1
     · simp [Array.getElem?_eq_none h'] at h1
    have hnot : ∀ e ∈ oj.after, Region.binds md e = true → e.on ≠ i := fun e he hb heq => by
     have h1 := hall e he hb
     rw [heq] at h1
     exact hnl h1
    have hjl : j ≠ l := fun e => by
     subst e
     exact hnl (waits_listed ht n j i oj hoj hall hl)
    have h2 := wpOpS_putIf hoj (hfree j oj hoj hji hjun hnot) (fun cs b => hsel i oi cs b hi) (fun cs b => hsel j oj cs b hoj) hQ hy h1
    have hfree' : ∀ k ok, ops[k]? = some ok → k ≠ i → (listed.setIfInBounds j true).getD k true = false →
     (∀ e ∈ ok.after, Region.binds md e = true → e.on ≠ i) → oi.apart ops ok = true := fun k ok hk hki hun hno => by
     refine hfree k ok hk hki ?_ hno
     by_cases hjk : j = k
     · subst hjk; exact hjun
     · rw [getD_set_ne true hjk] at hun; exact hun
    refine wpOpS_mono (fun a' w' h3 => ?_) h2
    have hS' : S w' := h3.2.1.resolve_left (by rw [getD_set_ne false hjl, getD_set_ne false hil, hun0]; decide)
    refine ⟨.inr hS', ih (listed.setIfInBounds j true) a' w' (ht.add hj) (by rw [getD_set_ne false hjl]; exact hun0) hfree' (ready_mono hr (Ne.symm hji)) h3.1 hS' ?_⟩
    rw [Array.setIfInBounds_comm _ _ hji]
    exact h3.2.2
theorem wpAnyL_firstW {i : Nat} {oi : Oper} {v : Value} (hi : ops[i]? = some oi) (hsel : ∀ (j : Nat) (o : Oper) cs b, ops[j]? = some o → o.op ≠ .select cs b)
 (hQ : ∀ c a w, Q (.panic c) (a.put oi.dst v) w → Q (.panic c) a w) (hil : i ≠ l) :
 ∀ (fuel : Nat) (listed : Array Bool) (a : Act) (w : World),
  (∀ j oj, ops[j]? = some oj → j ≠ i → listed.getD j true = false → (∀ e ∈ oj.after, Region.binds md e = true → e.on ≠ i) → oi.apart ops oj = true) →
  i ∈ Region.ready md ops listed → YieldsIf P ops (fun _ => True) oi v a → (listed.getD l false = true ∨ S w) →
  wpAnyL P md ops Q S l fuel (listed.setIfInBounds i true) (a.put oi.dst v) w → wpAnyL P md ops Q S l (fuel + 1) listed a w := by
 intro fuel
 induction fuel with
 | zero =>
  intro listed a w _ hr hy hS H
  refine ⟨fun h => (by rw [h] at hr; cases hr), fun j hj => ?_⟩
  by_cases hji : j = i
  · subst hji; exact yieldsIf_wpOpS hi hy trivial ⟨hS.imp (fun h => getD_set_true h) id, H⟩
  · have := ready_mono hj hji
    rw [H.1] at this
    cases this
 | succ fuel ih =>
  intro listed a w hfree hr hy hS H
  refine ⟨fun h => (by rw [h] at hr; cases hr), fun j hj => ?_⟩
  by_cases hji : j = i
  · subst hji; exact yieldsIf_wpOpS hi hy trivial ⟨hS.imp (fun h => getD_set_true h) id, H⟩
  · have h1 := H.2 j (ready_mono hj hji)
    obtain ⟨hjun, oj, hoj, hall⟩ := mem_ready.1 hj
    have hnl : listed.getD i false = true → False := fun h1 => by
     have h0 := (mem_ready.1 hr).1
     rcases Nat.lt_or_ge i listed.size with h' | h'
     · simp [h'] at h0 h1; rw [h0] at h1; cases h1
     · simp [Array.getElem?_eq_none h'] at h1
    have hnot : ∀ e ∈ oj.after, Region.binds md e = true → e.on ≠ i := fun e he hb heq => by
     have h1 := hall e he hb
     rw [heq] at h1
     exact hnl h1
    have h2 := wpOpS_putIf hoj (hfree j oj hoj hji hjun hnot) (fun cs b => hsel i oi cs b hi) (fun cs b => hsel j oj cs b hoj) hQ hy h1
    have hfree' : ∀ k ok, ops[k]? = some ok → k ≠ i → (listed.setIfInBounds j true).getD k true = false →
     (∀ e ∈ ok.after, Region.binds md e = true → e.on ≠ i) → oi.apart ops ok = true := fun k ok hk hki hun hno => by
     refine hfree k ok hk hki ?_ hno
     by_cases hjk : j = k
     · subst hjk; exact hjun
     · rw [getD_set_ne true hjk] at hun; exact hun
    refine wpOpS_mono (fun a' w' h3 => ?_) h2
    have hS' : (listed.setIfInBounds j true).getD l false = true ∨ S w' := h3.2.1.imp (fun h => by
     rw [Array.setIfInBounds_comm _ _ (Ne.symm hji), getD_set_ne false hil] at h
     exact h) id
    refine ⟨hS', ih (listed.setIfInBounds j true) a' w' hfree' (ready_mono hr (Ne.symm hji)) h3.1 hS' ?_⟩
    rw [Array.setIfInBounds_comm _ _ hji]
    exact h3.2.2
theorem wpAnyL_take (n : Nat) {i : Nat} {oi : Oper} {v : Value} {fuel : Nat} {listed : Array Bool} {a : Act} {w : World} (hi : ops[i]? = some oi)
 (hs : Region.noSelect ops = true) (hf : Region.free md ops listed i = true) (hr : (Region.ready md ops listed).contains i = true) (ht : inTurnB md ops listed = true) (hl : waitsFor md ops n l i = true) (hil : (i == l) = false) (hun : listed.getD l false = false)
 (hQ : ∀ c a w, Q (.panic c) (a.put oi.dst v) w → Q (.panic c) a w) (hy : YieldsIf P ops S oi v a) (hS : S w)
 (h : wpAnyL P md ops Q S l fuel (listed.setIfInBounds i true) (a.put oi.dst v) w) : wpAnyL P md ops Q S l (fuel + 1) listed a w :=
 wpAnyL_first hi (Region.noSelect_spec hs) hQ hl (by simpa using hil) fuel listed a w (inTurn_of ht) hun (Region.free_spec hi hf) (by simpa using hr) hy hS h
theorem wpAnyL_takeW {i : Nat} {oi : Oper} {v : Value} {fuel : Nat} {listed : Array Bool} {a : Act} {w : World} (hi : ops[i]? = some oi)
 (hs : Region.noSelect ops = true) (hf : Region.free md ops listed i = true) (hr : (Region.ready md ops listed).contains i = true) (hil : (i == l) = false)
 (hQ : ∀ c a w, Q (.panic c) (a.put oi.dst v) w → Q (.panic c) a w) (hy : YieldsIf P ops (fun _ => True) oi v a) (hS : listed.getD l false = true ∨ S w)
 (h : wpAnyL P md ops Q S l fuel (listed.setIfInBounds i true) (a.put oi.dst v) w) : wpAnyL P md ops Q S l (fuel + 1) listed a w :=
 wpAnyL_firstW hi (Region.noSelect_spec hs) hQ (by simpa using hil) fuel listed a w (Region.free_spec hi hf) (by simpa using hr) hy hS h
theorem zdX {i : Nat} {o : Oper} {fuel : Nat} {listed : Array Bool} {a : Act} {w : World} (hr : Region.ready md ops listed = [i]) (ho : ops[i]? = some o)
 (h : ∀ K' : Act → World → Prop, Shut (∀ a w, S w → (S w → wpAnyL P md ops Q S l fuel (listed.setIfInBounds i true) a w) → K' a w) → if Region.wanted o (yielded ops a.tmps) = true then Oper.wp P o a w K' Q else K' (a.put o.dst undef) w) :
 wpAnyL P md ops Q S l (fuel + 1) listed a w :=
 ⟨fun h0 => (by rw [hr] at h0; cases h0), fun j hj => by
  rw [hr] at hj
  obtain rfl : j = i := by simpa using hj
  exact wpOpS_step ho (fun K' hK => h K' (fun a w hS hW => hK a w ⟨.inr hS, hW hS⟩))⟩
theorem zcZ {i : Nat} {o : Oper} {fuel : Nat} {listed : Array Bool} {a : Act} {w : World} (hr : Region.ready md ops listed = [i]) (ho : ops[i]? = some o) (hl : (listed.setIfInBounds i true).getD l false = true)
 (h : ∀ K' : Act → World → Prop, Shut (∀ a w, wpAnyL P md ops Q S l fuel (listed.setIfInBounds i true) a w → K' a w) → if Region.wanted o (yielded ops a.tmps) = true then Oper.wp P o a w K' Q else K' (a.put o.dst undef) w) :
 wpAnyL P md ops Q S l (fuel + 1) listed a w :=
 ⟨fun h0 => (by rw [hr] at h0; cases h0), fun j hj => by
  rw [hr] at hj
  obtain rfl : j = i := by simpa using hj
  exact wpOpS_step ho (fun K' hK => h K' (fun a w hW => hK a w ⟨.inl hl, hW⟩))⟩
theorem zdQ {listed : Array Bool} {a : Act} {w : World} (hr : Region.ready md ops listed = []) (h : Q .normal a w) : ∀ fuel, wpAnyL P md ops Q S l fuel listed a w
 | 0 => ⟨hr, h⟩
 | _ + 1 => ⟨fun _ => h, by rw [hr]; simp⟩
theorem zcX (l : Nat) (S : World → Prop) {id : Nat} {a : Act} {w : World} (hm : P.follows .mixedOrders = true) (hS : S w.drew)
 (h : S w.drew → wpAnyL P .any ops Q S l ops.size (Array.replicate ops.size false) a w.drew) : (Code.region id ops true).wp P Q a w :=
 wp_region_any hm (wpAny_of_last _ _ _ _ (h hS))
def noDefer (ops : Array Oper) : Bool := ops.all fun o => match o.op with | .defer _ => false | _ => true
end
theorem bZh {w0 : World} (w w' : World) (h : Below w0.heap.size w0 w) (h' : Below w.heap.size w w') : Below w0.heap.size w0 w' := h.trans (h'.mono h.size)
theorem pZd {α β : Type} (f : α → β → α) (a : α) (b : β) (l : List β) : (b :: l).foldl f a = l.foldl f (f a b) := rfl
theorem pZe {α β : Type} (f : α → β → α) (a : α) : ([] : List β).foldl f a = a := rfl
theorem zQ : (∀ {α β : Type} (f : α → β → α) (a : α) (b : β) (l : List β), (b :: l).foldl f a = l.foldl f (f a b)) ∧ (∀ {α β : Type} (f : α → β → α) (a : α), ([] : List β).foldl f a = a) := ⟨fun _ _ _ _ => rfl, fun _ _ => rfl⟩
section
variable {P : Program} {ops : Array Oper} {Q : Exit → Act → World → Prop} {md : Region.Mode} {S : World → Prop} {l : Nat}
theorem tkA (n : Nat) {i : Nat} {oi : Oper} {v : Value} {fuel : Nat} {listed : Array Bool} {a : Act} {w : World} (hi : ops[i]? = some oi) (hS : S w)
 (h : wpAnyL P md ops Q S l fuel (listed.setIfInBounds i true) (a.put oi.dst v) w)
 (hs : Region.noSelect ops = true := by kernel_rfl) (hf : Region.free md ops listed i = true := by kernel_rfl) (hr : (Region.ready md ops listed).contains i = true := by kernel_rfl) (ht : inTurnB md ops listed = true := by kernel_rfl) (hl : waitsFor md ops n l i = true := by kernel_rfl) (hil : (i == l) = false := by kernel_rfl) (hun : listed.getD l false = false := by kernel_rfl)
 (hQ : ∀ c a w, Q (.panic c) (a.put oi.dst v) w → Q (.panic c) a w := by exact fun _ _ _ h => h) (hy : YieldsIf P ops S oi v a := by refine Or.inl ⟨by rfl, ?_⟩; intro w hSw; (try dsimp only at hSw); go_simp; try (with_reducible rfl)) : wpAnyL P md ops Q S l (fuel + 1) listed a w :=
 wpAnyL_take n hi hs hf hr ht hl hil hun hQ hy hS h
theorem tkB (n : Nat) {i : Nat} {oi : Oper} {v : Value} {fuel : Nat} {listed : Array Bool} {a : Act} {w : World} (hi : ops[i]? = some oi)
 (hy : YieldsIf P ops S oi v a) (hS : S w) (h : wpAnyL P md ops Q S l fuel (listed.setIfInBounds i true) (a.put oi.dst v) w)
 (hs : Region.noSelect ops = true := by kernel_rfl) (hf : Region.free md ops listed i = true := by kernel_rfl) (hr : (Region.ready md ops listed).contains i = true := by kernel_rfl) (ht : inTurnB md ops listed = true := by kernel_rfl) (hl : waitsFor md ops n l i = true := by kernel_rfl) (hil : (i == l) = false := by kernel_rfl) (hun : listed.getD l false = false := by kernel_rfl)
 (hQ : ∀ c a w, Q (.panic c) (a.put oi.dst v) w → Q (.panic c) a w := by exact fun _ _ _ h => h) : wpAnyL P md ops Q S l (fuel + 1) listed a w :=
 wpAnyL_take n hi hs hf hr ht hl hil hun hQ hy hS h
end
section
variable {P : Program} {ops : Array Oper} {Q : Exit → Act → World → Prop} {md : Region.Mode} {S : World → Prop} {l : Nat}
def fillL (es : List (Nat × Nat)) (vs : Nat → Value) (a : Act) : Act := es.foldl (fun a e => a.put (some e.2) (vs e.2)) a
def AllOf {α : Type} (p : α → Prop) : List α → Prop
 | [] => True
 | x :: xs => p x ∧ AllOf p xs
theorem AllOf.at_ {α : Type} {p : α → Prop} : ∀ {l : List α}, AllOf p l → ∀ x ∈ l, p x
 | _ :: _, h, x, hx => by
  rcases List.mem_cons.1 hx with rfl | hx
  · exact h.1
  · exact h.2.at_ x hx
def factsB (md : Region.Mode) (ops : Array Oper) (listed : Array Bool) (n : Nat) (es : List (Nat × Nat)) : Bool :=
 Region.noSelect ops && noDefer ops && inTurnB md ops listed && (listed.size == ops.size) &&
 ((List.range ops.size).all fun i => match ops[i]? with
  | none => true
  | some o => (o.after.all fun e => !Region.binds md e || decide (e.on < i)) &&
   (listed.getD i false || match es.find? (fun e => e.1 == i) with
    | none => es.all fun e => waitsFor md ops n i e.1
    | some e => o.dst == some e.2 && ((o.looksAt ops).all fun t => es.all fun j => j.2 != t || waitsFor md ops n i j.1))) &&
 (es.all fun e => decide (e.1 < ops.size) && !listed.getD e.1 false) &&
 decide (es.map (·.1)).Nodup && decide (es.map (·.2)).Nodup
def laidIn (es : List (Nat × Nat)) (vs : Nat → Value) (a0 : Act) (listed : Array Bool) (a : Act) : Prop :=
 a.defers = a0.defers ∧ ∀ d, a.tmps[d]? = (a0.tmps[d]?).map fun x => if es.any (fun e => e.2 == d && listed.getD e.1 false) then vs d else x
theorem fillL_defers (vs : Nat → Value) : ∀ (es : List (Nat × Nat)) (a : Act), (fillL es vs a).defers = a.defers
 | [], _ => rfl
 | e :: es, a => fillL_defers vs es (a.put (some e.2) (vs e.2))
theorem fillL_at (vs : Nat → Value) : ∀ (es : List (Nat × Nat)) (a : Act) (d : Nat), (fillL es vs a).tmps[d]? = (a.tmps[d]?).map fun x => if es.any (fun e => e.2 == d) then vs d else x
 | [], a, d => by simp [fillL]
 | e :: es, a, d => by
  have := fillL_at vs es (a.put (some e.2) (vs e.2)) d
  unfold fillL at this ⊢
  rw [List.foldl_cons, this]
  by_cases h : e.2 = d
  · subst h
    have hx : (e :: es).any (fun x => x.2 == e.2) = true := by simp
    rw [hx]
    simp only [Act.put]
    rw [Array.getElem?_setIfInBounds]
    by_cases hs : e.2 < a.tmps.size
    · simp [hs]
    · simp [hs]
  · have hx : (e :: es).any (fun x => x.2 == d) = es.any (fun x => x.2 == d) := by simp [h]
    rw [hx]
    simp only [Act.put]
    rw [Array.getElem?_setIfInBounds_ne h]
theorem act_ext {a b : Act} (h : a.defers = b.defers) (ht : ∀ d : Nat, a.tmps[d]? = b.tmps[d]?) : a = b := by
 obtain ⟨t, d⟩ := a
 obtain ⟨t', d'⟩ := b
 have : t = t' := Array.ext_getElem? ht
 subst this
 cases h
 rfl
theorem find_some_of {es : List (Nat × Nat)} {i : Nat} {e : Nat × Nat} (h : es.find? (fun e => e.1 == i) = some e) : e ∈ es ∧ e.1 = i :=
 ⟨List.mem_of_find?_eq_some h, by simpa using List.find?_some h⟩
def openN (es : List (Nat × Nat)) (listed : Array Bool) : Nat := es.countP fun e => !listed.getD e.1 false
theorem openN_set (listed : Array Bool) (i : Nat) (hi : i < listed.size) (h0 : listed.getD i false = false) : ∀ (es : List (Nat × Nat)), (es.map (·.1)).Nodup → i ∈ es.map (·.1) → openN es (listed.setIfInBounds i true) + 1 = openN es listed
 | [], _, hm => by cases hm
 | e :: es, hn, hm => by
  simp only [List.map_cons, List.nodup_cons] at hn
  unfold openN
  rw [List.countP_cons, List.countP_cons]
  by_cases he : e.1 = i
  · subst he
    have hsame : es.countP (fun x => !(listed.setIfInBounds e.1 true).getD x.1 false) = es.countP fun x => !listed.getD x.1 false := by
     refine List.countP_congr fun x hx => ?_
     rw [getD_set_ne false (fun h => hn.1 (by rw [h]; exact List.mem_map_of_mem hx))]
    rw [hsame, h0]
    have : (listed.setIfInBounds e.1 true).getD e.1 false = true := by simp [hi]
    rw [this]
    simp
  · have hm' : i ∈ es.map (·.1) := by
     simp only [List.map_cons, List.mem_cons] at hm
     rcases hm with hm | hm
     · exact absurd hm.symm he
     · exact hm
    have := openN_set listed i hi h0 es hn.2 hm'
    unfold openN at this
    rw [getD_set_ne false (fun h => he h.symm)]
    omega
theorem openN_zero {es : List (Nat × Nat)} {listed : Array Bool} (h : openN es listed = 0) : ∀ e ∈ es, listed.getD e.1 false = true := fun e he => by
 unfold openN at h
 rw [List.countP_eq_zero] at h
 simpa using h e he
theorem openN_pos {es : List (Nat × Nat)} {listed : Array Bool} {m : Nat} (h : openN es listed = m + 1) : ∃ e ∈ es, listed.getD e.1 false = false := by
 unfold openN at h
 have : 0 < es.countP fun e => !listed.getD e.1 false := by omega
 rw [List.countP_pos_iff] at this
 obtain ⟨e, he, h'⟩ := this
 exact ⟨e, he, by simpa using h'⟩
theorem ready_ne {listed : Array Bool} (hs : listed.size = ops.size) (hb : ∀ (i : Nat) (o : Oper), ops[i]? = some o → ∀ e ∈ o.after, Region.binds md e = true → e.on < i) :
 ∀ i, i < ops.size → listed.getD i false = false → Region.ready md ops listed ≠ [] := by
 intro i
 induction i using Nat.strongRecOn with
 | ind i ih =>
  intro hi h0
  by_cases h : ∃ j, j < i ∧ listed.getD j false = false
  · obtain ⟨j, hj, hj0⟩ := h
    exact ih j hj (by omega) hj0
  · intro he
    have : i ∈ Region.ready md ops listed := by
     refine mem_ready.2 ⟨?_, ops[i], Array.getElem?_eq_getElem hi, fun e hm hbe => ?_⟩
     · have hl : i < listed.size := by omega
       rw [Array.getD_eq_getD_getElem?, Array.getElem?_eq_getElem hl] at h0 ⊢
       exact h0
     · have hlt := hb i ops[i] (Array.getElem?_eq_getElem hi) e hm hbe
       rcases hx : listed.getD e.on false with _ | _
       · exact absurd ⟨e.on, hlt, hx⟩ h
       · rfl
    rw [he] at this
    cases this
theorem laid_fill {es : List (Nat × Nat)} {vs : Nat → Value} {a0 a : Act} {listed : Array Bool} (h : laidIn es vs a0 listed a) (hall : ∀ e ∈ es, listed.getD e.1 false = true) : a = fillL es vs a0 := by
 refine act_ext (by rw [fillL_defers]; exact h.1) fun d => ?_
 rw [h.2 d, fillL_at]
 have : es.any (fun e => e.2 == d && listed.getD e.1 false) = es.any (fun e => e.2 == d) := by
  rw [Bool.eq_iff_iff, List.any_eq_true, List.any_eq_true]
  constructor
  · rintro ⟨e, he, h⟩
    exact ⟨e, he, by simp only [Bool.and_eq_true] at h; exact h.1⟩
  · rintro ⟨e, he, h⟩
    exact ⟨e, he, by rw [h, hall e he]; rfl⟩
 rw [this]
theorem laid_looks {es : List (Nat × Nat)} {vs : Nat → Value} {a0 a : Act} {listed : Array Bool} (h : laidIn es vs a0 listed a) {d : Nat} (hd : ∀ j ∈ es, j.2 = d → listed.getD j.1 false = true) : a.tmps[d]? = (fillL es vs a0).tmps[d]? := by
 rw [h.2 d, fillL_at]
 have : es.any (fun e => e.2 == d && listed.getD e.1 false) = es.any (fun e => e.2 == d) := by
  rw [Bool.eq_iff_iff, List.any_eq_true, List.any_eq_true]
  constructor
  · rintro ⟨e, he, h⟩
    exact ⟨e, he, by simp only [Bool.and_eq_true] at h; exact h.1⟩
  · rintro ⟨e, he, h⟩
    exact ⟨e, he, by rw [h, hd e he (by simpa using h)]; rfl⟩
 rw [this]
theorem put_same {a b : Act} (hsz : a.tmps.size = b.tmps.size) {d : Option Tmp} {v u : Value} (h : b.put d v = b.put d u) : a.put d v = a.put d u := by
 cases d with
 | none => rfl
 | some d =>
  by_cases hd : d < b.tmps.size
  · have h1 : (b.put (some d) v).tmps[d]? = (b.put (some d) u).tmps[d]? := by rw [h]
    simp [Act.put, hd] at h1
    rw [h1]
  · have hd' : ¬ d < a.tmps.size := by rw [hsz]; exact hd
    unfold Act.put
    simp [Array.setIfInBounds, hd']
theorem wpOpS_of_fill {i : Nat} {o : Oper} {a b : Act} {w : World} {G : Value → World → Prop} {K : Act → World → Prop} (ho : ops[i]? = some o) (hsel : ∀ cs b, o.op ≠ .select cs b)
 (hsz : a.tmps.size = b.tmps.size) (hlk : ∀ t ∈ o.looksAt ops, a.tmps[t]? = b.tmps[t]?)
 (h : ∀ K' : Act → World → Prop, Shut (∀ v w', G v w' → K' (b.put o.dst v) w') → if Region.wanted o (yielded ops b.tmps) = true then Oper.wp P o b w K' (fun _ _ _ => False) else K' (b.put o.dst undef) w)
 (hK : ∀ v w', G v w' → K (a.put o.dst v) w') : wpOpS P ops Q i K a w := by
 have h1 := h (fun b' w' => ∃ v, b' = b.put o.dst v ∧ G v w') (fun v w' hv => ⟨v, rfl, hv⟩)
 clear h
 have he : execOp a.eval o = execOp b.eval o := execOp_congr o hsel fun x hx => by
  cases x with
  | tmp t =>
   have := hlk t (List.mem_append_left _ (List.mem_filterMap.2 ⟨.tmp t, by simpa using hx, rfl⟩))
   simp only [Act.eval, Array.getD_eq_getD_getElem?, this]
  | _ => rfl
 have hw : Region.wanted o (yielded ops a.tmps) = Region.wanted o (yielded ops b.tmps) := by
  unfold Region.wanted
  rcases hg : o.guard with _ | ⟨g, x⟩
  · rfl
  · have hy : yielded ops a.tmps g = yielded ops b.tmps g := by
     unfold yielded
     rcases hd : (ops[g]?).bind (·.dst) with _ | d
     · rfl
     · have := hlk d (List.mem_append_right _ (by rw [hg]; simp only; rw [hd]; simp))
       simp only [Option.bind_some, this]
    simp only [hy]
 have same : ∀ {v u : Value}, b.put o.dst v = b.put o.dst u → a.put o.dst v = a.put o.dst u := fun h => put_same hsz h
 unfold wpOpS
 rw [ho]
 simp only
 rw [hw]
 split
 · rename_i hc
   rw [if_pos hc] at h1
   unfold Oper.wp at h1 ⊢
   rw [he]
   generalize hr : (execOp b.eval o).run P w = r at h1
   cases r with
   | ok x w' =>
    cases x <;> simp only [Oper.upon] at h1 ⊢
    case value u =>
     obtain ⟨v, e, hv⟩ := h1
     rw [same e]
     exact hK v w' hv
    case skip =>
     obtain ⟨v, e, hv⟩ := h1
     rw [same e]
     exact hK v w' hv
    case enter f args =>
     refine Calls.mono h1 fun e w'' he => ?_
     cases e with
     | returned u =>
      obtain ⟨v, e, hv⟩ := he
      show K (a.put o.dst u) w''
      rw [same e]
      exact hK v w'' hv
     | panicked c => exact (he : False).elim
     | outgrown => exact (by obtain ⟨_, _, h⟩ := he; exact (h : False).elim)
    case row row args =>
     refine Rows.mono h1 fun u w'' he => ?_
     obtain ⟨v, e, hv⟩ := he
     rw [same e]
     exact hK v w'' hv
    case defer d =>
     obtain ⟨v, e, hv⟩ := h1
     have := congrArg (fun a => a.defers.length) e
     cases hd : o.dst <;> simp [Act.put, hd] at this
   | halt x w' =>
    cases x <;> simp only [Oper.upon] at h1 ⊢
 · rename_i hc
   rw [if_neg hc] at h1
   obtain ⟨v, e, hv⟩ := h1
   rw [same e]
   exact hK v w hv
def Stays (n : Nat) (w w' : World) : Prop := Below n w w' ∧ (∀ p : Addr, p.block < w.heap.size → w'.cell? p = w.cell? p) ∧ ∀ g, g < w.heap.size → w'.shape? g = w.shape? g
theorem Stays.rd {n : Nat} {w w' : World} {A : Option Addr} {vs : List Value} (h : Rd w A vs) (hs : Stays n w w') : Rd w' A vs := fun hv => by
 obtain ⟨b, off, hA, hb, hc⟩ := h hv
 exact ⟨b, off, hA, Nat.lt_of_lt_of_le hb hs.1.size, fun j u hu => (hs.2.1 ⟨b, off + j, none⟩ hb).trans (hc j u hu)⟩
theorem zdZ (n m r : Nat) (es : List (Nat × Nat)) (F : Nat → Value → World → Prop) (T : World → World → Prop) {listed0 : Array Bool} {a0 : Act} {w0 : World}
 (hchk : factsB md ops listed0 n es = true) (hm : openN es listed0 = m)
 (hT : ∀ w w', Below w0.heap.size w0 w → T w w' → Below w0.heap.size w0 w')
 (hst : AllOf (fun e => ∀ v w w', F e.2 v w → T w w' → F e.2 v w') es)
 (hS : ∀ w', Below w0.heap.size w0 w' → S w')
 (hop : AllOf (fun e => ∀ (vs : Nat → Value) (w : World), Below w0.heap.size w0 w → (∀ j ∈ es, waitsFor md ops n e.1 j.1 = true → F j.2 (vs j.2) w) → ∀ o, ops[e.1]? = some o →
  ∀ K' : Act → World → Prop, Shut (∀ v w', F e.2 v w' ∧ T w w' → K' ((fillL es vs a0).put o.dst v) w') →
   if Region.wanted o (yielded ops (fillL es vs a0).tmps) = true then Oper.wp P o (fillL es vs a0) w K' (fun _ _ _ => False) else K' ((fillL es vs a0).put o.dst undef) w) es)
 (hend : ∀ (vs : Nat → Value) (w : World), Below w0.heap.size w0 w → (∀ e ∈ es, F e.2 (vs e.2) w) → wpAnyL P md ops Q S l r (es.foldl (fun b e => b.setIfInBounds e.1 true) listed0) (fillL es vs a0) w) :
 wpAnyL P md ops Q S l (m + r) listed0 a0 w0 := by
 unfold factsB at hchk
 simp only [Bool.and_eq_true, decide_eq_true_eq] at hchk
 obtain ⟨⟨⟨⟨⟨⟨⟨hns, _⟩, hit⟩, hsz⟩, hall⟩, hes⟩, hn1⟩, hn2⟩ := hchk
 have hsz : listed0.size = ops.size := by simpa using hsz
 have hrow : ∀ (i : Nat) (o : Oper), ops[i]? = some o → (∀ e ∈ o.after, Region.binds md e = true → e.on < i) ∧ (listed0.getD i false = true ∨ ((∀ e ∈ es, e.1 ≠ i) ∧ ∀ e ∈ es, waitsFor md ops n i e.1 = true) ∨ ∃ e ∈ es, e.1 = i ∧ o.dst = some e.2 ∧ ∀ t ∈ o.looksAt ops, ∀ j ∈ es, j.2 = t → waitsFor md ops n i j.1 = true) := by
  intro i o ho
  have hi : i < ops.size := (Array.getElem?_eq_some_iff.1 ho).1
  have := List.all_eq_true.1 hall i (List.mem_range.2 hi)
  rw [ho] at this
  simp only [Bool.and_eq_true, Bool.or_eq_true] at this
  obtain ⟨h1, h2⟩ := this
  refine ⟨fun e he hb => ?_, ?_⟩
  · rw [Array.all_eq_true_iff_forall_mem] at h1
    have := h1 e he
    rw [hb] at this
    simpa using this
  · rcases h2 with h2 | h2
    · exact .inl h2
    · rcases hf : es.find? (fun e => e.1 == i) with _ | e
      · rw [hf] at h2
        rw [List.find?_eq_none] at hf
        exact .inr (.inl ⟨fun e he => by simpa using hf e he, fun e he => List.all_eq_true.1 h2 e he⟩)
      · rw [hf] at h2
        obtain ⟨he, hei⟩ := find_some_of hf
        simp only [Bool.and_eq_true, beq_iff_eq] at h2
        refine .inr (.inr ⟨e, he, hei, h2.1, fun t ht j hj hjt => ?_⟩)
        have := List.all_eq_true.1 (List.all_eq_true.1 h2.2 t ht) j hj
        simp only [Bool.or_eq_true, bne_iff_ne, ne_eq] at this
        exact this.resolve_left (fun h => h hjt)
 have hslot : ∀ e ∈ es, ∀ e' ∈ es, e.2 = e'.2 → e = e' := fun e he e' he' h => by
  obtain ⟨i, hi, rfl⟩ := List.getElem_of_mem he
  obtain ⟨j, hj, rfl⟩ := List.getElem_of_mem he'
  have : i = j := by
   refine (List.getElem_inj (xs := es.map (·.2)) (h₀ := by simpa using hi) (h₁ := by simpa using hj) hn2).1 ?_
   simpa using h
  subst this
  rfl
 have hnum : ∀ e ∈ es, ∀ e' ∈ es, e.1 = e'.1 → e = e' := fun e he e' he' h => by
  obtain ⟨i, hi, rfl⟩ := List.getElem_of_mem he
  obtain ⟨j, hj, rfl⟩ := List.getElem_of_mem he'
  have : i = j := by
   refine (List.getElem_inj (xs := es.map (·.1)) (h₀ := by simpa using hi) (h₁ := by simpa using hj) hn1).1 ?_
   simpa using h
  subst this
  rfl
 have hst' := hst.at_
 have hop' := hop.at_
 clear hst hop hall
 have main : ∀ (m : Nat) (listed : Array Bool) (a : Act) (w : World) (vs : Nat → Value), openN es listed = m → inTurn md ops listed → listed.size = ops.size →
  (∀ k, (∀ e ∈ es, e.1 ≠ k) → listed.getD k false = listed0.getD k false) → laidIn es vs a0 listed a → Below w0.heap.size w0 w → (∀ e ∈ es, listed.getD e.1 false = true → F e.2 (vs e.2) w) →
  wpAnyL P md ops Q S l (m + r) listed a w := by
  intro m
  induction m with
  | zero =>
   intro listed a w vs hm ht hls hk hla hB hF
   have hall := openN_zero hm
   have he : listed = es.foldl (fun b e => b.setIfInBounds e.1 true) listed0 := by
    have hfs : ∀ (es : List (Nat × Nat)) (b : Array Bool), (es.foldl (fun b e => b.setIfInBounds e.1 true) b).size = b.size := by
     intro es
     induction es with
     | nil => intro b; rfl
     | cons e es ih => intro b; rw [List.foldl_cons, ih]; simp
    have hfa : ∀ (es : List (Nat × Nat)) (b : Array Bool) (k : Nat), (es.foldl (fun b e => b.setIfInBounds e.1 true) b).getD k false = (b.getD k false || (decide (k < b.size) && es.any fun e => e.1 == k)) := by
     intro es
     induction es with
     | nil => intro b k; simp
     | cons e es ih =>
      intro b k
      rw [List.foldl_cons, ih, List.any_cons]
      by_cases h : e.1 = k
      · subst h
        by_cases hs : e.1 < b.size
        · have : (b.setIfInBounds e.1 true).getD e.1 false = true := by simp [hs]
          rw [this]
          simp [hs]
        · have : (b.setIfInBounds e.1 true) = b := by simp [Array.setIfInBounds, hs]
          rw [this]
          simp [hs]
      · have hx : (e.1 == k) = false := beq_eq_false_iff_ne.2 h
        rw [getD_set_ne false h, hx]
        simp
    have hg : ∀ k, listed.getD k false = (es.foldl (fun b e => b.setIfInBounds e.1 true) listed0).getD k false := fun k => by
     rw [hfa]
     by_cases hx : ∃ e ∈ es, e.1 = k
     · obtain ⟨e, he, rfl⟩ := hx
       rw [hall e he]
       have hlt : e.1 < listed0.size := by
        have := List.all_eq_true.1 hes e he
        simp only [Bool.and_eq_true, decide_eq_true_eq] at this
        omega
       have : es.any (fun x => x.1 == e.1) = true := List.any_eq_true.2 ⟨e, he, by simp⟩
       rw [this]
       simp [hlt]
     · have hno : ∀ e ∈ es, e.1 ≠ k := fun e he h => hx ⟨e, he, h⟩
       rw [hk k hno]
       have : es.any (fun x => x.1 == k) = false := by
        rw [List.any_eq_false]
        intro e he
        simpa using hno e he
       rw [this]
       simp
    refine Array.ext (by rw [hfs, hls, hsz]) fun i h1 h2 => ?_
    have := hg i
    rw [Array.getD_eq_getD_getElem?, Array.getD_eq_getD_getElem?, Array.getElem?_eq_getElem h1, Array.getElem?_eq_getElem h2] at this
    exact this
   rw [laid_fill hla hall, he, Nat.zero_add]
   exact hend vs w hB fun e he => hF e he (hall e he)
  | succ m ih =>
   intro listed a w vs hm ht hls hk hla hB hF
   obtain ⟨e0, he0, h0⟩ := openN_pos hm
   have hlt0 : e0.1 < ops.size := by
    have := List.all_eq_true.1 hes e0 he0
    simp only [Bool.and_eq_true, decide_eq_true_eq] at this
    exact this.1
   rw [show m + 1 + r = (m + r) + 1 by omega]
   refine ⟨fun hr => absurd hr (ready_ne hls (fun i o ho => (hrow i o ho).1) e0.1 hlt0 h0), fun i hi => ?_⟩
   obtain ⟨hiun, o, ho, hdep⟩ := mem_ready.1 hi
   have hilt : i < ops.size := (Array.getElem?_eq_some_iff.1 ho).1
   have hiun' : listed.getD i false = false := by
    rw [Array.getD_eq_getD_getElem?, Array.getElem?_eq_getElem (by omega)] at hiun ⊢
    exact hiun
   have hwl : ∀ k, waitsFor md ops n i k = true → listed.getD k false = true := fun k hw => waits_listed ht n i k o ho hdep hw
   rcases (hrow i o ho).2 with h | ⟨hno, h⟩ | ⟨e, he, hei, hdst, hlook⟩
   · by_cases hx : ∃ e ∈ es, e.1 = i
     · obtain ⟨e, he, rfl⟩ := hx
       have := List.all_eq_true.1 hes e he
       simp only [Bool.and_eq_true, Bool.not_eq_true'] at this
       rw [this.2] at h
       cases h
     · rw [← hk i (fun e he h => hx ⟨e, he, h⟩), hiun'] at h
       cases h
   · have := hwl e0.1 (h e0 he0)
     rw [h0] at this
     cases this
   · subst hei
     have hF' : ∀ j ∈ es, waitsFor md ops n e.1 j.1 = true → F j.2 (vs j.2) w := fun j hj hw => hF j hj (hwl j.1 hw)
     have hfz : a.tmps.size = (fillL es vs a0).tmps.size := by
      have h1 : ∀ d, a.tmps[d]? = none ↔ (fillL es vs a0).tmps[d]? = none := fun d => by
       rw [hla.2 d, fillL_at]
       simp
      have h2 := h1 a.tmps.size
      have h3 := h1 (fillL es vs a0).tmps.size
      simp only [Array.getElem?_eq_none_iff] at h2 h3
      omega
     refine wpOpS_of_fill (b := fillL es vs a0) (G := fun v w' => F e.2 v w' ∧ T w w') ho (fun cs b => Region.noSelect_spec hns e.1 o cs b ho) hfz ?_ (hop' e he vs w hB hF' o ho) ?_
     · intro t ht'
       exact laid_looks hla fun j hj hjt => hwl j.1 (hlook t ht' j hj hjt)
     · intro v w' hv
       have hB' : Below w0.heap.size w0 w' := hT w w' hB hv.2
       refine ⟨.inr (hS w' hB'), ?_⟩
       have hne : ∀ j ∈ es, j ≠ e → j.2 ≠ e.2 := fun j hj hje h => hje (hslot j hj e he h)
       refine ih (listed.setIfInBounds e.1 true) (a.put o.dst v) w' (fun d => if d = e.2 then v else vs d) ?_ (ht.add hi) (by simpa using hls) ?_ ?_ hB' ?_
       · have := openN_set listed e.1 (by omega) hiun' es hn1 (List.mem_map_of_mem he)
         omega
       · intro k hk'
         rw [getD_set_ne false (hk' e he)]
         exact hk k hk'
       · refine ⟨?_, fun d => ?_⟩
         · rw [hdst]
           exact hla.1
         · rw [hdst]
           simp only [Act.put]
           by_cases hd : d = e.2
           · subst hd
             have hany : es.any (fun x => x.2 == e.2 && (listed.setIfInBounds e.1 true).getD x.1 false) = true := List.any_eq_true.2 ⟨e, he, by
              have hl : e.1 < listed.size := by omega
              simp [hl]⟩
             rw [hany, Array.getElem?_setIfInBounds]
             have := hla.2 e.2
             by_cases hs : e.2 < a.tmps.size
             · rw [Array.getElem?_eq_getElem hs] at this
               rcases hx : a0.tmps[e.2]? with _ | x
               · rw [hx] at this
                 cases this
               · simp [hs]
             · rw [Array.getElem?_eq_none (by omega)] at this
               rcases hx : a0.tmps[e.2]? with _ | x
               · simp [hs]
               · rw [hx] at this
                 cases this
           · rw [Array.getElem?_setIfInBounds_ne (Ne.symm hd), hla.2 d]
             have hany : es.any (fun x => x.2 == d && (listed.setIfInBounds e.1 true).getD x.1 false) = es.any (fun x => x.2 == d && listed.getD x.1 false) := by
              rw [Bool.eq_iff_iff, List.any_eq_true, List.any_eq_true]
              have hx : ∀ x ∈ es, x.2 = d → e.1 ≠ x.1 := fun x hx hxd h => by
               have := hnum e he x hx h
               subst this
               exact hd hxd.symm
              constructor
              · rintro ⟨x, hx1, hx2⟩
                simp only [Bool.and_eq_true, beq_iff_eq] at hx2
                rw [getD_set_ne false (hx x hx1 hx2.1)] at hx2
                exact ⟨x, hx1, by simp only [Bool.and_eq_true, beq_iff_eq]; exact hx2⟩
              · rintro ⟨x, hx1, hx2⟩
                simp only [Bool.and_eq_true, beq_iff_eq] at hx2
                refine ⟨x, hx1, ?_⟩
                rw [getD_set_ne false (hx x hx1 hx2.1)]
                simp only [Bool.and_eq_true, beq_iff_eq]
                exact hx2
             rw [hany]
             simp only [if_neg hd]
       · intro j hj hjl
         by_cases hje : j = e
         · subst hje
           simp only [if_true]
           exact hv.1
         · simp only [if_neg (hne j hj hje)]
           rw [getD_set_ne false (fun h => hje (hnum j hj e he h.symm))] at hjl
           exact hst' j hj _ w w' (hF j hj hjl) hv.2
 have hop0 : ∀ e ∈ es, listed0.getD e.1 false = false := fun e he => by
  have := List.all_eq_true.1 hes e he
  simp only [Bool.and_eq_true, Bool.not_eq_true'] at this
  exact this.2
 refine main m listed0 a0 w0 (fun _ => undef) hm (inTurn_of hit) hsz (fun _ _ => rfl) ⟨rfl, fun d => ?_⟩ (Below.refl _ _) fun e he h => ?_
 · have : es.any (fun e => e.2 == d && listed0.getD e.1 false) = false := by
    rw [List.any_eq_false]
    intro e he
    rw [hop0 e he]
    simp
   rw [this]
   simp
 · rw [hop0 e he] at h
   cases h
end
end Go.Proofs.YtimmcmjipmkebaaGreat
