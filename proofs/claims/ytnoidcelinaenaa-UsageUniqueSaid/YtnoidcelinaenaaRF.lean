/-
  Regions that draw their order, by facts: each operation of a set is shown once, whatever order is picked: what it yields, and that what lay stays. No conditions.
-/
import Derived.Test.YtnoidcelinaenaaRL
namespace Go.Proofs.Ytnoidcelinaenaa
open Go.ChangeShapes Go.WideShapes Go.ChangeAt Go.RowKit
set_option maxRecDepth 100000

section
variable {P : Program} {ops : Array Oper} {Q : Exit → Act → World → Prop} {md : Region.Mode} {S : World → Prop} {l : Nat}

/-- The frame with these slots laid. -/
def fillL (es : List (Nat × Nat)) (vs : Nat → Value) (a : Act) : Act := es.foldl (fun a e => a.put (some e.2) (vs e.2)) a
/-- Each one of a list. -/
def AllOf {α : Type} (p : α → Prop) : List α → Prop
  | [] => True
  | x :: xs => p x ∧ AllOf p xs
theorem AllOf.at_ {α : Type} {p : α → Prop} : ∀ {l : List α}, AllOf p l → ∀ x ∈ l, p x
  | _ :: _, h, x, hx => by
    rcases List.mem_cons.1 hx with rfl | hx
    · exact h.1
    · exact h.2.at_ x hx

/-- The set is one that the law serves. -/
def factsB (md : Region.Mode) (ops : Array Oper) (listed : Array Bool) (n : Nat) (es : List (Nat × Nat)) : Bool :=
  Region.noSelect ops && noDefer ops && inTurnB md ops listed && (listed.size == ops.size) &&
  ((List.range ops.size).all fun i => match ops[i]? with
    | none => true
    | some o => (o.after.all fun e => !Region.binds md e || decide (e.on < i)) &&
      (listed.getD i false || match es.find? (fun e => e.1 == i) with
        | none => es.all fun e => waitsFor md ops n i e.1
        | some e => o.dst == some e.2 && ((o.looksAt ops).all fun t => es.all fun j => j.2 != t || waitsFor md ops n i j.1))) &&
  (es.all fun e => decide (e.1 < ops.size) && !listed.getD e.1 false) &&
  decide (es.map (·.1)).Nodup && decide (es.map (·.2)).Nodup

/-- The frame, as far as it was laid. -/
def laidIn (es : List (Nat × Nat)) (vs : Nat → Value) (a0 : Act) (listed : Array Bool) (a : Act) : Prop :=
  a.defers = a0.defers ∧ ∀ d, a.tmps[d]? = (a0.tmps[d]?).map fun x => if es.any (fun e => e.2 == d && listed.getD e.1 false) then vs d else x

theorem fillL_defers (vs : Nat → Value) : ∀ (es : List (Nat × Nat)) (a : Act), (fillL es vs a).defers = a.defers
  | [], _ => rfl
  | e :: es, a => fillL_defers vs es (a.put (some e.2) (vs e.2))
theorem fillL_at (vs : Nat → Value) : ∀ (es : List (Nat × Nat)) (a : Act) (d : Nat), (fillL es vs a).tmps[d]? = (a.tmps[d]?).map fun x => if es.any (fun e => e.2 == d) then vs d else x
  | [], a, d => by simp [fillL]
  | e :: es, a, d => by
    have := fillL_at vs es (a.put (some e.2) (vs e.2)) d
    unfold fillL at this ⊢
    rw [List.foldl_cons, this]
    by_cases h : e.2 = d
    · subst h
      have hx : (e :: es).any (fun x => x.2 == e.2) = true := by simp
      rw [hx]
      simp only [Act.put]
      rw [Array.getElem?_setIfInBounds]
      by_cases hs : e.2 < a.tmps.size
      · simp [hs]
      · simp [hs]
    · have hx : (e :: es).any (fun x => x.2 == d) = es.any (fun x => x.2 == d) := by simp [h]
      rw [hx]
      simp only [Act.put]
      rw [Array.getElem?_setIfInBounds_ne h]

theorem act_ext {a b : Act} (h : a.defers = b.defers) (ht : ∀ d : Nat, a.tmps[d]? = b.tmps[d]?) : a = b := by
  obtain ⟨t, d⟩ := a
  obtain ⟨t', d'⟩ := b
  have : t = t' := Array.ext_getElem? ht
  subst this
  cases h
  rfl

theorem find_some_of {es : List (Nat × Nat)} {i : Nat} {e : Nat × Nat} (h : es.find? (fun e => e.1 == i) = some e) : e ∈ es ∧ e.1 = i :=
  ⟨List.mem_of_find?_eq_some h, by simpa using List.find?_some h⟩

/-- What is not laid yet. -/
def openN (es : List (Nat × Nat)) (listed : Array Bool) : Nat := es.countP fun e => !listed.getD e.1 false

theorem openN_set (listed : Array Bool) (i : Nat) (hi : i < listed.size) (h0 : listed.getD i false = false) : ∀ (es : List (Nat × Nat)), (es.map (·.1)).Nodup → i ∈ es.map (·.1) → openN es (listed.setIfInBounds i true) + 1 = openN es listed
  | [], _, hm => by cases hm
  | e :: es, hn, hm => by
    simp only [List.map_cons, List.nodup_cons] at hn
    unfold openN
    rw [List.countP_cons, List.countP_cons]
    by_cases he : e.1 = i
    · subst he
      have hsame : es.countP (fun x => !(listed.setIfInBounds e.1 true).getD x.1 false) = es.countP fun x => !listed.getD x.1 false := by
        refine List.countP_congr fun x hx => ?_
        rw [getD_set_ne false (fun h => hn.1 (by rw [h]; exact List.mem_map_of_mem hx))]
      rw [hsame, h0]
      have : (listed.setIfInBounds e.1 true).getD e.1 false = true := by simp [hi]
      rw [this]
      simp
    · have hm' : i ∈ es.map (·.1) := by
        simp only [List.map_cons, List.mem_cons] at hm
        rcases hm with hm | hm
        · exact absurd hm.symm he
        · exact hm
      have := openN_set listed i hi h0 es hn.2 hm'
      unfold openN at this
      rw [getD_set_ne false (fun h => he h.symm)]
      omega

theorem openN_zero {es : List (Nat × Nat)} {listed : Array Bool} (h : openN es listed = 0) : ∀ e ∈ es, listed.getD e.1 false = true := fun e he => by
  unfold openN at h
  rw [List.countP_eq_zero] at h
  simpa using h e he

theorem openN_pos {es : List (Nat × Nat)} {listed : Array Bool} {m : Nat} (h : openN es listed = m + 1) : ∃ e ∈ es, listed.getD e.1 false = false := by
  unfold openN at h
  have : 0 < es.countP fun e => !listed.getD e.1 false := by omega
  rw [List.countP_pos_iff] at this
  obtain ⟨e, he, h'⟩ := this
  exact ⟨e, he, by simpa using h'⟩

/-- Somebody is ready as long as somebody is not listed. -/
theorem ready_ne {listed : Array Bool} (hs : listed.size = ops.size) (hb : ∀ (i : Nat) (o : Oper), ops[i]? = some o → ∀ e ∈ o.after, Region.binds md e = true → e.on < i) :
    ∀ i, i < ops.size → listed.getD i false = false → Region.ready md ops listed ≠ [] := by
  intro i
  induction i using Nat.strongRecOn with
  | ind i ih =>
    intro hi h0
    by_cases h : ∃ j, j < i ∧ listed.getD j false = false
    · obtain ⟨j, hj, hj0⟩ := h
      exact ih j hj (by omega) hj0
    · intro he
      have : i ∈ Region.ready md ops listed := by
        refine mem_ready.2 ⟨?_, ops[i], Array.getElem?_eq_getElem hi, fun e hm hbe => ?_⟩
        · have hl : i < listed.size := by omega
          rw [Array.getD_eq_getD_getElem?, Array.getElem?_eq_getElem hl] at h0 ⊢
          exact h0
        · have hlt := hb i ops[i] (Array.getElem?_eq_getElem hi) e hm hbe
          rcases hx : listed.getD e.on false with _ | _
          · exact absurd ⟨e.on, hlt, hx⟩ h
          · rfl
      rw [he] at this
      cases this

theorem laid_fill {es : List (Nat × Nat)} {vs : Nat → Value} {a0 a : Act} {listed : Array Bool} (h : laidIn es vs a0 listed a) (hall : ∀ e ∈ es, listed.getD e.1 false = true) : a = fillL es vs a0 := by
  refine act_ext (by rw [fillL_defers]; exact h.1) fun d => ?_
  rw [h.2 d, fillL_at]
  have : es.any (fun e => e.2 == d && listed.getD e.1 false) = es.any (fun e => e.2 == d) := by
    rw [Bool.eq_iff_iff, List.any_eq_true, List.any_eq_true]
    constructor
    · rintro ⟨e, he, h⟩
      exact ⟨e, he, by simp only [Bool.and_eq_true] at h; exact h.1⟩
    · rintro ⟨e, he, h⟩
      exact ⟨e, he, by rw [h, hall e he]; rfl⟩
  rw [this]

/-- What it looks at reads the same. -/
theorem laid_looks {es : List (Nat × Nat)} {vs : Nat → Value} {a0 a : Act} {listed : Array Bool} (h : laidIn es vs a0 listed a) {d : Nat} (hd : ∀ j ∈ es, j.2 = d → listed.getD j.1 false = true) : a.tmps[d]? = (fillL es vs a0).tmps[d]? := by
  rw [h.2 d, fillL_at]
  have : es.any (fun e => e.2 == d && listed.getD e.1 false) = es.any (fun e => e.2 == d) := by
    rw [Bool.eq_iff_iff, List.any_eq_true, List.any_eq_true]
    constructor
    · rintro ⟨e, he, h⟩
      exact ⟨e, he, by simp only [Bool.and_eq_true] at h; exact h.1⟩
    · rintro ⟨e, he, h⟩
      exact ⟨e, he, by rw [h, hd e he (by simpa using h)]; rfl⟩
  rw [this]

theorem put_same {a b : Act} (hsz : a.tmps.size = b.tmps.size) {d : Option Tmp} {v u : Value} (h : b.put d v = b.put d u) : a.put d v = a.put d u := by
  cases d with
  | none => rfl
  | some d =>
    by_cases hd : d < b.tmps.size
    · have h1 : (b.put (some d) v).tmps[d]? = (b.put (some d) u).tmps[d]? := by rw [h]
      simp [Act.put, hd] at h1
      rw [h1]
    · have hd' : ¬ d < a.tmps.size := by rw [hsz]; exact hd
      unfold Act.put
      simp [Array.setIfInBounds, hd']

/-- One operation, shown at the frame that is laid whole, goes at the frame that is laid as far as it looks. -/
theorem wpOpS_of_fill {i : Nat} {o : Oper} {a b : Act} {w : World} {G : Value → World → Prop} {K : Act → World → Prop} (ho : ops[i]? = some o) (hsel : ∀ cs b, o.op ≠ .select cs b)
    (hsz : a.tmps.size = b.tmps.size) (hlk : ∀ t ∈ o.looksAt ops, a.tmps[t]? = b.tmps[t]?)
    (h : ∀ K' : Act → World → Prop, Shut (∀ v w', G v w' → K' (b.put o.dst v) w') → if Region.wanted o (yielded ops b.tmps) = true then Oper.wp P o b w K' (fun _ _ _ => False) else K' (b.put o.dst undef) w)
    (hK : ∀ v w', G v w' → K (a.put o.dst v) w') : wpOpS P ops Q i K a w := by
  have h1 := h (fun b' w' => ∃ v, b' = b.put o.dst v ∧ G v w') (fun v w' hv => ⟨v, rfl, hv⟩)
  clear h
  have he : execOp a.eval o = execOp b.eval o := execOp_congr o hsel fun x hx => by
    cases x with
    | tmp t =>
      have := hlk t (List.mem_append_left _ (List.mem_filterMap.2 ⟨.tmp t, by simpa using hx, rfl⟩))
      simp only [Act.eval, Array.getD_eq_getD_getElem?, this]
    | _ => rfl
  have hw : Region.wanted o (yielded ops a.tmps) = Region.wanted o (yielded ops b.tmps) := by
    unfold Region.wanted
    rcases hg : o.guard with _ | ⟨g, x⟩
    · rfl
    · have hy : yielded ops a.tmps g = yielded ops b.tmps g := by
        unfold yielded
        rcases hd : (ops[g]?).bind (·.dst) with _ | d
        · rfl
        · have := hlk d (List.mem_append_right _ (by rw [hg]; simp only; rw [hd]; simp))
          simp only [Option.bind_some, this]
      simp only [hy]
  have same : ∀ {v u : Value}, b.put o.dst v = b.put o.dst u → a.put o.dst v = a.put o.dst u := fun h => put_same hsz h
  unfold wpOpS
  rw [ho]
  simp only
  rw [hw]
  split
  · rename_i hc
    rw [if_pos hc] at h1
    unfold Oper.wp at h1 ⊢
    rw [he]
    generalize hr : (execOp b.eval o).run P w = r at h1
    cases r with
    | ok x w' =>
      cases x <;> simp only [Oper.upon] at h1 ⊢
      case value u =>
        obtain ⟨v, e, hv⟩ := h1
        rw [same e]
        exact hK v w' hv
      case skip =>
        obtain ⟨v, e, hv⟩ := h1
        rw [same e]
        exact hK v w' hv
      case enter f args =>
        refine Calls.mono h1 fun e w'' he => ?_
        cases e with
        | returned u =>
          obtain ⟨v, e, hv⟩ := he
          show K (a.put o.dst u) w''
          rw [same e]
          exact hK v w'' hv
        | panicked c => exact (he : False).elim
        | outgrown => exact (by obtain ⟨_, _, h⟩ := he; exact (h : False).elim)
      case row row args =>
        refine Rows.mono h1 fun u w'' he => ?_
        obtain ⟨v, e, hv⟩ := he
        rw [same e]
        exact hK v w'' hv
      case defer d =>
        obtain ⟨v, e, hv⟩ := h1
        have := congrArg (fun a => a.defers.length) e
        cases hd : o.dst <;> simp [Act.put, hd] at this
    | halt x w' =>
      cases x <;> simp only [Oper.upon] at h1 ⊢
  · rename_i hc
    rw [if_neg hc] at h1
    obtain ⟨v, e, hv⟩ := h1
    rw [same e]
    exact hK v w hv

/-- What lay reads as it did; below n nothing at all has turned. -/
def Stays (n : Nat) (w w' : World) : Prop := Below n w w' ∧ (∀ p : Addr, p.block < w.heap.size → w'.cell? p = w.cell? p) ∧ ∀ g, g < w.heap.size → w'.shape? g = w.shape? g
theorem stays_of {n : Nat} {w w' : World} (h : Below w.heap.size w w') (hn : n ≤ w.heap.size) : Stays n w w' :=
  ⟨h.mono hn, fun _ hp => h.cell hp, fun g hg => by unfold World.shape?; rw [h.block g hg]⟩
theorem Stays.rd {n : Nat} {w w' : World} {A : Option Addr} {vs : List Value} (h : Rd w A vs) (hs : Stays n w w') : Rd w' A vs := fun hv => by
  obtain ⟨b, off, hA, hb, hc⟩ := h hv
  exact ⟨b, off, hA, Nat.lt_of_lt_of_le hb hs.1.size, fun j u hu => (hs.2.1 ⟨b, off + j, none⟩ hb).trans (hc j u hu)⟩
theorem shape_blk {w : World} {g : Nat} {t : TypeId} {vs : List Value} (h : Blk w g t vs) : w.shape? g = some (t, vs.length) := by
  unfold World.shape?
  rw [show w.heap[g]? = _ from h]
  simp
theorem shape_lt {w : World} {g : Nat} {x : TypeId × Nat} (h : w.shape? g = some x) : g < w.heap.size := by
  rcases Nat.lt_or_ge g w.heap.size with h' | h'
  · exact h'
  · simp [World.shape?, Array.getElem?_eq_none h'] at h
theorem Stays.freeze {n : Nat} {w : World} {g k : Nat} (hg : n ≤ g) : Stays n w (w.freeze ⟨g, k, none⟩ 1) := by
  have hh : ∀ j : Nat, j ≠ g → (w.freeze ⟨g, k, none⟩ 1).heap[j]? = w.heap[j]? := fun j hj => by
    unfold World.freeze
    rw [if_neg (by decide)]
    show (w.heap.modify g _)[j]? = _
    rw [Array.getElem?_modify, if_neg (by omega)]
  have hg' : ∃ f : Nat × Nat → Nat × Nat, (w.freeze ⟨g, k, none⟩ 1).heap[g]? = (w.heap[g]?).map fun o => match o with | .cells c e fr => .cells c e (f fr) | o => o := by
    refine ⟨fun fr => if fr.1 == fr.2 then (k, k + 1) else (min fr.1 k, max fr.2 (k + 1)), ?_⟩
    unfold World.freeze
    rw [if_neg (by decide)]
    show (w.heap.modify g _)[g]? = _
    rw [Array.getElem?_modify, if_pos rfl]
    congr 1
    funext o
    cases o <;> rfl
  obtain ⟨f, hf⟩ := hg'
  refine ⟨⟨?_, ?_, ?_, ?_, fun j hj => hh j (by omega)⟩, fun p hp => ?_, fun j hj => ?_⟩
  · unfold World.freeze; rfl
  · unfold World.freeze; rfl
  · unfold World.freeze; rfl
  · unfold World.freeze
    rw [if_neg (by decide)]
    simp
  · unfold World.cell?
    by_cases h : p.block = g
    · rw [h, hf]
      rcases w.heap[g]? with _ | o
      · rfl
      · cases o <;> rfl
    · rw [hh _ h]
  · unfold World.shape?
    by_cases h : j = g
    · rw [h, hf]
      rcases w.heap[g]? with _ | o
      · rfl
      · cases o <;> rfl
    · rw [hh _ h]
/-- A literal's octets, made a slice. -/
theorem run_conv_lit {P : Program} (w : World) (t e : TypeId) (g m n c : Nat) (hsh : w.shape? g = some (e, m)) (ht : P.underlying t = some (.slice e)) (he : P.underlying e = some (.int .u8)) :
    (convert t t (.slice (some ⟨g, 0, none⟩) n c)).run P w = .ok (.slice (some ⟨g, 0, none⟩) n c) (w.freeze ⟨g, m, none⟩ 1) := by
  simp [convert, run_underlying ht, run_underlying he, markStringish, hsh]

/-- Where a set of operations comes up, whatever order is picked, each shown once: what it yields (F, by its slot), and that what lay stays. -/
theorem wpAnyL_facts (n m r : Nat) (es : List (Nat × Nat)) (F : Nat → Value → World → Prop) (T : World → World → Prop) {listed0 : Array Bool} {a0 : Act} {w0 : World}
    (hchk : factsB md ops listed0 n es = true) (hm : openN es listed0 = m)
    (hT : ∀ w w', Below w0.heap.size w0 w → T w w' → Below w0.heap.size w0 w')
    (hst : AllOf (fun e => ∀ v w w', F e.2 v w → T w w' → F e.2 v w') es)
    (hS : ∀ w', Below w0.heap.size w0 w' → S w')
    (hop : AllOf (fun e => ∀ (vs : Nat → Value) (w : World), Below w0.heap.size w0 w → (∀ j ∈ es, waitsFor md ops n e.1 j.1 = true → F j.2 (vs j.2) w) → ∀ o, ops[e.1]? = some o →
      ∀ K' : Act → World → Prop, Shut (∀ v w', F e.2 v w' ∧ T w w' → K' ((fillL es vs a0).put o.dst v) w') →
        if Region.wanted o (yielded ops (fillL es vs a0).tmps) = true then Oper.wp P o (fillL es vs a0) w K' (fun _ _ _ => False) else K' ((fillL es vs a0).put o.dst undef) w) es)
    (hend : ∀ (vs : Nat → Value) (w : World), Below w0.heap.size w0 w → (∀ e ∈ es, F e.2 (vs e.2) w) → wpAnyL P md ops Q S l r (es.foldl (fun b e => b.setIfInBounds e.1 true) listed0) (fillL es vs a0) w) :
    wpAnyL P md ops Q S l (m + r) listed0 a0 w0 := by
  unfold factsB at hchk
  simp only [Bool.and_eq_true, decide_eq_true_eq] at hchk
  obtain ⟨⟨⟨⟨⟨⟨⟨hns, _⟩, hit⟩, hsz⟩, hall⟩, hes⟩, hn1⟩, hn2⟩ := hchk
  have hsz : listed0.size = ops.size := by simpa using hsz
  have hrow : ∀ (i : Nat) (o : Oper), ops[i]? = some o → (∀ e ∈ o.after, Region.binds md e = true → e.on < i) ∧ (listed0.getD i false = true ∨ ((∀ e ∈ es, e.1 ≠ i) ∧ ∀ e ∈ es, waitsFor md ops n i e.1 = true) ∨ ∃ e ∈ es, e.1 = i ∧ o.dst = some e.2 ∧ ∀ t ∈ o.looksAt ops, ∀ j ∈ es, j.2 = t → waitsFor md ops n i j.1 = true) := by
    intro i o ho
    have hi : i < ops.size := (Array.getElem?_eq_some_iff.1 ho).1
    have := List.all_eq_true.1 hall i (List.mem_range.2 hi)
    rw [ho] at this
    simp only [Bool.and_eq_true, Bool.or_eq_true] at this
    obtain ⟨h1, h2⟩ := this
    refine ⟨fun e he hb => ?_, ?_⟩
    · rw [Array.all_eq_true_iff_forall_mem] at h1
      have := h1 e he
      rw [hb] at this
      simpa using this
    · rcases h2 with h2 | h2
      · exact .inl h2
      · rcases hf : es.find? (fun e => e.1 == i) with _ | e
        · rw [hf] at h2
          rw [List.find?_eq_none] at hf
          exact .inr (.inl ⟨fun e he => by simpa using hf e he, fun e he => List.all_eq_true.1 h2 e he⟩)
        · rw [hf] at h2
          obtain ⟨he, hei⟩ := find_some_of hf
          simp only [Bool.and_eq_true, beq_iff_eq] at h2
          refine .inr (.inr ⟨e, he, hei, h2.1, fun t ht j hj hjt => ?_⟩)
          have := List.all_eq_true.1 (List.all_eq_true.1 h2.2 t ht) j hj
          simp only [Bool.or_eq_true, bne_iff_ne, ne_eq] at this
          exact this.resolve_left (fun h => h hjt)
  have hslot : ∀ e ∈ es, ∀ e' ∈ es, e.2 = e'.2 → e = e' := fun e he e' he' h => by
    obtain ⟨i, hi, rfl⟩ := List.getElem_of_mem he
    obtain ⟨j, hj, rfl⟩ := List.getElem_of_mem he'
    have : i = j := by
      refine (List.getElem_inj (xs := es.map (·.2)) (h₀ := by simpa using hi) (h₁ := by simpa using hj) hn2).1 ?_
      simpa using h
    subst this
    rfl
  have hnum : ∀ e ∈ es, ∀ e' ∈ es, e.1 = e'.1 → e = e' := fun e he e' he' h => by
    obtain ⟨i, hi, rfl⟩ := List.getElem_of_mem he
    obtain ⟨j, hj, rfl⟩ := List.getElem_of_mem he'
    have : i = j := by
      refine (List.getElem_inj (xs := es.map (·.1)) (h₀ := by simpa using hi) (h₁ := by simpa using hj) hn1).1 ?_
      simpa using h
    subst this
    rfl
  have hst' := hst.at_
  have hop' := hop.at_
  clear hst hop hall
  have main : ∀ (m : Nat) (listed : Array Bool) (a : Act) (w : World) (vs : Nat → Value), openN es listed = m → inTurn md ops listed → listed.size = ops.size →
      (∀ k, (∀ e ∈ es, e.1 ≠ k) → listed.getD k false = listed0.getD k false) → laidIn es vs a0 listed a → Below w0.heap.size w0 w → (∀ e ∈ es, listed.getD e.1 false = true → F e.2 (vs e.2) w) →
      wpAnyL P md ops Q S l (m + r) listed a w := by
    intro m
    induction m with
    | zero =>
      intro listed a w vs hm ht hls hk hla hB hF
      have hall := openN_zero hm
      have he : listed = es.foldl (fun b e => b.setIfInBounds e.1 true) listed0 := by
        have hfs : ∀ (es : List (Nat × Nat)) (b : Array Bool), (es.foldl (fun b e => b.setIfInBounds e.1 true) b).size = b.size := by
          intro es
          induction es with
          | nil => intro b; rfl
          | cons e es ih => intro b; rw [List.foldl_cons, ih]; simp
        have hfa : ∀ (es : List (Nat × Nat)) (b : Array Bool) (k : Nat), (es.foldl (fun b e => b.setIfInBounds e.1 true) b).getD k false = (b.getD k false || (decide (k < b.size) && es.any fun e => e.1 == k)) := by
          intro es
          induction es with
          | nil => intro b k; simp
          | cons e es ih =>
            intro b k
            rw [List.foldl_cons, ih, List.any_cons]
            by_cases h : e.1 = k
            · subst h
              by_cases hs : e.1 < b.size
              · have : (b.setIfInBounds e.1 true).getD e.1 false = true := by simp [hs]
                rw [this]
                simp [hs]
              · have : (b.setIfInBounds e.1 true) = b := by simp [Array.setIfInBounds, hs]
                rw [this]
                simp [hs]
            · have hx : (e.1 == k) = false := beq_eq_false_iff_ne.2 h
              rw [getD_set_ne false h, hx]
              simp
        have hg : ∀ k, listed.getD k false = (es.foldl (fun b e => b.setIfInBounds e.1 true) listed0).getD k false := fun k => by
          rw [hfa]
          by_cases hx : ∃ e ∈ es, e.1 = k
          · obtain ⟨e, he, rfl⟩ := hx
            rw [hall e he]
            have hlt : e.1 < listed0.size := by
              have := List.all_eq_true.1 hes e he
              simp only [Bool.and_eq_true, decide_eq_true_eq] at this
              omega
            have : es.any (fun x => x.1 == e.1) = true := List.any_eq_true.2 ⟨e, he, by simp⟩
            rw [this]
            simp [hlt]
          · have hno : ∀ e ∈ es, e.1 ≠ k := fun e he h => hx ⟨e, he, h⟩
            rw [hk k hno]
            have : es.any (fun x => x.1 == k) = false := by
              rw [List.any_eq_false]
              intro e he
              simpa using hno e he
            rw [this]
            simp
        refine Array.ext (by rw [hfs, hls, hsz]) fun i h1 h2 => ?_
        have := hg i
        rw [Array.getD_eq_getD_getElem?, Array.getD_eq_getD_getElem?, Array.getElem?_eq_getElem h1, Array.getElem?_eq_getElem h2] at this
        exact this
      rw [laid_fill hla hall, he, Nat.zero_add]
      exact hend vs w hB fun e he => hF e he (hall e he)
    | succ m ih =>
      intro listed a w vs hm ht hls hk hla hB hF
      obtain ⟨e0, he0, h0⟩ := openN_pos hm
      have hlt0 : e0.1 < ops.size := by
        have := List.all_eq_true.1 hes e0 he0
        simp only [Bool.and_eq_true, decide_eq_true_eq] at this
        exact this.1
      rw [show m + 1 + r = (m + r) + 1 by omega]
      refine ⟨fun hr => absurd hr (ready_ne hls (fun i o ho => (hrow i o ho).1) e0.1 hlt0 h0), fun i hi => ?_⟩
      obtain ⟨hiun, o, ho, hdep⟩ := mem_ready.1 hi
      have hilt : i < ops.size := (Array.getElem?_eq_some_iff.1 ho).1
      have hiun' : listed.getD i false = false := by
        rw [Array.getD_eq_getD_getElem?, Array.getElem?_eq_getElem (by omega)] at hiun ⊢
        exact hiun
      have hwl : ∀ k, waitsFor md ops n i k = true → listed.getD k false = true := fun k hw => waits_listed ht n i k o ho hdep hw
      rcases (hrow i o ho).2 with h | ⟨hno, h⟩ | ⟨e, he, hei, hdst, hlook⟩
      · by_cases hx : ∃ e ∈ es, e.1 = i
        · obtain ⟨e, he, rfl⟩ := hx
          have := List.all_eq_true.1 hes e he
          simp only [Bool.and_eq_true, Bool.not_eq_true'] at this
          rw [this.2] at h
          cases h
        · rw [← hk i (fun e he h => hx ⟨e, he, h⟩), hiun'] at h
          cases h
      · have := hwl e0.1 (h e0 he0)
        rw [h0] at this
        cases this
      · subst hei
        have hF' : ∀ j ∈ es, waitsFor md ops n e.1 j.1 = true → F j.2 (vs j.2) w := fun j hj hw => hF j hj (hwl j.1 hw)
        have hfz : a.tmps.size = (fillL es vs a0).tmps.size := by
          have h1 : ∀ d, a.tmps[d]? = none ↔ (fillL es vs a0).tmps[d]? = none := fun d => by
            rw [hla.2 d, fillL_at]
            simp
          have h2 := h1 a.tmps.size
          have h3 := h1 (fillL es vs a0).tmps.size
          simp only [Array.getElem?_eq_none_iff] at h2 h3
          omega
        refine wpOpS_of_fill (b := fillL es vs a0) (G := fun v w' => F e.2 v w' ∧ T w w') ho (fun cs b => Region.noSelect_spec hns e.1 o cs b ho) hfz ?_ (hop' e he vs w hB hF' o ho) ?_
        · intro t ht'
          exact laid_looks hla fun j hj hjt => hwl j.1 (hlook t ht' j hj hjt)
        · intro v w' hv
          have hB' : Below w0.heap.size w0 w' := hT w w' hB hv.2
          refine ⟨.inr (hS w' hB'), ?_⟩
          have hne : ∀ j ∈ es, j ≠ e → j.2 ≠ e.2 := fun j hj hje h => hje (hslot j hj e he h)
          refine ih (listed.setIfInBounds e.1 true) (a.put o.dst v) w' (fun d => if d = e.2 then v else vs d) ?_ (ht.add hi) (by simpa using hls) ?_ ?_ hB' ?_
          · have := openN_set listed e.1 (by omega) hiun' es hn1 (List.mem_map_of_mem he)
            omega
          · intro k hk'
            rw [getD_set_ne false (hk' e he)]
            exact hk k hk'
          · refine ⟨?_, fun d => ?_⟩
            · rw [hdst]
              exact hla.1
            · rw [hdst]
              simp only [Act.put]
              by_cases hd : d = e.2
              · subst hd
                have hany : es.any (fun x => x.2 == e.2 && (listed.setIfInBounds e.1 true).getD x.1 false) = true := List.any_eq_true.2 ⟨e, he, by
                  have hl : e.1 < listed.size := by omega
                  simp [hl]⟩
                rw [hany, Array.getElem?_setIfInBounds]
                have := hla.2 e.2
                by_cases hs : e.2 < a.tmps.size
                · rw [Array.getElem?_eq_getElem hs] at this
                  rcases hx : a0.tmps[e.2]? with _ | x
                  · rw [hx] at this
                    cases this
                  · simp [hs]
                · rw [Array.getElem?_eq_none (by omega)] at this
                  rcases hx : a0.tmps[e.2]? with _ | x
                  · simp [hs]
                  · rw [hx] at this
                    cases this
              · rw [Array.getElem?_setIfInBounds_ne (Ne.symm hd), hla.2 d]
                have hany : es.any (fun x => x.2 == d && (listed.setIfInBounds e.1 true).getD x.1 false) = es.any (fun x => x.2 == d && listed.getD x.1 false) := by
                  rw [Bool.eq_iff_iff, List.any_eq_true, List.any_eq_true]
                  have hx : ∀ x ∈ es, x.2 = d → e.1 ≠ x.1 := fun x hx hxd h => by
                    have := hnum e he x hx h
                    subst this
                    exact hd hxd.symm
                  constructor
                  · rintro ⟨x, hx1, hx2⟩
                    simp only [Bool.and_eq_true, beq_iff_eq] at hx2
                    rw [getD_set_ne false (hx x hx1 hx2.1)] at hx2
                    exact ⟨x, hx1, by simp only [Bool.and_eq_true, beq_iff_eq]; exact hx2⟩
                  · rintro ⟨x, hx1, hx2⟩
                    simp only [Bool.and_eq_true, beq_iff_eq] at hx2
                    refine ⟨x, hx1, ?_⟩
                    rw [getD_set_ne false (hx x hx1 hx2.1)]
                    simp only [Bool.and_eq_true, beq_iff_eq]
                    exact hx2
                rw [hany]
                simp only [if_neg hd]
          · intro j hj hjl
            by_cases hje : j = e
            · subst hje
              simp only [if_true]
              exact hv.1
            · simp only [if_neg (hne j hj hje)]
              rw [getD_set_ne false (fun h => hje (hnum j hj e he h.symm))] at hjl
              exact hst' j hj _ w w' (hF j hj hjl) hv.2
  have hop0 : ∀ e ∈ es, listed0.getD e.1 false = false := fun e he => by
    have := List.all_eq_true.1 hes e he
    simp only [Bool.and_eq_true, Bool.not_eq_true'] at this
    exact this.2
  refine main m listed0 a0 w0 (fun _ => undef) hm (inTurn_of hit) hsz (fun _ _ => rfl) ⟨rfl, fun d => ?_⟩ (Below.refl _ _) fun e he h => ?_
  · have : es.any (fun e => e.2 == d && listed0.getD e.1 false) = false := by
      rw [List.any_eq_false]
      intro e he
      rw [hop0 e he]
      simp
    rw [this]
    simp
  · rw [hop0 e he] at h
    cases h

end

end Go.Proofs.Ytnoidcelinaenaa
