/-
  Properties, plainly: lists of names and values that rise by name. No conditions.
-/
import Derived.Test.YtnoidcelinaenaaGY
import Derived.Test.YtnoidcelinaenaaNM
namespace Go.Proofs.Ytnoidcelinaenaa
set_option maxRecDepth 100000

/-- A property: its name, its value. -/
abbrev Pr : Type := ByteArray × ByteArray
def valOk (s : ByteArray) : Bool := (bs s).all (fun c => decide (32 ≤ c.toNat) && decide (c.toNat ≤ 126)) && decide (s.size ≤ 32)
/-- Names that rise. -/
def RisP (l : List Pr) : Prop := l.Pairwise fun a b => ltK a.1 b.1
instance : DecidableRel fun a b : Pr => ltK a.1 b.1 := fun a b => by unfold ltK; exact inferInstance
instance (l : List Pr) : Decidable (RisP l) := by unfold RisP; exact inferInstance
/-- May they be? -/
def okP (l : List Pr) : Bool := decide (l.length ≤ 8) && (l.all (fun p => isName (bs p.1) && valOk p.2) && decide (RisP l))
theorem okP_iff {l : List Pr} : okP l = true ↔ l.length ≤ 8 ∧ (∀ p ∈ l, isName (bs p.1) = true ∧ valOk p.2 = true) ∧ RisP l := by
  unfold okP
  rw [Bool.and_eq_true, Bool.and_eq_true, decide_eq_true_eq, decide_eq_true_eq, List.all_eq_true]
  simp only [Bool.and_eq_true]
/-- A name's value. -/
def getP : List Pr → ByteArray → Option ByteArray
  | [], _ => none
  | p :: l, n => if p.1 = n then some p.2 else getP l n
/-- With one, where the names rise. -/
def putP : List Pr → Pr → List Pr
  | [], p => [p]
  | x :: l, p => if ltK p.1 x.1 then p :: x :: l else if x.1 = p.1 then p :: l else x :: putP l p
/-- Without one. -/
def dropP (l : List Pr) (n : ByteArray) : List Pr := l.filter fun x => decide (x.1 ≠ n)
/-- One list over another. -/
def overP (a b : List Pr) : List Pr := b.foldl putP a

theorem getP_none {l : List Pr} {n : ByteArray} : getP l n = none ↔ ∀ p ∈ l, p.1 ≠ n := by
  induction l with
  | nil => simp [getP]
  | cons x l ih =>
    unfold getP
    by_cases h : x.1 = n
    · rw [if_pos h]
      constructor
      · intro h1; cases h1
      · intro h1; exact absurd h (h1 x (by simp))
    · rw [if_neg h, ih]
      constructor
      · intro h1 p hp
        rcases List.mem_cons.1 hp with rfl | hp
        · exact h
        · exact h1 p hp
      · intro h1 p hp; exact h1 p (by simp [hp])
theorem getP_mem {l : List Pr} {n v : ByteArray} (h : getP l n = some v) : (n, v) ∈ l := by
  induction l with
  | nil => cases h
  | cons x l ih =>
    unfold getP at h
    by_cases h1 : x.1 = n
    · rw [if_pos h1] at h
      injection h with h
      obtain ⟨a, b⟩ := x
      dsimp only at h1 h
      rw [h1, h]
      simp
    · rw [if_neg h1] at h
      exact List.mem_cons_of_mem _ (ih h)
theorem getP_of {l : List Pr} (hr : RisP l) {p : Pr} (hp : p ∈ l) : getP l p.1 = some p.2 := by
  induction l with
  | nil => cases hp
  | cons x l ih =>
    obtain ⟨h1, h2⟩ := List.pairwise_cons.1 hr
    unfold getP
    rcases List.mem_cons.1 hp with rfl | hp
    · rw [if_pos rfl]
    · rw [if_neg (ltK_ne (h1 p hp)), ih h2 hp]

/-- Lists that rise are told by what is found in them. -/
theorem risP_ext : ∀ {a b : List Pr}, RisP a → RisP b → (∀ n, getP a n = getP b n) → a = b
  | [], [], _, _, _ => rfl
  | [], y :: b, _, hb, h => by
    have := h y.1
    rw [getP_of hb (List.mem_cons_self)] at this
    cases this
  | x :: a, [], ha, _, h => by
    have := h x.1
    rw [getP_of ha (List.mem_cons_self)] at this
    cases this
  | x :: a, y :: b, ha, hb, h => by
    obtain ⟨ha1, ha2⟩ := List.pairwise_cons.1 ha
    obtain ⟨hb1, hb2⟩ := List.pairwise_cons.1 hb
    have hx : getP (y :: b) x.1 = some x.2 := by rw [← h, getP_of ha (List.mem_cons_self)]
    have hy : getP (x :: a) y.1 = some y.2 := by rw [h, getP_of hb (List.mem_cons_self)]
    have hxy : x.1 = y.1 := by
      rcases ltK_tri x.1 y.1 with g | g | g
      · exfalso
        rcases List.mem_cons.1 (getP_mem hx) with e | e
        · exact ltK_ne g (congrArg Prod.fst e)
        · exact ltK_asym g (hb1 _ e)
      · exfalso
        rcases List.mem_cons.1 (getP_mem hy) with e | e
        · exact ltK_ne g (congrArg Prod.fst e)
        · exact ltK_asym g (ha1 _ e)
      · exact g
    have e : x = y := by
      unfold getP at hx
      rw [if_pos hxy.symm] at hx
      injection hx with hx
      exact Prod.ext hxy hx.symm
    subst e
    congr 1
    refine risP_ext ha2 hb2 fun n => ?_
    by_cases hn : x.1 = n
    · subst hn
      rw [getP_none.2 fun p hp => (ltK_ne (ha1 p hp)).symm, getP_none.2 fun p hp => (ltK_ne (hb1 p hp)).symm]
    · have := h n
      unfold getP at this
      rwa [if_neg hn, if_neg hn] at this

theorem putP_mem {l : List Pr} {p x : Pr} (h : x ∈ putP l p) : x = p ∨ x ∈ l := by
  induction l with
  | nil =>
    simp [putP] at h
    exact .inl h
  | cons y l ih =>
    unfold putP at h
    split at h
    · rcases List.mem_cons.1 h with h | h
      · exact .inl h
      · exact .inr h
    · split at h
      · rcases List.mem_cons.1 h with h | h
        · exact .inl h
        · exact .inr (List.mem_cons_of_mem _ h)
      · rcases List.mem_cons.1 h with h | h
        · exact .inr (by rw [h]; exact List.mem_cons_self)
        · rcases ih h with h | h
          · exact .inl h
          · exact .inr (List.mem_cons_of_mem _ h)
theorem putP_rise {l : List Pr} (hr : RisP l) (p : Pr) : RisP (putP l p) := by
  induction l with
  | nil => exact List.pairwise_singleton _ _
  | cons x l ih =>
    obtain ⟨h1, h2⟩ := List.pairwise_cons.1 hr
    unfold putP
    split
    · rename_i g
      refine List.pairwise_cons.2 ⟨fun y hy => ?_, hr⟩
      rcases List.mem_cons.1 hy with rfl | hy
      · exact g
      · exact ltK_trans g (h1 y hy)
    · split
      · rename_i g1 g2
        refine List.pairwise_cons.2 ⟨fun y hy => ?_, h2⟩
        rw [← g2]
        exact h1 y hy
      · rename_i g1 g2
        refine List.pairwise_cons.2 ⟨fun y hy => ?_, ih h2⟩
        rcases putP_mem hy with rfl | hy
        · rcases ltK_tri x.1 y.1 with g | g | g
          · exact g
          · exact absurd g g1
          · exact absurd g g2
        · exact h1 y hy
theorem getP_put {l : List Pr} (hr : RisP l) (p : Pr) (n : ByteArray) : getP (putP l p) n = if p.1 = n then some p.2 else getP l n := by
  induction l with
  | nil => simp [putP, getP]
  | cons x l ih =>
    obtain ⟨h1, h2⟩ := List.pairwise_cons.1 hr
    unfold putP
    split
    · rfl
    · split
      · rename_i g1 g2
        unfold getP
        by_cases hp : p.1 = n
        · rw [if_pos hp, if_pos hp]
        · rw [if_neg hp, if_neg hp, if_neg (by rw [g2]; exact hp)]
      · rename_i g1 g2
        rw [getP, ih h2]
        by_cases hx : x.1 = n
        · rw [if_pos hx, if_neg (fun e => g2 (hx.trans e.symm)), getP, if_pos hx]
        · rw [if_neg hx]
          by_cases hp : p.1 = n
          · rw [if_pos hp, if_pos hp]
          · rw [if_neg hp, if_neg hp, getP, if_neg hx]
theorem putP_length {l : List Pr} (hr : RisP l) (p : Pr) : (putP l p).length = if getP l p.1 = none then l.length + 1 else l.length := by
  induction l with
  | nil => rfl
  | cons x l ih =>
    obtain ⟨h1, h2⟩ := List.pairwise_cons.1 hr
    unfold putP
    split
    · rename_i g
      rw [if_pos (getP_none.2 fun y hy => ?_)]
      · rfl
      · rcases List.mem_cons.1 hy with rfl | hy
        · exact (ltK_ne g).symm
        · exact (ltK_ne (ltK_trans g (h1 y hy))).symm
    · split
      · rename_i g1 g2
        rw [if_neg (by unfold getP; rw [if_pos g2]; exact fun e => by cases e)]
        rfl
      · rename_i g1 g2
        rw [List.length_cons, ih h2, getP, if_neg g2]
        split <;> rfl
theorem overP_rise {a : List Pr} (ha : RisP a) : ∀ b : List Pr, RisP (overP a b)
  | [] => ha
  | p :: b => overP_rise (a := putP a p) (putP_rise ha p) b
theorem getP_over {a : List Pr} (ha : RisP a) : ∀ {b : List Pr}, RisP b → ∀ n, getP (overP a b) n = (getP b n).or (getP a n)
  | [], _, n => rfl
  | p :: b, hb, n => by
    obtain ⟨h1, h2⟩ := List.pairwise_cons.1 hb
    have e : overP a (p :: b) = overP (putP a p) b := rfl
    rw [e, getP_over (putP_rise ha p) h2, getP_put ha, getP]
    by_cases hp : p.1 = n
    · rw [if_pos hp, if_pos hp, getP_none.2 fun y hy => ?_]
      · rfl
      · rw [← hp]
        exact (ltK_ne (h1 y hy)).symm
    · rw [if_neg hp, if_neg hp]
theorem overP_self {a : List Pr} (ha : RisP a) : overP a a = a := by
  refine risP_ext (overP_rise ha a) ha fun n => ?_
  rw [getP_over ha ha]
  cases getP a n <;> rfl
theorem dropP_rise {l : List Pr} (hr : RisP l) (n : ByteArray) : RisP (dropP l n) := hr.sublist List.filter_sublist
theorem getP_drop (l : List Pr) (n k : ByteArray) : getP (dropP l n) k = if n = k then none else getP l k := by
  induction l with
  | nil => simp [dropP, getP]
  | cons x l ih =>
    unfold dropP at ih ⊢
    rw [List.filter_cons]
    by_cases hx : x.1 = n
    · rw [if_neg (by simp [hx]), ih]
      by_cases hk : n = k
      · rw [if_pos hk, if_pos hk]
      · rw [if_neg hk, if_neg hk, getP, if_neg (by rw [hx]; exact hk)]
    · rw [if_pos (by simp [hx]), getP, ih]
      by_cases hxk : x.1 = k
      · rw [if_pos hxk, if_neg (fun e => hx (hxk.trans e.symm)), getP, if_pos hxk]
      · rw [if_neg hxk]
        by_cases hk : n = k
        · rw [if_pos hk, if_pos hk]
        · rw [if_neg hk, if_neg hk, getP, if_neg hxk]

/-- The page's put, where it has met it already or not. -/
def putG (p : Pr) : Bool → List Pr → List Pr
  | done, [] => if done then [] else [p]
  | done, x :: l => (if !done && !(Op.bytesLess x.1.toList p.1.toList) then [p] else []) ++ ((if x.1 = p.1 then [] else [x]) ++ putG p (done || !(Op.bytesLess x.1.toList p.1.toList)) l)
theorem putG_done {p : Pr} {l : List Pr} (h : ∀ y ∈ l, ltK p.1 y.1) : putG p true l = l := by
  induction l with
  | nil => rfl
  | cons x l ih =>
    have hn : ¬ x.1 = p.1 := fun e => ltK_ne (h x (by simp)) e.symm
    have ih' := ih fun y hy => h y (by simp [hy])
    unfold putG
    rw [if_neg (show ¬ (!true && _) = true by simp), if_neg hn, Bool.true_or, ih']
    rfl
theorem putG_eq {p : Pr} {l : List Pr} (hr : RisP l) : putG p false l = putP l p := by
  induction l with
  | nil => rfl
  | cons x l ih =>
    obtain ⟨h1, h2⟩ := List.pairwise_cons.1 hr
    unfold putG putP
    rcases ltK_tri p.1 x.1 with g | g | g
    · have hb : Op.bytesLess x.1.toList p.1.toList = false := by
        rw [← Bool.not_eq_true]
        exact fun e => ltK_asym g e
      have hn : ¬ x.1 = p.1 := fun e => ltK_ne g e.symm
      rw [hb, if_pos (show (!false && !false) = true from rfl), if_neg hn, if_pos g, Bool.not_false, Bool.or_true, putG_done (p := p) (l := l) fun y hy => ltK_trans g (h1 y hy)]
      rfl
    · have hb : Op.bytesLess x.1.toList p.1.toList = true := g
      rw [hb, if_neg (show ¬ (!false && !true) = true by decide), if_neg (ltK_ne g), if_neg (fun e => ltK_asym g e), if_neg (ltK_ne g), Bool.not_true, Bool.or_false, ih h2]
      rfl
    · have hb : Op.bytesLess x.1.toList p.1.toList = false := by rw [g, bl_irr]
      rw [hb, if_pos (show (!false && !false) = true from rfl), if_pos g.symm, if_neg (fun e => ltK_ne e g), if_pos g.symm, Bool.not_false, Bool.or_true, putG_done (p := p) (l := l) fun y hy => by rw [g]; exact h1 y hy]
      rfl

/-- Names and values, one behind the other. -/
def textP (l : List Pr) : List ByteArray := l.flatMap fun p => [p.1, p.2]
/-- Properties of texts. -/
def readP : List ByteArray → Option (List Pr)
  | [] => some []
  | [_] => none
  | a :: b :: l => (readP l).map ((a, b) :: ·)
theorem readP_text : ∀ l : List Pr, readP (textP l) = some l
  | [] => rfl
  | p :: l => by
    show (readP (textP l)).map _ = _
    rw [readP_text l]
    rfl
theorem textP_read : ∀ {s : List ByteArray} {l : List Pr}, readP s = some l → textP l = s
  | [], l, h => by
    injection h with h
    subst h
    rfl
  | [_], l, h => by cases h
  | a :: b :: s, l, h => by
    have h0 : (readP s).map ((a, b) :: ·) = some l := h
    rcases hs : readP s with _ | m
    · rw [hs] at h0; cases h0
    · rw [hs] at h0
      injection h0 with h0
      subst h0
      show a :: b :: textP m = _
      rw [textP_read hs]

end Go.Proofs.Ytnoidcelinaenaa
