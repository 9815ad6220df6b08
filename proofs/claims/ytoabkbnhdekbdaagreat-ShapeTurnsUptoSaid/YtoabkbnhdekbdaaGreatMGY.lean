/-
  The order of texts. Plain mathematics. No conditions.
-/
import Derived.Lib.Bytealg
import Derived.Laws.Strings
import Derived.Lib.Strings
import Derived.Lib.LastIndexByte
import Derived.Laws.Entries
import Derived.WalkKit
namespace Go.Proofs.YtoabkbnhdekbdaaGreat
set_option maxRecDepth 100000
theorem bl_irr : ∀ x : List UInt8, Op.bytesLess x x = false
  | [] => rfl
  | a :: x => by
    simp only [Op.bytesLess]
    simp [bl_irr x]
theorem bl_tri : ∀ x y : List UInt8, Op.bytesLess x y = true ∨ Op.bytesLess y x = true ∨ x = y
  | [], [] => .inr (.inr rfl)
  | [], b :: y => .inl rfl
  | a :: x, [] => .inr (.inl rfl)
  | a :: x, b :: y => by
    simp only [Op.bytesLess]
    rcases Nat.lt_trichotomy a.toNat b.toNat with h | h | h
    · have : a < b := h
      simp [this]
    · have e : a = b := UInt8.toNat_inj.1 h
      subst e
      rcases bl_tri x y with h1 | h1 | h1 <;> simp [h1]
    · have : b < a := h
      simp [this]
theorem bl_trans : ∀ x y z : List UInt8, Op.bytesLess x y = true → Op.bytesLess y z = true → Op.bytesLess x z = true
  | [], y, [], h1, h2 => by
    cases y with
    | nil => exact h1
    | cons b y => simp [Op.bytesLess] at h2
  | [], y, c :: z, h1, h2 => rfl
  | a :: x, [], z, h1, h2 => by simp [Op.bytesLess] at h1
  | a :: x, b :: y, [], h1, h2 => by simp [Op.bytesLess] at h2
  | a :: x, b :: y, c :: z, h1, h2 => by
    have ih := bl_trans x y z
    simp only [Op.bytesLess] at h1 h2 ⊢
    have hab : a.toNat < b.toNat ∨ (a = b ∧ Op.bytesLess x y = true) := by
      by_cases h : a < b
      · exact .inl h
      · simp [h] at h1
        exact .inr h1
    have hbc : b.toNat < c.toNat ∨ (b = c ∧ Op.bytesLess y z = true) := by
      by_cases h : b < c
      · exact .inl h
      · simp [h] at h2
        exact .inr h2
    rcases hab with h | ⟨rfl, h⟩ <;> rcases hbc with k | ⟨rfl, k⟩
    · have : a < c := Nat.lt_trans h k
      simp [this]
    · have : a < b := h
      simp [this]
    · have : a < c := k
      simp [this]
    · simp [ih h k]
def ltK (a b : ByteArray) : Prop := Op.bytesLess a.toList b.toList = true
theorem ba_toList {a b : ByteArray} (h : a.toList = b.toList) : a = b := by
  rw [ByteArray.toList_eq, ByteArray.toList_eq] at h
  obtain ⟨⟨a⟩⟩ := a
  obtain ⟨⟨b⟩⟩ := b
  simp at h
  rw [h]
theorem ltK_iff {a b : ByteArray} : ltK a b ↔ (Op.bytesLess b.toList a.toList || b.toList == a.toList) = false := by
  unfold ltK
  rcases bl_tri a.toList b.toList with h | h | h
  · have h2 : Op.bytesLess b.toList a.toList = false := by
      rw [← Bool.not_eq_true]
      intro h3
      have := bl_trans _ _ _ h h3
      rw [bl_irr] at this
      cases this
    have h3 : (b.toList == a.toList) = false := by
      rw [beq_eq_false_iff_ne]
      intro e
      rw [e, bl_irr] at h
      cases h
    simp [h, h2, h3]
  · have h2 : Op.bytesLess a.toList b.toList = false := by
      rw [← Bool.not_eq_true]
      intro h3
      have := bl_trans _ _ _ h h3
      rw [bl_irr] at this
      cases this
    simp [h, h2]
  · rw [h, bl_irr]
    simp
theorem ltK_trans {a b c : ByteArray} (h : ltK a b) (k : ltK b c) : ltK a c := bl_trans _ _ _ h k
theorem ltK_ne {a b : ByteArray} (h : ltK a b) : a ≠ b := by
  rintro rfl
  unfold ltK at h
  rw [bl_irr] at h
  cases h
theorem ltK_asym {a b : ByteArray} (h : ltK a b) (k : ltK b a) : False := ltK_ne (ltK_trans h k) rfl
theorem ltK_tri (a b : ByteArray) : ltK a b ∨ ltK b a ∨ a = b := by
  rcases bl_tri a.toList b.toList with h | h | h
  · exact .inl h
  · exact .inr (.inl h)
  · exact .inr (.inr (ba_toList h))
def bs (s : ByteArray) : List UInt8 := s.data.toList
def ofL (l : List UInt8) : ByteArray := ⟨l.toArray⟩
theorem bs_ofL (l : List UInt8) : bs (ofL l) = l := by simp [bs, ofL]
theorem ofL_bs (s : ByteArray) : ofL (bs s) = s := Lib.mk_data s
theorem bs_length (s : ByteArray) : (bs s).length = s.size := (Lib.size_eq s).symm
theorem ofL_size (l : List UInt8) : (ofL l).size = l.length := by rw [← bs_length, bs_ofL]
theorem bs_inj {s t : ByteArray} (h : bs s = bs t) : s = t := by rw [← ofL_bs s, ← ofL_bs t, h]
theorem bs_at (s : ByteArray) (k : Nat) (h : k < s.size) : (bs s).drop k = s[k] :: (bs s).drop (k + 1) := by
  rw [List.drop_eq_getElem_cons (by rw [bs_length]; exact h)]
  rfl
def okc (c : UInt8) : Bool := 97 ≤ c && c ≤ 122 || 48 ≤ c && c ≤ 57 || c == 45 || c == 95
def isName (l : List UInt8) : Bool := decide (1 ≤ l.length) && decide (l.length ≤ 16) && l.all okc
def cut1 (c : UInt8) : List UInt8 → List UInt8 × List UInt8 × Bool
  | [] => ([], [], false)
  | b :: l => if b == c then ([], l, true) else (b :: (cut1 c l).1, (cut1 c l).2.1, (cut1 c l).2.2)
def pathB : Nat → List UInt8 → Bool
  | 0, _ => false
  | n + 1, l => isName (cut1 47 l).1 && (!(cut1 47 l).2.2 || pathB n (cut1 47 l).2.1)
def isPath (l : List UInt8) : Bool := l.isEmpty || pathB 4 l
theorem cut1_not {c : UInt8} : ∀ {l : List UInt8}, c ∉ l → cut1 c l = (l, [], false)
  | [], _ => rfl
  | b :: l, h => by
    have h1 : c ∉ l := fun hm => h (List.mem_cons_of_mem _ hm)
    have h2 : (b == c) = false := by
      rw [beq_eq_false_iff_ne]
      rintro rfl
      exact h (by simp)
    simp only [cut1, h2, cut1_not h1]
    rfl
theorem cut1_at {c : UInt8} (r : List UInt8) : ∀ {p : List UInt8}, c ∉ p → cut1 c (p ++ c :: r) = (p, r, true)
  | [], _ => by simp [cut1]
  | b :: p, h => by
    have h1 : c ∉ p := fun hm => h (List.mem_cons_of_mem _ hm)
    have h2 : (b == c) = false := by
      rw [beq_eq_false_iff_ne]
      rintro rfl
      exact h (by simp)
    simp only [List.cons_append, cut1, h2, cut1_at r h1]
    rfl
theorem split_mem {c : UInt8} : ∀ {l : List UInt8}, c ∈ l → ∃ p r, l = p ++ c :: r ∧ c ∉ p
  | b :: l, h => by
    by_cases hb : b = c
    · subst hb
      exact ⟨[], l, rfl, by simp⟩
    · have hm : c ∈ l := by
        rcases List.mem_cons.1 h with h | h
        · exact absurd h.symm hb
        · exact h
      obtain ⟨p, r, rfl, hp⟩ := split_mem hm
      refine ⟨b :: p, r, rfl, ?_⟩
      simp only [List.mem_cons, not_or]
      exact ⟨fun h => hb h.symm, hp⟩
theorem index_not {c : UInt8} : ∀ {l : List UInt8}, c ∉ l → Lib.indexByte l c = -1
  | [], _ => rfl
  | b :: l, h => by
    have h1 : c ∉ l := fun hm => h (List.mem_cons_of_mem _ hm)
    have h2 : (b == c) = false := by
      rw [beq_eq_false_iff_ne]
      rintro rfl
      exact h (by simp)
    simp [Lib.indexByte, h2, index_not h1]
theorem index_at {c : UInt8} (r : List UInt8) : ∀ {p : List UInt8}, c ∉ p → Lib.indexByte (p ++ c :: r) c = p.length
  | [], _ => by simp [Lib.indexByte]
  | b :: p, h => by
    have h1 : c ∉ p := fun hm => h (List.mem_cons_of_mem _ hm)
    have h2 : (b == c) = false := by
      rw [beq_eq_false_iff_ne]
      rintro rfl
      exact h (by simp)
    have ih := index_at r h1
    have h3 : ((p.length : Int) == -1) = false := by
      rw [beq_eq_false_iff_ne]
      omega
    simp only [List.cons_append, Lib.indexByte, h2, ih, h3, List.length_cons]
    simp
theorem isName_ne {l : List UInt8} (h : isName l = true) : l ≠ [] := by
  rintro rfl
  simp [isName] at h
abbrev Pr : Type := ByteArray × ByteArray
def valOk (s : ByteArray) : Bool := (bs s).all (fun c => decide (32 ≤ c.toNat) && decide (c.toNat ≤ 126)) && decide (s.size ≤ 32)
def RisP (l : List Pr) : Prop := l.Pairwise fun a b => ltK a.1 b.1
instance : DecidableRel fun a b : Pr => ltK a.1 b.1 := fun a b => by unfold ltK; exact inferInstance
instance (l : List Pr) : Decidable (RisP l) := by unfold RisP; exact inferInstance
def okP (l : List Pr) : Bool := decide (l.length ≤ 8) && (l.all (fun p => isName (bs p.1) && valOk p.2) && decide (RisP l))
theorem okP_iff {l : List Pr} : okP l = true ↔ l.length ≤ 8 ∧ (∀ p ∈ l, isName (bs p.1) = true ∧ valOk p.2 = true) ∧ RisP l := by
  unfold okP
  rw [Bool.and_eq_true, Bool.and_eq_true, decide_eq_true_eq, decide_eq_true_eq, List.all_eq_true]
  simp only [Bool.and_eq_true]
def getP : List Pr → ByteArray → Option ByteArray
  | [], _ => none
  | p :: l, n => if p.1 = n then some p.2 else getP l n
def putP : List Pr → Pr → List Pr
  | [], p => [p]
  | x :: l, p => if ltK p.1 x.1 then p :: x :: l else if x.1 = p.1 then p :: l else x :: putP l p
def dropP (l : List Pr) (n : ByteArray) : List Pr := l.filter fun x => decide (x.1 ≠ n)
def overP (a b : List Pr) : List Pr := b.foldl putP a
theorem getP_none {l : List Pr} {n : ByteArray} : getP l n = none ↔ ∀ p ∈ l, p.1 ≠ n := by
  induction l with
  | nil => simp [getP]
  | cons x l ih =>
    unfold getP
    by_cases h : x.1 = n
    · rw [if_pos h]
      constructor
      · intro h1; cases h1
      · intro h1; exact absurd h (h1 x (by simp))
    · rw [if_neg h, ih]
      constructor
      · intro h1 p hp
        rcases List.mem_cons.1 hp with rfl | hp
        · exact h
        · exact h1 p hp
      · intro h1 p hp; exact h1 p (by simp [hp])
theorem getP_mem {l : List Pr} {n v : ByteArray} (h : getP l n = some v) : (n, v) ∈ l := by
  induction l with
  | nil => cases h
  | cons x l ih =>
    unfold getP at h
    by_cases h1 : x.1 = n
    · rw [if_pos h1] at h
      injection h with h
      obtain ⟨a, b⟩ := x
      dsimp only at h1 h
      rw [h1, h]
      simp
    · rw [if_neg h1] at h
      exact List.mem_cons_of_mem _ (ih h)
theorem getP_of {l : List Pr} (hr : RisP l) {p : Pr} (hp : p ∈ l) : getP l p.1 = some p.2 := by
  induction l with
  | nil => cases hp
  | cons x l ih =>
    obtain ⟨h1, h2⟩ := List.pairwise_cons.1 hr
    unfold getP
    rcases List.mem_cons.1 hp with rfl | hp
    · rw [if_pos rfl]
    · rw [if_neg (ltK_ne (h1 p hp)), ih h2 hp]
theorem risP_ext : ∀ {a b : List Pr}, RisP a → RisP b → (∀ n, getP a n = getP b n) → a = b
  | [], [], _, _, _ => rfl
  | [], y :: b, _, hb, h => by
    have := h y.1
    rw [getP_of hb (List.mem_cons_self)] at this
    cases this
  | x :: a, [], ha, _, h => by
    have := h x.1
    rw [getP_of ha (List.mem_cons_self)] at this
    cases this
  | x :: a, y :: b, ha, hb, h => by
    obtain ⟨ha1, ha2⟩ := List.pairwise_cons.1 ha
    obtain ⟨hb1, hb2⟩ := List.pairwise_cons.1 hb
    have hx : getP (y :: b) x.1 = some x.2 := by rw [← h, getP_of ha (List.mem_cons_self)]
    have hy : getP (x :: a) y.1 = some y.2 := by rw [h, getP_of hb (List.mem_cons_self)]
    have hxy : x.1 = y.1 := by
      rcases ltK_tri x.1 y.1 with g | g | g
      · exfalso
        rcases List.mem_cons.1 (getP_mem hx) with e | e
        · exact ltK_ne g (congrArg Prod.fst e)
        · exact ltK_asym g (hb1 _ e)
      · exfalso
        rcases List.mem_cons.1 (getP_mem hy) with e | e
        · exact ltK_ne g (congrArg Prod.fst e)
        · exact ltK_asym g (ha1 _ e)
      · exact g
    have e : x = y := by
      unfold getP at hx
      rw [if_pos hxy.symm] at hx
      injection hx with hx
      exact Prod.ext hxy hx.symm
    subst e
    congr 1
    refine risP_ext ha2 hb2 fun n => ?_
    by_cases hn : x.1 = n
    · subst hn
      rw [getP_none.2 fun p hp => (ltK_ne (ha1 p hp)).symm, getP_none.2 fun p hp => (ltK_ne (hb1 p hp)).symm]
    · have := h n
      unfold getP at this
      rwa [if_neg hn, if_neg hn] at this
theorem putP_mem {l : List Pr} {p x : Pr} (h : x ∈ putP l p) : x = p ∨ x ∈ l := by
  induction l with
  | nil =>
    simp [putP] at h
    exact .inl h
  | cons y l ih =>
    unfold putP at h
    split at h
    · rcases List.mem_cons.1 h with h | h
      · exact .inl h
      · exact .inr h
    · split at h
      · rcases List.mem_cons.1 h with h | h
        · exact .inl h
        · exact .inr (List.mem_cons_of_mem _ h)
      · rcases List.mem_cons.1 h with h | h
        · exact .inr (by rw [h]; exact List.mem_cons_self)
        · rcases ih h with h | h
          · exact .inl h
          · exact .inr (List.mem_cons_of_mem _ h)
theorem putP_rise {l : List Pr} (hr : RisP l) (p : Pr) : RisP (putP l p) := by
  induction l with
  | nil => exact List.pairwise_singleton _ _
  | cons x l ih =>
    obtain ⟨h1, h2⟩ := List.pairwise_cons.1 hr
    unfold putP
    split
    · rename_i g
      refine List.pairwise_cons.2 ⟨fun y hy => ?_, hr⟩
      rcases List.mem_cons.1 hy with rfl | hy
      · exact g
      · exact ltK_trans g (h1 y hy)
    · split
      · rename_i g1 g2
        refine List.pairwise_cons.2 ⟨fun y hy => ?_, h2⟩
        rw [← g2]
        exact h1 y hy
      · rename_i g1 g2
        refine List.pairwise_cons.2 ⟨fun y hy => ?_, ih h2⟩
        rcases putP_mem hy with rfl | hy
        · rcases ltK_tri x.1 y.1 with g | g | g
          · exact g
          · exact absurd g g1
          · exact absurd g g2
        · exact h1 y hy
theorem getP_put {l : List Pr} (hr : RisP l) (p : Pr) (n : ByteArray) : getP (putP l p) n = if p.1 = n then some p.2 else getP l n := by
  induction l with
  | nil => simp [putP, getP]
  | cons x l ih =>
    obtain ⟨h1, h2⟩ := List.pairwise_cons.1 hr
    unfold putP
    split
    · rfl
    · split
      · rename_i g1 g2
        unfold getP
        by_cases hp : p.1 = n
        · rw [if_pos hp, if_pos hp]
        · rw [if_neg hp, if_neg hp, if_neg (by rw [g2]; exact hp)]
      · rename_i g1 g2
        rw [getP, ih h2]
        by_cases hx : x.1 = n
        · rw [if_pos hx, if_neg (fun e => g2 (hx.trans e.symm)), getP, if_pos hx]
        · rw [if_neg hx]
          by_cases hp : p.1 = n
          · rw [if_pos hp, if_pos hp]
          · rw [if_neg hp, if_neg hp, getP, if_neg hx]
theorem putP_length {l : List Pr} (hr : RisP l) (p : Pr) : (putP l p).length = if getP l p.1 = none then l.length + 1 else l.length := by
  induction l with
  | nil => rfl
  | cons x l ih =>
    obtain ⟨h1, h2⟩ := List.pairwise_cons.1 hr
    unfold putP
    split
    · rename_i g
      rw [if_pos (getP_none.2 fun y hy => ?_)]
      · rfl
      · rcases List.mem_cons.1 hy with rfl | hy
        · exact (ltK_ne g).symm
        · exact (ltK_ne (ltK_trans g (h1 y hy))).symm
    · split
      · rename_i g1 g2
        rw [if_neg (by unfold getP; rw [if_pos g2]; exact fun e => by cases e)]
        rfl
      · rename_i g1 g2
        rw [List.length_cons, ih h2, getP, if_neg g2]
        split <;> rfl
theorem overP_rise {a : List Pr} (ha : RisP a) : ∀ b : List Pr, RisP (overP a b)
  | [] => ha
  | p :: b => overP_rise (a := putP a p) (putP_rise ha p) b
theorem getP_over {a : List Pr} (ha : RisP a) : ∀ {b : List Pr}, RisP b → ∀ n, getP (overP a b) n = (getP b n).or (getP a n)
  | [], _, n => rfl
  | p :: b, hb, n => by
    obtain ⟨h1, h2⟩ := List.pairwise_cons.1 hb
    have e : overP a (p :: b) = overP (putP a p) b := rfl
    rw [e, getP_over (putP_rise ha p) h2, getP_put ha, getP]
    by_cases hp : p.1 = n
    · rw [if_pos hp, if_pos hp, getP_none.2 fun y hy => ?_]
      · rfl
      · rw [← hp]
        exact (ltK_ne (h1 y hy)).symm
    · rw [if_neg hp, if_neg hp]
theorem dropP_rise {l : List Pr} (hr : RisP l) (n : ByteArray) : RisP (dropP l n) := hr.sublist List.filter_sublist
def putG (p : Pr) : Bool → List Pr → List Pr
  | done, [] => if done then [] else [p]
  | done, x :: l => (if !done && !(Op.bytesLess x.1.toList p.1.toList) then [p] else []) ++ ((if x.1 = p.1 then [] else [x]) ++ putG p (done || !(Op.bytesLess x.1.toList p.1.toList)) l)
theorem putG_done {p : Pr} {l : List Pr} (h : ∀ y ∈ l, ltK p.1 y.1) : putG p true l = l := by
  induction l with
  | nil => rfl
  | cons x l ih =>
    have hn : ¬ x.1 = p.1 := fun e => ltK_ne (h x (by simp)) e.symm
    have ih' := ih fun y hy => h y (by simp [hy])
    unfold putG
    rw [if_neg (show ¬ (!true && _) = true by simp), if_neg hn, Bool.true_or, ih']
    rfl
theorem putG_eq {p : Pr} {l : List Pr} (hr : RisP l) : putG p false l = putP l p := by
  induction l with
  | nil => rfl
  | cons x l ih =>
    obtain ⟨h1, h2⟩ := List.pairwise_cons.1 hr
    unfold putG putP
    rcases ltK_tri p.1 x.1 with g | g | g
    · have hb : Op.bytesLess x.1.toList p.1.toList = false := by
        rw [← Bool.not_eq_true]
        exact fun e => ltK_asym g e
      have hn : ¬ x.1 = p.1 := fun e => ltK_ne g e.symm
      rw [hb, if_pos (show (!false && !false) = true from rfl), if_neg hn, if_pos g, Bool.not_false, Bool.or_true, putG_done (p := p) (l := l) fun y hy => ltK_trans g (h1 y hy)]
      rfl
    · have hb : Op.bytesLess x.1.toList p.1.toList = true := g
      rw [hb, if_neg (show ¬ (!false && !true) = true by decide), if_neg (ltK_ne g), if_neg (fun e => ltK_asym g e), if_neg (ltK_ne g), Bool.not_true, Bool.or_false, ih h2]
      rfl
    · have hb : Op.bytesLess x.1.toList p.1.toList = false := by rw [g, bl_irr]
      rw [hb, if_pos (show (!false && !false) = true from rfl), if_pos g.symm, if_neg (fun e => ltK_ne e g), if_pos g.symm, Bool.not_false, Bool.or_true, putG_done (p := p) (l := l) fun y hy => by rw [g]; exact h1 y hy]
      rfl
abbrev Gr : Type := ByteArray × ByteArray × Int
def cmpK (a b : ByteArray) : Int := if Op.bytesLess a.toList b.toList = true then -1 else if a = b then 0 else 1
def cmpG (a b : Gr) : Int := if cmpK a.1 b.1 = 0 then cmpK a.2.1 b.2.1 else cmpK a.1 b.1
def ltG (a b : Gr) : Prop := cmpG a b < 0
instance : DecidableRel ltG := fun a b => by unfold ltG; exact inferInstance
theorem cmpK_lt {a b : ByteArray} : cmpK a b < 0 ↔ ltK a b := by
  unfold cmpK ltK
  split
  · rename_i h; simp [h]
  · rename_i h
    split <;> simp [h]
theorem cmpK_eq {a b : ByteArray} : cmpK a b = 0 ↔ a = b := by
  unfold cmpK
  split
  · rename_i h
    constructor
    · intro e; omega
    · rintro rfl
      rw [bl_irr] at h
      cases h
  · split
    · rename_i h; simp [h]
    · rename_i h; simp [h]
theorem ltG_iff {a b : Gr} : ltG a b ↔ ltK a.1 b.1 ∨ (a.1 = b.1 ∧ ltK a.2.1 b.2.1) := by
  unfold ltG cmpG
  split
  · rename_i h
    have e := cmpK_eq.1 h
    rw [cmpK_lt]
    constructor
    · intro k; exact .inr ⟨e, k⟩
    · rintro (k | k)
      · exact absurd e (ltK_ne k)
      · exact k.2
  · rename_i h
    rw [cmpK_lt]
    constructor
    · intro k; exact .inl k
    · rintro (k | k)
      · exact k
      · exact absurd (cmpK_eq.2 k.1) h
theorem ltG_trans {a b c : Gr} (h : ltG a b) (k : ltG b c) : ltG a c := by
  rw [ltG_iff] at h k ⊢
  rcases h with h | ⟨e, h⟩ <;> rcases k with k | ⟨f, k⟩
  · exact .inl (ltK_trans h k)
  · exact .inl (f ▸ h)
  · exact .inl (e ▸ k)
  · exact .inr ⟨e.trans f, ltK_trans h k⟩
def someP (r : Int) : Bool := decide (1 ≤ r) && decide (r ≤ 255)
def goodG (g : Gr) : Bool := isName (bs g.1) && (isPath (bs g.2.1) && someP g.2.2)
def RisG (l : List Gr) : Prop := l.Pairwise ltG
def okFG : Option Gr → List Gr → Bool
  | _, [] => true
  | q, g :: r => goodG g && ((match q with | none => true | some q => decide (cmpG q g < 0)) && okFG (some g) r)
theorem okFG_iff : ∀ {l : List Gr} {q : Option Gr}, okFG q l = true ↔ (∀ g ∈ l, goodG g = true ∧ ∀ q0, q = some q0 → ltG q0 g) ∧ RisG l
  | [], q => by simp [okFG, RisG]
  | g :: r, q => by
    unfold okFG
    rw [Bool.and_eq_true, Bool.and_eq_true, okFG_iff (l := r)]
    unfold RisG
    rw [List.pairwise_cons]
    have hq : (match q with | none => true | some q => decide (cmpG q g < 0)) = true ↔ ∀ q0, q = some q0 → ltG q0 g := by
      cases q with
      | none => simp
      | some q => simp [ltG]
    rw [hq]
    constructor
    · rintro ⟨h1, h2, h3, h4⟩
      refine ⟨fun x hx => ?_, fun x hx => (h3 x hx).2 g rfl, h4⟩
      rcases List.mem_cons.1 hx with rfl | hx
      · exact ⟨h1, h2⟩
      · exact ⟨(h3 x hx).1, fun q0 e => ltG_trans (h2 q0 e) ((h3 x hx).2 g rfl)⟩
    · rintro ⟨h1, h2, h3⟩
      obtain ⟨a1, a2⟩ := h1 g (by simp)
      exact ⟨a1, a2, fun x hx => ⟨(h1 x (by simp [hx])).1, fun q0 e => by injection e with e; subst e; exact h2 x hx⟩, h3⟩
def okG (l : List Gr) : Bool := decide (l.length ≤ 16) && okFG none l
theorem okG_iff {l : List Gr} : okG l = true ↔ l.length ≤ 16 ∧ (∀ g ∈ l, goodG g = true) ∧ RisG l := by
  unfold okG
  rw [Bool.and_eq_true, decide_eq_true_eq, okFG_iff]
  constructor
  · rintro ⟨h1, h2, h3⟩; exact ⟨h1, fun g hg => (h2 g hg).1, h3⟩
  · rintro ⟨h1, h2, h3⟩; exact ⟨h1, fun g hg => ⟨h2 g hg, fun q0 e => by cases e⟩, h3⟩
def chkG (l : List Gr) : Int := if okG l then 0 else 9
end Go.Proofs.YtoabkbnhdekbdaaGreat
