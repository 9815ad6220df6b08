/-
  Grants, plainly: lists of users, paths and rights that rise by user, then path. No conditions.
-/
import Derived.Test.YtnoidcelinaenaaGY
import Derived.Test.YtnoidcelinaenaaNM
import Derived.Laws.Entries
import Derived.WalkKit
namespace Go.Proofs.Ytnoidcelinaenaa
set_option maxRecDepth 100000

/-- A grant: its user, its path, its rights. -/
abbrev Gr : Type := ByteArray × ByteArray × Int
/-- How one text stands to another: -1 ahead, 0 they are one, 1 behind. -/
def cmpK (a b : ByteArray) : Int := if Op.bytesLess a.toList b.toList = true then -1 else if a = b then 0 else 1
def cmpG (a b : Gr) : Int := if cmpK a.1 b.1 = 0 then cmpK a.2.1 b.2.1 else cmpK a.1 b.1
def ltG (a b : Gr) : Prop := cmpG a b < 0
instance : DecidableRel ltG := fun a b => by unfold ltG; exact inferInstance

theorem cmpK_lt {a b : ByteArray} : cmpK a b < 0 ↔ ltK a b := by
  unfold cmpK ltK
  split
  · rename_i h; simp [h]
  · rename_i h
    split <;> simp [h]
theorem cmpK_eq {a b : ByteArray} : cmpK a b = 0 ↔ a = b := by
  unfold cmpK
  split
  · rename_i h
    constructor
    · intro e; omega
    · rintro rfl
      rw [bl_irr] at h
      cases h
  · split
    · rename_i h; simp [h]
    · rename_i h; simp [h]
theorem cmpK_gt {a b : ByteArray} : 0 < cmpK a b ↔ ltK b a := by
  unfold cmpK
  split
  · rename_i h
    constructor
    · intro e; omega
    · intro k; exact absurd (ltK_asym h k) id
  · rename_i h
    split
    · rename_i e
      subst e
      constructor
      · intro e; omega
      · intro k; exact absurd rfl (ltK_ne k)
    · rename_i e
      constructor
      · intro _
        rcases ltK_tri a b with k | k | k
        · exact absurd k h
        · exact k
        · exact absurd k e
      · intro _; omega
theorem ltG_iff {a b : Gr} : ltG a b ↔ ltK a.1 b.1 ∨ (a.1 = b.1 ∧ ltK a.2.1 b.2.1) := by
  unfold ltG cmpG
  split
  · rename_i h
    have e := cmpK_eq.1 h
    rw [cmpK_lt]
    constructor
    · intro k; exact .inr ⟨e, k⟩
    · rintro (k | k)
      · exact absurd e (ltK_ne k)
      · exact k.2
  · rename_i h
    rw [cmpK_lt]
    constructor
    · intro k; exact .inl k
    · rintro (k | k)
      · exact k
      · exact absurd (cmpK_eq.2 k.1) h
theorem cmpG_eq {a b : Gr} : cmpG a b = 0 ↔ a.1 = b.1 ∧ a.2.1 = b.2.1 := by
  unfold cmpG
  split
  · rename_i h
    rw [cmpK_eq]
    exact ⟨fun k => ⟨cmpK_eq.1 h, k⟩, fun k => k.2⟩
  · rename_i h
    exact ⟨fun k => absurd k h, fun k => absurd (cmpK_eq.2 k.1) h⟩
theorem ltG_trans {a b c : Gr} (h : ltG a b) (k : ltG b c) : ltG a c := by
  rw [ltG_iff] at h k ⊢
  rcases h with h | ⟨e, h⟩ <;> rcases k with k | ⟨f, k⟩
  · exact .inl (ltK_trans h k)
  · exact .inl (f ▸ h)
  · exact .inl (e ▸ k)
  · exact .inr ⟨e.trans f, ltK_trans h k⟩
theorem ltG_ne {a b : Gr} (h : ltG a b) : ¬ (a.1 = b.1 ∧ a.2.1 = b.2.1) := by
  rintro ⟨e, f⟩
  rw [ltG_iff] at h
  rcases h with h | ⟨_, h⟩
  · exact ltK_ne h e
  · exact ltK_ne h f
theorem ltG_key {a a' b b' : Gr} (h : ltG a b) (h1 : a'.1 = a.1) (h2 : a'.2.1 = a.2.1) (h3 : b'.1 = b.1) (h4 : b'.2.1 = b.2.1) : ltG a' b' := by
  rw [ltG_iff] at h ⊢
  rw [h1, h2, h3, h4]
  exact h
theorem cmpG_gt {a b : Gr} (h1 : ¬ cmpG a b < 0) (h2 : ¬ cmpG a b = 0) : ltG b a := by
  have hs : 0 < cmpG a b := by omega
  rw [ltG_iff]
  unfold cmpG at hs
  split at hs
  · rename_i e
    exact .inr ⟨(cmpK_eq.1 e).symm, cmpK_gt.1 hs⟩
  · exact .inl (cmpK_gt.1 hs)
theorem cmpG_self (u p : ByteArray) (r s : Int) : cmpG (u, p, r) (u, p, s) = 0 := cmpG_eq.2 ⟨rfl, rfl⟩
theorem cmpG_is {a b : Gr} : cmpG a b = -1 ∨ cmpG a b = 0 ∨ cmpG a b = 1 := by
  have hk : ∀ x y, cmpK x y = -1 ∨ cmpK x y = 0 ∨ cmpK x y = 1 := fun x y => by
    unfold cmpK
    split
    · exact .inl rfl
    · split
      · exact .inr (.inl rfl)
      · exact .inr (.inr rfl)
  unfold cmpG
  split <;> exact hk _ _

/-- Rights, but not none. -/
def someP (r : Int) : Bool := decide (1 ≤ r) && decide (r ≤ 255)
def goodG (g : Gr) : Bool := isName (bs g.1) && (isPath (bs g.2.1) && someP g.2.2)
theorem goodG_iff {g : Gr} : goodG g = true ↔ isName (bs g.1) = true ∧ isPath (bs g.2.1) = true ∧ 1 ≤ g.2.2 ∧ g.2.2 ≤ 255 := by
  unfold goodG someP
  simp only [Bool.and_eq_true, decide_eq_true_eq]
def RisG (l : List Gr) : Prop := l.Pairwise ltG
/-- May they be, behind this one? -/
def okFG : Option Gr → List Gr → Bool
  | _, [] => true
  | q, g :: r => goodG g && ((match q with | none => true | some q => decide (cmpG q g < 0)) && okFG (some g) r)
theorem okFG_iff : ∀ {l : List Gr} {q : Option Gr}, okFG q l = true ↔ (∀ g ∈ l, goodG g = true ∧ ∀ q0, q = some q0 → ltG q0 g) ∧ RisG l
  | [], q => by simp [okFG, RisG]
  | g :: r, q => by
    unfold okFG
    rw [Bool.and_eq_true, Bool.and_eq_true, okFG_iff (l := r)]
    unfold RisG
    rw [List.pairwise_cons]
    have hq : (match q with | none => true | some q => decide (cmpG q g < 0)) = true ↔ ∀ q0, q = some q0 → ltG q0 g := by
      cases q with
      | none => simp
      | some q => simp [ltG]
    rw [hq]
    constructor
    · rintro ⟨h1, h2, h3, h4⟩
      refine ⟨fun x hx => ?_, fun x hx => (h3 x hx).2 g rfl, h4⟩
      rcases List.mem_cons.1 hx with rfl | hx
      · exact ⟨h1, h2⟩
      · exact ⟨(h3 x hx).1, fun q0 e => ltG_trans (h2 q0 e) ((h3 x hx).2 g rfl)⟩
    · rintro ⟨h1, h2, h3⟩
      obtain ⟨a1, a2⟩ := h1 g (by simp)
      exact ⟨a1, a2, fun x hx => ⟨(h1 x (by simp [hx])).1, fun q0 e => by injection e with e; subst e; exact h2 x hx⟩, h3⟩
/-- May they be? -/
def okG (l : List Gr) : Bool := decide (l.length ≤ 16) && okFG none l
theorem okG_iff {l : List Gr} : okG l = true ↔ l.length ≤ 16 ∧ (∀ g ∈ l, goodG g = true) ∧ RisG l := by
  unfold okG
  rw [Bool.and_eq_true, decide_eq_true_eq, okFG_iff]
  constructor
  · rintro ⟨h1, h2, h3⟩; exact ⟨h1, fun g hg => (h2 g hg).1, h3⟩
  · rintro ⟨h1, h2, h3⟩; exact ⟨h1, fun g hg => ⟨h2 g hg, fun q0 e => by cases e⟩, h3⟩
theorem okG_len {l : List Gr} (h : okG l = true) : l.length ≤ 16 := (okG_iff.1 h).1
theorem isName_len {l : List UInt8} (h : isName l = true) : 1 ≤ l.length ∧ l.length ≤ 16 := by
  unfold isName at h
  simp only [Bool.and_eq_true, decide_eq_true_eq] at h
  exact h.1
theorem pathB_len : ∀ {n : Nat} {l : List UInt8}, pathB n l = true → l.length + 1 ≤ 17 * n
  | 0, l, h => by cases h
  | n + 1, l, h => by
    rcases pathB_cases h with ⟨h1, _⟩ | ⟨p, r, rfl, h1, _, h2⟩
    · have := (isName_len h1).2
      omega
    · have := (isName_len h1).2
      have := pathB_len h2
      simp only [List.length_append, List.length_cons]
      omega
theorem path_len {s : ByteArray} (h : isPath (bs s) = true) : s.size ≤ 67 := by
  unfold isPath at h
  rw [Bool.or_eq_true] at h
  rcases h with h | h
  · have : bs s = [] := List.isEmpty_iff.1 h
    have h2 := bs_length s
    rw [this] at h2
    simp at h2
    omega
  · have := pathB_len h
    rw [bs_length] at this
    omega
theorem user_len {s : ByteArray} (h : isName (bs s) = true) : s.size ≤ 16 := by
  have := isName_len h
  rw [bs_length] at this
  exact this.2
theorem user_ne {s : ByteArray} (h : isName (bs s) = true) : s ≠ ByteArray.empty := by
  rintro rfl
  exact absurd rfl (isName_ne h)
theorem okG_mem {l : List Gr} (h : okG l = true) : ∀ g ∈ l, g.1.size ≤ 16 ∧ g.2.1.size ≤ 67 ∧ 1 ≤ g.2.2 ∧ g.2.2 ≤ 255 := fun g hg => by
  obtain ⟨h1, h2, h3⟩ := goodG_iff.1 ((okG_iff.1 h).2.1 g hg)
  exact ⟨user_len h1, path_len h2, h3⟩

/-- Just that grant, if it has rights. -/
def mkG (u p : ByteArray) (r : Int) : List Gr := if r = 0 then [] else [(u, p, r)]
theorem mkG_mem {u p : ByteArray} {r : Int} {x : Gr} (h : x ∈ mkG u p r) : x = (u, p, r) ∧ r ≠ 0 := by
  unfold mkG at h
  split at h
  · cases h
  · rename_i h0
    exact ⟨List.mem_singleton.1 h, h0⟩
/-- The grants with what f makes of that user's rights from just that path. -/
def setG (u p : ByteArray) (f : Int → Int) : List Gr → List Gr
  | [] => mkG u p (f 0)
  | g :: l => if cmpG g (u, p, 0) < 0 then g :: setG u p f l else if cmpG g (u, p, 0) = 0 then mkG u p (f g.2.2) ++ l else mkG u p (f 0) ++ g :: l
/-- Is there one of that user and just that path? -/
def hasG (u p : ByteArray) : List Gr → Bool
  | [] => false
  | g :: l => if cmpG g (u, p, 0) < 0 then hasG u p l else decide (cmpG g (u, p, 0) = 0)
theorem hasG_at {u p : ByteArray} {x : Gr} (hx : ¬ cmpG x (u, p, 0) < 0) : ∀ {l : List Gr} {j : Nat}, l[j]? = some x → (∀ y ∈ l.take j, cmpG y (u, p, 0) < 0) → hasG u p l = decide (cmpG x (u, p, 0) = 0)
  | [], j, h, _ => by simp at h
  | g :: l, 0, h, _ => by
    simp at h
    subst h
    unfold hasG
    rw [if_neg hx]
  | g :: l, j + 1, h, hb => by
    unfold hasG
    rw [if_pos (hb g (by simp)), hasG_at hx (by simpa using h) fun y hy => hb y (by simp [hy])]
theorem hasG_none {u p : ByteArray} : ∀ {l : List Gr}, (∀ y ∈ l, cmpG y (u, p, 0) < 0) → hasG u p l = false
  | [], _ => rfl
  | g :: l, h => by
    unfold hasG
    rw [if_pos (h g (by simp)), hasG_none fun y hy => h y (by simp [hy])]
theorem setG_at {u p : ByteArray} (f : Int → Int) {x : Gr} (hx : ¬ cmpG x (u, p, 0) < 0) : ∀ {l : List Gr} {j : Nat}, l[j]? = some x → (∀ y ∈ l.take j, cmpG y (u, p, 0) < 0) →
    setG u p f l = l.take j ++ (if cmpG x (u, p, 0) = 0 then mkG u p (f x.2.2) ++ l.drop (j + 1) else mkG u p (f 0) ++ l.drop j)
  | [], j, h, _ => by simp at h
  | g :: l, 0, h, _ => by
    simp at h
    subst h
    unfold setG
    rw [if_neg hx]
    rfl
  | g :: l, j + 1, h, hb => by
    unfold setG
    rw [if_pos (hb g (by simp)), setG_at f hx (by simpa using h) fun y hy => hb y (by simp [hy])]
    rfl
theorem setG_none {u p : ByteArray} (f : Int → Int) : ∀ {l : List Gr}, (∀ y ∈ l, cmpG y (u, p, 0) < 0) → setG u p f l = l ++ mkG u p (f 0)
  | [], _ => rfl
  | g :: l, h => by
    unfold setG
    rw [if_pos (h g (by simp)), setG_none f fun y hy => h y (by simp [hy])]
    rfl
theorem setG_mem {u p : ByteArray} {f : Int → Int} : ∀ {l : List Gr} {x : Gr}, x ∈ setG u p f l → x ∈ l ∨ (x.1 = u ∧ x.2.1 = p ∧ x.2.2 ≠ 0 ∧ (x.2.2 = f 0 ∨ ∃ g ∈ l, x.2.2 = f g.2.2))
  | [], x, h => by
    obtain ⟨rfl, h0⟩ := mkG_mem h
    exact .inr ⟨rfl, rfl, h0, .inl rfl⟩
  | g :: l, x, h => by
    unfold setG at h
    split at h
    · rcases List.mem_cons.1 h with rfl | h
      · exact .inl (by simp)
      · rcases setG_mem h with h | ⟨h1, h2, h3, h4⟩
        · exact .inl (by simp [h])
        · refine .inr ⟨h1, h2, h3, ?_⟩
          rcases h4 with h4 | ⟨y, hy, h4⟩
          · exact .inl h4
          · exact .inr ⟨y, by simp [hy], h4⟩
    · split at h
      · rcases List.mem_append.1 h with h | h
        · obtain ⟨rfl, h0⟩ := mkG_mem h
          exact .inr ⟨rfl, rfl, h0, .inr ⟨g, by simp, rfl⟩⟩
        · exact .inl (by simp [h])
      · rcases List.mem_append.1 h with h | h
        · obtain ⟨rfl, h0⟩ := mkG_mem h
          exact .inr ⟨rfl, rfl, h0, .inl rfl⟩
        · exact .inl h
theorem mkG_pair {u p : ByteArray} {r : Int} {l : List Gr} (hl : RisG l) (h : ∀ y ∈ l, ltG (u, p, 0) y) : RisG (mkG u p r ++ l) := by
  unfold mkG
  split
  · exact hl
  · exact List.pairwise_cons.2 ⟨fun y hy => ltG_key (h y hy) rfl rfl rfl rfl, hl⟩
theorem setG_rise {u p : ByteArray} {f : Int → Int} : ∀ {l : List Gr}, RisG l → RisG (setG u p f l)
  | [], _ => by
    unfold setG mkG
    split
    · exact List.Pairwise.nil
    · exact List.pairwise_singleton _ _
  | g :: l, hr => by
    obtain ⟨h1, h2⟩ := List.pairwise_cons.1 hr
    unfold setG
    split
    · rename_i hlt
      refine List.pairwise_cons.2 ⟨fun y hy => ?_, setG_rise h2⟩
      rcases setG_mem hy with hy | ⟨e1, e2, _⟩
      · exact h1 y hy
      · exact ltG_key (show ltG g (u, p, 0) from hlt) rfl rfl e1 e2
    · rename_i hlt
      split
      · rename_i he
        obtain ⟨e1, e2⟩ := cmpG_eq.1 he
        exact mkG_pair h2 fun y hy => ltG_key (h1 y hy) e1.symm e2.symm rfl rfl
      · rename_i he
        have hg := cmpG_gt hlt he
        refine mkG_pair hr fun y hy => ?_
        rcases List.mem_cons.1 hy with rfl | hy
        · exact hg
        · exact ltG_trans hg (h1 y hy)
theorem setG_ok {u p : ByteArray} {f : Int → Int} {l : List Gr} (hl : okG l = true) (hu : isName (bs u) = true) (hp : isPath (bs p) = true) (hf : ∀ x, 0 ≤ x → x ≤ 255 → 0 ≤ f x ∧ f x ≤ 255) (hn : (setG u p f l).length ≤ 16) : okG (setG u p f l) = true := by
  obtain ⟨_, h2, h3⟩ := okG_iff.1 hl
  refine okG_iff.2 ⟨hn, fun x hx => ?_, setG_rise h3⟩
  rcases setG_mem hx with hx | ⟨e1, e2, e3, e4⟩
  · exact h2 x hx
  · rw [goodG_iff, e1, e2]
    have hr : 0 ≤ x.2.2 ∧ x.2.2 ≤ 255 := by
      rcases e4 with e4 | ⟨g, hg, e4⟩
      · rw [e4]; exact hf 0 (by omega) (by omega)
      · obtain ⟨_, _, k1, k2⟩ := okG_mem hl g hg
        rw [e4]; exact hf _ (by omega) k2
    exact ⟨hu, hp, by omega, hr.2⟩
/-- Given and taken away where there was none: as it was. -/
theorem setG_back {u p : ByteArray} {f g : Int → Int} {r : Int} (hf : f 0 = r) (hr : r ≠ 0) (hg : g r = 0) : ∀ {l : List Gr}, (∀ x ∈ l, ¬ (x.1 = u ∧ x.2.1 = p)) → setG u p g (setG u p f l) = l ∧ hasG u p (setG u p f l) = true
  | [], _ => by
    have e : setG u p f [] = [(u, p, r)] := by
      show mkG u p (f 0) = _
      rw [hf, mkG, if_neg hr]
    rw [e]
    unfold setG hasG
    rw [cmpG_self, if_neg (by omega), if_pos rfl, if_neg (by omega)]
    dsimp only
    rw [hg]
    exact ⟨rfl, rfl⟩
  | x :: l, h => by
    obtain ⟨i1, i2⟩ := setG_back hf hr hg (l := l) fun y hy => h y (by simp [hy])
    have hx := h x (by simp)
    rw [setG]
    split
    · rename_i hlt
      rw [setG, if_pos hlt, i1, hasG, if_pos hlt, i2]
      exact ⟨rfl, rfl⟩
    · rename_i hlt
      split
      · rename_i he
        exact absurd (cmpG_eq.1 he) hx
      · rename_i he
        rw [hf, mkG, if_neg hr]
        show setG u p g ((u, p, r) :: x :: l) = _ ∧ hasG u p ((u, p, r) :: x :: l) = _
        unfold setG hasG
        rw [cmpG_self, if_neg (by omega), if_pos rfl, if_neg (by omega)]
        dsimp only
        rw [hg]
        exact ⟨rfl, rfl⟩

/-- What the calls answer. -/
def chkG (l : List Gr) : Int := if okG l then 0 else 9
def refE (l : List Gr) (u p : ByteArray) (r : Int) : Int := if okG l = false then 9 else if isName (bs u) = false then 31 else if isPath (bs p) = false then 31 else if someP r = false then 4 else 0
theorem refE_zero {l : List Gr} {u p : ByteArray} {r : Int} (h : refE l u p r = 0) : okG l = true ∧ isName (bs u) = true ∧ isPath (bs p) = true ∧ 1 ≤ r ∧ r ≤ 255 := by
  unfold refE at h
  split at h
  · omega
  · rename_i h0
    split at h
    · omega
    · rename_i h1
      split at h
      · omega
      · rename_i h2
        split at h
        · omega
        · rename_i h3
          have h3' : someP r = true := (Bool.not_eq_false _).mp h3
          unfold someP at h3'
          simp only [Bool.and_eq_true, decide_eq_true_eq] at h3'
          exact ⟨(Bool.not_eq_false _).mp h0, (Bool.not_eq_false _).mp h1, (Bool.not_eq_false _).mp h2, h3'⟩
def orF (r x : Int) : Int := bits .or .i64 x r
def anF (r x : Int) : Int := bits .andNot .i64 x r
def allowE (l : List Gr) (u p : ByteArray) (r : Int) : Int := if refE l u p r = 0 then (if 16 < (setG u p (orF r) l).length then 3 else 0) else refE l u p r
def allowR (l : List Gr) (u p : ByteArray) (r : Int) : List Gr := if allowE l u p r = 0 then setG u p (orF r) l else []
def denyE (l : List Gr) (u p : ByteArray) (r : Int) : Int := if refE l u p r = 0 then (if hasG u p l then 0 else 71) else refE l u p r
def denyR (l : List Gr) (u p : ByteArray) (r : Int) : List Gr := if denyE l u p r = 0 then setG u p (anF r) l else []
theorem allowE_zero {l : List Gr} {u p : ByteArray} {r : Int} (h : allowE l u p r = 0) : refE l u p r = 0 ∧ (setG u p (orF r) l).length ≤ 16 := by
  unfold allowE at h
  split at h
  · rename_i h0
    split at h
    · omega
    · exact ⟨h0, by omega⟩
  · rename_i h0
    exact absurd h h0

/-- The rights that those have for which q answers true, together. -/
def stepG (q : Gr → Bool) (n : Int) (g : Gr) : Int := if q g then bits .or .i64 n (bits .and .i64 g.2.2 255) else n
def ofG (q : Gr → Bool) (l : List Gr) : Int := l.foldl (stepG q) 0
def qOf (o pl : ByteArray) (g : Gr) : Bool := decide (g.1 = o) && underL (bs pl) (bs g.2.1)
def ofA (l : List Gr) (o pl : ByteArray) : Int := if o = ByteArray.empty then 255 else if isName (bs o) = false then 0 else ofG (qOf o pl) l

theorem nat_of {a : Nat} (ha : a < 9223372036854775808) : (BitVec.ofInt 64 (a : Int)).toNat = a := by
  rw [BitVec.ofInt_natCast, BitVec.toNat_ofNat]; exact Nat.mod_eq_of_lt (by omega)
theorem or_nat {a b : Nat} (ha : a < 256) (hb : b < 256) : bits .or .i64 (a : Int) (b : Int) = ((a ||| b : Nat) : Int) := by
  have hx : a ||| b < 2 ^ 8 := Nat.or_lt_two_pow (by omega) (by omega)
  show IntKind.i64.wrap ((BitVec.ofInt 64 (a : Int) ||| BitVec.ofInt 64 (b : Int)).toNat : Int) = _
  rw [BitVec.toNat_or, nat_of (by omega), nat_of (by omega)]
  exact IntWalk.i64_in _ (by omega)
theorem and_255 {a : Nat} (ha : a < 256) : bits .and .i64 (a : Int) 255 = (a : Int) := by
  show IntKind.i64.wrap ((BitVec.ofInt 64 (a : Int) &&& BitVec.ofInt 64 ((255 : Nat) : Int)).toNat : Int) = _
  rw [BitVec.toNat_and, nat_of (by omega), nat_of (by omega), show (255 : Nat) = 2 ^ 8 - 1 from rfl, Nat.and_two_pow_sub_one_eq_mod, Nat.mod_eq_of_lt (by omega)]
  exact IntWalk.i64_in _ (by omega)
theorem andNot_self (r : Int) : bits .andNot .i64 r r = 0 := by
  show IntKind.i64.wrap ((BitVec.ofInt 64 r &&& ~~~ BitVec.ofInt 64 r).toNat : Int) = 0
  rw [BitVec.and_not_self]
  rfl
theorem or_range {x r : Int} (h0 : 0 ≤ x) (h1 : x ≤ 255) (k0 : 0 ≤ r) (k1 : r ≤ 255) : bits .or .i64 x r = ((x.toNat ||| r.toNat : Nat) : Int) := by
  obtain ⟨a, rfl⟩ := Int.eq_ofNat_of_zero_le h0
  obtain ⟨b, rfl⟩ := Int.eq_ofNat_of_zero_le k0
  exact or_nat (by omega) (by omega)
theorem orF_range {r : Int} (k0 : 1 ≤ r) (k1 : r ≤ 255) (x : Int) (h0 : 0 ≤ x) (h1 : x ≤ 255) : 0 ≤ orF r x ∧ orF r x ≤ 255 := by
  unfold orF
  rw [or_range h0 h1 (by omega) k1]
  have hx : x.toNat ||| r.toNat < 2 ^ 8 := Nat.or_lt_two_pow (by omega) (by omega)
  omega
theorem allow_ok {l : List Gr} {u p : ByteArray} {r : Int} (h : allowE l u p r = 0) : okG (setG u p (orF r) l) = true := by
  obtain ⟨h1, h2⟩ := allowE_zero h
  obtain ⟨k1, k2, k3, k4, k5⟩ := refE_zero h1
  exact setG_ok k1 k2 k3 (orF_range k4 k5) h2
theorem allowR_ok (l : List Gr) (u p : ByteArray) (r : Int) : okG (allowR l u p r) = true := by
  unfold allowR
  split
  · rename_i h; exact allow_ok h
  · rfl

/-- The same, in numbers. -/
def orN (q : Gr → Bool) : List Gr → Nat
  | [] => 0
  | g :: l => (if q g then g.2.2.toNat else 0) ||| orN q l
theorem orN_lt {q : Gr → Bool} : ∀ {l : List Gr}, (∀ g ∈ l, 0 ≤ g.2.2 ∧ g.2.2 ≤ 255) → orN q l < 256
  | [], _ => by unfold orN; omega
  | g :: l, h => by
    have h1 := orN_lt (q := q) (l := l) fun y hy => h y (by simp [hy])
    have h2 := h g (by simp)
    unfold orN
    have : (if q g = true then g.2.2.toNat else 0) < 256 := by split <;> omega
    exact Nat.or_lt_two_pow (n := 8) this h1
theorem foldG {q : Gr → Bool} : ∀ {l : List Gr} {a : Nat}, a < 256 → (∀ g ∈ l, 0 ≤ g.2.2 ∧ g.2.2 ≤ 255) → l.foldl (stepG q) (a : Int) = ((a ||| orN q l : Nat) : Int)
  | [], a, _, _ => by simp [orN]
  | g :: l, a, ha, h => by
    obtain ⟨h1, h2⟩ := h g (by simp)
    obtain ⟨b, hb⟩ := Int.eq_ofNat_of_zero_le h1
    have hb2 : b < 256 := by omega
    rw [List.foldl_cons]
    have e : stepG q (a : Int) g = ((a ||| (if q g = true then g.2.2.toNat else 0) : Nat) : Int) := by
      unfold stepG
      rw [hb]
      split
      · rw [and_255 hb2, or_nat ha hb2]
        rfl
      · simp
    have hlt : a ||| (if q g = true then g.2.2.toNat else 0) < 256 := Nat.or_lt_two_pow (n := 8) ha (by split <;> omega)
    rw [e, foldG hlt fun y hy => h y (by simp [hy]), orN, Nat.or_assoc]
theorem ofG_nat {q : Gr → Bool} {l : List Gr} (h : ∀ g ∈ l, 0 ≤ g.2.2 ∧ g.2.2 ≤ 255) : ofG q l = ((orN q l : Nat) : Int) := by
  unfold ofG
  rw [show (0 : Int) = ((0 : Nat) : Int) from rfl, foldG (by omega) h, Nat.zero_or]
theorem okG_rights {l : List Gr} (h : okG l = true) : ∀ g ∈ l, 0 ≤ g.2.2 ∧ g.2.2 ≤ 255 := fun g hg => by
  have := okG_mem h g hg
  omega
theorem orN_append {q : Gr → Bool} : ∀ {a b : List Gr}, orN q (a ++ b) = orN q a ||| orN q b
  | [], b => by simp [orN]
  | x :: a, b => by
    rw [List.cons_append, orN, orN_append, orN, Nat.or_assoc]
theorem orN_mk {q : Gr → Bool} {u p : ByteArray} {r : Int} (hq : ∀ s, q (u, p, s) = q (u, p, 0)) : orN q (mkG u p r) = if q (u, p, 0) then r.toNat else 0 := by
  unfold mkG
  split
  · rename_i h
    rw [h]
    unfold orN
    split <;> rfl
  · unfold orN orN
    rw [hq]
    simp
theorem orN_set {q : Gr → Bool} {u p : ByteArray} {r : Int} (hq : ∀ a b : Gr, a.1 = b.1 → a.2.1 = b.2.1 → q a = q b) (k0 : 1 ≤ r) (k1 : r ≤ 255) : ∀ {l : List Gr}, (∀ g ∈ l, 0 ≤ g.2.2 ∧ g.2.2 ≤ 255) →
    orN q (setG u p (orF r) l) = orN q l ||| (if q (u, p, 0) then r.toNat else 0)
  | [], _ => by
    rw [setG, orN_mk fun s => hq _ _ rfl rfl, orF, or_range (by omega) (by omega) (by omega) k1, Int.toNat_natCast]
    simp [orN]
  | g :: l, h => by
    have hl := fun y hy => h y (List.mem_cons_of_mem _ hy)
    obtain ⟨g0, g1⟩ := h g (by simp)
    rw [setG]
    split
    · rw [orN, orN_set hq k0 k1 hl, orN, Nat.or_assoc]
    · split
      · rename_i he
        obtain ⟨e1, e2⟩ := cmpG_eq.1 he
        rw [orN_append, orN_mk fun s => hq _ _ rfl rfl, orF, or_range g0 g1 (by omega) k1, orN, hq g (u, p, 0) e1 e2, Int.toNat_natCast]
        split
        · rw [Nat.or_assoc, Nat.or_comm r.toNat, ← Nat.or_assoc]
        · simp
      · rw [orN_append, orN_mk fun s => hq _ _ rfl rfl, orF, or_range (by omega) (by omega) (by omega) k1, Nat.or_comm, Int.toNat_natCast]
        simp
theorem qOf_key {o pl : ByteArray} (a b : Gr) (h1 : a.1 = b.1) (h2 : a.2.1 = b.2.1) : qOf o pl a = qOf o pl b := by
  unfold qOf
  rw [h1, h2]
/-- Rights that are given are had from that path on, by that user, and all others stay. -/
theorem ofA_allow {l : List Gr} {u p : ByteArray} {r : Int} (h : allowE l u p r = 0) (o pl : ByteArray) :
    ofA (setG u p (orF r) l) o pl = if o = u ∧ underL (bs pl) (bs p) = true then bits .or .i64 (ofA l o pl) r else ofA l o pl := by
  have hm := okG_rights (allow_ok h)
  obtain ⟨h1, _⟩ := allowE_zero h
  obtain ⟨k1, k2, k3, k4, k5⟩ := refE_zero h1
  have hl := okG_rights k1
  unfold ofA
  by_cases ho : o = ByteArray.empty
  · rw [if_pos ho, if_pos ho, if_neg]
    rintro ⟨e, _⟩
    exact user_ne k2 (e ▸ ho)
  · rw [if_neg ho, if_neg ho]
    by_cases hn : isName (bs o) = false
    · rw [if_pos hn, if_pos hn, if_neg]
      rintro ⟨rfl, _⟩
      rw [hn] at k2
      cases k2
    · rw [if_neg hn, if_neg hn, ofG_nat hm, ofG_nat hl, orN_set qOf_key k4 k5 hl]
      have hq : qOf o pl (u, p, 0) = true ↔ o = u ∧ underL (bs pl) (bs p) = true := by
        unfold qOf
        rw [Bool.and_eq_true, decide_eq_true_eq]
        exact ⟨fun ⟨a, b⟩ => ⟨a.symm, b⟩, fun ⟨a, b⟩ => ⟨a.symm, b⟩⟩
      by_cases hc : o = u ∧ underL (bs pl) (bs p) = true
      · rw [if_pos (hq.2 hc), if_pos hc, or_range (by omega) (by have := orN_lt (q := qOf o pl) hl; omega) (by omega) k5]
        rfl
      · rw [if_neg (fun e => hc (hq.1 e)), if_neg hc, Nat.or_zero]

/-- The owner has all, whatever is asked. -/
theorem and_own {need : Int} (h0 : -9223372036854775808 ≤ need) (h1 : need ≤ 9223372036854775807) : (bits .and .i64 255 need == need) = (decide (0 ≤ need) && decide (need ≤ 255)) := by
  have hb : ((BitVec.ofInt 64 need).toNat : Int) = need % 18446744073709551616 := by
    rw [BitVec.toNat_ofInt]
    omega
  have e : bits .and .i64 255 need = need % 256 := by
    show IntKind.i64.wrap ((BitVec.ofInt 64 ((255 : Nat) : Int) &&& BitVec.ofInt 64 need).toNat : Int) = _
    rw [BitVec.toNat_and, nat_of (by omega), Nat.and_comm, show (255 : Nat) = 2 ^ 8 - 1 from rfl, Nat.and_two_pow_sub_one_eq_mod]
    rw [IntWalk.i64_in _ (by omega)]
    omega
  rw [e, Bool.eq_iff_iff, beq_iff_eq, Bool.and_eq_true, decide_eq_true_eq, decide_eq_true_eq]
  omega

end Go.Proofs.Ytnoidcelinaenaa
