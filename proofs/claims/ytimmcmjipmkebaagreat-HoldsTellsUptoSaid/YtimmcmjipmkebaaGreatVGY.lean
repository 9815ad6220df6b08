/-
 The order of texts. Plain mathematics. No conditions.
-/
import Derived.Lib.Bytealg
import Derived.Laws.Strings
import Derived.Lib.Strings
import Derived.Lib.LastIndexByte
import Derived.Laws.Entries
import Derived.WalkKit
namespace Go.Proofs.YtimmcmjipmkebaaGreat
set_option maxRecDepth 100000
theorem bl_irr : ∀ x : List UInt8, Op.bytesLess x x = false
 | [] => rfl
 | a :: x => by
  simp only [Op.bytesLess]
  simp [bl_irr x]
theorem bl_tri : ∀ x y : List UInt8, Op.bytesLess x y = true ∨ Op.bytesLess y x = true ∨ x = y
 | [], [] => .inr (.inr rfl)
 | [], b :: y => .inl rfl
 | a :: x, [] => .inr (.inl rfl)
 | a :: x, b :: y => by
  simp only [Op.bytesLess]
  rcases Nat.lt_trichotomy a.toNat b.toNat with h | h | h
  · have : a < b := h
    simp [this]
  · have e : a = b := UInt8.toNat_inj.1 h
    subst e
    rcases bl_tri x y with h1 | h1 | h1 <;> simp [h1]
  · have : b < a := h
    simp [this]
theorem bl_trans : ∀ x y z : List UInt8, Op.bytesLess x y = true → Op.bytesLess y z = true → Op.bytesLess x z = true
 | [], y, [], h1, h2 => by
  cases y with
  | nil => exact h1
  | cons b y => simp [Op.bytesLess] at h2
 | [], y, c :: z, h1, h2 => rfl
 | a :: x, [], z, h1, h2 => by simp [Op.bytesLess] at h1
 | a :: x, b :: y, [], h1, h2 => by simp [Op.bytesLess] at h2
 | a :: x, b :: y, c :: z, h1, h2 => by
  have ih := bl_trans x y z
  simp only [Op.bytesLess] at h1 h2 ⊢
  have hab : a.toNat < b.toNat ∨ (a = b ∧ Op.bytesLess x y = true) := by
   by_cases h : a < b
   · exact .inl h
   · simp [h] at h1
     exact .inr h1
  have hbc : b.toNat < c.toNat ∨ (b = c ∧ Op.bytesLess y z = true) := by
   by_cases h : b < c
   · exact .inl h
   · simp [h] at h2
     exact .inr h2
  rcases hab with h | ⟨rfl, h⟩ <;> rcases hbc with k | ⟨rfl, k⟩
  · have : a < c := Nat.lt_trans h k
    simp [this]
  · have : a < b := h
    simp [this]
  · have : a < c := k
    simp [this]
  · simp [ih h k]
def ltK (a b : ByteArray) : Prop := Op.bytesLess a.toList b.toList = true
theorem ba_toList {a b : ByteArray} (h : a.toList = b.toList) : a = b := by
 rw [ByteArray.toList_eq, ByteArray.toList_eq] at h
 obtain ⟨⟨a⟩⟩ := a
 obtain ⟨⟨b⟩⟩ := b
 simp at h
 rw [h]
theorem ltK_iff {a b : ByteArray} : ltK a b ↔ (Op.bytesLess b.toList a.toList || b.toList == a.toList) = false := by
 unfold ltK
 rcases bl_tri a.toList b.toList with h | h | h
 · have h2 : Op.bytesLess b.toList a.toList = false := by
    rw [← Bool.not_eq_true]
    intro h3
    have := bl_trans _ _ _ h h3
    rw [bl_irr] at this
    cases this
   have h3 : (b.toList == a.toList) = false := by
    rw [beq_eq_false_iff_ne]
    intro e
    rw [e, bl_irr] at h
    cases h
   simp [h, h2, h3]
 · have h2 : Op.bytesLess a.toList b.toList = false := by
    rw [← Bool.not_eq_true]
    intro h3
    have := bl_trans _ _ _ h h3
    rw [bl_irr] at this
    cases this
   simp [h, h2]
 · rw [h, bl_irr]
   simp
theorem ltK_trans {a b c : ByteArray} (h : ltK a b) (k : ltK b c) : ltK a c := bl_trans _ _ _ h k
theorem ltK_ne {a b : ByteArray} (h : ltK a b) : a ≠ b := by
 rintro rfl
 unfold ltK at h
 rw [bl_irr] at h
 cases h
theorem ltK_asym {a b : ByteArray} (h : ltK a b) (k : ltK b a) : False := ltK_ne (ltK_trans h k) rfl
theorem ltK_tri (a b : ByteArray) : ltK a b ∨ ltK b a ∨ a = b := by
 rcases bl_tri a.toList b.toList with h | h | h
 · exact .inl h
 · exact .inr (.inl h)
 · exact .inr (.inr (ba_toList h))
def bs (s : ByteArray) : List UInt8 := s.data.toList
def ofL (l : List UInt8) : ByteArray := ⟨l.toArray⟩
theorem bs_ofL (l : List UInt8) : bs (ofL l) = l := by simp [bs, ofL]
theorem ofL_bs (s : ByteArray) : ofL (bs s) = s := Lib.mk_data s
theorem zgX (s : ByteArray) : (bs s).length = s.size := (Lib.size_eq s).symm
theorem ofL_size (l : List UInt8) : (ofL l).size = l.length := by rw [← zgX, bs_ofL]
theorem bs_inj {s t : ByteArray} (h : bs s = bs t) : s = t := by rw [← ofL_bs s, ← ofL_bs t, h]
theorem bs_at (s : ByteArray) (k : Nat) (h : k < s.size) : (bs s).drop k = s[k] :: (bs s).drop (k + 1) := by
 rw [List.drop_eq_getElem_cons (by rw [zgX]; exact h)]
 rfl
def okc (c : UInt8) : Bool := 97 ≤ c && c ≤ 122 || 48 ≤ c && c ≤ 57 || c == 45 || c == 95
def zaQ (l : List UInt8) : Bool := decide (1 ≤ l.length) && decide (l.length ≤ 16) && l.all okc
def cut1 (c : UInt8) : List UInt8 → List UInt8 × List UInt8 × Bool
 | [] => ([], [], false)
 | b :: l => if b == c then ([], l, true) else (b :: (cut1 c l).1, (cut1 c l).2.1, (cut1 c l).2.2)
def pathB : Nat → List UInt8 → Bool
 | 0, _ => false
 | n + 1, l => zaQ (cut1 47 l).1 && (!(cut1 47 l).2.2 || pathB n (cut1 47 l).2.1)
def zeX (l : List UInt8) : Bool := l.isEmpty || pathB 4 l
def low (c : UInt8) : UInt8 := if 65 ≤ c && c ≤ 90 then c + 32 else c
theorem cut1_not {c : UInt8} : ∀ {l : List UInt8}, c ∉ l → cut1 c l = (l, [], false)
 | [], _ => rfl
 | b :: l, h => by
  have h1 : c ∉ l := fun hm => h (List.mem_cons_of_mem _ hm)
  have h2 : (b == c) = false := by
   rw [beq_eq_false_iff_ne]
   rintro rfl
   exact h (by simp)
  simp only [cut1, h2, cut1_not h1]
  rfl
theorem cut1_at {c : UInt8} (r : List UInt8) : ∀ {p : List UInt8}, c ∉ p → cut1 c (p ++ c :: r) = (p, r, true)
 | [], _ => by simp [cut1]
 | b :: p, h => by
  have h1 : c ∉ p := fun hm => h (List.mem_cons_of_mem _ hm)
  have h2 : (b == c) = false := by
   rw [beq_eq_false_iff_ne]
   rintro rfl
   exact h (by simp)
  simp only [List.cons_append, cut1, h2, cut1_at r h1]
  rfl
theorem split_mem {c : UInt8} : ∀ {l : List UInt8}, c ∈ l → ∃ p r, l = p ++ c :: r ∧ c ∉ p
 | b :: l, h => by
  by_cases hb : b = c
  · subst hb
    exact ⟨[], l, rfl, by simp⟩
  · have hm : c ∈ l := by
     rcases List.mem_cons.1 h with h | h
     · exact absurd h.symm hb
     · exact h
    obtain ⟨p, r, rfl, hp⟩ := split_mem hm
    refine ⟨b :: p, r, rfl, ?_⟩
    simp only [List.mem_cons, not_or]
    exact ⟨fun h => hb h.symm, hp⟩
theorem index_not {c : UInt8} : ∀ {l : List UInt8}, c ∉ l → Lib.indexByte l c = -1
 | [], _ => rfl
 | b :: l, h => by
  have h1 : c ∉ l := fun hm => h (List.mem_cons_of_mem _ hm)
  have h2 : (b == c) = false := by
   rw [beq_eq_false_iff_ne]
   rintro rfl
   exact h (by simp)
  simp [Lib.indexByte, h2, index_not h1]
theorem index_at {c : UInt8} (r : List UInt8) : ∀ {p : List UInt8}, c ∉ p → Lib.indexByte (p ++ c :: r) c = p.length
 | [], _ => by simp [Lib.indexByte]
 | b :: p, h => by
  have h1 : c ∉ p := fun hm => h (List.mem_cons_of_mem _ hm)
  have h2 : (b == c) = false := by
   rw [beq_eq_false_iff_ne]
   rintro rfl
   exact h (by simp)
  have ih := index_at r h1
  have h3 : ((p.length : Int) == -1) = false := by
   rw [beq_eq_false_iff_ne]
   omega
  simp only [List.cons_append, Lib.indexByte, h2, ih, h3, List.length_cons]
  simp
theorem isName_ne {l : List UInt8} (h : zaQ l = true) : l ≠ [] := by
 rintro rfl
 simp [zaQ] at h
abbrev Pr : Type := ByteArray × ByteArray
def valOk (s : ByteArray) : Bool := (bs s).all (fun c => decide (32 ≤ c.toNat) && decide (c.toNat ≤ 126)) && decide (s.size ≤ 32)
def RisP (l : List Pr) : Prop := l.Pairwise fun a b => ltK a.1 b.1
instance : DecidableRel fun a b : Pr => ltK a.1 b.1 := fun a b => by unfold ltK; exact inferInstance
instance (l : List Pr) : Decidable (RisP l) := by unfold RisP; exact inferInstance
def okP (l : List Pr) : Bool := decide (l.length ≤ 8) && (l.all (fun p => zaQ (bs p.1) && valOk p.2) && decide (RisP l))
theorem okP_iff {l : List Pr} : okP l = true ↔ l.length ≤ 8 ∧ (∀ p ∈ l, zaQ (bs p.1) = true ∧ valOk p.2 = true) ∧ RisP l := by
 unfold okP
 rw [Bool.and_eq_true, Bool.and_eq_true, decide_eq_true_eq, decide_eq_true_eq, List.all_eq_true]
 simp only [Bool.and_eq_true]
abbrev Gr : Type := ByteArray × ByteArray × Int
def cmpK (a b : ByteArray) : Int := if Op.bytesLess a.toList b.toList = true then -1 else if a = b then 0 else 1
def cmpG (a b : Gr) : Int := if cmpK a.1 b.1 = 0 then cmpK a.2.1 b.2.1 else cmpK a.1 b.1
def ltG (a b : Gr) : Prop := cmpG a b < 0
instance : DecidableRel ltG := fun a b => by unfold ltG; exact inferInstance
theorem cmpK_lt {a b : ByteArray} : cmpK a b < 0 ↔ ltK a b := by
 unfold cmpK ltK
 split
 · rename_i h; simp [h]
 · rename_i h
   split <;> simp [h]
theorem cmpK_eq {a b : ByteArray} : cmpK a b = 0 ↔ a = b := by
 unfold cmpK
 split
 · rename_i h
   constructor
   · intro e; omega
   · rintro rfl
     rw [bl_irr] at h
     cases h
 · split
   · rename_i h; simp [h]
   · rename_i h; simp [h]
theorem ltG_iff {a b : Gr} : ltG a b ↔ ltK a.1 b.1 ∨ (a.1 = b.1 ∧ ltK a.2.1 b.2.1) := by
 unfold ltG cmpG
 split
 · rename_i h
   have e := cmpK_eq.1 h
   rw [cmpK_lt]
   constructor
   · intro k; exact .inr ⟨e, k⟩
   · rintro (k | k)
     · exact absurd e (ltK_ne k)
     · exact k.2
 · rename_i h
   rw [cmpK_lt]
   constructor
   · intro k; exact .inl k
   · rintro (k | k)
     · exact k
     · exact absurd (cmpK_eq.2 k.1) h
theorem ltG_trans {a b c : Gr} (h : ltG a b) (k : ltG b c) : ltG a c := by
 rw [ltG_iff] at h k ⊢
 rcases h with h | ⟨e, h⟩ <;> rcases k with k | ⟨f, k⟩
 · exact .inl (ltK_trans h k)
 · exact .inl (f ▸ h)
 · exact .inl (e ▸ k)
 · exact .inr ⟨e.trans f, ltK_trans h k⟩
def someP (r : Int) : Bool := decide (1 ≤ r) && decide (r ≤ 255)
def goodG (g : Gr) : Bool := zaQ (bs g.1) && (zeX (bs g.2.1) && someP g.2.2)
def RisG (l : List Gr) : Prop := l.Pairwise ltG
def okFG : Option Gr → List Gr → Bool
 | _, [] => true
 | q, g :: r => goodG g && ((match q with | none => true | some q => decide (cmpG q g < 0)) && okFG (some g) r)
theorem okFG_iff : ∀ {l : List Gr} {q : Option Gr}, okFG q l = true ↔ (∀ g ∈ l, goodG g = true ∧ ∀ q0, q = some q0 → ltG q0 g) ∧ RisG l
 | [], q => by simp [okFG, RisG]
 | g :: r, q => by
  unfold okFG
  rw [Bool.and_eq_true, Bool.and_eq_true, okFG_iff (l := r)]
  unfold RisG
  rw [List.pairwise_cons]
  have hq : (match q with | none => true | some q => decide (cmpG q g < 0)) = true ↔ ∀ q0, q = some q0 → ltG q0 g := by
   cases q with
   | none => simp
   | some q => simp [ltG]
  rw [hq]
  constructor
  · rintro ⟨h1, h2, h3, h4⟩
    refine ⟨fun x hx => ?_, fun x hx => (h3 x hx).2 g rfl, h4⟩
    rcases List.mem_cons.1 hx with rfl | hx
    · exact ⟨h1, h2⟩
    · exact ⟨(h3 x hx).1, fun q0 e => ltG_trans (h2 q0 e) ((h3 x hx).2 g rfl)⟩
  · rintro ⟨h1, h2, h3⟩
    obtain ⟨a1, a2⟩ := h1 g (by simp)
    exact ⟨a1, a2, fun x hx => ⟨(h1 x (by simp [hx])).1, fun q0 e => by injection e with e; subst e; exact h2 x hx⟩, h3⟩
def okG (l : List Gr) : Bool := decide (l.length ≤ 16) && okFG none l
theorem okG_iff {l : List Gr} : okG l = true ↔ l.length ≤ 16 ∧ (∀ g ∈ l, goodG g = true) ∧ RisG l := by
 unfold okG
 rw [Bool.and_eq_true, decide_eq_true_eq, okFG_iff]
 constructor
 · rintro ⟨h1, h2, h3⟩; exact ⟨h1, fun g hg => (h2 g hg).1, h3⟩
 · rintro ⟨h1, h2, h3⟩; exact ⟨h1, fun g hg => ⟨h2 g hg, fun q0 e => by cases e⟩, h3⟩
def chkG (l : List Gr) : Int := if okG l then 0 else 9
end Go.Proofs.YtimmcmjipmkebaaGreat
