/-
  Objects: how they lie in memory. No conditions.
-/
import Derived.Test.YtmehjmkakkiedaaGreatMQA
import Derived.Test.YtmehjmkakkiedaaGreatMDVA
import Derived.Test.YtmehjmkakkiedaaGreatMUM
import Derived.Test.YtmehjmkakkiedaaGreatMTM
import Derived.Laws.Cover1
namespace Go.Proofs.YtmehjmkakkiedaaGreat
open Go.ChangeShapes Go.WideShapes Go.ChangeAt Go.RowKit
set_option maxRecDepth 100000

/-- An object in memory. -/
structure Ob where
  key : ByteArray
  d : Slc
  B : Option Addr
  ns : List Int
  e : Nat
abbrev obval (k : ByteArray) (A : Option Addr) (n c : Nat) (B : Option Addr) (m e : Nat) : Value := .agg #[.string k, .slice A n c, .slice B m e]
abbrev Ob.val (o : Ob) : Value := obval o.key o.d.A o.d.zs.length o.d.c o.B o.ns.length o.e
def obCells (l : List Ob) : List Value := l.flatMap fun o => [.string o.key, o.d.val, .slice o.B o.ns.length o.e]
theorem obCells_snoc (l : List Ob) (x : Ob) : obCells (l ++ [x]) = obCells l ++ [.string x.key, x.d.val, .slice x.B x.ns.length x.e] := by simp [obCells]
theorem obCells_length (l : List Ob) : (obCells l).length = 3 * l.length := by
  induction l with
  | nil => rfl
  | cons z zs ih => simp only [obCells, List.flatMap_cons, List.length_append, List.length_cons, List.length_nil] at ih ⊢; omega
theorem obCells_at : ∀ (l : List Ob) (k : Nat) (x : Ob), l[k]? = some x → (obCells l)[k * 3]? = some (.string x.key) ∧ (obCells l)[k * 3 + 1]? = some x.d.val ∧ (obCells l)[k * 3 + 2]? = some (.slice x.B x.ns.length x.e)
  | y :: l, 0, x, h => by
    simp at h
    subst h
    simp [obCells]
  | y :: l, k + 1, x, h => by
    have := obCells_at l k x (by simpa using h)
    simp only [obCells, List.flatMap_cons] at this ⊢
    rw [show (k + 1) * 3 = k * 3 + 1 + 1 + 1 by omega]
    simpa using this
theorem Rd.ob {w : World} {A : Option Addr} {l : List Ob} (h : Rd w A (obCells l)) {k : Nat} {x : Ob} (hk : l[k]? = some x) :
    ∃ b off, A = some ⟨b, off, none⟩ ∧ b < w.heap.size ∧ w.cell? ⟨b, off + k * 3, none⟩ = some (.string x.key) ∧ w.cell? ⟨b, off + k * 3 + 1, none⟩ = some x.d.val ∧ w.cell? ⟨b, off + k * 3 + 2, none⟩ = some (.slice x.B x.ns.length x.e) := by
  obtain ⟨h1, h2, h3⟩ := obCells_at l k x hk
  obtain ⟨b, off, e, hb, hc⟩ := h (by intro h0; rw [h0] at h1; simp at h1)
  exact ⟨b, off, e, hb, hc _ _ h1, hc _ _ h2, hc _ _ h3⟩

/-- An object, plainly. -/
structure PO where
  key : ByteArray
  data : List Int
  at_ : List Int
abbrev Ob.st (o : Ob) : PO := ⟨o.key, o.d.zs, o.ns⟩

/-- What of objects a call may take for granted: they are as they came in. -/
structure Ob.Fits (o : Ob) : Prop where
  k : o.key.size ≤ maxLen
  d : o.d.zs.length ≤ 140737488351232
  dc : o.d.zs.length ≤ o.d.c
  dn : o.d.A = none → o.d.c = 0
  n : o.ns.length ≤ 17592186044416
  e : o.ns.length ≤ o.e
  en : o.B = none → o.e = 0
  octs : Octs o.d.zs

theorem dropA {α : Type} (zs : List α) {k : Nat} {z : α} (h : zs[k]? = some z) : zs.drop k = z :: zs.drop (k + 1) := by
  obtain ⟨hk, rfl⟩ := List.getElem?_eq_some_iff.1 h
  exact List.drop_eq_getElem_cons hk

/-- Do keys rise from one on? -/
def riseK : ByteArray → List ByteArray → Bool
  | _, [] => true
  | last, k :: r => !(Op.bytesLess k.toList last.toList || k.toList == last.toList) && (decide (k.size ≤ 96) && riseK k r)
/-- What is wrong with objects. -/
def objE (l : List PO) : Int := if 256 < l.length then 3 else if riseK ByteArray.empty (l.map (·.key)) = false then 31 else if l.all (fun o => decide (o.data.length ≤ 65536)) then 0 else 5

end Go.Proofs.YtmehjmkakkiedaaGreat

namespace Go.Proofs.YtmehjmkakkiedaaGreat
open Go.ChangeShapes Go.WideShapes Go.ChangeAt Go.RowKit
set_option maxRecDepth 100000

theorem bl_irr : ∀ x : List UInt8, Op.bytesLess x x = false
  | [] => rfl
  | a :: x => by
    simp only [Op.bytesLess]
    simp [bl_irr x]
theorem bl_tri : ∀ x y : List UInt8, Op.bytesLess x y = true ∨ Op.bytesLess y x = true ∨ x = y
  | [], [] => .inr (.inr rfl)
  | [], b :: y => .inl rfl
  | a :: x, [] => .inr (.inl rfl)
  | a :: x, b :: y => by
    simp only [Op.bytesLess]
    rcases Nat.lt_trichotomy a.toNat b.toNat with h | h | h
    · have : a < b := h
      simp [this]
    · have e : a = b := UInt8.toNat_inj.1 h
      subst e
      rcases bl_tri x y with h1 | h1 | h1 <;> simp [h1]
    · have : b < a := h
      simp [this]
theorem bl_trans : ∀ x y z : List UInt8, Op.bytesLess x y = true → Op.bytesLess y z = true → Op.bytesLess x z = true
  | [], y, [], h1, h2 => by
    cases y with
    | nil => exact h1
    | cons b y => simp [Op.bytesLess] at h2
  | [], y, c :: z, h1, h2 => rfl
  | a :: x, [], z, h1, h2 => by simp [Op.bytesLess] at h1
  | a :: x, b :: y, [], h1, h2 => by simp [Op.bytesLess] at h2
  | a :: x, b :: y, c :: z, h1, h2 => by
    have ih := bl_trans x y z
    simp only [Op.bytesLess] at h1 h2 ⊢
    have hab : a.toNat < b.toNat ∨ (a = b ∧ Op.bytesLess x y = true) := by
      by_cases h : a < b
      · exact .inl h
      · simp [h] at h1
        exact .inr h1
    have hbc : b.toNat < c.toNat ∨ (b = c ∧ Op.bytesLess y z = true) := by
      by_cases h : b < c
      · exact .inl h
      · simp [h] at h2
        exact .inr h2
    rcases hab with h | ⟨rfl, h⟩ <;> rcases hbc with k | ⟨rfl, k⟩
    · have : a < c := Nat.lt_trans h k
      simp [this]
    · have : a < b := h
      simp [this]
    · have : a < c := k
      simp [this]
    · simp [ih h k]

/-- One key stands ahead of another. -/
def ltK (a b : ByteArray) : Prop := Op.bytesLess a.toList b.toList = true
theorem ba_toList {a b : ByteArray} (h : a.toList = b.toList) : a = b := by
  rw [ByteArray.toList_eq, ByteArray.toList_eq] at h
  obtain ⟨⟨a⟩⟩ := a
  obtain ⟨⟨b⟩⟩ := b
  simp at h
  rw [h]
theorem ltK_iff {a b : ByteArray} : ltK a b ↔ (Op.bytesLess b.toList a.toList || b.toList == a.toList) = false := by
  unfold ltK
  rcases bl_tri a.toList b.toList with h | h | h
  · have h2 : Op.bytesLess b.toList a.toList = false := by
      rw [← Bool.not_eq_true]
      intro h3
      have := bl_trans _ _ _ h h3
      rw [bl_irr] at this
      cases this
    have h3 : (b.toList == a.toList) = false := by
      rw [beq_eq_false_iff_ne]
      intro e
      rw [e, bl_irr] at h
      cases h
    simp [h, h2, h3]
  · have h2 : Op.bytesLess a.toList b.toList = false := by
      rw [← Bool.not_eq_true]
      intro h3
      have := bl_trans _ _ _ h h3
      rw [bl_irr] at this
      cases this
    simp [h, h2]
  · rw [h, bl_irr]
    simp
theorem ltK_trans {a b c : ByteArray} (h : ltK a b) (k : ltK b c) : ltK a c := bl_trans _ _ _ h k
theorem ltK_ne {a b : ByteArray} (h : ltK a b) : a ≠ b := by
  rintro rfl
  unfold ltK at h
  rw [bl_irr] at h
  cases h
theorem riseK_cons {last k : ByteArray} {r : List ByteArray} : riseK last (k :: r) = true ↔ ltK last k ∧ k.size ≤ 96 ∧ riseK k r = true := by
  rw [ltK_iff]
  show (!(Op.bytesLess k.toList last.toList || k.toList == last.toList) && (decide (k.size ≤ 96) && riseK k r)) = true ↔ _
  rw [Bool.and_eq_true, Bool.and_eq_true, Bool.not_eq_true', decide_eq_true_eq]
theorem riseK_all : ∀ (ks : List ByteArray) (last : ByteArray), riseK last ks = true → (∀ k ∈ ks, ltK last k ∧ k.size ≤ 96) ∧ ks.Pairwise ltK
  | [], last, h => ⟨fun k hk => (by cases hk), List.Pairwise.nil⟩
  | x :: ks, last, h => by
    obtain ⟨h1, h2, h3⟩ := riseK_cons.1 h
    obtain ⟨i1, i2⟩ := riseK_all ks x h3
    refine ⟨fun k hk => ?_, List.pairwise_cons.2 ⟨fun k hk => (i1 k hk).1, i2⟩⟩
    rcases List.mem_cons.1 hk with rfl | hk
    · exact ⟨h1, h2⟩
    · exact ⟨ltK_trans h1 (i1 k hk).1, (i1 k hk).2⟩
theorem objE_ok {l : List PO} (h : objE l = 0) : l.length ≤ 256 ∧ riseK ByteArray.empty (l.map (·.key)) = true ∧ ∀ o ∈ l, o.data.length ≤ 65536 := by
  unfold objE at h
  split at h
  · cases h
  · rename_i h1
    split at h
    · cases h
    · rename_i h2
      split at h
      · rename_i h3
        rw [List.all_eq_true] at h3
        exact ⟨by omega, by simpa using h2, fun o ho => by simpa using h3 o ho⟩
      · cases h
theorem objE_keys {l : List PO} (h : objE l = 0) : (∀ o ∈ l, o.key.size ≤ 96 ∧ ltK ByteArray.empty o.key) ∧ l.Pairwise fun a b => a.key ≠ b.key := by
  obtain ⟨h1, h2, h3⟩ := objE_ok h
  obtain ⟨i1, i2⟩ := riseK_all _ _ h2
  refine ⟨fun o ho => ?_, ?_⟩
  · have := i1 o.key (List.mem_map.2 ⟨o, ho, rfl⟩)
    exact ⟨this.2, this.1⟩
  · exact (List.pairwise_map.1 i2).imp fun h => ltK_ne h

end Go.Proofs.YtmehjmkakkiedaaGreat
