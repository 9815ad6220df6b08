/-
  The order of texts. Plain mathematics. No conditions.
-/
import Derived.Lib.Bytealg
import Derived.Laws.Strings
namespace Go.Proofs.YtfeeejigedndcaaGreat
set_option maxRecDepth 100000

theorem bl_irr : ∀ x : List UInt8, Op.bytesLess x x = false
  | [] => rfl
  | a :: x => by
    simp only [Op.bytesLess]
    simp [bl_irr x]
theorem bl_tri : ∀ x y : List UInt8, Op.bytesLess x y = true ∨ Op.bytesLess y x = true ∨ x = y
  | [], [] => .inr (.inr rfl)
  | [], b :: y => .inl rfl
  | a :: x, [] => .inr (.inl rfl)
  | a :: x, b :: y => by
    simp only [Op.bytesLess]
    rcases Nat.lt_trichotomy a.toNat b.toNat with h | h | h
    · have : a < b := h
      simp [this]
    · have e : a = b := UInt8.toNat_inj.1 h
      subst e
      rcases bl_tri x y with h1 | h1 | h1 <;> simp [h1]
    · have : b < a := h
      simp [this]
theorem bl_trans : ∀ x y z : List UInt8, Op.bytesLess x y = true → Op.bytesLess y z = true → Op.bytesLess x z = true
  | [], y, [], h1, h2 => by
    cases y with
    | nil => exact h1
    | cons b y => simp [Op.bytesLess] at h2
  | [], y, c :: z, h1, h2 => rfl
  | a :: x, [], z, h1, h2 => by simp [Op.bytesLess] at h1
  | a :: x, b :: y, [], h1, h2 => by simp [Op.bytesLess] at h2
  | a :: x, b :: y, c :: z, h1, h2 => by
    have ih := bl_trans x y z
    simp only [Op.bytesLess] at h1 h2 ⊢
    have hab : a.toNat < b.toNat ∨ (a = b ∧ Op.bytesLess x y = true) := by
      by_cases h : a < b
      · exact .inl h
      · simp [h] at h1
        exact .inr h1
    have hbc : b.toNat < c.toNat ∨ (b = c ∧ Op.bytesLess y z = true) := by
      by_cases h : b < c
      · exact .inl h
      · simp [h] at h2
        exact .inr h2
    rcases hab with h | ⟨rfl, h⟩ <;> rcases hbc with k | ⟨rfl, k⟩
    · have : a < c := Nat.lt_trans h k
      simp [this]
    · have : a < b := h
      simp [this]
    · have : a < c := k
      simp [this]
    · simp [ih h k]

/-- One key stands ahead of another. -/
def ltK (a b : ByteArray) : Prop := Op.bytesLess a.toList b.toList = true
theorem ba_toList {a b : ByteArray} (h : a.toList = b.toList) : a = b := by
  rw [ByteArray.toList_eq, ByteArray.toList_eq] at h
  obtain ⟨⟨a⟩⟩ := a
  obtain ⟨⟨b⟩⟩ := b
  simp at h
  rw [h]
theorem ltK_iff {a b : ByteArray} : ltK a b ↔ (Op.bytesLess b.toList a.toList || b.toList == a.toList) = false := by
  unfold ltK
  rcases bl_tri a.toList b.toList with h | h | h
  · have h2 : Op.bytesLess b.toList a.toList = false := by
      rw [← Bool.not_eq_true]
      intro h3
      have := bl_trans _ _ _ h h3
      rw [bl_irr] at this
      cases this
    have h3 : (b.toList == a.toList) = false := by
      rw [beq_eq_false_iff_ne]
      intro e
      rw [e, bl_irr] at h
      cases h
    simp [h, h2, h3]
  · have h2 : Op.bytesLess a.toList b.toList = false := by
      rw [← Bool.not_eq_true]
      intro h3
      have := bl_trans _ _ _ h h3
      rw [bl_irr] at this
      cases this
    simp [h, h2]
  · rw [h, bl_irr]
    simp
theorem ltK_trans {a b c : ByteArray} (h : ltK a b) (k : ltK b c) : ltK a c := bl_trans _ _ _ h k
theorem ltK_ne {a b : ByteArray} (h : ltK a b) : a ≠ b := by
  rintro rfl
  unfold ltK at h
  rw [bl_irr] at h
  cases h

/-- Two lists that rise, and in which the same is found by each key, are one. -/
theorem ltK_asym {a b : ByteArray} (h : ltK a b) (k : ltK b a) : False := ltK_ne (ltK_trans h k) rfl
theorem ltK_tri (a b : ByteArray) : ltK a b ∨ ltK b a ∨ a = b := by
  rcases bl_tri a.toList b.toList with h | h | h
  · exact .inl h
  · exact .inr (.inl h)
  · exact .inr (.inr (ba_toList h))

end Go.Proofs.YtfeeejigedndcaaGreat
