/-
  Which of two blocks stands ahead, what a sorted list holds, how many blocks none of some lists holds, plainly. No conditions.
-/
import Derived.Test.YtnoidcelinaenaaBLM
import Derived.Lib.Bytealg
import Derived.Lib.Small
import Derived.Sort.Statements
import Derived.Shelf.SlSortCmp.Insertion
import Derived.IntWalk
namespace Go.Proofs.Ytnoidcelinaenaa
open Go.ChangeShapes Go.WideShapes Go.ChangeAt Go.RowKit
set_option maxRecDepth 100000

/-! ## Texts -/

theorem cb_self : ∀ a : List UInt8, Lib.compareBytes a a = 0
  | [] => rfl
  | a :: s => by
    unfold Lib.compareBytes
    rw [if_neg (UInt8.lt_irrefl a), if_neg (UInt8.lt_irrefl a)]
    exact cb_self s
theorem cb_eq : ∀ {a b : List UInt8}, Lib.compareBytes a b = 0 → a = b
  | [], [], _ => rfl
  | [], _ :: _, h => by unfold Lib.compareBytes at h; cases h
  | _ :: _, [], h => by unfold Lib.compareBytes at h; cases h
  | a :: s, b :: t, h => by
    unfold Lib.compareBytes at h
    by_cases h1 : a < b
    · rw [if_pos h1] at h; cases h
    · rw [if_neg h1] at h
      by_cases h2 : b < a
      · rw [if_pos h2] at h; cases h
      · rw [if_neg h2] at h
        have : a = b := by
          rw [UInt8.lt_iff_toNat_lt] at h1 h2
          exact UInt8.toNat_inj.1 (by omega)
        rw [this, cb_eq h]
theorem cb_swap : ∀ a b : List UInt8, Lib.compareBytes b a = - Lib.compareBytes a b
  | [], [] => rfl
  | [], _ :: _ => rfl
  | _ :: _, [] => rfl
  | a :: s, b :: t => by
    unfold Lib.compareBytes
    by_cases h1 : a < b
    · rw [if_pos h1, if_neg (UInt8.lt_asymm h1), if_pos h1]; rfl
    · rw [if_neg h1]
      by_cases h2 : b < a
      · rw [if_pos h2, if_neg h1, if_pos h2]
      · rw [if_neg h2, if_neg h2, if_neg h1]
        exact cb_swap s t
theorem cb_trans : ∀ {a b c : List UInt8}, Lib.compareBytes a b < 0 → Lib.compareBytes b c < 0 → Lib.compareBytes a c < 0
  | [], [], _, h, _ => by unfold Lib.compareBytes at h; omega
  | [], _ :: _, [], _, h => by unfold Lib.compareBytes at h; omega
  | [], _ :: _, _ :: _, _, _ => by unfold Lib.compareBytes; omega
  | _ :: _, [], _, h, _ => by unfold Lib.compareBytes at h; omega
  | _ :: _, _ :: _, [], _, h => by unfold Lib.compareBytes at h; omega
  | a :: s, b :: t, c :: u, h, k => by
    unfold Lib.compareBytes at h k ⊢
    by_cases h1 : a < b
    · by_cases k1 : b < c
      · rw [if_pos (UInt8.lt_trans h1 k1)]; omega
      · rw [if_neg k1] at k
        by_cases k2 : c < b
        · rw [if_pos k2] at k; omega
        · have : b = c := by
            rw [UInt8.lt_iff_toNat_lt] at k1 k2
            exact UInt8.toNat_inj.1 (by omega)
          rw [← this, if_pos h1]; omega
    · rw [if_neg h1] at h
      by_cases h2 : b < a
      · rw [if_pos h2] at h; omega
      · rw [if_neg h2] at h
        have : a = b := by
          rw [UInt8.lt_iff_toNat_lt] at h1 h2
          exact UInt8.toNat_inj.1 (by omega)
        subst this
        by_cases k1 : a < c
        · rw [if_pos k1]; omega
        · rw [if_neg k1] at k ⊢
          by_cases k2 : c < a
          · rw [if_pos k2] at k; omega
          · rw [if_neg k2] at k ⊢
            exact cb_trans h k

/-! ## Blocks -/

def cmpB (x y : Bk) : Int := if Lib.compareInt x.1 y.1 = 0 then Lib.compareBytes x.2.data.toList y.2.data.toList else Lib.compareInt x.1 y.1
theorem ci_ways (a b : Int) : (a < b ∧ Lib.compareInt a b = -1) ∨ (b < a ∧ Lib.compareInt a b = 1) ∨ (a = b ∧ Lib.compareInt a b = 0) := by
  unfold Lib.compareInt
  by_cases h : a < b
  · exact .inl ⟨h, by rw [if_pos h]⟩
  · by_cases h2 : a > b
    · exact .inr (.inl ⟨h2, by rw [if_neg h, if_pos h2]⟩)
    · exact .inr (.inr ⟨by omega, by rw [if_neg h, if_neg h2]⟩)
theorem ba_ext {a b : ByteArray} (h : a.data.toList = b.data.toList) : a = b := by
  obtain ⟨⟨a⟩⟩ := a
  obtain ⟨⟨b⟩⟩ := b
  cases h
  rfl
theorem cmpB_eq {x y : Bk} : cmpB x y = 0 ↔ x = y := by
  unfold cmpB
  rcases ci_ways x.1 y.1 with ⟨h, e⟩ | ⟨h, e⟩ | ⟨h, e⟩ <;> rw [e]
  · rw [if_neg (by decide)]
    exact ⟨fun h => by (cases h), fun k => by (rw [k] at h; omega)⟩
  · rw [if_neg (by decide)]
    exact ⟨fun h => by (cases h), fun k => by (rw [k] at h; omega)⟩
  · rw [if_pos rfl]
    refine ⟨fun k => Prod.ext h (ba_ext (cb_eq k)), fun k => ?_⟩
    rw [k]
    exact cb_self _
theorem cmpB_swap (x y : Bk) : cmpB y x = - cmpB x y := by
  unfold cmpB
  rcases ci_ways x.1 y.1 with ⟨h, e⟩ | ⟨h, e⟩ | ⟨h, e⟩ <;> rcases ci_ways y.1 x.1 with ⟨h', e'⟩ | ⟨h', e'⟩ | ⟨h', e'⟩ <;> (try omega) <;> rw [e, e']
  all_goals first | rfl | (rw [if_pos rfl, if_pos rfl]; exact cb_swap _ _)
theorem cmpB_trans {x y z : Bk} (h : cmpB x y < 0) (k : cmpB y z < 0) : cmpB x z < 0 := by
  unfold cmpB at h k ⊢
  rcases ci_ways x.1 y.1 with ⟨h1, e1⟩ | ⟨h1, e1⟩ | ⟨h1, e1⟩ <;> rw [e1] at h <;>
  rcases ci_ways y.1 z.1 with ⟨h2, e2⟩ | ⟨h2, e2⟩ | ⟨h2, e2⟩ <;> rw [e2] at k <;>
  rcases ci_ways x.1 z.1 with ⟨h3, e3⟩ | ⟨h3, e3⟩ | ⟨h3, e3⟩ <;> rw [e3] <;> first | omega | skip
  all_goals first | (rw [if_neg (by decide)]; omega) | (rw [if_neg (by decide)] at h; omega) | (rw [if_neg (by decide)] at k; omega) | skip
  rw [if_pos rfl] at h k ⊢
  exact cb_trans h k

theorem ltB (x y : Bk) : ltOf cmpB x y = decide (cmpB x y < 0) := rfl
theorem swoB : Go.Sort.SWO (ltOf cmpB) where
  irrefl x := by rw [ltB, cmpB_eq.2 rfl]; rfl
  trans x y z h k := by
    rw [ltB, decide_eq_true_eq] at *
    exact cmpB_trans h k
  ntrans x y z h k := by
    rw [ltB, decide_eq_false_iff_not] at *
    intro hz
    have h1 : cmpB y x < 0 ∨ x = y := by
      rcases Int.lt_trichotomy (cmpB x y) 0 with a | a | a
      · exact absurd a h
      · exact .inr (cmpB_eq.1 a)
      · exact .inl (by rw [cmpB_swap]; omega)
    rcases h1 with h1 | rfl
    · exact k (cmpB_trans h1 hz)
    · exact k hz

/-- A sorted list: what stands behind is never less. -/
def SrtB (l : List Bk) : Prop := ∀ (i j : Nat) (x y : Bk), i < j → l[i]? = some x → l[j]? = some y → 0 ≤ cmpB y x
theorem srt_mono {l : List Bk} (hs : SrtB l) (b : Bk) {i j : Nat} {x y : Bk} (hij : i ≤ j) (hx : l[i]? = some x) (hy : l[j]? = some y) (h : 0 ≤ cmpB x b) : 0 ≤ cmpB y b := by
  rcases Nat.lt_or_ge i j with hlt | hge
  · have h1 := hs i j x y hlt hx hy
    rcases Int.lt_or_le (cmpB y b) 0 with h2 | h2
    · have h3 : cmpB x y ≤ 0 := by rw [cmpB_swap y x]; omega
      have : cmpB x b < 0 := by
        rcases Int.lt_or_eq_of_le h3 with h4 | h4
        · exact cmpB_trans h4 h2
        · rw [cmpB_eq.1 h4]; exact h2
      omega
    · exact h2
  · obtain rfl : i = j := by omega
    rw [hx] at hy
    injection hy with hy
    rw [← hy]
    exact h
/-- Where the search ends. -/
theorem srt_mem {l : List Bk} (hs : SrtB l) {b : Bk} {i : Nat} (h0 : ∀ (k : Nat) x, k < i → l[k]? = some x → cmpB x b < 0) (h1 : ∀ (k : Nat) x, i ≤ k → l[k]? = some x → 0 ≤ cmpB x b) :
    l[i]? = some b ↔ b ∈ l := by
  refine ⟨List.mem_of_getElem?, fun h => ?_⟩
  obtain ⟨k, hk⟩ := List.mem_iff_getElem?.1 h
  have hb : cmpB b b = 0 := cmpB_eq.2 rfl
  have hik : i ≤ k := by
    rcases Nat.lt_or_ge k i with hlt | hge
    · have := h0 k b hlt hk
      omega
    · exact hge
  rcases Nat.lt_or_eq_of_le hik with hlt | rfl
  · obtain ⟨x, hx⟩ : ∃ x, l[i]? = some x := ⟨l[i]'(by have := (List.getElem?_eq_some_iff.1 hk).1; omega), List.getElem?_eq_getElem _⟩
    have h2 := hs i k x b hlt hx hk
    have h3 := h1 i x (Nat.le_refl _) hx
    rw [cmpB_swap] at h2
    rw [hx, cmpB_eq.1 (show cmpB x b = 0 by omega)]
  · exact hk

/-- Is it in the list? -/
def memB (m : List Bk) (b : Bk) : Bool := m.any fun y => decide (cmpB y b = 0)
theorem memB_iff {m : List Bk} {b : Bk} : memB m b = true ↔ b ∈ m := by
  unfold memB
  rw [List.any_eq_true]
  constructor
  · rintro ⟨y, hy, h⟩
    rw [decide_eq_true_eq, cmpB_eq] at h
    exact h ▸ hy
  · exact fun h => ⟨b, h, by rw [decide_eq_true_eq, cmpB_eq]⟩
theorem memB_perm {m m' : List Bk} (h : m.Perm m') (b : Bk) : memB m b = memB m' b := by
  rw [Bool.eq_iff_iff, memB_iff, memB_iff]
  exact h.mem_iff
/-- Does one of the lists hold it? -/
def hitB (ms : List (List Bk)) (b : Bk) : Bool := ms.any fun m => memB m b
def cntB (ms : List (List Bk)) (l : List Bk) : Nat := l.countP fun b => !hitB ms b
theorem cntB_nil (ms : List (List Bk)) : cntB ms [] = 0 := rfl
theorem cntB_snoc (ms : List (List Bk)) (l : List Bk) (b : Bk) : cntB ms (l ++ [b]) = cntB ms l + (if hitB ms b = true then 0 else 1) := by
  unfold cntB
  rw [List.countP_append, List.countP_singleton]
  cases hitB ms b <;> rfl
theorem cntB_take (ms : List (List Bk)) {l : List Bk} {k : Nat} {b : Bk} (h : l[k]? = some b) : cntB ms (l.take (k + 1)) = cntB ms (l.take k) + (if hitB ms b = true then 0 else 1) := by
  obtain ⟨hk, rfl⟩ := List.getElem?_eq_some_iff.1 h
  rw [List.take_succ_eq_append_getElem hk, cntB_snoc]
theorem cntB_le (ms : List (List Bk)) (l : List Bk) : cntB ms l ≤ l.length := List.countP_le_length
theorem cntB_congr {ms ms' : List (List Bk)} (l : List Bk) (h : ∀ b, hitB ms b = hitB ms' b) : cntB ms l = cntB ms' l := by
  unfold cntB
  exact List.countP_congr fun b _ => by rw [h b]
theorem cntB_all {ms : List (List Bk)} {l : List Bk} (h : ∀ b ∈ l, hitB ms b = true) : cntB ms l = 0 := by
  unfold cntB
  rw [List.countP_eq_zero]
  intro b hb
  rw [h b hb]
  decide

/-! ## Charges -/

/-- A charge, exactly. -/
def chg (L : List (List Bk)) : Nat := (L.map fun l => 1 + l.length).sum
theorem chg_nil : chg [] = 0 := rfl
theorem chg_snoc (L : List (List Bk)) (l : List Bk) : chg (L ++ [l]) = chg L + (1 + l.length) := by simp [chg]
theorem chg_append (L M : List (List Bk)) : chg (L ++ M) = chg L + chg M := by simp [chg]
theorem chg_take {L : List (List Bk)} {k : Nat} {l : List Bk} (h : L[k]? = some l) : chg (L.take (k + 1)) = chg (L.take k) + (1 + l.length) := by
  obtain ⟨hk, rfl⟩ := List.getElem?_eq_some_iff.1 h
  rw [List.take_succ_eq_append_getElem hk, chg_snoc]
theorem w64_add (a b : Int) : wrap64 (wrap64 a + b) = wrap64 (a + b) := by unfold wrap64; omega
theorem w64_add' (a b : Int) : wrap64 (a + wrap64 b) = wrap64 (a + b) := by unfold wrap64; omega

end Go.Proofs.Ytnoidcelinaenaa
