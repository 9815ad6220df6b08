/-
  Contents: blocks as lists, and how they lie in memory. No conditions.
-/
import Derived.Test.YtoabkbnhdekbdaaGreatRRD
namespace Go.Proofs.YtoabkbnhdekbdaaGreat
open Go.ChangeShapes Go.WideShapes Go.ChangeAt Go.RowKit
set_option maxRecDepth 100000
abbrev Bk := Int × ByteArray
abbrev bkC (x : Bk) : List Value := [.int .i64 x.1, .string x.2]
def bks (l : List Bk) : List Value := l.flatMap bkC
theorem bks_length (l : List Bk) : (bks l).length = 2 * l.length := by
  rw [bks, flat_len (n := 2) (fun _ => rfl)]; omega
theorem bks_append (l m : List Bk) : bks (l ++ m) = bks l ++ bks m := by simp [bks]
theorem bks_snoc (l : List Bk) (x : Bk) : bks (l ++ [x]) = bks l ++ [.int .i64 x.1, .string x.2] := by simp [bks]
theorem bks_one (l : List Bk) : ∀ u ∈ bks l, u.oneCell' = true := fun u hu => by
  obtain ⟨x, _, hx⟩ := List.mem_flatMap.1 hu
  simp only [bkC, List.mem_cons, List.not_mem_nil, or_false] at hx
  rcases hx with rfl | rfl <;> rfl
theorem bks_ne {l : List Bk} (h : l ≠ []) : bks l ≠ [] := by
  rcases l with _ | ⟨x, l⟩
  · exact absurd rfl h
  · simp [bks]
theorem Rd.bk {w : World} {A : Option Addr} {l : List Bk} (h : Rd w A (bks l)) {k : Nat} {x : Bk} (hk : l[k]? = some x) :
    ∃ b off, A = some ⟨b, off, none⟩ ∧ b < w.heap.size ∧ w.cell? ⟨b, off + k * 2, none⟩ = some (.int .i64 x.1) ∧ w.cell? ⟨b, off + k * 2 + 1, none⟩ = some (.string x.2) := by
  have h1 : (bks l)[k * 2 + 0]? = _ := flat_at_of (cells := bkC) (n := 2) (fun _ => rfl) l k 0 x hk (by omega)
  have h2 : (bks l)[k * 2 + 1]? = _ := flat_at_of (cells := bkC) (n := 2) (fun _ => rfl) l k 1 x hk (by omega)
  obtain ⟨b, off, e, hb, hc⟩ := h (by intro h0; rw [h0] at h1; simp at h1)
  exact ⟨b, off, e, hb, hc _ _ h1, hc _ _ h2⟩
def okF : Int → List Bk → Bool
  | _, [] => true
  | n, x :: r => decide (n ≤ x.1) && (decide (x.1 < 1024) && (decide (x.2.size = 16) && okF (x.1 + 1) r))
def okK (l : List Bk) : Bool := okF 0 l
def chkK (l : List Bk) : Int := if okK l then 0 else 9
theorem okF_cons {n : Int} {x : Bk} {r : List Bk} : okF n (x :: r) = true ↔ n ≤ x.1 ∧ x.1 < 1024 ∧ x.2.size = 16 ∧ okF (x.1 + 1) r = true := by
  simp [okF]
theorem okF_mono {n m : Int} (h : m ≤ n) : ∀ {l : List Bk}, okF n l = true → okF m l = true
  | [], _ => rfl
  | x :: r, hl => by
    rw [okF_cons] at hl ⊢
    exact ⟨by omega, hl.2⟩
theorem okF_le {n : Int} : ∀ {l : List Bk}, okF n l = true → ∀ x ∈ l, n ≤ x.1 ∧ x.1 < 1024 ∧ x.2.size = 16
  | [], _, x, hx => by simp at hx
  | y :: r, hl, x, hx => by
    rw [okF_cons] at hl
    rcases List.mem_cons.1 hx with rfl | hx
    · exact ⟨hl.1, hl.2.1, hl.2.2.1⟩
    · have := okF_le hl.2.2.2 x hx
      exact ⟨by omega, this.2⟩
theorem okF_len {n : Int} (hn : n ≤ 1024) : ∀ {l : List Bk}, okF n l = true → (l.length : Int) ≤ 1024 - n
  | [], _ => by simp; omega
  | y :: r, hl => by
    rw [okF_cons] at hl
    have := okF_len (n := y.1 + 1) (by omega) hl.2.2.2
    simp only [List.length_cons]
    omega
theorem okK_len {l : List Bk} (h : okK l = true) : l.length ≤ 1024 := by
  have := okF_len (n := 0) (by omega) h
  omega
theorem okK_mem {l : List Bk} (h : okK l = true) : ∀ x ∈ l, 0 ≤ x.1 ∧ x.1 < 1024 ∧ x.2.size = 16 := okF_le h
theorem okF_filter (p : Bk → Bool) : ∀ {n : Int} {l : List Bk}, okF n l = true → okF n (l.filter p) = true
  | _, [], _ => rfl
  | n, x :: r, h => by
    rw [okF_cons] at h
    rw [List.filter_cons]
    split
    · rw [okF_cons]
      exact ⟨h.1, h.2.1, h.2.2.1, okF_filter p h.2.2.2⟩
    · exact okF_mono (by omega) (okF_filter p h.2.2.2)
theorem okF_append {l m : List Bk} {n k : Int} (hl : okF n l = true) (hm : okF k m = true) (hn : n ≤ k) (h : ∀ x ∈ l, x.1 < k) : okF n (l ++ m) = true := by
  induction l generalizing n with
  | nil => exact okF_mono hn hm
  | cons x r ih =>
    rw [okF_cons] at hl
    rw [List.cons_append, okF_cons]
    exact ⟨hl.1, hl.2.1, hl.2.2.1, ih hl.2.2.2 (by have := h x (by simp); omega) (fun y hy => h y (by simp [hy]))⟩
def putK (l : List Bk) (i : Int) (d : ByteArray) : List Bk := l.filter (fun x => decide (x.1 < i)) ++ [(i, d)] ++ l.filter (fun x => decide (i < x.1))
def putE (l : List Bk) (i : Int) (n : Nat) : Int := if okK l = false then 9 else if i < 0 ∨ 1024 ≤ i then 4 else if n ≠ 16 then 5 else 0
theorem okF_filter_from {n : Int} {l : List Bk} (p : Bk → Bool) (k : Int) (hl : okF n l = true) (h : ∀ x ∈ l, p x = true → k ≤ x.1) : okF k (l.filter p) = true := by
  induction l generalizing n k with
  | nil => rfl
  | cons x r ih =>
    rw [okF_cons] at hl
    rw [List.filter_cons]
    split
    · rename_i hp
      rw [okF_cons]
      exact ⟨h x (by simp) hp, hl.2.1, hl.2.2.1, okF_filter p hl.2.2.2⟩
    · exact ih k hl.2.2.2 (fun y hy => h y (by simp [hy]))
theorem putK_ok {l : List Bk} {i : Int} {d : ByteArray} (h : putE l i d.size = 0) : okK (putK l i d) = true := by
  unfold putE at h
  split at h
  · omega
  · rename_i h0
    split at h
    · omega
    · rename_i h1
      split at h
      · omega
      · rename_i h2
        have hl : okF 0 l = true := (Bool.not_eq_false _).mp h0
        unfold putK okK
        rw [List.append_assoc]
        refine okF_append (k := i) (okF_filter _ hl) ?_ (by omega) (fun x hx => by have := (List.mem_filter.1 hx).2; simpa using this)
        rw [List.singleton_append, okF_cons]
        refine ⟨Int.le_refl _, by show i < 1024; omega, by show d.size = 16; omega, ?_⟩
        exact okF_filter_from _ _ hl (fun x _ hx => by have : i < x.1 := by simpa using hx
                                                       show i + 1 ≤ x.1; omega)
end Go.Proofs.YtoabkbnhdekbdaaGreat
