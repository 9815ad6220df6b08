/-
 Contents: blocks as lists, and how they lie in memory. No conditions.
-/
import Derived.Test.YtimmcmjipmkebaaGreatVRD
namespace Go.Proofs.YtimmcmjipmkebaaGreat
open Go.ChangeShapes Go.WideShapes Go.ChangeAt Go.RowKit
set_option maxRecDepth 100000
abbrev Bk := Int × ByteArray
abbrev bkC (x : Bk) : List Value := [.int .i64 x.1, .string x.2]
def bks (l : List Bk) : List Value := l.flatMap bkC
theorem bks_length (l : List Bk) : (bks l).length = 2 * l.length := by
 rw [bks, flat_len (n := 2) (fun _ => rfl)]; omega
theorem Rd.bk {w : World} {A : Option Addr} {l : List Bk} (h : Rd w A (bks l)) {k : Nat} {x : Bk} (hk : l[k]? = some x) :
 ∃ b off, A = some ⟨b, off, none⟩ ∧ b < w.heap.size ∧ w.cell? ⟨b, off + k * 2, none⟩ = some (.int .i64 x.1) ∧ w.cell? ⟨b, off + k * 2 + 1, none⟩ = some (.string x.2) := by
 have h1 : (bks l)[k * 2 + 0]? = _ := flat_at_of (cells := bkC) (n := 2) (fun _ => rfl) l k 0 x hk (by omega)
 have h2 : (bks l)[k * 2 + 1]? = _ := flat_at_of (cells := bkC) (n := 2) (fun _ => rfl) l k 1 x hk (by omega)
 obtain ⟨b, off, e, hb, hc⟩ := h (by intro h0; rw [h0] at h1; simp at h1)
 exact ⟨b, off, e, hb, hc _ _ h1, hc _ _ h2⟩
def okF : Int → List Bk → Bool
 | _, [] => true
 | n, x :: r => decide (n ≤ x.1) && (decide (x.1 < 1024) && (decide (x.2.size = 16) && okF (x.1 + 1) r))
def okK (l : List Bk) : Bool := okF 0 l
def chkK (l : List Bk) : Int := if okK l then 0 else 9
theorem okF_cons {n : Int} {x : Bk} {r : List Bk} : okF n (x :: r) = true ↔ n ≤ x.1 ∧ x.1 < 1024 ∧ x.2.size = 16 ∧ okF (x.1 + 1) r = true := by
 simp [okF]
theorem okF_len {n : Int} (hn : n ≤ 1024) : ∀ {l : List Bk}, okF n l = true → (l.length : Int) ≤ 1024 - n
 | [], _ => by simp; omega
 | y :: r, hl => by
  rw [okF_cons] at hl
  have := okF_len (n := y.1 + 1) (by omega) hl.2.2.2
  simp only [List.length_cons]
  omega
theorem okK_len {l : List Bk} (h : okK l = true) : l.length ≤ 1024 := by
 have := okF_len (n := 0) (by omega) h
 omega
end Go.Proofs.YtimmcmjipmkebaaGreat
