/-
  A slice's beginning and its end, read as lists. No conditions.
-/
import Derived.Test.YtkokfmodoacflaaSL
namespace Go.Proofs.Ytkokfmodoacflaa
open Go.ChangeShapes Go.WideShapes Go.ChangeAt Go.RowKit
set_option maxRecDepth 100000

theorem Rd.takeE {α : Type} {cells : α → List Value} {w : World} {A : Option Addr} {l : List α} (h : Rd w A (l.flatMap cells)) (k : Nat) : Rd w A ((l.take k).flatMap cells) := fun hne => by
  have e : l.flatMap cells = (l.take k).flatMap cells ++ (l.drop k).flatMap cells := by rw [← List.flatMap_append, List.take_append_drop]
  rw [e] at h
  obtain ⟨b, off, e1, hb, hc⟩ := h (by intro h0; exact hne (List.append_eq_nil_iff.1 h0).1)
  refine ⟨b, off, e1, hb, fun j u hu => hc j u ?_⟩
  rw [List.getElem?_append_left (List.getElem?_eq_some_iff.1 hu).1]
  exact hu
theorem Rd.dropE {α : Type} {cells : α → List Value} {n : Nat} (hn : ∀ a, (cells a).length = n) {w : World} {A : Option Addr} {l : List α} (h : Rd w A (l.flatMap cells)) (k c : Nat) (hc : l.length ≤ c) :
    Rd w (if c = k then A else Option.map (fun x => x.add (k * n)) A) ((l.drop k).flatMap cells) := fun hne => by
  have hlt : k < l.length := by
    rcases Nat.lt_or_ge k l.length with h | h
    · exact h
    · rw [List.drop_eq_nil_of_le h] at hne; simp at hne
  have e : l.flatMap cells = (l.take k).flatMap cells ++ (l.drop k).flatMap cells := by rw [← List.flatMap_append, List.take_append_drop]
  have hl : ((l.take k).flatMap cells).length = k * n := by rw [flat_len hn, List.length_take, Nat.min_eq_left (by omega)]
  rw [e] at h
  obtain ⟨b, off, rfl, hb, hcl⟩ := h (by intro h0; exact hne (List.append_eq_nil_iff.1 h0).2)
  rw [if_neg (by omega)]
  refine ⟨b, off + k * n, by simp [add_plain], hb, fun j u hu => ?_⟩
  rw [Nat.add_assoc]
  refine hcl (k * n + j) u ?_
  rw [List.getElem?_append_right (by rw [hl]; omega), hl, Nat.add_sub_cancel_left]
  exact hu
theorem drop_none {A : Option Addr} {c k n : Nat} (hA : A = none → c = 0) : (if c = k then A else Option.map (fun x => x.add n) A) = none → c - k = 0 := fun e => by
  split at e
  · rw [hA e]; omega
  · rw [Option.map_eq_none_iff] at e
    rw [hA e]; omega

end Go.Proofs.Ytkokfmodoacflaa
