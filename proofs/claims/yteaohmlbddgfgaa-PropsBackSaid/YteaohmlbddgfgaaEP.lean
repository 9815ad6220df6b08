/-
  What the calls on properties answer, as slices that read. Conditions: as the calls'.
-/
import Derived.Test.YteaohmlbddgfgaaEL
namespace Go.Proofs.Yteaohmlbddgfgaa
open Go.ChangeShapes Go.WideShapes Go.ChangeAt Go.RowKit
set_option maxRecDepth 100000

/-- Properties, and an error: as slices that read. -/
def TellP (W : World) (P : List Pr) (E : Int) (e : Ending) (W' : World) : Prop := ∃ A c, e = .returned (ansP (.slice A P.length c) E) ∧ P.length ≤ c ∧ (A = none → c = 0) ∧ Rd W' A (prs P) ∧ Below W.heap.size W W'
theorem tellP_of {W : World} {P : List Pr} {E : Int} {e : Ending} {W' : World} (h : ∃ v, e = .returned (ansP v E) ∧ ownP W' W.heap.size v P ∧ Below W.heap.size W W') : TellP W P E e W' := by
  obtain ⟨v, rfl, ho, hB⟩ := h
  obtain ⟨A, c, rfl, h1, h2, h3, _⟩ := ownAny ho
  exact ⟨A, c, rfl, h1, h2, h3.1, hB⟩
/-- Texts: as a slice that reads. -/
def TellT (W : World) (l : List ByteArray) (e : Ending) (W' : World) : Prop := ∃ A c, e = .returned (.slice A l.length c) ∧ l.length ≤ c ∧ (A = none → c = 0) ∧ RdS W' A l ∧ Below W.heap.size W W'
theorem tellT_of {W : World} {P : List ByteArray} {e : Ending} {W' : World} (h : ∃ v, e = .returned v ∧ ownT W' W.heap.size v P ∧ Below W.heap.size W W') : TellT W P e W' := by
  obtain ⟨v, rfl, ho, hB⟩ := h
  obtain ⟨A, c, rfl, h1, h2, h3, _⟩ := ownAny ho
  exact ⟨A, c, rfl, h1, h2, h3.1, hB⟩
/-- A list that reads, none of whose texts is too long. -/
structure HasP (W : World) (A : Option Addr) (l : List Pr) : Prop where
  rd : Rd W A (prs l)
  len : l.length ≤ 4398046510976
  sz : ∀ x ∈ l, x.1.size ≤ 140737488351232 ∧ x.2.size ≤ 140737488351232
theorem CameP.has {W : World} {s : Sl Pr} (h : CameP W s) : HasP W s.A s.l := ⟨h.rdp, h.len, h.sz⟩
theorem HasP.below {W W' : World} {A : Option Addr} {l : List Pr} (h : HasP W A l) (hB : Below W.heap.size W W') : HasP W' A l := ⟨h.rd.below hB, h.len, h.sz⟩
theorem HasP.of_ok {W : World} {A : Option Addr} {l : List Pr} (h : Rd W A (prs l)) (hok : okP l = true) : HasP W A l := ⟨h, by have := okP_len hok; omega, fun x hx => by have := okP_mem hok x hx; omega⟩

section
variable {W : World} {A : Option Addr} {l : List Pr} (h : HasP W A l) (c : Nat)
include h
theorem HasP.check : Calls Try.prog 15 #[.slice A l.length c] W fun e w' => e = .returned (.int .i64 (chkP l)) ∧ Below W.heap.size W w' :=
  check_any A c l.length l rfl (by have := h.len; omega) (fun x hx => (h.sz x hx).2) W h.rd
theorem HasP.refCheck : Calls Try.prog 16 #[.slice A l.length c] W fun e w' => e = .returned (.int .i64 (chkP l)) ∧ Below W.heap.size W w' :=
  refProps_any A c l.length l rfl (by have := h.len; omega) (fun x hx => by have := h.sz x hx; omega) W h.rd
theorem HasP.get (n : ByteArray) : Calls Try.prog 11 #[.slice A l.length c, .string n] W fun e w' => e = .returned (ansO (getP l n)) ∧ Below W.heap.size W w' :=
  propGet_any A c l.length l rfl (by have := h.len; omega) (fun x hx => (h.sz x hx).2) n W h.rd
theorem HasP.refGet (n : ByteArray) : Calls Try.prog 12 #[.slice A l.length c, .string n] W fun e w' => e = .returned (ansO (getP l n)) ∧ Below W.heap.size W w' :=
  refProp_any A c l.length l rfl (by have := h.len; omega) n W h.rd
theorem HasP.set (n v : ByteArray) (hn : n.size ≤ 140737488351232) (hv : v.size ≤ 140737488351232) : Calls Try.prog 7 #[.slice A l.length c, .string n, .string v] W (TellP W (setR l n v) (setE l n v)) :=
  (set_any A c l.length l rfl (by have := h.len; omega) h.sz n v hn hv W h.rd).mono fun _ _ => tellP_of
theorem HasP.refSet (n v : ByteArray) (hn : n.size ≤ 140737488351232) (hv : v.size ≤ 140737488351232) : Calls Try.prog 8 #[.slice A l.length c, .string n, .string v] W (TellP W (setR l n v) (setE l n v)) :=
  (refSet_any A c l.length l rfl (by have := h.len; omega) h.sz n v hn hv W h.rd).mono fun _ _ => tellP_of
theorem HasP.unset (n : ByteArray) : Calls Try.prog 9 #[.slice A l.length c, .string n] W (TellP W (unsetR l n) (unsetE l n)) :=
  (unset_any A c l.length l rfl (by have := h.len; omega) h.sz n W h.rd).mono fun _ _ => tellP_of
theorem HasP.refUnset (n : ByteArray) : Calls Try.prog 10 #[.slice A l.length c, .string n] W (TellP W (unsetR l n) (unsetE l n)) :=
  (refUnset_any A c l.length l rfl (by have := h.len; omega) h.sz n W h.rd).mono fun _ _ => tellP_of
theorem HasP.text : Calls Try.prog 18 #[.slice A l.length c] W (TellT W (textP l)) :=
  (text_any A c l.length l rfl (by have := h.len; omega) h.sz W h.rd).mono fun _ _ => tellT_of
theorem HasP.refText : Calls Try.prog 19 #[.slice A l.length c] W (TellT W (textP l)) :=
  (refText_any A c l.length l rfl (by have := h.len; omega) W h.rd).mono fun _ _ => tellT_of
theorem HasP.same {B : Option Addr} {m : List Pr} (h2 : HasP W B m) (d : Nat) : Calls Try.prog 20 #[.slice A l.length c, .slice B m.length d] W fun e w' => e = .returned (.bool (decide (l = m))) ∧ Below W.heap.size W w' :=
  same_any A B c d l.length m.length l m rfl rfl (by have := h.len; omega) (by have := h2.len; omega) W h.rd h2.rd
theorem HasP.refSame {B : Option Addr} {m : List Pr} (h2 : HasP W B m) (d : Nat) : Calls Try.prog 13 #[.slice A l.length c, .slice B m.length d] W fun e w' => e = .returned (.bool (decide (l = m))) ∧ Below W.heap.size W w' :=
  refSameP_any A B c d l.length m.length l m rfl rfl (by have := h.len; omega) (by have := h2.len; omega) W h.rd h2.rd
end
theorem HasP.one {W : World} {A B : Option Addr} {l : List Pr} (h : HasP W A l) (h2 : HasP W B l) (c d : Nat) : Calls Try.prog 13 #[.slice A l.length c, .slice B l.length d] W fun e w' => e = .returned (.bool true) ∧ Below W.heap.size W w' := by
  have := h.refSame c h2 d
  rwa [decide_eq_true rfl] at this

theorem putP_ok {l : List Pr} {n v : ByteArray} (h : setE l n v = 0) : okP (putP l (n, v)) = true := by
  unfold setE at h
  split at h
  · omega
  · rename_i h0
    have hok : okP l = true := (Bool.not_eq_false _).mp h0
    split at h
    · omega
    · rename_i h1
      split at h
      · omega
      · rename_i h2
        split at h
        · omega
        · rename_i h3
          have hr := okP_rise hok
          refine okP_iff.2 ⟨?_, fun p hp => ?_, putP_rise hr _⟩
          · rw [putP_length hr]
            have := okP_len hok
            split
            · rename_i hg
              have : ¬ l.length = 8 := fun e => h3 ⟨hg, e⟩
              omega
            · exact this
          · rcases putP_mem hp with rfl | hp
            · exact ⟨(Bool.not_eq_false _).mp h1, (Bool.not_eq_false _).mp h2⟩
            · exact (okP_iff.1 hok).2.1 p hp
theorem setR_ok (l : List Pr) (n v : ByteArray) : okP (setR l n v) = true := by
  unfold setR
  split
  · rename_i h; exact putP_ok h
  · rfl
theorem dropP_ok {l : List Pr} (n : ByteArray) (h : okP l = true) : okP (dropP l n) = true := by
  obtain ⟨h1, h2, h3⟩ := okP_iff.1 h
  refine okP_iff.2 ⟨Nat.le_trans (List.length_filter_le _ _) h1, fun p hp => h2 p (List.mem_filter.1 hp).1, dropP_rise h3 n⟩
theorem unsetR_ok (l : List Pr) (n : ByteArray) : okP (unsetR l n) = true := by
  unfold unsetR
  split
  · rename_i h
    refine dropP_ok n ?_
    unfold unsetE at h
    split at h
    · omega
    · rename_i h0; exact (Bool.not_eq_false _).mp h0
  · rfl
theorem overR_ok (ls : List (List Pr)) : okP (overR ls) = true := by
  unfold overR
  split
  · rename_i h
    unfold overE at h
    split at h
    · omega
    · rename_i h0
      have hall : ls.all okP = true := (Bool.not_eq_false _).mp h0
      split at h
      · omega
      · refine okP_iff.2 ⟨by omega, fun p hp => ?_, overL_rise ls⟩
        obtain ⟨l, hl, hp⟩ := overL_mem hp
        exact (okP_iff.1 (List.all_eq_true.1 hall l hl)).2.1 p hp
  · rfl
theorem readR_okP (s : List ByteArray) : okP (readR s) = true := by
  unfold readR
  split
  · rename_i h
    unfold readE at h
    split at h
    · omega
    · split at h
      · omega
      · rename_i h0; exact (Bool.not_eq_false _).mp h0
  · rfl

end Go.Proofs.Yteaohmlbddgfgaa
