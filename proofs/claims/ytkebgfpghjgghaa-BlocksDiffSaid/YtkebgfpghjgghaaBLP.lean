/-
  What the calls of the laws answer, as slices that read. Conditions: as the calls'.
-/
import Derived.Test.YtkebgfpghjgghaaBLL
import Derived.Test.YtkebgfpghjgghaaBLO
namespace Go.Proofs.Ytkebgfpghjgghaa
open Go.ChangeShapes Go.WideShapes Go.ChangeAt Go.RowKit
set_option maxRecDepth 100000

/-- Blocks, and an error: as slices that read. -/
def Tell (W : World) (P : List Bk) (E : Int) (e : Ending) (W' : World) : Prop := ∃ A c, e = .returned (ansK (.slice A P.length c) E) ∧ P.length ≤ c ∧ (A = none → c = 0) ∧ Rd W' A (bks P) ∧ Below W.heap.size W W'
theorem tell_of {W : World} {P : List Bk} {E : Int} {e : Ending} {W' : World} (h : ∃ v, e = .returned (ansK v E) ∧ ownK W' W.heap.size v P ∧ Below W.heap.size W W') : Tell W P E e W' := by
  obtain ⟨v, rfl, ho, hB⟩ := h
  obtain ⟨A, c, rfl, h1, h2, h3, _⟩ := ownAny ho
  exact ⟨A, c, rfl, h1, h2, h3.1, hB⟩
theorem putR_ok (l : List Bk) (i : Int) (d : ByteArray) : okK (putR l i d) = true := by
  unfold putR
  split
  · rename_i h; exact putK_ok h
  · rfl
theorem freeR_ok (l : List Bk) (i c : Int) : okK (freeR l i c) = true := by
  unfold freeR
  split
  · rename_i h
    refine freeK_ok i c ?_
    unfold freeE at h
    split at h
    · omega
    · rename_i h0; exact (Bool.not_eq_false _).mp h0
  · rfl
theorem readR_ok (zs : List Int) : okK (readR zs) = true := by
  unfold readR
  split
  · rename_i h
    unfold readE at h
    split at h
    · unfold chkK at h
      split at h
      · rename_i h0; exact h0
      · omega
    · omega
  · rfl

section
variable {w : World} {A : Option Addr} {c : Nat} {l : List Bk}
/-- A list came in. -/
structure Came (w : World) (A : Option Addr) (c : Nat) (l : List Bk) : Prop where
  cap : l.length ≤ c
  nil : A = none → c = 0
  rd : Rd w A (bks l)
  sz : ∀ x ∈ l, x.2.size ≤ 140737488351232
  len : l.length ≤ 5864062014805
  by24 : l.length * 24 ≤ 140737488355328
theorem Came.below (h : Came w A c l) {W : World} (hB : Below w.heap.size w W) : Came W A c l := ⟨h.cap, h.nil, h.rd.below hB, h.sz, h.len, h.by24⟩
theorem Came.of_ok {W : World} {P : List Bk} (hok : okK P = true) (h1 : P.length ≤ c) (h2 : A = none → c = 0) (h3 : Rd W A (bks P)) : Came W A c P :=
  ⟨h1, h2, h3, fun x hx => by have := (okK_mem hok x hx).2.2; omega, by have := okK_len hok; omega, by have := okK_len hok; omega⟩
theorem Came.put (h : Came w A c l) (i : Int) (d : ByteArray) (hd : d.size ≤ 140737488351232) : Calls Try.prog 8 #[.slice A l.length c, .int .i64 i, .string d] w (Tell w (putR l i d) (putE l i d.size)) :=
  (blkPut_any A c l.length l rfl h.len h.sz i d hd w h.rd).mono fun _ _ => tell_of
theorem Came.refPut (h : Came w A c l) (i : Int) (d : ByteArray) (hd : d.size ≤ 140737488351232) : Calls Try.prog 9 #[.slice A l.length c, .int .i64 i, .string d] w (Tell w (putR l i d) (putE l i d.size)) :=
  (refPut_blk A c l.length l rfl h.len h.cap h.nil h.sz i d hd w h.rd).mono fun _ _ => tell_of
theorem Came.free (h : Came w A c l) (i m : Int) : Calls Try.prog 10 #[.slice A l.length c, .int .i64 i, .int .i64 m] w (Tell w (freeR l i m) (freeE l i m)) :=
  (blkFree_any A c l.length l rfl h.len h.sz i m w h.rd).mono fun _ _ => tell_of
theorem Came.refFree (h : Came w A c l) (i m : Int) (hm : -9223372036854775808 ≤ m ∧ m ≤ 9223372036854775807) : Calls Try.prog 11 #[.slice A l.length c, .int .i64 i, .int .i64 m] w (Tell w (freeR l i m) (freeE l i m)) :=
  (refFree_any A c l.length l rfl h.len h.sz i m hm w h.rd).mono fun _ _ => tell_of
theorem Came.get (h : Came w A c l) (i : Int) : Calls Try.prog 12 #[.slice A l.length c, .int .i64 i] w fun e w' => e = .returned (ansG (getK l i)) ∧ Below w.heap.size w w' :=
  blkGet_any A c l.length l rfl (by have := h.len; omega) h.sz i w h.rd
theorem Came.refGet (h : Came w A c l) (i : Int) : Calls Try.prog 13 #[.slice A l.length c, .int .i64 i] w fun e w' => e = .returned (ansG (getK l i)) ∧ w' = w :=
  refGet_any A c l.length l rfl (by have := h.len; omega) i w h.rd
theorem Came.check (h : Came w A c l) : Calls Try.prog 21 #[.slice A l.length c] w fun e w' => e = .returned (.int .i64 (chkK l)) ∧ Below w.heap.size w w' :=
  blkCheck_any A c l.length l rfl (by have := h.len; omega) h.sz w h.rd
theorem Came.refCheck (h : Came w A c l) : Calls Try.prog 19 #[.slice A l.length c] w fun e w' => e = .returned (.int .i64 (chkK l)) ∧ Below w.heap.size w w' :=
  refCheck_any A c l.length l rfl (by have := h.len; omega) h.sz w h.rd
theorem Came.same (h : Came w A c l) {B : Option Addr} {d : Nat} {m : List Bk} (h2 : Came w B d m) : Calls Try.prog 22 #[.slice A l.length c, .slice B m.length d] w fun e w' => e = .returned (.bool (decide (l = m))) ∧ Below w.heap.size w w' :=
  blkSame_any A B c d _ _ l m rfl rfl (by have := h.len; omega) (by have := h2.len; omega) w h.rd h2.rd
theorem Came.refSame (h : Came w A c l) {B : Option Addr} {d : Nat} {m : List Bk} (h2 : Came w B d m) : Calls Try.prog 17 #[.slice A l.length c, .slice B m.length d] w fun e w' => e = .returned (.bool (decide (l = m))) ∧ Below w.heap.size w w' :=
  refSame_any A B c d _ _ l m rfl rfl (by have := h.len; omega) (by have := h2.len; omega) w h.rd h2.rd
/-- Octets, and an error. -/
def TellB (W : World) (zs : List Int) (E : Int) (e : Ending) (W' : World) : Prop := ∃ A c, e = .returned (ansK (.slice A zs.length c) E) ∧ zs.length ≤ c ∧ RdB W' A zs ∧ Below W.heap.size W W'
theorem Came.octets (h : Came w A c l) : Calls Try.prog 14 #[.slice A l.length c] w (TellB w (octR l) (chkK l)) :=
  (blkOctets_any A c l.length l rfl h.len h.sz w h.rd).mono fun _ _ ⟨v, he, ho, hB⟩ => by
    obtain ⟨B, d, rfl, h1, h2⟩ := own_slice ho
    exact ⟨B, d, he, h1, h2, hB⟩
/-- Octets came in. -/
structure CameB (w : World) (A : Option Addr) (c : Nat) (zs : List Int) : Prop where
  cap : zs.length ≤ c
  rd : RdB w A zs
  octs : Octs zs
  len : zs.length ≤ 140737488351232
theorem CameB.below {zs : List Int} (h : CameB w A c zs) {W : World} (hB : Below w.heap.size w W) : CameB W A c zs := ⟨h.cap, h.rd.below hB, h.octs, h.len⟩
theorem CameB.read {zs : List Int} (h : CameB w A c zs) : Calls Try.prog 15 #[.slice A zs.length c] w (Tell w (readR zs) (readE zs)) :=
  (blkRead_any A c zs.length zs rfl h.len h.cap h.octs w h.rd).mono fun _ _ => tell_of
theorem CameB.refRead {zs : List Int} (h : CameB w A c zs) : Calls Try.prog 16 #[.slice A zs.length c] w (Tell w (readR zs) (readE zs)) :=
  (refRead_blk A c zs.length zs rfl h.len h.cap h.octs w h.rd).mono fun _ _ => tell_of
end

end Go.Proofs.Ytkebgfpghjgghaa
