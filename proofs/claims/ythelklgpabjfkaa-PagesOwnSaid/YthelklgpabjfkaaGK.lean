/-
  bytes.Clone answers a copy in new memory. Conditions: the slice is not nil; at most 2^47 octets.
-/
import Derived.Test.YthelklgpabjfkaaGB
import Derived.WalkSpells
namespace Go.Proofs.Ythelklgpabjfkaa
open Go.ChangeShapes Go.WideShapes Go.ChangeAt Go.RowKit

theorem own_none (w : World) (base : Nat) (t : TypeId) : w.ownsRow base t 1 (.slice none 0 0) 0 [] := ⟨rfl, .inl ⟨rfl, rfl⟩⟩
theorem own_bare' {w : World} {base : Nat} {e : TypeId} {size : Nat} {v : Value} {n : Nat} {xs : List Value} (h : w.ownsRow base e size v (0 + n) ([] ++ xs)) : w.ownsRow base e size v n xs := by
  rw [Nat.zero_add, List.nil_append] at h
  exact h

set_option maxHeartbeats 400000 in
set_option maxRecDepth 100000 in
theorem clone_own (b off n c : Nat) (zs : List Int) (hn : zs.length = n) (hl : n ≤ 140737488351232) (w : World) (hr : RdB w (some ⟨b, off, none⟩) zs) :
    Calls Try.prog 25 #[.slice (some ⟨b, off, none⟩) n c] w fun e w' => ∃ v, e = .returned v ∧ w'.ownsRow w.heap.size 5 1 v n (octCells zs) ∧ Below w.heap.size w w' := by
  obtain ⟨i0, hi, hz0, hz1, hz2⟩ := info_parts info5
  have q22 : ∀ (w : World) (a : Option Addr) (n c n' c' : Nat), (binOp .eql 22 (.slice a n c) (.slice none n' c')).run Try.prog w = .ok (.bool a.isNone) w := fun w a n c n' c' => Lib.run_eql_slice_nil w _ _ a n c n' c' Try.underlying22
  have HR := Lib.hid hr
  have HN : Hid ((octCells zs).length = n) := by rw [octCells_length]; exact hn
  clear hr hn
  have hno : (w.alloc (.cells #[] 5)).ownsRow w.heap.size 5 1 (.slice (some ⟨w.heap.size, 0, none⟩) 0 0) 0 [] := ⟨rfl, .inr ⟨_, _, #[], rfl, Nat.le_refl _, heap_alloc_new w _, Nat.le_refl _, by simp, rfl, rfl⟩⟩
  have HNO := Lib.hid hno
  have hB0 : Below w.heap.size w (w.alloc (.cells #[] 5)) := (Below.refl _ w).alloc (Nat.le_refl _) _
  have H1 := Lib.hid (octCells_one zs)
  clear hno
  go_enter Try.func25, Try.ntmps25
  go_wp2_with (at_builtin; refine wpList_append_rd (o := ⟨some 7, _, _, _, _, _⟩) rfl _ _ 22 rfl w.heap.size 5 i0 (.int .u8 0) 1 Try.underlying22 hi hz0 hz1 hz2 rfl (.slice (some ⟨w.heap.size, 0, none⟩) 0 0) 0 [] rfl HNO.out (some ⟨b, off, none⟩) n c (octCells zs) rfl HN.out (Rd.below HR.out hB0) (fun e => by cases e) H1.out (by unfold maxLen; omega) (by omega) (by simp) ?_; intro v2 w2 hown2 hgrow2)
  obtain ⟨A2, c2, rfl, _, _⟩ := own_slice (own_bare' hown2)
  have HO := Lib.hid (own_bare' hown2)
  clear hown2
  go_wp2
  go_ret
  exact ⟨_, rfl, HO.out, hB0.grown hgrow2 hB0.size (fun j e => by simp [Value.ownBlock] at e; omega)⟩

end Go.Proofs.Ythelklgpabjfkaa
