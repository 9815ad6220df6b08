/-
  The reference's eight writes a number in eight octets. No conditions.
-/
import Derived.Test.YthelklgpabjfkaaFW
namespace Go.Proofs.Ythelklgpabjfkaa
open Go.ChangeShapes Go.WideShapes Go.ChangeAt Go.RowKit

theorem put_take (n : Int) (k : Nat) (hk : k < 8) : octCells ((put n 8).take k) ++ [.int .u8 (n / 2 ^ (8 * (7 - k)) % 256)] = octCells ((put n 8).take (k + 1)) := by
  have hl : k < (put n 8).length := by rw [put_length]; exact hk
  rw [List.take_succ_eq_append_getElem hl]
  have e : (put n 8)[k] = n / 2 ^ (8 * (7 - k)) % 256 := by
    simp only [put, List.getElem_map, List.getElem_range]
    have h : k = 0 ∨ k = 1 ∨ k = 2 ∨ k = 3 ∨ k = 4 ∨ k = 5 ∨ k = 6 ∨ k = 7 := by omega
    rcases h with rfl | rfl | rfl | rfl | rfl | rfl | rfl | rfl <;> rfl
  rw [e]
  simp [octCells]

set_option maxHeartbeats 1000000 in
theorem eight_any (n : Int) (w : World) :
    Calls Try.prog 31 #[.int .u64 n] w fun e w' => ∃ v, e = .returned v ∧ w'.ownsRow w.heap.size 5 1 v 8 (octCells (put n 8)) ∧ Below w.heap.size w w' := by
  obtain ⟨i0, hi, hz0, hz1, hz2⟩ := info_parts info5
  go_enter Try.func31, Try.ntmps31
  go_wp2
  go_loopw [3, 4] (fun v i wr => ∃ k : Nat, k ≤ 8 ∧ i = .int .i64 (7 - k) ∧ wr.ownsRow w.heap.size 5 1 v k (octCells ((put n 8).take k)) ∧ Below w.heap.size w wr) (fun _ i _ => (intOf i + 1).toNat)
  case atStart => exact ⟨0, by omega, congrArg (Value.int .i64) (by omega), ⟨rfl, .inl ⟨rfl, rfl⟩⟩, Below.refl _ w⟩
  case round =>
    obtain ⟨k, hk, rfl, hown, hB⟩ := hrel
    by_cases hlt : k < 8
    · have hp := put_take n k hlt
      have HP := Lib.hid hp
      have HO := Lib.hid hown
      clear hp hown
      generalize octCells ((put n 8).take k) = cs at *
      go_wp2_with (at_builtin; refine wpList_append_own _ rfl _ _ 22 rfl w.heap.size 5 i0 (.int .u8 0) 1 1 Try.underlying22 hi hz0 hz1 hz2 rfl (by decide) _ k cs rfl (by exact HO.out.alloc _) ⟨wr.heap.size, 0, none⟩ 1 1 [.int .u8 (n / 2 ^ (8 * (7 - k)) % 256)] rfl rfl (by exact cell_one_new _ _ _) (by simp [Value.oneCell']) (by unfold maxLen; omega) (by omega) (by have := hB.size; simp; omega) ?_; intro v2 w2 hown2 hgrow2 _)
      have hB2 : Below w.heap.size w w2 := (hB.alloc hB.size _).grown hgrow2 (by have := hB.size; simp; omega) (fun j e => (HO.out.lt j e).1)
      clear hgrow2
      rw [HP.out] at hown2
      go_roundw
      case rel => exact ⟨k + 1, by omega, congrArg (Value.int .i64) (by omega), hown2, hB2⟩
      case measure => simp [intOf]; omega
    · obtain rfl : k = 8 := by omega
      have HO := Lib.hid hown
      clear hown
      go_wp2
      go_ret
      refine ⟨_, rfl, ?_, hB⟩
      have := HO.out
      rw [List.take_of_length_le (by rw [put_length]; omega)] at this
      exact this

theorem eight_at (n : Int) (w0 W : World) (hW : Below w0.heap.size w0 W) :
    Calls Try.prog 31 #[.int .u64 n] W fun e w' => ∃ g c, e = .returned (.slice (some ⟨g, 0, none⟩) 8 c) ∧ w'.ownsRow w0.heap.size 5 1 (.slice (some ⟨g, 0, none⟩) 8 c) 8 (octCells (put n 8)) ∧ w0.heap.size ≤ g ∧ W.heap.size ≤ g ∧ g < w'.heap.size ∧ Below W.heap.size W w' := by
  refine (eight_any n W).mono ?_
  rintro e w' ⟨v, rfl, hown, hB⟩
  obtain ⟨g, c, rfl, hg, hlt⟩ := hown.form (by omega)
  exact ⟨g, c, rfl, own_below hown (Below.refl _ _) hW.size, Nat.le_trans hW.size hg, hg, hlt, hB⟩

theorem own_kept {W W' : World} {base g g' n c : Nat} {e : TypeId} {xs : List Value} (h : W.ownsRow base e 1 (.slice (some ⟨g, 0, none⟩) n c) n xs) (hg : W.grownBy W' (some g')) (hne : g ≠ g') : W'.ownsRow base e 1 (.slice (some ⟨g, 0, none⟩) n c) n xs :=
  h.kept hg (.inr (by simp [Value.ownBlock]; omega))
theorem own_news {W : World} {base g n c : Nat} {e : TypeId} {xs : List Value} (h : W.ownsRow base e 1 (.slice (some ⟨g, 0, none⟩) n c) n xs) : ∀ j u, xs[j]? = some u → W.cell? ((⟨g, 0, none⟩ : Addr).add j) = some u :=
  fun j u hu => h.cells (g := g) rfl j u hu
theorem grown_of {W W' : World} {g n c : Nat} (h : W.grownBy W' (Value.slice (some ⟨g, 0, none⟩) n c).ownBlock) : W.grownBy W' (some g) := h
theorem own_ge {W : World} {base g n c : Nat} {e : TypeId} {xs : List Value} (h : W.ownsRow base e 1 (.slice (some ⟨g, 0, none⟩) n c) n xs) : base ≤ g := (h.lt g rfl).1

set_option maxHeartbeats 4000000 in
theorem sumOctets_cap (s : S4) (w : World) :
    Calls Try.prog 22 #[s.val] w fun e w' => ∃ A c, e = .returned (.slice A 32 c) ∧ 32 ≤ c ∧ RdB w' A (sumOcts s) ∧ Below w.heap.size w w' := by
  obtain ⟨i0, hi, hz0, hz1, hz2⟩ := info_parts info5
  go_enter Try.func22, Try.ntmps22
  go_wp2_with fail
  obtain ⟨w0, hw0⟩ : ∃ w0, w.alloc (.cells #[.int .u64 s.A, .int .u64 s.B, .int .u64 s.C, .int .u64 s.D] 47) = w0 := ⟨_, rfl⟩
  have hB0 : Below w.heap.size w w0 := hw0 ▸ (Below.refl _ w).alloc (Nat.le_refl _) _
  have kb : Blk w0 w.heap.size 47 (scells s) := hw0 ▸ Blk.new w (scells s) 47
  rw [hw0]
  have hc0 := kb.cell 0
  have hc1 := kb.cell 1
  have hc2 := kb.cell 2
  have hc3 := kb.cell 3
  have hbl := kb.lt
  simp only [scells, List.getElem?_cons_zero, List.getElem?_cons_succ] at hc0 hc1 hc2 hc3
  have EA := Lib.hid (eight_at s.A w0)
  have EB := Lib.hid (eight_at s.B w0)
  have EC := Lib.hid (eight_at s.C w0)
  have ED := Lib.hid (eight_at s.D w0)
  clear hw0 kb
  go_region_held3 (fun w' => w'.cell? ⟨w.heap.size, 0, none⟩ = some (.int .u64 s.A) ∧ w'.cell? ⟨w.heap.size, 1, none⟩ = some (.int .u64 s.B) ∧ w'.cell? ⟨w.heap.size, 2, none⟩ = some (.int .u64 s.C) ∧ w'.cell? ⟨w.heap.size, 3, none⟩ = some (.int .u64 s.D) ∧ Below w0.heap.size w0 w')
    (first | exact held4 hbl hc0 hc1 hc2 hc3 (by (repeat (first | with_reducible exact Below.refl _ _ | with_reducible assumption | with_reducible refine Below.drew ?_ | with_reducible refine Below.alloc ?_ ?_ _ | with_reducible refine Below.setCell ?_ ?_ _ | (focus omega) | (focus (simp; done)) | (focus (simp; omega))))))
    (first
      | (go_at_call_of 31 (Value.int .u64 s.A); ((with_reducible refine (EA.out _ ?_).mono ?_); (focus ((repeat (first | with_reducible exact Below.refl _ _ | with_reducible assumption | with_reducible refine Below.drew ?_ | with_reducible refine Below.alloc ?_ ?_ _ | with_reducible refine Below.setCell ?_ ?_ _ | (focus omega) | (focus (simp; done)) | (focus (simp; omega)))); done)); rintro e wA ⟨gA, cA, rfl, hoA, qA, lA, uA, hBA⟩; have hBwA : Below w0.heap.size w0 wA := (by refine Below.trans ?_ (hBA.mono ?_); (focus ((repeat (first | with_reducible exact Below.refl _ _ | with_reducible assumption | with_reducible refine Below.drew ?_ | with_reducible refine Below.alloc ?_ ?_ _ | with_reducible refine Below.setCell ?_ ?_ _ | (focus omega) | (focus (simp; done)) | (focus (simp; omega)))); done)); (focus (first | omega | (simp; done) | (simp; omega)))); have hsA := hBwA.size; have HOA := Lib.hid hoA; have HBA := Lib.hid hBA; clear hoA hBA; (try simp at lA)))
      | (go_at_call_of 31 (Value.int .u64 s.B); ((with_reducible refine (EB.out _ ?_).mono ?_); (focus ((repeat (first | with_reducible exact Below.refl _ _ | with_reducible assumption | with_reducible refine Below.drew ?_ | with_reducible refine Below.alloc ?_ ?_ _ | with_reducible refine Below.setCell ?_ ?_ _ | (focus omega) | (focus (simp; done)) | (focus (simp; omega)))); done)); rintro e wB ⟨gB, cB, rfl, hoB, qB, lB, uB, hBB⟩; have hBwB : Below w0.heap.size w0 wB := (by refine Below.trans ?_ (hBB.mono ?_); (focus ((repeat (first | with_reducible exact Below.refl _ _ | with_reducible assumption | with_reducible refine Below.drew ?_ | with_reducible refine Below.alloc ?_ ?_ _ | with_reducible refine Below.setCell ?_ ?_ _ | (focus omega) | (focus (simp; done)) | (focus (simp; omega)))); done)); (focus (first | omega | (simp; done) | (simp; omega)))); have hsB := hBwB.size; have HOB := Lib.hid hoB; have HBB := Lib.hid hBB; clear hoB hBB; (try simp at lB)))
      | (go_at_call_of 31 (Value.int .u64 s.C); ((with_reducible refine (EC.out _ ?_).mono ?_); (focus ((repeat (first | with_reducible exact Below.refl _ _ | with_reducible assumption | with_reducible refine Below.drew ?_ | with_reducible refine Below.alloc ?_ ?_ _ | with_reducible refine Below.setCell ?_ ?_ _ | (focus omega) | (focus (simp; done)) | (focus (simp; omega)))); done)); rintro e wC ⟨gC, cC, rfl, hoC, qC, lC, uC, hBC⟩; have hBwC : Below w0.heap.size w0 wC := (by refine Below.trans ?_ (hBC.mono ?_); (focus ((repeat (first | with_reducible exact Below.refl _ _ | with_reducible assumption | with_reducible refine Below.drew ?_ | with_reducible refine Below.alloc ?_ ?_ _ | with_reducible refine Below.setCell ?_ ?_ _ | (focus omega) | (focus (simp; done)) | (focus (simp; omega)))); done)); (focus (first | omega | (simp; done) | (simp; omega)))); have hsC := hBwC.size; have HOC := Lib.hid hoC; have HBC := Lib.hid hBC; clear hoC hBC; (try simp at lC)))
      | (go_at_call_of 31 (Value.int .u64 s.D); ((with_reducible refine (ED.out _ ?_).mono ?_); (focus ((repeat (first | with_reducible exact Below.refl _ _ | with_reducible assumption | with_reducible refine Below.drew ?_ | with_reducible refine Below.alloc ?_ ?_ _ | with_reducible refine Below.setCell ?_ ?_ _ | (focus omega) | (focus (simp; done)) | (focus (simp; omega)))); done)); rintro e wD ⟨gD, cD, rfl, hoD, qD, lD, uD, hBD⟩; have hBwD : Below w0.heap.size w0 wD := (by refine Below.trans ?_ (hBD.mono ?_); (focus ((repeat (first | with_reducible exact Below.refl _ _ | with_reducible assumption | with_reducible refine Below.drew ?_ | with_reducible refine Below.alloc ?_ ?_ _ | with_reducible refine Below.setCell ?_ ?_ _ | (focus omega) | (focus (simp; done)) | (focus (simp; omega)))); done)); (focus (first | omega | (simp; done) | (simp; omega)))); have hsD := hBwD.size; have HOD := Lib.hid hoD; have HBD := Lib.hid hBD; clear hoD hBD; (try simp at lD)))
      | ((refine step_append_lies (o := ⟨some 9, _, _, _, _, _⟩) _ (by rfl) _ _ _ (by rfl) w0.heap.size 5 i0 (.int .u8 0) 1 1 Try.underlying22 hi hz0 hz1 hz2 rfl (by omega) (.slice (some ⟨gA, 0, none⟩) 8 cA) 8 (octCells (put s.A 8)) (by rfl) ?_ ⟨gB, 0, none⟩ 8 cB (octCells (put s.B 8)) (by rfl) (by rw [octCells_length, put_length]) ?_ (octCells_one _) (by omega) (by unfold maxLen; omega) (by omega) ?_ _ rfl ?_); (focus ((repeat (first | with_reducible exact HOA.out | with_reducible exact HOB.out | with_reducible exact HOC.out | with_reducible exact HOD.out | with_reducible exact HO1.out | with_reducible exact HO2.out | with_reducible refine own_below ?_ HBA.out (Nat.le_refl _) | with_reducible refine own_below ?_ HBB.out (Nat.le_refl _) | with_reducible refine own_below ?_ HBC.out (Nat.le_refl _) | with_reducible refine own_below ?_ HBD.out (Nat.le_refl _) | (with_reducible refine own_kept ?_ HG1.out ?_; rotate_left; (focus (first | omega | (simp; done) | (simp; omega)))) | (with_reducible refine own_kept ?_ HG2.out ?_; rotate_left; (focus (first | omega | (simp; done) | (simp; omega)))) | (with_reducible refine own_kept ?_ HG3.out ?_; rotate_left; (focus (first | omega | (simp; done) | (simp; omega)))))); done)); (focus (refine own_news (base := w0.heap.size) (n := 8) (c := cB) (e := 5) ?_; (repeat (first | with_reducible exact HOA.out | with_reducible exact HOB.out | with_reducible exact HOC.out | with_reducible exact HOD.out | with_reducible exact HO1.out | with_reducible exact HO2.out | with_reducible refine own_below ?_ HBA.out (Nat.le_refl _) | with_reducible refine own_below ?_ HBB.out (Nat.le_refl _) | with_reducible refine own_below ?_ HBC.out (Nat.le_refl _) | with_reducible refine own_below ?_ HBD.out (Nat.le_refl _) | (with_reducible refine own_kept ?_ HG1.out ?_; rotate_left; (focus (first | omega | (simp; done) | (simp; omega)))) | (with_reducible refine own_kept ?_ HG2.out ?_; rotate_left; (focus (first | omega | (simp; done) | (simp; omega)))) | (with_reducible refine own_kept ?_ HG3.out ?_; rotate_left; (focus (first | omega | (simp; done) | (simp; omega)))))); done)); (focus (first | omega | (simp; done) | (simp; omega))); intro g1 c1 y1 ho1 hg1 ha1 hl1; have hBy1 : Below w0.heap.size w0 y1 := (by refine Below.grown ?_ hg1 ?_ ?_; (focus ((repeat (first | with_reducible exact Below.refl _ _ | with_reducible assumption | with_reducible refine Below.drew ?_ | with_reducible refine Below.alloc ?_ ?_ _ | with_reducible refine Below.setCell ?_ ?_ _ | (focus omega) | (focus (simp; done)) | (focus (simp; omega)))); done)); (focus (first | omega | (simp; done) | (simp; omega))); (focus (intro j e; simp [Value.ownBlock] at e; omega))); have ht1 := hg1.size; have hb1 := own_ge ho1; have HO1 := Lib.hid ho1; have HG1 := Lib.hid (grown_of hg1); clear ho1 hg1; simp only [Value.ownBlock, Option.some.injEq] at ha1)
      | ((refine step_append_lies (o := ⟨some 13, _, _, _, _, _⟩) _ (by rfl) _ _ _ (by rfl) w0.heap.size 5 i0 (.int .u8 0) 1 1 Try.underlying22 hi hz0 hz1 hz2 rfl (by omega) (.slice (some ⟨g1, 0, none⟩) (8 + 8) c1) (8 + 8) (octCells (put s.A 8) ++ octCells (put s.B 8)) (by rfl) ?_ ⟨gC, 0, none⟩ 8 cC (octCells (put s.C 8)) (by rfl) (by rw [octCells_length, put_length]) ?_ (octCells_one _) (by omega) (by unfold maxLen; omega) (by omega) ?_ _ rfl ?_); (focus ((repeat (first | with_reducible exact HOA.out | with_reducible exact HOB.out | with_reducible exact HOC.out | with_reducible exact HOD.out | with_reducible exact HO1.out | with_reducible exact HO2.out | with_reducible refine own_below ?_ HBA.out (Nat.le_refl _) | with_reducible refine own_below ?_ HBB.out (Nat.le_refl _) | with_reducible refine own_below ?_ HBC.out (Nat.le_refl _) | with_reducible refine own_below ?_ HBD.out (Nat.le_refl _) | (with_reducible refine own_kept ?_ HG1.out ?_; rotate_left; (focus (first | omega | (simp; done) | (simp; omega)))) | (with_reducible refine own_kept ?_ HG2.out ?_; rotate_left; (focus (first | omega | (simp; done) | (simp; omega)))) | (with_reducible refine own_kept ?_ HG3.out ?_; rotate_left; (focus (first | omega | (simp; done) | (simp; omega)))))); done)); (focus (refine own_news (base := w0.heap.size) (n := 8) (c := cC) (e := 5) ?_; (repeat (first | with_reducible exact HOA.out | with_reducible exact HOB.out | with_reducible exact HOC.out | with_reducible exact HOD.out | with_reducible exact HO1.out | with_reducible exact HO2.out | with_reducible refine own_below ?_ HBA.out (Nat.le_refl _) | with_reducible refine own_below ?_ HBB.out (Nat.le_refl _) | with_reducible refine own_below ?_ HBC.out (Nat.le_refl _) | with_reducible refine own_below ?_ HBD.out (Nat.le_refl _) | (with_reducible refine own_kept ?_ HG1.out ?_; rotate_left; (focus (first | omega | (simp; done) | (simp; omega)))) | (with_reducible refine own_kept ?_ HG2.out ?_; rotate_left; (focus (first | omega | (simp; done) | (simp; omega)))) | (with_reducible refine own_kept ?_ HG3.out ?_; rotate_left; (focus (first | omega | (simp; done) | (simp; omega)))))); done)); (focus (first | omega | (simp; done) | (simp; omega))); intro g2 c2 y2 ho2 hg2 ha2 hl2; have hBy2 : Below w0.heap.size w0 y2 := (by refine Below.grown ?_ hg2 ?_ ?_; (focus ((repeat (first | with_reducible exact Below.refl _ _ | with_reducible assumption | with_reducible refine Below.drew ?_ | with_reducible refine Below.alloc ?_ ?_ _ | with_reducible refine Below.setCell ?_ ?_ _ | (focus omega) | (focus (simp; done)) | (focus (simp; omega)))); done)); (focus (first | omega | (simp; done) | (simp; omega))); (focus (intro j e; simp [Value.ownBlock] at e; omega))); have ht2 := hg2.size; have hb2 := own_ge ho2; have HO2 := Lib.hid ho2; have HG2 := Lib.hid (grown_of hg2); clear ho2 hg2; simp only [Value.ownBlock, Option.some.injEq] at ha2)
      | ((refine step_append_lies (o := ⟨some 17, _, _, _, _, _⟩) _ (by rfl) _ _ _ (by rfl) w0.heap.size 5 i0 (.int .u8 0) 1 1 Try.underlying22 hi hz0 hz1 hz2 rfl (by omega) (.slice (some ⟨g2, 0, none⟩) (8 + 8 + 8) c2) (8 + 8 + 8) (octCells (put s.A 8) ++ octCells (put s.B 8) ++ octCells (put s.C 8)) (by rfl) ?_ ⟨gD, 0, none⟩ 8 cD (octCells (put s.D 8)) (by rfl) (by rw [octCells_length, put_length]) ?_ (octCells_one _) (by omega) (by unfold maxLen; omega) (by omega) ?_ _ rfl ?_); (focus ((repeat (first | with_reducible exact HOA.out | with_reducible exact HOB.out | with_reducible exact HOC.out | with_reducible exact HOD.out | with_reducible exact HO1.out | with_reducible exact HO2.out | with_reducible refine own_below ?_ HBA.out (Nat.le_refl _) | with_reducible refine own_below ?_ HBB.out (Nat.le_refl _) | with_reducible refine own_below ?_ HBC.out (Nat.le_refl _) | with_reducible refine own_below ?_ HBD.out (Nat.le_refl _) | (with_reducible refine own_kept ?_ HG1.out ?_; rotate_left; (focus (first | omega | (simp; done) | (simp; omega)))) | (with_reducible refine own_kept ?_ HG2.out ?_; rotate_left; (focus (first | omega | (simp; done) | (simp; omega)))) | (with_reducible refine own_kept ?_ HG3.out ?_; rotate_left; (focus (first | omega | (simp; done) | (simp; omega)))))); done)); (focus (refine own_news (base := w0.heap.size) (n := 8) (c := cD) (e := 5) ?_; (repeat (first | with_reducible exact HOA.out | with_reducible exact HOB.out | with_reducible exact HOC.out | with_reducible exact HOD.out | with_reducible exact HO1.out | with_reducible exact HO2.out | with_reducible refine own_below ?_ HBA.out (Nat.le_refl _) | with_reducible refine own_below ?_ HBB.out (Nat.le_refl _) | with_reducible refine own_below ?_ HBC.out (Nat.le_refl _) | with_reducible refine own_below ?_ HBD.out (Nat.le_refl _) | (with_reducible refine own_kept ?_ HG1.out ?_; rotate_left; (focus (first | omega | (simp; done) | (simp; omega)))) | (with_reducible refine own_kept ?_ HG2.out ?_; rotate_left; (focus (first | omega | (simp; done) | (simp; omega)))) | (with_reducible refine own_kept ?_ HG3.out ?_; rotate_left; (focus (first | omega | (simp; done) | (simp; omega)))))); done)); (focus (first | omega | (simp; done) | (simp; omega))); intro g3 c3 y3 ho3 hg3 ha3 hl3; have hBy3 : Below w0.heap.size w0 y3 := (by refine Below.grown ?_ hg3 ?_ ?_; (focus ((repeat (first | with_reducible exact Below.refl _ _ | with_reducible assumption | with_reducible refine Below.drew ?_ | with_reducible refine Below.alloc ?_ ?_ _ | with_reducible refine Below.setCell ?_ ?_ _ | (focus omega) | (focus (simp; done)) | (focus (simp; omega)))); done)); (focus (first | omega | (simp; done) | (simp; omega))); (focus (intro j e; simp [Value.ownBlock] at e; omega))); have ht3 := hg3.size; have hb3 := own_ge ho3; have HO3 := Lib.hid ho3; have HG3 := Lib.hid (grown_of hg3); clear ho3 hg3; simp only [Value.ownBlock, Option.some.injEq] at ha3))
  have hcap3 : 32 ≤ c3 := by
    obtain ⟨A', c', e, hc', _⟩ := own_slice HO3.out
    injection e with _ _ e
    omega
  have hr3 : RdB y3 (some ⟨g3, 0, none⟩) (sumOcts s) := by
    have := Rd.of_own HO3.out
    rw [show octCells (put s.A 8) ++ octCells (put s.B 8) ++ octCells (put s.C 8) ++ octCells (put s.D 8) = octCells (sumOcts s) by simp [octCells, sumOcts]] at this
    exact this
  have HR3 := Lib.hid hr3
  clear hr3 HO1 HO2 HO3 HG1 HG2 HG3 HOA HOB HOC HOD HBA HBB HBC HBD EA EB EC ED ha1 ha2 ha3
  go_wp2
  go_ret
  exact ⟨_, _, rfl, hcap3, HR3.out, hB0.trans (hBy3.mono hB0.size)⟩

theorem sumOctets_any (s : S4) (w : World) :
    Calls Try.prog 22 #[s.val] w fun e w' => ∃ A c, e = .returned (.slice A 32 c) ∧ RdB w' A (sumOcts s) ∧ Below w.heap.size w w' :=
  (sumOctets_cap s w).mono fun _ _ ⟨A, c, e, _, hr, hB⟩ => ⟨A, c, e, hr, hB⟩

end Go.Proofs.Ythelklgpabjfkaa
