/-
  usage: meet: a sorted copy more. Conditions: the list is as it comes in.
-/
import Derived.Test.YtnoidcelinaenaaUSD
import Derived.Test.YtnoidcelinaenaaUSF
import Derived.Test.YtnoidcelinaenaaKP
namespace Go.Proofs.Ytnoidcelinaenaa
open Go.ChangeShapes Go.WideShapes Go.ChangeAt Go.RowKit
set_option maxRecDepth 100000

/-- A count, with the sorted lists that were met. -/
structure Fr (F : Nat) (s : Int) (ms : List (Sl Bk)) (W : World) : Prop where
  row : ∃ v, Blk W F 62 [.int .i64 s, v] ∧ W.ownsRow F 28 1 v ms.length (ms.flatMap slC)
  own : ∀ m ∈ ms, W.ownsRow F 65 2 m.val m.l.length (bks m.l)
  srt : ∀ m ∈ ms, SrtB m.l ∧ m.l.length * 24 ≤ 140737488351232

set_option maxHeartbeats 2000000 in
theorem meet_any (F : Nat) (s : Int) (ms : List (Sl Bk)) (hms : ms.length ≤ 8) (A : Option Addr) (c : Nat) (l : List Bk) (hl : l.length * 24 ≤ 140737488351232) (w : World) (h : Fr F s ms w) (hr : Rd w A (bks l)) :
    Calls Try.prog 21 #[.pointer (some ⟨F, 0, none⟩), .slice A l.length c] w fun e w' => e = .returned (.tuple #[]) ∧ ∃ m : Sl Bk, Fr F s (ms ++ [m]) w' ∧ m.l.Perm l ∧ Below F w w' := by
  obtain ⟨⟨v, hk, ho⟩, how, hso⟩ := h
  obtain ⟨i0, hi, hz0, hz1, hz2⟩ := infoParts infoLB
  have hF := hk.lt
  have c1 := hk.cell 1
  have f1 := hk.frozen 1
  simp only [List.getElem?_cons_zero, List.getElem?_cons_succ] at c1
  obtain ⟨Av, cv, hv, _, _, _, _⟩ := ownAny ho
  subst hv
  have HK := Lib.hid hk
  have HO := Lib.hid ho
  have HOW := Lib.hid how
  have HSO := Lib.hid hso
  have HR := Lib.hid hr
  clear hk ho how hso hr
  go_enter Try.func21, Try.ntmps21
  refine wp_region_noPanic ?_
  refine wp_region_last 12 (fun W => W.cell? ⟨F, 1, none⟩ = some (.slice Av ms.length cv) ∧ W.frozen? ⟨F, 1, none⟩ = false) (by kernel_rfl) ⟨c1, f1⟩ (fun hHeld => ?_)
  refine wpAnyL_take 16 (i := 0) (oi := ⟨some 4, _, _, _, _, _⟩) (v := ?_) rfl (by kernel_rfl) (by kernel_rfl) (by kernel_rfl) (by kernel_rfl) (by kernel_rfl) (by kernel_rfl) (by kernel_rfl) (fun _ _ _ h => h) (Or.inl ⟨by rfl, ?_⟩) hHeld ?_
  rotate_left
  focus (intro w hSw; (try dsimp only at hSw); go_simp; try (with_reducible rfl))
  try simp only [Act.put, List.setIfInBounds_toArray, List.set_cons_zero, List.set_cons_succ]
  refine wpAnyL_take 16 (i := 1) (oi := ⟨some 5, _, _, _, _, _⟩) (v := ?_) rfl (by kernel_rfl) (by kernel_rfl) (by kernel_rfl) (by kernel_rfl) (by kernel_rfl) (by kernel_rfl) (by kernel_rfl) (fun _ _ _ h => h) (Or.inl ⟨by rfl, ?_⟩) hHeld ?_
  rotate_left
  focus (intro w hSw; (try dsimp only at hSw); go_simp; try (with_reducible rfl))
  try simp only [Act.put, List.setIfInBounds_toArray, List.set_cons_zero, List.set_cons_succ]
  refine wpAnyL_take 16 (i := 2) (oi := ⟨some 6, _, _, _, _, _⟩) (v := ?_) rfl (by kernel_rfl) (by kernel_rfl) (by kernel_rfl) (by kernel_rfl) (by kernel_rfl) (by kernel_rfl) (by kernel_rfl) (fun _ _ _ h => h) (Or.inl ⟨by rfl, ?_⟩) hHeld ?_
  rotate_left
  focus (intro w hSw; (try dsimp only at hSw); go_simp; try (with_reducible rfl))
  try simp only [Act.put, List.setIfInBounds_toArray, List.set_cons_zero, List.set_cons_succ]
  refine wpAnyL_take 16 (i := 3) (oi := ⟨some 7, _, _, _, _, _⟩) (v := ?_) rfl (by kernel_rfl) (by kernel_rfl) (by kernel_rfl) (by kernel_rfl) (by kernel_rfl) (by kernel_rfl) (by kernel_rfl) (fun _ _ _ h => h) (Or.inl ⟨by rfl, ?_⟩) hHeld ?_
  rotate_left
  focus (intro w hSw; (try dsimp only at hSw); go_simp; try (with_reducible rfl))
  try simp only [Act.put, List.setIfInBounds_toArray, List.set_cons_zero, List.set_cons_succ]
  refine wpAnyL_take 16 (i := 4) (oi := ⟨some 8, _, _, _, _, _⟩) (v := ?_) rfl (by kernel_rfl) (by kernel_rfl) (by kernel_rfl) (by kernel_rfl) (by kernel_rfl) (by kernel_rfl) (by kernel_rfl) (fun _ _ _ h => h) (Or.inl ⟨by rfl, ?_⟩) hHeld ?_
  rotate_left
  focus (intro w hSw; (try dsimp only at hSw); go_simp; try (with_reducible rfl))
  try simp only [Act.put, List.setIfInBounds_toArray, List.set_cons_zero, List.set_cons_succ]
  refine wpAnyL_take 16 (i := 5) (oi := ⟨some 9, _, _, _, _, _⟩) (v := ?_) rfl (by kernel_rfl) (by kernel_rfl) (by kernel_rfl) (by kernel_rfl) (by kernel_rfl) (by kernel_rfl) (by kernel_rfl) (fun _ _ _ h => h) (Or.inl ⟨by rfl, ?_⟩) hHeld ?_
  rotate_left
  focus (intro w hSw; (try dsimp only at hSw); go_simp; try (with_reducible rfl))
  try simp only [Act.put, List.setIfInBounds_toArray, List.set_cons_zero, List.set_cons_succ]
  clear hHeld
  refine wpAnyL_facts 16 2 5 [(6, 10), (7, 11)] (fun s v w => match s with
    | 10 => ∃ Bn, v = .func (.func 32) #[] #[.pointer (some ⟨Bn, 0, none⟩)] ∧ Blk w Bn 28 [.slice A l.length c]
    | 11 => ∃ m : Sl Bk, v = m.val ∧ w.ownsRow F 65 2 m.val m.l.length (bks m.l) ∧ m.l.Perm l ∧ SrtB m.l
    | _ => True) (fun w w' => Below w.heap.size w w') (by kernel_rfl) (by kernel_rfl) (fun w w' h h' => h.trans (h'.mono h.size)) ⟨?_, ?_, trivial⟩ (fun w' hB => ⟨(hB.cell (p := ⟨F, 1, none⟩) hF).trans c1, (HK.out.drew.below hB hF).frozen 1⟩) ⟨?_, ?_, trivial⟩ ?_
  focus
    intro v w w' h hB
    exact (by obtain ⟨Bn, e, hb⟩ := h; exact ⟨Bn, e, hb.below hB hb.lt⟩)
  focus
    intro v w w' h hB
    exact (by obtain ⟨m, e, ho, hp, hs⟩ := h; exact ⟨m, e, ownBelow ho hB (Nat.le_refl _), hp, hs⟩)
  focus
    intro vs w2 hBf hFf o ho K hK
    obtain rfl : (⟨some 10, _, _, _, _, _⟩ : Oper) = o := Option.some.inj ho
    clear ho
    (try simp only [fillL, List.foldl_cons, List.foldl_nil, Act.put, List.setIfInBounds_toArray, List.set_cons_zero, List.set_cons_succ] at hK ⊢)
    go_simp
    refine (values_any (.slice A l.length c) ⟨_, _, _, rfl⟩ w2).mono ?_
    rintro e w3 ⟨rfl, rfl⟩
    refine hK.out _ _ ⟨⟨w2.heap.size, rfl, Blk.new w2 _ _⟩, (Below.refl _ w2).alloc (Nat.le_refl _) _⟩
  focus
    intro vs w2 hBf hFf o ho K hK
    obtain rfl : (⟨some 11, _, _, _, _, _⟩ : Oper) = o := Option.some.inj ho
    clear ho
    (try simp only [fillL, List.foldl_cons, List.foldl_nil, Act.put, List.setIfInBounds_toArray, List.set_cons_zero, List.set_cons_succ] at hK ⊢)
    obtain ⟨Bn, e10, hbn⟩ := (hFf (6, 10) (by simp) (by kernel_rfl))
    simp only [e10] at hK ⊢
    go_simp
    refine (sorted_any Bn A c l hl w2 hbn.lt (hbn.cell 0) (HR.out.below ((Below.refl w.heap.size w).drew.trans hBf))).mono ?_
    rintro e w3 ⟨v3, l3, rfl, ho3, hp3, hs3, hB3⟩
    obtain ⟨A3, c3, rfl, _, _, _, _⟩ := ownAny ho3
    refine hK.out _ _ ⟨⟨⟨A3, l3, c3⟩, rfl, ownBase ho3 (Nat.le_trans (Nat.le_of_lt hF) hBf.size), hp3, hs3⟩, hB3⟩
  intro vs w2 hBf hFf
  (try simp only [fillL, List.foldl_cons, List.foldl_nil, Act.put, List.setIfInBounds_toArray, List.set_cons_zero, List.set_cons_succ])
  obtain ⟨Bn, e10, _⟩ := (hFf (6, 10) (by simp))
  obtain ⟨m, e11, hom, hpm, hsm⟩ := (hFf (7, 11) (by simp))
  simp only [e10, e11]
  have hBw : Below w.heap.size w w2 := (Below.refl w.heap.size w).drew.trans hBf
  have hs2 := hBw.size
  have hk2 := HK.out.below hBw hF
  have HOM := Lib.hid hom
  have hBa := (Below.refl w2.heap.size w2).alloc (Nat.le_refl _) (.cells #[m.val] 28)
  have ho2 := ownBelow HO.out hBw (Nat.le_refl _)
  have hHeld : (fun W => W.cell? ⟨F, 1, none⟩ = some (.slice Av ms.length cv) ∧ W.frozen? ⟨F, 1, none⟩ = false) w2 := ⟨(hBf.cell (p := ⟨F, 1, none⟩) hF).trans c1, (HK.out.drew.below hBf hF).frozen 1⟩
  refine wpAnyL_one (i := 8) (o := ⟨some 12, _, _, _, _, _⟩) (by kernel_rfl) rfl (fun K hK => ?_)
  clear hHeld
  go_simp
  refine hK.out _ _ ⟨((hk2.below hBa hk2.lt).cell 1), (hk2.below hBa hk2.lt).frozen 1⟩ (fun hHeld => ?_)
  clear hK K
  try simp only [Act.put, List.setIfInBounds_toArray, List.set_cons_zero, List.set_cons_succ]
  refine wpAnyL_one (i := 9) (o := ⟨some 13, _, _, _, _, _⟩) (by kernel_rfl) rfl (fun K hK => ?_)
  clear hHeld
  refine step_append_lies (o := ⟨some 13, _, _, _, _, _⟩) _ (by rfl) _ _ 52 (by rfl) F 28 i0 (.slice none 0 0) 1 24 Try.underlying52 hi hz0 hz1 hz2 rfl (by omega) (.slice Av ms.length cv) ms.length (ms.flatMap slC) (by rfl) (ownBelow ho2 hBa (Nat.le_refl _)) ⟨w2.heap.size, 0, none⟩ 1 1 (slC m) (by rfl) rfl (newsNew _ _ _) (slC_one m) (by omega) (by unfold maxLen; omega) (by omega) (by simp; omega) _ rfl ?_
  intro g6 c6 x6 ho6 hg6 _ _
  have hkp : Keeps 28 w2 x6 := keeps_grown ho2 _ hg6
  have hk6 : Blk x6 F 62 [.int .i64 s, .slice Av ms.length cv] := hk2.keep hkp (by decide)
  have HB6 : Hid (Below F w x6) := Lib.hid (((hBw.mono (Nat.le_of_lt hF)).trans (hBa.mono (by omega))).grown hg6 (by simp; omega) (fun j e => (ho2.lt j e).1))
  have c6' := hk6.cell 1
  have f6' := hk6.frozen 1
  simp only [List.getElem?_cons_zero, List.getElem?_cons_succ] at c6'
  have HO6 := Lib.hid ho6
  have HKP := Lib.hid hkp
  have HK6 := Lib.hid hk6
  clear ho6 hg6 hkp hk6
  refine hK.out _ _ ⟨c6', f6'⟩ (fun hHeld => ?_)
  clear hK K
  try simp only [Act.put, List.setIfInBounds_toArray, List.set_cons_zero, List.set_cons_succ]
  refine wpAnyL_take 16 (i := 10) (oi := ⟨some 14, _, _, _, _, _⟩) (v := ?_) rfl (by kernel_rfl) (by kernel_rfl) (by kernel_rfl) (by kernel_rfl) (by kernel_rfl) (by kernel_rfl) (by kernel_rfl) (fun _ _ _ h => h) (Or.inl ⟨by rfl, ?_⟩) hHeld ?_
  rotate_left
  focus (intro w hSw; (try dsimp only at hSw); go_simp; try (with_reducible rfl))
  try simp only [Act.put, List.setIfInBounds_toArray, List.set_cons_zero, List.set_cons_succ]
  refine wpAnyL_take 16 (i := 11) (oi := ⟨some 15, _, _, _, _, _⟩) (v := ?_) rfl (by kernel_rfl) (by kernel_rfl) (by kernel_rfl) (by kernel_rfl) (by kernel_rfl) (by kernel_rfl) (by kernel_rfl) (fun _ _ _ h => h) (Or.inl ⟨by rfl, ?_⟩) hHeld ?_
  rotate_left
  focus (intro w hSw; (try dsimp only at hSw); go_simp; try (with_reducible rfl))
  try simp only [Act.put, List.setIfInBounds_toArray, List.set_cons_zero, List.set_cons_succ]
  refine wpAnyL_last (i := 12) (o := ⟨none, _, _, _, _, _⟩) (by kernel_rfl) rfl (by kernel_rfl) (fun K hK => ?_)
  go_simp
  go_wp2_with fail
  refine hK.out _ _ ?_
  clear hK K
  try simp only [Act.put, List.setIfInBounds_toArray, List.set_cons_zero, List.set_cons_succ]
  refine wpAnyL_done (by kernel_rfl) ?_ _
  refine NoPanic.normal ?_
  go_end0
  refine ⟨rfl, m, ⟨⟨_, HK6.out.set 1 _, ?_⟩, ?_, ?_⟩, hpm, HB6.out.setCell (p := ⟨F, 1, none⟩) (Nat.le_refl _) _⟩
  · have := own_setT (j := 1) (u := .slice (some ⟨g6, 0, none⟩) (ms.length + 1) c6) HO6.out HK6.out (by decide)
    rw [List.length_append, List.flatMap_append]
    simpa using this
  · intro y hy
    have h0 : w2.ownsRow F 65 2 y.val y.l.length (bks y.l) := by
      rcases List.mem_append.1 hy with hy | hy
      · exact ownBelow (HOW.out y hy) hBw (Nat.le_refl _)
      · simp at hy
        subst hy
        exact HOM.out
    exact own_setT (own_keeps h0 (by decide) HKP.out) HK6.out (by decide)
  · intro y hy
    rcases List.mem_append.1 hy with hy | hy
    · exact HSO.out y hy
    · simp at hy
      subst hy
      exact ⟨hsm, by rw [hpm.length_eq]; exact hl⟩

end Go.Proofs.Ytnoidcelinaenaa
