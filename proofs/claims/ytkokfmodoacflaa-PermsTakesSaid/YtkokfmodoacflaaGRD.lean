/-
  perms: copied. Conditions: the texts are as they come in.
-/
import Derived.Test.YtkokfmodoacflaaGRE
import Derived.Test.YtkokfmodoacflaaCS
import Derived.Test.YtkokfmodoacflaaTD
namespace Go.Proofs.Ytkokfmodoacflaa
open Go.ChangeShapes Go.WideShapes Go.ChangeAt Go.RowKit
set_option maxRecDepth 100000

theorem grs_snoc (l : List Gr) (x : Gr) : grs (l ++ [x]) = grs l ++ [.string x.1, .string x.2.1, .int .i64 x.2.2] := by simp [grs]

set_option maxHeartbeats 2000000 in
theorem grCopied_any (A : Option Addr) (c n : Nat) (l : List Gr) (hn : l.length = n) (hl : n ≤ 3518437208000) (hf : ∀ x ∈ l, x.1.size ≤ 140737488351232 ∧ x.2.1.size ≤ 140737488351232) (w : World) (hr : Rd w A (grs l)) :
    Calls Try.prog 30 #[.slice A n c] w fun e w' => ∃ v, e = .returned v ∧ ownGr w' w.heap.size v l ∧ Below w.heap.size w w' := by
  subst hn
  obtain ⟨i0, hi, hz0, hz1, hz2⟩ := infoParts infoGr
  go_enter Try.func30, Try.ntmps30
  go_wp2
  go_loopw [3, 8] (fun v j W => ∃ k : Nat, k ≤ l.length ∧ j = .int .i64 k ∧ Hid (ownGr W w.heap.size v (l.take k)) ∧ Below w.heap.size w W) (fun _ j _ => l.length - (intOf j).toNat)
  case atStart => exact ⟨0, Nat.zero_le _, rfl, Lib.hid (ownNone _ _ _ _), Below.refl _ _⟩
  case round =>
    obtain ⟨k, hk, rfl, HO, hB⟩ := hrel
    obtain ⟨Av, cv, hv, _, _, _, _⟩ := ownAny HO.out
    have hlk : (l.take k).length = k := by rw [List.length_take]; omega
    rw [hlk] at hv
    subst hv
    have HO' : Hid (wr.ownsRow w.heap.size 30 3 (.slice Av k cv) k (grs (l.take k))) := Lib.hid (by have := HO.out; unfold ownGr at this; rw [hlk] at this; exact this)
    clear HO
    by_cases hlt : k < l.length
    · obtain ⟨x, hx⟩ : ∃ x, l[k]? = some x := ⟨l[k], List.getElem?_eq_getElem hlt⟩
      obtain ⟨b, off, rfl, hb, hc0, hc1, hc2⟩ := (Rd.below hr hB).gr hx
      obtain ⟨hks1, hks2⟩ := hf x (List.mem_of_getElem? hx)
      have HTK : Hid (l.take (k + 1) = l.take k ++ [x]) := Lib.hid (by rw [List.take_add_one, hx]; rfl)
      obtain ⟨x1, x2, x3⟩ := x
      dsimp only at hc0 hc1 hc2 hks1 hks2
      obtain ⟨w1, hw1⟩ : ∃ w1, wr.alloc (.cells #[.string x1, .string x2, .int .i64 x3] 30) = w1 := ⟨_, rfl⟩
      have hB1 : Below wr.heap.size wr w1 := hw1 ▸ (Below.refl _ wr).alloc (Nat.le_refl _) _
      have k1 : Blk w1 wr.heap.size 30 [.string x1, .string x2, .int .i64 x3] := hw1 ▸ Blk.new wr _ _
      have hlt1 : wr.heap.size < w1.heap.size := k1.lt
      have y0 := k1.cell 0
      have y1 := k1.cell 1
      have y2 := k1.cell 2
      simp only [List.getElem?_cons_zero, List.getElem?_cons_succ] at y0 y1 y2
      have HW1 := Lib.hid hw1
      have HB1 := Lib.hid hB1
      clear hx hw1 k1 hB1
      go_wp2_with fail
      rw [HW1.out]
      refine wp_region_noPanic ?_
      refine wp_region_last 11 (fun W' => W'.cell? ⟨wr.heap.size, 0, none⟩ = some (.string x1) ∧ W'.cell? ⟨wr.heap.size, 1, none⟩ = some (.string x2) ∧ W'.cell? ⟨wr.heap.size, 2, none⟩ = some (.int .i64 x3)) (by kernel_rfl) ⟨y0, y1, y2⟩ (fun hHeld => ?_)
      refine wpAnyL_take 16 (i := 0) (oi := ⟨some 12, _, _, _, _, _⟩) (v := ?_) rfl (by kernel_rfl) (by kernel_rfl) (by kernel_rfl) (by kernel_rfl) (by kernel_rfl) (by kernel_rfl) (by kernel_rfl) (fun _ _ _ h => h) (Or.inl ⟨by rfl, ?_⟩) hHeld ?_
      rotate_left
      focus (intro w hSw; (try dsimp only at hSw); go_simp; try (with_reducible rfl))
      try simp only [Act.put, List.setIfInBounds_toArray, List.set_cons_zero, List.set_cons_succ]
      refine wpAnyL_take 16 (i := 1) (oi := ⟨some 13, _, _, _, _, _⟩) (v := ?_) rfl (by kernel_rfl) (by kernel_rfl) (by kernel_rfl) (by kernel_rfl) (by kernel_rfl) (by kernel_rfl) (by kernel_rfl) (fun _ _ _ h => h) (Or.inl ⟨by rfl, ?_⟩) hHeld ?_
      rotate_left
      focus (intro w hSw; (try dsimp only at hSw); go_simp; try (with_reducible rfl))
      try simp only [Act.put, List.setIfInBounds_toArray, List.set_cons_zero, List.set_cons_succ]
      refine wpAnyL_take 16 (i := 2) (oi := ⟨some 14, _, _, _, _, _⟩) (v := ?_) rfl (by kernel_rfl) (by kernel_rfl) (by kernel_rfl) (by kernel_rfl) (by kernel_rfl) (by kernel_rfl) (by kernel_rfl) (fun _ _ _ h => h) (Or.inl ⟨by rfl, ?_⟩) hHeld ?_
      rotate_left
      focus (intro w hSw; (try dsimp only at hSw); go_simp; try (with_reducible rfl))
      try simp only [Act.put, List.setIfInBounds_toArray, List.set_cons_zero, List.set_cons_succ]
      refine wpAnyL_take 16 (i := 4) (oi := ⟨some 16, _, _, _, _, _⟩) (v := ?_) rfl (by kernel_rfl) (by kernel_rfl) (by kernel_rfl) (by kernel_rfl) (by kernel_rfl) (by kernel_rfl) (by kernel_rfl) (fun _ _ _ h => h) (Or.inl ⟨by rfl, ?_⟩) hHeld ?_
      rotate_left
      focus (intro w hSw; (try dsimp only at hSw); go_simp; try (with_reducible rfl))
      try simp only [Act.put, List.setIfInBounds_toArray, List.set_cons_zero, List.set_cons_succ]
      refine wpAnyL_take 16 (i := 5) (oi := ⟨some 17, _, _, _, _, _⟩) (v := ?_) rfl (by kernel_rfl) (by kernel_rfl) (by kernel_rfl) (by kernel_rfl) (by kernel_rfl) (by kernel_rfl) (by kernel_rfl) (fun _ _ _ h => h) (Or.inl ⟨by rfl, ?_⟩) hHeld ?_
      rotate_left
      focus (intro w hSw; (try dsimp only at hSw); go_simp; try (with_reducible rfl))
      try simp only [Act.put, List.setIfInBounds_toArray, List.set_cons_zero, List.set_cons_succ]
      refine wpAnyL_take 16 (i := 7) (oi := ⟨some 19, _, _, _, _, _⟩) (v := ?_) rfl (by kernel_rfl) (by kernel_rfl) (by kernel_rfl) (by kernel_rfl) (by kernel_rfl) (by kernel_rfl) (by kernel_rfl) (fun _ _ _ h => h) (Or.inl ⟨by rfl, ?_⟩) hHeld ?_
      rotate_left
      focus (intro w hSw; (try dsimp only at hSw); go_simp; try (with_reducible rfl))
      try simp only [Act.put, List.setIfInBounds_toArray, List.set_cons_zero, List.set_cons_succ]
      refine wpAnyL_take 16 (i := 8) (oi := ⟨some 20, _, _, _, _, _⟩) (v := ?_) rfl (by kernel_rfl) (by kernel_rfl) (by kernel_rfl) (by kernel_rfl) (by kernel_rfl) (by kernel_rfl) (by kernel_rfl) (fun _ _ _ h => h) (Or.inl ⟨by rfl, ?_⟩) hHeld ?_
      rotate_left
      focus (intro w hSw; (try dsimp only at hSw); go_simp; try (with_reducible rfl))
      try simp only [Act.put, List.setIfInBounds_toArray, List.set_cons_zero, List.set_cons_succ]
      clear hHeld
      refine wpAnyL_facts 16 2 4 [(3, 15), (6, 18)] (fun s v w => match s with
        | 15 => v = .string x1
        | 18 => v = .string x2
        | _ => True) (fun w w' => Below w.heap.size w w') (by kernel_rfl) (by kernel_rfl) (fun w w' h h' => h.trans (h'.mono h.size)) ⟨?_, ?_, trivial⟩ (fun w' hB => ⟨(hB.cell (p := ⟨wr.heap.size, 0, none⟩) hlt1).trans y0, (hB.cell (p := ⟨wr.heap.size, 1, none⟩) hlt1).trans y1, (hB.cell (p := ⟨wr.heap.size, 2, none⟩) hlt1).trans y2⟩) ⟨?_, ?_, trivial⟩ ?_
      focus
        intro v w w' h hB
        exact h
      focus
        intro v w w' h hB
        exact h
      focus
        intro vs w2 hBf hFf o ho K hK
        obtain rfl : (⟨some 15, _, _, _, _, _⟩ : Oper) = o := Option.some.inj ho
        clear ho
        (try simp only [fillL, List.foldl_cons, List.foldl_nil, Act.put, List.setIfInBounds_toArray, List.set_cons_zero, List.set_cons_succ] at hK ⊢)
        go_simp
        refine (cloneU_any x1 (by omega) w2).mono ?_
        rintro e w3 ⟨rfl, hB9⟩
        refine hK.out _ _ ⟨rfl, hB9⟩
      focus
        intro vs w2 hBf hFf o ho K hK
        obtain rfl : (⟨some 18, _, _, _, _, _⟩ : Oper) = o := Option.some.inj ho
        clear ho
        (try simp only [fillL, List.foldl_cons, List.foldl_nil, Act.put, List.setIfInBounds_toArray, List.set_cons_zero, List.set_cons_succ] at hK ⊢)
        go_simp
        refine (cloneU_any x2 (by omega) w2).mono ?_
        rintro e w3 ⟨rfl, hB9⟩
        refine hK.out _ _ ⟨rfl, hB9⟩
      intro vs w2 hBf hFf
      (try simp only [fillL, List.foldl_cons, List.foldl_nil, Act.put, List.setIfInBounds_toArray, List.set_cons_zero, List.set_cons_succ])
      have e1 : vs 15 = .string x1 := (hFf (3, 15) (by simp))
      have e2 : vs 18 = .string x2 := (hFf (6, 18) (by simp))
      simp only [e1, e2]
      have hBr2 : Below wr.heap.size wr w2 := HB1.out.trans (((Below.refl _ w1).drew.trans hBf).mono HB1.out.size)
      have hB02 : Below w.heap.size w w2 := hB.trans (hBr2.mono hB.size)
      have hs2 := hB02.size
      have hlt2 : wr.heap.size < w2.heap.size := Nat.lt_of_lt_of_le hlt1 hBf.size
      have q0 := (hBf.cell (p := ⟨wr.heap.size, 0, none⟩) hlt1).trans y0
      have q1 := (hBf.cell (p := ⟨wr.heap.size, 1, none⟩) hlt1).trans y1
      have q2 := (hBf.cell (p := ⟨wr.heap.size, 2, none⟩) hlt1).trans y2
      have hHeld : (fun W' => W'.cell? ⟨wr.heap.size, 0, none⟩ = some (.string x1) ∧ W'.cell? ⟨wr.heap.size, 1, none⟩ = some (.string x2) ∧ W'.cell? ⟨wr.heap.size, 2, none⟩ = some (.int .i64 x3)) w2 := ⟨q0, q1, q2⟩
      refine wpAnyL_take 16 (i := 9) (oi := ⟨some 21, _, _, _, _, _⟩) (v := ?_) rfl (by kernel_rfl) (by kernel_rfl) (by kernel_rfl) (by kernel_rfl) (by kernel_rfl) (by kernel_rfl) (by kernel_rfl) (fun _ _ _ h => h) (Or.inl ⟨by rfl, ?_⟩) hHeld ?_
      rotate_left
      focus (intro w hSw; (try dsimp only at hSw); go_simp; try (with_reducible rfl))
      try simp only [Act.put, List.setIfInBounds_toArray, List.set_cons_zero, List.set_cons_succ]
      refine wpAnyL_one (i := 10) (o := ⟨some 22, _, _, _, _, _⟩) (by kernel_rfl) rfl (fun K hK => ?_)
      clear hHeld
      go_simp
      have hHeld3 := (Below.refl w2.heap.size w2).alloc (Nat.le_refl _) (.cells #[.string x1, .string x2, .int .i64 x3] 30)
      refine hK.out _ _ ⟨(hHeld3.cell (p := ⟨wr.heap.size, 0, none⟩) hlt2).trans q0, (hHeld3.cell (p := ⟨wr.heap.size, 1, none⟩) hlt2).trans q1, (hHeld3.cell (p := ⟨wr.heap.size, 2, none⟩) hlt2).trans q2⟩ (fun hHeld => ?_)
      clear hK K
      try simp only [Act.put, List.setIfInBounds_toArray, List.set_cons_zero, List.set_cons_succ]
      refine wpAnyL_last (i := 11) (o := ⟨some 23, _, _, _, _, _⟩) (by kernel_rfl) rfl (by kernel_rfl) (fun K hK => ?_)
      refine step_append_lies (o := ⟨some 23, _, _, _, _, _⟩) _ (by rfl) _ _ 22 (by rfl) w.heap.size 30 i0 (.agg #[.string ByteArray.empty, .string ByteArray.empty, .int .i64 0]) 3 40 Try.underlying22 hi hz0 hz1 hz2 rfl (by omega) (.slice Av k cv) k (grs (l.take k)) (by rfl) (ownBelow HO'.out (hBr2.alloc hBr2.size _) (Nat.le_refl _)) ⟨w2.heap.size, 0, none⟩ 1 1 [.string x1, .string x2, .int .i64 x3] (by rfl) rfl (newsNew _ _ _) (by simp [Value.oneCell']) (by omega) (by unfold maxLen; omega) (by omega) (by simp; omega) _ rfl ?_
      intro g6 c6 x6 ho6 hg6 _ _
      have HB6 : Hid (Below w.heap.size w x6) := Lib.hid ((hB02.alloc hs2 _).grown hg6 (by simp; omega) (fun j e => (HO'.out.lt j e).1))
      have HO6 : Hid (ownGr x6 w.heap.size (.slice (some ⟨g6, 0, none⟩) (k + 1) c6) (l.take (k + 1))) := Lib.hid (by
        unfold ownGr
        rw [HTK.out, grs_snoc, List.length_append, hlk]
        exact ho6)
      clear ho6 hg6
      refine hK.out _ _ ?_
      clear hK K
      try simp only [Act.put, List.setIfInBounds_toArray, List.set_cons_zero, List.set_cons_succ]
      refine wpAnyL_last (i := 12) (o := ⟨some 3, _, _, _, _, _⟩) (by kernel_rfl) rfl (by kernel_rfl) (fun K hK => ?_)
      go_simp
      refine hK.out _ _ ?_
      clear hK K
      try simp only [Act.put, List.setIfInBounds_toArray, List.set_cons_zero, List.set_cons_succ]
      refine wpAnyL_done (by kernel_rfl) ?_ _
      refine NoPanic.normal ?_
      go_wp2
      go_roundw
      case rel => exact ⟨k + 1, by omega, by go_num, HO6, HB6.out⟩
      case measure => simp [intOf]; omega
    · obtain rfl : k = l.length := by omega
      have HO2 : Hid (ownGr wr w.heap.size (.slice Av l.length cv) l) := Lib.hid (by have := HO'.out; rw [List.take_length] at this; exact this)
      clear HO'
      go_wp2
      go_ret
      exact ⟨_, rfl, HO2.out, hB⟩

end Go.Proofs.Ytkokfmodoacflaa
