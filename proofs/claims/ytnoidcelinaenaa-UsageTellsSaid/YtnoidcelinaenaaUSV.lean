/-
  The reference's Changed. Conditions: the set reads.
-/
import Derived.Test.YtnoidcelinaenaaUSU
namespace Go.Proofs.Ytnoidcelinaenaa
open Go.ChangeShapes Go.WideShapes Go.ChangeAt Go.RowKit
set_option maxRecDepth 100000
set_option linter.unusedSimpArgs false

set_option maxHeartbeats 8000000 in
theorem refChanged_any (s : MSet) (w : World) (hs : SetU w s) :
    Calls Try.prog 15 #[.agg s.cells.toArray] w fun e w' => e = .returned (.int .i64 (chgS s)) ∧ Below w.heap.size w w' := by
  have hnn := hs.nn
  have hxl := (hs.bo _ (List.mem_of_getElem? (line_last s))).2
  obtain ⟨M, hM⟩ : ∃ M, prevM ((lineM s).map Sl.l) s.snaps_.l.length = M := ⟨_, rfl⟩
  have hR : chgS s = cntB M s.body_.l := by
    unfold chgS onlyL
    rw [hM, List.append_nil, List.getElem?_map, line_last]
    rfl
  rw [hR]
  obtain ⟨w1, hw1⟩ : ∃ w1, w.alloc (.cells #[.string s.path_, .string s.origin_, .slice s.body_.A s.body_.l.length s.body_.c, .slice s.snaps_.A s.snaps_.l.length s.snaps_.c, .slice s.own_.A s.own_.l.length s.own_.c] 32) = w1 := ⟨_, rfl⟩
  have hB1 : Below w.heap.size w w1 := hw1 ▸ (Below.refl _ w).alloc (Nat.le_refl _) _
  have k1 : Blk w1 w.heap.size 32 s.cells := hw1 ▸ Blk.new w _ _
  have HHAS : Hid (∀ (x : Bk) (q : Sl Bk) (W : World), q ∈ lineM s → Below w1.heap.size w1 W → Calls Try.prog 24 #[.slice q.A q.l.length q.c, bkV x] W fun e w' => e = .returned (.bool (memB q.l x)) ∧ Below W.heap.size W w') := Lib.hid fun x q W hq hW => refHas_any q.A q.c q.l (by have := (hs.bo q hq).2; omega) x W (((hs.bo q hq).1.below hB1).below hW)
  have HS1 := Lib.hid (hs.below hB1)
  have HK1 := Lib.hid k1
  have HW1 := Lib.hid hw1
  have HB1 := Lib.hid hB1
  have HMM := Lib.hid hM
  clear hw1 k1 hB1 hs hM hR
  go_enter Try.func15, Try.ntmps15
  go_wp2_with (rw [HW1.out])
  go_loopw [3, 4] (fun n i W => ∃ j : Nat, j ≤ s.body_.l.length ∧ n = .int .i64 ((cntB M (s.body_.l.take j) : Nat) : Int) ∧ i = .int .i64 j ∧ Below w1.heap.size w1 W) (fun _ i _ => s.body_.l.length - (intOf i).toNat)
  case atStart => exact ⟨0, Nat.zero_le _, by simp [cntB], rfl, Below.refl _ _⟩
  case round =>
    obtain ⟨i, hi, rfl, rfl, hB⟩ := hrel
    obtain ⟨wo, rfl⟩ : ∃ wo, wo = wr := ⟨_, rfl⟩
    have k1 := HK1.out.below hB HK1.out.lt
    have z2 := k1.cell 2
    have z3 := k1.cell 3
    simp only [List.getElem?_cons_zero, List.getElem?_cons_succ] at z2 z3
    have hcl := cntB_le M (s.body_.l.take i)
    have htl : (s.body_.l.take i).length ≤ s.body_.l.length := by rw [List.length_take]; omega
    by_cases hlt : i < s.body_.l.length
    · obtain ⟨x, hx⟩ : ∃ x, s.body_.l[i]? = some x := ⟨_, List.getElem?_eq_getElem hlt⟩
      obtain ⟨g, og, hyA, hg, d0, d1⟩ := ((HS1.out.bo _ (List.mem_of_getElem? (line_last s))).1.below hB).bk hx
      rw [hyA] at z2
      have HT := Lib.hid (cntB_take M hx)
      have hw9 : wrap64 (((cntB M (s.body_.l.take i) : Nat) : Int) + 1) = ((cntB M (s.body_.l.take i) : Nat) : Int) + 1 := IntWalk.wrap64_in _ (by omega)
      clear hx
      have hway : s.snaps_.l.length = 0 ∨ ∃ j, s.snaps_.l.length = j + 1 := by
        rcases s.snaps_.l.length with _ | j
        · exact .inl rfl
        · exact .inr ⟨j, rfl⟩
      rcases hway with hk0 | ⟨j, hkj⟩
      · have hq : ((s.snaps_.l.length : Int) == 0) = true := beq_iff_eq.2 (by omega)
        have HN : Hid (((cntB M (s.body_.l.take (i + 1)) : Nat) : Int) = ((cntB M (s.body_.l.take i) : Nat) : Int) + 1) := Lib.hid (by
          have hh : hitB M x = false := by rw [← HMM.out, hk0]; rfl
          rw [HT.out, hh, if_neg (by decide)]; omega)
        clear hk0 k1
        go_wp2_with fail
        go_big_quiet (fail)
        have hBZ := hB.trans (belowDrewN wo nq w1.heap.size)
        go_wp2
        go_roundw
        case rel => exact ⟨i + 1, by omega, by first | (rw [HN.out]; done) | rw [HN.out, hw9], by go_num, hBZ⟩
        case measure => simp [intOf]; omega
      · have hq : ((s.snaps_.l.length : Int) == 0) = false := beq_eq_false_iff_ne.2 (by omega)
        obtain ⟨q, hq0⟩ : ∃ q, s.snaps_.l[j]? = some q := ⟨_, List.getElem?_eq_getElem (by omega)⟩
        obtain ⟨b, off, hA, hb, hc⟩ := Rd.elem (cells := MSnap.cells) (n := 5) (fun _ => rfl) (by omega) (HS1.out.sn.below hB) hq0
        rw [hA] at z3
        have e2 := hc 2 (.slice q.body_.A q.body_.l.length q.body_.c) rfl
        rw [← Nat.add_assoc] at e2
        have HC := Lib.hid (fun W hW => HHAS.out x q.body_ W (List.mem_of_getElem? (line_at hq0)) hW)
        have HHIT : Hid (hitB M x = memB q.body_.l x) := Lib.hid (by
          rw [← HMM.out, hkj]
          unfold prevM
          simp only []
          rw [List.getElem?_map, line_at hq0]
          simp [hitB])
        have hw7 : IntKind.i64.wrap ((s.snaps_.l.length : Int) - 1) = (j : Int) := by rw [IntWalk.i64_in _ (by omega)]; omega
        have hjn : j < s.snaps_.l.length := by omega
        clear hc hq0 hkj k1
        go_wp2_with fail
        refine wp_region_noPanic ?_
        refine wp_region_last 19 (fun W => W.cell? ⟨w.heap.size, 2, none⟩ = some (.slice (some ⟨g, og, none⟩) s.body_.l.length s.body_.c) ∧ W.cell? ⟨w.heap.size, 3, none⟩ = some (.slice (some ⟨b, off, none⟩) s.snaps_.l.length s.snaps_.c) ∧ W.cell? ⟨b, off + j * 5 + 2, none⟩ = some (.slice q.body_.A q.body_.l.length q.body_.c) ∧ W.cell? ⟨g, og + i * 2, none⟩ = some (.int .i64 x.1) ∧ W.cell? ⟨g, og + i * 2 + 1, none⟩ = some (.string x.2)) (by kernel_rfl) ⟨z2, z3, e2, d0, d1⟩ (fun hHeld => ?_)
        refine wpAnyL_take 12 (i := 0) (oi := ⟨some 12, _, _, _, _, _⟩) (v := ?_) rfl (by kernel_rfl) (by kernel_rfl) (by kernel_rfl) (by kernel_rfl) (by kernel_rfl) (by kernel_rfl) (by kernel_rfl) (fun _ _ _ h => h) (Or.inl ⟨by rfl, ?_⟩) hHeld ?_
        rotate_left
        focus (intro w hSw; (try dsimp only at hSw); go_simp; try (with_reducible rfl))
        try simp only [Act.put, List.setIfInBounds_toArray, List.set_cons_zero, List.set_cons_succ]
        refine wpAnyL_take 12 (i := 1) (oi := ⟨some 13, _, _, _, _, _⟩) (v := ?_) rfl (by kernel_rfl) (by kernel_rfl) (by kernel_rfl) (by kernel_rfl) (by kernel_rfl) (by kernel_rfl) (by kernel_rfl) (fun _ _ _ h => h) (Or.inl ⟨by rfl, ?_⟩) hHeld ?_
        rotate_left
        focus (intro w hSw; (try dsimp only at hSw); go_simp; try (with_reducible rfl))
        try simp only [Act.put, List.setIfInBounds_toArray, List.set_cons_zero, List.set_cons_succ]
        refine wpAnyL_take 12 (i := 2) (oi := ⟨some 14, _, _, _, _, _⟩) (v := ?_) rfl (by kernel_rfl) (by kernel_rfl) (by kernel_rfl) (by kernel_rfl) (by kernel_rfl) (by kernel_rfl) (by kernel_rfl) (fun _ _ _ h => h) (Or.inl ⟨by rfl, ?_⟩) hHeld ?_
        rotate_left
        focus (intro w hSw; (try dsimp only at hSw); go_simp; try (with_reducible rfl))
        try simp only [Act.put, List.setIfInBounds_toArray, List.set_cons_zero, List.set_cons_succ]
        refine wpAnyL_take 12 (i := 3) (oi := ⟨some 15, _, _, _, _, _⟩) (v := ?_) rfl (by kernel_rfl) (by kernel_rfl) (by kernel_rfl) (by kernel_rfl) (by kernel_rfl) (by kernel_rfl) (by kernel_rfl) (fun _ _ _ h => h) (Or.inl ⟨by rfl, ?_⟩) hHeld ?_
        rotate_left
        focus (intro w hSw; (try dsimp only at hSw); go_simp; try (with_reducible rfl))
        try simp only [Act.put, List.setIfInBounds_toArray, List.set_cons_zero, List.set_cons_succ]
        refine wpAnyL_take 12 (i := 4) (oi := ⟨some 16, _, _, _, _, _⟩) (v := ?_) rfl (by kernel_rfl) (by kernel_rfl) (by kernel_rfl) (by kernel_rfl) (by kernel_rfl) (by kernel_rfl) (by kernel_rfl) (fun _ _ _ h => h) (Or.inl ⟨by rfl, ?_⟩) hHeld ?_
        rotate_left
        focus (intro w hSw; (try dsimp only at hSw); go_simp; try (with_reducible rfl))
        try simp only [Act.put, List.setIfInBounds_toArray, List.set_cons_zero, List.set_cons_succ]
        refine wpAnyL_take 12 (i := 5) (oi := ⟨some 17, _, _, _, _, _⟩) (v := ?_) rfl (by kernel_rfl) (by kernel_rfl) (by kernel_rfl) (by kernel_rfl) (by kernel_rfl) (by kernel_rfl) (by kernel_rfl) (fun _ _ _ h => h) (Or.inl ⟨by rfl, ?_⟩) hHeld ?_
        rotate_left
        focus (intro w hSw; (try dsimp only at hSw); go_simp; try (with_reducible rfl))
        try simp only [Act.put, List.setIfInBounds_toArray, List.set_cons_zero, List.set_cons_succ]
        refine wpAnyL_take 12 (i := 6) (oi := ⟨some 18, _, _, _, _, _⟩) (v := ?_) rfl (by kernel_rfl) (by kernel_rfl) (by kernel_rfl) (by kernel_rfl) (by kernel_rfl) (by kernel_rfl) (by kernel_rfl) (fun _ _ _ h => h) (Or.inl ⟨by rfl, ?_⟩) hHeld ?_
        rotate_left
        focus (intro w hSw; (try dsimp only at hSw); go_simp; try (with_reducible rfl))
        try simp only [Act.put, List.setIfInBounds_toArray, List.set_cons_zero, List.set_cons_succ]
        refine wpAnyL_take 12 (i := 7) (oi := ⟨some 19, _, _, _, _, _⟩) (v := ?_) rfl (by kernel_rfl) (by kernel_rfl) (by kernel_rfl) (by kernel_rfl) (by kernel_rfl) (by kernel_rfl) (by kernel_rfl) (fun _ _ _ h => h) (Or.inl ⟨by rfl, ?_⟩) hHeld ?_
        rotate_left
        focus (intro w hSw; (try dsimp only at hSw); go_simp; try (with_reducible rfl))
        try simp only [Act.put, List.setIfInBounds_toArray, List.set_cons_zero, List.set_cons_succ]
        refine wpAnyL_take 12 (i := 8) (oi := ⟨some 20, _, _, _, _, _⟩) (v := ?_) rfl (by kernel_rfl) (by kernel_rfl) (by kernel_rfl) (by kernel_rfl) (by kernel_rfl) (by kernel_rfl) (by kernel_rfl) (fun _ _ _ h => h) (Or.inl ⟨by rfl, ?_⟩) hHeld ?_
        rotate_left
        focus (intro w hSw; (try dsimp only at hSw); go_simp; try (with_reducible rfl))
        try simp only [Act.put, List.setIfInBounds_toArray, List.set_cons_zero, List.set_cons_succ]
        refine wpAnyL_take 12 (i := 9) (oi := ⟨some 21, _, _, _, _, _⟩) (v := ?_) rfl (by kernel_rfl) (by kernel_rfl) (by kernel_rfl) (by kernel_rfl) (by kernel_rfl) (by kernel_rfl) (by kernel_rfl) (fun _ _ _ h => h) (Or.inl ⟨by rfl, ?_⟩) hHeld ?_
        rotate_left
        focus (intro w hSw; (try dsimp only at hSw); go_simp; try (with_reducible rfl))
        try simp only [Act.put, List.setIfInBounds_toArray, List.set_cons_zero, List.set_cons_succ]
        refine wpAnyL_take 12 (i := 10) (oi := ⟨some 22, _, _, _, _, _⟩) (v := ?_) rfl (by kernel_rfl) (by kernel_rfl) (by kernel_rfl) (by kernel_rfl) (by kernel_rfl) (by kernel_rfl) (by kernel_rfl) (fun _ _ _ h => h) (Or.inl ⟨by rfl, ?_⟩) hHeld ?_
        rotate_left
        focus (intro w hSw; (try dsimp only at hSw); go_simp; try (with_reducible rfl))
        try simp only [Act.put, List.setIfInBounds_toArray, List.set_cons_zero, List.set_cons_succ]
        refine wpAnyL_take 12 (i := 11) (oi := ⟨some 23, _, _, _, _, _⟩) (v := ?_) rfl (by kernel_rfl) (by kernel_rfl) (by kernel_rfl) (by kernel_rfl) (by kernel_rfl) (by kernel_rfl) (by kernel_rfl) (fun _ _ _ h => h) (Or.inl ⟨by rfl, ?_⟩) hHeld ?_
        rotate_left
        focus (intro w hSw; (try dsimp only at hSw); go_simp; try (with_reducible rfl))
        try simp only [Act.put, List.setIfInBounds_toArray, List.set_cons_zero, List.set_cons_succ]
        refine wpAnyL_take 12 (i := 12) (oi := ⟨some 24, _, _, _, _, _⟩) (v := ?_) rfl (by kernel_rfl) (by kernel_rfl) (by kernel_rfl) (by kernel_rfl) (by kernel_rfl) (by kernel_rfl) (by kernel_rfl) (fun _ _ _ h => h) (Or.inl ⟨by rfl, ?_⟩) hHeld ?_
        rotate_left
        focus (intro w hSw; (try dsimp only at hSw); go_simp; try (with_reducible rfl))
        try simp only [Act.put, List.setIfInBounds_toArray, List.set_cons_zero, List.set_cons_succ]
        refine wpAnyL_take 12 (i := 13) (oi := ⟨some 25, _, _, _, _, _⟩) (v := ?_) rfl (by kernel_rfl) (by kernel_rfl) (by kernel_rfl) (by kernel_rfl) (by kernel_rfl) (by kernel_rfl) (by kernel_rfl) (fun _ _ _ h => h) (Or.inl ⟨by rfl, ?_⟩) hHeld ?_
        rotate_left
        focus (intro w hSw; (try dsimp only at hSw); go_simp; try (with_reducible rfl))
        try simp only [Act.put, List.setIfInBounds_toArray, List.set_cons_zero, List.set_cons_succ]
        refine wpAnyL_take 12 (i := 14) (oi := ⟨some 26, _, _, _, _, _⟩) (v := ?_) rfl (by kernel_rfl) (by kernel_rfl) (by kernel_rfl) (by kernel_rfl) (by kernel_rfl) (by kernel_rfl) (by kernel_rfl) (fun _ _ _ h => h) (Or.inl ⟨by rfl, ?_⟩) hHeld ?_
        rotate_left
        focus (intro w hSw; (try dsimp only at hSw); go_simp; try (with_reducible rfl))
        try simp only [Act.put, List.setIfInBounds_toArray, List.set_cons_zero, List.set_cons_succ]
        refine wpAnyL_take 12 (i := 15) (oi := ⟨some 27, _, _, _, _, _⟩) (v := ?_) rfl (by kernel_rfl) (by kernel_rfl) (by kernel_rfl) (by kernel_rfl) (by kernel_rfl) (by kernel_rfl) (by kernel_rfl) (fun _ _ _ h => h) (Or.inl ⟨by rfl, ?_⟩) hHeld ?_
        rotate_left
        focus (intro w hSw; (try dsimp only at hSw); go_simp; try (with_reducible rfl))
        try simp only [Act.put, List.setIfInBounds_toArray, List.set_cons_zero, List.set_cons_succ]
        refine wpAnyL_take 12 (i := 16) (oi := ⟨some 28, _, _, _, _, _⟩) (v := ?_) rfl (by kernel_rfl) (by kernel_rfl) (by kernel_rfl) (by kernel_rfl) (by kernel_rfl) (by kernel_rfl) (by kernel_rfl) (fun _ _ _ h => h) (Or.inl ⟨by rfl, ?_⟩) hHeld ?_
        rotate_left
        focus (intro w hSw; (try dsimp only at hSw); go_simp; try (with_reducible rfl))
        try simp only [Act.put, List.setIfInBounds_toArray, List.set_cons_zero, List.set_cons_succ]
        refine wpAnyL_take 12 (i := 17) (oi := ⟨some 29, _, _, _, _, _⟩) (v := ?_) rfl (by kernel_rfl) (by kernel_rfl) (by kernel_rfl) (by kernel_rfl) (by kernel_rfl) (by kernel_rfl) (by kernel_rfl) (fun _ _ _ h => h) (Or.inl ⟨by rfl, ?_⟩) hHeld ?_
        rotate_left
        focus (intro w hSw; (try dsimp only at hSw); go_simp; try (with_reducible rfl))
        try simp only [Act.put, List.setIfInBounds_toArray, List.set_cons_zero, List.set_cons_succ]
        refine wpAnyL_take 12 (i := 18) (oi := ⟨some 30, _, _, _, _, _⟩) (v := ?_) rfl (by kernel_rfl) (by kernel_rfl) (by kernel_rfl) (by kernel_rfl) (by kernel_rfl) (by kernel_rfl) (by kernel_rfl) (fun _ _ _ h => h) (Or.inl ⟨by rfl, ?_⟩) hHeld ?_
        rotate_left
        focus (intro w hSw; (try dsimp only at hSw); go_simp; try (with_reducible rfl))
        try simp only [Act.put, List.setIfInBounds_toArray, List.set_cons_zero, List.set_cons_succ]
        refine wpAnyL_last (i := 19) (o := ⟨some 31, _, _, _, _, _⟩) (by kernel_rfl) rfl (by kernel_rfl) (fun K hK => ?_)
        clear hHeld
        go_simp
        refine (HC.out _ (hB.trans ((Below.refl wo.heap.size wo).drew.mono hB.size))).mono ?_
        rintro e w4 ⟨rfl, hB4⟩
        have hBZ : Below w1.heap.size w1 w4 := hB.trans (((Below.refl wo.heap.size wo).drew.trans hB4).mono hB.size)
        go_wp2_with fail
        refine hK.out _ _ ?_
        clear hK K
        try simp only [Act.put, List.setIfInBounds_toArray, List.set_cons_zero, List.set_cons_succ]
        refine wpAnyL_takeW (i := 20) (oi := ⟨some 32, _, _, _, _, _⟩) (v := ?_) rfl (by kernel_rfl) (by kernel_rfl) (by kernel_rfl) (by kernel_rfl) (fun _ _ _ h => h) (Or.inl ⟨by rfl, ?_⟩) (.inl (by kernel_rfl)) ?_
        rotate_left
        focus (intro w hSw; (try dsimp only at hSw); go_simp; try (with_reducible rfl))
        try simp only [Act.put, List.setIfInBounds_toArray, List.set_cons_zero, List.set_cons_succ]
        refine wpAnyL_takeW (i := 21) (oi := ⟨some 33, _, _, _, _, _⟩) (v := ?_) rfl (by kernel_rfl) (by kernel_rfl) (by kernel_rfl) (by kernel_rfl) (fun _ _ _ h => h) (Or.inl ⟨by rfl, ?_⟩) (.inl (by kernel_rfl)) ?_
        rotate_left
        focus (intro w hSw; (try dsimp only at hSw); go_simp; try (with_reducible rfl))
        try simp only [Act.put, List.setIfInBounds_toArray, List.set_cons_zero, List.set_cons_succ]
        refine wpAnyL_done (by kernel_rfl) ?_ _
        refine NoPanic.normal ?_
        rcases hb2 : memB q.body_.l x with _ | _
        · have HN : Hid (((cntB M (s.body_.l.take (i + 1)) : Nat) : Int) = ((cntB M (s.body_.l.take i) : Nat) : Int) + 1) := Lib.hid (by rw [HT.out, HHIT.out, hb2, if_neg (by decide)]; omega)
          clear HC HHIT
          go_wp2
          go_roundw
          case rel => exact ⟨i + 1, by omega, by first | (rw [HN.out]; done) | rw [HN.out, hw9], by go_num, hBZ⟩
          case measure => simp [intOf]; omega
        · have HN : Hid (cntB M (s.body_.l.take (i + 1)) = cntB M (s.body_.l.take i)) := Lib.hid (by rw [HT.out, HHIT.out, hb2, if_pos rfl]; rfl)
          clear HC HHIT
          go_wp2
          go_roundw
          case rel => exact ⟨i + 1, by omega, by rw [HN.out], by go_num, hBZ⟩
          case measure => simp [intOf]; omega
    · obtain rfl : i = s.body_.l.length := by omega
      rw [List.take_length]
      clear k1
      go_wp2
      go_ret
      exact ⟨rfl, HB1.out.trans (hB.mono HB1.out.size)⟩

end Go.Proofs.Ytnoidcelinaenaa
