/-
  The reference's Unique. Conditions: the set reads.
-/
import Derived.Test.YtnoidcelinaenaaUSU
namespace Go.Proofs.Ytnoidcelinaenaa
open Go.ChangeShapes Go.WideShapes Go.ChangeAt Go.RowKit
set_option maxRecDepth 100000
set_option linter.unusedSimpArgs false

set_option maxHeartbeats 16000000 in
theorem refUnique_in (s : MSet) (k : Nat) (hk : k < s.snaps_.l.length) (w : World) (hs : SetU w s) :
    Calls Try.prog 13 #[.agg s.cells.toArray, .int .i64 k] w fun e w' => e = .returned (.int .i64 (onlyL ((lineM s).map Sl.l) k ((lineM s).map Sl.l)[k + 1]?.toList)) ∧ Below w.heap.size w w' := by
  have hnn := hs.nn
  obtain ⟨y, hy⟩ : ∃ y, s.snaps_.l[k]? = some y := ⟨_, List.getElem?_eq_getElem hk⟩
  have hxl := (hs.bo _ (List.mem_of_getElem? (line_at hy))).2
  obtain ⟨M, hM⟩ : ∃ M, prevM ((lineM s).map Sl.l) k ++ ((lineM s).map Sl.l)[k + 1]?.toList = M := ⟨_, rfl⟩
  have hR : onlyL ((lineM s).map Sl.l) k ((lineM s).map Sl.l)[k + 1]?.toList = cntB M y.body_.l := by
    unfold onlyL
    rw [hM, List.getElem?_map (i := k), line_at hy]
    rfl
  rw [hR]
  obtain ⟨b, off, hA, _⟩ := Rd.elem (cells := MSnap.cells) (n := 5) (fun _ => rfl) (by omega) hs.sn hy
  obtain ⟨w1, hw1⟩ : ∃ w1, w.alloc (.cells #[.string s.path_, .string s.origin_, .slice s.body_.A s.body_.l.length s.body_.c, .slice s.snaps_.A s.snaps_.l.length s.snaps_.c, .slice s.own_.A s.own_.l.length s.own_.c] 32) = w1 := ⟨_, rfl⟩
  have hB1 : Below w.heap.size w w1 := hw1 ▸ (Below.refl _ w).alloc (Nat.le_refl _) _
  have k1 : Blk w1 w.heap.size 32 s.cells := hw1 ▸ Blk.new w _ _
  have z3 := k1.cell 3
  simp only [List.getElem?_cons_zero, List.getElem?_cons_succ] at z3
  have HAT : Hid (∀ W, Below w1.heap.size w1 W → SetAt b off w.heap.size s W) := Lib.hid fun W hW => setAt_of k1 hA (hs.below hB1) hW
  have HHAS : Hid (∀ (x : Bk) (q : Sl Bk) (W : World), q ∈ lineM s → Below w1.heap.size w1 W → Calls Try.prog 24 #[.slice q.A q.l.length q.c, bkV x] W fun e w' => e = .returned (.bool (memB q.l x)) ∧ Below W.heap.size W w') := Lib.hid fun x q W hq hW => refHas_any q.A q.c q.l (by have := (hs.bo q hq).2; omega) x W (((hs.bo q hq).1.below hB1).below hW)
  have HW1 := Lib.hid hw1
  have HB1 := Lib.hid hB1
  have HY := Lib.hid hy
  have HMM := Lib.hid hM
  have hlt0 : ¬ (k : Int) < 0 := by omega
  clear hw1 k1 hB1 hs hy hM hR
  go_enter Try.func13, Try.ntmps13
  go_wp2_with (rw [HW1.out])
  clear z3
  go_loopw [5, 6] (fun n i W => ∃ j : Nat, j ≤ y.body_.l.length ∧ n = .int .i64 ((cntB M (y.body_.l.take j) : Nat) : Int) ∧ i = .int .i64 j ∧ Below w1.heap.size w1 W) (fun _ i _ => y.body_.l.length - (intOf i).toNat)
  case atStart => exact ⟨0, Nat.zero_le _, by simp [cntB], rfl, Below.refl _ _⟩
  case round =>
    obtain ⟨i, hi, rfl, rfl, hB⟩ := hrel
    obtain ⟨wo, rfl⟩ : ∃ wo, wo = wr := ⟨_, rfl⟩
    have hSA := HAT.out wo hB
    have z2 := hSA.z2
    have z3 := hSA.z3
    have yk := hSA.el k y HY.out
    have hcl := cntB_le M (y.body_.l.take i)
    have htl : (y.body_.l.take i).length ≤ y.body_.l.length := by rw [List.length_take]; omega
    by_cases hlt : i < y.body_.l.length
    · obtain ⟨x, hx⟩ : ∃ x, y.body_.l[i]? = some x := ⟨_, List.getElem?_eq_getElem hlt⟩
      obtain ⟨g, og, hyA, hg, d0, d1⟩ := (hSA.rd _ (List.mem_of_getElem? (line_at HY.out))).1.bk hx
      rw [hyA] at yk
      obtain ⟨w2, hw2⟩ : ∃ w2, wo.alloc (.cells #[.int .i64 x.1, .string x.2] 65) = w2 := ⟨_, rfl⟩
      have hB2 : Below wo.heap.size wo w2 := hw2 ▸ (Below.refl _ wo).alloc (Nat.le_refl _) _
      have kb : Blk w2 wo.heap.size 65 [.int .i64 x.1, .string x.2] := hw2 ▸ Blk.new wo _ _
      have hX2 := hB.trans (hB2.mono hB.size)
      have HT := Lib.hid (cntB_take M hx)
      have HW2 := Lib.hid hw2
      have HKB := Lib.hid kb
      have HX2 := Lib.hid hX2
      have hlb : wo.heap.size < w2.heap.size := kb.lt
      clear hx hw2 hSA kb
      have hway : k = 0 ∨ ∃ j, k = j + 1 := by
        rcases k with _ | j
        · exact .inl rfl
        · exact .inr ⟨j, rfl⟩
      rcases hway with hk0 | ⟨j, hkj⟩

      · have HZ : Hid (hitB (prevM ((lineM s).map Sl.l) k) x = false) := Lib.hid (by rw [hk0]; rfl)
        have hn0 : ¬ 0 < k := by omega
        have hd0 : decide (0 < k) = false := decide_eq_false hn0
        clear hk0
        go_wp2_with (rw [HW2.out])
        go_big_quiet (fail)
        obtain ⟨w4, hw4⟩ : ∃ w4, w2.drewN nq = w4 := ⟨_, rfl⟩
        have hBX : Below w2.heap.size w2 w4 := hw4 ▸ belowDrewN _ _ _
        rw [hw4]
        clear hw4
        have hX4 : Below w1.heap.size w1 w4 := HX2.out.trans (hBX.mono HX2.out.size)
        have hS4 := HAT.out w4 hX4
        have z2' := hS4.z2
        have z3' := hS4.z3
        have k4 := HKB.out.below hBX hlb
        have x0' := k4.cell 0
        have x1' := k4.cell 1
        simp only [List.getElem?_cons_zero, List.getElem?_cons_succ] at x0' x1'
        have hw8 : wrap64 ((s.snaps_.l.length : Int) - 1) = (s.snaps_.l.length : Int) - 1 := IntWalk.wrap64_in _ (by omega)
        by_cases hlast : k + 1 = s.snaps_.l.length
        · have hq : ((k : Int) == (s.snaps_.l.length : Int) - 1) = true := beq_iff_eq.2 (by omega)
          obtain ⟨nx, hnx⟩ : ∃ nx, s.body_ = nx := ⟨_, rfl⟩
          have HNX : Hid ((lineM s)[k + 1]? = some nx) := Lib.hid (by rw [← hnx, hlast]; exact line_last s)
          rw [hnx] at z2'
          have HHITM : Hid (hitB M x = (hitB (prevM ((lineM s).map Sl.l) (k)) x || memB nx.l x)) := Lib.hid (by
            rw [← HMM.out, hit_append, List.getElem?_map, HNX.out]
            simp [hitB])
          have HC2 := Lib.hid (fun W (hW : Below w4.heap.size w4 W) => HHAS.out x nx W (List.mem_of_getElem? HNX.out) (hX4.trans (hW.mono hX4.size)))
          clear hlast
          go_wp2_with fail
          refine (HC2.out w4 (Below.refl _ _)).mono ?_
          rintro e w5 ⟨rfl, hB5⟩
          have hBZ := hX4.trans (hB5.mono hX4.size)
          rcases hb2 : memB nx.l x with _ | _
          · have HHIT : hitB M x = false := by rw [HHITM.out, HZ.out, hb2]; rfl
            clear HC2 HHITM k4 hS4
            have HN : Hid (((cntB M (y.body_.l.take (i + 1)) : Nat) : Int) = ((cntB M (y.body_.l.take i) : Nat) : Int) + 1) := Lib.hid (by rw [HT.out, HHIT, if_neg (by decide)]; omega)
            have hw9 : wrap64 (((cntB M (y.body_.l.take i) : Nat) : Int) + 1) = ((cntB M (y.body_.l.take i) : Nat) : Int) + 1 := IntWalk.wrap64_in _ (by omega)
            clear HHIT
            go_wp2
            go_roundw
            case rel => exact ⟨i + 1, by omega, by first | (rw [HN.out]; done) | rw [HN.out, hw9], by go_num, hBZ⟩
            case measure => simp [intOf]; omega
          · have HHIT : hitB M x = true := by rw [HHITM.out, HZ.out, hb2]; rfl
            clear HC2 HHITM k4 hS4
            have HN : Hid (cntB M (y.body_.l.take (i + 1)) = cntB M (y.body_.l.take i)) := Lib.hid (by rw [HT.out, HHIT, if_pos rfl]; rfl)
            clear HHIT
            go_wp2
            go_roundw
            case rel => exact ⟨i + 1, by omega, by rw [HN.out], by go_num, hBZ⟩
            case measure => simp [intOf]; omega
        · have hq : ((k : Int) == (s.snaps_.l.length : Int) - 1) = false := beq_eq_false_iff_ne.2 (by omega)
          obtain ⟨ny, hny⟩ : ∃ ny, s.snaps_.l[k + 1]? = some ny := ⟨_, List.getElem?_eq_getElem (by omega)⟩
          obtain ⟨nx, hnx⟩ : ∃ nx, ny.body_ = nx := ⟨_, rfl⟩
          have HNX : Hid ((lineM s)[k + 1]? = some nx) := Lib.hid (by rw [← hnx]; exact line_at hny)
          obtain ⟨k1, hk1⟩ : ∃ k1, k + 1 = k1 := ⟨_, rfl⟩
          rw [hk1] at hny HNX
          have nk := hS4.el k1 ny hny
          rw [hnx] at nk
          have hwk : IntKind.i64.wrap ((k : Int) + 1) = (k1 : Int) := by rw [IntWalk.i64_in _ (by omega)]; omega
          have hkn : k1 < s.snaps_.l.length := by omega
          have HHITM : Hid (hitB M x = (hitB (prevM ((lineM s).map Sl.l) (k)) x || memB nx.l x)) := Lib.hid (by
            rw [← HMM.out, hit_append, List.getElem?_map, hk1, HNX.out]
            simp [hitB])
          have HC2 := Lib.hid (fun W (hW : Below w4.heap.size w4 W) => HHAS.out x nx W (List.mem_of_getElem? HNX.out) (hX4.trans (hW.mono hX4.size)))
          clear hlast
          go_wp2_with fail
          refine wp_region_noPanic ?_
          refine wp_region_last 10 (fun W => W.cell? ⟨w.heap.size, 3, none⟩ = some (.slice (some ⟨b, off, none⟩) s.snaps_.l.length s.snaps_.c) ∧ W.cell? ⟨b, off + k1 * 5 + 2, none⟩ = some (.slice nx.A nx.l.length nx.c) ∧ W.cell? ⟨wo.heap.size, 0, none⟩ = some (.int .i64 x.1) ∧ W.cell? ⟨wo.heap.size, 1, none⟩ = some (.string x.2)) (by kernel_rfl) ⟨z3', nk, x0', x1'⟩ (fun hHeld => ?_)
          refine wpAnyL_take 12 (i := 0) (oi := ⟨some 64, _, _, _, _, _⟩) (v := ?_) rfl (by kernel_rfl) (by kernel_rfl) (by kernel_rfl) (by kernel_rfl) (by kernel_rfl) (by kernel_rfl) (by kernel_rfl) (fun _ _ _ h => h) (Or.inl ⟨by rfl, ?_⟩) hHeld ?_
          rotate_left
          focus (intro w hSw; (try dsimp only at hSw); go_simp; try (with_reducible rfl))
          try simp only [Act.put, List.setIfInBounds_toArray, List.set_cons_zero, List.set_cons_succ]
          refine wpAnyL_take 12 (i := 1) (oi := ⟨some 65, _, _, _, _, _⟩) (v := ?_) rfl (by kernel_rfl) (by kernel_rfl) (by kernel_rfl) (by kernel_rfl) (by kernel_rfl) (by kernel_rfl) (by kernel_rfl) (fun _ _ _ h => h) (Or.inl ⟨by rfl, ?_⟩) hHeld ?_
          rotate_left
          focus (intro w hSw; (try dsimp only at hSw); go_simp; try (with_reducible rfl))
          try simp only [Act.put, List.setIfInBounds_toArray, List.set_cons_zero, List.set_cons_succ]
          refine wpAnyL_take 12 (i := 2) (oi := ⟨some 66, _, _, _, _, _⟩) (v := ?_) rfl (by kernel_rfl) (by kernel_rfl) (by kernel_rfl) (by kernel_rfl) (by kernel_rfl) (by kernel_rfl) (by kernel_rfl) (fun _ _ _ h => h) (Or.inl ⟨by rfl, ?_⟩) hHeld ?_
          rotate_left
          focus (intro w hSw; (try dsimp only at hSw); go_simp; try (with_reducible rfl))
          try simp only [Act.put, List.setIfInBounds_toArray, List.set_cons_zero, List.set_cons_succ]
          refine wpAnyL_take 12 (i := 3) (oi := ⟨some 67, _, _, _, _, _⟩) (v := ?_) rfl (by kernel_rfl) (by kernel_rfl) (by kernel_rfl) (by kernel_rfl) (by kernel_rfl) (by kernel_rfl) (by kernel_rfl) (fun _ _ _ h => h) (Or.inl ⟨by rfl, ?_⟩) hHeld ?_
          rotate_left
          focus (intro w hSw; (try dsimp only at hSw); go_simp; try (with_reducible rfl))
          try simp only [Act.put, List.setIfInBounds_toArray, List.set_cons_zero, List.set_cons_succ]
          refine wpAnyL_take 12 (i := 4) (oi := ⟨some 68, _, _, _, _, _⟩) (v := ?_) rfl (by kernel_rfl) (by kernel_rfl) (by kernel_rfl) (by kernel_rfl) (by kernel_rfl) (by kernel_rfl) (by kernel_rfl) (fun _ _ _ h => h) (Or.inl ⟨by rfl, ?_⟩) hHeld ?_
          rotate_left
          focus (intro w hSw; (try dsimp only at hSw); go_simp; try (with_reducible rfl))
          try simp only [Act.put, List.setIfInBounds_toArray, List.set_cons_zero, List.set_cons_succ]
          refine wpAnyL_take 12 (i := 5) (oi := ⟨some 69, _, _, _, _, _⟩) (v := ?_) rfl (by kernel_rfl) (by kernel_rfl) (by kernel_rfl) (by kernel_rfl) (by kernel_rfl) (by kernel_rfl) (by kernel_rfl) (fun _ _ _ h => h) (Or.inl ⟨by rfl, ?_⟩) hHeld ?_
          rotate_left
          focus (intro w hSw; (try dsimp only at hSw); go_simp; try (with_reducible rfl))
          try simp only [Act.put, List.setIfInBounds_toArray, List.set_cons_zero, List.set_cons_succ]
          refine wpAnyL_take 12 (i := 6) (oi := ⟨some 70, _, _, _, _, _⟩) (v := ?_) rfl (by kernel_rfl) (by kernel_rfl) (by kernel_rfl) (by kernel_rfl) (by kernel_rfl) (by kernel_rfl) (by kernel_rfl) (fun _ _ _ h => h) (Or.inl ⟨by rfl, ?_⟩) hHeld ?_
          rotate_left
          focus (intro w hSw; (try dsimp only at hSw); go_simp; try (with_reducible rfl))
          try simp only [Act.put, List.setIfInBounds_toArray, List.set_cons_zero, List.set_cons_succ]
          refine wpAnyL_take 12 (i := 7) (oi := ⟨some 71, _, _, _, _, _⟩) (v := ?_) rfl (by kernel_rfl) (by kernel_rfl) (by kernel_rfl) (by kernel_rfl) (by kernel_rfl) (by kernel_rfl) (by kernel_rfl) (fun _ _ _ h => h) (Or.inl ⟨by rfl, ?_⟩) hHeld ?_
          rotate_left
          focus (intro w hSw; (try dsimp only at hSw); go_simp; try (with_reducible rfl))
          try simp only [Act.put, List.setIfInBounds_toArray, List.set_cons_zero, List.set_cons_succ]
          refine wpAnyL_take 12 (i := 8) (oi := ⟨some 72, _, _, _, _, _⟩) (v := ?_) rfl (by kernel_rfl) (by kernel_rfl) (by kernel_rfl) (by kernel_rfl) (by kernel_rfl) (by kernel_rfl) (by kernel_rfl) (fun _ _ _ h => h) (Or.inl ⟨by rfl, ?_⟩) hHeld ?_
          rotate_left
          focus (intro w hSw; (try dsimp only at hSw); go_simp; try (with_reducible rfl))
          try simp only [Act.put, List.setIfInBounds_toArray, List.set_cons_zero, List.set_cons_succ]
          refine wpAnyL_take 12 (i := 9) (oi := ⟨some 73, _, _, _, _, _⟩) (v := ?_) rfl (by kernel_rfl) (by kernel_rfl) (by kernel_rfl) (by kernel_rfl) (by kernel_rfl) (by kernel_rfl) (by kernel_rfl) (fun _ _ _ h => h) (Or.inl ⟨by rfl, ?_⟩) hHeld ?_
          rotate_left
          focus (intro w hSw; (try dsimp only at hSw); go_simp; try (with_reducible rfl))
          try simp only [Act.put, List.setIfInBounds_toArray, List.set_cons_zero, List.set_cons_succ]
          refine wpAnyL_last (i := 10) (o := ⟨some 74, _, _, _, _, _⟩) (by kernel_rfl) rfl (by kernel_rfl) (fun K hK => ?_)
          clear hHeld
          go_simp
          refine (HC2.out _ (Below.refl w4.heap.size w4).drew).mono ?_
          rintro e w5 ⟨rfl, hB5⟩
          have hBZ : Below w1.heap.size w1 w5 := hX4.trans (((Below.refl w4.heap.size w4).drew.trans hB5).mono hX4.size)
          go_wp2_with fail
          refine hK.out _ _ ?_
          clear hK K
          try simp only [Act.put, List.setIfInBounds_toArray, List.set_cons_zero, List.set_cons_succ]
          refine wpAnyL_takeW (i := 11) (oi := ⟨some 75, _, _, _, _, _⟩) (v := ?_) rfl (by kernel_rfl) (by kernel_rfl) (by kernel_rfl) (by kernel_rfl) (fun _ _ _ h => h) (Or.inl ⟨by rfl, ?_⟩) (.inl (by kernel_rfl)) ?_
          rotate_left
          focus (intro w hSw; (try dsimp only at hSw); go_simp; try (with_reducible rfl))
          try simp only [Act.put, List.setIfInBounds_toArray, List.set_cons_zero, List.set_cons_succ]
          refine wpAnyL_takeW (i := 12) (oi := ⟨some 8, _, _, _, _, _⟩) (v := ?_) rfl (by kernel_rfl) (by kernel_rfl) (by kernel_rfl) (by kernel_rfl) (fun _ _ _ h => h) (Or.inl ⟨by rfl, ?_⟩) (.inl (by kernel_rfl)) ?_
          rotate_left
          focus (intro w hSw; (try dsimp only at hSw); go_simp; try (with_reducible rfl))
          try simp only [Act.put, List.setIfInBounds_toArray, List.set_cons_zero, List.set_cons_succ]
          refine wpAnyL_done (by kernel_rfl) ?_ _
          refine NoPanic.normal ?_
          rcases hb2 : memB nx.l x with _ | _
          · have HHIT : hitB M x = false := by rw [HHITM.out, HZ.out, hb2]; rfl
            clear HC2 HHITM k4 hS4
            have HN : Hid (((cntB M (y.body_.l.take (i + 1)) : Nat) : Int) = ((cntB M (y.body_.l.take i) : Nat) : Int) + 1) := Lib.hid (by rw [HT.out, HHIT, if_neg (by decide)]; omega)
            have hw9 : wrap64 (((cntB M (y.body_.l.take i) : Nat) : Int) + 1) = ((cntB M (y.body_.l.take i) : Nat) : Int) + 1 := IntWalk.wrap64_in _ (by omega)
            clear HHIT
            go_wp2
            go_roundw
            case rel => exact ⟨i + 1, by omega, by first | (rw [HN.out]; done) | rw [HN.out, hw9], by go_num, hBZ⟩
            case measure => simp [intOf]; omega
          · have HHIT : hitB M x = true := by rw [HHITM.out, HZ.out, hb2]; rfl
            clear HC2 HHITM k4 hS4
            have HN : Hid (cntB M (y.body_.l.take (i + 1)) = cntB M (y.body_.l.take i)) := Lib.hid (by rw [HT.out, HHIT, if_pos rfl]; rfl)
            clear HHIT
            go_wp2
            go_roundw
            case rel => exact ⟨i + 1, by omega, by rw [HN.out], by go_num, hBZ⟩
            case measure => simp [intOf]; omega
      · obtain ⟨q, hq0⟩ : ∃ q, s.snaps_.l[j]? = some q := ⟨_, List.getElem?_eq_getElem (by omega)⟩
        have hS2 := HAT.out w2 HX2.out
        have e3 := hS2.z3
        have eq := hS2.el j q hq0
        have x0 := HKB.out.cell 0
        have x1 := HKB.out.cell 1
        simp only [List.getElem?_cons_zero, List.getElem?_cons_succ] at x0 x1
        have HC := Lib.hid (fun W hW => HHAS.out x q.body_ W (List.mem_of_getElem? (line_at hq0)) hW)
        have HB1B : Hid (hitB (prevM ((lineM s).map Sl.l) k) x = memB q.body_.l x) := Lib.hid (by
          rw [hkj]
          unfold prevM
          simp only []
          rw [List.getElem?_map, line_at hq0]
          simp [hitB])
        generalize memB q.body_.l x = b1 at *
        have hw7 : IntKind.i64.wrap ((k : Int) - 1) = (j : Int) := by rw [IntWalk.i64_in _ (by omega)]; omega
        have hjn : j < s.snaps_.l.length := by omega
        have hp0 : 0 < k := by omega
        have hd0 : decide (0 < k) = true := decide_eq_true hp0
        clear hS2 hq0 hkj
        go_wp2_with (rw [HW2.out])
        refine wp_region_noPanic ?_
        refine wp_region_last 11 (fun W => W.cell? ⟨w.heap.size, 3, none⟩ = some (.slice (some ⟨b, off, none⟩) s.snaps_.l.length s.snaps_.c) ∧ W.cell? ⟨b, off + j * 5 + 2, none⟩ = some (.slice q.body_.A q.body_.l.length q.body_.c) ∧ W.cell? ⟨wo.heap.size, 0, none⟩ = some (.int .i64 x.1) ∧ W.cell? ⟨wo.heap.size, 1, none⟩ = some (.string x.2)) (by kernel_rfl) ⟨e3, eq, x0, x1⟩ (fun hHeld => ?_)
        refine wpAnyL_take 12 (i := 0) (oi := ⟨some 38, _, _, _, _, _⟩) (v := ?_) rfl (by kernel_rfl) (by kernel_rfl) (by kernel_rfl) (by kernel_rfl) (by kernel_rfl) (by kernel_rfl) (by kernel_rfl) (fun _ _ _ h => h) (Or.inl ⟨by rfl, ?_⟩) hHeld ?_
        rotate_left
        focus (intro w hSw; (try dsimp only at hSw); go_simp; try (with_reducible rfl))
        try simp only [Act.put, List.setIfInBounds_toArray, List.set_cons_zero, List.set_cons_succ]
        refine wpAnyL_take 12 (i := 1) (oi := ⟨some 39, _, _, _, _, _⟩) (v := ?_) rfl (by kernel_rfl) (by kernel_rfl) (by kernel_rfl) (by kernel_rfl) (by kernel_rfl) (by kernel_rfl) (by kernel_rfl) (fun _ _ _ h => h) (Or.inl ⟨by rfl, ?_⟩) hHeld ?_
        rotate_left
        focus (intro w hSw; (try dsimp only at hSw); go_simp; try (with_reducible rfl))
        try simp only [Act.put, List.setIfInBounds_toArray, List.set_cons_zero, List.set_cons_succ]
        refine wpAnyL_take 12 (i := 2) (oi := ⟨some 40, _, _, _, _, _⟩) (v := ?_) rfl (by kernel_rfl) (by kernel_rfl) (by kernel_rfl) (by kernel_rfl) (by kernel_rfl) (by kernel_rfl) (by kernel_rfl) (fun _ _ _ h => h) (Or.inl ⟨by rfl, ?_⟩) hHeld ?_
        rotate_left
        focus (intro w hSw; (try dsimp only at hSw); go_simp; try (with_reducible rfl))
        try simp only [Act.put, List.setIfInBounds_toArray, List.set_cons_zero, List.set_cons_succ]
        refine wpAnyL_take 12 (i := 3) (oi := ⟨some 41, _, _, _, _, _⟩) (v := ?_) rfl (by kernel_rfl) (by kernel_rfl) (by kernel_rfl) (by kernel_rfl) (by kernel_rfl) (by kernel_rfl) (by kernel_rfl) (fun _ _ _ h => h) (Or.inl ⟨by rfl, ?_⟩) hHeld ?_
        rotate_left
        focus (intro w hSw; (try dsimp only at hSw); go_simp; try (with_reducible rfl))
        try simp only [Act.put, List.setIfInBounds_toArray, List.set_cons_zero, List.set_cons_succ]
        refine wpAnyL_take 12 (i := 4) (oi := ⟨some 42, _, _, _, _, _⟩) (v := ?_) rfl (by kernel_rfl) (by kernel_rfl) (by kernel_rfl) (by kernel_rfl) (by kernel_rfl) (by kernel_rfl) (by kernel_rfl) (fun _ _ _ h => h) (Or.inl ⟨by rfl, ?_⟩) hHeld ?_
        rotate_left
        focus (intro w hSw; (try dsimp only at hSw); go_simp; try (with_reducible rfl))
        try simp only [Act.put, List.setIfInBounds_toArray, List.set_cons_zero, List.set_cons_succ]
        refine wpAnyL_take 12 (i := 5) (oi := ⟨some 43, _, _, _, _, _⟩) (v := ?_) rfl (by kernel_rfl) (by kernel_rfl) (by kernel_rfl) (by kernel_rfl) (by kernel_rfl) (by kernel_rfl) (by kernel_rfl) (fun _ _ _ h => h) (Or.inl ⟨by rfl, ?_⟩) hHeld ?_
        rotate_left
        focus (intro w hSw; (try dsimp only at hSw); go_simp; try (with_reducible rfl))
        try simp only [Act.put, List.setIfInBounds_toArray, List.set_cons_zero, List.set_cons_succ]
        refine wpAnyL_take 12 (i := 6) (oi := ⟨some 44, _, _, _, _, _⟩) (v := ?_) rfl (by kernel_rfl) (by kernel_rfl) (by kernel_rfl) (by kernel_rfl) (by kernel_rfl) (by kernel_rfl) (by kernel_rfl) (fun _ _ _ h => h) (Or.inl ⟨by rfl, ?_⟩) hHeld ?_
        rotate_left
        focus (intro w hSw; (try dsimp only at hSw); go_simp; try (with_reducible rfl))
        try simp only [Act.put, List.setIfInBounds_toArray, List.set_cons_zero, List.set_cons_succ]
        refine wpAnyL_take 12 (i := 7) (oi := ⟨some 45, _, _, _, _, _⟩) (v := ?_) rfl (by kernel_rfl) (by kernel_rfl) (by kernel_rfl) (by kernel_rfl) (by kernel_rfl) (by kernel_rfl) (by kernel_rfl) (fun _ _ _ h => h) (Or.inl ⟨by rfl, ?_⟩) hHeld ?_
        rotate_left
        focus (intro w hSw; (try dsimp only at hSw); go_simp; try (with_reducible rfl))
        try simp only [Act.put, List.setIfInBounds_toArray, List.set_cons_zero, List.set_cons_succ]
        refine wpAnyL_take 12 (i := 8) (oi := ⟨some 46, _, _, _, _, _⟩) (v := ?_) rfl (by kernel_rfl) (by kernel_rfl) (by kernel_rfl) (by kernel_rfl) (by kernel_rfl) (by kernel_rfl) (by kernel_rfl) (fun _ _ _ h => h) (Or.inl ⟨by rfl, ?_⟩) hHeld ?_
        rotate_left
        focus (intro w hSw; (try dsimp only at hSw); go_simp; try (with_reducible rfl))
        try simp only [Act.put, List.setIfInBounds_toArray, List.set_cons_zero, List.set_cons_succ]
        refine wpAnyL_take 12 (i := 9) (oi := ⟨some 47, _, _, _, _, _⟩) (v := ?_) rfl (by kernel_rfl) (by kernel_rfl) (by kernel_rfl) (by kernel_rfl) (by kernel_rfl) (by kernel_rfl) (by kernel_rfl) (fun _ _ _ h => h) (Or.inl ⟨by rfl, ?_⟩) hHeld ?_
        rotate_left
        focus (intro w hSw; (try dsimp only at hSw); go_simp; try (with_reducible rfl))
        try simp only [Act.put, List.setIfInBounds_toArray, List.set_cons_zero, List.set_cons_succ]
        refine wpAnyL_take 12 (i := 10) (oi := ⟨some 48, _, _, _, _, _⟩) (v := ?_) rfl (by kernel_rfl) (by kernel_rfl) (by kernel_rfl) (by kernel_rfl) (by kernel_rfl) (by kernel_rfl) (by kernel_rfl) (fun _ _ _ h => h) (Or.inl ⟨by rfl, ?_⟩) hHeld ?_
        rotate_left
        focus (intro w hSw; (try dsimp only at hSw); go_simp; try (with_reducible rfl))
        try simp only [Act.put, List.setIfInBounds_toArray, List.set_cons_zero, List.set_cons_succ]
        refine wpAnyL_last (i := 11) (o := ⟨some 49, _, _, _, _, _⟩) (by kernel_rfl) rfl (by kernel_rfl) (fun K hK => ?_)
        clear hHeld
        go_simp
        refine (HC.out _ (HX2.out.trans ((Below.refl w2.heap.size w2).drew.mono HX2.out.size))).mono ?_
        rintro e w4 ⟨rfl, hB4⟩
        have hB24 : Below w2.heap.size w2 w4 := (Below.refl w2.heap.size w2).drew.trans hB4
        go_wp2_with fail
        refine hK.out _ _ ?_
        clear hK K
        try simp only [Act.put, List.setIfInBounds_toArray, List.set_cons_zero, List.set_cons_succ]
        refine wpAnyL_takeW (i := 12) (oi := ⟨some 50, _, _, _, _, _⟩) (v := ?_) rfl (by kernel_rfl) (by kernel_rfl) (by kernel_rfl) (by kernel_rfl) (fun _ _ _ h => h) (Or.inl ⟨by rfl, ?_⟩) (.inl (by kernel_rfl)) ?_
        rotate_left
        focus (intro w hSw; (try dsimp only at hSw); go_simp; try (with_reducible rfl))
        try simp only [Act.put, List.setIfInBounds_toArray, List.set_cons_zero, List.set_cons_succ]
        refine wpAnyL_takeW (i := 13) (oi := ⟨some 8, _, _, _, _, _⟩) (v := ?_) rfl (by kernel_rfl) (by kernel_rfl) (by kernel_rfl) (by kernel_rfl) (fun _ _ _ h => h) (Or.inl ⟨by rfl, ?_⟩) (.inl (by kernel_rfl)) ?_
        rotate_left
        focus (intro w hSw; (try dsimp only at hSw); go_simp; try (with_reducible rfl))
        try simp only [Act.put, List.setIfInBounds_toArray, List.set_cons_zero, List.set_cons_succ]
        refine wpAnyL_done (by kernel_rfl) ?_ _
        refine NoPanic.normal ?_
        have hBX := hB24
        clear hB4 HC
        have hX4 : Below w1.heap.size w1 w4 := HX2.out.trans (hBX.mono HX2.out.size)
        have hS4 := HAT.out w4 hX4
        have z2' := hS4.z2
        have z3' := hS4.z3
        have k4 := HKB.out.below hBX hlb
        have x0' := k4.cell 0
        have x1' := k4.cell 1
        simp only [List.getElem?_cons_zero, List.getElem?_cons_succ] at x0' x1'
        have hw8 : wrap64 ((s.snaps_.l.length : Int) - 1) = (s.snaps_.l.length : Int) - 1 := IntWalk.wrap64_in _ (by omega)
        by_cases hlast : k + 1 = s.snaps_.l.length
        · have hq : ((k : Int) == (s.snaps_.l.length : Int) - 1) = true := beq_iff_eq.2 (by omega)
          obtain ⟨nx, hnx⟩ : ∃ nx, s.body_ = nx := ⟨_, rfl⟩
          have HNX : Hid ((lineM s)[k + 1]? = some nx) := Lib.hid (by rw [← hnx, hlast]; exact line_last s)
          rw [hnx] at z2'
          have HHITM : Hid (hitB M x = (hitB (prevM ((lineM s).map Sl.l) (k)) x || memB nx.l x)) := Lib.hid (by
            rw [← HMM.out, hit_append, List.getElem?_map, HNX.out]
            simp [hitB])
          have HC2 := Lib.hid (fun W (hW : Below w4.heap.size w4 W) => HHAS.out x nx W (List.mem_of_getElem? HNX.out) (hX4.trans (hW.mono hX4.size)))
          clear hlast
          rcases hb1 : b1 with _ | _
          · rw [hb1] at HB1B
            go_wp2_with fail
            refine (HC2.out w4 (Below.refl _ _)).mono ?_
            rintro e w5 ⟨rfl, hB5⟩
            have hBZ := hX4.trans (hB5.mono hX4.size)
            rcases hb2 : memB nx.l x with _ | _
            · have HHIT : hitB M x = false := by rw [HHITM.out, HB1B.out, hb2]; rfl
              clear HC2 HHITM k4 hS4
              have HN : Hid (((cntB M (y.body_.l.take (i + 1)) : Nat) : Int) = ((cntB M (y.body_.l.take i) : Nat) : Int) + 1) := Lib.hid (by rw [HT.out, HHIT, if_neg (by decide)]; omega)
              have hw9 : wrap64 (((cntB M (y.body_.l.take i) : Nat) : Int) + 1) = ((cntB M (y.body_.l.take i) : Nat) : Int) + 1 := IntWalk.wrap64_in _ (by omega)
              clear HHIT
              go_wp2
              go_roundw
              case rel => exact ⟨i + 1, by omega, by first | (rw [HN.out]; done) | rw [HN.out, hw9], by go_num, hBZ⟩
              case measure => simp [intOf]; omega
            · have HHIT : hitB M x = true := by rw [HHITM.out, HB1B.out, hb2]; rfl
              clear HC2 HHITM k4 hS4
              have HN : Hid (cntB M (y.body_.l.take (i + 1)) = cntB M (y.body_.l.take i)) := Lib.hid (by rw [HT.out, HHIT, if_pos rfl]; rfl)
              clear HHIT
              go_wp2
              go_roundw
              case rel => exact ⟨i + 1, by omega, by rw [HN.out], by go_num, hBZ⟩
              case measure => simp [intOf]; omega
          · rw [hb1] at HB1B
            have HHIT : hitB M x = true := by rw [HHITM.out, HB1B.out, Bool.true_or]
            clear HC2 HHITM HB1B k4 hS4
            have hBZ := hX4
            go_wp2
            have HN : Hid (cntB M (y.body_.l.take (i + 1)) = cntB M (y.body_.l.take i)) := Lib.hid (by rw [HT.out, HHIT, if_pos rfl]; rfl)
            clear HHIT
            go_wp2
            go_roundw
            case rel => exact ⟨i + 1, by omega, by rw [HN.out], by go_num, hBZ⟩
            case measure => simp [intOf]; omega
        · have hq : ((k : Int) == (s.snaps_.l.length : Int) - 1) = false := beq_eq_false_iff_ne.2 (by omega)
          obtain ⟨ny, hny⟩ : ∃ ny, s.snaps_.l[k + 1]? = some ny := ⟨_, List.getElem?_eq_getElem (by omega)⟩
          obtain ⟨nx, hnx⟩ : ∃ nx, ny.body_ = nx := ⟨_, rfl⟩
          have HNX : Hid ((lineM s)[k + 1]? = some nx) := Lib.hid (by rw [← hnx]; exact line_at hny)
          obtain ⟨k1, hk1⟩ : ∃ k1, k + 1 = k1 := ⟨_, rfl⟩
          rw [hk1] at hny HNX
          have nk := hS4.el k1 ny hny
          rw [hnx] at nk
          have hwk : IntKind.i64.wrap ((k : Int) + 1) = (k1 : Int) := by rw [IntWalk.i64_in _ (by omega)]; omega
          have hkn : k1 < s.snaps_.l.length := by omega
          have HHITM : Hid (hitB M x = (hitB (prevM ((lineM s).map Sl.l) (k)) x || memB nx.l x)) := Lib.hid (by
            rw [← HMM.out, hit_append, List.getElem?_map, hk1, HNX.out]
            simp [hitB])
          have HC2 := Lib.hid (fun W (hW : Below w4.heap.size w4 W) => HHAS.out x nx W (List.mem_of_getElem? HNX.out) (hX4.trans (hW.mono hX4.size)))
          clear hlast
          rcases hb1 : b1 with _ | _
          · rw [hb1] at HB1B
            go_wp2_with fail
            refine wp_region_noPanic ?_
            refine wp_region_last 10 (fun W => W.cell? ⟨w.heap.size, 3, none⟩ = some (.slice (some ⟨b, off, none⟩) s.snaps_.l.length s.snaps_.c) ∧ W.cell? ⟨b, off + k1 * 5 + 2, none⟩ = some (.slice nx.A nx.l.length nx.c) ∧ W.cell? ⟨wo.heap.size, 0, none⟩ = some (.int .i64 x.1) ∧ W.cell? ⟨wo.heap.size, 1, none⟩ = some (.string x.2)) (by kernel_rfl) ⟨z3', nk, x0', x1'⟩ (fun hHeld => ?_)
            refine wpAnyL_take 12 (i := 0) (oi := ⟨some 64, _, _, _, _, _⟩) (v := ?_) rfl (by kernel_rfl) (by kernel_rfl) (by kernel_rfl) (by kernel_rfl) (by kernel_rfl) (by kernel_rfl) (by kernel_rfl) (fun _ _ _ h => h) (Or.inl ⟨by rfl, ?_⟩) hHeld ?_
            rotate_left
            focus (intro w hSw; (try dsimp only at hSw); go_simp; try (with_reducible rfl))
            try simp only [Act.put, List.setIfInBounds_toArray, List.set_cons_zero, List.set_cons_succ]
            refine wpAnyL_take 12 (i := 1) (oi := ⟨some 65, _, _, _, _, _⟩) (v := ?_) rfl (by kernel_rfl) (by kernel_rfl) (by kernel_rfl) (by kernel_rfl) (by kernel_rfl) (by kernel_rfl) (by kernel_rfl) (fun _ _ _ h => h) (Or.inl ⟨by rfl, ?_⟩) hHeld ?_
            rotate_left
            focus (intro w hSw; (try dsimp only at hSw); go_simp; try (with_reducible rfl))
            try simp only [Act.put, List.setIfInBounds_toArray, List.set_cons_zero, List.set_cons_succ]
            refine wpAnyL_take 12 (i := 2) (oi := ⟨some 66, _, _, _, _, _⟩) (v := ?_) rfl (by kernel_rfl) (by kernel_rfl) (by kernel_rfl) (by kernel_rfl) (by kernel_rfl) (by kernel_rfl) (by kernel_rfl) (fun _ _ _ h => h) (Or.inl ⟨by rfl, ?_⟩) hHeld ?_
            rotate_left
            focus (intro w hSw; (try dsimp only at hSw); go_simp; try (with_reducible rfl))
            try simp only [Act.put, List.setIfInBounds_toArray, List.set_cons_zero, List.set_cons_succ]
            refine wpAnyL_take 12 (i := 3) (oi := ⟨some 67, _, _, _, _, _⟩) (v := ?_) rfl (by kernel_rfl) (by kernel_rfl) (by kernel_rfl) (by kernel_rfl) (by kernel_rfl) (by kernel_rfl) (by kernel_rfl) (fun _ _ _ h => h) (Or.inl ⟨by rfl, ?_⟩) hHeld ?_
            rotate_left
            focus (intro w hSw; (try dsimp only at hSw); go_simp; try (with_reducible rfl))
            try simp only [Act.put, List.setIfInBounds_toArray, List.set_cons_zero, List.set_cons_succ]
            refine wpAnyL_take 12 (i := 4) (oi := ⟨some 68, _, _, _, _, _⟩) (v := ?_) rfl (by kernel_rfl) (by kernel_rfl) (by kernel_rfl) (by kernel_rfl) (by kernel_rfl) (by kernel_rfl) (by kernel_rfl) (fun _ _ _ h => h) (Or.inl ⟨by rfl, ?_⟩) hHeld ?_
            rotate_left
            focus (intro w hSw; (try dsimp only at hSw); go_simp; try (with_reducible rfl))
            try simp only [Act.put, List.setIfInBounds_toArray, List.set_cons_zero, List.set_cons_succ]
            refine wpAnyL_take 12 (i := 5) (oi := ⟨some 69, _, _, _, _, _⟩) (v := ?_) rfl (by kernel_rfl) (by kernel_rfl) (by kernel_rfl) (by kernel_rfl) (by kernel_rfl) (by kernel_rfl) (by kernel_rfl) (fun _ _ _ h => h) (Or.inl ⟨by rfl, ?_⟩) hHeld ?_
            rotate_left
            focus (intro w hSw; (try dsimp only at hSw); go_simp; try (with_reducible rfl))
            try simp only [Act.put, List.setIfInBounds_toArray, List.set_cons_zero, List.set_cons_succ]
            refine wpAnyL_take 12 (i := 6) (oi := ⟨some 70, _, _, _, _, _⟩) (v := ?_) rfl (by kernel_rfl) (by kernel_rfl) (by kernel_rfl) (by kernel_rfl) (by kernel_rfl) (by kernel_rfl) (by kernel_rfl) (fun _ _ _ h => h) (Or.inl ⟨by rfl, ?_⟩) hHeld ?_
            rotate_left
            focus (intro w hSw; (try dsimp only at hSw); go_simp; try (with_reducible rfl))
            try simp only [Act.put, List.setIfInBounds_toArray, List.set_cons_zero, List.set_cons_succ]
            refine wpAnyL_take 12 (i := 7) (oi := ⟨some 71, _, _, _, _, _⟩) (v := ?_) rfl (by kernel_rfl) (by kernel_rfl) (by kernel_rfl) (by kernel_rfl) (by kernel_rfl) (by kernel_rfl) (by kernel_rfl) (fun _ _ _ h => h) (Or.inl ⟨by rfl, ?_⟩) hHeld ?_
            rotate_left
            focus (intro w hSw; (try dsimp only at hSw); go_simp; try (with_reducible rfl))
            try simp only [Act.put, List.setIfInBounds_toArray, List.set_cons_zero, List.set_cons_succ]
            refine wpAnyL_take 12 (i := 8) (oi := ⟨some 72, _, _, _, _, _⟩) (v := ?_) rfl (by kernel_rfl) (by kernel_rfl) (by kernel_rfl) (by kernel_rfl) (by kernel_rfl) (by kernel_rfl) (by kernel_rfl) (fun _ _ _ h => h) (Or.inl ⟨by rfl, ?_⟩) hHeld ?_
            rotate_left
            focus (intro w hSw; (try dsimp only at hSw); go_simp; try (with_reducible rfl))
            try simp only [Act.put, List.setIfInBounds_toArray, List.set_cons_zero, List.set_cons_succ]
            refine wpAnyL_take 12 (i := 9) (oi := ⟨some 73, _, _, _, _, _⟩) (v := ?_) rfl (by kernel_rfl) (by kernel_rfl) (by kernel_rfl) (by kernel_rfl) (by kernel_rfl) (by kernel_rfl) (by kernel_rfl) (fun _ _ _ h => h) (Or.inl ⟨by rfl, ?_⟩) hHeld ?_
            rotate_left
            focus (intro w hSw; (try dsimp only at hSw); go_simp; try (with_reducible rfl))
            try simp only [Act.put, List.setIfInBounds_toArray, List.set_cons_zero, List.set_cons_succ]
            refine wpAnyL_last (i := 10) (o := ⟨some 74, _, _, _, _, _⟩) (by kernel_rfl) rfl (by kernel_rfl) (fun K hK => ?_)
            clear hHeld
            go_simp
            refine (HC2.out _ (Below.refl w4.heap.size w4).drew).mono ?_
            rintro e w5 ⟨rfl, hB5⟩
            have hBZ : Below w1.heap.size w1 w5 := hX4.trans (((Below.refl w4.heap.size w4).drew.trans hB5).mono hX4.size)
            go_wp2_with fail
            refine hK.out _ _ ?_
            clear hK K
            try simp only [Act.put, List.setIfInBounds_toArray, List.set_cons_zero, List.set_cons_succ]
            refine wpAnyL_takeW (i := 11) (oi := ⟨some 75, _, _, _, _, _⟩) (v := ?_) rfl (by kernel_rfl) (by kernel_rfl) (by kernel_rfl) (by kernel_rfl) (fun _ _ _ h => h) (Or.inl ⟨by rfl, ?_⟩) (.inl (by kernel_rfl)) ?_
            rotate_left
            focus (intro w hSw; (try dsimp only at hSw); go_simp; try (with_reducible rfl))
            try simp only [Act.put, List.setIfInBounds_toArray, List.set_cons_zero, List.set_cons_succ]
            refine wpAnyL_takeW (i := 12) (oi := ⟨some 8, _, _, _, _, _⟩) (v := ?_) rfl (by kernel_rfl) (by kernel_rfl) (by kernel_rfl) (by kernel_rfl) (fun _ _ _ h => h) (Or.inl ⟨by rfl, ?_⟩) (.inl (by kernel_rfl)) ?_
            rotate_left
            focus (intro w hSw; (try dsimp only at hSw); go_simp; try (with_reducible rfl))
            try simp only [Act.put, List.setIfInBounds_toArray, List.set_cons_zero, List.set_cons_succ]
            refine wpAnyL_done (by kernel_rfl) ?_ _
            refine NoPanic.normal ?_
            rcases hb2 : memB nx.l x with _ | _
            · have HHIT : hitB M x = false := by rw [HHITM.out, HB1B.out, hb2]; rfl
              clear HC2 HHITM k4 hS4
              have HN : Hid (((cntB M (y.body_.l.take (i + 1)) : Nat) : Int) = ((cntB M (y.body_.l.take i) : Nat) : Int) + 1) := Lib.hid (by rw [HT.out, HHIT, if_neg (by decide)]; omega)
              have hw9 : wrap64 (((cntB M (y.body_.l.take i) : Nat) : Int) + 1) = ((cntB M (y.body_.l.take i) : Nat) : Int) + 1 := IntWalk.wrap64_in _ (by omega)
              clear HHIT
              go_wp2
              go_roundw
              case rel => exact ⟨i + 1, by omega, by first | (rw [HN.out]; done) | rw [HN.out, hw9], by go_num, hBZ⟩
              case measure => simp [intOf]; omega
            · have HHIT : hitB M x = true := by rw [HHITM.out, HB1B.out, hb2]; rfl
              clear HC2 HHITM k4 hS4
              have HN : Hid (cntB M (y.body_.l.take (i + 1)) = cntB M (y.body_.l.take i)) := Lib.hid (by rw [HT.out, HHIT, if_pos rfl]; rfl)
              clear HHIT
              go_wp2
              go_roundw
              case rel => exact ⟨i + 1, by omega, by rw [HN.out], by go_num, hBZ⟩
              case measure => simp [intOf]; omega
          · rw [hb1] at HB1B
            have HHIT : hitB M x = true := by rw [HHITM.out, HB1B.out, Bool.true_or]
            clear HC2 HHITM HB1B k4 hS4
            go_wp2_with fail
            go_big_quiet (fail)
            have hBZ := hX4.trans (belowDrewN w4 nq w1.heap.size)
            have HN : Hid (cntB M (y.body_.l.take (i + 1)) = cntB M (y.body_.l.take i)) := Lib.hid (by rw [HT.out, HHIT, if_pos rfl]; rfl)
            clear HHIT
            go_wp2
            go_roundw
            case rel => exact ⟨i + 1, by omega, by rw [HN.out], by go_num, hBZ⟩
            case measure => simp [intOf]; omega
    · obtain rfl : i = y.body_.l.length := by omega
      rw [List.take_length]
      go_wp2
      go_ret
      exact ⟨rfl, HB1.out.trans (hB.mono HB1.out.size)⟩

end Go.Proofs.Ytnoidcelinaenaa
