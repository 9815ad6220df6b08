/-
 perms: isSome and Check. Conditions: the texts are as they come in.
-/
import Derived.Test.YtimmcmjipmkebaaGreatVGRX
import Derived.Test.YtimmcmjipmkebaaGreatVNB
namespace Go.Proofs.YtimmcmjipmkebaaGreat
open Go.ChangeShapes Go.WideShapes Go.ChangeAt Go.RowKit
set_option maxRecDepth 100000
theorem isSome_any (r : Int) (w : World) :
 Calls Tryz.prog 144 #[.int .i64 r] w fun e w' => e = .returned (.bool (someP r)) ∧ w = w' := by
 have hR : someP r = (decide (1 ≤ r) && decide (r ≤ 255)) := rfl
 have HR := zI hR
 clear hR
 go_enter Tryz.func144, Tryz.ntmps144
 go_wp2
 all_goals
  go_ret
  exact ⟨zaZ (by rw [HR.out, Bool.eq_iff_iff]; simp; try omega), rfl⟩
def prevG (l : List Gr) (k : Nat) : Option Gr := match k with | 0 => none | j + 1 => l[j]?
set_option maxHeartbeats 4000000 in
theorem grCheck_any (A : Option Addr) (c n : Nat) (l : List Gr) (hn : l.length = n) (hl : n ≤ 4398046511104) (hf : ∀ x ∈ l, x.1.size ≤ 140737488351232 ∧ x.2.1.size ≤ 140737488351232) (w : World) (hr : Rd w A (grs l)) :
 Calls Tryz.prog 89 #[.slice A n c] w fun e w' => e = .returned (.int .i64 (chkG l)) ∧ Below w.heap.size w w' := by
 subst hn
 by_cases h8 : l.length ≤ 16
 · obtain ⟨R, hR⟩ : ∃ R, chkG l = R := ⟨_, rfl⟩
   have HRO : Hid (R = if okFG none l then 0 else 9) := zI (by rw [← hR, chkG, okG, decide_eq_true h8, Bool.true_and])
   rw [hR]
   clear hR
   go_enter Tryz.func89, Tryz.ntmps89
   go_wp2
   go_loopw [10] (fun j W => ∃ k : Nat, k ≤ l.length ∧ j = .int .i64 k ∧ Hid (okFG (prevG l k) (l.drop k) = okFG none l) ∧ Below w.heap.size w W) (fun j _ => l.length - (intOf j).toNat)
   case atStart => exact ⟨0, Nat.zero_le _, rfl, zI rfl, Below.refl _ _⟩
   case round =>
    obtain ⟨k, hk, rfl, HD, hB⟩ := hrel
    by_cases hlt : k < l.length
    · obtain ⟨x, hx⟩ : ∃ x, l[k]? = some x := ⟨l[k], qZa hlt⟩
      have HRDW := zI (Rd.below hr hB)
      obtain ⟨b, off, rfl, hb, hc0, hc1, hc2⟩ := (Rd.below hr hB).gr hx
      obtain ⟨hks1, hks2⟩ := hf x (mG hx)
      have HDR : Hid (okFG none l = (goodG x && ((match prevG l k with | none => true | some q => decide (cmpG q x < 0)) && okFG (some x) (l.drop (k + 1))))) := zI (by
       rw [← HD.out]
       obtain ⟨h, e⟩ := List.getElem?_eq_some_iff.1 hx
       rw [List.drop_eq_getElem_cons h, e]
       rfl)
      have HPX : Hid (prevG l (k + 1) = some x) := zI hx
      obtain ⟨x1, x2, x3⟩ := x
      dsimp only at hc0 hc1 hc2 hks1 hks2
      obtain ⟨w1, hw1⟩ : ∃ w1, wr.alloc (.cells #[.string x1, .string x2, .int .i64 x3] 111) = w1 := ⟨_, rfl⟩
      have hB1 : Below wr.heap.size wr w1 := hw1 ▸ (Below.refl _ wr).alloc (Nat.le_refl _) _
      have k1 : Blk w1 wr.heap.size 111 [.string x1, .string x2, .int .i64 x3] := hw1 ▸ Blk.new wr _ _
      have hBw1 : Below w.heap.size w w1 := hB.trans (hB1.mono hB.size)
      have y0 := k1.cell 0
      have y1 := k1.cell 1
      have y2 := k1.cell 2
      simp only [gZa, gZb] at y0 y1 y2
      have HW1 := zI hw1
      have HK1 := zI k1
      have HB1 := zI hB1
      clear hx HD hw1 k1 hB1
      rcases hnm : zaQ (bs x1) with _ | _
      · have HR : Hid (R = 9) := zI (by rw [HRO.out, HDR.out]; simp [goodG, hnm])
        have HN := zI (name_any x1 w1)
        rw [hnm] at HN
        have HBX := zI hBw1
        clear hnm HDR HRDW
        go_wp2_with fail
        rw [HW1.out]
        go_wp2_with fail
        refine HN.out.mono ?_
        rintro e w2 ⟨rfl, rfl⟩
        go_wp2
        go_ret; rw [HR.out]; exact ⟨rfl, HBX.out⟩
      · have HN := zI (name_any x1 w1)
        rw [hnm] at HN
        rcases hpt : zeX (bs x2) with _ | _
        · have HR : Hid (R = 9) := zI (by rw [HRO.out, HDR.out]; simp [goodG, hpt])
          have HP := zI (path_any x2 (by omega) w1)
          rw [hpt] at HP
          clear hnm hpt HDR HRDW
          go_wp2_with fail
          rw [HW1.out]
          go_wp2_with fail
          refine HN.out.mono ?_
          rintro e w2 ⟨rfl, rfl⟩
          go_wp2_with fail
          refine HP.out.mono ?_
          rintro e w3 ⟨rfl, hB3⟩
          have HBX := zI (hBw1.trans (hB3.mono hBw1.size))
          go_wp2
          go_ret; rw [HR.out]; exact ⟨rfl, HBX.out⟩
        · have HP := zI (path_any x2 (by omega) w1)
          rw [hpt] at HP
          rcases hsm : someP x3 with _ | _
          · have HR : Hid (R = 9) := zI (by rw [HRO.out, HDR.out]; simp [goodG, hsm])
            have HS := zI (isSome_any x3)
            rw [hsm] at HS
            clear hnm hpt hsm HDR HRDW
            go_wp2_with fail
            rw [HW1.out]
            go_wp2_with fail
            refine HN.out.mono ?_
            rintro e w2 ⟨rfl, rfl⟩
            go_wp2_with fail
            refine HP.out.mono ?_
            rintro e w3 ⟨rfl, hB3⟩
            have k3 := HK1.out.below hB3 HK1.out.lt
            have z2 := k3.cell 2
            simp only [gZa, gZb] at z2
            have HBX := zI (hBw1.trans (hB3.mono hBw1.size))
            clear k3
            go_wp2_with fail
            refine (HS.out w3).mono ?_
            rintro e w4 ⟨rfl, rfl⟩
            go_wp2
            go_ret; rw [HR.out]; exact ⟨rfl, HBX.out⟩
          · have HS := zI (isSome_any x3)
            rw [hsm] at HS
            have hgd : goodG (x1, x2, x3) = true := by simp [goodG, hnm, hpt, hsm]
            have HDR2 : Hid (okFG none l = ((match prevG l k with | none => true | some q => decide (cmpG q (x1, x2, x3) < 0)) && okFG (some (x1, x2, x3)) (l.drop (k + 1)))) := zI (by rw [HDR.out, hgd, Bool.true_and])
            have hway : (k = 0 ∧ decide (0 < k) = false) ∨ ∃ (i : Nat) (y : Gr), decide (0 < k) = true ∧ IntKind.i64.wrap ((k : Int) - 1) = (i : Int) ∧ i < l.length ∧ Hid (l[i]? = some y) ∧ Hid (prevG l k = some y) := by
             rcases k with _ | j
             · exact .inl ⟨rfl, rfl⟩
             · obtain ⟨y, hy⟩ : ∃ y, l[j]? = some y := ⟨l[j]'(by omega), qZa (by omega)⟩
               exact .inr ⟨j, y, decide_eq_true (by omega), by rw [show (((j + 1 : Nat) : Int) - 1) = (j : Int) by omega]; exact IntWalk.i64_in _ (by omega), by omega, zI hy, zI hy⟩
            clear hnm hpt hsm HDR hgd
            go_wp2_with fail
            rw [HW1.out]
            go_wp2_with fail
            refine HN.out.mono ?_
            rintro e w2 ⟨rfl, rfl⟩
            go_wp2_with fail
            refine HP.out.mono ?_
            rintro e w3 ⟨rfl, hB3⟩
            have k3 := HK1.out.below hB3 HK1.out.lt
            have z0 := k3.cell 0
            have z1 := k3.cell 1
            have z2 := k3.cell 2
            simp only [gZa, gZb] at z0 z1 z2
            have hBw3 := hBw1.trans (hB3.mono hBw1.size)
            have hBr3 : Below wr.heap.size wr w3 := HB1.out.trans (hB3.mono HB1.out.size)
            have HK3 := zI k3
            clear k3
            go_wp2_with fail
            refine (HS.out w3).mono ?_
            rintro e w4 ⟨rfl, rfl⟩
            rcases hway with ⟨rfl, hj0⟩ | ⟨i, y, hj0, hw, hi, HY, HP2⟩
            · have HD' : Hid (okFG (prevG l (0 + 1)) (l.drop (0 + 1)) = okFG none l) := zI (by rw [HPX.out, HDR2.out]; rfl)
              clear HDR2 HPX HRDW
              go_wp2_with fail
              go_big_quiet (fail)
              go_wp2
              go_roundw
              case rel => exact ⟨0 + 1, by omega, by go_num, HD', hBw3.trans (zaX _ _ _)⟩
              case measure => simp [intOf]; omega
            · obtain ⟨b', off', e', hb', d0, d1, d2⟩ := (HRDW.out.below hBr3).gr HY.out
              injection e' with e'
              injection e' with e1 e2 _
              subst e1 e2
              have hblt : b < wr.heap.size := hb
              have HO := zI (order_any y (x1, x2, x3))
              obtain ⟨C, hC⟩ : ∃ C, cmpG y (x1, x2, x3) = C := ⟨_, rfl⟩
              rw [hC] at HO
              have HDR3 : Hid (okFG none l = (decide (C < 0) && okFG (some (x1, x2, x3)) (l.drop (k + 1)))) := zI (by rw [HDR2.out, HP2.out]; dsimp only; rw [hC])
              have hz0 := z0
              have hz1 := z1
              have hz2 := z2
              obtain ⟨y1', y2', y3'⟩ := y
              dsimp only at d0 d1 d2
              have hB3d : Below w3.heap.size w3 w3.drew := (Below.refl _ _).drew
              clear HDR2 HP2 HY hC HN HP HS HW1 HK1 HRDW
              by_cases hC0 : C < 0
              · have HD' : Hid (okFG (prevG l (k + 1)) (l.drop (k + 1)) = okFG none l) := zI (by rw [HPX.out, HDR3.out, decide_eq_true hC0, Bool.true_and])
                have hge : ¬ (0 ≤ C) := by omega
                clear HDR3 HPX
                go_wp2_with fail
                refine wp_region_noPanic ?_
                refine zcX 9 (fun W => W.cell? ⟨b, off + i * 3, none⟩ = some (.string y1') ∧ W.cell? ⟨b, off + i * 3 + 1, none⟩ = some (.string y2') ∧ W.cell? ⟨b, off + i * 3 + 2, none⟩ = some (.int .i64 y3') ∧ W.cell? ⟨wr.heap.size, 0, none⟩ = some (.string x1) ∧ W.cell? ⟨wr.heap.size, 1, none⟩ = some (.string x2) ∧ W.cell? ⟨wr.heap.size, 2, none⟩ = some (.int .i64 x3)) (by kernel_rfl) ⟨d0, d1, d2, z0, z1, z2⟩ (fun hHeld => ?_)
                refine tkA 12 (i := 0) (oi := ⟨some 31, _, _, _, _, _⟩) rfl hHeld ?_
                try simp only [zP]
                refine tkA 12 (i := 1) (oi := ⟨some 32, _, _, _, _, _⟩) rfl hHeld ?_
                try simp only [zP]
                refine tkA 12 (i := 2) (oi := ⟨some 33, _, _, _, _, _⟩) rfl hHeld ?_
                try simp only [zP]
                refine tkA 12 (i := 3) (oi := ⟨some 34, _, _, _, _, _⟩) rfl hHeld ?_
                try simp only [zP]
                refine tkA 12 (i := 4) (oi := ⟨some 35, _, _, _, _, _⟩) rfl hHeld ?_
                try simp only [zP]
                refine tkA 12 (i := 5) (oi := ⟨some 36, _, _, _, _, _⟩) rfl hHeld ?_
                try simp only [zP]
                refine tkA 12 (i := 6) (oi := ⟨some 37, _, _, _, _, _⟩) rfl hHeld ?_
                try simp only [zP]
                refine tkA 12 (i := 7) (oi := ⟨some 38, _, _, _, _, _⟩) rfl hHeld ?_
                try simp only [zP]
                refine tkA 12 (i := 8) (oi := ⟨some 39, _, _, _, _, _⟩) rfl hHeld ?_
                try simp only [zP]
                refine zcZ (i := 9) (o := ⟨some 40, _, _, _, _, _⟩) (by kernel_rfl) rfl (by kernel_rfl) (fun K hK => ?_)
                clear hHeld
                go_simp
                refine (HO.out _).mono ?_
                rintro e w5 ⟨rfl, hB5⟩
                have hBw5 := hBw3.trans ((hB3d.trans hB5).mono hBw3.size)
                go_wp2_with fail
                refine hK.out _ _ ?_
                clear hK K
                try simp only [zP]
                refine wpAnyL_takeW (i := 10) (oi := ⟨some 41, _, _, _, _, _⟩) (v := ?_) rfl (by kernel_rfl) (by kernel_rfl) (by kernel_rfl) (by kernel_rfl) (fun _ _ _ h => h) (Or.inl ⟨by rfl, ?_⟩) (.inl (by kernel_rfl)) ?_
                rotate_left
                focus (intro w hSw; (try dsimp only at hSw); go_simp; try (with_reducible rfl))
                try simp only [zP]
                refine wpAnyL_takeW (i := 11) (oi := ⟨some 42, _, _, _, _, _⟩) (v := ?_) rfl (by kernel_rfl) (by kernel_rfl) (by kernel_rfl) (by kernel_rfl) (fun _ _ _ h => h) (Or.inl ⟨by rfl, ?_⟩) (.inl (by kernel_rfl)) ?_
                rotate_left
                focus (intro w hSw; (try dsimp only at hSw); go_simp; try (with_reducible rfl))
                try simp only [zP]
                refine zdQ (by kernel_rfl) ?_ _
                refine NoPanic.normal ?_
                go_wp2
                go_roundw
                case rel => exact ⟨k + 1, by omega, by go_num, HD', hBw5⟩
                case measure => simp [intOf]; omega
              · have HR : Hid (R = 9) := zI (by rw [HRO.out, HDR3.out, decide_eq_false hC0, Bool.false_and]; rfl)
                have hge : 0 ≤ C := by omega
                clear HDR3 HPX
                go_wp2_with fail
                refine wp_region_noPanic ?_
                refine zcX 9 (fun W => W.cell? ⟨b, off + i * 3, none⟩ = some (.string y1') ∧ W.cell? ⟨b, off + i * 3 + 1, none⟩ = some (.string y2') ∧ W.cell? ⟨b, off + i * 3 + 2, none⟩ = some (.int .i64 y3') ∧ W.cell? ⟨wr.heap.size, 0, none⟩ = some (.string x1) ∧ W.cell? ⟨wr.heap.size, 1, none⟩ = some (.string x2) ∧ W.cell? ⟨wr.heap.size, 2, none⟩ = some (.int .i64 x3)) (by kernel_rfl) ⟨d0, d1, d2, z0, z1, z2⟩ (fun hHeld => ?_)
                refine tkA 12 (i := 0) (oi := ⟨some 31, _, _, _, _, _⟩) rfl hHeld ?_
                try simp only [zP]
                refine tkA 12 (i := 1) (oi := ⟨some 32, _, _, _, _, _⟩) rfl hHeld ?_
                try simp only [zP]
                refine tkA 12 (i := 2) (oi := ⟨some 33, _, _, _, _, _⟩) rfl hHeld ?_
                try simp only [zP]
                refine tkA 12 (i := 3) (oi := ⟨some 34, _, _, _, _, _⟩) rfl hHeld ?_
                try simp only [zP]
                refine tkA 12 (i := 4) (oi := ⟨some 35, _, _, _, _, _⟩) rfl hHeld ?_
                try simp only [zP]
                refine tkA 12 (i := 5) (oi := ⟨some 36, _, _, _, _, _⟩) rfl hHeld ?_
                try simp only [zP]
                refine tkA 12 (i := 6) (oi := ⟨some 37, _, _, _, _, _⟩) rfl hHeld ?_
                try simp only [zP]
                refine tkA 12 (i := 7) (oi := ⟨some 38, _, _, _, _, _⟩) rfl hHeld ?_
                try simp only [zP]
                refine tkA 12 (i := 8) (oi := ⟨some 39, _, _, _, _, _⟩) rfl hHeld ?_
                try simp only [zP]
                refine zcZ (i := 9) (o := ⟨some 40, _, _, _, _, _⟩) (by kernel_rfl) rfl (by kernel_rfl) (fun K hK => ?_)
                clear hHeld
                go_simp
                refine (HO.out _).mono ?_
                rintro e w5 ⟨rfl, hB5⟩
                have hBw5 := hBw3.trans ((hB3d.trans hB5).mono hBw3.size)
                go_wp2_with fail
                refine hK.out _ _ ?_
                clear hK K
                try simp only [zP]
                refine wpAnyL_takeW (i := 10) (oi := ⟨some 41, _, _, _, _, _⟩) (v := ?_) rfl (by kernel_rfl) (by kernel_rfl) (by kernel_rfl) (by kernel_rfl) (fun _ _ _ h => h) (Or.inl ⟨by rfl, ?_⟩) (.inl (by kernel_rfl)) ?_
                rotate_left
                focus (intro w hSw; (try dsimp only at hSw); go_simp; try (with_reducible rfl))
                try simp only [zP]
                refine wpAnyL_takeW (i := 11) (oi := ⟨some 42, _, _, _, _, _⟩) (v := ?_) rfl (by kernel_rfl) (by kernel_rfl) (by kernel_rfl) (by kernel_rfl) (fun _ _ _ h => h) (Or.inl ⟨by rfl, ?_⟩) (.inl (by kernel_rfl)) ?_
                rotate_left
                focus (intro w hSw; (try dsimp only at hSw); go_simp; try (with_reducible rfl))
                try simp only [zP]
                refine zdQ (by kernel_rfl) ?_ _
                refine NoPanic.normal ?_
                have HBX := zI hBw5
                go_wp2
                go_ret; rw [HR.out]; exact ⟨rfl, HBX.out⟩
    · have HR : Hid (R = 0) := zI (by
       rw [HRO.out, ← HD.out, List.drop_eq_nil_of_le (by omega)]
       rfl)
      have HBX := zI hB
      clear HD
      go_wp2
      go_ret; rw [HR.out]; exact ⟨rfl, HBX.out⟩
 · have hR : chkG l = 9 := by unfold chkG okG; rw [decide_eq_false h8, Bool.false_and]; rfl
   rw [hR]
   clear hR
   go_enter Tryz.func89, Tryz.ntmps89
   go_wp2
   go_ret
   exact ⟨rfl, Below.refl _ _⟩
end Go.Proofs.YtimmcmjipmkebaaGreat
