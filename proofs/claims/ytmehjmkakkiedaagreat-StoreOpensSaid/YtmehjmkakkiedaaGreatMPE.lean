/-
  Unpage of the reference. Conditions: the slice is one that may be.
-/
import Derived.Test.YtmehjmkakkiedaaGreatMPC
import Derived.Test.YtmehjmkakkiedaaGreatMGK
namespace Go.Proofs.YtmehjmkakkiedaaGreat
open Go.ChangeShapes Go.WideShapes Go.ChangeAt Go.RowKit
set_option maxRecDepth 100000

set_option maxHeartbeats 2000000 in
set_option maxRecDepth 100000 in
theorem refUnpage_any (s : Slc) (w : World) (hs : s.ok w) :
    Calls Tryz.prog 16 #[s.val] w fun e w' => ∃ v, e = .returned (.tuple #[v, .int .i64 (pgAns s.zs).2.1, .int .i64 (pgAns s.zs).2.2]) ∧ w'.ownsRow w.heap.size 5 1 v (pgAns s.zs).1.length (octCells (pgAns s.zs).1) ∧ Below w.heap.size w w' := by
  obtain ⟨i0, hi, hz0, hz1, hz2⟩ := info_parts info5
  obtain ⟨A, zs, c⟩ := s
  obtain ⟨hc, hl, ho, hr⟩ := hs
  unfold maxLen at hl
  unfold Slc.val
  dsimp only at hc hl ho hr ⊢
  by_cases h64 : zs.length = 64
  · obtain ⟨b, off, rfl, hb, _⟩ := RdB.cell hr (k := 0) (by omega)
    obtain ⟨R, hR⟩ : ∃ R, pgAns zs = R := ⟨_, rfl⟩
    obtain ⟨N, hN⟩ : ∃ N, pgNext zs = N := ⟨_, rfl⟩
    have hw := pg_ways h64 ho R hR N hN
    have N1 := Lib.hid (refNumber_at (some ⟨b, off, none⟩) 2 c (zs.take 2) (by simp; omega) (by omega) (by omega) (ho.tk 2))
    have N2 := Lib.hid (refNumber_at (some ⟨b, off + 2, none⟩) 2 (c - 2) ((zs.drop 2).take 2) (by simp; omega) (by omega) (by omega) ((ho.dp 2).tk 2))
    rw [numO_four (ho.tk 2) (by simp; omega)] at N1
    rw [numO_four ((ho.dp 2).tk 2) (by simp; omega)] at N2
    have R1 := Lib.hid fun (W : World) h => RdB.take (w := W) (A := some ⟨b, off, none⟩) (zs := zs) h 2
    have R2 := Lib.hid fun (W : World) h => rd_mid (w := W) (zs := zs) (b := b) (off := off) h 2 2
    rw [hR]
    have hN' : val ((zs.drop 2).take 2) = N := hN
    rw [hN'] at N2
    generalize (numO (zs.take 2)).2 = e1 at *
    generalize (numO ((zs.drop 2).take 2)).2 = e2 at *
    have c2 : (2 : Int) ≤ c := by omega
    have c3 : (4 : Int) ≤ c := by omega
    have c1 : ¬ c = 2 := by omega
    have c5 : ¬ c = 4 := by omega
    rw [h64] at hc ⊢
    unfold ansN at N1 N2
    rcases hw with ⟨L, hL, hL2, rfl⟩ | ⟨n, hL, hn, hln, hw⟩
    · have hL' : val (zs.take 2) = L := hL
      rw [hL'] at N1
      have HR := Lib.hid hr
      clear hR hN hL hL' hN' hr ho
      go_enter Tryz.func16, Tryz.ntmps16
      go_wp2_with fail
      refine (N1.out w (R1.out w HR.out)).mono ?_
      rintro e w3 ⟨rfl, rfl⟩
      go_wp2_with fail
      refine (N2.out w (R2.out w HR.out)).mono ?_
      rintro e w3 ⟨rfl, rfl⟩
      clear N1 N2 R1 R2
      go_wp2_with fail
      refine bodyPost_ret (v := .tuple #[.slice none 0 0, .int .i64 0, .int .i64 21]) (by simp [results, Tryz.results16, go_sem]) rfl ⟨_, rfl, own_none _ _ _, Below.refl _ _⟩
    · have hL' : val (zs.take 2) = n := hL
      rw [hL'] at N1
      have R4 := Lib.hid fun (W : World) h => rd_mid (w := W) (zs := zs) (b := b) (off := off) h 4 n
      have ho4 : Octs ((zs.drop 4).take n) := (ho.dp 4).tk n
      have HO4 := Lib.hid ho4
      have HLN := Lib.hid hln
      have HR := Lib.hid hr
      have HO := Lib.hid ho
      have H64 := Lib.hid h64
      generalize (zs.drop 4).take n = cs at *
      clear hR hN hL hL' hN' hr ho h64 hl ho4 hln
      have hn' : (n : Int) ≤ 52 := by omega
      have c6 : (4 : Int) + n ≤ c := by omega
      have c7 : wrap64 (4 + (n : Int)) = 4 + n := IntWalk.wrap64_in _ (by omega)
      go_enter Tryz.func16, Tryz.ntmps16
      go_wp2_with fail
      refine (N1.out w (R1.out w HR.out)).mono ?_
      rintro e w3 ⟨rfl, rfl⟩
      clear N1 R1
      go_wp2_with fail
      refine (N2.out w (R2.out w HR.out)).mono ?_
      rintro e w3 ⟨rfl, rfl⟩
      clear N2 R2
      go_wp2_with fail
      have hlz : n ≤ maxLen := by unfold maxLen; omega
      have hsl : (Slc.mk (some ⟨b, off + 4, none⟩) cs (c - 4)).ok w := ⟨by show cs.length ≤ c - 4; rw [HLN.out]; omega, by show cs.length ≤ maxLen; rw [HLN.out]; exact hlz, HO4.out, R4.out w HR.out⟩
      rcases hw with ⟨hE, rfl⟩ | ⟨hE, hw⟩
      · have hen := refPage_no (Slc.mk (some ⟨b, off + 4, none⟩) cs (c - 4)) N (by show pgE cs.length N ≠ 0; rw [HLN.out]; exact hE) w hsl
        unfold Slc.val at hen
        dsimp only at hen
        rw [HLN.out] at hen
        have hE' : (pgE n N != 0) = true := by simpa using hE
        refine hen.mono ?_
        rintro e w6 ⟨rfl, rfl⟩
        clear hen hsl
        go_wp2_with fail
        refine bodyPost_ret (v := .tuple #[.slice none 0 0, .int .i64 0, .int .i64 21]) (by simp [results, Tryz.results16, go_sem]) rfl ⟨_, rfl, own_none _ _ _, Below.refl _ _⟩
      · have hen := refPage_ok (Slc.mk (some ⟨b, off + 4, none⟩) cs (c - 4)) N (by show pgE cs.length N = 0; rw [HLN.out]; exact hE) (fun h => by cases h) w hsl
        have hpl : (pgO cs N).length = 64 := pgO_length N (by rw [HLN.out]; exact hn)
        have hpo : Octs (pgO cs N) := pgO_octs N HO4.out
        unfold Slc.val at hen
        dsimp only at hen hw
        rw [HLN.out] at hen
        generalize pgO cs N = pg at *
        refine hen.mono ?_
        rintro e w6 ⟨A6, c6', rfl, _, hr6, hB6⟩
        have HRZ := Lib.hid (HR.out.below hB6)
        have hr4' := Lib.hid (R4.out w6 HRZ.out)
        have hcv := run_string_rd (P := Tryz.prog) w6 46 5 9 Tryz.underlying46 Tryz.underlying5 Tryz.underlying9 (some ⟨b, off, none⟩) zs c HRZ.out
        have hcw := run_string_rd (P := Tryz.prog) w6 46 5 9 Tryz.underlying46 Tryz.underlying5 Tryz.underlying9 A6 pg c6' hr6
        rw [H64.out] at hcv
        rw [hpl] at hcw
        have hbe := str_beq hpo HO.out
        have HLC : Hid ((octCells cs).length = n) := by rw [octCells_length]; exact HLN.out
        have hs6 := hB6.size
        clear hen hsl HR HRZ R4 HO HO4 hr6
        generalize strOfNums zs = s1 at hbe hcv
        generalize strOfNums pg = s2 at hbe hcw
        rcases hw with ⟨he, rfl⟩ | ⟨he, rfl⟩
        · rw [decide_eq_true he] at hbe
          clear he
          go_wp2_with (at_builtin; refine wpList_append_rd (by rfl) _ _ 46 (by rfl) w.heap.size 5 i0 (.int .u8 0) 1 Tryz.underlying46 hi hz0 hz1 hz2 rfl (.slice none 0 0) 0 [] (by rfl) (own_none _ _ _) (some ⟨b, off + 4, none⟩) n (c - 4) (octCells cs) (by first | rfl | (show Value.slice (some ⟨b, off + 4, none⟩) (4 + n - 4) (c - 4) = _; rw [Nat.add_sub_cancel_left]) | (simp [Act.eval]; done)) HLC.out hr4'.out (fun h => by cases h) (octCells_one _) (by unfold maxLen; omega) (by omega) hs6 ?_; intro v7 w7 hown7 hgrow7; have hB7 : Below w.heap.size w w7 := hB6.grown hgrow7 hs6 (fun j e => by simp [Value.ownBlock] at e); have hown7' := own_bare' hown7; obtain ⟨A7, c7', rfl, _, _⟩ := own_slice hown7'; have HO7 := Lib.hid hown7'; clear hown7 hown7' hgrow7)
          refine bodyPost_ret (v := .tuple #[.slice A7 n c7', .int .i64 N, .int .i64 0]) (by simp [results, Tryz.results16, go_sem]) rfl ⟨_, rfl, ?_, hB7⟩
          rw [HLN.out]
          exact HO7.out
        · rw [decide_eq_false he] at hbe
          clear he
          go_wp2
          refine bodyPost_ret (v := .tuple #[.slice none 0 0, .int .i64 0, .int .i64 21]) (by simp [results, Tryz.results16, go_sem]) rfl ⟨_, rfl, own_none _ _ _, hB6⟩
  · have hr0 : pgAns zs = ([], 0, 21) := pgAns_no (by
      rw [← Bool.not_eq_true]
      intro h
      exact h64 (pg_is h).1)
    rw [hr0]
    generalize zs.length = n at *
    clear hr0 hr ho
    have hne : ((n : Int) == 64) = false := beq_eq_false_iff_ne.2 (by omega)
    go_enter Tryz.func16, Tryz.ntmps16
    go_wp2
    refine bodyPost_ret (v := .tuple #[.slice none 0 0, .int .i64 0, .int .i64 21]) (by simp [results, Tryz.results16, go_sem]) rfl ⟨_, rfl, own_none _ _ _, Below.refl _ _⟩

end Go.Proofs.YtmehjmkakkiedaaGreat
