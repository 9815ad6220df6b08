/-
  Decode of the reference (uberblocks). Conditions: the slice is one that may be.
-/
import Derived.Test.YtlcjdhmgpbnnmaaUC
import Derived.Test.YtlcjdhmgpbnnmaaUD
namespace Go.Proofs.Ytlcjdhmgpbnnmaa
open Go.ChangeShapes Go.WideShapes Go.ChangeAt Go.RowKit

theorem refNumber_at (A : Option Addr) (n c : Nat) (zs : List Int) (hn : zs.length = n) (h1 : 1 ≤ n) (h8 : n ≤ 8) (ho : Octs zs) (w : World) (hr : RdB w A zs) :
    Calls Try.prog 25 #[.slice A n c] w fun e w' => e = .returned (ansN (numO zs).1 (numO zs).2) ∧ w = w' := by
  subst hn
  exact refNumber_any A c zs h1 h8 ho w hr

set_option maxHeartbeats 2000000 in
set_option maxRecDepth 100000 in
theorem refDecode_any (A : Option Addr) (n c : Nat) (zs : List Int) (hn : zs.length = n) (hc : n ≤ c) (hl : n ≤ maxLen) (ho : Octs zs) (w : World) (hr : RdB w A zs) :
    Calls Try.prog 10 #[.slice A n c] w fun e w' => e = .returned (ansU (ubOf zs)) ∧ Below w.heap.size w w' := by
  unfold maxLen at hl
  by_cases h64 : n = 64
  · subst h64
    have hi := ubOf_if hn
    obtain ⟨b, off, rfl, hb, _⟩ := RdB.cell hr (k := 0) (by omega)
    have N1 := Lib.hid (refNumber_at (some ⟨b, off + 4, none⟩) 8 (c - 4) ((zs.drop 4).take 8) (by simp; omega) (by omega) (by omega) ((ho.dp 4).tk 8))
    have N2 := Lib.hid (refNumber_at (some ⟨b, off + 12, none⟩) 4 (c - 12) ((zs.drop 12).take 4) (by simp; omega) (by omega) (by omega) ((ho.dp 12).tk 4))
    have N3 := Lib.hid (refNumber_at (some ⟨b, off + 16, none⟩) 4 (c - 16) ((zs.drop 16).take 4) (by simp; omega) (by omega) (by omega) ((ho.dp 16).tk 4))
    rw [numO_four ((ho.dp 12).tk 4) (by simp; omega)] at N2
    rw [numO_four ((ho.dp 16).tk 4) (by simp; omega)] at N3
    have R1 := Lib.hid fun (W : World) h => rd_mid (w := W) (zs := zs) (b := b) (off := off) h 4 8
    have R2 := Lib.hid fun (W : World) h => rd_mid (w := W) (zs := zs) (b := b) (off := off) h 12 4
    have R3 := Lib.hid fun (W : World) h => rd_mid (w := W) (zs := zs) (b := b) (off := off) h 16 4
    have hno : (numO ((zs.drop 4).take 8)).2 ≠ 0 → (ubRead zs).ok = false := fun h => by
      have h1 : (ubRead zs).t = 0 := numO_no h
      rcases hk : (ubRead zs).ok with _ | _
      · rfl
      · have := (Ub.ok_iff.1 hk).1
        omega
    generalize hx1 : (zs.drop 4).take 8 = x1 at N1 R1 hno
    generalize hx2 : (zs.drop 12).take 4 = x2 at N2 R2
    generalize hx3 : (zs.drop 16).take 4 = x3 at N3 R3
    have hu : ubRead zs = ⟨(numO x1).1, val x2, val x3⟩ := by unfold ubRead; rw [hx1, hx2, hx3]
    clear hx1 hx2 hx3
    rw [hu] at hi hno
    generalize (numO x1).1 = t at *
    generalize (numO x1).2 = te at *
    generalize val x2 = f at *
    generalize val x3 = o at *
    generalize (numO x2).2 = fe at *
    generalize (numO x3).2 = oe at *
    have HZ := Lib.hid ho
    have HN := Lib.hid hn
    have HI := Lib.hid hi
    have HR := Lib.hid hr
    have HNO := Lib.hid hno
    generalize ubOf zs = r at HI ⊢
    clear hi hu hr hn ho hno
    have c1 : (12 : Int) ≤ c := by omega
    have c2 : (16 : Int) ≤ c := by omega
    have c3 : (20 : Int) ≤ c := by omega
    have c4 : ¬ c = 4 := by omega
    have c5 : ¬ c = 12 := by omega
    have c6 : ¬ c = 16 := by omega
    go_enter Try.func10, Try.ntmps10
    go_wp2_with fail
    obtain ⟨w1, hw1⟩ : ∃ w1, w.alloc (.cells #[.int .i64 0, .int .i64 0, .int .i64 0] 23) = w1 := ⟨_, rfl⟩
    have hB1 : Below w.heap.size w w1 := hw1 ▸ (Below.refl _ w).alloc (Nat.le_refl _) _
    have kr : Blk w1 w.heap.size 23 ub0.cells := hw1 ▸ Blk.new w ub0.cells 23
    rw [hw1]
    have HKR := Lib.hid kr
    have hlt1 := kr.lt
    have HR1 := Lib.hid (HR.out.below hB1)
    clear hw1 kr
    refine (N1.out w1 (R1.out w1 HR1.out)).mono ?_
    rintro e w2 ⟨rfl, rfl⟩
    unfold ansN
    go_wp2_with fail
    refine (N2.out w1 (R2.out w1 HR1.out)).mono ?_
    rintro e w2 ⟨rfl, rfl⟩
    unfold ansN
    go_wp2_with fail
    refine (N3.out w1 (R3.out w1 HR1.out)).mono ?_
    rintro e w2 ⟨rfl, rfl⟩
    unfold ansN
    clear N1 N2 N3 R1 R2 R3
    go_wp2_with fail
    obtain ⟨w3, hw3⟩ : ∃ w3, w1.alloc (.cells #[.int .i64 t, .int .i64 f, .int .i64 o] 23) = w3 := ⟨_, rfl⟩
    have kx : Blk w3 w1.heap.size 23 [.int .i64 t, .int .i64 f, .int .i64 o] := hw3 ▸ Blk.new w1 [.int .i64 t, .int .i64 f, .int .i64 o] 23
    have hB13 : Below w1.heap.size w1 w3 := hw3 ▸ (Below.refl _ w1).alloc (Nat.le_refl _) _
    rw [hw3]
    have hB3 : Below w.heap.size w w3 := hB1.trans (hB13.mono hB1.size)
    have HKX3 := Lib.hid kx
    have HKR3 := Lib.hid (HKR.out.below hB13 hlt1)
    have HRZ3 := Lib.hid (HR.out.below hB3)
    clear hw3 kx HKR
    by_cases hok : (Ub.mk t f o).ok = true
    · have hte : te = 0 := by
        by_cases h : te = 0
        · exact h
        · have := HNO.out h
          rw [hok] at this
          cases this
      subst hte
      refine (refEncode_ok ⟨t, f, o⟩ hok w3).mono ?_
      rintro e w4 ⟨B, d, rfl, hrv, hB4⟩
      have HKX4 := HKX3.out.below hB4 HKX3.out.lt
      have HKR4 := HKR3.out.below hB4 HKR3.out.lt
      have HRZ4 := Lib.hid (HRZ3.out.below hB4)
      have hB04 : Below w.heap.size w w4 := hB3.trans (hB4.mono hB3.size)
      have hi := HI.out
      simp only [hok, true_and] at hi
      have x0 := HKX4.cell 0
      have x1 := HKX4.cell 1
      have x2 := HKX4.cell 2
      have z0 := HKR4.cell 0
      have z1 := HKR4.cell 1
      have z2 := HKR4.cell 2
      have y0 := HKR4.frozen 0
      have y1 := HKR4.frozen 1
      have y2 := HKR4.frozen 2
      simp only [Ub.cells, ub0, List.getElem?_cons_zero, List.getElem?_cons_succ] at x0 x1 x2 z0 z1 z2
      have hlt4 := HKR4.lt
      have hcv := run_string_rd (P := Try.prog) w4 24 5 9 Try.underlying24 Try.underlying5 Try.underlying9 (some ⟨b, off, none⟩) zs c HRZ4.out
      have hcw := run_string_rd (P := Try.prog) w4 24 5 9 Try.underlying24 Try.underlying5 Try.underlying9 B (Ub.mk t f o).octs d hrv
      rw [HN.out] at hcv
      rw [Ub.octs_length] at hcw
      have hbe := str_beq (Ub.octs_octs ⟨t, f, o⟩) HZ.out
      clear hrv HI HKX3 HKR3 HRZ3 HKX4 HR HR1 HRZ4 HZ
      generalize strOfNums zs = s1 at hbe hcv
      generalize strOfNums (Ub.mk t f o).octs = s2 at hbe hcw
      by_cases he : zs = (Ub.mk t f o).octs
      · rw [if_pos he] at hi
        rw [decide_eq_true he.symm] at hbe
        subst hi
        clear he
        go_wp2
        refine bodyPost_ret (v := ansU (⟨t, f, o⟩, 0)) (by simp [results, Try.results10, go_sem, z0, z1, z2]) rfl ⟨rfl, ?_⟩
        exact ((hB04.setCell (p := ⟨w.heap.size, 0, none⟩) (Nat.le_refl _) _).setCell (p := ⟨w.heap.size, 1, none⟩) (Nat.le_refl _) _).setCell (p := ⟨w.heap.size, 2, none⟩) (Nat.le_refl _) _
      · rw [if_neg he] at hi
        rw [decide_eq_false (fun h => he h.symm)] at hbe
        subst hi
        clear he
        go_wp2
        refine bodyPost_ret (v := ansU (ub0, 21)) (by simp [results, Try.results10, go_sem, z0, z1, z2, ub0]) rfl ⟨rfl, ?_⟩
        exact ((hB04.setCell (p := ⟨w.heap.size, 0, none⟩) (Nat.le_refl _) _).setCell (p := ⟨w.heap.size, 1, none⟩) (Nat.le_refl _) _).setCell (p := ⟨w.heap.size, 2, none⟩) (Nat.le_refl _) _
    · refine (refEncode_no ⟨t, f, o⟩ (by simpa using hok) w3).mono ?_
      rintro e w4 ⟨rfl, hB4⟩
      have HKR4 := HKR3.out.below hB4 HKR3.out.lt
      have hB04 : Below w.heap.size w w4 := hB3.trans (hB4.mono hB3.size)
      have hi := HI.out
      rw [if_neg fun h => hok h.1] at hi
      subst hi
      have z0 := HKR4.cell 0
      have z1 := HKR4.cell 1
      have z2 := HKR4.cell 2
      have y0 := HKR4.frozen 0
      have y1 := HKR4.frozen 1
      have y2 := HKR4.frozen 2
      simp only [Ub.cells, ub0, List.getElem?_cons_zero, List.getElem?_cons_succ] at z0 z1 z2
      clear HI HKX3 HKR3 HRZ3 HNO HR HR1 HZ HN
      by_cases ht : te = 0
      · subst ht
        go_wp2
        refine bodyPost_ret (v := ansU (ub0, 21)) (by simp [results, Try.results10, go_sem, z0, z1, z2, ub0]) rfl ⟨rfl, ?_⟩
        exact ((hB04.setCell (p := ⟨w.heap.size, 0, none⟩) (Nat.le_refl _) _).setCell (p := ⟨w.heap.size, 1, none⟩) (Nat.le_refl _) _).setCell (p := ⟨w.heap.size, 2, none⟩) (Nat.le_refl _) _
      · have hte : (te != 0) = true := by simpa using ht
        go_wp2
        refine bodyPost_ret (v := ansU (ub0, 21)) (by simp [results, Try.results10, go_sem, z0, z1, z2, ub0]) rfl ⟨rfl, ?_⟩
        exact ((hB04.setCell (p := ⟨w.heap.size, 0, none⟩) (Nat.le_refl _) _).setCell (p := ⟨w.heap.size, 1, none⟩) (Nat.le_refl _) _).setCell (p := ⟨w.heap.size, 2, none⟩) (Nat.le_refl _) _
  · have hr0 : ubOf zs = (ub0, 21) := by unfold ubOf; rw [if_neg fun h => h64 (hn ▸ h.1)]
    rw [hr0]
    clear hr0 hr ho hn
    have hne : ((n : Int) == 64) = false := beq_eq_false_iff_ne.2 (by omega)
    go_enter Try.func10, Try.ntmps10
    go_wp2
    refine bodyPost_ret (v := ansU (ub0, 21)) (by simp [results, Try.results10, go_sem, ub0]) rfl ⟨rfl, ?_⟩
    exact (Below.refl _ w).alloc (Nat.le_refl _) _

end Go.Proofs.Ytlcjdhmgpbnnmaa
