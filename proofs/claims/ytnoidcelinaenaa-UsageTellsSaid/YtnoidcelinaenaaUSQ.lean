/-
  usage: Changed. Conditions: the set reads.
-/
import Derived.Test.YtnoidcelinaenaaUSP
namespace Go.Proofs.Ytnoidcelinaenaa
open Go.ChangeShapes Go.WideShapes Go.ChangeAt Go.RowKit
set_option maxRecDepth 100000
set_option linter.unusedSimpArgs false

set_option maxHeartbeats 4000000 in
theorem changed_any15 (s : MSet) (w : World) (hs : SetU w s) :
    Calls Try.prog 14 #[.agg s.cells.toArray] w fun e w' => e = .returned (.int .i64 (chgS s)) ∧ Below w.heap.size w w' := by
  have hnn := hs.nn
  obtain ⟨x, hx⟩ : ∃ x, (lineM s)[s.snaps_.l.length]? = some x := ⟨_, List.getElem?_eq_getElem (by rw [lineM_length]; omega)⟩
  have hle := onlyL_le s s.snaps_.l.length [] x hx
  have hxl := (hs.bo x (List.mem_of_getElem? hx)).2
  obtain ⟨R, hR⟩ : ∃ R, onlyL ((lineM s).map Sl.l) s.snaps_.l.length [] = R := ⟨_, rfl⟩
  have hch : chgS s = R := hR
  rw [hR] at hle
  rw [hch]
  obtain ⟨w1, hw1⟩ : ∃ w1, w.alloc (.cells #[.string s.path_, .string s.origin_, .slice s.body_.A s.body_.l.length s.body_.c, .slice s.snaps_.A s.snaps_.l.length s.snaps_.c, .slice s.own_.A s.own_.l.length s.own_.c] 32) = w1 := ⟨_, rfl⟩
  have hB1 : Below w.heap.size w w1 := hw1 ▸ (Below.refl _ w).alloc (Nat.le_refl _) _
  have k1 : Blk w1 w.heap.size 32 s.cells := hw1 ▸ Blk.new w _ _
  have z0 := k1.cell 0
  have z1 := k1.cell 1
  have z2 := k1.cell 2
  have z3 := k1.cell 3
  have z4 := k1.cell 4
  simp only [List.getElem?_cons_zero, List.getElem?_cons_succ] at z0 z1 z2 z3 z4
  have HL := Lib.hid (line_r s w1 (hs.below hB1))
  have HW1 := Lib.hid hw1
  have HB1 := Lib.hid hB1
  have HX := Lib.hid hx
  have HRR := Lib.hid hR
  clear hw1 k1 hB1 hs hx hR hch
  go_enter Try.func14, Try.ntmps14
  go_wp2_with (rw [HW1.out])
  refine HL.out.mono ?_
  rintro e w3 ⟨g, c, rfl, hLR, hB3⟩
  obtain ⟨F, hF⟩ : ∃ F, w3.heap.size = F := ⟨_, rfl⟩
  rw [hF] at hLR
  obtain ⟨w4, hw4⟩ : ∃ w4, w3.alloc (.cells #[.int .i64 0, .slice none 0 0] 62) = w4 := ⟨_, rfl⟩
  have hFr : Fr F 0 [] w4 := by rw [← hw4, ← hF]; exact fr_new w3
  have hB4 : Below F w3 w4 := by rw [← hF, ← hw4]; exact (Below.refl _ w3).alloc (Nat.le_refl _) _
  have hL4 := hLR.below hB4
  have hwF : w.heap.size ≤ F := by rw [← hF]; exact Nat.le_trans HB1.out.size hB3.size
  have HBF : Hid (Below w.heap.size w w4) := Lib.hid ((HB1.out.trans (hB3.mono HB1.out.size)).trans (hB4.mono hwF))
  have hcap := hLR.cap
  have HA := Lib.hid (ahead_any g (s.snaps_.l.length + 1) c s.snaps_.l.length (by omega) (by omega) (by omega) w4)
  have HFr := Lib.hid hFr
  have HL4 := Lib.hid hL4
  have HW4 := Lib.hid hw4
  have hw1k : wrap64 (((s.snaps_.l.length + 1 : Nat) : Int) - 1) = (s.snaps_.l.length : Int) := by rw [IntWalk.wrap64_in _ (by omega)]; omega
  have hw1k2 : wrap64 ((s.snaps_.l.length : Int) + 1 - 1) = (s.snaps_.l.length : Int) := by rw [IntWalk.wrap64_in _ (by omega)]; omega
  clear hLR hB3 hFr hB4 hL4 hw4 HL
  go_wp2_with (rw [HW4.out])
  refine HA.out.mono ?_
  rintro e w4' ⟨rfl, A, n, c', rfl, hah⟩
  have HM := Lib.hid (meet_ahead F 0 g c s.snaps_.l.length n c' A (lineM s) (by rw [lineM_length]; omega) (fun x hx => (HL4.out.bo x hx).2) w4' HFr.out (fun x hx => (HL4.out.bo x hx).1.rd) HL4.out.row.rd hah)
  clear HA hah HFr
  go_wp2_with fail
  refine HM.out.mono ?_
  rintro e w7 ⟨rfl, ms, hf7, hms, hh7, hB67⟩
  have p1 := (HL4.out.below hB67).elem HX.out
  have hxm := List.mem_of_getElem? HX.out
  have HH7 : Hid (cntB (ms.map Sl.l) x.l = R) := Lib.hid (by
    rw [← HRR.out]
    unfold onlyL
    rw [List.getElem?_map, HX.out]
    refine cntB_congr _ fun b => ?_
    rw [hh7 b, prevM_map, hit_append]
    simp [hitB])
  obtain ⟨w8, hw8⟩ : ∃ w8, w7.alloc (.cells #[x.val] 28) = w8 := ⟨_, rfl⟩
  have hB8 : Below w7.heap.size w7 w8 := hw8 ▸ (Below.refl _ w7).alloc (Nat.le_refl _) _
  have k8 : Blk w8 w7.heap.size 28 [x.val] := hw8 ▸ Blk.new w7 _ _
  have hf8 := hf7.below hB8
  have hB78 := hB67.trans (hB8.mono (Nat.le_of_lt hf7.lt))
  have hL8 := HL4.out.below hB78
  have HT := Lib.hid (take_one F 0 ms (by omega) (some ⟨w7.heap.size, 0, none⟩) 1 x (hL8.bo x hxm).2 w8 (by rw [show wrap64 0 = 0 from by unfold wrap64; omega]; exact hf8) (hL8.bo x hxm).1 (fun _ => ⟨w7.heap.size, 0, rfl, k8.lt, fun j u hu => by rw [Nat.zero_add, k8.cell j]; simpa using hu⟩))
  rw [HH7.out, show wrap64 (0 + (R : Int)) = (R : Int) from by rw [Int.zero_add]; exact IntWalk.wrap64_in _ (by omega)] at HT
  have HW8 := Lib.hid hw8
  have HB78 := Lib.hid hB78
  clear hf7 hh7 hB67 hw8 hB8 k8 hf8 hB78 hL8 HM
  go_wp2_with (rw [HW8.out])
  refine HT.out.mono ?_
  rintro e w9 ⟨rfl, hf9, hB9⟩
  have hBw : Below w.heap.size w w9 := HBF.out.trans ((HB78.out.trans hB9).mono hwF)
  obtain ⟨⟨v9, hk9, _⟩, _, _⟩ := hf9
  have y0 := hk9.cell 0
  simp only [List.getElem?_cons_zero] at y0
  clear hk9 hB9 HT
  go_wp2
  go_ret
  exact ⟨rfl, hBw⟩

end Go.Proofs.Ytnoidcelinaenaa
