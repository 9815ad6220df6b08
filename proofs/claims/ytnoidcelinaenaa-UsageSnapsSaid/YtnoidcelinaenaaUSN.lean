/-
  usage: take: how many blocks none of the met lists holds. Conditions: the list is as it comes in.
-/
import Derived.Test.YtnoidcelinaenaaUSL
import Derived.Test.YtnoidcelinaenaaUSE
import Derived.WalkMore
namespace Go.Proofs.Ytnoidcelinaenaa
open Go.ChangeShapes Go.WideShapes Go.ChangeAt Go.RowKit
set_option maxRecDepth 100000

theorem Fr.below {F : Nat} {s : Int} {ms : List (Sl Bk)} {W W' : World} (h : Fr F s ms W) (hB : Below W.heap.size W W') : Fr F s ms W' := by
  obtain ⟨⟨v, hk, ho⟩, how, hso⟩ := h
  exact ⟨⟨v, hk.below hB hk.lt, ownBelow ho hB (Nat.le_refl _)⟩, fun m hm => ownBelow (how m hm) hB (Nat.le_refl _), hso⟩
theorem Fr.lt {F : Nat} {s : Int} {ms : List (Sl Bk)} {W : World} (h : Fr F s ms W) : F < W.heap.size := by
  obtain ⟨⟨v, hk, ho⟩, how, hso⟩ := h
  exact hk.lt
theorem Fr.set {F : Nat} {s : Int} {ms : List (Sl Bk)} {W : World} (h : Fr F s ms W) (n : Int) : Fr F n ms (W.setCell ⟨F, 0, none⟩ (.int .i64 n)) := by
  obtain ⟨⟨v, hk, ho⟩, how, hso⟩ := h
  exact ⟨⟨v, hk.set 0 _, own_setT ho hk (by decide)⟩, fun m hm => own_setT (how m hm) hk (by decide), hso⟩

theorem hit_take {ms : List (Sl Bk)} {b : Bk} (h : ∀ m ∈ ms, memB m.l b = false) : hitB (ms.map Sl.l) b = false := by
  unfold hitB
  rw [List.any_map, List.any_eq_false]
  intro m hm
  simp only [Function.comp]
  rw [h m hm]
  decide
theorem hit_one {ms : List (Sl Bk)} {b : Bk} {m : Sl Bk} (hm : m ∈ ms) (h : memB m.l b = true) : hitB (ms.map Sl.l) b = true := by
  unfold hitB
  rw [List.any_map, List.any_eq_true]
  exact ⟨m, hm, h⟩

set_option maxHeartbeats 4000000 in
theorem freshTake_any (F : Nat) (s : Int) (ms : List (Sl Bk)) (hms : ms.length ≤ 8) (A : Option Addr) (c : Nat) (l : List Bk) (hl : l.length * 24 ≤ 140737488351232) (w : World) (h : Fr F (wrap64 s) ms w) (hr : RdU F w A (bks l)) :
    Calls Try.prog 23 #[.pointer (some ⟨F, 0, none⟩), .slice A l.length c] w fun e w' => e = .returned (.tuple #[]) ∧ Fr F (wrap64 (s + cntB (ms.map Sl.l) l)) ms w' ∧ Below F w w' := by
  have HF := Lib.hid h
  have HR := Lib.hid hr
  clear h hr
  go_enter Try.func23, Try.ntmps23
  go_wp2
  go_step3
  go_wp2
  go_step3
  go_wp2
  go_loopw [10] (fun i W => ∃ k : Nat, k ≤ l.length ∧ i = .int .i64 k ∧ Hid (Fr F (wrap64 (s + cntB (ms.map Sl.l) (l.take k))) ms W) ∧ Below F w W) (fun i _ => l.length - (intOf i).toNat)
  case atStart => exact ⟨0, Nat.zero_le _, rfl, Lib.hid (by simpa [cntB] using HF.out), Below.refl _ _⟩
  case round =>
    obtain ⟨wo, rfl⟩ : ∃ wo, wo = wr := ⟨_, rfl⟩
    obtain ⟨k, hk, rfl, HFk, hB⟩ := hrel
    by_cases hlt : k < l.length
    · obtain ⟨x, hx⟩ : ∃ x, l[k]? = some x := ⟨_, List.getElem?_eq_getElem hlt⟩
      obtain ⟨b, off, rfl, hb, d0, d1⟩ := ((HR.out.keeps (KeepsLo.of hB)).rd).bk hx
      obtain ⟨w1, hw1⟩ : ∃ w1, wo.alloc (.cells #[.int .i64 x.1, .string x.2] 65) = w1 := ⟨_, rfl⟩
      have hB1 : Below wo.heap.size wo w1 := hw1 ▸ (Below.refl _ wo).alloc (Nat.le_refl _) _
      have kb : Blk w1 wo.heap.size 65 [.int .i64 x.1, .string x.2] := hw1 ▸ Blk.new wo _ _
      have hFl := HFk.out.lt
      have hF1 := HFk.out.below hB1
      obtain ⟨⟨v, hk1, ho1⟩, how1, hso1⟩ := hF1
      obtain ⟨Av, cv, hv, _, _, hRN, _⟩ := ownAny ho1
      subst hv
      have c1 := hk1.cell 1
      simp only [List.getElem?_cons_zero, List.getElem?_cons_succ] at c1
      have HK1 := Lib.hid hk1
      have HOW := Lib.hid how1
      have HSO := Lib.hid hso1
      have HRN := Lib.hid hRN.1
      have HKB := Lib.hid kb
      have HW1 := Lib.hid hw1
      have HB1 := Lib.hid hB1
      have HT := Lib.hid (cntB_take (ms.map Sl.l) hx)
      clear hx hk1 ho1 how1 hso1 hRN kb hw1 hB1
      go_wp2_with (rw [HW1.out])
      go_loopw [19] (fun i W => ∃ j : Nat, j ≤ ms.length ∧ i = .int .i64 j ∧ Hid (∀ m ∈ ms.take j, memB m.l x = false) ∧ Below w1.heap.size w1 W) (fun i _ => ms.length - (intOf i).toNat)
      case atStart => exact ⟨0, Nat.zero_le _, rfl, Lib.hid (by simp), Below.refl _ _⟩
      case round =>
        obtain ⟨j, hj, rfl, HM, hB2⟩ := hrel
        have hs2 := hB2.size
        have hBo := HB1.out.trans (hB2.mono HB1.out.size)
        have hX : Below F w wr := hB.trans (hBo.mono (Nat.le_of_lt hFl))
        have kb := HKB.out.below hB2 HKB.out.lt
        have z0 := kb.cell 0
        have z1 := kb.cell 1
        simp only [List.getElem?_cons_zero, List.getElem?_cons_succ] at z0 z1
        have HFr1 := Lib.hid (HFk.out.below hBo)
        by_cases hlj : j < ms.length
        · obtain ⟨m, hm⟩ : ∃ m, ms[j]? = some m := ⟨_, List.getElem?_eq_getElem hlj⟩
          obtain ⟨b2, off2, hAv, hb2, hcm⟩ := Rd.elem (cells := slC) (n := 1) (fun _ => rfl) (by decide) (HRN.out.below hB2) hm
          have hm0 := hcm 0 _ rfl
          rw [Nat.add_zero, Nat.mul_one] at hm0
          rw [hAv]
          have hmm := List.mem_of_getElem? hm
          have HC := Lib.hid (has_any m.A m.c m.l (by have := (HSO.out m hmm).2; omega) (HSO.out m hmm).1 x wr ((RdN.of_own (HOW.out m hmm)).1.below hB2))
          have HMM := Lib.hid hm
          rcases hmb : memB m.l x with _ | _
          · rw [hmb] at HC
            have HM' : Hid (∀ y ∈ ms.take (j + 1), memB y.l x = false) := Lib.hid fun y hy => by
              rw [List.take_add_one, HMM.out] at hy
              rcases List.mem_append.1 hy with hy | hy
              · exact HM.out y hy
              · simp at hy
                subst hy
                exact hmb
            clear hcm hm hmb kb HM
            go_wp2_with fail
            refine HC.out.mono ?_
            rintro e w3 ⟨rfl, hB3⟩
            have hB23 := hB2.trans (hB3.mono hs2)
            clear HC hB3
            go_wp2
            go_roundw
            case rel => exact ⟨j + 1, by omega, by go_num, HM', hB23⟩
            case measure => simp [intOf]; omega
          · rw [hmb] at HC
            have HT' : Hid (cntB (ms.map Sl.l) (l.take (k + 1)) = cntB (ms.map Sl.l) (l.take k)) := Lib.hid (by rw [HT.out, hit_one hmm hmb, if_pos rfl]; rfl)
            clear hcm hm hmb kb HM
            go_wp2_with fail
            refine HC.out.mono ?_
            rintro e w3 ⟨rfl, hB3⟩
            have HFr3 : Hid (Fr F (wrap64 (s + cntB (ms.map Sl.l) (l.take (k + 1)))) ms w3) := Lib.hid (by rw [HT'.out]; exact HFr1.out.below hB3)
            have hX3 : Below F w w3 := hX.trans (hB3.mono (Nat.le_of_lt HFr1.out.lt))
            clear HC hB3
            go_wp2
            go_roundw
            case rel => exact ⟨k + 1, by omega, by go_num, HFr3, hX3⟩
            case measure => simp [intOf]; omega
        · have hjm : ms.take j = ms := List.take_of_length_le (by omega)
          have HT' : Hid (wrap64 (s + cntB (ms.map Sl.l) (l.take (k + 1))) = wrap64 (wrap64 (s + cntB (ms.map Sl.l) (l.take k)) + 1)) := Lib.hid (by
            rw [HT.out, hit_take (by rw [hjm] at HM; exact HM.out), if_neg (by decide), w64_add]
            congr 1
            omega)
          obtain ⟨⟨v2, hk2, ho2⟩, _, _⟩ := HFr1.out
          have q0 := hk2.cell 0
          have g0 := hk2.frozen 0
          simp only [List.getElem?_cons_zero] at q0
          have HA := Lib.hid (add_any F (wrap64 (s + cntB (ms.map Sl.l) (l.take k))) 1 wr q0 g0)
          have HFr2 := Lib.hid (HFr1.out.set (wrap64 (wrap64 (s + cntB (ms.map Sl.l) (l.take k)) + 1)))
          rw [← HT'.out] at HA HFr2
          have hX3 : Below F w (wr.setCell ⟨F, 0, none⟩ (.int .i64 (wrap64 (s + cntB (ms.map Sl.l) (l.take (k + 1)))))) := hX.setCell (p := ⟨F, 0, none⟩) (Nat.le_refl _) _
          clear HM hjm hk2 ho2 kb z0 z1 HT'
          go_wp2_with fail
          refine HA.out.mono ?_
          rintro e w3 ⟨rfl, rfl⟩
          clear HA
          go_wp2
          go_roundw
          case rel => exact ⟨k + 1, by omega, by go_num, HFr2, hX3⟩
          case measure => simp [intOf]; omega
    · obtain rfl : k = l.length := by omega
      rw [List.take_length] at HFk
      go_wp2
      simp only [Exit.noGoto]
      go_end0
      exact ⟨rfl, HFk.out, hB⟩

end Go.Proofs.Ytnoidcelinaenaa
