/-
  The reference's has: whether a list holds a block. Conditions: the list is as it comes in.
-/
import Derived.Test.YtnoidcelinaenaaUSM
import Derived.Test.YtnoidcelinaenaaRSM
import Derived.LoopTactic
import Derived.BigQuiet
namespace Go.Proofs.Ytnoidcelinaenaa
open Go.ChangeShapes Go.WideShapes Go.ChangeAt Go.RowKit
set_option maxRecDepth 100000

set_option maxHeartbeats 1000000 in
theorem refHas_any (A : Option Addr) (c : Nat) (l : List Bk) (hl : l.length ≤ 8796093022208) (b : Bk) (w : World) (hr : Rd w A (bks l)) :
    Calls Try.prog 24 #[.slice A l.length c, bkV b] w fun e w' => e = .returned (.bool (memB l b)) ∧ Below w.heap.size w w' := by
  obtain ⟨R, hR⟩ : ∃ R, memB l b = R := ⟨_, rfl⟩
  rw [hR]
  obtain ⟨w1, hw1⟩ : ∃ w1, w.alloc (.cells #[.int .i64 b.1, .string b.2] 65) = w1 := ⟨_, rfl⟩
  have k1 : Blk w1 w.heap.size 65 [.int .i64 b.1, .string b.2] := hw1 ▸ Blk.new w _ _
  have hB1 : Below w.heap.size w w1 := hw1 ▸ (Below.refl _ w).alloc (Nat.le_refl _) _
  have HRD := Lib.hid (hr.below hB1)
  have HK := Lib.hid k1
  have HW1 := Lib.hid hw1
  have HRR := Lib.hid hR
  have HB := Lib.hid hB1
  obtain ⟨b1, b2⟩ := b
  dsimp only [bkV] at *
  clear hw1 k1 hB1 hr hR
  go_enter Try.func24, Try.ntmps24
  go_wp2_with (rw [HW1.out])
  go_loopw [5] (fun i W => ∃ k : Nat, k ≤ l.length ∧ i = .int .i64 k ∧ Hid (∀ y ∈ l.take k, y ≠ (b1, b2)) ∧ Below w1.heap.size w1 W) (fun i _ => l.length - (intOf i).toNat)
  case atStart => exact ⟨0, Nat.zero_le _, rfl, Lib.hid (by simp), Below.refl _ _⟩
  case round =>
    obtain ⟨k, hk, rfl, HT, hB⟩ := hrel
    by_cases hlt : k < l.length
    · obtain ⟨x, hx⟩ : ∃ x, l[k]? = some x := ⟨_, List.getElem?_eq_getElem hlt⟩
      obtain ⟨g, off, rfl, hg, d0, d1⟩ := (HRD.out.below hB).bk hx
      have k2 := HK.out.below hB HK.out.lt
      have z0 := k2.cell 0
      have z1 := k2.cell 1
      simp only [List.getElem?_cons_zero, List.getElem?_cons_succ] at z0 z1
      by_cases he : x = (b1, b2)
      · have HT' : Hid (R = true) := Lib.hid (by
          rw [← HRR.out, memB_iff, ← he]
          exact List.mem_of_getElem? hx)
        subst he
        clear hx HT k2
        go_wp2_with (go_quiet (fail))
        go_ret
        rw [HT'.out]
        exact ⟨rfl, HB.out.trans ((hB.trans (belowDrewN _ _ _)).mono HB.out.size)⟩
      · have HT' : Hid (∀ y ∈ l.take (k + 1), y ≠ (b1, b2)) := Lib.hid fun y hy => by
          rw [List.take_add_one, hx] at hy
          rcases List.mem_append.1 hy with hy | hy
          · exact HT.out y hy
          · simp at hy
            subst hy
            exact he
        obtain ⟨x1, x2⟩ := x
        dsimp only at d0 d1
        rcases bk_ne he with h | ⟨rfl, h⟩
        · clear hx HT k2 he
          go_wp2_with (go_quiet (fail))
          go_round
          case rel => exact ⟨k + 1, by omega, by go_num, HT', hB.trans (belowDrewN _ _ _)⟩
          case measure => simp [intOf]; omega
        · clear hx HT k2 he
          go_wp2_with (go_quiet (fail))
          go_round
          case rel => exact ⟨k + 1, by omega, by go_num, HT', hB.trans (belowDrewN _ _ _)⟩
          case measure => simp [intOf]; omega
    · have HT' : Hid (R = false) := Lib.hid (by
        have h := HT.out
        rw [List.take_of_length_le (by omega)] at h
        rw [← HRR.out, ← Bool.not_eq_true, memB_iff]
        exact fun hm => h _ hm rfl)
      clear HT
      go_wp2
      go_ret
      rw [HT'.out]
      exact ⟨rfl, HB.out.trans (hB.mono HB.out.size)⟩

end Go.Proofs.Ytnoidcelinaenaa
