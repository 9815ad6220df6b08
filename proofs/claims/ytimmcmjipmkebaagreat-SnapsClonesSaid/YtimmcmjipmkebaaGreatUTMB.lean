/-
  Which snapshot, entry, begin and stage may be, by the program. Conditions: they are as they come in.
-/
import Derived.Test.YtimmcmjipmkebaaGreatUTMA
import Derived.Test.YtimmcmjipmkebaaGreatUEVStr
import Derived.Test.YtimmcmjipmkebaaGreatUEVStage
import Derived.Test.YtimmcmjipmkebaaGreatURISnap
import Derived.Test.YtimmcmjipmkebaaGreatURIStage
import Derived.Test.YtimmcmjipmkebaaGreatUNB
import Derived.Laws.StructEq
namespace Go.Proofs.YtimmcmjipmkebaaGreat
open Go.ChangeShapes Go.WideShapes Go.ChangeAt Go.RowKit
set_option maxRecDepth 100000
set_option linter.unusedSimpArgs false
theorem flat_one : ∀ l : List ByteArray, (l.flatMap fun s => [Value.string s]) = l.map Value.string
  | [] => rfl
  | x :: l => by rw [List.flatMap_cons, flat_one l]; rfl
theorem tagsRd {w : World} {A : Option Addr} {l : List ByteArray} (h : Rd w A (l.flatMap fun s => [Value.string s])) : Rd w A (l.map Value.string) := by
  rwa [flat_one] at h
theorem isEmpty_no {s : ByteArray} (h : s ≠ ByteArray.empty) : s.toList.isEmpty = false := by
  rw [Lib.toList_data]
  rcases hb : bs s with _ | ⟨z, l⟩
  · exact absurd (bs_inj (t := ByteArray.empty) hb) h
  · show (bs s).isEmpty = false
    rw [hb]
    rfl
theorem isSnap_any (x : MSnap) (w : World) (hx : x.Good w) :
    Calls Tryz.prog 174 #[.agg #[.string x.name_, .int .i64 x.guid_, .slice x.body_.A x.body_.l.length x.body_.c, .slice x.tags_.A x.tags_.l.length x.tags_.c, .slice x.own_.A x.own_.l.length x.own_.c]] w fun e w' => e = .returned (.bool (snapB x.plain)) ∧ Below w.heap.size w w' := by
  obtain ⟨w1, hw1⟩ : ∃ w1, w.alloc (.cells #[.string x.name_, .int .i64 x.guid_, .slice x.body_.A x.body_.l.length x.body_.c, .slice x.tags_.A x.tags_.l.length x.tags_.c, .slice x.own_.A x.own_.l.length x.own_.c] 49) = w1 := ⟨_, rfl⟩
  have hB1 : Below w.heap.size w w1 := hw1 ▸ (Below.refl _ w).alloc (Nat.le_refl _) _
  have k1 : Blk w1 w.heap.size 49 [.string x.name_, .int .i64 x.guid_, .slice x.body_.A x.body_.l.length x.body_.c, .slice x.tags_.A x.tags_.l.length x.tags_.c, .slice x.own_.A x.own_.l.length x.own_.c] := hw1 ▸ Blk.new w _ _
  have hA : Below w.heap.size w w1 := hB1
  have H1 : Hid (∀ W, Below w1.heap.size w1 W → Calls Tryz.prog 45 #[.string x.name_] W fun e w' => e = .returned (.bool (isName (bs x.name_))) ∧ Below W.heap.size W w') := Lib.hid fun W hW => nameB _ W
  have H2 : Hid (∀ W, Below w1.heap.size w1 W → Calls Tryz.prog 87 #[.int .i64 x.guid_] W fun e w' => e = .returned (.bool (amt 1 x.guid_)) ∧ Below W.heap.size W w') := Lib.hid fun W hW => isFrom1_any _ W
  have H3 : Hid (∀ W, Below w1.heap.size w1 W → Calls Tryz.prog 172 #[.slice x.body_.A x.body_.l.length x.body_.c, .slice x.own_.A x.own_.l.length x.own_.c] W fun e w' => e = .returned (.bool (okK x.body_.l && okP x.own_.l)) ∧ Below W.heap.size W w') := Lib.hid fun W hW => mayHold_any _ _ W (hx.gbody_.below (hA.trans (hW.mono hA.size)) fun _ h => h) (hx.gown_.below (hA.trans (hW.mono hA.size)) fun _ h => h)
  have H5 : Hid (∀ W, Below w1.heap.size w1 W → Calls Tryz.prog 195 #[.slice x.tags_.A x.tags_.l.length x.tags_.c, .func (.func 45) #[] #[]] W fun e w' => e = .returned (.bool (x.tags_.l.all fun s => isName (bs s))) ∧ Below W.heap.size W w') := Lib.hid fun W hW => everyName _ _ _ _ rfl (by have := hx.gtags_.len; omega) W (tagsRd (hx.gtags_.rd.below (hA.trans (hW.mono hA.size))))
  have H6 : Hid (∀ W, Below w1.heap.size w1 W → Calls Tryz.prog 196 #[.slice x.tags_.A x.tags_.l.length x.tags_.c, .func (.func 197) #[] #[]] W fun e w' => e = .returned (.bool (riseB ltTx x.tags_.l)) ∧ Below W.heap.size W w') := Lib.hid fun W hW => risingStr _ _ _ _ rfl (by have := hx.gtags_.len; omega) W (tagsRd (hx.gtags_.rd.below (hA.trans (hW.mono hA.size))))
  obtain ⟨R, hR⟩ : ∃ R, snapB x.plain = R := ⟨_, rfl⟩
  rw [hR]
  have HRR : Hid (R = ((isName (bs x.name_)) && ((amt 1 x.guid_) && (((okK x.body_.l && okP x.own_.l)) && ((decide (x.tags_.l.length ≤ 4)) && ((x.tags_.l.all fun s => isName (bs s)) && ((riseB ltTx x.tags_.l)))))))) := Lib.hid (hR.symm.trans (show snapB x.plain = ((isName (bs x.name_)) && ((amt 1 x.guid_) && (((okK x.body_.l && okP x.own_.l)) && ((decide (x.tags_.l.length ≤ 4)) && ((x.tags_.l.all fun s => isName (bs s)) && ((riseB ltTx x.tags_.l))))))) from by simp only [snapB, tagsB, goodL, MSnap.plain]; simp only [Bool.and_assoc, Bool.and_comm, Bool.and_left_comm]; try rfl))
  clear hR
  obtain ⟨b1, hb1⟩ : ∃ b, (isName (bs x.name_)) = b := ⟨_, rfl⟩
  rw [hb1] at HRR
  rw [hb1] at H1
  clear hb1
  obtain ⟨b2, hb2⟩ : ∃ b, (amt 1 x.guid_) = b := ⟨_, rfl⟩
  rw [hb2] at HRR
  rw [hb2] at H2
  clear hb2
  obtain ⟨b3, hb3⟩ : ∃ b, ((okK x.body_.l && okP x.own_.l)) = b := ⟨_, rfl⟩
  rw [hb3] at HRR
  rw [hb3] at H3
  clear hb3
  obtain ⟨b4, hb4⟩ : ∃ b, (decide (x.tags_.l.length ≤ 4)) = b := ⟨_, rfl⟩
  rw [hb4] at HRR
  obtain ⟨b5, hb5⟩ : ∃ b, (x.tags_.l.all fun s => isName (bs s)) = b := ⟨_, rfl⟩
  rw [hb5] at HRR
  rw [hb5] at H5
  clear hb5
  obtain ⟨b6, hb6⟩ : ∃ b, (riseB ltTx x.tags_.l) = b := ⟨_, rfl⟩
  rw [hb6] at HRR
  rw [hb6] at H6
  clear hb6
  have HW1 := Lib.hid hw1
  have HK1 := Lib.hid k1
  clear hw1 k1
  have hs0 := hA.size
  have hT0 : Below w1.heap.size w1 w1 := Below.refl _ _
  clear hx
  go_enter Tryz.func174, Tryz.ntmps174
  have z0 := (HK1.out.below hT0 HK1.out.lt).cell 0
  simp only [gZa, gZb] at z0
  go_wp2_with fail
  rw [HW1.out]
  try go_wp2_with fail
  refine (H1.out _ hT0).mono ?_
  rintro e v1 ⟨rfl, hV1⟩
  have hT1 : Below w1.heap.size w1 v1 := hT0.trans (hV1.mono hT0.size)
  have hX1 : Below w.heap.size w v1 := hA.trans (hT1.mono hs0)
  rcases b1 with _ | _
  · skip
    go_wp2
    go_ret
    exact ⟨ret_bool (by rw [HRR.out]; rfl), hX1⟩
  · skip
    have z1 := (HK1.out.below hT1 HK1.out.lt).cell 1
    simp only [gZa, gZb] at z1
    go_wp2_with fail
    refine (H2.out _ hT1).mono ?_
    rintro e v2 ⟨rfl, hV2⟩
    have hT2 : Below w1.heap.size w1 v2 := hT1.trans (hV2.mono hT1.size)
    have hX2 : Below w.heap.size w v2 := hA.trans (hT2.mono hs0)
    rcases b2 with _ | _
    · skip
      go_wp2
      go_ret
      exact ⟨ret_bool (by rw [HRR.out]; rfl), hX2⟩
    · skip
      have z2 := (HK1.out.below hT2 HK1.out.lt).cell 2
      have z4 := (HK1.out.below hT2 HK1.out.lt).cell 4
      simp only [gZa, gZb] at z2 z4
      go_wp2_with fail
      refine (H3.out _ hT2).mono ?_
      rintro e v3 ⟨rfl, hV3⟩
      have hT3 : Below w1.heap.size w1 v3 := hT2.trans (hV3.mono hT2.size)
      have hX3 : Below w.heap.size w v3 := hA.trans (hT3.mono hs0)
      rcases b3 with _ | _
      · skip
        go_wp2
        go_ret
        exact ⟨ret_bool (by rw [HRR.out]; rfl), hX3⟩
      · skip
        have z3 := (HK1.out.below hT3 HK1.out.lt).cell 3
        simp only [gZa, gZb] at z3
        rcases b4 with _ | _
        · have ht : ¬ ((x.tags_.l.length : Int) ≤ 4) := by have := of_decide_eq_false hb4; omega
          go_wp2
          go_ret
          exact ⟨ret_bool (by rw [HRR.out]; rfl), (hA.trans (hT3.mono hs0))⟩
        · have ht : (x.tags_.l.length : Int) ≤ 4 := by have := of_decide_eq_true hb4; omega
          have z3 := (HK1.out.below hT3 HK1.out.lt).cell 3
          simp only [gZa, gZb] at z3
          go_wp2_with fail
          refine (H5.out _ hT3).mono ?_
          rintro e v5 ⟨rfl, hV5⟩
          have hT5 : Below w1.heap.size w1 v5 := hT3.trans (hV5.mono hT3.size)
          have hX5 : Below w.heap.size w v5 := hA.trans (hT5.mono hs0)
          rcases b5 with _ | _
          · skip
            go_wp2
            go_ret
            exact ⟨ret_bool (by rw [HRR.out]; rfl), hX5⟩
          · skip
            have z3 := (HK1.out.below hT5 HK1.out.lt).cell 3
            simp only [gZa, gZb] at z3
            go_wp2_with fail
            refine (H6.out _ hT5).mono ?_
            rintro e v6 ⟨rfl, hV6⟩
            have hT6 : Below w1.heap.size w1 v6 := hT5.trans (hV6.mono hT5.size)
            have hX6 : Below w.heap.size w v6 := hA.trans (hT6.mono hs0)
            rcases b6 with _ | _
            · skip
              go_wp2
              go_ret
              exact ⟨ret_bool (by rw [HRR.out]; rfl), hX6⟩
            · skip
              go_wp2
              go_ret
              exact ⟨ret_bool (by rw [HRR.out]; rfl), hX6⟩
theorem isEntry_e (x : MEntry) (hu : x.user_ = ByteArray.empty) (w : World) (hx : x.Good w) :
    Calls Tryz.prog 151 #[.agg #[.string ByteArray.empty, .int .i64 x.kind_, .string x.path_, .int .i64 x.err_]] w fun e w' => e = .returned (.bool (entryB x.plain)) ∧ Below w.heap.size w w' := by
  obtain ⟨w1, hw1⟩ : ∃ w1, w.alloc (.cells #[.string ByteArray.empty, .int .i64 x.kind_, .string x.path_, .int .i64 x.err_] 104) = w1 := ⟨_, rfl⟩
  have hB1 : Below w.heap.size w w1 := hw1 ▸ (Below.refl _ w).alloc (Nat.le_refl _) _
  have k1 : Blk w1 w.heap.size 104 [.string ByteArray.empty, .int .i64 x.kind_, .string x.path_, .int .i64 x.err_] := hw1 ▸ Blk.new w _ _
  have hA : Below w.heap.size w w1 := hB1
  have H1 : Hid (∀ W, Below w1.heap.size w1 W → Calls Tryz.prog 44 #[.string x.path_] W fun e w' => e = .returned (.bool (isPath (bs x.path_))) ∧ Below W.heap.size W w') := Lib.hid fun W hW => path_any _ (by have := hx.gpath_; omega) W
  have H2 : Hid (∀ W, Below w1.heap.size w1 W → Calls Tryz.prog 86 #[.int .i64 x.kind_] W fun e w' => e = .returned (.bool (amt 0 x.kind_)) ∧ Below W.heap.size W w') := Lib.hid fun W hW => isAmount_any _ W
  have H3 : Hid (∀ W, Below w1.heap.size w1 W → Calls Tryz.prog 86 #[.int .i64 x.err_] W fun e w' => e = .returned (.bool (amt 0 x.err_)) ∧ Below W.heap.size W w') := Lib.hid fun W hW => isAmount_any _ W
  obtain ⟨R, hR⟩ : ∃ R, entryB x.plain = R := ⟨_, rfl⟩
  rw [hR]
  have HRR : Hid (R = ((isPath (bs x.path_)) && ((amt 0 x.kind_) && ((amt 0 x.err_))))) := Lib.hid (hR.symm.trans (show entryB x.plain = ((isPath (bs x.path_)) && ((amt 0 x.kind_) && ((amt 0 x.err_)))) from by simp [entryB, MEntry.plain, hu]))
  clear hR
  obtain ⟨b1, hb1⟩ : ∃ b, (isPath (bs x.path_)) = b := ⟨_, rfl⟩
  rw [hb1] at HRR
  rw [hb1] at H1
  clear hb1
  obtain ⟨b2, hb2⟩ : ∃ b, (amt 0 x.kind_) = b := ⟨_, rfl⟩
  rw [hb2] at HRR
  rw [hb2] at H2
  clear hb2
  obtain ⟨b3, hb3⟩ : ∃ b, (amt 0 x.err_) = b := ⟨_, rfl⟩
  rw [hb3] at HRR
  rw [hb3] at H3
  clear hb3
  have HW1 := Lib.hid hw1
  have HK1 := Lib.hid k1
  clear hw1 k1
  have hs0 := hA.size
  have hT0 : Below w1.heap.size w1 w1 := Below.refl _ _
  clear hx
  go_enter Tryz.func151, Tryz.ntmps151
  have z0 := (HK1.out.below hT0 HK1.out.lt).cell 0
  have z2 := (HK1.out.below hT0 HK1.out.lt).cell 2
  simp only [gZa, gZb] at z0 z2
  go_wp2_with fail
  rw [HW1.out]
  try go_wp2_with fail
  refine (H1.out _ hT0).mono ?_
  rintro e v1 ⟨rfl, hV1⟩
  have hT1 : Below w1.heap.size w1 v1 := hT0.trans (hV1.mono hT0.size)
  have hX1 : Below w.heap.size w v1 := hA.trans (hT1.mono hs0)
  rcases b1 with _ | _
  · skip
    go_wp2
    go_ret
    exact ⟨ret_bool (by rw [HRR.out]; rfl), hX1⟩
  · skip
    have z1 := (HK1.out.below hT1 HK1.out.lt).cell 1
    simp only [gZa, gZb] at z1
    go_wp2_with fail
    refine (H2.out _ hT1).mono ?_
    rintro e v2 ⟨rfl, hV2⟩
    have hT2 : Below w1.heap.size w1 v2 := hT1.trans (hV2.mono hT1.size)
    have hX2 : Below w.heap.size w v2 := hA.trans (hT2.mono hs0)
    rcases b2 with _ | _
    · skip
      go_wp2
      go_ret
      exact ⟨ret_bool (by rw [HRR.out]; rfl), hX2⟩
    · skip
      have z3 := (HK1.out.below hT2 HK1.out.lt).cell 3
      simp only [gZa, gZb] at z3
      go_wp2_with fail
      refine (H3.out _ hT2).mono ?_
      rintro e v3 ⟨rfl, hV3⟩
      have hT3 : Below w1.heap.size w1 v3 := hT2.trans (hV3.mono hT2.size)
      have hX3 : Below w.heap.size w v3 := hA.trans (hT3.mono hs0)
      rcases b3 with _ | _
      · skip
        go_wp2
        go_ret
        exact ⟨ret_bool (by rw [HRR.out]; rfl), hX3⟩
      · skip
        go_wp2
        go_ret
        exact ⟨ret_bool (by rw [HRR.out]; rfl), hX3⟩
theorem isEntry_n (x : MEntry) (hu : ¬ x.user_ = ByteArray.empty) (w : World) (hx : x.Good w) :
    Calls Tryz.prog 151 #[.agg #[.string x.user_, .int .i64 x.kind_, .string x.path_, .int .i64 x.err_]] w fun e w' => e = .returned (.bool (entryB x.plain)) ∧ Below w.heap.size w w' := by
  have he := isEmpty_no hu
  obtain ⟨w1, hw1⟩ : ∃ w1, w.alloc (.cells #[.string x.user_, .int .i64 x.kind_, .string x.path_, .int .i64 x.err_] 104) = w1 := ⟨_, rfl⟩
  have hB1 : Below w.heap.size w w1 := hw1 ▸ (Below.refl _ w).alloc (Nat.le_refl _) _
  have k1 : Blk w1 w.heap.size 104 [.string x.user_, .int .i64 x.kind_, .string x.path_, .int .i64 x.err_] := hw1 ▸ Blk.new w _ _
  have hA : Below w.heap.size w w1 := hB1
  have H1 : Hid (∀ W, Below w1.heap.size w1 W → Calls Tryz.prog 45 #[.string x.user_] W fun e w' => e = .returned (.bool (isName (bs x.user_))) ∧ Below W.heap.size W w') := Lib.hid fun W hW => nameB _ W
  have H2 : Hid (∀ W, Below w1.heap.size w1 W → Calls Tryz.prog 44 #[.string x.path_] W fun e w' => e = .returned (.bool (isPath (bs x.path_))) ∧ Below W.heap.size W w') := Lib.hid fun W hW => path_any _ (by have := hx.gpath_; omega) W
  have H3 : Hid (∀ W, Below w1.heap.size w1 W → Calls Tryz.prog 86 #[.int .i64 x.kind_] W fun e w' => e = .returned (.bool (amt 0 x.kind_)) ∧ Below W.heap.size W w') := Lib.hid fun W hW => isAmount_any _ W
  have H4 : Hid (∀ W, Below w1.heap.size w1 W → Calls Tryz.prog 86 #[.int .i64 x.err_] W fun e w' => e = .returned (.bool (amt 0 x.err_)) ∧ Below W.heap.size W w') := Lib.hid fun W hW => isAmount_any _ W
  obtain ⟨R, hR⟩ : ∃ R, entryB x.plain = R := ⟨_, rfl⟩
  rw [hR]
  have HRR : Hid (R = ((isName (bs x.user_)) && ((isPath (bs x.path_)) && ((amt 0 x.kind_) && ((amt 0 x.err_)))))) := Lib.hid (hR.symm.trans (show entryB x.plain = ((isName (bs x.user_)) && ((isPath (bs x.path_)) && ((amt 0 x.kind_) && ((amt 0 x.err_))))) from by simp [entryB, MEntry.plain, hu]))
  clear hR
  obtain ⟨b1, hb1⟩ : ∃ b, (isName (bs x.user_)) = b := ⟨_, rfl⟩
  rw [hb1] at HRR
  rw [hb1] at H1
  clear hb1
  obtain ⟨b2, hb2⟩ : ∃ b, (isPath (bs x.path_)) = b := ⟨_, rfl⟩
  rw [hb2] at HRR
  rw [hb2] at H2
  clear hb2
  obtain ⟨b3, hb3⟩ : ∃ b, (amt 0 x.kind_) = b := ⟨_, rfl⟩
  rw [hb3] at HRR
  rw [hb3] at H3
  clear hb3
  obtain ⟨b4, hb4⟩ : ∃ b, (amt 0 x.err_) = b := ⟨_, rfl⟩
  rw [hb4] at HRR
  rw [hb4] at H4
  clear hb4
  have HW1 := Lib.hid hw1
  have HK1 := Lib.hid k1
  clear hw1 k1
  have hs0 := hA.size
  have hT0 : Below w1.heap.size w1 w1 := Below.refl _ _
  clear hx
  go_enter Tryz.func151, Tryz.ntmps151
  have z0 := (HK1.out.below hT0 HK1.out.lt).cell 0
  simp only [gZa, gZb] at z0
  go_wp2_with fail
  rw [HW1.out]
  try go_wp2_with fail
  refine (H1.out _ hT0).mono ?_
  rintro e v1 ⟨rfl, hV1⟩
  have hT1 : Below w1.heap.size w1 v1 := hT0.trans (hV1.mono hT0.size)
  have hX1 : Below w.heap.size w v1 := hA.trans (hT1.mono hs0)
  rcases b1 with _ | _
  · skip
    go_wp2
    go_ret
    exact ⟨ret_bool (by rw [HRR.out]; rfl), hX1⟩
  · skip
    have z0 := (HK1.out.below hT1 HK1.out.lt).cell 0
    have z2 := (HK1.out.below hT1 HK1.out.lt).cell 2
    simp only [gZa, gZb] at z0 z2
    go_wp2_with fail
    refine (H2.out _ hT1).mono ?_
    rintro e v2 ⟨rfl, hV2⟩
    have hT2 : Below w1.heap.size w1 v2 := hT1.trans (hV2.mono hT1.size)
    have hX2 : Below w.heap.size w v2 := hA.trans (hT2.mono hs0)
    rcases b2 with _ | _
    · skip
      go_wp2
      go_ret
      exact ⟨ret_bool (by rw [HRR.out]; rfl), hX2⟩
    · skip
      have z1 := (HK1.out.below hT2 HK1.out.lt).cell 1
      simp only [gZa, gZb] at z1
      go_wp2_with fail
      refine (H3.out _ hT2).mono ?_
      rintro e v3 ⟨rfl, hV3⟩
      have hT3 : Below w1.heap.size w1 v3 := hT2.trans (hV3.mono hT2.size)
      have hX3 : Below w.heap.size w v3 := hA.trans (hT3.mono hs0)
      rcases b3 with _ | _
      · skip
        go_wp2
        go_ret
        exact ⟨ret_bool (by rw [HRR.out]; rfl), hX3⟩
      · skip
        have z3 := (HK1.out.below hT3 HK1.out.lt).cell 3
        simp only [gZa, gZb] at z3
        go_wp2_with fail
        refine (H4.out _ hT3).mono ?_
        rintro e v4 ⟨rfl, hV4⟩
        have hT4 : Below w1.heap.size w1 v4 := hT3.trans (hV4.mono hT3.size)
        have hX4 : Below w.heap.size w v4 := hA.trans (hT4.mono hs0)
        rcases b4 with _ | _
        · skip
          go_wp2
          go_ret
          exact ⟨ret_bool (by rw [HRR.out]; rfl), hX4⟩
        · skip
          go_wp2
          go_ret
          exact ⟨ret_bool (by rw [HRR.out]; rfl), hX4⟩
theorem isEntry_any (x : MEntry) (w : World) (hx : x.Good w) :
    Calls Tryz.prog 151 #[.agg x.cells.toArray] w fun e w' => e = .returned (.bool (entryB x.plain)) ∧ Below w.heap.size w w' := by
  by_cases hu : x.user_ = ByteArray.empty
  · have := isEntry_e x hu w hx
    rw [← hu] at this
    exact this
  · exact isEntry_n x hu w hx
set_option maxHeartbeats 1000000
set_option linter.unusedVariables false
theorem empty_isEmpty : ByteArray.empty.toList.isEmpty = true := by
  rw [Lib.toList_data]
  rfl
theorem sum_yes {x : MSum} (h : zeroSum x.plain = true) : (x.a_ == 0) = true ∧ (x.b_ == 0) = true ∧ (x.c_ == 0) = true ∧ (x.d_ == 0) = true := by
  have e := of_decide_eq_true h
  rw [PSum.eq_iff] at e
  obtain ⟨e1, e2, e3, e4⟩ := e
  exact ⟨beq_iff_eq.2 e1, beq_iff_eq.2 e2, beq_iff_eq.2 e3, beq_iff_eq.2 e4⟩
theorem sum_no {x : MSum} (h : zeroSum x.plain = false) : (x.a_ == 0) = false ∨ ((x.a_ == 0) = true ∧ (x.b_ == 0) = false) ∨ ((x.a_ == 0) = true ∧ (x.b_ == 0) = true ∧ (x.c_ == 0) = false) ∨ ((x.a_ == 0) = true ∧ (x.b_ == 0) = true ∧ (x.c_ == 0) = true ∧ (x.d_ == 0) = false) := by
  have e := of_decide_eq_false h
  rw [PSum.eq_iff] at e
  rcases h1 : x.a_ == 0 with _ | _
  · exact .inl rfl
  rcases h2 : x.b_ == 0 with _ | _
  · exact .inr (.inl ⟨rfl, rfl⟩)
  rcases h3 : x.c_ == 0 with _ | _
  · exact .inr (.inr (.inl ⟨rfl, rfl, rfl⟩))
  rcases h4 : x.d_ == 0 with _ | _
  · exact .inr (.inr (.inr ⟨rfl, rfl, rfl, rfl⟩))
  exact absurd ⟨beq_iff_eq.1 h1, beq_iff_eq.1 h2, beq_iff_eq.1 h3, beq_iff_eq.1 h4⟩ e
theorem isBegin_any (x : MRecord) (w : World) (hx : x.Good w) :
    Calls Tryz.prog 184 #[.agg #[.int .i64 x.kind_, .string x.name_, .int .i64 x.from_, .int .i64 x.guid_, .slice x.own_.A x.own_.l.length x.own_.c, .int .i64 x.index_, .int .i64 x.count_, .string x.data_, .int .u64 x.sum_.a_, .int .u64 x.sum_.b_, .int .u64 x.sum_.c_, .int .u64 x.sum_.d_]] w fun e w' => e = .returned (.bool ((decide (x.kind_ = 1) && (isName (bs x.name_) && (amt 0 x.from_ && (amt 1 x.guid_ && (decide (x.index_ = 0) && (decide (x.count_ = 0) && (decide (x.data_ = ByteArray.empty) && zeroSum x.sum_.plain))))))))) ∧ Below w.heap.size w w' := by
  obtain ⟨w1, hw1⟩ : ∃ w1, w.alloc (.cells #[.int .i64 x.kind_, .string x.name_, .int .i64 x.from_, .int .i64 x.guid_, .slice x.own_.A x.own_.l.length x.own_.c, .int .i64 x.index_, .int .i64 x.count_, .string x.data_, .int .u64 x.sum_.a_, .int .u64 x.sum_.b_, .int .u64 x.sum_.c_, .int .u64 x.sum_.d_] 89) = w1 := ⟨_, rfl⟩
  have hB1 : Below w.heap.size w w1 := hw1 ▸ (Below.refl _ w).alloc (Nat.le_refl _) _
  have k1 : Blk w1 w.heap.size 89 [.int .i64 x.kind_, .string x.name_, .int .i64 x.from_, .int .i64 x.guid_, .slice x.own_.A x.own_.l.length x.own_.c, .int .i64 x.index_, .int .i64 x.count_, .string x.data_, .int .u64 x.sum_.a_, .int .u64 x.sum_.b_, .int .u64 x.sum_.c_, .int .u64 x.sum_.d_] := hw1 ▸ Blk.new w _ _
  have hA : Below w.heap.size w w1 := hB1
  have H2 : Hid (∀ W, Below w1.heap.size w1 W → Calls Tryz.prog 45 #[.string x.name_] W fun e w' => e = .returned (.bool (isName (bs x.name_))) ∧ Below W.heap.size W w') := Lib.hid fun W hW => nameB _ W
  have H3 : Hid (∀ W, Below w1.heap.size w1 W → Calls Tryz.prog 86 #[.int .i64 x.from_] W fun e w' => e = .returned (.bool (amt 0 x.from_)) ∧ Below W.heap.size W w') := Lib.hid fun W hW => isAmount_any _ W
  have H4 : Hid (∀ W, Below w1.heap.size w1 W → Calls Tryz.prog 87 #[.int .i64 x.guid_] W fun e w' => e = .returned (.bool (amt 1 x.guid_)) ∧ Below W.heap.size W w') := Lib.hid fun W hW => isFrom1_any _ W
  obtain ⟨R, hR⟩ : ∃ R, (decide (x.kind_ = 1) && (isName (bs x.name_) && (amt 0 x.from_ && (amt 1 x.guid_ && (decide (x.index_ = 0) && (decide (x.count_ = 0) && (decide (x.data_ = ByteArray.empty) && zeroSum x.sum_.plain))))))) = R := ⟨_, rfl⟩
  rw [hR]
  have HRR : Hid (R = ((decide (x.kind_ = 1)) && ((isName (bs x.name_)) && ((amt 0 x.from_) && ((amt 1 x.guid_) && ((decide (x.index_ = 0)) && ((decide (x.count_ = 0)) && ((decide (x.data_ = ByteArray.empty)) && ((zeroSum x.sum_.plain)))))))))) := Lib.hid (hR.symm.trans (show (decide (x.kind_ = 1) && (isName (bs x.name_) && (amt 0 x.from_ && (amt 1 x.guid_ && (decide (x.index_ = 0) && (decide (x.count_ = 0) && (decide (x.data_ = ByteArray.empty) && zeroSum x.sum_.plain))))))) = ((decide (x.kind_ = 1)) && ((isName (bs x.name_)) && ((amt 0 x.from_) && ((amt 1 x.guid_) && ((decide (x.index_ = 0)) && ((decide (x.count_ = 0)) && ((decide (x.data_ = ByteArray.empty)) && ((zeroSum x.sum_.plain))))))))) from by rfl))
  clear hR
  obtain ⟨b1, hb1⟩ : ∃ b, (decide (x.kind_ = 1)) = b := ⟨_, rfl⟩
  rw [hb1] at HRR
  obtain ⟨b2, hb2⟩ : ∃ b, (isName (bs x.name_)) = b := ⟨_, rfl⟩
  rw [hb2] at HRR
  rw [hb2] at H2
  clear hb2
  obtain ⟨b3, hb3⟩ : ∃ b, (amt 0 x.from_) = b := ⟨_, rfl⟩
  rw [hb3] at HRR
  rw [hb3] at H3
  clear hb3
  obtain ⟨b4, hb4⟩ : ∃ b, (amt 1 x.guid_) = b := ⟨_, rfl⟩
  rw [hb4] at HRR
  rw [hb4] at H4
  clear hb4
  obtain ⟨b5, hb5⟩ : ∃ b, (decide (x.index_ = 0)) = b := ⟨_, rfl⟩
  rw [hb5] at HRR
  obtain ⟨b6, hb6⟩ : ∃ b, (decide (x.count_ = 0)) = b := ⟨_, rfl⟩
  rw [hb6] at HRR
  obtain ⟨b7, hb7⟩ : ∃ b, (decide (x.data_ = ByteArray.empty)) = b := ⟨_, rfl⟩
  rw [hb7] at HRR
  obtain ⟨b8, hb8⟩ : ∃ b, (zeroSum x.sum_.plain) = b := ⟨_, rfl⟩
  rw [hb8] at HRR
  have HW1 := Lib.hid hw1
  have HK1 := Lib.hid k1
  clear hw1 k1
  have hs0 := hA.size
  have hT0 : Below w1.heap.size w1 w1 := Below.refl _ _
  clear hx
  go_enter Tryz.func184, Tryz.ntmps184
  have z0 := (HK1.out.below hT0 HK1.out.lt).cell 0
  simp only [gZa, gZb] at z0
  go_upto_region 1 with fail
  rw [HW1.out]
  rcases b1 with _ | _
  · have ht1 : (x.kind_ == 1) = false := beq_eq_false_iff_ne.2 (of_decide_eq_false hb1)
    go_wp2
    go_ret
    exact ⟨ret_bool (by rw [HRR.out]; rfl), (hA.trans (hT0.mono hs0))⟩
  · have ht1 : (x.kind_ == 1) = true := beq_iff_eq.2 (of_decide_eq_true hb1)
    have z1 := (HK1.out.below hT0 HK1.out.lt).cell 1
    simp only [gZa, gZb] at z1
    go_wp2_with fail
    refine (H2.out _ hT0).mono ?_
    rintro e v2 ⟨rfl, hV2⟩
    have hT2 : Below w1.heap.size w1 v2 := hT0.trans (hV2.mono hT0.size)
    have hX2 : Below w.heap.size w v2 := hA.trans (hT2.mono hs0)
    rcases b2 with _ | _
    · skip
      go_wp2
      go_ret
      exact ⟨ret_bool (by rw [HRR.out]; rfl), hX2⟩
    · skip
      have z2 := (HK1.out.below hT2 HK1.out.lt).cell 2
      simp only [gZa, gZb] at z2
      go_wp2_with fail
      refine (H3.out _ hT2).mono ?_
      rintro e v3 ⟨rfl, hV3⟩
      have hT3 : Below w1.heap.size w1 v3 := hT2.trans (hV3.mono hT2.size)
      have hX3 : Below w.heap.size w v3 := hA.trans (hT3.mono hs0)
      rcases b3 with _ | _
      · skip
        go_wp2
        go_ret
        exact ⟨ret_bool (by rw [HRR.out]; rfl), hX3⟩
      · skip
        have z3 := (HK1.out.below hT3 HK1.out.lt).cell 3
        simp only [gZa, gZb] at z3
        go_wp2_with fail
        refine (H4.out _ hT3).mono ?_
        rintro e v4 ⟨rfl, hV4⟩
        have hT4 : Below w1.heap.size w1 v4 := hT3.trans (hV4.mono hT3.size)
        have hX4 : Below w.heap.size w v4 := hA.trans (hT4.mono hs0)
        rcases b4 with _ | _
        · skip
          go_wp2
          go_ret
          exact ⟨ret_bool (by rw [HRR.out]; rfl), hX4⟩
        · skip
          have z5 := (HK1.out.below hT4 HK1.out.lt).cell 5
          simp only [gZa, gZb] at z5
          rcases b5 with _ | _
          · have ht5 : (x.index_ == 0) = false := beq_eq_false_iff_ne.2 (of_decide_eq_false hb5)
            go_wp2
            go_ret
            exact ⟨ret_bool (by rw [HRR.out]; rfl), (hA.trans (hT4.mono hs0))⟩
          · have ht5 : (x.index_ == 0) = true := beq_iff_eq.2 (of_decide_eq_true hb5)
            have z6 := (HK1.out.below hT4 HK1.out.lt).cell 6
            simp only [gZa, gZb] at z6
            rcases b6 with _ | _
            · have ht6 : (x.count_ == 0) = false := beq_eq_false_iff_ne.2 (of_decide_eq_false hb6)
              go_wp2
              go_ret
              exact ⟨ret_bool (by rw [HRR.out]; rfl), (hA.trans (hT4.mono hs0))⟩
            · have ht6 : (x.count_ == 0) = true := beq_iff_eq.2 (of_decide_eq_true hb6)
              have z7 := (HK1.out.below hT4 HK1.out.lt).cell 7
              simp only [gZa, gZb] at z7
              rcases b7 with _ | _
              · have he : x.data_.toList.isEmpty = false := isEmpty_no (of_decide_eq_false hb7)
                go_wp2
                go_ret
                exact ⟨ret_bool (by rw [HRR.out]; rfl), (hA.trans (hT4.mono hs0))⟩
              · have he : x.data_.toList.isEmpty = true := by rw [of_decide_eq_true hb7]; exact empty_isEmpty
                have z8 := (HK1.out.below hT4 HK1.out.lt).cell 8
                have z9 := (HK1.out.below hT4 HK1.out.lt).cell 9
                have z10 := (HK1.out.below hT4 HK1.out.lt).cell 10
                have z11 := (HK1.out.below hT4 HK1.out.lt).cell 11
                simp only [gZa, gZb] at z8 z9 z10 z11
                rcases b8 with _ | _
                · rcases sum_no hb8 with h1 | ⟨h1, h2⟩ | ⟨h1, h2, h3⟩ | ⟨h1, h2, h3, h4⟩
                  all_goals
                    go_wp2
                    go_ret
                    exact ⟨ret_bool (by rw [HRR.out]; rfl), (hA.trans (hT4.mono hs0))⟩
                · obtain ⟨h1, h2, h3, h4⟩ := sum_yes hb8
                  go_wp2
                  go_ret
                  exact ⟨ret_bool (by rw [HRR.out]; rfl), (hA.trans (hT4.mono hs0))⟩
def begB (r : PRecord) : Bool := decide (r.kind_ = 1) && (isName (bs r.name_) && (amt 0 r.from_ && (amt 1 r.guid_ && (decide (r.index_ = 0) && (decide (r.count_ = 0) && (decide (r.data_ = ByteArray.empty) && zeroSum r.sum_))))))
theorem begB_own (r : PRecord) : beginB r = (begB r && okP r.own_) := by
  simp only [beginB, begB, Bool.and_assoc, Bool.and_comm, Bool.and_left_comm]
theorem isStage_any (x : MStage) (w : World) (hx : x.Good w) :
    Calls Tryz.prog 147 #[.agg #[.string x.into_, .int .i64 x.begin_.kind_, .string x.begin_.name_, .int .i64 x.begin_.from_, .int .i64 x.begin_.guid_, .slice x.begin_.own_.A x.begin_.own_.l.length x.begin_.own_.c, .int .i64 x.begin_.index_, .int .i64 x.begin_.count_, .string x.begin_.data_, .int .u64 x.begin_.sum_.a_, .int .u64 x.begin_.sum_.b_, .int .u64 x.begin_.sum_.c_, .int .u64 x.begin_.sum_.d_, .slice x.body_.A x.body_.l.length x.body_.c, .int .i64 x.at_, .int .i64 x.next_, .int .u64 x.sum_.a_, .int .u64 x.sum_.b_, .int .u64 x.sum_.c_, .int .u64 x.sum_.d_, .bool x.done_]] w fun e w' => e = .returned (.bool (stageB x.plain)) ∧ Below w.heap.size w w' := by
  obtain ⟨w1, hw1⟩ : ∃ w1, w.alloc (.cells #[.string x.into_, .int .i64 x.begin_.kind_, .string x.begin_.name_, .int .i64 x.begin_.from_, .int .i64 x.begin_.guid_, .slice x.begin_.own_.A x.begin_.own_.l.length x.begin_.own_.c, .int .i64 x.begin_.index_, .int .i64 x.begin_.count_, .string x.begin_.data_, .int .u64 x.begin_.sum_.a_, .int .u64 x.begin_.sum_.b_, .int .u64 x.begin_.sum_.c_, .int .u64 x.begin_.sum_.d_, .slice x.body_.A x.body_.l.length x.body_.c, .int .i64 x.at_, .int .i64 x.next_, .int .u64 x.sum_.a_, .int .u64 x.sum_.b_, .int .u64 x.sum_.c_, .int .u64 x.sum_.d_, .bool x.done_] 91) = w1 := ⟨_, rfl⟩
  have hB1 : Below w.heap.size w w1 := hw1 ▸ (Below.refl _ w).alloc (Nat.le_refl _) _
  have k1 : Blk w1 w.heap.size 91 [.string x.into_, .int .i64 x.begin_.kind_, .string x.begin_.name_, .int .i64 x.begin_.from_, .int .i64 x.begin_.guid_, .slice x.begin_.own_.A x.begin_.own_.l.length x.begin_.own_.c, .int .i64 x.begin_.index_, .int .i64 x.begin_.count_, .string x.begin_.data_, .int .u64 x.begin_.sum_.a_, .int .u64 x.begin_.sum_.b_, .int .u64 x.begin_.sum_.c_, .int .u64 x.begin_.sum_.d_, .slice x.body_.A x.body_.l.length x.body_.c, .int .i64 x.at_, .int .i64 x.next_, .int .u64 x.sum_.a_, .int .u64 x.sum_.b_, .int .u64 x.sum_.c_, .int .u64 x.sum_.d_, .bool x.done_] := hw1 ▸ Blk.new w _ _
  have hA : Below w.heap.size w w1 := hB1
  have H2 : Hid (∀ W, Below w1.heap.size w1 W → Calls Tryz.prog 44 #[.string x.into_] W fun e w' => e = .returned (.bool (isPath (bs x.into_))) ∧ Below W.heap.size W w') := Lib.hid fun W hW => path_any _ (by have := hx.ginto_; omega) W
  have H3 : Hid (∀ W, Below w1.heap.size w1 W → Calls Tryz.prog 184 #[.agg #[.int .i64 x.begin_.kind_, .string x.begin_.name_, .int .i64 x.begin_.from_, .int .i64 x.begin_.guid_, .slice x.begin_.own_.A x.begin_.own_.l.length x.begin_.own_.c, .int .i64 x.begin_.index_, .int .i64 x.begin_.count_, .string x.begin_.data_, .int .u64 x.begin_.sum_.a_, .int .u64 x.begin_.sum_.b_, .int .u64 x.begin_.sum_.c_, .int .u64 x.begin_.sum_.d_]] W fun e w' => e = .returned (.bool (begB x.begin_.plain)) ∧ Below W.heap.size W w') := Lib.hid fun W hW => isBegin_any x.begin_ W (hx.gbegin_.below (hA.trans (hW.mono hA.size)))
  have H4 : Hid (∀ W, Below w1.heap.size w1 W → Calls Tryz.prog 172 #[.slice x.body_.A x.body_.l.length x.body_.c, .slice x.begin_.own_.A x.begin_.own_.l.length x.begin_.own_.c] W fun e w' => e = .returned (.bool (okK x.body_.l && okP x.begin_.own_.l)) ∧ Below W.heap.size W w') := Lib.hid fun W hW => mayHold_any _ _ W (hx.gbody_.below (hA.trans (hW.mono hA.size)) fun _ h => h) (hx.gbegin_.gown_.below (hA.trans (hW.mono hA.size)) fun _ h => h)
  have H5 : Hid (∀ W, Below w1.heap.size w1 W → Calls Tryz.prog 86 #[.int .i64 x.at_] W fun e w' => e = .returned (.bool (amt 0 x.at_)) ∧ Below W.heap.size W w') := Lib.hid fun W hW => isAmount_any _ W
  have H6 : Hid (∀ W, Below w1.heap.size w1 W → Calls Tryz.prog 86 #[.int .i64 x.next_] W fun e w' => e = .returned (.bool (amt 0 x.next_)) ∧ Below W.heap.size W w') := Lib.hid fun W hW => isAmount_any _ W
  obtain ⟨R, hR⟩ : ∃ R, stageB x.plain = R := ⟨_, rfl⟩
  rw [hR]
  have HRR : Hid (R = ((decide (x.into_ ≠ ByteArray.empty)) && ((isPath (bs x.into_)) && ((begB x.begin_.plain) && (((okK x.body_.l && okP x.begin_.own_.l)) && ((amt 0 x.at_) && ((amt 0 x.next_)))))))) := Lib.hid (hR.symm.trans (show stageB x.plain = ((decide (x.into_ ≠ ByteArray.empty)) && ((isPath (bs x.into_)) && ((begB x.begin_.plain) && (((okK x.body_.l && okP x.begin_.own_.l)) && ((amt 0 x.at_) && ((amt 0 x.next_))))))) from by simp only [stageB, MStage.plain, begB_own]; rw [show x.begin_.plain.own_ = x.begin_.own_.l from rfl]; simp only [Bool.and_assoc, Bool.and_comm, Bool.and_left_comm]; try rfl))
  clear hR
  obtain ⟨b1, hb1⟩ : ∃ b, (decide (x.into_ ≠ ByteArray.empty)) = b := ⟨_, rfl⟩
  rw [hb1] at HRR
  obtain ⟨b2, hb2⟩ : ∃ b, (isPath (bs x.into_)) = b := ⟨_, rfl⟩
  rw [hb2] at HRR
  rw [hb2] at H2
  clear hb2
  obtain ⟨b3, hb3⟩ : ∃ b, (begB x.begin_.plain) = b := ⟨_, rfl⟩
  rw [hb3] at HRR
  rw [hb3] at H3
  clear hb3
  obtain ⟨b4, hb4⟩ : ∃ b, ((okK x.body_.l && okP x.begin_.own_.l)) = b := ⟨_, rfl⟩
  rw [hb4] at HRR
  rw [hb4] at H4
  clear hb4
  obtain ⟨b5, hb5⟩ : ∃ b, (amt 0 x.at_) = b := ⟨_, rfl⟩
  rw [hb5] at HRR
  rw [hb5] at H5
  clear hb5
  obtain ⟨b6, hb6⟩ : ∃ b, (amt 0 x.next_) = b := ⟨_, rfl⟩
  rw [hb6] at HRR
  rw [hb6] at H6
  clear hb6
  have HW1 := Lib.hid hw1
  have HK1 := Lib.hid k1
  clear hw1 k1
  have hs0 := hA.size
  have hT0 : Below w1.heap.size w1 w1 := Below.refl _ _
  clear hx
  go_enter Tryz.func147, Tryz.ntmps147
  have z0 := (HK1.out.below hT0 HK1.out.lt).cell 0
  simp only [gZa, gZb] at z0
  go_upto_region 1 with fail
  rw [HW1.out]
  rcases b1 with _ | _
  · have he : x.into_.toList.isEmpty = true := by have := of_decide_eq_false hb1; rw [show x.into_ = ByteArray.empty from Classical.byContradiction this]; exact empty_isEmpty
    go_wp2
    go_ret
    exact ⟨ret_bool (by rw [HRR.out]; rfl), (hA.trans (hT0.mono hs0))⟩
  · have he : x.into_.toList.isEmpty = false := isEmpty_no (of_decide_eq_true hb1)
    have z0 := (HK1.out.below hT0 HK1.out.lt).cell 0
    simp only [gZa, gZb] at z0
    go_wp2_with fail
    refine (H2.out _ hT0).mono ?_
    rintro e v2 ⟨rfl, hV2⟩
    have hT2 : Below w1.heap.size w1 v2 := hT0.trans (hV2.mono hT0.size)
    have hX2 : Below w.heap.size w v2 := hA.trans (hT2.mono hs0)
    rcases b2 with _ | _
    · skip
      go_wp2
      go_ret
      exact ⟨ret_bool (by rw [HRR.out]; rfl), hX2⟩
    · skip
      have z1 := (HK1.out.below hT2 HK1.out.lt).cell 1
      have z2 := (HK1.out.below hT2 HK1.out.lt).cell 2
      have z3 := (HK1.out.below hT2 HK1.out.lt).cell 3
      have z4 := (HK1.out.below hT2 HK1.out.lt).cell 4
      have z5 := (HK1.out.below hT2 HK1.out.lt).cell 5
      have z6 := (HK1.out.below hT2 HK1.out.lt).cell 6
      have z7 := (HK1.out.below hT2 HK1.out.lt).cell 7
      have z8 := (HK1.out.below hT2 HK1.out.lt).cell 8
      have z9 := (HK1.out.below hT2 HK1.out.lt).cell 9
      have z10 := (HK1.out.below hT2 HK1.out.lt).cell 10
      have z11 := (HK1.out.below hT2 HK1.out.lt).cell 11
      have z12 := (HK1.out.below hT2 HK1.out.lt).cell 12
      simp only [gZa, gZb] at z1 z2 z3 z4 z5 z6 z7 z8 z9 z10 z11 z12
      go_wp2_with fail
      refine (H3.out _ hT2).mono ?_
      rintro e v3 ⟨rfl, hV3⟩
      have hT3 : Below w1.heap.size w1 v3 := hT2.trans (hV3.mono hT2.size)
      have hX3 : Below w.heap.size w v3 := hA.trans (hT3.mono hs0)
      rcases b3 with _ | _
      · skip
        go_wp2
        go_ret
        exact ⟨ret_bool (by rw [HRR.out]; rfl), hX3⟩
      · skip
        have z13 := (HK1.out.below hT3 HK1.out.lt).cell 13
        have z5 := (HK1.out.below hT3 HK1.out.lt).cell 5
        simp only [gZa, gZb] at z13 z5
        go_wp2_with fail
        refine (H4.out _ hT3).mono ?_
        rintro e v4 ⟨rfl, hV4⟩
        have hT4 : Below w1.heap.size w1 v4 := hT3.trans (hV4.mono hT3.size)
        have hX4 : Below w.heap.size w v4 := hA.trans (hT4.mono hs0)
        rcases b4 with _ | _
        · skip
          go_wp2
          go_ret
          exact ⟨ret_bool (by rw [HRR.out]; rfl), hX4⟩
        · skip
          have z14 := (HK1.out.below hT4 HK1.out.lt).cell 14
          simp only [gZa, gZb] at z14
          go_wp2_with fail
          refine (H5.out _ hT4).mono ?_
          rintro e v5 ⟨rfl, hV5⟩
          have hT5 : Below w1.heap.size w1 v5 := hT4.trans (hV5.mono hT4.size)
          have hX5 : Below w.heap.size w v5 := hA.trans (hT5.mono hs0)
          rcases b5 with _ | _
          · skip
            go_wp2
            go_ret
            exact ⟨ret_bool (by rw [HRR.out]; rfl), hX5⟩
          · skip
            have z15 := (HK1.out.below hT5 HK1.out.lt).cell 15
            simp only [gZa, gZb] at z15
            go_wp2_with fail
            refine (H6.out _ hT5).mono ?_
            rintro e v6 ⟨rfl, hV6⟩
            have hT6 : Below w1.heap.size w1 v6 := hT5.trans (hV6.mono hT5.size)
            have hX6 : Below w.heap.size w v6 := hA.trans (hT6.mono hs0)
            rcases b6 with _ | _
            · skip
              go_wp2
              go_ret
              exact ⟨ret_bool (by rw [HRR.out]; rfl), hX6⟩
            · skip
              go_wp2
              go_ret
              exact ⟨ret_bool (by rw [HRR.out]; rfl), hX6⟩
theorem into_any (x : MStage) (w : World) :
    Calls Tryz.prog 149 (#[.agg x.cells.toArray] ++ #[]) w fun e w' => e = .returned (.string x.into_) ∧ Below w.heap.size w w' := by
  obtain ⟨cs, hcs⟩ : ∃ cs, x.cells.toArray = cs := ⟨_, rfl⟩
  have h0 : cs[0]? = some (.string x.into_) := by rw [← hcs]; rfl
  obtain ⟨w1, hw1⟩ : ∃ w1, w.alloc (.cells cs 91) = w1 := ⟨_, rfl⟩
  have hB1 : Below w.heap.size w w1 := hw1 ▸ (Below.refl _ w).alloc (Nat.le_refl _) _
  have k1 : Blk w1 w.heap.size 91 cs.toList := hw1 ▸ Blk.new w cs.toList _
  have z0 := k1.cell 0
  rw [Array.getElem?_toList, h0] at z0
  have HW := Lib.hid hw1
  rw [hcs]
  clear hw1 k1 hcs h0
  go_enter Tryz.func149, Tryz.ntmps149
  go_upto_region 1 with fail
  rw [HW.out]
  go_wp2
  go_ret
  exact ⟨rfl, hB1⟩
theorem areStages_any (X : Sl MStage) (w : World) (hX : SlGood w MStage.cells (MStage.Good w) 224 X) :
    Calls Tryz.prog 90 #[.slice X.A X.l.length X.c] w fun e w' => e = .returned (.bool ((decide (X.l.length ≤ 4) && ((X.l.all fun x => stageB x.plain) && riseB (fun a b : MStage => ltTx a.into_ b.into_) X.l)))) ∧ Below w.heap.size w w' := by
  have hA : Below w.heap.size w w := Below.refl _ _
  have H2 : Hid (∀ W, Below w.heap.size w W → Calls Tryz.prog 146 #[.slice X.A X.l.length X.c, .func (.func 147) #[] #[]] W fun e w' => e = .returned (.bool (X.l.all fun x => stageB x.plain)) ∧ Below W.heap.size W w') := Lib.hid fun W hW => every_Stage (fun x => stageB x.plain) _ #[] (enters_of Tryz.func147 (by kernel_rfl) rfl) _ _ _ _ rfl W (fun W2 x hm hB => isStage_any x W2 ((hX.el x hm).below (hW.trans (hB.mono hW.size)))) (by have := hX.len; omega) (hX.rd.below hW)
  have H3 : Hid (∀ W, Below w.heap.size w W → Calls Tryz.prog 148 #[.slice X.A X.l.length X.c, .func (.func 149) #[] #[]] W fun e w' => e = .returned (.bool (riseB (fun a b : MStage => ltTx a.into_ b.into_) X.l)) ∧ Below W.heap.size W w') := Lib.hid fun W hW => rising_Stage MStage.into_ _ #[] (enters_of Tryz.func149 (by kernel_rfl) rfl) _ _ _ _ rfl W (fun W2 x hB => into_any x W2) (by have := hX.len; omega) (hX.rd.below hW)
  obtain ⟨R, hR⟩ : ∃ R, (decide (X.l.length ≤ 4) && ((X.l.all fun x => stageB x.plain) && riseB (fun a b : MStage => ltTx a.into_ b.into_) X.l)) = R := ⟨_, rfl⟩
  rw [hR]
  have HRR : Hid (R = ((decide (X.l.length ≤ 4)) && ((X.l.all fun x => stageB x.plain) && ((riseB (fun a b : MStage => ltTx a.into_ b.into_) X.l))))) := Lib.hid (hR.symm.trans (show (decide (X.l.length ≤ 4) && ((X.l.all fun x => stageB x.plain) && riseB (fun a b : MStage => ltTx a.into_ b.into_) X.l)) = ((decide (X.l.length ≤ 4)) && ((X.l.all fun x => stageB x.plain) && ((riseB (fun a b : MStage => ltTx a.into_ b.into_) X.l)))) from by rfl))
  clear hR
  obtain ⟨b1, hb1⟩ : ∃ b, (decide (X.l.length ≤ 4)) = b := ⟨_, rfl⟩
  rw [hb1] at HRR
  obtain ⟨b2, hb2⟩ : ∃ b, (X.l.all fun x => stageB x.plain) = b := ⟨_, rfl⟩
  rw [hb2] at HRR
  rw [hb2] at H2
  clear hb2
  obtain ⟨b3, hb3⟩ : ∃ b, (riseB (fun a b : MStage => ltTx a.into_ b.into_) X.l) = b := ⟨_, rfl⟩
  rw [hb3] at HRR
  rw [hb3] at H3
  clear hb3
  have hs0 := hA.size
  have hT0 : Below w.heap.size w w := Below.refl _ _
  clear hX
  go_enter Tryz.func90, Tryz.ntmps90
  rcases b1 with _ | _
  · have ht : ¬ ((X.l.length : Int) ≤ 4) := by have := of_decide_eq_false hb1; omega
    go_wp2
    go_ret
    exact ⟨ret_bool (by rw [HRR.out]; rfl), (hA.trans (hT0.mono hs0))⟩
  · have ht : (X.l.length : Int) ≤ 4 := by have := of_decide_eq_true hb1; omega
    go_wp2_with fail
    refine (H2.out _ hT0).mono ?_
    rintro e v2 ⟨rfl, hV2⟩
    have hT2 : Below w.heap.size w v2 := hT0.trans (hV2.mono hT0.size)
    have hX2 : Below w.heap.size w v2 := hA.trans (hT2.mono hs0)
    rcases b2 with _ | _
    · skip
      go_wp2
      go_ret
      exact ⟨ret_bool (by rw [HRR.out]; rfl), hX2⟩
    · skip
      go_wp2_with fail
      refine (H3.out _ hT2).mono ?_
      rintro e v3 ⟨rfl, hV3⟩
      have hT3 : Below w.heap.size w v3 := hT2.trans (hV3.mono hT2.size)
      have hX3 : Below w.heap.size w v3 := hA.trans (hT3.mono hs0)
      rcases b3 with _ | _
      · skip
        go_wp2
        go_ret
        exact ⟨ret_bool (by rw [HRR.out]; rfl), hX3⟩
      · skip
        go_wp2
        go_ret
        exact ⟨ret_bool (by rw [HRR.out]; rfl), hX3⟩
theorem areEntries_any (X : Sl MEntry) (w : World) (hX : SlGood w MEntry.cells (MEntry.Good w) 48 X) :
    Calls Tryz.prog 91 #[.slice X.A X.l.length X.c] w fun e w' => e = .returned (.bool ((decide (X.l.length ≤ 16) && (X.l.all fun x => entryB x.plain)))) ∧ Below w.heap.size w w' := by
  have hA : Below w.heap.size w w := Below.refl _ _
  have H2 : Hid (∀ W, Below w.heap.size w W → Calls Tryz.prog 150 #[.slice X.A X.l.length X.c, .func (.func 151) #[] #[]] W fun e w' => e = .returned (.bool (X.l.all fun x => entryB x.plain)) ∧ Below W.heap.size W w') := Lib.hid fun W hW => every_Entry (fun x => entryB x.plain) _ #[] (enters_of Tryz.func151 (by kernel_rfl) rfl) _ _ _ _ rfl W (fun W2 x hm hB => isEntry_any x W2 ((hX.el x hm).below (hW.trans (hB.mono hW.size)))) (by have := hX.len; omega) (hX.rd.below hW)
  obtain ⟨R, hR⟩ : ∃ R, (decide (X.l.length ≤ 16) && (X.l.all fun x => entryB x.plain)) = R := ⟨_, rfl⟩
  rw [hR]
  have HRR : Hid (R = ((decide (X.l.length ≤ 16)) && ((X.l.all fun x => entryB x.plain)))) := Lib.hid (hR.symm.trans (show (decide (X.l.length ≤ 16) && (X.l.all fun x => entryB x.plain)) = ((decide (X.l.length ≤ 16)) && ((X.l.all fun x => entryB x.plain))) from by rfl))
  clear hR
  obtain ⟨b1, hb1⟩ : ∃ b, (decide (X.l.length ≤ 16)) = b := ⟨_, rfl⟩
  rw [hb1] at HRR
  obtain ⟨b2, hb2⟩ : ∃ b, (X.l.all fun x => entryB x.plain) = b := ⟨_, rfl⟩
  rw [hb2] at HRR
  rw [hb2] at H2
  clear hb2
  have hs0 := hA.size
  have hT0 : Below w.heap.size w w := Below.refl _ _
  clear hX
  go_enter Tryz.func91, Tryz.ntmps91
  rcases b1 with _ | _
  · have ht : ¬ ((X.l.length : Int) ≤ 16) := by have := of_decide_eq_false hb1; omega
    go_wp2
    go_ret
    exact ⟨ret_bool (by rw [HRR.out]; rfl), (hA.trans (hT0.mono hs0))⟩
  · have ht : (X.l.length : Int) ≤ 16 := by have := of_decide_eq_true hb1; omega
    go_wp2_with fail
    refine (H2.out _ hT0).mono ?_
    rintro e v2 ⟨rfl, hV2⟩
    have hT2 : Below w.heap.size w v2 := hT0.trans (hV2.mono hT0.size)
    have hX2 : Below w.heap.size w v2 := hA.trans (hT2.mono hs0)
    rcases b2 with _ | _
    · skip
      go_wp2
      go_ret
      exact ⟨ret_bool (by rw [HRR.out]; rfl), hX2⟩
    · skip
      go_wp2
      go_ret
      exact ⟨ret_bool (by rw [HRR.out]; rfl), hX2⟩
theorem beqS (a b : ByteArray) : (a.toList == b.toList) = decide (a = b) := by
  rw [Bool.eq_iff_iff, beq_iff_eq, decide_eq_true_iff]
  constructor
  · intro h
    rw [Lib.toList_data, Lib.toList_data] at h
    exact ByteArray.ext (Array.toList_inj.1 h)
  · rintro rfl
    rfl
theorem find1_any (B0 : Nat) (p : ByteArray) (x : MSet) (w : World) (h0 : w.cell? ⟨B0, 0, none⟩ = some (.string p)) :
    Calls Tryz.prog 115 #[.agg x.cells.toArray, .pointer (some ⟨B0, 0, none⟩)] w fun e w' => e = .returned (.bool (decide (x.path_ = p))) ∧ Below w.heap.size w w' := by
  have hB0 : Below w.heap.size w (w.alloc (.cells x.cells.toArray 52)) := (Below.refl _ w).alloc (Nat.le_refl _) _
  have hl := World.block_lt_of_cell? w ⟨B0, 0, none⟩ h0
  rw [← beqS]
  go_enter Tryz.func115, Tryz.ntmps115
  go_wp2
  go_ret
  exact ⟨rfl, hB0⟩
theorem snap1_any (B0 : Nat) (p : ByteArray) (x : MSnap) (w : World) (h0 : w.cell? ⟨B0, 0, none⟩ = some (.string p)) :
    Calls Tryz.prog 120 #[.agg x.cells.toArray, .pointer (some ⟨B0, 0, none⟩)] w fun e w' => e = .returned (.bool (decide (x.name_ = p))) ∧ Below w.heap.size w w' := by
  have hB0 : Below w.heap.size w (w.alloc (.cells x.cells.toArray 49)) := (Below.refl _ w).alloc (Nat.le_refl _) _
  have hl := World.block_lt_of_cell? w ⟨B0, 0, none⟩ h0
  rw [← beqS]
  go_enter Tryz.func120, Tryz.ntmps120
  go_wp2
  go_ret
  exact ⟨rfl, hB0⟩
def findM (x : MTenant) (p : ByteArray) : Int := findI (fun s : MSet => decide (s.path_ = p)) x.sets_.l
def snapM (s : MSet) (n : ByteArray) : Int := findI (fun x : MSnap => decide (x.name_ = n)) s.snaps_.l
theorem find_any (x : MTenant) (p : ByteArray) (w : World) (hx : x.Good w) :
    Calls Tryz.prog 58 #[.agg x.cells.toArray, .string p] w fun e w' => e = .returned (.int .i64 (findM x p)) ∧ Below w.heap.size w w' := by
  obtain ⟨w1, hw1⟩ : ∃ w1, w.alloc (.cells #[.string x.name_, .int .i64 x.quota_, .int .i64 x.next_, .slice x.sets_.A x.sets_.l.length x.sets_.c, .slice x.grants_.A x.grants_.l.length x.grants_.c, .slice x.stages_.A x.stages_.l.length x.stages_.c, .slice x.log_.A x.log_.l.length x.log_.c] 27) = w1 := ⟨_, rfl⟩
  have hB1 : Below w.heap.size w w1 := hw1 ▸ (Below.refl _ w).alloc (Nat.le_refl _) _
  have k1 : Blk w1 w.heap.size 27 x.cells := hw1 ▸ Blk.new w _ _
  obtain ⟨w2, hw2⟩ : ∃ w2, w1.alloc (.cells #[.string p] 9) = w2 := ⟨_, rfl⟩
  have hB2 : Below w1.heap.size w1 w2 := hw2 ▸ (Below.refl _ w1).alloc (Nat.le_refl _) _
  have k2 : Blk w2 w1.heap.size 9 [.string p] := hw2 ▸ Blk.new w1 _ _
  have hA : Below w.heap.size w w2 := hB1.trans (hB2.mono hB1.size)
  have z3 := (k1.below hB2 k1.lt).cell 3
  simp only [gZa, gZb] at z3
  have HI := indexMem Tryz.indexSet 5 Tryz.isAgg52 Tryz.sizeOf52 MSet.cells (fun _ => rfl) (by omega) (fun s : MSet => decide (s.path_ = p)) 115 #[.pointer (some ⟨w1.heap.size, 0, none⟩)] (enters_of Tryz.func115 (by kernel_rfl) rfl) x.sets_.A x.sets_.c x.sets_.l.length x.sets_.l rfl w2
    (fun W s _ hB => find1_any w1.heap.size p s W ((k2.below hB k2.lt).cell 0)) (by have := hx.gsets_.len; omega) (hx.gsets_.rd.below hA)
  change Calls _ 114 _ _ _ at HI
  have HI' := Lib.hid HI
  have HW1 := Lib.hid hw1
  have HW2 := Lib.hid hw2
  obtain ⟨F, hF⟩ : ∃ F, findM x p = F := ⟨_, rfl⟩
  have hF2 : findI (fun s : MSet => decide (s.path_ = p)) x.sets_.l = F := hF
  rw [hF]
  rw [hF2] at HI'
  clear HI hw1 hw2 k1 k2 hF hF2 hx
  go_enter Tryz.func58, Tryz.ntmps58
  go_upto_region 1 with fail
  have hX : w.heap.size + 1 = w1.heap.size := by rw [← HW1.out, World.size_alloc]
  rw [HW1.out, HW2.out, hX]
  go_wp2_with fail
  refine HI'.out.mono ?_
  rintro e w3 ⟨rfl, hB3⟩
  go_wp2
  go_ret
  exact ⟨rfl, hA.trans (hB3.mono hA.size)⟩
theorem snap_any (x : MSet) (p : ByteArray) (w : World) (hx : SlGood w MSnap.cells (MSnap.Good w) 96 x.snaps_) :
    Calls Tryz.prog 64 #[.agg x.cells.toArray, .string p] w fun e w' => e = .returned (.int .i64 (snapM x p)) ∧ Below w.heap.size w w' := by
  obtain ⟨w1, hw1⟩ : ∃ w1, w.alloc (.cells #[.string x.path_, .string x.origin_, .slice x.body_.A x.body_.l.length x.body_.c, .slice x.snaps_.A x.snaps_.l.length x.snaps_.c, .slice x.own_.A x.own_.l.length x.own_.c] 52) = w1 := ⟨_, rfl⟩
  have hB1 : Below w.heap.size w w1 := hw1 ▸ (Below.refl _ w).alloc (Nat.le_refl _) _
  have k1 : Blk w1 w.heap.size 52 x.cells := hw1 ▸ Blk.new w _ _
  obtain ⟨w2, hw2⟩ : ∃ w2, w1.alloc (.cells #[.string p] 9) = w2 := ⟨_, rfl⟩
  have hB2 : Below w1.heap.size w1 w2 := hw2 ▸ (Below.refl _ w1).alloc (Nat.le_refl _) _
  have k2 : Blk w2 w1.heap.size 9 [.string p] := hw2 ▸ Blk.new w1 _ _
  have hA : Below w.heap.size w w2 := hB1.trans (hB2.mono hB1.size)
  have z3 := (k1.below hB2 k1.lt).cell 3
  simp only [gZa, gZb] at z3
  have HI := indexMem Tryz.indexSnap 5 Tryz.isAgg49 Tryz.sizeOf49 MSnap.cells (fun _ => rfl) (by omega) (fun s : MSnap => decide (s.name_ = p)) 120 #[.pointer (some ⟨w1.heap.size, 0, none⟩)] (enters_of Tryz.func120 (by kernel_rfl) rfl) x.snaps_.A x.snaps_.c x.snaps_.l.length x.snaps_.l rfl w2
    (fun W s _ hB => snap1_any w1.heap.size p s W ((k2.below hB k2.lt).cell 0)) (by have := hx.len; omega) (hx.rd.below hA)
  change Calls _ 119 _ _ _ at HI
  have HI' := Lib.hid HI
  have HW1 := Lib.hid hw1
  have HW2 := Lib.hid hw2
  obtain ⟨F, hF⟩ : ∃ F, snapM x p = F := ⟨_, rfl⟩
  have hF2 : findI (fun s : MSnap => decide (s.name_ = p)) x.snaps_.l = F := hF
  rw [hF]
  rw [hF2] at HI'
  clear HI hw1 hw2 k1 k2 hF hF2 hx
  go_enter Tryz.func64, Tryz.ntmps64
  go_upto_region 1 with fail
  have hX : w.heap.size + 1 = w1.heap.size := by rw [← HW1.out, World.size_alloc]
  rw [HW1.out, HW2.out, hX]
  go_wp2_with fail
  refine HI'.out.mono ?_
  rintro e w3 ⟨rfl, hB3⟩
  go_wp2
  go_ret
  exact ⟨rfl, hA.trans (hB3.mono hA.size)⟩
theorem nodup_found {l : List MSnap} : (l.map MSnap.name_).Nodup ↔ ∀ (i : Nat) (x : MSnap), l[i]? = some x → findI (fun y : MSnap => decide (y.name_ = x.name_)) l = i := by
  unfold List.Nodup
  rw [List.pairwise_iff_getElem]
  constructor
  · intro h i x hx
    refine findI_some hx (by simp) fun y hy => ?_
    obtain ⟨j, hj, rfl⟩ := List.mem_take_iff_getElem.1 hy
    rw [decide_eq_false_iff_not]
    intro e
    obtain ⟨hi, hxi⟩ := List.getElem?_eq_some_iff.1 hx
    have h2 := h j i (by rw [List.length_map]; omega) (by rw [List.length_map]; exact hi) (by omega)
    rw [List.getElem_map, List.getElem_map, hxi] at h2
    exact h2 e
  · intro h i j hi hj hij e
    rw [List.length_map] at hi hj
    rw [List.getElem_map, List.getElem_map] at e
    have h1 := h i _ (qZa hi)
    have h2 := h j _ (qZa hj)
    rw [← e] at h2
    rw [h1] at h2
    omega
set_option maxHeartbeats 1000000
theorem eachFound_any (x : MSet) (w : World) (hx : SlGood w MSnap.cells (MSnap.Good w) 96 x.snaps_) :
    Calls Tryz.prog 177 #[.agg x.cells.toArray] w fun e w' => e = .returned (.bool (decide ((x.snaps_.l.map MSnap.name_).Nodup))) ∧ Below w.heap.size w w' := by
  obtain ⟨xp, xo, xb, ⟨A, l, c⟩, xw⟩ := x
  dsimp only at hx ⊢
  obtain ⟨w1, hw1⟩ : ∃ w1, w.alloc (.cells #[.string xp, .string xo, .slice xb.A xb.l.length xb.c, .slice A l.length c, .slice xw.A xw.l.length xw.c] 52) = w1 := ⟨_, rfl⟩
  have hB1 : Below w.heap.size w w1 := hw1 ▸ (Below.refl _ w).alloc (Nat.le_refl _) _
  have k1 : Blk w1 w.heap.size 52 [.string xp, .string xo, .slice xb.A xb.l.length xb.c, .slice A l.length c, .slice xw.A xw.l.length xw.c] := hw1 ▸ Blk.new w _ _
  have z3 := k1.cell 3
  simp only [gZa, gZb] at z3
  have HS : Hid (∀ W, Below w1.heap.size w1 W → ∀ p, Calls Tryz.prog 64 #[.agg #[.string xp, .string xo, .slice xb.A xb.l.length xb.c, .slice A l.length c, .slice xw.A xw.l.length xw.c], .string p] W fun e w' => e = .returned (.int .i64 (findI (fun z : MSnap => decide (z.name_ = p)) l)) ∧ Below W.heap.size W w') := Lib.hid fun W hW p => snap_any ⟨xp, xo, xb, ⟨A, l, c⟩, xw⟩ p W (hx.below (hB1.trans (hW.mono hB1.size)) fun y h => h.below (hB1.trans (hW.mono hB1.size)))
  have HRD := Lib.hid (hx.rd.below hB1)
  have hlen := hx.len
  have HN := Lib.hid (nodup_found (l := l))
  obtain ⟨R, hR⟩ : ∃ R, decide ((l.map MSnap.name_).Nodup) = R := ⟨_, rfl⟩
  have HR := Lib.hid hR
  have HK1 := Lib.hid k1
  have HW1 := Lib.hid hw1
  have hs1 := hB1.size
  rw [hR]
  clear hR hx k1 hw1
  go_enter Tryz.func177, Tryz.ntmps177
  go_upto_region 1 with fail
  rw [HW1.out]
  go_wp2
  go_loopw [8] (fun i W => ∃ k : Nat, k ≤ l.length ∧ i = .int .i64 k ∧ Hid (∀ j y, j < k → l[j]? = some y → findI (fun z : MSnap => decide (z.name_ = y.name_)) l = j) ∧ Below w1.heap.size w1 W) (fun i _ => l.length - (intOf i).toNat)
  case atStart => exact ⟨0, Nat.zero_le _, rfl, Lib.hid fun _ _ h => absurd h (Nat.not_lt_zero _), Below.refl _ _⟩
  case round =>
    obtain ⟨k, hk, rfl, HU, hB⟩ := hrel
    by_cases hlt : k < l.length
    · obtain ⟨y, hy⟩ : ∃ y, l[k]? = some y := ⟨l[k], qZa hlt⟩
      obtain ⟨b, off, rfl, hb, hc⟩ := Rd.elem (n := 5) (fun _ => rfl) (by omega) (HRD.out.below hB) hy
      have c0 : wr.cell? ⟨b, off + k * 5, none⟩ = some (.string y.name_) := hc 0 _ rfl
      have c1 : wr.cell? ⟨b, off + k * 5 + 1, none⟩ = some (.int .i64 y.guid_) := hc 1 _ rfl
      have c2 : wr.cell? ⟨b, off + k * 5 + 2, none⟩ = some (.slice y.body_.A y.body_.l.length y.body_.c) := hc 2 _ rfl
      have c3 : wr.cell? ⟨b, off + k * 5 + 3, none⟩ = some (.slice y.tags_.A y.tags_.l.length y.tags_.c) := hc 3 _ rfl
      have c4 : wr.cell? ⟨b, off + k * 5 + 4, none⟩ = some (.slice y.own_.A y.own_.l.length y.own_.c) := hc 4 _ rfl
      obtain ⟨w2, hw2⟩ : ∃ w2, wr.alloc (.cells #[.string y.name_, .int .i64 y.guid_, .slice y.body_.A y.body_.l.length y.body_.c, .slice y.tags_.A y.tags_.l.length y.tags_.c, .slice y.own_.A y.own_.l.length y.own_.c] 49) = w2 := ⟨_, rfl⟩
      have hB2 : Below wr.heap.size wr w2 := hw2 ▸ (Below.refl _ wr).alloc (Nat.le_refl _) _
      have k2 : Blk w2 wr.heap.size 49 y.cells := hw2 ▸ Blk.new wr _ _
      have hB12 : Below w1.heap.size w1 w2 := hB.trans (hB2.mono hB.size)
      have hlw : w.heap.size < wr.heap.size := Nat.lt_of_lt_of_le HK1.out.lt hB.size
      have q0 := k2.cell 0
      have p0 := (HK1.out.below hB HK1.out.lt).cell 0
      have p1 := (HK1.out.below hB HK1.out.lt).cell 1
      have p2 := (HK1.out.below hB HK1.out.lt).cell 2
      have p3 := (HK1.out.below hB HK1.out.lt).cell 3
      have p4 := (HK1.out.below hB HK1.out.lt).cell 4
      simp only [gZa, gZb] at q0 p0 p1 p2 p3 p4
      have HC := Lib.hid (HS.out w2 hB12 y.name_)
      obtain ⟨F, hF⟩ : ∃ F, findI (fun z : MSnap => decide (z.name_ = y.name_)) l = F := ⟨_, rfl⟩
      rw [hF] at HC
      have HF := Lib.hid hF.symm
      have HY := Lib.hid hy
      have HW2 := Lib.hid hw2
      clear hF hy hw2 k2 hc
      by_cases hq : F = (k : Int)
      · have hqb : (F == (k : Int)) = true := beq_iff_eq.2 hq
        have HU' : Hid (∀ j y, j < k + 1 → l[j]? = some y → findI (fun z : MSnap => decide (z.name_ = y.name_)) l = j) := Lib.hid fun j y' h1 h2 => by
          by_cases e : j = k
          · subst e
            rw [HY.out] at h2
            injection h2 with h2
            subst h2
            rw [← HF.out, hq]
          · exact HU.out j y' (by omega) h2
        clear HU HF HY
        go_wp2_with fail
        rw [HW2.out]
        refine HC.out.mono ?_
        rintro e w3 ⟨rfl, hB3⟩
        have hB13 : Below w1.heap.size w1 w3 := hB12.trans (hB3.mono hB12.size)
        clear hq
        go_wp2
        go_roundw
        case rel => exact ⟨k + 1, by omega, by go_num, HU', hB13⟩
        case measure => simp [intOf]; omega
      · have hqb : (F == (k : Int)) = false := beq_eq_false_iff_ne.2 hq
        obtain rfl : R = false := by
          rw [← HR.out, decide_eq_false_iff_not]
          intro h
          have := HN.out.1 h k y HY.out
          rw [← HF.out] at this
          exact hq this
        clear HU HF HY HR HN
        go_wp2_with fail
        rw [HW2.out]
        refine HC.out.mono ?_
        rintro e w3 ⟨rfl, hB3⟩
        have hB13 : Below w1.heap.size w1 w3 := hB12.trans (hB3.mono hB12.size)
        clear hq
        go_wp2
        go_ret
        exact ⟨rfl, hB1.trans (hB13.mono hs1)⟩
    · obtain rfl : R = true := by
        rw [← HR.out, decide_eq_true_iff, HN.out]
        intro i y hi
        have := (List.getElem?_eq_some_iff.1 hi).1
        exact HU.out i y (by omega) hi
      clear HU HR HN
      go_wp2
      go_ret
      exact ⟨rfl, hB1.trans (hB.mono hs1)⟩
theorem guid_any (x : MSnap) (w : World) :
    Calls Tryz.prog 176 (#[.agg x.cells.toArray] ++ #[]) w fun e w' => e = .returned (.int .i64 x.guid_) ∧ Below w.heap.size w w' := by
  have hB0 : Below w.heap.size w (w.alloc (.cells x.cells.toArray 49)) := (Below.refl _ w).alloc (Nat.le_refl _) _
  go_enter Tryz.func176, Tryz.ntmps176
  go_wp2
  go_ret
  exact ⟨rfl, hB0⟩
theorem pathOf_any (x : MSet) (w : World) :
    Calls Tryz.prog 142 (#[.agg x.cells.toArray] ++ #[]) w fun e w' => e = .returned (.string x.path_) ∧ Below w.heap.size w w' := by
  have hB0 : Below w.heap.size w (w.alloc (.cells x.cells.toArray 52)) := (Below.refl _ w).alloc (Nat.le_refl _) _
  go_enter Tryz.func142, Tryz.ntmps142
  go_wp2
  go_ret
  exact ⟨rfl, hB0⟩
def setS (s : PSet) : Bool := okK s.body_ && (okP s.own_ && snapsB s.snaps_)
theorem snapsM (l : List MSnap) : snapsB (l.map MSnap.plain) = (decide (l.length ≤ 16) && ((l.all fun x => snapB x.plain) && (riseB (fun a b : MSnap => decide (a.guid_ < b.guid_)) l && decide ((l.map MSnap.name_).Nodup)))) := by
  have e1 : (l.map MSnap.plain).all snapB = l.all fun x => snapB x.plain := by rw [List.all_map]; rfl
  have e2 : riseB ltGuid (l.map MSnap.plain) = riseB (fun a b : MSnap => decide (a.guid_ < b.guid_)) l := by
    rw [Bool.eq_iff_iff, riseB_iff, riseB_iff]
    constructor
    · intro h j y x hy hx
      exact h j y.plain x.plain (by rw [List.getElem?_map, hy]; rfl) (by rw [List.getElem?_map, hx]; rfl)
    · intro h j y x hy hx
      rw [List.getElem?_map] at hy hx
      rcases hy2 : l[j]? with _ | y2
      · rw [hy2] at hy; cases hy
      rcases hx2 : l[j + 1]? with _ | x2
      · rw [hx2] at hx; cases hx
      rw [hy2] at hy
      rw [hx2] at hx
      injection hy with hy
      injection hx with hx
      subst hy hx
      exact h j y2 x2 hy2 hx2
  have e3 : (l.map MSnap.plain).map PSnap.name_ = l.map MSnap.name_ := by rw [List.map_map]; rfl
  unfold snapsB goodL noTwo
  simp only [e1, e2, e3, List.length_map]
  simp only [Bool.and_assoc, Bool.and_comm, Bool.and_left_comm]
theorem isSet_any (x : MSet) (w : World) (hx : x.Good w) :
    Calls Tryz.prog 140 #[.agg #[.string x.path_, .string x.origin_, .slice x.body_.A x.body_.l.length x.body_.c, .slice x.snaps_.A x.snaps_.l.length x.snaps_.c, .slice x.own_.A x.own_.l.length x.own_.c]] w fun e w' => e = .returned (.bool (setS x.plain)) ∧ Below w.heap.size w w' := by
  obtain ⟨w1, hw1⟩ : ∃ w1, w.alloc (.cells #[.string x.path_, .string x.origin_, .slice x.body_.A x.body_.l.length x.body_.c, .slice x.snaps_.A x.snaps_.l.length x.snaps_.c, .slice x.own_.A x.own_.l.length x.own_.c] 52) = w1 := ⟨_, rfl⟩
  have hB1 : Below w.heap.size w w1 := hw1 ▸ (Below.refl _ w).alloc (Nat.le_refl _) _
  have k1 : Blk w1 w.heap.size 52 [.string x.path_, .string x.origin_, .slice x.body_.A x.body_.l.length x.body_.c, .slice x.snaps_.A x.snaps_.l.length x.snaps_.c, .slice x.own_.A x.own_.l.length x.own_.c] := hw1 ▸ Blk.new w _ _
  have hA : Below w.heap.size w w1 := hB1
  have H1 : Hid (∀ W, Below w1.heap.size w1 W → Calls Tryz.prog 172 #[.slice x.body_.A x.body_.l.length x.body_.c, .slice x.own_.A x.own_.l.length x.own_.c] W fun e w' => e = .returned (.bool (okK x.body_.l && okP x.own_.l)) ∧ Below W.heap.size W w') := Lib.hid fun W hW => mayHold_any _ _ W (hx.gbody_.below (hA.trans (hW.mono hA.size)) fun _ h => h) (hx.gown_.below (hA.trans (hW.mono hA.size)) fun _ h => h)
  have H3 : Hid (∀ W, Below w1.heap.size w1 W → Calls Tryz.prog 173 #[.slice x.snaps_.A x.snaps_.l.length x.snaps_.c, .func (.func 174) #[] #[]] W fun e w' => e = .returned (.bool (x.snaps_.l.all fun x => snapB x.plain)) ∧ Below W.heap.size W w') := Lib.hid fun W hW => every_Snap (fun x => snapB x.plain) _ #[] (enters_of Tryz.func174 (by kernel_rfl) rfl) _ _ _ _ rfl W (fun W2 y hm hB => isSnap_any y W2 ((hx.gsnaps_.el y hm).below ((hA.trans (hW.mono hA.size)).trans (hB.mono (hA.trans (hW.mono hA.size)).size)))) (by have := hx.gsnaps_.len; omega) (hx.gsnaps_.rd.below (hA.trans (hW.mono hA.size)))
  have H4 : Hid (∀ W, Below w1.heap.size w1 W → Calls Tryz.prog 175 #[.slice x.snaps_.A x.snaps_.l.length x.snaps_.c, .func (.func 176) #[] #[]] W fun e w' => e = .returned (.bool (riseB (fun a b : MSnap => decide (a.guid_ < b.guid_)) x.snaps_.l)) ∧ Below W.heap.size W w') := Lib.hid fun W hW => rising_Snap MSnap.guid_ _ #[] (enters_of Tryz.func176 (by kernel_rfl) rfl) _ _ _ _ rfl W (fun W2 y hB => guid_any y W2) (by have := hx.gsnaps_.len; omega) (hx.gsnaps_.rd.below (hA.trans (hW.mono hA.size)))
  have H5 : Hid (∀ W, Below w1.heap.size w1 W → Calls Tryz.prog 177 #[.agg #[.string x.path_, .string x.origin_, .slice x.body_.A x.body_.l.length x.body_.c, .slice x.snaps_.A x.snaps_.l.length x.snaps_.c, .slice x.own_.A x.own_.l.length x.own_.c]] W fun e w' => e = .returned (.bool (decide ((x.snaps_.l.map MSnap.name_).Nodup))) ∧ Below W.heap.size W w') := Lib.hid fun W hW => eachFound_any x W (hx.gsnaps_.below (hA.trans (hW.mono hA.size)) fun y h => h.below (hA.trans (hW.mono hA.size)))
  obtain ⟨R, hR⟩ : ∃ R, setS x.plain = R := ⟨_, rfl⟩
  rw [hR]
  have HRR : Hid (R = (((okK x.body_.l && okP x.own_.l)) && ((decide (x.snaps_.l.length ≤ 16)) && ((x.snaps_.l.all fun x => snapB x.plain) && ((riseB (fun a b : MSnap => decide (a.guid_ < b.guid_)) x.snaps_.l) && ((decide ((x.snaps_.l.map MSnap.name_).Nodup)))))))) := Lib.hid (hR.symm.trans (show setS x.plain = (((okK x.body_.l && okP x.own_.l)) && ((decide (x.snaps_.l.length ≤ 16)) && ((x.snaps_.l.all fun x => snapB x.plain) && ((riseB (fun a b : MSnap => decide (a.guid_ < b.guid_)) x.snaps_.l) && ((decide ((x.snaps_.l.map MSnap.name_).Nodup))))))) from by simp only [setS, MSet.plain, snapsM]; simp only [Bool.and_assoc, Bool.and_comm, Bool.and_left_comm]; try rfl))
  clear hR
  obtain ⟨b1, hb1⟩ : ∃ b, ((okK x.body_.l && okP x.own_.l)) = b := ⟨_, rfl⟩
  rw [hb1] at HRR
  rw [hb1] at H1
  clear hb1
  obtain ⟨b2, hb2⟩ : ∃ b, (decide (x.snaps_.l.length ≤ 16)) = b := ⟨_, rfl⟩
  rw [hb2] at HRR
  obtain ⟨b3, hb3⟩ : ∃ b, (x.snaps_.l.all fun x => snapB x.plain) = b := ⟨_, rfl⟩
  rw [hb3] at HRR
  rw [hb3] at H3
  clear hb3
  obtain ⟨b4, hb4⟩ : ∃ b, (riseB (fun a b : MSnap => decide (a.guid_ < b.guid_)) x.snaps_.l) = b := ⟨_, rfl⟩
  rw [hb4] at HRR
  rw [hb4] at H4
  clear hb4
  obtain ⟨b5, hb5⟩ : ∃ b, (decide ((x.snaps_.l.map MSnap.name_).Nodup)) = b := ⟨_, rfl⟩
  rw [hb5] at HRR
  rw [hb5] at H5
  clear hb5
  have HW1 := Lib.hid hw1
  have HK1 := Lib.hid k1
  clear hw1 k1
  have hs0 := hA.size
  have hT0 : Below w1.heap.size w1 w1 := Below.refl _ _
  clear hx
  go_enter Tryz.func140, Tryz.ntmps140
  have z2 := (HK1.out.below hT0 HK1.out.lt).cell 2
  have z4 := (HK1.out.below hT0 HK1.out.lt).cell 4
  simp only [gZa, gZb] at z2 z4
  go_wp2_with fail
  rw [HW1.out]
  try go_wp2_with fail
  refine (H1.out _ hT0).mono ?_
  rintro e v1 ⟨rfl, hV1⟩
  have hT1 : Below w1.heap.size w1 v1 := hT0.trans (hV1.mono hT0.size)
  have hX1 : Below w.heap.size w v1 := hA.trans (hT1.mono hs0)
  rcases b1 with _ | _
  · skip
    go_wp2
    go_ret
    exact ⟨ret_bool (by rw [HRR.out]; rfl), hX1⟩
  · skip
    have z3 := (HK1.out.below hT1 HK1.out.lt).cell 3
    simp only [gZa, gZb] at z3
    rcases b2 with _ | _
    · have ht : ¬ ((x.snaps_.l.length : Int) ≤ 16) := by have := of_decide_eq_false hb2; omega
      go_wp2
      go_ret
      exact ⟨ret_bool (by rw [HRR.out]; rfl), (hA.trans (hT1.mono hs0))⟩
    · have ht : (x.snaps_.l.length : Int) ≤ 16 := by have := of_decide_eq_true hb2; omega
      have z3 := (HK1.out.below hT1 HK1.out.lt).cell 3
      simp only [gZa, gZb] at z3
      go_wp2_with fail
      refine (H3.out _ hT1).mono ?_
      rintro e v3 ⟨rfl, hV3⟩
      have hT3 : Below w1.heap.size w1 v3 := hT1.trans (hV3.mono hT1.size)
      have hX3 : Below w.heap.size w v3 := hA.trans (hT3.mono hs0)
      rcases b3 with _ | _
      · skip
        go_wp2
        go_ret
        exact ⟨ret_bool (by rw [HRR.out]; rfl), hX3⟩
      · skip
        have z3 := (HK1.out.below hT3 HK1.out.lt).cell 3
        simp only [gZa, gZb] at z3
        go_wp2_with fail
        refine (H4.out _ hT3).mono ?_
        rintro e v4 ⟨rfl, hV4⟩
        have hT4 : Below w1.heap.size w1 v4 := hT3.trans (hV4.mono hT3.size)
        have hX4 : Below w.heap.size w v4 := hA.trans (hT4.mono hs0)
        rcases b4 with _ | _
        · skip
          go_wp2
          go_ret
          exact ⟨ret_bool (by rw [HRR.out]; rfl), hX4⟩
        · skip
          have z0 := (HK1.out.below hT4 HK1.out.lt).cell 0
          have z1 := (HK1.out.below hT4 HK1.out.lt).cell 1
          have z2 := (HK1.out.below hT4 HK1.out.lt).cell 2
          have z3 := (HK1.out.below hT4 HK1.out.lt).cell 3
          have z4 := (HK1.out.below hT4 HK1.out.lt).cell 4
          simp only [gZa, gZb] at z0 z1 z2 z3 z4
          go_wp2_with fail
          refine (H5.out _ hT4).mono ?_
          rintro e v5 ⟨rfl, hV5⟩
          have hT5 : Below w1.heap.size w1 v5 := hT4.trans (hV5.mono hT4.size)
          have hX5 : Below w.heap.size w v5 := hA.trans (hT5.mono hs0)
          rcases b5 with _ | _
          · skip
            go_wp2
            go_ret
            exact ⟨ret_bool (by rw [HRR.out]; rfl), hX5⟩
          · skip
            go_wp2
            go_ret
            exact ⟨ret_bool (by rw [HRR.out]; rfl), hX5⟩
end Go.Proofs.YtimmcmjipmkebaaGreat
