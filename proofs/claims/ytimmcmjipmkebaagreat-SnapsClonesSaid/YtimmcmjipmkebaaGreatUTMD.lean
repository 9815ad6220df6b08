/-
  Which begin, stage and entry may be, by the reference. Conditions: they are as they come in; paths of at most 2^42 octets.
-/
import Derived.Test.YtimmcmjipmkebaaGreatUTMB
import Derived.Test.YtimmcmjipmkebaaGreatUEB
import Derived.Test.YtimmcmjipmkebaaGreatURPP
import Derived.Test.YtimmcmjipmkebaaGreatUGRC
import Derived.Test.YtimmcmjipmkebaaGreatUGRX
import Derived.Test.YtimmcmjipmkebaaGreatUTMG
import Derived.Test.YtimmcmjipmkebaaGreatUTMH
import Derived.Test.YtimmcmjipmkebaaGreatUTMA
namespace Go.Proofs.YtimmcmjipmkebaaGreat
set_option maxHeartbeats 1000000
open Go.ChangeShapes Go.WideShapes Go.ChangeAt Go.RowKit
set_option maxRecDepth 100000
set_option linter.unusedVariables false
set_option linter.unusedSimpArgs false
theorem refNameB (s : ByteArray) (hs : s.size ≤ 140737488355328) (w : World) :
    Calls Tryz.prog 66 #[.string s] w fun e w' => e = .returned (.bool (isName (bs s))) ∧ Below w.heap.size w w' :=
  (refName_any s hs w).mono fun _ _ ⟨h, h'⟩ => ⟨h, h' ▸ Below.refl _ _⟩
theorem amountB (m n : Int) (w : World) :
    Calls Tryz.prog 68 #[.int .i64 n, .int .i64 m] w fun e w' => e = .returned (.bool (amt m n)) ∧ Below w.heap.size w w' :=
  (amount_any m n w).mono fun _ _ ⟨h, h'⟩ => ⟨h, h' ▸ Below.refl _ _⟩
theorem refBkS (X : Sl Bk) (w : World) (h : SlGood w bkC goodBk 24 X) :
    Calls Tryz.prog 123 #[.slice X.A X.l.length X.c] w fun e w' => e = .returned (.int .i64 (if okK X.l then 0 else 9)) ∧ Below w.heap.size w w' :=
  refCheck_any X.A X.c X.l.length X.l rfl (by have := h.len; omega) (fun x hx => (h.el x hx).1) w h.rd
theorem refPrS (X : Sl Pr) (w : World) (h : SlGood w prC goodPr 32 X) :
    Calls Tryz.prog 124 #[.slice X.A X.l.length X.c] w fun e w' => e = .returned (.int .i64 (if okP X.l then 0 else 9)) ∧ Below w.heap.size w w' :=
  refProps_any X.A X.c X.l.length X.l rfl (by have := h.len; omega) (fun x hx => h.el x hx) w h.rd
theorem refBegin_any (x : MRecord) (w : World) (hx : x.Good w) :
    Calls Tryz.prog 126 #[.agg #[.int .i64 x.kind_, .string x.name_, .int .i64 x.from_, .int .i64 x.guid_, .slice x.own_.A x.own_.l.length x.own_.c, .int .i64 x.index_, .int .i64 x.count_, .string x.data_, .int .u64 x.sum_.a_, .int .u64 x.sum_.b_, .int .u64 x.sum_.c_, .int .u64 x.sum_.d_]] w fun e w' => e = .returned (.bool (beginB x.plain)) ∧ Below w.heap.size w w' := by
  obtain ⟨w1, hw1⟩ : ∃ w1, w.alloc (.cells #[.int .i64 x.kind_, .string x.name_, .int .i64 x.from_, .int .i64 x.guid_, .slice x.own_.A x.own_.l.length x.own_.c, .int .i64 x.index_, .int .i64 x.count_, .string x.data_, .int .u64 x.sum_.a_, .int .u64 x.sum_.b_, .int .u64 x.sum_.c_, .int .u64 x.sum_.d_] 89) = w1 := ⟨_, rfl⟩
  have hB1 : Below w.heap.size w w1 := hw1 ▸ (Below.refl _ w).alloc (Nat.le_refl _) _
  have k1 : Blk w1 w.heap.size 89 [.int .i64 x.kind_, .string x.name_, .int .i64 x.from_, .int .i64 x.guid_, .slice x.own_.A x.own_.l.length x.own_.c, .int .i64 x.index_, .int .i64 x.count_, .string x.data_, .int .u64 x.sum_.a_, .int .u64 x.sum_.b_, .int .u64 x.sum_.c_, .int .u64 x.sum_.d_] := hw1 ▸ Blk.new w _ _
  have hA : Below w.heap.size w w1 := hB1
  have H2 : Hid (∀ W, Below w1.heap.size w1 W → Calls Tryz.prog 66 #[.string x.name_] W fun e w' => e = .returned (.bool (isName (bs x.name_))) ∧ Below W.heap.size W w') := Lib.hid fun W hW => refNameB _ (by have := hx.gname_; omega) W
  have H3 : Hid (∀ W, Below w1.heap.size w1 W → Calls Tryz.prog 68 #[.int .i64 x.from_, .int .i64 0] W fun e w' => e = .returned (.bool (amt 0 x.from_)) ∧ Below W.heap.size W w') := Lib.hid fun W hW => amountB _ _ W
  have H4 : Hid (∀ W, Below w1.heap.size w1 W → Calls Tryz.prog 68 #[.int .i64 x.guid_, .int .i64 1] W fun e w' => e = .returned (.bool (amt 1 x.guid_)) ∧ Below W.heap.size W w') := Lib.hid fun W hW => amountB _ _ W
  have H5 : Hid (∀ W, Below w1.heap.size w1 W → Calls Tryz.prog 124 #[.slice x.own_.A x.own_.l.length x.own_.c] W fun e w' => e = .returned (.int .i64 (if (okP x.own_.l) then 0 else 9)) ∧ Below W.heap.size W w') := Lib.hid fun W hW => refPrS _ W (hx.gown_.below (hA.trans (hW.mono hA.size)) fun _ h => h)
  obtain ⟨R, hR⟩ : ∃ R, beginB x.plain = R := ⟨_, rfl⟩
  rw [hR]
  have HRR : Hid (R = ((decide (x.kind_ = 1)) && ((isName (bs x.name_)) && ((amt 0 x.from_) && ((amt 1 x.guid_) && ((okP x.own_.l) && ((decide (x.index_ = 0)) && ((decide (x.count_ = 0)) && ((decide (x.data_ = ByteArray.empty)) && ((zeroSum x.sum_.plain))))))))))) := Lib.hid (hR.symm.trans (show beginB x.plain = ((decide (x.kind_ = 1)) && ((isName (bs x.name_)) && ((amt 0 x.from_) && ((amt 1 x.guid_) && ((okP x.own_.l) && ((decide (x.index_ = 0)) && ((decide (x.count_ = 0)) && ((decide (x.data_ = ByteArray.empty)) && ((zeroSum x.sum_.plain)))))))))) from by rfl))
  clear hR
  obtain ⟨b1, hb1⟩ : ∃ b, (decide (x.kind_ = 1)) = b := ⟨_, rfl⟩
  rw [hb1] at HRR
  obtain ⟨b2, hb2⟩ : ∃ b, (isName (bs x.name_)) = b := ⟨_, rfl⟩
  rw [hb2] at HRR
  rw [hb2] at H2
  clear hb2
  obtain ⟨b3, hb3⟩ : ∃ b, (amt 0 x.from_) = b := ⟨_, rfl⟩
  rw [hb3] at HRR
  rw [hb3] at H3
  clear hb3
  obtain ⟨b4, hb4⟩ : ∃ b, (amt 1 x.guid_) = b := ⟨_, rfl⟩
  rw [hb4] at HRR
  rw [hb4] at H4
  clear hb4
  obtain ⟨b5, hb5⟩ : ∃ b, (okP x.own_.l) = b := ⟨_, rfl⟩
  rw [hb5] at HRR
  rw [hb5] at H5
  clear hb5
  obtain ⟨b6, hb6⟩ : ∃ b, (decide (x.index_ = 0)) = b := ⟨_, rfl⟩
  rw [hb6] at HRR
  obtain ⟨b7, hb7⟩ : ∃ b, (decide (x.count_ = 0)) = b := ⟨_, rfl⟩
  rw [hb7] at HRR
  obtain ⟨b8, hb8⟩ : ∃ b, (decide (x.data_ = ByteArray.empty)) = b := ⟨_, rfl⟩
  rw [hb8] at HRR
  obtain ⟨b9, hb9⟩ : ∃ b, (zeroSum x.sum_.plain) = b := ⟨_, rfl⟩
  rw [hb9] at HRR
  have HW1 := Lib.hid hw1
  have HK1 := Lib.hid k1
  clear hw1 k1
  have hs0 := hA.size
  have hT0 : Below w1.heap.size w1 w1 := Below.refl _ _
  clear hx
  go_enter Tryz.func126, Tryz.ntmps126
  have z0 := (HK1.out.below hT0 HK1.out.lt).cell 0
  simp only [gZa, gZb] at z0
  go_upto_region 1 with fail
  rw [HW1.out]
  rcases b1 with _ | _
  · have ht1 : (x.kind_ == 1) = false := beq_eq_false_iff_ne.2 (of_decide_eq_false hb1)
    go_wp2
    go_ret
    exact ⟨ret_bool (by rw [HRR.out]; rfl), (hA.trans (hT0.mono hs0))⟩
  · have ht1 : (x.kind_ == 1) = true := beq_iff_eq.2 (of_decide_eq_true hb1)
    have z1 := (HK1.out.below hT0 HK1.out.lt).cell 1
    simp only [gZa, gZb] at z1
    go_wp2_with fail
    refine (H2.out _ hT0).mono ?_
    rintro e v2 ⟨rfl, hV2⟩
    have hT2 : Below w1.heap.size w1 v2 := hT0.trans (hV2.mono hT0.size)
    have hX2 : Below w.heap.size w v2 := hA.trans (hT2.mono hs0)
    rcases b2 with _ | _
    · skip
      go_wp2
      go_ret
      exact ⟨ret_bool (by rw [HRR.out]; rfl), hX2⟩
    · skip
      have z2 := (HK1.out.below hT2 HK1.out.lt).cell 2
      simp only [gZa, gZb] at z2
      go_wp2_with fail
      refine (H3.out _ hT2).mono ?_
      rintro e v3 ⟨rfl, hV3⟩
      have hT3 : Below w1.heap.size w1 v3 := hT2.trans (hV3.mono hT2.size)
      have hX3 : Below w.heap.size w v3 := hA.trans (hT3.mono hs0)
      rcases b3 with _ | _
      · skip
        go_wp2
        go_ret
        exact ⟨ret_bool (by rw [HRR.out]; rfl), hX3⟩
      · skip
        have z3 := (HK1.out.below hT3 HK1.out.lt).cell 3
        simp only [gZa, gZb] at z3
        go_wp2_with fail
        refine (H4.out _ hT3).mono ?_
        rintro e v4 ⟨rfl, hV4⟩
        have hT4 : Below w1.heap.size w1 v4 := hT3.trans (hV4.mono hT3.size)
        have hX4 : Below w.heap.size w v4 := hA.trans (hT4.mono hs0)
        rcases b4 with _ | _
        · skip
          go_wp2
          go_ret
          exact ⟨ret_bool (by rw [HRR.out]; rfl), hX4⟩
        · skip
          have z4 := (HK1.out.below hT4 HK1.out.lt).cell 4
          simp only [gZa, gZb] at z4
          go_wp2_with fail
          refine (H5.out _ hT4).mono ?_
          rintro e v5 ⟨rfl, hV5⟩
          have hT5 : Below w1.heap.size w1 v5 := hT4.trans (hV5.mono hT4.size)
          have hX5 : Below w.heap.size w v5 := hA.trans (hT5.mono hs0)
          rcases b5 with _ | _
          · skip
            go_wp2
            go_ret
            exact ⟨ret_bool (by rw [HRR.out]; rfl), hX5⟩
          · skip
            have z5 := (HK1.out.below hT5 HK1.out.lt).cell 5
            simp only [gZa, gZb] at z5
            rcases b6 with _ | _
            · have ht6 : (x.index_ == 0) = false := beq_eq_false_iff_ne.2 (of_decide_eq_false hb6)
              go_wp2
              go_ret
              exact ⟨ret_bool (by rw [HRR.out]; rfl), (hA.trans (hT5.mono hs0))⟩
            · have ht6 : (x.index_ == 0) = true := beq_iff_eq.2 (of_decide_eq_true hb6)
              have z6 := (HK1.out.below hT5 HK1.out.lt).cell 6
              simp only [gZa, gZb] at z6
              rcases b7 with _ | _
              · have ht7 : (x.count_ == 0) = false := beq_eq_false_iff_ne.2 (of_decide_eq_false hb7)
                go_wp2
                go_ret
                exact ⟨ret_bool (by rw [HRR.out]; rfl), (hA.trans (hT5.mono hs0))⟩
              · have ht7 : (x.count_ == 0) = true := beq_iff_eq.2 (of_decide_eq_true hb7)
                have z7 := (HK1.out.below hT5 HK1.out.lt).cell 7
                simp only [gZa, gZb] at z7
                rcases b8 with _ | _
                · have he : x.data_.toList.isEmpty = false := isEmpty_no (of_decide_eq_false hb8)
                  go_wp2
                  go_ret
                  exact ⟨ret_bool (by rw [HRR.out]; rfl), (hA.trans (hT5.mono hs0))⟩
                · have he : x.data_.toList.isEmpty = true := by rw [of_decide_eq_true hb8]; exact empty_isEmpty
                  have z8 := (HK1.out.below hT5 HK1.out.lt).cell 8
                  have z9 := (HK1.out.below hT5 HK1.out.lt).cell 9
                  have z10 := (HK1.out.below hT5 HK1.out.lt).cell 10
                  have z11 := (HK1.out.below hT5 HK1.out.lt).cell 11
                  simp only [gZa, gZb] at z8 z9 z10 z11
                  rcases b9 with _ | _
                  · rcases sum_no hb9 with h1 | ⟨h1, h2⟩ | ⟨h1, h2, h3⟩ | ⟨h1, h2, h3, h4⟩
                    all_goals
                      go_wp2
                      go_ret
                      exact ⟨ret_bool (by rw [HRR.out]; rfl), (hA.trans (hT5.mono hs0))⟩
                  · obtain ⟨h1, h2, h3, h4⟩ := sum_yes hb9
                    go_wp2
                    go_ret
                    exact ⟨ret_bool (by rw [HRR.out]; rfl), (hA.trans (hT5.mono hs0))⟩
theorem refStage_any (x : MStage) (ht : x.into_.size ≤ 4398046511104) (w : World) (hx : x.Good w) :
    Calls Tryz.prog 71 #[.agg #[.string x.into_, .int .i64 x.begin_.kind_, .string x.begin_.name_, .int .i64 x.begin_.from_, .int .i64 x.begin_.guid_, .slice x.begin_.own_.A x.begin_.own_.l.length x.begin_.own_.c, .int .i64 x.begin_.index_, .int .i64 x.begin_.count_, .string x.begin_.data_, .int .u64 x.begin_.sum_.a_, .int .u64 x.begin_.sum_.b_, .int .u64 x.begin_.sum_.c_, .int .u64 x.begin_.sum_.d_, .slice x.body_.A x.body_.l.length x.body_.c, .int .i64 x.at_, .int .i64 x.next_, .int .u64 x.sum_.a_, .int .u64 x.sum_.b_, .int .u64 x.sum_.c_, .int .u64 x.sum_.d_, .bool x.done_]] w fun e w' => e = .returned (.bool (stageB x.plain)) ∧ Below w.heap.size w w' := by
  obtain ⟨w1, hw1⟩ : ∃ w1, w.alloc (.cells #[.string x.into_, .int .i64 x.begin_.kind_, .string x.begin_.name_, .int .i64 x.begin_.from_, .int .i64 x.begin_.guid_, .slice x.begin_.own_.A x.begin_.own_.l.length x.begin_.own_.c, .int .i64 x.begin_.index_, .int .i64 x.begin_.count_, .string x.begin_.data_, .int .u64 x.begin_.sum_.a_, .int .u64 x.begin_.sum_.b_, .int .u64 x.begin_.sum_.c_, .int .u64 x.begin_.sum_.d_, .slice x.body_.A x.body_.l.length x.body_.c, .int .i64 x.at_, .int .i64 x.next_, .int .u64 x.sum_.a_, .int .u64 x.sum_.b_, .int .u64 x.sum_.c_, .int .u64 x.sum_.d_, .bool x.done_] 91) = w1 := ⟨_, rfl⟩
  have hB1 : Below w.heap.size w w1 := hw1 ▸ (Below.refl _ w).alloc (Nat.le_refl _) _
  have k1 : Blk w1 w.heap.size 91 [.string x.into_, .int .i64 x.begin_.kind_, .string x.begin_.name_, .int .i64 x.begin_.from_, .int .i64 x.begin_.guid_, .slice x.begin_.own_.A x.begin_.own_.l.length x.begin_.own_.c, .int .i64 x.begin_.index_, .int .i64 x.begin_.count_, .string x.begin_.data_, .int .u64 x.begin_.sum_.a_, .int .u64 x.begin_.sum_.b_, .int .u64 x.begin_.sum_.c_, .int .u64 x.begin_.sum_.d_, .slice x.body_.A x.body_.l.length x.body_.c, .int .i64 x.at_, .int .i64 x.next_, .int .u64 x.sum_.a_, .int .u64 x.sum_.b_, .int .u64 x.sum_.c_, .int .u64 x.sum_.d_, .bool x.done_] := hw1 ▸ Blk.new w _ _
  have hA : Below w.heap.size w w1 := hB1
  have H2 : Hid (∀ W, Below w1.heap.size w1 W → Calls Tryz.prog 61 #[.string x.into_] W fun e w' => e = .returned (.bool (isPath (bs x.into_))) ∧ Below W.heap.size W w') := Lib.hid fun W hW => refPath_any _ ht W
  have H3 : Hid (∀ W, Below w1.heap.size w1 W → Calls Tryz.prog 126 #[.agg #[.int .i64 x.begin_.kind_, .string x.begin_.name_, .int .i64 x.begin_.from_, .int .i64 x.begin_.guid_, .slice x.begin_.own_.A x.begin_.own_.l.length x.begin_.own_.c, .int .i64 x.begin_.index_, .int .i64 x.begin_.count_, .string x.begin_.data_, .int .u64 x.begin_.sum_.a_, .int .u64 x.begin_.sum_.b_, .int .u64 x.begin_.sum_.c_, .int .u64 x.begin_.sum_.d_]] W fun e w' => e = .returned (.bool (beginB x.begin_.plain)) ∧ Below W.heap.size W w') := Lib.hid fun W hW => refBegin_any x.begin_ W (hx.gbegin_.below (hA.trans (hW.mono hA.size)))
  have H4 : Hid (∀ W, Below w1.heap.size w1 W → Calls Tryz.prog 123 #[.slice x.body_.A x.body_.l.length x.body_.c] W fun e w' => e = .returned (.int .i64 (if (okK x.body_.l) then 0 else 9)) ∧ Below W.heap.size W w') := Lib.hid fun W hW => refBkS _ W (hx.gbody_.below (hA.trans (hW.mono hA.size)) fun _ h => h)
  have H5 : Hid (∀ W, Below w1.heap.size w1 W → Calls Tryz.prog 68 #[.int .i64 x.at_, .int .i64 0] W fun e w' => e = .returned (.bool (amt 0 x.at_)) ∧ Below W.heap.size W w') := Lib.hid fun W hW => amountB _ _ W
  have H6 : Hid (∀ W, Below w1.heap.size w1 W → Calls Tryz.prog 68 #[.int .i64 x.next_, .int .i64 0] W fun e w' => e = .returned (.bool (amt 0 x.next_)) ∧ Below W.heap.size W w') := Lib.hid fun W hW => amountB _ _ W
  obtain ⟨R, hR⟩ : ∃ R, stageB x.plain = R := ⟨_, rfl⟩
  rw [hR]
  have HRR : Hid (R = ((decide (x.into_ ≠ ByteArray.empty)) && ((isPath (bs x.into_)) && ((beginB x.begin_.plain) && ((okK x.body_.l) && ((amt 0 x.at_) && ((amt 0 x.next_)))))))) := Lib.hid (hR.symm.trans (show stageB x.plain = ((decide (x.into_ ≠ ByteArray.empty)) && ((isPath (bs x.into_)) && ((beginB x.begin_.plain) && ((okK x.body_.l) && ((amt 0 x.at_) && ((amt 0 x.next_))))))) from by rfl))
  clear hR
  obtain ⟨b1, hb1⟩ : ∃ b, (decide (x.into_ ≠ ByteArray.empty)) = b := ⟨_, rfl⟩
  rw [hb1] at HRR
  obtain ⟨b2, hb2⟩ : ∃ b, (isPath (bs x.into_)) = b := ⟨_, rfl⟩
  rw [hb2] at HRR
  rw [hb2] at H2
  clear hb2
  obtain ⟨b3, hb3⟩ : ∃ b, (beginB x.begin_.plain) = b := ⟨_, rfl⟩
  rw [hb3] at HRR
  rw [hb3] at H3
  clear hb3
  obtain ⟨b4, hb4⟩ : ∃ b, (okK x.body_.l) = b := ⟨_, rfl⟩
  rw [hb4] at HRR
  rw [hb4] at H4
  clear hb4
  obtain ⟨b5, hb5⟩ : ∃ b, (amt 0 x.at_) = b := ⟨_, rfl⟩
  rw [hb5] at HRR
  rw [hb5] at H5
  clear hb5
  obtain ⟨b6, hb6⟩ : ∃ b, (amt 0 x.next_) = b := ⟨_, rfl⟩
  rw [hb6] at HRR
  rw [hb6] at H6
  clear hb6
  have HW1 := Lib.hid hw1
  have HK1 := Lib.hid k1
  clear hw1 k1
  have hs0 := hA.size
  have hT0 : Below w1.heap.size w1 w1 := Below.refl _ _
  clear hx
  go_enter Tryz.func71, Tryz.ntmps71
  have z0 := (HK1.out.below hT0 HK1.out.lt).cell 0
  simp only [gZa, gZb] at z0
  go_upto_region 1 with fail
  rw [HW1.out]
  rcases b1 with _ | _
  · have he : x.into_.toList.isEmpty = true := by have := of_decide_eq_false hb1; rw [show x.into_ = ByteArray.empty from Classical.byContradiction this]; exact empty_isEmpty
    go_wp2
    go_ret
    exact ⟨ret_bool (by rw [HRR.out]; rfl), (hA.trans (hT0.mono hs0))⟩
  · have he : x.into_.toList.isEmpty = false := isEmpty_no (of_decide_eq_true hb1)
    have z0 := (HK1.out.below hT0 HK1.out.lt).cell 0
    simp only [gZa, gZb] at z0
    go_wp2_with fail
    refine (H2.out _ hT0).mono ?_
    rintro e v2 ⟨rfl, hV2⟩
    have hT2 : Below w1.heap.size w1 v2 := hT0.trans (hV2.mono hT0.size)
    have hX2 : Below w.heap.size w v2 := hA.trans (hT2.mono hs0)
    rcases b2 with _ | _
    · skip
      go_wp2
      go_ret
      exact ⟨ret_bool (by rw [HRR.out]; rfl), hX2⟩
    · skip
      have z1 := (HK1.out.below hT2 HK1.out.lt).cell 1
      have z2 := (HK1.out.below hT2 HK1.out.lt).cell 2
      have z3 := (HK1.out.below hT2 HK1.out.lt).cell 3
      have z4 := (HK1.out.below hT2 HK1.out.lt).cell 4
      have z5 := (HK1.out.below hT2 HK1.out.lt).cell 5
      have z6 := (HK1.out.below hT2 HK1.out.lt).cell 6
      have z7 := (HK1.out.below hT2 HK1.out.lt).cell 7
      have z8 := (HK1.out.below hT2 HK1.out.lt).cell 8
      have z9 := (HK1.out.below hT2 HK1.out.lt).cell 9
      have z10 := (HK1.out.below hT2 HK1.out.lt).cell 10
      have z11 := (HK1.out.below hT2 HK1.out.lt).cell 11
      have z12 := (HK1.out.below hT2 HK1.out.lt).cell 12
      simp only [gZa, gZb] at z1 z2 z3 z4 z5 z6 z7 z8 z9 z10 z11 z12
      go_wp2_with fail
      refine (H3.out _ hT2).mono ?_
      rintro e v3 ⟨rfl, hV3⟩
      have hT3 : Below w1.heap.size w1 v3 := hT2.trans (hV3.mono hT2.size)
      have hX3 : Below w.heap.size w v3 := hA.trans (hT3.mono hs0)
      rcases b3 with _ | _
      · skip
        go_wp2
        go_ret
        exact ⟨ret_bool (by rw [HRR.out]; rfl), hX3⟩
      · skip
        have z13 := (HK1.out.below hT3 HK1.out.lt).cell 13
        simp only [gZa, gZb] at z13
        go_wp2_with fail
        refine (H4.out _ hT3).mono ?_
        rintro e v4 ⟨rfl, hV4⟩
        have hT4 : Below w1.heap.size w1 v4 := hT3.trans (hV4.mono hT3.size)
        have hX4 : Below w.heap.size w v4 := hA.trans (hT4.mono hs0)
        rcases b4 with _ | _
        · skip
          go_wp2
          go_ret
          exact ⟨ret_bool (by rw [HRR.out]; rfl), hX4⟩
        · skip
          have z14 := (HK1.out.below hT4 HK1.out.lt).cell 14
          simp only [gZa, gZb] at z14
          go_wp2_with fail
          refine (H5.out _ hT4).mono ?_
          rintro e v5 ⟨rfl, hV5⟩
          have hT5 : Below w1.heap.size w1 v5 := hT4.trans (hV5.mono hT4.size)
          have hX5 : Below w.heap.size w v5 := hA.trans (hT5.mono hs0)
          rcases b5 with _ | _
          · skip
            go_wp2
            go_ret
            exact ⟨ret_bool (by rw [HRR.out]; rfl), hX5⟩
          · skip
            have z15 := (HK1.out.below hT5 HK1.out.lt).cell 15
            simp only [gZa, gZb] at z15
            go_wp2_with fail
            refine (H6.out _ hT5).mono ?_
            rintro e v6 ⟨rfl, hV6⟩
            have hT6 : Below w1.heap.size w1 v6 := hT5.trans (hV6.mono hT5.size)
            have hX6 : Below w.heap.size w v6 := hA.trans (hT6.mono hs0)
            rcases b6 with _ | _
            · skip
              go_wp2
              go_ret
              exact ⟨ret_bool (by rw [HRR.out]; rfl), hX6⟩
            · skip
              go_wp2
              go_ret
              exact ⟨ret_bool (by rw [HRR.out]; rfl), hX6⟩
theorem refEntry_e (x : MEntry) (ht : x.path_.size ≤ 4398046511104) (hu : x.user_ = ByteArray.empty) (w : World) (hx : x.Good w) :
    Calls Tryz.prog 72 #[.agg #[.string ByteArray.empty, .int .i64 x.kind_, .string x.path_, .int .i64 x.err_]] w fun e w' => e = .returned (.bool (entryB x.plain)) ∧ Below w.heap.size w w' := by
  obtain ⟨w1, hw1⟩ : ∃ w1, w.alloc (.cells #[.string ByteArray.empty, .int .i64 x.kind_, .string x.path_, .int .i64 x.err_] 104) = w1 := ⟨_, rfl⟩
  have hB1 : Below w.heap.size w w1 := hw1 ▸ (Below.refl _ w).alloc (Nat.le_refl _) _
  have k1 : Blk w1 w.heap.size 104 [.string ByteArray.empty, .int .i64 x.kind_, .string x.path_, .int .i64 x.err_] := hw1 ▸ Blk.new w _ _
  have hA : Below w.heap.size w w1 := hB1
  have H1 : Hid (∀ W, Below w1.heap.size w1 W → Calls Tryz.prog 61 #[.string x.path_] W fun e w' => e = .returned (.bool (isPath (bs x.path_))) ∧ Below W.heap.size W w') := Lib.hid fun W hW => refPath_any _ ht W
  have H2 : Hid (∀ W, Below w1.heap.size w1 W → Calls Tryz.prog 68 #[.int .i64 x.kind_, .int .i64 0] W fun e w' => e = .returned (.bool (amt 0 x.kind_)) ∧ Below W.heap.size W w') := Lib.hid fun W hW => amountB _ _ W
  have H3 : Hid (∀ W, Below w1.heap.size w1 W → Calls Tryz.prog 68 #[.int .i64 x.err_, .int .i64 0] W fun e w' => e = .returned (.bool (amt 0 x.err_)) ∧ Below W.heap.size W w') := Lib.hid fun W hW => amountB _ _ W
  obtain ⟨R, hR⟩ : ∃ R, entryB x.plain = R := ⟨_, rfl⟩
  rw [hR]
  have HRR : Hid (R = ((isPath (bs x.path_)) && ((amt 0 x.kind_) && ((amt 0 x.err_))))) := Lib.hid (hR.symm.trans (show entryB x.plain = ((isPath (bs x.path_)) && ((amt 0 x.kind_) && ((amt 0 x.err_)))) from by simp [entryB, MEntry.plain, hu]))
  clear hR
  obtain ⟨b1, hb1⟩ : ∃ b, (isPath (bs x.path_)) = b := ⟨_, rfl⟩
  rw [hb1] at HRR
  rw [hb1] at H1
  clear hb1
  obtain ⟨b2, hb2⟩ : ∃ b, (amt 0 x.kind_) = b := ⟨_, rfl⟩
  rw [hb2] at HRR
  rw [hb2] at H2
  clear hb2
  obtain ⟨b3, hb3⟩ : ∃ b, (amt 0 x.err_) = b := ⟨_, rfl⟩
  rw [hb3] at HRR
  rw [hb3] at H3
  clear hb3
  have HW1 := Lib.hid hw1
  have HK1 := Lib.hid k1
  clear hw1 k1
  have hs0 := hA.size
  have hT0 : Below w1.heap.size w1 w1 := Below.refl _ _
  clear hx
  go_enter Tryz.func72, Tryz.ntmps72
  have z0 := (HK1.out.below hT0 HK1.out.lt).cell 0
  have z2 := (HK1.out.below hT0 HK1.out.lt).cell 2
  simp only [gZa, gZb] at z0 z2
  go_wp2_with fail
  rw [HW1.out]
  try go_wp2_with fail
  refine (H1.out _ hT0).mono ?_
  rintro e v1 ⟨rfl, hV1⟩
  have hT1 : Below w1.heap.size w1 v1 := hT0.trans (hV1.mono hT0.size)
  have hX1 : Below w.heap.size w v1 := hA.trans (hT1.mono hs0)
  rcases b1 with _ | _
  · skip
    go_wp2
    go_ret
    exact ⟨ret_bool (by rw [HRR.out]; rfl), hX1⟩
  · skip
    have z1 := (HK1.out.below hT1 HK1.out.lt).cell 1
    simp only [gZa, gZb] at z1
    go_wp2_with fail
    refine (H2.out _ hT1).mono ?_
    rintro e v2 ⟨rfl, hV2⟩
    have hT2 : Below w1.heap.size w1 v2 := hT1.trans (hV2.mono hT1.size)
    have hX2 : Below w.heap.size w v2 := hA.trans (hT2.mono hs0)
    rcases b2 with _ | _
    · skip
      go_wp2
      go_ret
      exact ⟨ret_bool (by rw [HRR.out]; rfl), hX2⟩
    · skip
      have z3 := (HK1.out.below hT2 HK1.out.lt).cell 3
      simp only [gZa, gZb] at z3
      go_wp2_with fail
      refine (H3.out _ hT2).mono ?_
      rintro e v3 ⟨rfl, hV3⟩
      have hT3 : Below w1.heap.size w1 v3 := hT2.trans (hV3.mono hT2.size)
      have hX3 : Below w.heap.size w v3 := hA.trans (hT3.mono hs0)
      rcases b3 with _ | _
      · skip
        go_wp2
        go_ret
        exact ⟨ret_bool (by rw [HRR.out]; rfl), hX3⟩
      · skip
        go_wp2
        go_ret
        exact ⟨ret_bool (by rw [HRR.out]; rfl), hX3⟩
theorem refEntry_n (x : MEntry) (ht : x.path_.size ≤ 4398046511104) (hu : ¬ x.user_ = ByteArray.empty) (w : World) (hx : x.Good w) :
    Calls Tryz.prog 72 #[.agg #[.string x.user_, .int .i64 x.kind_, .string x.path_, .int .i64 x.err_]] w fun e w' => e = .returned (.bool (entryB x.plain)) ∧ Below w.heap.size w w' := by
  have he := isEmpty_no hu
  obtain ⟨w1, hw1⟩ : ∃ w1, w.alloc (.cells #[.string x.user_, .int .i64 x.kind_, .string x.path_, .int .i64 x.err_] 104) = w1 := ⟨_, rfl⟩
  have hB1 : Below w.heap.size w w1 := hw1 ▸ (Below.refl _ w).alloc (Nat.le_refl _) _
  have k1 : Blk w1 w.heap.size 104 [.string x.user_, .int .i64 x.kind_, .string x.path_, .int .i64 x.err_] := hw1 ▸ Blk.new w _ _
  have hA : Below w.heap.size w w1 := hB1
  have H1 : Hid (∀ W, Below w1.heap.size w1 W → Calls Tryz.prog 66 #[.string x.user_] W fun e w' => e = .returned (.bool (isName (bs x.user_))) ∧ Below W.heap.size W w') := Lib.hid fun W hW => refNameB _ (by have := hx.guser_; omega) W
  have H2 : Hid (∀ W, Below w1.heap.size w1 W → Calls Tryz.prog 61 #[.string x.path_] W fun e w' => e = .returned (.bool (isPath (bs x.path_))) ∧ Below W.heap.size W w') := Lib.hid fun W hW => refPath_any _ ht W
  have H3 : Hid (∀ W, Below w1.heap.size w1 W → Calls Tryz.prog 68 #[.int .i64 x.kind_, .int .i64 0] W fun e w' => e = .returned (.bool (amt 0 x.kind_)) ∧ Below W.heap.size W w') := Lib.hid fun W hW => amountB _ _ W
  have H4 : Hid (∀ W, Below w1.heap.size w1 W → Calls Tryz.prog 68 #[.int .i64 x.err_, .int .i64 0] W fun e w' => e = .returned (.bool (amt 0 x.err_)) ∧ Below W.heap.size W w') := Lib.hid fun W hW => amountB _ _ W
  obtain ⟨R, hR⟩ : ∃ R, entryB x.plain = R := ⟨_, rfl⟩
  rw [hR]
  have HRR : Hid (R = ((isName (bs x.user_)) && ((isPath (bs x.path_)) && ((amt 0 x.kind_) && ((amt 0 x.err_)))))) := Lib.hid (hR.symm.trans (show entryB x.plain = ((isName (bs x.user_)) && ((isPath (bs x.path_)) && ((amt 0 x.kind_) && ((amt 0 x.err_))))) from by simp [entryB, MEntry.plain, hu]))
  clear hR
  obtain ⟨b1, hb1⟩ : ∃ b, (isName (bs x.user_)) = b := ⟨_, rfl⟩
  rw [hb1] at HRR
  rw [hb1] at H1
  clear hb1
  obtain ⟨b2, hb2⟩ : ∃ b, (isPath (bs x.path_)) = b := ⟨_, rfl⟩
  rw [hb2] at HRR
  rw [hb2] at H2
  clear hb2
  obtain ⟨b3, hb3⟩ : ∃ b, (amt 0 x.kind_) = b := ⟨_, rfl⟩
  rw [hb3] at HRR
  rw [hb3] at H3
  clear hb3
  obtain ⟨b4, hb4⟩ : ∃ b, (amt 0 x.err_) = b := ⟨_, rfl⟩
  rw [hb4] at HRR
  rw [hb4] at H4
  clear hb4
  have HW1 := Lib.hid hw1
  have HK1 := Lib.hid k1
  clear hw1 k1
  have hs0 := hA.size
  have hT0 : Below w1.heap.size w1 w1 := Below.refl _ _
  clear hx
  go_enter Tryz.func72, Tryz.ntmps72
  have z0 := (HK1.out.below hT0 HK1.out.lt).cell 0
  simp only [gZa, gZb] at z0
  go_wp2_with fail
  rw [HW1.out]
  try go_wp2_with fail
  refine (H1.out _ hT0).mono ?_
  rintro e v1 ⟨rfl, hV1⟩
  have hT1 : Below w1.heap.size w1 v1 := hT0.trans (hV1.mono hT0.size)
  have hX1 : Below w.heap.size w v1 := hA.trans (hT1.mono hs0)
  rcases b1 with _ | _
  · skip
    go_wp2
    go_ret
    exact ⟨ret_bool (by rw [HRR.out]; rfl), hX1⟩
  · skip
    have z0 := (HK1.out.below hT1 HK1.out.lt).cell 0
    have z2 := (HK1.out.below hT1 HK1.out.lt).cell 2
    simp only [gZa, gZb] at z0 z2
    go_wp2_with fail
    refine (H2.out _ hT1).mono ?_
    rintro e v2 ⟨rfl, hV2⟩
    have hT2 : Below w1.heap.size w1 v2 := hT1.trans (hV2.mono hT1.size)
    have hX2 : Below w.heap.size w v2 := hA.trans (hT2.mono hs0)
    rcases b2 with _ | _
    · skip
      go_wp2
      go_ret
      exact ⟨ret_bool (by rw [HRR.out]; rfl), hX2⟩
    · skip
      have z1 := (HK1.out.below hT2 HK1.out.lt).cell 1
      simp only [gZa, gZb] at z1
      go_wp2_with fail
      refine (H3.out _ hT2).mono ?_
      rintro e v3 ⟨rfl, hV3⟩
      have hT3 : Below w1.heap.size w1 v3 := hT2.trans (hV3.mono hT2.size)
      have hX3 : Below w.heap.size w v3 := hA.trans (hT3.mono hs0)
      rcases b3 with _ | _
      · skip
        go_wp2
        go_ret
        exact ⟨ret_bool (by rw [HRR.out]; rfl), hX3⟩
      · skip
        have z3 := (HK1.out.below hT3 HK1.out.lt).cell 3
        simp only [gZa, gZb] at z3
        go_wp2_with fail
        refine (H4.out _ hT3).mono ?_
        rintro e v4 ⟨rfl, hV4⟩
        have hT4 : Below w1.heap.size w1 v4 := hT3.trans (hV4.mono hT3.size)
        have hX4 : Below w.heap.size w v4 := hA.trans (hT4.mono hs0)
        rcases b4 with _ | _
        · skip
          go_wp2
          go_ret
          exact ⟨ret_bool (by rw [HRR.out]; rfl), hX4⟩
        · skip
          go_wp2
          go_ret
          exact ⟨ret_bool (by rw [HRR.out]; rfl), hX4⟩
theorem refEntry_any (x : MEntry) (ht : x.path_.size ≤ 4398046511104) (w : World) (hx : x.Good w) :
    Calls Tryz.prog 72 #[.agg x.cells.toArray] w fun e w' => e = .returned (.bool (entryB x.plain)) ∧ Below w.heap.size w w' := by
  by_cases hu : x.user_ = ByteArray.empty
  · have := refEntry_e x ht hu w hx
    rw [← hu] at this
    exact this
  · exact refEntry_n x ht hu w hx
def ltGb (a b : Gr) : Bool := decide (ltG a b)
theorem okG_two (l : List Gr) : okG l = (goodL goodG ltGb l && decide (l.length ≤ 16)) := by
  rw [Bool.eq_iff_iff, okG_iff, Bool.and_eq_true, decide_eq_true_iff]
  unfold goodL
  rw [Bool.and_eq_true, List.all_eq_true, riseB_iff]
  constructor
  · rintro ⟨h1, h2, h3⟩
    refine ⟨⟨h2, fun j y x hy hx => decide_eq_true ?_⟩, h1⟩
    obtain ⟨hi, ex⟩ := List.getElem?_eq_some_iff.1 hy
    obtain ⟨hj, ey⟩ := List.getElem?_eq_some_iff.1 hx
    rw [← ex, ← ey]
    exact List.pairwise_iff_getElem.1 h3 j (j + 1) hi hj (by omega)
  · rintro ⟨⟨h2, h3⟩, h1⟩
    refine ⟨h1, h2, ?_⟩
    have := riseB_pair (lt := ltGb) (fun a b c h h' => decide_eq_true (ltG_trans (of_decide_eq_true h) (of_decide_eq_true h'))) (riseB_iff.2 h3)
    exact this.imp fun h => of_decide_eq_true h
theorem beqV (a b : ByteArray) : (a.toList == b.toList) = decide (a = b) := by
  rw [Bool.eq_iff_iff, beq_iff_eq, decide_eq_true_eq]
  exact ⟨ba_toList, fun h => by rw [h]⟩
set_option maxHeartbeats 4000000 in
theorem refGrants_any (A : Option Addr) (c n : Nat) (l : List Gr) (hn : l.length = n) (hl : n ≤ 4398046511104) (hf : ∀ x ∈ l, x.1.size ≤ 140737488351232 ∧ x.2.1.size ≤ 4398046511104) (w : World) (hr : Rd w A (grs l)) :
    Calls Tryz.prog 69 #[.slice A n c] w fun e w' => e = .returned (.int .i64 (if okG l = true then 0 else 9)) ∧ Below w.heap.size w w' := by
  subst hn
  obtain ⟨R, hR⟩ : ∃ R : Int, (if okG l = true then 0 else 9) = R := ⟨_, rfl⟩
  have HR := Lib.hid hR
  rw [hR]
  have HOK := Lib.hid (okG_two l)
  have H9 : Hid (goodL goodG ltGb l = false → R = 9) := Lib.hid fun h => by
    rw [← HR.out, HOK.out, h]
    rfl
  clear hR
  go_enter Tryz.func69, Tryz.ntmps69
  go_wp2
  go_loopw [3] (fun j W => ∃ k : Nat, k ≤ l.length ∧ j = .int .i64 k ∧ Hid (UpTo goodG ltGb l k) ∧ Below w.heap.size w W) (fun j _ => l.length - (intOf j).toNat)
  case atStart => exact ⟨0, Nat.zero_le _, rfl, Lib.hid upTo_zero, Below.refl _ _⟩
  case round =>
    obtain ⟨k, hk, rfl, HU, hB⟩ := hrel
    by_cases hlt : k < l.length
    · obtain ⟨x, hx⟩ : ∃ x, l[k]? = some x := ⟨l[k], qZa hlt⟩
      have HRDW := Lib.hid (Rd.below hr hB)
      obtain ⟨b, off, rfl, hb, hc0, hc1, hc2⟩ := (Rd.below hr hB).gr hx
      obtain ⟨hs1, hs2⟩ := hf x (List.mem_of_getElem? hx)
      have HX := Lib.hid hx
      have HN := Lib.hid (fun W => refName_any x.1 (by omega) W)
      have HP := Lib.hid (fun W => refPath_any x.2.1 (by omega) W)
      have HGD : Hid (goodG x = (isName (bs x.1) && (isPath (bs x.2.1) && someP x.2.2))) := Lib.hid rfl
      clear hx
      obtain ⟨x1, x2, x3⟩ := x
      dsimp only at hc0 hc1 hc2 hs1 hs2 HN HP HGD
      obtain ⟨w1, hw1⟩ : ∃ w1, wr.alloc (.cells #[.string x1, .string x2, .int .i64 x3] 111) = w1 := ⟨_, rfl⟩
      have hB1 : Below wr.heap.size wr w1 := hw1 ▸ (Below.refl _ wr).alloc (Nat.le_refl _) _
      have k1 : Blk w1 wr.heap.size 111 [.string x1, .string x2, .int .i64 x3] := hw1 ▸ Blk.new wr _ _
      have hBw1 : Below w.heap.size w w1 := hB.trans (hB1.mono hB.size)
      have y0 := k1.cell 0
      have y1 := k1.cell 1
      have y2 := k1.cell 2
      simp only [gZa, gZb] at y0 y1 y2
      have HW1 := Lib.hid hw1
      have HK1 := Lib.hid k1
      have HB1 := Lib.hid hB1
      clear hw1 k1 hB1
      rcases g1 : isName (bs x1) with _ | _
      · have HR9 : Hid (R = 9) := Lib.hid (H9.out (goodL_bad HX.out (by rw [HGD.out, g1]; rfl)))
        rw [g1] at HN
        clear g1 HU HGD HRDW HP
        go_wp2_with fail
        rw [HW1.out]
        go_wp2_with fail
        refine (HN.out w1).mono ?_
        rintro e w2 ⟨rfl, rfl⟩
        go_wp2
        go_ret
        rw [HR9.out]
        exact ⟨rfl, hBw1⟩
      rcases g2 : isPath (bs x2) with _ | _
      · have HR9 : Hid (R = 9) := Lib.hid (H9.out (goodL_bad HX.out (by rw [HGD.out, g1, g2]; rfl)))
        rw [g1] at HN
        rw [g2] at HP
        clear g1 g2 HU HGD HRDW
        go_wp2_with fail
        rw [HW1.out]
        go_wp2_with fail
        refine (HN.out w1).mono ?_
        rintro e w2 ⟨rfl, rfl⟩
        go_wp2_with fail
        refine (HP.out w1).mono ?_
        rintro e w3 ⟨rfl, hB3⟩
        have k3 := HK1.out.below hB3 HK1.out.lt
        have z0 := k3.cell 0
        have z1 := k3.cell 1
        have z2 := k3.cell 2
        simp only [gZa, gZb] at z0 z1 z2
        have hBw3 := hBw1.trans (hB3.mono hBw1.size)
        have hBr3 : Below wr.heap.size wr w3 := HB1.out.trans (hB3.mono HB1.out.size)
        clear k3 y0 y1 y2 HN HP
        go_wp2
        go_ret
        rw [HR9.out]
        exact ⟨rfl, hBw3⟩
      rcases g3 : someP x3 with _ | _
      · have HR9 : Hid (R = 9) := Lib.hid (H9.out (goodL_bad HX.out (by rw [HGD.out, g1, g2, g3]; rfl)))
        rw [g1] at HN
        rw [g2] at HP
        have hways : x3 < 1 ∨ (¬ x3 < 1 ∧ 255 < x3) := by
          unfold someP at g3
          by_cases h : 1 ≤ x3
          · rw [decide_eq_true h, Bool.true_and] at g3
            have := of_decide_eq_false g3
            omega
          · omega
        clear g1 g2 g3 HU HGD HRDW
        rcases hways with h | ⟨h, h'⟩
        all_goals
          go_wp2_with fail
          rw [HW1.out]
          go_wp2_with fail
          refine (HN.out w1).mono ?_
          rintro e w2 ⟨rfl, rfl⟩
          go_wp2_with fail
          refine (HP.out w1).mono ?_
          rintro e w3 ⟨rfl, hB3⟩
          have k3 := HK1.out.below hB3 HK1.out.lt
          have z0 := k3.cell 0
          have z1 := k3.cell 1
          have z2 := k3.cell 2
          simp only [gZa, gZb] at z0 z1 z2
          have hBw3 := hBw1.trans (hB3.mono hBw1.size)
          have hBr3 : Below wr.heap.size wr w3 := HB1.out.trans (hB3.mono HB1.out.size)
          clear k3 y0 y1 y2 HN HP
          go_wp2
          go_ret
          rw [HR9.out]
          exact ⟨rfl, hBw3⟩
      have hgd : goodG (x1, x2, x3) = true := by rw [HGD.out, g1, g2, g3]; rfl
      have h1le : ¬ x3 < 1 := by
        unfold someP at g3
        rw [Bool.and_eq_true] at g3
        have := of_decide_eq_true g3.1
        omega
      have h255 : ¬ 255 < x3 := by
        unfold someP at g3
        rw [Bool.and_eq_true] at g3
        have := of_decide_eq_true g3.2
        omega
      have HG := Lib.hid hgd
      rw [g1] at HN
      rw [g2] at HP
      clear g1 g2 g3 HGD hgd
      have hway : (Hid (k = 0) ∧ decide (0 < k) = false) ∨ ∃ (i : Nat) (y : Gr), decide (0 < k) = true ∧ IntKind.i64.wrap ((k : Int) - 1) = (i : Int) ∧ i < l.length ∧ Hid (k = i + 1) ∧ Hid (l[i]? = some y) := by
        rcases k with _ | j
        · exact .inl ⟨Lib.hid rfl, rfl⟩
        · obtain ⟨y, hy⟩ : ∃ y, l[j]? = some y := ⟨l[j]'(by omega), qZa (by omega)⟩
          exact .inr ⟨j, y, decide_eq_true (by omega), by rw [show (((j + 1 : Nat) : Int) - 1) = (j : Int) by omega]; exact IntWalk.i64_in _ (by omega), by omega, Lib.hid rfl, Lib.hid hy⟩
      rcases hway with ⟨HK0, hj0⟩ | ⟨i, y, hj0, hw, hi, HKI, HY⟩
      · have HU' : Hid (UpTo goodG ltGb l (k + 1)) := Lib.hid (upTo_succ HU.out HX.out HG.out fun j y h => by have := HK0.out; omega)
        clear HRDW HU
        go_wp2_with fail
        rw [HW1.out]
        go_wp2_with fail
        refine (HN.out w1).mono ?_
        rintro e w2 ⟨rfl, rfl⟩
        go_wp2_with fail
        refine (HP.out w1).mono ?_
        rintro e w3 ⟨rfl, hB3⟩
        have k3 := HK1.out.below hB3 HK1.out.lt
        have z0 := k3.cell 0
        have z1 := k3.cell 1
        have z2 := k3.cell 2
        simp only [gZa, gZb] at z0 z1 z2
        have hBw3 := hBw1.trans (hB3.mono hBw1.size)
        have hBr3 : Below wr.heap.size wr w3 := HB1.out.trans (hB3.mono HB1.out.size)
        clear k3 y0 y1 y2 HN HP
        go_wp2_with fail
        go_big_quiet (fail)
        go_wp2
        go_roundw
        case rel => exact ⟨k + 1, by omega, by go_num, HU', hBw3.trans (belowDrewN _ _ _)⟩
        case measure => simp [intOf]; omega
      · obtain ⟨b', off', e', hb', d0, d1, d2⟩ := HRDW.out.gr HY.out
        injection e' with e'
        injection e' with e1 e2 _
        subst e1 e2
        obtain ⟨y1', y2', y3'⟩ := y
        dsimp only at d0 d1 d2
        have hbl : b < wr.heap.size := hb
        have hcs : (ltG (y1', y2', y3') (x1, x2, x3) ∧ ((Op.bytesLess y1'.toList x1.toList = true ∧ (y1'.toList == x1.toList) = false) ∨ ((Op.bytesLess y1'.toList x1.toList = false ∧ (y1'.toList == x1.toList) = true) ∧ Op.bytesLess y2'.toList x2.toList = true))) ∨ (¬ ltG (y1', y2', y3') (x1, x2, x3) ∧ ((Op.bytesLess y1'.toList x1.toList = false ∧ (y1'.toList == x1.toList) = false) ∨ ((Op.bytesLess y1'.toList x1.toList = false ∧ (y1'.toList == x1.toList) = true) ∧ Op.bytesLess y2'.toList x2.toList = false))) := by
          by_cases h : ltG (y1', y2', y3') (x1, x2, x3)
          · refine .inl ⟨h, ?_⟩
            rcases ltG_iff.1 h with h1 | ⟨h1, h2⟩
            · exact .inl ⟨h1, by rw [beqV, decide_eq_false (ltK_ne h1)]⟩
            · dsimp only at h1 h2
              exact .inr ⟨⟨by rw [h1, bl_irr], by rw [beqV, decide_eq_true h1]⟩, h2⟩
          · refine .inr ⟨h, ?_⟩
            rcases ltK_tri y1' x1 with h1 | h1 | h1
            · exact absurd (ltG_iff.2 (.inl h1)) h
            · refine .inl ⟨?_, by rw [beqV, decide_eq_false fun e => ltK_ne h1 e.symm]⟩
              rw [← Bool.not_eq_true]
              intro h3
              exact ltK_asym h1 h3
            · refine .inr ⟨⟨by rw [h1, bl_irr], by rw [beqV, decide_eq_true h1]⟩, ?_⟩
              rw [← Bool.not_eq_true]
              intro h2
              exact h (ltG_iff.2 (.inr ⟨h1, h2⟩))
        rcases hcs with ⟨hlg, hA⟩ | ⟨hlg, hA⟩
        · have HU' : Hid (UpTo goodG ltGb l (k + 1)) := Lib.hid (upTo_succ HU.out HX.out HG.out fun j y h hy => by
            obtain rfl : j = i := by have := HKI.out; omega
            rw [HY.out] at hy
            injection hy with hy
            subst hy
            exact decide_eq_true hlg)
          clear HRDW HU hlg HY HX HG
          rcases hA with ⟨hA1, hA2⟩ | ⟨⟨hA1, hA2⟩, hA3⟩
          all_goals
            go_wp2_with fail
            rw [HW1.out]
            go_wp2_with fail
            refine (HN.out w1).mono ?_
            rintro e w2 ⟨rfl, rfl⟩
            go_wp2_with fail
            refine (HP.out w1).mono ?_
            rintro e w3 ⟨rfl, hB3⟩
            have k3 := HK1.out.below hB3 HK1.out.lt
            have z0 := k3.cell 0
            have z1 := k3.cell 1
            have z2 := k3.cell 2
            simp only [gZa, gZb] at z0 z1 z2
            have hBw3 := hBw1.trans (hB3.mono hBw1.size)
            have hBr3 : Below wr.heap.size wr w3 := HB1.out.trans (hB3.mono HB1.out.size)
            clear k3 y0 y1 y2 HN HP
            have d0' := (hBr3.cell (p := ⟨b, off + i * 3, none⟩) hbl).trans d0
            have d1' := (hBr3.cell (p := ⟨b, off + i * 3 + 1, none⟩) hbl).trans d1
            go_wp2_with fail
            go_big_quiet (fail)
            go_wp2
            go_roundw
            case rel => exact ⟨k + 1, by omega, by go_num, HU', hBw3.trans (belowDrewN _ _ _)⟩
            case measure => simp [intOf]; omega
        · have HR9 : Hid (R = 9) := Lib.hid (H9.out (goodL_low HY.out (by rw [← HKI.out]; exact HX.out) (decide_eq_false hlg)))
          clear HRDW HU hlg HY HX HG
          rcases hA with ⟨hA1, hA2⟩ | ⟨⟨hA1, hA2⟩, hA3⟩
          all_goals
            go_wp2_with fail
            rw [HW1.out]
            go_wp2_with fail
            refine (HN.out w1).mono ?_
            rintro e w2 ⟨rfl, rfl⟩
            go_wp2_with fail
            refine (HP.out w1).mono ?_
            rintro e w3 ⟨rfl, hB3⟩
            have k3 := HK1.out.below hB3 HK1.out.lt
            have z0 := k3.cell 0
            have z1 := k3.cell 1
            have z2 := k3.cell 2
            simp only [gZa, gZb] at z0 z1 z2
            have hBw3 := hBw1.trans (hB3.mono hBw1.size)
            have hBr3 : Below wr.heap.size wr w3 := HB1.out.trans (hB3.mono HB1.out.size)
            clear k3 y0 y1 y2 HN HP
            have d0' := (hBr3.cell (p := ⟨b, off + i * 3, none⟩) hbl).trans d0
            have d1' := (hBr3.cell (p := ⟨b, off + i * 3 + 1, none⟩) hbl).trans d1
            go_wp2_with fail
            go_big_quiet (fail)
            go_wp2
            go_ret
            rw [HR9.out]
            exact ⟨rfl, hBw3.trans (belowDrewN _ _ _)⟩
    · have hgl := upTo_end HU.out (by omega)
      by_cases h16 : l.length ≤ 16
      · have HRR : Hid (R = 0) := Lib.hid (by rw [← HR.out, HOK.out, hgl, decide_eq_true h16]; rfl)
        have hq : ¬ (16 : Int) < (l.length : Int) := by omega
        clear hgl
        go_wp2
        go_ret
        rw [HRR.out]
        exact ⟨rfl, hB⟩
      · have HRR : Hid (R = 9) := Lib.hid (by rw [← HR.out, HOK.out, hgl, decide_eq_false h16]; rfl)
        have hq : (16 : Int) < (l.length : Int) := by omega
        clear hgl
        go_wp2
        go_ret
        rw [HRR.out]
        exact ⟨rfl, hB⟩
set_option maxHeartbeats 4000000
theorem refFind_any (x : MTenant) (p : ByteArray) (w : World) (hx : x.Good w) :
    Calls Tryz.prog 24 #[.agg x.cells.toArray, .string p] w fun e w' => e = .returned (.int .i64 (findM x p)) ∧ Below w.heap.size w w' := by
  obtain ⟨xn, xq, xt, ⟨A, l, c⟩, xg, xs, xl⟩ := x
  have hr := hx.gsets_.rd
  have hlen := hx.gsets_.len
  dsimp only at hr hlen
  obtain ⟨F, hF⟩ : ∃ F, findM ⟨xn, xq, xt, ⟨A, l, c⟩, xg, xs, xl⟩ p = F := ⟨_, rfl⟩
  rw [hF]
  have HF : Hid (findI (fun z : MSet => decide (z.path_ = p)) l = F) := Lib.hid hF
  obtain ⟨w1, hw1⟩ : ∃ w1, w.alloc (.cells #[.string xn, .int .i64 xq, .int .i64 xt, .slice A l.length c, .slice xg.A xg.l.length xg.c, .slice xs.A xs.l.length xs.c, .slice xl.A xl.l.length xl.c] 27) = w1 := ⟨_, rfl⟩
  have hB1 : Below w.heap.size w w1 := hw1 ▸ (Below.refl _ w).alloc (Nat.le_refl _) _
  have k1 : Blk w1 w.heap.size 27 [.string xn, .int .i64 xq, .int .i64 xt, .slice A l.length c, .slice xg.A xg.l.length xg.c, .slice xs.A xs.l.length xs.c, .slice xl.A xl.l.length xl.c] := hw1 ▸ Blk.new w _ _
  have hr1 := hr.below hB1
  have HK1 := Lib.hid k1
  have HW1 := Lib.hid hw1
  have hs1 := hB1.size
  clear k1 hw1 hF hr hx
  go_enter Tryz.func24, Tryz.ntmps24
  go_upto_region 1 with fail
  rw [HW1.out]
  go_wp2
  go_loopw [5] (fun i W => ∃ k : Nat, k ≤ l.length ∧ i = .int .i64 k ∧ Hid (∀ y ∈ l.take k, decide (y.path_ = p) = false) ∧ Below w1.heap.size w1 W) (fun i _ => l.length - (intOf i).toNat)
  case atStart => exact ⟨0, Nat.zero_le _, rfl, Lib.hid (by simp), Below.refl _ _⟩
  case round =>
    obtain ⟨k, hk, rfl, HU, hB⟩ := hrel
    have z3 := (HK1.out.below hB HK1.out.lt).cell 3
    simp only [gZa, gZb] at z3
    have hX := hB1.trans (hB.mono hs1)
    by_cases hlt : k < l.length
    · obtain ⟨y, hy⟩ : ∃ y, l[k]? = some y := ⟨l[k], qZa hlt⟩
      obtain ⟨b, off, rfl, hb, hc⟩ := Rd.elem (n := 5) (fun _ => rfl) (by omega) (hr1.below hB) hy
      have c0 : wr.cell? ⟨b, off + k * 5, none⟩ = some (.string y.path_) := hc 0 _ rfl
      have HY := Lib.hid hy
      clear hc hy
      by_cases he : y.path_ = p
      · have hd : (y.path_.toList == p.toList) = true := by rw [beqS]; exact decide_eq_true he
        obtain rfl : F = k := by rw [← HF.out]; exact findI_some HY.out (decide_eq_true he) HU.out
        clear he HU HF HY
        go_wp2
        go_ret
        exact ⟨rfl, hX⟩
      · have hd : (y.path_.toList == p.toList) = false := by rw [beqS]; exact decide_eq_false he
        have HU' : Hid (∀ y ∈ l.take (k + 1), decide (y.path_ = p) = false) := Lib.hid fun z hz => by
          rw [List.take_add_one, HY.out] at hz
          rcases List.mem_append.1 hz with h | h
          · exact HU.out z h
          · simp at h
            subst h
            exact decide_eq_false he
        clear he HU HF HY
        go_wp2
        go_roundw
        case rel => exact ⟨k + 1, by omega, by go_num, HU', hB⟩
        case measure => simp [intOf]; omega
    · obtain rfl : F = -1 := by
        rw [← HF.out]
        refine findI_none fun y hy => HU.out y ?_
        rw [List.take_of_length_le (by omega)]
        exact hy
      clear HU HF
      go_wp2
      go_ret
      exact ⟨rfl, hX⟩
theorem refSnap_any (x : MSet) (p : ByteArray) (w : World) (hx : SlGood w MSnap.cells (MSnap.Good w) 96 x.snaps_) :
    Calls Tryz.prog 25 #[.agg x.cells.toArray, .string p] w fun e w' => e = .returned (.int .i64 (snapM x p)) ∧ Below w.heap.size w w' := by
  obtain ⟨xp, xo, xb, ⟨A, l, c⟩, xw⟩ := x
  have hr := hx.rd
  have hlen := hx.len
  dsimp only at hr hlen
  obtain ⟨F, hF⟩ : ∃ F, snapM ⟨xp, xo, xb, ⟨A, l, c⟩, xw⟩ p = F := ⟨_, rfl⟩
  rw [hF]
  have HF : Hid (findI (fun z : MSnap => decide (z.name_ = p)) l = F) := Lib.hid hF
  obtain ⟨w1, hw1⟩ : ∃ w1, w.alloc (.cells #[.string xp, .string xo, .slice xb.A xb.l.length xb.c, .slice A l.length c, .slice xw.A xw.l.length xw.c] 52) = w1 := ⟨_, rfl⟩
  have hB1 : Below w.heap.size w w1 := hw1 ▸ (Below.refl _ w).alloc (Nat.le_refl _) _
  have k1 : Blk w1 w.heap.size 52 [.string xp, .string xo, .slice xb.A xb.l.length xb.c, .slice A l.length c, .slice xw.A xw.l.length xw.c] := hw1 ▸ Blk.new w _ _
  have hr1 := hr.below hB1
  have HK1 := Lib.hid k1
  have HW1 := Lib.hid hw1
  have hs1 := hB1.size
  clear k1 hw1 hF hr hx
  go_enter Tryz.func25, Tryz.ntmps25
  go_upto_region 1 with fail
  rw [HW1.out]
  go_wp2
  go_loopw [5] (fun i W => ∃ k : Nat, k ≤ l.length ∧ i = .int .i64 k ∧ Hid (∀ y ∈ l.take k, decide (y.name_ = p) = false) ∧ Below w1.heap.size w1 W) (fun i _ => l.length - (intOf i).toNat)
  case atStart => exact ⟨0, Nat.zero_le _, rfl, Lib.hid (by simp), Below.refl _ _⟩
  case round =>
    obtain ⟨k, hk, rfl, HU, hB⟩ := hrel
    have z3 := (HK1.out.below hB HK1.out.lt).cell 3
    simp only [gZa, gZb] at z3
    have hX := hB1.trans (hB.mono hs1)
    by_cases hlt : k < l.length
    · obtain ⟨y, hy⟩ : ∃ y, l[k]? = some y := ⟨l[k], qZa hlt⟩
      obtain ⟨b, off, rfl, hb, hc⟩ := Rd.elem (n := 5) (fun _ => rfl) (by omega) (hr1.below hB) hy
      have c0 : wr.cell? ⟨b, off + k * 5, none⟩ = some (.string y.name_) := hc 0 _ rfl
      have HY := Lib.hid hy
      clear hc hy
      by_cases he : y.name_ = p
      · have hd : (y.name_.toList == p.toList) = true := by rw [beqS]; exact decide_eq_true he
        obtain rfl : F = k := by rw [← HF.out]; exact findI_some HY.out (decide_eq_true he) HU.out
        clear he HU HF HY
        go_wp2
        go_ret
        exact ⟨rfl, hX⟩
      · have hd : (y.name_.toList == p.toList) = false := by rw [beqS]; exact decide_eq_false he
        have HU' : Hid (∀ y ∈ l.take (k + 1), decide (y.name_ = p) = false) := Lib.hid fun z hz => by
          rw [List.take_add_one, HY.out] at hz
          rcases List.mem_append.1 hz with h | h
          · exact HU.out z h
          · simp at h
            subst h
            exact decide_eq_false he
        clear he HU HF HY
        go_wp2
        go_roundw
        case rel => exact ⟨k + 1, by omega, by go_num, HU', hB⟩
        case measure => simp [intOf]; omega
    · obtain rfl : F = -1 := by
        rw [← HF.out]
        refine findI_none fun y hy => HU.out y ?_
        rw [List.take_of_length_le (by omega)]
        exact hy
      clear HU HF
      go_wp2
      go_ret
      exact ⟨rfl, hX⟩
theorem nameQ2 (s : ByteArray) (hs : s.size ≤ 140737488355328) (w : World) (n : Nat) :
    Calls Tryz.prog 66 #[.string s] (w.drewN n) fun e w' => e = .returned (.bool (isName (bs s))) ∧ w' = w.drewN n :=
  (refName_any s hs _).mono fun _ _ h => ⟨h.1, h.2.symm⟩
theorem lt_ways {x y : ByteArray} : (ltTx y x = true ∧ Op.bytesLess x.toList y.toList = false ∧ (x.toList == y.toList) = false) ∨ (ltTx y x = false ∧ (Op.bytesLess x.toList y.toList = true ∨ (Op.bytesLess x.toList y.toList = false ∧ (x.toList == y.toList) = true))) := by
  rcases h : ltTx y x with _ | _
  · refine .inr ⟨rfl, ?_⟩
    have := le_of h
    rw [Bool.not_false, Bool.or_eq_true] at this
    rcases h1 : Op.bytesLess x.toList y.toList with _ | _
    · rw [h1] at this
      exact .inr ⟨rfl, by simpa using this⟩
    · exact .inl rfl
  · have := le_of h
    rw [Bool.not_true, Bool.or_eq_false_iff] at this
    exact .inl ⟨rfl, this.1, this.2⟩
theorem refTagsD (A : Option Addr) (c n : Nat) (l : List ByteArray) (hn : l.length = n) (hl : n ≤ 8796093022208) (hf : ∀ s ∈ l, s.size ≤ 140737488351232) (w : World) (hr : Rd w A (l.map Value.string)) :
    Calls Tryz.prog 165 #[.slice A n c] w fun e w' => e = .returned (.bool (tagsB l)) ∧ Dr w w' := by
  subst hn
  obtain ⟨R, hR⟩ : ∃ R, tagsB l = R := ⟨_, rfl⟩
  have HR : Hid (R = (goodL (fun s => isName (bs s)) ltTx l && decide (l.length ≤ 4))) := Lib.hid hR.symm
  have H9 : Hid (goodL (fun s => isName (bs s)) ltTx l = false → R = false) := Lib.hid fun h => by rw [HR.out, h]; rfl
  rw [hR]
  clear hR
  go_enter Tryz.func165, Tryz.ntmps165
  go_wp2
  go_loopw [3] (fun i W => ∃ k : Nat, k ≤ l.length ∧ i = .int .i64 k ∧ Hid (UpTo (fun s => isName (bs s)) ltTx l k) ∧ Dr w W) (fun i _ => l.length - (intOf i).toNat)
  case atStart => exact ⟨0, Nat.zero_le _, rfl, Lib.hid upTo_zero, Dr.refl _⟩
  case round =>
    obtain ⟨k, hk, rfl, HU, hB⟩ := hrel
    by_cases hlt : k < l.length
    · obtain ⟨x, hx⟩ : ∃ x, l[k]? = some x := ⟨l[k], qZa hlt⟩
      have hrw := hr.below hB.below
      obtain ⟨b, off, rfl, hb, hc⟩ := rdT_at hrw hx
      have HN := Lib.hid (nameQ2 x (by have := hf x (List.mem_of_getElem? hx); omega) wr)
      have HX := Lib.hid hx
      clear hx
      rcases g1 : isName (bs x) with _ | _
      · obtain rfl : R = false := H9.out (goodL_bad HX.out g1)
        rw [g1] at HN
        clear g1 HU hrw H9 HR
        go_wp2_with fail
        go_big_quiet ((go_at_call 66; with_reducible exact Calls.quiet_of_same (HN.out _)))
        go_wp2
        go_ret
        exact ⟨rfl, hB.trans (Dr.drewN _ _)⟩
      · rw [g1] at HN
        have hway : (Hid (k = 0) ∧ decide (0 < k) = false) ∨ ∃ (i : Nat) (y : ByteArray), decide (0 < k) = true ∧ IntKind.i64.wrap ((k : Int) - 1) = (i : Int) ∧ i < l.length ∧ Hid (k = i + 1) ∧ Hid (l[i]? = some y) := by
          rcases k with _ | j
          · exact .inl ⟨Lib.hid rfl, rfl⟩
          · obtain ⟨y, hy⟩ : ∃ y, l[j]? = some y := ⟨l[j]'(by omega), qZa (by omega)⟩
            exact .inr ⟨j, y, decide_eq_true (by omega), by rw [show (((j + 1 : Nat) : Int) - 1) = (j : Int) by omega]; exact IntWalk.i64_in _ (by omega), by omega, Lib.hid rfl, Lib.hid hy⟩
        rcases hway with ⟨HK0, hj0⟩ | ⟨i, y, hj0, hw, hi, HKI, HY⟩
        · have HU' : Hid (UpTo (fun s => isName (bs s)) ltTx l (k + 1)) := Lib.hid (upTo_succ HU.out HX.out g1 fun j y h => by have := HK0.out; omega)
          clear g1 HU hrw H9 HR
          go_wp2_with fail
          go_big_quiet ((go_at_call 66; with_reducible exact Calls.quiet_of_same (HN.out _)))
          go_wp2
          go_roundw
          case rel => exact ⟨k + 1, by omega, by go_num, HU', hB.trans (Dr.drewN _ _)⟩
          case measure => simp [intOf]; omega
        · obtain ⟨b', off', e', _, hd⟩ := rdT_at hrw HY.out
          injection e' with e'
          injection e' with e1 e2 _
          subst e1 e2
          rcases lt_ways (x := x) (y := y) with ⟨hv, h1, h2⟩ | ⟨hv, hor⟩
          · have HU' : Hid (UpTo (fun s => isName (bs s)) ltTx l (k + 1)) := Lib.hid (upTo_succ HU.out HX.out g1 fun j z h hz => by
              obtain rfl : j = i := by have := HKI.out; omega
              rw [HY.out] at hz
              injection hz with hz
              subst hz
              exact hv)
            clear g1 HU hrw H9 HR hv HX HY
            go_wp2_with fail
            go_big_quiet ((go_at_call 66; with_reducible exact Calls.quiet_of_same (HN.out _)))
            go_wp2
            go_roundw
            case rel => exact ⟨k + 1, by omega, by go_num, HU', hB.trans (Dr.drewN _ _)⟩
            case measure => simp [intOf]; omega
          · obtain rfl : R = false := H9.out (goodL_low HY.out (by rw [← HKI.out]; exact HX.out) hv)
            clear g1 HU hrw H9 HR hv HX HY
            rcases hor with h1 | ⟨h1, h2⟩
            all_goals
              go_wp2_with fail
              go_big_quiet ((go_at_call 66; with_reducible exact Calls.quiet_of_same (HN.out _)))
              go_wp2
              go_ret
              exact ⟨rfl, hB.trans (Dr.drewN _ _)⟩
    · have hgl := upTo_end HU.out (by omega)
      have HRR : Hid (R = decide (l.length ≤ 4)) := Lib.hid (by rw [HR.out, hgl, Bool.true_and])
      clear hgl HU HR H9
      by_cases h4 : l.length ≤ 4
      · obtain rfl : R = true := by rw [HRR.out, decide_eq_true h4]
        have hq : (l.length : Int) ≤ 4 := by omega
        go_wp2
        go_ret
        exact ⟨rfl, hB⟩
      · obtain rfl : R = false := by rw [HRR.out, decide_eq_false h4]
        have hq : ¬ (l.length : Int) ≤ 4 := by omega
        go_wp2
        go_ret
        exact ⟨rfl, hB⟩
theorem amountQ (m n : Int) (w : World) (k : Nat) :
    Calls Tryz.prog 68 #[.int .i64 n, .int .i64 m] (w.drewN k) fun e w' => e = .returned (.bool (amt m n)) ∧ w' = w.drewN k :=
  (amount_any m n _).mono fun _ _ h => ⟨h.1, h.2.symm⟩
theorem nodup_of {l : List MSnap} (h : ∀ i z, i < l.length → l[i]? = some z → ∀ j y, j < i → l[j]? = some y → y.name_ ≠ z.name_) : (l.map MSnap.name_).Nodup := by
  unfold List.Nodup
  rw [List.pairwise_iff_getElem]
  intro i j hi hj hij e
  rw [List.length_map] at hi hj
  rw [List.getElem_map, List.getElem_map] at e
  exact h j _ hj (qZa hj) i _ hij (qZa hi) e
set_option maxHeartbeats 4000000 in
theorem refSnaps_any (A : Option Addr) (c n : Nat) (l : List MSnap) (hn : l.length = n) (hl : n ≤ 4398046511104) (w : World) (hg : ∀ x ∈ l, x.Good w) (hr : Rd w A (l.flatMap MSnap.cells)) :
    Calls Tryz.prog 125 #[.slice A n c] w fun e w' => e = .returned (.bool (snapsB (l.map MSnap.plain))) ∧ Below w.heap.size w w' := by
  subst hn
  obtain ⟨R, hR⟩ : ∃ R, snapsB (l.map MSnap.plain) = R := ⟨_, rfl⟩
  have HR : Hid (R = (decide (l.length ≤ 16) && (goodL (fun x : MSnap => snapB x.plain) (fun a b => decide (a.guid_ < b.guid_)) l && decide ((l.map MSnap.name_).Nodup)))) := Lib.hid (by
    rw [← hR, snapsM]
    unfold goodL
    simp only [Bool.and_assoc])
  have H9 : Hid (goodL (fun x : MSnap => snapB x.plain) (fun a b => decide (a.guid_ < b.guid_)) l = false → R = false) := Lib.hid fun h => by rw [HR.out, h, Bool.false_and, Bool.and_false]
  have HND : Hid (¬ (l.map MSnap.name_).Nodup → R = false) := Lib.hid fun h => by rw [HR.out, decide_eq_false h, Bool.and_false, Bool.and_false]
  have HG := Lib.hid hg
  rw [hR]
  clear hR hg
  go_enter Tryz.func125, Tryz.ntmps125
  go_wp2
  go_loopw [3] (fun i W => ∃ k : Nat, k ≤ l.length ∧ i = .int .i64 k ∧ Hid (UpTo (fun x : MSnap => snapB x.plain) (fun a b => decide (a.guid_ < b.guid_)) l k) ∧ Hid (∀ i z, i < k → l[i]? = some z → ∀ j y, j < i → l[j]? = some y → y.name_ ≠ z.name_) ∧ Below w.heap.size w W) (fun i _ => l.length - (intOf i).toNat)
  case atStart => exact ⟨0, Nat.zero_le _, rfl, Lib.hid upTo_zero, Lib.hid fun _ _ h => absurd h (Nat.not_lt_zero _), Below.refl _ _⟩
  case round =>
    obtain ⟨k, hk, rfl, HU, HW, hB⟩ := hrel
    by_cases hlt : k < l.length
    · obtain ⟨x, hx⟩ : ∃ x, l[k]? = some x := ⟨l[k], qZa hlt⟩
      have hrw := hr.below hB
      obtain ⟨b, off, rfl, hb, hc⟩ := Rd.elem (n := 5) (fun _ => rfl) (by omega) hrw hx
      have c0 : wr.cell? ⟨b, off + k * 5, none⟩ = some (.string x.name_) := hc 0 _ rfl
      have c1 : wr.cell? ⟨b, off + k * 5 + 1, none⟩ = some (.int .i64 x.guid_) := hc 1 _ rfl
      have c2 : wr.cell? ⟨b, off + k * 5 + 2, none⟩ = some (.slice x.body_.A x.body_.l.length x.body_.c) := hc 2 _ rfl
      have c3 : wr.cell? ⟨b, off + k * 5 + 3, none⟩ = some (.slice x.tags_.A x.tags_.l.length x.tags_.c) := hc 3 _ rfl
      have c4 : wr.cell? ⟨b, off + k * 5 + 4, none⟩ = some (.slice x.own_.A x.own_.l.length x.own_.c) := hc 4 _ rfl
      obtain ⟨w1, hw1⟩ : ∃ w1, wr.alloc (.cells #[.string x.name_, .int .i64 x.guid_, .slice x.body_.A x.body_.l.length x.body_.c, .slice x.tags_.A x.tags_.l.length x.tags_.c, .slice x.own_.A x.own_.l.length x.own_.c] 49) = w1 := ⟨_, rfl⟩
      have hB1 : Below wr.heap.size wr w1 := hw1 ▸ (Below.refl _ wr).alloc (Nat.le_refl _) _
      have k1 : Blk w1 wr.heap.size 49 x.cells := hw1 ▸ Blk.new wr _ _
      have hX1 : Below w.heap.size w w1 := hB.trans (hB1.mono hB.size)
      have q0 := k1.cell 0
      have q1 := k1.cell 1
      have q2 := k1.cell 2
      have q3 := k1.cell 3
      have q4 := k1.cell 4
      simp only [gZa, gZb] at q0 q1 q2 q3 q4
      have hgx := (HG.out x (List.mem_of_getElem? hx)).below hX1
      have HN := Lib.hid (nameQ2 x.name_ (by have := hgx.gname_; omega) w1)
      have HA := Lib.hid (amountQ 1 x.guid_ w1)
      have HT := Lib.hid (fun q => refTagsD x.tags_.A x.tags_.c x.tags_.l.length x.tags_.l rfl (by have := hgx.gtags_.len; omega) (fun s hs => hgx.gtags_.el s hs) (w1.drewN q) (tagsRd (hgx.gtags_.rd.below (belowDrewN w1 q _))))
      have HC := Lib.hid (fun q => refCheckD x.body_.A x.body_.c x.body_.l.length x.body_.l rfl (by have := hgx.gbody_.len; omega) (fun s hs => (hgx.gbody_.el s hs).1) (w1.drewN q) (hgx.gbody_.rd.below (belowDrewN w1 q _)))
      have HP := Lib.hid (fun q => refPropsD x.own_.A x.own_.c x.own_.l.length x.own_.l rfl (by have := hgx.gown_.len; omega) (fun s hs => hgx.gown_.el s hs) (w1.drewN q) (hgx.gown_.rd.below (belowDrewN w1 q _)))
      simp only [chkK] at HC
      simp only [chkP] at HP
      have HGD : Hid (snapB x.plain = (isName (bs x.name_) && (amt 1 x.guid_ && (tagsB x.tags_.l && (okK x.body_.l && okP x.own_.l))))) := Lib.hid rfl
      have HRD := Lib.hid (hrw.below hB1)
      have HX := Lib.hid hx
      have HK1 := Lib.hid k1
      have HW1 := Lib.hid hw1
      have hs1 := hB1.size
      have hway : (Hid (k = 0) ∧ decide (0 < k) = false) ∨ ∃ (i : Nat) (y : MSnap), decide (0 < k) = true ∧ IntKind.i64.wrap ((k : Int) - 1) = (i : Int) ∧ i < l.length ∧ Hid (k = i + 1) ∧ Hid (l[i]? = some y) := by
        rcases k with _ | j
        · exact .inl ⟨Lib.hid rfl, rfl⟩
        · obtain ⟨y, hy⟩ : ∃ y, l[j]? = some y := ⟨l[j]'(by omega), qZa (by omega)⟩
          exact .inr ⟨j, y, decide_eq_true (by omega), by rw [show (((j + 1 : Nat) : Int) - 1) = (j : Int) by omega]; exact IntWalk.i64_in _ (by omega), by omega, Lib.hid rfl, Lib.hid hy⟩
      clear hc hx hw1 k1 hgx
      rcases hway with ⟨HK0, hj0⟩ | ⟨i, y, hj0, hw, hi, HKI, HY⟩
      · skip
        rcases g1 : isName (bs x.name_) with _ | _
        · obtain rfl : R = false := H9.out (goodL_bad HX.out (by rw [HGD.out, g1]; simp))
          rw [g1] at HN
          clear H9 HR HU HGD g1 HX
          go_wp2_with fail
          rw [HW1.out]
          go_wp2_with fail
          go_big_quiet ((first
                    | (go_at_call 66; with_reducible exact Calls.quiet_of_same (HN.out _))
                    | (go_at_call 68; with_reducible exact Calls.quiet_of_same (HA.out _))
                    | (go_at_call 165; with_reducible exact Calls.quiet_of (HT.out _))
                    | (go_at_call 123; with_reducible exact Calls.quiet_of (HC.out _))
                    | (go_at_call 124; with_reducible exact Calls.quiet_of (HP.out _))))
          go_wp2
          go_ret
          exact ⟨rfl, hX1.trans (belowDrewN _ _ _)⟩
        rcases g2 : amt 1 x.guid_ with _ | _
        · obtain rfl : R = false := H9.out (goodL_bad HX.out (by rw [HGD.out, g1, g2]; simp))
          rw [g1] at HN
          rw [g2] at HA
          clear H9 HR HU HGD g1 g2 HX
          go_wp2_with fail
          rw [HW1.out]
          go_wp2_with fail
          go_big_quiet ((first
                    | (go_at_call 66; with_reducible exact Calls.quiet_of_same (HN.out _))
                    | (go_at_call 68; with_reducible exact Calls.quiet_of_same (HA.out _))
                    | (go_at_call 165; with_reducible exact Calls.quiet_of (HT.out _))
                    | (go_at_call 123; with_reducible exact Calls.quiet_of (HC.out _))
                    | (go_at_call 124; with_reducible exact Calls.quiet_of (HP.out _))))
          go_wp2
          go_ret
          exact ⟨rfl, hX1.trans (belowDrewN _ _ _)⟩
        rcases g3 : tagsB x.tags_.l with _ | _
        · obtain rfl : R = false := H9.out (goodL_bad HX.out (by rw [HGD.out, g1, g2, g3]; simp))
          rw [g1] at HN
          rw [g2] at HA
          rw [g3] at HT
          clear H9 HR HU HGD g1 g2 g3 HX
          go_wp2_with fail
          rw [HW1.out]
          go_wp2_with fail
          go_big_quiet ((first
                    | (go_at_call 66; with_reducible exact Calls.quiet_of_same (HN.out _))
                    | (go_at_call 68; with_reducible exact Calls.quiet_of_same (HA.out _))
                    | (go_at_call 165; with_reducible exact Calls.quiet_of (HT.out _))
                    | (go_at_call 123; with_reducible exact Calls.quiet_of (HC.out _))
                    | (go_at_call 124; with_reducible exact Calls.quiet_of (HP.out _))))
          go_wp2
          go_ret
          exact ⟨rfl, hX1.trans (belowDrewN _ _ _)⟩
        rcases g4 : okK x.body_.l with _ | _
        · obtain rfl : R = false := H9.out (goodL_bad HX.out (by rw [HGD.out, g1, g2, g3, g4]; simp))
          rw [g1] at HN
          rw [g2] at HA
          rw [g3] at HT
          rw [g4] at HC
          clear H9 HR HU HGD g1 g2 g3 g4 HX
          go_wp2_with fail
          rw [HW1.out]
          go_wp2_with fail
          go_big_quiet ((first
                    | (go_at_call 66; with_reducible exact Calls.quiet_of_same (HN.out _))
                    | (go_at_call 68; with_reducible exact Calls.quiet_of_same (HA.out _))
                    | (go_at_call 165; with_reducible exact Calls.quiet_of (HT.out _))
                    | (go_at_call 123; with_reducible exact Calls.quiet_of (HC.out _))
                    | (go_at_call 124; with_reducible exact Calls.quiet_of (HP.out _))))
          go_wp2
          go_ret
          exact ⟨rfl, hX1.trans (belowDrewN _ _ _)⟩
        rcases g5 : okP x.own_.l with _ | _
        · obtain rfl : R = false := H9.out (goodL_bad HX.out (by rw [HGD.out, g1, g2, g3, g4, g5]; simp))
          rw [g1] at HN
          rw [g2] at HA
          rw [g3] at HT
          rw [g4] at HC
          rw [g5] at HP
          clear H9 HR HU HGD g1 g2 g3 g4 g5 HX
          go_wp2_with fail
          rw [HW1.out]
          go_wp2_with fail
          go_big_quiet ((first
                    | (go_at_call 66; with_reducible exact Calls.quiet_of_same (HN.out _))
                    | (go_at_call 68; with_reducible exact Calls.quiet_of_same (HA.out _))
                    | (go_at_call 165; with_reducible exact Calls.quiet_of (HT.out _))
                    | (go_at_call 123; with_reducible exact Calls.quiet_of (HC.out _))
                    | (go_at_call 124; with_reducible exact Calls.quiet_of (HP.out _))))
          go_wp2
          go_ret
          exact ⟨rfl, hX1.trans (belowDrewN _ _ _)⟩
        have hgd : snapB x.plain = true := by rw [HGD.out, g1, g2, g3, g4, g5]; rfl
        have HGG := Lib.hid hgd
        rw [g1] at HN
        rw [g2] at HA
        rw [g3] at HT
        rw [g4] at HC
        rw [g5] at HP
        clear HGD hgd g1 g2 g3 g4 g5
        have HU' : Hid (UpTo (fun x : MSnap => snapB x.plain) (fun a b => decide (a.guid_ < b.guid_)) l (k + 1)) := Lib.hid (upTo_succ HU.out HX.out HGG.out fun j y h => by have := HK0.out; omega)
        go_wp2_with fail
        rw [HW1.out]
        go_wp2_with fail
        go_big_quiet ((first
                  | (go_at_call 66; with_reducible exact Calls.quiet_of_same (HN.out _))
                  | (go_at_call 68; with_reducible exact Calls.quiet_of_same (HA.out _))
                  | (go_at_call 165; with_reducible exact Calls.quiet_of (HT.out _))
                  | (go_at_call 123; with_reducible exact Calls.quiet_of (HC.out _))
                  | (go_at_call 124; with_reducible exact Calls.quiet_of (HP.out _))))
        go_wp2
        go_loopw [5] (fun i W => ∃ m : Nat, m ≤ k ∧ i = .int .i64 m ∧ Hid (∀ j z, j < m → l[j]? = some z → z.name_ ≠ x.name_) ∧ Below w1.heap.size w1 W) (fun i _ => k - (intOf i).toNat)
        case atStart => exact ⟨0, Nat.zero_le _, rfl, Lib.hid fun _ _ h => absurd h (Nat.not_lt_zero _), belowDrewN _ _ _⟩
        case round =>
          obtain ⟨m, hm, rfl, HV, hB3⟩ := hrel
          by_cases hmt : m < k
          · have hml : m < l.length := by omega
            obtain ⟨z, hz⟩ : ∃ z, l[m]? = some z := ⟨l[m], qZa hml⟩
            obtain ⟨b', off', e', _, hd⟩ := Rd.elem (n := 5) (fun _ => rfl) (by omega) (HRD.out.below hB3) hz
            injection e' with e'
            injection e' with e1 e2 _
            subst e1 e2
            have d0 := hd 0 _ rfl
            simp only [Nat.add_zero] at d0
            have q0' := (HK1.out.below hB3 HK1.out.lt).cell 0
            simp only [List.getElem?_cons_zero] at q0'
            have HZ := Lib.hid hz
            clear hd hz
            by_cases he : z.name_ = x.name_
            · have hdd : (z.name_.toList == x.name_.toList) = true := by rw [beqS]; exact decide_eq_true he
              obtain rfl : R = false := HND.out (by
                intro hn
                have h1 := (nodup_found.1 hn) k x HX.out
                have h2 := (nodup_found.1 hn) m z HZ.out
                rw [he, h1] at h2
                omega)
              clear HV HZ he HND HU' HU HX HGG
              go_wp2_with fail
              go_quiet (fail)
              go_wp2
              go_ret
              exact ⟨rfl, (hX1.trans (hB3.mono hX1.size)).trans (belowDrewN _ _ _)⟩
            · have hdd : (z.name_.toList == x.name_.toList) = false := by rw [beqS]; exact decide_eq_false he
              have HV' : Hid (∀ j z, j < m + 1 → l[j]? = some z → z.name_ ≠ x.name_) := Lib.hid fun j z' h1 h2 => by
                by_cases e : j = m
                · subst e
                  rw [HZ.out] at h2
                  injection h2 with h2
                  subst h2
                  exact he
                · exact HV.out j z' (by omega) h2
              clear HV HZ he
              go_wp2_with fail
              go_quiet (fail)
              go_wp2
              go_roundw
              case rel => exact ⟨m + 1, by omega, by go_num, HV', hB3.trans (belowDrewN _ _ _)⟩
              case measure => simp [intOf]; omega
          · obtain rfl : m = k := by omega
            have HW' : Hid (∀ i z, i < m + 1 → l[i]? = some z → ∀ j y, j < i → l[j]? = some y → y.name_ ≠ z.name_) := Lib.hid fun i z h1 h2 j y h3 h4 => by
              by_cases e : i = m
              · subst e
                rw [HX.out] at h2
                injection h2 with h2
                subst h2
                exact HV.out j y h3 h4
              · exact HW.out i z (by omega) h2 j y h3 h4
            clear HV HU HW HX HGG
            go_wp2
            go_roundw
            case rel => exact ⟨m + 1, by omega, by go_num, HU', HW', hX1.trans (hB3.mono hX1.size)⟩
            case measure => simp [intOf]; omega
      · obtain ⟨b', off', e', _, hd⟩ := Rd.elem (n := 5) (fun _ => rfl) (by omega) hrw HY.out
        injection e' with e'
        injection e' with e1 e2 _
        subst e1 e2
        have hbl : b < wr.heap.size := hb
        have d1 : w1.cell? ⟨b, off + i * 5 + 1, none⟩ = some (.int .i64 y.guid_) := (hB1.cell (p := ⟨b, off + i * 5 + 1, none⟩) hbl).trans (hd 1 _ rfl)
        clear hd
        rcases g1 : isName (bs x.name_) with _ | _
        · obtain rfl : R = false := H9.out (goodL_bad HX.out (by rw [HGD.out, g1]; simp))
          rw [g1] at HN
          clear H9 HR HU HGD g1 HX HY
          go_wp2_with fail
          rw [HW1.out]
          go_wp2_with fail
          go_big_quiet ((first
                    | (go_at_call 66; with_reducible exact Calls.quiet_of_same (HN.out _))
                    | (go_at_call 68; with_reducible exact Calls.quiet_of_same (HA.out _))
                    | (go_at_call 165; with_reducible exact Calls.quiet_of (HT.out _))
                    | (go_at_call 123; with_reducible exact Calls.quiet_of (HC.out _))
                    | (go_at_call 124; with_reducible exact Calls.quiet_of (HP.out _))))
          go_wp2
          go_ret
          exact ⟨rfl, hX1.trans (belowDrewN _ _ _)⟩
        rcases g2 : amt 1 x.guid_ with _ | _
        · obtain rfl : R = false := H9.out (goodL_bad HX.out (by rw [HGD.out, g1, g2]; simp))
          rw [g1] at HN
          rw [g2] at HA
          clear H9 HR HU HGD g1 g2 HX HY
          go_wp2_with fail
          rw [HW1.out]
          go_wp2_with fail
          go_big_quiet ((first
                    | (go_at_call 66; with_reducible exact Calls.quiet_of_same (HN.out _))
                    | (go_at_call 68; with_reducible exact Calls.quiet_of_same (HA.out _))
                    | (go_at_call 165; with_reducible exact Calls.quiet_of (HT.out _))
                    | (go_at_call 123; with_reducible exact Calls.quiet_of (HC.out _))
                    | (go_at_call 124; with_reducible exact Calls.quiet_of (HP.out _))))
          go_wp2
          go_ret
          exact ⟨rfl, hX1.trans (belowDrewN _ _ _)⟩
        rcases Int.lt_or_le y.guid_ x.guid_ with hgl | hgl
        rotate_left
        · obtain rfl : R = false := H9.out (goodL_low HY.out (by rw [← HKI.out]; exact HX.out) (decide_eq_false (by omega)))
          have hgn : decide (x.guid_ ≤ y.guid_) = true := decide_eq_true hgl
          rw [g1] at HN
          rw [g2] at HA
          clear H9 HR HU g1 g2 HX HY
          go_wp2_with fail
          rw [HW1.out]
          go_wp2_with fail
          go_big_quiet ((first
                    | (go_at_call 66; with_reducible exact Calls.quiet_of_same (HN.out _))
                    | (go_at_call 68; with_reducible exact Calls.quiet_of_same (HA.out _))
                    | (go_at_call 165; with_reducible exact Calls.quiet_of (HT.out _))
                    | (go_at_call 123; with_reducible exact Calls.quiet_of (HC.out _))
                    | (go_at_call 124; with_reducible exact Calls.quiet_of (HP.out _))))
          go_wp2
          go_ret
          exact ⟨rfl, hX1.trans (belowDrewN _ _ _)⟩
        have hgn : decide (x.guid_ ≤ y.guid_) = false := decide_eq_false (by omega)
        rcases g3 : tagsB x.tags_.l with _ | _
        · obtain rfl : R = false := H9.out (goodL_bad HX.out (by rw [HGD.out, g1, g2, g3]; simp))
          rw [g1] at HN
          rw [g2] at HA
          rw [g3] at HT
          clear H9 HR HU HGD g1 g2 g3 HX HY
          go_wp2_with fail
          rw [HW1.out]
          go_wp2_with fail
          go_big_quiet ((first
                    | (go_at_call 66; with_reducible exact Calls.quiet_of_same (HN.out _))
                    | (go_at_call 68; with_reducible exact Calls.quiet_of_same (HA.out _))
                    | (go_at_call 165; with_reducible exact Calls.quiet_of (HT.out _))
                    | (go_at_call 123; with_reducible exact Calls.quiet_of (HC.out _))
                    | (go_at_call 124; with_reducible exact Calls.quiet_of (HP.out _))))
          go_wp2
          go_ret
          exact ⟨rfl, hX1.trans (belowDrewN _ _ _)⟩
        rcases g4 : okK x.body_.l with _ | _
        · obtain rfl : R = false := H9.out (goodL_bad HX.out (by rw [HGD.out, g1, g2, g3, g4]; simp))
          rw [g1] at HN
          rw [g2] at HA
          rw [g3] at HT
          rw [g4] at HC
          clear H9 HR HU HGD g1 g2 g3 g4 HX HY
          go_wp2_with fail
          rw [HW1.out]
          go_wp2_with fail
          go_big_quiet ((first
                    | (go_at_call 66; with_reducible exact Calls.quiet_of_same (HN.out _))
                    | (go_at_call 68; with_reducible exact Calls.quiet_of_same (HA.out _))
                    | (go_at_call 165; with_reducible exact Calls.quiet_of (HT.out _))
                    | (go_at_call 123; with_reducible exact Calls.quiet_of (HC.out _))
                    | (go_at_call 124; with_reducible exact Calls.quiet_of (HP.out _))))
          go_wp2
          go_ret
          exact ⟨rfl, hX1.trans (belowDrewN _ _ _)⟩
        rcases g5 : okP x.own_.l with _ | _
        · obtain rfl : R = false := H9.out (goodL_bad HX.out (by rw [HGD.out, g1, g2, g3, g4, g5]; simp))
          rw [g1] at HN
          rw [g2] at HA
          rw [g3] at HT
          rw [g4] at HC
          rw [g5] at HP
          clear H9 HR HU HGD g1 g2 g3 g4 g5 HX HY
          go_wp2_with fail
          rw [HW1.out]
          go_wp2_with fail
          go_big_quiet ((first
                    | (go_at_call 66; with_reducible exact Calls.quiet_of_same (HN.out _))
                    | (go_at_call 68; with_reducible exact Calls.quiet_of_same (HA.out _))
                    | (go_at_call 165; with_reducible exact Calls.quiet_of (HT.out _))
                    | (go_at_call 123; with_reducible exact Calls.quiet_of (HC.out _))
                    | (go_at_call 124; with_reducible exact Calls.quiet_of (HP.out _))))
          go_wp2
          go_ret
          exact ⟨rfl, hX1.trans (belowDrewN _ _ _)⟩
        have hgd : snapB x.plain = true := by rw [HGD.out, g1, g2, g3, g4, g5]; rfl
        have HGG := Lib.hid hgd
        rw [g1] at HN
        rw [g2] at HA
        rw [g3] at HT
        rw [g4] at HC
        rw [g5] at HP
        clear HGD hgd g1 g2 g3 g4 g5
        have HU' : Hid (UpTo (fun x : MSnap => snapB x.plain) (fun a b => decide (a.guid_ < b.guid_)) l (k + 1)) := Lib.hid (upTo_succ HU.out HX.out HGG.out fun j z h hz => by
          obtain rfl : j = i := by have := HKI.out; omega
          rw [HY.out] at hz
          injection hz with hz
          subst hz
          exact decide_eq_true hgl)
        clear hgl HY
        go_wp2_with fail
        rw [HW1.out]
        go_wp2_with fail
        go_big_quiet ((first
                  | (go_at_call 66; with_reducible exact Calls.quiet_of_same (HN.out _))
                  | (go_at_call 68; with_reducible exact Calls.quiet_of_same (HA.out _))
                  | (go_at_call 165; with_reducible exact Calls.quiet_of (HT.out _))
                  | (go_at_call 123; with_reducible exact Calls.quiet_of (HC.out _))
                  | (go_at_call 124; with_reducible exact Calls.quiet_of (HP.out _))))
        go_wp2
        go_loopw [5] (fun i W => ∃ m : Nat, m ≤ k ∧ i = .int .i64 m ∧ Hid (∀ j z, j < m → l[j]? = some z → z.name_ ≠ x.name_) ∧ Below w1.heap.size w1 W) (fun i _ => k - (intOf i).toNat)
        case atStart => exact ⟨0, Nat.zero_le _, rfl, Lib.hid fun _ _ h => absurd h (Nat.not_lt_zero _), belowDrewN _ _ _⟩
        case round =>
          obtain ⟨m, hm, rfl, HV, hB3⟩ := hrel
          by_cases hmt : m < k
          · have hml : m < l.length := by omega
            obtain ⟨z, hz⟩ : ∃ z, l[m]? = some z := ⟨l[m], qZa hml⟩
            obtain ⟨b', off', e', _, hd⟩ := Rd.elem (n := 5) (fun _ => rfl) (by omega) (HRD.out.below hB3) hz
            injection e' with e'
            injection e' with e1 e2 _
            subst e1 e2
            have d0 := hd 0 _ rfl
            simp only [Nat.add_zero] at d0
            have q0' := (HK1.out.below hB3 HK1.out.lt).cell 0
            simp only [List.getElem?_cons_zero] at q0'
            have HZ := Lib.hid hz
            clear hd hz
            by_cases he : z.name_ = x.name_
            · have hdd : (z.name_.toList == x.name_.toList) = true := by rw [beqS]; exact decide_eq_true he
              obtain rfl : R = false := HND.out (by
                intro hn
                have h1 := (nodup_found.1 hn) k x HX.out
                have h2 := (nodup_found.1 hn) m z HZ.out
                rw [he, h1] at h2
                omega)
              clear HV HZ he HND HU' HU HX HGG
              go_wp2_with fail
              go_quiet (fail)
              go_wp2
              go_ret
              exact ⟨rfl, (hX1.trans (hB3.mono hX1.size)).trans (belowDrewN _ _ _)⟩
            · have hdd : (z.name_.toList == x.name_.toList) = false := by rw [beqS]; exact decide_eq_false he
              have HV' : Hid (∀ j z, j < m + 1 → l[j]? = some z → z.name_ ≠ x.name_) := Lib.hid fun j z' h1 h2 => by
                by_cases e : j = m
                · subst e
                  rw [HZ.out] at h2
                  injection h2 with h2
                  subst h2
                  exact he
                · exact HV.out j z' (by omega) h2
              clear HV HZ he
              go_wp2_with fail
              go_quiet (fail)
              go_wp2
              go_roundw
              case rel => exact ⟨m + 1, by omega, by go_num, HV', hB3.trans (belowDrewN _ _ _)⟩
              case measure => simp [intOf]; omega
          · obtain rfl : m = k := by omega
            have HW' : Hid (∀ i z, i < m + 1 → l[i]? = some z → ∀ j y, j < i → l[j]? = some y → y.name_ ≠ z.name_) := Lib.hid fun i z h1 h2 j y h3 h4 => by
              by_cases e : i = m
              · subst e
                rw [HX.out] at h2
                injection h2 with h2
                subst h2
                exact HV.out j y h3 h4
              · exact HW.out i z (by omega) h2 j y h3 h4
            clear HV HU HW HX HGG
            go_wp2
            go_roundw
            case rel => exact ⟨m + 1, by omega, by go_num, HU', HW', hX1.trans (hB3.mono hX1.size)⟩
            case measure => simp [intOf]; omega
    · have hgl := upTo_end HU.out (by omega)
      have hnd : (l.map MSnap.name_).Nodup := nodup_of fun i z hi => HW.out i z (by omega)
      have HRR : Hid (R = decide (l.length ≤ 16)) := Lib.hid (by rw [HR.out, hgl, decide_eq_true hnd, Bool.true_and, Bool.and_true])
      clear hgl HU HR H9 HND hnd HW
      by_cases h4 : l.length ≤ 16
      · obtain rfl : R = true := by rw [HRR.out, decide_eq_true h4]
        have hq : (l.length : Int) ≤ 16 := by omega
        go_wp2
        go_ret
        exact ⟨rfl, hB⟩
      · obtain rfl : R = false := by rw [HRR.out, decide_eq_false h4]
        have hq : ¬ (l.length : Int) ≤ 16 := by omega
        go_wp2
        go_ret
        exact ⟨rfl, hB⟩
theorem setB_up (t : PTenant) (s : PSet) : setB t s = (upB t s.path_ && (okK s.body_ && (okP s.own_ && (snapsB s.snaps_ && origB t s)))) := rfl
set_option maxHeartbeats 4000000 in
theorem refTSet_any (x : MTenant) (s : MSet) (hz1 : s.path_.size ≤ 4398046511104) (hz2 : s.origin_.size ≤ 4398046511104) (w : World) (hx : x.Good w) (hg : s.Good w) :
    Calls Tryz.prog 70 #[.agg x.cells.toArray, .agg s.cells.toArray] w fun e w' => e = .returned (.bool (setB x.plain s.plain)) ∧ Below w.heap.size w w' := by
  obtain ⟨w1, hw1⟩ : ∃ w1, w.alloc (.cells #[.string x.name_, .int .i64 x.quota_, .int .i64 x.next_, .slice x.sets_.A x.sets_.l.length x.sets_.c, .slice x.grants_.A x.grants_.l.length x.grants_.c, .slice x.stages_.A x.stages_.l.length x.stages_.c, .slice x.log_.A x.log_.l.length x.log_.c] 27) = w1 := ⟨_, rfl⟩
  have hB1 : Below w.heap.size w w1 := hw1 ▸ (Below.refl _ w).alloc (Nat.le_refl _) _
  have k1 : Blk w1 w.heap.size 27 x.cells := hw1 ▸ Blk.new w _ _
  obtain ⟨w2, hw2⟩ : ∃ w2, w1.alloc (.cells #[.string s.path_, .string s.origin_, .slice s.body_.A s.body_.l.length s.body_.c, .slice s.snaps_.A s.snaps_.l.length s.snaps_.c, .slice s.own_.A s.own_.l.length s.own_.c] 52) = w2 := ⟨_, rfl⟩
  have hB2 : Below w1.heap.size w1 w2 := hw2 ▸ (Below.refl _ w1).alloc (Nat.le_refl _) _
  have k2 : Blk w2 w1.heap.size 52 s.cells := hw2 ▸ Blk.new w1 _ _
  have k1 : Blk w2 w.heap.size 27 x.cells := k1.below hB2 k1.lt
  have hA : Below w.heap.size w w2 := hB1.trans (hB2.mono hB1.size)
  have HG : Hid (∀ W, Below w2.heap.size w2 W → x.Good W) := Lib.hid fun W hW => hx.below (hA.trans (hW.mono hA.size))
  have HGS : Hid (∀ W, Below w2.heap.size w2 W → s.Good W) := Lib.hid fun W hW => hg.below (hA.trans (hW.mono hA.size))
  have HF : Hid (∀ W, Below w2.heap.size w2 W → ∀ q, Calls Tryz.prog 24 #[.agg #[.string x.name_, .int .i64 x.quota_, .int .i64 x.next_, .slice x.sets_.A x.sets_.l.length x.sets_.c, .slice x.grants_.A x.grants_.l.length x.grants_.c, .slice x.stages_.A x.stages_.l.length x.stages_.c, .slice x.log_.A x.log_.l.length x.log_.c], .string q] W fun e w' => e = .returned (.int .i64 (findM x q)) ∧ Below W.heap.size W w') := Lib.hid fun W hW q => refFind_any x q W (HG.out W hW)
  have HPA : Hid (∀ W, Below w2.heap.size w2 W → Calls Tryz.prog 118 #[.string s.path_] W fun e w' => e = .returned (parV s.path_) ∧ Below W.heap.size W w') := Lib.hid fun W hW => refParent_any s.path_ hz1 W
  have HPT : Hid (∀ W, Below w2.heap.size w2 W → Calls Tryz.prog 61 #[.string s.path_] W fun e w' => e = .returned (.bool (isPath (bs s.path_))) ∧ Below W.heap.size W w') := Lib.hid fun W hW => refPath_any s.path_ hz1 W
  have HO : Hid (∀ W, Below w2.heap.size w2 W → Calls Tryz.prog 38 #[.string s.origin_] W fun e w' => e = .returned (splV s.origin_) ∧ Below W.heap.size W w') := Lib.hid fun W hW => refSplit_any s.origin_ hz2 W
  have HC : Hid (∀ W, Below w2.heap.size w2 W → Calls Tryz.prog 123 #[.slice s.body_.A s.body_.l.length s.body_.c] W fun e w' => e = .returned (.int .i64 (if okK s.body_.l = true then 0 else 9)) ∧ Below W.heap.size W w') := Lib.hid fun W hW => refBkS s.body_ W (HGS.out W hW).gbody_
  have HP : Hid (∀ W, Below w2.heap.size w2 W → Calls Tryz.prog 124 #[.slice s.own_.A s.own_.l.length s.own_.c] W fun e w' => e = .returned (.int .i64 (if okP s.own_.l = true then 0 else 9)) ∧ Below W.heap.size W w') := Lib.hid fun W hW => refPrS s.own_ W (HGS.out W hW).gown_
  have HS : Hid (∀ W, Below w2.heap.size w2 W → Calls Tryz.prog 125 #[.slice s.snaps_.A s.snaps_.l.length s.snaps_.c] W fun e w' => e = .returned (.bool (snapsB (s.snaps_.l.map MSnap.plain))) ∧ Below W.heap.size W w') := Lib.hid fun W hW => refSnaps_any s.snaps_.A s.snaps_.c s.snaps_.l.length s.snaps_.l rfl (by have := (HGS.out W hW).gsnaps_.len; omega) W (HGS.out W hW).gsnaps_.el (HGS.out W hW).gsnaps_.rd
  have hX : w.heap.size + 1 = w1.heap.size := by rw [← hw1, World.size_alloc]
  have y0 := k2.cell 0
  simp only [List.getElem?_cons_zero] at y0
  have HK1 := Lib.hid k1
  have HK2 := Lib.hid k2
  have HW1 := Lib.hid hw1
  have HW2 := Lib.hid hw2
  have hs2 := hA.size
  have hT0 : Below w2.heap.size w2 w2 := Below.refl _ _
  have hSB := setB_up x.plain s.plain
  obtain ⟨R, hR⟩ : ∃ R, setB x.plain s.plain = R := ⟨_, rfl⟩
  rw [hR] at hSB ⊢
  obtain ⟨b3, hb3⟩ : ∃ b, okK s.body_.l = b := ⟨_, rfl⟩
  obtain ⟨b4, hb4⟩ : ∃ b, okP s.own_.l = b := ⟨_, rfl⟩
  obtain ⟨b5, hb5⟩ : ∃ b, snapsB (s.snaps_.l.map MSnap.plain) = b := ⟨_, rfl⟩
  obtain ⟨b6, hb6⟩ : ∃ b, origB x.plain s.plain = b := ⟨_, rfl⟩
  rw [hb3] at HC
  rw [hb4] at HP
  rw [hb5] at HS
  have HSB : Hid (R = (upB x.plain s.path_ && (b3 && (b4 && (b5 && b6))))) := Lib.hid (by
    rw [hSB, hb6, show s.plain.body_ = s.body_.l from rfl, show s.plain.own_ = s.own_.l from rfl, show s.plain.snaps_ = s.snaps_.l.map MSnap.plain from rfl, hb3, hb4, hb5]
    rfl)
  have HB6 := Lib.hid hb6
  clear hSB hb3 hb4 hb5 hb6 hR k1 k2 hw1 hw2 hx hg HGS
  rcases hpt : isPath (bs s.path_) with _ | _
  · have hv : parV s.path_ = .tuple #[.string ByteArray.empty, .bool false] := by unfold parV; rw [upP_off hpt]
    have hne : s.path_ ≠ ByteArray.empty := by
      intro h
      rw [h] at hpt
      revert hpt
      decide
    have HR : Hid (R = false) := Lib.hid (by
      rw [HSB.out, show upB x.plain s.path_ = false by unfold upB; rw [upP_off hpt]; exact decide_eq_false hne]
      rfl)
    rw [hv] at HPA
    rw [hpt] at HPT
    clear hv hpt hne HSB HF HO HC HP HS HG
    go_enter Tryz.func70, Tryz.ntmps70
    go_upto_region 1 with fail
    rw [HW1.out, HW2.out]
    go_wp2_with fail
    refine (HPA.out _ hT0).mono ?_
    rintro e v1 ⟨rfl, hV1⟩
    have hQ1 : Below w2.heap.size w2 v1 := hV1
    have y0 := (HK2.out.below hQ1 HK2.out.lt).cell 0
    simp only [gZa, gZb] at y0
    go_wp2_with fail
    refine (HPT.out _ hQ1).mono ?_
    rintro e v2 ⟨rfl, hV2⟩
    have hQ2 : Below w2.heap.size w2 v2 := hQ1.trans (hV2.mono hQ1.size)
    go_wp2
    go_ret
    exact ⟨ret_bool HR.out.symm, hA.trans (hQ2.mono hs2)⟩
  · rcases hu : upP s.path_ with _ | u
    · have hv : parV s.path_ = .tuple #[.string ByteArray.empty, .bool false] := by unfold parV; rw [hu]
      have HR : Hid (R = (b3 && (b4 && (b5 && b6)))) := Lib.hid (by
        rw [HSB.out, show upB x.plain s.path_ = true by unfold upB; rw [hu]; exact decide_eq_true ((upP_none hpt).1 hu), Bool.true_and])
      rw [hv] at HPA
      rw [hpt] at HPT
      clear hv hpt hu HSB
      go_enter Tryz.func70, Tryz.ntmps70
      go_upto_region 1 with fail
      rw [HW1.out, HW2.out]
      go_wp2_with fail
      refine (HPA.out _ hT0).mono ?_
      rintro e v1 ⟨rfl, hV1⟩
      have hQ1 : Below w2.heap.size w2 v1 := hV1
      have y0 := (HK2.out.below hQ1 HK2.out.lt).cell 0
      simp only [gZa, gZb] at y0
      go_wp2_with fail
      refine (HPT.out _ hQ1).mono ?_
      rintro e v2 ⟨rfl, hV2⟩
      have hQ2 : Below w2.heap.size w2 v2 := hQ1.trans (hV2.mono hQ1.size)
      have y2 := (HK2.out.below hQ2 HK2.out.lt).cell 2
      simp only [gZa, gZb] at y2
      go_wp2_with fail
      refine (HC.out _ hQ2).mono ?_
      rintro e v3 ⟨rfl, hV3⟩
      have hQ3 : Below w2.heap.size w2 v3 := hQ2.trans (hV3.mono hQ2.size)
      rcases b3 with _ | _
      · go_wp2
        go_ret
        exact ⟨ret_bool (by rw [HR.out]; rfl), hA.trans (hQ3.mono hs2)⟩
      have y4 := (HK2.out.below hQ3 HK2.out.lt).cell 4
      simp only [gZa, gZb] at y4
      go_wp2_with fail
      refine (HP.out _ hQ3).mono ?_
      rintro e v4 ⟨rfl, hV4⟩
      have hQ4 : Below w2.heap.size w2 v4 := hQ3.trans (hV4.mono hQ3.size)
      rcases b4 with _ | _
      · go_wp2
        go_ret
        exact ⟨ret_bool (by rw [HR.out]; rfl), hA.trans (hQ4.mono hs2)⟩
      have y3 := (HK2.out.below hQ4 HK2.out.lt).cell 3
      simp only [gZa, gZb] at y3
      go_wp2_with fail
      refine (HS.out _ hQ4).mono ?_
      rintro e v5 ⟨rfl, hV5⟩
      have hQ5 : Below w2.heap.size w2 v5 := hQ4.trans (hV5.mono hQ4.size)
      rcases b5 with _ | _
      · go_wp2
        go_ret
        exact ⟨ret_bool (by rw [HR.out]; rfl), hA.trans (hQ5.mono hs2)⟩
      have y1 := (HK2.out.below hQ5 HK2.out.lt).cell 1
      simp only [gZa, gZb] at y1
      by_cases ho : s.origin_ = ByteArray.empty
      · have he : s.origin_.toList.isEmpty = true := by rw [ho]; exact empty_isEmpty
        have hR : b6 = true := by
          rw [← HB6.out]
          unfold origB
          rw [show s.plain.origin_ = s.origin_ from rfl, ho]
          simp
        subst hR
        clear ho
        go_wp2
        go_ret
        exact ⟨ret_bool (by rw [HR.out]; rfl), hA.trans (hQ5.mono hs2)⟩
      · have he := isEmpty_no ho
        rcases hu : splitP s.origin_ with _ | ⟨p, n⟩
        · have hR : b6 = false := by
            rw [← HB6.out]
            unfold origB
            rw [show s.plain.origin_ = s.origin_ from rfl, hu]
            simp [ho]
          subst hR
          have hv : splV s.origin_ = .tuple #[.string ByteArray.empty, .string ByteArray.empty, .int .i64 31] := by unfold splV; rw [hu]
          have HO := HO
          rw [hv] at HO
          have HFe : Hid (∀ W, Below w2.heap.size w2 W → Calls Tryz.prog 24 #[.agg #[.string x.name_, .int .i64 x.quota_, .int .i64 x.next_, .slice x.sets_.A x.sets_.l.length x.sets_.c, .slice x.grants_.A x.grants_.l.length x.grants_.c, .slice x.stages_.A x.stages_.l.length x.stages_.c, .slice x.log_.A x.log_.l.length x.log_.c], .string ByteArray.empty] W fun e w' => e = .returned (.int .i64 (findM x ByteArray.empty)) ∧ Below W.heap.size W w') := Lib.hid fun W hW => HF.out W hW _
          clear ho hu hv HF
          go_wp2_with fail
          refine (HO.out _ hQ5).mono ?_
          rintro e v6 ⟨rfl, hV6⟩
          have hQ6 : Below w2.heap.size w2 v6 := hQ5.trans (hV6.mono hQ5.size)
          have z0 := (HK1.out.below hQ6 HK1.out.lt).cell 0
          have z1 := (HK1.out.below hQ6 HK1.out.lt).cell 1
          have z2 := (HK1.out.below hQ6 HK1.out.lt).cell 2
          have z3 := (HK1.out.below hQ6 HK1.out.lt).cell 3
          have z4 := (HK1.out.below hQ6 HK1.out.lt).cell 4
          have z5 := (HK1.out.below hQ6 HK1.out.lt).cell 5
          have z6 := (HK1.out.below hQ6 HK1.out.lt).cell 6
          simp only [gZa, gZb] at z0 z1 z2 z3 z4 z5 z6
          go_wp2_with fail
          refine (HFe.out _ hQ6).mono ?_
          rintro e v7 ⟨rfl, hV7⟩
          have hQ7 : Below w2.heap.size w2 v7 := hQ6.trans (hV7.mono hQ6.size)
          go_wp2
          go_ret
          exact ⟨ret_bool (by rw [HR.out]; rfl), hA.trans (hQ7.mono hs2)⟩
        · have hv : splV s.origin_ = .tuple #[.string p, .string n, .int .i64 0] := by unfold splV; rw [hu]
          have HO := HO
          rw [hv] at HO
          have hR : b6 = (decide (p ≠ s.path_) && match setAt x.plain p with
              | none => false
              | some y => hasSnap y n) := by
            rw [← HB6.out]
            unfold origB
            rw [show s.plain.origin_ = s.origin_ from rfl, hu]
            simp [ho]
            rfl
          have HFu : Hid (∀ W, Below w2.heap.size w2 W → Calls Tryz.prog 24 #[.agg #[.string x.name_, .int .i64 x.quota_, .int .i64 x.next_, .slice x.sets_.A x.sets_.l.length x.sets_.c, .slice x.grants_.A x.grants_.l.length x.grants_.c, .slice x.stages_.A x.stages_.l.length x.stages_.c, .slice x.log_.A x.log_.l.length x.log_.c], .string p] W fun e w' => e = .returned (.int .i64 (findM x p)) ∧ Below W.heap.size W w') := Lib.hid fun W hW => HF.out W hW p
          by_cases hpp : p = s.path_
          · have hq : (p.toList == s.path_.toList) = true := by rw [beqS]; exact decide_eq_true hpp
            rw [decide_eq_false (by simpa using hpp), Bool.false_and] at hR
            subst hR
            clear ho hv hu HF hpp
            go_wp2_with fail
            refine (HO.out _ hQ5).mono ?_
            rintro e v6 ⟨rfl, hV6⟩
            have hQ6 : Below w2.heap.size w2 v6 := hQ5.trans (hV6.mono hQ5.size)
            have z0 := (HK1.out.below hQ6 HK1.out.lt).cell 0
            have z1 := (HK1.out.below hQ6 HK1.out.lt).cell 1
            have z2 := (HK1.out.below hQ6 HK1.out.lt).cell 2
            have z3 := (HK1.out.below hQ6 HK1.out.lt).cell 3
            have z4 := (HK1.out.below hQ6 HK1.out.lt).cell 4
            have z5 := (HK1.out.below hQ6 HK1.out.lt).cell 5
            have z6 := (HK1.out.below hQ6 HK1.out.lt).cell 6
            simp only [gZa, gZb] at z0 z1 z2 z3 z4 z5 z6
            go_wp2_with fail
            refine (HFu.out _ hQ6).mono ?_
            rintro e v7 ⟨rfl, hV7⟩
            have hQ7 : Below w2.heap.size w2 v7 := hQ6.trans (hV7.mono hQ6.size)
            have y0 := (HK2.out.below hQ7 HK2.out.lt).cell 0
            simp only [gZa, gZb] at y0
            go_wp2
            go_ret
            exact ⟨ret_bool (by rw [HR.out]; rfl), hA.trans (hQ7.mono hs2)⟩
          · have hq : (p.toList == s.path_.toList) = false := by rw [beqS]; exact decide_eq_false hpp
            rw [decide_eq_true (show p ≠ s.path_ from hpp), Bool.true_and] at hR
            rcases set_ways x p with ⟨hf, hs0⟩ | ⟨j, y, hf, hy, hyp, hs0⟩
            · rw [hs0] at hR
              rw [hf] at HFu
              subst hR
              clear ho hv hu HF hpp hf hs0
              go_wp2_with fail
              refine (HO.out _ hQ5).mono ?_
              rintro e v6 ⟨rfl, hV6⟩
              have hQ6 : Below w2.heap.size w2 v6 := hQ5.trans (hV6.mono hQ5.size)
              have z0 := (HK1.out.below hQ6 HK1.out.lt).cell 0
              have z1 := (HK1.out.below hQ6 HK1.out.lt).cell 1
              have z2 := (HK1.out.below hQ6 HK1.out.lt).cell 2
              have z3 := (HK1.out.below hQ6 HK1.out.lt).cell 3
              have z4 := (HK1.out.below hQ6 HK1.out.lt).cell 4
              have z5 := (HK1.out.below hQ6 HK1.out.lt).cell 5
              have z6 := (HK1.out.below hQ6 HK1.out.lt).cell 6
              simp only [gZa, gZb] at z0 z1 z2 z3 z4 z5 z6
              go_wp2_with fail
              refine (HFu.out _ hQ6).mono ?_
              rintro e v7 ⟨rfl, hV7⟩
              have hQ7 : Below w2.heap.size w2 v7 := hQ6.trans (hV7.mono hQ6.size)
              have y0 := (HK2.out.below hQ7 HK2.out.lt).cell 0
              simp only [gZa, gZb] at y0
              go_wp2
              go_ret
              exact ⟨ret_bool (by rw [HR.out]; rfl), hA.trans (hQ7.mono hs2)⟩
            · rw [hs0] at hR
              simp only [hasSnap_find] at hR
              rw [hf] at HFu
              have HN : Hid (R = decide (0 ≤ snapM y n)) := Lib.hid (by rw [HR.out, hR]; rfl)
              have HY := Lib.hid hy
              have hjl : j < x.sets_.l.length := (List.getElem?_eq_some_iff.1 hy).1
              have hj0 : (0 : Int) ≤ (j : Int) := by omega
              clear ho hv hu HF hpp hf hs0 hy hyp hR HR HB6
              go_wp2_with fail
              refine (HO.out _ hQ5).mono ?_
              rintro e v6 ⟨rfl, hV6⟩
              have hQ6 : Below w2.heap.size w2 v6 := hQ5.trans (hV6.mono hQ5.size)
              have z0 := (HK1.out.below hQ6 HK1.out.lt).cell 0
              have z1 := (HK1.out.below hQ6 HK1.out.lt).cell 1
              have z2 := (HK1.out.below hQ6 HK1.out.lt).cell 2
              have z3 := (HK1.out.below hQ6 HK1.out.lt).cell 3
              have z4 := (HK1.out.below hQ6 HK1.out.lt).cell 4
              have z5 := (HK1.out.below hQ6 HK1.out.lt).cell 5
              have z6 := (HK1.out.below hQ6 HK1.out.lt).cell 6
              simp only [gZa, gZb] at z0 z1 z2 z3 z4 z5 z6
              go_wp2_with fail
              refine (HFu.out _ hQ6).mono ?_
              rintro e v7 ⟨rfl, hV7⟩
              have hQ7 : Below w2.heap.size w2 v7 := hQ6.trans (hV7.mono hQ6.size)
              have y0 := (HK2.out.below hQ7 HK2.out.lt).cell 0
              simp only [gZa, gZb] at y0
              have z3 := (HK1.out.below hQ7 HK1.out.lt).cell 3
              simp only [gZa, gZb] at z3
              have HG4 := HG.out v7 hQ7
              have hlen := HG4.gsets_.len
              obtain ⟨b, off, hAq, hb, hc⟩ := Rd.elem (n := 5) (fun _ => rfl) (by omega) HG4.gsets_.rd HY.out
              have c0 : v7.cell? ⟨b, off + j * 5, none⟩ = some (.string y.path_) := hc 0 _ rfl
              have c1 : v7.cell? ⟨b, off + j * 5 + 1, none⟩ = some (.string y.origin_) := hc 1 _ rfl
              have c2 : v7.cell? ⟨b, off + j * 5 + 2, none⟩ = some (.slice y.body_.A y.body_.l.length y.body_.c) := hc 2 _ rfl
              have c3 : v7.cell? ⟨b, off + j * 5 + 3, none⟩ = some (.slice y.snaps_.A y.snaps_.l.length y.snaps_.c) := hc 3 _ rfl
              have c4 : v7.cell? ⟨b, off + j * 5 + 4, none⟩ = some (.slice y.own_.A y.own_.l.length y.own_.c) := hc 4 _ rfl
              have HSN := Lib.hid (refSnap_any y n v7 (HG4.gsets_.el y (List.mem_of_getElem? HY.out)).gsnaps_)
              generalize snapM y n = G at *
              rw [hAq] at z3
              clear hc hAq HG4
              go_wp2_with fail
              refine HSN.out.mono ?_
              rintro e v8 ⟨rfl, hV8⟩
              have hX8 : Below w.heap.size w v8 := hA.trans ((hQ7.trans (hV8.mono hQ7.size)).mono hs2)
              go_wp2
              go_ret
              exact ⟨ret_bool (HN.out.symm), hX8⟩
    · have hv : parV s.path_ = .tuple #[.string u, .bool true] := by unfold parV; rw [hu]
      rw [hv] at HPA
      rw [hpt] at HPT
      have hUB : upB x.plain s.path_ = decide (0 ≤ findM x u) := by unfold upB; rw [hu]; exact hasSet_find x u
      have HFw : Hid (∀ W, Below w2.heap.size w2 W → Calls Tryz.prog 24 #[.agg #[.string x.name_, .int .i64 x.quota_, .int .i64 x.next_, .slice x.sets_.A x.sets_.l.length x.sets_.c, .slice x.grants_.A x.grants_.l.length x.grants_.c, .slice x.stages_.A x.stages_.l.length x.stages_.c, .slice x.log_.A x.log_.l.length x.log_.c], .string u] W fun e w' => e = .returned (.int .i64 (findM x u)) ∧ Below W.heap.size W w') := Lib.hid fun W hW => HF.out W hW u
      by_cases hf0 : (0 : Int) ≤ findM x u
      · have hfn : ¬ findM x u < 0 := by omega
        have HR : Hid (R = (b3 && (b4 && (b5 && b6)))) := Lib.hid (by
          rw [HSB.out, hUB, decide_eq_true hf0, Bool.true_and])
        generalize findM x u = Fu at *
        clear hv hpt hu HSB hUB hf0
        go_enter Tryz.func70, Tryz.ntmps70
        go_upto_region 1 with fail
        rw [HW1.out, HW2.out]
        go_wp2_with fail
        refine (HPA.out _ hT0).mono ?_
        rintro e v1 ⟨rfl, hV1⟩
        have hQ1 : Below w2.heap.size w2 v1 := hV1
        have y0 := (HK2.out.below hQ1 HK2.out.lt).cell 0
        simp only [gZa, gZb] at y0
        go_wp2_with fail
        refine (HPT.out _ hQ1).mono ?_
        rintro e v2 ⟨rfl, hV2⟩
        have hQ2 : Below w2.heap.size w2 v2 := hQ1.trans (hV2.mono hQ1.size)
        have z0 := (HK1.out.below hQ2 HK1.out.lt).cell 0
        have z1 := (HK1.out.below hQ2 HK1.out.lt).cell 1
        have z2 := (HK1.out.below hQ2 HK1.out.lt).cell 2
        have z3 := (HK1.out.below hQ2 HK1.out.lt).cell 3
        have z4 := (HK1.out.below hQ2 HK1.out.lt).cell 4
        have z5 := (HK1.out.below hQ2 HK1.out.lt).cell 5
        have z6 := (HK1.out.below hQ2 HK1.out.lt).cell 6
        simp only [gZa, gZb] at z0 z1 z2 z3 z4 z5 z6
        go_wp2_with fail
        refine (HFw.out _ hQ2).mono ?_
        rintro e v9 ⟨rfl, hV9⟩
        have hQ9 : Below w2.heap.size w2 v9 := hQ2.trans (hV9.mono hQ2.size)
        have y2 := (HK2.out.below hQ9 HK2.out.lt).cell 2
        simp only [gZa, gZb] at y2
        go_wp2_with fail
        refine (HC.out _ hQ9).mono ?_
        rintro e v3 ⟨rfl, hV3⟩
        have hQ3 : Below w2.heap.size w2 v3 := hQ9.trans (hV3.mono hQ9.size)
        rcases b3 with _ | _
        · go_wp2
          go_ret
          exact ⟨ret_bool (by rw [HR.out]; rfl), hA.trans (hQ3.mono hs2)⟩
        have y4 := (HK2.out.below hQ3 HK2.out.lt).cell 4
        simp only [gZa, gZb] at y4
        go_wp2_with fail
        refine (HP.out _ hQ3).mono ?_
        rintro e v4 ⟨rfl, hV4⟩
        have hQ4 : Below w2.heap.size w2 v4 := hQ3.trans (hV4.mono hQ3.size)
        rcases b4 with _ | _
        · go_wp2
          go_ret
          exact ⟨ret_bool (by rw [HR.out]; rfl), hA.trans (hQ4.mono hs2)⟩
        have y3 := (HK2.out.below hQ4 HK2.out.lt).cell 3
        simp only [gZa, gZb] at y3
        go_wp2_with fail
        refine (HS.out _ hQ4).mono ?_
        rintro e v5 ⟨rfl, hV5⟩
        have hQ5 : Below w2.heap.size w2 v5 := hQ4.trans (hV5.mono hQ4.size)
        rcases b5 with _ | _
        · go_wp2
          go_ret
          exact ⟨ret_bool (by rw [HR.out]; rfl), hA.trans (hQ5.mono hs2)⟩
        have y1 := (HK2.out.below hQ5 HK2.out.lt).cell 1
        simp only [gZa, gZb] at y1
        by_cases ho : s.origin_ = ByteArray.empty
        · have he : s.origin_.toList.isEmpty = true := by rw [ho]; exact empty_isEmpty
          have hR : b6 = true := by
            rw [← HB6.out]
            unfold origB
            rw [show s.plain.origin_ = s.origin_ from rfl, ho]
            simp
          subst hR
          clear ho
          go_wp2
          go_ret
          exact ⟨ret_bool (by rw [HR.out]; rfl), hA.trans (hQ5.mono hs2)⟩
        · have he := isEmpty_no ho
          rcases hu : splitP s.origin_ with _ | ⟨p, n⟩
          · have hR : b6 = false := by
              rw [← HB6.out]
              unfold origB
              rw [show s.plain.origin_ = s.origin_ from rfl, hu]
              simp [ho]
            subst hR
            have hv : splV s.origin_ = .tuple #[.string ByteArray.empty, .string ByteArray.empty, .int .i64 31] := by unfold splV; rw [hu]
            have HO := HO
            rw [hv] at HO
            have HFe : Hid (∀ W, Below w2.heap.size w2 W → Calls Tryz.prog 24 #[.agg #[.string x.name_, .int .i64 x.quota_, .int .i64 x.next_, .slice x.sets_.A x.sets_.l.length x.sets_.c, .slice x.grants_.A x.grants_.l.length x.grants_.c, .slice x.stages_.A x.stages_.l.length x.stages_.c, .slice x.log_.A x.log_.l.length x.log_.c], .string ByteArray.empty] W fun e w' => e = .returned (.int .i64 (findM x ByteArray.empty)) ∧ Below W.heap.size W w') := Lib.hid fun W hW => HF.out W hW _
            clear ho hu hv HF
            go_wp2_with fail
            refine (HO.out _ hQ5).mono ?_
            rintro e v6 ⟨rfl, hV6⟩
            have hQ6 : Below w2.heap.size w2 v6 := hQ5.trans (hV6.mono hQ5.size)
            have z0 := (HK1.out.below hQ6 HK1.out.lt).cell 0
            have z1 := (HK1.out.below hQ6 HK1.out.lt).cell 1
            have z2 := (HK1.out.below hQ6 HK1.out.lt).cell 2
            have z3 := (HK1.out.below hQ6 HK1.out.lt).cell 3
            have z4 := (HK1.out.below hQ6 HK1.out.lt).cell 4
            have z5 := (HK1.out.below hQ6 HK1.out.lt).cell 5
            have z6 := (HK1.out.below hQ6 HK1.out.lt).cell 6
            simp only [gZa, gZb] at z0 z1 z2 z3 z4 z5 z6
            go_wp2_with fail
            refine (HFe.out _ hQ6).mono ?_
            rintro e v7 ⟨rfl, hV7⟩
            have hQ7 : Below w2.heap.size w2 v7 := hQ6.trans (hV7.mono hQ6.size)
            go_wp2
            go_ret
            exact ⟨ret_bool (by rw [HR.out]; rfl), hA.trans (hQ7.mono hs2)⟩
          · have hv : splV s.origin_ = .tuple #[.string p, .string n, .int .i64 0] := by unfold splV; rw [hu]
            have HO := HO
            rw [hv] at HO
            have hR : b6 = (decide (p ≠ s.path_) && match setAt x.plain p with
                | none => false
                | some y => hasSnap y n) := by
              rw [← HB6.out]
              unfold origB
              rw [show s.plain.origin_ = s.origin_ from rfl, hu]
              simp [ho]
              rfl
            have HFu : Hid (∀ W, Below w2.heap.size w2 W → Calls Tryz.prog 24 #[.agg #[.string x.name_, .int .i64 x.quota_, .int .i64 x.next_, .slice x.sets_.A x.sets_.l.length x.sets_.c, .slice x.grants_.A x.grants_.l.length x.grants_.c, .slice x.stages_.A x.stages_.l.length x.stages_.c, .slice x.log_.A x.log_.l.length x.log_.c], .string p] W fun e w' => e = .returned (.int .i64 (findM x p)) ∧ Below W.heap.size W w') := Lib.hid fun W hW => HF.out W hW p
            by_cases hpp : p = s.path_
            · have hq : (p.toList == s.path_.toList) = true := by rw [beqS]; exact decide_eq_true hpp
              rw [decide_eq_false (by simpa using hpp), Bool.false_and] at hR
              subst hR
              clear ho hv hu HF hpp
              go_wp2_with fail
              refine (HO.out _ hQ5).mono ?_
              rintro e v6 ⟨rfl, hV6⟩
              have hQ6 : Below w2.heap.size w2 v6 := hQ5.trans (hV6.mono hQ5.size)
              have z0 := (HK1.out.below hQ6 HK1.out.lt).cell 0
              have z1 := (HK1.out.below hQ6 HK1.out.lt).cell 1
              have z2 := (HK1.out.below hQ6 HK1.out.lt).cell 2
              have z3 := (HK1.out.below hQ6 HK1.out.lt).cell 3
              have z4 := (HK1.out.below hQ6 HK1.out.lt).cell 4
              have z5 := (HK1.out.below hQ6 HK1.out.lt).cell 5
              have z6 := (HK1.out.below hQ6 HK1.out.lt).cell 6
              simp only [gZa, gZb] at z0 z1 z2 z3 z4 z5 z6
              go_wp2_with fail
              refine (HFu.out _ hQ6).mono ?_
              rintro e v7 ⟨rfl, hV7⟩
              have hQ7 : Below w2.heap.size w2 v7 := hQ6.trans (hV7.mono hQ6.size)
              have y0 := (HK2.out.below hQ7 HK2.out.lt).cell 0
              simp only [gZa, gZb] at y0
              go_wp2
              go_ret
              exact ⟨ret_bool (by rw [HR.out]; rfl), hA.trans (hQ7.mono hs2)⟩
            · have hq : (p.toList == s.path_.toList) = false := by rw [beqS]; exact decide_eq_false hpp
              rw [decide_eq_true (show p ≠ s.path_ from hpp), Bool.true_and] at hR
              rcases set_ways x p with ⟨hf, hs0⟩ | ⟨j, y, hf, hy, hyp, hs0⟩
              · rw [hs0] at hR
                rw [hf] at HFu
                subst hR
                clear ho hv hu HF hpp hf hs0
                go_wp2_with fail
                refine (HO.out _ hQ5).mono ?_
                rintro e v6 ⟨rfl, hV6⟩
                have hQ6 : Below w2.heap.size w2 v6 := hQ5.trans (hV6.mono hQ5.size)
                have z0 := (HK1.out.below hQ6 HK1.out.lt).cell 0
                have z1 := (HK1.out.below hQ6 HK1.out.lt).cell 1
                have z2 := (HK1.out.below hQ6 HK1.out.lt).cell 2
                have z3 := (HK1.out.below hQ6 HK1.out.lt).cell 3
                have z4 := (HK1.out.below hQ6 HK1.out.lt).cell 4
                have z5 := (HK1.out.below hQ6 HK1.out.lt).cell 5
                have z6 := (HK1.out.below hQ6 HK1.out.lt).cell 6
                simp only [gZa, gZb] at z0 z1 z2 z3 z4 z5 z6
                go_wp2_with fail
                refine (HFu.out _ hQ6).mono ?_
                rintro e v7 ⟨rfl, hV7⟩
                have hQ7 : Below w2.heap.size w2 v7 := hQ6.trans (hV7.mono hQ6.size)
                have y0 := (HK2.out.below hQ7 HK2.out.lt).cell 0
                simp only [gZa, gZb] at y0
                go_wp2
                go_ret
                exact ⟨ret_bool (by rw [HR.out]; rfl), hA.trans (hQ7.mono hs2)⟩
              · rw [hs0] at hR
                simp only [hasSnap_find] at hR
                rw [hf] at HFu
                have HN : Hid (R = decide (0 ≤ snapM y n)) := Lib.hid (by rw [HR.out, hR]; rfl)
                have HY := Lib.hid hy
                have hjl : j < x.sets_.l.length := (List.getElem?_eq_some_iff.1 hy).1
                have hj0 : (0 : Int) ≤ (j : Int) := by omega
                clear ho hv hu HF hpp hf hs0 hy hyp hR HR HB6
                go_wp2_with fail
                refine (HO.out _ hQ5).mono ?_
                rintro e v6 ⟨rfl, hV6⟩
                have hQ6 : Below w2.heap.size w2 v6 := hQ5.trans (hV6.mono hQ5.size)
                have z0 := (HK1.out.below hQ6 HK1.out.lt).cell 0
                have z1 := (HK1.out.below hQ6 HK1.out.lt).cell 1
                have z2 := (HK1.out.below hQ6 HK1.out.lt).cell 2
                have z3 := (HK1.out.below hQ6 HK1.out.lt).cell 3
                have z4 := (HK1.out.below hQ6 HK1.out.lt).cell 4
                have z5 := (HK1.out.below hQ6 HK1.out.lt).cell 5
                have z6 := (HK1.out.below hQ6 HK1.out.lt).cell 6
                simp only [gZa, gZb] at z0 z1 z2 z3 z4 z5 z6
                go_wp2_with fail
                refine (HFu.out _ hQ6).mono ?_
                rintro e v7 ⟨rfl, hV7⟩
                have hQ7 : Below w2.heap.size w2 v7 := hQ6.trans (hV7.mono hQ6.size)
                have y0 := (HK2.out.below hQ7 HK2.out.lt).cell 0
                simp only [gZa, gZb] at y0
                have z3 := (HK1.out.below hQ7 HK1.out.lt).cell 3
                simp only [gZa, gZb] at z3
                have HG4 := HG.out v7 hQ7
                have hlen := HG4.gsets_.len
                obtain ⟨b, off, hAq, hb, hc⟩ := Rd.elem (n := 5) (fun _ => rfl) (by omega) HG4.gsets_.rd HY.out
                have c0 : v7.cell? ⟨b, off + j * 5, none⟩ = some (.string y.path_) := hc 0 _ rfl
                have c1 : v7.cell? ⟨b, off + j * 5 + 1, none⟩ = some (.string y.origin_) := hc 1 _ rfl
                have c2 : v7.cell? ⟨b, off + j * 5 + 2, none⟩ = some (.slice y.body_.A y.body_.l.length y.body_.c) := hc 2 _ rfl
                have c3 : v7.cell? ⟨b, off + j * 5 + 3, none⟩ = some (.slice y.snaps_.A y.snaps_.l.length y.snaps_.c) := hc 3 _ rfl
                have c4 : v7.cell? ⟨b, off + j * 5 + 4, none⟩ = some (.slice y.own_.A y.own_.l.length y.own_.c) := hc 4 _ rfl
                have HSN := Lib.hid (refSnap_any y n v7 (HG4.gsets_.el y (List.mem_of_getElem? HY.out)).gsnaps_)
                generalize snapM y n = G at *
                rw [hAq] at z3
                clear hc hAq HG4
                go_wp2_with fail
                refine HSN.out.mono ?_
                rintro e v8 ⟨rfl, hV8⟩
                have hX8 : Below w.heap.size w v8 := hA.trans ((hQ7.trans (hV8.mono hQ7.size)).mono hs2)
                go_wp2
                go_ret
                exact ⟨ret_bool (HN.out.symm), hX8⟩
      · have hfn : findM x u < 0 := by omega
        have HR : Hid (R = false) := Lib.hid (by
          rw [HSB.out, hUB, decide_eq_false hf0, Bool.false_and])
        generalize findM x u = Fu at *
        clear hv hpt hu HSB hUB hf0 HF HO HC HP HS HG
        go_enter Tryz.func70, Tryz.ntmps70
        go_upto_region 1 with fail
        rw [HW1.out, HW2.out]
        go_wp2_with fail
        refine (HPA.out _ hT0).mono ?_
        rintro e v1 ⟨rfl, hV1⟩
        have hQ1 : Below w2.heap.size w2 v1 := hV1
        have y0 := (HK2.out.below hQ1 HK2.out.lt).cell 0
        simp only [gZa, gZb] at y0
        go_wp2_with fail
        refine (HPT.out _ hQ1).mono ?_
        rintro e v2 ⟨rfl, hV2⟩
        have hQ2 : Below w2.heap.size w2 v2 := hQ1.trans (hV2.mono hQ1.size)
        have z0 := (HK1.out.below hQ2 HK1.out.lt).cell 0
        have z1 := (HK1.out.below hQ2 HK1.out.lt).cell 1
        have z2 := (HK1.out.below hQ2 HK1.out.lt).cell 2
        have z3 := (HK1.out.below hQ2 HK1.out.lt).cell 3
        have z4 := (HK1.out.below hQ2 HK1.out.lt).cell 4
        have z5 := (HK1.out.below hQ2 HK1.out.lt).cell 5
        have z6 := (HK1.out.below hQ2 HK1.out.lt).cell 6
        simp only [gZa, gZb] at z0 z1 z2 z3 z4 z5 z6
        go_wp2_with fail
        refine (HFw.out _ hQ2).mono ?_
        rintro e v9 ⟨rfl, hV9⟩
        have hQ9 : Below w2.heap.size w2 v9 := hQ2.trans (hV9.mono hQ2.size)
        go_wp2
        go_ret
        exact ⟨ret_bool HR.out.symm, hA.trans (hQ9.mono hs2)⟩
end Go.Proofs.YtimmcmjipmkebaaGreat
namespace Go.Proofs.YtimmcmjipmkebaaGreat
open Go.ChangeShapes Go.WideShapes Go.ChangeAt Go.RowKit
set_option maxRecDepth 100000
section
variable {P : Program} {ops : Array Oper} {Q : Exit → Act → World → Prop} {md : Region.Mode} {S1 S2 : World → Prop} {l : Nat}
theorem tkC (n : Nat) {i : Nat} {oi : Oper} {v : Value} {fuel : Nat} {listed : Array Bool} {a : Act} {w : World} (hi : ops[i]? = some oi) (hS : S1 w)
    (h : wpAnyL P md ops Q S1 l fuel (listed.setIfInBounds i true) (a.put oi.dst v) w)
    (hs : Region.noSelect ops = true := by kernel_rfl) (hf : Region.free md ops listed i = true := by kernel_rfl) (hr : (Region.ready md ops listed).contains i = true := by kernel_rfl) (ht : inTurnB md ops listed = true := by kernel_rfl) (hl : waitsFor md ops n l i = true := by kernel_rfl) (hil : (i == l) = false := by kernel_rfl) (hun : listed.getD l false = false := by kernel_rfl)
    (hQ : ∀ c a w, Q (.panic c) (a.put oi.dst v) w → Q (.panic c) a w := by exact fun _ _ _ h => h) (hy : YieldsIf P ops S1 oi v a := by refine Or.inl ⟨by rfl, ?_⟩; intro w hSw; (try dsimp only at hSw); obtain ⟨hS1, hS2⟩ := hSw; go_simp; first | with_reducible rfl | (simp only [Tryz.isAgg91, Tryz.sizeOf91, Result.andThen, ↓reduceIte, hS1]; with_reducible rfl)) : wpAnyL P md ops Q S1 l (fuel + 1) listed a w :=
  wpAnyL_take n hi hs hf hr ht hl hil hun hQ hy hS h
end
set_option linter.unusedSimpArgs false
structure MTenant.Tiny (x : MTenant) : Prop where
  sets : ∀ s ∈ x.sets_.l, s.path_.size ≤ 4398046511104 ∧ s.origin_.size ≤ 4398046511104
  stages : ∀ s ∈ x.stages_.l, s.into_.size ≤ 4398046511104
  log : ∀ s ∈ x.log_.l, s.path_.size ≤ 4398046511104
  grants : ∀ g ∈ x.grants_.l, g.2.1.size ≤ 4398046511104
attribute [-simp] Tryz.isAgg91 Tryz.sizeOf91
set_option maxHeartbeats 8000000 in
theorem refCheck_any14 (x : MTenant) (w : World) (hx : x.Good w) (ht : x.Tiny) :
    Calls Tryz.prog 23 #[.agg x.cells.toArray] w fun e w' => e = .returned (.int .i64 (if okT x.plain = true then 0 else 9)) ∧ Below w.heap.size w w' := by
  obtain ⟨xn, xq, xt, ⟨A, l, ca⟩, xg, ⟨A2, l2, cb⟩, ⟨A3, l3, cc⟩⟩ := x
  obtain ⟨P, hP⟩ : ∃ P, (MTenant.mk xn xq xt ⟨A, l, ca⟩ xg ⟨A2, l2, cb⟩ ⟨A3, l3, cc⟩).plain = P := ⟨_, rfl⟩
  have hOK : okT P = (isName (bs xn) && (amt 0 xq && (amt 1 xt && (decide (l.length ≤ 32) && (decide (0 ≤ findM ⟨xn, xq, xt, ⟨A, l, ca⟩, xg, ⟨A2, l2, cb⟩, ⟨A3, l3, cc⟩⟩ ByteArray.empty) && (okG xg.l && (decide (l2.length ≤ 4) && (decide (l3.length ≤ 16) && (goodL (fun y : MSet => setB P y.plain) (fun a b => ltTx a.path_ b.path_) l && (goodL (fun y : MStage => stageB y.plain) (fun a b => ltTx a.into_ b.into_) l2 && l3.all fun y => entryB y.plain)))))))))) := by
    have e1 : goodL (setB P) ltPath (l.map MSet.plain) = goodL (fun y : MSet => setB P y.plain) (fun a b => ltTx a.path_ b.path_) l := by
      unfold goodL
      rw [List.all_map, riseB_map]
      rfl
    have e2 : goodL stageB ltInto (l2.map MStage.plain) = goodL (fun y : MStage => stageB y.plain) (fun a b => ltTx a.into_ b.into_) l2 := by
      unfold goodL
      rw [List.all_map, riseB_map]
      rfl
    have e3 : (l3.map MEntry.plain).all entryB = l3.all fun y => entryB y.plain := by rw [List.all_map]; rfl
    have e4 := hasSet_find ⟨xn, xq, xt, ⟨A, l, ca⟩, xg, ⟨A2, l2, cb⟩, ⟨A3, l3, cc⟩⟩ ByteArray.empty
    rw [hP] at e4
    rw [← e1, ← e2, ← e3, ← e4, ← hP]
    unfold okT
    simp only [MTenant.plain, List.length_map]
  obtain ⟨w1, hw1⟩ : ∃ w1, w.alloc (.cells #[.string xn, .int .i64 xq, .int .i64 xt, .slice A l.length ca, .slice xg.A xg.l.length xg.c, .slice A2 l2.length cb, .slice A3 l3.length cc] 27) = w1 := ⟨_, rfl⟩
  have hA : Below w.heap.size w w1 := hw1 ▸ (Below.refl _ w).alloc (Nat.le_refl _) _
  have k1 : Blk w1 w.heap.size 27 [.string xn, .int .i64 xq, .int .i64 xt, .slice A l.length ca, .slice xg.A xg.l.length xg.c, .slice A2 l2.length cb, .slice A3 l3.length cc] := hw1 ▸ Blk.new w _ _
  have HG : Hid (∀ W, Below w1.heap.size w1 W → MTenant.Good W ⟨xn, xq, xt, ⟨A, l, ca⟩, xg, ⟨A2, l2, cb⟩, ⟨A3, l3, cc⟩⟩) := Lib.hid fun W hW => hx.below (hA.trans (hW.mono hA.size))
  have H1 : Hid (∀ W, Below w1.heap.size w1 W → Calls Tryz.prog 66 #[.string xn] W fun e w' => e = .returned (.bool (isName (bs xn))) ∧ Below W.heap.size W w') := Lib.hid fun W hW => refNameB xn (by have h : xn.size ≤ 140737488351232 := hx.gname_; omega) W
  have H2 : Hid (∀ W, Below w1.heap.size w1 W → Calls Tryz.prog 68 #[.int .i64 xq, .int .i64 0] W fun e w' => e = .returned (.bool (amt 0 xq)) ∧ Below W.heap.size W w') := Lib.hid fun W hW => amountB 0 xq W
  have H3 : Hid (∀ W, Below w1.heap.size w1 W → Calls Tryz.prog 68 #[.int .i64 xt, .int .i64 1] W fun e w' => e = .returned (.bool (amt 1 xt)) ∧ Below W.heap.size W w') := Lib.hid fun W hW => amountB 1 xt W
  have H5 : Hid (∀ W, Below w1.heap.size w1 W → Calls Tryz.prog 24 #[.agg #[.string xn, .int .i64 xq, .int .i64 xt, .slice A l.length ca, .slice xg.A xg.l.length xg.c, .slice A2 l2.length cb, .slice A3 l3.length cc], .string ByteArray.empty] W fun e w' => e = .returned (.int .i64 (findM ⟨xn, xq, xt, ⟨A, l, ca⟩, xg, ⟨A2, l2, cb⟩, ⟨A3, l3, cc⟩⟩ ByteArray.empty)) ∧ Below W.heap.size W w') := Lib.hid fun W hW => refFind_any ⟨xn, xq, xt, ⟨A, l, ca⟩, xg, ⟨A2, l2, cb⟩, ⟨A3, l3, cc⟩⟩ _ W (HG.out W hW)
  have H6 : Hid (∀ W, Below w1.heap.size w1 W → Calls Tryz.prog 69 #[.slice xg.A xg.l.length xg.c] W fun e w' => e = .returned (.int .i64 (if okG xg.l = true then 0 else 9)) ∧ Below W.heap.size W w') := Lib.hid fun W hW => refGrants_any xg.A xg.c xg.l.length xg.l rfl (by have := (HG.out W hW).ggrants_.len; dsimp only at this; omega) (fun g hg => ⟨((HG.out W hW).ggrants_.el g hg).1, ht.grants g hg⟩) W (HG.out W hW).ggrants_.rd
  have HS : Hid (∀ W, Below w1.heap.size w1 W → ∀ y ∈ l, Calls Tryz.prog 70 #[.agg #[.string xn, .int .i64 xq, .int .i64 xt, .slice A l.length ca, .slice xg.A xg.l.length xg.c, .slice A2 l2.length cb, .slice A3 l3.length cc], .agg y.cells.toArray] W fun e w' => e = .returned (.bool (setB P y.plain)) ∧ Below W.heap.size W w') := Lib.hid fun W hW y hy => by
    rw [← hP]
    exact refTSet_any ⟨xn, xq, xt, ⟨A, l, ca⟩, xg, ⟨A2, l2, cb⟩, ⟨A3, l3, cc⟩⟩ y (ht.sets y hy).1 (ht.sets y hy).2 W (HG.out W hW) ((HG.out W hW).gsets_.el y hy)
  have HS2 : Hid (∀ W, Below w1.heap.size w1 W → ∀ y ∈ l2, Calls Tryz.prog 71 #[.agg y.cells.toArray] W fun e w' => e = .returned (.bool (stageB y.plain)) ∧ Below W.heap.size W w') := Lib.hid fun W hW y hy => refStage_any y (ht.stages y hy) W ((HG.out W hW).gstages_.el y hy)
  have HS3 : Hid (∀ W, Below w1.heap.size w1 W → ∀ y ∈ l3, Calls Tryz.prog 72 #[.agg y.cells.toArray] W fun e w' => e = .returned (.bool (entryB y.plain)) ∧ Below W.heap.size W w') := Lib.hid fun W hW y hy => refEntry_any y (ht.log y hy) W ((HG.out W hW).glog_.el y hy)
  have HRD := Lib.hid (hx.gsets_.rd.below hA)
  have HRD2 := Lib.hid (hx.gstages_.rd.below hA)
  have HRD3 := Lib.hid (hx.glog_.rd.below hA)
  have hln1 := hx.gsets_.len
  have hln2 := hx.gstages_.len
  have hln3 := hx.glog_.len
  dsimp only at HRD HRD2 HRD3 hln1 hln2 hln3
  have HK1 := Lib.hid k1
  have HW1 := Lib.hid hw1
  have hs1 := hA.size
  have hT0 : Below w1.heap.size w1 w1 := Below.refl _ _
  obtain ⟨R, hR⟩ : ∃ R, okT P = R := ⟨_, rfl⟩
  rw [hP, hR]
  rw [hR] at hOK
  obtain ⟨Q, hQ⟩ : ∃ Q : Int, (if R = true then 0 else 9) = Q := ⟨_, rfl⟩
  rw [hQ]
  have HQ := Lib.hid hQ
  obtain ⟨b1, hb1⟩ : ∃ b, isName (bs xn) = b := ⟨_, rfl⟩
  obtain ⟨b2, hb2⟩ : ∃ b, amt 0 xq = b := ⟨_, rfl⟩
  obtain ⟨b3, hb3⟩ : ∃ b, amt 1 xt = b := ⟨_, rfl⟩
  obtain ⟨b4, hb4⟩ : ∃ b, decide (l.length ≤ 32) = b := ⟨_, rfl⟩
  obtain ⟨Fe, hFe⟩ : ∃ F, findM ⟨xn, xq, xt, ⟨A, l, ca⟩, xg, ⟨A2, l2, cb⟩, ⟨A3, l3, cc⟩⟩ ByteArray.empty = F := ⟨_, rfl⟩
  rw [hFe] at hOK H5
  obtain ⟨b5, hb5⟩ : ∃ b, decide (0 ≤ Fe) = b := ⟨_, rfl⟩
  obtain ⟨b6, hb6⟩ : ∃ b, okG xg.l = b := ⟨_, rfl⟩
  obtain ⟨b7, hb7⟩ : ∃ b, decide (l2.length ≤ 4) = b := ⟨_, rfl⟩
  obtain ⟨b8, hb8⟩ : ∃ b, decide (l3.length ≤ 16) = b := ⟨_, rfl⟩
  obtain ⟨b9, hb9⟩ : ∃ b, goodL (fun y : MSet => setB P y.plain) (fun a b => ltTx a.path_ b.path_) l = b := ⟨_, rfl⟩
  obtain ⟨b10, hb10⟩ : ∃ b, goodL (fun y : MStage => stageB y.plain) (fun a b => ltTx a.into_ b.into_) l2 = b := ⟨_, rfl⟩
  obtain ⟨b11, hb11⟩ : ∃ b, (l3.all fun y => entryB y.plain) = b := ⟨_, rfl⟩
  rw [hb1, hb2, hb3, hb4, hb5, hb6, hb7, hb8, hb9, hb10, hb11] at hOK
  rw [hb1] at H1
  rw [hb2] at H2
  rw [hb3] at H3
  rw [hb6] at H6
  have HR := Lib.hid hOK
  have HB4 := Lib.hid hb4
  have HB5 := Lib.hid hb5
  have HB7 := Lib.hid hb7
  have HB8 := Lib.hid hb8
  have HB9 : Hid (goodL (fun y : MSet => setB P y.plain) (fun a b => ltTx a.path_ b.path_) l = false → b9 = false) := Lib.hid fun h => by rw [← hb9, h]
  have HE9 : Hid (goodL (fun y : MSet => setB P y.plain) (fun a b => ltTx a.path_ b.path_) l = true → b9 = true) := Lib.hid fun h => by rw [← hb9, h]
  have HB10 : Hid (goodL (fun y : MStage => stageB y.plain) (fun a b => ltTx a.into_ b.into_) l2 = false → b10 = false) := Lib.hid fun h => by rw [← hb10, h]
  have HE10 : Hid (goodL (fun y : MStage => stageB y.plain) (fun a b => ltTx a.into_ b.into_) l2 = true → b10 = true) := Lib.hid fun h => by rw [← hb10, h]
  have HB11 : Hid (∀ y ∈ l3, entryB y.plain = false → b11 = false) := Lib.hid fun y hy h => by
    rw [← hb11, ← Bool.not_eq_true]
    intro e
    rw [List.all_eq_true.1 e y hy] at h
    cases h
  have HE11 : Hid ((∀ y ∈ l3, entryB y.plain = true) → b11 = true) := Lib.hid fun h => by rw [← hb11]; exact List.all_eq_true.2 h
  clear hOK hR hQ hFe hb1 hb2 hb3 hb4 hb5 hb6 hb7 hb8 hb9 hb10 hb11 k1 hw1 hx ht HG hP
  go_enter Tryz.func23, Tryz.ntmps23
  go_upto_region 1 with fail
  rw [HW1.out]
  have z0 := (HK1.out.below hT0 HK1.out.lt).cell 0
  simp only [gZa, gZb] at z0
  go_wp2_with fail
  refine (H1.out _ hT0).mono ?_
  rintro e v1 ⟨rfl, hV1⟩
  have hQ1 : Below w1.heap.size w1 v1 := hT0.trans (hV1.mono hT0.size)
  rcases b1 with _ | _
  · go_wp2
    go_ret
    exact ⟨ret_chk (by rw [← HQ.out, show R = false from by rw [HR.out]; rfl]; rfl), hA.trans (hQ1.mono hs1)⟩
  have z1 := (HK1.out.below hQ1 HK1.out.lt).cell 1
  simp only [gZa, gZb] at z1
  go_wp2_with fail
  refine (H2.out _ hQ1).mono ?_
  rintro e v2 ⟨rfl, hV2⟩
  have hQ2 : Below w1.heap.size w1 v2 := hQ1.trans (hV2.mono hQ1.size)
  rcases b2 with _ | _
  · go_wp2
    go_ret
    exact ⟨ret_chk (by rw [← HQ.out, show R = false from by rw [HR.out]; rfl]; rfl), hA.trans (hQ2.mono hs1)⟩
  have z2 := (HK1.out.below hQ2 HK1.out.lt).cell 2
  simp only [gZa, gZb] at z2
  go_wp2_with fail
  refine (H3.out _ hQ2).mono ?_
  rintro e v3 ⟨rfl, hV3⟩
  have hQ3 : Below w1.heap.size w1 v3 := hQ2.trans (hV3.mono hQ2.size)
  rcases b3 with _ | _
  · go_wp2
    go_ret
    exact ⟨ret_chk (by rw [← HQ.out, show R = false from by rw [HR.out]; rfl]; rfl), hA.trans (hQ3.mono hs1)⟩
  have z3 := (HK1.out.below hQ3 HK1.out.lt).cell 3
  simp only [gZa, gZb] at z3
  rcases b4 with _ | _
  · have ht : (32 : Int) < (l.length : Int) := by have := of_decide_eq_false HB4.out; omega
    go_wp2
    go_ret
    exact ⟨ret_chk (by rw [← HQ.out, show R = false from by rw [HR.out]; rfl]; rfl), hA.trans (hQ3.mono hs1)⟩
  have ht4 : ¬ (32 : Int) < (l.length : Int) := by have := of_decide_eq_true HB4.out; omega
  have z0 := (HK1.out.below hQ3 HK1.out.lt).cell 0
  have z1 := (HK1.out.below hQ3 HK1.out.lt).cell 1
  have z2 := (HK1.out.below hQ3 HK1.out.lt).cell 2
  have z3 := (HK1.out.below hQ3 HK1.out.lt).cell 3
  have z4 := (HK1.out.below hQ3 HK1.out.lt).cell 4
  have z5 := (HK1.out.below hQ3 HK1.out.lt).cell 5
  have z6 := (HK1.out.below hQ3 HK1.out.lt).cell 6
  simp only [gZa, gZb] at z0 z1 z2 z3 z4 z5 z6
  go_wp2_with fail
  refine (H5.out _ hQ3).mono ?_
  rintro e v5 ⟨rfl, hV5⟩
  have hQ5 : Below w1.heap.size w1 v5 := hQ3.trans (hV5.mono hQ3.size)
  rcases b5 with _ | _
  · have hq5 : Fe < 0 := by have := of_decide_eq_false HB5.out; omega
    go_wp2
    go_ret
    exact ⟨ret_chk (by rw [← HQ.out, show R = false from by rw [HR.out]; rfl]; rfl), hA.trans (hQ5.mono hs1)⟩
  have hq5 : ¬ Fe < 0 := by have := of_decide_eq_true HB5.out; omega
  have z4 := (HK1.out.below hQ5 HK1.out.lt).cell 4
  simp only [gZa, gZb] at z4
  go_wp2_with fail
  refine (H6.out _ hQ5).mono ?_
  rintro e v6 ⟨rfl, hV6⟩
  have hQ6 : Below w1.heap.size w1 v6 := hQ5.trans (hV6.mono hQ5.size)
  rcases b6 with _ | _
  · go_wp2
    go_ret
    exact ⟨ret_chk (by rw [← HQ.out, show R = false from by rw [HR.out]; rfl]; rfl), hA.trans (hQ6.mono hs1)⟩
  have z5 := (HK1.out.below hQ6 HK1.out.lt).cell 5
  have z6 := (HK1.out.below hQ6 HK1.out.lt).cell 6
  simp only [gZa, gZb] at z5 z6
  rcases b7 with _ | _
  · have ht : (4 : Int) < (l2.length : Int) := by have := of_decide_eq_false HB7.out; omega
    go_wp2
    go_ret
    exact ⟨ret_chk (by rw [← HQ.out, show R = false from by rw [HR.out]; rfl]; rfl), hA.trans (hQ6.mono hs1)⟩
  have ht7 : ¬ (4 : Int) < (l2.length : Int) := by have := of_decide_eq_true HB7.out; omega
  rcases b8 with _ | _
  · have ht : (16 : Int) < (l3.length : Int) := by have := of_decide_eq_false HB8.out; omega
    go_wp2
    go_ret
    exact ⟨ret_chk (by rw [← HQ.out, show R = false from by rw [HR.out]; rfl]; rfl), hA.trans (hQ6.mono hs1)⟩
  have ht8 : ¬ (16 : Int) < (l3.length : Int) := by have := of_decide_eq_true HB8.out; omega
  have HR2 : Hid (R = (b9 && (b10 && b11))) := Lib.hid (by rw [HR.out]; rfl)
  clear H1 H2 H3 H5 H6 HR HB4 HB5 HB7 HB8
  go_wp2
  go_loopw [3] (fun i W => ∃ k : Nat, k ≤ l.length ∧ i = .int .i64 k ∧ Hid (UpTo (fun y : MSet => setB P y.plain) (fun a b => ltTx a.path_ b.path_) l k) ∧ Below w1.heap.size w1 W) (fun i _ => l.length - (intOf i).toNat)
  case atStart => exact ⟨0, Nat.zero_le _, rfl, Lib.hid upTo_zero, hQ6⟩
  case round =>
    obtain ⟨k, hk, rfl, HU, hB⟩ := hrel
    have hlz : w.heap.size < wr.heap.size := Nat.lt_of_lt_of_le HK1.out.lt hB.size
    have z0 := (HK1.out.below hB HK1.out.lt).cell 0
    have z1 := (HK1.out.below hB HK1.out.lt).cell 1
    have z2 := (HK1.out.below hB HK1.out.lt).cell 2
    have z3 := (HK1.out.below hB HK1.out.lt).cell 3
    have z4 := (HK1.out.below hB HK1.out.lt).cell 4
    have z5 := (HK1.out.below hB HK1.out.lt).cell 5
    have z6 := (HK1.out.below hB HK1.out.lt).cell 6
    simp only [gZa, gZb] at z0 z1 z2 z3 z4 z5 z6
    by_cases hlt : k < l.length
    · obtain ⟨y, hy⟩ : ∃ y, l[k]? = some y := ⟨l[k], qZa hlt⟩
      have hrw := HRD.out.below hB
      obtain ⟨b, off, rfl, hb, hc⟩ := Rd.elem (n := 5) (fun _ => rfl) (by omega) hrw hy
      have c0 : wr.cell? ⟨b, off + k * 5, none⟩ = some (.string y.path_) := hc 0 _ rfl
      have c1 : wr.cell? ⟨b, off + k * 5 + 1, none⟩ = some (.string y.origin_) := hc 1 _ rfl
      have c2 : wr.cell? ⟨b, off + k * 5 + 2, none⟩ = some (.slice y.body_.A y.body_.l.length y.body_.c) := hc 2 _ rfl
      have c3 : wr.cell? ⟨b, off + k * 5 + 3, none⟩ = some (.slice y.snaps_.A y.snaps_.l.length y.snaps_.c) := hc 3 _ rfl
      have c4 : wr.cell? ⟨b, off + k * 5 + 4, none⟩ = some (.slice y.own_.A y.own_.l.length y.own_.c) := hc 4 _ rfl
      have HSET := Lib.hid (fun W hW => HS.out W hW y (List.mem_of_getElem? hy))
      have HY := Lib.hid hy
      clear hc hy
      rcases g : setB P y.plain with _ | _
      · have hb9 : b9 = false := HB9.out (goodL_bad HY.out g)
        rw [g] at HSET
        subst hb9
        clear g HU hrw HY HB9 HE9
        go_upto_region 6 with fail
        refine wp_region_noPanic ?_
        refine wp_region_last 27 (fun W => W.cell? ⟨w.heap.size, 0, none⟩ = some (.string xn) ∧ W.cell? ⟨w.heap.size, 1, none⟩ = some (.int .i64 xq) ∧ W.cell? ⟨w.heap.size, 2, none⟩ = some (.int .i64 xt) ∧ W.cell? ⟨w.heap.size, 3, none⟩ = some (.slice (some ⟨b, off, none⟩) l.length ca) ∧ W.cell? ⟨w.heap.size, 4, none⟩ = some (.slice xg.A xg.l.length xg.c) ∧ W.cell? ⟨w.heap.size, 5, none⟩ = some (.slice A2 l2.length cb) ∧ W.cell? ⟨w.heap.size, 6, none⟩ = some (.slice A3 l3.length cc) ∧ W.cell? ⟨b, off + k * 5, none⟩ = some (.string y.path_) ∧ W.cell? ⟨b, off + k * 5 + 1, none⟩ = some (.string y.origin_) ∧ W.cell? ⟨b, off + k * 5 + 2, none⟩ = some (.slice y.body_.A y.body_.l.length y.body_.c) ∧ W.cell? ⟨b, off + k * 5 + 3, none⟩ = some (.slice y.snaps_.A y.snaps_.l.length y.snaps_.c) ∧ W.cell? ⟨b, off + k * 5 + 4, none⟩ = some (.slice y.own_.A y.own_.l.length y.own_.c)) (by kernel_rfl) ⟨z0, z1, z2, z3, z4, z5, z6, c0, c1, c2, c3, c4⟩ (fun hHeld => ?_)
        refine tkA 12 (i := 0) (oi := ⟨some 58, _, _, _, _, _⟩) rfl hHeld ?_
        try simp only [Act.put, pZa, pZb, pZc]
        refine tkA 12 (i := 1) (oi := ⟨some 59, _, _, _, _, _⟩) rfl hHeld ?_
        try simp only [Act.put, pZa, pZb, pZc]
        refine tkA 12 (i := 2) (oi := ⟨some 60, _, _, _, _, _⟩) rfl hHeld ?_
        try simp only [Act.put, pZa, pZb, pZc]
        refine tkA 12 (i := 3) (oi := ⟨some 61, _, _, _, _, _⟩) rfl hHeld ?_
        try simp only [Act.put, pZa, pZb, pZc]
        refine tkA 12 (i := 4) (oi := ⟨some 62, _, _, _, _, _⟩) rfl hHeld ?_
        try simp only [Act.put, pZa, pZb, pZc]
        refine tkA 12 (i := 5) (oi := ⟨some 63, _, _, _, _, _⟩) rfl hHeld ?_
        try simp only [Act.put, pZa, pZb, pZc]
        refine wpAnyL_one (i := 6) (o := ⟨some 64, _, _, _, _, _⟩) (by kernel_rfl) rfl (fun K hK => ?_)
        clear hHeld
        go_simp
        refine (HSET.out _ (hB.trans (belowDrewN wr 1 _))).mono ?_
        rintro e w3 ⟨rfl, hB3⟩
        go_wp2_with fail
        refine hK.out _ _ ⟨(hB3.cell (p := ⟨w.heap.size, 0, none⟩) hlz).trans z0, (hB3.cell (p := ⟨w.heap.size, 1, none⟩) hlz).trans z1, (hB3.cell (p := ⟨w.heap.size, 2, none⟩) hlz).trans z2, (hB3.cell (p := ⟨w.heap.size, 3, none⟩) hlz).trans z3, (hB3.cell (p := ⟨w.heap.size, 4, none⟩) hlz).trans z4, (hB3.cell (p := ⟨w.heap.size, 5, none⟩) hlz).trans z5, (hB3.cell (p := ⟨w.heap.size, 6, none⟩) hlz).trans z6, (hB3.cell (p := ⟨b, off + k * 5, none⟩) hb).trans c0, (hB3.cell (p := ⟨b, off + k * 5 + 1, none⟩) hb).trans c1, (hB3.cell (p := ⟨b, off + k * 5 + 2, none⟩) hb).trans c2, (hB3.cell (p := ⟨b, off + k * 5 + 3, none⟩) hb).trans c3, (hB3.cell (p := ⟨b, off + k * 5 + 4, none⟩) hb).trans c4⟩ (fun hHeld => ?_)
        clear hK K
        try simp only [Act.put, pZa, pZb, pZc]
        refine tkA 12 (i := 7) (oi := ⟨some 65, _, _, _, _, _⟩) rfl hHeld ?_
        try simp only [Act.put, pZa, pZb, pZc]
        refine tkA 12 (i := 8) (oi := ⟨some 66, _, _, _, _, _⟩) rfl hHeld ?_
        try simp only [Act.put, pZa, pZb, pZc]
        refine tkB 12 (i := 9) (oi := ⟨some 67, _, _, _, _, _⟩) (v := undef) rfl (Or.inr ⟨by rfl, rfl⟩) hHeld ?_
        try simp only [Act.put, pZa, pZb, pZc]
        refine tkB 12 (i := 10) (oi := ⟨some 68, _, _, _, _, _⟩) (v := undef) rfl (Or.inr ⟨by rfl, rfl⟩) hHeld ?_
        try simp only [Act.put, pZa, pZb, pZc]
        refine tkB 12 (i := 11) (oi := ⟨some 69, _, _, _, _, _⟩) (v := undef) rfl (Or.inr ⟨by rfl, rfl⟩) hHeld ?_
        try simp only [Act.put, pZa, pZb, pZc]
        refine tkB 12 (i := 12) (oi := ⟨some 70, _, _, _, _, _⟩) (v := undef) rfl (Or.inr ⟨by rfl, rfl⟩) hHeld ?_
        try simp only [Act.put, pZa, pZb, pZc]
        refine tkB 12 (i := 13) (oi := ⟨some 71, _, _, _, _, _⟩) (v := undef) rfl (Or.inr ⟨by rfl, rfl⟩) hHeld ?_
        try simp only [Act.put, pZa, pZb, pZc]
        refine tkB 12 (i := 14) (oi := ⟨some 72, _, _, _, _, _⟩) (v := undef) rfl (Or.inr ⟨by rfl, rfl⟩) hHeld ?_
        try simp only [Act.put, pZa, pZb, pZc]
        refine tkB 12 (i := 15) (oi := ⟨some 73, _, _, _, _, _⟩) (v := undef) rfl (Or.inr ⟨by rfl, rfl⟩) hHeld ?_
        try simp only [Act.put, pZa, pZb, pZc]
        refine tkB 12 (i := 16) (oi := ⟨some 74, _, _, _, _, _⟩) (v := undef) rfl (Or.inr ⟨by rfl, rfl⟩) hHeld ?_
        try simp only [Act.put, pZa, pZb, pZc]
        refine tkB 12 (i := 17) (oi := ⟨some 75, _, _, _, _, _⟩) (v := undef) rfl (Or.inr ⟨by rfl, rfl⟩) hHeld ?_
        try simp only [Act.put, pZa, pZb, pZc]
        refine tkB 12 (i := 18) (oi := ⟨some 76, _, _, _, _, _⟩) (v := undef) rfl (Or.inr ⟨by rfl, rfl⟩) hHeld ?_
        try simp only [Act.put, pZa, pZb, pZc]
        refine tkB 12 (i := 19) (oi := ⟨some 77, _, _, _, _, _⟩) (v := undef) rfl (Or.inr ⟨by rfl, rfl⟩) hHeld ?_
        try simp only [Act.put, pZa, pZb, pZc]
        refine tkB 12 (i := 20) (oi := ⟨some 78, _, _, _, _, _⟩) (v := undef) rfl (Or.inr ⟨by rfl, rfl⟩) hHeld ?_
        try simp only [Act.put, pZa, pZb, pZc]
        refine tkB 12 (i := 21) (oi := ⟨some 79, _, _, _, _, _⟩) (v := undef) rfl (Or.inr ⟨by rfl, rfl⟩) hHeld ?_
        try simp only [Act.put, pZa, pZb, pZc]
        refine tkB 12 (i := 22) (oi := ⟨some 80, _, _, _, _, _⟩) (v := undef) rfl (Or.inr ⟨by rfl, rfl⟩) hHeld ?_
        try simp only [Act.put, pZa, pZb, pZc]
        refine tkB 12 (i := 23) (oi := ⟨some 81, _, _, _, _, _⟩) (v := undef) rfl (Or.inr ⟨by rfl, rfl⟩) hHeld ?_
        try simp only [Act.put, pZa, pZb, pZc]
        refine tkB 12 (i := 24) (oi := ⟨some 82, _, _, _, _, _⟩) (v := undef) rfl (Or.inr ⟨by rfl, rfl⟩) hHeld ?_
        try simp only [Act.put, pZa, pZb, pZc]
        refine tkB 12 (i := 25) (oi := ⟨some 83, _, _, _, _, _⟩) (v := undef) rfl (Or.inr ⟨by rfl, rfl⟩) hHeld ?_
        try simp only [Act.put, pZa, pZb, pZc]
        refine tkB 12 (i := 26) (oi := ⟨some 84, _, _, _, _, _⟩) (v := undef) rfl (Or.inr ⟨by rfl, rfl⟩) hHeld ?_
        try simp only [Act.put, pZa, pZb, pZc]
        refine wpAnyL_last (i := 27) (o := ⟨some 85, _, _, _, _, _⟩) (by kernel_rfl) rfl (by kernel_rfl) (fun K hK => ?_)
        clear hHeld
        go_simp
        refine hK.out _ _ ?_
        clear hK K
        try simp only [Act.put, pZa, pZb, pZc]
        refine wpAnyL_done (by kernel_rfl) ?_ _
        refine NoPanic.normal ?_
        have hQ3 : Below w1.heap.size w1 w3 := (hB.trans (belowDrewN wr 1 _)).trans (hB3.mono hB.size)
        go_wp2
        go_ret
        exact ⟨ret_chk (by rw [← HQ.out, show R = false from by rw [HR2.out]; rfl]; rfl), hA.trans (hQ3.mono hs1)⟩
      · rw [g] at HSET
        have hway : (Hid (k = 0) ∧ decide (0 < k) = false) ∨ ∃ (i : Nat) (q : MSet), decide (0 < k) = true ∧ IntKind.i64.wrap ((k : Int) - 1) = (i : Int) ∧ i < l.length ∧ Hid (k = i + 1) ∧ Hid (l[i]? = some q) := by
          rcases k with _ | j
          · exact .inl ⟨Lib.hid rfl, rfl⟩
          · obtain ⟨q, hq⟩ : ∃ q, l[j]? = some q := ⟨l[j]'(by omega), qZa (by omega)⟩
            exact .inr ⟨j, q, decide_eq_true (by omega), by rw [show (((j + 1 : Nat) : Int) - 1) = (j : Int) by omega]; exact IntWalk.i64_in _ (by omega), by omega, Lib.hid rfl, Lib.hid hq⟩
        rcases hway with ⟨HK0, hj0⟩ | ⟨i, q, hj0, hw, hi, HKI, HQ2⟩
        · have HU' : Hid (UpTo (fun y : MSet => setB P y.plain) (fun a b => ltTx a.path_ b.path_) l (k + 1)) := Lib.hid (upTo_succ HU.out HY.out g fun j y h => by have := HK0.out; omega)
          clear g HU hrw HY
          go_upto_region 6 with fail
          refine wp_region_noPanic ?_
          refine wp_region_last 27 (fun W => W.cell? ⟨w.heap.size, 0, none⟩ = some (.string xn) ∧ W.cell? ⟨w.heap.size, 1, none⟩ = some (.int .i64 xq) ∧ W.cell? ⟨w.heap.size, 2, none⟩ = some (.int .i64 xt) ∧ W.cell? ⟨w.heap.size, 3, none⟩ = some (.slice (some ⟨b, off, none⟩) l.length ca) ∧ W.cell? ⟨w.heap.size, 4, none⟩ = some (.slice xg.A xg.l.length xg.c) ∧ W.cell? ⟨w.heap.size, 5, none⟩ = some (.slice A2 l2.length cb) ∧ W.cell? ⟨w.heap.size, 6, none⟩ = some (.slice A3 l3.length cc) ∧ W.cell? ⟨b, off + k * 5, none⟩ = some (.string y.path_) ∧ W.cell? ⟨b, off + k * 5 + 1, none⟩ = some (.string y.origin_) ∧ W.cell? ⟨b, off + k * 5 + 2, none⟩ = some (.slice y.body_.A y.body_.l.length y.body_.c) ∧ W.cell? ⟨b, off + k * 5 + 3, none⟩ = some (.slice y.snaps_.A y.snaps_.l.length y.snaps_.c) ∧ W.cell? ⟨b, off + k * 5 + 4, none⟩ = some (.slice y.own_.A y.own_.l.length y.own_.c)) (by kernel_rfl) ⟨z0, z1, z2, z3, z4, z5, z6, c0, c1, c2, c3, c4⟩ (fun hHeld => ?_)
          refine tkA 12 (i := 0) (oi := ⟨some 58, _, _, _, _, _⟩) rfl hHeld ?_
          try simp only [Act.put, pZa, pZb, pZc]
          refine tkA 12 (i := 1) (oi := ⟨some 59, _, _, _, _, _⟩) rfl hHeld ?_
          try simp only [Act.put, pZa, pZb, pZc]
          refine tkA 12 (i := 2) (oi := ⟨some 60, _, _, _, _, _⟩) rfl hHeld ?_
          try simp only [Act.put, pZa, pZb, pZc]
          refine tkA 12 (i := 3) (oi := ⟨some 61, _, _, _, _, _⟩) rfl hHeld ?_
          try simp only [Act.put, pZa, pZb, pZc]
          refine tkA 12 (i := 4) (oi := ⟨some 62, _, _, _, _, _⟩) rfl hHeld ?_
          try simp only [Act.put, pZa, pZb, pZc]
          refine tkA 12 (i := 5) (oi := ⟨some 63, _, _, _, _, _⟩) rfl hHeld ?_
          try simp only [Act.put, pZa, pZb, pZc]
          refine wpAnyL_one (i := 6) (o := ⟨some 64, _, _, _, _, _⟩) (by kernel_rfl) rfl (fun K hK => ?_)
          clear hHeld
          go_simp
          refine (HSET.out _ (hB.trans (belowDrewN wr 1 _))).mono ?_
          rintro e w3 ⟨rfl, hB3⟩
          go_wp2_with fail
          refine hK.out _ _ ⟨(hB3.cell (p := ⟨w.heap.size, 0, none⟩) hlz).trans z0, (hB3.cell (p := ⟨w.heap.size, 1, none⟩) hlz).trans z1, (hB3.cell (p := ⟨w.heap.size, 2, none⟩) hlz).trans z2, (hB3.cell (p := ⟨w.heap.size, 3, none⟩) hlz).trans z3, (hB3.cell (p := ⟨w.heap.size, 4, none⟩) hlz).trans z4, (hB3.cell (p := ⟨w.heap.size, 5, none⟩) hlz).trans z5, (hB3.cell (p := ⟨w.heap.size, 6, none⟩) hlz).trans z6, (hB3.cell (p := ⟨b, off + k * 5, none⟩) hb).trans c0, (hB3.cell (p := ⟨b, off + k * 5 + 1, none⟩) hb).trans c1, (hB3.cell (p := ⟨b, off + k * 5 + 2, none⟩) hb).trans c2, (hB3.cell (p := ⟨b, off + k * 5 + 3, none⟩) hb).trans c3, (hB3.cell (p := ⟨b, off + k * 5 + 4, none⟩) hb).trans c4⟩ (fun hHeld => ?_)
          clear hK K
          try simp only [Act.put, pZa, pZb, pZc]
          refine tkA 12 (i := 7) (oi := ⟨some 65, _, _, _, _, _⟩) rfl hHeld ?_
          try simp only [Act.put, pZa, pZb, pZc]
          refine tkA 12 (i := 8) (oi := ⟨some 66, _, _, _, _, _⟩) rfl hHeld ?_
          try simp only [Act.put, pZa, pZb, pZc]
          refine tkA 12 (i := 9) (oi := ⟨some 67, _, _, _, _, _⟩) rfl hHeld ?_
          try simp only [Act.put, pZa, pZb, pZc]
          refine tkA 12 (i := 10) (oi := ⟨some 68, _, _, _, _, _⟩) rfl hHeld ?_
          try simp only [Act.put, pZa, pZb, pZc]
          refine tkA 12 (i := 11) (oi := ⟨some 69, _, _, _, _, _⟩) rfl hHeld ?_
          try simp only [Act.put, pZa, pZb, pZc]
          refine tkB 12 (i := 12) (oi := ⟨some 70, _, _, _, _, _⟩) (v := undef) rfl (Or.inr ⟨by rfl, rfl⟩) hHeld ?_
          try simp only [Act.put, pZa, pZb, pZc]
          refine tkB 12 (i := 13) (oi := ⟨some 71, _, _, _, _, _⟩) (v := undef) rfl (Or.inr ⟨by rfl, rfl⟩) hHeld ?_
          try simp only [Act.put, pZa, pZb, pZc]
          refine tkB 12 (i := 14) (oi := ⟨some 72, _, _, _, _, _⟩) (v := undef) rfl (Or.inr ⟨by rfl, rfl⟩) hHeld ?_
          try simp only [Act.put, pZa, pZb, pZc]
          refine tkB 12 (i := 15) (oi := ⟨some 73, _, _, _, _, _⟩) (v := undef) rfl (Or.inr ⟨by rfl, rfl⟩) hHeld ?_
          try simp only [Act.put, pZa, pZb, pZc]
          refine tkB 12 (i := 16) (oi := ⟨some 74, _, _, _, _, _⟩) (v := undef) rfl (Or.inr ⟨by rfl, rfl⟩) hHeld ?_
          try simp only [Act.put, pZa, pZb, pZc]
          refine tkB 12 (i := 17) (oi := ⟨some 75, _, _, _, _, _⟩) (v := undef) rfl (Or.inr ⟨by rfl, rfl⟩) hHeld ?_
          try simp only [Act.put, pZa, pZb, pZc]
          refine tkB 12 (i := 18) (oi := ⟨some 76, _, _, _, _, _⟩) (v := undef) rfl (Or.inr ⟨by rfl, rfl⟩) hHeld ?_
          try simp only [Act.put, pZa, pZb, pZc]
          refine tkB 12 (i := 19) (oi := ⟨some 77, _, _, _, _, _⟩) (v := undef) rfl (Or.inr ⟨by rfl, rfl⟩) hHeld ?_
          try simp only [Act.put, pZa, pZb, pZc]
          refine tkB 12 (i := 20) (oi := ⟨some 78, _, _, _, _, _⟩) (v := undef) rfl (Or.inr ⟨by rfl, rfl⟩) hHeld ?_
          try simp only [Act.put, pZa, pZb, pZc]
          refine tkB 12 (i := 21) (oi := ⟨some 79, _, _, _, _, _⟩) (v := undef) rfl (Or.inr ⟨by rfl, rfl⟩) hHeld ?_
          try simp only [Act.put, pZa, pZb, pZc]
          refine tkB 12 (i := 22) (oi := ⟨some 80, _, _, _, _, _⟩) (v := undef) rfl (Or.inr ⟨by rfl, rfl⟩) hHeld ?_
          try simp only [Act.put, pZa, pZb, pZc]
          refine tkB 12 (i := 23) (oi := ⟨some 81, _, _, _, _, _⟩) (v := undef) rfl (Or.inr ⟨by rfl, rfl⟩) hHeld ?_
          try simp only [Act.put, pZa, pZb, pZc]
          refine tkB 12 (i := 24) (oi := ⟨some 82, _, _, _, _, _⟩) (v := undef) rfl (Or.inr ⟨by rfl, rfl⟩) hHeld ?_
          try simp only [Act.put, pZa, pZb, pZc]
          refine tkB 12 (i := 25) (oi := ⟨some 83, _, _, _, _, _⟩) (v := undef) rfl (Or.inr ⟨by rfl, rfl⟩) hHeld ?_
          try simp only [Act.put, pZa, pZb, pZc]
          refine tkA 12 (i := 26) (oi := ⟨some 84, _, _, _, _, _⟩) rfl hHeld ?_
          try simp only [Act.put, pZa, pZb, pZc]
          refine wpAnyL_last (i := 27) (o := ⟨some 85, _, _, _, _, _⟩) (by kernel_rfl) rfl (by kernel_rfl) (fun K hK => ?_)
          clear hHeld
          go_simp
          refine hK.out _ _ ?_
          clear hK K
          try simp only [Act.put, pZa, pZb, pZc]
          refine wpAnyL_done (by kernel_rfl) ?_ _
          refine NoPanic.normal ?_
          have hQ3 : Below w1.heap.size w1 w3 := (hB.trans (belowDrewN wr 1 _)).trans (hB3.mono hB.size)
          go_wp2
          go_roundw
          case rel => exact ⟨k + 1, by omega, by go_num, HU', hQ3⟩
          case measure => simp [intOf]; omega
        · obtain ⟨b', off', e', _, hd⟩ := Rd.elem (n := 5) (fun _ => rfl) (by omega) hrw HQ2.out
          injection e' with e'
          injection e' with e1 e2 _
          subst e1 e2
          have d0 : wr.cell? ⟨b, off + i * 5, none⟩ = some (.string q.path_) := hd 0 _ rfl
          clear hd hrw
          rcases lt_ways (x := y.path_) (y := q.path_) with ⟨hv, h1, h2⟩ | ⟨hv, hor⟩
          · have HU' : Hid (UpTo (fun y : MSet => setB P y.plain) (fun a b => ltTx a.path_ b.path_) l (k + 1)) := Lib.hid (upTo_succ HU.out HY.out g fun j z h hz => by
              obtain rfl : j = i := by have := HKI.out; omega
              rw [HQ2.out] at hz
              injection hz with hz
              subst hz
              exact hv)
            clear g HU HY HQ2 hv
            go_upto_region 6 with fail
            refine wp_region_noPanic ?_
            refine wp_region_last 27 (fun W => W.cell? ⟨w.heap.size, 0, none⟩ = some (.string xn) ∧ W.cell? ⟨w.heap.size, 1, none⟩ = some (.int .i64 xq) ∧ W.cell? ⟨w.heap.size, 2, none⟩ = some (.int .i64 xt) ∧ W.cell? ⟨w.heap.size, 3, none⟩ = some (.slice (some ⟨b, off, none⟩) l.length ca) ∧ W.cell? ⟨w.heap.size, 4, none⟩ = some (.slice xg.A xg.l.length xg.c) ∧ W.cell? ⟨w.heap.size, 5, none⟩ = some (.slice A2 l2.length cb) ∧ W.cell? ⟨w.heap.size, 6, none⟩ = some (.slice A3 l3.length cc) ∧ W.cell? ⟨b, off + k * 5, none⟩ = some (.string y.path_) ∧ W.cell? ⟨b, off + k * 5 + 1, none⟩ = some (.string y.origin_) ∧ W.cell? ⟨b, off + k * 5 + 2, none⟩ = some (.slice y.body_.A y.body_.l.length y.body_.c) ∧ W.cell? ⟨b, off + k * 5 + 3, none⟩ = some (.slice y.snaps_.A y.snaps_.l.length y.snaps_.c) ∧ W.cell? ⟨b, off + k * 5 + 4, none⟩ = some (.slice y.own_.A y.own_.l.length y.own_.c) ∧ W.cell? ⟨b, off + i * 5, none⟩ = some (.string q.path_)) (by kernel_rfl) ⟨z0, z1, z2, z3, z4, z5, z6, c0, c1, c2, c3, c4, d0⟩ (fun hHeld => ?_)
            refine tkA 12 (i := 0) (oi := ⟨some 58, _, _, _, _, _⟩) rfl hHeld ?_
            try simp only [Act.put, pZa, pZb, pZc]
            refine tkA 12 (i := 1) (oi := ⟨some 59, _, _, _, _, _⟩) rfl hHeld ?_
            try simp only [Act.put, pZa, pZb, pZc]
            refine tkA 12 (i := 2) (oi := ⟨some 60, _, _, _, _, _⟩) rfl hHeld ?_
            try simp only [Act.put, pZa, pZb, pZc]
            refine tkA 12 (i := 3) (oi := ⟨some 61, _, _, _, _, _⟩) rfl hHeld ?_
            try simp only [Act.put, pZa, pZb, pZc]
            refine tkA 12 (i := 4) (oi := ⟨some 62, _, _, _, _, _⟩) rfl hHeld ?_
            try simp only [Act.put, pZa, pZb, pZc]
            refine tkA 12 (i := 5) (oi := ⟨some 63, _, _, _, _, _⟩) rfl hHeld ?_
            try simp only [Act.put, pZa, pZb, pZc]
            refine wpAnyL_one (i := 6) (o := ⟨some 64, _, _, _, _, _⟩) (by kernel_rfl) rfl (fun K hK => ?_)
            clear hHeld
            go_simp
            refine (HSET.out _ (hB.trans (belowDrewN wr 1 _))).mono ?_
            rintro e w3 ⟨rfl, hB3⟩
            go_wp2_with fail
            refine hK.out _ _ ⟨(hB3.cell (p := ⟨w.heap.size, 0, none⟩) hlz).trans z0, (hB3.cell (p := ⟨w.heap.size, 1, none⟩) hlz).trans z1, (hB3.cell (p := ⟨w.heap.size, 2, none⟩) hlz).trans z2, (hB3.cell (p := ⟨w.heap.size, 3, none⟩) hlz).trans z3, (hB3.cell (p := ⟨w.heap.size, 4, none⟩) hlz).trans z4, (hB3.cell (p := ⟨w.heap.size, 5, none⟩) hlz).trans z5, (hB3.cell (p := ⟨w.heap.size, 6, none⟩) hlz).trans z6, (hB3.cell (p := ⟨b, off + k * 5, none⟩) hb).trans c0, (hB3.cell (p := ⟨b, off + k * 5 + 1, none⟩) hb).trans c1, (hB3.cell (p := ⟨b, off + k * 5 + 2, none⟩) hb).trans c2, (hB3.cell (p := ⟨b, off + k * 5 + 3, none⟩) hb).trans c3, (hB3.cell (p := ⟨b, off + k * 5 + 4, none⟩) hb).trans c4, (hB3.cell (p := ⟨b, off + i * 5, none⟩) hb).trans d0⟩ (fun hHeld => ?_)
            clear hK K
            try simp only [Act.put, pZa, pZb, pZc]
            refine tkA 12 (i := 7) (oi := ⟨some 65, _, _, _, _, _⟩) rfl hHeld ?_
            try simp only [Act.put, pZa, pZb, pZc]
            refine tkA 12 (i := 8) (oi := ⟨some 66, _, _, _, _, _⟩) rfl hHeld ?_
            try simp only [Act.put, pZa, pZb, pZc]
            refine tkA 12 (i := 9) (oi := ⟨some 67, _, _, _, _, _⟩) rfl hHeld ?_
            try simp only [Act.put, pZa, pZb, pZc]
            refine tkA 12 (i := 10) (oi := ⟨some 68, _, _, _, _, _⟩) rfl hHeld ?_
            try simp only [Act.put, pZa, pZb, pZc]
            refine tkA 12 (i := 11) (oi := ⟨some 69, _, _, _, _, _⟩) rfl hHeld ?_
            try simp only [Act.put, pZa, pZb, pZc]
            refine tkA 12 (i := 12) (oi := ⟨some 70, _, _, _, _, _⟩) rfl hHeld ?_
            try simp only [Act.put, pZa, pZb, pZc]
            refine tkA 12 (i := 13) (oi := ⟨some 71, _, _, _, _, _⟩) rfl hHeld ?_
            try simp only [Act.put, pZa, pZb, pZc]
            refine tkA 12 (i := 14) (oi := ⟨some 72, _, _, _, _, _⟩) rfl hHeld ?_
            try simp only [Act.put, pZa, pZb, pZc]
            refine tkA 12 (i := 15) (oi := ⟨some 73, _, _, _, _, _⟩) rfl hHeld ?_
            try simp only [Act.put, pZa, pZb, pZc]
            refine tkA 12 (i := 16) (oi := ⟨some 74, _, _, _, _, _⟩) rfl hHeld ?_
            try simp only [Act.put, pZa, pZb, pZc]
            refine tkA 12 (i := 17) (oi := ⟨some 75, _, _, _, _, _⟩) rfl hHeld ?_
            try simp only [Act.put, pZa, pZb, pZc]
            refine tkA 12 (i := 18) (oi := ⟨some 76, _, _, _, _, _⟩) rfl hHeld ?_
            try simp only [Act.put, pZa, pZb, pZc]
            refine tkA 12 (i := 19) (oi := ⟨some 77, _, _, _, _, _⟩) rfl hHeld ?_
            try simp only [Act.put, pZa, pZb, pZc]
            refine tkA 12 (i := 20) (oi := ⟨some 78, _, _, _, _, _⟩) rfl hHeld ?_
            try simp only [Act.put, pZa, pZb, pZc]
            refine tkA 12 (i := 21) (oi := ⟨some 79, _, _, _, _, _⟩) rfl hHeld ?_
            try simp only [Act.put, pZa, pZb, pZc]
            refine tkA 12 (i := 22) (oi := ⟨some 80, _, _, _, _, _⟩) rfl hHeld ?_
            try simp only [Act.put, pZa, pZb, pZc]
            refine tkA 12 (i := 23) (oi := ⟨some 81, _, _, _, _, _⟩) rfl hHeld ?_
            try simp only [Act.put, pZa, pZb, pZc]
            refine tkA 12 (i := 24) (oi := ⟨some 82, _, _, _, _, _⟩) rfl hHeld ?_
            try simp only [Act.put, pZa, pZb, pZc]
            refine tkA 12 (i := 25) (oi := ⟨some 83, _, _, _, _, _⟩) rfl hHeld ?_
            try simp only [Act.put, pZa, pZb, pZc]
            refine tkA 12 (i := 26) (oi := ⟨some 84, _, _, _, _, _⟩) rfl hHeld ?_
            try simp only [Act.put, pZa, pZb, pZc]
            refine wpAnyL_last (i := 27) (o := ⟨some 85, _, _, _, _, _⟩) (by kernel_rfl) rfl (by kernel_rfl) (fun K hK => ?_)
            clear hHeld
            go_simp
            refine hK.out _ _ ?_
            clear hK K
            try simp only [Act.put, pZa, pZb, pZc]
            refine wpAnyL_done (by kernel_rfl) ?_ _
            refine NoPanic.normal ?_
            have hQ3 : Below w1.heap.size w1 w3 := (hB.trans (belowDrewN wr 1 _)).trans (hB3.mono hB.size)
            go_wp2
            go_roundw
            case rel => exact ⟨k + 1, by omega, by go_num, HU', hQ3⟩
            case measure => simp [intOf]; omega
          · have hb9 : b9 = false := HB9.out (goodL_low HQ2.out (by rw [← HKI.out]; exact HY.out) hv)
            subst hb9
            clear g HU HY HQ2 hv HB9 HE9
            rcases hor with h1 | ⟨h1, h2⟩
            all_goals
              go_upto_region 6 with fail
              refine wp_region_noPanic ?_
              refine wp_region_last 27 (fun W => W.cell? ⟨w.heap.size, 0, none⟩ = some (.string xn) ∧ W.cell? ⟨w.heap.size, 1, none⟩ = some (.int .i64 xq) ∧ W.cell? ⟨w.heap.size, 2, none⟩ = some (.int .i64 xt) ∧ W.cell? ⟨w.heap.size, 3, none⟩ = some (.slice (some ⟨b, off, none⟩) l.length ca) ∧ W.cell? ⟨w.heap.size, 4, none⟩ = some (.slice xg.A xg.l.length xg.c) ∧ W.cell? ⟨w.heap.size, 5, none⟩ = some (.slice A2 l2.length cb) ∧ W.cell? ⟨w.heap.size, 6, none⟩ = some (.slice A3 l3.length cc) ∧ W.cell? ⟨b, off + k * 5, none⟩ = some (.string y.path_) ∧ W.cell? ⟨b, off + k * 5 + 1, none⟩ = some (.string y.origin_) ∧ W.cell? ⟨b, off + k * 5 + 2, none⟩ = some (.slice y.body_.A y.body_.l.length y.body_.c) ∧ W.cell? ⟨b, off + k * 5 + 3, none⟩ = some (.slice y.snaps_.A y.snaps_.l.length y.snaps_.c) ∧ W.cell? ⟨b, off + k * 5 + 4, none⟩ = some (.slice y.own_.A y.own_.l.length y.own_.c) ∧ W.cell? ⟨b, off + i * 5, none⟩ = some (.string q.path_)) (by kernel_rfl) ⟨z0, z1, z2, z3, z4, z5, z6, c0, c1, c2, c3, c4, d0⟩ (fun hHeld => ?_)
              refine tkA 12 (i := 0) (oi := ⟨some 58, _, _, _, _, _⟩) rfl hHeld ?_
              try simp only [Act.put, pZa, pZb, pZc]
              refine tkA 12 (i := 1) (oi := ⟨some 59, _, _, _, _, _⟩) rfl hHeld ?_
              try simp only [Act.put, pZa, pZb, pZc]
              refine tkA 12 (i := 2) (oi := ⟨some 60, _, _, _, _, _⟩) rfl hHeld ?_
              try simp only [Act.put, pZa, pZb, pZc]
              refine tkA 12 (i := 3) (oi := ⟨some 61, _, _, _, _, _⟩) rfl hHeld ?_
              try simp only [Act.put, pZa, pZb, pZc]
              refine tkA 12 (i := 4) (oi := ⟨some 62, _, _, _, _, _⟩) rfl hHeld ?_
              try simp only [Act.put, pZa, pZb, pZc]
              refine tkA 12 (i := 5) (oi := ⟨some 63, _, _, _, _, _⟩) rfl hHeld ?_
              try simp only [Act.put, pZa, pZb, pZc]
              refine wpAnyL_one (i := 6) (o := ⟨some 64, _, _, _, _, _⟩) (by kernel_rfl) rfl (fun K hK => ?_)
              clear hHeld
              go_simp
              refine (HSET.out _ (hB.trans (belowDrewN wr 1 _))).mono ?_
              rintro e w3 ⟨rfl, hB3⟩
              go_wp2_with fail
              refine hK.out _ _ ⟨(hB3.cell (p := ⟨w.heap.size, 0, none⟩) hlz).trans z0, (hB3.cell (p := ⟨w.heap.size, 1, none⟩) hlz).trans z1, (hB3.cell (p := ⟨w.heap.size, 2, none⟩) hlz).trans z2, (hB3.cell (p := ⟨w.heap.size, 3, none⟩) hlz).trans z3, (hB3.cell (p := ⟨w.heap.size, 4, none⟩) hlz).trans z4, (hB3.cell (p := ⟨w.heap.size, 5, none⟩) hlz).trans z5, (hB3.cell (p := ⟨w.heap.size, 6, none⟩) hlz).trans z6, (hB3.cell (p := ⟨b, off + k * 5, none⟩) hb).trans c0, (hB3.cell (p := ⟨b, off + k * 5 + 1, none⟩) hb).trans c1, (hB3.cell (p := ⟨b, off + k * 5 + 2, none⟩) hb).trans c2, (hB3.cell (p := ⟨b, off + k * 5 + 3, none⟩) hb).trans c3, (hB3.cell (p := ⟨b, off + k * 5 + 4, none⟩) hb).trans c4, (hB3.cell (p := ⟨b, off + i * 5, none⟩) hb).trans d0⟩ (fun hHeld => ?_)
              clear hK K
              try simp only [Act.put, pZa, pZb, pZc]
              refine tkA 12 (i := 7) (oi := ⟨some 65, _, _, _, _, _⟩) rfl hHeld ?_
              try simp only [Act.put, pZa, pZb, pZc]
              refine tkA 12 (i := 8) (oi := ⟨some 66, _, _, _, _, _⟩) rfl hHeld ?_
              try simp only [Act.put, pZa, pZb, pZc]
              refine tkA 12 (i := 9) (oi := ⟨some 67, _, _, _, _, _⟩) rfl hHeld ?_
              try simp only [Act.put, pZa, pZb, pZc]
              refine tkA 12 (i := 10) (oi := ⟨some 68, _, _, _, _, _⟩) rfl hHeld ?_
              try simp only [Act.put, pZa, pZb, pZc]
              refine tkA 12 (i := 11) (oi := ⟨some 69, _, _, _, _, _⟩) rfl hHeld ?_
              try simp only [Act.put, pZa, pZb, pZc]
              refine tkA 12 (i := 12) (oi := ⟨some 70, _, _, _, _, _⟩) rfl hHeld ?_
              try simp only [Act.put, pZa, pZb, pZc]
              refine tkA 12 (i := 13) (oi := ⟨some 71, _, _, _, _, _⟩) rfl hHeld ?_
              try simp only [Act.put, pZa, pZb, pZc]
              refine tkA 12 (i := 14) (oi := ⟨some 72, _, _, _, _, _⟩) rfl hHeld ?_
              try simp only [Act.put, pZa, pZb, pZc]
              refine tkA 12 (i := 15) (oi := ⟨some 73, _, _, _, _, _⟩) rfl hHeld ?_
              try simp only [Act.put, pZa, pZb, pZc]
              refine tkA 12 (i := 16) (oi := ⟨some 74, _, _, _, _, _⟩) rfl hHeld ?_
              try simp only [Act.put, pZa, pZb, pZc]
              refine tkA 12 (i := 17) (oi := ⟨some 75, _, _, _, _, _⟩) rfl hHeld ?_
              try simp only [Act.put, pZa, pZb, pZc]
              refine tkA 12 (i := 18) (oi := ⟨some 76, _, _, _, _, _⟩) rfl hHeld ?_
              try simp only [Act.put, pZa, pZb, pZc]
              refine tkA 12 (i := 19) (oi := ⟨some 77, _, _, _, _, _⟩) rfl hHeld ?_
              try simp only [Act.put, pZa, pZb, pZc]
              refine tkA 12 (i := 20) (oi := ⟨some 78, _, _, _, _, _⟩) rfl hHeld ?_
              try simp only [Act.put, pZa, pZb, pZc]
              refine tkA 12 (i := 21) (oi := ⟨some 79, _, _, _, _, _⟩) rfl hHeld ?_
              try simp only [Act.put, pZa, pZb, pZc]
              refine tkA 12 (i := 22) (oi := ⟨some 80, _, _, _, _, _⟩) rfl hHeld ?_
              try simp only [Act.put, pZa, pZb, pZc]
              refine tkA 12 (i := 23) (oi := ⟨some 81, _, _, _, _, _⟩) rfl hHeld ?_
              try simp only [Act.put, pZa, pZb, pZc]
              refine tkA 12 (i := 24) (oi := ⟨some 82, _, _, _, _, _⟩) rfl hHeld ?_
              try simp only [Act.put, pZa, pZb, pZc]
              refine tkA 12 (i := 25) (oi := ⟨some 83, _, _, _, _, _⟩) rfl hHeld ?_
              try simp only [Act.put, pZa, pZb, pZc]
              refine tkA 12 (i := 26) (oi := ⟨some 84, _, _, _, _, _⟩) rfl hHeld ?_
              try simp only [Act.put, pZa, pZb, pZc]
              refine wpAnyL_last (i := 27) (o := ⟨some 85, _, _, _, _, _⟩) (by kernel_rfl) rfl (by kernel_rfl) (fun K hK => ?_)
              clear hHeld
              go_simp
              refine hK.out _ _ ?_
              clear hK K
              try simp only [Act.put, pZa, pZb, pZc]
              refine wpAnyL_done (by kernel_rfl) ?_ _
              refine NoPanic.normal ?_
              have hQ3 : Below w1.heap.size w1 w3 := (hB.trans (belowDrewN wr 1 _)).trans (hB3.mono hB.size)
              go_wp2
              go_ret
              exact ⟨ret_chk (by rw [← HQ.out, show R = false from by rw [HR2.out]; rfl]; rfl), hA.trans (hQ3.mono hs1)⟩
    · have hb9 : b9 = true := HE9.out (upTo_end HU.out (by omega))
      have HR3 : Hid (R = (b10 && b11)) := Lib.hid (by rw [HR2.out, hb9, Bool.true_and])
      clear HU HB9 HE9 HR2 hb9 HS
      go_wp2
      go_loopw [4] (fun i W => ∃ k : Nat, k ≤ l2.length ∧ i = .int .i64 k ∧ Hid (UpTo (fun y : MStage => stageB y.plain) (fun a b => ltTx a.into_ b.into_) l2 k) ∧ Below w1.heap.size w1 W) (fun i _ => l2.length - (intOf i).toNat)
      case atStart => exact ⟨0, Nat.zero_le _, rfl, Lib.hid upTo_zero, hB⟩
      case round =>
        obtain ⟨k, hk, rfl, HU, hB⟩ := hrel
        have hlz : w.heap.size < wr.heap.size := Nat.lt_of_lt_of_le HK1.out.lt hB.size
        have z5 := (HK1.out.below hB HK1.out.lt).cell 5
        simp only [gZa, gZb] at z5
        by_cases hlt : k < l2.length
        · obtain ⟨y, hy⟩ : ∃ y, l2[k]? = some y := ⟨l2[k], qZa hlt⟩
          have hrw := HRD2.out.below hB
          obtain ⟨b, off, rfl, hb, hc⟩ := Rd.elem (n := 21) (fun _ => rfl) (by omega) hrw hy
          have c0 : wr.cell? ⟨b, off + k * 21, none⟩ = some (.string y.into_) := hc 0 _ rfl
          obtain ⟨b3', off3', e3', _, HLD0⟩ := load_elem Tryz.prog (n := 21) (fun _ => rfl) (by omega) hrw hy
          injection e3' with e3'
          injection e3' with e31 e32 _
          subst e31 e32
          obtain ⟨cy, hcy⟩ : ∃ cy, y.cells.toArray = cy := ⟨_, rfl⟩
          rw [hcy] at HLD0
          have HLD := Lib.hid HLD0
          have HSET := Lib.hid (fun W hW => HS2.out W hW y (List.mem_of_getElem? hy))
          rw [hcy] at HSET
          have HY := Lib.hid hy
          clear hc hy HLD0 hcy
          rcases g : stageB y.plain with _ | _
          · have hb10 : b10 = false := HB10.out (goodL_bad HY.out g)
            rw [g] at HSET
            subst hb10
            clear g HU hrw HY HB10 HE10
            go_upto_region 11 with fail
            refine wp_region_noPanic ?_
            refine wp_region_last 26 (fun W => Sem.run Tryz.prog (loadCellsFrom ⟨b, off + k * 21, none⟩ 0 21 #[]) W = .ok cy W ∧ (W.cell? ⟨w.heap.size, 5, none⟩ = some (.slice (some ⟨b, off, none⟩) l2.length cb))) (by kernel_rfl) ⟨HLD.out _ (belowDrewN wr 1 _), z5⟩ (fun hHeld => ?_)
            refine tkC 12 (i := 0) (oi := ⟨some 93, _, _, _, _, _⟩) rfl hHeld ?_
            try simp only [Act.put, pZa, pZb, pZc]
            refine tkC 12 (i := 1) (oi := ⟨some 94, _, _, _, _, _⟩) rfl hHeld ?_
            try simp only [Act.put, pZa, pZb, pZc]
            refine tkC 12 (i := 2) (oi := ⟨some 95, _, _, _, _, _⟩) rfl hHeld ?_
            try simp only [Act.put, pZa, pZb, pZc]
            refine tkC 12 (i := 3) (oi := ⟨some 96, _, _, _, _, _⟩) rfl hHeld ?_
            try simp only [Act.put, pZa, pZb, pZc]
            refine tkC 12 (i := 4) (oi := ⟨some 97, _, _, _, _, _⟩) rfl hHeld ?_
            try simp only [Act.put, pZa, pZb, pZc]
            refine wpAnyL_one (i := 5) (o := ⟨some 98, _, _, _, _, _⟩) (by kernel_rfl) rfl (fun K hK => ?_)
            clear hHeld
            go_simp
            refine (HSET.out _ (hB.trans (belowDrewN wr 1 _))).mono ?_
            rintro e w3 ⟨rfl, hB3⟩
            go_wp2_with fail
            refine hK.out _ _ ⟨HLD.out _ ((belowDrewN wr 1 _).trans hB3), (hB3.cell (p := ⟨w.heap.size, 5, none⟩) hlz).trans z5⟩ (fun hHeld => ?_)
            clear hK K
            try simp only [Act.put, pZa, pZb, pZc]
            refine tkC 12 (i := 6) (oi := ⟨some 99, _, _, _, _, _⟩) rfl hHeld ?_
            try simp only [Act.put, pZa, pZb, pZc]
            refine tkC 12 (i := 7) (oi := ⟨some 100, _, _, _, _, _⟩) rfl hHeld ?_
            try simp only [Act.put, pZa, pZb, pZc]
            refine tkB 12 (i := 8) (oi := ⟨some 101, _, _, _, _, _⟩) (v := undef) rfl (Or.inr ⟨by rfl, rfl⟩) hHeld ?_
            try simp only [Act.put, pZa, pZb, pZc]
            refine tkB 12 (i := 9) (oi := ⟨some 102, _, _, _, _, _⟩) (v := undef) rfl (Or.inr ⟨by rfl, rfl⟩) hHeld ?_
            try simp only [Act.put, pZa, pZb, pZc]
            refine tkB 12 (i := 10) (oi := ⟨some 103, _, _, _, _, _⟩) (v := undef) rfl (Or.inr ⟨by rfl, rfl⟩) hHeld ?_
            try simp only [Act.put, pZa, pZb, pZc]
            refine tkB 12 (i := 11) (oi := ⟨some 104, _, _, _, _, _⟩) (v := undef) rfl (Or.inr ⟨by rfl, rfl⟩) hHeld ?_
            try simp only [Act.put, pZa, pZb, pZc]
            refine tkB 12 (i := 12) (oi := ⟨some 105, _, _, _, _, _⟩) (v := undef) rfl (Or.inr ⟨by rfl, rfl⟩) hHeld ?_
            try simp only [Act.put, pZa, pZb, pZc]
            refine tkB 12 (i := 13) (oi := ⟨some 106, _, _, _, _, _⟩) (v := undef) rfl (Or.inr ⟨by rfl, rfl⟩) hHeld ?_
            try simp only [Act.put, pZa, pZb, pZc]
            refine tkB 12 (i := 14) (oi := ⟨some 107, _, _, _, _, _⟩) (v := undef) rfl (Or.inr ⟨by rfl, rfl⟩) hHeld ?_
            try simp only [Act.put, pZa, pZb, pZc]
            refine tkB 12 (i := 15) (oi := ⟨some 108, _, _, _, _, _⟩) (v := undef) rfl (Or.inr ⟨by rfl, rfl⟩) hHeld ?_
            try simp only [Act.put, pZa, pZb, pZc]
            refine tkB 12 (i := 16) (oi := ⟨some 109, _, _, _, _, _⟩) (v := undef) rfl (Or.inr ⟨by rfl, rfl⟩) hHeld ?_
            try simp only [Act.put, pZa, pZb, pZc]
            refine tkB 12 (i := 17) (oi := ⟨some 110, _, _, _, _, _⟩) (v := undef) rfl (Or.inr ⟨by rfl, rfl⟩) hHeld ?_
            try simp only [Act.put, pZa, pZb, pZc]
            refine tkB 12 (i := 18) (oi := ⟨some 111, _, _, _, _, _⟩) (v := undef) rfl (Or.inr ⟨by rfl, rfl⟩) hHeld ?_
            try simp only [Act.put, pZa, pZb, pZc]
            refine tkB 12 (i := 19) (oi := ⟨some 112, _, _, _, _, _⟩) (v := undef) rfl (Or.inr ⟨by rfl, rfl⟩) hHeld ?_
            try simp only [Act.put, pZa, pZb, pZc]
            refine tkB 12 (i := 20) (oi := ⟨some 113, _, _, _, _, _⟩) (v := undef) rfl (Or.inr ⟨by rfl, rfl⟩) hHeld ?_
            try simp only [Act.put, pZa, pZb, pZc]
            refine tkB 12 (i := 21) (oi := ⟨some 114, _, _, _, _, _⟩) (v := undef) rfl (Or.inr ⟨by rfl, rfl⟩) hHeld ?_
            try simp only [Act.put, pZa, pZb, pZc]
            refine tkB 12 (i := 22) (oi := ⟨some 115, _, _, _, _, _⟩) (v := undef) rfl (Or.inr ⟨by rfl, rfl⟩) hHeld ?_
            try simp only [Act.put, pZa, pZb, pZc]
            refine tkB 12 (i := 23) (oi := ⟨some 116, _, _, _, _, _⟩) (v := undef) rfl (Or.inr ⟨by rfl, rfl⟩) hHeld ?_
            try simp only [Act.put, pZa, pZb, pZc]
            refine tkB 12 (i := 24) (oi := ⟨some 117, _, _, _, _, _⟩) (v := undef) rfl (Or.inr ⟨by rfl, rfl⟩) hHeld ?_
            try simp only [Act.put, pZa, pZb, pZc]
            refine tkB 12 (i := 25) (oi := ⟨some 118, _, _, _, _, _⟩) (v := undef) rfl (Or.inr ⟨by rfl, rfl⟩) hHeld ?_
            try simp only [Act.put, pZa, pZb, pZc]
            refine wpAnyL_last (i := 26) (o := ⟨some 119, _, _, _, _, _⟩) (by kernel_rfl) rfl (by kernel_rfl) (fun K hK => ?_)
            clear hHeld
            go_simp
            refine hK.out _ _ ?_
            clear hK K
            try simp only [Act.put, pZa, pZb, pZc]
            refine wpAnyL_done (by kernel_rfl) ?_ _
            refine NoPanic.normal ?_
            have hP3 : Below w1.heap.size w1 w3 := (hB.trans (belowDrewN wr 1 _)).trans (hB3.mono hB.size)
            go_wp2
            go_ret
            exact ⟨ret_chk (by rw [← HQ.out, show R = false from by rw [HR3.out]; rfl]; rfl), hA.trans (hP3.mono hs1)⟩
          · rw [g] at HSET
            have hway : (Hid (k = 0) ∧ decide (0 < k) = false) ∨ ∃ (i : Nat) (q : MStage), decide (0 < k) = true ∧ IntKind.i64.wrap ((k : Int) - 1) = (i : Int) ∧ i < l2.length ∧ Hid (k = i + 1) ∧ Hid (l2[i]? = some q) := by
              rcases k with _ | j
              · exact .inl ⟨Lib.hid rfl, rfl⟩
              · obtain ⟨q, hq⟩ : ∃ q, l2[j]? = some q := ⟨l2[j]'(by omega), qZa (by omega)⟩
                exact .inr ⟨j, q, decide_eq_true (by omega), by rw [show (((j + 1 : Nat) : Int) - 1) = (j : Int) by omega]; exact IntWalk.i64_in _ (by omega), by omega, Lib.hid rfl, Lib.hid hq⟩
            rcases hway with ⟨HK0, hj0⟩ | ⟨i, q, hj0, hw, hi, HKI, HQ2⟩
            · have HU' : Hid (UpTo (fun y : MStage => stageB y.plain) (fun a b => ltTx a.into_ b.into_) l2 (k + 1)) := Lib.hid (upTo_succ HU.out HY.out g fun j y h => by have := HK0.out; omega)
              clear g HU hrw HY
              go_upto_region 11 with fail
              refine wp_region_noPanic ?_
              refine wp_region_last 26 (fun W => Sem.run Tryz.prog (loadCellsFrom ⟨b, off + k * 21, none⟩ 0 21 #[]) W = .ok cy W ∧ (W.cell? ⟨w.heap.size, 5, none⟩ = some (.slice (some ⟨b, off, none⟩) l2.length cb))) (by kernel_rfl) ⟨HLD.out _ (belowDrewN wr 1 _), z5⟩ (fun hHeld => ?_)
              refine tkC 12 (i := 0) (oi := ⟨some 93, _, _, _, _, _⟩) rfl hHeld ?_
              try simp only [Act.put, pZa, pZb, pZc]
              refine tkC 12 (i := 1) (oi := ⟨some 94, _, _, _, _, _⟩) rfl hHeld ?_
              try simp only [Act.put, pZa, pZb, pZc]
              refine tkC 12 (i := 2) (oi := ⟨some 95, _, _, _, _, _⟩) rfl hHeld ?_
              try simp only [Act.put, pZa, pZb, pZc]
              refine tkC 12 (i := 3) (oi := ⟨some 96, _, _, _, _, _⟩) rfl hHeld ?_
              try simp only [Act.put, pZa, pZb, pZc]
              refine tkC 12 (i := 4) (oi := ⟨some 97, _, _, _, _, _⟩) rfl hHeld ?_
              try simp only [Act.put, pZa, pZb, pZc]
              refine wpAnyL_one (i := 5) (o := ⟨some 98, _, _, _, _, _⟩) (by kernel_rfl) rfl (fun K hK => ?_)
              clear hHeld
              go_simp
              refine (HSET.out _ (hB.trans (belowDrewN wr 1 _))).mono ?_
              rintro e w3 ⟨rfl, hB3⟩
              go_wp2_with fail
              refine hK.out _ _ ⟨HLD.out _ ((belowDrewN wr 1 _).trans hB3), (hB3.cell (p := ⟨w.heap.size, 5, none⟩) hlz).trans z5⟩ (fun hHeld => ?_)
              clear hK K
              try simp only [Act.put, pZa, pZb, pZc]
              refine tkC 12 (i := 6) (oi := ⟨some 99, _, _, _, _, _⟩) rfl hHeld ?_
              try simp only [Act.put, pZa, pZb, pZc]
              refine tkC 12 (i := 7) (oi := ⟨some 100, _, _, _, _, _⟩) rfl hHeld ?_
              try simp only [Act.put, pZa, pZb, pZc]
              refine tkC 12 (i := 8) (oi := ⟨some 101, _, _, _, _, _⟩) rfl hHeld ?_
              try simp only [Act.put, pZa, pZb, pZc]
              refine tkC 12 (i := 9) (oi := ⟨some 102, _, _, _, _, _⟩) rfl hHeld ?_
              try simp only [Act.put, pZa, pZb, pZc]
              refine tkC 12 (i := 10) (oi := ⟨some 103, _, _, _, _, _⟩) rfl hHeld ?_
              try simp only [Act.put, pZa, pZb, pZc]
              refine tkB 12 (i := 11) (oi := ⟨some 104, _, _, _, _, _⟩) (v := undef) rfl (Or.inr ⟨by rfl, rfl⟩) hHeld ?_
              try simp only [Act.put, pZa, pZb, pZc]
              refine tkB 12 (i := 12) (oi := ⟨some 105, _, _, _, _, _⟩) (v := undef) rfl (Or.inr ⟨by rfl, rfl⟩) hHeld ?_
              try simp only [Act.put, pZa, pZb, pZc]
              refine tkB 12 (i := 13) (oi := ⟨some 106, _, _, _, _, _⟩) (v := undef) rfl (Or.inr ⟨by rfl, rfl⟩) hHeld ?_
              try simp only [Act.put, pZa, pZb, pZc]
              refine tkB 12 (i := 14) (oi := ⟨some 107, _, _, _, _, _⟩) (v := undef) rfl (Or.inr ⟨by rfl, rfl⟩) hHeld ?_
              try simp only [Act.put, pZa, pZb, pZc]
              refine tkB 12 (i := 15) (oi := ⟨some 108, _, _, _, _, _⟩) (v := undef) rfl (Or.inr ⟨by rfl, rfl⟩) hHeld ?_
              try simp only [Act.put, pZa, pZb, pZc]
              refine tkB 12 (i := 16) (oi := ⟨some 109, _, _, _, _, _⟩) (v := undef) rfl (Or.inr ⟨by rfl, rfl⟩) hHeld ?_
              try simp only [Act.put, pZa, pZb, pZc]
              refine tkB 12 (i := 17) (oi := ⟨some 110, _, _, _, _, _⟩) (v := undef) rfl (Or.inr ⟨by rfl, rfl⟩) hHeld ?_
              try simp only [Act.put, pZa, pZb, pZc]
              refine tkB 12 (i := 18) (oi := ⟨some 111, _, _, _, _, _⟩) (v := undef) rfl (Or.inr ⟨by rfl, rfl⟩) hHeld ?_
              try simp only [Act.put, pZa, pZb, pZc]
              refine tkB 12 (i := 19) (oi := ⟨some 112, _, _, _, _, _⟩) (v := undef) rfl (Or.inr ⟨by rfl, rfl⟩) hHeld ?_
              try simp only [Act.put, pZa, pZb, pZc]
              refine tkB 12 (i := 20) (oi := ⟨some 113, _, _, _, _, _⟩) (v := undef) rfl (Or.inr ⟨by rfl, rfl⟩) hHeld ?_
              try simp only [Act.put, pZa, pZb, pZc]
              refine tkB 12 (i := 21) (oi := ⟨some 114, _, _, _, _, _⟩) (v := undef) rfl (Or.inr ⟨by rfl, rfl⟩) hHeld ?_
              try simp only [Act.put, pZa, pZb, pZc]
              refine tkB 12 (i := 22) (oi := ⟨some 115, _, _, _, _, _⟩) (v := undef) rfl (Or.inr ⟨by rfl, rfl⟩) hHeld ?_
              try simp only [Act.put, pZa, pZb, pZc]
              refine tkB 12 (i := 23) (oi := ⟨some 116, _, _, _, _, _⟩) (v := undef) rfl (Or.inr ⟨by rfl, rfl⟩) hHeld ?_
              try simp only [Act.put, pZa, pZb, pZc]
              refine tkB 12 (i := 24) (oi := ⟨some 117, _, _, _, _, _⟩) (v := undef) rfl (Or.inr ⟨by rfl, rfl⟩) hHeld ?_
              try simp only [Act.put, pZa, pZb, pZc]
              refine tkC 12 (i := 25) (oi := ⟨some 118, _, _, _, _, _⟩) rfl hHeld ?_
              try simp only [Act.put, pZa, pZb, pZc]
              refine wpAnyL_last (i := 26) (o := ⟨some 119, _, _, _, _, _⟩) (by kernel_rfl) rfl (by kernel_rfl) (fun K hK => ?_)
              clear hHeld
              go_simp
              refine hK.out _ _ ?_
              clear hK K
              try simp only [Act.put, pZa, pZb, pZc]
              refine wpAnyL_done (by kernel_rfl) ?_ _
              refine NoPanic.normal ?_
              have hP3 : Below w1.heap.size w1 w3 := (hB.trans (belowDrewN wr 1 _)).trans (hB3.mono hB.size)
              go_wp2
              go_roundw
              case rel => exact ⟨k + 1, by omega, by go_num, HU', hP3⟩
              case measure => simp [intOf]; omega
            · obtain ⟨b', off', e', _, hd⟩ := Rd.elem (n := 21) (fun _ => rfl) (by omega) hrw HQ2.out
              injection e' with e'
              injection e' with e1 e2 _
              subst e1 e2
              have d0 : wr.cell? ⟨b, off + i * 21, none⟩ = some (.string q.into_) := hd 0 _ rfl
              clear hd hrw
              rcases lt_ways (x := y.into_) (y := q.into_) with ⟨hv, h1, h2⟩ | ⟨hv, hor⟩
              · have HU' : Hid (UpTo (fun y : MStage => stageB y.plain) (fun a b => ltTx a.into_ b.into_) l2 (k + 1)) := Lib.hid (upTo_succ HU.out HY.out g fun j z h hz => by
                  obtain rfl : j = i := by have := HKI.out; omega
                  rw [HQ2.out] at hz
                  injection hz with hz
                  subst hz
                  exact hv)
                clear g HU HY HQ2 hv
                go_upto_region 11 with fail
                refine wp_region_noPanic ?_
                refine wp_region_last 26 (fun W => Sem.run Tryz.prog (loadCellsFrom ⟨b, off + k * 21, none⟩ 0 21 #[]) W = .ok cy W ∧ (W.cell? ⟨w.heap.size, 5, none⟩ = some (.slice (some ⟨b, off, none⟩) l2.length cb) ∧ W.cell? ⟨b, off + k * 21, none⟩ = some (.string y.into_) ∧ W.cell? ⟨b, off + i * 21, none⟩ = some (.string q.into_))) (by kernel_rfl) ⟨HLD.out _ (belowDrewN wr 1 _), ⟨z5, c0, d0⟩⟩ (fun hHeld => ?_)
                refine tkC 12 (i := 0) (oi := ⟨some 93, _, _, _, _, _⟩) rfl hHeld ?_
                try simp only [Act.put, pZa, pZb, pZc]
                refine tkC 12 (i := 1) (oi := ⟨some 94, _, _, _, _, _⟩) rfl hHeld ?_
                try simp only [Act.put, pZa, pZb, pZc]
                refine tkC 12 (i := 2) (oi := ⟨some 95, _, _, _, _, _⟩) rfl hHeld ?_
                try simp only [Act.put, pZa, pZb, pZc]
                refine tkC 12 (i := 3) (oi := ⟨some 96, _, _, _, _, _⟩) rfl hHeld ?_
                try simp only [Act.put, pZa, pZb, pZc]
                refine tkC 12 (i := 4) (oi := ⟨some 97, _, _, _, _, _⟩) rfl hHeld ?_
                try simp only [Act.put, pZa, pZb, pZc]
                refine wpAnyL_one (i := 5) (o := ⟨some 98, _, _, _, _, _⟩) (by kernel_rfl) rfl (fun K hK => ?_)
                clear hHeld
                go_simp
                refine (HSET.out _ (hB.trans (belowDrewN wr 1 _))).mono ?_
                rintro e w3 ⟨rfl, hB3⟩
                go_wp2_with fail
                refine hK.out _ _ ⟨HLD.out _ ((belowDrewN wr 1 _).trans hB3), ⟨(hB3.cell (p := ⟨w.heap.size, 5, none⟩) hlz).trans z5, (hB3.cell (p := ⟨b, off + k * 21, none⟩) hb).trans c0, (hB3.cell (p := ⟨b, off + i * 21, none⟩) hb).trans d0⟩⟩ (fun hHeld => ?_)
                clear hK K
                try simp only [Act.put, pZa, pZb, pZc]
                refine tkC 12 (i := 6) (oi := ⟨some 99, _, _, _, _, _⟩) rfl hHeld ?_
                try simp only [Act.put, pZa, pZb, pZc]
                refine tkC 12 (i := 7) (oi := ⟨some 100, _, _, _, _, _⟩) rfl hHeld ?_
                try simp only [Act.put, pZa, pZb, pZc]
                refine tkC 12 (i := 8) (oi := ⟨some 101, _, _, _, _, _⟩) rfl hHeld ?_
                try simp only [Act.put, pZa, pZb, pZc]
                refine tkC 12 (i := 9) (oi := ⟨some 102, _, _, _, _, _⟩) rfl hHeld ?_
                try simp only [Act.put, pZa, pZb, pZc]
                refine tkC 12 (i := 10) (oi := ⟨some 103, _, _, _, _, _⟩) rfl hHeld ?_
                try simp only [Act.put, pZa, pZb, pZc]
                refine tkC 12 (i := 11) (oi := ⟨some 104, _, _, _, _, _⟩) rfl hHeld ?_
                try simp only [Act.put, pZa, pZb, pZc]
                refine tkC 12 (i := 12) (oi := ⟨some 105, _, _, _, _, _⟩) rfl hHeld ?_
                try simp only [Act.put, pZa, pZb, pZc]
                refine tkC 12 (i := 13) (oi := ⟨some 106, _, _, _, _, _⟩) rfl hHeld ?_
                try simp only [Act.put, pZa, pZb, pZc]
                refine tkC 12 (i := 14) (oi := ⟨some 107, _, _, _, _, _⟩) rfl hHeld ?_
                try simp only [Act.put, pZa, pZb, pZc]
                refine tkC 12 (i := 15) (oi := ⟨some 108, _, _, _, _, _⟩) rfl hHeld ?_
                try simp only [Act.put, pZa, pZb, pZc]
                refine tkC 12 (i := 16) (oi := ⟨some 109, _, _, _, _, _⟩) rfl hHeld ?_
                try simp only [Act.put, pZa, pZb, pZc]
                refine tkC 12 (i := 17) (oi := ⟨some 110, _, _, _, _, _⟩) rfl hHeld ?_
                try simp only [Act.put, pZa, pZb, pZc]
                refine tkC 12 (i := 18) (oi := ⟨some 111, _, _, _, _, _⟩) rfl hHeld ?_
                try simp only [Act.put, pZa, pZb, pZc]
                refine tkC 12 (i := 19) (oi := ⟨some 112, _, _, _, _, _⟩) rfl hHeld ?_
                try simp only [Act.put, pZa, pZb, pZc]
                refine tkC 12 (i := 20) (oi := ⟨some 113, _, _, _, _, _⟩) rfl hHeld ?_
                try simp only [Act.put, pZa, pZb, pZc]
                refine tkC 12 (i := 21) (oi := ⟨some 114, _, _, _, _, _⟩) rfl hHeld ?_
                try simp only [Act.put, pZa, pZb, pZc]
                refine tkC 12 (i := 22) (oi := ⟨some 115, _, _, _, _, _⟩) rfl hHeld ?_
                try simp only [Act.put, pZa, pZb, pZc]
                refine tkC 12 (i := 23) (oi := ⟨some 116, _, _, _, _, _⟩) rfl hHeld ?_
                try simp only [Act.put, pZa, pZb, pZc]
                refine tkC 12 (i := 24) (oi := ⟨some 117, _, _, _, _, _⟩) rfl hHeld ?_
                try simp only [Act.put, pZa, pZb, pZc]
                refine tkC 12 (i := 25) (oi := ⟨some 118, _, _, _, _, _⟩) rfl hHeld ?_
                try simp only [Act.put, pZa, pZb, pZc]
                refine wpAnyL_last (i := 26) (o := ⟨some 119, _, _, _, _, _⟩) (by kernel_rfl) rfl (by kernel_rfl) (fun K hK => ?_)
                clear hHeld
                go_simp
                refine hK.out _ _ ?_
                clear hK K
                try simp only [Act.put, pZa, pZb, pZc]
                refine wpAnyL_done (by kernel_rfl) ?_ _
                refine NoPanic.normal ?_
                have hP3 : Below w1.heap.size w1 w3 := (hB.trans (belowDrewN wr 1 _)).trans (hB3.mono hB.size)
                go_wp2
                go_roundw
                case rel => exact ⟨k + 1, by omega, by go_num, HU', hP3⟩
                case measure => simp [intOf]; omega
              · have hb10 : b10 = false := HB10.out (goodL_low HQ2.out (by rw [← HKI.out]; exact HY.out) hv)
                subst hb10
                clear g HU HY HQ2 hv HB10 HE10
                rcases hor with h1 | ⟨h1, h2⟩
                all_goals
                  go_upto_region 11 with fail
                  refine wp_region_noPanic ?_
                  refine wp_region_last 26 (fun W => Sem.run Tryz.prog (loadCellsFrom ⟨b, off + k * 21, none⟩ 0 21 #[]) W = .ok cy W ∧ (W.cell? ⟨w.heap.size, 5, none⟩ = some (.slice (some ⟨b, off, none⟩) l2.length cb) ∧ W.cell? ⟨b, off + k * 21, none⟩ = some (.string y.into_) ∧ W.cell? ⟨b, off + i * 21, none⟩ = some (.string q.into_))) (by kernel_rfl) ⟨HLD.out _ (belowDrewN wr 1 _), ⟨z5, c0, d0⟩⟩ (fun hHeld => ?_)
                  refine tkC 12 (i := 0) (oi := ⟨some 93, _, _, _, _, _⟩) rfl hHeld ?_
                  try simp only [Act.put, pZa, pZb, pZc]
                  refine tkC 12 (i := 1) (oi := ⟨some 94, _, _, _, _, _⟩) rfl hHeld ?_
                  try simp only [Act.put, pZa, pZb, pZc]
                  refine tkC 12 (i := 2) (oi := ⟨some 95, _, _, _, _, _⟩) rfl hHeld ?_
                  try simp only [Act.put, pZa, pZb, pZc]
                  refine tkC 12 (i := 3) (oi := ⟨some 96, _, _, _, _, _⟩) rfl hHeld ?_
                  try simp only [Act.put, pZa, pZb, pZc]
                  refine tkC 12 (i := 4) (oi := ⟨some 97, _, _, _, _, _⟩) rfl hHeld ?_
                  try simp only [Act.put, pZa, pZb, pZc]
                  refine wpAnyL_one (i := 5) (o := ⟨some 98, _, _, _, _, _⟩) (by kernel_rfl) rfl (fun K hK => ?_)
                  clear hHeld
                  go_simp
                  refine (HSET.out _ (hB.trans (belowDrewN wr 1 _))).mono ?_
                  rintro e w3 ⟨rfl, hB3⟩
                  go_wp2_with fail
                  refine hK.out _ _ ⟨HLD.out _ ((belowDrewN wr 1 _).trans hB3), ⟨(hB3.cell (p := ⟨w.heap.size, 5, none⟩) hlz).trans z5, (hB3.cell (p := ⟨b, off + k * 21, none⟩) hb).trans c0, (hB3.cell (p := ⟨b, off + i * 21, none⟩) hb).trans d0⟩⟩ (fun hHeld => ?_)
                  clear hK K
                  try simp only [Act.put, pZa, pZb, pZc]
                  refine tkC 12 (i := 6) (oi := ⟨some 99, _, _, _, _, _⟩) rfl hHeld ?_
                  try simp only [Act.put, pZa, pZb, pZc]
                  refine tkC 12 (i := 7) (oi := ⟨some 100, _, _, _, _, _⟩) rfl hHeld ?_
                  try simp only [Act.put, pZa, pZb, pZc]
                  refine tkC 12 (i := 8) (oi := ⟨some 101, _, _, _, _, _⟩) rfl hHeld ?_
                  try simp only [Act.put, pZa, pZb, pZc]
                  refine tkC 12 (i := 9) (oi := ⟨some 102, _, _, _, _, _⟩) rfl hHeld ?_
                  try simp only [Act.put, pZa, pZb, pZc]
                  refine tkC 12 (i := 10) (oi := ⟨some 103, _, _, _, _, _⟩) rfl hHeld ?_
                  try simp only [Act.put, pZa, pZb, pZc]
                  refine tkC 12 (i := 11) (oi := ⟨some 104, _, _, _, _, _⟩) rfl hHeld ?_
                  try simp only [Act.put, pZa, pZb, pZc]
                  refine tkC 12 (i := 12) (oi := ⟨some 105, _, _, _, _, _⟩) rfl hHeld ?_
                  try simp only [Act.put, pZa, pZb, pZc]
                  refine tkC 12 (i := 13) (oi := ⟨some 106, _, _, _, _, _⟩) rfl hHeld ?_
                  try simp only [Act.put, pZa, pZb, pZc]
                  refine tkC 12 (i := 14) (oi := ⟨some 107, _, _, _, _, _⟩) rfl hHeld ?_
                  try simp only [Act.put, pZa, pZb, pZc]
                  refine tkC 12 (i := 15) (oi := ⟨some 108, _, _, _, _, _⟩) rfl hHeld ?_
                  try simp only [Act.put, pZa, pZb, pZc]
                  refine tkC 12 (i := 16) (oi := ⟨some 109, _, _, _, _, _⟩) rfl hHeld ?_
                  try simp only [Act.put, pZa, pZb, pZc]
                  refine tkC 12 (i := 17) (oi := ⟨some 110, _, _, _, _, _⟩) rfl hHeld ?_
                  try simp only [Act.put, pZa, pZb, pZc]
                  refine tkC 12 (i := 18) (oi := ⟨some 111, _, _, _, _, _⟩) rfl hHeld ?_
                  try simp only [Act.put, pZa, pZb, pZc]
                  refine tkC 12 (i := 19) (oi := ⟨some 112, _, _, _, _, _⟩) rfl hHeld ?_
                  try simp only [Act.put, pZa, pZb, pZc]
                  refine tkC 12 (i := 20) (oi := ⟨some 113, _, _, _, _, _⟩) rfl hHeld ?_
                  try simp only [Act.put, pZa, pZb, pZc]
                  refine tkC 12 (i := 21) (oi := ⟨some 114, _, _, _, _, _⟩) rfl hHeld ?_
                  try simp only [Act.put, pZa, pZb, pZc]
                  refine tkC 12 (i := 22) (oi := ⟨some 115, _, _, _, _, _⟩) rfl hHeld ?_
                  try simp only [Act.put, pZa, pZb, pZc]
                  refine tkC 12 (i := 23) (oi := ⟨some 116, _, _, _, _, _⟩) rfl hHeld ?_
                  try simp only [Act.put, pZa, pZb, pZc]
                  refine tkC 12 (i := 24) (oi := ⟨some 117, _, _, _, _, _⟩) rfl hHeld ?_
                  try simp only [Act.put, pZa, pZb, pZc]
                  refine tkC 12 (i := 25) (oi := ⟨some 118, _, _, _, _, _⟩) rfl hHeld ?_
                  try simp only [Act.put, pZa, pZb, pZc]
                  refine wpAnyL_last (i := 26) (o := ⟨some 119, _, _, _, _, _⟩) (by kernel_rfl) rfl (by kernel_rfl) (fun K hK => ?_)
                  clear hHeld
                  go_simp
                  refine hK.out _ _ ?_
                  clear hK K
                  try simp only [Act.put, pZa, pZb, pZc]
                  refine wpAnyL_done (by kernel_rfl) ?_ _
                  refine NoPanic.normal ?_
                  have hP3 : Below w1.heap.size w1 w3 := (hB.trans (belowDrewN wr 1 _)).trans (hB3.mono hB.size)
                  go_wp2
                  go_ret
                  exact ⟨ret_chk (by rw [← HQ.out, show R = false from by rw [HR3.out]; rfl]; rfl), hA.trans (hP3.mono hs1)⟩
        · have hb10 : b10 = true := HE10.out (upTo_end HU.out (by omega))
          have HR4 : Hid (R = b11) := Lib.hid (by rw [HR3.out, hb10, Bool.true_and])
          clear HU HB10 HE10 HR3 hb10 HS2
          go_wp2
          go_loopw [5] (fun i W => ∃ k : Nat, k ≤ l3.length ∧ i = .int .i64 k ∧ Hid (∀ y ∈ l3.take k, entryB y.plain = true) ∧ Below w1.heap.size w1 W) (fun i _ => l3.length - (intOf i).toNat)
          case atStart => exact ⟨0, Nat.zero_le _, rfl, Lib.hid (by simp), hB⟩
          case round =>
            obtain ⟨k, hk, rfl, HU, hB⟩ := hrel
            have z6 := (HK1.out.below hB HK1.out.lt).cell 6
            simp only [gZa, gZb] at z6
            by_cases hlt : k < l3.length
            · obtain ⟨y, hy⟩ : ∃ y, l3[k]? = some y := ⟨l3[k], qZa hlt⟩
              obtain ⟨b, off, rfl, hb, hc⟩ := Rd.elem (n := 4) (fun _ => rfl) (by omega) (HRD3.out.below hB) hy
              have c0 : wr.cell? ⟨b, off + k * 4, none⟩ = some (.string y.user_) := hc 0 _ rfl
              have c1 : wr.cell? ⟨b, off + k * 4 + 1, none⟩ = some (.int .i64 y.kind_) := hc 1 _ rfl
              have c2 : wr.cell? ⟨b, off + k * 4 + 2, none⟩ = some (.string y.path_) := hc 2 _ rfl
              have c3 : wr.cell? ⟨b, off + k * 4 + 3, none⟩ = some (.int .i64 y.err_) := hc 3 _ rfl
              have HE := Lib.hid (HS3.out wr hB y (List.mem_of_getElem? hy))
              have HY := Lib.hid hy
              clear hc hy
              rcases g : entryB y.plain with _ | _
              · have hb11 : b11 = false := HB11.out y (List.mem_of_getElem? HY.out) g
                rw [g] at HE
                subst hb11
                clear g HU HY HB11 HE11
                go_wp2_with fail
                refine HE.out.mono ?_
                rintro e w3 ⟨rfl, hB3⟩
                have hQ3 : Below w1.heap.size w1 w3 := hB.trans (hB3.mono hB.size)
                go_wp2
                go_ret
                exact ⟨ret_chk (by rw [← HQ.out, show R = false from HR4.out]; rfl), hA.trans (hQ3.mono hs1)⟩
              · rw [g] at HE
                have HU' : Hid (∀ y ∈ l3.take (k + 1), entryB y.plain = true) := Lib.hid fun z hz => by
                  rw [List.take_add_one, HY.out] at hz
                  rcases List.mem_append.1 hz with h | h
                  · exact HU.out z h
                  · simp at h
                    subst h
                    exact g
                clear g HU HY
                go_wp2_with fail
                refine HE.out.mono ?_
                rintro e w3 ⟨rfl, hB3⟩
                have hQ3 : Below w1.heap.size w1 w3 := hB.trans (hB3.mono hB.size)
                go_wp2
                go_roundw
                case rel => exact ⟨k + 1, by omega, by go_num, HU', hQ3⟩
                case measure => simp [intOf]; omega
            · have hb11 : b11 = true := HE11.out fun y hy => HU.out y (by rw [List.take_of_length_le (by omega)]; exact hy)
              clear HU HB11 HE11
              go_wp2
              go_ret
              exact ⟨ret_chk (by rw [← HQ.out, show R = true from by rw [HR4.out, hb11]]; rfl), hA.trans (hB.mono hs1)⟩
end Go.Proofs.YtimmcmjipmkebaaGreat
