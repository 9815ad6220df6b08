/-
  Which begin, stage and entry may be, by the reference. Conditions: they are as they come in; paths of at most 2^42 octets.
-/
import Derived.Test.YtnioelkibghplaaGreatQTMB
import Derived.Test.YtnioelkibghplaaGreatQEB
import Derived.Test.YtnioelkibghplaaGreatQRPP
import Derived.Test.YtnioelkibghplaaGreatQGRC
import Derived.Test.YtnioelkibghplaaGreatQGRX
namespace Go.Proofs.YtnioelkibghplaaGreat
open Go.ChangeShapes Go.WideShapes Go.ChangeAt Go.RowKit
set_option maxRecDepth 100000
set_option linter.unusedVariables false
set_option linter.unusedSimpArgs false

theorem refNameB (s : ByteArray) (hs : s.size ≤ 140737488355328) (w : World) :
    Calls Tryz.prog 62 #[.string s] w fun e w' => e = .returned (.bool (isName (bs s))) ∧ Below w.heap.size w w' :=
  (refName_any s hs w).mono fun _ _ ⟨h, h'⟩ => ⟨h, h' ▸ Below.refl _ _⟩
theorem amountB (m n : Int) (w : World) :
    Calls Tryz.prog 63 #[.int .i64 n, .int .i64 m] w fun e w' => e = .returned (.bool (amt m n)) ∧ Below w.heap.size w w' :=
  (amount_any m n w).mono fun _ _ ⟨h, h'⟩ => ⟨h, h' ▸ Below.refl _ _⟩
theorem refBkS (X : Sl Bk) (w : World) (h : SlGood w bkC goodBk 24 X) :
    Calls Tryz.prog 111 #[.slice X.A X.l.length X.c] w fun e w' => e = .returned (.int .i64 (if okK X.l then 0 else 9)) ∧ Below w.heap.size w w' :=
  refCheck_any X.A X.c X.l.length X.l rfl (by have := h.len; omega) (fun x hx => (h.el x hx).1) w h.rd
theorem refPrS (X : Sl Pr) (w : World) (h : SlGood w prC goodPr 32 X) :
    Calls Tryz.prog 113 #[.slice X.A X.l.length X.c] w fun e w' => e = .returned (.int .i64 (if okP X.l then 0 else 9)) ∧ Below w.heap.size w w' :=
  refProps_any X.A X.c X.l.length X.l rfl (by have := h.len; omega) (fun x hx => h.el x hx) w h.rd

set_option maxHeartbeats 1000000 in
theorem refBegin_any (x : MRecord) (w : World) (hx : x.Good w) :
    Calls Tryz.prog 125 #[.agg #[.int .i64 x.kind_, .string x.name_, .int .i64 x.from_, .int .i64 x.guid_, .slice x.own_.A x.own_.l.length x.own_.c, .int .i64 x.index_, .int .i64 x.count_, .string x.data_, .int .u64 x.sum_.a_, .int .u64 x.sum_.b_, .int .u64 x.sum_.c_, .int .u64 x.sum_.d_]] w fun e w' => e = .returned (.bool (beginB x.plain)) ∧ Below w.heap.size w w' := by
  obtain ⟨w1, hw1⟩ : ∃ w1, w.alloc (.cells #[.int .i64 x.kind_, .string x.name_, .int .i64 x.from_, .int .i64 x.guid_, .slice x.own_.A x.own_.l.length x.own_.c, .int .i64 x.index_, .int .i64 x.count_, .string x.data_, .int .u64 x.sum_.a_, .int .u64 x.sum_.b_, .int .u64 x.sum_.c_, .int .u64 x.sum_.d_] 52) = w1 := ⟨_, rfl⟩
  have hB1 : Below w.heap.size w w1 := hw1 ▸ (Below.refl _ w).alloc (Nat.le_refl _) _
  have k1 : Blk w1 w.heap.size 52 [.int .i64 x.kind_, .string x.name_, .int .i64 x.from_, .int .i64 x.guid_, .slice x.own_.A x.own_.l.length x.own_.c, .int .i64 x.index_, .int .i64 x.count_, .string x.data_, .int .u64 x.sum_.a_, .int .u64 x.sum_.b_, .int .u64 x.sum_.c_, .int .u64 x.sum_.d_] := hw1 ▸ Blk.new w _ _
  have hA : Below w.heap.size w w1 := hB1
  have H2 : Hid (∀ W, Below w1.heap.size w1 W → Calls Tryz.prog 62 #[.string x.name_] W fun e w' => e = .returned (.bool (isName (bs x.name_))) ∧ Below W.heap.size W w') := Lib.hid fun W hW => refNameB _ (by have := hx.gname_; omega) W
  have H3 : Hid (∀ W, Below w1.heap.size w1 W → Calls Tryz.prog 63 #[.int .i64 x.from_, .int .i64 0] W fun e w' => e = .returned (.bool (amt 0 x.from_)) ∧ Below W.heap.size W w') := Lib.hid fun W hW => amountB _ _ W
  have H4 : Hid (∀ W, Below w1.heap.size w1 W → Calls Tryz.prog 63 #[.int .i64 x.guid_, .int .i64 1] W fun e w' => e = .returned (.bool (amt 1 x.guid_)) ∧ Below W.heap.size W w') := Lib.hid fun W hW => amountB _ _ W
  have H5 : Hid (∀ W, Below w1.heap.size w1 W → Calls Tryz.prog 113 #[.slice x.own_.A x.own_.l.length x.own_.c] W fun e w' => e = .returned (.int .i64 (if (okP x.own_.l) then 0 else 9)) ∧ Below W.heap.size W w') := Lib.hid fun W hW => refPrS _ W (hx.gown_.below (hA.trans (hW.mono hA.size)) fun _ h => h)
  obtain ⟨R, hR⟩ : ∃ R, beginB x.plain = R := ⟨_, rfl⟩
  rw [hR]
  have HRR : Hid (R = ((decide (x.kind_ = 1)) && ((isName (bs x.name_)) && ((amt 0 x.from_) && ((amt 1 x.guid_) && ((okP x.own_.l) && ((decide (x.index_ = 0)) && ((decide (x.count_ = 0)) && ((decide (x.data_ = ByteArray.empty)) && ((zeroSum x.sum_.plain))))))))))) := Lib.hid (hR.symm.trans (show beginB x.plain = ((decide (x.kind_ = 1)) && ((isName (bs x.name_)) && ((amt 0 x.from_) && ((amt 1 x.guid_) && ((okP x.own_.l) && ((decide (x.index_ = 0)) && ((decide (x.count_ = 0)) && ((decide (x.data_ = ByteArray.empty)) && ((zeroSum x.sum_.plain)))))))))) from by rfl))
  clear hR
  obtain ⟨b1, hb1⟩ : ∃ b, (decide (x.kind_ = 1)) = b := ⟨_, rfl⟩
  rw [hb1] at HRR
  obtain ⟨b2, hb2⟩ : ∃ b, (isName (bs x.name_)) = b := ⟨_, rfl⟩
  rw [hb2] at HRR
  rw [hb2] at H2
  clear hb2
  obtain ⟨b3, hb3⟩ : ∃ b, (amt 0 x.from_) = b := ⟨_, rfl⟩
  rw [hb3] at HRR
  rw [hb3] at H3
  clear hb3
  obtain ⟨b4, hb4⟩ : ∃ b, (amt 1 x.guid_) = b := ⟨_, rfl⟩
  rw [hb4] at HRR
  rw [hb4] at H4
  clear hb4
  obtain ⟨b5, hb5⟩ : ∃ b, (okP x.own_.l) = b := ⟨_, rfl⟩
  rw [hb5] at HRR
  rw [hb5] at H5
  clear hb5
  obtain ⟨b6, hb6⟩ : ∃ b, (decide (x.index_ = 0)) = b := ⟨_, rfl⟩
  rw [hb6] at HRR
  obtain ⟨b7, hb7⟩ : ∃ b, (decide (x.count_ = 0)) = b := ⟨_, rfl⟩
  rw [hb7] at HRR
  obtain ⟨b8, hb8⟩ : ∃ b, (decide (x.data_ = ByteArray.empty)) = b := ⟨_, rfl⟩
  rw [hb8] at HRR
  obtain ⟨b9, hb9⟩ : ∃ b, (zeroSum x.sum_.plain) = b := ⟨_, rfl⟩
  rw [hb9] at HRR
  have HW1 := Lib.hid hw1
  have HK1 := Lib.hid k1
  clear hw1 k1
  have hs0 := hA.size
  have hT0 : Below w1.heap.size w1 w1 := Below.refl _ _
  clear hx
  go_enter Tryz.func125, Tryz.ntmps125
  have z0 := (HK1.out.below hT0 HK1.out.lt).cell 0
  simp only [gA, gB] at z0
  go_upto_region 1 with fail
  rw [HW1.out]
  rcases b1 with _ | _
  · have ht1 : (x.kind_ == 1) = false := beq_eq_false_iff_ne.2 (of_decide_eq_false hb1)
    go_wp2
    go_ret
    exact ⟨ret_bool (by rw [HRR.out]; rfl), (hA.trans (hT0.mono hs0))⟩
  · have ht1 : (x.kind_ == 1) = true := beq_iff_eq.2 (of_decide_eq_true hb1)
    have z1 := (HK1.out.below hT0 HK1.out.lt).cell 1
    simp only [gA, gB] at z1
    go_wp2_with fail
    refine (H2.out _ hT0).mono ?_
    rintro e v2 ⟨rfl, hV2⟩
    have hT2 : Below w1.heap.size w1 v2 := hT0.trans (hV2.mono hT0.size)
    have hX2 : Below w.heap.size w v2 := hA.trans (hT2.mono hs0)
    rcases b2 with _ | _
    · skip
      go_wp2
      go_ret
      exact ⟨ret_bool (by rw [HRR.out]; rfl), hX2⟩
    · skip
      have z2 := (HK1.out.below hT2 HK1.out.lt).cell 2
      simp only [gA, gB] at z2
      go_wp2_with fail
      refine (H3.out _ hT2).mono ?_
      rintro e v3 ⟨rfl, hV3⟩
      have hT3 : Below w1.heap.size w1 v3 := hT2.trans (hV3.mono hT2.size)
      have hX3 : Below w.heap.size w v3 := hA.trans (hT3.mono hs0)
      rcases b3 with _ | _
      · skip
        go_wp2
        go_ret
        exact ⟨ret_bool (by rw [HRR.out]; rfl), hX3⟩
      · skip
        have z3 := (HK1.out.below hT3 HK1.out.lt).cell 3
        simp only [gA, gB] at z3
        go_wp2_with fail
        refine (H4.out _ hT3).mono ?_
        rintro e v4 ⟨rfl, hV4⟩
        have hT4 : Below w1.heap.size w1 v4 := hT3.trans (hV4.mono hT3.size)
        have hX4 : Below w.heap.size w v4 := hA.trans (hT4.mono hs0)
        rcases b4 with _ | _
        · skip
          go_wp2
          go_ret
          exact ⟨ret_bool (by rw [HRR.out]; rfl), hX4⟩
        · skip
          have z4 := (HK1.out.below hT4 HK1.out.lt).cell 4
          simp only [gA, gB] at z4
          go_wp2_with fail
          refine (H5.out _ hT4).mono ?_
          rintro e v5 ⟨rfl, hV5⟩
          have hT5 : Below w1.heap.size w1 v5 := hT4.trans (hV5.mono hT4.size)
          have hX5 : Below w.heap.size w v5 := hA.trans (hT5.mono hs0)
          rcases b5 with _ | _
          · skip
            go_wp2
            go_ret
            exact ⟨ret_bool (by rw [HRR.out]; rfl), hX5⟩
          · skip
            have z5 := (HK1.out.below hT5 HK1.out.lt).cell 5
            simp only [gA, gB] at z5
            rcases b6 with _ | _
            · have ht6 : (x.index_ == 0) = false := beq_eq_false_iff_ne.2 (of_decide_eq_false hb6)
              go_wp2
              go_ret
              exact ⟨ret_bool (by rw [HRR.out]; rfl), (hA.trans (hT5.mono hs0))⟩
            · have ht6 : (x.index_ == 0) = true := beq_iff_eq.2 (of_decide_eq_true hb6)
              have z6 := (HK1.out.below hT5 HK1.out.lt).cell 6
              simp only [gA, gB] at z6
              rcases b7 with _ | _
              · have ht7 : (x.count_ == 0) = false := beq_eq_false_iff_ne.2 (of_decide_eq_false hb7)
                go_wp2
                go_ret
                exact ⟨ret_bool (by rw [HRR.out]; rfl), (hA.trans (hT5.mono hs0))⟩
              · have ht7 : (x.count_ == 0) = true := beq_iff_eq.2 (of_decide_eq_true hb7)
                have z7 := (HK1.out.below hT5 HK1.out.lt).cell 7
                simp only [gA, gB] at z7
                rcases b8 with _ | _
                · have he : x.data_.toList.isEmpty = false := isEmpty_no (of_decide_eq_false hb8)
                  go_wp2
                  go_ret
                  exact ⟨ret_bool (by rw [HRR.out]; rfl), (hA.trans (hT5.mono hs0))⟩
                · have he : x.data_.toList.isEmpty = true := by rw [of_decide_eq_true hb8]; exact empty_isEmpty
                  have z8 := (HK1.out.below hT5 HK1.out.lt).cell 8
                  have z9 := (HK1.out.below hT5 HK1.out.lt).cell 9
                  have z10 := (HK1.out.below hT5 HK1.out.lt).cell 10
                  have z11 := (HK1.out.below hT5 HK1.out.lt).cell 11
                  simp only [gA, gB] at z8 z9 z10 z11
                  rcases b9 with _ | _
                  · rcases sum_no hb9 with h1 | ⟨h1, h2⟩ | ⟨h1, h2, h3⟩ | ⟨h1, h2, h3, h4⟩
                    all_goals
                      go_wp2
                      go_ret
                      exact ⟨ret_bool (by rw [HRR.out]; rfl), (hA.trans (hT5.mono hs0))⟩
                  · obtain ⟨h1, h2, h3, h4⟩ := sum_yes hb9
                    go_wp2
                    go_ret
                    exact ⟨ret_bool (by rw [HRR.out]; rfl), (hA.trans (hT5.mono hs0))⟩
set_option maxHeartbeats 1000000 in
theorem refStage_any (x : MStage) (ht : x.into_.size ≤ 4398046511104) (w : World) (hx : x.Good w) :
    Calls Tryz.prog 66 #[.agg #[.string x.into_, .int .i64 x.begin_.kind_, .string x.begin_.name_, .int .i64 x.begin_.from_, .int .i64 x.begin_.guid_, .slice x.begin_.own_.A x.begin_.own_.l.length x.begin_.own_.c, .int .i64 x.begin_.index_, .int .i64 x.begin_.count_, .string x.begin_.data_, .int .u64 x.begin_.sum_.a_, .int .u64 x.begin_.sum_.b_, .int .u64 x.begin_.sum_.c_, .int .u64 x.begin_.sum_.d_, .slice x.body_.A x.body_.l.length x.body_.c, .int .i64 x.at_, .int .i64 x.next_, .int .u64 x.sum_.a_, .int .u64 x.sum_.b_, .int .u64 x.sum_.c_, .int .u64 x.sum_.d_, .bool x.done_]] w fun e w' => e = .returned (.bool (stageB x.plain)) ∧ Below w.heap.size w w' := by
  obtain ⟨w1, hw1⟩ : ∃ w1, w.alloc (.cells #[.string x.into_, .int .i64 x.begin_.kind_, .string x.begin_.name_, .int .i64 x.begin_.from_, .int .i64 x.begin_.guid_, .slice x.begin_.own_.A x.begin_.own_.l.length x.begin_.own_.c, .int .i64 x.begin_.index_, .int .i64 x.begin_.count_, .string x.begin_.data_, .int .u64 x.begin_.sum_.a_, .int .u64 x.begin_.sum_.b_, .int .u64 x.begin_.sum_.c_, .int .u64 x.begin_.sum_.d_, .slice x.body_.A x.body_.l.length x.body_.c, .int .i64 x.at_, .int .i64 x.next_, .int .u64 x.sum_.a_, .int .u64 x.sum_.b_, .int .u64 x.sum_.c_, .int .u64 x.sum_.d_, .bool x.done_] 55) = w1 := ⟨_, rfl⟩
  have hB1 : Below w.heap.size w w1 := hw1 ▸ (Below.refl _ w).alloc (Nat.le_refl _) _
  have k1 : Blk w1 w.heap.size 55 [.string x.into_, .int .i64 x.begin_.kind_, .string x.begin_.name_, .int .i64 x.begin_.from_, .int .i64 x.begin_.guid_, .slice x.begin_.own_.A x.begin_.own_.l.length x.begin_.own_.c, .int .i64 x.begin_.index_, .int .i64 x.begin_.count_, .string x.begin_.data_, .int .u64 x.begin_.sum_.a_, .int .u64 x.begin_.sum_.b_, .int .u64 x.begin_.sum_.c_, .int .u64 x.begin_.sum_.d_, .slice x.body_.A x.body_.l.length x.body_.c, .int .i64 x.at_, .int .i64 x.next_, .int .u64 x.sum_.a_, .int .u64 x.sum_.b_, .int .u64 x.sum_.c_, .int .u64 x.sum_.d_, .bool x.done_] := hw1 ▸ Blk.new w _ _
  have hA : Below w.heap.size w w1 := hB1
  have H2 : Hid (∀ W, Below w1.heap.size w1 W → Calls Tryz.prog 77 #[.string x.into_] W fun e w' => e = .returned (.bool (isPath (bs x.into_))) ∧ Below W.heap.size W w') := Lib.hid fun W hW => refPath_any _ ht W
  have H3 : Hid (∀ W, Below w1.heap.size w1 W → Calls Tryz.prog 125 #[.agg #[.int .i64 x.begin_.kind_, .string x.begin_.name_, .int .i64 x.begin_.from_, .int .i64 x.begin_.guid_, .slice x.begin_.own_.A x.begin_.own_.l.length x.begin_.own_.c, .int .i64 x.begin_.index_, .int .i64 x.begin_.count_, .string x.begin_.data_, .int .u64 x.begin_.sum_.a_, .int .u64 x.begin_.sum_.b_, .int .u64 x.begin_.sum_.c_, .int .u64 x.begin_.sum_.d_]] W fun e w' => e = .returned (.bool (beginB x.begin_.plain)) ∧ Below W.heap.size W w') := Lib.hid fun W hW => refBegin_any x.begin_ W (hx.gbegin_.below (hA.trans (hW.mono hA.size)))
  have H4 : Hid (∀ W, Below w1.heap.size w1 W → Calls Tryz.prog 111 #[.slice x.body_.A x.body_.l.length x.body_.c] W fun e w' => e = .returned (.int .i64 (if (okK x.body_.l) then 0 else 9)) ∧ Below W.heap.size W w') := Lib.hid fun W hW => refBkS _ W (hx.gbody_.below (hA.trans (hW.mono hA.size)) fun _ h => h)
  have H5 : Hid (∀ W, Below w1.heap.size w1 W → Calls Tryz.prog 63 #[.int .i64 x.at_, .int .i64 0] W fun e w' => e = .returned (.bool (amt 0 x.at_)) ∧ Below W.heap.size W w') := Lib.hid fun W hW => amountB _ _ W
  have H6 : Hid (∀ W, Below w1.heap.size w1 W → Calls Tryz.prog 63 #[.int .i64 x.next_, .int .i64 0] W fun e w' => e = .returned (.bool (amt 0 x.next_)) ∧ Below W.heap.size W w') := Lib.hid fun W hW => amountB _ _ W
  obtain ⟨R, hR⟩ : ∃ R, stageB x.plain = R := ⟨_, rfl⟩
  rw [hR]
  have HRR : Hid (R = ((decide (x.into_ ≠ ByteArray.empty)) && ((isPath (bs x.into_)) && ((beginB x.begin_.plain) && ((okK x.body_.l) && ((amt 0 x.at_) && ((amt 0 x.next_)))))))) := Lib.hid (hR.symm.trans (show stageB x.plain = ((decide (x.into_ ≠ ByteArray.empty)) && ((isPath (bs x.into_)) && ((beginB x.begin_.plain) && ((okK x.body_.l) && ((amt 0 x.at_) && ((amt 0 x.next_))))))) from by rfl))
  clear hR
  obtain ⟨b1, hb1⟩ : ∃ b, (decide (x.into_ ≠ ByteArray.empty)) = b := ⟨_, rfl⟩
  rw [hb1] at HRR
  obtain ⟨b2, hb2⟩ : ∃ b, (isPath (bs x.into_)) = b := ⟨_, rfl⟩
  rw [hb2] at HRR
  rw [hb2] at H2
  clear hb2
  obtain ⟨b3, hb3⟩ : ∃ b, (beginB x.begin_.plain) = b := ⟨_, rfl⟩
  rw [hb3] at HRR
  rw [hb3] at H3
  clear hb3
  obtain ⟨b4, hb4⟩ : ∃ b, (okK x.body_.l) = b := ⟨_, rfl⟩
  rw [hb4] at HRR
  rw [hb4] at H4
  clear hb4
  obtain ⟨b5, hb5⟩ : ∃ b, (amt 0 x.at_) = b := ⟨_, rfl⟩
  rw [hb5] at HRR
  rw [hb5] at H5
  clear hb5
  obtain ⟨b6, hb6⟩ : ∃ b, (amt 0 x.next_) = b := ⟨_, rfl⟩
  rw [hb6] at HRR
  rw [hb6] at H6
  clear hb6
  have HW1 := Lib.hid hw1
  have HK1 := Lib.hid k1
  clear hw1 k1
  have hs0 := hA.size
  have hT0 : Below w1.heap.size w1 w1 := Below.refl _ _
  clear hx
  go_enter Tryz.func66, Tryz.ntmps66
  have z0 := (HK1.out.below hT0 HK1.out.lt).cell 0
  simp only [gA, gB] at z0
  go_upto_region 1 with fail
  rw [HW1.out]
  rcases b1 with _ | _
  · have he : x.into_.toList.isEmpty = true := by have := of_decide_eq_false hb1; rw [show x.into_ = ByteArray.empty from Classical.byContradiction this]; exact empty_isEmpty
    go_wp2
    go_ret
    exact ⟨ret_bool (by rw [HRR.out]; rfl), (hA.trans (hT0.mono hs0))⟩
  · have he : x.into_.toList.isEmpty = false := isEmpty_no (of_decide_eq_true hb1)
    have z0 := (HK1.out.below hT0 HK1.out.lt).cell 0
    simp only [gA, gB] at z0
    go_wp2_with fail
    refine (H2.out _ hT0).mono ?_
    rintro e v2 ⟨rfl, hV2⟩
    have hT2 : Below w1.heap.size w1 v2 := hT0.trans (hV2.mono hT0.size)
    have hX2 : Below w.heap.size w v2 := hA.trans (hT2.mono hs0)
    rcases b2 with _ | _
    · skip
      go_wp2
      go_ret
      exact ⟨ret_bool (by rw [HRR.out]; rfl), hX2⟩
    · skip
      have z1 := (HK1.out.below hT2 HK1.out.lt).cell 1
      have z2 := (HK1.out.below hT2 HK1.out.lt).cell 2
      have z3 := (HK1.out.below hT2 HK1.out.lt).cell 3
      have z4 := (HK1.out.below hT2 HK1.out.lt).cell 4
      have z5 := (HK1.out.below hT2 HK1.out.lt).cell 5
      have z6 := (HK1.out.below hT2 HK1.out.lt).cell 6
      have z7 := (HK1.out.below hT2 HK1.out.lt).cell 7
      have z8 := (HK1.out.below hT2 HK1.out.lt).cell 8
      have z9 := (HK1.out.below hT2 HK1.out.lt).cell 9
      have z10 := (HK1.out.below hT2 HK1.out.lt).cell 10
      have z11 := (HK1.out.below hT2 HK1.out.lt).cell 11
      have z12 := (HK1.out.below hT2 HK1.out.lt).cell 12
      simp only [gA, gB] at z1 z2 z3 z4 z5 z6 z7 z8 z9 z10 z11 z12
      go_wp2_with fail
      refine (H3.out _ hT2).mono ?_
      rintro e v3 ⟨rfl, hV3⟩
      have hT3 : Below w1.heap.size w1 v3 := hT2.trans (hV3.mono hT2.size)
      have hX3 : Below w.heap.size w v3 := hA.trans (hT3.mono hs0)
      rcases b3 with _ | _
      · skip
        go_wp2
        go_ret
        exact ⟨ret_bool (by rw [HRR.out]; rfl), hX3⟩
      · skip
        have z13 := (HK1.out.below hT3 HK1.out.lt).cell 13
        simp only [gA, gB] at z13
        go_wp2_with fail
        refine (H4.out _ hT3).mono ?_
        rintro e v4 ⟨rfl, hV4⟩
        have hT4 : Below w1.heap.size w1 v4 := hT3.trans (hV4.mono hT3.size)
        have hX4 : Below w.heap.size w v4 := hA.trans (hT4.mono hs0)
        rcases b4 with _ | _
        · skip
          go_wp2
          go_ret
          exact ⟨ret_bool (by rw [HRR.out]; rfl), hX4⟩
        · skip
          have z14 := (HK1.out.below hT4 HK1.out.lt).cell 14
          simp only [gA, gB] at z14
          go_wp2_with fail
          refine (H5.out _ hT4).mono ?_
          rintro e v5 ⟨rfl, hV5⟩
          have hT5 : Below w1.heap.size w1 v5 := hT4.trans (hV5.mono hT4.size)
          have hX5 : Below w.heap.size w v5 := hA.trans (hT5.mono hs0)
          rcases b5 with _ | _
          · skip
            go_wp2
            go_ret
            exact ⟨ret_bool (by rw [HRR.out]; rfl), hX5⟩
          · skip
            have z15 := (HK1.out.below hT5 HK1.out.lt).cell 15
            simp only [gA, gB] at z15
            go_wp2_with fail
            refine (H6.out _ hT5).mono ?_
            rintro e v6 ⟨rfl, hV6⟩
            have hT6 : Below w1.heap.size w1 v6 := hT5.trans (hV6.mono hT5.size)
            have hX6 : Below w.heap.size w v6 := hA.trans (hT6.mono hs0)
            rcases b6 with _ | _
            · skip
              go_wp2
              go_ret
              exact ⟨ret_bool (by rw [HRR.out]; rfl), hX6⟩
            · skip
              go_wp2
              go_ret
              exact ⟨ret_bool (by rw [HRR.out]; rfl), hX6⟩

theorem refEntry_e (x : MEntry) (ht : x.path_.size ≤ 4398046511104) (hu : x.user_ = ByteArray.empty) (w : World) (hx : x.Good w) :
    Calls Tryz.prog 67 #[.agg #[.string ByteArray.empty, .int .i64 x.kind_, .string x.path_, .int .i64 x.err_]] w fun e w' => e = .returned (.bool (entryB x.plain)) ∧ Below w.heap.size w w' := by
  obtain ⟨w1, hw1⟩ : ∃ w1, w.alloc (.cells #[.string ByteArray.empty, .int .i64 x.kind_, .string x.path_, .int .i64 x.err_] 103) = w1 := ⟨_, rfl⟩
  have hB1 : Below w.heap.size w w1 := hw1 ▸ (Below.refl _ w).alloc (Nat.le_refl _) _
  have k1 : Blk w1 w.heap.size 103 [.string ByteArray.empty, .int .i64 x.kind_, .string x.path_, .int .i64 x.err_] := hw1 ▸ Blk.new w _ _
  have hA : Below w.heap.size w w1 := hB1
  have H1 : Hid (∀ W, Below w1.heap.size w1 W → Calls Tryz.prog 77 #[.string x.path_] W fun e w' => e = .returned (.bool (isPath (bs x.path_))) ∧ Below W.heap.size W w') := Lib.hid fun W hW => refPath_any _ ht W
  have H2 : Hid (∀ W, Below w1.heap.size w1 W → Calls Tryz.prog 63 #[.int .i64 x.kind_, .int .i64 0] W fun e w' => e = .returned (.bool (amt 0 x.kind_)) ∧ Below W.heap.size W w') := Lib.hid fun W hW => amountB _ _ W
  have H3 : Hid (∀ W, Below w1.heap.size w1 W → Calls Tryz.prog 63 #[.int .i64 x.err_, .int .i64 0] W fun e w' => e = .returned (.bool (amt 0 x.err_)) ∧ Below W.heap.size W w') := Lib.hid fun W hW => amountB _ _ W
  obtain ⟨R, hR⟩ : ∃ R, entryB x.plain = R := ⟨_, rfl⟩
  rw [hR]
  have HRR : Hid (R = ((isPath (bs x.path_)) && ((amt 0 x.kind_) && ((amt 0 x.err_))))) := Lib.hid (hR.symm.trans (show entryB x.plain = ((isPath (bs x.path_)) && ((amt 0 x.kind_) && ((amt 0 x.err_)))) from by simp [entryB, MEntry.plain, hu]))
  clear hR
  obtain ⟨b1, hb1⟩ : ∃ b, (isPath (bs x.path_)) = b := ⟨_, rfl⟩
  rw [hb1] at HRR
  rw [hb1] at H1
  clear hb1
  obtain ⟨b2, hb2⟩ : ∃ b, (amt 0 x.kind_) = b := ⟨_, rfl⟩
  rw [hb2] at HRR
  rw [hb2] at H2
  clear hb2
  obtain ⟨b3, hb3⟩ : ∃ b, (amt 0 x.err_) = b := ⟨_, rfl⟩
  rw [hb3] at HRR
  rw [hb3] at H3
  clear hb3
  have HW1 := Lib.hid hw1
  have HK1 := Lib.hid k1
  clear hw1 k1
  have hs0 := hA.size
  have hT0 : Below w1.heap.size w1 w1 := Below.refl _ _
  clear hx
  go_enter Tryz.func67, Tryz.ntmps67
  have z0 := (HK1.out.below hT0 HK1.out.lt).cell 0
  have z2 := (HK1.out.below hT0 HK1.out.lt).cell 2
  simp only [gA, gB] at z0 z2
  go_wp2_with fail
  rw [HW1.out]
  try go_wp2_with fail
  refine (H1.out _ hT0).mono ?_
  rintro e v1 ⟨rfl, hV1⟩
  have hT1 : Below w1.heap.size w1 v1 := hT0.trans (hV1.mono hT0.size)
  have hX1 : Below w.heap.size w v1 := hA.trans (hT1.mono hs0)
  rcases b1 with _ | _
  · skip
    go_wp2
    go_ret
    exact ⟨ret_bool (by rw [HRR.out]; rfl), hX1⟩
  · skip
    have z1 := (HK1.out.below hT1 HK1.out.lt).cell 1
    simp only [gA, gB] at z1
    go_wp2_with fail
    refine (H2.out _ hT1).mono ?_
    rintro e v2 ⟨rfl, hV2⟩
    have hT2 : Below w1.heap.size w1 v2 := hT1.trans (hV2.mono hT1.size)
    have hX2 : Below w.heap.size w v2 := hA.trans (hT2.mono hs0)
    rcases b2 with _ | _
    · skip
      go_wp2
      go_ret
      exact ⟨ret_bool (by rw [HRR.out]; rfl), hX2⟩
    · skip
      have z3 := (HK1.out.below hT2 HK1.out.lt).cell 3
      simp only [gA, gB] at z3
      go_wp2_with fail
      refine (H3.out _ hT2).mono ?_
      rintro e v3 ⟨rfl, hV3⟩
      have hT3 : Below w1.heap.size w1 v3 := hT2.trans (hV3.mono hT2.size)
      have hX3 : Below w.heap.size w v3 := hA.trans (hT3.mono hs0)
      rcases b3 with _ | _
      · skip
        go_wp2
        go_ret
        exact ⟨ret_bool (by rw [HRR.out]; rfl), hX3⟩
      · skip
        go_wp2
        go_ret
        exact ⟨ret_bool (by rw [HRR.out]; rfl), hX3⟩

theorem refEntry_n (x : MEntry) (ht : x.path_.size ≤ 4398046511104) (hu : ¬ x.user_ = ByteArray.empty) (w : World) (hx : x.Good w) :
    Calls Tryz.prog 67 #[.agg #[.string x.user_, .int .i64 x.kind_, .string x.path_, .int .i64 x.err_]] w fun e w' => e = .returned (.bool (entryB x.plain)) ∧ Below w.heap.size w w' := by
  have he := isEmpty_no hu
  obtain ⟨w1, hw1⟩ : ∃ w1, w.alloc (.cells #[.string x.user_, .int .i64 x.kind_, .string x.path_, .int .i64 x.err_] 103) = w1 := ⟨_, rfl⟩
  have hB1 : Below w.heap.size w w1 := hw1 ▸ (Below.refl _ w).alloc (Nat.le_refl _) _
  have k1 : Blk w1 w.heap.size 103 [.string x.user_, .int .i64 x.kind_, .string x.path_, .int .i64 x.err_] := hw1 ▸ Blk.new w _ _
  have hA : Below w.heap.size w w1 := hB1
  have H1 : Hid (∀ W, Below w1.heap.size w1 W → Calls Tryz.prog 62 #[.string x.user_] W fun e w' => e = .returned (.bool (isName (bs x.user_))) ∧ Below W.heap.size W w') := Lib.hid fun W hW => refNameB _ (by have := hx.guser_; omega) W
  have H2 : Hid (∀ W, Below w1.heap.size w1 W → Calls Tryz.prog 77 #[.string x.path_] W fun e w' => e = .returned (.bool (isPath (bs x.path_))) ∧ Below W.heap.size W w') := Lib.hid fun W hW => refPath_any _ ht W
  have H3 : Hid (∀ W, Below w1.heap.size w1 W → Calls Tryz.prog 63 #[.int .i64 x.kind_, .int .i64 0] W fun e w' => e = .returned (.bool (amt 0 x.kind_)) ∧ Below W.heap.size W w') := Lib.hid fun W hW => amountB _ _ W
  have H4 : Hid (∀ W, Below w1.heap.size w1 W → Calls Tryz.prog 63 #[.int .i64 x.err_, .int .i64 0] W fun e w' => e = .returned (.bool (amt 0 x.err_)) ∧ Below W.heap.size W w') := Lib.hid fun W hW => amountB _ _ W
  obtain ⟨R, hR⟩ : ∃ R, entryB x.plain = R := ⟨_, rfl⟩
  rw [hR]
  have HRR : Hid (R = ((isName (bs x.user_)) && ((isPath (bs x.path_)) && ((amt 0 x.kind_) && ((amt 0 x.err_)))))) := Lib.hid (hR.symm.trans (show entryB x.plain = ((isName (bs x.user_)) && ((isPath (bs x.path_)) && ((amt 0 x.kind_) && ((amt 0 x.err_))))) from by simp [entryB, MEntry.plain, hu]))
  clear hR
  obtain ⟨b1, hb1⟩ : ∃ b, (isName (bs x.user_)) = b := ⟨_, rfl⟩
  rw [hb1] at HRR
  rw [hb1] at H1
  clear hb1
  obtain ⟨b2, hb2⟩ : ∃ b, (isPath (bs x.path_)) = b := ⟨_, rfl⟩
  rw [hb2] at HRR
  rw [hb2] at H2
  clear hb2
  obtain ⟨b3, hb3⟩ : ∃ b, (amt 0 x.kind_) = b := ⟨_, rfl⟩
  rw [hb3] at HRR
  rw [hb3] at H3
  clear hb3
  obtain ⟨b4, hb4⟩ : ∃ b, (amt 0 x.err_) = b := ⟨_, rfl⟩
  rw [hb4] at HRR
  rw [hb4] at H4
  clear hb4
  have HW1 := Lib.hid hw1
  have HK1 := Lib.hid k1
  clear hw1 k1
  have hs0 := hA.size
  have hT0 : Below w1.heap.size w1 w1 := Below.refl _ _
  clear hx
  go_enter Tryz.func67, Tryz.ntmps67
  have z0 := (HK1.out.below hT0 HK1.out.lt).cell 0
  simp only [gA, gB] at z0
  go_wp2_with fail
  rw [HW1.out]
  try go_wp2_with fail
  refine (H1.out _ hT0).mono ?_
  rintro e v1 ⟨rfl, hV1⟩
  have hT1 : Below w1.heap.size w1 v1 := hT0.trans (hV1.mono hT0.size)
  have hX1 : Below w.heap.size w v1 := hA.trans (hT1.mono hs0)
  rcases b1 with _ | _
  · skip
    go_wp2
    go_ret
    exact ⟨ret_bool (by rw [HRR.out]; rfl), hX1⟩
  · skip
    have z0 := (HK1.out.below hT1 HK1.out.lt).cell 0
    have z2 := (HK1.out.below hT1 HK1.out.lt).cell 2
    simp only [gA, gB] at z0 z2
    go_wp2_with fail
    refine (H2.out _ hT1).mono ?_
    rintro e v2 ⟨rfl, hV2⟩
    have hT2 : Below w1.heap.size w1 v2 := hT1.trans (hV2.mono hT1.size)
    have hX2 : Below w.heap.size w v2 := hA.trans (hT2.mono hs0)
    rcases b2 with _ | _
    · skip
      go_wp2
      go_ret
      exact ⟨ret_bool (by rw [HRR.out]; rfl), hX2⟩
    · skip
      have z1 := (HK1.out.below hT2 HK1.out.lt).cell 1
      simp only [gA, gB] at z1
      go_wp2_with fail
      refine (H3.out _ hT2).mono ?_
      rintro e v3 ⟨rfl, hV3⟩
      have hT3 : Below w1.heap.size w1 v3 := hT2.trans (hV3.mono hT2.size)
      have hX3 : Below w.heap.size w v3 := hA.trans (hT3.mono hs0)
      rcases b3 with _ | _
      · skip
        go_wp2
        go_ret
        exact ⟨ret_bool (by rw [HRR.out]; rfl), hX3⟩
      · skip
        have z3 := (HK1.out.below hT3 HK1.out.lt).cell 3
        simp only [gA, gB] at z3
        go_wp2_with fail
        refine (H4.out _ hT3).mono ?_
        rintro e v4 ⟨rfl, hV4⟩
        have hT4 : Below w1.heap.size w1 v4 := hT3.trans (hV4.mono hT3.size)
        have hX4 : Below w.heap.size w v4 := hA.trans (hT4.mono hs0)
        rcases b4 with _ | _
        · skip
          go_wp2
          go_ret
          exact ⟨ret_bool (by rw [HRR.out]; rfl), hX4⟩
        · skip
          go_wp2
          go_ret
          exact ⟨ret_bool (by rw [HRR.out]; rfl), hX4⟩

theorem refEntry_any (x : MEntry) (ht : x.path_.size ≤ 4398046511104) (w : World) (hx : x.Good w) :
    Calls Tryz.prog 67 #[.agg x.cells.toArray] w fun e w' => e = .returned (.bool (entryB x.plain)) ∧ Below w.heap.size w w' := by
  by_cases hu : x.user_ = ByteArray.empty
  · have := refEntry_e x ht hu w hx
    rw [← hu] at this
    exact this
  · exact refEntry_n x ht hu w hx

end Go.Proofs.YtnioelkibghplaaGreat

namespace Go.Proofs.YtnioelkibghplaaGreat
open Go.ChangeShapes Go.WideShapes Go.ChangeAt Go.RowKit
set_option maxRecDepth 100000
set_option linter.unusedSimpArgs false

def ltGb (a b : Gr) : Bool := decide (ltG a b)
theorem okG_two (l : List Gr) : okG l = (goodL goodG ltGb l && decide (l.length ≤ 16)) := by
  rw [Bool.eq_iff_iff, okG_iff, Bool.and_eq_true, decide_eq_true_iff]
  unfold goodL
  rw [Bool.and_eq_true, List.all_eq_true, riseB_iff]
  constructor
  · rintro ⟨h1, h2, h3⟩
    refine ⟨⟨h2, fun j y x hy hx => decide_eq_true ?_⟩, h1⟩
    obtain ⟨hi, ex⟩ := List.getElem?_eq_some_iff.1 hy
    obtain ⟨hj, ey⟩ := List.getElem?_eq_some_iff.1 hx
    rw [← ex, ← ey]
    exact List.pairwise_iff_getElem.1 h3 j (j + 1) hi hj (by omega)
  · rintro ⟨⟨h2, h3⟩, h1⟩
    refine ⟨h1, h2, ?_⟩
    have := riseB_pair (lt := ltGb) (fun a b c h h' => decide_eq_true (ltG_trans (of_decide_eq_true h) (of_decide_eq_true h'))) (riseB_iff.2 h3)
    exact this.imp fun h => of_decide_eq_true h
theorem beqV (a b : ByteArray) : (a.toList == b.toList) = decide (a = b) := by
  rw [Bool.eq_iff_iff, beq_iff_eq, decide_eq_true_eq]
  exact ⟨ba_toList, fun h => by rw [h]⟩

set_option maxHeartbeats 4000000 in
theorem refGrants_any (A : Option Addr) (c n : Nat) (l : List Gr) (hn : l.length = n) (hl : n ≤ 4398046511104) (hf : ∀ x ∈ l, x.1.size ≤ 140737488351232 ∧ x.2.1.size ≤ 4398046511104) (w : World) (hr : Rd w A (grs l)) :
    Calls Tryz.prog 64 #[.slice A n c] w fun e w' => e = .returned (.int .i64 (if okG l = true then 0 else 9)) ∧ Below w.heap.size w w' := by
  subst hn
  obtain ⟨R, hR⟩ : ∃ R : Int, (if okG l = true then 0 else 9) = R := ⟨_, rfl⟩
  have HR := Lib.hid hR
  rw [hR]
  have HOK := Lib.hid (okG_two l)
  have H9 : Hid (goodL goodG ltGb l = false → R = 9) := Lib.hid fun h => by
    rw [← HR.out, HOK.out, h]
    rfl
  clear hR
  go_enter Tryz.func64, Tryz.ntmps64
  go_wp2
  go_loopw [3] (fun j W => ∃ k : Nat, k ≤ l.length ∧ j = .int .i64 k ∧ Hid (UpTo goodG ltGb l k) ∧ Below w.heap.size w W) (fun j _ => l.length - (intOf j).toNat)
  case atStart => exact ⟨0, Nat.zero_le _, rfl, Lib.hid upTo_zero, Below.refl _ _⟩
  case round =>
    obtain ⟨k, hk, rfl, HU, hB⟩ := hrel
    by_cases hlt : k < l.length
    · obtain ⟨x, hx⟩ : ∃ x, l[k]? = some x := ⟨l[k], List.getElem?_eq_getElem hlt⟩
      have HRDW := Lib.hid (Rd.below hr hB)
      obtain ⟨b, off, rfl, hb, hc0, hc1, hc2⟩ := (Rd.below hr hB).gr hx
      obtain ⟨hs1, hs2⟩ := hf x (List.mem_of_getElem? hx)
      have HX := Lib.hid hx
      have HN := Lib.hid (fun W => refName_any x.1 (by omega) W)
      have HP := Lib.hid (fun W => refPath_any x.2.1 (by omega) W)
      have HGD : Hid (goodG x = (isName (bs x.1) && (isPath (bs x.2.1) && someP x.2.2))) := Lib.hid rfl
      clear hx
      obtain ⟨x1, x2, x3⟩ := x
      dsimp only at hc0 hc1 hc2 hs1 hs2 HN HP HGD
      obtain ⟨w1, hw1⟩ : ∃ w1, wr.alloc (.cells #[.string x1, .string x2, .int .i64 x3] 111) = w1 := ⟨_, rfl⟩
      have hB1 : Below wr.heap.size wr w1 := hw1 ▸ (Below.refl _ wr).alloc (Nat.le_refl _) _
      have k1 : Blk w1 wr.heap.size 111 [.string x1, .string x2, .int .i64 x3] := hw1 ▸ Blk.new wr _ _
      have hBw1 : Below w.heap.size w w1 := hB.trans (hB1.mono hB.size)
      have y0 := k1.cell 0
      have y1 := k1.cell 1
      have y2 := k1.cell 2
      simp only [gA, gB] at y0 y1 y2
      have HW1 := Lib.hid hw1
      have HK1 := Lib.hid k1
      have HB1 := Lib.hid hB1
      clear hw1 k1 hB1
      rcases g1 : isName (bs x1) with _ | _
      · have HR9 : Hid (R = 9) := Lib.hid (H9.out (goodL_bad HX.out (by rw [HGD.out, g1]; rfl)))
        rw [g1] at HN
        clear g1 HU HGD HRDW HP
        go_wp2_with fail
        rw [HW1.out]
        go_wp2_with fail
        refine (HN.out w1).mono ?_
        rintro e w2 ⟨rfl, rfl⟩
        go_wp2
        go_ret
        rw [HR9.out]
        exact ⟨rfl, hBw1⟩

      rcases g2 : isPath (bs x2) with _ | _
      · have HR9 : Hid (R = 9) := Lib.hid (H9.out (goodL_bad HX.out (by rw [HGD.out, g1, g2]; rfl)))
        rw [g1] at HN
        rw [g2] at HP
        clear g1 g2 HU HGD HRDW
        go_wp2_with fail
        rw [HW1.out]
        go_wp2_with fail
        refine (HN.out w1).mono ?_
        rintro e w2 ⟨rfl, rfl⟩
        go_wp2_with fail
        refine (HP.out w1).mono ?_
        rintro e w3 ⟨rfl, hB3⟩
        have k3 := HK1.out.below hB3 HK1.out.lt
        have z0 := k3.cell 0
        have z1 := k3.cell 1
        have z2 := k3.cell 2
        simp only [gA, gB] at z0 z1 z2
        have hBw3 := hBw1.trans (hB3.mono hBw1.size)
        have hBr3 : Below wr.heap.size wr w3 := HB1.out.trans (hB3.mono HB1.out.size)
        clear k3 y0 y1 y2 HN HP
        go_wp2
        go_ret
        rw [HR9.out]
        exact ⟨rfl, hBw3⟩

      rcases g3 : someP x3 with _ | _
      · have HR9 : Hid (R = 9) := Lib.hid (H9.out (goodL_bad HX.out (by rw [HGD.out, g1, g2, g3]; rfl)))
        rw [g1] at HN
        rw [g2] at HP
        have hways : x3 < 1 ∨ (¬ x3 < 1 ∧ 255 < x3) := by
          unfold someP at g3
          by_cases h : 1 ≤ x3
          · rw [decide_eq_true h, Bool.true_and] at g3
            have := of_decide_eq_false g3
            omega
          · omega
        clear g1 g2 g3 HU HGD HRDW
        rcases hways with h | ⟨h, h'⟩
        all_goals
          go_wp2_with fail
          rw [HW1.out]
          go_wp2_with fail
          refine (HN.out w1).mono ?_
          rintro e w2 ⟨rfl, rfl⟩
          go_wp2_with fail
          refine (HP.out w1).mono ?_
          rintro e w3 ⟨rfl, hB3⟩
          have k3 := HK1.out.below hB3 HK1.out.lt
          have z0 := k3.cell 0
          have z1 := k3.cell 1
          have z2 := k3.cell 2
          simp only [gA, gB] at z0 z1 z2
          have hBw3 := hBw1.trans (hB3.mono hBw1.size)
          have hBr3 : Below wr.heap.size wr w3 := HB1.out.trans (hB3.mono HB1.out.size)
          clear k3 y0 y1 y2 HN HP
          go_wp2
          go_ret
          rw [HR9.out]
          exact ⟨rfl, hBw3⟩

      have hgd : goodG (x1, x2, x3) = true := by rw [HGD.out, g1, g2, g3]; rfl
      have h1le : ¬ x3 < 1 := by
        unfold someP at g3
        rw [Bool.and_eq_true] at g3
        have := of_decide_eq_true g3.1
        omega
      have h255 : ¬ 255 < x3 := by
        unfold someP at g3
        rw [Bool.and_eq_true] at g3
        have := of_decide_eq_true g3.2
        omega
      have HG := Lib.hid hgd
      rw [g1] at HN
      rw [g2] at HP
      clear g1 g2 g3 HGD hgd
      have hway : (Hid (k = 0) ∧ decide (0 < k) = false) ∨ ∃ (i : Nat) (y : Gr), decide (0 < k) = true ∧ IntKind.i64.wrap ((k : Int) - 1) = (i : Int) ∧ i < l.length ∧ Hid (k = i + 1) ∧ Hid (l[i]? = some y) := by
        rcases k with _ | j
        · exact .inl ⟨Lib.hid rfl, rfl⟩
        · obtain ⟨y, hy⟩ : ∃ y, l[j]? = some y := ⟨l[j]'(by omega), List.getElem?_eq_getElem (by omega)⟩
          exact .inr ⟨j, y, decide_eq_true (by omega), by rw [show (((j + 1 : Nat) : Int) - 1) = (j : Int) by omega]; exact IntWalk.i64_in _ (by omega), by omega, Lib.hid rfl, Lib.hid hy⟩
      rcases hway with ⟨HK0, hj0⟩ | ⟨i, y, hj0, hw, hi, HKI, HY⟩
      · have HU' : Hid (UpTo goodG ltGb l (k + 1)) := Lib.hid (upTo_succ HU.out HX.out HG.out fun j y h => by have := HK0.out; omega)
        clear HRDW HU
        go_wp2_with fail
        rw [HW1.out]
        go_wp2_with fail
        refine (HN.out w1).mono ?_
        rintro e w2 ⟨rfl, rfl⟩
        go_wp2_with fail
        refine (HP.out w1).mono ?_
        rintro e w3 ⟨rfl, hB3⟩
        have k3 := HK1.out.below hB3 HK1.out.lt
        have z0 := k3.cell 0
        have z1 := k3.cell 1
        have z2 := k3.cell 2
        simp only [gA, gB] at z0 z1 z2
        have hBw3 := hBw1.trans (hB3.mono hBw1.size)
        have hBr3 : Below wr.heap.size wr w3 := HB1.out.trans (hB3.mono HB1.out.size)
        clear k3 y0 y1 y2 HN HP
        go_wp2_with fail
        go_big_quiet (fail)
        go_wp2
        go_roundw
        case rel => exact ⟨k + 1, by omega, by go_num, HU', hBw3.trans (belowDrewN _ _ _)⟩
        case measure => simp [intOf]; omega
      · obtain ⟨b', off', e', hb', d0, d1, d2⟩ := HRDW.out.gr HY.out
        injection e' with e'
        injection e' with e1 e2 _
        subst e1 e2
        obtain ⟨y1', y2', y3'⟩ := y
        dsimp only at d0 d1 d2
        have hbl : b < wr.heap.size := hb
        have hcs : (ltG (y1', y2', y3') (x1, x2, x3) ∧ ((Op.bytesLess y1'.toList x1.toList = true ∧ (y1'.toList == x1.toList) = false) ∨ ((Op.bytesLess y1'.toList x1.toList = false ∧ (y1'.toList == x1.toList) = true) ∧ Op.bytesLess y2'.toList x2.toList = true))) ∨ (¬ ltG (y1', y2', y3') (x1, x2, x3) ∧ ((Op.bytesLess y1'.toList x1.toList = false ∧ (y1'.toList == x1.toList) = false) ∨ ((Op.bytesLess y1'.toList x1.toList = false ∧ (y1'.toList == x1.toList) = true) ∧ Op.bytesLess y2'.toList x2.toList = false))) := by
          by_cases h : ltG (y1', y2', y3') (x1, x2, x3)
          · refine .inl ⟨h, ?_⟩
            rcases ltG_iff.1 h with h1 | ⟨h1, h2⟩
            · exact .inl ⟨h1, by rw [beqV, decide_eq_false (ltK_ne h1)]⟩
            · dsimp only at h1 h2
              exact .inr ⟨⟨by rw [h1, bl_irr], by rw [beqV, decide_eq_true h1]⟩, h2⟩
          · refine .inr ⟨h, ?_⟩
            rcases ltK_tri y1' x1 with h1 | h1 | h1
            · exact absurd (ltG_iff.2 (.inl h1)) h
            · refine .inl ⟨?_, by rw [beqV, decide_eq_false fun e => ltK_ne h1 e.symm]⟩
              rw [← Bool.not_eq_true]
              intro h3
              exact ltK_asym h1 h3
            · refine .inr ⟨⟨by rw [h1, bl_irr], by rw [beqV, decide_eq_true h1]⟩, ?_⟩
              rw [← Bool.not_eq_true]
              intro h2
              exact h (ltG_iff.2 (.inr ⟨h1, h2⟩))
        rcases hcs with ⟨hlg, hA⟩ | ⟨hlg, hA⟩
        · have HU' : Hid (UpTo goodG ltGb l (k + 1)) := Lib.hid (upTo_succ HU.out HX.out HG.out fun j y h hy => by
            obtain rfl : j = i := by have := HKI.out; omega
            rw [HY.out] at hy
            injection hy with hy
            subst hy
            exact decide_eq_true hlg)
          clear HRDW HU hlg HY HX HG
          rcases hA with ⟨hA1, hA2⟩ | ⟨⟨hA1, hA2⟩, hA3⟩
          all_goals
            go_wp2_with fail
            rw [HW1.out]
            go_wp2_with fail
            refine (HN.out w1).mono ?_
            rintro e w2 ⟨rfl, rfl⟩
            go_wp2_with fail
            refine (HP.out w1).mono ?_
            rintro e w3 ⟨rfl, hB3⟩
            have k3 := HK1.out.below hB3 HK1.out.lt
            have z0 := k3.cell 0
            have z1 := k3.cell 1
            have z2 := k3.cell 2
            simp only [gA, gB] at z0 z1 z2
            have hBw3 := hBw1.trans (hB3.mono hBw1.size)
            have hBr3 : Below wr.heap.size wr w3 := HB1.out.trans (hB3.mono HB1.out.size)
            clear k3 y0 y1 y2 HN HP
            have d0' := (hBr3.cell (p := ⟨b, off + i * 3, none⟩) hbl).trans d0
            have d1' := (hBr3.cell (p := ⟨b, off + i * 3 + 1, none⟩) hbl).trans d1
            go_wp2_with fail
            go_big_quiet (fail)
            go_wp2
            go_roundw
            case rel => exact ⟨k + 1, by omega, by go_num, HU', hBw3.trans (belowDrewN _ _ _)⟩
            case measure => simp [intOf]; omega
        · have HR9 : Hid (R = 9) := Lib.hid (H9.out (goodL_low HY.out (by rw [← HKI.out]; exact HX.out) (decide_eq_false hlg)))
          clear HRDW HU hlg HY HX HG
          rcases hA with ⟨hA1, hA2⟩ | ⟨⟨hA1, hA2⟩, hA3⟩
          all_goals
            go_wp2_with fail
            rw [HW1.out]
            go_wp2_with fail
            refine (HN.out w1).mono ?_
            rintro e w2 ⟨rfl, rfl⟩
            go_wp2_with fail
            refine (HP.out w1).mono ?_
            rintro e w3 ⟨rfl, hB3⟩
            have k3 := HK1.out.below hB3 HK1.out.lt
            have z0 := k3.cell 0
            have z1 := k3.cell 1
            have z2 := k3.cell 2
            simp only [gA, gB] at z0 z1 z2
            have hBw3 := hBw1.trans (hB3.mono hBw1.size)
            have hBr3 : Below wr.heap.size wr w3 := HB1.out.trans (hB3.mono HB1.out.size)
            clear k3 y0 y1 y2 HN HP
            have d0' := (hBr3.cell (p := ⟨b, off + i * 3, none⟩) hbl).trans d0
            have d1' := (hBr3.cell (p := ⟨b, off + i * 3 + 1, none⟩) hbl).trans d1
            go_wp2_with fail
            go_big_quiet (fail)
            go_wp2
            go_ret
            rw [HR9.out]
            exact ⟨rfl, hBw3.trans (belowDrewN _ _ _)⟩
    · have hgl := upTo_end HU.out (by omega)
      by_cases h16 : l.length ≤ 16
      · have HRR : Hid (R = 0) := Lib.hid (by rw [← HR.out, HOK.out, hgl, decide_eq_true h16]; rfl)
        have hq : ¬ (16 : Int) < (l.length : Int) := by omega
        clear hgl
        go_wp2
        go_ret
        rw [HRR.out]
        exact ⟨rfl, hB⟩
      · have HRR : Hid (R = 9) := Lib.hid (by rw [← HR.out, HOK.out, hgl, decide_eq_false h16]; rfl)
        have hq : (16 : Int) < (l.length : Int) := by omega
        clear hgl
        go_wp2
        go_ret
        rw [HRR.out]
        exact ⟨rfl, hB⟩

end Go.Proofs.YtnioelkibghplaaGreat
