/-
 Which begin, stage and entry may be, by the reference. Conditions: they are as they come in; paths of at most 2^42 octets.
-/
import Derived.Test.YtimmcmjipmkebaaGreatVEB
import Derived.Test.YtimmcmjipmkebaaGreatVRPP
import Derived.Test.YtimmcmjipmkebaaGreatVTMH
namespace Go.Proofs.YtimmcmjipmkebaaGreat
set_option maxHeartbeats 1000000
open Go.ChangeShapes Go.WideShapes Go.ChangeAt Go.RowKit
set_option maxRecDepth 100000
set_option linter.unusedVariables false
set_option linter.unusedSimpArgs false
theorem refNameB (s : ByteArray) (hs : s.size ≤ 140737488355328) (w : World) :
 Calls Tryz.prog 66 #[.string s] w fun e w' => e = .returned (.bool (zaQ (bs s))) ∧ Below w.heap.size w w' :=
 (refName_any s hs w).mono fun _ _ ⟨h, h'⟩ => ⟨h, h' ▸ Below.refl _ _⟩
theorem amountB (m n : Int) (w : World) :
 Calls Tryz.prog 68 #[.int .i64 n, .int .i64 m] w fun e w' => e = .returned (.bool (amt m n)) ∧ Below w.heap.size w w' :=
 (amount_any m n w).mono fun _ _ ⟨h, h'⟩ => ⟨h, h' ▸ Below.refl _ _⟩
theorem refBkS (X : Sl Bk) (w : World) (h : SlGood w bkC goodBk 24 X) :
 Calls Tryz.prog 123 #[.slice X.A X.l.length X.c] w fun e w' => e = .returned (.int .i64 (if okK X.l then 0 else 9)) ∧ Below w.heap.size w w' :=
 refCheck_any X.A X.c X.l.length X.l rfl (by have := h.len; omega) (fun x hx => (h.el x hx).1) w h.rd
theorem refPrS (X : Sl Pr) (w : World) (h : SlGood w prC goodPr 32 X) :
 Calls Tryz.prog 124 #[.slice X.A X.l.length X.c] w fun e w' => e = .returned (.int .i64 (if okP X.l then 0 else 9)) ∧ Below w.heap.size w w' :=
 refProps_any X.A X.c X.l.length X.l rfl (by have := h.len; omega) (fun x hx => h.el x hx) w h.rd
theorem refBegin_any (x : MR_) (w : World) (hx : x.Good w) :
 Calls Tryz.prog 126 #[.agg #[.int .i64 x.N_, .string x.x_, .int .i64 x.from_, .int .i64 x.z_, .slice x.j_.A x.j_.l.length x.j_.c, .int .i64 x.E_, .int .i64 x.Y_, .string x.P_, .int .u64 x.T_.a_, .int .u64 x.T_.b_, .int .u64 x.T_.c_, .int .u64 x.T_.d_]] w fun e w' => e = .returned (.bool (beginB x.plain)) ∧ Below w.heap.size w w' := by
 obtain ⟨w1, hw1⟩ : ∃ w1, w.alloc (.cells #[.int .i64 x.N_, .string x.x_, .int .i64 x.from_, .int .i64 x.z_, .slice x.j_.A x.j_.l.length x.j_.c, .int .i64 x.E_, .int .i64 x.Y_, .string x.P_, .int .u64 x.T_.a_, .int .u64 x.T_.b_, .int .u64 x.T_.c_, .int .u64 x.T_.d_] 89) = w1 := ⟨_, rfl⟩
 have hB1 : Below w.heap.size w w1 := hw1 ▸ (Below.refl _ w).alloc (Nat.le_refl _) _
 have k1 : Blk w1 w.heap.size 89 [.int .i64 x.N_, .string x.x_, .int .i64 x.from_, .int .i64 x.z_, .slice x.j_.A x.j_.l.length x.j_.c, .int .i64 x.E_, .int .i64 x.Y_, .string x.P_, .int .u64 x.T_.a_, .int .u64 x.T_.b_, .int .u64 x.T_.c_, .int .u64 x.T_.d_] := hw1 ▸ Blk.new w _ _
 have hA : Below w.heap.size w w1 := hB1
 have H2 : Hid (∀ W, Below w1.heap.size w1 W → Calls Tryz.prog 66 #[.string x.x_] W fun e w' => e = .returned (.bool (zaQ (bs x.x_))) ∧ Below W.heap.size W w') := zI fun W hW => refNameB _ (by have := hx.L_; omega) W
 have H3 : Hid (∀ W, Below w1.heap.size w1 W → Calls Tryz.prog 68 #[.int .i64 x.from_, .int .i64 0] W fun e w' => e = .returned (.bool (amt 0 x.from_)) ∧ Below W.heap.size W w') := zI fun W hW => amountB _ _ W
 have H4 : Hid (∀ W, Below w1.heap.size w1 W → Calls Tryz.prog 68 #[.int .i64 x.z_, .int .i64 1] W fun e w' => e = .returned (.bool (amt 1 x.z_)) ∧ Below W.heap.size W w') := zI fun W hW => amountB _ _ W
 have H5 : Hid (∀ W, Below w1.heap.size w1 W → Calls Tryz.prog 124 #[.slice x.j_.A x.j_.l.length x.j_.c] W fun e w' => e = .returned (.int .i64 (if (okP x.j_.l) then 0 else 9)) ∧ Below W.heap.size W w') := zI fun W hW => refPrS _ W (hx.G_.below (hA.trans (hW.mono hA.size)) fun _ h => h)
 obtain ⟨R, hR⟩ : ∃ R, beginB x.plain = R := ⟨_, rfl⟩
 rw [hR]
 have HRR : Hid (R = ((decide (x.N_ = 1)) && ((zaQ (bs x.x_)) && ((amt 0 x.from_) && ((amt 1 x.z_) && ((okP x.j_.l) && ((decide (x.E_ = 0)) && ((decide (x.Y_ = 0)) && ((decide (x.P_ = ByteArray.empty)) && ((zeroSum x.T_.plain))))))))))) := zI (hR.symm.trans (show beginB x.plain = ((decide (x.N_ = 1)) && ((zaQ (bs x.x_)) && ((amt 0 x.from_) && ((amt 1 x.z_) && ((okP x.j_.l) && ((decide (x.E_ = 0)) && ((decide (x.Y_ = 0)) && ((decide (x.P_ = ByteArray.empty)) && ((zeroSum x.T_.plain)))))))))) from by rfl))
 clear hR
 obtain ⟨b1, hb1⟩ : ∃ b, (decide (x.N_ = 1)) = b := ⟨_, rfl⟩
 rw [hb1] at HRR
 obtain ⟨b2, hb2⟩ : ∃ b, (zaQ (bs x.x_)) = b := ⟨_, rfl⟩
 rw [hb2] at HRR
 rw [hb2] at H2
 clear hb2
 obtain ⟨b3, hb3⟩ : ∃ b, (amt 0 x.from_) = b := ⟨_, rfl⟩
 rw [hb3] at HRR
 rw [hb3] at H3
 clear hb3
 obtain ⟨b4, hb4⟩ : ∃ b, (amt 1 x.z_) = b := ⟨_, rfl⟩
 rw [hb4] at HRR
 rw [hb4] at H4
 clear hb4
 obtain ⟨b5, hb5⟩ : ∃ b, (okP x.j_.l) = b := ⟨_, rfl⟩
 rw [hb5] at HRR
 rw [hb5] at H5
 clear hb5
 obtain ⟨b6, hb6⟩ : ∃ b, (decide (x.E_ = 0)) = b := ⟨_, rfl⟩
 rw [hb6] at HRR
 obtain ⟨b7, hb7⟩ : ∃ b, (decide (x.Y_ = 0)) = b := ⟨_, rfl⟩
 rw [hb7] at HRR
 obtain ⟨b8, hb8⟩ : ∃ b, (decide (x.P_ = ByteArray.empty)) = b := ⟨_, rfl⟩
 rw [hb8] at HRR
 obtain ⟨b9, hb9⟩ : ∃ b, (zeroSum x.T_.plain) = b := ⟨_, rfl⟩
 rw [hb9] at HRR
 have HW1 := zI hw1
 have HK1 := zI k1
 clear hw1 k1
 have hs0 := hA.size
 have hT0 : Below w1.heap.size w1 w1 := Below.refl _ _
 clear hx
 go_enter Tryz.func126, Tryz.ntmps126
 have z0 := (HK1.out.below hT0 HK1.out.lt).cell 0
 simp only [gZa, gZb] at z0
 go_upto_region 1 with fail
 rw [HW1.out]
 rcases b1 with _ | _
 · have ht1 : (x.N_ == 1) = false := beq_eq_false_iff_ne.2 (of_decide_eq_false hb1)
   go_wp2
   go_ret
   exact ⟨zaZ (by rw [HRR.out]; rfl), (hA.trans (hT0.mono hs0))⟩
 · have ht1 : (x.N_ == 1) = true := beq_iff_eq.2 (of_decide_eq_true hb1)
   have z1 := (HK1.out.below hT0 HK1.out.lt).cell 1
   simp only [gZa, gZb] at z1
   go_wp2_with fail
   refine (H2.out _ hT0).mono ?_
   rintro e v2 ⟨rfl, hV2⟩
   have hT2 : Below w1.heap.size w1 v2 := hT0.trans (hV2.mono hT0.size)
   have hX2 : Below w.heap.size w v2 := hA.trans (hT2.mono hs0)
   rcases b2 with _ | _
   · skip
     go_wp2
     go_ret
     exact ⟨zaZ (by rw [HRR.out]; rfl), hX2⟩
   · skip
     have z2 := (HK1.out.below hT2 HK1.out.lt).cell 2
     simp only [gZa, gZb] at z2
     go_wp2_with fail
     refine (H3.out _ hT2).mono ?_
     rintro e v3 ⟨rfl, hV3⟩
     have hT3 : Below w1.heap.size w1 v3 := hT2.trans (hV3.mono hT2.size)
     have hX3 : Below w.heap.size w v3 := hA.trans (hT3.mono hs0)
     rcases b3 with _ | _
     · skip
       go_wp2
       go_ret
       exact ⟨zaZ (by rw [HRR.out]; rfl), hX3⟩
     · skip
       have z3 := (HK1.out.below hT3 HK1.out.lt).cell 3
       simp only [gZa, gZb] at z3
       go_wp2_with fail
       refine (H4.out _ hT3).mono ?_
       rintro e v4 ⟨rfl, hV4⟩
       have hT4 : Below w1.heap.size w1 v4 := hT3.trans (hV4.mono hT3.size)
       have hX4 : Below w.heap.size w v4 := hA.trans (hT4.mono hs0)
       rcases b4 with _ | _
       · skip
         go_wp2
         go_ret
         exact ⟨zaZ (by rw [HRR.out]; rfl), hX4⟩
       · skip
         have z4 := (HK1.out.below hT4 HK1.out.lt).cell 4
         simp only [gZa, gZb] at z4
         go_wp2_with fail
         refine (H5.out _ hT4).mono ?_
         rintro e v5 ⟨rfl, hV5⟩
         have hT5 : Below w1.heap.size w1 v5 := hT4.trans (hV5.mono hT4.size)
         have hX5 : Below w.heap.size w v5 := hA.trans (hT5.mono hs0)
         rcases b5 with _ | _
         · skip
           go_wp2
           go_ret
           exact ⟨zaZ (by rw [HRR.out]; rfl), hX5⟩
         · skip
           have z5 := (HK1.out.below hT5 HK1.out.lt).cell 5
           simp only [gZa, gZb] at z5
           rcases b6 with _ | _
           · have ht6 : (x.E_ == 0) = false := beq_eq_false_iff_ne.2 (of_decide_eq_false hb6)
             go_wp2
             go_ret
             exact ⟨zaZ (by rw [HRR.out]; rfl), (hA.trans (hT5.mono hs0))⟩
           · have ht6 : (x.E_ == 0) = true := beq_iff_eq.2 (of_decide_eq_true hb6)
             have z6 := (HK1.out.below hT5 HK1.out.lt).cell 6
             simp only [gZa, gZb] at z6
             rcases b7 with _ | _
             · have ht7 : (x.Y_ == 0) = false := beq_eq_false_iff_ne.2 (of_decide_eq_false hb7)
               go_wp2
               go_ret
               exact ⟨zaZ (by rw [HRR.out]; rfl), (hA.trans (hT5.mono hs0))⟩
             · have ht7 : (x.Y_ == 0) = true := beq_iff_eq.2 (of_decide_eq_true hb7)
               have z7 := (HK1.out.below hT5 HK1.out.lt).cell 7
               simp only [gZa, gZb] at z7
               rcases b8 with _ | _
               · have he : x.P_.toList.isEmpty = false := isEmpty_no (of_decide_eq_false hb8)
                 go_wp2
                 go_ret
                 exact ⟨zaZ (by rw [HRR.out]; rfl), (hA.trans (hT5.mono hs0))⟩
               · have he : x.P_.toList.isEmpty = true := by rw [of_decide_eq_true hb8]; exact empty_isEmpty
                 have z8 := (HK1.out.below hT5 HK1.out.lt).cell 8
                 have z9 := (HK1.out.below hT5 HK1.out.lt).cell 9
                 have z10 := (HK1.out.below hT5 HK1.out.lt).cell 10
                 have z11 := (HK1.out.below hT5 HK1.out.lt).cell 11
                 simp only [gZa, gZb] at z8 z9 z10 z11
                 rcases b9 with _ | _
                 · rcases sum_no hb9 with h1 | ⟨h1, h2⟩ | ⟨h1, h2, h3⟩ | ⟨h1, h2, h3, h4⟩
                   all_goals
                    go_wp2
                    go_ret
                    exact ⟨zaZ (by rw [HRR.out]; rfl), (hA.trans (hT5.mono hs0))⟩
                 · obtain ⟨h1, h2, h3, h4⟩ := sum_yes hb9
                   go_wp2
                   go_ret
                   exact ⟨zaZ (by rw [HRR.out]; rfl), (hA.trans (hT5.mono hs0))⟩
theorem refStage_any (x : Mta) (ht : x.S_.size ≤ 4398046511104) (w : World) (hx : x.Good w) :
 Calls Tryz.prog 71 #[.agg #[.string x.S_, .int .i64 x.o_.N_, .string x.o_.x_, .int .i64 x.o_.from_, .int .i64 x.o_.z_, .slice x.o_.j_.A x.o_.j_.l.length x.o_.j_.c, .int .i64 x.o_.E_, .int .i64 x.o_.Y_, .string x.o_.P_, .int .u64 x.o_.T_.a_, .int .u64 x.o_.T_.b_, .int .u64 x.o_.T_.c_, .int .u64 x.o_.T_.d_, .slice x.p_.A x.p_.l.length x.p_.c, .int .i64 x.at_, .int .i64 x.v_, .int .u64 x.T_.a_, .int .u64 x.T_.b_, .int .u64 x.T_.c_, .int .u64 x.T_.d_, .bool x.done_]] w fun e w' => e = .returned (.bool (zeZ x.plain)) ∧ Below w.heap.size w w' := by
 obtain ⟨w1, hw1⟩ : ∃ w1, w.alloc (.cells #[.string x.S_, .int .i64 x.o_.N_, .string x.o_.x_, .int .i64 x.o_.from_, .int .i64 x.o_.z_, .slice x.o_.j_.A x.o_.j_.l.length x.o_.j_.c, .int .i64 x.o_.E_, .int .i64 x.o_.Y_, .string x.o_.P_, .int .u64 x.o_.T_.a_, .int .u64 x.o_.T_.b_, .int .u64 x.o_.T_.c_, .int .u64 x.o_.T_.d_, .slice x.p_.A x.p_.l.length x.p_.c, .int .i64 x.at_, .int .i64 x.v_, .int .u64 x.T_.a_, .int .u64 x.T_.b_, .int .u64 x.T_.c_, .int .u64 x.T_.d_, .bool x.done_] 91) = w1 := ⟨_, rfl⟩
 have hB1 : Below w.heap.size w w1 := hw1 ▸ (Below.refl _ w).alloc (Nat.le_refl _) _
 have k1 : Blk w1 w.heap.size 91 [.string x.S_, .int .i64 x.o_.N_, .string x.o_.x_, .int .i64 x.o_.from_, .int .i64 x.o_.z_, .slice x.o_.j_.A x.o_.j_.l.length x.o_.j_.c, .int .i64 x.o_.E_, .int .i64 x.o_.Y_, .string x.o_.P_, .int .u64 x.o_.T_.a_, .int .u64 x.o_.T_.b_, .int .u64 x.o_.T_.c_, .int .u64 x.o_.T_.d_, .slice x.p_.A x.p_.l.length x.p_.c, .int .i64 x.at_, .int .i64 x.v_, .int .u64 x.T_.a_, .int .u64 x.T_.b_, .int .u64 x.T_.c_, .int .u64 x.T_.d_, .bool x.done_] := hw1 ▸ Blk.new w _ _
 have hA : Below w.heap.size w w1 := hB1
 have H2 : Hid (∀ W, Below w1.heap.size w1 W → Calls Tryz.prog 61 #[.string x.S_] W fun e w' => e = .returned (.bool (zeX (bs x.S_))) ∧ Below W.heap.size W w') := zI fun W hW => refPath_any _ ht W
 have H3 : Hid (∀ W, Below w1.heap.size w1 W → Calls Tryz.prog 126 #[.agg #[.int .i64 x.o_.N_, .string x.o_.x_, .int .i64 x.o_.from_, .int .i64 x.o_.z_, .slice x.o_.j_.A x.o_.j_.l.length x.o_.j_.c, .int .i64 x.o_.E_, .int .i64 x.o_.Y_, .string x.o_.P_, .int .u64 x.o_.T_.a_, .int .u64 x.o_.T_.b_, .int .u64 x.o_.T_.c_, .int .u64 x.o_.T_.d_]] W fun e w' => e = .returned (.bool (beginB x.o_.plain)) ∧ Below W.heap.size W w') := zI fun W hW => refBegin_any x.o_ W (hx.X_.below (hA.trans (hW.mono hA.size)))
 have H4 : Hid (∀ W, Below w1.heap.size w1 W → Calls Tryz.prog 123 #[.slice x.p_.A x.p_.l.length x.p_.c] W fun e w' => e = .returned (.int .i64 (if (okK x.p_.l) then 0 else 9)) ∧ Below W.heap.size W w') := zI fun W hW => refBkS _ W (hx.K_.below (hA.trans (hW.mono hA.size)) fun _ h => h)
 have H5 : Hid (∀ W, Below w1.heap.size w1 W → Calls Tryz.prog 68 #[.int .i64 x.at_, .int .i64 0] W fun e w' => e = .returned (.bool (amt 0 x.at_)) ∧ Below W.heap.size W w') := zI fun W hW => amountB _ _ W
 have H6 : Hid (∀ W, Below w1.heap.size w1 W → Calls Tryz.prog 68 #[.int .i64 x.v_, .int .i64 0] W fun e w' => e = .returned (.bool (amt 0 x.v_)) ∧ Below W.heap.size W w') := zI fun W hW => amountB _ _ W
 obtain ⟨R, hR⟩ : ∃ R, zeZ x.plain = R := ⟨_, rfl⟩
 rw [hR]
 have HRR : Hid (R = ((decide (x.S_ ≠ ByteArray.empty)) && ((zeX (bs x.S_)) && ((beginB x.o_.plain) && ((okK x.p_.l) && ((amt 0 x.at_) && ((amt 0 x.v_)))))))) := zI (hR.symm.trans (show zeZ x.plain = ((decide (x.S_ ≠ ByteArray.empty)) && ((zeX (bs x.S_)) && ((beginB x.o_.plain) && ((okK x.p_.l) && ((amt 0 x.at_) && ((amt 0 x.v_))))))) from by rfl))
 clear hR
 obtain ⟨b1, hb1⟩ : ∃ b, (decide (x.S_ ≠ ByteArray.empty)) = b := ⟨_, rfl⟩
 rw [hb1] at HRR
 obtain ⟨b2, hb2⟩ : ∃ b, (zeX (bs x.S_)) = b := ⟨_, rfl⟩
 rw [hb2] at HRR
 rw [hb2] at H2
 clear hb2
 obtain ⟨b3, hb3⟩ : ∃ b, (beginB x.o_.plain) = b := ⟨_, rfl⟩
 rw [hb3] at HRR
 rw [hb3] at H3
 clear hb3
 obtain ⟨b4, hb4⟩ : ∃ b, (okK x.p_.l) = b := ⟨_, rfl⟩
 rw [hb4] at HRR
 rw [hb4] at H4
 clear hb4
 obtain ⟨b5, hb5⟩ : ∃ b, (amt 0 x.at_) = b := ⟨_, rfl⟩
 rw [hb5] at HRR
 rw [hb5] at H5
 clear hb5
 obtain ⟨b6, hb6⟩ : ∃ b, (amt 0 x.v_) = b := ⟨_, rfl⟩
 rw [hb6] at HRR
 rw [hb6] at H6
 clear hb6
 have HW1 := zI hw1
 have HK1 := zI k1
 clear hw1 k1
 have hs0 := hA.size
 have hT0 : Below w1.heap.size w1 w1 := Below.refl _ _
 clear hx
 go_enter Tryz.func71, Tryz.ntmps71
 have z0 := (HK1.out.below hT0 HK1.out.lt).cell 0
 simp only [gZa, gZb] at z0
 go_upto_region 1 with fail
 rw [HW1.out]
 rcases b1 with _ | _
 · have he : x.S_.toList.isEmpty = true := by have := of_decide_eq_false hb1; rw [show x.S_ = ByteArray.empty from Classical.byContradiction this]; exact empty_isEmpty
   go_wp2
   go_ret
   exact ⟨zaZ (by rw [HRR.out]; rfl), (hA.trans (hT0.mono hs0))⟩
 · have he : x.S_.toList.isEmpty = false := isEmpty_no (of_decide_eq_true hb1)
   have z0 := (HK1.out.below hT0 HK1.out.lt).cell 0
   simp only [gZa, gZb] at z0
   go_wp2_with fail
   refine (H2.out _ hT0).mono ?_
   rintro e v2 ⟨rfl, hV2⟩
   have hT2 : Below w1.heap.size w1 v2 := hT0.trans (hV2.mono hT0.size)
   have hX2 : Below w.heap.size w v2 := hA.trans (hT2.mono hs0)
   rcases b2 with _ | _
   · skip
     go_wp2
     go_ret
     exact ⟨zaZ (by rw [HRR.out]; rfl), hX2⟩
   · skip
     have z1 := (HK1.out.below hT2 HK1.out.lt).cell 1
     have z2 := (HK1.out.below hT2 HK1.out.lt).cell 2
     have z3 := (HK1.out.below hT2 HK1.out.lt).cell 3
     have z4 := (HK1.out.below hT2 HK1.out.lt).cell 4
     have z5 := (HK1.out.below hT2 HK1.out.lt).cell 5
     have z6 := (HK1.out.below hT2 HK1.out.lt).cell 6
     have z7 := (HK1.out.below hT2 HK1.out.lt).cell 7
     have z8 := (HK1.out.below hT2 HK1.out.lt).cell 8
     have z9 := (HK1.out.below hT2 HK1.out.lt).cell 9
     have z10 := (HK1.out.below hT2 HK1.out.lt).cell 10
     have z11 := (HK1.out.below hT2 HK1.out.lt).cell 11
     have z12 := (HK1.out.below hT2 HK1.out.lt).cell 12
     simp only [gZa, gZb] at z1 z2 z3 z4 z5 z6 z7 z8 z9 z10 z11 z12
     go_wp2_with fail
     refine (H3.out _ hT2).mono ?_
     rintro e v3 ⟨rfl, hV3⟩
     have hT3 : Below w1.heap.size w1 v3 := hT2.trans (hV3.mono hT2.size)
     have hX3 : Below w.heap.size w v3 := hA.trans (hT3.mono hs0)
     rcases b3 with _ | _
     · skip
       go_wp2
       go_ret
       exact ⟨zaZ (by rw [HRR.out]; rfl), hX3⟩
     · skip
       have z13 := (HK1.out.below hT3 HK1.out.lt).cell 13
       simp only [gZa, gZb] at z13
       go_wp2_with fail
       refine (H4.out _ hT3).mono ?_
       rintro e v4 ⟨rfl, hV4⟩
       have hT4 : Below w1.heap.size w1 v4 := hT3.trans (hV4.mono hT3.size)
       have hX4 : Below w.heap.size w v4 := hA.trans (hT4.mono hs0)
       rcases b4 with _ | _
       · skip
         go_wp2
         go_ret
         exact ⟨zaZ (by rw [HRR.out]; rfl), hX4⟩
       · skip
         have z14 := (HK1.out.below hT4 HK1.out.lt).cell 14
         simp only [gZa, gZb] at z14
         go_wp2_with fail
         refine (H5.out _ hT4).mono ?_
         rintro e v5 ⟨rfl, hV5⟩
         have hT5 : Below w1.heap.size w1 v5 := hT4.trans (hV5.mono hT4.size)
         have hX5 : Below w.heap.size w v5 := hA.trans (hT5.mono hs0)
         rcases b5 with _ | _
         · skip
           go_wp2
           go_ret
           exact ⟨zaZ (by rw [HRR.out]; rfl), hX5⟩
         · skip
           have z15 := (HK1.out.below hT5 HK1.out.lt).cell 15
           simp only [gZa, gZb] at z15
           go_wp2_with fail
           refine (H6.out _ hT5).mono ?_
           rintro e v6 ⟨rfl, hV6⟩
           have hT6 : Below w1.heap.size w1 v6 := hT5.trans (hV6.mono hT5.size)
           have hX6 : Below w.heap.size w v6 := hA.trans (hT6.mono hs0)
           rcases b6 with _ | _
           · skip
             go_wp2
             go_ret
             exact ⟨zaZ (by rw [HRR.out]; rfl), hX6⟩
           · skip
             go_wp2
             go_ret
             exact ⟨zaZ (by rw [HRR.out]; rfl), hX6⟩
theorem refEntry_e (x : ME_) (ht : x.l_.size ≤ 4398046511104) (hu : x.O_ = ByteArray.empty) (w : World) (hx : x.Good w) :
 Calls Tryz.prog 72 #[.agg #[.string ByteArray.empty, .int .i64 x.N_, .string x.l_, .int .i64 x.err_]] w fun e w' => e = .returned (.bool (zfQ x.plain)) ∧ Below w.heap.size w w' := by
 obtain ⟨w1, hw1⟩ : ∃ w1, w.alloc (.cells #[.string ByteArray.empty, .int .i64 x.N_, .string x.l_, .int .i64 x.err_] 104) = w1 := ⟨_, rfl⟩
 have hB1 : Below w.heap.size w w1 := hw1 ▸ (Below.refl _ w).alloc (Nat.le_refl _) _
 have k1 : Blk w1 w.heap.size 104 [.string ByteArray.empty, .int .i64 x.N_, .string x.l_, .int .i64 x.err_] := hw1 ▸ Blk.new w _ _
 have hA : Below w.heap.size w w1 := hB1
 have H1 : Hid (∀ W, Below w1.heap.size w1 W → Calls Tryz.prog 61 #[.string x.l_] W fun e w' => e = .returned (.bool (zeX (bs x.l_))) ∧ Below W.heap.size W w') := zI fun W hW => refPath_any _ ht W
 have H2 : Hid (∀ W, Below w1.heap.size w1 W → Calls Tryz.prog 68 #[.int .i64 x.N_, .int .i64 0] W fun e w' => e = .returned (.bool (amt 0 x.N_)) ∧ Below W.heap.size W w') := zI fun W hW => amountB _ _ W
 have H3 : Hid (∀ W, Below w1.heap.size w1 W → Calls Tryz.prog 68 #[.int .i64 x.err_, .int .i64 0] W fun e w' => e = .returned (.bool (amt 0 x.err_)) ∧ Below W.heap.size W w') := zI fun W hW => amountB _ _ W
 obtain ⟨R, hR⟩ : ∃ R, zfQ x.plain = R := ⟨_, rfl⟩
 rw [hR]
 have HRR : Hid (R = ((zeX (bs x.l_)) && ((amt 0 x.N_) && ((amt 0 x.err_))))) := zI (hR.symm.trans (show zfQ x.plain = ((zeX (bs x.l_)) && ((amt 0 x.N_) && ((amt 0 x.err_)))) from by simp [zfQ, ME_.plain, hu]))
 clear hR
 obtain ⟨b1, hb1⟩ : ∃ b, (zeX (bs x.l_)) = b := ⟨_, rfl⟩
 rw [hb1] at HRR
 rw [hb1] at H1
 clear hb1
 obtain ⟨b2, hb2⟩ : ∃ b, (amt 0 x.N_) = b := ⟨_, rfl⟩
 rw [hb2] at HRR
 rw [hb2] at H2
 clear hb2
 obtain ⟨b3, hb3⟩ : ∃ b, (amt 0 x.err_) = b := ⟨_, rfl⟩
 rw [hb3] at HRR
 rw [hb3] at H3
 clear hb3
 have HW1 := zI hw1
 have HK1 := zI k1
 clear hw1 k1
 have hs0 := hA.size
 have hT0 : Below w1.heap.size w1 w1 := Below.refl _ _
 clear hx
 go_enter Tryz.func72, Tryz.ntmps72
 have z0 := (HK1.out.below hT0 HK1.out.lt).cell 0
 have z2 := (HK1.out.below hT0 HK1.out.lt).cell 2
 simp only [gZa, gZb] at z0 z2
 go_wp2_with fail
 rw [HW1.out]
 try go_wp2_with fail
 refine (H1.out _ hT0).mono ?_
 rintro e v1 ⟨rfl, hV1⟩
 have hT1 : Below w1.heap.size w1 v1 := hT0.trans (hV1.mono hT0.size)
 have hX1 : Below w.heap.size w v1 := hA.trans (hT1.mono hs0)
 rcases b1 with _ | _
 · skip
   go_wp2
   go_ret
   exact ⟨zaZ (by rw [HRR.out]; rfl), hX1⟩
 · skip
   have z1 := (HK1.out.below hT1 HK1.out.lt).cell 1
   simp only [gZa, gZb] at z1
   go_wp2_with fail
   refine (H2.out _ hT1).mono ?_
   rintro e v2 ⟨rfl, hV2⟩
   have hT2 : Below w1.heap.size w1 v2 := hT1.trans (hV2.mono hT1.size)
   have hX2 : Below w.heap.size w v2 := hA.trans (hT2.mono hs0)
   rcases b2 with _ | _
   · skip
     go_wp2
     go_ret
     exact ⟨zaZ (by rw [HRR.out]; rfl), hX2⟩
   · skip
     have z3 := (HK1.out.below hT2 HK1.out.lt).cell 3
     simp only [gZa, gZb] at z3
     go_wp2_with fail
     refine (H3.out _ hT2).mono ?_
     rintro e v3 ⟨rfl, hV3⟩
     have hT3 : Below w1.heap.size w1 v3 := hT2.trans (hV3.mono hT2.size)
     have hX3 : Below w.heap.size w v3 := hA.trans (hT3.mono hs0)
     rcases b3 with _ | _
     · skip
       go_wp2
       go_ret
       exact ⟨zaZ (by rw [HRR.out]; rfl), hX3⟩
     · skip
       go_wp2
       go_ret
       exact ⟨zaZ (by rw [HRR.out]; rfl), hX3⟩
theorem refEntry_n (x : ME_) (ht : x.l_.size ≤ 4398046511104) (hu : ¬ x.O_ = ByteArray.empty) (w : World) (hx : x.Good w) :
 Calls Tryz.prog 72 #[.agg #[.string x.O_, .int .i64 x.N_, .string x.l_, .int .i64 x.err_]] w fun e w' => e = .returned (.bool (zfQ x.plain)) ∧ Below w.heap.size w w' := by
 have he := isEmpty_no hu
 obtain ⟨w1, hw1⟩ : ∃ w1, w.alloc (.cells #[.string x.O_, .int .i64 x.N_, .string x.l_, .int .i64 x.err_] 104) = w1 := ⟨_, rfl⟩
 have hB1 : Below w.heap.size w w1 := hw1 ▸ (Below.refl _ w).alloc (Nat.le_refl _) _
 have k1 : Blk w1 w.heap.size 104 [.string x.O_, .int .i64 x.N_, .string x.l_, .int .i64 x.err_] := hw1 ▸ Blk.new w _ _
 have hA : Below w.heap.size w w1 := hB1
 have H1 : Hid (∀ W, Below w1.heap.size w1 W → Calls Tryz.prog 66 #[.string x.O_] W fun e w' => e = .returned (.bool (zaQ (bs x.O_))) ∧ Below W.heap.size W w') := zI fun W hW => refNameB _ (by have := hx.guser_; omega) W
 have H2 : Hid (∀ W, Below w1.heap.size w1 W → Calls Tryz.prog 61 #[.string x.l_] W fun e w' => e = .returned (.bool (zeX (bs x.l_))) ∧ Below W.heap.size W w') := zI fun W hW => refPath_any _ ht W
 have H3 : Hid (∀ W, Below w1.heap.size w1 W → Calls Tryz.prog 68 #[.int .i64 x.N_, .int .i64 0] W fun e w' => e = .returned (.bool (amt 0 x.N_)) ∧ Below W.heap.size W w') := zI fun W hW => amountB _ _ W
 have H4 : Hid (∀ W, Below w1.heap.size w1 W → Calls Tryz.prog 68 #[.int .i64 x.err_, .int .i64 0] W fun e w' => e = .returned (.bool (amt 0 x.err_)) ∧ Below W.heap.size W w') := zI fun W hW => amountB _ _ W
 obtain ⟨R, hR⟩ : ∃ R, zfQ x.plain = R := ⟨_, rfl⟩
 rw [hR]
 have HRR : Hid (R = ((zaQ (bs x.O_)) && ((zeX (bs x.l_)) && ((amt 0 x.N_) && ((amt 0 x.err_)))))) := zI (hR.symm.trans (show zfQ x.plain = ((zaQ (bs x.O_)) && ((zeX (bs x.l_)) && ((amt 0 x.N_) && ((amt 0 x.err_))))) from by simp [zfQ, ME_.plain, hu]))
 clear hR
 obtain ⟨b1, hb1⟩ : ∃ b, (zaQ (bs x.O_)) = b := ⟨_, rfl⟩
 rw [hb1] at HRR
 rw [hb1] at H1
 clear hb1
 obtain ⟨b2, hb2⟩ : ∃ b, (zeX (bs x.l_)) = b := ⟨_, rfl⟩
 rw [hb2] at HRR
 rw [hb2] at H2
 clear hb2
 obtain ⟨b3, hb3⟩ : ∃ b, (amt 0 x.N_) = b := ⟨_, rfl⟩
 rw [hb3] at HRR
 rw [hb3] at H3
 clear hb3
 obtain ⟨b4, hb4⟩ : ∃ b, (amt 0 x.err_) = b := ⟨_, rfl⟩
 rw [hb4] at HRR
 rw [hb4] at H4
 clear hb4
 have HW1 := zI hw1
 have HK1 := zI k1
 clear hw1 k1
 have hs0 := hA.size
 have hT0 : Below w1.heap.size w1 w1 := Below.refl _ _
 clear hx
 go_enter Tryz.func72, Tryz.ntmps72
 have z0 := (HK1.out.below hT0 HK1.out.lt).cell 0
 simp only [gZa, gZb] at z0
 go_wp2_with fail
 rw [HW1.out]
 try go_wp2_with fail
 refine (H1.out _ hT0).mono ?_
 rintro e v1 ⟨rfl, hV1⟩
 have hT1 : Below w1.heap.size w1 v1 := hT0.trans (hV1.mono hT0.size)
 have hX1 : Below w.heap.size w v1 := hA.trans (hT1.mono hs0)
 rcases b1 with _ | _
 · skip
   go_wp2
   go_ret
   exact ⟨zaZ (by rw [HRR.out]; rfl), hX1⟩
 · skip
   have z0 := (HK1.out.below hT1 HK1.out.lt).cell 0
   have z2 := (HK1.out.below hT1 HK1.out.lt).cell 2
   simp only [gZa, gZb] at z0 z2
   go_wp2_with fail
   refine (H2.out _ hT1).mono ?_
   rintro e v2 ⟨rfl, hV2⟩
   have hT2 : Below w1.heap.size w1 v2 := hT1.trans (hV2.mono hT1.size)
   have hX2 : Below w.heap.size w v2 := hA.trans (hT2.mono hs0)
   rcases b2 with _ | _
   · skip
     go_wp2
     go_ret
     exact ⟨zaZ (by rw [HRR.out]; rfl), hX2⟩
   · skip
     have z1 := (HK1.out.below hT2 HK1.out.lt).cell 1
     simp only [gZa, gZb] at z1
     go_wp2_with fail
     refine (H3.out _ hT2).mono ?_
     rintro e v3 ⟨rfl, hV3⟩
     have hT3 : Below w1.heap.size w1 v3 := hT2.trans (hV3.mono hT2.size)
     have hX3 : Below w.heap.size w v3 := hA.trans (hT3.mono hs0)
     rcases b3 with _ | _
     · skip
       go_wp2
       go_ret
       exact ⟨zaZ (by rw [HRR.out]; rfl), hX3⟩
     · skip
       have z3 := (HK1.out.below hT3 HK1.out.lt).cell 3
       simp only [gZa, gZb] at z3
       go_wp2_with fail
       refine (H4.out _ hT3).mono ?_
       rintro e v4 ⟨rfl, hV4⟩
       have hT4 : Below w1.heap.size w1 v4 := hT3.trans (hV4.mono hT3.size)
       have hX4 : Below w.heap.size w v4 := hA.trans (hT4.mono hs0)
       rcases b4 with _ | _
       · skip
         go_wp2
         go_ret
         exact ⟨zaZ (by rw [HRR.out]; rfl), hX4⟩
       · skip
         go_wp2
         go_ret
         exact ⟨zaZ (by rw [HRR.out]; rfl), hX4⟩
theorem refEntry_any (x : ME_) (ht : x.l_.size ≤ 4398046511104) (w : World) (hx : x.Good w) :
 Calls Tryz.prog 72 #[.agg x.cells.toArray] w fun e w' => e = .returned (.bool (zfQ x.plain)) ∧ Below w.heap.size w w' := by
 by_cases hu : x.O_ = ByteArray.empty
 · have := refEntry_e x ht hu w hx
   rw [← hu] at this
   exact this
 · exact refEntry_n x ht hu w hx
def ltGb (a b : Gr) : Bool := decide (ltG a b)
theorem okG_two (l : List Gr) : okG l = (goodL goodG ltGb l && decide (l.length ≤ 16)) := by
 rw [Bool.eq_iff_iff, okG_iff, Bool.and_eq_true, decide_eq_true_iff]
 unfold goodL
 rw [Bool.and_eq_true, List.all_eq_true, riseB_iff]
 constructor
 · rintro ⟨h1, h2, h3⟩
   refine ⟨⟨h2, fun j y x hy hx => decide_eq_true ?_⟩, h1⟩
   obtain ⟨hi, ex⟩ := List.getElem?_eq_some_iff.1 hy
   obtain ⟨hj, ey⟩ := List.getElem?_eq_some_iff.1 hx
   rw [← ex, ← ey]
   exact List.pairwise_iff_getElem.1 h3 j (j + 1) hi hj (by omega)
 · rintro ⟨⟨h2, h3⟩, h1⟩
   refine ⟨h1, h2, ?_⟩
   have := riseB_pair (lt := ltGb) (fun a b c h h' => decide_eq_true (ltG_trans (of_decide_eq_true h) (of_decide_eq_true h'))) (riseB_iff.2 h3)
   exact this.imp fun h => of_decide_eq_true h
theorem beqV (a b : ByteArray) : (a.toList == b.toList) = decide (a = b) := by
 rw [Bool.eq_iff_iff, beq_iff_eq, decide_eq_true_eq]
 exact ⟨ba_toList, fun h => by rw [h]⟩
set_option maxHeartbeats 4000000 in
theorem refGrants_any (A : Option Addr) (c n : Nat) (l : List Gr) (hn : l.length = n) (hl : n ≤ 4398046511104) (hf : ∀ x ∈ l, x.1.size ≤ 140737488351232 ∧ x.2.1.size ≤ 4398046511104) (w : World) (hr : Rd w A (grs l)) :
 Calls Tryz.prog 69 #[.slice A n c] w fun e w' => e = .returned (.int .i64 (if okG l = true then 0 else 9)) ∧ Below w.heap.size w w' := by
 subst hn
 obtain ⟨R, hR⟩ : ∃ R : Int, (if okG l = true then 0 else 9) = R := ⟨_, rfl⟩
 have HR := zI hR
 rw [hR]
 have HOK := zI (okG_two l)
 have H9 : Hid (goodL goodG ltGb l = false → R = 9) := zI fun h => by
  rw [← HR.out, HOK.out, h]
  rfl
 clear hR
 go_enter Tryz.func69, Tryz.ntmps69
 go_wp2
 go_loopw [3] (fun j W => ∃ k : Nat, k ≤ l.length ∧ j = .int .i64 k ∧ Hid (UpTo goodG ltGb l k) ∧ Below w.heap.size w W) (fun j _ => l.length - (intOf j).toNat)
 case atStart => exact ⟨0, Nat.zero_le _, rfl, zI upTo_zero, Below.refl _ _⟩
 case round =>
  obtain ⟨k, hk, rfl, HU, hB⟩ := hrel
  by_cases hlt : k < l.length
  · obtain ⟨x, hx⟩ : ∃ x, l[k]? = some x := ⟨l[k], qZa hlt⟩
    have HRDW := zI (Rd.below hr hB)
    obtain ⟨b, off, rfl, hb, hc0, hc1, hc2⟩ := (Rd.below hr hB).gr hx
    obtain ⟨hs1, hs2⟩ := hf x (mG hx)
    have HX := zI hx
    have HN := zI (fun W => refName_any x.1 (by omega) W)
    have HP := zI (fun W => refPath_any x.2.1 (by omega) W)
    have HGD : Hid (goodG x = (zaQ (bs x.1) && (zeX (bs x.2.1) && someP x.2.2))) := zI rfl
    clear hx
    obtain ⟨x1, x2, x3⟩ := x
    dsimp only at hc0 hc1 hc2 hs1 hs2 HN HP HGD
    obtain ⟨w1, hw1⟩ : ∃ w1, wr.alloc (.cells #[.string x1, .string x2, .int .i64 x3] 111) = w1 := ⟨_, rfl⟩
    have hB1 : Below wr.heap.size wr w1 := hw1 ▸ (Below.refl _ wr).alloc (Nat.le_refl _) _
    have k1 : Blk w1 wr.heap.size 111 [.string x1, .string x2, .int .i64 x3] := hw1 ▸ Blk.new wr _ _
    have hBw1 : Below w.heap.size w w1 := hB.trans (hB1.mono hB.size)
    have y0 := k1.cell 0
    have y1 := k1.cell 1
    have y2 := k1.cell 2
    simp only [gZa, gZb] at y0 y1 y2
    have HW1 := zI hw1
    have HK1 := zI k1
    have HB1 := zI hB1
    clear hw1 k1 hB1
    rcases g1 : zaQ (bs x1) with _ | _
    · have HR9 : Hid (R = 9) := zI (H9.out (goodL_bad HX.out (by rw [HGD.out, g1]; rfl)))
      rw [g1] at HN
      clear g1 HU HGD HRDW HP
      go_wp2_with fail
      rw [HW1.out]
      go_wp2_with fail
      refine (HN.out w1).mono ?_
      rintro e w2 ⟨rfl, rfl⟩
      go_wp2
      go_ret
      rw [HR9.out]
      exact ⟨rfl, hBw1⟩
    rcases g2 : zeX (bs x2) with _ | _
    · have HR9 : Hid (R = 9) := zI (H9.out (goodL_bad HX.out (by rw [HGD.out, g1, g2]; rfl)))
      rw [g1] at HN
      rw [g2] at HP
      clear g1 g2 HU HGD HRDW
      go_wp2_with fail
      rw [HW1.out]
      go_wp2_with fail
      refine (HN.out w1).mono ?_
      rintro e w2 ⟨rfl, rfl⟩
      go_wp2_with fail
      refine (HP.out w1).mono ?_
      rintro e w3 ⟨rfl, hB3⟩
      have k3 := HK1.out.below hB3 HK1.out.lt
      have z0 := k3.cell 0
      have z1 := k3.cell 1
      have z2 := k3.cell 2
      simp only [gZa, gZb] at z0 z1 z2
      have hBw3 := hBw1.trans (hB3.mono hBw1.size)
      have hBr3 : Below wr.heap.size wr w3 := HB1.out.trans (hB3.mono HB1.out.size)
      clear k3 y0 y1 y2 HN HP
      go_wp2
      go_ret
      rw [HR9.out]
      exact ⟨rfl, hBw3⟩
    rcases g3 : someP x3 with _ | _
    · have HR9 : Hid (R = 9) := zI (H9.out (goodL_bad HX.out (by rw [HGD.out, g1, g2, g3]; rfl)))
      rw [g1] at HN
      rw [g2] at HP
      have hways : x3 < 1 ∨ (¬ x3 < 1 ∧ 255 < x3) := by
       unfold someP at g3
       by_cases h : 1 ≤ x3
       · rw [decide_eq_true h, Bool.true_and] at g3
         have := of_decide_eq_false g3
         omega
       · omega
      clear g1 g2 g3 HU HGD HRDW
      rcases hways with h | ⟨h, h'⟩
      all_goals
       go_wp2_with fail
       rw [HW1.out]
       go_wp2_with fail
       refine (HN.out w1).mono ?_
       rintro e w2 ⟨rfl, rfl⟩
       go_wp2_with fail
       refine (HP.out w1).mono ?_
       rintro e w3 ⟨rfl, hB3⟩
       have k3 := HK1.out.below hB3 HK1.out.lt
       have z0 := k3.cell 0
       have z1 := k3.cell 1
       have z2 := k3.cell 2
       simp only [gZa, gZb] at z0 z1 z2
       have hBw3 := hBw1.trans (hB3.mono hBw1.size)
       have hBr3 : Below wr.heap.size wr w3 := HB1.out.trans (hB3.mono HB1.out.size)
       clear k3 y0 y1 y2 HN HP
       go_wp2
       go_ret
       rw [HR9.out]
       exact ⟨rfl, hBw3⟩
    have hgd : goodG (x1, x2, x3) = true := by rw [HGD.out, g1, g2, g3]; rfl
    have h1le : ¬ x3 < 1 := by
     unfold someP at g3
     rw [Bool.and_eq_true] at g3
     have := of_decide_eq_true g3.1
     omega
    have h255 : ¬ 255 < x3 := by
     unfold someP at g3
     rw [Bool.and_eq_true] at g3
     have := of_decide_eq_true g3.2
     omega
    have HG := zI hgd
    rw [g1] at HN
    rw [g2] at HP
    clear g1 g2 g3 HGD hgd
    have hway : (Hid (k = 0) ∧ decide (0 < k) = false) ∨ ∃ (i : Nat) (y : Gr), decide (0 < k) = true ∧ IntKind.i64.wrap ((k : Int) - 1) = (i : Int) ∧ i < l.length ∧ Hid (k = i + 1) ∧ Hid (l[i]? = some y) := by
     rcases k with _ | j
     · exact .inl ⟨zI rfl, rfl⟩
     · obtain ⟨y, hy⟩ : ∃ y, l[j]? = some y := ⟨l[j]'(by omega), qZa (by omega)⟩
       exact .inr ⟨j, y, decide_eq_true (by omega), by rw [show (((j + 1 : Nat) : Int) - 1) = (j : Int) by omega]; exact IntWalk.i64_in _ (by omega), by omega, zI rfl, zI hy⟩
    rcases hway with ⟨HK0, hj0⟩ | ⟨i, y, hj0, hw, hi, HKI, HY⟩
    · have HU' : Hid (UpTo goodG ltGb l (k + 1)) := zI (upTo_succ HU.out HX.out HG.out fun j y h => by have := HK0.out; omega)
      clear HRDW HU
      go_wp2_with fail
      rw [HW1.out]
      go_wp2_with fail
      refine (HN.out w1).mono ?_
      rintro e w2 ⟨rfl, rfl⟩
      go_wp2_with fail
      refine (HP.out w1).mono ?_
      rintro e w3 ⟨rfl, hB3⟩
      have k3 := HK1.out.below hB3 HK1.out.lt
      have z0 := k3.cell 0
      have z1 := k3.cell 1
      have z2 := k3.cell 2
      simp only [gZa, gZb] at z0 z1 z2
      have hBw3 := hBw1.trans (hB3.mono hBw1.size)
      have hBr3 : Below wr.heap.size wr w3 := HB1.out.trans (hB3.mono HB1.out.size)
      clear k3 y0 y1 y2 HN HP
      go_wp2_with fail
      go_big_quiet (fail)
      go_wp2
      go_roundw
      case rel => exact ⟨k + 1, by omega, by go_num, HU', hBw3.trans (zaX _ _ _)⟩
      case measure => simp [intOf]; omega
    · obtain ⟨b', off', e', hb', d0, d1, d2⟩ := HRDW.out.gr HY.out
      injection e' with e'
      injection e' with e1 e2 _
      subst e1 e2
      obtain ⟨y1', y2', y3'⟩ := y
      dsimp only at d0 d1 d2
      have hbl : b < wr.heap.size := hb
      have hcs : (ltG (y1', y2', y3') (x1, x2, x3) ∧ ((Op.bytesLess y1'.toList x1.toList = true ∧ (y1'.toList == x1.toList) = false) ∨ ((Op.bytesLess y1'.toList x1.toList = false ∧ (y1'.toList == x1.toList) = true) ∧ Op.bytesLess y2'.toList x2.toList = true))) ∨ (¬ ltG (y1', y2', y3') (x1, x2, x3) ∧ ((Op.bytesLess y1'.toList x1.toList = false ∧ (y1'.toList == x1.toList) = false) ∨ ((Op.bytesLess y1'.toList x1.toList = false ∧ (y1'.toList == x1.toList) = true) ∧ Op.bytesLess y2'.toList x2.toList = false))) := by
       by_cases h : ltG (y1', y2', y3') (x1, x2, x3)
       · refine .inl ⟨h, ?_⟩
         rcases ltG_iff.1 h with h1 | ⟨h1, h2⟩
         · exact .inl ⟨h1, by rw [beqV, decide_eq_false (ltK_ne h1)]⟩
         · dsimp only at h1 h2
           exact .inr ⟨⟨by rw [h1, bl_irr], by rw [beqV, decide_eq_true h1]⟩, h2⟩
       · refine .inr ⟨h, ?_⟩
         rcases ltK_tri y1' x1 with h1 | h1 | h1
         · exact absurd (ltG_iff.2 (.inl h1)) h
         · refine .inl ⟨?_, by rw [beqV, decide_eq_false fun e => ltK_ne h1 e.symm]⟩
           rw [← Bool.not_eq_true]
           intro h3
           exact ltK_asym h1 h3
         · refine .inr ⟨⟨by rw [h1, bl_irr], by rw [beqV, decide_eq_true h1]⟩, ?_⟩
           rw [← Bool.not_eq_true]
           intro h2
           exact h (ltG_iff.2 (.inr ⟨h1, h2⟩))
      rcases hcs with ⟨hlg, hA⟩ | ⟨hlg, hA⟩
      · have HU' : Hid (UpTo goodG ltGb l (k + 1)) := zI (upTo_succ HU.out HX.out HG.out fun j y h hy => by
         obtain rfl : j = i := by have := HKI.out; omega
         rw [HY.out] at hy
         injection hy with hy
         subst hy
         exact decide_eq_true hlg)
        clear HRDW HU hlg HY HX HG
        rcases hA with ⟨hA1, hA2⟩ | ⟨⟨hA1, hA2⟩, hA3⟩
        all_goals
         go_wp2_with fail
         rw [HW1.out]
         go_wp2_with fail
         refine (HN.out w1).mono ?_
         rintro e w2 ⟨rfl, rfl⟩
         go_wp2_with fail
         refine (HP.out w1).mono ?_
         rintro e w3 ⟨rfl, hB3⟩
         have k3 := HK1.out.below hB3 HK1.out.lt
         have z0 := k3.cell 0
         have z1 := k3.cell 1
         have z2 := k3.cell 2
         simp only [gZa, gZb] at z0 z1 z2
         have hBw3 := hBw1.trans (hB3.mono hBw1.size)
         have hBr3 : Below wr.heap.size wr w3 := HB1.out.trans (hB3.mono HB1.out.size)
         clear k3 y0 y1 y2 HN HP
         have d0' := (hBr3.cell (p := ⟨b, off + i * 3, none⟩) hbl).trans d0
         have d1' := (hBr3.cell (p := ⟨b, off + i * 3 + 1, none⟩) hbl).trans d1
         go_wp2_with fail
         go_big_quiet (fail)
         go_wp2
         go_roundw
         case rel => exact ⟨k + 1, by omega, by go_num, HU', hBw3.trans (zaX _ _ _)⟩
         case measure => simp [intOf]; omega
      · have HR9 : Hid (R = 9) := zI (H9.out (goodL_low HY.out (by rw [← HKI.out]; exact HX.out) (decide_eq_false hlg)))
        clear HRDW HU hlg HY HX HG
        rcases hA with ⟨hA1, hA2⟩ | ⟨⟨hA1, hA2⟩, hA3⟩
        all_goals
         go_wp2_with fail
         rw [HW1.out]
         go_wp2_with fail
         refine (HN.out w1).mono ?_
         rintro e w2 ⟨rfl, rfl⟩
         go_wp2_with fail
         refine (HP.out w1).mono ?_
         rintro e w3 ⟨rfl, hB3⟩
         have k3 := HK1.out.below hB3 HK1.out.lt
         have z0 := k3.cell 0
         have z1 := k3.cell 1
         have z2 := k3.cell 2
         simp only [gZa, gZb] at z0 z1 z2
         have hBw3 := hBw1.trans (hB3.mono hBw1.size)
         have hBr3 : Below wr.heap.size wr w3 := HB1.out.trans (hB3.mono HB1.out.size)
         clear k3 y0 y1 y2 HN HP
         have d0' := (hBr3.cell (p := ⟨b, off + i * 3, none⟩) hbl).trans d0
         have d1' := (hBr3.cell (p := ⟨b, off + i * 3 + 1, none⟩) hbl).trans d1
         go_wp2_with fail
         go_big_quiet (fail)
         go_wp2
         go_ret
         rw [HR9.out]
         exact ⟨rfl, hBw3.trans (zaX _ _ _)⟩
  · have hgl := upTo_end HU.out (by omega)
    by_cases h16 : l.length ≤ 16
    · have HRR : Hid (R = 0) := zI (by rw [← HR.out, HOK.out, hgl, decide_eq_true h16]; rfl)
      have hq : ¬ (16 : Int) < (l.length : Int) := by omega
      clear hgl
      go_wp2
      go_ret
      rw [HRR.out]
      exact ⟨rfl, hB⟩
    · have HRR : Hid (R = 9) := zI (by rw [← HR.out, HOK.out, hgl, decide_eq_false h16]; rfl)
      have hq : (16 : Int) < (l.length : Int) := by omega
      clear hgl
      go_wp2
      go_ret
      rw [HRR.out]
      exact ⟨rfl, hB⟩
set_option maxHeartbeats 4000000
theorem refFind_any (x : MT_) (p : ByteArray) (w : World) (hx : x.Good w) :
 Calls Tryz.prog 24 #[.agg x.cells.toArray, .string p] w fun e w' => e = .returned (.int .i64 (findM x p)) ∧ Below w.heap.size w w' := by
 obtain ⟨xn, xq, xt, ⟨A, l, c⟩, xg, xs, xl⟩ := x
 have hr := hx.w_.rd
 have hlen := hx.w_.len
 dsimp only at hr hlen
 obtain ⟨F, hF⟩ : ∃ F, findM ⟨xn, xq, xt, ⟨A, l, c⟩, xg, xs, xl⟩ p = F := ⟨_, rfl⟩
 rw [hF]
 have HF : Hid (findI (fun z : MSet => decide (z.l_ = p)) l = F) := zI hF
 obtain ⟨w1, hw1⟩ : ∃ w1, w.alloc (.cells #[.string xn, .int .i64 xq, .int .i64 xt, .slice A l.length c, .slice xg.A xg.l.length xg.c, .slice xs.A xs.l.length xs.c, .slice xl.A xl.l.length xl.c] 27) = w1 := ⟨_, rfl⟩
 have hB1 : Below w.heap.size w w1 := hw1 ▸ (Below.refl _ w).alloc (Nat.le_refl _) _
 have k1 : Blk w1 w.heap.size 27 [.string xn, .int .i64 xq, .int .i64 xt, .slice A l.length c, .slice xg.A xg.l.length xg.c, .slice xs.A xs.l.length xs.c, .slice xl.A xl.l.length xl.c] := hw1 ▸ Blk.new w _ _
 have hr1 := hr.below hB1
 have HK1 := zI k1
 have HW1 := zI hw1
 have hs1 := hB1.size
 clear k1 hw1 hF hr hx
 go_enter Tryz.func24, Tryz.ntmps24
 go_upto_region 1 with fail
 rw [HW1.out]
 go_wp2
 go_loopw [5] (fun i W => ∃ k : Nat, k ≤ l.length ∧ i = .int .i64 k ∧ Hid (∀ y ∈ l.take k, decide (y.l_ = p) = false) ∧ Below w1.heap.size w1 W) (fun i _ => l.length - (intOf i).toNat)
 case atStart => exact ⟨0, Nat.zero_le _, rfl, zI (by simp), Below.refl _ _⟩
 case round =>
  obtain ⟨k, hk, rfl, HU, hB⟩ := hrel
  have z3 := (HK1.out.below hB HK1.out.lt).cell 3
  simp only [gZa, gZb] at z3
  have hX := hB1.trans (hB.mono hs1)
  by_cases hlt : k < l.length
  · obtain ⟨y, hy⟩ : ∃ y, l[k]? = some y := ⟨l[k], qZa hlt⟩
    obtain ⟨b, off, rfl, hb, hc⟩ := Rd.elem (n := 5) (fun _ => rfl) (by omega) (hr1.below hB) hy
    have c0 : wr.cell? ⟨b, off + k * 5, none⟩ = some (.string y.l_) := hc 0 _ rfl
    have HY := zI hy
    clear hc hy
    by_cases he : y.l_ = p
    · have hd : (y.l_.toList == p.toList) = true := by rw [beqS]; exact decide_eq_true he
      obtain rfl : F = k := by rw [← HF.out]; exact findI_some HY.out (decide_eq_true he) HU.out
      clear he HU HF HY
      go_wp2
      go_ret
      exact ⟨rfl, hX⟩
    · have hd : (y.l_.toList == p.toList) = false := by rw [beqS]; exact decide_eq_false he
      have HU' : Hid (∀ y ∈ l.take (k + 1), decide (y.l_ = p) = false) := zI fun z hz => by
       rw [List.take_add_one, HY.out] at hz
       rcases List.mem_append.1 hz with h | h
       · exact HU.out z h
       · simp at h
         subst h
         exact decide_eq_false he
      clear he HU HF HY
      go_wp2
      go_roundw
      case rel => exact ⟨k + 1, by omega, by go_num, HU', hB⟩
      case measure => simp [intOf]; omega
  · obtain rfl : F = -1 := by
     rw [← HF.out]
     refine findI_none fun y hy => HU.out y ?_
     rw [List.take_of_length_le (by omega)]
     exact hy
    clear HU HF
    go_wp2
    go_ret
    exact ⟨rfl, hX⟩
theorem refSnap_any (x : MSet) (p : ByteArray) (w : World) (hx : SlGood w Mna.cells (Mna.Good w) 96 x.n_) :
 Calls Tryz.prog 25 #[.agg x.cells.toArray, .string p] w fun e w' => e = .returned (.int .i64 (snapM x p)) ∧ Below w.heap.size w w' := by
 obtain ⟨xp, xo, xb, ⟨A, l, c⟩, xw⟩ := x
 have hr := hx.rd
 have hlen := hx.len
 dsimp only at hr hlen
 obtain ⟨F, hF⟩ : ∃ F, snapM ⟨xp, xo, xb, ⟨A, l, c⟩, xw⟩ p = F := ⟨_, rfl⟩
 rw [hF]
 have HF : Hid (findI (fun z : Mna => decide (z.x_ = p)) l = F) := zI hF
 obtain ⟨w1, hw1⟩ : ∃ w1, w.alloc (.cells #[.string xp, .string xo, .slice xb.A xb.l.length xb.c, .slice A l.length c, .slice xw.A xw.l.length xw.c] 52) = w1 := ⟨_, rfl⟩
 have hB1 : Below w.heap.size w w1 := hw1 ▸ (Below.refl _ w).alloc (Nat.le_refl _) _
 have k1 : Blk w1 w.heap.size 52 [.string xp, .string xo, .slice xb.A xb.l.length xb.c, .slice A l.length c, .slice xw.A xw.l.length xw.c] := hw1 ▸ Blk.new w _ _
 have hr1 := hr.below hB1
 have HK1 := zI k1
 have HW1 := zI hw1
 have hs1 := hB1.size
 clear k1 hw1 hF hr hx
 go_enter Tryz.func25, Tryz.ntmps25
 go_upto_region 1 with fail
 rw [HW1.out]
 go_wp2
 go_loopw [5] (fun i W => ∃ k : Nat, k ≤ l.length ∧ i = .int .i64 k ∧ Hid (∀ y ∈ l.take k, decide (y.x_ = p) = false) ∧ Below w1.heap.size w1 W) (fun i _ => l.length - (intOf i).toNat)
 case atStart => exact ⟨0, Nat.zero_le _, rfl, zI (by simp), Below.refl _ _⟩
 case round =>
  obtain ⟨k, hk, rfl, HU, hB⟩ := hrel
  have z3 := (HK1.out.below hB HK1.out.lt).cell 3
  simp only [gZa, gZb] at z3
  have hX := hB1.trans (hB.mono hs1)
  by_cases hlt : k < l.length
  · obtain ⟨y, hy⟩ : ∃ y, l[k]? = some y := ⟨l[k], qZa hlt⟩
    obtain ⟨b, off, rfl, hb, hc⟩ := Rd.elem (n := 5) (fun _ => rfl) (by omega) (hr1.below hB) hy
    have c0 : wr.cell? ⟨b, off + k * 5, none⟩ = some (.string y.x_) := hc 0 _ rfl
    have HY := zI hy
    clear hc hy
    by_cases he : y.x_ = p
    · have hd : (y.x_.toList == p.toList) = true := by rw [beqS]; exact decide_eq_true he
      obtain rfl : F = k := by rw [← HF.out]; exact findI_some HY.out (decide_eq_true he) HU.out
      clear he HU HF HY
      go_wp2
      go_ret
      exact ⟨rfl, hX⟩
    · have hd : (y.x_.toList == p.toList) = false := by rw [beqS]; exact decide_eq_false he
      have HU' : Hid (∀ y ∈ l.take (k + 1), decide (y.x_ = p) = false) := zI fun z hz => by
       rw [List.take_add_one, HY.out] at hz
       rcases List.mem_append.1 hz with h | h
       · exact HU.out z h
       · simp at h
         subst h
         exact decide_eq_false he
      clear he HU HF HY
      go_wp2
      go_roundw
      case rel => exact ⟨k + 1, by omega, by go_num, HU', hB⟩
      case measure => simp [intOf]; omega
  · obtain rfl : F = -1 := by
     rw [← HF.out]
     refine findI_none fun y hy => HU.out y ?_
     rw [List.take_of_length_le (by omega)]
     exact hy
    clear HU HF
    go_wp2
    go_ret
    exact ⟨rfl, hX⟩
theorem nameQ2 (s : ByteArray) (hs : s.size ≤ 140737488355328) (w : World) (n : Nat) :
 Calls Tryz.prog 66 #[.string s] (w.drewN n) fun e w' => e = .returned (.bool (zaQ (bs s))) ∧ w' = w.drewN n :=
 (refName_any s hs _).mono fun _ _ h => ⟨h.1, h.2.symm⟩
theorem lt_ways {x y : ByteArray} : (ltTx y x = true ∧ Op.bytesLess x.toList y.toList = false ∧ (x.toList == y.toList) = false) ∨ (ltTx y x = false ∧ (Op.bytesLess x.toList y.toList = true ∨ (Op.bytesLess x.toList y.toList = false ∧ (x.toList == y.toList) = true))) := by
 rcases h : ltTx y x with _ | _
 · refine .inr ⟨rfl, ?_⟩
   have := le_of h
   rw [Bool.not_false, Bool.or_eq_true] at this
   rcases h1 : Op.bytesLess x.toList y.toList with _ | _
   · rw [h1] at this
     exact .inr ⟨rfl, by simpa using this⟩
   · exact .inl rfl
 · have := le_of h
   rw [Bool.not_true, Bool.or_eq_false_iff] at this
   exact .inl ⟨rfl, this.1, this.2⟩
theorem refTagsD (A : Option Addr) (c n : Nat) (l : List ByteArray) (hn : l.length = n) (hl : n ≤ 8796093022208) (hf : ∀ s ∈ l, s.size ≤ 140737488351232) (w : World) (hr : Rd w A (l.map Value.string)) :
 Calls Tryz.prog 165 #[.slice A n c] w fun e w' => e = .returned (.bool (tagsB l)) ∧ Dr w w' := by
 subst hn
 obtain ⟨R, hR⟩ : ∃ R, tagsB l = R := ⟨_, rfl⟩
 have HR : Hid (R = (goodL (fun s => zaQ (bs s)) ltTx l && decide (l.length ≤ 4))) := zI hR.symm
 have H9 : Hid (goodL (fun s => zaQ (bs s)) ltTx l = false → R = false) := zI fun h => by rw [HR.out, h]; rfl
 rw [hR]
 clear hR
 go_enter Tryz.func165, Tryz.ntmps165
 go_wp2
 go_loopw [3] (fun i W => ∃ k : Nat, k ≤ l.length ∧ i = .int .i64 k ∧ Hid (UpTo (fun s => zaQ (bs s)) ltTx l k) ∧ Dr w W) (fun i _ => l.length - (intOf i).toNat)
 case atStart => exact ⟨0, Nat.zero_le _, rfl, zI upTo_zero, Dr.refl _⟩
 case round =>
  obtain ⟨k, hk, rfl, HU, hB⟩ := hrel
  by_cases hlt : k < l.length
  · obtain ⟨x, hx⟩ : ∃ x, l[k]? = some x := ⟨l[k], qZa hlt⟩
    have hrw := hr.below hB.below
    obtain ⟨b, off, rfl, hb, hc⟩ := rdT_at hrw hx
    have HN := zI (nameQ2 x (by have := hf x (mG hx); omega) wr)
    have HX := zI hx
    clear hx
    rcases g1 : zaQ (bs x) with _ | _
    · obtain rfl : R = false := H9.out (goodL_bad HX.out g1)
      rw [g1] at HN
      clear g1 HU hrw H9 HR
      go_wp2_with fail
      go_big_quiet ((go_at_call 66; with_reducible exact Calls.quiet_of_same (HN.out _)))
      go_wp2
      go_ret
      exact ⟨rfl, hB.trans (Dr.drewN _ _)⟩
    · rw [g1] at HN
      have hway : (Hid (k = 0) ∧ decide (0 < k) = false) ∨ ∃ (i : Nat) (y : ByteArray), decide (0 < k) = true ∧ IntKind.i64.wrap ((k : Int) - 1) = (i : Int) ∧ i < l.length ∧ Hid (k = i + 1) ∧ Hid (l[i]? = some y) := by
       rcases k with _ | j
       · exact .inl ⟨zI rfl, rfl⟩
       · obtain ⟨y, hy⟩ : ∃ y, l[j]? = some y := ⟨l[j]'(by omega), qZa (by omega)⟩
         exact .inr ⟨j, y, decide_eq_true (by omega), by rw [show (((j + 1 : Nat) : Int) - 1) = (j : Int) by omega]; exact IntWalk.i64_in _ (by omega), by omega, zI rfl, zI hy⟩
      rcases hway with ⟨HK0, hj0⟩ | ⟨i, y, hj0, hw, hi, HKI, HY⟩
      · have HU' : Hid (UpTo (fun s => zaQ (bs s)) ltTx l (k + 1)) := zI (upTo_succ HU.out HX.out g1 fun j y h => by have := HK0.out; omega)
        clear g1 HU hrw H9 HR
        go_wp2_with fail
        go_big_quiet ((go_at_call 66; with_reducible exact Calls.quiet_of_same (HN.out _)))
        go_wp2
        go_roundw
        case rel => exact ⟨k + 1, by omega, by go_num, HU', hB.trans (Dr.drewN _ _)⟩
        case measure => simp [intOf]; omega
      · obtain ⟨b', off', e', _, hd⟩ := rdT_at hrw HY.out
        injection e' with e'
        injection e' with e1 e2 _
        subst e1 e2
        rcases lt_ways (x := x) (y := y) with ⟨hv, h1, h2⟩ | ⟨hv, hor⟩
        · have HU' : Hid (UpTo (fun s => zaQ (bs s)) ltTx l (k + 1)) := zI (upTo_succ HU.out HX.out g1 fun j z h hz => by
           obtain rfl : j = i := by have := HKI.out; omega
           rw [HY.out] at hz
           injection hz with hz
           subst hz
           exact hv)
          clear g1 HU hrw H9 HR hv HX HY
          go_wp2_with fail
          go_big_quiet ((go_at_call 66; with_reducible exact Calls.quiet_of_same (HN.out _)))
          go_wp2
          go_roundw
          case rel => exact ⟨k + 1, by omega, by go_num, HU', hB.trans (Dr.drewN _ _)⟩
          case measure => simp [intOf]; omega
        · obtain rfl : R = false := H9.out (goodL_low HY.out (by rw [← HKI.out]; exact HX.out) hv)
          clear g1 HU hrw H9 HR hv HX HY
          rcases hor with h1 | ⟨h1, h2⟩
          all_goals
           go_wp2_with fail
           go_big_quiet ((go_at_call 66; with_reducible exact Calls.quiet_of_same (HN.out _)))
           go_wp2
           go_ret
           exact ⟨rfl, hB.trans (Dr.drewN _ _)⟩
  · have hgl := upTo_end HU.out (by omega)
    have HRR : Hid (R = decide (l.length ≤ 4)) := zI (by rw [HR.out, hgl, Bool.true_and])
    clear hgl HU HR H9
    by_cases h4 : l.length ≤ 4
    · obtain rfl : R = true := by rw [HRR.out, decide_eq_true h4]
      have hq : (l.length : Int) ≤ 4 := by omega
      go_wp2
      go_ret
      exact ⟨rfl, hB⟩
    · obtain rfl : R = false := by rw [HRR.out, decide_eq_false h4]
      have hq : ¬ (l.length : Int) ≤ 4 := by omega
      go_wp2
      go_ret
      exact ⟨rfl, hB⟩
theorem amountQ (m n : Int) (w : World) (k : Nat) :
 Calls Tryz.prog 68 #[.int .i64 n, .int .i64 m] (w.drewN k) fun e w' => e = .returned (.bool (amt m n)) ∧ w' = w.drewN k :=
 (amount_any m n _).mono fun _ _ h => ⟨h.1, h.2.symm⟩
theorem nodup_of {l : List Mna} (h : ∀ i z, i < l.length → l[i]? = some z → ∀ j y, j < i → l[j]? = some y → y.x_ ≠ z.x_) : (l.map Mna.x_).Nodup := by
 unfold List.Nodup
 rw [List.pairwise_iff_getElem]
 intro i j hi hj hij e
 rw [List.length_map] at hi hj
 rw [List.getElem_map, List.getElem_map] at e
 exact h j _ hj (qZa hj) i _ hij (qZa hi) e
set_option maxHeartbeats 4000000 in
theorem refSnaps_any (A : Option Addr) (c n : Nat) (l : List Mna) (hn : l.length = n) (hl : n ≤ 4398046511104) (w : World) (hg : ∀ x ∈ l, x.Good w) (hr : Rd w A (l.flatMap Mna.cells)) :
 Calls Tryz.prog 125 #[.slice A n c] w fun e w' => e = .returned (.bool (snapsB (l.map Mna.plain))) ∧ Below w.heap.size w w' := by
 subst hn
 obtain ⟨R, hR⟩ : ∃ R, snapsB (l.map Mna.plain) = R := ⟨_, rfl⟩
 have HR : Hid (R = (decide (l.length ≤ 16) && (goodL (fun x : Mna => snapB x.plain) (fun a b => decide (a.z_ < b.z_)) l && decide ((l.map Mna.x_).Nodup)))) := zI (by
  rw [← hR, snapsM]
  unfold goodL
  simp only [Bool.and_assoc])
 have H9 : Hid (goodL (fun x : Mna => snapB x.plain) (fun a b => decide (a.z_ < b.z_)) l = false → R = false) := zI fun h => by rw [HR.out, h, Bool.false_and, Bool.and_false]
 have HND : Hid (¬ (l.map Mna.x_).Nodup → R = false) := zI fun h => by rw [HR.out, decide_eq_false h, Bool.and_false, Bool.and_false]
 have HG := zI hg
 rw [hR]
 clear hR hg
 go_enter Tryz.func125, Tryz.ntmps125
 go_wp2
 go_loopw [3] (fun i W => ∃ k : Nat, k ≤ l.length ∧ i = .int .i64 k ∧ Hid (UpTo (fun x : Mna => snapB x.plain) (fun a b => decide (a.z_ < b.z_)) l k) ∧ Hid (∀ i z, i < k → l[i]? = some z → ∀ j y, j < i → l[j]? = some y → y.x_ ≠ z.x_) ∧ Below w.heap.size w W) (fun i _ => l.length - (intOf i).toNat)
 case atStart => exact ⟨0, Nat.zero_le _, rfl, zI upTo_zero, zI fun _ _ h => absurd h (Nat.not_lt_zero _), Below.refl _ _⟩
 case round =>
  obtain ⟨k, hk, rfl, HU, HW, hB⟩ := hrel
  by_cases hlt : k < l.length
  · obtain ⟨x, hx⟩ : ∃ x, l[k]? = some x := ⟨l[k], qZa hlt⟩
    have hrw := hr.below hB
    obtain ⟨b, off, rfl, hb, hc⟩ := Rd.elem (n := 5) (fun _ => rfl) (by omega) hrw hx
    have c0 : wr.cell? ⟨b, off + k * 5, none⟩ = some (.string x.x_) := hc 0 _ rfl
    have c1 : wr.cell? ⟨b, off + k * 5 + 1, none⟩ = some (.int .i64 x.z_) := hc 1 _ rfl
    have c2 : wr.cell? ⟨b, off + k * 5 + 2, none⟩ = some (.slice x.p_.A x.p_.l.length x.p_.c) := hc 2 _ rfl
    have c3 : wr.cell? ⟨b, off + k * 5 + 3, none⟩ = some (.slice x.u_.A x.u_.l.length x.u_.c) := hc 3 _ rfl
    have c4 : wr.cell? ⟨b, off + k * 5 + 4, none⟩ = some (.slice x.j_.A x.j_.l.length x.j_.c) := hc 4 _ rfl
    obtain ⟨w1, hw1⟩ : ∃ w1, wr.alloc (.cells #[.string x.x_, .int .i64 x.z_, .slice x.p_.A x.p_.l.length x.p_.c, .slice x.u_.A x.u_.l.length x.u_.c, .slice x.j_.A x.j_.l.length x.j_.c] 49) = w1 := ⟨_, rfl⟩
    have hB1 : Below wr.heap.size wr w1 := hw1 ▸ (Below.refl _ wr).alloc (Nat.le_refl _) _
    have k1 : Blk w1 wr.heap.size 49 x.cells := hw1 ▸ Blk.new wr _ _
    have hX1 : Below w.heap.size w w1 := hB.trans (hB1.mono hB.size)
    have q0 := k1.cell 0
    have q1 := k1.cell 1
    have q2 := k1.cell 2
    have q3 := k1.cell 3
    have q4 := k1.cell 4
    simp only [gZa, gZb] at q0 q1 q2 q3 q4
    have hgx := (HG.out x (mG hx)).below hX1
    have HN := zI (nameQ2 x.x_ (by have := hgx.L_; omega) w1)
    have HA := zI (amountQ 1 x.z_ w1)
    have HT := zI (fun q => refTagsD x.u_.A x.u_.c x.u_.l.length x.u_.l rfl (by have := hgx.U_.len; omega) (fun s hs => hgx.U_.el s hs) (w1.drewN q) (tagsRd (hgx.U_.rd.below (zaX w1 q _))))
    have HC := zI (fun q => refCheckD x.p_.A x.p_.c x.p_.l.length x.p_.l rfl (by have := hgx.K_.len; omega) (fun s hs => (hgx.K_.el s hs).1) (w1.drewN q) (hgx.K_.rd.below (zaX w1 q _)))
    have HP := zI (fun q => refPropsD x.j_.A x.j_.c x.j_.l.length x.j_.l rfl (by have := hgx.G_.len; omega) (fun s hs => hgx.G_.el s hs) (w1.drewN q) (hgx.G_.rd.below (zaX w1 q _)))
    simp only [chkK] at HC
    simp only [chkP] at HP
    have HGD : Hid (snapB x.plain = (zaQ (bs x.x_) && (amt 1 x.z_ && (tagsB x.u_.l && (okK x.p_.l && okP x.j_.l))))) := zI rfl
    have HRD := zI (hrw.below hB1)
    have HX := zI hx
    have HK1 := zI k1
    have HW1 := zI hw1
    have hs1 := hB1.size
    have hway : (Hid (k = 0) ∧ decide (0 < k) = false) ∨ ∃ (i : Nat) (y : Mna), decide (0 < k) = true ∧ IntKind.i64.wrap ((k : Int) - 1) = (i : Int) ∧ i < l.length ∧ Hid (k = i + 1) ∧ Hid (l[i]? = some y) := by
     rcases k with _ | j
     · exact .inl ⟨zI rfl, rfl⟩
     · obtain ⟨y, hy⟩ : ∃ y, l[j]? = some y := ⟨l[j]'(by omega), qZa (by omega)⟩
       exact .inr ⟨j, y, decide_eq_true (by omega), by rw [show (((j + 1 : Nat) : Int) - 1) = (j : Int) by omega]; exact IntWalk.i64_in _ (by omega), by omega, zI rfl, zI hy⟩
    clear hc hx hw1 k1 hgx
    rcases hway with ⟨HK0, hj0⟩ | ⟨i, y, hj0, hw, hi, HKI, HY⟩
    · skip
      rcases g1 : zaQ (bs x.x_) with _ | _
      · obtain rfl : R = false := H9.out (goodL_bad HX.out (by rw [HGD.out, g1]; simp))
        rw [g1] at HN
        clear H9 HR HU HGD g1 HX
        go_wp2_with fail
        rw [HW1.out]
        go_wp2_with fail
        go_big_quiet ((first
         | (go_at_call 66; with_reducible exact Calls.quiet_of_same (HN.out _))
         | (go_at_call 68; with_reducible exact Calls.quiet_of_same (HA.out _))
         | (go_at_call 165; with_reducible exact Calls.quiet_of (HT.out _))
         | (go_at_call 123; with_reducible exact Calls.quiet_of (HC.out _))
         | (go_at_call 124; with_reducible exact Calls.quiet_of (HP.out _))))
        go_wp2
        go_ret
        exact ⟨rfl, hX1.trans (zaX _ _ _)⟩
      rcases g2 : amt 1 x.z_ with _ | _
      · obtain rfl : R = false := H9.out (goodL_bad HX.out (by rw [HGD.out, g1, g2]; simp))
        rw [g1] at HN
        rw [g2] at HA
        clear H9 HR HU HGD g1 g2 HX
        go_wp2_with fail
        rw [HW1.out]
        go_wp2_with fail
        go_big_quiet ((first
         | (go_at_call 66; with_reducible exact Calls.quiet_of_same (HN.out _))
         | (go_at_call 68; with_reducible exact Calls.quiet_of_same (HA.out _))
         | (go_at_call 165; with_reducible exact Calls.quiet_of (HT.out _))
         | (go_at_call 123; with_reducible exact Calls.quiet_of (HC.out _))
         | (go_at_call 124; with_reducible exact Calls.quiet_of (HP.out _))))
        go_wp2
        go_ret
        exact ⟨rfl, hX1.trans (zaX _ _ _)⟩
      rcases g3 : tagsB x.u_.l with _ | _
      · obtain rfl : R = false := H9.out (goodL_bad HX.out (by rw [HGD.out, g1, g2, g3]; simp))
        rw [g1] at HN
        rw [g2] at HA
        rw [g3] at HT
        clear H9 HR HU HGD g1 g2 g3 HX
        go_wp2_with fail
        rw [HW1.out]
        go_wp2_with fail
        go_big_quiet ((first
         | (go_at_call 66; with_reducible exact Calls.quiet_of_same (HN.out _))
         | (go_at_call 68; with_reducible exact Calls.quiet_of_same (HA.out _))
         | (go_at_call 165; with_reducible exact Calls.quiet_of (HT.out _))
         | (go_at_call 123; with_reducible exact Calls.quiet_of (HC.out _))
         | (go_at_call 124; with_reducible exact Calls.quiet_of (HP.out _))))
        go_wp2
        go_ret
        exact ⟨rfl, hX1.trans (zaX _ _ _)⟩
      rcases g4 : okK x.p_.l with _ | _
      · obtain rfl : R = false := H9.out (goodL_bad HX.out (by rw [HGD.out, g1, g2, g3, g4]; simp))
        rw [g1] at HN
        rw [g2] at HA
        rw [g3] at HT
        rw [g4] at HC
        clear H9 HR HU HGD g1 g2 g3 g4 HX
        go_wp2_with fail
        rw [HW1.out]
        go_wp2_with fail
        go_big_quiet ((first
         | (go_at_call 66; with_reducible exact Calls.quiet_of_same (HN.out _))
         | (go_at_call 68; with_reducible exact Calls.quiet_of_same (HA.out _))
         | (go_at_call 165; with_reducible exact Calls.quiet_of (HT.out _))
         | (go_at_call 123; with_reducible exact Calls.quiet_of (HC.out _))
         | (go_at_call 124; with_reducible exact Calls.quiet_of (HP.out _))))
        go_wp2
        go_ret
        exact ⟨rfl, hX1.trans (zaX _ _ _)⟩
      rcases g5 : okP x.j_.l with _ | _
      · obtain rfl : R = false := H9.out (goodL_bad HX.out (by rw [HGD.out, g1, g2, g3, g4, g5]; simp))
        rw [g1] at HN
        rw [g2] at HA
        rw [g3] at HT
        rw [g4] at HC
        rw [g5] at HP
        clear H9 HR HU HGD g1 g2 g3 g4 g5 HX
        go_wp2_with fail
        rw [HW1.out]
        go_wp2_with fail
        go_big_quiet ((first
         | (go_at_call 66; with_reducible exact Calls.quiet_of_same (HN.out _))
         | (go_at_call 68; with_reducible exact Calls.quiet_of_same (HA.out _))
         | (go_at_call 165; with_reducible exact Calls.quiet_of (HT.out _))
         | (go_at_call 123; with_reducible exact Calls.quiet_of (HC.out _))
         | (go_at_call 124; with_reducible exact Calls.quiet_of (HP.out _))))
        go_wp2
        go_ret
        exact ⟨rfl, hX1.trans (zaX _ _ _)⟩
      have hgd : snapB x.plain = true := by rw [HGD.out, g1, g2, g3, g4, g5]; rfl
      have HGG := zI hgd
      rw [g1] at HN
      rw [g2] at HA
      rw [g3] at HT
      rw [g4] at HC
      rw [g5] at HP
      clear HGD hgd g1 g2 g3 g4 g5
      have HU' : Hid (UpTo (fun x : Mna => snapB x.plain) (fun a b => decide (a.z_ < b.z_)) l (k + 1)) := zI (upTo_succ HU.out HX.out HGG.out fun j y h => by have := HK0.out; omega)
      go_wp2_with fail
      rw [HW1.out]
      go_wp2_with fail
      go_big_quiet ((first
       | (go_at_call 66; with_reducible exact Calls.quiet_of_same (HN.out _))
       | (go_at_call 68; with_reducible exact Calls.quiet_of_same (HA.out _))
       | (go_at_call 165; with_reducible exact Calls.quiet_of (HT.out _))
       | (go_at_call 123; with_reducible exact Calls.quiet_of (HC.out _))
       | (go_at_call 124; with_reducible exact Calls.quiet_of (HP.out _))))
      go_wp2
      go_loopw [5] (fun i W => ∃ m : Nat, m ≤ k ∧ i = .int .i64 m ∧ Hid (∀ j z, j < m → l[j]? = some z → z.x_ ≠ x.x_) ∧ Below w1.heap.size w1 W) (fun i _ => k - (intOf i).toNat)
      case atStart => exact ⟨0, Nat.zero_le _, rfl, zI fun _ _ h => absurd h (Nat.not_lt_zero _), zaX _ _ _⟩
      case round =>
       obtain ⟨m, hm, rfl, HV, hB3⟩ := hrel
       by_cases hmt : m < k
       · have hml : m < l.length := by omega
         obtain ⟨z, hz⟩ : ∃ z, l[m]? = some z := ⟨l[m], qZa hml⟩
         obtain ⟨b', off', e', _, hd⟩ := Rd.elem (n := 5) (fun _ => rfl) (by omega) (HRD.out.below hB3) hz
         injection e' with e'
         injection e' with e1 e2 _
         subst e1 e2
         have d0 := hd 0 _ rfl
         simp only [Nat.add_zero] at d0
         have q0' := (HK1.out.below hB3 HK1.out.lt).cell 0
         simp only [List.getElem?_cons_zero] at q0'
         have HZ := zI hz
         clear hd hz
         by_cases he : z.x_ = x.x_
         · have hdd : (z.x_.toList == x.x_.toList) = true := by rw [beqS]; exact decide_eq_true he
           obtain rfl : R = false := HND.out (by
            intro hn
            have h1 := (nodup_found.1 hn) k x HX.out
            have h2 := (nodup_found.1 hn) m z HZ.out
            rw [he, h1] at h2
            omega)
           clear HV HZ he HND HU' HU HX HGG
           go_wp2_with fail
           go_quiet (fail)
           go_wp2
           go_ret
           exact ⟨rfl, (hX1.trans (hB3.mono hX1.size)).trans (zaX _ _ _)⟩
         · have hdd : (z.x_.toList == x.x_.toList) = false := by rw [beqS]; exact decide_eq_false he
           have HV' : Hid (∀ j z, j < m + 1 → l[j]? = some z → z.x_ ≠ x.x_) := zI fun j z' h1 h2 => by
            by_cases e : j = m
            · subst e
              rw [HZ.out] at h2
              injection h2 with h2
              subst h2
              exact he
            · exact HV.out j z' (by omega) h2
           clear HV HZ he
           go_wp2_with fail
           go_quiet (fail)
           go_wp2
           go_roundw
           case rel => exact ⟨m + 1, by omega, by go_num, HV', hB3.trans (zaX _ _ _)⟩
           case measure => simp [intOf]; omega
       · obtain rfl : m = k := by omega
         have HW' : Hid (∀ i z, i < m + 1 → l[i]? = some z → ∀ j y, j < i → l[j]? = some y → y.x_ ≠ z.x_) := zI fun i z h1 h2 j y h3 h4 => by
          by_cases e : i = m
          · subst e
            rw [HX.out] at h2
            injection h2 with h2
            subst h2
            exact HV.out j y h3 h4
          · exact HW.out i z (by omega) h2 j y h3 h4
         clear HV HU HW HX HGG
         go_wp2
         go_roundw
         case rel => exact ⟨m + 1, by omega, by go_num, HU', HW', hX1.trans (hB3.mono hX1.size)⟩
         case measure => simp [intOf]; omega
    · obtain ⟨b', off', e', _, hd⟩ := Rd.elem (n := 5) (fun _ => rfl) (by omega) hrw HY.out
      injection e' with e'
      injection e' with e1 e2 _
      subst e1 e2
      have hbl : b < wr.heap.size := hb
      have d1 : w1.cell? ⟨b, off + i * 5 + 1, none⟩ = some (.int .i64 y.z_) := (hB1.cell (p := ⟨b, off + i * 5 + 1, none⟩) hbl).trans (hd 1 _ rfl)
      clear hd
      rcases g1 : zaQ (bs x.x_) with _ | _
      · obtain rfl : R = false := H9.out (goodL_bad HX.out (by rw [HGD.out, g1]; simp))
        rw [g1] at HN
        clear H9 HR HU HGD g1 HX HY
        go_wp2_with fail
        rw [HW1.out]
        go_wp2_with fail
        go_big_quiet ((first
         | (go_at_call 66; with_reducible exact Calls.quiet_of_same (HN.out _))
         | (go_at_call 68; with_reducible exact Calls.quiet_of_same (HA.out _))
         | (go_at_call 165; with_reducible exact Calls.quiet_of (HT.out _))
         | (go_at_call 123; with_reducible exact Calls.quiet_of (HC.out _))
         | (go_at_call 124; with_reducible exact Calls.quiet_of (HP.out _))))
        go_wp2
        go_ret
        exact ⟨rfl, hX1.trans (zaX _ _ _)⟩
      rcases g2 : amt 1 x.z_ with _ | _
      · obtain rfl : R = false := H9.out (goodL_bad HX.out (by rw [HGD.out, g1, g2]; simp))
        rw [g1] at HN
        rw [g2] at HA
        clear H9 HR HU HGD g1 g2 HX HY
        go_wp2_with fail
        rw [HW1.out]
        go_wp2_with fail
        go_big_quiet ((first
         | (go_at_call 66; with_reducible exact Calls.quiet_of_same (HN.out _))
         | (go_at_call 68; with_reducible exact Calls.quiet_of_same (HA.out _))
         | (go_at_call 165; with_reducible exact Calls.quiet_of (HT.out _))
         | (go_at_call 123; with_reducible exact Calls.quiet_of (HC.out _))
         | (go_at_call 124; with_reducible exact Calls.quiet_of (HP.out _))))
        go_wp2
        go_ret
        exact ⟨rfl, hX1.trans (zaX _ _ _)⟩
      rcases Int.lt_or_le y.z_ x.z_ with hgl | hgl
      rotate_left
      · obtain rfl : R = false := H9.out (goodL_low HY.out (by rw [← HKI.out]; exact HX.out) (decide_eq_false (by omega)))
        have hgn : decide (x.z_ ≤ y.z_) = true := decide_eq_true hgl
        rw [g1] at HN
        rw [g2] at HA
        clear H9 HR HU g1 g2 HX HY
        go_wp2_with fail
        rw [HW1.out]
        go_wp2_with fail
        go_big_quiet ((first
         | (go_at_call 66; with_reducible exact Calls.quiet_of_same (HN.out _))
         | (go_at_call 68; with_reducible exact Calls.quiet_of_same (HA.out _))
         | (go_at_call 165; with_reducible exact Calls.quiet_of (HT.out _))
         | (go_at_call 123; with_reducible exact Calls.quiet_of (HC.out _))
         | (go_at_call 124; with_reducible exact Calls.quiet_of (HP.out _))))
        go_wp2
        go_ret
        exact ⟨rfl, hX1.trans (zaX _ _ _)⟩
      have hgn : decide (x.z_ ≤ y.z_) = false := decide_eq_false (by omega)
      rcases g3 : tagsB x.u_.l with _ | _
      · obtain rfl : R = false := H9.out (goodL_bad HX.out (by rw [HGD.out, g1, g2, g3]; simp))
        rw [g1] at HN
        rw [g2] at HA
        rw [g3] at HT
        clear H9 HR HU HGD g1 g2 g3 HX HY
        go_wp2_with fail
        rw [HW1.out]
        go_wp2_with fail
        go_big_quiet ((first
         | (go_at_call 66; with_reducible exact Calls.quiet_of_same (HN.out _))
         | (go_at_call 68; with_reducible exact Calls.quiet_of_same (HA.out _))
         | (go_at_call 165; with_reducible exact Calls.quiet_of (HT.out _))
         | (go_at_call 123; with_reducible exact Calls.quiet_of (HC.out _))
         | (go_at_call 124; with_reducible exact Calls.quiet_of (HP.out _))))
        go_wp2
        go_ret
        exact ⟨rfl, hX1.trans (zaX _ _ _)⟩
      rcases g4 : okK x.p_.l with _ | _
      · obtain rfl : R = false := H9.out (goodL_bad HX.out (by rw [HGD.out, g1, g2, g3, g4]; simp))
        rw [g1] at HN
        rw [g2] at HA
        rw [g3] at HT
        rw [g4] at HC
        clear H9 HR HU HGD g1 g2 g3 g4 HX HY
        go_wp2_with fail
        rw [HW1.out]
        go_wp2_with fail
        go_big_quiet ((first
         | (go_at_call 66; with_reducible exact Calls.quiet_of_same (HN.out _))
         | (go_at_call 68; with_reducible exact Calls.quiet_of_same (HA.out _))
         | (go_at_call 165; with_reducible exact Calls.quiet_of (HT.out _))
         | (go_at_call 123; with_reducible exact Calls.quiet_of (HC.out _))
         | (go_at_call 124; with_reducible exact Calls.quiet_of (HP.out _))))
        go_wp2
        go_ret
        exact ⟨rfl, hX1.trans (zaX _ _ _)⟩
      rcases g5 : okP x.j_.l with _ | _
      · obtain rfl : R = false := H9.out (goodL_bad HX.out (by rw [HGD.out, g1, g2, g3, g4, g5]; simp))
        rw [g1] at HN
        rw [g2] at HA
        rw [g3] at HT
        rw [g4] at HC
        rw [g5] at HP
        clear H9 HR HU HGD g1 g2 g3 g4 g5 HX HY
        go_wp2_with fail
        rw [HW1.out]
        go_wp2_with fail
        go_big_quiet ((first
         | (go_at_call 66; with_reducible exact Calls.quiet_of_same (HN.out _))
         | (go_at_call 68; with_reducible exact Calls.quiet_of_same (HA.out _))
         | (go_at_call 165; with_reducible exact Calls.quiet_of (HT.out _))
         | (go_at_call 123; with_reducible exact Calls.quiet_of (HC.out _))
         | (go_at_call 124; with_reducible exact Calls.quiet_of (HP.out _))))
        go_wp2
        go_ret
        exact ⟨rfl, hX1.trans (zaX _ _ _)⟩
      have hgd : snapB x.plain = true := by rw [HGD.out, g1, g2, g3, g4, g5]; rfl
      have HGG := zI hgd
      rw [g1] at HN
      rw [g2] at HA
      rw [g3] at HT
      rw [g4] at HC
      rw [g5] at HP
      clear HGD hgd g1 g2 g3 g4 g5
      have HU' : Hid (UpTo (fun x : Mna => snapB x.plain) (fun a b => decide (a.z_ < b.z_)) l (k + 1)) := zI (upTo_succ HU.out HX.out HGG.out fun j z h hz => by
       obtain rfl : j = i := by have := HKI.out; omega
       rw [HY.out] at hz
       injection hz with hz
       subst hz
       exact decide_eq_true hgl)
      clear hgl HY
      go_wp2_with fail
      rw [HW1.out]
      go_wp2_with fail
      go_big_quiet ((first
       | (go_at_call 66; with_reducible exact Calls.quiet_of_same (HN.out _))
       | (go_at_call 68; with_reducible exact Calls.quiet_of_same (HA.out _))
       | (go_at_call 165; with_reducible exact Calls.quiet_of (HT.out _))
       | (go_at_call 123; with_reducible exact Calls.quiet_of (HC.out _))
       | (go_at_call 124; with_reducible exact Calls.quiet_of (HP.out _))))
      go_wp2
      go_loopw [5] (fun i W => ∃ m : Nat, m ≤ k ∧ i = .int .i64 m ∧ Hid (∀ j z, j < m → l[j]? = some z → z.x_ ≠ x.x_) ∧ Below w1.heap.size w1 W) (fun i _ => k - (intOf i).toNat)
      case atStart => exact ⟨0, Nat.zero_le _, rfl, zI fun _ _ h => absurd h (Nat.not_lt_zero _), zaX _ _ _⟩
      case round =>
       obtain ⟨m, hm, rfl, HV, hB3⟩ := hrel
       by_cases hmt : m < k
       · have hml : m < l.length := by omega
         obtain ⟨z, hz⟩ : ∃ z, l[m]? = some z := ⟨l[m], qZa hml⟩
         obtain ⟨b', off', e', _, hd⟩ := Rd.elem (n := 5) (fun _ => rfl) (by omega) (HRD.out.below hB3) hz
         injection e' with e'
         injection e' with e1 e2 _
         subst e1 e2
         have d0 := hd 0 _ rfl
         simp only [Nat.add_zero] at d0
         have q0' := (HK1.out.below hB3 HK1.out.lt).cell 0
         simp only [List.getElem?_cons_zero] at q0'
         have HZ := zI hz
         clear hd hz
         by_cases he : z.x_ = x.x_
         · have hdd : (z.x_.toList == x.x_.toList) = true := by rw [beqS]; exact decide_eq_true he
           obtain rfl : R = false := HND.out (by
            intro hn
            have h1 := (nodup_found.1 hn) k x HX.out
            have h2 := (nodup_found.1 hn) m z HZ.out
            rw [he, h1] at h2
            omega)
           clear HV HZ he HND HU' HU HX HGG
           go_wp2_with fail
           go_quiet (fail)
           go_wp2
           go_ret
           exact ⟨rfl, (hX1.trans (hB3.mono hX1.size)).trans (zaX _ _ _)⟩
         · have hdd : (z.x_.toList == x.x_.toList) = false := by rw [beqS]; exact decide_eq_false he
           have HV' : Hid (∀ j z, j < m + 1 → l[j]? = some z → z.x_ ≠ x.x_) := zI fun j z' h1 h2 => by
            by_cases e : j = m
            · subst e
              rw [HZ.out] at h2
              injection h2 with h2
              subst h2
              exact he
            · exact HV.out j z' (by omega) h2
           clear HV HZ he
           go_wp2_with fail
           go_quiet (fail)
           go_wp2
           go_roundw
           case rel => exact ⟨m + 1, by omega, by go_num, HV', hB3.trans (zaX _ _ _)⟩
           case measure => simp [intOf]; omega
       · obtain rfl : m = k := by omega
         have HW' : Hid (∀ i z, i < m + 1 → l[i]? = some z → ∀ j y, j < i → l[j]? = some y → y.x_ ≠ z.x_) := zI fun i z h1 h2 j y h3 h4 => by
          by_cases e : i = m
          · subst e
            rw [HX.out] at h2
            injection h2 with h2
            subst h2
            exact HV.out j y h3 h4
          · exact HW.out i z (by omega) h2 j y h3 h4
         clear HV HU HW HX HGG
         go_wp2
         go_roundw
         case rel => exact ⟨m + 1, by omega, by go_num, HU', HW', hX1.trans (hB3.mono hX1.size)⟩
         case measure => simp [intOf]; omega
  · have hgl := upTo_end HU.out (by omega)
    have hnd : (l.map Mna.x_).Nodup := nodup_of fun i z hi => HW.out i z (by omega)
    have HRR : Hid (R = decide (l.length ≤ 16)) := zI (by rw [HR.out, hgl, decide_eq_true hnd, Bool.true_and, Bool.and_true])
    clear hgl HU HR H9 HND hnd HW
    by_cases h4 : l.length ≤ 16
    · obtain rfl : R = true := by rw [HRR.out, decide_eq_true h4]
      have hq : (l.length : Int) ≤ 16 := by omega
      go_wp2
      go_ret
      exact ⟨rfl, hB⟩
    · obtain rfl : R = false := by rw [HRR.out, decide_eq_false h4]
      have hq : ¬ (l.length : Int) ≤ 16 := by omega
      go_wp2
      go_ret
      exact ⟨rfl, hB⟩
theorem setB_up (t : PT_) (s : PSet) : setB t s = (upB t s.l_ && (okK s.p_ && (okP s.j_ && (snapsB s.n_ && origB t s)))) := rfl
set_option maxHeartbeats 4000000 in
theorem refTSet_any (x : MT_) (s : MSet) (hz1 : s.l_.size ≤ 4398046511104) (hz2 : s.m_.size ≤ 4398046511104) (w : World) (hx : x.Good w) (hg : s.Good w) :
 Calls Tryz.prog 70 #[.agg x.cells.toArray, .agg s.cells.toArray] w fun e w' => e = .returned (.bool (setB x.plain s.plain)) ∧ Below w.heap.size w w' := by
 obtain ⟨w1, hw1⟩ : ∃ w1, w.alloc (.cells #[.string x.x_, .int .i64 x.r_, .int .i64 x.v_, .slice x.y_.A x.y_.l.length x.y_.c, .slice x.g_.A x.g_.l.length x.g_.c, .slice x.t_.A x.t_.l.length x.t_.c, .slice x.h_.A x.h_.l.length x.h_.c] 27) = w1 := ⟨_, rfl⟩
 have hB1 : Below w.heap.size w w1 := hw1 ▸ (Below.refl _ w).alloc (Nat.le_refl _) _
 have k1 : Blk w1 w.heap.size 27 x.cells := hw1 ▸ Blk.new w _ _
 obtain ⟨w2, hw2⟩ : ∃ w2, w1.alloc (.cells #[.string s.l_, .string s.m_, .slice s.p_.A s.p_.l.length s.p_.c, .slice s.n_.A s.n_.l.length s.n_.c, .slice s.j_.A s.j_.l.length s.j_.c] 52) = w2 := ⟨_, rfl⟩
 have hB2 : Below w1.heap.size w1 w2 := hw2 ▸ (Below.refl _ w1).alloc (Nat.le_refl _) _
 have k2 : Blk w2 w1.heap.size 52 s.cells := hw2 ▸ Blk.new w1 _ _
 have k1 : Blk w2 w.heap.size 27 x.cells := k1.below hB2 k1.lt
 have hA : Below w.heap.size w w2 := hB1.trans (hB2.mono hB1.size)
 have HG : Hid (∀ W, Below w2.heap.size w2 W → x.Good W) := zI fun W hW => hx.below (hA.trans (hW.mono hA.size))
 have HGS : Hid (∀ W, Below w2.heap.size w2 W → s.Good W) := zI fun W hW => hg.below (hA.trans (hW.mono hA.size))
 have HF : Hid (∀ W, Below w2.heap.size w2 W → ∀ q, Calls Tryz.prog 24 #[.agg #[.string x.x_, .int .i64 x.r_, .int .i64 x.v_, .slice x.y_.A x.y_.l.length x.y_.c, .slice x.g_.A x.g_.l.length x.g_.c, .slice x.t_.A x.t_.l.length x.t_.c, .slice x.h_.A x.h_.l.length x.h_.c], .string q] W fun e w' => e = .returned (.int .i64 (findM x q)) ∧ Below W.heap.size W w') := zI fun W hW q => refFind_any x q W (HG.out W hW)
 have HPA : Hid (∀ W, Below w2.heap.size w2 W → Calls Tryz.prog 118 #[.string s.l_] W fun e w' => e = .returned (parV s.l_) ∧ Below W.heap.size W w') := zI fun W hW => refParent_any s.l_ hz1 W
 have HPT : Hid (∀ W, Below w2.heap.size w2 W → Calls Tryz.prog 61 #[.string s.l_] W fun e w' => e = .returned (.bool (zeX (bs s.l_))) ∧ Below W.heap.size W w') := zI fun W hW => refPath_any s.l_ hz1 W
 have HO : Hid (∀ W, Below w2.heap.size w2 W → Calls Tryz.prog 38 #[.string s.m_] W fun e w' => e = .returned (splV s.m_) ∧ Below W.heap.size W w') := zI fun W hW => refSplit_any s.m_ hz2 W
 have HC : Hid (∀ W, Below w2.heap.size w2 W → Calls Tryz.prog 123 #[.slice s.p_.A s.p_.l.length s.p_.c] W fun e w' => e = .returned (.int .i64 (if okK s.p_.l = true then 0 else 9)) ∧ Below W.heap.size W w') := zI fun W hW => refBkS s.p_ W (HGS.out W hW).K_
 have HP : Hid (∀ W, Below w2.heap.size w2 W → Calls Tryz.prog 124 #[.slice s.j_.A s.j_.l.length s.j_.c] W fun e w' => e = .returned (.int .i64 (if okP s.j_.l = true then 0 else 9)) ∧ Below W.heap.size W w') := zI fun W hW => refPrS s.j_ W (HGS.out W hW).G_
 have HS : Hid (∀ W, Below w2.heap.size w2 W → Calls Tryz.prog 125 #[.slice s.n_.A s.n_.l.length s.n_.c] W fun e w' => e = .returned (.bool (snapsB (s.n_.l.map Mna.plain))) ∧ Below W.heap.size W w') := zI fun W hW => refSnaps_any s.n_.A s.n_.c s.n_.l.length s.n_.l rfl (by have := (HGS.out W hW).f_.len; omega) W (HGS.out W hW).f_.el (HGS.out W hW).f_.rd
 have hX : w.heap.size + 1 = w1.heap.size := by rw [← hw1, World.size_alloc]
 have y0 := k2.cell 0
 simp only [List.getElem?_cons_zero] at y0
 have HK1 := zI k1
 have HK2 := zI k2
 have HW1 := zI hw1
 have HW2 := zI hw2
 have hs2 := hA.size
 have hT0 : Below w2.heap.size w2 w2 := Below.refl _ _
 have hSB := setB_up x.plain s.plain
 obtain ⟨R, hR⟩ : ∃ R, setB x.plain s.plain = R := ⟨_, rfl⟩
 rw [hR] at hSB ⊢
 obtain ⟨b3, hb3⟩ : ∃ b, okK s.p_.l = b := ⟨_, rfl⟩
 obtain ⟨b4, hb4⟩ : ∃ b, okP s.j_.l = b := ⟨_, rfl⟩
 obtain ⟨b5, hb5⟩ : ∃ b, snapsB (s.n_.l.map Mna.plain) = b := ⟨_, rfl⟩
 obtain ⟨b6, hb6⟩ : ∃ b, origB x.plain s.plain = b := ⟨_, rfl⟩
 rw [hb3] at HC
 rw [hb4] at HP
 rw [hb5] at HS
 have HSB : Hid (R = (upB x.plain s.l_ && (b3 && (b4 && (b5 && b6))))) := zI (by
  rw [hSB, hb6, show s.plain.p_ = s.p_.l from rfl, show s.plain.j_ = s.j_.l from rfl, show s.plain.n_ = s.n_.l.map Mna.plain from rfl, hb3, hb4, hb5]
  rfl)
 have HB6 := zI hb6
 clear hSB hb3 hb4 hb5 hb6 hR k1 k2 hw1 hw2 hx hg HGS
 rcases hpt : zeX (bs s.l_) with _ | _
 · have hv : parV s.l_ = .tuple #[.string ByteArray.empty, .bool false] := by unfold parV; rw [upP_off hpt]
   have hne : s.l_ ≠ ByteArray.empty := by
    intro h
    rw [h] at hpt
    revert hpt
    decide
   have HR : Hid (R = false) := zI (by
    rw [HSB.out, show upB x.plain s.l_ = false by unfold upB; rw [upP_off hpt]; exact decide_eq_false hne]
    rfl)
   rw [hv] at HPA
   rw [hpt] at HPT
   clear hv hpt hne HSB HF HO HC HP HS HG
   go_enter Tryz.func70, Tryz.ntmps70
   go_upto_region 1 with fail
   rw [HW1.out, HW2.out]
   go_wp2_with fail
   refine (HPA.out _ hT0).mono ?_
   rintro e v1 ⟨rfl, hV1⟩
   have hQ1 : Below w2.heap.size w2 v1 := hV1
   have y0 := (HK2.out.below hQ1 HK2.out.lt).cell 0
   simp only [gZa, gZb] at y0
   go_wp2_with fail
   refine (HPT.out _ hQ1).mono ?_
   rintro e v2 ⟨rfl, hV2⟩
   have hQ2 : Below w2.heap.size w2 v2 := hQ1.trans (hV2.mono hQ1.size)
   go_wp2
   go_ret
   exact ⟨zaZ HR.out.symm, hA.trans (hQ2.mono hs2)⟩
 · rcases hu : upP s.l_ with _ | u
   · have hv : parV s.l_ = .tuple #[.string ByteArray.empty, .bool false] := by unfold parV; rw [hu]
     have HR : Hid (R = (b3 && (b4 && (b5 && b6)))) := zI (by
      rw [HSB.out, show upB x.plain s.l_ = true by unfold upB; rw [hu]; exact decide_eq_true ((upP_none hpt).1 hu), Bool.true_and])
     rw [hv] at HPA
     rw [hpt] at HPT
     clear hv hpt hu HSB
     go_enter Tryz.func70, Tryz.ntmps70
     go_upto_region 1 with fail
     rw [HW1.out, HW2.out]
     go_wp2_with fail
     refine (HPA.out _ hT0).mono ?_
     rintro e v1 ⟨rfl, hV1⟩
     have hQ1 : Below w2.heap.size w2 v1 := hV1
     have y0 := (HK2.out.below hQ1 HK2.out.lt).cell 0
     simp only [gZa, gZb] at y0
     go_wp2_with fail
     refine (HPT.out _ hQ1).mono ?_
     rintro e v2 ⟨rfl, hV2⟩
     have hQ2 : Below w2.heap.size w2 v2 := hQ1.trans (hV2.mono hQ1.size)
     have y2 := (HK2.out.below hQ2 HK2.out.lt).cell 2
     simp only [gZa, gZb] at y2
     go_wp2_with fail
     refine (HC.out _ hQ2).mono ?_
     rintro e v3 ⟨rfl, hV3⟩
     have hQ3 : Below w2.heap.size w2 v3 := hQ2.trans (hV3.mono hQ2.size)
     rcases b3 with _ | _
     · go_wp2
       go_ret
       exact ⟨zaZ (by rw [HR.out]; rfl), hA.trans (hQ3.mono hs2)⟩
     have y4 := (HK2.out.below hQ3 HK2.out.lt).cell 4
     simp only [gZa, gZb] at y4
     go_wp2_with fail
     refine (HP.out _ hQ3).mono ?_
     rintro e v4 ⟨rfl, hV4⟩
     have hQ4 : Below w2.heap.size w2 v4 := hQ3.trans (hV4.mono hQ3.size)
     rcases b4 with _ | _
     · go_wp2
       go_ret
       exact ⟨zaZ (by rw [HR.out]; rfl), hA.trans (hQ4.mono hs2)⟩
     have y3 := (HK2.out.below hQ4 HK2.out.lt).cell 3
     simp only [gZa, gZb] at y3
     go_wp2_with fail
     refine (HS.out _ hQ4).mono ?_
     rintro e v5 ⟨rfl, hV5⟩
     have hQ5 : Below w2.heap.size w2 v5 := hQ4.trans (hV5.mono hQ4.size)
     rcases b5 with _ | _
     · go_wp2
       go_ret
       exact ⟨zaZ (by rw [HR.out]; rfl), hA.trans (hQ5.mono hs2)⟩
     have y1 := (HK2.out.below hQ5 HK2.out.lt).cell 1
     simp only [gZa, gZb] at y1
     by_cases ho : s.m_ = ByteArray.empty
     · have he : s.m_.toList.isEmpty = true := by rw [ho]; exact empty_isEmpty
       have hR : b6 = true := by
        rw [← HB6.out]
        unfold origB
        rw [show s.plain.m_ = s.m_ from rfl, ho]
        simp
       subst hR
       clear ho
       go_wp2
       go_ret
       exact ⟨zaZ (by rw [HR.out]; rfl), hA.trans (hQ5.mono hs2)⟩
     · have he := isEmpty_no ho
       rcases hu : splitP s.m_ with _ | ⟨p, n⟩
       · have hR : b6 = false := by
          rw [← HB6.out]
          unfold origB
          rw [show s.plain.m_ = s.m_ from rfl, hu]
          simp [ho]
         subst hR
         have hv : splV s.m_ = .tuple #[.string ByteArray.empty, .string ByteArray.empty, .int .i64 31] := by unfold splV; rw [hu]
         have HO := HO
         rw [hv] at HO
         have HFe : Hid (∀ W, Below w2.heap.size w2 W → Calls Tryz.prog 24 #[.agg #[.string x.x_, .int .i64 x.r_, .int .i64 x.v_, .slice x.y_.A x.y_.l.length x.y_.c, .slice x.g_.A x.g_.l.length x.g_.c, .slice x.t_.A x.t_.l.length x.t_.c, .slice x.h_.A x.h_.l.length x.h_.c], .string ByteArray.empty] W fun e w' => e = .returned (.int .i64 (findM x ByteArray.empty)) ∧ Below W.heap.size W w') := zI fun W hW => HF.out W hW _
         clear ho hu hv HF
         go_wp2_with fail
         refine (HO.out _ hQ5).mono ?_
         rintro e v6 ⟨rfl, hV6⟩
         have hQ6 : Below w2.heap.size w2 v6 := hQ5.trans (hV6.mono hQ5.size)
         have z0 := (HK1.out.below hQ6 HK1.out.lt).cell 0
         have z1 := (HK1.out.below hQ6 HK1.out.lt).cell 1
         have z2 := (HK1.out.below hQ6 HK1.out.lt).cell 2
         have z3 := (HK1.out.below hQ6 HK1.out.lt).cell 3
         have z4 := (HK1.out.below hQ6 HK1.out.lt).cell 4
         have z5 := (HK1.out.below hQ6 HK1.out.lt).cell 5
         have z6 := (HK1.out.below hQ6 HK1.out.lt).cell 6
         simp only [gZa, gZb] at z0 z1 z2 z3 z4 z5 z6
         go_wp2_with fail
         refine (HFe.out _ hQ6).mono ?_
         rintro e v7 ⟨rfl, hV7⟩
         have hQ7 : Below w2.heap.size w2 v7 := hQ6.trans (hV7.mono hQ6.size)
         go_wp2
         go_ret
         exact ⟨zaZ (by rw [HR.out]; rfl), hA.trans (hQ7.mono hs2)⟩
       · have hv : splV s.m_ = .tuple #[.string p, .string n, .int .i64 0] := by unfold splV; rw [hu]
         have HO := HO
         rw [hv] at HO
         have hR : b6 = (decide (p ≠ s.l_) && match setAt x.plain p with
          | none => false
          | some y => zeQ y n) := by
          rw [← HB6.out]
          unfold origB
          rw [show s.plain.m_ = s.m_ from rfl, hu]
          simp [ho]
          rfl
         have HFu : Hid (∀ W, Below w2.heap.size w2 W → Calls Tryz.prog 24 #[.agg #[.string x.x_, .int .i64 x.r_, .int .i64 x.v_, .slice x.y_.A x.y_.l.length x.y_.c, .slice x.g_.A x.g_.l.length x.g_.c, .slice x.t_.A x.t_.l.length x.t_.c, .slice x.h_.A x.h_.l.length x.h_.c], .string p] W fun e w' => e = .returned (.int .i64 (findM x p)) ∧ Below W.heap.size W w') := zI fun W hW => HF.out W hW p
         by_cases hpp : p = s.l_
         · have hq : (p.toList == s.l_.toList) = true := by rw [beqS]; exact decide_eq_true hpp
           rw [decide_eq_false (by simpa using hpp), Bool.false_and] at hR
           subst hR
           clear ho hv hu HF hpp
           go_wp2_with fail
           refine (HO.out _ hQ5).mono ?_
           rintro e v6 ⟨rfl, hV6⟩
           have hQ6 : Below w2.heap.size w2 v6 := hQ5.trans (hV6.mono hQ5.size)
           have z0 := (HK1.out.below hQ6 HK1.out.lt).cell 0
           have z1 := (HK1.out.below hQ6 HK1.out.lt).cell 1
           have z2 := (HK1.out.below hQ6 HK1.out.lt).cell 2
           have z3 := (HK1.out.below hQ6 HK1.out.lt).cell 3
           have z4 := (HK1.out.below hQ6 HK1.out.lt).cell 4
           have z5 := (HK1.out.below hQ6 HK1.out.lt).cell 5
           have z6 := (HK1.out.below hQ6 HK1.out.lt).cell 6
           simp only [gZa, gZb] at z0 z1 z2 z3 z4 z5 z6
           go_wp2_with fail
           refine (HFu.out _ hQ6).mono ?_
           rintro e v7 ⟨rfl, hV7⟩
           have hQ7 : Below w2.heap.size w2 v7 := hQ6.trans (hV7.mono hQ6.size)
           have y0 := (HK2.out.below hQ7 HK2.out.lt).cell 0
           simp only [gZa, gZb] at y0
           go_wp2
           go_ret
           exact ⟨zaZ (by rw [HR.out]; rfl), hA.trans (hQ7.mono hs2)⟩
         · have hq : (p.toList == s.l_.toList) = false := by rw [beqS]; exact decide_eq_false hpp
           rw [decide_eq_true (show p ≠ s.l_ from hpp), Bool.true_and] at hR
           rcases set_ways x p with ⟨hf, hs0⟩ | ⟨j, y, hf, hy, hyp, hs0⟩
           · rw [hs0] at hR
             rw [hf] at HFu
             subst hR
             clear ho hv hu HF hpp hf hs0
             go_wp2_with fail
             refine (HO.out _ hQ5).mono ?_
             rintro e v6 ⟨rfl, hV6⟩
             have hQ6 : Below w2.heap.size w2 v6 := hQ5.trans (hV6.mono hQ5.size)
             have z0 := (HK1.out.below hQ6 HK1.out.lt).cell 0
             have z1 := (HK1.out.below hQ6 HK1.out.lt).cell 1
             have z2 := (HK1.out.below hQ6 HK1.out.lt).cell 2
             have z3 := (HK1.out.below hQ6 HK1.out.lt).cell 3
             have z4 := (HK1.out.below hQ6 HK1.out.lt).cell 4
             have z5 := (HK1.out.below hQ6 HK1.out.lt).cell 5
             have z6 := (HK1.out.below hQ6 HK1.out.lt).cell 6
             simp only [gZa, gZb] at z0 z1 z2 z3 z4 z5 z6
             go_wp2_with fail
             refine (HFu.out _ hQ6).mono ?_
             rintro e v7 ⟨rfl, hV7⟩
             have hQ7 : Below w2.heap.size w2 v7 := hQ6.trans (hV7.mono hQ6.size)
             have y0 := (HK2.out.below hQ7 HK2.out.lt).cell 0
             simp only [gZa, gZb] at y0
             go_wp2
             go_ret
             exact ⟨zaZ (by rw [HR.out]; rfl), hA.trans (hQ7.mono hs2)⟩
           · rw [hs0] at hR
             simp only [hasSnap_find] at hR
             rw [hf] at HFu
             have HN : Hid (R = decide (0 ≤ snapM y n)) := zI (by rw [HR.out, hR]; rfl)
             have HY := zI hy
             have hjl : j < x.y_.l.length := (List.getElem?_eq_some_iff.1 hy).1
             have hj0 : (0 : Int) ≤ (j : Int) := by omega
             clear ho hv hu HF hpp hf hs0 hy hyp hR HR HB6
             go_wp2_with fail
             refine (HO.out _ hQ5).mono ?_
             rintro e v6 ⟨rfl, hV6⟩
             have hQ6 : Below w2.heap.size w2 v6 := hQ5.trans (hV6.mono hQ5.size)
             have z0 := (HK1.out.below hQ6 HK1.out.lt).cell 0
             have z1 := (HK1.out.below hQ6 HK1.out.lt).cell 1
             have z2 := (HK1.out.below hQ6 HK1.out.lt).cell 2
             have z3 := (HK1.out.below hQ6 HK1.out.lt).cell 3
             have z4 := (HK1.out.below hQ6 HK1.out.lt).cell 4
             have z5 := (HK1.out.below hQ6 HK1.out.lt).cell 5
             have z6 := (HK1.out.below hQ6 HK1.out.lt).cell 6
             simp only [gZa, gZb] at z0 z1 z2 z3 z4 z5 z6
             go_wp2_with fail
             refine (HFu.out _ hQ6).mono ?_
             rintro e v7 ⟨rfl, hV7⟩
             have hQ7 : Below w2.heap.size w2 v7 := hQ6.trans (hV7.mono hQ6.size)
             have y0 := (HK2.out.below hQ7 HK2.out.lt).cell 0
             simp only [gZa, gZb] at y0
             have z3 := (HK1.out.below hQ7 HK1.out.lt).cell 3
             simp only [gZa, gZb] at z3
             have HG4 := HG.out v7 hQ7
             have hlen := HG4.w_.len
             obtain ⟨b, off, hAq, hb, hc⟩ := Rd.elem (n := 5) (fun _ => rfl) (by omega) HG4.w_.rd HY.out
             have c0 : v7.cell? ⟨b, off + j * 5, none⟩ = some (.string y.l_) := hc 0 _ rfl
             have c1 : v7.cell? ⟨b, off + j * 5 + 1, none⟩ = some (.string y.m_) := hc 1 _ rfl
             have c2 : v7.cell? ⟨b, off + j * 5 + 2, none⟩ = some (.slice y.p_.A y.p_.l.length y.p_.c) := hc 2 _ rfl
             have c3 : v7.cell? ⟨b, off + j * 5 + 3, none⟩ = some (.slice y.n_.A y.n_.l.length y.n_.c) := hc 3 _ rfl
             have c4 : v7.cell? ⟨b, off + j * 5 + 4, none⟩ = some (.slice y.j_.A y.j_.l.length y.j_.c) := hc 4 _ rfl
             have HSN := zI (refSnap_any y n v7 (HG4.w_.el y (mG HY.out)).f_)
             generalize snapM y n = G at *
             rw [hAq] at z3
             clear hc hAq HG4
             go_wp2_with fail
             refine HSN.out.mono ?_
             rintro e v8 ⟨rfl, hV8⟩
             have hX8 : Below w.heap.size w v8 := hA.trans ((hQ7.trans (hV8.mono hQ7.size)).mono hs2)
             go_wp2
             go_ret
             exact ⟨zaZ (HN.out.symm), hX8⟩
   · have hv : parV s.l_ = .tuple #[.string u, .bool true] := by unfold parV; rw [hu]
     rw [hv] at HPA
     rw [hpt] at HPT
     have hUB : upB x.plain s.l_ = decide (0 ≤ findM x u) := by unfold upB; rw [hu]; exact hasSet_find x u
     have HFw : Hid (∀ W, Below w2.heap.size w2 W → Calls Tryz.prog 24 #[.agg #[.string x.x_, .int .i64 x.r_, .int .i64 x.v_, .slice x.y_.A x.y_.l.length x.y_.c, .slice x.g_.A x.g_.l.length x.g_.c, .slice x.t_.A x.t_.l.length x.t_.c, .slice x.h_.A x.h_.l.length x.h_.c], .string u] W fun e w' => e = .returned (.int .i64 (findM x u)) ∧ Below W.heap.size W w') := zI fun W hW => HF.out W hW u
     by_cases hf0 : (0 : Int) ≤ findM x u
     · have hfn : ¬ findM x u < 0 := by omega
       have HR : Hid (R = (b3 && (b4 && (b5 && b6)))) := zI (by
        rw [HSB.out, hUB, decide_eq_true hf0, Bool.true_and])
       generalize findM x u = Fu at *
       clear hv hpt hu HSB hUB hf0
       go_enter Tryz.func70, Tryz.ntmps70
       go_upto_region 1 with fail
       rw [HW1.out, HW2.out]
       go_wp2_with fail
       refine (HPA.out _ hT0).mono ?_
       rintro e v1 ⟨rfl, hV1⟩
       have hQ1 : Below w2.heap.size w2 v1 := hV1
       have y0 := (HK2.out.below hQ1 HK2.out.lt).cell 0
       simp only [gZa, gZb] at y0
       go_wp2_with fail
       refine (HPT.out _ hQ1).mono ?_
       rintro e v2 ⟨rfl, hV2⟩
       have hQ2 : Below w2.heap.size w2 v2 := hQ1.trans (hV2.mono hQ1.size)
       have z0 := (HK1.out.below hQ2 HK1.out.lt).cell 0
       have z1 := (HK1.out.below hQ2 HK1.out.lt).cell 1
       have z2 := (HK1.out.below hQ2 HK1.out.lt).cell 2
       have z3 := (HK1.out.below hQ2 HK1.out.lt).cell 3
       have z4 := (HK1.out.below hQ2 HK1.out.lt).cell 4
       have z5 := (HK1.out.below hQ2 HK1.out.lt).cell 5
       have z6 := (HK1.out.below hQ2 HK1.out.lt).cell 6
       simp only [gZa, gZb] at z0 z1 z2 z3 z4 z5 z6
       go_wp2_with fail
       refine (HFw.out _ hQ2).mono ?_
       rintro e v9 ⟨rfl, hV9⟩
       have hQ9 : Below w2.heap.size w2 v9 := hQ2.trans (hV9.mono hQ2.size)
       have y2 := (HK2.out.below hQ9 HK2.out.lt).cell 2
       simp only [gZa, gZb] at y2
       go_wp2_with fail
       refine (HC.out _ hQ9).mono ?_
       rintro e v3 ⟨rfl, hV3⟩
       have hQ3 : Below w2.heap.size w2 v3 := hQ9.trans (hV3.mono hQ9.size)
       rcases b3 with _ | _
       · go_wp2
         go_ret
         exact ⟨zaZ (by rw [HR.out]; rfl), hA.trans (hQ3.mono hs2)⟩
       have y4 := (HK2.out.below hQ3 HK2.out.lt).cell 4
       simp only [gZa, gZb] at y4
       go_wp2_with fail
       refine (HP.out _ hQ3).mono ?_
       rintro e v4 ⟨rfl, hV4⟩
       have hQ4 : Below w2.heap.size w2 v4 := hQ3.trans (hV4.mono hQ3.size)
       rcases b4 with _ | _
       · go_wp2
         go_ret
         exact ⟨zaZ (by rw [HR.out]; rfl), hA.trans (hQ4.mono hs2)⟩
       have y3 := (HK2.out.below hQ4 HK2.out.lt).cell 3
       simp only [gZa, gZb] at y3
       go_wp2_with fail
       refine (HS.out _ hQ4).mono ?_
       rintro e v5 ⟨rfl, hV5⟩
       have hQ5 : Below w2.heap.size w2 v5 := hQ4.trans (hV5.mono hQ4.size)
       rcases b5 with _ | _
       · go_wp2
         go_ret
         exact ⟨zaZ (by rw [HR.out]; rfl), hA.trans (hQ5.mono hs2)⟩
       have y1 := (HK2.out.below hQ5 HK2.out.lt).cell 1
       simp only [gZa, gZb] at y1
       by_cases ho : s.m_ = ByteArray.empty
       · have he : s.m_.toList.isEmpty = true := by rw [ho]; exact empty_isEmpty
         have hR : b6 = true := by
          rw [← HB6.out]
          unfold origB
          rw [show s.plain.m_ = s.m_ from rfl, ho]
          simp
         subst hR
         clear ho
         go_wp2
         go_ret
         exact ⟨zaZ (by rw [HR.out]; rfl), hA.trans (hQ5.mono hs2)⟩
       · have he := isEmpty_no ho
         rcases hu : splitP s.m_ with _ | ⟨p, n⟩
         · have hR : b6 = false := by
            rw [← HB6.out]
            unfold origB
            rw [show s.plain.m_ = s.m_ from rfl, hu]
            simp [ho]
           subst hR
           have hv : splV s.m_ = .tuple #[.string ByteArray.empty, .string ByteArray.empty, .int .i64 31] := by unfold splV; rw [hu]
           have HO := HO
           rw [hv] at HO
           have HFe : Hid (∀ W, Below w2.heap.size w2 W → Calls Tryz.prog 24 #[.agg #[.string x.x_, .int .i64 x.r_, .int .i64 x.v_, .slice x.y_.A x.y_.l.length x.y_.c, .slice x.g_.A x.g_.l.length x.g_.c, .slice x.t_.A x.t_.l.length x.t_.c, .slice x.h_.A x.h_.l.length x.h_.c], .string ByteArray.empty] W fun e w' => e = .returned (.int .i64 (findM x ByteArray.empty)) ∧ Below W.heap.size W w') := zI fun W hW => HF.out W hW _
           clear ho hu hv HF
           go_wp2_with fail
           refine (HO.out _ hQ5).mono ?_
           rintro e v6 ⟨rfl, hV6⟩
           have hQ6 : Below w2.heap.size w2 v6 := hQ5.trans (hV6.mono hQ5.size)
           have z0 := (HK1.out.below hQ6 HK1.out.lt).cell 0
           have z1 := (HK1.out.below hQ6 HK1.out.lt).cell 1
           have z2 := (HK1.out.below hQ6 HK1.out.lt).cell 2
           have z3 := (HK1.out.below hQ6 HK1.out.lt).cell 3
           have z4 := (HK1.out.below hQ6 HK1.out.lt).cell 4
           have z5 := (HK1.out.below hQ6 HK1.out.lt).cell 5
           have z6 := (HK1.out.below hQ6 HK1.out.lt).cell 6
           simp only [gZa, gZb] at z0 z1 z2 z3 z4 z5 z6
           go_wp2_with fail
           refine (HFe.out _ hQ6).mono ?_
           rintro e v7 ⟨rfl, hV7⟩
           have hQ7 : Below w2.heap.size w2 v7 := hQ6.trans (hV7.mono hQ6.size)
           go_wp2
           go_ret
           exact ⟨zaZ (by rw [HR.out]; rfl), hA.trans (hQ7.mono hs2)⟩
         · have hv : splV s.m_ = .tuple #[.string p, .string n, .int .i64 0] := by unfold splV; rw [hu]
           have HO := HO
           rw [hv] at HO
           have hR : b6 = (decide (p ≠ s.l_) && match setAt x.plain p with
            | none => false
            | some y => zeQ y n) := by
            rw [← HB6.out]
            unfold origB
            rw [show s.plain.m_ = s.m_ from rfl, hu]
            simp [ho]
            rfl
           have HFu : Hid (∀ W, Below w2.heap.size w2 W → Calls Tryz.prog 24 #[.agg #[.string x.x_, .int .i64 x.r_, .int .i64 x.v_, .slice x.y_.A x.y_.l.length x.y_.c, .slice x.g_.A x.g_.l.length x.g_.c, .slice x.t_.A x.t_.l.length x.t_.c, .slice x.h_.A x.h_.l.length x.h_.c], .string p] W fun e w' => e = .returned (.int .i64 (findM x p)) ∧ Below W.heap.size W w') := zI fun W hW => HF.out W hW p
           by_cases hpp : p = s.l_
           · have hq : (p.toList == s.l_.toList) = true := by rw [beqS]; exact decide_eq_true hpp
             rw [decide_eq_false (by simpa using hpp), Bool.false_and] at hR
             subst hR
             clear ho hv hu HF hpp
             go_wp2_with fail
             refine (HO.out _ hQ5).mono ?_
             rintro e v6 ⟨rfl, hV6⟩
             have hQ6 : Below w2.heap.size w2 v6 := hQ5.trans (hV6.mono hQ5.size)
             have z0 := (HK1.out.below hQ6 HK1.out.lt).cell 0
             have z1 := (HK1.out.below hQ6 HK1.out.lt).cell 1
             have z2 := (HK1.out.below hQ6 HK1.out.lt).cell 2
             have z3 := (HK1.out.below hQ6 HK1.out.lt).cell 3
             have z4 := (HK1.out.below hQ6 HK1.out.lt).cell 4
             have z5 := (HK1.out.below hQ6 HK1.out.lt).cell 5
             have z6 := (HK1.out.below hQ6 HK1.out.lt).cell 6
             simp only [gZa, gZb] at z0 z1 z2 z3 z4 z5 z6
             go_wp2_with fail
             refine (HFu.out _ hQ6).mono ?_
             rintro e v7 ⟨rfl, hV7⟩
             have hQ7 : Below w2.heap.size w2 v7 := hQ6.trans (hV7.mono hQ6.size)
             have y0 := (HK2.out.below hQ7 HK2.out.lt).cell 0
             simp only [gZa, gZb] at y0
             go_wp2
             go_ret
             exact ⟨zaZ (by rw [HR.out]; rfl), hA.trans (hQ7.mono hs2)⟩
           · have hq : (p.toList == s.l_.toList) = false := by rw [beqS]; exact decide_eq_false hpp
             rw [decide_eq_true (show p ≠ s.l_ from hpp), Bool.true_and] at hR
             rcases set_ways x p with ⟨hf, hs0⟩ | ⟨j, y, hf, hy, hyp, hs0⟩
             · rw [hs0] at hR
               rw [hf] at HFu
               subst hR
               clear ho hv hu HF hpp hf hs0
               go_wp2_with fail
               refine (HO.out _ hQ5).mono ?_
               rintro e v6 ⟨rfl, hV6⟩
               have hQ6 : Below w2.heap.size w2 v6 := hQ5.trans (hV6.mono hQ5.size)
               have z0 := (HK1.out.below hQ6 HK1.out.lt).cell 0
               have z1 := (HK1.out.below hQ6 HK1.out.lt).cell 1
               have z2 := (HK1.out.below hQ6 HK1.out.lt).cell 2
               have z3 := (HK1.out.below hQ6 HK1.out.lt).cell 3
               have z4 := (HK1.out.below hQ6 HK1.out.lt).cell 4
               have z5 := (HK1.out.below hQ6 HK1.out.lt).cell 5
               have z6 := (HK1.out.below hQ6 HK1.out.lt).cell 6
               simp only [gZa, gZb] at z0 z1 z2 z3 z4 z5 z6
               go_wp2_with fail
               refine (HFu.out _ hQ6).mono ?_
               rintro e v7 ⟨rfl, hV7⟩
               have hQ7 : Below w2.heap.size w2 v7 := hQ6.trans (hV7.mono hQ6.size)
               have y0 := (HK2.out.below hQ7 HK2.out.lt).cell 0
               simp only [gZa, gZb] at y0
               go_wp2
               go_ret
               exact ⟨zaZ (by rw [HR.out]; rfl), hA.trans (hQ7.mono hs2)⟩
             · rw [hs0] at hR
               simp only [hasSnap_find] at hR
               rw [hf] at HFu
               have HN : Hid (R = decide (0 ≤ snapM y n)) := zI (by rw [HR.out, hR]; rfl)
               have HY := zI hy
               have hjl : j < x.y_.l.length := (List.getElem?_eq_some_iff.1 hy).1
               have hj0 : (0 : Int) ≤ (j : Int) := by omega
               clear ho hv hu HF hpp hf hs0 hy hyp hR HR HB6
               go_wp2_with fail
               refine (HO.out _ hQ5).mono ?_
               rintro e v6 ⟨rfl, hV6⟩
               have hQ6 : Below w2.heap.size w2 v6 := hQ5.trans (hV6.mono hQ5.size)
               have z0 := (HK1.out.below hQ6 HK1.out.lt).cell 0
               have z1 := (HK1.out.below hQ6 HK1.out.lt).cell 1
               have z2 := (HK1.out.below hQ6 HK1.out.lt).cell 2
               have z3 := (HK1.out.below hQ6 HK1.out.lt).cell 3
               have z4 := (HK1.out.below hQ6 HK1.out.lt).cell 4
               have z5 := (HK1.out.below hQ6 HK1.out.lt).cell 5
               have z6 := (HK1.out.below hQ6 HK1.out.lt).cell 6
               simp only [gZa, gZb] at z0 z1 z2 z3 z4 z5 z6
               go_wp2_with fail
               refine (HFu.out _ hQ6).mono ?_
               rintro e v7 ⟨rfl, hV7⟩
               have hQ7 : Below w2.heap.size w2 v7 := hQ6.trans (hV7.mono hQ6.size)
               have y0 := (HK2.out.below hQ7 HK2.out.lt).cell 0
               simp only [gZa, gZb] at y0
               have z3 := (HK1.out.below hQ7 HK1.out.lt).cell 3
               simp only [gZa, gZb] at z3
               have HG4 := HG.out v7 hQ7
               have hlen := HG4.w_.len
               obtain ⟨b, off, hAq, hb, hc⟩ := Rd.elem (n := 5) (fun _ => rfl) (by omega) HG4.w_.rd HY.out
               have c0 : v7.cell? ⟨b, off + j * 5, none⟩ = some (.string y.l_) := hc 0 _ rfl
               have c1 : v7.cell? ⟨b, off + j * 5 + 1, none⟩ = some (.string y.m_) := hc 1 _ rfl
               have c2 : v7.cell? ⟨b, off + j * 5 + 2, none⟩ = some (.slice y.p_.A y.p_.l.length y.p_.c) := hc 2 _ rfl
               have c3 : v7.cell? ⟨b, off + j * 5 + 3, none⟩ = some (.slice y.n_.A y.n_.l.length y.n_.c) := hc 3 _ rfl
               have c4 : v7.cell? ⟨b, off + j * 5 + 4, none⟩ = some (.slice y.j_.A y.j_.l.length y.j_.c) := hc 4 _ rfl
               have HSN := zI (refSnap_any y n v7 (HG4.w_.el y (mG HY.out)).f_)
               generalize snapM y n = G at *
               rw [hAq] at z3
               clear hc hAq HG4
               go_wp2_with fail
               refine HSN.out.mono ?_
               rintro e v8 ⟨rfl, hV8⟩
               have hX8 : Below w.heap.size w v8 := hA.trans ((hQ7.trans (hV8.mono hQ7.size)).mono hs2)
               go_wp2
               go_ret
               exact ⟨zaZ (HN.out.symm), hX8⟩
     · have hfn : findM x u < 0 := by omega
       have HR : Hid (R = false) := zI (by
        rw [HSB.out, hUB, decide_eq_false hf0, Bool.false_and])
       generalize findM x u = Fu at *
       clear hv hpt hu HSB hUB hf0 HF HO HC HP HS HG
       go_enter Tryz.func70, Tryz.ntmps70
       go_upto_region 1 with fail
       rw [HW1.out, HW2.out]
       go_wp2_with fail
       refine (HPA.out _ hT0).mono ?_
       rintro e v1 ⟨rfl, hV1⟩
       have hQ1 : Below w2.heap.size w2 v1 := hV1
       have y0 := (HK2.out.below hQ1 HK2.out.lt).cell 0
       simp only [gZa, gZb] at y0
       go_wp2_with fail
       refine (HPT.out _ hQ1).mono ?_
       rintro e v2 ⟨rfl, hV2⟩
       have hQ2 : Below w2.heap.size w2 v2 := hQ1.trans (hV2.mono hQ1.size)
       have z0 := (HK1.out.below hQ2 HK1.out.lt).cell 0
       have z1 := (HK1.out.below hQ2 HK1.out.lt).cell 1
       have z2 := (HK1.out.below hQ2 HK1.out.lt).cell 2
       have z3 := (HK1.out.below hQ2 HK1.out.lt).cell 3
       have z4 := (HK1.out.below hQ2 HK1.out.lt).cell 4
       have z5 := (HK1.out.below hQ2 HK1.out.lt).cell 5
       have z6 := (HK1.out.below hQ2 HK1.out.lt).cell 6
       simp only [gZa, gZb] at z0 z1 z2 z3 z4 z5 z6
       go_wp2_with fail
       refine (HFw.out _ hQ2).mono ?_
       rintro e v9 ⟨rfl, hV9⟩
       have hQ9 : Below w2.heap.size w2 v9 := hQ2.trans (hV9.mono hQ2.size)
       go_wp2
       go_ret
       exact ⟨zaZ HR.out.symm, hA.trans (hQ9.mono hs2)⟩
end Go.Proofs.YtimmcmjipmkebaaGreat
namespace Go.Proofs.YtimmcmjipmkebaaGreat
open Go.ChangeShapes Go.WideShapes Go.ChangeAt Go.RowKit
set_option maxRecDepth 100000
section
variable {P : Program} {ops : Array Oper} {Q : Exit → Act → World → Prop} {md : Region.Mode} {S1 S2 : World → Prop} {l : Nat}
theorem tkC (n : Nat) {i : Nat} {oi : Oper} {v : Value} {fuel : Nat} {listed : Array Bool} {a : Act} {w : World} (hi : ops[i]? = some oi) (hS : S1 w)
 (h : wpAnyL P md ops Q S1 l fuel (listed.setIfInBounds i true) (a.put oi.dst v) w)
 (hs : Region.noSelect ops = true := by kernel_rfl) (hf : Region.free md ops listed i = true := by kernel_rfl) (hr : (Region.ready md ops listed).contains i = true := by kernel_rfl) (ht : inTurnB md ops listed = true := by kernel_rfl) (hl : waitsFor md ops n l i = true := by kernel_rfl) (hil : (i == l) = false := by kernel_rfl) (hun : listed.getD l false = false := by kernel_rfl)
 (hQ : ∀ c a w, Q (.panic c) (a.put oi.dst v) w → Q (.panic c) a w := by exact fun _ _ _ h => h) (hy : YieldsIf P ops S1 oi v a := by refine Or.inl ⟨by rfl, ?_⟩; intro w hSw; (try dsimp only at hSw); obtain ⟨hS1, hS2⟩ := hSw; go_simp; first | with_reducible rfl | (simp only [Tryz.isAgg91, Tryz.sizeOf91, Result.andThen, ↓reduceIte, hS1]; with_reducible rfl)) : wpAnyL P md ops Q S1 l (fuel + 1) listed a w :=
 wpAnyL_take n hi hs hf hr ht hl hil hun hQ hy hS h
end
set_option linter.unusedSimpArgs false
structure MT_.Tiny (x : MT_) : Prop where
 sets : ∀ s ∈ x.y_.l, s.l_.size ≤ 4398046511104 ∧ s.m_.size ≤ 4398046511104
 stages : ∀ s ∈ x.t_.l, s.S_.size ≤ 4398046511104
 log : ∀ s ∈ x.h_.l, s.l_.size ≤ 4398046511104
 grants : ∀ g ∈ x.g_.l, g.2.1.size ≤ 4398046511104
attribute [-simp] Tryz.isAgg91 Tryz.sizeOf91
set_option maxHeartbeats 8000000 in
theorem refCheck_any14 (x : MT_) (w : World) (hx : x.Good w) (ht : x.Tiny) :
 Calls Tryz.prog 23 #[.agg x.cells.toArray] w fun e w' => e = .returned (.int .i64 (if okT x.plain = true then 0 else 9)) ∧ Below w.heap.size w w' := by
 obtain ⟨xn, xq, xt, ⟨A, l, ca⟩, xg, ⟨A2, l2, cb⟩, ⟨A3, l3, cc⟩⟩ := x
 obtain ⟨P, hP⟩ : ∃ P, (MT_.mk xn xq xt ⟨A, l, ca⟩ xg ⟨A2, l2, cb⟩ ⟨A3, l3, cc⟩).plain = P := ⟨_, rfl⟩
 have hOK : okT P = (zaQ (bs xn) && (amt 0 xq && (amt 1 xt && (decide (l.length ≤ 32) && (decide (0 ≤ findM ⟨xn, xq, xt, ⟨A, l, ca⟩, xg, ⟨A2, l2, cb⟩, ⟨A3, l3, cc⟩⟩ ByteArray.empty) && (okG xg.l && (decide (l2.length ≤ 4) && (decide (l3.length ≤ 16) && (goodL (fun y : MSet => setB P y.plain) (fun a b => ltTx a.l_ b.l_) l && (goodL (fun y : Mta => zeZ y.plain) (fun a b => ltTx a.S_ b.S_) l2 && l3.all fun y => zfQ y.plain)))))))))) := by
  have e1 : goodL (setB P) ltPath (l.map MSet.plain) = goodL (fun y : MSet => setB P y.plain) (fun a b => ltTx a.l_ b.l_) l := by
   unfold goodL
   rw [List.all_map, riseB_map]
   rfl
  have e2 : goodL zeZ ltInto (l2.map Mta.plain) = goodL (fun y : Mta => zeZ y.plain) (fun a b => ltTx a.S_ b.S_) l2 := by
   unfold goodL
   rw [List.all_map, riseB_map]
   rfl
  have e3 : (l3.map ME_.plain).all zfQ = l3.all fun y => zfQ y.plain := by rw [List.all_map]; rfl
  have e4 := hasSet_find ⟨xn, xq, xt, ⟨A, l, ca⟩, xg, ⟨A2, l2, cb⟩, ⟨A3, l3, cc⟩⟩ ByteArray.empty
  rw [hP] at e4
  rw [← e1, ← e2, ← e3, ← e4, ← hP]
  unfold okT
  simp only [MT_.plain, List.length_map]
 obtain ⟨w1, hw1⟩ : ∃ w1, w.alloc (.cells #[.string xn, .int .i64 xq, .int .i64 xt, .slice A l.length ca, .slice xg.A xg.l.length xg.c, .slice A2 l2.length cb, .slice A3 l3.length cc] 27) = w1 := ⟨_, rfl⟩
 have hA : Below w.heap.size w w1 := hw1 ▸ (Below.refl _ w).alloc (Nat.le_refl _) _
 have k1 : Blk w1 w.heap.size 27 [.string xn, .int .i64 xq, .int .i64 xt, .slice A l.length ca, .slice xg.A xg.l.length xg.c, .slice A2 l2.length cb, .slice A3 l3.length cc] := hw1 ▸ Blk.new w _ _
 have HG : Hid (∀ W, Below w1.heap.size w1 W → MT_.Good W ⟨xn, xq, xt, ⟨A, l, ca⟩, xg, ⟨A2, l2, cb⟩, ⟨A3, l3, cc⟩⟩) := zI fun W hW => hx.below (hA.trans (hW.mono hA.size))
 have H1 : Hid (∀ W, Below w1.heap.size w1 W → Calls Tryz.prog 66 #[.string xn] W fun e w' => e = .returned (.bool (zaQ (bs xn))) ∧ Below W.heap.size W w') := zI fun W hW => refNameB xn (by have h : xn.size ≤ 140737488351232 := hx.L_; omega) W
 have H2 : Hid (∀ W, Below w1.heap.size w1 W → Calls Tryz.prog 68 #[.int .i64 xq, .int .i64 0] W fun e w' => e = .returned (.bool (amt 0 xq)) ∧ Below W.heap.size W w') := zI fun W hW => amountB 0 xq W
 have H3 : Hid (∀ W, Below w1.heap.size w1 W → Calls Tryz.prog 68 #[.int .i64 xt, .int .i64 1] W fun e w' => e = .returned (.bool (amt 1 xt)) ∧ Below W.heap.size W w') := zI fun W hW => amountB 1 xt W
 have H5 : Hid (∀ W, Below w1.heap.size w1 W → Calls Tryz.prog 24 #[.agg #[.string xn, .int .i64 xq, .int .i64 xt, .slice A l.length ca, .slice xg.A xg.l.length xg.c, .slice A2 l2.length cb, .slice A3 l3.length cc], .string ByteArray.empty] W fun e w' => e = .returned (.int .i64 (findM ⟨xn, xq, xt, ⟨A, l, ca⟩, xg, ⟨A2, l2, cb⟩, ⟨A3, l3, cc⟩⟩ ByteArray.empty)) ∧ Below W.heap.size W w') := zI fun W hW => refFind_any ⟨xn, xq, xt, ⟨A, l, ca⟩, xg, ⟨A2, l2, cb⟩, ⟨A3, l3, cc⟩⟩ _ W (HG.out W hW)
 have H6 : Hid (∀ W, Below w1.heap.size w1 W → Calls Tryz.prog 69 #[.slice xg.A xg.l.length xg.c] W fun e w' => e = .returned (.int .i64 (if okG xg.l = true then 0 else 9)) ∧ Below W.heap.size W w') := zI fun W hW => refGrants_any xg.A xg.c xg.l.length xg.l rfl (by have := (HG.out W hW).Q_.len; dsimp only at this; omega) (fun g hg => ⟨((HG.out W hW).Q_.el g hg).1, ht.grants g hg⟩) W (HG.out W hW).Q_.rd
 have HS : Hid (∀ W, Below w1.heap.size w1 W → ∀ y ∈ l, Calls Tryz.prog 70 #[.agg #[.string xn, .int .i64 xq, .int .i64 xt, .slice A l.length ca, .slice xg.A xg.l.length xg.c, .slice A2 l2.length cb, .slice A3 l3.length cc], .agg y.cells.toArray] W fun e w' => e = .returned (.bool (setB P y.plain)) ∧ Below W.heap.size W w') := zI fun W hW y hy => by
  rw [← hP]
  exact refTSet_any ⟨xn, xq, xt, ⟨A, l, ca⟩, xg, ⟨A2, l2, cb⟩, ⟨A3, l3, cc⟩⟩ y (ht.sets y hy).1 (ht.sets y hy).2 W (HG.out W hW) ((HG.out W hW).w_.el y hy)
 have HS2 : Hid (∀ W, Below w1.heap.size w1 W → ∀ y ∈ l2, Calls Tryz.prog 71 #[.agg y.cells.toArray] W fun e w' => e = .returned (.bool (zeZ y.plain)) ∧ Below W.heap.size W w') := zI fun W hW y hy => refStage_any y (ht.stages y hy) W ((HG.out W hW).B_.el y hy)
 have HS3 : Hid (∀ W, Below w1.heap.size w1 W → ∀ y ∈ l3, Calls Tryz.prog 72 #[.agg y.cells.toArray] W fun e w' => e = .returned (.bool (zfQ y.plain)) ∧ Below W.heap.size W w') := zI fun W hW y hy => refEntry_any y (ht.log y hy) W ((HG.out W hW).glog_.el y hy)
 have HRD := zI (hx.w_.rd.below hA)
 have HRD2 := zI (hx.B_.rd.below hA)
 have HRD3 := zI (hx.glog_.rd.below hA)
 have hln1 := hx.w_.len
 have hln2 := hx.B_.len
 have hln3 := hx.glog_.len
 dsimp only at HRD HRD2 HRD3 hln1 hln2 hln3
 have HK1 := zI k1
 have HW1 := zI hw1
 have hs1 := hA.size
 have hT0 : Below w1.heap.size w1 w1 := Below.refl _ _
 obtain ⟨R, hR⟩ : ∃ R, okT P = R := ⟨_, rfl⟩
 rw [hP, hR]
 rw [hR] at hOK
 obtain ⟨Q, hQ⟩ : ∃ Q : Int, (if R = true then 0 else 9) = Q := ⟨_, rfl⟩
 rw [hQ]
 have HQ := zI hQ
 obtain ⟨b1, hb1⟩ : ∃ b, zaQ (bs xn) = b := ⟨_, rfl⟩
 obtain ⟨b2, hb2⟩ : ∃ b, amt 0 xq = b := ⟨_, rfl⟩
 obtain ⟨b3, hb3⟩ : ∃ b, amt 1 xt = b := ⟨_, rfl⟩
 obtain ⟨b4, hb4⟩ : ∃ b, decide (l.length ≤ 32) = b := ⟨_, rfl⟩
 obtain ⟨Fe, hFe⟩ : ∃ F, findM ⟨xn, xq, xt, ⟨A, l, ca⟩, xg, ⟨A2, l2, cb⟩, ⟨A3, l3, cc⟩⟩ ByteArray.empty = F := ⟨_, rfl⟩
 rw [hFe] at hOK H5
 obtain ⟨b5, hb5⟩ : ∃ b, decide (0 ≤ Fe) = b := ⟨_, rfl⟩
 obtain ⟨b6, hb6⟩ : ∃ b, okG xg.l = b := ⟨_, rfl⟩
 obtain ⟨b7, hb7⟩ : ∃ b, decide (l2.length ≤ 4) = b := ⟨_, rfl⟩
 obtain ⟨b8, hb8⟩ : ∃ b, decide (l3.length ≤ 16) = b := ⟨_, rfl⟩
 obtain ⟨b9, hb9⟩ : ∃ b, goodL (fun y : MSet => setB P y.plain) (fun a b => ltTx a.l_ b.l_) l = b := ⟨_, rfl⟩
 obtain ⟨b10, hb10⟩ : ∃ b, goodL (fun y : Mta => zeZ y.plain) (fun a b => ltTx a.S_ b.S_) l2 = b := ⟨_, rfl⟩
 obtain ⟨b11, hb11⟩ : ∃ b, (l3.all fun y => zfQ y.plain) = b := ⟨_, rfl⟩
 rw [hb1, hb2, hb3, hb4, hb5, hb6, hb7, hb8, hb9, hb10, hb11] at hOK
 rw [hb1] at H1
 rw [hb2] at H2
 rw [hb3] at H3
 rw [hb6] at H6
 have HR := zI hOK
 have HB4 := zI hb4
 have HB5 := zI hb5
 have HB7 := zI hb7
 have HB8 := zI hb8
 have HB9 : Hid (goodL (fun y : MSet => setB P y.plain) (fun a b => ltTx a.l_ b.l_) l = false → b9 = false) := zI fun h => by rw [← hb9, h]
 have HE9 : Hid (goodL (fun y : MSet => setB P y.plain) (fun a b => ltTx a.l_ b.l_) l = true → b9 = true) := zI fun h => by rw [← hb9, h]
 have HB10 : Hid (goodL (fun y : Mta => zeZ y.plain) (fun a b => ltTx a.S_ b.S_) l2 = false → b10 = false) := zI fun h => by rw [← hb10, h]
 have HE10 : Hid (goodL (fun y : Mta => zeZ y.plain) (fun a b => ltTx a.S_ b.S_) l2 = true → b10 = true) := zI fun h => by rw [← hb10, h]
 have HB11 : Hid (∀ y ∈ l3, zfQ y.plain = false → b11 = false) := zI fun y hy h => by
  rw [← hb11, ← Bool.not_eq_true]
  intro e
  rw [List.all_eq_true.1 e y hy] at h
  cases h
 have HE11 : Hid ((∀ y ∈ l3, zfQ y.plain = true) → b11 = true) := zI fun h => by rw [← hb11]; exact List.all_eq_true.2 h
 clear hOK hR hQ hFe hb1 hb2 hb3 hb4 hb5 hb6 hb7 hb8 hb9 hb10 hb11 k1 hw1 hx ht HG hP
 go_enter Tryz.func23, Tryz.ntmps23
 go_upto_region 1 with fail
 rw [HW1.out]
 have z0 := (HK1.out.below hT0 HK1.out.lt).cell 0
 simp only [gZa, gZb] at z0
 go_wp2_with fail
 refine (H1.out _ hT0).mono ?_
 rintro e v1 ⟨rfl, hV1⟩
 have hQ1 : Below w1.heap.size w1 v1 := hT0.trans (hV1.mono hT0.size)
 rcases b1 with _ | _
 · go_wp2
   go_ret
   exact ⟨ret_chk (by rw [← HQ.out, show R = false from by rw [HR.out]; rfl]; rfl), hA.trans (hQ1.mono hs1)⟩
 have z1 := (HK1.out.below hQ1 HK1.out.lt).cell 1
 simp only [gZa, gZb] at z1
 go_wp2_with fail
 refine (H2.out _ hQ1).mono ?_
 rintro e v2 ⟨rfl, hV2⟩
 have hQ2 : Below w1.heap.size w1 v2 := hQ1.trans (hV2.mono hQ1.size)
 rcases b2 with _ | _
 · go_wp2
   go_ret
   exact ⟨ret_chk (by rw [← HQ.out, show R = false from by rw [HR.out]; rfl]; rfl), hA.trans (hQ2.mono hs1)⟩
 have z2 := (HK1.out.below hQ2 HK1.out.lt).cell 2
 simp only [gZa, gZb] at z2
 go_wp2_with fail
 refine (H3.out _ hQ2).mono ?_
 rintro e v3 ⟨rfl, hV3⟩
 have hQ3 : Below w1.heap.size w1 v3 := hQ2.trans (hV3.mono hQ2.size)
 rcases b3 with _ | _
 · go_wp2
   go_ret
   exact ⟨ret_chk (by rw [← HQ.out, show R = false from by rw [HR.out]; rfl]; rfl), hA.trans (hQ3.mono hs1)⟩
 have z3 := (HK1.out.below hQ3 HK1.out.lt).cell 3
 simp only [gZa, gZb] at z3
 rcases b4 with _ | _
 · have ht : (32 : Int) < (l.length : Int) := by have := of_decide_eq_false HB4.out; omega
   go_wp2
   go_ret
   exact ⟨ret_chk (by rw [← HQ.out, show R = false from by rw [HR.out]; rfl]; rfl), hA.trans (hQ3.mono hs1)⟩
 have ht4 : ¬ (32 : Int) < (l.length : Int) := by have := of_decide_eq_true HB4.out; omega
 have z0 := (HK1.out.below hQ3 HK1.out.lt).cell 0
 have z1 := (HK1.out.below hQ3 HK1.out.lt).cell 1
 have z2 := (HK1.out.below hQ3 HK1.out.lt).cell 2
 have z3 := (HK1.out.below hQ3 HK1.out.lt).cell 3
 have z4 := (HK1.out.below hQ3 HK1.out.lt).cell 4
 have z5 := (HK1.out.below hQ3 HK1.out.lt).cell 5
 have z6 := (HK1.out.below hQ3 HK1.out.lt).cell 6
 simp only [gZa, gZb] at z0 z1 z2 z3 z4 z5 z6
 go_wp2_with fail
 refine (H5.out _ hQ3).mono ?_
 rintro e v5 ⟨rfl, hV5⟩
 have hQ5 : Below w1.heap.size w1 v5 := hQ3.trans (hV5.mono hQ3.size)
 rcases b5 with _ | _
 · have hq5 : Fe < 0 := by have := of_decide_eq_false HB5.out; omega
   go_wp2
   go_ret
   exact ⟨ret_chk (by rw [← HQ.out, show R = false from by rw [HR.out]; rfl]; rfl), hA.trans (hQ5.mono hs1)⟩
 have hq5 : ¬ Fe < 0 := by have := of_decide_eq_true HB5.out; omega
 have z4 := (HK1.out.below hQ5 HK1.out.lt).cell 4
 simp only [gZa, gZb] at z4
 go_wp2_with fail
 refine (H6.out _ hQ5).mono ?_
 rintro e v6 ⟨rfl, hV6⟩
 have hQ6 : Below w1.heap.size w1 v6 := hQ5.trans (hV6.mono hQ5.size)
 rcases b6 with _ | _
 · go_wp2
   go_ret
   exact ⟨ret_chk (by rw [← HQ.out, show R = false from by rw [HR.out]; rfl]; rfl), hA.trans (hQ6.mono hs1)⟩
 have z5 := (HK1.out.below hQ6 HK1.out.lt).cell 5
 have z6 := (HK1.out.below hQ6 HK1.out.lt).cell 6
 simp only [gZa, gZb] at z5 z6
 rcases b7 with _ | _
 · have ht : (4 : Int) < (l2.length : Int) := by have := of_decide_eq_false HB7.out; omega
   go_wp2
   go_ret
   exact ⟨ret_chk (by rw [← HQ.out, show R = false from by rw [HR.out]; rfl]; rfl), hA.trans (hQ6.mono hs1)⟩
 have ht7 : ¬ (4 : Int) < (l2.length : Int) := by have := of_decide_eq_true HB7.out; omega
 rcases b8 with _ | _
 · have ht : (16 : Int) < (l3.length : Int) := by have := of_decide_eq_false HB8.out; omega
   go_wp2
   go_ret
   exact ⟨ret_chk (by rw [← HQ.out, show R = false from by rw [HR.out]; rfl]; rfl), hA.trans (hQ6.mono hs1)⟩
 have ht8 : ¬ (16 : Int) < (l3.length : Int) := by have := of_decide_eq_true HB8.out; omega
 have HR2 : Hid (R = (b9 && (b10 && b11))) := zI (by rw [HR.out]; rfl)
 clear H1 H2 H3 H5 H6 HR HB4 HB5 HB7 HB8
 go_wp2
 go_loopw [3] (fun i W => ∃ k : Nat, k ≤ l.length ∧ i = .int .i64 k ∧ Hid (UpTo (fun y : MSet => setB P y.plain) (fun a b => ltTx a.l_ b.l_) l k) ∧ Below w1.heap.size w1 W) (fun i _ => l.length - (intOf i).toNat)
 case atStart => exact ⟨0, Nat.zero_le _, rfl, zI upTo_zero, hQ6⟩
 case round =>
  obtain ⟨k, hk, rfl, HU, hB⟩ := hrel
  have hlz : w.heap.size < wr.heap.size := Nat.lt_of_lt_of_le HK1.out.lt hB.size
  have z0 := (HK1.out.below hB HK1.out.lt).cell 0
  have z1 := (HK1.out.below hB HK1.out.lt).cell 1
  have z2 := (HK1.out.below hB HK1.out.lt).cell 2
  have z3 := (HK1.out.below hB HK1.out.lt).cell 3
  have z4 := (HK1.out.below hB HK1.out.lt).cell 4
  have z5 := (HK1.out.below hB HK1.out.lt).cell 5
  have z6 := (HK1.out.below hB HK1.out.lt).cell 6
  simp only [gZa, gZb] at z0 z1 z2 z3 z4 z5 z6
  by_cases hlt : k < l.length
  · obtain ⟨y, hy⟩ : ∃ y, l[k]? = some y := ⟨l[k], qZa hlt⟩
    have hrw := HRD.out.below hB
    obtain ⟨b, off, rfl, hb, hc⟩ := Rd.elem (n := 5) (fun _ => rfl) (by omega) hrw hy
    have c0 : wr.cell? ⟨b, off + k * 5, none⟩ = some (.string y.l_) := hc 0 _ rfl
    have c1 : wr.cell? ⟨b, off + k * 5 + 1, none⟩ = some (.string y.m_) := hc 1 _ rfl
    have c2 : wr.cell? ⟨b, off + k * 5 + 2, none⟩ = some (.slice y.p_.A y.p_.l.length y.p_.c) := hc 2 _ rfl
    have c3 : wr.cell? ⟨b, off + k * 5 + 3, none⟩ = some (.slice y.n_.A y.n_.l.length y.n_.c) := hc 3 _ rfl
    have c4 : wr.cell? ⟨b, off + k * 5 + 4, none⟩ = some (.slice y.j_.A y.j_.l.length y.j_.c) := hc 4 _ rfl
    have HSET := zI (fun W hW => HS.out W hW y (mG hy))
    have HY := zI hy
    clear hc hy
    rcases g : setB P y.plain with _ | _
    · have hb9 : b9 = false := HB9.out (goodL_bad HY.out g)
      rw [g] at HSET
      subst hb9
      clear g HU hrw HY HB9 HE9
      go_upto_region 6 with fail
      refine wp_region_noPanic ?_
      refine zcX 27 (fun W => W.cell? ⟨w.heap.size, 0, none⟩ = some (.string xn) ∧ W.cell? ⟨w.heap.size, 1, none⟩ = some (.int .i64 xq) ∧ W.cell? ⟨w.heap.size, 2, none⟩ = some (.int .i64 xt) ∧ W.cell? ⟨w.heap.size, 3, none⟩ = some (.slice (some ⟨b, off, none⟩) l.length ca) ∧ W.cell? ⟨w.heap.size, 4, none⟩ = some (.slice xg.A xg.l.length xg.c) ∧ W.cell? ⟨w.heap.size, 5, none⟩ = some (.slice A2 l2.length cb) ∧ W.cell? ⟨w.heap.size, 6, none⟩ = some (.slice A3 l3.length cc) ∧ W.cell? ⟨b, off + k * 5, none⟩ = some (.string y.l_) ∧ W.cell? ⟨b, off + k * 5 + 1, none⟩ = some (.string y.m_) ∧ W.cell? ⟨b, off + k * 5 + 2, none⟩ = some (.slice y.p_.A y.p_.l.length y.p_.c) ∧ W.cell? ⟨b, off + k * 5 + 3, none⟩ = some (.slice y.n_.A y.n_.l.length y.n_.c) ∧ W.cell? ⟨b, off + k * 5 + 4, none⟩ = some (.slice y.j_.A y.j_.l.length y.j_.c)) (by kernel_rfl) ⟨z0, z1, z2, z3, z4, z5, z6, c0, c1, c2, c3, c4⟩ (fun hHeld => ?_)
      refine tkA 12 (i := 0) (oi := ⟨some 58, _, _, _, _, _⟩) rfl hHeld ?_
      try simp only [zP]
      refine tkA 12 (i := 1) (oi := ⟨some 59, _, _, _, _, _⟩) rfl hHeld ?_
      try simp only [zP]
      refine tkA 12 (i := 2) (oi := ⟨some 60, _, _, _, _, _⟩) rfl hHeld ?_
      try simp only [zP]
      refine tkA 12 (i := 3) (oi := ⟨some 61, _, _, _, _, _⟩) rfl hHeld ?_
      try simp only [zP]
      refine tkA 12 (i := 4) (oi := ⟨some 62, _, _, _, _, _⟩) rfl hHeld ?_
      try simp only [zP]
      refine tkA 12 (i := 5) (oi := ⟨some 63, _, _, _, _, _⟩) rfl hHeld ?_
      try simp only [zP]
      refine zdX (i := 6) (o := ⟨some 64, _, _, _, _, _⟩) (by kernel_rfl) rfl (fun K hK => ?_)
      clear hHeld
      go_simp
      refine (HSET.out _ (hB.trans (zaX wr 1 _))).mono ?_
      rintro e w3 ⟨rfl, hB3⟩
      go_wp2_with fail
      refine hK.out _ _ ⟨(hB3.cell (p := ⟨w.heap.size, 0, none⟩) hlz).trans z0, (hB3.cell (p := ⟨w.heap.size, 1, none⟩) hlz).trans z1, (hB3.cell (p := ⟨w.heap.size, 2, none⟩) hlz).trans z2, (hB3.cell (p := ⟨w.heap.size, 3, none⟩) hlz).trans z3, (hB3.cell (p := ⟨w.heap.size, 4, none⟩) hlz).trans z4, (hB3.cell (p := ⟨w.heap.size, 5, none⟩) hlz).trans z5, (hB3.cell (p := ⟨w.heap.size, 6, none⟩) hlz).trans z6, (hB3.cell (p := ⟨b, off + k * 5, none⟩) hb).trans c0, (hB3.cell (p := ⟨b, off + k * 5 + 1, none⟩) hb).trans c1, (hB3.cell (p := ⟨b, off + k * 5 + 2, none⟩) hb).trans c2, (hB3.cell (p := ⟨b, off + k * 5 + 3, none⟩) hb).trans c3, (hB3.cell (p := ⟨b, off + k * 5 + 4, none⟩) hb).trans c4⟩ (fun hHeld => ?_)
      clear hK K
      try simp only [zP]
      refine tkA 12 (i := 7) (oi := ⟨some 65, _, _, _, _, _⟩) rfl hHeld ?_
      try simp only [zP]
      refine tkA 12 (i := 8) (oi := ⟨some 66, _, _, _, _, _⟩) rfl hHeld ?_
      try simp only [zP]
      refine tkB 12 (i := 9) (oi := ⟨some 67, _, _, _, _, _⟩) (v := undef) rfl (Or.inr ⟨by rfl, rfl⟩) hHeld ?_
      try simp only [zP]
      refine tkB 12 (i := 10) (oi := ⟨some 68, _, _, _, _, _⟩) (v := undef) rfl (Or.inr ⟨by rfl, rfl⟩) hHeld ?_
      try simp only [zP]
      refine tkB 12 (i := 11) (oi := ⟨some 69, _, _, _, _, _⟩) (v := undef) rfl (Or.inr ⟨by rfl, rfl⟩) hHeld ?_
      try simp only [zP]
      refine tkB 12 (i := 12) (oi := ⟨some 70, _, _, _, _, _⟩) (v := undef) rfl (Or.inr ⟨by rfl, rfl⟩) hHeld ?_
      try simp only [zP]
      refine tkB 12 (i := 13) (oi := ⟨some 71, _, _, _, _, _⟩) (v := undef) rfl (Or.inr ⟨by rfl, rfl⟩) hHeld ?_
      try simp only [zP]
      refine tkB 12 (i := 14) (oi := ⟨some 72, _, _, _, _, _⟩) (v := undef) rfl (Or.inr ⟨by rfl, rfl⟩) hHeld ?_
      try simp only [zP]
      refine tkB 12 (i := 15) (oi := ⟨some 73, _, _, _, _, _⟩) (v := undef) rfl (Or.inr ⟨by rfl, rfl⟩) hHeld ?_
      try simp only [zP]
      refine tkB 12 (i := 16) (oi := ⟨some 74, _, _, _, _, _⟩) (v := undef) rfl (Or.inr ⟨by rfl, rfl⟩) hHeld ?_
      try simp only [zP]
      refine tkB 12 (i := 17) (oi := ⟨some 75, _, _, _, _, _⟩) (v := undef) rfl (Or.inr ⟨by rfl, rfl⟩) hHeld ?_
      try simp only [zP]
      refine tkB 12 (i := 18) (oi := ⟨some 76, _, _, _, _, _⟩) (v := undef) rfl (Or.inr ⟨by rfl, rfl⟩) hHeld ?_
      try simp only [zP]
      refine tkB 12 (i := 19) (oi := ⟨some 77, _, _, _, _, _⟩) (v := undef) rfl (Or.inr ⟨by rfl, rfl⟩) hHeld ?_
      try simp only [zP]
      refine tkB 12 (i := 20) (oi := ⟨some 78, _, _, _, _, _⟩) (v := undef) rfl (Or.inr ⟨by rfl, rfl⟩) hHeld ?_
      try simp only [zP]
      refine tkB 12 (i := 21) (oi := ⟨some 79, _, _, _, _, _⟩) (v := undef) rfl (Or.inr ⟨by rfl, rfl⟩) hHeld ?_
      try simp only [zP]
      refine tkB 12 (i := 22) (oi := ⟨some 80, _, _, _, _, _⟩) (v := undef) rfl (Or.inr ⟨by rfl, rfl⟩) hHeld ?_
      try simp only [zP]
      refine tkB 12 (i := 23) (oi := ⟨some 81, _, _, _, _, _⟩) (v := undef) rfl (Or.inr ⟨by rfl, rfl⟩) hHeld ?_
      try simp only [zP]
      refine tkB 12 (i := 24) (oi := ⟨some 82, _, _, _, _, _⟩) (v := undef) rfl (Or.inr ⟨by rfl, rfl⟩) hHeld ?_
      try simp only [zP]
      refine tkB 12 (i := 25) (oi := ⟨some 83, _, _, _, _, _⟩) (v := undef) rfl (Or.inr ⟨by rfl, rfl⟩) hHeld ?_
      try simp only [zP]
      refine tkB 12 (i := 26) (oi := ⟨some 84, _, _, _, _, _⟩) (v := undef) rfl (Or.inr ⟨by rfl, rfl⟩) hHeld ?_
      try simp only [zP]
      refine zcZ (i := 27) (o := ⟨some 85, _, _, _, _, _⟩) (by kernel_rfl) rfl (by kernel_rfl) (fun K hK => ?_)
      clear hHeld
      go_simp
      refine hK.out _ _ ?_
      clear hK K
      try simp only [zP]
      refine zdQ (by kernel_rfl) ?_ _
      refine NoPanic.normal ?_
      have hQ3 : Below w1.heap.size w1 w3 := (hB.trans (zaX wr 1 _)).trans (hB3.mono hB.size)
      go_wp2
      go_ret
      exact ⟨ret_chk (by rw [← HQ.out, show R = false from by rw [HR2.out]; rfl]; rfl), hA.trans (hQ3.mono hs1)⟩
    · rw [g] at HSET
      have hway : (Hid (k = 0) ∧ decide (0 < k) = false) ∨ ∃ (i : Nat) (q : MSet), decide (0 < k) = true ∧ IntKind.i64.wrap ((k : Int) - 1) = (i : Int) ∧ i < l.length ∧ Hid (k = i + 1) ∧ Hid (l[i]? = some q) := by
       rcases k with _ | j
       · exact .inl ⟨zI rfl, rfl⟩
       · obtain ⟨q, hq⟩ : ∃ q, l[j]? = some q := ⟨l[j]'(by omega), qZa (by omega)⟩
         exact .inr ⟨j, q, decide_eq_true (by omega), by rw [show (((j + 1 : Nat) : Int) - 1) = (j : Int) by omega]; exact IntWalk.i64_in _ (by omega), by omega, zI rfl, zI hq⟩
      rcases hway with ⟨HK0, hj0⟩ | ⟨i, q, hj0, hw, hi, HKI, HQ2⟩
      · have HU' : Hid (UpTo (fun y : MSet => setB P y.plain) (fun a b => ltTx a.l_ b.l_) l (k + 1)) := zI (upTo_succ HU.out HY.out g fun j y h => by have := HK0.out; omega)
        clear g HU hrw HY
        go_upto_region 6 with fail
        refine wp_region_noPanic ?_
        refine zcX 27 (fun W => W.cell? ⟨w.heap.size, 0, none⟩ = some (.string xn) ∧ W.cell? ⟨w.heap.size, 1, none⟩ = some (.int .i64 xq) ∧ W.cell? ⟨w.heap.size, 2, none⟩ = some (.int .i64 xt) ∧ W.cell? ⟨w.heap.size, 3, none⟩ = some (.slice (some ⟨b, off, none⟩) l.length ca) ∧ W.cell? ⟨w.heap.size, 4, none⟩ = some (.slice xg.A xg.l.length xg.c) ∧ W.cell? ⟨w.heap.size, 5, none⟩ = some (.slice A2 l2.length cb) ∧ W.cell? ⟨w.heap.size, 6, none⟩ = some (.slice A3 l3.length cc) ∧ W.cell? ⟨b, off + k * 5, none⟩ = some (.string y.l_) ∧ W.cell? ⟨b, off + k * 5 + 1, none⟩ = some (.string y.m_) ∧ W.cell? ⟨b, off + k * 5 + 2, none⟩ = some (.slice y.p_.A y.p_.l.length y.p_.c) ∧ W.cell? ⟨b, off + k * 5 + 3, none⟩ = some (.slice y.n_.A y.n_.l.length y.n_.c) ∧ W.cell? ⟨b, off + k * 5 + 4, none⟩ = some (.slice y.j_.A y.j_.l.length y.j_.c)) (by kernel_rfl) ⟨z0, z1, z2, z3, z4, z5, z6, c0, c1, c2, c3, c4⟩ (fun hHeld => ?_)
        refine tkA 12 (i := 0) (oi := ⟨some 58, _, _, _, _, _⟩) rfl hHeld ?_
        try simp only [zP]
        refine tkA 12 (i := 1) (oi := ⟨some 59, _, _, _, _, _⟩) rfl hHeld ?_
        try simp only [zP]
        refine tkA 12 (i := 2) (oi := ⟨some 60, _, _, _, _, _⟩) rfl hHeld ?_
        try simp only [zP]
        refine tkA 12 (i := 3) (oi := ⟨some 61, _, _, _, _, _⟩) rfl hHeld ?_
        try simp only [zP]
        refine tkA 12 (i := 4) (oi := ⟨some 62, _, _, _, _, _⟩) rfl hHeld ?_
        try simp only [zP]
        refine tkA 12 (i := 5) (oi := ⟨some 63, _, _, _, _, _⟩) rfl hHeld ?_
        try simp only [zP]
        refine zdX (i := 6) (o := ⟨some 64, _, _, _, _, _⟩) (by kernel_rfl) rfl (fun K hK => ?_)
        clear hHeld
        go_simp
        refine (HSET.out _ (hB.trans (zaX wr 1 _))).mono ?_
        rintro e w3 ⟨rfl, hB3⟩
        go_wp2_with fail
        refine hK.out _ _ ⟨(hB3.cell (p := ⟨w.heap.size, 0, none⟩) hlz).trans z0, (hB3.cell (p := ⟨w.heap.size, 1, none⟩) hlz).trans z1, (hB3.cell (p := ⟨w.heap.size, 2, none⟩) hlz).trans z2, (hB3.cell (p := ⟨w.heap.size, 3, none⟩) hlz).trans z3, (hB3.cell (p := ⟨w.heap.size, 4, none⟩) hlz).trans z4, (hB3.cell (p := ⟨w.heap.size, 5, none⟩) hlz).trans z5, (hB3.cell (p := ⟨w.heap.size, 6, none⟩) hlz).trans z6, (hB3.cell (p := ⟨b, off + k * 5, none⟩) hb).trans c0, (hB3.cell (p := ⟨b, off + k * 5 + 1, none⟩) hb).trans c1, (hB3.cell (p := ⟨b, off + k * 5 + 2, none⟩) hb).trans c2, (hB3.cell (p := ⟨b, off + k * 5 + 3, none⟩) hb).trans c3, (hB3.cell (p := ⟨b, off + k * 5 + 4, none⟩) hb).trans c4⟩ (fun hHeld => ?_)
        clear hK K
        try simp only [zP]
        refine tkA 12 (i := 7) (oi := ⟨some 65, _, _, _, _, _⟩) rfl hHeld ?_
        try simp only [zP]
        refine tkA 12 (i := 8) (oi := ⟨some 66, _, _, _, _, _⟩) rfl hHeld ?_
        try simp only [zP]
        refine tkA 12 (i := 9) (oi := ⟨some 67, _, _, _, _, _⟩) rfl hHeld ?_
        try simp only [zP]
        refine tkA 12 (i := 10) (oi := ⟨some 68, _, _, _, _, _⟩) rfl hHeld ?_
        try simp only [zP]
        refine tkA 12 (i := 11) (oi := ⟨some 69, _, _, _, _, _⟩) rfl hHeld ?_
        try simp only [zP]
        refine tkB 12 (i := 12) (oi := ⟨some 70, _, _, _, _, _⟩) (v := undef) rfl (Or.inr ⟨by rfl, rfl⟩) hHeld ?_
        try simp only [zP]
        refine tkB 12 (i := 13) (oi := ⟨some 71, _, _, _, _, _⟩) (v := undef) rfl (Or.inr ⟨by rfl, rfl⟩) hHeld ?_
        try simp only [zP]
        refine tkB 12 (i := 14) (oi := ⟨some 72, _, _, _, _, _⟩) (v := undef) rfl (Or.inr ⟨by rfl, rfl⟩) hHeld ?_
        try simp only [zP]
        refine tkB 12 (i := 15) (oi := ⟨some 73, _, _, _, _, _⟩) (v := undef) rfl (Or.inr ⟨by rfl, rfl⟩) hHeld ?_
        try simp only [zP]
        refine tkB 12 (i := 16) (oi := ⟨some 74, _, _, _, _, _⟩) (v := undef) rfl (Or.inr ⟨by rfl, rfl⟩) hHeld ?_
        try simp only [zP]
        refine tkB 12 (i := 17) (oi := ⟨some 75, _, _, _, _, _⟩) (v := undef) rfl (Or.inr ⟨by rfl, rfl⟩) hHeld ?_
        try simp only [zP]
        refine tkB 12 (i := 18) (oi := ⟨some 76, _, _, _, _, _⟩) (v := undef) rfl (Or.inr ⟨by rfl, rfl⟩) hHeld ?_
        try simp only [zP]
        refine tkB 12 (i := 19) (oi := ⟨some 77, _, _, _, _, _⟩) (v := undef) rfl (Or.inr ⟨by rfl, rfl⟩) hHeld ?_
        try simp only [zP]
        refine tkB 12 (i := 20) (oi := ⟨some 78, _, _, _, _, _⟩) (v := undef) rfl (Or.inr ⟨by rfl, rfl⟩) hHeld ?_
        try simp only [zP]
        refine tkB 12 (i := 21) (oi := ⟨some 79, _, _, _, _, _⟩) (v := undef) rfl (Or.inr ⟨by rfl, rfl⟩) hHeld ?_
        try simp only [zP]
        refine tkB 12 (i := 22) (oi := ⟨some 80, _, _, _, _, _⟩) (v := undef) rfl (Or.inr ⟨by rfl, rfl⟩) hHeld ?_
        try simp only [zP]
        refine tkB 12 (i := 23) (oi := ⟨some 81, _, _, _, _, _⟩) (v := undef) rfl (Or.inr ⟨by rfl, rfl⟩) hHeld ?_
        try simp only [zP]
        refine tkB 12 (i := 24) (oi := ⟨some 82, _, _, _, _, _⟩) (v := undef) rfl (Or.inr ⟨by rfl, rfl⟩) hHeld ?_
        try simp only [zP]
        refine tkB 12 (i := 25) (oi := ⟨some 83, _, _, _, _, _⟩) (v := undef) rfl (Or.inr ⟨by rfl, rfl⟩) hHeld ?_
        try simp only [zP]
        refine tkA 12 (i := 26) (oi := ⟨some 84, _, _, _, _, _⟩) rfl hHeld ?_
        try simp only [zP]
        refine zcZ (i := 27) (o := ⟨some 85, _, _, _, _, _⟩) (by kernel_rfl) rfl (by kernel_rfl) (fun K hK => ?_)
        clear hHeld
        go_simp
        refine hK.out _ _ ?_
        clear hK K
        try simp only [zP]
        refine zdQ (by kernel_rfl) ?_ _
        refine NoPanic.normal ?_
        have hQ3 : Below w1.heap.size w1 w3 := (hB.trans (zaX wr 1 _)).trans (hB3.mono hB.size)
        go_wp2
        go_roundw
        case rel => exact ⟨k + 1, by omega, by go_num, HU', hQ3⟩
        case measure => simp [intOf]; omega
      · obtain ⟨b', off', e', _, hd⟩ := Rd.elem (n := 5) (fun _ => rfl) (by omega) hrw HQ2.out
        injection e' with e'
        injection e' with e1 e2 _
        subst e1 e2
        have d0 : wr.cell? ⟨b, off + i * 5, none⟩ = some (.string q.l_) := hd 0 _ rfl
        clear hd hrw
        rcases lt_ways (x := y.l_) (y := q.l_) with ⟨hv, h1, h2⟩ | ⟨hv, hor⟩
        · have HU' : Hid (UpTo (fun y : MSet => setB P y.plain) (fun a b => ltTx a.l_ b.l_) l (k + 1)) := zI (upTo_succ HU.out HY.out g fun j z h hz => by
           obtain rfl : j = i := by have := HKI.out; omega
           rw [HQ2.out] at hz
           injection hz with hz
           subst hz
           exact hv)
          clear g HU HY HQ2 hv
          go_upto_region 6 with fail
          refine wp_region_noPanic ?_
          refine zcX 27 (fun W => W.cell? ⟨w.heap.size, 0, none⟩ = some (.string xn) ∧ W.cell? ⟨w.heap.size, 1, none⟩ = some (.int .i64 xq) ∧ W.cell? ⟨w.heap.size, 2, none⟩ = some (.int .i64 xt) ∧ W.cell? ⟨w.heap.size, 3, none⟩ = some (.slice (some ⟨b, off, none⟩) l.length ca) ∧ W.cell? ⟨w.heap.size, 4, none⟩ = some (.slice xg.A xg.l.length xg.c) ∧ W.cell? ⟨w.heap.size, 5, none⟩ = some (.slice A2 l2.length cb) ∧ W.cell? ⟨w.heap.size, 6, none⟩ = some (.slice A3 l3.length cc) ∧ W.cell? ⟨b, off + k * 5, none⟩ = some (.string y.l_) ∧ W.cell? ⟨b, off + k * 5 + 1, none⟩ = some (.string y.m_) ∧ W.cell? ⟨b, off + k * 5 + 2, none⟩ = some (.slice y.p_.A y.p_.l.length y.p_.c) ∧ W.cell? ⟨b, off + k * 5 + 3, none⟩ = some (.slice y.n_.A y.n_.l.length y.n_.c) ∧ W.cell? ⟨b, off + k * 5 + 4, none⟩ = some (.slice y.j_.A y.j_.l.length y.j_.c) ∧ W.cell? ⟨b, off + i * 5, none⟩ = some (.string q.l_)) (by kernel_rfl) ⟨z0, z1, z2, z3, z4, z5, z6, c0, c1, c2, c3, c4, d0⟩ (fun hHeld => ?_)
          refine tkA 12 (i := 0) (oi := ⟨some 58, _, _, _, _, _⟩) rfl hHeld ?_
          try simp only [zP]
          refine tkA 12 (i := 1) (oi := ⟨some 59, _, _, _, _, _⟩) rfl hHeld ?_
          try simp only [zP]
          refine tkA 12 (i := 2) (oi := ⟨some 60, _, _, _, _, _⟩) rfl hHeld ?_
          try simp only [zP]
          refine tkA 12 (i := 3) (oi := ⟨some 61, _, _, _, _, _⟩) rfl hHeld ?_
          try simp only [zP]
          refine tkA 12 (i := 4) (oi := ⟨some 62, _, _, _, _, _⟩) rfl hHeld ?_
          try simp only [zP]
          refine tkA 12 (i := 5) (oi := ⟨some 63, _, _, _, _, _⟩) rfl hHeld ?_
          try simp only [zP]
          refine zdX (i := 6) (o := ⟨some 64, _, _, _, _, _⟩) (by kernel_rfl) rfl (fun K hK => ?_)
          clear hHeld
          go_simp
          refine (HSET.out _ (hB.trans (zaX wr 1 _))).mono ?_
          rintro e w3 ⟨rfl, hB3⟩
          go_wp2_with fail
          refine hK.out _ _ ⟨(hB3.cell (p := ⟨w.heap.size, 0, none⟩) hlz).trans z0, (hB3.cell (p := ⟨w.heap.size, 1, none⟩) hlz).trans z1, (hB3.cell (p := ⟨w.heap.size, 2, none⟩) hlz).trans z2, (hB3.cell (p := ⟨w.heap.size, 3, none⟩) hlz).trans z3, (hB3.cell (p := ⟨w.heap.size, 4, none⟩) hlz).trans z4, (hB3.cell (p := ⟨w.heap.size, 5, none⟩) hlz).trans z5, (hB3.cell (p := ⟨w.heap.size, 6, none⟩) hlz).trans z6, (hB3.cell (p := ⟨b, off + k * 5, none⟩) hb).trans c0, (hB3.cell (p := ⟨b, off + k * 5 + 1, none⟩) hb).trans c1, (hB3.cell (p := ⟨b, off + k * 5 + 2, none⟩) hb).trans c2, (hB3.cell (p := ⟨b, off + k * 5 + 3, none⟩) hb).trans c3, (hB3.cell (p := ⟨b, off + k * 5 + 4, none⟩) hb).trans c4, (hB3.cell (p := ⟨b, off + i * 5, none⟩) hb).trans d0⟩ (fun hHeld => ?_)
          clear hK K
          try simp only [zP]
          refine tkA 12 (i := 7) (oi := ⟨some 65, _, _, _, _, _⟩) rfl hHeld ?_
          try simp only [zP]
          refine tkA 12 (i := 8) (oi := ⟨some 66, _, _, _, _, _⟩) rfl hHeld ?_
          try simp only [zP]
          refine tkA 12 (i := 9) (oi := ⟨some 67, _, _, _, _, _⟩) rfl hHeld ?_
          try simp only [zP]
          refine tkA 12 (i := 10) (oi := ⟨some 68, _, _, _, _, _⟩) rfl hHeld ?_
          try simp only [zP]
          refine tkA 12 (i := 11) (oi := ⟨some 69, _, _, _, _, _⟩) rfl hHeld ?_
          try simp only [zP]
          refine tkA 12 (i := 12) (oi := ⟨some 70, _, _, _, _, _⟩) rfl hHeld ?_
          try simp only [zP]
          refine tkA 12 (i := 13) (oi := ⟨some 71, _, _, _, _, _⟩) rfl hHeld ?_
          try simp only [zP]
          refine tkA 12 (i := 14) (oi := ⟨some 72, _, _, _, _, _⟩) rfl hHeld ?_
          try simp only [zP]
          refine tkA 12 (i := 15) (oi := ⟨some 73, _, _, _, _, _⟩) rfl hHeld ?_
          try simp only [zP]
          refine tkA 12 (i := 16) (oi := ⟨some 74, _, _, _, _, _⟩) rfl hHeld ?_
          try simp only [zP]
          refine tkA 12 (i := 17) (oi := ⟨some 75, _, _, _, _, _⟩) rfl hHeld ?_
          try simp only [zP]
          refine tkA 12 (i := 18) (oi := ⟨some 76, _, _, _, _, _⟩) rfl hHeld ?_
          try simp only [zP]
          refine tkA 12 (i := 19) (oi := ⟨some 77, _, _, _, _, _⟩) rfl hHeld ?_
          try simp only [zP]
          refine tkA 12 (i := 20) (oi := ⟨some 78, _, _, _, _, _⟩) rfl hHeld ?_
          try simp only [zP]
          refine tkA 12 (i := 21) (oi := ⟨some 79, _, _, _, _, _⟩) rfl hHeld ?_
          try simp only [zP]
          refine tkA 12 (i := 22) (oi := ⟨some 80, _, _, _, _, _⟩) rfl hHeld ?_
          try simp only [zP]
          refine tkA 12 (i := 23) (oi := ⟨some 81, _, _, _, _, _⟩) rfl hHeld ?_
          try simp only [zP]
          refine tkA 12 (i := 24) (oi := ⟨some 82, _, _, _, _, _⟩) rfl hHeld ?_
          try simp only [zP]
          refine tkA 12 (i := 25) (oi := ⟨some 83, _, _, _, _, _⟩) rfl hHeld ?_
          try simp only [zP]
          refine tkA 12 (i := 26) (oi := ⟨some 84, _, _, _, _, _⟩) rfl hHeld ?_
          try simp only [zP]
          refine zcZ (i := 27) (o := ⟨some 85, _, _, _, _, _⟩) (by kernel_rfl) rfl (by kernel_rfl) (fun K hK => ?_)
          clear hHeld
          go_simp
          refine hK.out _ _ ?_
          clear hK K
          try simp only [zP]
          refine zdQ (by kernel_rfl) ?_ _
          refine NoPanic.normal ?_
          have hQ3 : Below w1.heap.size w1 w3 := (hB.trans (zaX wr 1 _)).trans (hB3.mono hB.size)
          go_wp2
          go_roundw
          case rel => exact ⟨k + 1, by omega, by go_num, HU', hQ3⟩
          case measure => simp [intOf]; omega
        · have hb9 : b9 = false := HB9.out (goodL_low HQ2.out (by rw [← HKI.out]; exact HY.out) hv)
          subst hb9
          clear g HU HY HQ2 hv HB9 HE9
          rcases hor with h1 | ⟨h1, h2⟩
          all_goals
           go_upto_region 6 with fail
           refine wp_region_noPanic ?_
           refine zcX 27 (fun W => W.cell? ⟨w.heap.size, 0, none⟩ = some (.string xn) ∧ W.cell? ⟨w.heap.size, 1, none⟩ = some (.int .i64 xq) ∧ W.cell? ⟨w.heap.size, 2, none⟩ = some (.int .i64 xt) ∧ W.cell? ⟨w.heap.size, 3, none⟩ = some (.slice (some ⟨b, off, none⟩) l.length ca) ∧ W.cell? ⟨w.heap.size, 4, none⟩ = some (.slice xg.A xg.l.length xg.c) ∧ W.cell? ⟨w.heap.size, 5, none⟩ = some (.slice A2 l2.length cb) ∧ W.cell? ⟨w.heap.size, 6, none⟩ = some (.slice A3 l3.length cc) ∧ W.cell? ⟨b, off + k * 5, none⟩ = some (.string y.l_) ∧ W.cell? ⟨b, off + k * 5 + 1, none⟩ = some (.string y.m_) ∧ W.cell? ⟨b, off + k * 5 + 2, none⟩ = some (.slice y.p_.A y.p_.l.length y.p_.c) ∧ W.cell? ⟨b, off + k * 5 + 3, none⟩ = some (.slice y.n_.A y.n_.l.length y.n_.c) ∧ W.cell? ⟨b, off + k * 5 + 4, none⟩ = some (.slice y.j_.A y.j_.l.length y.j_.c) ∧ W.cell? ⟨b, off + i * 5, none⟩ = some (.string q.l_)) (by kernel_rfl) ⟨z0, z1, z2, z3, z4, z5, z6, c0, c1, c2, c3, c4, d0⟩ (fun hHeld => ?_)
           refine tkA 12 (i := 0) (oi := ⟨some 58, _, _, _, _, _⟩) rfl hHeld ?_
           try simp only [zP]
           refine tkA 12 (i := 1) (oi := ⟨some 59, _, _, _, _, _⟩) rfl hHeld ?_
           try simp only [zP]
           refine tkA 12 (i := 2) (oi := ⟨some 60, _, _, _, _, _⟩) rfl hHeld ?_
           try simp only [zP]
           refine tkA 12 (i := 3) (oi := ⟨some 61, _, _, _, _, _⟩) rfl hHeld ?_
           try simp only [zP]
           refine tkA 12 (i := 4) (oi := ⟨some 62, _, _, _, _, _⟩) rfl hHeld ?_
           try simp only [zP]
           refine tkA 12 (i := 5) (oi := ⟨some 63, _, _, _, _, _⟩) rfl hHeld ?_
           try simp only [zP]
           refine zdX (i := 6) (o := ⟨some 64, _, _, _, _, _⟩) (by kernel_rfl) rfl (fun K hK => ?_)
           clear hHeld
           go_simp
           refine (HSET.out _ (hB.trans (zaX wr 1 _))).mono ?_
           rintro e w3 ⟨rfl, hB3⟩
           go_wp2_with fail
           refine hK.out _ _ ⟨(hB3.cell (p := ⟨w.heap.size, 0, none⟩) hlz).trans z0, (hB3.cell (p := ⟨w.heap.size, 1, none⟩) hlz).trans z1, (hB3.cell (p := ⟨w.heap.size, 2, none⟩) hlz).trans z2, (hB3.cell (p := ⟨w.heap.size, 3, none⟩) hlz).trans z3, (hB3.cell (p := ⟨w.heap.size, 4, none⟩) hlz).trans z4, (hB3.cell (p := ⟨w.heap.size, 5, none⟩) hlz).trans z5, (hB3.cell (p := ⟨w.heap.size, 6, none⟩) hlz).trans z6, (hB3.cell (p := ⟨b, off + k * 5, none⟩) hb).trans c0, (hB3.cell (p := ⟨b, off + k * 5 + 1, none⟩) hb).trans c1, (hB3.cell (p := ⟨b, off + k * 5 + 2, none⟩) hb).trans c2, (hB3.cell (p := ⟨b, off + k * 5 + 3, none⟩) hb).trans c3, (hB3.cell (p := ⟨b, off + k * 5 + 4, none⟩) hb).trans c4, (hB3.cell (p := ⟨b, off + i * 5, none⟩) hb).trans d0⟩ (fun hHeld => ?_)
           clear hK K
           try simp only [zP]
           refine tkA 12 (i := 7) (oi := ⟨some 65, _, _, _, _, _⟩) rfl hHeld ?_
           try simp only [zP]
           refine tkA 12 (i := 8) (oi := ⟨some 66, _, _, _, _, _⟩) rfl hHeld ?_
           try simp only [zP]
           refine tkA 12 (i := 9) (oi := ⟨some 67, _, _, _, _, _⟩) rfl hHeld ?_
           try simp only [zP]
           refine tkA 12 (i := 10) (oi := ⟨some 68, _, _, _, _, _⟩) rfl hHeld ?_
           try simp only [zP]
           refine tkA 12 (i := 11) (oi := ⟨some 69, _, _, _, _, _⟩) rfl hHeld ?_
           try simp only [zP]
           refine tkA 12 (i := 12) (oi := ⟨some 70, _, _, _, _, _⟩) rfl hHeld ?_
           try simp only [zP]
           refine tkA 12 (i := 13) (oi := ⟨some 71, _, _, _, _, _⟩) rfl hHeld ?_
           try simp only [zP]
           refine tkA 12 (i := 14) (oi := ⟨some 72, _, _, _, _, _⟩) rfl hHeld ?_
           try simp only [zP]
           refine tkA 12 (i := 15) (oi := ⟨some 73, _, _, _, _, _⟩) rfl hHeld ?_
           try simp only [zP]
           refine tkA 12 (i := 16) (oi := ⟨some 74, _, _, _, _, _⟩) rfl hHeld ?_
           try simp only [zP]
           refine tkA 12 (i := 17) (oi := ⟨some 75, _, _, _, _, _⟩) rfl hHeld ?_
           try simp only [zP]
           refine tkA 12 (i := 18) (oi := ⟨some 76, _, _, _, _, _⟩) rfl hHeld ?_
           try simp only [zP]
           refine tkA 12 (i := 19) (oi := ⟨some 77, _, _, _, _, _⟩) rfl hHeld ?_
           try simp only [zP]
           refine tkA 12 (i := 20) (oi := ⟨some 78, _, _, _, _, _⟩) rfl hHeld ?_
           try simp only [zP]
           refine tkA 12 (i := 21) (oi := ⟨some 79, _, _, _, _, _⟩) rfl hHeld ?_
           try simp only [zP]
           refine tkA 12 (i := 22) (oi := ⟨some 80, _, _, _, _, _⟩) rfl hHeld ?_
           try simp only [zP]
           refine tkA 12 (i := 23) (oi := ⟨some 81, _, _, _, _, _⟩) rfl hHeld ?_
           try simp only [zP]
           refine tkA 12 (i := 24) (oi := ⟨some 82, _, _, _, _, _⟩) rfl hHeld ?_
           try simp only [zP]
           refine tkA 12 (i := 25) (oi := ⟨some 83, _, _, _, _, _⟩) rfl hHeld ?_
           try simp only [zP]
           refine tkA 12 (i := 26) (oi := ⟨some 84, _, _, _, _, _⟩) rfl hHeld ?_
           try simp only [zP]
           refine zcZ (i := 27) (o := ⟨some 85, _, _, _, _, _⟩) (by kernel_rfl) rfl (by kernel_rfl) (fun K hK => ?_)
           clear hHeld
           go_simp
           refine hK.out _ _ ?_
           clear hK K
           try simp only [zP]
           refine zdQ (by kernel_rfl) ?_ _
           refine NoPanic.normal ?_
           have hQ3 : Below w1.heap.size w1 w3 := (hB.trans (zaX wr 1 _)).trans (hB3.mono hB.size)
           go_wp2
           go_ret
           exact ⟨ret_chk (by rw [← HQ.out, show R = false from by rw [HR2.out]; rfl]; rfl), hA.trans (hQ3.mono hs1)⟩
  · have hb9 : b9 = true := HE9.out (upTo_end HU.out (by omega))
    have HR3 : Hid (R = (b10 && b11)) := zI (by rw [HR2.out, hb9, Bool.true_and])
    clear HU HB9 HE9 HR2 hb9 HS
    go_wp2
    go_loopw [4] (fun i W => ∃ k : Nat, k ≤ l2.length ∧ i = .int .i64 k ∧ Hid (UpTo (fun y : Mta => zeZ y.plain) (fun a b => ltTx a.S_ b.S_) l2 k) ∧ Below w1.heap.size w1 W) (fun i _ => l2.length - (intOf i).toNat)
    case atStart => exact ⟨0, Nat.zero_le _, rfl, zI upTo_zero, hB⟩
    case round =>
     obtain ⟨k, hk, rfl, HU, hB⟩ := hrel
     have hlz : w.heap.size < wr.heap.size := Nat.lt_of_lt_of_le HK1.out.lt hB.size
     have z5 := (HK1.out.below hB HK1.out.lt).cell 5
     simp only [gZa, gZb] at z5
     by_cases hlt : k < l2.length
     · obtain ⟨y, hy⟩ : ∃ y, l2[k]? = some y := ⟨l2[k], qZa hlt⟩
       have hrw := HRD2.out.below hB
       obtain ⟨b, off, rfl, hb, hc⟩ := Rd.elem (n := 21) (fun _ => rfl) (by omega) hrw hy
       have c0 : wr.cell? ⟨b, off + k * 21, none⟩ = some (.string y.S_) := hc 0 _ rfl
       obtain ⟨b3', off3', e3', _, HLD0⟩ := load_elem Tryz.prog (n := 21) (fun _ => rfl) (by omega) hrw hy
       injection e3' with e3'
       injection e3' with e31 e32 _
       subst e31 e32
       obtain ⟨cy, hcy⟩ : ∃ cy, y.cells.toArray = cy := ⟨_, rfl⟩
       rw [hcy] at HLD0
       have HLD := zI HLD0
       have HSET := zI (fun W hW => HS2.out W hW y (mG hy))
       rw [hcy] at HSET
       have HY := zI hy
       clear hc hy HLD0 hcy
       rcases g : zeZ y.plain with _ | _
       · have hb10 : b10 = false := HB10.out (goodL_bad HY.out g)
         rw [g] at HSET
         subst hb10
         clear g HU hrw HY HB10 HE10
         go_upto_region 11 with fail
         refine wp_region_noPanic ?_
         refine zcX 26 (fun W => Sem.run Tryz.prog (loadCellsFrom ⟨b, off + k * 21, none⟩ 0 21 #[]) W = .ok cy W ∧ (W.cell? ⟨w.heap.size, 5, none⟩ = some (.slice (some ⟨b, off, none⟩) l2.length cb))) (by kernel_rfl) ⟨HLD.out _ (zaX wr 1 _), z5⟩ (fun hHeld => ?_)
         refine tkC 12 (i := 0) (oi := ⟨some 93, _, _, _, _, _⟩) rfl hHeld ?_
         try simp only [zP]
         refine tkC 12 (i := 1) (oi := ⟨some 94, _, _, _, _, _⟩) rfl hHeld ?_
         try simp only [zP]
         refine tkC 12 (i := 2) (oi := ⟨some 95, _, _, _, _, _⟩) rfl hHeld ?_
         try simp only [zP]
         refine tkC 12 (i := 3) (oi := ⟨some 96, _, _, _, _, _⟩) rfl hHeld ?_
         try simp only [zP]
         refine tkC 12 (i := 4) (oi := ⟨some 97, _, _, _, _, _⟩) rfl hHeld ?_
         try simp only [zP]
         refine zdX (i := 5) (o := ⟨some 98, _, _, _, _, _⟩) (by kernel_rfl) rfl (fun K hK => ?_)
         clear hHeld
         go_simp
         refine (HSET.out _ (hB.trans (zaX wr 1 _))).mono ?_
         rintro e w3 ⟨rfl, hB3⟩
         go_wp2_with fail
         refine hK.out _ _ ⟨HLD.out _ ((zaX wr 1 _).trans hB3), (hB3.cell (p := ⟨w.heap.size, 5, none⟩) hlz).trans z5⟩ (fun hHeld => ?_)
         clear hK K
         try simp only [zP]
         refine tkC 12 (i := 6) (oi := ⟨some 99, _, _, _, _, _⟩) rfl hHeld ?_
         try simp only [zP]
         refine tkC 12 (i := 7) (oi := ⟨some 100, _, _, _, _, _⟩) rfl hHeld ?_
         try simp only [zP]
         refine tkB 12 (i := 8) (oi := ⟨some 101, _, _, _, _, _⟩) (v := undef) rfl (Or.inr ⟨by rfl, rfl⟩) hHeld ?_
         try simp only [zP]
         refine tkB 12 (i := 9) (oi := ⟨some 102, _, _, _, _, _⟩) (v := undef) rfl (Or.inr ⟨by rfl, rfl⟩) hHeld ?_
         try simp only [zP]
         refine tkB 12 (i := 10) (oi := ⟨some 103, _, _, _, _, _⟩) (v := undef) rfl (Or.inr ⟨by rfl, rfl⟩) hHeld ?_
         try simp only [zP]
         refine tkB 12 (i := 11) (oi := ⟨some 104, _, _, _, _, _⟩) (v := undef) rfl (Or.inr ⟨by rfl, rfl⟩) hHeld ?_
         try simp only [zP]
         refine tkB 12 (i := 12) (oi := ⟨some 105, _, _, _, _, _⟩) (v := undef) rfl (Or.inr ⟨by rfl, rfl⟩) hHeld ?_
         try simp only [zP]
         refine tkB 12 (i := 13) (oi := ⟨some 106, _, _, _, _, _⟩) (v := undef) rfl (Or.inr ⟨by rfl, rfl⟩) hHeld ?_
         try simp only [zP]
         refine tkB 12 (i := 14) (oi := ⟨some 107, _, _, _, _, _⟩) (v := undef) rfl (Or.inr ⟨by rfl, rfl⟩) hHeld ?_
         try simp only [zP]
         refine tkB 12 (i := 15) (oi := ⟨some 108, _, _, _, _, _⟩) (v := undef) rfl (Or.inr ⟨by rfl, rfl⟩) hHeld ?_
         try simp only [zP]
         refine tkB 12 (i := 16) (oi := ⟨some 109, _, _, _, _, _⟩) (v := undef) rfl (Or.inr ⟨by rfl, rfl⟩) hHeld ?_
         try simp only [zP]
         refine tkB 12 (i := 17) (oi := ⟨some 110, _, _, _, _, _⟩) (v := undef) rfl (Or.inr ⟨by rfl, rfl⟩) hHeld ?_
         try simp only [zP]
         refine tkB 12 (i := 18) (oi := ⟨some 111, _, _, _, _, _⟩) (v := undef) rfl (Or.inr ⟨by rfl, rfl⟩) hHeld ?_
         try simp only [zP]
         refine tkB 12 (i := 19) (oi := ⟨some 112, _, _, _, _, _⟩) (v := undef) rfl (Or.inr ⟨by rfl, rfl⟩) hHeld ?_
         try simp only [zP]
         refine tkB 12 (i := 20) (oi := ⟨some 113, _, _, _, _, _⟩) (v := undef) rfl (Or.inr ⟨by rfl, rfl⟩) hHeld ?_
         try simp only [zP]
         refine tkB 12 (i := 21) (oi := ⟨some 114, _, _, _, _, _⟩) (v := undef) rfl (Or.inr ⟨by rfl, rfl⟩) hHeld ?_
         try simp only [zP]
         refine tkB 12 (i := 22) (oi := ⟨some 115, _, _, _, _, _⟩) (v := undef) rfl (Or.inr ⟨by rfl, rfl⟩) hHeld ?_
         try simp only [zP]
         refine tkB 12 (i := 23) (oi := ⟨some 116, _, _, _, _, _⟩) (v := undef) rfl (Or.inr ⟨by rfl, rfl⟩) hHeld ?_
         try simp only [zP]
         refine tkB 12 (i := 24) (oi := ⟨some 117, _, _, _, _, _⟩) (v := undef) rfl (Or.inr ⟨by rfl, rfl⟩) hHeld ?_
         try simp only [zP]
         refine tkB 12 (i := 25) (oi := ⟨some 118, _, _, _, _, _⟩) (v := undef) rfl (Or.inr ⟨by rfl, rfl⟩) hHeld ?_
         try simp only [zP]
         refine zcZ (i := 26) (o := ⟨some 119, _, _, _, _, _⟩) (by kernel_rfl) rfl (by kernel_rfl) (fun K hK => ?_)
         clear hHeld
         go_simp
         refine hK.out _ _ ?_
         clear hK K
         try simp only [zP]
         refine zdQ (by kernel_rfl) ?_ _
         refine NoPanic.normal ?_
         have hP3 : Below w1.heap.size w1 w3 := (hB.trans (zaX wr 1 _)).trans (hB3.mono hB.size)
         go_wp2
         go_ret
         exact ⟨ret_chk (by rw [← HQ.out, show R = false from by rw [HR3.out]; rfl]; rfl), hA.trans (hP3.mono hs1)⟩
       · rw [g] at HSET
         have hway : (Hid (k = 0) ∧ decide (0 < k) = false) ∨ ∃ (i : Nat) (q : Mta), decide (0 < k) = true ∧ IntKind.i64.wrap ((k : Int) - 1) = (i : Int) ∧ i < l2.length ∧ Hid (k = i + 1) ∧ Hid (l2[i]? = some q) := by
          rcases k with _ | j
          · exact .inl ⟨zI rfl, rfl⟩
          · obtain ⟨q, hq⟩ : ∃ q, l2[j]? = some q := ⟨l2[j]'(by omega), qZa (by omega)⟩
            exact .inr ⟨j, q, decide_eq_true (by omega), by rw [show (((j + 1 : Nat) : Int) - 1) = (j : Int) by omega]; exact IntWalk.i64_in _ (by omega), by omega, zI rfl, zI hq⟩
         rcases hway with ⟨HK0, hj0⟩ | ⟨i, q, hj0, hw, hi, HKI, HQ2⟩
         · have HU' : Hid (UpTo (fun y : Mta => zeZ y.plain) (fun a b => ltTx a.S_ b.S_) l2 (k + 1)) := zI (upTo_succ HU.out HY.out g fun j y h => by have := HK0.out; omega)
           clear g HU hrw HY
           go_upto_region 11 with fail
           refine wp_region_noPanic ?_
           refine zcX 26 (fun W => Sem.run Tryz.prog (loadCellsFrom ⟨b, off + k * 21, none⟩ 0 21 #[]) W = .ok cy W ∧ (W.cell? ⟨w.heap.size, 5, none⟩ = some (.slice (some ⟨b, off, none⟩) l2.length cb))) (by kernel_rfl) ⟨HLD.out _ (zaX wr 1 _), z5⟩ (fun hHeld => ?_)
           refine tkC 12 (i := 0) (oi := ⟨some 93, _, _, _, _, _⟩) rfl hHeld ?_
           try simp only [zP]
           refine tkC 12 (i := 1) (oi := ⟨some 94, _, _, _, _, _⟩) rfl hHeld ?_
           try simp only [zP]
           refine tkC 12 (i := 2) (oi := ⟨some 95, _, _, _, _, _⟩) rfl hHeld ?_
           try simp only [zP]
           refine tkC 12 (i := 3) (oi := ⟨some 96, _, _, _, _, _⟩) rfl hHeld ?_
           try simp only [zP]
           refine tkC 12 (i := 4) (oi := ⟨some 97, _, _, _, _, _⟩) rfl hHeld ?_
           try simp only [zP]
           refine zdX (i := 5) (o := ⟨some 98, _, _, _, _, _⟩) (by kernel_rfl) rfl (fun K hK => ?_)
           clear hHeld
           go_simp
           refine (HSET.out _ (hB.trans (zaX wr 1 _))).mono ?_
           rintro e w3 ⟨rfl, hB3⟩
           go_wp2_with fail
           refine hK.out _ _ ⟨HLD.out _ ((zaX wr 1 _).trans hB3), (hB3.cell (p := ⟨w.heap.size, 5, none⟩) hlz).trans z5⟩ (fun hHeld => ?_)
           clear hK K
           try simp only [zP]
           refine tkC 12 (i := 6) (oi := ⟨some 99, _, _, _, _, _⟩) rfl hHeld ?_
           try simp only [zP]
           refine tkC 12 (i := 7) (oi := ⟨some 100, _, _, _, _, _⟩) rfl hHeld ?_
           try simp only [zP]
           refine tkC 12 (i := 8) (oi := ⟨some 101, _, _, _, _, _⟩) rfl hHeld ?_
           try simp only [zP]
           refine tkC 12 (i := 9) (oi := ⟨some 102, _, _, _, _, _⟩) rfl hHeld ?_
           try simp only [zP]
           refine tkC 12 (i := 10) (oi := ⟨some 103, _, _, _, _, _⟩) rfl hHeld ?_
           try simp only [zP]
           refine tkB 12 (i := 11) (oi := ⟨some 104, _, _, _, _, _⟩) (v := undef) rfl (Or.inr ⟨by rfl, rfl⟩) hHeld ?_
           try simp only [zP]
           refine tkB 12 (i := 12) (oi := ⟨some 105, _, _, _, _, _⟩) (v := undef) rfl (Or.inr ⟨by rfl, rfl⟩) hHeld ?_
           try simp only [zP]
           refine tkB 12 (i := 13) (oi := ⟨some 106, _, _, _, _, _⟩) (v := undef) rfl (Or.inr ⟨by rfl, rfl⟩) hHeld ?_
           try simp only [zP]
           refine tkB 12 (i := 14) (oi := ⟨some 107, _, _, _, _, _⟩) (v := undef) rfl (Or.inr ⟨by rfl, rfl⟩) hHeld ?_
           try simp only [zP]
           refine tkB 12 (i := 15) (oi := ⟨some 108, _, _, _, _, _⟩) (v := undef) rfl (Or.inr ⟨by rfl, rfl⟩) hHeld ?_
           try simp only [zP]
           refine tkB 12 (i := 16) (oi := ⟨some 109, _, _, _, _, _⟩) (v := undef) rfl (Or.inr ⟨by rfl, rfl⟩) hHeld ?_
           try simp only [zP]
           refine tkB 12 (i := 17) (oi := ⟨some 110, _, _, _, _, _⟩) (v := undef) rfl (Or.inr ⟨by rfl, rfl⟩) hHeld ?_
           try simp only [zP]
           refine tkB 12 (i := 18) (oi := ⟨some 111, _, _, _, _, _⟩) (v := undef) rfl (Or.inr ⟨by rfl, rfl⟩) hHeld ?_
           try simp only [zP]
           refine tkB 12 (i := 19) (oi := ⟨some 112, _, _, _, _, _⟩) (v := undef) rfl (Or.inr ⟨by rfl, rfl⟩) hHeld ?_
           try simp only [zP]
           refine tkB 12 (i := 20) (oi := ⟨some 113, _, _, _, _, _⟩) (v := undef) rfl (Or.inr ⟨by rfl, rfl⟩) hHeld ?_
           try simp only [zP]
           refine tkB 12 (i := 21) (oi := ⟨some 114, _, _, _, _, _⟩) (v := undef) rfl (Or.inr ⟨by rfl, rfl⟩) hHeld ?_
           try simp only [zP]
           refine tkB 12 (i := 22) (oi := ⟨some 115, _, _, _, _, _⟩) (v := undef) rfl (Or.inr ⟨by rfl, rfl⟩) hHeld ?_
           try simp only [zP]
           refine tkB 12 (i := 23) (oi := ⟨some 116, _, _, _, _, _⟩) (v := undef) rfl (Or.inr ⟨by rfl, rfl⟩) hHeld ?_
           try simp only [zP]
           refine tkB 12 (i := 24) (oi := ⟨some 117, _, _, _, _, _⟩) (v := undef) rfl (Or.inr ⟨by rfl, rfl⟩) hHeld ?_
           try simp only [zP]
           refine tkC 12 (i := 25) (oi := ⟨some 118, _, _, _, _, _⟩) rfl hHeld ?_
           try simp only [zP]
           refine zcZ (i := 26) (o := ⟨some 119, _, _, _, _, _⟩) (by kernel_rfl) rfl (by kernel_rfl) (fun K hK => ?_)
           clear hHeld
           go_simp
           refine hK.out _ _ ?_
           clear hK K
           try simp only [zP]
           refine zdQ (by kernel_rfl) ?_ _
           refine NoPanic.normal ?_
           have hP3 : Below w1.heap.size w1 w3 := (hB.trans (zaX wr 1 _)).trans (hB3.mono hB.size)
           go_wp2
           go_roundw
           case rel => exact ⟨k + 1, by omega, by go_num, HU', hP3⟩
           case measure => simp [intOf]; omega
         · obtain ⟨b', off', e', _, hd⟩ := Rd.elem (n := 21) (fun _ => rfl) (by omega) hrw HQ2.out
           injection e' with e'
           injection e' with e1 e2 _
           subst e1 e2
           have d0 : wr.cell? ⟨b, off + i * 21, none⟩ = some (.string q.S_) := hd 0 _ rfl
           clear hd hrw
           rcases lt_ways (x := y.S_) (y := q.S_) with ⟨hv, h1, h2⟩ | ⟨hv, hor⟩
           · have HU' : Hid (UpTo (fun y : Mta => zeZ y.plain) (fun a b => ltTx a.S_ b.S_) l2 (k + 1)) := zI (upTo_succ HU.out HY.out g fun j z h hz => by
              obtain rfl : j = i := by have := HKI.out; omega
              rw [HQ2.out] at hz
              injection hz with hz
              subst hz
              exact hv)
             clear g HU HY HQ2 hv
             go_upto_region 11 with fail
             refine wp_region_noPanic ?_
             refine zcX 26 (fun W => Sem.run Tryz.prog (loadCellsFrom ⟨b, off + k * 21, none⟩ 0 21 #[]) W = .ok cy W ∧ (W.cell? ⟨w.heap.size, 5, none⟩ = some (.slice (some ⟨b, off, none⟩) l2.length cb) ∧ W.cell? ⟨b, off + k * 21, none⟩ = some (.string y.S_) ∧ W.cell? ⟨b, off + i * 21, none⟩ = some (.string q.S_))) (by kernel_rfl) ⟨HLD.out _ (zaX wr 1 _), ⟨z5, c0, d0⟩⟩ (fun hHeld => ?_)
             refine tkC 12 (i := 0) (oi := ⟨some 93, _, _, _, _, _⟩) rfl hHeld ?_
             try simp only [zP]
             refine tkC 12 (i := 1) (oi := ⟨some 94, _, _, _, _, _⟩) rfl hHeld ?_
             try simp only [zP]
             refine tkC 12 (i := 2) (oi := ⟨some 95, _, _, _, _, _⟩) rfl hHeld ?_
             try simp only [zP]
             refine tkC 12 (i := 3) (oi := ⟨some 96, _, _, _, _, _⟩) rfl hHeld ?_
             try simp only [zP]
             refine tkC 12 (i := 4) (oi := ⟨some 97, _, _, _, _, _⟩) rfl hHeld ?_
             try simp only [zP]
             refine zdX (i := 5) (o := ⟨some 98, _, _, _, _, _⟩) (by kernel_rfl) rfl (fun K hK => ?_)
             clear hHeld
             go_simp
             refine (HSET.out _ (hB.trans (zaX wr 1 _))).mono ?_
             rintro e w3 ⟨rfl, hB3⟩
             go_wp2_with fail
             refine hK.out _ _ ⟨HLD.out _ ((zaX wr 1 _).trans hB3), ⟨(hB3.cell (p := ⟨w.heap.size, 5, none⟩) hlz).trans z5, (hB3.cell (p := ⟨b, off + k * 21, none⟩) hb).trans c0, (hB3.cell (p := ⟨b, off + i * 21, none⟩) hb).trans d0⟩⟩ (fun hHeld => ?_)
             clear hK K
             try simp only [zP]
             refine tkC 12 (i := 6) (oi := ⟨some 99, _, _, _, _, _⟩) rfl hHeld ?_
             try simp only [zP]
             refine tkC 12 (i := 7) (oi := ⟨some 100, _, _, _, _, _⟩) rfl hHeld ?_
             try simp only [zP]
             refine tkC 12 (i := 8) (oi := ⟨some 101, _, _, _, _, _⟩) rfl hHeld ?_
             try simp only [zP]
             refine tkC 12 (i := 9) (oi := ⟨some 102, _, _, _, _, _⟩) rfl hHeld ?_
             try simp only [zP]
             refine tkC 12 (i := 10) (oi := ⟨some 103, _, _, _, _, _⟩) rfl hHeld ?_
             try simp only [zP]
             refine tkC 12 (i := 11) (oi := ⟨some 104, _, _, _, _, _⟩) rfl hHeld ?_
             try simp only [zP]
             refine tkC 12 (i := 12) (oi := ⟨some 105, _, _, _, _, _⟩) rfl hHeld ?_
             try simp only [zP]
             refine tkC 12 (i := 13) (oi := ⟨some 106, _, _, _, _, _⟩) rfl hHeld ?_
             try simp only [zP]
             refine tkC 12 (i := 14) (oi := ⟨some 107, _, _, _, _, _⟩) rfl hHeld ?_
             try simp only [zP]
             refine tkC 12 (i := 15) (oi := ⟨some 108, _, _, _, _, _⟩) rfl hHeld ?_
             try simp only [zP]
             refine tkC 12 (i := 16) (oi := ⟨some 109, _, _, _, _, _⟩) rfl hHeld ?_
             try simp only [zP]
             refine tkC 12 (i := 17) (oi := ⟨some 110, _, _, _, _, _⟩) rfl hHeld ?_
             try simp only [zP]
             refine tkC 12 (i := 18) (oi := ⟨some 111, _, _, _, _, _⟩) rfl hHeld ?_
             try simp only [zP]
             refine tkC 12 (i := 19) (oi := ⟨some 112, _, _, _, _, _⟩) rfl hHeld ?_
             try simp only [zP]
             refine tkC 12 (i := 20) (oi := ⟨some 113, _, _, _, _, _⟩) rfl hHeld ?_
             try simp only [zP]
             refine tkC 12 (i := 21) (oi := ⟨some 114, _, _, _, _, _⟩) rfl hHeld ?_
             try simp only [zP]
             refine tkC 12 (i := 22) (oi := ⟨some 115, _, _, _, _, _⟩) rfl hHeld ?_
             try simp only [zP]
             refine tkC 12 (i := 23) (oi := ⟨some 116, _, _, _, _, _⟩) rfl hHeld ?_
             try simp only [zP]
             refine tkC 12 (i := 24) (oi := ⟨some 117, _, _, _, _, _⟩) rfl hHeld ?_
             try simp only [zP]
             refine tkC 12 (i := 25) (oi := ⟨some 118, _, _, _, _, _⟩) rfl hHeld ?_
             try simp only [zP]
             refine zcZ (i := 26) (o := ⟨some 119, _, _, _, _, _⟩) (by kernel_rfl) rfl (by kernel_rfl) (fun K hK => ?_)
             clear hHeld
             go_simp
             refine hK.out _ _ ?_
             clear hK K
             try simp only [zP]
             refine zdQ (by kernel_rfl) ?_ _
             refine NoPanic.normal ?_
             have hP3 : Below w1.heap.size w1 w3 := (hB.trans (zaX wr 1 _)).trans (hB3.mono hB.size)
             go_wp2
             go_roundw
             case rel => exact ⟨k + 1, by omega, by go_num, HU', hP3⟩
             case measure => simp [intOf]; omega
           · have hb10 : b10 = false := HB10.out (goodL_low HQ2.out (by rw [← HKI.out]; exact HY.out) hv)
             subst hb10
             clear g HU HY HQ2 hv HB10 HE10
             rcases hor with h1 | ⟨h1, h2⟩
             all_goals
              go_upto_region 11 with fail
              refine wp_region_noPanic ?_
              refine zcX 26 (fun W => Sem.run Tryz.prog (loadCellsFrom ⟨b, off + k * 21, none⟩ 0 21 #[]) W = .ok cy W ∧ (W.cell? ⟨w.heap.size, 5, none⟩ = some (.slice (some ⟨b, off, none⟩) l2.length cb) ∧ W.cell? ⟨b, off + k * 21, none⟩ = some (.string y.S_) ∧ W.cell? ⟨b, off + i * 21, none⟩ = some (.string q.S_))) (by kernel_rfl) ⟨HLD.out _ (zaX wr 1 _), ⟨z5, c0, d0⟩⟩ (fun hHeld => ?_)
              refine tkC 12 (i := 0) (oi := ⟨some 93, _, _, _, _, _⟩) rfl hHeld ?_
              try simp only [zP]
              refine tkC 12 (i := 1) (oi := ⟨some 94, _, _, _, _, _⟩) rfl hHeld ?_
              try simp only [zP]
              refine tkC 12 (i := 2) (oi := ⟨some 95, _, _, _, _, _⟩) rfl hHeld ?_
              try simp only [zP]
              refine tkC 12 (i := 3) (oi := ⟨some 96, _, _, _, _, _⟩) rfl hHeld ?_
              try simp only [zP]
              refine tkC 12 (i := 4) (oi := ⟨some 97, _, _, _, _, _⟩) rfl hHeld ?_
              try simp only [zP]
              refine zdX (i := 5) (o := ⟨some 98, _, _, _, _, _⟩) (by kernel_rfl) rfl (fun K hK => ?_)
              clear hHeld
              go_simp
              refine (HSET.out _ (hB.trans (zaX wr 1 _))).mono ?_
              rintro e w3 ⟨rfl, hB3⟩
              go_wp2_with fail
              refine hK.out _ _ ⟨HLD.out _ ((zaX wr 1 _).trans hB3), ⟨(hB3.cell (p := ⟨w.heap.size, 5, none⟩) hlz).trans z5, (hB3.cell (p := ⟨b, off + k * 21, none⟩) hb).trans c0, (hB3.cell (p := ⟨b, off + i * 21, none⟩) hb).trans d0⟩⟩ (fun hHeld => ?_)
              clear hK K
              try simp only [zP]
              refine tkC 12 (i := 6) (oi := ⟨some 99, _, _, _, _, _⟩) rfl hHeld ?_
              try simp only [zP]
              refine tkC 12 (i := 7) (oi := ⟨some 100, _, _, _, _, _⟩) rfl hHeld ?_
              try simp only [zP]
              refine tkC 12 (i := 8) (oi := ⟨some 101, _, _, _, _, _⟩) rfl hHeld ?_
              try simp only [zP]
              refine tkC 12 (i := 9) (oi := ⟨some 102, _, _, _, _, _⟩) rfl hHeld ?_
              try simp only [zP]
              refine tkC 12 (i := 10) (oi := ⟨some 103, _, _, _, _, _⟩) rfl hHeld ?_
              try simp only [zP]
              refine tkC 12 (i := 11) (oi := ⟨some 104, _, _, _, _, _⟩) rfl hHeld ?_
              try simp only [zP]
              refine tkC 12 (i := 12) (oi := ⟨some 105, _, _, _, _, _⟩) rfl hHeld ?_
              try simp only [zP]
              refine tkC 12 (i := 13) (oi := ⟨some 106, _, _, _, _, _⟩) rfl hHeld ?_
              try simp only [zP]
              refine tkC 12 (i := 14) (oi := ⟨some 107, _, _, _, _, _⟩) rfl hHeld ?_
              try simp only [zP]
              refine tkC 12 (i := 15) (oi := ⟨some 108, _, _, _, _, _⟩) rfl hHeld ?_
              try simp only [zP]
              refine tkC 12 (i := 16) (oi := ⟨some 109, _, _, _, _, _⟩) rfl hHeld ?_
              try simp only [zP]
              refine tkC 12 (i := 17) (oi := ⟨some 110, _, _, _, _, _⟩) rfl hHeld ?_
              try simp only [zP]
              refine tkC 12 (i := 18) (oi := ⟨some 111, _, _, _, _, _⟩) rfl hHeld ?_
              try simp only [zP]
              refine tkC 12 (i := 19) (oi := ⟨some 112, _, _, _, _, _⟩) rfl hHeld ?_
              try simp only [zP]
              refine tkC 12 (i := 20) (oi := ⟨some 113, _, _, _, _, _⟩) rfl hHeld ?_
              try simp only [zP]
              refine tkC 12 (i := 21) (oi := ⟨some 114, _, _, _, _, _⟩) rfl hHeld ?_
              try simp only [zP]
              refine tkC 12 (i := 22) (oi := ⟨some 115, _, _, _, _, _⟩) rfl hHeld ?_
              try simp only [zP]
              refine tkC 12 (i := 23) (oi := ⟨some 116, _, _, _, _, _⟩) rfl hHeld ?_
              try simp only [zP]
              refine tkC 12 (i := 24) (oi := ⟨some 117, _, _, _, _, _⟩) rfl hHeld ?_
              try simp only [zP]
              refine tkC 12 (i := 25) (oi := ⟨some 118, _, _, _, _, _⟩) rfl hHeld ?_
              try simp only [zP]
              refine zcZ (i := 26) (o := ⟨some 119, _, _, _, _, _⟩) (by kernel_rfl) rfl (by kernel_rfl) (fun K hK => ?_)
              clear hHeld
              go_simp
              refine hK.out _ _ ?_
              clear hK K
              try simp only [zP]
              refine zdQ (by kernel_rfl) ?_ _
              refine NoPanic.normal ?_
              have hP3 : Below w1.heap.size w1 w3 := (hB.trans (zaX wr 1 _)).trans (hB3.mono hB.size)
              go_wp2
              go_ret
              exact ⟨ret_chk (by rw [← HQ.out, show R = false from by rw [HR3.out]; rfl]; rfl), hA.trans (hP3.mono hs1)⟩
     · have hb10 : b10 = true := HE10.out (upTo_end HU.out (by omega))
       have HR4 : Hid (R = b11) := zI (by rw [HR3.out, hb10, Bool.true_and])
       clear HU HB10 HE10 HR3 hb10 HS2
       go_wp2
       go_loopw [5] (fun i W => ∃ k : Nat, k ≤ l3.length ∧ i = .int .i64 k ∧ Hid (∀ y ∈ l3.take k, zfQ y.plain = true) ∧ Below w1.heap.size w1 W) (fun i _ => l3.length - (intOf i).toNat)
       case atStart => exact ⟨0, Nat.zero_le _, rfl, zI (by simp), hB⟩
       case round =>
        obtain ⟨k, hk, rfl, HU, hB⟩ := hrel
        have z6 := (HK1.out.below hB HK1.out.lt).cell 6
        simp only [gZa, gZb] at z6
        by_cases hlt : k < l3.length
        · obtain ⟨y, hy⟩ : ∃ y, l3[k]? = some y := ⟨l3[k], qZa hlt⟩
          obtain ⟨b, off, rfl, hb, hc⟩ := Rd.elem (n := 4) (fun _ => rfl) (by omega) (HRD3.out.below hB) hy
          have c0 : wr.cell? ⟨b, off + k * 4, none⟩ = some (.string y.O_) := hc 0 _ rfl
          have c1 : wr.cell? ⟨b, off + k * 4 + 1, none⟩ = some (.int .i64 y.N_) := hc 1 _ rfl
          have c2 : wr.cell? ⟨b, off + k * 4 + 2, none⟩ = some (.string y.l_) := hc 2 _ rfl
          have c3 : wr.cell? ⟨b, off + k * 4 + 3, none⟩ = some (.int .i64 y.err_) := hc 3 _ rfl
          have HE := zI (HS3.out wr hB y (mG hy))
          have HY := zI hy
          clear hc hy
          rcases g : zfQ y.plain with _ | _
          · have hb11 : b11 = false := HB11.out y (mG HY.out) g
            rw [g] at HE
            subst hb11
            clear g HU HY HB11 HE11
            go_wp2_with fail
            refine HE.out.mono ?_
            rintro e w3 ⟨rfl, hB3⟩
            have hQ3 : Below w1.heap.size w1 w3 := hB.trans (hB3.mono hB.size)
            go_wp2
            go_ret
            exact ⟨ret_chk (by rw [← HQ.out, show R = false from HR4.out]; rfl), hA.trans (hQ3.mono hs1)⟩
          · rw [g] at HE
            have HU' : Hid (∀ y ∈ l3.take (k + 1), zfQ y.plain = true) := zI fun z hz => by
             rw [List.take_add_one, HY.out] at hz
             rcases List.mem_append.1 hz with h | h
             · exact HU.out z h
             · simp at h
               subst h
               exact g
            clear g HU HY
            go_wp2_with fail
            refine HE.out.mono ?_
            rintro e w3 ⟨rfl, hB3⟩
            have hQ3 : Below w1.heap.size w1 w3 := hB.trans (hB3.mono hB.size)
            go_wp2
            go_roundw
            case rel => exact ⟨k + 1, by omega, by go_num, HU', hQ3⟩
            case measure => simp [intOf]; omega
        · have hb11 : b11 = true := HE11.out fun y hy => HU.out y (by rw [List.take_of_length_le (by omega)]; exact hy)
          clear HU HB11 HE11
          go_wp2
          go_ret
          exact ⟨ret_chk (by rw [← HQ.out, show R = true from by rw [HR4.out, hb11]]; rfl), hA.trans (hB.mono hs1)⟩
end Go.Proofs.YtimmcmjipmkebaaGreat
namespace Go.Proofs.YtimmcmjipmkebaaGreat
open Go.ChangeShapes Go.WideShapes Go.ChangeAt Go.RowKit
set_option maxRecDepth 100000
section
variable {H : Type} {enc : TypeId × Value → H} {P : Program} {W : World}
def Fit2 (P : Program) (e : TypeId) (d : DataW H) : Prop := ∀ m ∈ d.weights P e, m ≤ 268435456
theorem Fit2.fit {e : TypeId} {d : DataW H} (h : Fit2 P e d) : Fit P e d := fun m hm => Nat.le_trans (h m hm) (by decide)
def Opens2 (enc : TypeId × Value → H) (P : Program) (W : World) (e : TypeId) {α : Type} (cells : α → List Value) (good : α → Prop) : Prop :=
 ∀ (fuel : Nat) (cs : List Value) (x : DataW H × List MemPlace), DataW.trod enc P W 0 (fun _ => true) true fuel e cs = some x → Fit2 P e x.1 → ∃ a : α, cs = cells a ∧ good a
theorem weak {e : TypeId} {α : Type} {cells : α → List Value} {good : α → Prop} (h : Opens enc P W e cells good) : Opens2 enc P W e cells good := fun fuel cs x hx hf => h fuel cs x hx hf.fit
theorem opens_slice2 {t e : TypeId} {α : Type} {cells : α → List Value} {good : α → Prop} {n : Nat} (ht : P.underlying t = some (.slice e)) (hc : P.cellsOf e = n) (hpos : 0 < n) (hn : ∀ a, (cells a).length = n) (he : Opens2 enc P W e cells good)
 {fuel : Nat} {cs : List Value} {x : DataW H × List MemPlace} (h : DataW.trod enc P W 0 (fun _ => true) true fuel t cs = some x) (hf : Fit2 P t x.1) :
 ∃ (A : Option Addr) (l : List α) (c : Nat), cs = [.slice A l.length c] ∧ l.length ≤ c ∧ (A = none → c = 0) ∧ Rd W A (l.flatMap cells) ∧ (∀ a ∈ l, good a) ∧ l.length * P.bytesOf e ≤ 268435456 := by
 rcases DataW.trod_slice ht h with ⟨rfl, rfl⟩ | ⟨a, len, cap, elems, rest, m, _, rfl, rfl, _, hl, _, hlen, hel, _, _⟩
 · exact ⟨none, [], 0, rfl, Nat.le_refl _, fun _ => rfl, Rd.nil _ _, fun a ha => by simp at ha, by simp⟩
 · have key : ∀ i, i < len → ∃ a' : α, W.cells? 0 (a.add (i * n)) n = some (cells a') ∧ good a' := fun i hi => by
    have h1 := hel i hi
    rw [hc] at h1
    have h2 : elems[i]? = some elems[i] := qZa (by omega)
    rw [h2, Option.bind_eq_some_iff] at h1
    obtain ⟨cs', h3, h4⟩ := h1
    obtain ⟨a', rfl, hg⟩ := he m cs' elems[i] h4 (fun k hk => hf k (by
     simp only [DataW.weights, ht]
     refine List.mem_cons_of_mem _ (List.mem_append_left _ (weights_mem_all (d := elems[i].1) ?_ k hk))
     exact List.mem_map.2 ⟨_, List.getElem_mem (by omega), rfl⟩))
    exact ⟨a', h3, hg⟩
   have mk : ∀ k, k ≤ len → ∃ l : List α, l.length = k ∧ (∀ a' ∈ l, good a') ∧ ∀ i a', l[i]? = some a' → W.cells? 0 (a.add (i * n)) n = some (cells a') := by
    intro k
    induction k with
    | zero => exact fun _ => ⟨[], rfl, fun a' h => by simp at h, fun i a' h => by simp at h⟩
    | succ k ih =>
     intro hk
     obtain ⟨l, h1, h2, h3⟩ := ih (by omega)
     obtain ⟨a', h4, h5⟩ := key k (by omega)
     refine ⟨l ++ [a'], by simp [h1], fun b hb => ?_, fun i b hb => ?_⟩
     · simp at hb
       rcases hb with hb | rfl
       · exact h2 b hb
       · exact h5
     · rcases Nat.lt_or_ge i l.length with hi | hi
       · rw [List.getElem?_append_left hi] at hb
         exact h3 i b hb
       · rw [List.getElem?_append_right hi] at hb
         have : i = k := by
          have := (List.getElem?_eq_some_iff.1 hb).1
          simp at this
          omega
         subst this
         rw [h1, Nat.sub_self] at hb
         simp at hb
         subst hb
         exact h4
   obtain ⟨l, h1, h2, h3⟩ := mk len (Nat.le_refl _)
   refine ⟨some a, l, cap, by rw [h1], by omega, fun h => (by cases h), ?_, h2, ?_⟩
   · intro hv
     have hl0 : 0 < l.length := by
      rcases l with _ | ⟨y, ys⟩
      · exact absurd rfl hv
      · simp
     obtain ⟨b, off, sp⟩ := a
     have hc0 : ∀ i a', l[i]? = some a' → ∀ j, j < n → W.cell? ((Addr.mk b off sp).add (i * n + j)) = (cells a')[j]? := fun i a' hi j hj => by
      have := (World.cells?_some (h3 i a' hi)).2.2 j hj
      rw [← this, Addr.add_add]
     have h00 := hc0 0 l[0] (qZa hl0) 0 hpos
     rw [qZa (by rw [hn]; exact hpos)] at h00
     rw [Nat.zero_mul, Nat.zero_add, show (Addr.mk b off sp).add 0 = ⟨b, off, sp⟩ from by simp [Addr.add]] at h00
     have hsp : sp = none := World.cell?_spot h00
     subst hsp
     refine ⟨b, off, rfl, World.block_lt_of_cell? W ⟨b, off, none⟩ h00, fun j u hu => ?_⟩
     have hj : j < l.length * n := by
      have := (List.getElem?_eq_some_iff.1 hu).1
      rwa [flat_len hn] at this
     have hq : j / n < l.length := Nat.div_lt_of_lt_mul (by rw [Nat.mul_comm]; exact hj)
     have hm := Nat.mod_lt j hpos
     have hjd : j / n * n + j % n = j := by rw [Nat.mul_comm]; exact Nat.div_add_mod j n
     have e1 := flat_at_of hn l (j / n) (j % n) _ (qZa hq) hm
     rw [hjd] at e1
     have e2 := hc0 (j / n) _ (qZa hq) (j % n) hm
     rw [hjd, ← e1, hu, add_plain] at e2
     exact e2
   · have hw := hf ((elems.length + rest.length) * P.bytesOf e) (by simp [DataW.weights, ht])
     refine Nat.le_trans (Nat.mul_le_mul_right _ ?_) hw
     omega
theorem zhQ {t : TypeId} {fs : Array Field} (ht : P.underlying t = some (.struct fs)) {parts : List (DataW H)} (h : Fit2 P t (.agg parts)) {i : Nat} {f : Field} {d : DataW H} (hf : fs[i]? = some f) (hd : parts[i]? = some d) : Fit2 P f.type d := fun m hm => h m (by
 simp only [DataW.weights, ht]
 exact DataW.weights_mem_each (j := i) (by rw [List.getElem?_map, Array.getElem?_toList, hf]; rfl) hd m hm)
theorem opensSl2 {t e : TypeId} {α : Type} {cells : α → List Value} {good : α → Prop} {n b : Nat} (ht : P.underlying t = some (.slice e)) (hc : P.cellsOf e = n) (hb : P.bytesOf e = b) (hpos : 0 < n) (hn : ∀ a, (cells a).length = n) (he : Opens2 enc P W e cells good) :
 Opens2 enc P W t (fun s : Sl α => [s.val]) (SlGood W cells good b) := fun fuel cs x h hf => by
 obtain ⟨A, l, c, rfl, hcap, hnil, hr, hg, hl⟩ := opens_slice2 ht hc hpos hn he h hf
 rw [hb] at hl
 exact ⟨⟨A, l, c⟩, rfl, hr, hg, hcap, hnil, Nat.le_trans hl (by decide)⟩
theorem opensSl3 {t e : TypeId} {α : Type} {cells : α → List Value} {good : α → Prop} {n b : Nat} (ht : P.underlying t = some (.slice e)) (hc : P.cellsOf e = n) (hb : P.bytesOf e = b) (hpos : 0 < n) (hn : ∀ a, (cells a).length = n) (he : Opens2 enc P W e cells good) :
 Opens2 enc P W t (fun s : Sl α => [s.val]) (fun s => SlGood W cells good b s ∧ s.l.length * b ≤ 268435456) := fun fuel cs x h hf => by
 obtain ⟨A, l, c, rfl, hcap, hnil, hr, hg, hl⟩ := opens_slice2 ht hc hpos hn he h hf
 rw [hb] at hl
 exact ⟨⟨A, l, c⟩, rfl, ⟨hr, hg, hcap, hnil, Nat.le_trans hl (by decide)⟩, hl⟩
theorem opensTx2 {t : TypeId} (ht : P.underlying t = some .string) : Opens2 enc P W t (fun s : ByteArray => [Value.string s]) (fun s => s.size ≤ 268435456) := fun fuel cs x h hf => by
 obtain ⟨s, rfl, rfl, _⟩ := DataW.trod_string ht h
 refine ⟨s, rfl, ?_⟩
 have := hf s.data.toList.length (by simp [DataW.weights])
 show s.data.size ≤ _
 rw [← Array.length_toList]
 exact this
theorem argSt2 {r : Reach} {b0 : Nat} {v : Value} {d : DataW H} {ps : List MemPlace} {t : TypeId} {fs : Array Field} {α : Type} {cells : α → List Value} {good : α → Prop} (ht : P.underlying t = some (.struct fs)) (ho : Opens2 enc P W t cells good)
 (hval : Value.okWide P W r b0 t v) (hd : DataW.Trod enc P W 0 (fun _ => true) true t v d ps) (hf : Fit2 P t d) : ∃ x : α, v = .agg (cells x).toArray ∧ good x := by
 obtain ⟨cs, rfl, _⟩ := okWide_struct ht hval
 obtain ⟨fuel, hx⟩ := hd
 have hcs : (Value.agg cs).cells.toList = cs.toList := rfl
 rw [hcs] at hx
 obtain ⟨x, h1, hg⟩ := ho fuel _ _ hx hf
 exact ⟨x, by rw [← h1], hg⟩
end
structure MSet.Fine (W : World) (x : MSet) : Prop where
 C_ : x.l_.size ≤ 268435456
 gorigin_ : x.m_.size ≤ 268435456
 K_ : SlGood W bkC goodBk 24 x.p_
 f_ : SlGood W Mna.cells (Mna.Good W) 96 x.n_
 gmany_ : x.n_.l.length * 96 ≤ 268435456
 G_ : SlGood W prC goodPr 32 x.j_
section
variable {H : Type} {enc : TypeId × Value → H} {W : World}
theorem fines_MSet : Opens2 enc Tryz.prog W 52 MSet.cells (MSet.Fine W) := fun fuel cs x h hf => by
 obtain ⟨xs, n, _, rfl, hl, hxs, hel⟩ := DataW.trod_struct Tryz.underlying52 h
 rw [kc_Set] at hl
 obtain ⟨c0, c1, c2, c3, c4, rfl⟩ : ∃ c0 c1 c2 c3 c4, cs = [c0, c1, c2, c3, c4] := by
  rcases cs with _ | ⟨c0, _ | ⟨c1, _ | ⟨c2, _ | ⟨c3, _ | ⟨c4, _ | ⟨z, zs⟩⟩⟩⟩⟩⟩ <;> simp at hl
  exact ⟨c0, c1, c2, c3, c4, rfl⟩
 have h0 : DataW.trod enc Tryz.prog W 0 (fun _ => true) true n 9 (([c0, c1, c2, c3, c4].drop 0).take (Tryz.prog.cellsOf 9)) = xs[0]? := hel 0 _ rfl
 rw [kc_string] at h0
 obtain ⟨y0, e0⟩ : ∃ y, xs[0]? = some y := ⟨_, qZa (by rw [hxs]; decide)⟩
 rw [e0] at h0
 obtain ⟨a0, k0, g0⟩ := (opensTx2 Tryz.underlying9) n [c0] y0 h0 (zhQ Tryz.underlying52 hf (i := 0) rfl (by rw [List.getElem?_map, e0]; rfl))
 have h1 : DataW.trod enc Tryz.prog W 0 (fun _ => true) true n 9 (([c0, c1, c2, c3, c4].drop 1).take (Tryz.prog.cellsOf 9)) = xs[1]? := hel 1 _ rfl
 rw [kc_string] at h1
 obtain ⟨y1, e1⟩ : ∃ y, xs[1]? = some y := ⟨_, qZa (by rw [hxs]; decide)⟩
 rw [e1] at h1
 obtain ⟨a1, k1, g1⟩ := (opensTx2 Tryz.underlying9) n [c1] y1 h1 (zhQ Tryz.underlying52 hf (i := 1) rfl (by rw [List.getElem?_map, e1]; rfl))
 have h2 : DataW.trod enc Tryz.prog W 0 (fun _ => true) true n 45 (([c0, c1, c2, c3, c4].drop 2).take (Tryz.prog.cellsOf 45)) = xs[2]? := hel 2 _ rfl
 rw [kc_LBlock] at h2
 obtain ⟨y2, e2⟩ : ∃ y, xs[2]? = some y := ⟨_, qZa (by rw [hxs]; decide)⟩
 rw [e2] at h2
 obtain ⟨a2, k2, g2⟩ := (weak (opensSl Tryz.underlying45 kc_Block kb_Block (by decide) (fun _ => rfl) opensBk)) n [c2] y2 h2 (zhQ Tryz.underlying52 hf (i := 2) rfl (by rw [List.getElem?_map, e2]; rfl))
 have h3 : DataW.trod enc Tryz.prog W 0 (fun _ => true) true n 50 (([c0, c1, c2, c3, c4].drop 3).take (Tryz.prog.cellsOf 50)) = xs[3]? := hel 3 _ rfl
 rw [kc_LSnap] at h3
 obtain ⟨y3, e3⟩ : ∃ y, xs[3]? = some y := ⟨_, qZa (by rw [hxs]; decide)⟩
 rw [e3] at h3
 obtain ⟨a3, k3, g3, q3⟩ := (opensSl3 Tryz.underlying50 kc_Snap kb_Snap (by decide) (fun _ => rfl) (weak opens_MSnap)) n [c3] y3 h3 (zhQ Tryz.underlying52 hf (i := 3) rfl (by rw [List.getElem?_map, e3]; rfl))
 have h4 : DataW.trod enc Tryz.prog W 0 (fun _ => true) true n 47 (([c0, c1, c2, c3, c4].drop 4).take (Tryz.prog.cellsOf 47)) = xs[4]? := hel 4 _ rfl
 rw [kc_LProp] at h4
 obtain ⟨y4, e4⟩ : ∃ y, xs[4]? = some y := ⟨_, qZa (by rw [hxs]; decide)⟩
 rw [e4] at h4
 obtain ⟨a4, k4, g4⟩ := (weak (opensSl Tryz.underlying47 kc_Prop kb_Prop (by decide) (fun _ => rfl) opensPr)) n [c4] y4 h4 (zhQ Tryz.underlying52 hf (i := 4) rfl (by rw [List.getElem?_map, e4]; rfl))
 simp only [List.cons.injEq, and_true] at k0
 obtain rfl := k0
 simp only [List.cons.injEq, and_true] at k1
 obtain rfl := k1
 simp only [List.cons.injEq, and_true] at k2
 obtain rfl := k2
 simp only [List.cons.injEq, and_true] at k3
 obtain rfl := k3
 simp only [List.cons.injEq, and_true] at k4
 obtain rfl := k4
 exact ⟨⟨a0, a1, a2, a3, a4⟩, rfl, ⟨g0, g1, g2, g3, q3, g4⟩⟩
end
structure Mta.Fine (W : World) (x : Mta) : Prop where
 ginto_ : x.S_.size ≤ 268435456
 X_ : x.o_.Good W
 K_ : SlGood W bkC goodBk 24 x.p_
 gat_ : -9223372036854775808 ≤ x.at_ ∧ x.at_ ≤ 9223372036854775807
 gnext_ : -9223372036854775808 ≤ x.v_ ∧ x.v_ ≤ 9223372036854775807
 gsum_ : x.T_.Good W
section
variable {H : Type} {enc : TypeId × Value → H} {W : World}
theorem fines_MStage : Opens2 enc Tryz.prog W 91 Mta.cells (Mta.Fine W) := fun fuel cs x h hf => by
 obtain ⟨xs, n, _, rfl, hl, hxs, hel⟩ := DataW.trod_struct Tryz.underlying91 h
 rw [kc_Stage] at hl
 obtain ⟨c0, c1, c2, c3, c4, c5, c6, c7, c8, c9, c10, c11, c12, c13, c14, c15, c16, c17, c18, c19, c20, rfl⟩ : ∃ c0 c1 c2 c3 c4 c5 c6 c7 c8 c9 c10 c11 c12 c13 c14 c15 c16 c17 c18 c19 c20, cs = [c0, c1, c2, c3, c4, c5, c6, c7, c8, c9, c10, c11, c12, c13, c14, c15, c16, c17, c18, c19, c20] := by
  rcases cs with _ | ⟨c0, _ | ⟨c1, _ | ⟨c2, _ | ⟨c3, _ | ⟨c4, _ | ⟨c5, _ | ⟨c6, _ | ⟨c7, _ | ⟨c8, _ | ⟨c9, _ | ⟨c10, _ | ⟨c11, _ | ⟨c12, _ | ⟨c13, _ | ⟨c14, _ | ⟨c15, _ | ⟨c16, _ | ⟨c17, _ | ⟨c18, _ | ⟨c19, _ | ⟨c20, _ | ⟨z, zs⟩⟩⟩⟩⟩⟩⟩⟩⟩⟩⟩⟩⟩⟩⟩⟩⟩⟩⟩⟩⟩⟩ <;> simp at hl
  exact ⟨c0, c1, c2, c3, c4, c5, c6, c7, c8, c9, c10, c11, c12, c13, c14, c15, c16, c17, c18, c19, c20, rfl⟩
 have h0 : DataW.trod enc Tryz.prog W 0 (fun _ => true) true n 9 (([c0, c1, c2, c3, c4, c5, c6, c7, c8, c9, c10, c11, c12, c13, c14, c15, c16, c17, c18, c19, c20].drop 0).take (Tryz.prog.cellsOf 9)) = xs[0]? := hel 0 _ rfl
 rw [kc_string] at h0
 obtain ⟨y0, e0⟩ : ∃ y, xs[0]? = some y := ⟨_, qZa (by rw [hxs]; decide)⟩
 rw [e0] at h0
 obtain ⟨a0, k0, g0⟩ := (opensTx2 Tryz.underlying9) n [c0] y0 h0 (zhQ Tryz.underlying91 hf (i := 0) rfl (by rw [List.getElem?_map, e0]; rfl))
 have h1 : DataW.trod enc Tryz.prog W 0 (fun _ => true) true n 89 (([c0, c1, c2, c3, c4, c5, c6, c7, c8, c9, c10, c11, c12, c13, c14, c15, c16, c17, c18, c19, c20].drop 1).take (Tryz.prog.cellsOf 89)) = xs[1]? := hel 1 _ rfl
 rw [kc_Record] at h1
 obtain ⟨y1, e1⟩ : ∃ y, xs[1]? = some y := ⟨_, qZa (by rw [hxs]; decide)⟩
 rw [e1] at h1
 obtain ⟨a1, k1, g1⟩ := (weak opens_MRecord) n [c1, c2, c3, c4, c5, c6, c7, c8, c9, c10, c11, c12] y1 h1 (zhQ Tryz.underlying91 hf (i := 1) rfl (by rw [List.getElem?_map, e1]; rfl))
 have h2 : DataW.trod enc Tryz.prog W 0 (fun _ => true) true n 45 (([c0, c1, c2, c3, c4, c5, c6, c7, c8, c9, c10, c11, c12, c13, c14, c15, c16, c17, c18, c19, c20].drop 13).take (Tryz.prog.cellsOf 45)) = xs[2]? := hel 2 _ rfl
 rw [kc_LBlock] at h2
 obtain ⟨y2, e2⟩ : ∃ y, xs[2]? = some y := ⟨_, qZa (by rw [hxs]; decide)⟩
 rw [e2] at h2
 obtain ⟨a2, k2, g2⟩ := (weak (opensSl Tryz.underlying45 kc_Block kb_Block (by decide) (fun _ => rfl) opensBk)) n [c13] y2 h2 (zhQ Tryz.underlying91 hf (i := 2) rfl (by rw [List.getElem?_map, e2]; rfl))
 have h3 : DataW.trod enc Tryz.prog W 0 (fun _ => true) true n 3 (([c0, c1, c2, c3, c4, c5, c6, c7, c8, c9, c10, c11, c12, c13, c14, c15, c16, c17, c18, c19, c20].drop 14).take (Tryz.prog.cellsOf 3)) = xs[3]? := hel 3 _ rfl
 rw [kc_int] at h3
 obtain ⟨y3, e3⟩ : ∃ y, xs[3]? = some y := ⟨_, qZa (by rw [hxs]; decide)⟩
 rw [e3] at h3
 obtain ⟨a3, k3, g3⟩ := (weak (opensI64 Tryz.underlying3)) n [c14] y3 h3 (zhQ Tryz.underlying91 hf (i := 3) rfl (by rw [List.getElem?_map, e3]; rfl))
 have h4 : DataW.trod enc Tryz.prog W 0 (fun _ => true) true n 3 (([c0, c1, c2, c3, c4, c5, c6, c7, c8, c9, c10, c11, c12, c13, c14, c15, c16, c17, c18, c19, c20].drop 15).take (Tryz.prog.cellsOf 3)) = xs[4]? := hel 4 _ rfl
 rw [kc_int] at h4
 obtain ⟨y4, e4⟩ : ∃ y, xs[4]? = some y := ⟨_, qZa (by rw [hxs]; decide)⟩
 rw [e4] at h4
 obtain ⟨a4, k4, g4⟩ := (weak (opensI64 Tryz.underlying3)) n [c15] y4 h4 (zhQ Tryz.underlying91 hf (i := 4) rfl (by rw [List.getElem?_map, e4]; rfl))
 have h5 : DataW.trod enc Tryz.prog W 0 (fun _ => true) true n 87 (([c0, c1, c2, c3, c4, c5, c6, c7, c8, c9, c10, c11, c12, c13, c14, c15, c16, c17, c18, c19, c20].drop 16).take (Tryz.prog.cellsOf 87)) = xs[5]? := hel 5 _ rfl
 rw [kc_Sum] at h5
 obtain ⟨y5, e5⟩ : ∃ y, xs[5]? = some y := ⟨_, qZa (by rw [hxs]; decide)⟩
 rw [e5] at h5
 obtain ⟨a5, k5, g5⟩ := (weak opens_MSum) n [c16, c17, c18, c19] y5 h5 (zhQ Tryz.underlying91 hf (i := 5) rfl (by rw [List.getElem?_map, e5]; rfl))
 have h6 : DataW.trod enc Tryz.prog W 0 (fun _ => true) true n 4 (([c0, c1, c2, c3, c4, c5, c6, c7, c8, c9, c10, c11, c12, c13, c14, c15, c16, c17, c18, c19, c20].drop 20).take (Tryz.prog.cellsOf 4)) = xs[6]? := hel 6 _ rfl
 rw [kc_bool] at h6
 obtain ⟨y6, e6⟩ : ∃ y, xs[6]? = some y := ⟨_, qZa (by rw [hxs]; decide)⟩
 rw [e6] at h6
 obtain ⟨a6, k6, g6⟩ := (weak (opensBo Tryz.underlying4)) n [c20] y6 h6 (zhQ Tryz.underlying91 hf (i := 6) rfl (by rw [List.getElem?_map, e6]; rfl))
 simp only [List.cons.injEq, and_true] at k0
 obtain rfl := k0
 simp only [MR_.cells, List.cons.injEq, and_true] at k1
 obtain ⟨rfl, rfl, rfl, rfl, rfl, rfl, rfl, rfl, rfl, rfl, rfl, rfl⟩ := k1
 simp only [List.cons.injEq, and_true] at k2
 obtain rfl := k2
 simp only [List.cons.injEq, and_true] at k3
 obtain rfl := k3
 simp only [List.cons.injEq, and_true] at k4
 obtain rfl := k4
 simp only [MSum.cells, List.cons.injEq, and_true] at k5
 obtain ⟨rfl, rfl, rfl, rfl⟩ := k5
 simp only [List.cons.injEq, and_true] at k6
 obtain rfl := k6
 exact ⟨⟨a0, a1, a2, a3, a4, a5, a6⟩, rfl, ⟨g0, g1, g2, g3, g4, g5⟩⟩
end
structure ME_.Fine (W : World) (x : ME_) : Prop where
 guser_ : x.O_.size ≤ 268435456
 gkind_ : -9223372036854775808 ≤ x.N_ ∧ x.N_ ≤ 9223372036854775807
 C_ : x.l_.size ≤ 268435456
 gerr_ : -9223372036854775808 ≤ x.err_ ∧ x.err_ ≤ 9223372036854775807
section
variable {H : Type} {enc : TypeId × Value → H} {W : World}
theorem fines_MEntry : Opens2 enc Tryz.prog W 104 ME_.cells (ME_.Fine W) := fun fuel cs x h hf => by
 obtain ⟨xs, n, _, rfl, hl, hxs, hel⟩ := DataW.trod_struct Tryz.underlying104 h
 rw [kc_Entry] at hl
 obtain ⟨c0, c1, c2, c3, rfl⟩ : ∃ c0 c1 c2 c3, cs = [c0, c1, c2, c3] := by
  rcases cs with _ | ⟨c0, _ | ⟨c1, _ | ⟨c2, _ | ⟨c3, _ | ⟨z, zs⟩⟩⟩⟩⟩ <;> simp at hl
  exact ⟨c0, c1, c2, c3, rfl⟩
 have h0 : DataW.trod enc Tryz.prog W 0 (fun _ => true) true n 9 (([c0, c1, c2, c3].drop 0).take (Tryz.prog.cellsOf 9)) = xs[0]? := hel 0 _ rfl
 rw [kc_string] at h0
 obtain ⟨y0, e0⟩ : ∃ y, xs[0]? = some y := ⟨_, qZa (by rw [hxs]; decide)⟩
 rw [e0] at h0
 obtain ⟨a0, k0, g0⟩ := (opensTx2 Tryz.underlying9) n [c0] y0 h0 (zhQ Tryz.underlying104 hf (i := 0) rfl (by rw [List.getElem?_map, e0]; rfl))
 have h1 : DataW.trod enc Tryz.prog W 0 (fun _ => true) true n 3 (([c0, c1, c2, c3].drop 1).take (Tryz.prog.cellsOf 3)) = xs[1]? := hel 1 _ rfl
 rw [kc_int] at h1
 obtain ⟨y1, e1⟩ : ∃ y, xs[1]? = some y := ⟨_, qZa (by rw [hxs]; decide)⟩
 rw [e1] at h1
 obtain ⟨a1, k1, g1⟩ := (weak (opensI64 Tryz.underlying3)) n [c1] y1 h1 (zhQ Tryz.underlying104 hf (i := 1) rfl (by rw [List.getElem?_map, e1]; rfl))
 have h2 : DataW.trod enc Tryz.prog W 0 (fun _ => true) true n 9 (([c0, c1, c2, c3].drop 2).take (Tryz.prog.cellsOf 9)) = xs[2]? := hel 2 _ rfl
 rw [kc_string] at h2
 obtain ⟨y2, e2⟩ : ∃ y, xs[2]? = some y := ⟨_, qZa (by rw [hxs]; decide)⟩
 rw [e2] at h2
 obtain ⟨a2, k2, g2⟩ := (opensTx2 Tryz.underlying9) n [c2] y2 h2 (zhQ Tryz.underlying104 hf (i := 2) rfl (by rw [List.getElem?_map, e2]; rfl))
 have h3 : DataW.trod enc Tryz.prog W 0 (fun _ => true) true n 28 (([c0, c1, c2, c3].drop 3).take (Tryz.prog.cellsOf 28)) = xs[3]? := hel 3 _ rfl
 rw [kc_Errno] at h3
 obtain ⟨y3, e3⟩ : ∃ y, xs[3]? = some y := ⟨_, qZa (by rw [hxs]; decide)⟩
 rw [e3] at h3
 obtain ⟨a3, k3, g3⟩ := (weak (opensI64 Tryz.underlying28)) n [c3] y3 h3 (zhQ Tryz.underlying104 hf (i := 3) rfl (by rw [List.getElem?_map, e3]; rfl))
 simp only [List.cons.injEq, and_true] at k0
 obtain rfl := k0
 simp only [List.cons.injEq, and_true] at k1
 obtain rfl := k1
 simp only [List.cons.injEq, and_true] at k2
 obtain rfl := k2
 simp only [List.cons.injEq, and_true] at k3
 obtain rfl := k3
 exact ⟨⟨a0, a1, a2, a3⟩, rfl, ⟨g0, g1, g2, g3⟩⟩
end
def fineGr (x : Gr) : Prop := x.1.size ≤ 268435456 ∧ x.2.1.size ≤ 268435456 ∧ -9223372036854775808 ≤ x.2.2 ∧ x.2.2 ≤ 9223372036854775807
section
variable {H : Type} {enc : TypeId × Value → H} {W : World}
theorem opensGr2 : Opens2 enc Tryz.prog W 111 grC fineGr := fun fuel cs x h hf => by
 obtain ⟨xs, n, _, rfl, hl, hxs, hel⟩ := DataW.trod_struct Tryz.underlying111 h
 rw [kcGr] at hl
 obtain ⟨c0, c1, c2, rfl⟩ : ∃ c0 c1 c2, cs = [c0, c1, c2] := by
  rcases cs with _ | ⟨a, _ | ⟨b, _ | ⟨d, _ | ⟨e, t⟩⟩⟩⟩ <;> simp at hl
  exact ⟨a, b, d, rfl⟩
 have h0 : DataW.trod enc Tryz.prog W 0 (fun _ => true) true n 9 (([c0, c1, c2].drop 0).take (Tryz.prog.cellsOf 9)) = xs[0]? := hel 0 _ rfl
 have h1 : DataW.trod enc Tryz.prog W 0 (fun _ => true) true n 9 (([c0, c1, c2].drop 1).take (Tryz.prog.cellsOf 9)) = xs[1]? := hel 1 _ rfl
 have h2 : DataW.trod enc Tryz.prog W 0 (fun _ => true) true n 3 (([c0, c1, c2].drop 2).take (Tryz.prog.cellsOf 3)) = xs[2]? := hel 2 _ rfl
 rw [kcStrG] at h0 h1
 rw [kcIntG] at h2
 obtain ⟨y0, e0⟩ : ∃ y, xs[0]? = some y := ⟨_, qZa (by rw [hxs]; decide)⟩
 obtain ⟨y1, e1⟩ : ∃ y, xs[1]? = some y := ⟨_, qZa (by rw [hxs]; decide)⟩
 obtain ⟨y2, e2⟩ : ∃ y, xs[2]? = some y := ⟨_, qZa (by rw [hxs]; decide)⟩
 rw [e0] at h0
 rw [e1] at h1
 rw [e2] at h2
 obtain ⟨a0, k0, g0⟩ := opensTx2 Tryz.underlying9 n [c0] y0 h0 (zhQ Tryz.underlying111 hf (i := 0) rfl (by rw [List.getElem?_map, e0]; rfl))
 obtain ⟨a1, k1, g1⟩ := opensTx2 Tryz.underlying9 n [c1] y1 h1 (zhQ Tryz.underlying111 hf (i := 1) rfl (by rw [List.getElem?_map, e1]; rfl))
 obtain ⟨a2, k2, g2⟩ := (weak (opensI64 Tryz.underlying3)) n [c2] y2 h2 (zhQ Tryz.underlying111 hf (i := 2) rfl (by rw [List.getElem?_map, e2]; rfl))
 injection k0 with k0
 injection k1 with k1
 injection k2 with k2
 subst k0
 subst k1
 subst k2
 exact ⟨(a0, a1, a2), rfl, g0, g1, g2⟩
end
structure MT_.Fine (W : World) (x : MT_) : Prop where
 L_ : x.x_.size ≤ 268435456
 gquota_ : -9223372036854775808 ≤ x.r_ ∧ x.r_ ≤ 9223372036854775807
 gnext_ : -9223372036854775808 ≤ x.v_ ∧ x.v_ ≤ 9223372036854775807
 w_ : SlGood W MSet.cells (MSet.Fine W) 104 x.y_
 Q_ : SlGood W grC fineGr 40 x.g_
 B_ : SlGood W Mta.cells (Mta.Fine W) 224 x.t_
 glog_ : SlGood W ME_.cells (ME_.Fine W) 48 x.h_
 few_ : x.y_.l.length * 104 ≤ 268435456
section
variable {H : Type} {enc : TypeId × Value → H} {W : World}
theorem fines_MTenant : Opens2 enc Tryz.prog W 27 MT_.cells (MT_.Fine W) := fun fuel cs x h hf => by
 obtain ⟨xs, n, _, rfl, hl, hxs, hel⟩ := DataW.trod_struct Tryz.underlying27 h
 rw [kc_Tenant] at hl
 obtain ⟨c0, c1, c2, c3, c4, c5, c6, rfl⟩ : ∃ c0 c1 c2 c3 c4 c5 c6, cs = [c0, c1, c2, c3, c4, c5, c6] := by
  rcases cs with _ | ⟨c0, _ | ⟨c1, _ | ⟨c2, _ | ⟨c3, _ | ⟨c4, _ | ⟨c5, _ | ⟨c6, _ | ⟨z, zs⟩⟩⟩⟩⟩⟩⟩⟩ <;> simp at hl
  exact ⟨c0, c1, c2, c3, c4, c5, c6, rfl⟩
 have h0 : DataW.trod enc Tryz.prog W 0 (fun _ => true) true n 9 (([c0, c1, c2, c3, c4, c5, c6].drop 0).take (Tryz.prog.cellsOf 9)) = xs[0]? := hel 0 _ rfl
 rw [kc_string] at h0
 obtain ⟨y0, e0⟩ : ∃ y, xs[0]? = some y := ⟨_, qZa (by rw [hxs]; decide)⟩
 rw [e0] at h0
 obtain ⟨a0, k0, g0⟩ := (opensTx2 Tryz.underlying9) n [c0] y0 h0 (zhQ Tryz.underlying27 hf (i := 0) rfl (by rw [List.getElem?_map, e0]; rfl))
 have h1 : DataW.trod enc Tryz.prog W 0 (fun _ => true) true n 3 (([c0, c1, c2, c3, c4, c5, c6].drop 1).take (Tryz.prog.cellsOf 3)) = xs[1]? := hel 1 _ rfl
 rw [kc_int] at h1
 obtain ⟨y1, e1⟩ : ∃ y, xs[1]? = some y := ⟨_, qZa (by rw [hxs]; decide)⟩
 rw [e1] at h1
 obtain ⟨a1, k1, g1⟩ := (weak (opensI64 Tryz.underlying3)) n [c1] y1 h1 (zhQ Tryz.underlying27 hf (i := 1) rfl (by rw [List.getElem?_map, e1]; rfl))
 have h2 : DataW.trod enc Tryz.prog W 0 (fun _ => true) true n 3 (([c0, c1, c2, c3, c4, c5, c6].drop 2).take (Tryz.prog.cellsOf 3)) = xs[2]? := hel 2 _ rfl
 rw [kc_int] at h2
 obtain ⟨y2, e2⟩ : ∃ y, xs[2]? = some y := ⟨_, qZa (by rw [hxs]; decide)⟩
 rw [e2] at h2
 obtain ⟨a2, k2, g2⟩ := (weak (opensI64 Tryz.underlying3)) n [c2] y2 h2 (zhQ Tryz.underlying27 hf (i := 2) rfl (by rw [List.getElem?_map, e2]; rfl))
 have h3 : DataW.trod enc Tryz.prog W 0 (fun _ => true) true n 22 (([c0, c1, c2, c3, c4, c5, c6].drop 3).take (Tryz.prog.cellsOf 22)) = xs[3]? := hel 3 _ rfl
 rw [kc_LSet] at h3
 obtain ⟨y3, e3⟩ : ∃ y, xs[3]? = some y := ⟨_, qZa (by rw [hxs]; decide)⟩
 rw [e3] at h3
 obtain ⟨a3, k3, g3, q3⟩ := (opensSl3 Tryz.underlying22 kc_Set kb_Set (by decide) (fun _ => rfl) fines_MSet) n [c3] y3 h3 (zhQ Tryz.underlying27 hf (i := 3) rfl (by rw [List.getElem?_map, e3]; rfl))
 have h4 : DataW.trod enc Tryz.prog W 0 (fun _ => true) true n 23 (([c0, c1, c2, c3, c4, c5, c6].drop 4).take (Tryz.prog.cellsOf 23)) = xs[4]? := hel 4 _ rfl
 rw [kc_LGrant] at h4
 obtain ⟨y4, e4⟩ : ∃ y, xs[4]? = some y := ⟨_, qZa (by rw [hxs]; decide)⟩
 rw [e4] at h4
 obtain ⟨a4, k4, g4⟩ := (opensSl2 Tryz.underlying23 kc_Grant kb_Grant (by decide) (fun _ => rfl) opensGr2) n [c4] y4 h4 (zhQ Tryz.underlying27 hf (i := 4) rfl (by rw [List.getElem?_map, e4]; rfl))
 have h5 : DataW.trod enc Tryz.prog W 0 (fun _ => true) true n 24 (([c0, c1, c2, c3, c4, c5, c6].drop 5).take (Tryz.prog.cellsOf 24)) = xs[5]? := hel 5 _ rfl
 rw [kc_LStage] at h5
 obtain ⟨y5, e5⟩ : ∃ y, xs[5]? = some y := ⟨_, qZa (by rw [hxs]; decide)⟩
 rw [e5] at h5
 obtain ⟨a5, k5, g5⟩ := (opensSl2 Tryz.underlying24 kc_Stage kb_Stage (by decide) (fun _ => rfl) fines_MStage) n [c5] y5 h5 (zhQ Tryz.underlying27 hf (i := 5) rfl (by rw [List.getElem?_map, e5]; rfl))
 have h6 : DataW.trod enc Tryz.prog W 0 (fun _ => true) true n 25 (([c0, c1, c2, c3, c4, c5, c6].drop 6).take (Tryz.prog.cellsOf 25)) = xs[6]? := hel 6 _ rfl
 rw [kc_LEntry] at h6
 obtain ⟨y6, e6⟩ : ∃ y, xs[6]? = some y := ⟨_, qZa (by rw [hxs]; decide)⟩
 rw [e6] at h6
 obtain ⟨a6, k6, g6⟩ := (opensSl2 Tryz.underlying25 kc_Entry kb_Entry (by decide) (fun _ => rfl) fines_MEntry) n [c6] y6 h6 (zhQ Tryz.underlying27 hf (i := 6) rfl (by rw [List.getElem?_map, e6]; rfl))
 simp only [List.cons.injEq, and_true] at k0
 obtain rfl := k0
 simp only [List.cons.injEq, and_true] at k1
 obtain rfl := k1
 simp only [List.cons.injEq, and_true] at k2
 obtain rfl := k2
 simp only [List.cons.injEq, and_true] at k3
 obtain rfl := k3
 simp only [List.cons.injEq, and_true] at k4
 obtain rfl := k4
 simp only [List.cons.injEq, and_true] at k5
 obtain rfl := k5
 simp only [List.cons.injEq, and_true] at k6
 obtain rfl := k6
 exact ⟨⟨a0, a1, a2, a3, a4, a5, a6⟩, rfl, ⟨g0, g1, g2, g3, g4, g5, g6, q3⟩⟩
end
theorem slGood_imp {α : Type} {W : World} {cells : α → List Value} {good good' : α → Prop} {b : Nat} {s : Sl α} (h : SlGood W cells good b s) (hg : ∀ y, good y → good' y) : SlGood W cells good' b s := ⟨h.rd, fun y hy => hg y (h.el y hy), h.cap, h.nil, h.len⟩
theorem MSet.Fine.good {W : World} {x : MSet} (h : x.Fine W) : x.Good W := ⟨Nat.le_trans h.C_ (by decide), Nat.le_trans h.gorigin_ (by decide), h.K_, h.f_, h.G_⟩
theorem Mta.Fine.good {W : World} {x : Mta} (h : x.Fine W) : x.Good W := ⟨Nat.le_trans h.ginto_ (by decide), h.X_, h.K_, h.gat_, h.gnext_, h.gsum_⟩
theorem ME_.Fine.good {W : World} {x : ME_} (h : x.Fine W) : x.Good W := ⟨Nat.le_trans h.guser_ (by decide), h.gkind_, Nat.le_trans h.C_ (by decide), h.gerr_⟩
theorem MT_.Fine.good {W : World} {x : MT_} (h : x.Fine W) : x.Good W := ⟨Nat.le_trans h.L_ (by decide), h.gquota_, h.gnext_, slGood_imp h.w_ fun _ h => h.good, slGood_imp h.Q_ fun _ h => ⟨Nat.le_trans h.1 (by decide), Nat.le_trans h.2.1 (by decide), h.2.2⟩, slGood_imp h.B_ fun _ h => h.good, slGood_imp h.glog_ fun _ h => h.good⟩
theorem MT_.Fine.tiny {W : World} {x : MT_} (h : x.Fine W) : x.Tiny := ⟨fun s hs => ⟨Nat.le_trans (h.w_.el s hs).C_ (by decide), Nat.le_trans (h.w_.el s hs).gorigin_ (by decide)⟩, fun s hs => Nat.le_trans (h.B_.el s hs).ginto_ (by decide), fun s hs => Nat.le_trans (h.glog_.el s hs).C_ (by decide), fun g hg => Nat.le_trans (h.Q_.el g hg).2.1 (by decide)⟩
end Go.Proofs.YtimmcmjipmkebaaGreat
