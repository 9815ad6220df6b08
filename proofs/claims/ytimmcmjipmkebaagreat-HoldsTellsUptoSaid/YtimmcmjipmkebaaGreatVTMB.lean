/-
 Which snapshot, entry, begin and stage may be, by the program. Conditions: they are as they come in.
-/
import Derived.Test.YtimmcmjipmkebaaGreatVEVStr
import Derived.Test.YtimmcmjipmkebaaGreatVEVStage
import Derived.Test.YtimmcmjipmkebaaGreatVRISnap
import Derived.Test.YtimmcmjipmkebaaGreatVRIStage
import Derived.Test.YtimmcmjipmkebaaGreatVNB
import Derived.Laws.StructEq
namespace Go.Proofs.YtimmcmjipmkebaaGreat
open Go.ChangeShapes Go.WideShapes Go.ChangeAt Go.RowKit
set_option maxRecDepth 100000
set_option linter.unusedSimpArgs false
theorem flat_one : ∀ l : List ByteArray, (l.flatMap fun s => [Value.string s]) = l.map Value.string
 | [] => rfl
 | x :: l => by rw [List.flatMap_cons, flat_one l]; rfl
theorem tagsRd {w : World} {A : Option Addr} {l : List ByteArray} (h : Rd w A (l.flatMap fun s => [Value.string s])) : Rd w A (l.map Value.string) := by
 rwa [flat_one] at h
theorem isEmpty_no {s : ByteArray} (h : s ≠ ByteArray.empty) : s.toList.isEmpty = false := by
 rw [Lib.toList_data]
 rcases hb : bs s with _ | ⟨z, l⟩
 · exact absurd (bs_inj (t := ByteArray.empty) hb) h
 · show (bs s).isEmpty = false
   rw [hb]
   rfl
theorem isSnap_any (x : Mna) (w : World) (hx : x.Good w) :
 Calls Tryz.prog 174 #[.agg #[.string x.x_, .int .i64 x.z_, .slice x.p_.A x.p_.l.length x.p_.c, .slice x.u_.A x.u_.l.length x.u_.c, .slice x.j_.A x.j_.l.length x.j_.c]] w fun e w' => e = .returned (.bool (snapB x.plain)) ∧ Below w.heap.size w w' := by
 obtain ⟨w1, hw1⟩ : ∃ w1, w.alloc (.cells #[.string x.x_, .int .i64 x.z_, .slice x.p_.A x.p_.l.length x.p_.c, .slice x.u_.A x.u_.l.length x.u_.c, .slice x.j_.A x.j_.l.length x.j_.c] 49) = w1 := ⟨_, rfl⟩
 have hB1 : Below w.heap.size w w1 := hw1 ▸ (Below.refl _ w).alloc (Nat.le_refl _) _
 have k1 : Blk w1 w.heap.size 49 [.string x.x_, .int .i64 x.z_, .slice x.p_.A x.p_.l.length x.p_.c, .slice x.u_.A x.u_.l.length x.u_.c, .slice x.j_.A x.j_.l.length x.j_.c] := hw1 ▸ Blk.new w _ _
 have hA : Below w.heap.size w w1 := hB1
 have H1 : Hid (∀ W, Below w1.heap.size w1 W → Calls Tryz.prog 45 #[.string x.x_] W fun e w' => e = .returned (.bool (zaQ (bs x.x_))) ∧ Below W.heap.size W w') := zI fun W hW => nameB _ W
 have H2 : Hid (∀ W, Below w1.heap.size w1 W → Calls Tryz.prog 87 #[.int .i64 x.z_] W fun e w' => e = .returned (.bool (amt 1 x.z_)) ∧ Below W.heap.size W w') := zI fun W hW => isFrom1_any _ W
 have H3 : Hid (∀ W, Below w1.heap.size w1 W → Calls Tryz.prog 172 #[.slice x.p_.A x.p_.l.length x.p_.c, .slice x.j_.A x.j_.l.length x.j_.c] W fun e w' => e = .returned (.bool (okK x.p_.l && okP x.j_.l)) ∧ Below W.heap.size W w') := zI fun W hW => mayHold_any _ _ W (hx.K_.below (hA.trans (hW.mono hA.size)) fun _ h => h) (hx.G_.below (hA.trans (hW.mono hA.size)) fun _ h => h)
 have H5 : Hid (∀ W, Below w1.heap.size w1 W → Calls Tryz.prog 195 #[.slice x.u_.A x.u_.l.length x.u_.c, .func (.func 45) #[] #[]] W fun e w' => e = .returned (.bool (x.u_.l.all fun s => zaQ (bs s))) ∧ Below W.heap.size W w') := zI fun W hW => everyName _ _ _ _ rfl (by have := hx.U_.len; omega) W (tagsRd (hx.U_.rd.below (hA.trans (hW.mono hA.size))))
 have H6 : Hid (∀ W, Below w1.heap.size w1 W → Calls Tryz.prog 196 #[.slice x.u_.A x.u_.l.length x.u_.c, .func (.func 197) #[] #[]] W fun e w' => e = .returned (.bool (riseB ltTx x.u_.l)) ∧ Below W.heap.size W w') := zI fun W hW => risingStr _ _ _ _ rfl (by have := hx.U_.len; omega) W (tagsRd (hx.U_.rd.below (hA.trans (hW.mono hA.size))))
 obtain ⟨R, hR⟩ : ∃ R, snapB x.plain = R := ⟨_, rfl⟩
 rw [hR]
 have HRR : Hid (R = ((zaQ (bs x.x_)) && ((amt 1 x.z_) && (((okK x.p_.l && okP x.j_.l)) && ((decide (x.u_.l.length ≤ 4)) && ((x.u_.l.all fun s => zaQ (bs s)) && ((riseB ltTx x.u_.l)))))))) := zI (hR.symm.trans (show snapB x.plain = ((zaQ (bs x.x_)) && ((amt 1 x.z_) && (((okK x.p_.l && okP x.j_.l)) && ((decide (x.u_.l.length ≤ 4)) && ((x.u_.l.all fun s => zaQ (bs s)) && ((riseB ltTx x.u_.l))))))) from by simp only [snapB, tagsB, goodL, Mna.plain]; simp only [Bool.and_assoc, Bool.and_comm, Bool.and_left_comm]; try rfl))
 clear hR
 obtain ⟨b1, hb1⟩ : ∃ b, (zaQ (bs x.x_)) = b := ⟨_, rfl⟩
 rw [hb1] at HRR
 rw [hb1] at H1
 clear hb1
 obtain ⟨b2, hb2⟩ : ∃ b, (amt 1 x.z_) = b := ⟨_, rfl⟩
 rw [hb2] at HRR
 rw [hb2] at H2
 clear hb2
 obtain ⟨b3, hb3⟩ : ∃ b, ((okK x.p_.l && okP x.j_.l)) = b := ⟨_, rfl⟩
 rw [hb3] at HRR
 rw [hb3] at H3
 clear hb3
 obtain ⟨b4, hb4⟩ : ∃ b, (decide (x.u_.l.length ≤ 4)) = b := ⟨_, rfl⟩
 rw [hb4] at HRR
 obtain ⟨b5, hb5⟩ : ∃ b, (x.u_.l.all fun s => zaQ (bs s)) = b := ⟨_, rfl⟩
 rw [hb5] at HRR
 rw [hb5] at H5
 clear hb5
 obtain ⟨b6, hb6⟩ : ∃ b, (riseB ltTx x.u_.l) = b := ⟨_, rfl⟩
 rw [hb6] at HRR
 rw [hb6] at H6
 clear hb6
 have HW1 := zI hw1
 have HK1 := zI k1
 clear hw1 k1
 have hs0 := hA.size
 have hT0 : Below w1.heap.size w1 w1 := Below.refl _ _
 clear hx
 go_enter Tryz.func174, Tryz.ntmps174
 have z0 := (HK1.out.below hT0 HK1.out.lt).cell 0
 simp only [gZa, gZb] at z0
 go_wp2_with fail
 rw [HW1.out]
 try go_wp2_with fail
 refine (H1.out _ hT0).mono ?_
 rintro e v1 ⟨rfl, hV1⟩
 have hT1 : Below w1.heap.size w1 v1 := hT0.trans (hV1.mono hT0.size)
 have hX1 : Below w.heap.size w v1 := hA.trans (hT1.mono hs0)
 rcases b1 with _ | _
 · skip
   go_wp2
   go_ret
   exact ⟨zaZ (by rw [HRR.out]; rfl), hX1⟩
 · skip
   have z1 := (HK1.out.below hT1 HK1.out.lt).cell 1
   simp only [gZa, gZb] at z1
   go_wp2_with fail
   refine (H2.out _ hT1).mono ?_
   rintro e v2 ⟨rfl, hV2⟩
   have hT2 : Below w1.heap.size w1 v2 := hT1.trans (hV2.mono hT1.size)
   have hX2 : Below w.heap.size w v2 := hA.trans (hT2.mono hs0)
   rcases b2 with _ | _
   · skip
     go_wp2
     go_ret
     exact ⟨zaZ (by rw [HRR.out]; rfl), hX2⟩
   · skip
     have z2 := (HK1.out.below hT2 HK1.out.lt).cell 2
     have z4 := (HK1.out.below hT2 HK1.out.lt).cell 4
     simp only [gZa, gZb] at z2 z4
     go_wp2_with fail
     refine (H3.out _ hT2).mono ?_
     rintro e v3 ⟨rfl, hV3⟩
     have hT3 : Below w1.heap.size w1 v3 := hT2.trans (hV3.mono hT2.size)
     have hX3 : Below w.heap.size w v3 := hA.trans (hT3.mono hs0)
     rcases b3 with _ | _
     · skip
       go_wp2
       go_ret
       exact ⟨zaZ (by rw [HRR.out]; rfl), hX3⟩
     · skip
       have z3 := (HK1.out.below hT3 HK1.out.lt).cell 3
       simp only [gZa, gZb] at z3
       rcases b4 with _ | _
       · have ht : ¬ ((x.u_.l.length : Int) ≤ 4) := by have := of_decide_eq_false hb4; omega
         go_wp2
         go_ret
         exact ⟨zaZ (by rw [HRR.out]; rfl), (hA.trans (hT3.mono hs0))⟩
       · have ht : (x.u_.l.length : Int) ≤ 4 := by have := of_decide_eq_true hb4; omega
         have z3 := (HK1.out.below hT3 HK1.out.lt).cell 3
         simp only [gZa, gZb] at z3
         go_wp2_with fail
         refine (H5.out _ hT3).mono ?_
         rintro e v5 ⟨rfl, hV5⟩
         have hT5 : Below w1.heap.size w1 v5 := hT3.trans (hV5.mono hT3.size)
         have hX5 : Below w.heap.size w v5 := hA.trans (hT5.mono hs0)
         rcases b5 with _ | _
         · skip
           go_wp2
           go_ret
           exact ⟨zaZ (by rw [HRR.out]; rfl), hX5⟩
         · skip
           have z3 := (HK1.out.below hT5 HK1.out.lt).cell 3
           simp only [gZa, gZb] at z3
           go_wp2_with fail
           refine (H6.out _ hT5).mono ?_
           rintro e v6 ⟨rfl, hV6⟩
           have hT6 : Below w1.heap.size w1 v6 := hT5.trans (hV6.mono hT5.size)
           have hX6 : Below w.heap.size w v6 := hA.trans (hT6.mono hs0)
           rcases b6 with _ | _
           · skip
             go_wp2
             go_ret
             exact ⟨zaZ (by rw [HRR.out]; rfl), hX6⟩
           · skip
             go_wp2
             go_ret
             exact ⟨zaZ (by rw [HRR.out]; rfl), hX6⟩
theorem isEntry_e (x : ME_) (hu : x.O_ = ByteArray.empty) (w : World) (hx : x.Good w) :
 Calls Tryz.prog 151 #[.agg #[.string ByteArray.empty, .int .i64 x.N_, .string x.l_, .int .i64 x.err_]] w fun e w' => e = .returned (.bool (zfQ x.plain)) ∧ Below w.heap.size w w' := by
 obtain ⟨w1, hw1⟩ : ∃ w1, w.alloc (.cells #[.string ByteArray.empty, .int .i64 x.N_, .string x.l_, .int .i64 x.err_] 104) = w1 := ⟨_, rfl⟩
 have hB1 : Below w.heap.size w w1 := hw1 ▸ (Below.refl _ w).alloc (Nat.le_refl _) _
 have k1 : Blk w1 w.heap.size 104 [.string ByteArray.empty, .int .i64 x.N_, .string x.l_, .int .i64 x.err_] := hw1 ▸ Blk.new w _ _
 have hA : Below w.heap.size w w1 := hB1
 have H1 : Hid (∀ W, Below w1.heap.size w1 W → Calls Tryz.prog 44 #[.string x.l_] W fun e w' => e = .returned (.bool (zeX (bs x.l_))) ∧ Below W.heap.size W w') := zI fun W hW => path_any _ (by have := hx.C_; omega) W
 have H2 : Hid (∀ W, Below w1.heap.size w1 W → Calls Tryz.prog 86 #[.int .i64 x.N_] W fun e w' => e = .returned (.bool (amt 0 x.N_)) ∧ Below W.heap.size W w') := zI fun W hW => isAmount_any _ W
 have H3 : Hid (∀ W, Below w1.heap.size w1 W → Calls Tryz.prog 86 #[.int .i64 x.err_] W fun e w' => e = .returned (.bool (amt 0 x.err_)) ∧ Below W.heap.size W w') := zI fun W hW => isAmount_any _ W
 obtain ⟨R, hR⟩ : ∃ R, zfQ x.plain = R := ⟨_, rfl⟩
 rw [hR]
 have HRR : Hid (R = ((zeX (bs x.l_)) && ((amt 0 x.N_) && ((amt 0 x.err_))))) := zI (hR.symm.trans (show zfQ x.plain = ((zeX (bs x.l_)) && ((amt 0 x.N_) && ((amt 0 x.err_)))) from by simp [zfQ, ME_.plain, hu]))
 clear hR
 obtain ⟨b1, hb1⟩ : ∃ b, (zeX (bs x.l_)) = b := ⟨_, rfl⟩
 rw [hb1] at HRR
 rw [hb1] at H1
 clear hb1
 obtain ⟨b2, hb2⟩ : ∃ b, (amt 0 x.N_) = b := ⟨_, rfl⟩
 rw [hb2] at HRR
 rw [hb2] at H2
 clear hb2
 obtain ⟨b3, hb3⟩ : ∃ b, (amt 0 x.err_) = b := ⟨_, rfl⟩
 rw [hb3] at HRR
 rw [hb3] at H3
 clear hb3
 have HW1 := zI hw1
 have HK1 := zI k1
 clear hw1 k1
 have hs0 := hA.size
 have hT0 : Below w1.heap.size w1 w1 := Below.refl _ _
 clear hx
 go_enter Tryz.func151, Tryz.ntmps151
 have z0 := (HK1.out.below hT0 HK1.out.lt).cell 0
 have z2 := (HK1.out.below hT0 HK1.out.lt).cell 2
 simp only [gZa, gZb] at z0 z2
 go_wp2_with fail
 rw [HW1.out]
 try go_wp2_with fail
 refine (H1.out _ hT0).mono ?_
 rintro e v1 ⟨rfl, hV1⟩
 have hT1 : Below w1.heap.size w1 v1 := hT0.trans (hV1.mono hT0.size)
 have hX1 : Below w.heap.size w v1 := hA.trans (hT1.mono hs0)
 rcases b1 with _ | _
 · skip
   go_wp2
   go_ret
   exact ⟨zaZ (by rw [HRR.out]; rfl), hX1⟩
 · skip
   have z1 := (HK1.out.below hT1 HK1.out.lt).cell 1
   simp only [gZa, gZb] at z1
   go_wp2_with fail
   refine (H2.out _ hT1).mono ?_
   rintro e v2 ⟨rfl, hV2⟩
   have hT2 : Below w1.heap.size w1 v2 := hT1.trans (hV2.mono hT1.size)
   have hX2 : Below w.heap.size w v2 := hA.trans (hT2.mono hs0)
   rcases b2 with _ | _
   · skip
     go_wp2
     go_ret
     exact ⟨zaZ (by rw [HRR.out]; rfl), hX2⟩
   · skip
     have z3 := (HK1.out.below hT2 HK1.out.lt).cell 3
     simp only [gZa, gZb] at z3
     go_wp2_with fail
     refine (H3.out _ hT2).mono ?_
     rintro e v3 ⟨rfl, hV3⟩
     have hT3 : Below w1.heap.size w1 v3 := hT2.trans (hV3.mono hT2.size)
     have hX3 : Below w.heap.size w v3 := hA.trans (hT3.mono hs0)
     rcases b3 with _ | _
     · skip
       go_wp2
       go_ret
       exact ⟨zaZ (by rw [HRR.out]; rfl), hX3⟩
     · skip
       go_wp2
       go_ret
       exact ⟨zaZ (by rw [HRR.out]; rfl), hX3⟩
theorem isEntry_n (x : ME_) (hu : ¬ x.O_ = ByteArray.empty) (w : World) (hx : x.Good w) :
 Calls Tryz.prog 151 #[.agg #[.string x.O_, .int .i64 x.N_, .string x.l_, .int .i64 x.err_]] w fun e w' => e = .returned (.bool (zfQ x.plain)) ∧ Below w.heap.size w w' := by
 have he := isEmpty_no hu
 obtain ⟨w1, hw1⟩ : ∃ w1, w.alloc (.cells #[.string x.O_, .int .i64 x.N_, .string x.l_, .int .i64 x.err_] 104) = w1 := ⟨_, rfl⟩
 have hB1 : Below w.heap.size w w1 := hw1 ▸ (Below.refl _ w).alloc (Nat.le_refl _) _
 have k1 : Blk w1 w.heap.size 104 [.string x.O_, .int .i64 x.N_, .string x.l_, .int .i64 x.err_] := hw1 ▸ Blk.new w _ _
 have hA : Below w.heap.size w w1 := hB1
 have H1 : Hid (∀ W, Below w1.heap.size w1 W → Calls Tryz.prog 45 #[.string x.O_] W fun e w' => e = .returned (.bool (zaQ (bs x.O_))) ∧ Below W.heap.size W w') := zI fun W hW => nameB _ W
 have H2 : Hid (∀ W, Below w1.heap.size w1 W → Calls Tryz.prog 44 #[.string x.l_] W fun e w' => e = .returned (.bool (zeX (bs x.l_))) ∧ Below W.heap.size W w') := zI fun W hW => path_any _ (by have := hx.C_; omega) W
 have H3 : Hid (∀ W, Below w1.heap.size w1 W → Calls Tryz.prog 86 #[.int .i64 x.N_] W fun e w' => e = .returned (.bool (amt 0 x.N_)) ∧ Below W.heap.size W w') := zI fun W hW => isAmount_any _ W
 have H4 : Hid (∀ W, Below w1.heap.size w1 W → Calls Tryz.prog 86 #[.int .i64 x.err_] W fun e w' => e = .returned (.bool (amt 0 x.err_)) ∧ Below W.heap.size W w') := zI fun W hW => isAmount_any _ W
 obtain ⟨R, hR⟩ : ∃ R, zfQ x.plain = R := ⟨_, rfl⟩
 rw [hR]
 have HRR : Hid (R = ((zaQ (bs x.O_)) && ((zeX (bs x.l_)) && ((amt 0 x.N_) && ((amt 0 x.err_)))))) := zI (hR.symm.trans (show zfQ x.plain = ((zaQ (bs x.O_)) && ((zeX (bs x.l_)) && ((amt 0 x.N_) && ((amt 0 x.err_))))) from by simp [zfQ, ME_.plain, hu]))
 clear hR
 obtain ⟨b1, hb1⟩ : ∃ b, (zaQ (bs x.O_)) = b := ⟨_, rfl⟩
 rw [hb1] at HRR
 rw [hb1] at H1
 clear hb1
 obtain ⟨b2, hb2⟩ : ∃ b, (zeX (bs x.l_)) = b := ⟨_, rfl⟩
 rw [hb2] at HRR
 rw [hb2] at H2
 clear hb2
 obtain ⟨b3, hb3⟩ : ∃ b, (amt 0 x.N_) = b := ⟨_, rfl⟩
 rw [hb3] at HRR
 rw [hb3] at H3
 clear hb3
 obtain ⟨b4, hb4⟩ : ∃ b, (amt 0 x.err_) = b := ⟨_, rfl⟩
 rw [hb4] at HRR
 rw [hb4] at H4
 clear hb4
 have HW1 := zI hw1
 have HK1 := zI k1
 clear hw1 k1
 have hs0 := hA.size
 have hT0 : Below w1.heap.size w1 w1 := Below.refl _ _
 clear hx
 go_enter Tryz.func151, Tryz.ntmps151
 have z0 := (HK1.out.below hT0 HK1.out.lt).cell 0
 simp only [gZa, gZb] at z0
 go_wp2_with fail
 rw [HW1.out]
 try go_wp2_with fail
 refine (H1.out _ hT0).mono ?_
 rintro e v1 ⟨rfl, hV1⟩
 have hT1 : Below w1.heap.size w1 v1 := hT0.trans (hV1.mono hT0.size)
 have hX1 : Below w.heap.size w v1 := hA.trans (hT1.mono hs0)
 rcases b1 with _ | _
 · skip
   go_wp2
   go_ret
   exact ⟨zaZ (by rw [HRR.out]; rfl), hX1⟩
 · skip
   have z0 := (HK1.out.below hT1 HK1.out.lt).cell 0
   have z2 := (HK1.out.below hT1 HK1.out.lt).cell 2
   simp only [gZa, gZb] at z0 z2
   go_wp2_with fail
   refine (H2.out _ hT1).mono ?_
   rintro e v2 ⟨rfl, hV2⟩
   have hT2 : Below w1.heap.size w1 v2 := hT1.trans (hV2.mono hT1.size)
   have hX2 : Below w.heap.size w v2 := hA.trans (hT2.mono hs0)
   rcases b2 with _ | _
   · skip
     go_wp2
     go_ret
     exact ⟨zaZ (by rw [HRR.out]; rfl), hX2⟩
   · skip
     have z1 := (HK1.out.below hT2 HK1.out.lt).cell 1
     simp only [gZa, gZb] at z1
     go_wp2_with fail
     refine (H3.out _ hT2).mono ?_
     rintro e v3 ⟨rfl, hV3⟩
     have hT3 : Below w1.heap.size w1 v3 := hT2.trans (hV3.mono hT2.size)
     have hX3 : Below w.heap.size w v3 := hA.trans (hT3.mono hs0)
     rcases b3 with _ | _
     · skip
       go_wp2
       go_ret
       exact ⟨zaZ (by rw [HRR.out]; rfl), hX3⟩
     · skip
       have z3 := (HK1.out.below hT3 HK1.out.lt).cell 3
       simp only [gZa, gZb] at z3
       go_wp2_with fail
       refine (H4.out _ hT3).mono ?_
       rintro e v4 ⟨rfl, hV4⟩
       have hT4 : Below w1.heap.size w1 v4 := hT3.trans (hV4.mono hT3.size)
       have hX4 : Below w.heap.size w v4 := hA.trans (hT4.mono hs0)
       rcases b4 with _ | _
       · skip
         go_wp2
         go_ret
         exact ⟨zaZ (by rw [HRR.out]; rfl), hX4⟩
       · skip
         go_wp2
         go_ret
         exact ⟨zaZ (by rw [HRR.out]; rfl), hX4⟩
theorem isEntry_any (x : ME_) (w : World) (hx : x.Good w) :
 Calls Tryz.prog 151 #[.agg x.cells.toArray] w fun e w' => e = .returned (.bool (zfQ x.plain)) ∧ Below w.heap.size w w' := by
 by_cases hu : x.O_ = ByteArray.empty
 · have := isEntry_e x hu w hx
   rw [← hu] at this
   exact this
 · exact isEntry_n x hu w hx
set_option maxHeartbeats 1000000
set_option linter.unusedVariables false
theorem empty_isEmpty : ByteArray.empty.toList.isEmpty = true := by
 rw [Lib.toList_data]
 rfl
theorem sum_yes {x : MSum} (h : zeroSum x.plain = true) : (x.a_ == 0) = true ∧ (x.b_ == 0) = true ∧ (x.c_ == 0) = true ∧ (x.d_ == 0) = true := by
 have e := of_decide_eq_true h
 rw [PSum.eq_iff] at e
 obtain ⟨e1, e2, e3, e4⟩ := e
 exact ⟨beq_iff_eq.2 e1, beq_iff_eq.2 e2, beq_iff_eq.2 e3, beq_iff_eq.2 e4⟩
theorem sum_no {x : MSum} (h : zeroSum x.plain = false) : (x.a_ == 0) = false ∨ ((x.a_ == 0) = true ∧ (x.b_ == 0) = false) ∨ ((x.a_ == 0) = true ∧ (x.b_ == 0) = true ∧ (x.c_ == 0) = false) ∨ ((x.a_ == 0) = true ∧ (x.b_ == 0) = true ∧ (x.c_ == 0) = true ∧ (x.d_ == 0) = false) := by
 have e := of_decide_eq_false h
 rw [PSum.eq_iff] at e
 rcases h1 : x.a_ == 0 with _ | _
 · exact .inl rfl
 rcases h2 : x.b_ == 0 with _ | _
 · exact .inr (.inl ⟨rfl, rfl⟩)
 rcases h3 : x.c_ == 0 with _ | _
 · exact .inr (.inr (.inl ⟨rfl, rfl, rfl⟩))
 rcases h4 : x.d_ == 0 with _ | _
 · exact .inr (.inr (.inr ⟨rfl, rfl, rfl, rfl⟩))
 exact absurd ⟨beq_iff_eq.1 h1, beq_iff_eq.1 h2, beq_iff_eq.1 h3, beq_iff_eq.1 h4⟩ e
theorem isBegin_any (x : MR_) (w : World) (hx : x.Good w) :
 Calls Tryz.prog 184 #[.agg #[.int .i64 x.N_, .string x.x_, .int .i64 x.from_, .int .i64 x.z_, .slice x.j_.A x.j_.l.length x.j_.c, .int .i64 x.E_, .int .i64 x.Y_, .string x.P_, .int .u64 x.T_.a_, .int .u64 x.T_.b_, .int .u64 x.T_.c_, .int .u64 x.T_.d_]] w fun e w' => e = .returned (.bool ((decide (x.N_ = 1) && (zaQ (bs x.x_) && (amt 0 x.from_ && (amt 1 x.z_ && (decide (x.E_ = 0) && (decide (x.Y_ = 0) && (decide (x.P_ = ByteArray.empty) && zeroSum x.T_.plain))))))))) ∧ Below w.heap.size w w' := by
 obtain ⟨w1, hw1⟩ : ∃ w1, w.alloc (.cells #[.int .i64 x.N_, .string x.x_, .int .i64 x.from_, .int .i64 x.z_, .slice x.j_.A x.j_.l.length x.j_.c, .int .i64 x.E_, .int .i64 x.Y_, .string x.P_, .int .u64 x.T_.a_, .int .u64 x.T_.b_, .int .u64 x.T_.c_, .int .u64 x.T_.d_] 89) = w1 := ⟨_, rfl⟩
 have hB1 : Below w.heap.size w w1 := hw1 ▸ (Below.refl _ w).alloc (Nat.le_refl _) _
 have k1 : Blk w1 w.heap.size 89 [.int .i64 x.N_, .string x.x_, .int .i64 x.from_, .int .i64 x.z_, .slice x.j_.A x.j_.l.length x.j_.c, .int .i64 x.E_, .int .i64 x.Y_, .string x.P_, .int .u64 x.T_.a_, .int .u64 x.T_.b_, .int .u64 x.T_.c_, .int .u64 x.T_.d_] := hw1 ▸ Blk.new w _ _
 have hA : Below w.heap.size w w1 := hB1
 have H2 : Hid (∀ W, Below w1.heap.size w1 W → Calls Tryz.prog 45 #[.string x.x_] W fun e w' => e = .returned (.bool (zaQ (bs x.x_))) ∧ Below W.heap.size W w') := zI fun W hW => nameB _ W
 have H3 : Hid (∀ W, Below w1.heap.size w1 W → Calls Tryz.prog 86 #[.int .i64 x.from_] W fun e w' => e = .returned (.bool (amt 0 x.from_)) ∧ Below W.heap.size W w') := zI fun W hW => isAmount_any _ W
 have H4 : Hid (∀ W, Below w1.heap.size w1 W → Calls Tryz.prog 87 #[.int .i64 x.z_] W fun e w' => e = .returned (.bool (amt 1 x.z_)) ∧ Below W.heap.size W w') := zI fun W hW => isFrom1_any _ W
 obtain ⟨R, hR⟩ : ∃ R, (decide (x.N_ = 1) && (zaQ (bs x.x_) && (amt 0 x.from_ && (amt 1 x.z_ && (decide (x.E_ = 0) && (decide (x.Y_ = 0) && (decide (x.P_ = ByteArray.empty) && zeroSum x.T_.plain))))))) = R := ⟨_, rfl⟩
 rw [hR]
 have HRR : Hid (R = ((decide (x.N_ = 1)) && ((zaQ (bs x.x_)) && ((amt 0 x.from_) && ((amt 1 x.z_) && ((decide (x.E_ = 0)) && ((decide (x.Y_ = 0)) && ((decide (x.P_ = ByteArray.empty)) && ((zeroSum x.T_.plain)))))))))) := zI (hR.symm.trans (show (decide (x.N_ = 1) && (zaQ (bs x.x_) && (amt 0 x.from_ && (amt 1 x.z_ && (decide (x.E_ = 0) && (decide (x.Y_ = 0) && (decide (x.P_ = ByteArray.empty) && zeroSum x.T_.plain))))))) = ((decide (x.N_ = 1)) && ((zaQ (bs x.x_)) && ((amt 0 x.from_) && ((amt 1 x.z_) && ((decide (x.E_ = 0)) && ((decide (x.Y_ = 0)) && ((decide (x.P_ = ByteArray.empty)) && ((zeroSum x.T_.plain))))))))) from by rfl))
 clear hR
 obtain ⟨b1, hb1⟩ : ∃ b, (decide (x.N_ = 1)) = b := ⟨_, rfl⟩
 rw [hb1] at HRR
 obtain ⟨b2, hb2⟩ : ∃ b, (zaQ (bs x.x_)) = b := ⟨_, rfl⟩
 rw [hb2] at HRR
 rw [hb2] at H2
 clear hb2
 obtain ⟨b3, hb3⟩ : ∃ b, (amt 0 x.from_) = b := ⟨_, rfl⟩
 rw [hb3] at HRR
 rw [hb3] at H3
 clear hb3
 obtain ⟨b4, hb4⟩ : ∃ b, (amt 1 x.z_) = b := ⟨_, rfl⟩
 rw [hb4] at HRR
 rw [hb4] at H4
 clear hb4
 obtain ⟨b5, hb5⟩ : ∃ b, (decide (x.E_ = 0)) = b := ⟨_, rfl⟩
 rw [hb5] at HRR
 obtain ⟨b6, hb6⟩ : ∃ b, (decide (x.Y_ = 0)) = b := ⟨_, rfl⟩
 rw [hb6] at HRR
 obtain ⟨b7, hb7⟩ : ∃ b, (decide (x.P_ = ByteArray.empty)) = b := ⟨_, rfl⟩
 rw [hb7] at HRR
 obtain ⟨b8, hb8⟩ : ∃ b, (zeroSum x.T_.plain) = b := ⟨_, rfl⟩
 rw [hb8] at HRR
 have HW1 := zI hw1
 have HK1 := zI k1
 clear hw1 k1
 have hs0 := hA.size
 have hT0 : Below w1.heap.size w1 w1 := Below.refl _ _
 clear hx
 go_enter Tryz.func184, Tryz.ntmps184
 have z0 := (HK1.out.below hT0 HK1.out.lt).cell 0
 simp only [gZa, gZb] at z0
 go_upto_region 1 with fail
 rw [HW1.out]
 rcases b1 with _ | _
 · have ht1 : (x.N_ == 1) = false := beq_eq_false_iff_ne.2 (of_decide_eq_false hb1)
   go_wp2
   go_ret
   exact ⟨zaZ (by rw [HRR.out]; rfl), (hA.trans (hT0.mono hs0))⟩
 · have ht1 : (x.N_ == 1) = true := beq_iff_eq.2 (of_decide_eq_true hb1)
   have z1 := (HK1.out.below hT0 HK1.out.lt).cell 1
   simp only [gZa, gZb] at z1
   go_wp2_with fail
   refine (H2.out _ hT0).mono ?_
   rintro e v2 ⟨rfl, hV2⟩
   have hT2 : Below w1.heap.size w1 v2 := hT0.trans (hV2.mono hT0.size)
   have hX2 : Below w.heap.size w v2 := hA.trans (hT2.mono hs0)
   rcases b2 with _ | _
   · skip
     go_wp2
     go_ret
     exact ⟨zaZ (by rw [HRR.out]; rfl), hX2⟩
   · skip
     have z2 := (HK1.out.below hT2 HK1.out.lt).cell 2
     simp only [gZa, gZb] at z2
     go_wp2_with fail
     refine (H3.out _ hT2).mono ?_
     rintro e v3 ⟨rfl, hV3⟩
     have hT3 : Below w1.heap.size w1 v3 := hT2.trans (hV3.mono hT2.size)
     have hX3 : Below w.heap.size w v3 := hA.trans (hT3.mono hs0)
     rcases b3 with _ | _
     · skip
       go_wp2
       go_ret
       exact ⟨zaZ (by rw [HRR.out]; rfl), hX3⟩
     · skip
       have z3 := (HK1.out.below hT3 HK1.out.lt).cell 3
       simp only [gZa, gZb] at z3
       go_wp2_with fail
       refine (H4.out _ hT3).mono ?_
       rintro e v4 ⟨rfl, hV4⟩
       have hT4 : Below w1.heap.size w1 v4 := hT3.trans (hV4.mono hT3.size)
       have hX4 : Below w.heap.size w v4 := hA.trans (hT4.mono hs0)
       rcases b4 with _ | _
       · skip
         go_wp2
         go_ret
         exact ⟨zaZ (by rw [HRR.out]; rfl), hX4⟩
       · skip
         have z5 := (HK1.out.below hT4 HK1.out.lt).cell 5
         simp only [gZa, gZb] at z5
         rcases b5 with _ | _
         · have ht5 : (x.E_ == 0) = false := beq_eq_false_iff_ne.2 (of_decide_eq_false hb5)
           go_wp2
           go_ret
           exact ⟨zaZ (by rw [HRR.out]; rfl), (hA.trans (hT4.mono hs0))⟩
         · have ht5 : (x.E_ == 0) = true := beq_iff_eq.2 (of_decide_eq_true hb5)
           have z6 := (HK1.out.below hT4 HK1.out.lt).cell 6
           simp only [gZa, gZb] at z6
           rcases b6 with _ | _
           · have ht6 : (x.Y_ == 0) = false := beq_eq_false_iff_ne.2 (of_decide_eq_false hb6)
             go_wp2
             go_ret
             exact ⟨zaZ (by rw [HRR.out]; rfl), (hA.trans (hT4.mono hs0))⟩
           · have ht6 : (x.Y_ == 0) = true := beq_iff_eq.2 (of_decide_eq_true hb6)
             have z7 := (HK1.out.below hT4 HK1.out.lt).cell 7
             simp only [gZa, gZb] at z7
             rcases b7 with _ | _
             · have he : x.P_.toList.isEmpty = false := isEmpty_no (of_decide_eq_false hb7)
               go_wp2
               go_ret
               exact ⟨zaZ (by rw [HRR.out]; rfl), (hA.trans (hT4.mono hs0))⟩
             · have he : x.P_.toList.isEmpty = true := by rw [of_decide_eq_true hb7]; exact empty_isEmpty
               have z8 := (HK1.out.below hT4 HK1.out.lt).cell 8
               have z9 := (HK1.out.below hT4 HK1.out.lt).cell 9
               have z10 := (HK1.out.below hT4 HK1.out.lt).cell 10
               have z11 := (HK1.out.below hT4 HK1.out.lt).cell 11
               simp only [gZa, gZb] at z8 z9 z10 z11
               rcases b8 with _ | _
               · rcases sum_no hb8 with h1 | ⟨h1, h2⟩ | ⟨h1, h2, h3⟩ | ⟨h1, h2, h3, h4⟩
                 all_goals
                  go_wp2
                  go_ret
                  exact ⟨zaZ (by rw [HRR.out]; rfl), (hA.trans (hT4.mono hs0))⟩
               · obtain ⟨h1, h2, h3, h4⟩ := sum_yes hb8
                 go_wp2
                 go_ret
                 exact ⟨zaZ (by rw [HRR.out]; rfl), (hA.trans (hT4.mono hs0))⟩
def begB (r : PRecord) : Bool := decide (r.N_ = 1) && (zaQ (bs r.x_) && (amt 0 r.from_ && (amt 1 r.z_ && (decide (r.E_ = 0) && (decide (r.Y_ = 0) && (decide (r.P_ = ByteArray.empty) && zeroSum r.T_))))))
theorem begB_own (r : PRecord) : beginB r = (begB r && okP r.j_) := by
 simp only [beginB, begB, Bool.and_assoc, Bool.and_comm, Bool.and_left_comm]
theorem isStage_any (x : Mta) (w : World) (hx : x.Good w) :
 Calls Tryz.prog 147 #[.agg #[.string x.S_, .int .i64 x.o_.N_, .string x.o_.x_, .int .i64 x.o_.from_, .int .i64 x.o_.z_, .slice x.o_.j_.A x.o_.j_.l.length x.o_.j_.c, .int .i64 x.o_.E_, .int .i64 x.o_.Y_, .string x.o_.P_, .int .u64 x.o_.T_.a_, .int .u64 x.o_.T_.b_, .int .u64 x.o_.T_.c_, .int .u64 x.o_.T_.d_, .slice x.p_.A x.p_.l.length x.p_.c, .int .i64 x.at_, .int .i64 x.v_, .int .u64 x.T_.a_, .int .u64 x.T_.b_, .int .u64 x.T_.c_, .int .u64 x.T_.d_, .bool x.done_]] w fun e w' => e = .returned (.bool (zeZ x.plain)) ∧ Below w.heap.size w w' := by
 obtain ⟨w1, hw1⟩ : ∃ w1, w.alloc (.cells #[.string x.S_, .int .i64 x.o_.N_, .string x.o_.x_, .int .i64 x.o_.from_, .int .i64 x.o_.z_, .slice x.o_.j_.A x.o_.j_.l.length x.o_.j_.c, .int .i64 x.o_.E_, .int .i64 x.o_.Y_, .string x.o_.P_, .int .u64 x.o_.T_.a_, .int .u64 x.o_.T_.b_, .int .u64 x.o_.T_.c_, .int .u64 x.o_.T_.d_, .slice x.p_.A x.p_.l.length x.p_.c, .int .i64 x.at_, .int .i64 x.v_, .int .u64 x.T_.a_, .int .u64 x.T_.b_, .int .u64 x.T_.c_, .int .u64 x.T_.d_, .bool x.done_] 91) = w1 := ⟨_, rfl⟩
 have hB1 : Below w.heap.size w w1 := hw1 ▸ (Below.refl _ w).alloc (Nat.le_refl _) _
 have k1 : Blk w1 w.heap.size 91 [.string x.S_, .int .i64 x.o_.N_, .string x.o_.x_, .int .i64 x.o_.from_, .int .i64 x.o_.z_, .slice x.o_.j_.A x.o_.j_.l.length x.o_.j_.c, .int .i64 x.o_.E_, .int .i64 x.o_.Y_, .string x.o_.P_, .int .u64 x.o_.T_.a_, .int .u64 x.o_.T_.b_, .int .u64 x.o_.T_.c_, .int .u64 x.o_.T_.d_, .slice x.p_.A x.p_.l.length x.p_.c, .int .i64 x.at_, .int .i64 x.v_, .int .u64 x.T_.a_, .int .u64 x.T_.b_, .int .u64 x.T_.c_, .int .u64 x.T_.d_, .bool x.done_] := hw1 ▸ Blk.new w _ _
 have hA : Below w.heap.size w w1 := hB1
 have H2 : Hid (∀ W, Below w1.heap.size w1 W → Calls Tryz.prog 44 #[.string x.S_] W fun e w' => e = .returned (.bool (zeX (bs x.S_))) ∧ Below W.heap.size W w') := zI fun W hW => path_any _ (by have := hx.ginto_; omega) W
 have H3 : Hid (∀ W, Below w1.heap.size w1 W → Calls Tryz.prog 184 #[.agg #[.int .i64 x.o_.N_, .string x.o_.x_, .int .i64 x.o_.from_, .int .i64 x.o_.z_, .slice x.o_.j_.A x.o_.j_.l.length x.o_.j_.c, .int .i64 x.o_.E_, .int .i64 x.o_.Y_, .string x.o_.P_, .int .u64 x.o_.T_.a_, .int .u64 x.o_.T_.b_, .int .u64 x.o_.T_.c_, .int .u64 x.o_.T_.d_]] W fun e w' => e = .returned (.bool (begB x.o_.plain)) ∧ Below W.heap.size W w') := zI fun W hW => isBegin_any x.o_ W (hx.X_.below (hA.trans (hW.mono hA.size)))
 have H4 : Hid (∀ W, Below w1.heap.size w1 W → Calls Tryz.prog 172 #[.slice x.p_.A x.p_.l.length x.p_.c, .slice x.o_.j_.A x.o_.j_.l.length x.o_.j_.c] W fun e w' => e = .returned (.bool (okK x.p_.l && okP x.o_.j_.l)) ∧ Below W.heap.size W w') := zI fun W hW => mayHold_any _ _ W (hx.K_.below (hA.trans (hW.mono hA.size)) fun _ h => h) (hx.X_.G_.below (hA.trans (hW.mono hA.size)) fun _ h => h)
 have H5 : Hid (∀ W, Below w1.heap.size w1 W → Calls Tryz.prog 86 #[.int .i64 x.at_] W fun e w' => e = .returned (.bool (amt 0 x.at_)) ∧ Below W.heap.size W w') := zI fun W hW => isAmount_any _ W
 have H6 : Hid (∀ W, Below w1.heap.size w1 W → Calls Tryz.prog 86 #[.int .i64 x.v_] W fun e w' => e = .returned (.bool (amt 0 x.v_)) ∧ Below W.heap.size W w') := zI fun W hW => isAmount_any _ W
 obtain ⟨R, hR⟩ : ∃ R, zeZ x.plain = R := ⟨_, rfl⟩
 rw [hR]
 have HRR : Hid (R = ((decide (x.S_ ≠ ByteArray.empty)) && ((zeX (bs x.S_)) && ((begB x.o_.plain) && (((okK x.p_.l && okP x.o_.j_.l)) && ((amt 0 x.at_) && ((amt 0 x.v_)))))))) := zI (hR.symm.trans (show zeZ x.plain = ((decide (x.S_ ≠ ByteArray.empty)) && ((zeX (bs x.S_)) && ((begB x.o_.plain) && (((okK x.p_.l && okP x.o_.j_.l)) && ((amt 0 x.at_) && ((amt 0 x.v_))))))) from by simp only [zeZ, Mta.plain, begB_own]; rw [show x.o_.plain.j_ = x.o_.j_.l from rfl]; simp only [Bool.and_assoc, Bool.and_comm, Bool.and_left_comm]; try rfl))
 clear hR
 obtain ⟨b1, hb1⟩ : ∃ b, (decide (x.S_ ≠ ByteArray.empty)) = b := ⟨_, rfl⟩
 rw [hb1] at HRR
 obtain ⟨b2, hb2⟩ : ∃ b, (zeX (bs x.S_)) = b := ⟨_, rfl⟩
 rw [hb2] at HRR
 rw [hb2] at H2
 clear hb2
 obtain ⟨b3, hb3⟩ : ∃ b, (begB x.o_.plain) = b := ⟨_, rfl⟩
 rw [hb3] at HRR
 rw [hb3] at H3
 clear hb3
 obtain ⟨b4, hb4⟩ : ∃ b, ((okK x.p_.l && okP x.o_.j_.l)) = b := ⟨_, rfl⟩
 rw [hb4] at HRR
 rw [hb4] at H4
 clear hb4
 obtain ⟨b5, hb5⟩ : ∃ b, (amt 0 x.at_) = b := ⟨_, rfl⟩
 rw [hb5] at HRR
 rw [hb5] at H5
 clear hb5
 obtain ⟨b6, hb6⟩ : ∃ b, (amt 0 x.v_) = b := ⟨_, rfl⟩
 rw [hb6] at HRR
 rw [hb6] at H6
 clear hb6
 have HW1 := zI hw1
 have HK1 := zI k1
 clear hw1 k1
 have hs0 := hA.size
 have hT0 : Below w1.heap.size w1 w1 := Below.refl _ _
 clear hx
 go_enter Tryz.func147, Tryz.ntmps147
 have z0 := (HK1.out.below hT0 HK1.out.lt).cell 0
 simp only [gZa, gZb] at z0
 go_upto_region 1 with fail
 rw [HW1.out]
 rcases b1 with _ | _
 · have he : x.S_.toList.isEmpty = true := by have := of_decide_eq_false hb1; rw [show x.S_ = ByteArray.empty from Classical.byContradiction this]; exact empty_isEmpty
   go_wp2
   go_ret
   exact ⟨zaZ (by rw [HRR.out]; rfl), (hA.trans (hT0.mono hs0))⟩
 · have he : x.S_.toList.isEmpty = false := isEmpty_no (of_decide_eq_true hb1)
   have z0 := (HK1.out.below hT0 HK1.out.lt).cell 0
   simp only [gZa, gZb] at z0
   go_wp2_with fail
   refine (H2.out _ hT0).mono ?_
   rintro e v2 ⟨rfl, hV2⟩
   have hT2 : Below w1.heap.size w1 v2 := hT0.trans (hV2.mono hT0.size)
   have hX2 : Below w.heap.size w v2 := hA.trans (hT2.mono hs0)
   rcases b2 with _ | _
   · skip
     go_wp2
     go_ret
     exact ⟨zaZ (by rw [HRR.out]; rfl), hX2⟩
   · skip
     have z1 := (HK1.out.below hT2 HK1.out.lt).cell 1
     have z2 := (HK1.out.below hT2 HK1.out.lt).cell 2
     have z3 := (HK1.out.below hT2 HK1.out.lt).cell 3
     have z4 := (HK1.out.below hT2 HK1.out.lt).cell 4
     have z5 := (HK1.out.below hT2 HK1.out.lt).cell 5
     have z6 := (HK1.out.below hT2 HK1.out.lt).cell 6
     have z7 := (HK1.out.below hT2 HK1.out.lt).cell 7
     have z8 := (HK1.out.below hT2 HK1.out.lt).cell 8
     have z9 := (HK1.out.below hT2 HK1.out.lt).cell 9
     have z10 := (HK1.out.below hT2 HK1.out.lt).cell 10
     have z11 := (HK1.out.below hT2 HK1.out.lt).cell 11
     have z12 := (HK1.out.below hT2 HK1.out.lt).cell 12
     simp only [gZa, gZb] at z1 z2 z3 z4 z5 z6 z7 z8 z9 z10 z11 z12
     go_wp2_with fail
     refine (H3.out _ hT2).mono ?_
     rintro e v3 ⟨rfl, hV3⟩
     have hT3 : Below w1.heap.size w1 v3 := hT2.trans (hV3.mono hT2.size)
     have hX3 : Below w.heap.size w v3 := hA.trans (hT3.mono hs0)
     rcases b3 with _ | _
     · skip
       go_wp2
       go_ret
       exact ⟨zaZ (by rw [HRR.out]; rfl), hX3⟩
     · skip
       have z13 := (HK1.out.below hT3 HK1.out.lt).cell 13
       have z5 := (HK1.out.below hT3 HK1.out.lt).cell 5
       simp only [gZa, gZb] at z13 z5
       go_wp2_with fail
       refine (H4.out _ hT3).mono ?_
       rintro e v4 ⟨rfl, hV4⟩
       have hT4 : Below w1.heap.size w1 v4 := hT3.trans (hV4.mono hT3.size)
       have hX4 : Below w.heap.size w v4 := hA.trans (hT4.mono hs0)
       rcases b4 with _ | _
       · skip
         go_wp2
         go_ret
         exact ⟨zaZ (by rw [HRR.out]; rfl), hX4⟩
       · skip
         have z14 := (HK1.out.below hT4 HK1.out.lt).cell 14
         simp only [gZa, gZb] at z14
         go_wp2_with fail
         refine (H5.out _ hT4).mono ?_
         rintro e v5 ⟨rfl, hV5⟩
         have hT5 : Below w1.heap.size w1 v5 := hT4.trans (hV5.mono hT4.size)
         have hX5 : Below w.heap.size w v5 := hA.trans (hT5.mono hs0)
         rcases b5 with _ | _
         · skip
           go_wp2
           go_ret
           exact ⟨zaZ (by rw [HRR.out]; rfl), hX5⟩
         · skip
           have z15 := (HK1.out.below hT5 HK1.out.lt).cell 15
           simp only [gZa, gZb] at z15
           go_wp2_with fail
           refine (H6.out _ hT5).mono ?_
           rintro e v6 ⟨rfl, hV6⟩
           have hT6 : Below w1.heap.size w1 v6 := hT5.trans (hV6.mono hT5.size)
           have hX6 : Below w.heap.size w v6 := hA.trans (hT6.mono hs0)
           rcases b6 with _ | _
           · skip
             go_wp2
             go_ret
             exact ⟨zaZ (by rw [HRR.out]; rfl), hX6⟩
           · skip
             go_wp2
             go_ret
             exact ⟨zaZ (by rw [HRR.out]; rfl), hX6⟩
theorem into_any (x : Mta) (w : World) :
 Calls Tryz.prog 149 (#[.agg x.cells.toArray] ++ #[]) w fun e w' => e = .returned (.string x.S_) ∧ Below w.heap.size w w' := by
 obtain ⟨cs, hcs⟩ : ∃ cs, x.cells.toArray = cs := ⟨_, rfl⟩
 have h0 : cs[0]? = some (.string x.S_) := by rw [← hcs]; rfl
 obtain ⟨w1, hw1⟩ : ∃ w1, w.alloc (.cells cs 91) = w1 := ⟨_, rfl⟩
 have hB1 : Below w.heap.size w w1 := hw1 ▸ (Below.refl _ w).alloc (Nat.le_refl _) _
 have k1 : Blk w1 w.heap.size 91 cs.toList := hw1 ▸ Blk.new w cs.toList _
 have z0 := k1.cell 0
 rw [Array.getElem?_toList, h0] at z0
 have HW := zI hw1
 rw [hcs]
 clear hw1 k1 hcs h0
 go_enter Tryz.func149, Tryz.ntmps149
 go_upto_region 1 with fail
 rw [HW.out]
 go_wp2
 go_ret
 exact ⟨rfl, hB1⟩
theorem areStages_any (X : Sl Mta) (w : World) (hX : SlGood w Mta.cells (Mta.Good w) 224 X) :
 Calls Tryz.prog 90 #[.slice X.A X.l.length X.c] w fun e w' => e = .returned (.bool ((decide (X.l.length ≤ 4) && ((X.l.all fun x => zeZ x.plain) && riseB (fun a b : Mta => ltTx a.S_ b.S_) X.l)))) ∧ Below w.heap.size w w' := by
 have hA : Below w.heap.size w w := Below.refl _ _
 have H2 : Hid (∀ W, Below w.heap.size w W → Calls Tryz.prog 146 #[.slice X.A X.l.length X.c, .func (.func 147) #[] #[]] W fun e w' => e = .returned (.bool (X.l.all fun x => zeZ x.plain)) ∧ Below W.heap.size W w') := zI fun W hW => every_Stage (fun x => zeZ x.plain) _ #[] (enters_of Tryz.func147 (by kernel_rfl) rfl) _ _ _ _ rfl W (fun W2 x hm hB => isStage_any x W2 ((hX.el x hm).below (hW.trans (hB.mono hW.size)))) (by have := hX.len; omega) (hX.rd.below hW)
 have H3 : Hid (∀ W, Below w.heap.size w W → Calls Tryz.prog 148 #[.slice X.A X.l.length X.c, .func (.func 149) #[] #[]] W fun e w' => e = .returned (.bool (riseB (fun a b : Mta => ltTx a.S_ b.S_) X.l)) ∧ Below W.heap.size W w') := zI fun W hW => rising_Stage Mta.S_ _ #[] (enters_of Tryz.func149 (by kernel_rfl) rfl) _ _ _ _ rfl W (fun W2 x hB => into_any x W2) (by have := hX.len; omega) (hX.rd.below hW)
 obtain ⟨R, hR⟩ : ∃ R, (decide (X.l.length ≤ 4) && ((X.l.all fun x => zeZ x.plain) && riseB (fun a b : Mta => ltTx a.S_ b.S_) X.l)) = R := ⟨_, rfl⟩
 rw [hR]
 have HRR : Hid (R = ((decide (X.l.length ≤ 4)) && ((X.l.all fun x => zeZ x.plain) && ((riseB (fun a b : Mta => ltTx a.S_ b.S_) X.l))))) := zI (hR.symm.trans (show (decide (X.l.length ≤ 4) && ((X.l.all fun x => zeZ x.plain) && riseB (fun a b : Mta => ltTx a.S_ b.S_) X.l)) = ((decide (X.l.length ≤ 4)) && ((X.l.all fun x => zeZ x.plain) && ((riseB (fun a b : Mta => ltTx a.S_ b.S_) X.l)))) from by rfl))
 clear hR
 obtain ⟨b1, hb1⟩ : ∃ b, (decide (X.l.length ≤ 4)) = b := ⟨_, rfl⟩
 rw [hb1] at HRR
 obtain ⟨b2, hb2⟩ : ∃ b, (X.l.all fun x => zeZ x.plain) = b := ⟨_, rfl⟩
 rw [hb2] at HRR
 rw [hb2] at H2
 clear hb2
 obtain ⟨b3, hb3⟩ : ∃ b, (riseB (fun a b : Mta => ltTx a.S_ b.S_) X.l) = b := ⟨_, rfl⟩
 rw [hb3] at HRR
 rw [hb3] at H3
 clear hb3
 have hs0 := hA.size
 have hT0 : Below w.heap.size w w := Below.refl _ _
 clear hX
 go_enter Tryz.func90, Tryz.ntmps90
 rcases b1 with _ | _
 · have ht : ¬ ((X.l.length : Int) ≤ 4) := by have := of_decide_eq_false hb1; omega
   go_wp2
   go_ret
   exact ⟨zaZ (by rw [HRR.out]; rfl), (hA.trans (hT0.mono hs0))⟩
 · have ht : (X.l.length : Int) ≤ 4 := by have := of_decide_eq_true hb1; omega
   go_wp2_with fail
   refine (H2.out _ hT0).mono ?_
   rintro e v2 ⟨rfl, hV2⟩
   have hT2 : Below w.heap.size w v2 := hT0.trans (hV2.mono hT0.size)
   have hX2 : Below w.heap.size w v2 := hA.trans (hT2.mono hs0)
   rcases b2 with _ | _
   · skip
     go_wp2
     go_ret
     exact ⟨zaZ (by rw [HRR.out]; rfl), hX2⟩
   · skip
     go_wp2_with fail
     refine (H3.out _ hT2).mono ?_
     rintro e v3 ⟨rfl, hV3⟩
     have hT3 : Below w.heap.size w v3 := hT2.trans (hV3.mono hT2.size)
     have hX3 : Below w.heap.size w v3 := hA.trans (hT3.mono hs0)
     rcases b3 with _ | _
     · skip
       go_wp2
       go_ret
       exact ⟨zaZ (by rw [HRR.out]; rfl), hX3⟩
     · skip
       go_wp2
       go_ret
       exact ⟨zaZ (by rw [HRR.out]; rfl), hX3⟩
theorem areEntries_any (X : Sl ME_) (w : World) (hX : SlGood w ME_.cells (ME_.Good w) 48 X) :
 Calls Tryz.prog 91 #[.slice X.A X.l.length X.c] w fun e w' => e = .returned (.bool ((decide (X.l.length ≤ 16) && (X.l.all fun x => zfQ x.plain)))) ∧ Below w.heap.size w w' := by
 have hA : Below w.heap.size w w := Below.refl _ _
 have H2 : Hid (∀ W, Below w.heap.size w W → Calls Tryz.prog 150 #[.slice X.A X.l.length X.c, .func (.func 151) #[] #[]] W fun e w' => e = .returned (.bool (X.l.all fun x => zfQ x.plain)) ∧ Below W.heap.size W w') := zI fun W hW => every_Entry (fun x => zfQ x.plain) _ #[] (enters_of Tryz.func151 (by kernel_rfl) rfl) _ _ _ _ rfl W (fun W2 x hm hB => isEntry_any x W2 ((hX.el x hm).below (hW.trans (hB.mono hW.size)))) (by have := hX.len; omega) (hX.rd.below hW)
 obtain ⟨R, hR⟩ : ∃ R, (decide (X.l.length ≤ 16) && (X.l.all fun x => zfQ x.plain)) = R := ⟨_, rfl⟩
 rw [hR]
 have HRR : Hid (R = ((decide (X.l.length ≤ 16)) && ((X.l.all fun x => zfQ x.plain)))) := zI (hR.symm.trans (show (decide (X.l.length ≤ 16) && (X.l.all fun x => zfQ x.plain)) = ((decide (X.l.length ≤ 16)) && ((X.l.all fun x => zfQ x.plain))) from by rfl))
 clear hR
 obtain ⟨b1, hb1⟩ : ∃ b, (decide (X.l.length ≤ 16)) = b := ⟨_, rfl⟩
 rw [hb1] at HRR
 obtain ⟨b2, hb2⟩ : ∃ b, (X.l.all fun x => zfQ x.plain) = b := ⟨_, rfl⟩
 rw [hb2] at HRR
 rw [hb2] at H2
 clear hb2
 have hs0 := hA.size
 have hT0 : Below w.heap.size w w := Below.refl _ _
 clear hX
 go_enter Tryz.func91, Tryz.ntmps91
 rcases b1 with _ | _
 · have ht : ¬ ((X.l.length : Int) ≤ 16) := by have := of_decide_eq_false hb1; omega
   go_wp2
   go_ret
   exact ⟨zaZ (by rw [HRR.out]; rfl), (hA.trans (hT0.mono hs0))⟩
 · have ht : (X.l.length : Int) ≤ 16 := by have := of_decide_eq_true hb1; omega
   go_wp2_with fail
   refine (H2.out _ hT0).mono ?_
   rintro e v2 ⟨rfl, hV2⟩
   have hT2 : Below w.heap.size w v2 := hT0.trans (hV2.mono hT0.size)
   have hX2 : Below w.heap.size w v2 := hA.trans (hT2.mono hs0)
   rcases b2 with _ | _
   · skip
     go_wp2
     go_ret
     exact ⟨zaZ (by rw [HRR.out]; rfl), hX2⟩
   · skip
     go_wp2
     go_ret
     exact ⟨zaZ (by rw [HRR.out]; rfl), hX2⟩
theorem beqS (a b : ByteArray) : (a.toList == b.toList) = decide (a = b) := by
 rw [Bool.eq_iff_iff, beq_iff_eq, decide_eq_true_iff]
 constructor
 · intro h
   rw [Lib.toList_data, Lib.toList_data] at h
   exact ByteArray.ext (Array.toList_inj.1 h)
 · rintro rfl
   rfl
theorem find1_any (B0 : Nat) (p : ByteArray) (x : MSet) (w : World) (h0 : w.cell? ⟨B0, 0, none⟩ = some (.string p)) :
 Calls Tryz.prog 115 #[.agg x.cells.toArray, .pointer (some ⟨B0, 0, none⟩)] w fun e w' => e = .returned (.bool (decide (x.l_ = p))) ∧ Below w.heap.size w w' := by
 have hB0 : Below w.heap.size w (w.alloc (.cells x.cells.toArray 52)) := (Below.refl _ w).alloc (Nat.le_refl _) _
 have hl := World.block_lt_of_cell? w ⟨B0, 0, none⟩ h0
 rw [← beqS]
 go_enter Tryz.func115, Tryz.ntmps115
 go_wp2
 go_ret
 exact ⟨rfl, hB0⟩
theorem snap1_any (B0 : Nat) (p : ByteArray) (x : Mna) (w : World) (h0 : w.cell? ⟨B0, 0, none⟩ = some (.string p)) :
 Calls Tryz.prog 120 #[.agg x.cells.toArray, .pointer (some ⟨B0, 0, none⟩)] w fun e w' => e = .returned (.bool (decide (x.x_ = p))) ∧ Below w.heap.size w w' := by
 have hB0 : Below w.heap.size w (w.alloc (.cells x.cells.toArray 49)) := (Below.refl _ w).alloc (Nat.le_refl _) _
 have hl := World.block_lt_of_cell? w ⟨B0, 0, none⟩ h0
 rw [← beqS]
 go_enter Tryz.func120, Tryz.ntmps120
 go_wp2
 go_ret
 exact ⟨rfl, hB0⟩
def findM (x : MT_) (p : ByteArray) : Int := findI (fun s : MSet => decide (s.l_ = p)) x.y_.l
def snapM (s : MSet) (n : ByteArray) : Int := findI (fun x : Mna => decide (x.x_ = n)) s.n_.l
theorem find_any (x : MT_) (p : ByteArray) (w : World) (hx : x.Good w) :
 Calls Tryz.prog 58 #[.agg x.cells.toArray, .string p] w fun e w' => e = .returned (.int .i64 (findM x p)) ∧ Below w.heap.size w w' := by
 obtain ⟨w1, hw1⟩ : ∃ w1, w.alloc (.cells #[.string x.x_, .int .i64 x.r_, .int .i64 x.v_, .slice x.y_.A x.y_.l.length x.y_.c, .slice x.g_.A x.g_.l.length x.g_.c, .slice x.t_.A x.t_.l.length x.t_.c, .slice x.h_.A x.h_.l.length x.h_.c] 27) = w1 := ⟨_, rfl⟩
 have hB1 : Below w.heap.size w w1 := hw1 ▸ (Below.refl _ w).alloc (Nat.le_refl _) _
 have k1 : Blk w1 w.heap.size 27 x.cells := hw1 ▸ Blk.new w _ _
 obtain ⟨w2, hw2⟩ : ∃ w2, w1.alloc (.cells #[.string p] 9) = w2 := ⟨_, rfl⟩
 have hB2 : Below w1.heap.size w1 w2 := hw2 ▸ (Below.refl _ w1).alloc (Nat.le_refl _) _
 have k2 : Blk w2 w1.heap.size 9 [.string p] := hw2 ▸ Blk.new w1 _ _
 have hA : Below w.heap.size w w2 := hB1.trans (hB2.mono hB1.size)
 have z3 := (k1.below hB2 k1.lt).cell 3
 simp only [gZa, gZb] at z3
 have HI := indexMem Tryz.indexSet 5 Tryz.isAgg52 Tryz.sizeOf52 MSet.cells (fun _ => rfl) (by omega) (fun s : MSet => decide (s.l_ = p)) 115 #[.pointer (some ⟨w1.heap.size, 0, none⟩)] (enters_of Tryz.func115 (by kernel_rfl) rfl) x.y_.A x.y_.c x.y_.l.length x.y_.l rfl w2
  (fun W s _ hB => find1_any w1.heap.size p s W ((k2.below hB k2.lt).cell 0)) (by have := hx.w_.len; omega) (hx.w_.rd.below hA)
 change Calls _ 114 _ _ _ at HI
 have HI' := zI HI
 have HW1 := zI hw1
 have HW2 := zI hw2
 obtain ⟨F, hF⟩ : ∃ F, findM x p = F := ⟨_, rfl⟩
 have hF2 : findI (fun s : MSet => decide (s.l_ = p)) x.y_.l = F := hF
 rw [hF]
 rw [hF2] at HI'
 clear HI hw1 hw2 k1 k2 hF hF2 hx
 go_enter Tryz.func58, Tryz.ntmps58
 go_upto_region 1 with fail
 have hX : w.heap.size + 1 = w1.heap.size := by rw [← HW1.out, World.size_alloc]
 rw [HW1.out, HW2.out, hX]
 go_wp2_with fail
 refine HI'.out.mono ?_
 rintro e w3 ⟨rfl, hB3⟩
 go_wp2
 go_ret
 exact ⟨rfl, hA.trans (hB3.mono hA.size)⟩
theorem snap_any (x : MSet) (p : ByteArray) (w : World) (hx : SlGood w Mna.cells (Mna.Good w) 96 x.n_) :
 Calls Tryz.prog 64 #[.agg x.cells.toArray, .string p] w fun e w' => e = .returned (.int .i64 (snapM x p)) ∧ Below w.heap.size w w' := by
 obtain ⟨w1, hw1⟩ : ∃ w1, w.alloc (.cells #[.string x.l_, .string x.m_, .slice x.p_.A x.p_.l.length x.p_.c, .slice x.n_.A x.n_.l.length x.n_.c, .slice x.j_.A x.j_.l.length x.j_.c] 52) = w1 := ⟨_, rfl⟩
 have hB1 : Below w.heap.size w w1 := hw1 ▸ (Below.refl _ w).alloc (Nat.le_refl _) _
 have k1 : Blk w1 w.heap.size 52 x.cells := hw1 ▸ Blk.new w _ _
 obtain ⟨w2, hw2⟩ : ∃ w2, w1.alloc (.cells #[.string p] 9) = w2 := ⟨_, rfl⟩
 have hB2 : Below w1.heap.size w1 w2 := hw2 ▸ (Below.refl _ w1).alloc (Nat.le_refl _) _
 have k2 : Blk w2 w1.heap.size 9 [.string p] := hw2 ▸ Blk.new w1 _ _
 have hA : Below w.heap.size w w2 := hB1.trans (hB2.mono hB1.size)
 have z3 := (k1.below hB2 k1.lt).cell 3
 simp only [gZa, gZb] at z3
 have HI := indexMem Tryz.indexSnap 5 Tryz.isAgg49 Tryz.sizeOf49 Mna.cells (fun _ => rfl) (by omega) (fun s : Mna => decide (s.x_ = p)) 120 #[.pointer (some ⟨w1.heap.size, 0, none⟩)] (enters_of Tryz.func120 (by kernel_rfl) rfl) x.n_.A x.n_.c x.n_.l.length x.n_.l rfl w2
  (fun W s _ hB => snap1_any w1.heap.size p s W ((k2.below hB k2.lt).cell 0)) (by have := hx.len; omega) (hx.rd.below hA)
 change Calls _ 119 _ _ _ at HI
 have HI' := zI HI
 have HW1 := zI hw1
 have HW2 := zI hw2
 obtain ⟨F, hF⟩ : ∃ F, snapM x p = F := ⟨_, rfl⟩
 have hF2 : findI (fun s : Mna => decide (s.x_ = p)) x.n_.l = F := hF
 rw [hF]
 rw [hF2] at HI'
 clear HI hw1 hw2 k1 k2 hF hF2 hx
 go_enter Tryz.func64, Tryz.ntmps64
 go_upto_region 1 with fail
 have hX : w.heap.size + 1 = w1.heap.size := by rw [← HW1.out, World.size_alloc]
 rw [HW1.out, HW2.out, hX]
 go_wp2_with fail
 refine HI'.out.mono ?_
 rintro e w3 ⟨rfl, hB3⟩
 go_wp2
 go_ret
 exact ⟨rfl, hA.trans (hB3.mono hA.size)⟩
theorem nodup_found {l : List Mna} : (l.map Mna.x_).Nodup ↔ ∀ (i : Nat) (x : Mna), l[i]? = some x → findI (fun y : Mna => decide (y.x_ = x.x_)) l = i := by
 unfold List.Nodup
 rw [List.pairwise_iff_getElem]
 constructor
 · intro h i x hx
   refine findI_some hx (by simp) fun y hy => ?_
   obtain ⟨j, hj, rfl⟩ := List.mem_take_iff_getElem.1 hy
   rw [decide_eq_false_iff_not]
   intro e
   obtain ⟨hi, hxi⟩ := List.getElem?_eq_some_iff.1 hx
   have h2 := h j i (by rw [List.length_map]; omega) (by rw [List.length_map]; exact hi) (by omega)
   rw [List.getElem_map, List.getElem_map, hxi] at h2
   exact h2 e
 · intro h i j hi hj hij e
   rw [List.length_map] at hi hj
   rw [List.getElem_map, List.getElem_map] at e
   have h1 := h i _ (qZa hi)
   have h2 := h j _ (qZa hj)
   rw [← e] at h2
   rw [h1] at h2
   omega
set_option maxHeartbeats 1000000
theorem eachFound_any (x : MSet) (w : World) (hx : SlGood w Mna.cells (Mna.Good w) 96 x.n_) :
 Calls Tryz.prog 177 #[.agg x.cells.toArray] w fun e w' => e = .returned (.bool (decide ((x.n_.l.map Mna.x_).Nodup))) ∧ Below w.heap.size w w' := by
 obtain ⟨xp, xo, xb, ⟨A, l, c⟩, xw⟩ := x
 dsimp only at hx ⊢
 obtain ⟨w1, hw1⟩ : ∃ w1, w.alloc (.cells #[.string xp, .string xo, .slice xb.A xb.l.length xb.c, .slice A l.length c, .slice xw.A xw.l.length xw.c] 52) = w1 := ⟨_, rfl⟩
 have hB1 : Below w.heap.size w w1 := hw1 ▸ (Below.refl _ w).alloc (Nat.le_refl _) _
 have k1 : Blk w1 w.heap.size 52 [.string xp, .string xo, .slice xb.A xb.l.length xb.c, .slice A l.length c, .slice xw.A xw.l.length xw.c] := hw1 ▸ Blk.new w _ _
 have z3 := k1.cell 3
 simp only [gZa, gZb] at z3
 have HS : Hid (∀ W, Below w1.heap.size w1 W → ∀ p, Calls Tryz.prog 64 #[.agg #[.string xp, .string xo, .slice xb.A xb.l.length xb.c, .slice A l.length c, .slice xw.A xw.l.length xw.c], .string p] W fun e w' => e = .returned (.int .i64 (findI (fun z : Mna => decide (z.x_ = p)) l)) ∧ Below W.heap.size W w') := zI fun W hW p => snap_any ⟨xp, xo, xb, ⟨A, l, c⟩, xw⟩ p W (hx.below (hB1.trans (hW.mono hB1.size)) fun y h => h.below (hB1.trans (hW.mono hB1.size)))
 have HRD := zI (hx.rd.below hB1)
 have hlen := hx.len
 have HN := zI (nodup_found (l := l))
 obtain ⟨R, hR⟩ : ∃ R, decide ((l.map Mna.x_).Nodup) = R := ⟨_, rfl⟩
 have HR := zI hR
 have HK1 := zI k1
 have HW1 := zI hw1
 have hs1 := hB1.size
 rw [hR]
 clear hR hx k1 hw1
 go_enter Tryz.func177, Tryz.ntmps177
 go_upto_region 1 with fail
 rw [HW1.out]
 go_wp2
 go_loopw [8] (fun i W => ∃ k : Nat, k ≤ l.length ∧ i = .int .i64 k ∧ Hid (∀ j y, j < k → l[j]? = some y → findI (fun z : Mna => decide (z.x_ = y.x_)) l = j) ∧ Below w1.heap.size w1 W) (fun i _ => l.length - (intOf i).toNat)
 case atStart => exact ⟨0, Nat.zero_le _, rfl, zI fun _ _ h => absurd h (Nat.not_lt_zero _), Below.refl _ _⟩
 case round =>
  obtain ⟨k, hk, rfl, HU, hB⟩ := hrel
  by_cases hlt : k < l.length
  · obtain ⟨y, hy⟩ : ∃ y, l[k]? = some y := ⟨l[k], qZa hlt⟩
    obtain ⟨b, off, rfl, hb, hc⟩ := Rd.elem (n := 5) (fun _ => rfl) (by omega) (HRD.out.below hB) hy
    have c0 : wr.cell? ⟨b, off + k * 5, none⟩ = some (.string y.x_) := hc 0 _ rfl
    have c1 : wr.cell? ⟨b, off + k * 5 + 1, none⟩ = some (.int .i64 y.z_) := hc 1 _ rfl
    have c2 : wr.cell? ⟨b, off + k * 5 + 2, none⟩ = some (.slice y.p_.A y.p_.l.length y.p_.c) := hc 2 _ rfl
    have c3 : wr.cell? ⟨b, off + k * 5 + 3, none⟩ = some (.slice y.u_.A y.u_.l.length y.u_.c) := hc 3 _ rfl
    have c4 : wr.cell? ⟨b, off + k * 5 + 4, none⟩ = some (.slice y.j_.A y.j_.l.length y.j_.c) := hc 4 _ rfl
    obtain ⟨w2, hw2⟩ : ∃ w2, wr.alloc (.cells #[.string y.x_, .int .i64 y.z_, .slice y.p_.A y.p_.l.length y.p_.c, .slice y.u_.A y.u_.l.length y.u_.c, .slice y.j_.A y.j_.l.length y.j_.c] 49) = w2 := ⟨_, rfl⟩
    have hB2 : Below wr.heap.size wr w2 := hw2 ▸ (Below.refl _ wr).alloc (Nat.le_refl _) _
    have k2 : Blk w2 wr.heap.size 49 y.cells := hw2 ▸ Blk.new wr _ _
    have hB12 : Below w1.heap.size w1 w2 := hB.trans (hB2.mono hB.size)
    have hlw : w.heap.size < wr.heap.size := Nat.lt_of_lt_of_le HK1.out.lt hB.size
    have q0 := k2.cell 0
    have p0 := (HK1.out.below hB HK1.out.lt).cell 0
    have p1 := (HK1.out.below hB HK1.out.lt).cell 1
    have p2 := (HK1.out.below hB HK1.out.lt).cell 2
    have p3 := (HK1.out.below hB HK1.out.lt).cell 3
    have p4 := (HK1.out.below hB HK1.out.lt).cell 4
    simp only [gZa, gZb] at q0 p0 p1 p2 p3 p4
    have HC := zI (HS.out w2 hB12 y.x_)
    obtain ⟨F, hF⟩ : ∃ F, findI (fun z : Mna => decide (z.x_ = y.x_)) l = F := ⟨_, rfl⟩
    rw [hF] at HC
    have HF := zI hF.symm
    have HY := zI hy
    have HW2 := zI hw2
    clear hF hy hw2 k2 hc
    by_cases hq : F = (k : Int)
    · have hqb : (F == (k : Int)) = true := beq_iff_eq.2 hq
      have HU' : Hid (∀ j y, j < k + 1 → l[j]? = some y → findI (fun z : Mna => decide (z.x_ = y.x_)) l = j) := zI fun j y' h1 h2 => by
       by_cases e : j = k
       · subst e
         rw [HY.out] at h2
         injection h2 with h2
         subst h2
         rw [← HF.out, hq]
       · exact HU.out j y' (by omega) h2
      clear HU HF HY
      go_wp2_with fail
      rw [HW2.out]
      refine HC.out.mono ?_
      rintro e w3 ⟨rfl, hB3⟩
      have hB13 : Below w1.heap.size w1 w3 := hB12.trans (hB3.mono hB12.size)
      clear hq
      go_wp2
      go_roundw
      case rel => exact ⟨k + 1, by omega, by go_num, HU', hB13⟩
      case measure => simp [intOf]; omega
    · have hqb : (F == (k : Int)) = false := beq_eq_false_iff_ne.2 hq
      obtain rfl : R = false := by
       rw [← HR.out, decide_eq_false_iff_not]
       intro h
       have := HN.out.1 h k y HY.out
       rw [← HF.out] at this
       exact hq this
      clear HU HF HY HR HN
      go_wp2_with fail
      rw [HW2.out]
      refine HC.out.mono ?_
      rintro e w3 ⟨rfl, hB3⟩
      have hB13 : Below w1.heap.size w1 w3 := hB12.trans (hB3.mono hB12.size)
      clear hq
      go_wp2
      go_ret
      exact ⟨rfl, hB1.trans (hB13.mono hs1)⟩
  · obtain rfl : R = true := by
     rw [← HR.out, decide_eq_true_iff, HN.out]
     intro i y hi
     have := (List.getElem?_eq_some_iff.1 hi).1
     exact HU.out i y (by omega) hi
    clear HU HR HN
    go_wp2
    go_ret
    exact ⟨rfl, hB1.trans (hB.mono hs1)⟩
theorem guid_any (x : Mna) (w : World) :
 Calls Tryz.prog 176 (#[.agg x.cells.toArray] ++ #[]) w fun e w' => e = .returned (.int .i64 x.z_) ∧ Below w.heap.size w w' := by
 have hB0 : Below w.heap.size w (w.alloc (.cells x.cells.toArray 49)) := (Below.refl _ w).alloc (Nat.le_refl _) _
 go_enter Tryz.func176, Tryz.ntmps176
 go_wp2
 go_ret
 exact ⟨rfl, hB0⟩
theorem pathOf_any (x : MSet) (w : World) :
 Calls Tryz.prog 142 (#[.agg x.cells.toArray] ++ #[]) w fun e w' => e = .returned (.string x.l_) ∧ Below w.heap.size w w' := by
 have hB0 : Below w.heap.size w (w.alloc (.cells x.cells.toArray 52)) := (Below.refl _ w).alloc (Nat.le_refl _) _
 go_enter Tryz.func142, Tryz.ntmps142
 go_wp2
 go_ret
 exact ⟨rfl, hB0⟩
def setS (s : PSet) : Bool := okK s.p_ && (okP s.j_ && snapsB s.n_)
theorem snapsM (l : List Mna) : snapsB (l.map Mna.plain) = (decide (l.length ≤ 16) && ((l.all fun x => snapB x.plain) && (riseB (fun a b : Mna => decide (a.z_ < b.z_)) l && decide ((l.map Mna.x_).Nodup)))) := by
 have e1 : (l.map Mna.plain).all snapB = l.all fun x => snapB x.plain := by rw [List.all_map]; rfl
 have e2 : riseB ltGuid (l.map Mna.plain) = riseB (fun a b : Mna => decide (a.z_ < b.z_)) l := by
  rw [Bool.eq_iff_iff, riseB_iff, riseB_iff]
  constructor
  · intro h j y x hy hx
    exact h j y.plain x.plain (by rw [List.getElem?_map, hy]; rfl) (by rw [List.getElem?_map, hx]; rfl)
  · intro h j y x hy hx
    rw [List.getElem?_map] at hy hx
    rcases hy2 : l[j]? with _ | y2
    · rw [hy2] at hy; cases hy
    rcases hx2 : l[j + 1]? with _ | x2
    · rw [hx2] at hx; cases hx
    rw [hy2] at hy
    rw [hx2] at hx
    injection hy with hy
    injection hx with hx
    subst hy hx
    exact h j y2 x2 hy2 hx2
 have e3 : (l.map Mna.plain).map PS_.x_ = l.map Mna.x_ := by rw [List.map_map]; rfl
 unfold snapsB goodL noTwo
 simp only [e1, e2, e3, List.length_map]
 simp only [Bool.and_assoc, Bool.and_comm, Bool.and_left_comm]
theorem isSet_any (x : MSet) (w : World) (hx : x.Good w) :
 Calls Tryz.prog 140 #[.agg #[.string x.l_, .string x.m_, .slice x.p_.A x.p_.l.length x.p_.c, .slice x.n_.A x.n_.l.length x.n_.c, .slice x.j_.A x.j_.l.length x.j_.c]] w fun e w' => e = .returned (.bool (setS x.plain)) ∧ Below w.heap.size w w' := by
 obtain ⟨w1, hw1⟩ : ∃ w1, w.alloc (.cells #[.string x.l_, .string x.m_, .slice x.p_.A x.p_.l.length x.p_.c, .slice x.n_.A x.n_.l.length x.n_.c, .slice x.j_.A x.j_.l.length x.j_.c] 52) = w1 := ⟨_, rfl⟩
 have hB1 : Below w.heap.size w w1 := hw1 ▸ (Below.refl _ w).alloc (Nat.le_refl _) _
 have k1 : Blk w1 w.heap.size 52 [.string x.l_, .string x.m_, .slice x.p_.A x.p_.l.length x.p_.c, .slice x.n_.A x.n_.l.length x.n_.c, .slice x.j_.A x.j_.l.length x.j_.c] := hw1 ▸ Blk.new w _ _
 have hA : Below w.heap.size w w1 := hB1
 have H1 : Hid (∀ W, Below w1.heap.size w1 W → Calls Tryz.prog 172 #[.slice x.p_.A x.p_.l.length x.p_.c, .slice x.j_.A x.j_.l.length x.j_.c] W fun e w' => e = .returned (.bool (okK x.p_.l && okP x.j_.l)) ∧ Below W.heap.size W w') := zI fun W hW => mayHold_any _ _ W (hx.K_.below (hA.trans (hW.mono hA.size)) fun _ h => h) (hx.G_.below (hA.trans (hW.mono hA.size)) fun _ h => h)
 have H3 : Hid (∀ W, Below w1.heap.size w1 W → Calls Tryz.prog 173 #[.slice x.n_.A x.n_.l.length x.n_.c, .func (.func 174) #[] #[]] W fun e w' => e = .returned (.bool (x.n_.l.all fun x => snapB x.plain)) ∧ Below W.heap.size W w') := zI fun W hW => every_Snap (fun x => snapB x.plain) _ #[] (enters_of Tryz.func174 (by kernel_rfl) rfl) _ _ _ _ rfl W (fun W2 y hm hB => isSnap_any y W2 ((hx.f_.el y hm).below ((hA.trans (hW.mono hA.size)).trans (hB.mono (hA.trans (hW.mono hA.size)).size)))) (by have := hx.f_.len; omega) (hx.f_.rd.below (hA.trans (hW.mono hA.size)))
 have H4 : Hid (∀ W, Below w1.heap.size w1 W → Calls Tryz.prog 175 #[.slice x.n_.A x.n_.l.length x.n_.c, .func (.func 176) #[] #[]] W fun e w' => e = .returned (.bool (riseB (fun a b : Mna => decide (a.z_ < b.z_)) x.n_.l)) ∧ Below W.heap.size W w') := zI fun W hW => rising_Snap Mna.z_ _ #[] (enters_of Tryz.func176 (by kernel_rfl) rfl) _ _ _ _ rfl W (fun W2 y hB => guid_any y W2) (by have := hx.f_.len; omega) (hx.f_.rd.below (hA.trans (hW.mono hA.size)))
 have H5 : Hid (∀ W, Below w1.heap.size w1 W → Calls Tryz.prog 177 #[.agg #[.string x.l_, .string x.m_, .slice x.p_.A x.p_.l.length x.p_.c, .slice x.n_.A x.n_.l.length x.n_.c, .slice x.j_.A x.j_.l.length x.j_.c]] W fun e w' => e = .returned (.bool (decide ((x.n_.l.map Mna.x_).Nodup))) ∧ Below W.heap.size W w') := zI fun W hW => eachFound_any x W (hx.f_.below (hA.trans (hW.mono hA.size)) fun y h => h.below (hA.trans (hW.mono hA.size)))
 obtain ⟨R, hR⟩ : ∃ R, setS x.plain = R := ⟨_, rfl⟩
 rw [hR]
 have HRR : Hid (R = (((okK x.p_.l && okP x.j_.l)) && ((decide (x.n_.l.length ≤ 16)) && ((x.n_.l.all fun x => snapB x.plain) && ((riseB (fun a b : Mna => decide (a.z_ < b.z_)) x.n_.l) && ((decide ((x.n_.l.map Mna.x_).Nodup)))))))) := zI (hR.symm.trans (show setS x.plain = (((okK x.p_.l && okP x.j_.l)) && ((decide (x.n_.l.length ≤ 16)) && ((x.n_.l.all fun x => snapB x.plain) && ((riseB (fun a b : Mna => decide (a.z_ < b.z_)) x.n_.l) && ((decide ((x.n_.l.map Mna.x_).Nodup))))))) from by simp only [setS, MSet.plain, snapsM]; simp only [Bool.and_assoc, Bool.and_comm, Bool.and_left_comm]; try rfl))
 clear hR
 obtain ⟨b1, hb1⟩ : ∃ b, ((okK x.p_.l && okP x.j_.l)) = b := ⟨_, rfl⟩
 rw [hb1] at HRR
 rw [hb1] at H1
 clear hb1
 obtain ⟨b2, hb2⟩ : ∃ b, (decide (x.n_.l.length ≤ 16)) = b := ⟨_, rfl⟩
 rw [hb2] at HRR
 obtain ⟨b3, hb3⟩ : ∃ b, (x.n_.l.all fun x => snapB x.plain) = b := ⟨_, rfl⟩
 rw [hb3] at HRR
 rw [hb3] at H3
 clear hb3
 obtain ⟨b4, hb4⟩ : ∃ b, (riseB (fun a b : Mna => decide (a.z_ < b.z_)) x.n_.l) = b := ⟨_, rfl⟩
 rw [hb4] at HRR
 rw [hb4] at H4
 clear hb4
 obtain ⟨b5, hb5⟩ : ∃ b, (decide ((x.n_.l.map Mna.x_).Nodup)) = b := ⟨_, rfl⟩
 rw [hb5] at HRR
 rw [hb5] at H5
 clear hb5
 have HW1 := zI hw1
 have HK1 := zI k1
 clear hw1 k1
 have hs0 := hA.size
 have hT0 : Below w1.heap.size w1 w1 := Below.refl _ _
 clear hx
 go_enter Tryz.func140, Tryz.ntmps140
 have z2 := (HK1.out.below hT0 HK1.out.lt).cell 2
 have z4 := (HK1.out.below hT0 HK1.out.lt).cell 4
 simp only [gZa, gZb] at z2 z4
 go_wp2_with fail
 rw [HW1.out]
 try go_wp2_with fail
 refine (H1.out _ hT0).mono ?_
 rintro e v1 ⟨rfl, hV1⟩
 have hT1 : Below w1.heap.size w1 v1 := hT0.trans (hV1.mono hT0.size)
 have hX1 : Below w.heap.size w v1 := hA.trans (hT1.mono hs0)
 rcases b1 with _ | _
 · skip
   go_wp2
   go_ret
   exact ⟨zaZ (by rw [HRR.out]; rfl), hX1⟩
 · skip
   have z3 := (HK1.out.below hT1 HK1.out.lt).cell 3
   simp only [gZa, gZb] at z3
   rcases b2 with _ | _
   · have ht : ¬ ((x.n_.l.length : Int) ≤ 16) := by have := of_decide_eq_false hb2; omega
     go_wp2
     go_ret
     exact ⟨zaZ (by rw [HRR.out]; rfl), (hA.trans (hT1.mono hs0))⟩
   · have ht : (x.n_.l.length : Int) ≤ 16 := by have := of_decide_eq_true hb2; omega
     have z3 := (HK1.out.below hT1 HK1.out.lt).cell 3
     simp only [gZa, gZb] at z3
     go_wp2_with fail
     refine (H3.out _ hT1).mono ?_
     rintro e v3 ⟨rfl, hV3⟩
     have hT3 : Below w1.heap.size w1 v3 := hT1.trans (hV3.mono hT1.size)
     have hX3 : Below w.heap.size w v3 := hA.trans (hT3.mono hs0)
     rcases b3 with _ | _
     · skip
       go_wp2
       go_ret
       exact ⟨zaZ (by rw [HRR.out]; rfl), hX3⟩
     · skip
       have z3 := (HK1.out.below hT3 HK1.out.lt).cell 3
       simp only [gZa, gZb] at z3
       go_wp2_with fail
       refine (H4.out _ hT3).mono ?_
       rintro e v4 ⟨rfl, hV4⟩
       have hT4 : Below w1.heap.size w1 v4 := hT3.trans (hV4.mono hT3.size)
       have hX4 : Below w.heap.size w v4 := hA.trans (hT4.mono hs0)
       rcases b4 with _ | _
       · skip
         go_wp2
         go_ret
         exact ⟨zaZ (by rw [HRR.out]; rfl), hX4⟩
       · skip
         have z0 := (HK1.out.below hT4 HK1.out.lt).cell 0
         have z1 := (HK1.out.below hT4 HK1.out.lt).cell 1
         have z2 := (HK1.out.below hT4 HK1.out.lt).cell 2
         have z3 := (HK1.out.below hT4 HK1.out.lt).cell 3
         have z4 := (HK1.out.below hT4 HK1.out.lt).cell 4
         simp only [gZa, gZb] at z0 z1 z2 z3 z4
         go_wp2_with fail
         refine (H5.out _ hT4).mono ?_
         rintro e v5 ⟨rfl, hV5⟩
         have hT5 : Below w1.heap.size w1 v5 := hT4.trans (hV5.mono hT4.size)
         have hX5 : Below w.heap.size w v5 := hA.trans (hT5.mono hs0)
         rcases b5 with _ | _
         · skip
           go_wp2
           go_ret
           exact ⟨zaZ (by rw [HRR.out]; rfl), hX5⟩
         · skip
           go_wp2
           go_ret
           exact ⟨zaZ (by rw [HRR.out]; rfl), hX5⟩
end Go.Proofs.YtimmcmjipmkebaaGreat
