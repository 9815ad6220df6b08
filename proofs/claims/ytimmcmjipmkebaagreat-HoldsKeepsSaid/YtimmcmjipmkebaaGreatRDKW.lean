/-
  HoldsKeeps’ walk. Conditions: the tenant is as it comes in.
-/
import Derived.Test.YtimmcmjipmkebaaGreatRDLE
import Derived.Test.YtimmcmjipmkebaaGreatRHCR
import Derived.Test.YtimmcmjipmkebaaGreatRHTY
import Derived.Test.YtimmcmjipmkebaaGreatRTMD
import Derived.Test.YtimmcmjipmkebaaGreatRTES
namespace Go.Proofs.YtimmcmjipmkebaaGreat
open Go.ChangeShapes Go.WideShapes Go.ChangeAt Go.RowKit
set_option maxRecDepth 100000
set_option linter.unusedSimpArgs false
theorem keeps_held {t : PTenant} {p n g : ByteArray} (h : (tagP t p n g true).2 = 0) : okT (tagP t p n g true).1 = true ∧ (unsnapP (tagP t p n g true).1 p n).2 ≠ 0 ∧ (goneU (tagP t p n g true).1 p).2 ≠ 0 ∧ tagP (tagP t p n g true).1 p n g false = (t, 0) ∧ heldP (tagP t p n g true).1 p n = true := by
  have hE : tagE t p n g true = 0 := by
    unfold tagP at h
    by_cases h1 : tagE t p n g true = 0
    · exact h1
    · rw [if_pos h1] at h
      exact absurd h h1
  have hP : (tagP t p n g true).1 = mapP t (tagS p n (holdT g)) t.next_ := by
    unfold tagP
    rw [if_neg (fun k => k hE)]
    rfl
  rw [hP]
  obtain ⟨h1, h2⟩ := held_stays hE
  obtain ⟨s, y, hs, hh, hy, _, hg⟩ := held_at hE
  have hne : y.tags_ ≠ [] := fun e => by rw [e] at hg; cases hg
  refine ⟨hold_ok hE, ?_, ?_, hold_back hE, ?_⟩
  · unfold unsnapP
    rw [if_pos h1]
    exact h1
  · rw [gone_isP]
    unfold destroyP
    rw [if_pos h2]
    exact h2
  · unfold heldP
    rw [hs]
    dsimp only
    rw [hy]
    exact decide_eq_true hne
theorem tag_no {t : PTenant} {p n g : ByteArray} {b : Bool} (h : (tagP t p n g b).2 ≠ 0) : (tagP t p n g b).1 = noT := by
  unfold tagP at h ⊢
  by_cases h1 : tagE t p n g b = 0
  · rw [if_neg (fun k => k h1)] at h
    exact absurd rfl h
  · rw [if_pos h1]
set_option maxHeartbeats 4000000 in
theorem keeps18_walk (x : MTenant) (p n tg : ByteArray) (hp : p.size ≤ 140737488351232) (ht : tg.size ≤ 140737488351232) (w : World) (hx : x.Good w) :
    Calls Tryz.prog 8 #[.agg x.cells.toArray, .string p, .string n, .string tg] w fun e w' => e = .returned (.bool true) ∧ Below w.heap.size w w' := by
  obtain ⟨P1, hP1⟩ : ∃ P, tagP x.plain p n tg true = P := ⟨_, rfl⟩
  have M0 : P1.2 ≠ 0 → P1.1 = noT := hP1 ▸ tag_no
  have M1 : P1.2 = 0 → okT P1.1 = true ∧ (unsnapP P1.1 p n).2 ≠ 0 ∧ (goneU P1.1 p).2 ≠ 0 ∧ tagP P1.1 p n tg false = (x.plain, 0) ∧ heldP P1.1 p n = true := hP1 ▸ keeps_held
  obtain ⟨a1, hw1⟩ : ∃ a1, w.alloc (.cells #[.string x.name_, .int .i64 x.quota_, .int .i64 x.next_, .slice x.sets_.A x.sets_.l.length x.sets_.c, .slice x.grants_.A x.grants_.l.length x.grants_.c, .slice x.stages_.A x.stages_.l.length x.stages_.c, .slice x.log_.A x.log_.l.length x.log_.c] 27) = a1 := ⟨_, rfl⟩
  have b1 : Below w.heap.size w a1 := hw1 ▸ (Below.refl _ w).alloc (Nat.le_refl _) _
  have k1 : Blk a1 w.heap.size 27 [.string x.name_, .int .i64 x.quota_, .int .i64 x.next_, .slice x.sets_.A x.sets_.l.length x.sets_.c, .slice x.grants_.A x.grants_.l.length x.grants_.c, .slice x.stages_.A x.stages_.l.length x.stages_.c, .slice x.log_.A x.log_.l.length x.log_.c] := hw1 ▸ Blk.new w _ _
  have hB1 : Below w.heap.size w a1 := b1
  have hs1 := hB1.size
  have HW1 := Lib.hid hw1
  clear hw1 b1
  have hx1 := hx.below hB1
  have HA := Lib.hid (alive18_any a1)
  have H1 : Hid (∀ W, x.Good W → Calls Tryz.prog 29 #[.agg x.cells.toArray, .string p, .string n, .string tg] W fun e w' => AnsT W P1 e w') := Lib.hid fun W hW => by
    have h9 := hold18_any x p n tg hp ht W hW
    rwa [hold_isP, hP1] at h9
  have HM0 := Lib.hid M0
  have HM1 := Lib.hid M1
  have HP := Lib.hid hp
  clear hP1 hx hp ht M0 M1
  go_enter Tryz.func8, Tryz.ntmps8
  go_upto_region 1 with fail
  rw [HW1.out]
  have G2 := Lib.hid (HA.out)
  go_wp2_with fail
  refine G2.out.mono ?_
  rintro e v2 ⟨rfl, hV2⟩
  clear G2
  have hU_3 : Below a1.heap.size a1 v2 := (Below.refl a1.heap.size a1).trans ((hV2).mono (Below.refl a1.heap.size a1).size)
  have k1 := k1.of hV2
  have hx1 := hx1.below hV2
  obtain ⟨q1_k1_0, q1_k1_1, q1_k1_2, q1_k1_3, q1_k1_4, q1_k1_5, q1_k1_6⟩ := k1.all7
  have G4 := Lib.hid (H1.out v2 hx1)
  go_wp2_with fail
  refine G4.out.mono ?_
  rintro e v4 ⟨a, rfl, hoa, hga, hpa, hV4⟩
  clear G4
  have hU_5 : Below a1.heap.size a1 v4 := hU_3.trans ((hV4).mono hU_3.size)
  have k1 := k1.of hV4
  have hx1 := hx1.below hV4
  clear q1_k1_0 q1_k1_1 q1_k1_2 q1_k1_3 q1_k1_4 q1_k1_5 q1_k1_6
  obtain ⟨z6, hz6⟩ : ∃ z, v4.alloc (.cells #[.string a.name_, .int .i64 a.quota_, .int .i64 a.next_, .slice a.sets_.A a.sets_.l.length a.sets_.c, .slice a.grants_.A a.grants_.l.length a.grants_.c, .slice a.stages_.A a.stages_.l.length a.stages_.c, .slice a.log_.A a.log_.l.length a.log_.c] 27) = z := ⟨_, rfl⟩
  have hAz6 : Below v4.heap.size v4 z6 := hz6 ▸ (Below.refl _ v4).alloc (Nat.le_refl _) _
  have ka : Blk z6 v4.heap.size 27 [.string a.name_, .int .i64 a.quota_, .int .i64 a.next_, .slice a.sets_.A a.sets_.l.length a.sets_.c, .slice a.grants_.A a.grants_.l.length a.grants_.c, .slice a.stages_.A a.stages_.l.length a.stages_.c, .slice a.log_.A a.log_.l.length a.log_.c] := hz6 ▸ Blk.new v4 _ _
  have HZz6 := Lib.hid hz6
  clear hz6
  have hU_7 : Below a1.heap.size a1 z6 := hU_5.trans ((hAz6).mono hU_5.size)
  have k1 := k1.of hAz6
  have hx1 := hx1.below hAz6
  have hga := hga.below hAz6
  have hoa := hoa.below hAz6
  go_upto_region 4 with fail
  rw [HZz6.out]
  clear hoa
  by_cases hE : P1.2 = 0
  · obtain ⟨m1, m2, m3, m4, m5⟩ := HM1.out hE
    rw [← hpa] at m1 m2 m3 m4 m5
    obtain ⟨P2, hP2⟩ : ∃ P, unsnapP a.plain p n = P := ⟨_, rfl⟩
    obtain ⟨P3, hP3⟩ : ∃ P, goneU a.plain p = P := ⟨_, rfl⟩
    rw [hP2] at m2
    rw [hP3] at m3
    have H2 : Hid (∀ W, a.Good W → Calls Tryz.prog 12 #[.agg a.cells.toArray, .string p, .string n] W fun e w' => AnsT W P2 e w') := Lib.hid fun W hW => hP2 ▸ destroy17_any a p n HP.out W hW
    have H3 : Hid (∀ W, a.Good W → Calls Tryz.prog 37 #[.agg a.cells.toArray, .string p] W fun e w' => AnsT W P3 e w') := Lib.hid fun W hW => hP3 ▸ destroy_any a p HP.out W hW
    have H4 : Hid (∀ W, a.Good W → Calls Tryz.prog 31 #[.agg a.cells.toArray, .string p, .string n, .string tg] W fun e w' => AnsT W (x.plain, 0) e w') := Lib.hid fun W hW => by
      have h9 := release18_any a p n tg HP.out W hW
      rwa [free_isP, m4] at h9
    have H5 : Hid (∀ W, a.Good W → Calls Tryz.prog 23 #[.agg a.cells.toArray] W fun e w' => e = .returned (.int .i64 0) ∧ Below W.heap.size W w') := Lib.hid fun W hW => by
      have h9 := refCheck_any14 a W hW (tiny_of m1)
      rwa [m1, if_pos rfl] at h9
    have H6 : Hid (∀ W, a.Good W → Calls Tryz.prog 35 #[.agg a.cells.toArray, .string p, .string n] W fun e w' => e = .returned (.bool true) ∧ Below W.heap.size W w') := Lib.hid fun W hW => by
      have h9 := held18_any a p n W hW
      rwa [held_isP, m5] at h9
    have e1 : (P1.2 == 0) = true := by rw [hE]; rfl
    generalize P1.2 = E1 at *
    subst hE
    have HM2 := Lib.hid m2
    have HM3 := Lib.hid m3
    clear hpa m1 m2 m3 m4 m5 hP2 hP3 e1 HM0 HM1
    obtain ⟨q2_ka_0, q2_ka_1, q2_ka_2, q2_ka_3, q2_ka_4, q2_ka_5, q2_ka_6⟩ := ka.all7
    have G8 := Lib.hid (H2.out z6 hga)
    go_wp2_with fail
    refine G8.out.mono ?_
    rintro e v8 ⟨c, rfl, hoc, hgc, hpc, hV8⟩
    clear G8
    have hU_9 : Below a1.heap.size a1 v8 := hU_7.trans ((hV8).mono hU_7.size)
    have k1 := k1.of hV8
    have ka := ka.of hV8
    have hx1 := hx1.below hV8
    have hga := hga.below hV8
    clear q2_ka_0 q2_ka_1 q2_ka_2 q2_ka_3 q2_ka_4 q2_ka_5 q2_ka_6
    obtain ⟨z10, hz10⟩ : ∃ z, v8.alloc (.cells #[.string c.name_, .int .i64 c.quota_, .int .i64 c.next_, .slice c.sets_.A c.sets_.l.length c.sets_.c, .slice c.grants_.A c.grants_.l.length c.grants_.c, .slice c.stages_.A c.stages_.l.length c.stages_.c, .slice c.log_.A c.log_.l.length c.log_.c] 27) = z := ⟨_, rfl⟩
    have hAz10 : Below v8.heap.size v8 z10 := hz10 ▸ (Below.refl _ v8).alloc (Nat.le_refl _) _
    have kc : Blk z10 v8.heap.size 27 [.string c.name_, .int .i64 c.quota_, .int .i64 c.next_, .slice c.sets_.A c.sets_.l.length c.sets_.c, .slice c.grants_.A c.grants_.l.length c.grants_.c, .slice c.stages_.A c.stages_.l.length c.stages_.c, .slice c.log_.A c.log_.l.length c.log_.c] := hz10 ▸ Blk.new v8 _ _
    have HZz10 := Lib.hid hz10
    clear hz10
    have hU_11 : Below a1.heap.size a1 z10 := hU_9.trans ((hAz10).mono hU_9.size)
    have k1 := k1.of hAz10
    have ka := ka.of hAz10
    have hx1 := hx1.below hAz10
    have hga := hga.below hAz10
    have hgc := hgc.below hAz10
    have hoc := hoc.below hAz10
    go_upto_region 7 with fail
    rw [HZz10.out]
    clear hoc
    obtain ⟨q3_ka_0, q3_ka_1, q3_ka_2, q3_ka_3, q3_ka_4, q3_ka_5, q3_ka_6⟩ := ka.all7
    have G12 := Lib.hid (H3.out z10 hga)
    go_wp2_with fail
    refine G12.out.mono ?_
    rintro e v12 ⟨d, rfl, hod, hgd, hpd, hV12⟩
    clear G12
    have hU_13 : Below a1.heap.size a1 v12 := hU_11.trans ((hV12).mono hU_11.size)
    have k1 := k1.of hV12
    have ka := ka.of hV12
    have kc := kc.of hV12
    have hx1 := hx1.below hV12
    have hga := hga.below hV12
    have hgc := hgc.below hV12
    clear q3_ka_0 q3_ka_1 q3_ka_2 q3_ka_3 q3_ka_4 q3_ka_5 q3_ka_6
    obtain ⟨z14, hz14⟩ : ∃ z, v12.alloc (.cells #[.string d.name_, .int .i64 d.quota_, .int .i64 d.next_, .slice d.sets_.A d.sets_.l.length d.sets_.c, .slice d.grants_.A d.grants_.l.length d.grants_.c, .slice d.stages_.A d.stages_.l.length d.stages_.c, .slice d.log_.A d.log_.l.length d.log_.c] 27) = z := ⟨_, rfl⟩
    have hAz14 : Below v12.heap.size v12 z14 := hz14 ▸ (Below.refl _ v12).alloc (Nat.le_refl _) _
    have kd : Blk z14 v12.heap.size 27 [.string d.name_, .int .i64 d.quota_, .int .i64 d.next_, .slice d.sets_.A d.sets_.l.length d.sets_.c, .slice d.grants_.A d.grants_.l.length d.grants_.c, .slice d.stages_.A d.stages_.l.length d.stages_.c, .slice d.log_.A d.log_.l.length d.log_.c] := hz14 ▸ Blk.new v12 _ _
    have HZz14 := Lib.hid hz14
    clear hz14
    have hU_15 : Below a1.heap.size a1 z14 := hU_13.trans ((hAz14).mono hU_13.size)
    have k1 := k1.of hAz14
    have ka := ka.of hAz14
    have kc := kc.of hAz14
    have hx1 := hx1.below hAz14
    have hga := hga.below hAz14
    have hgc := hgc.below hAz14
    have hgd := hgd.below hAz14
    have hod := hod.below hAz14
    go_upto_region 8 with fail
    rw [HZz14.out]
    clear hod
    obtain ⟨q4_ka_0, q4_ka_1, q4_ka_2, q4_ka_3, q4_ka_4, q4_ka_5, q4_ka_6⟩ := ka.all7
    have G16 := Lib.hid (H4.out z14 hga)
    go_wp2_with fail
    refine G16.out.mono ?_
    rintro e v16 ⟨b, rfl, hob, hgb, hpb, hV16⟩
    clear G16
    have hU_17 : Below a1.heap.size a1 v16 := hU_15.trans ((hV16).mono hU_15.size)
    have k1 := k1.of hV16
    have ka := ka.of hV16
    have kc := kc.of hV16
    have kd := kd.of hV16
    have hx1 := hx1.below hV16
    have hga := hga.below hV16
    have hgc := hgc.below hV16
    have hgd := hgd.below hV16
    clear q4_ka_0 q4_ka_1 q4_ka_2 q4_ka_3 q4_ka_4 q4_ka_5 q4_ka_6
    obtain ⟨z18, hz18⟩ : ∃ z, v16.alloc (.cells #[.string b.name_, .int .i64 b.quota_, .int .i64 b.next_, .slice b.sets_.A b.sets_.l.length b.sets_.c, .slice b.grants_.A b.grants_.l.length b.grants_.c, .slice b.stages_.A b.stages_.l.length b.stages_.c, .slice b.log_.A b.log_.l.length b.log_.c] 27) = z := ⟨_, rfl⟩
    have hAz18 : Below v16.heap.size v16 z18 := hz18 ▸ (Below.refl _ v16).alloc (Nat.le_refl _) _
    have kb : Blk z18 v16.heap.size 27 [.string b.name_, .int .i64 b.quota_, .int .i64 b.next_, .slice b.sets_.A b.sets_.l.length b.sets_.c, .slice b.grants_.A b.grants_.l.length b.grants_.c, .slice b.stages_.A b.stages_.l.length b.stages_.c, .slice b.log_.A b.log_.l.length b.log_.c] := hz18 ▸ Blk.new v16 _ _
    have HZz18 := Lib.hid hz18
    clear hz18
    have hU_19 : Below a1.heap.size a1 z18 := hU_17.trans ((hAz18).mono hU_17.size)
    have k1 := k1.of hAz18
    have ka := ka.of hAz18
    have kc := kc.of hAz18
    have kd := kd.of hAz18
    have hx1 := hx1.below hAz18
    have hga := hga.below hAz18
    have hgc := hgc.below hAz18
    have hgd := hgd.below hAz18
    have hgb := hgb.below hAz18
    have hob := hob.below hAz18
    go_upto_region 9 with fail
    rw [HZz18.out]
    clear hob
    have F2 := HM2.out
    have F3 := HM3.out
    generalize P2.2 = E2 at *
    generalize P3.2 = E3 at *
    have q2 := beq_eq_false_iff_ne.2 F2
    have r2 : (E2 != 0) = true := bne_iff_ne.2 F2
    have t2 : (!(E2 == 0)) = true := by rw [q2]; rfl
    have q3 := beq_eq_false_iff_ne.2 F3
    have r3 : (E3 != 0) = true := bne_iff_ne.2 F3
    have t3 : (!(E3 == 0)) = true := by rw [q3]; rfl
    clear hpc hpd HM2 HM3 F2 F3 H2 H3 H4
    obtain ⟨q5_kb_0, q5_kb_1, q5_kb_2, q5_kb_3, q5_kb_4, q5_kb_5, q5_kb_6⟩ := kb.all7
    obtain ⟨q5_k1_0, q5_k1_1, q5_k1_2, q5_k1_3, q5_k1_4, q5_k1_5, q5_k1_6⟩ := k1.all7
    have G20 := Lib.hid (refTe b x hpb.symm z18 hgb hx1)
    go_wp2_with fail
    refine G20.out.mono ?_
    rintro e v20 ⟨rfl, hV20⟩
    clear G20
    have hU_21 : Below a1.heap.size a1 v20 := hU_19.trans ((hV20).mono hU_19.size)
    have k1 := k1.of hV20
    have ka := ka.of hV20
    have kc := kc.of hV20
    have kd := kd.of hV20
    have kb := kb.of hV20
    have hx1 := hx1.below hV20
    have hga := hga.below hV20
    have hgc := hgc.below hV20
    have hgd := hgd.below hV20
    have hgb := hgb.below hV20
    clear q5_kb_0 q5_kb_1 q5_kb_2 q5_kb_3 q5_kb_4 q5_kb_5 q5_kb_6 q5_k1_0 q5_k1_1 q5_k1_2 q5_k1_3 q5_k1_4 q5_k1_5 q5_k1_6
    obtain ⟨q6_ka_0, q6_ka_1, q6_ka_2, q6_ka_3, q6_ka_4, q6_ka_5, q6_ka_6⟩ := ka.all7
    have G22 := Lib.hid (H5.out v20 hga)
    go_wp2_with fail
    refine G22.out.mono ?_
    rintro e v22 ⟨rfl, hV22⟩
    clear G22
    have hU_23 : Below a1.heap.size a1 v22 := hU_21.trans ((hV22).mono hU_21.size)
    have k1 := k1.of hV22
    have ka := ka.of hV22
    have kc := kc.of hV22
    have kd := kd.of hV22
    have kb := kb.of hV22
    have hx1 := hx1.below hV22
    have hga := hga.below hV22
    have hgc := hgc.below hV22
    have hgd := hgd.below hV22
    have hgb := hgb.below hV22
    clear q6_ka_0 q6_ka_1 q6_ka_2 q6_ka_3 q6_ka_4 q6_ka_5 q6_ka_6
    obtain ⟨q7_ka_0, q7_ka_1, q7_ka_2, q7_ka_3, q7_ka_4, q7_ka_5, q7_ka_6⟩ := ka.all7
    have G24 := Lib.hid (H6.out v22 hga)
    go_wp2_with fail
    refine G24.out.mono ?_
    rintro e v24 ⟨rfl, hV24⟩
    clear G24
    have hU_25 : Below a1.heap.size a1 v24 := hU_23.trans ((hV24).mono hU_23.size)
    have k1 := k1.of hV24
    have ka := ka.of hV24
    have kc := kc.of hV24
    have kd := kd.of hV24
    have kb := kb.of hV24
    have hx1 := hx1.below hV24
    have hga := hga.below hV24
    have hgc := hgc.below hV24
    have hgd := hgd.below hV24
    have hgb := hgb.below hV24
    clear q7_ka_0 q7_ka_1 q7_ka_2 q7_ka_3 q7_ka_4 q7_ka_5 q7_ka_6
    go_wp2
    go_ret
    exact ⟨rfl, hB1.trans ((hU_25).mono hs1)⟩
  · have hla : a.sets_.l.length = 0 := by
      have h9 : a.plain.sets_ = [] := by rw [hpa, HM0.out hE]; rfl
      have h8 := congrArg List.length h9
      rwa [show a.plain.sets_ = a.sets_.l.map MSet.plain from rfl, List.length_map] at h8
    have q2 := beq_eq_false_iff_ne.2 hE
    generalize P1.2 = E1 at *
    have r2 : (E1 != 0) = true := bne_iff_ne.2 hE
    have t2 : (!(E1 == 0)) = true := by rw [q2]; rfl
    obtain ⟨NL, hNL⟩ : ∃ NL, a.sets_.l.length = NL := ⟨_, rfl⟩
    rw [hNL] at ka
    obtain rfl : NL = 0 := by omega
    clear hE hpa hla hNL
    obtain ⟨qq0, qq1, qq2, qq3, qq4, qq5, qq6⟩ := ka.all7
    go_wp2
    go_ret
    exact ⟨rfl, hB1.trans ((hU_7).mono hs1)⟩
end Go.Proofs.YtimmcmjipmkebaaGreat
