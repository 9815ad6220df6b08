/-
  SnapsMay’s walk. Conditions: the tenant is as it comes in.
-/
import Derived.Test.YtimmcmjipmkebaaGreatQSPS
import Derived.Test.YtimmcmjipmkebaaGreatQHCR
import Derived.Test.YtimmcmjipmkebaaGreatQSPQ
import Derived.Test.YtimmcmjipmkebaaGreatQSPD
import Derived.Test.YtimmcmjipmkebaaGreatQHTY
import Derived.Test.YtimmcmjipmkebaaGreatQTMD
import Derived.Test.YtimmcmjipmkebaaGreatQHLP
namespace Go.Proofs.YtimmcmjipmkebaaGreat
open Go.ChangeShapes Go.WideShapes Go.ChangeAt Go.RowKit
set_option maxRecDepth 100000
set_option linter.unusedSimpArgs false
theorem clone_ok18 {t : PTenant} {p n tt : ByteArray} (h : (cloneP t p n tt (atT p n)).2 = 0) : okT (cloneP t p n tt (atT p n)).1 = true := by
  have hf : foundE t p n (isPath (bs tt)) true = 0 := by
    unfold cloneP cloneE at h
    by_cases h1 : foundE t p n (isPath (bs tt)) true = 0
    · exact h1
    · rw [if_pos h1, if_pos h1] at h
      exact absurd h h1
  obtain ⟨_, h2, h3, _⟩ := found_ways hf
  obtain ⟨s, y, _, _, _, _, h4, h5, _⟩ := clone_may (splitP_join h2 h3) h
  rw [h4]
  exact h5
theorem ren_ok18 {t : PTenant} {p n tt : ByteArray} (h : (renP t p n tt (atT p n) (atT p tt)).2 = 0) : okT (renP t p n tt (atT p n) (atT p tt)).1 = true := by
  have hf : foundE t p n (isName (bs tt)) true = 0 := by
    unfold renP at h
    by_cases h0 : renE t p n tt = 0
    · unfold renE at h0
      by_cases h1 : foundE t p n (isName (bs tt)) true = 0
      · exact h1
      · rw [if_pos h1] at h0
        exact absurd h0 h1
    · rw [if_pos h0] at h
      exact absurd h h0
  obtain ⟨_, h2, h3, h4, _⟩ := found_ways hf
  obtain ⟨h5, h6⟩ := ren_may (splitP_join h2 h3) (splitP_join h2 h4) h
  rw [h5]
  exact h6
theorem snap_ok18 {t : PTenant} {p n : ByteArray} (h : (snapshotP t p n).2.2 = 0) : okT (snapshotP t p n).1 = true := by
  obtain ⟨h1, h2, _⟩ := snapshot_may h
  rw [h1]
  exact h2
theorem unsnap_ok18 {t : PTenant} {p n : ByteArray} (h : (unsnapP t p n).2 = 0) : okT (unsnapP t p n).1 = true := by
  obtain ⟨h1, h2⟩ := unsnap_may h
  rw [h1]
  exact h2
set_option maxHeartbeats 4000000 in
theorem may17_walk (x : MTenant) (p n tt : ByteArray) (hp : p.size ≤ 140737488351232) (hn : n.size ≤ 140737488351232) (ht : tt.size ≤ 140737488351232) (w : World) (hx : x.Good w) :
    Calls Tryz.prog 4 #[.agg x.cells.toArray, .string p, .string n, .string tt] w fun e w' => e = .returned (.bool true) ∧ Below w.heap.size w w' := by
  obtain ⟨P1, hP1⟩ : ∃ P, snapshotP x.plain p n = P := ⟨_, rfl⟩
  obtain ⟨P2, hP2⟩ : ∃ P, cloneP x.plain p n tt (atT p n) = P := ⟨_, rfl⟩
  obtain ⟨P3, hP3⟩ : ∃ P, renP x.plain p n tt (atT p n) (atT p tt) = P := ⟨_, rfl⟩
  obtain ⟨P4, hP4⟩ : ∃ P, unsnapP x.plain p n = P := ⟨_, rfl⟩
  have M1 : P1.2.2 = 0 → okT P1.1 = true := hP1 ▸ snap_ok18
  have M2 : P2.2 = 0 → okT P2.1 = true := hP2 ▸ clone_ok18
  have M3 : P3.2 = 0 → okT P3.1 = true := hP3 ▸ ren_ok18
  have M4 : P4.2 = 0 → okT P4.1 = true := hP4 ▸ unsnap_ok18
  obtain ⟨a1, hw1⟩ : ∃ a1, w.alloc (.cells #[.string x.name_, .int .i64 x.quota_, .int .i64 x.next_, .slice x.sets_.A x.sets_.l.length x.sets_.c, .slice x.grants_.A x.grants_.l.length x.grants_.c, .slice x.stages_.A x.stages_.l.length x.stages_.c, .slice x.log_.A x.log_.l.length x.log_.c] 27) = a1 := ⟨_, rfl⟩
  have b1 : Below w.heap.size w a1 := hw1 ▸ (Below.refl _ w).alloc (Nat.le_refl _) _
  have k1 : Blk a1 w.heap.size 27 [.string x.name_, .int .i64 x.quota_, .int .i64 x.next_, .slice x.sets_.A x.sets_.l.length x.sets_.c, .slice x.grants_.A x.grants_.l.length x.grants_.c, .slice x.stages_.A x.stages_.l.length x.stages_.c, .slice x.log_.A x.log_.l.length x.log_.c] := hw1 ▸ Blk.new w _ _
  have hB1 : Below w.heap.size w a1 := b1
  have hs1 := hB1.size
  have HW1 := Lib.hid hw1
  clear hw1 b1
  have hx1 := hx.below hB1
  have HA := Lib.hid (alive17_any a1)
  have H1 : Hid (∀ W, x.Good W → Calls Tryz.prog 10 #[.agg x.cells.toArray, .string p, .string n] W fun e w' => AnsS W P1 e w') := Lib.hid fun W hW => hP1 ▸ snapshot_any x p n hp hn W hW
  have H2 : Hid (∀ W, x.Good W → Calls Tryz.prog 18 #[.agg x.cells.toArray, .string p, .string n, .string tt] W fun e w' => AnsT W P2 e w') := Lib.hid fun W hW => hP2 ▸ clone_any x p n tt hp ht W hW
  have H3 : Hid (∀ W, x.Good W → Calls Tryz.prog 20 #[.agg x.cells.toArray, .string p, .string n, .string tt] W fun e w' => AnsT W P3 e w') := Lib.hid fun W hW => hP3 ▸ rename17_any x p n tt hp W hW
  have H4 : Hid (∀ W, x.Good W → Calls Tryz.prog 12 #[.agg x.cells.toArray, .string p, .string n] W fun e w' => AnsT W P4 e w') := Lib.hid fun W hW => hP4 ▸ destroy17_any x p n hp W hW
  have HM1 := Lib.hid M1
  have HM2 := Lib.hid M2
  have HM3 := Lib.hid M3
  have HM4 := Lib.hid M4
  clear hP1 hP2 hP3 hP4 hx hp hn ht M1 M2 M3 M4
  go_enter Tryz.func4, Tryz.ntmps4
  go_upto_region 1 with fail
  rw [HW1.out]
  have G2 := Lib.hid (HA.out)
  go_wp2_with fail
  refine G2.out.mono ?_
  rintro e v2 ⟨rfl, hV2⟩
  clear G2
  have hU_3 : Below a1.heap.size a1 v2 := (Below.refl a1.heap.size a1).trans ((hV2).mono (Below.refl a1.heap.size a1).size)
  have k1 := k1.of hV2
  have hx1 := hx1.below hV2
  obtain ⟨q1_k1_0, q1_k1_1, q1_k1_2, q1_k1_3, q1_k1_4, q1_k1_5, q1_k1_6⟩ := k1.all7
  have G4 := Lib.hid (H1.out v2 hx1)
  go_wp2_with fail
  refine G4.out.mono ?_
  rintro e v4 ⟨a, rfl, hoa, hga, hpa, hV4⟩
  clear G4
  have hU_5 : Below a1.heap.size a1 v4 := hU_3.trans ((hV4).mono hU_3.size)
  have k1 := k1.of hV4
  have hx1 := hx1.below hV4
  clear q1_k1_0 q1_k1_1 q1_k1_2 q1_k1_3 q1_k1_4 q1_k1_5 q1_k1_6
  obtain ⟨z6, hz6⟩ : ∃ z, v4.alloc (.cells #[.string a.name_, .int .i64 a.quota_, .int .i64 a.next_, .slice a.sets_.A a.sets_.l.length a.sets_.c, .slice a.grants_.A a.grants_.l.length a.grants_.c, .slice a.stages_.A a.stages_.l.length a.stages_.c, .slice a.log_.A a.log_.l.length a.log_.c] 27) = z := ⟨_, rfl⟩
  have hAz6 : Below v4.heap.size v4 z6 := hz6 ▸ (Below.refl _ v4).alloc (Nat.le_refl _) _
  have ka : Blk z6 v4.heap.size 27 [.string a.name_, .int .i64 a.quota_, .int .i64 a.next_, .slice a.sets_.A a.sets_.l.length a.sets_.c, .slice a.grants_.A a.grants_.l.length a.grants_.c, .slice a.stages_.A a.stages_.l.length a.stages_.c, .slice a.log_.A a.log_.l.length a.log_.c] := hz6 ▸ Blk.new v4 _ _
  have HZz6 := Lib.hid hz6
  clear hz6
  have hU_7 : Below a1.heap.size a1 z6 := hU_5.trans ((hAz6).mono hU_5.size)
  have k1 := k1.of hAz6
  have hx1 := hx1.below hAz6
  have hga := hga.below hAz6
  have hoa := hoa.below hAz6
  go_upto_region 4 with fail
  rw [HZz6.out]
  obtain ⟨q2_k1_0, q2_k1_1, q2_k1_2, q2_k1_3, q2_k1_4, q2_k1_5, q2_k1_6⟩ := k1.all7
  have G8 := Lib.hid (H2.out z6 hx1)
  go_wp2_with fail
  refine G8.out.mono ?_
  rintro e v8 ⟨b, rfl, hob, hgb, hpb, hV8⟩
  clear G8
  have hU_9 : Below a1.heap.size a1 v8 := hU_7.trans ((hV8).mono hU_7.size)
  have k1 := k1.of hV8
  have ka := ka.of hV8
  have hx1 := hx1.below hV8
  have hga := hga.below hV8
  have hoa := hoa.below hV8
  clear q2_k1_0 q2_k1_1 q2_k1_2 q2_k1_3 q2_k1_4 q2_k1_5 q2_k1_6
  obtain ⟨z10, hz10⟩ : ∃ z, v8.alloc (.cells #[.string b.name_, .int .i64 b.quota_, .int .i64 b.next_, .slice b.sets_.A b.sets_.l.length b.sets_.c, .slice b.grants_.A b.grants_.l.length b.grants_.c, .slice b.stages_.A b.stages_.l.length b.stages_.c, .slice b.log_.A b.log_.l.length b.log_.c] 27) = z := ⟨_, rfl⟩
  have hAz10 : Below v8.heap.size v8 z10 := hz10 ▸ (Below.refl _ v8).alloc (Nat.le_refl _) _
  have kb : Blk z10 v8.heap.size 27 [.string b.name_, .int .i64 b.quota_, .int .i64 b.next_, .slice b.sets_.A b.sets_.l.length b.sets_.c, .slice b.grants_.A b.grants_.l.length b.grants_.c, .slice b.stages_.A b.stages_.l.length b.stages_.c, .slice b.log_.A b.log_.l.length b.log_.c] := hz10 ▸ Blk.new v8 _ _
  have HZz10 := Lib.hid hz10
  clear hz10
  have hU_11 : Below a1.heap.size a1 z10 := hU_9.trans ((hAz10).mono hU_9.size)
  have k1 := k1.of hAz10
  have ka := ka.of hAz10
  have hx1 := hx1.below hAz10
  have hga := hga.below hAz10
  have hgb := hgb.below hAz10
  have hoa := hoa.below hAz10
  have hob := hob.below hAz10
  go_upto_region 5 with fail
  rw [HZz10.out]
  obtain ⟨q3_k1_0, q3_k1_1, q3_k1_2, q3_k1_3, q3_k1_4, q3_k1_5, q3_k1_6⟩ := k1.all7
  have G12 := Lib.hid (H3.out z10 hx1)
  go_wp2_with fail
  refine G12.out.mono ?_
  rintro e v12 ⟨c, rfl, hoc, hgc, hpc, hV12⟩
  clear G12
  have hU_13 : Below a1.heap.size a1 v12 := hU_11.trans ((hV12).mono hU_11.size)
  have k1 := k1.of hV12
  have ka := ka.of hV12
  have kb := kb.of hV12
  have hx1 := hx1.below hV12
  have hga := hga.below hV12
  have hgb := hgb.below hV12
  have hoa := hoa.below hV12
  have hob := hob.below hV12
  clear q3_k1_0 q3_k1_1 q3_k1_2 q3_k1_3 q3_k1_4 q3_k1_5 q3_k1_6
  obtain ⟨z14, hz14⟩ : ∃ z, v12.alloc (.cells #[.string c.name_, .int .i64 c.quota_, .int .i64 c.next_, .slice c.sets_.A c.sets_.l.length c.sets_.c, .slice c.grants_.A c.grants_.l.length c.grants_.c, .slice c.stages_.A c.stages_.l.length c.stages_.c, .slice c.log_.A c.log_.l.length c.log_.c] 27) = z := ⟨_, rfl⟩
  have hAz14 : Below v12.heap.size v12 z14 := hz14 ▸ (Below.refl _ v12).alloc (Nat.le_refl _) _
  have kc : Blk z14 v12.heap.size 27 [.string c.name_, .int .i64 c.quota_, .int .i64 c.next_, .slice c.sets_.A c.sets_.l.length c.sets_.c, .slice c.grants_.A c.grants_.l.length c.grants_.c, .slice c.stages_.A c.stages_.l.length c.stages_.c, .slice c.log_.A c.log_.l.length c.log_.c] := hz14 ▸ Blk.new v12 _ _
  have HZz14 := Lib.hid hz14
  clear hz14
  have hU_15 : Below a1.heap.size a1 z14 := hU_13.trans ((hAz14).mono hU_13.size)
  have k1 := k1.of hAz14
  have ka := ka.of hAz14
  have kb := kb.of hAz14
  have hx1 := hx1.below hAz14
  have hga := hga.below hAz14
  have hgb := hgb.below hAz14
  have hgc := hgc.below hAz14
  have hoa := hoa.below hAz14
  have hob := hob.below hAz14
  have hoc := hoc.below hAz14
  go_upto_region 6 with fail
  rw [HZz14.out]
  obtain ⟨q4_k1_0, q4_k1_1, q4_k1_2, q4_k1_3, q4_k1_4, q4_k1_5, q4_k1_6⟩ := k1.all7
  have G16 := Lib.hid (H4.out z14 hx1)
  go_wp2_with fail
  refine G16.out.mono ?_
  rintro e v16 ⟨d, rfl, hod, hgd, hpd, hV16⟩
  clear G16
  have hU_17 : Below a1.heap.size a1 v16 := hU_15.trans ((hV16).mono hU_15.size)
  have k1 := k1.of hV16
  have ka := ka.of hV16
  have kb := kb.of hV16
  have kc := kc.of hV16
  have hx1 := hx1.below hV16
  have hga := hga.below hV16
  have hgb := hgb.below hV16
  have hgc := hgc.below hV16
  have hoa := hoa.below hV16
  have hob := hob.below hV16
  have hoc := hoc.below hV16
  clear q4_k1_0 q4_k1_1 q4_k1_2 q4_k1_3 q4_k1_4 q4_k1_5 q4_k1_6
  obtain ⟨z18, hz18⟩ : ∃ z, v16.alloc (.cells #[.string d.name_, .int .i64 d.quota_, .int .i64 d.next_, .slice d.sets_.A d.sets_.l.length d.sets_.c, .slice d.grants_.A d.grants_.l.length d.grants_.c, .slice d.stages_.A d.stages_.l.length d.stages_.c, .slice d.log_.A d.log_.l.length d.log_.c] 27) = z := ⟨_, rfl⟩
  have hAz18 : Below v16.heap.size v16 z18 := hz18 ▸ (Below.refl _ v16).alloc (Nat.le_refl _) _
  have kd : Blk z18 v16.heap.size 27 [.string d.name_, .int .i64 d.quota_, .int .i64 d.next_, .slice d.sets_.A d.sets_.l.length d.sets_.c, .slice d.grants_.A d.grants_.l.length d.grants_.c, .slice d.stages_.A d.stages_.l.length d.stages_.c, .slice d.log_.A d.log_.l.length d.log_.c] := hz18 ▸ Blk.new v16 _ _
  have HZz18 := Lib.hid hz18
  clear hz18
  have hU_19 : Below a1.heap.size a1 z18 := hU_17.trans ((hAz18).mono hU_17.size)
  have k1 := k1.of hAz18
  have ka := ka.of hAz18
  have kb := kb.of hAz18
  have kc := kc.of hAz18
  have hx1 := hx1.below hAz18
  have hga := hga.below hAz18
  have hgb := hgb.below hAz18
  have hgc := hgc.below hAz18
  have hgd := hgd.below hAz18
  have hoa := hoa.below hAz18
  have hob := hob.below hAz18
  have hoc := hoc.below hAz18
  have hod := hod.below hAz18
  go_upto_region 7 with fail
  rw [HZz18.out]
  clear hoa hob hoc hod
  have HQ1 : Hid (P1.2.2 = 0 → okT a.plain = true) := Lib.hid fun h9 => by
    rw [hpa]
    exact HM1.out h9
  have HK1 : Hid (P1.2.2 = 0 → ∀ W, Below z18.heap.size z18 W → Calls Tryz.prog 23 #[.agg a.cells.toArray] W fun e w' => e = .returned (.int .i64 0) ∧ Below W.heap.size W w') := Lib.hid fun h9 W hW => by
    have h8 := refCheck_any14 a W (hga.below hW) (tiny_of (HQ1.out h9))
    rwa [HQ1.out h9, if_pos rfl] at h8
  have HQ2 : Hid (P2.2 = 0 → okT b.plain = true) := Lib.hid fun h9 => by
    rw [hpb]
    exact HM2.out h9
  have HK2 : Hid (P2.2 = 0 → ∀ W, Below z18.heap.size z18 W → Calls Tryz.prog 23 #[.agg b.cells.toArray] W fun e w' => e = .returned (.int .i64 0) ∧ Below W.heap.size W w') := Lib.hid fun h9 W hW => by
    have h8 := refCheck_any14 b W (hgb.below hW) (tiny_of (HQ2.out h9))
    rwa [HQ2.out h9, if_pos rfl] at h8
  have HQ3 : Hid (P3.2 = 0 → okT c.plain = true) := Lib.hid fun h9 => by
    rw [hpc]
    exact HM3.out h9
  have HK3 : Hid (P3.2 = 0 → ∀ W, Below z18.heap.size z18 W → Calls Tryz.prog 23 #[.agg c.cells.toArray] W fun e w' => e = .returned (.int .i64 0) ∧ Below W.heap.size W w') := Lib.hid fun h9 W hW => by
    have h8 := refCheck_any14 c W (hgc.below hW) (tiny_of (HQ3.out h9))
    rwa [HQ3.out h9, if_pos rfl] at h8
  have HQ4 : Hid (P4.2 = 0 → okT d.plain = true) := Lib.hid fun h9 => by
    rw [hpd]
    exact HM4.out h9
  have HK4 : Hid (P4.2 = 0 → ∀ W, Below z18.heap.size z18 W → Calls Tryz.prog 23 #[.agg d.cells.toArray] W fun e w' => e = .returned (.int .i64 0) ∧ Below W.heap.size W w') := Lib.hid fun h9 W hW => by
    have h8 := refCheck_any14 d W (hgd.below hW) (tiny_of (HQ4.out h9))
    rwa [HQ4.out h9, if_pos rfl] at h8
  clear HQ1 HM1 HQ2 HM2 HQ3 HM3 HQ4 HM4 hga hpa hgb hpb hgc hpc hgd hpd hx1 HA H1 H2 H3 H4
  generalize P1.2.2 = E1 at *
  generalize P2.2 = E2 at *
  generalize P3.2 = E3 at *
  generalize P4.2 = E4 at *
  have hlk_a := ka.lt
  have hlk_b := kb.lt
  have hlk_c := kc.lt
  have hlk_d := kd.lt
  obtain ⟨q5_ka_0, q5_ka_1, q5_ka_2, q5_ka_3, q5_ka_4, q5_ka_5, q5_ka_6⟩ := ka.all7
  obtain ⟨q5_kb_0, q5_kb_1, q5_kb_2, q5_kb_3, q5_kb_4, q5_kb_5, q5_kb_6⟩ := kb.all7
  obtain ⟨q5_kc_0, q5_kc_1, q5_kc_2, q5_kc_3, q5_kc_4, q5_kc_5, q5_kc_6⟩ := kc.all7
  obtain ⟨q5_kd_0, q5_kd_1, q5_kd_2, q5_kd_3, q5_kd_4, q5_kd_5, q5_kd_6⟩ := kd.all7
  have HSF := Lib.hid (fun (W : World) (hB : Below z18.heap.size z18 W) => (⟨(hB.cell (p := ⟨v4.heap.size, 0, none⟩) hlk_a).trans q5_ka_0, (hB.cell (p := ⟨v4.heap.size, 1, none⟩) hlk_a).trans q5_ka_1, (hB.cell (p := ⟨v4.heap.size, 2, none⟩) hlk_a).trans q5_ka_2, (hB.cell (p := ⟨v4.heap.size, 3, none⟩) hlk_a).trans q5_ka_3, (hB.cell (p := ⟨v4.heap.size, 4, none⟩) hlk_a).trans q5_ka_4, (hB.cell (p := ⟨v4.heap.size, 5, none⟩) hlk_a).trans q5_ka_5, (hB.cell (p := ⟨v4.heap.size, 6, none⟩) hlk_a).trans q5_ka_6, (hB.cell (p := ⟨v8.heap.size, 0, none⟩) hlk_b).trans q5_kb_0, (hB.cell (p := ⟨v8.heap.size, 1, none⟩) hlk_b).trans q5_kb_1, (hB.cell (p := ⟨v8.heap.size, 2, none⟩) hlk_b).trans q5_kb_2, (hB.cell (p := ⟨v8.heap.size, 3, none⟩) hlk_b).trans q5_kb_3, (hB.cell (p := ⟨v8.heap.size, 4, none⟩) hlk_b).trans q5_kb_4, (hB.cell (p := ⟨v8.heap.size, 5, none⟩) hlk_b).trans q5_kb_5, (hB.cell (p := ⟨v8.heap.size, 6, none⟩) hlk_b).trans q5_kb_6, (hB.cell (p := ⟨v12.heap.size, 0, none⟩) hlk_c).trans q5_kc_0, (hB.cell (p := ⟨v12.heap.size, 1, none⟩) hlk_c).trans q5_kc_1, (hB.cell (p := ⟨v12.heap.size, 2, none⟩) hlk_c).trans q5_kc_2, (hB.cell (p := ⟨v12.heap.size, 3, none⟩) hlk_c).trans q5_kc_3, (hB.cell (p := ⟨v12.heap.size, 4, none⟩) hlk_c).trans q5_kc_4, (hB.cell (p := ⟨v12.heap.size, 5, none⟩) hlk_c).trans q5_kc_5, (hB.cell (p := ⟨v12.heap.size, 6, none⟩) hlk_c).trans q5_kc_6, (hB.cell (p := ⟨v16.heap.size, 0, none⟩) hlk_d).trans q5_kd_0, (hB.cell (p := ⟨v16.heap.size, 1, none⟩) hlk_d).trans q5_kd_1, (hB.cell (p := ⟨v16.heap.size, 2, none⟩) hlk_d).trans q5_kd_2, (hB.cell (p := ⟨v16.heap.size, 3, none⟩) hlk_d).trans q5_kd_3, (hB.cell (p := ⟨v16.heap.size, 4, none⟩) hlk_d).trans q5_kd_4, (hB.cell (p := ⟨v16.heap.size, 5, none⟩) hlk_d).trans q5_kd_5, (hB.cell (p := ⟨v16.heap.size, 6, none⟩) hlk_d).trans q5_kd_6⟩ : W.cell? ⟨v4.heap.size, 0, none⟩ = some (.string a.name_) ∧ W.cell? ⟨v4.heap.size, 1, none⟩ = some (.int .i64 a.quota_) ∧ W.cell? ⟨v4.heap.size, 2, none⟩ = some (.int .i64 a.next_) ∧ W.cell? ⟨v4.heap.size, 3, none⟩ = some (.slice a.sets_.A a.sets_.l.length a.sets_.c) ∧ W.cell? ⟨v4.heap.size, 4, none⟩ = some (.slice a.grants_.A a.grants_.l.length a.grants_.c) ∧ W.cell? ⟨v4.heap.size, 5, none⟩ = some (.slice a.stages_.A a.stages_.l.length a.stages_.c) ∧ W.cell? ⟨v4.heap.size, 6, none⟩ = some (.slice a.log_.A a.log_.l.length a.log_.c) ∧ W.cell? ⟨v8.heap.size, 0, none⟩ = some (.string b.name_) ∧ W.cell? ⟨v8.heap.size, 1, none⟩ = some (.int .i64 b.quota_) ∧ W.cell? ⟨v8.heap.size, 2, none⟩ = some (.int .i64 b.next_) ∧ W.cell? ⟨v8.heap.size, 3, none⟩ = some (.slice b.sets_.A b.sets_.l.length b.sets_.c) ∧ W.cell? ⟨v8.heap.size, 4, none⟩ = some (.slice b.grants_.A b.grants_.l.length b.grants_.c) ∧ W.cell? ⟨v8.heap.size, 5, none⟩ = some (.slice b.stages_.A b.stages_.l.length b.stages_.c) ∧ W.cell? ⟨v8.heap.size, 6, none⟩ = some (.slice b.log_.A b.log_.l.length b.log_.c) ∧ W.cell? ⟨v12.heap.size, 0, none⟩ = some (.string c.name_) ∧ W.cell? ⟨v12.heap.size, 1, none⟩ = some (.int .i64 c.quota_) ∧ W.cell? ⟨v12.heap.size, 2, none⟩ = some (.int .i64 c.next_) ∧ W.cell? ⟨v12.heap.size, 3, none⟩ = some (.slice c.sets_.A c.sets_.l.length c.sets_.c) ∧ W.cell? ⟨v12.heap.size, 4, none⟩ = some (.slice c.grants_.A c.grants_.l.length c.grants_.c) ∧ W.cell? ⟨v12.heap.size, 5, none⟩ = some (.slice c.stages_.A c.stages_.l.length c.stages_.c) ∧ W.cell? ⟨v12.heap.size, 6, none⟩ = some (.slice c.log_.A c.log_.l.length c.log_.c) ∧ W.cell? ⟨v16.heap.size, 0, none⟩ = some (.string d.name_) ∧ W.cell? ⟨v16.heap.size, 1, none⟩ = some (.int .i64 d.quota_) ∧ W.cell? ⟨v16.heap.size, 2, none⟩ = some (.int .i64 d.next_) ∧ W.cell? ⟨v16.heap.size, 3, none⟩ = some (.slice d.sets_.A d.sets_.l.length d.sets_.c) ∧ W.cell? ⟨v16.heap.size, 4, none⟩ = some (.slice d.grants_.A d.grants_.l.length d.grants_.c) ∧ W.cell? ⟨v16.heap.size, 5, none⟩ = some (.slice d.stages_.A d.stages_.l.length d.stages_.c) ∧ W.cell? ⟨v16.heap.size, 6, none⟩ = some (.slice d.log_.A d.log_.l.length d.log_.c)))
  clear q5_ka_0 q5_ka_1 q5_ka_2 q5_ka_3 q5_ka_4 q5_ka_5 q5_ka_6 q5_kb_0 q5_kb_1 q5_kb_2 q5_kb_3 q5_kb_4 q5_kb_5 q5_kb_6 q5_kc_0 q5_kc_1 q5_kc_2 q5_kc_3 q5_kc_4 q5_kc_5 q5_kc_6 q5_kd_0 q5_kd_1 q5_kd_2 q5_kd_3 q5_kd_4 q5_kd_5 q5_kd_6
  have hU := Below.refl z18.heap.size z18
  by_cases he1 : E1 = 0
  · have L1 := Lib.hid (HK1.out he1)
    subst he1
    clear HK1
    by_cases he2 : E2 = 0
    · have L2 := Lib.hid (HK2.out he2)
      subst he2
      clear HK2
      by_cases he3 : E3 = 0
      · have L3 := Lib.hid (HK3.out he3)
        subst he3
        clear HK3
        by_cases he4 : E4 = 0
        · have L4 := Lib.hid (HK4.out he4)
          subst he4
          clear HK4
          obtain ⟨sa0, sa1, sa2, sa3, sa4, sa5, sa6, _, _, _, _, _, _, _, _, _, _, _, _, _, _, _, _, _, _, _, _, _⟩ := HSF.out _ hU
          go_wp2_with fail
          refine (L1.out _ hU).mono ?_
          rintro e w1_ ⟨rfl, hB1_⟩
          have hU := hU.trans (hB1_.mono hU.size)
          clear sa0 sa1 sa2 sa3 sa4 sa5 sa6
          obtain ⟨_, _, _, _, _, _, _, sb0, sb1, sb2, sb3, sb4, sb5, sb6, _, _, _, _, _, _, _, _, _, _, _, _, _, _⟩ := HSF.out _ hU
          go_wp2_with fail
          refine (L2.out _ hU).mono ?_
          rintro e w2_ ⟨rfl, hB2_⟩
          have hU := hU.trans (hB2_.mono hU.size)
          clear sb0 sb1 sb2 sb3 sb4 sb5 sb6
          obtain ⟨_, _, _, _, _, _, _, _, _, _, _, _, _, _, sc0, sc1, sc2, sc3, sc4, sc5, sc6, _, _, _, _, _, _, _⟩ := HSF.out _ hU
          go_wp2_with fail
          refine (L3.out _ hU).mono ?_
          rintro e w3_ ⟨rfl, hB3_⟩
          have hU := hU.trans (hB3_.mono hU.size)
          clear sc0 sc1 sc2 sc3 sc4 sc5 sc6
          obtain ⟨_, _, _, _, _, _, _, _, _, _, _, _, _, _, _, _, _, _, _, _, _, sd0, sd1, sd2, sd3, sd4, sd5, sd6⟩ := HSF.out _ hU
          go_wp2_with fail
          refine (L4.out _ hU).mono ?_
          rintro e w4_ ⟨rfl, hB4_⟩
          have hU := hU.trans (hB4_.mono hU.size)
          clear sd0 sd1 sd2 sd3 sd4 sd5 sd6
          go_wp2
          go_ret
          exact ⟨rfl, hB1.trans (((hU_19).trans (hU.mono (hU_19).size)).mono hs1)⟩
        · have q4 := beq_eq_false_iff_ne.2 he4
          have r4 : (E4 != 0) = true := bne_iff_ne.2 he4
          have t4 : (!(E4 == 0)) = true := by rw [q4]; rfl
          clear HK4 he4
          obtain ⟨sa0, sa1, sa2, sa3, sa4, sa5, sa6, _, _, _, _, _, _, _, _, _, _, _, _, _, _, _, _, _, _, _, _, _⟩ := HSF.out _ hU
          go_wp2_with fail
          refine (L1.out _ hU).mono ?_
          rintro e w1_ ⟨rfl, hB1_⟩
          have hU := hU.trans (hB1_.mono hU.size)
          clear sa0 sa1 sa2 sa3 sa4 sa5 sa6
          obtain ⟨_, _, _, _, _, _, _, sb0, sb1, sb2, sb3, sb4, sb5, sb6, _, _, _, _, _, _, _, _, _, _, _, _, _, _⟩ := HSF.out _ hU
          go_wp2_with fail
          refine (L2.out _ hU).mono ?_
          rintro e w2_ ⟨rfl, hB2_⟩
          have hU := hU.trans (hB2_.mono hU.size)
          clear sb0 sb1 sb2 sb3 sb4 sb5 sb6
          obtain ⟨_, _, _, _, _, _, _, _, _, _, _, _, _, _, sc0, sc1, sc2, sc3, sc4, sc5, sc6, _, _, _, _, _, _, _⟩ := HSF.out _ hU
          go_wp2_with fail
          refine (L3.out _ hU).mono ?_
          rintro e w3_ ⟨rfl, hB3_⟩
          have hU := hU.trans (hB3_.mono hU.size)
          clear sc0 sc1 sc2 sc3 sc4 sc5 sc6
          go_wp2
          go_ret
          exact ⟨rfl, hB1.trans (((hU_19).trans (hU.mono (hU_19).size)).mono hs1)⟩
      · have q3 := beq_eq_false_iff_ne.2 he3
        have r3 : (E3 != 0) = true := bne_iff_ne.2 he3
        have t3 : (!(E3 == 0)) = true := by rw [q3]; rfl
        clear HK3 he3
        by_cases he4 : E4 = 0
        · have L4 := Lib.hid (HK4.out he4)
          subst he4
          clear HK4
          obtain ⟨sa0, sa1, sa2, sa3, sa4, sa5, sa6, _, _, _, _, _, _, _, _, _, _, _, _, _, _, _, _, _, _, _, _, _⟩ := HSF.out _ hU
          go_wp2_with fail
          refine (L1.out _ hU).mono ?_
          rintro e w1_ ⟨rfl, hB1_⟩
          have hU := hU.trans (hB1_.mono hU.size)
          clear sa0 sa1 sa2 sa3 sa4 sa5 sa6
          obtain ⟨_, _, _, _, _, _, _, sb0, sb1, sb2, sb3, sb4, sb5, sb6, _, _, _, _, _, _, _, _, _, _, _, _, _, _⟩ := HSF.out _ hU
          go_wp2_with fail
          refine (L2.out _ hU).mono ?_
          rintro e w2_ ⟨rfl, hB2_⟩
          have hU := hU.trans (hB2_.mono hU.size)
          clear sb0 sb1 sb2 sb3 sb4 sb5 sb6
          obtain ⟨_, _, _, _, _, _, _, _, _, _, _, _, _, _, _, _, _, _, _, _, _, sd0, sd1, sd2, sd3, sd4, sd5, sd6⟩ := HSF.out _ hU
          go_wp2_with fail
          refine (L4.out _ hU).mono ?_
          rintro e w4_ ⟨rfl, hB4_⟩
          have hU := hU.trans (hB4_.mono hU.size)
          clear sd0 sd1 sd2 sd3 sd4 sd5 sd6
          go_wp2
          go_ret
          exact ⟨rfl, hB1.trans (((hU_19).trans (hU.mono (hU_19).size)).mono hs1)⟩
        · have q4 := beq_eq_false_iff_ne.2 he4
          have r4 : (E4 != 0) = true := bne_iff_ne.2 he4
          have t4 : (!(E4 == 0)) = true := by rw [q4]; rfl
          clear HK4 he4
          obtain ⟨sa0, sa1, sa2, sa3, sa4, sa5, sa6, _, _, _, _, _, _, _, _, _, _, _, _, _, _, _, _, _, _, _, _, _⟩ := HSF.out _ hU
          go_wp2_with fail
          refine (L1.out _ hU).mono ?_
          rintro e w1_ ⟨rfl, hB1_⟩
          have hU := hU.trans (hB1_.mono hU.size)
          clear sa0 sa1 sa2 sa3 sa4 sa5 sa6
          obtain ⟨_, _, _, _, _, _, _, sb0, sb1, sb2, sb3, sb4, sb5, sb6, _, _, _, _, _, _, _, _, _, _, _, _, _, _⟩ := HSF.out _ hU
          go_wp2_with fail
          refine (L2.out _ hU).mono ?_
          rintro e w2_ ⟨rfl, hB2_⟩
          have hU := hU.trans (hB2_.mono hU.size)
          clear sb0 sb1 sb2 sb3 sb4 sb5 sb6
          go_wp2
          go_ret
          exact ⟨rfl, hB1.trans (((hU_19).trans (hU.mono (hU_19).size)).mono hs1)⟩
    · have q2 := beq_eq_false_iff_ne.2 he2
      have r2 : (E2 != 0) = true := bne_iff_ne.2 he2
      have t2 : (!(E2 == 0)) = true := by rw [q2]; rfl
      clear HK2 he2
      by_cases he3 : E3 = 0
      · have L3 := Lib.hid (HK3.out he3)
        subst he3
        clear HK3
        by_cases he4 : E4 = 0
        · have L4 := Lib.hid (HK4.out he4)
          subst he4
          clear HK4
          obtain ⟨sa0, sa1, sa2, sa3, sa4, sa5, sa6, _, _, _, _, _, _, _, _, _, _, _, _, _, _, _, _, _, _, _, _, _⟩ := HSF.out _ hU
          go_wp2_with fail
          refine (L1.out _ hU).mono ?_
          rintro e w1_ ⟨rfl, hB1_⟩
          have hU := hU.trans (hB1_.mono hU.size)
          clear sa0 sa1 sa2 sa3 sa4 sa5 sa6
          obtain ⟨_, _, _, _, _, _, _, _, _, _, _, _, _, _, sc0, sc1, sc2, sc3, sc4, sc5, sc6, _, _, _, _, _, _, _⟩ := HSF.out _ hU
          go_wp2_with fail
          refine (L3.out _ hU).mono ?_
          rintro e w3_ ⟨rfl, hB3_⟩
          have hU := hU.trans (hB3_.mono hU.size)
          clear sc0 sc1 sc2 sc3 sc4 sc5 sc6
          obtain ⟨_, _, _, _, _, _, _, _, _, _, _, _, _, _, _, _, _, _, _, _, _, sd0, sd1, sd2, sd3, sd4, sd5, sd6⟩ := HSF.out _ hU
          go_wp2_with fail
          refine (L4.out _ hU).mono ?_
          rintro e w4_ ⟨rfl, hB4_⟩
          have hU := hU.trans (hB4_.mono hU.size)
          clear sd0 sd1 sd2 sd3 sd4 sd5 sd6
          go_wp2
          go_ret
          exact ⟨rfl, hB1.trans (((hU_19).trans (hU.mono (hU_19).size)).mono hs1)⟩
        · have q4 := beq_eq_false_iff_ne.2 he4
          have r4 : (E4 != 0) = true := bne_iff_ne.2 he4
          have t4 : (!(E4 == 0)) = true := by rw [q4]; rfl
          clear HK4 he4
          obtain ⟨sa0, sa1, sa2, sa3, sa4, sa5, sa6, _, _, _, _, _, _, _, _, _, _, _, _, _, _, _, _, _, _, _, _, _⟩ := HSF.out _ hU
          go_wp2_with fail
          refine (L1.out _ hU).mono ?_
          rintro e w1_ ⟨rfl, hB1_⟩
          have hU := hU.trans (hB1_.mono hU.size)
          clear sa0 sa1 sa2 sa3 sa4 sa5 sa6
          obtain ⟨_, _, _, _, _, _, _, _, _, _, _, _, _, _, sc0, sc1, sc2, sc3, sc4, sc5, sc6, _, _, _, _, _, _, _⟩ := HSF.out _ hU
          go_wp2_with fail
          refine (L3.out _ hU).mono ?_
          rintro e w3_ ⟨rfl, hB3_⟩
          have hU := hU.trans (hB3_.mono hU.size)
          clear sc0 sc1 sc2 sc3 sc4 sc5 sc6
          go_wp2
          go_ret
          exact ⟨rfl, hB1.trans (((hU_19).trans (hU.mono (hU_19).size)).mono hs1)⟩
      · have q3 := beq_eq_false_iff_ne.2 he3
        have r3 : (E3 != 0) = true := bne_iff_ne.2 he3
        have t3 : (!(E3 == 0)) = true := by rw [q3]; rfl
        clear HK3 he3
        by_cases he4 : E4 = 0
        · have L4 := Lib.hid (HK4.out he4)
          subst he4
          clear HK4
          obtain ⟨sa0, sa1, sa2, sa3, sa4, sa5, sa6, _, _, _, _, _, _, _, _, _, _, _, _, _, _, _, _, _, _, _, _, _⟩ := HSF.out _ hU
          go_wp2_with fail
          refine (L1.out _ hU).mono ?_
          rintro e w1_ ⟨rfl, hB1_⟩
          have hU := hU.trans (hB1_.mono hU.size)
          clear sa0 sa1 sa2 sa3 sa4 sa5 sa6
          obtain ⟨_, _, _, _, _, _, _, _, _, _, _, _, _, _, _, _, _, _, _, _, _, sd0, sd1, sd2, sd3, sd4, sd5, sd6⟩ := HSF.out _ hU
          go_wp2_with fail
          refine (L4.out _ hU).mono ?_
          rintro e w4_ ⟨rfl, hB4_⟩
          have hU := hU.trans (hB4_.mono hU.size)
          clear sd0 sd1 sd2 sd3 sd4 sd5 sd6
          go_wp2
          go_ret
          exact ⟨rfl, hB1.trans (((hU_19).trans (hU.mono (hU_19).size)).mono hs1)⟩
        · have q4 := beq_eq_false_iff_ne.2 he4
          have r4 : (E4 != 0) = true := bne_iff_ne.2 he4
          have t4 : (!(E4 == 0)) = true := by rw [q4]; rfl
          clear HK4 he4
          obtain ⟨sa0, sa1, sa2, sa3, sa4, sa5, sa6, _, _, _, _, _, _, _, _, _, _, _, _, _, _, _, _, _, _, _, _, _⟩ := HSF.out _ hU
          go_wp2_with fail
          refine (L1.out _ hU).mono ?_
          rintro e w1_ ⟨rfl, hB1_⟩
          have hU := hU.trans (hB1_.mono hU.size)
          clear sa0 sa1 sa2 sa3 sa4 sa5 sa6
          go_wp2
          go_ret
          exact ⟨rfl, hB1.trans (((hU_19).trans (hU.mono (hU_19).size)).mono hs1)⟩
  · have q1 := beq_eq_false_iff_ne.2 he1
    have r1 : (E1 != 0) = true := bne_iff_ne.2 he1
    have t1 : (!(E1 == 0)) = true := by rw [q1]; rfl
    clear HK1 he1
    by_cases he2 : E2 = 0
    · have L2 := Lib.hid (HK2.out he2)
      subst he2
      clear HK2
      by_cases he3 : E3 = 0
      · have L3 := Lib.hid (HK3.out he3)
        subst he3
        clear HK3
        by_cases he4 : E4 = 0
        · have L4 := Lib.hid (HK4.out he4)
          subst he4
          clear HK4
          obtain ⟨_, _, _, _, _, _, _, sb0, sb1, sb2, sb3, sb4, sb5, sb6, _, _, _, _, _, _, _, _, _, _, _, _, _, _⟩ := HSF.out _ hU
          go_wp2_with fail
          refine (L2.out _ hU).mono ?_
          rintro e w2_ ⟨rfl, hB2_⟩
          have hU := hU.trans (hB2_.mono hU.size)
          clear sb0 sb1 sb2 sb3 sb4 sb5 sb6
          obtain ⟨_, _, _, _, _, _, _, _, _, _, _, _, _, _, sc0, sc1, sc2, sc3, sc4, sc5, sc6, _, _, _, _, _, _, _⟩ := HSF.out _ hU
          go_wp2_with fail
          refine (L3.out _ hU).mono ?_
          rintro e w3_ ⟨rfl, hB3_⟩
          have hU := hU.trans (hB3_.mono hU.size)
          clear sc0 sc1 sc2 sc3 sc4 sc5 sc6
          obtain ⟨_, _, _, _, _, _, _, _, _, _, _, _, _, _, _, _, _, _, _, _, _, sd0, sd1, sd2, sd3, sd4, sd5, sd6⟩ := HSF.out _ hU
          go_wp2_with fail
          refine (L4.out _ hU).mono ?_
          rintro e w4_ ⟨rfl, hB4_⟩
          have hU := hU.trans (hB4_.mono hU.size)
          clear sd0 sd1 sd2 sd3 sd4 sd5 sd6
          go_wp2
          go_ret
          exact ⟨rfl, hB1.trans (((hU_19).trans (hU.mono (hU_19).size)).mono hs1)⟩
        · have q4 := beq_eq_false_iff_ne.2 he4
          have r4 : (E4 != 0) = true := bne_iff_ne.2 he4
          have t4 : (!(E4 == 0)) = true := by rw [q4]; rfl
          clear HK4 he4
          obtain ⟨_, _, _, _, _, _, _, sb0, sb1, sb2, sb3, sb4, sb5, sb6, _, _, _, _, _, _, _, _, _, _, _, _, _, _⟩ := HSF.out _ hU
          go_wp2_with fail
          refine (L2.out _ hU).mono ?_
          rintro e w2_ ⟨rfl, hB2_⟩
          have hU := hU.trans (hB2_.mono hU.size)
          clear sb0 sb1 sb2 sb3 sb4 sb5 sb6
          obtain ⟨_, _, _, _, _, _, _, _, _, _, _, _, _, _, sc0, sc1, sc2, sc3, sc4, sc5, sc6, _, _, _, _, _, _, _⟩ := HSF.out _ hU
          go_wp2_with fail
          refine (L3.out _ hU).mono ?_
          rintro e w3_ ⟨rfl, hB3_⟩
          have hU := hU.trans (hB3_.mono hU.size)
          clear sc0 sc1 sc2 sc3 sc4 sc5 sc6
          go_wp2
          go_ret
          exact ⟨rfl, hB1.trans (((hU_19).trans (hU.mono (hU_19).size)).mono hs1)⟩
      · have q3 := beq_eq_false_iff_ne.2 he3
        have r3 : (E3 != 0) = true := bne_iff_ne.2 he3
        have t3 : (!(E3 == 0)) = true := by rw [q3]; rfl
        clear HK3 he3
        by_cases he4 : E4 = 0
        · have L4 := Lib.hid (HK4.out he4)
          subst he4
          clear HK4
          obtain ⟨_, _, _, _, _, _, _, sb0, sb1, sb2, sb3, sb4, sb5, sb6, _, _, _, _, _, _, _, _, _, _, _, _, _, _⟩ := HSF.out _ hU
          go_wp2_with fail
          refine (L2.out _ hU).mono ?_
          rintro e w2_ ⟨rfl, hB2_⟩
          have hU := hU.trans (hB2_.mono hU.size)
          clear sb0 sb1 sb2 sb3 sb4 sb5 sb6
          obtain ⟨_, _, _, _, _, _, _, _, _, _, _, _, _, _, _, _, _, _, _, _, _, sd0, sd1, sd2, sd3, sd4, sd5, sd6⟩ := HSF.out _ hU
          go_wp2_with fail
          refine (L4.out _ hU).mono ?_
          rintro e w4_ ⟨rfl, hB4_⟩
          have hU := hU.trans (hB4_.mono hU.size)
          clear sd0 sd1 sd2 sd3 sd4 sd5 sd6
          go_wp2
          go_ret
          exact ⟨rfl, hB1.trans (((hU_19).trans (hU.mono (hU_19).size)).mono hs1)⟩
        · have q4 := beq_eq_false_iff_ne.2 he4
          have r4 : (E4 != 0) = true := bne_iff_ne.2 he4
          have t4 : (!(E4 == 0)) = true := by rw [q4]; rfl
          clear HK4 he4
          obtain ⟨_, _, _, _, _, _, _, sb0, sb1, sb2, sb3, sb4, sb5, sb6, _, _, _, _, _, _, _, _, _, _, _, _, _, _⟩ := HSF.out _ hU
          go_wp2_with fail
          refine (L2.out _ hU).mono ?_
          rintro e w2_ ⟨rfl, hB2_⟩
          have hU := hU.trans (hB2_.mono hU.size)
          clear sb0 sb1 sb2 sb3 sb4 sb5 sb6
          go_wp2
          go_ret
          exact ⟨rfl, hB1.trans (((hU_19).trans (hU.mono (hU_19).size)).mono hs1)⟩
    · have q2 := beq_eq_false_iff_ne.2 he2
      have r2 : (E2 != 0) = true := bne_iff_ne.2 he2
      have t2 : (!(E2 == 0)) = true := by rw [q2]; rfl
      clear HK2 he2
      by_cases he3 : E3 = 0
      · have L3 := Lib.hid (HK3.out he3)
        subst he3
        clear HK3
        by_cases he4 : E4 = 0
        · have L4 := Lib.hid (HK4.out he4)
          subst he4
          clear HK4
          obtain ⟨_, _, _, _, _, _, _, _, _, _, _, _, _, _, sc0, sc1, sc2, sc3, sc4, sc5, sc6, _, _, _, _, _, _, _⟩ := HSF.out _ hU
          go_wp2_with fail
          refine (L3.out _ hU).mono ?_
          rintro e w3_ ⟨rfl, hB3_⟩
          have hU := hU.trans (hB3_.mono hU.size)
          clear sc0 sc1 sc2 sc3 sc4 sc5 sc6
          obtain ⟨_, _, _, _, _, _, _, _, _, _, _, _, _, _, _, _, _, _, _, _, _, sd0, sd1, sd2, sd3, sd4, sd5, sd6⟩ := HSF.out _ hU
          go_wp2_with fail
          refine (L4.out _ hU).mono ?_
          rintro e w4_ ⟨rfl, hB4_⟩
          have hU := hU.trans (hB4_.mono hU.size)
          clear sd0 sd1 sd2 sd3 sd4 sd5 sd6
          go_wp2
          go_ret
          exact ⟨rfl, hB1.trans (((hU_19).trans (hU.mono (hU_19).size)).mono hs1)⟩
        · have q4 := beq_eq_false_iff_ne.2 he4
          have r4 : (E4 != 0) = true := bne_iff_ne.2 he4
          have t4 : (!(E4 == 0)) = true := by rw [q4]; rfl
          clear HK4 he4
          obtain ⟨_, _, _, _, _, _, _, _, _, _, _, _, _, _, sc0, sc1, sc2, sc3, sc4, sc5, sc6, _, _, _, _, _, _, _⟩ := HSF.out _ hU
          go_wp2_with fail
          refine (L3.out _ hU).mono ?_
          rintro e w3_ ⟨rfl, hB3_⟩
          have hU := hU.trans (hB3_.mono hU.size)
          clear sc0 sc1 sc2 sc3 sc4 sc5 sc6
          go_wp2
          go_ret
          exact ⟨rfl, hB1.trans (((hU_19).trans (hU.mono (hU_19).size)).mono hs1)⟩
      · have q3 := beq_eq_false_iff_ne.2 he3
        have r3 : (E3 != 0) = true := bne_iff_ne.2 he3
        have t3 : (!(E3 == 0)) = true := by rw [q3]; rfl
        clear HK3 he3
        by_cases he4 : E4 = 0
        · have L4 := Lib.hid (HK4.out he4)
          subst he4
          clear HK4
          obtain ⟨_, _, _, _, _, _, _, _, _, _, _, _, _, _, _, _, _, _, _, _, _, sd0, sd1, sd2, sd3, sd4, sd5, sd6⟩ := HSF.out _ hU
          go_wp2_with fail
          refine (L4.out _ hU).mono ?_
          rintro e w4_ ⟨rfl, hB4_⟩
          have hU := hU.trans (hB4_.mono hU.size)
          clear sd0 sd1 sd2 sd3 sd4 sd5 sd6
          go_wp2
          go_ret
          exact ⟨rfl, hB1.trans (((hU_19).trans (hU.mono (hU_19).size)).mono hs1)⟩
        · have q4 := beq_eq_false_iff_ne.2 he4
          have r4 : (E4 != 0) = true := bne_iff_ne.2 he4
          have t4 : (!(E4 == 0)) = true := by rw [q4]; rfl
          clear HK4 he4
          go_wp2
          go_ret
          exact ⟨rfl, hB1.trans (((hU_19).trans (hU.mono (hU_19).size)).mono hs1)⟩
end Go.Proofs.YtimmcmjipmkebaaGreat
