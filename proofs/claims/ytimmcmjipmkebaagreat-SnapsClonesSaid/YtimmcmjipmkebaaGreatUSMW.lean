/-
  SnapsMay’s walk. Conditions: the tenant is as it comes in.
-/
import Derived.Test.YtimmcmjipmkebaaGreatUSPS
import Derived.Test.YtimmcmjipmkebaaGreatUHCR
import Derived.Test.YtimmcmjipmkebaaGreatUSPQ
import Derived.Test.YtimmcmjipmkebaaGreatUSPD
import Derived.Test.YtimmcmjipmkebaaGreatUHTY
import Derived.Test.YtimmcmjipmkebaaGreatUTMD
import Derived.Test.YtimmcmjipmkebaaGreatUHLP
import Derived.Test.YtimmcmjipmkebaaGreatUTCU
namespace Go.Proofs.YtimmcmjipmkebaaGreat
open Go.ChangeShapes Go.WideShapes Go.ChangeAt Go.RowKit
set_option maxRecDepth 100000
set_option linter.unusedSimpArgs false
theorem ren_ok18 {t : PTenant} {p n tt : ByteArray} (h : (renP t p n tt (atT p n) (atT p tt)).2 = 0) : okT (renP t p n tt (atT p n) (atT p tt)).1 = true := by
  have hf : foundE t p n (isName (bs tt)) true = 0 := by
    unfold renP at h
    by_cases h0 : renE t p n tt = 0
    · unfold renE at h0
      by_cases h1 : foundE t p n (isName (bs tt)) true = 0
      · exact h1
      · rw [if_pos h1] at h0
        exact absurd h0 h1
    · rw [if_pos h0] at h
      exact absurd h h0
  obtain ⟨_, h2, h3, h4, _⟩ := found_ways hf
  obtain ⟨h5, h6⟩ := ren_may (splitP_join h2 h3) (splitP_join h2 h4) h
  rw [h5]
  exact h6
theorem clone_facts {x a : MTenant} {p n tt : ByteArray} (h : (cloneP x.plain p n tt (atT p n)).2 = 0) (ha : a.plain = (cloneP x.plain p n tt (atT p n)).1) :
    ∃ (i j k : Nat) (s c : MSet) (y : MSnap), findM x p = i ∧ x.sets_.l[i]? = some s ∧ snapM s n = k ∧ s.snaps_.l[k]? = some y ∧ findM a tt = j ∧ a.sets_.l[j]? = some c ∧ c.path_ = tt ∧ c.origin_ = atT p n ∧ c.body_.l = y.body_.l ∧ unsnapP a.plain p n = (noT, 44) ∧ okT a.plain = true := by
  have hE : cloneE x.plain p n tt = 0 := by
    unfold cloneP at h
    by_cases h1 : cloneE x.plain p n tt = 0
    · exact h1
    · rw [if_pos h1] at h
      exact absurd h h1
  have hf : foundE x.plain p n (isPath (bs tt)) true = 0 := by
    unfold cloneE at hE
    by_cases h1 : foundE x.plain p n (isPath (bs tt)) true = 0
    · exact h1
    · rw [if_pos h1] at hE
      exact absurd hE h1
  obtain ⟨h1, h2, h3, h4, s0, hs0, h5⟩ := found_ways hf
  obtain ⟨s1, y1, hs1, hy1, _, hto, hP, hok, _⟩ := clone_may (splitP_join h2 h3) h
  rw [hs0] at hs1
  injection hs1 with hs1
  subst hs1
  have hr := ((goodL_iff ltPath_trans).1 (okT_parts.1 h1).2.2.2).2
  have hno : setAt x.plain tt = none := by
    rcases hq : setAt x.plain tt with _ | q
    · rfl
    · unfold hasSet at hto
      rw [hq] at hto
      cases hto
  rw [hP] at ha
  have ha : a.plain = withP x.plain (cloneS tt (atT p n) y1) := ha
  have hnew : setAt a.plain tt = some (cloneS tt (atT p n) y1) := by
    rw [ha]
    exact with_new (s := cloneS tt (atT p n) y1) hr hno
  have hbusy := clone_busy (splitP_join h2 h3) h2 h3 hok h1 hno hs0 (h5 rfl)
  rcases place_ways17 x p n with ⟨_, _, _, _, hs⟩ | ⟨i, s, hF, hj, _, hS, hN, hY, hs, hh, _⟩ | ⟨i, s, k, y, hF, hj, _, hS, hN, hk, _, hY, hs, hh, ho, hsm, _⟩
  · rw [hs0] at hs
    cases hs
  · rw [hs0] at hs
    injection hs with hs
    rw [hs] at h5
    rw [h5 rfl] at hh
    cases hh
  · rw [hs0] at hs
    injection hs with hs
    rw [hs, ho] at hy1
    injection hy1 with hy1
    rcases set_ways a tt with ⟨_, hz⟩ | ⟨j, c, hF2, hj2, hc, hz⟩
    · rw [hnew] at hz
      cases hz
    · rw [hnew] at hz
      injection hz with hz
      refine ⟨i, j, k, s, c, y, hF, hj, hsm, hk, hF2, hj2, hc, ?_, ?_, ?_, by rw [ha]; exact hok⟩
      · exact (congrArg PSet.origin_ hz).symm
      · have h9 := congrArg PSet.body_ hz
        have h8 : c.body_.l = y1.body_ := h9.symm
        rw [h8, ← hy1]
        rfl
      · rw [ha]
        unfold unsnapP
        rw [hbusy]
        rfl
theorem clone_no {t : PTenant} {p n tt o : ByteArray} (h : (cloneP t p n tt o).2 ≠ 0) : (cloneP t p n tt o).1 = noT := by
  unfold cloneP at h ⊢
  by_cases h1 : cloneE t p n tt = 0
  · rw [if_neg (fun k => k h1)] at h ⊢
    rcases hs : setAt t p with _ | s
    · rfl
    · rw [hs] at h
      dsimp only at h ⊢
      rcases hy : snapOf s n with _ | y
      · rfl
      · rw [hy] at h
        dsimp only at h ⊢
        unfold settledP at h ⊢
        split
        · rename_i h2
          rw [if_pos h2] at h
          exact absurd rfl h
        · rfl
  · rw [if_pos h1]
theorem ren_facts {a b : MTenant} {p n m : ByteArray} (h : (renP a.plain p n m (atT p n) (atT p m)).2 = 0) (hb : b.plain = (renP a.plain p n m (atT p n) (atT p m)).1) {j : Nat} {c : MSet} (hj : a.sets_.l[j]? = some c) (hc : c.origin_ = atT p n) :
    okT b.plain = true ∧ ∃ d : MSet, b.sets_.l[j]? = some d ∧ d.origin_ = atT p m := by
  refine ⟨by rw [hb]; exact ren_ok18 h, ?_⟩
  have hE : renE a.plain p n m = 0 := by
    unfold renP at h
    by_cases h1 : renE a.plain p n m = 0
    · exact h1
    · rw [if_pos h1] at h
      exact absurd h h1
  have hP : b.plain = mapP a.plain (renS p n m (atT p n) (atT p m)) a.plain.next_ := by
    rw [hb]
    unfold renP
    rw [if_neg (fun k => k hE)]
  have h1 : (b.sets_.l.map MSet.plain)[j]? = some (renS p n m (atT p n) (atT p m) c.plain) := by
    rw [show b.sets_.l.map MSet.plain = b.plain.sets_ from rfl, hP]
    show ((a.sets_.l.map MSet.plain).map _)[j]? = _
    rw [List.getElem?_map, List.getElem?_map, hj]
    rfl
  rw [List.getElem?_map] at h1
  rcases hd : b.sets_.l[j]? with _ | d
  · rw [hd] at h1
    cases h1
  · rw [hd] at h1
    simp only [Option.map_some, Option.some.injEq] at h1
    refine ⟨d, rfl, ?_⟩
    have h2 := congrArg PSet.origin_ h1
    have h3 : d.origin_ = origT (atT p n) (atT p m) c.plain := h2
    rw [h3]
    exact if_pos hc
set_option maxHeartbeats 8000000 in
theorem clones17_walk (x : MTenant) (p n tt m : ByteArray) (hp : p.size ≤ 140737488351232) (hn : n.size ≤ 140737488351232) (ht : tt.size ≤ 140737488351232) (hm : m.size ≤ 140737488351232) (w : World) (hx : x.Good w) :
    Calls Tryz.prog 5 #[.agg x.cells.toArray, .string p, .string n, .string tt, .string m] w fun e w' => e = .returned (.bool true) ∧ Below w.heap.size w w' := by
  obtain ⟨P1, hP1⟩ : ∃ P, cloneP x.plain p n tt (atT p n) = P := ⟨_, rfl⟩
  have M0 : P1.2 ≠ 0 → P1.1 = noT := hP1 ▸ clone_no
  have M1 : ∀ a : MTenant, P1.2 = 0 → a.plain = P1.1 → ∃ (i j k : Nat) (s c : MSet) (y : MSnap), findM x p = i ∧ x.sets_.l[i]? = some s ∧ snapM s n = k ∧ s.snaps_.l[k]? = some y ∧ findM a tt = j ∧ a.sets_.l[j]? = some c ∧ c.path_ = tt ∧ c.origin_ = atT p n ∧ c.body_.l = y.body_.l ∧ unsnapP a.plain p n = (noT, 44) ∧ okT a.plain = true := fun a => hP1 ▸ clone_facts
  obtain ⟨a1, hw1⟩ : ∃ a1, w.alloc (.cells #[.string x.name_, .int .i64 x.quota_, .int .i64 x.next_, .slice x.sets_.A x.sets_.l.length x.sets_.c, .slice x.grants_.A x.grants_.l.length x.grants_.c, .slice x.stages_.A x.stages_.l.length x.stages_.c, .slice x.log_.A x.log_.l.length x.log_.c] 27) = a1 := ⟨_, rfl⟩
  have b1 : Below w.heap.size w a1 := hw1 ▸ (Below.refl _ w).alloc (Nat.le_refl _) _
  have k1 : Blk a1 w.heap.size 27 [.string x.name_, .int .i64 x.quota_, .int .i64 x.next_, .slice x.sets_.A x.sets_.l.length x.sets_.c, .slice x.grants_.A x.grants_.l.length x.grants_.c, .slice x.stages_.A x.stages_.l.length x.stages_.c, .slice x.log_.A x.log_.l.length x.log_.c] := hw1 ▸ Blk.new w _ _
  have hB1 : Below w.heap.size w a1 := b1
  have hs1 := hB1.size
  have HW1 := Lib.hid hw1
  clear hw1 b1
  have hx1 := hx.below hB1
  have HA := Lib.hid (alive17_any a1)
  have H1 : Hid (∀ W, x.Good W → Calls Tryz.prog 18 #[.agg x.cells.toArray, .string p, .string n, .string tt] W fun e w' => AnsT W P1 e w') := Lib.hid fun W hW => hP1 ▸ clone_any x p n tt hp ht W hW
  have HM0 := Lib.hid M0
  have HM1 := Lib.hid M1
  have HP := Lib.hid hp
  have HN9 := Lib.hid hn
  have HM9 := Lib.hid hm
  clear hP1 hx hp hn hm ht M0 M1
  go_enter Tryz.func5, Tryz.ntmps5
  go_upto_region 1 with fail
  rw [HW1.out]
  have G2 := Lib.hid (HA.out)
  go_wp2_with fail
  refine G2.out.mono ?_
  rintro e v2 ⟨rfl, hV2⟩
  clear G2
  have hU_3 : Below a1.heap.size a1 v2 := (Below.refl a1.heap.size a1).trans ((hV2).mono (Below.refl a1.heap.size a1).size)
  have k1 := k1.of hV2
  have hx1 := hx1.below hV2
  obtain ⟨q1_k1_0, q1_k1_1, q1_k1_2, q1_k1_3, q1_k1_4, q1_k1_5, q1_k1_6⟩ := k1.all7
  have G4 := Lib.hid (H1.out v2 hx1)
  go_wp2_with fail
  refine G4.out.mono ?_
  rintro e v4 ⟨a, rfl, hoa, hga, hpa, hV4⟩
  clear G4
  have hU_5 : Below a1.heap.size a1 v4 := hU_3.trans ((hV4).mono hU_3.size)
  have k1 := k1.of hV4
  have hx1 := hx1.below hV4
  clear q1_k1_0 q1_k1_1 q1_k1_2 q1_k1_3 q1_k1_4 q1_k1_5 q1_k1_6
  obtain ⟨z6, hz6⟩ : ∃ z, v4.alloc (.cells #[.string a.name_, .int .i64 a.quota_, .int .i64 a.next_, .slice a.sets_.A a.sets_.l.length a.sets_.c, .slice a.grants_.A a.grants_.l.length a.grants_.c, .slice a.stages_.A a.stages_.l.length a.stages_.c, .slice a.log_.A a.log_.l.length a.log_.c] 27) = z := ⟨_, rfl⟩
  have hAz6 : Below v4.heap.size v4 z6 := hz6 ▸ (Below.refl _ v4).alloc (Nat.le_refl _) _
  have ka : Blk z6 v4.heap.size 27 [.string a.name_, .int .i64 a.quota_, .int .i64 a.next_, .slice a.sets_.A a.sets_.l.length a.sets_.c, .slice a.grants_.A a.grants_.l.length a.grants_.c, .slice a.stages_.A a.stages_.l.length a.stages_.c, .slice a.log_.A a.log_.l.length a.log_.c] := hz6 ▸ Blk.new v4 _ _
  have HZz6 := Lib.hid hz6
  clear hz6
  have hU_7 : Below a1.heap.size a1 z6 := hU_5.trans ((hAz6).mono hU_5.size)
  have k1 := k1.of hAz6
  have hx1 := hx1.below hAz6
  have hga := hga.below hAz6
  have hoa := hoa.below hAz6
  go_upto_region 4 with fail
  rw [HZz6.out]
  clear hoa
  by_cases hE : P1.2 = 0
  · obtain ⟨i, j, k, s, c, y, hFi, hi, hFk, hk, hFj, hj, hcp, hco, hcb, hun, hoka⟩ := HM1.out a hE hpa
    obtain ⟨P3, hP3⟩ : ∃ P, renP a.plain p n m (atT p n) (atT p m) = P := ⟨_, rfl⟩
    have M3 : ∀ b : MTenant, P3.2 = 0 → b.plain = P3.1 → okT b.plain = true ∧ ∃ d : MSet, b.sets_.l[j]? = some d ∧ d.origin_ = atT p m := fun b h1 h2 => ren_facts (by rw [hP3]; exact h1) (by rw [hP3]; exact h2) hj hco
    have H2 : Hid (∀ W, a.Good W → Calls Tryz.prog 12 #[.agg a.cells.toArray, .string p, .string n] W fun e w' => AnsT W (noT, 44) e w') := Lib.hid fun W hW => hun ▸ destroy17_any a p n HP.out W hW
    have H3 : Hid (∀ W, a.Good W → Calls Tryz.prog 20 #[.agg a.cells.toArray, .string p, .string n, .string m] W fun e w' => AnsT W P3 e w') := Lib.hid fun W hW => hP3 ▸ rename17_any a p n m HP.out W hW
    have H4 : Hid (∀ W, a.Good W → Calls Tryz.prog 24 #[.agg a.cells.toArray, .string tt] W fun e w' => e = .returned (.int .i64 j) ∧ Below W.heap.size W w') := Lib.hid fun W hW => by
      have h9 := refFind_any a tt W hW
      rwa [hFj] at h9
    have H5 : Hid (∀ W, x.Good W → Calls Tryz.prog 24 #[.agg x.cells.toArray, .string p] W fun e w' => e = .returned (.int .i64 i) ∧ Below W.heap.size W w') := Lib.hid fun W hW => by
      have h9 := refFind_any x p W hW
      rwa [hFi] at h9
    have H6 : Hid (∀ W, s.Good W → Calls Tryz.prog 25 #[.agg s.cells.toArray, .string n] W fun e w' => e = .returned (.int .i64 k) ∧ Below W.heap.size W w') := Lib.hid fun W hW => by
      have h9 := refSnap_any s n W hW.gsnaps_
      rwa [hFk] at h9
    have HM3 := Lib.hid M3
    have HI := Lib.hid hi
    have HK := Lib.hid hk
    have HJ := Lib.hid hj
    have HCO := Lib.hid hco
    have HCB := Lib.hid hcb
    have hil : i < x.sets_.l.length := (List.getElem?_eq_some_iff.1 hi).1
    have hkl : k < s.snaps_.l.length := (List.getElem?_eq_some_iff.1 hk).1
    have hjl : j < a.sets_.l.length := (List.getElem?_eq_some_iff.1 hj).1
    have hxl := hx1.gsets_.len
    have hal := hga.gsets_.len
    have hsl := (hx1.gsets_.el s (List.mem_of_getElem? hi)).gsnaps_.len
    have e1 : (P1.2 == 0) = true := by rw [hE]; rfl
    generalize P1.2 = E1 at *
    subst hE
    clear hpa hFi hi hFk hk hFj hj hcp hco hcb hun hoka hP3 M3 e1 HM0 HM1
    obtain ⟨q2_ka_0, q2_ka_1, q2_ka_2, q2_ka_3, q2_ka_4, q2_ka_5, q2_ka_6⟩ := ka.all7
    have G8 := Lib.hid (H2.out z6 hga)
    go_wp2_with fail
    refine G8.out.mono ?_
    rintro e v8 ⟨c2, rfl, hoc2, hgc2, hpc2, hV8⟩
    clear G8
    have hU_9 : Below a1.heap.size a1 v8 := hU_7.trans ((hV8).mono hU_7.size)
    have k1 := k1.of hV8
    have ka := ka.of hV8
    have hx1 := hx1.below hV8
    have hga := hga.below hV8
    clear q2_ka_0 q2_ka_1 q2_ka_2 q2_ka_3 q2_ka_4 q2_ka_5 q2_ka_6
    obtain ⟨z10, hz10⟩ : ∃ z, v8.alloc (.cells #[.string c2.name_, .int .i64 c2.quota_, .int .i64 c2.next_, .slice c2.sets_.A c2.sets_.l.length c2.sets_.c, .slice c2.grants_.A c2.grants_.l.length c2.grants_.c, .slice c2.stages_.A c2.stages_.l.length c2.stages_.c, .slice c2.log_.A c2.log_.l.length c2.log_.c] 27) = z := ⟨_, rfl⟩
    have hAz10 : Below v8.heap.size v8 z10 := hz10 ▸ (Below.refl _ v8).alloc (Nat.le_refl _) _
    have kc2 : Blk z10 v8.heap.size 27 [.string c2.name_, .int .i64 c2.quota_, .int .i64 c2.next_, .slice c2.sets_.A c2.sets_.l.length c2.sets_.c, .slice c2.grants_.A c2.grants_.l.length c2.grants_.c, .slice c2.stages_.A c2.stages_.l.length c2.stages_.c, .slice c2.log_.A c2.log_.l.length c2.log_.c] := hz10 ▸ Blk.new v8 _ _
    have HZz10 := Lib.hid hz10
    clear hz10
    have hU_11 : Below a1.heap.size a1 z10 := hU_9.trans ((hAz10).mono hU_9.size)
    have k1 := k1.of hAz10
    have ka := ka.of hAz10
    have hx1 := hx1.below hAz10
    have hga := hga.below hAz10
    have hgc2 := hgc2.below hAz10
    have hoc2 := hoc2.below hAz10
    go_upto_region 7 with fail
    rw [HZz10.out]
    clear hoc2 hpc2
    have kx := k1
    have hlk_a := ka.lt
    have hlk_x := kx.lt
    obtain ⟨q3_ka_0, q3_ka_1, q3_ka_2, q3_ka_3, q3_ka_4, q3_ka_5, q3_ka_6⟩ := ka.all7
    obtain ⟨q3_kx_0, q3_kx_1, q3_kx_2, q3_kx_3, q3_kx_4, q3_kx_5, q3_kx_6⟩ := kx.all7
    have HSF := Lib.hid (fun (W : World) (hB : Below z10.heap.size z10 W) => (⟨(hB.cell (p := ⟨v4.heap.size, 0, none⟩) hlk_a).trans q3_ka_0, (hB.cell (p := ⟨v4.heap.size, 1, none⟩) hlk_a).trans q3_ka_1, (hB.cell (p := ⟨v4.heap.size, 2, none⟩) hlk_a).trans q3_ka_2, (hB.cell (p := ⟨v4.heap.size, 3, none⟩) hlk_a).trans q3_ka_3, (hB.cell (p := ⟨v4.heap.size, 4, none⟩) hlk_a).trans q3_ka_4, (hB.cell (p := ⟨v4.heap.size, 5, none⟩) hlk_a).trans q3_ka_5, (hB.cell (p := ⟨v4.heap.size, 6, none⟩) hlk_a).trans q3_ka_6, (hB.cell (p := ⟨w.heap.size, 0, none⟩) hlk_x).trans q3_kx_0, (hB.cell (p := ⟨w.heap.size, 1, none⟩) hlk_x).trans q3_kx_1, (hB.cell (p := ⟨w.heap.size, 2, none⟩) hlk_x).trans q3_kx_2, (hB.cell (p := ⟨w.heap.size, 3, none⟩) hlk_x).trans q3_kx_3, (hB.cell (p := ⟨w.heap.size, 4, none⟩) hlk_x).trans q3_kx_4, (hB.cell (p := ⟨w.heap.size, 5, none⟩) hlk_x).trans q3_kx_5, (hB.cell (p := ⟨w.heap.size, 6, none⟩) hlk_x).trans q3_kx_6⟩ : W.cell? ⟨v4.heap.size, 0, none⟩ = some (.string a.name_) ∧ W.cell? ⟨v4.heap.size, 1, none⟩ = some (.int .i64 a.quota_) ∧ W.cell? ⟨v4.heap.size, 2, none⟩ = some (.int .i64 a.next_) ∧ W.cell? ⟨v4.heap.size, 3, none⟩ = some (.slice a.sets_.A a.sets_.l.length a.sets_.c) ∧ W.cell? ⟨v4.heap.size, 4, none⟩ = some (.slice a.grants_.A a.grants_.l.length a.grants_.c) ∧ W.cell? ⟨v4.heap.size, 5, none⟩ = some (.slice a.stages_.A a.stages_.l.length a.stages_.c) ∧ W.cell? ⟨v4.heap.size, 6, none⟩ = some (.slice a.log_.A a.log_.l.length a.log_.c) ∧ W.cell? ⟨w.heap.size, 0, none⟩ = some (.string x.name_) ∧ W.cell? ⟨w.heap.size, 1, none⟩ = some (.int .i64 x.quota_) ∧ W.cell? ⟨w.heap.size, 2, none⟩ = some (.int .i64 x.next_) ∧ W.cell? ⟨w.heap.size, 3, none⟩ = some (.slice x.sets_.A x.sets_.l.length x.sets_.c) ∧ W.cell? ⟨w.heap.size, 4, none⟩ = some (.slice x.grants_.A x.grants_.l.length x.grants_.c) ∧ W.cell? ⟨w.heap.size, 5, none⟩ = some (.slice x.stages_.A x.stages_.l.length x.stages_.c) ∧ W.cell? ⟨w.heap.size, 6, none⟩ = some (.slice x.log_.A x.log_.l.length x.log_.c)))
    have hBd : Below z10.heap.size z10 z10.drew := (Below.refl _ _).drew
    have HGa := Lib.hid hga
    have HGx := Lib.hid hx1
    refine wp_region_noPanic ?_
    refine wp_region_last 5 (fun W => W.cell? ⟨v4.heap.size, 0, none⟩ = some (.string a.name_) ∧ W.cell? ⟨v4.heap.size, 1, none⟩ = some (.int .i64 a.quota_) ∧ W.cell? ⟨v4.heap.size, 2, none⟩ = some (.int .i64 a.next_) ∧ W.cell? ⟨v4.heap.size, 3, none⟩ = some (.slice a.sets_.A a.sets_.l.length a.sets_.c) ∧ W.cell? ⟨v4.heap.size, 4, none⟩ = some (.slice a.grants_.A a.grants_.l.length a.grants_.c) ∧ W.cell? ⟨v4.heap.size, 5, none⟩ = some (.slice a.stages_.A a.stages_.l.length a.stages_.c) ∧ W.cell? ⟨v4.heap.size, 6, none⟩ = some (.slice a.log_.A a.log_.l.length a.log_.c) ∧ W.cell? ⟨w.heap.size, 0, none⟩ = some (.string x.name_) ∧ W.cell? ⟨w.heap.size, 1, none⟩ = some (.int .i64 x.quota_) ∧ W.cell? ⟨w.heap.size, 2, none⟩ = some (.int .i64 x.next_) ∧ W.cell? ⟨w.heap.size, 3, none⟩ = some (.slice x.sets_.A x.sets_.l.length x.sets_.c) ∧ W.cell? ⟨w.heap.size, 4, none⟩ = some (.slice x.grants_.A x.grants_.l.length x.grants_.c) ∧ W.cell? ⟨w.heap.size, 5, none⟩ = some (.slice x.stages_.A x.stages_.l.length x.stages_.c) ∧ W.cell? ⟨w.heap.size, 6, none⟩ = some (.slice x.log_.A x.log_.l.length x.log_.c)) (by kernel_rfl) (HSF.out _ hBd) (fun hHeld => ?_)
    refine tkA 12 (i := 0) (oi := ⟨some 43, _, _, _, _, _⟩) rfl hHeld ?_
    try simp only [Act.put, pZa, pZb, pZc]
    refine tkA 12 (i := 1) (oi := ⟨some 44, _, _, _, _, _⟩) rfl hHeld ?_
    try simp only [Act.put, pZa, pZb, pZc]
    refine tkA 12 (i := 3) (oi := ⟨some 46, _, _, _, _, _⟩) rfl hHeld ?_
    try simp only [Act.put, pZa, pZb, pZc]
    refine tkA 12 (i := 4) (oi := ⟨some 47, _, _, _, _, _⟩) rfl hHeld ?_
    try simp only [Act.put, pZa, pZb, pZc]
    refine wpAnyL_one (i := 2) (o := ⟨some 45, _, _, _, _, _⟩) (by kernel_rfl) rfl (fun K hK => ?_)
    clear hHeld
    go_simp
    refine (H4.out _ (HGa.out.below hBd)).mono ?_
    rintro e r45 ⟨rfl, hR45⟩
    have hB45 := hBd.trans (hR45.mono hBd.size)
    go_wp2_with fail
    refine hK.out _ _ (HSF.out _ hB45) (fun hHeld => ?_)
    clear hK K
    try simp only [Act.put, pZa, pZb, pZc]
    refine wpAnyL_last (i := 5) (o := ⟨some 48, _, _, _, _, _⟩) (by kernel_rfl) rfl (by kernel_rfl) (fun K hK => ?_)
    clear hHeld
    go_simp
    refine (H5.out _ (HGx.out.below hB45)).mono ?_
    rintro e r48 ⟨rfl, hR48⟩
    have hB48 := hB45.trans (hR48.mono hB45.size)
    go_wp2_with fail
    refine hK.out _ _ ?_
    clear hK K
    try simp only [Act.put, pZa, pZb, pZc]
    refine wpAnyL_takeW (i := 6) (oi := ⟨some 15, _, _, _, _, _⟩) (v := ?_) rfl (by kernel_rfl) (by kernel_rfl) (by kernel_rfl) (by kernel_rfl) (fun _ _ _ h => h) (Or.inl ⟨by rfl, ?_⟩) (.inl (by kernel_rfl)) ?_
    rotate_left
    focus (intro w hSw; (try dsimp only at hSw); go_simp; try (with_reducible rfl))
    try simp only [Act.put, pZa, pZb, pZc]
    refine wpAnyL_takeW (i := 7) (oi := ⟨some 16, _, _, _, _, _⟩) (v := ?_) rfl (by kernel_rfl) (by kernel_rfl) (by kernel_rfl) (by kernel_rfl) (fun _ _ _ h => h) (Or.inl ⟨by rfl, ?_⟩) (.inl (by kernel_rfl)) ?_
    rotate_left
    focus (intro w hSw; (try dsimp only at hSw); go_simp; try (with_reducible rfl))
    try simp only [Act.put, pZa, pZb, pZc]
    refine wpAnyL_done (by kernel_rfl) ?_ _
    refine NoPanic.normal ?_
    have hU_12 : Below a1.heap.size a1 r48 := hU_11.trans ((hB48).mono hU_11.size)
    have kx := kx.of hB48
    have ka := ka.of hB48
    have kc2 := kc2.of hB48
    have hx1 := hx1.below hB48
    have hga := hga.below hB48
    have hgc2 := hgc2.below hB48
    clear q3_ka_0 q3_ka_1 q3_ka_2 q3_ka_3 q3_ka_4 q3_ka_5 q3_ka_6 q3_kx_0 q3_kx_1 q3_kx_2 q3_kx_3 q3_kx_4 q3_kx_5 q3_kx_6
    go_upto_region 8 with fail
    clear H4 H5 HSF HGa HGx
    obtain ⟨bx, ox, hAx, hbx, hcx⟩ := Rd.elem (n := 5) (fun _ => rfl) (by omega) hx1.gsets_.rd HI.out
    obtain ⟨bq, oy, hAy, hby, hcy⟩ := Rd.elem (n := 5) (fun _ => rfl) (by omega) (hx1.gsets_.el s (List.mem_of_getElem? HI.out)).gsnaps_.rd HK.out
    have c0 : r48.cell? ⟨bx, ox + i * 5, none⟩ = some (.string s.path_) := hcx 0 _ rfl
    have c1 : r48.cell? ⟨bx, ox + i * 5 + 1, none⟩ = some (.string s.origin_) := hcx 1 _ rfl
    have c2 : r48.cell? ⟨bx, ox + i * 5 + 2, none⟩ = some (.slice s.body_.A s.body_.l.length s.body_.c) := hcx 2 _ rfl
    have c3 : r48.cell? ⟨bx, ox + i * 5 + 3, none⟩ = some (.slice s.snaps_.A s.snaps_.l.length s.snaps_.c) := hcx 3 _ rfl
    have c4 : r48.cell? ⟨bx, ox + i * 5 + 4, none⟩ = some (.slice s.own_.A s.own_.l.length s.own_.c) := hcx 4 _ rfl
    have d0 : r48.cell? ⟨bq, oy + k * 5, none⟩ = some (.string y.name_) := hcy 0 _ rfl
    have d1 : r48.cell? ⟨bq, oy + k * 5 + 1, none⟩ = some (.int .i64 y.guid_) := hcy 1 _ rfl
    have d2 : r48.cell? ⟨bq, oy + k * 5 + 2, none⟩ = some (.slice y.body_.A y.body_.l.length y.body_.c) := hcy 2 _ rfl
    have d3 : r48.cell? ⟨bq, oy + k * 5 + 3, none⟩ = some (.slice y.tags_.A y.tags_.l.length y.tags_.c) := hcy 3 _ rfl
    have d4 : r48.cell? ⟨bq, oy + k * 5 + 4, none⟩ = some (.slice y.own_.A y.own_.l.length y.own_.c) := hcy 4 _ rfl
    obtain ⟨t0, t1, t2, t3, t4, t5, t6⟩ := kx.all7
    have hlx := kx.lt
    have HAX := Lib.hid hAx
    have HAY := Lib.hid hAy
    have HGs := Lib.hid (hx1.gsets_.el s (List.mem_of_getElem? HI.out))
    rw [hAx] at t3
    rw [hAy] at c3
    simp only [MSet.cells, hAy] at H6
    clear hcx hcy hAx hAy
    refine wp_region_noPanic ?_
    refine wp_region_last 16 (fun W => W.cell? ⟨w.heap.size, 3, none⟩ = some (.slice (some ⟨bx, ox, none⟩) x.sets_.l.length x.sets_.c) ∧ W.cell? ⟨bx, ox + i * 5, none⟩ = some (.string s.path_) ∧ W.cell? ⟨bx, ox + i * 5 + 1, none⟩ = some (.string s.origin_) ∧ W.cell? ⟨bx, ox + i * 5 + 2, none⟩ = some (.slice s.body_.A s.body_.l.length s.body_.c) ∧ W.cell? ⟨bx, ox + i * 5 + 3, none⟩ = some (.slice (some ⟨bq, oy, none⟩) s.snaps_.l.length s.snaps_.c) ∧ W.cell? ⟨bx, ox + i * 5 + 4, none⟩ = some (.slice s.own_.A s.own_.l.length s.own_.c) ∧ W.cell? ⟨bq, oy + k * 5, none⟩ = some (.string y.name_) ∧ W.cell? ⟨bq, oy + k * 5 + 1, none⟩ = some (.int .i64 y.guid_) ∧ W.cell? ⟨bq, oy + k * 5 + 2, none⟩ = some (.slice y.body_.A y.body_.l.length y.body_.c) ∧ W.cell? ⟨bq, oy + k * 5 + 3, none⟩ = some (.slice y.tags_.A y.tags_.l.length y.tags_.c) ∧ W.cell? ⟨bq, oy + k * 5 + 4, none⟩ = some (.slice y.own_.A y.own_.l.length y.own_.c)) (by kernel_rfl) ⟨t3, c0, c1, c2, c3, c4, d0, d1, d2, d3, d4⟩ (fun hHeld => ?_)
    refine tkA 16 (i := 0) (oi := ⟨some 49, _, _, _, _, _⟩) rfl hHeld ?_
    try simp only [Act.put, pZa, pZb, pZc]
    refine tkA 16 (i := 1) (oi := ⟨some 50, _, _, _, _, _⟩) rfl hHeld ?_
    try simp only [Act.put, pZa, pZb, pZc]
    refine tkA 16 (i := 2) (oi := ⟨some 51, _, _, _, _, _⟩) rfl hHeld ?_
    try simp only [Act.put, pZa, pZb, pZc]
    refine tkA 16 (i := 3) (oi := ⟨some 52, _, _, _, _, _⟩) rfl hHeld ?_
    try simp only [Act.put, pZa, pZb, pZc]
    refine tkA 16 (i := 4) (oi := ⟨some 53, _, _, _, _, _⟩) rfl hHeld ?_
    try simp only [Act.put, pZa, pZb, pZc]
    refine tkA 16 (i := 5) (oi := ⟨some 54, _, _, _, _, _⟩) rfl hHeld ?_
    try simp only [Act.put, pZa, pZb, pZc]
    refine tkA 16 (i := 6) (oi := ⟨some 55, _, _, _, _, _⟩) rfl hHeld ?_
    try simp only [Act.put, pZa, pZb, pZc]
    refine tkA 16 (i := 7) (oi := ⟨some 56, _, _, _, _, _⟩) rfl hHeld ?_
    try simp only [Act.put, pZa, pZb, pZc]
    refine tkA 16 (i := 8) (oi := ⟨some 57, _, _, _, _, _⟩) rfl hHeld ?_
    try simp only [Act.put, pZa, pZb, pZc]
    refine tkA 16 (i := 9) (oi := ⟨some 58, _, _, _, _, _⟩) rfl hHeld ?_
    try simp only [Act.put, pZa, pZb, pZc]
    refine tkA 16 (i := 10) (oi := ⟨some 59, _, _, _, _, _⟩) rfl hHeld ?_
    try simp only [Act.put, pZa, pZb, pZc]
    refine tkA 16 (i := 11) (oi := ⟨some 60, _, _, _, _, _⟩) rfl hHeld ?_
    try simp only [Act.put, pZa, pZb, pZc]
    clear hHeld
    refine wpAnyL_facts 16 4 1 [(12, 61), (13, 62), (14, 63), (15, 17)] (fun s v w => match s with
      | 61 => v = .int .i64 k
      | 62 => v = .pointer (some ⟨bq, oy + k * 5, none⟩)
      | 63 => v = .agg #[.string y.name_, .int .i64 y.guid_, .slice y.body_.A y.body_.l.length y.body_.c, .slice y.tags_.A y.tags_.l.length y.tags_.c, .slice y.own_.A y.own_.l.length y.own_.c]
      | 17 => ∃ g9, v = .pointer (some ⟨g9, 0, none⟩) ∧ Blk w g9 49 [.string ⟨#[]⟩, .int .i64 0, .slice none 0 0, .slice none 0 0, .slice none 0 0] ∧ r48.heap.size ≤ g9
      | _ => True) (fun w w' => Below w.heap.size w w') (by kernel_rfl) (by kernel_rfl) bZh ⟨?_, ?_, ?_, ?_, trivial⟩ (fun w' hB => ⟨(hB.cell (p := ⟨w.heap.size, 3, none⟩) hlx).trans t3, (hB.cell (p := ⟨bx, ox + i * 5, none⟩) hbx).trans c0, (hB.cell (p := ⟨bx, ox + i * 5 + 1, none⟩) hbx).trans c1, (hB.cell (p := ⟨bx, ox + i * 5 + 2, none⟩) hbx).trans c2, (hB.cell (p := ⟨bx, ox + i * 5 + 3, none⟩) hbx).trans c3, (hB.cell (p := ⟨bx, ox + i * 5 + 4, none⟩) hbx).trans c4, (hB.cell (p := ⟨bq, oy + k * 5, none⟩) hby).trans d0, (hB.cell (p := ⟨bq, oy + k * 5 + 1, none⟩) hby).trans d1, (hB.cell (p := ⟨bq, oy + k * 5 + 2, none⟩) hby).trans d2, (hB.cell (p := ⟨bq, oy + k * 5 + 3, none⟩) hby).trans d3, (hB.cell (p := ⟨bq, oy + k * 5 + 4, none⟩) hby).trans d4⟩) ⟨?_, ?_, ?_, ?_, trivial⟩ ?_
    focus
      intro v w w' h hB
      exact h
    focus
      intro v w w' h hB
      exact h
    focus
      intro v w w' h hB
      exact h
    focus
      intro v w w' h hB
      exact (by obtain ⟨g9, e, hb, hle⟩ := h; exact ⟨g9, e, hb.below hB hb.lt, hle⟩)
    focus
      intro vs w2 hBf hFf o ho K hK
      obtain rfl : (⟨some 61, _, _, _, _, _⟩ : Oper) = o := Option.some.inj ho
      clear ho
      (try simp only [fillL, pZd, pZe, Act.put, pZa, pZb, pZc] at hK ⊢)
      go_simp
      refine (H6.out w2 (HGs.out.below ((Below.refl r48.heap.size r48).drew.trans hBf))).mono ?_
      rintro e w4 ⟨rfl, hB4⟩
      exact hK.out _ _ ⟨rfl, hB4⟩
    focus
      intro vs w2 hBf hFf o ho K hK
      obtain rfl : (⟨some 62, _, _, _, _, _⟩ : Oper) = o := Option.some.inj ho
      clear ho
      (try simp only [fillL, pZd, pZe, Act.put, pZa, pZb, pZc] at hK ⊢)
      have e61 := (hFf (12, 61) (by simp) (by kernel_rfl))
      simp only [] at e61
      simp only [e61] at hK ⊢
      go_simp
      exact hK.out _ _ ⟨rfl, Below.refl _ _⟩
    focus
      intro vs w2 hBf hFf o ho K hK
      obtain rfl : (⟨some 63, _, _, _, _, _⟩ : Oper) = o := Option.some.inj ho
      clear ho
      (try simp only [fillL, pZd, pZe, Act.put, pZa, pZb, pZc] at hK ⊢)
      have e62 := (hFf (13, 62) (by simp) (by kernel_rfl))
      simp only [] at e62
      simp only [e62] at hK ⊢
      have hbb := (Below.refl r48.heap.size r48).drew.trans hBf
      have f0 := (hbb.cell (p := ⟨bq, oy + k * 5, none⟩) hby).trans d0
      have f1 := (hbb.cell (p := ⟨bq, oy + k * 5 + 1, none⟩) hby).trans d1
      have f2 := (hbb.cell (p := ⟨bq, oy + k * 5 + 2, none⟩) hby).trans d2
      have f3 := (hbb.cell (p := ⟨bq, oy + k * 5 + 3, none⟩) hby).trans d3
      have f4 := (hbb.cell (p := ⟨bq, oy + k * 5 + 4, none⟩) hby).trans d4
      go_simp
      exact hK.out _ _ ⟨rfl, Below.refl _ _⟩
    focus
      intro vs w2 hBf hFf o ho K hK
      obtain rfl : (⟨some 17, _, _, _, _, _⟩ : Oper) = o := Option.some.inj ho
      clear ho
      (try simp only [fillL, pZd, pZe, Act.put, pZa, pZb, pZc] at hK ⊢)
      go_simp
      refine hK.out _ _ ⟨⟨w2.heap.size, rfl, Blk.new w2 _ _, ((Below.refl r48.heap.size r48).drew.trans hBf).size⟩, (Below.refl _ w2).alloc (Nat.le_refl _) _⟩
    intro vs w2 hBf hFf
    (try simp only [fillL, pZd, pZe, Act.put, pZa, pZb, pZc])
    have e63 := (hFf (14, 63) (by simp))
    simp only [] at e63
    obtain ⟨g9, e17, kS9, hg9⟩ := (hFf (15, 17) (by simp))
    simp only [e63, e17]
    have hB8 := (Below.refl r48.heap.size r48).drew.trans hBf
    obtain ⟨z0, z1, z2, z3, z4⟩ := kS9.all5
    obtain ⟨zf0, zf1, zf2, zf3, zf4⟩ := kS9.fz5
    refine wpAnyL_last (i := 16) (o := ⟨none, _, _, _, _, _⟩) (by kernel_rfl) rfl (by kernel_rfl) (fun K hK => ?_)
    go_simp
    go_wp2_with fail
    refine hK.out _ _ ?_
    clear hK K
    try simp only [Act.put, pZa, pZb, pZc]
    refine wpAnyL_done (by kernel_rfl) ?_ _
    refine NoPanic.normal ?_
    generalize hw8 : World.setCell _ ⟨g9, 4, none⟩ _ = v8s
    obtain ⟨kS, SS, ZS8, BS⟩ := storeRow [(0, .string y.name_), (1, .int .i64 y.guid_), (2, .slice y.body_.A y.body_.l.length y.body_.c), (3, .slice y.tags_.A y.tags_.l.length y.tags_.c), (4, .slice y.own_.A y.own_.l.length y.own_.c)] kS9 hw8
    simp only [List.foldl_cons, List.foldl_nil, List.set_cons_zero, List.set_cons_succ] at kS
    have hB8s : Below r48.heap.size r48 v8s := BS _ _ hB8 hg9
    clear c0 c1 c2 c3 c4 d0 d1 d2 d3 d4 t0 t1 t2 t3 t4 t5 t6 z0 z1 z2 z3 z4 zf0 zf1 zf2 zf3 zf4 hBf hFf e63 e17 hB8 hw8 kS9 SS BS ZS8 H6
    have hU_13 : Below a1.heap.size a1 v8s := hU_12.trans ((hB8s).mono hU_12.size)
    have kx := kx.of hB8s
    have ka := ka.of hB8s
    have kc2 := kc2.of hB8s
    have hx1 := hx1.below hB8s
    have hga := hga.below hB8s
    have hgc2 := hgc2.below hB8s
    obtain ⟨q4_ka_0, q4_ka_1, q4_ka_2, q4_ka_3, q4_ka_4, q4_ka_5, q4_ka_6⟩ := ka.all7
    have G14 := Lib.hid (H3.out v8s hga)
    go_wp2_with fail
    refine G14.out.mono ?_
    rintro e v14 ⟨b, rfl, hob, hgb, hpb, hV14⟩
    clear G14
    have hU_15 : Below a1.heap.size a1 v14 := hU_13.trans ((hV14).mono hU_13.size)
    have ka := ka.of hV14
    have kx := kx.of hV14
    have kS := kS.of hV14
    have hx1 := hx1.below hV14
    have hga := hga.below hV14
    have hgc2 := hgc2.below hV14
    clear q4_ka_0 q4_ka_1 q4_ka_2 q4_ka_3 q4_ka_4 q4_ka_5 q4_ka_6
    obtain ⟨z16, hz16⟩ : ∃ z, v14.alloc (.cells #[.string b.name_, .int .i64 b.quota_, .int .i64 b.next_, .slice b.sets_.A b.sets_.l.length b.sets_.c, .slice b.grants_.A b.grants_.l.length b.grants_.c, .slice b.stages_.A b.stages_.l.length b.stages_.c, .slice b.log_.A b.log_.l.length b.log_.c] 27) = z := ⟨_, rfl⟩
    have hAz16 : Below v14.heap.size v14 z16 := hz16 ▸ (Below.refl _ v14).alloc (Nat.le_refl _) _
    have kb : Blk z16 v14.heap.size 27 [.string b.name_, .int .i64 b.quota_, .int .i64 b.next_, .slice b.sets_.A b.sets_.l.length b.sets_.c, .slice b.grants_.A b.grants_.l.length b.grants_.c, .slice b.stages_.A b.stages_.l.length b.stages_.c, .slice b.log_.A b.log_.l.length b.log_.c] := hz16 ▸ Blk.new v14 _ _
    have HZz16 := Lib.hid hz16
    clear hz16
    have hU_17 : Below a1.heap.size a1 z16 := hU_15.trans ((hAz16).mono hU_15.size)
    have ka := ka.of hAz16
    have kx := kx.of hAz16
    have kS := kS.of hAz16
    have hx1 := hx1.below hAz16
    have hga := hga.below hAz16
    have hgc2 := hgc2.below hAz16
    have hgb := hgb.below hAz16
    have hob := hob.below hAz16
    go_upto_region 10 with fail
    rw [HZz16.out]
    clear hob
    have HGB := Lib.hid hgb
    have HPB := Lib.hid hpb
    have HGA := Lib.hid hga
    have HGX := Lib.hid hx1
    clear hgb hga hx1
    obtain ⟨E3, hE3⟩ : ∃ E, P3.2 = E := ⟨_, rfl⟩
    rw [hE3]
    by_cases hz : E3 = 0
    · subst hz
      obtain ⟨hokb, d, hd, hdo⟩ := HM3.out b hE3 HPB.out
      have hdl : j < b.sets_.l.length := (List.getElem?_eq_some_iff.1 hd).1
      have hbl9 := HGB.out.gsets_.len
      obtain ⟨bB, oB, hAB, hbB, hcB⟩ := Rd.elem (n := 5) (fun _ => rfl) (by omega) HGB.out.gsets_.rd hd
      have c1 : z16.cell? ⟨bB, oB + j * 5 + 1, none⟩ = some (.string (p ++ ⟨#[64]⟩ ++ m)) := by
        have h9 := hcB 1 _ rfl
        rw [hdo, ← join_at] at h9
        exact h9
      have HCB2 := Lib.hid (refCheck_any14 b z16 HGB.out (tiny_of hokb))
      rw [hokb, if_pos rfl] at HCB2
      obtain ⟨t0, t1, t2, t3, t4, t5, t6⟩ := kb.all7
      simp only [MTenant.cells] at HCB2
      rw [hAB] at HCB2 t3
      have hp9 := HP.out
      have hm9 := HM9.out
      clear hokb hd hdo hcB hE3 HM3 HPB hAB
      go_wp2_with fail
      refine HCB2.out.mono ?_
      rintro e w10 ⟨rfl, hV10⟩
      clear t0 t1 t2 t3 t4 t5 t6 c1 hp9 hm9
      go_upto_region 12 with fail
      have hUb : Below z16.heap.size z16 w10 := hV10
      have hga := HGA.out.below hUb
      have hgx := HGX.out.below hUb
      have ka2 := ka.of hUb
      have kS2 := kS.of hUb
      obtain ⟨bA, oA, hAA, hbA, hcA⟩ := Rd.elem (n := 5) (fun _ => rfl) (by omega) hga.gsets_.rd HJ.out
      have hlA := ka2.lt
      have hlS := kS2.lt
      have HSM := Lib.hid (fun V (hV : Below w10.heap.size w10 V) => refSame_true c.body_.A y.body_.A c.body_.c y.body_.c y.body_.l (by have h9 := ((hgx.gsets_.el s (List.mem_of_getElem? HI.out)).gsnaps_.el y (List.mem_of_getElem? HK.out)).gbody_.len; omega) V (by have h9 := (hga.gsets_.el c (List.mem_of_getElem? HJ.out)).gbody_.rd; rw [HCB.out] at h9; exact h9.below hV) (((hgx.gsets_.el s (List.mem_of_getElem? HI.out)).gsnaps_.el y (List.mem_of_getElem? HK.out)).gbody_.rd.below hV))
      rw [← HCB.out] at HSM
      obtain ⟨t0, t1, t2, t3, t4, t5, t6⟩ := ka2.all7
      obtain ⟨u_0, u_1, u_2, u_3, u_4⟩ := kS2.all5
      have c1 : w10.cell? ⟨bA, oA + j * 5 + 1, none⟩ = some (.string (p ++ ⟨#[64]⟩ ++ n)) := by
        have h9 := hcA 1 _ rfl
        rw [HCO.out, ← join_at] at h9
        exact h9
      have c2 : w10.cell? ⟨bA, oA + j * 5 + 2, none⟩ = some (.slice c.body_.A c.body_.l.length c.body_.c) := hcA 2 _ rfl
      have hp9 := HP.out
      have hn9 := HN9.out
      rw [hAA] at t3
      rw [← HCB.out] at u_2
      clear hcA hAA hga hgx
      refine wp_region_noPanic ?_
      refine wp_region_last 26 (fun W => W.cell? ⟨v4.heap.size, 3, none⟩ = some (.slice (some ⟨bA, oA, none⟩) a.sets_.l.length a.sets_.c) ∧ W.cell? ⟨g9, 2, none⟩ = some (.slice y.body_.A c.body_.l.length y.body_.c) ∧ W.cell? ⟨bA, oA + j * 5 + 1, none⟩ = some (.string (p ++ ⟨#[64]⟩ ++ n)) ∧ W.cell? ⟨bA, oA + j * 5 + 2, none⟩ = some (.slice c.body_.A c.body_.l.length c.body_.c)) (by kernel_rfl) ⟨t3, u_2, c1, c2⟩ (fun hHeld => ?_)
      refine tkA 16 (i := 0) (oi := ⟨some 92, _, _, _, _, _⟩) rfl hHeld ?_
      try simp only [Act.put, pZa, pZb, pZc]
      refine tkA 16 (i := 1) (oi := ⟨some 93, _, _, _, _, _⟩) rfl hHeld ?_
      try simp only [Act.put, pZa, pZb, pZc]
      refine tkA 16 (i := 2) (oi := ⟨some 94, _, _, _, _, _⟩) rfl hHeld ?_
      try simp only [Act.put, pZa, pZb, pZc]
      refine tkA 16 (i := 3) (oi := ⟨some 95, _, _, _, _, _⟩) rfl hHeld ?_
      try simp only [Act.put, pZa, pZb, pZc]
      refine tkA 16 (i := 4) (oi := ⟨some 96, _, _, _, _, _⟩) rfl hHeld ?_
      try simp only [Act.put, pZa, pZb, pZc]
      refine tkA 16 (i := 5) (oi := ⟨some 97, _, _, _, _, _⟩) rfl hHeld ?_
      try simp only [Act.put, pZa, pZb, pZc]
      refine tkA 16 (i := 6) (oi := ⟨some 98, _, _, _, _, _⟩) rfl hHeld ?_
      try simp only [Act.put, pZa, pZb, pZc]
      refine tkA 16 (i := 7) (oi := ⟨some 99, _, _, _, _, _⟩) rfl hHeld ?_
      try simp only [Act.put, pZa, pZb, pZc]
      refine tkA 16 (i := 8) (oi := ⟨some 100, _, _, _, _, _⟩) rfl hHeld ?_
      try simp only [Act.put, pZa, pZb, pZc]
      refine tkA 16 (i := 9) (oi := ⟨some 101, _, _, _, _, _⟩) rfl hHeld ?_
      try simp only [Act.put, pZa, pZb, pZc]
      refine tkA 16 (i := 10) (oi := ⟨some 102, _, _, _, _, _⟩) rfl hHeld ?_
      try simp only [Act.put, pZa, pZb, pZc]
      clear hHeld
      refine wpAnyL_facts 16 16 0 [(11, 103), (12, 104), (13, 105), (14, 106), (15, 107), (16, 108), (17, 109), (18, 110), (19, 111), (20, 112), (21, 113), (22, 114), (23, 115), (24, 116), (25, 117), (26, 10)] (fun s v w => match s with
        | 103 => v = .bool true
        | 104 => v = .bool true
        | 105 => v = .bool true
        | 106 => v = .pointer (some ⟨v4.heap.size, 3, none⟩)
        | 107 => v = .slice (some ⟨bA, oA, none⟩) a.sets_.l.length a.sets_.c
        | 108 => v = .int .i64 j
        | 109 => v = .pointer (some ⟨bA, oA + j * 5, none⟩)
        | 110 => v = .pointer (some ⟨bA, oA + j * 5 + 1, none⟩)
        | 111 => v = .string (p ++ ⟨#[64]⟩ ++ n)
        | 112 => v = .string p
        | 113 => v = .string (p ++ ⟨#[64]⟩)
        | 114 => v = .string n
        | 115 => v = .string (p ++ ⟨#[64]⟩ ++ n)
        | 116 => v = .bool true
        | 117 => v = .bool true
        | 10 => v = .bool true
        | _ => True) (fun w w' => Below w.heap.size w w') (by kernel_rfl) (by kernel_rfl) bZh ⟨?_, ?_, ?_, ?_, ?_, ?_, ?_, ?_, ?_, ?_, ?_, ?_, ?_, ?_, ?_, ?_, trivial⟩ (fun w' hB => ⟨(hB.cell (p := ⟨v4.heap.size, 3, none⟩) hlA).trans t3, (hB.cell (p := ⟨g9, 2, none⟩) hlS).trans u_2, (hB.cell (p := ⟨bA, oA + j * 5 + 1, none⟩) hbA).trans c1, (hB.cell (p := ⟨bA, oA + j * 5 + 2, none⟩) hbA).trans c2⟩) ⟨?_, ?_, ?_, ?_, ?_, ?_, ?_, ?_, ?_, ?_, ?_, ?_, ?_, ?_, ?_, ?_, trivial⟩ ?_
      focus
        intro v w w' h hB
        exact h
      focus
        intro v w w' h hB
        exact h
      focus
        intro v w w' h hB
        exact h
      focus
        intro v w w' h hB
        exact h
      focus
        intro v w w' h hB
        exact h
      focus
        intro v w w' h hB
        exact h
      focus
        intro v w w' h hB
        exact h
      focus
        intro v w w' h hB
        exact h
      focus
        intro v w w' h hB
        exact h
      focus
        intro v w w' h hB
        exact h
      focus
        intro v w w' h hB
        exact h
      focus
        intro v w w' h hB
        exact h
      focus
        intro v w w' h hB
        exact h
      focus
        intro v w w' h hB
        exact h
      focus
        intro v w w' h hB
        exact h
      focus
        intro v w w' h hB
        exact h
      focus
        intro vs w2 hBf hFf o ho K hK
        obtain rfl : (⟨some 103, _, _, _, _, _⟩ : Oper) = o := Option.some.inj ho
        clear ho
        (try simp only [fillL, pZd, pZe, Act.put, pZa, pZb, pZc] at hK ⊢)
        rw [if_pos (by rfl)]
        go_simp
        refine (HSM.out w2 ((Below.refl w10.heap.size w10).drew.trans hBf)).mono ?_
        rintro e w4 ⟨rfl, hB4⟩
        exact hK.out _ _ ⟨rfl, hB4⟩
      focus
        intro vs w2 hBf hFf o ho K hK
        obtain rfl : (⟨some 104, _, _, _, _, _⟩ : Oper) = o := Option.some.inj ho
        clear ho
        (try simp only [fillL, pZd, pZe, Act.put, pZa, pZb, pZc] at hK ⊢)
        have e103 := (hFf (11, 103) (by simp) (by kernel_rfl))
        simp only [] at e103
        simp only [e103] at hK ⊢
        go_simp
        exact hK.out _ _ ⟨rfl, Below.refl _ _⟩
      focus
        intro vs w2 hBf hFf o ho K hK
        obtain rfl : (⟨some 105, _, _, _, _, _⟩ : Oper) = o := Option.some.inj ho
        clear ho
        (try simp only [fillL, pZd, pZe, Act.put, pZa, pZb, pZc] at hK ⊢)
        have e104 := (hFf (12, 104) (by simp) (by kernel_rfl))
        simp only [] at e104
        simp only [e104] at hK ⊢
        go_simp
        exact hK.out _ _ ⟨rfl, Below.refl _ _⟩
      focus
        intro vs w2 hBf hFf o ho K hK
        obtain rfl : (⟨some 106, _, _, _, _, _⟩ : Oper) = o := Option.some.inj ho
        clear ho
        (try simp only [fillL, pZd, pZe, Act.put, pZa, pZb, pZc] at hK ⊢)
        have e105 := (hFf (13, 105) (by simp) (by kernel_rfl))
        simp only [] at e105
        simp only [e105] at hK ⊢
        rw [if_pos (by rfl)]
        go_simp
        exact hK.out _ _ ⟨rfl, Below.refl _ _⟩
      focus
        intro vs w2 hBf hFf o ho K hK
        obtain rfl : (⟨some 107, _, _, _, _, _⟩ : Oper) = o := Option.some.inj ho
        clear ho
        (try simp only [fillL, pZd, pZe, Act.put, pZa, pZb, pZc] at hK ⊢)
        have e105 := (hFf (13, 105) (by simp) (by kernel_rfl))
        simp only [] at e105
        simp only [e105] at hK ⊢
        have e106 := (hFf (14, 106) (by simp) (by kernel_rfl))
        simp only [] at e106
        simp only [e106] at hK ⊢
        rw [if_pos (by rfl)]
        have hbb := (Below.refl w10.heap.size w10).drew.trans hBf
        have f0 := (hbb.cell (p := ⟨v4.heap.size, 3, none⟩) hlA).trans t3
        have f1 := (hbb.cell (p := ⟨bA, oA + j * 5 + 1, none⟩) hbA).trans c1
        go_simp
        exact hK.out _ _ ⟨rfl, Below.refl _ _⟩
      focus
        intro vs w2 hBf hFf o ho K hK
        obtain rfl : (⟨some 108, _, _, _, _, _⟩ : Oper) = o := Option.some.inj ho
        clear ho
        (try simp only [fillL, pZd, pZe, Act.put, pZa, pZb, pZc] at hK ⊢)
        have e105 := (hFf (13, 105) (by simp) (by kernel_rfl))
        simp only [] at e105
        simp only [e105] at hK ⊢
        rw [if_pos (by rfl)]
        go_simp
        exact hK.out _ _ ⟨rfl, Below.refl _ _⟩
      focus
        intro vs w2 hBf hFf o ho K hK
        obtain rfl : (⟨some 109, _, _, _, _, _⟩ : Oper) = o := Option.some.inj ho
        clear ho
        (try simp only [fillL, pZd, pZe, Act.put, pZa, pZb, pZc] at hK ⊢)
        have e105 := (hFf (13, 105) (by simp) (by kernel_rfl))
        simp only [] at e105
        simp only [e105] at hK ⊢
        have e107 := (hFf (15, 107) (by simp) (by kernel_rfl))
        simp only [] at e107
        simp only [e107] at hK ⊢
        have e108 := (hFf (16, 108) (by simp) (by kernel_rfl))
        simp only [] at e108
        simp only [e108] at hK ⊢
        rw [if_pos (by rfl)]
        go_simp
        exact hK.out _ _ ⟨rfl, Below.refl _ _⟩
      focus
        intro vs w2 hBf hFf o ho K hK
        obtain rfl : (⟨some 110, _, _, _, _, _⟩ : Oper) = o := Option.some.inj ho
        clear ho
        (try simp only [fillL, pZd, pZe, Act.put, pZa, pZb, pZc] at hK ⊢)
        have e105 := (hFf (13, 105) (by simp) (by kernel_rfl))
        simp only [] at e105
        simp only [e105] at hK ⊢
        have e109 := (hFf (17, 109) (by simp) (by kernel_rfl))
        simp only [] at e109
        simp only [e109] at hK ⊢
        rw [if_pos (by rfl)]
        go_simp
        exact hK.out _ _ ⟨rfl, Below.refl _ _⟩
      focus
        intro vs w2 hBf hFf o ho K hK
        obtain rfl : (⟨some 111, _, _, _, _, _⟩ : Oper) = o := Option.some.inj ho
        clear ho
        (try simp only [fillL, pZd, pZe, Act.put, pZa, pZb, pZc] at hK ⊢)
        have e105 := (hFf (13, 105) (by simp) (by kernel_rfl))
        simp only [] at e105
        simp only [e105] at hK ⊢
        have e110 := (hFf (18, 110) (by simp) (by kernel_rfl))
        simp only [] at e110
        simp only [e110] at hK ⊢
        rw [if_pos (by rfl)]
        have hbb := (Below.refl w10.heap.size w10).drew.trans hBf
        have f0 := (hbb.cell (p := ⟨v4.heap.size, 3, none⟩) hlA).trans t3
        have f1 := (hbb.cell (p := ⟨bA, oA + j * 5 + 1, none⟩) hbA).trans c1
        go_simp
        exact hK.out _ _ ⟨rfl, Below.refl _ _⟩
      focus
        intro vs w2 hBf hFf o ho K hK
        obtain rfl : (⟨some 112, _, _, _, _, _⟩ : Oper) = o := Option.some.inj ho
        clear ho
        (try simp only [fillL, pZd, pZe, Act.put, pZa, pZb, pZc] at hK ⊢)
        have e105 := (hFf (13, 105) (by simp) (by kernel_rfl))
        simp only [] at e105
        simp only [e105] at hK ⊢
        rw [if_pos (by rfl)]
        go_simp
        exact hK.out _ _ ⟨rfl, Below.refl _ _⟩
      focus
        intro vs w2 hBf hFf o ho K hK
        obtain rfl : (⟨some 113, _, _, _, _, _⟩ : Oper) = o := Option.some.inj ho
        clear ho
        (try simp only [fillL, pZd, pZe, Act.put, pZa, pZb, pZc] at hK ⊢)
        have e105 := (hFf (13, 105) (by simp) (by kernel_rfl))
        simp only [] at e105
        simp only [e105] at hK ⊢
        have e112 := (hFf (20, 112) (by simp) (by kernel_rfl))
        simp only [] at e112
        simp only [e112] at hK ⊢
        rw [if_pos (by rfl)]
        go_simp
        rw [if_neg (by first | omega | (simp; omega)), Oper.upon_value]
        exact hK.out _ _ ⟨rfl, Below.refl _ _⟩
      focus
        intro vs w2 hBf hFf o ho K hK
        obtain rfl : (⟨some 114, _, _, _, _, _⟩ : Oper) = o := Option.some.inj ho
        clear ho
        (try simp only [fillL, pZd, pZe, Act.put, pZa, pZb, pZc] at hK ⊢)
        have e105 := (hFf (13, 105) (by simp) (by kernel_rfl))
        simp only [] at e105
        simp only [e105] at hK ⊢
        rw [if_pos (by rfl)]
        go_simp
        exact hK.out _ _ ⟨rfl, Below.refl _ _⟩
      focus
        intro vs w2 hBf hFf o ho K hK
        obtain rfl : (⟨some 115, _, _, _, _, _⟩ : Oper) = o := Option.some.inj ho
        clear ho
        (try simp only [fillL, pZd, pZe, Act.put, pZa, pZb, pZc] at hK ⊢)
        have e105 := (hFf (13, 105) (by simp) (by kernel_rfl))
        simp only [] at e105
        simp only [e105] at hK ⊢
        have e113 := (hFf (21, 113) (by simp) (by kernel_rfl))
        simp only [] at e113
        simp only [e113] at hK ⊢
        have e114 := (hFf (22, 114) (by simp) (by kernel_rfl))
        simp only [] at e114
        simp only [e114] at hK ⊢
        rw [if_pos (by rfl)]
        go_simp
        rw [if_neg (by first | omega | (simp; omega)), Oper.upon_value]
        exact hK.out _ _ ⟨rfl, Below.refl _ _⟩
      focus
        intro vs w2 hBf hFf o ho K hK
        obtain rfl : (⟨some 116, _, _, _, _, _⟩ : Oper) = o := Option.some.inj ho
        clear ho
        (try simp only [fillL, pZd, pZe, Act.put, pZa, pZb, pZc] at hK ⊢)
        have e105 := (hFf (13, 105) (by simp) (by kernel_rfl))
        simp only [] at e105
        simp only [e105] at hK ⊢
        have e111 := (hFf (19, 111) (by simp) (by kernel_rfl))
        simp only [] at e111
        simp only [e111] at hK ⊢
        have e115 := (hFf (23, 115) (by simp) (by kernel_rfl))
        simp only [] at e115
        simp only [e115] at hK ⊢
        rw [if_pos (by rfl)]
        go_simp
        exact hK.out _ _ ⟨rfl, Below.refl _ _⟩
      focus
        intro vs w2 hBf hFf o ho K hK
        obtain rfl : (⟨some 117, _, _, _, _, _⟩ : Oper) = o := Option.some.inj ho
        clear ho
        (try simp only [fillL, pZd, pZe, Act.put, pZa, pZb, pZc] at hK ⊢)
        have e105 := (hFf (13, 105) (by simp) (by kernel_rfl))
        simp only [] at e105
        simp only [e105] at hK ⊢
        have e116 := (hFf (24, 116) (by simp) (by kernel_rfl))
        simp only [] at e116
        simp only [e116] at hK ⊢
        go_simp
        exact hK.out _ _ ⟨rfl, Below.refl _ _⟩
      focus
        intro vs w2 hBf hFf o ho K hK
        obtain rfl : (⟨some 10, _, _, _, _, _⟩ : Oper) = o := Option.some.inj ho
        clear ho
        (try simp only [fillL, pZd, pZe, Act.put, pZa, pZb, pZc] at hK ⊢)
        have e117 := (hFf (25, 117) (by simp) (by kernel_rfl))
        simp only [] at e117
        simp only [e117] at hK ⊢
        go_simp
        exact hK.out _ _ ⟨rfl, Below.refl _ _⟩
      intro vs w2 hBf hFf
      (try simp only [fillL, pZd, pZe, Act.put, pZa, pZb, pZc])
      have e10 := (hFf (26, 10) (by simp))
      simp only [] at e10
      simp only [e10]
      have hB12 := hUb.trans (((Below.refl w10.heap.size w10).drew.trans hBf).mono hUb.size)
      refine wpAnyL_done (by kernel_rfl) ?_ _
      refine NoPanic.normal ?_
      go_wp2
      go_ret
      exact ⟨rfl, hB1.trans (((hU_17).trans (hB12.mono (hU_17).size)).mono hs1)⟩
    · have q3 := beq_eq_false_iff_ne.2 hz
      have r3 : (E3 != 0) = true := bne_iff_ne.2 hz
      have t3_ : (!(E3 == 0)) = true := by rw [q3]; rfl
      clear hz hE3 HM3 HPB
      go_upto_region 12 with fail
      have hUb : Below z16.heap.size z16 z16 := (Below.refl z16.heap.size z16)
      have hga := HGA.out.below hUb
      have hgx := HGX.out.below hUb
      have ka2 := ka.of hUb
      have kS2 := kS.of hUb
      obtain ⟨bA, oA, hAA, hbA, hcA⟩ := Rd.elem (n := 5) (fun _ => rfl) (by omega) hga.gsets_.rd HJ.out
      have hlA := ka2.lt
      have hlS := kS2.lt
      have HSM := Lib.hid (fun V (hV : Below z16.heap.size z16 V) => refSame_true c.body_.A y.body_.A c.body_.c y.body_.c y.body_.l (by have h9 := ((hgx.gsets_.el s (List.mem_of_getElem? HI.out)).gsnaps_.el y (List.mem_of_getElem? HK.out)).gbody_.len; omega) V (by have h9 := (hga.gsets_.el c (List.mem_of_getElem? HJ.out)).gbody_.rd; rw [HCB.out] at h9; exact h9.below hV) (((hgx.gsets_.el s (List.mem_of_getElem? HI.out)).gsnaps_.el y (List.mem_of_getElem? HK.out)).gbody_.rd.below hV))
      rw [← HCB.out] at HSM
      obtain ⟨t0, t1, t2, t3, t4, t5, t6⟩ := ka2.all7
      obtain ⟨u_0, u_1, u_2, u_3, u_4⟩ := kS2.all5
      have c1 : z16.cell? ⟨bA, oA + j * 5 + 1, none⟩ = some (.string (p ++ ⟨#[64]⟩ ++ n)) := by
        have h9 := hcA 1 _ rfl
        rw [HCO.out, ← join_at] at h9
        exact h9
      have c2 : z16.cell? ⟨bA, oA + j * 5 + 2, none⟩ = some (.slice c.body_.A c.body_.l.length c.body_.c) := hcA 2 _ rfl
      have hp9 := HP.out
      have hn9 := HN9.out
      rw [hAA] at t3
      rw [← HCB.out] at u_2
      clear hcA hAA hga hgx
      refine wp_region_noPanic ?_
      refine wp_region_last 26 (fun W => W.cell? ⟨v4.heap.size, 3, none⟩ = some (.slice (some ⟨bA, oA, none⟩) a.sets_.l.length a.sets_.c) ∧ W.cell? ⟨g9, 2, none⟩ = some (.slice y.body_.A c.body_.l.length y.body_.c) ∧ W.cell? ⟨bA, oA + j * 5 + 1, none⟩ = some (.string (p ++ ⟨#[64]⟩ ++ n)) ∧ W.cell? ⟨bA, oA + j * 5 + 2, none⟩ = some (.slice c.body_.A c.body_.l.length c.body_.c)) (by kernel_rfl) ⟨t3, u_2, c1, c2⟩ (fun hHeld => ?_)
      refine tkA 16 (i := 0) (oi := ⟨some 92, _, _, _, _, _⟩) rfl hHeld ?_
      try simp only [Act.put, pZa, pZb, pZc]
      refine tkA 16 (i := 1) (oi := ⟨some 93, _, _, _, _, _⟩) rfl hHeld ?_
      try simp only [Act.put, pZa, pZb, pZc]
      refine tkA 16 (i := 2) (oi := ⟨some 94, _, _, _, _, _⟩) rfl hHeld ?_
      try simp only [Act.put, pZa, pZb, pZc]
      refine tkA 16 (i := 3) (oi := ⟨some 95, _, _, _, _, _⟩) rfl hHeld ?_
      try simp only [Act.put, pZa, pZb, pZc]
      refine tkA 16 (i := 4) (oi := ⟨some 96, _, _, _, _, _⟩) rfl hHeld ?_
      try simp only [Act.put, pZa, pZb, pZc]
      refine tkA 16 (i := 5) (oi := ⟨some 97, _, _, _, _, _⟩) rfl hHeld ?_
      try simp only [Act.put, pZa, pZb, pZc]
      refine tkA 16 (i := 6) (oi := ⟨some 98, _, _, _, _, _⟩) rfl hHeld ?_
      try simp only [Act.put, pZa, pZb, pZc]
      refine tkA 16 (i := 7) (oi := ⟨some 99, _, _, _, _, _⟩) rfl hHeld ?_
      try simp only [Act.put, pZa, pZb, pZc]
      refine tkA 16 (i := 8) (oi := ⟨some 100, _, _, _, _, _⟩) rfl hHeld ?_
      try simp only [Act.put, pZa, pZb, pZc]
      refine tkA 16 (i := 9) (oi := ⟨some 101, _, _, _, _, _⟩) rfl hHeld ?_
      try simp only [Act.put, pZa, pZb, pZc]
      refine tkA 16 (i := 10) (oi := ⟨some 102, _, _, _, _, _⟩) rfl hHeld ?_
      try simp only [Act.put, pZa, pZb, pZc]
      clear hHeld
      refine wpAnyL_facts 16 16 0 [(11, 103), (12, 104), (13, 105), (14, 106), (15, 107), (16, 108), (17, 109), (18, 110), (19, 111), (20, 112), (21, 113), (22, 114), (23, 115), (24, 116), (25, 117), (26, 10)] (fun s v w => match s with
        | 103 => v = .bool true
        | 104 => v = .bool true
        | 105 => v = .bool true
        | 106 => v = .pointer (some ⟨v4.heap.size, 3, none⟩)
        | 107 => v = .slice (some ⟨bA, oA, none⟩) a.sets_.l.length a.sets_.c
        | 108 => v = .int .i64 j
        | 109 => v = .pointer (some ⟨bA, oA + j * 5, none⟩)
        | 110 => v = .pointer (some ⟨bA, oA + j * 5 + 1, none⟩)
        | 111 => v = .string (p ++ ⟨#[64]⟩ ++ n)
        | 112 => v = .string p
        | 113 => v = .string (p ++ ⟨#[64]⟩)
        | 114 => v = .string n
        | 115 => v = .string (p ++ ⟨#[64]⟩ ++ n)
        | 116 => v = .bool true
        | 117 => v = .bool true
        | 10 => v = .bool true
        | _ => True) (fun w w' => Below w.heap.size w w') (by kernel_rfl) (by kernel_rfl) bZh ⟨?_, ?_, ?_, ?_, ?_, ?_, ?_, ?_, ?_, ?_, ?_, ?_, ?_, ?_, ?_, ?_, trivial⟩ (fun w' hB => ⟨(hB.cell (p := ⟨v4.heap.size, 3, none⟩) hlA).trans t3, (hB.cell (p := ⟨g9, 2, none⟩) hlS).trans u_2, (hB.cell (p := ⟨bA, oA + j * 5 + 1, none⟩) hbA).trans c1, (hB.cell (p := ⟨bA, oA + j * 5 + 2, none⟩) hbA).trans c2⟩) ⟨?_, ?_, ?_, ?_, ?_, ?_, ?_, ?_, ?_, ?_, ?_, ?_, ?_, ?_, ?_, ?_, trivial⟩ ?_
      focus
        intro v w w' h hB
        exact h
      focus
        intro v w w' h hB
        exact h
      focus
        intro v w w' h hB
        exact h
      focus
        intro v w w' h hB
        exact h
      focus
        intro v w w' h hB
        exact h
      focus
        intro v w w' h hB
        exact h
      focus
        intro v w w' h hB
        exact h
      focus
        intro v w w' h hB
        exact h
      focus
        intro v w w' h hB
        exact h
      focus
        intro v w w' h hB
        exact h
      focus
        intro v w w' h hB
        exact h
      focus
        intro v w w' h hB
        exact h
      focus
        intro v w w' h hB
        exact h
      focus
        intro v w w' h hB
        exact h
      focus
        intro v w w' h hB
        exact h
      focus
        intro v w w' h hB
        exact h
      focus
        intro vs w2 hBf hFf o ho K hK
        obtain rfl : (⟨some 103, _, _, _, _, _⟩ : Oper) = o := Option.some.inj ho
        clear ho
        (try simp only [fillL, pZd, pZe, Act.put, pZa, pZb, pZc] at hK ⊢)
        rw [if_pos (by rfl)]
        go_simp
        refine (HSM.out w2 ((Below.refl z16.heap.size z16).drew.trans hBf)).mono ?_
        rintro e w4 ⟨rfl, hB4⟩
        exact hK.out _ _ ⟨rfl, hB4⟩
      focus
        intro vs w2 hBf hFf o ho K hK
        obtain rfl : (⟨some 104, _, _, _, _, _⟩ : Oper) = o := Option.some.inj ho
        clear ho
        (try simp only [fillL, pZd, pZe, Act.put, pZa, pZb, pZc] at hK ⊢)
        have e103 := (hFf (11, 103) (by simp) (by kernel_rfl))
        simp only [] at e103
        simp only [e103] at hK ⊢
        go_simp
        exact hK.out _ _ ⟨rfl, Below.refl _ _⟩
      focus
        intro vs w2 hBf hFf o ho K hK
        obtain rfl : (⟨some 105, _, _, _, _, _⟩ : Oper) = o := Option.some.inj ho
        clear ho
        (try simp only [fillL, pZd, pZe, Act.put, pZa, pZb, pZc] at hK ⊢)
        have e104 := (hFf (12, 104) (by simp) (by kernel_rfl))
        simp only [] at e104
        simp only [e104] at hK ⊢
        go_simp
        exact hK.out _ _ ⟨rfl, Below.refl _ _⟩
      focus
        intro vs w2 hBf hFf o ho K hK
        obtain rfl : (⟨some 106, _, _, _, _, _⟩ : Oper) = o := Option.some.inj ho
        clear ho
        (try simp only [fillL, pZd, pZe, Act.put, pZa, pZb, pZc] at hK ⊢)
        have e105 := (hFf (13, 105) (by simp) (by kernel_rfl))
        simp only [] at e105
        simp only [e105] at hK ⊢
        rw [if_pos (by rfl)]
        go_simp
        exact hK.out _ _ ⟨rfl, Below.refl _ _⟩
      focus
        intro vs w2 hBf hFf o ho K hK
        obtain rfl : (⟨some 107, _, _, _, _, _⟩ : Oper) = o := Option.some.inj ho
        clear ho
        (try simp only [fillL, pZd, pZe, Act.put, pZa, pZb, pZc] at hK ⊢)
        have e105 := (hFf (13, 105) (by simp) (by kernel_rfl))
        simp only [] at e105
        simp only [e105] at hK ⊢
        have e106 := (hFf (14, 106) (by simp) (by kernel_rfl))
        simp only [] at e106
        simp only [e106] at hK ⊢
        rw [if_pos (by rfl)]
        have hbb := (Below.refl z16.heap.size z16).drew.trans hBf
        have f0 := (hbb.cell (p := ⟨v4.heap.size, 3, none⟩) hlA).trans t3
        have f1 := (hbb.cell (p := ⟨bA, oA + j * 5 + 1, none⟩) hbA).trans c1
        go_simp
        exact hK.out _ _ ⟨rfl, Below.refl _ _⟩
      focus
        intro vs w2 hBf hFf o ho K hK
        obtain rfl : (⟨some 108, _, _, _, _, _⟩ : Oper) = o := Option.some.inj ho
        clear ho
        (try simp only [fillL, pZd, pZe, Act.put, pZa, pZb, pZc] at hK ⊢)
        have e105 := (hFf (13, 105) (by simp) (by kernel_rfl))
        simp only [] at e105
        simp only [e105] at hK ⊢
        rw [if_pos (by rfl)]
        go_simp
        exact hK.out _ _ ⟨rfl, Below.refl _ _⟩
      focus
        intro vs w2 hBf hFf o ho K hK
        obtain rfl : (⟨some 109, _, _, _, _, _⟩ : Oper) = o := Option.some.inj ho
        clear ho
        (try simp only [fillL, pZd, pZe, Act.put, pZa, pZb, pZc] at hK ⊢)
        have e105 := (hFf (13, 105) (by simp) (by kernel_rfl))
        simp only [] at e105
        simp only [e105] at hK ⊢
        have e107 := (hFf (15, 107) (by simp) (by kernel_rfl))
        simp only [] at e107
        simp only [e107] at hK ⊢
        have e108 := (hFf (16, 108) (by simp) (by kernel_rfl))
        simp only [] at e108
        simp only [e108] at hK ⊢
        rw [if_pos (by rfl)]
        go_simp
        exact hK.out _ _ ⟨rfl, Below.refl _ _⟩
      focus
        intro vs w2 hBf hFf o ho K hK
        obtain rfl : (⟨some 110, _, _, _, _, _⟩ : Oper) = o := Option.some.inj ho
        clear ho
        (try simp only [fillL, pZd, pZe, Act.put, pZa, pZb, pZc] at hK ⊢)
        have e105 := (hFf (13, 105) (by simp) (by kernel_rfl))
        simp only [] at e105
        simp only [e105] at hK ⊢
        have e109 := (hFf (17, 109) (by simp) (by kernel_rfl))
        simp only [] at e109
        simp only [e109] at hK ⊢
        rw [if_pos (by rfl)]
        go_simp
        exact hK.out _ _ ⟨rfl, Below.refl _ _⟩
      focus
        intro vs w2 hBf hFf o ho K hK
        obtain rfl : (⟨some 111, _, _, _, _, _⟩ : Oper) = o := Option.some.inj ho
        clear ho
        (try simp only [fillL, pZd, pZe, Act.put, pZa, pZb, pZc] at hK ⊢)
        have e105 := (hFf (13, 105) (by simp) (by kernel_rfl))
        simp only [] at e105
        simp only [e105] at hK ⊢
        have e110 := (hFf (18, 110) (by simp) (by kernel_rfl))
        simp only [] at e110
        simp only [e110] at hK ⊢
        rw [if_pos (by rfl)]
        have hbb := (Below.refl z16.heap.size z16).drew.trans hBf
        have f0 := (hbb.cell (p := ⟨v4.heap.size, 3, none⟩) hlA).trans t3
        have f1 := (hbb.cell (p := ⟨bA, oA + j * 5 + 1, none⟩) hbA).trans c1
        go_simp
        exact hK.out _ _ ⟨rfl, Below.refl _ _⟩
      focus
        intro vs w2 hBf hFf o ho K hK
        obtain rfl : (⟨some 112, _, _, _, _, _⟩ : Oper) = o := Option.some.inj ho
        clear ho
        (try simp only [fillL, pZd, pZe, Act.put, pZa, pZb, pZc] at hK ⊢)
        have e105 := (hFf (13, 105) (by simp) (by kernel_rfl))
        simp only [] at e105
        simp only [e105] at hK ⊢
        rw [if_pos (by rfl)]
        go_simp
        exact hK.out _ _ ⟨rfl, Below.refl _ _⟩
      focus
        intro vs w2 hBf hFf o ho K hK
        obtain rfl : (⟨some 113, _, _, _, _, _⟩ : Oper) = o := Option.some.inj ho
        clear ho
        (try simp only [fillL, pZd, pZe, Act.put, pZa, pZb, pZc] at hK ⊢)
        have e105 := (hFf (13, 105) (by simp) (by kernel_rfl))
        simp only [] at e105
        simp only [e105] at hK ⊢
        have e112 := (hFf (20, 112) (by simp) (by kernel_rfl))
        simp only [] at e112
        simp only [e112] at hK ⊢
        rw [if_pos (by rfl)]
        go_simp
        rw [if_neg (by first | omega | (simp; omega)), Oper.upon_value]
        exact hK.out _ _ ⟨rfl, Below.refl _ _⟩
      focus
        intro vs w2 hBf hFf o ho K hK
        obtain rfl : (⟨some 114, _, _, _, _, _⟩ : Oper) = o := Option.some.inj ho
        clear ho
        (try simp only [fillL, pZd, pZe, Act.put, pZa, pZb, pZc] at hK ⊢)
        have e105 := (hFf (13, 105) (by simp) (by kernel_rfl))
        simp only [] at e105
        simp only [e105] at hK ⊢
        rw [if_pos (by rfl)]
        go_simp
        exact hK.out _ _ ⟨rfl, Below.refl _ _⟩
      focus
        intro vs w2 hBf hFf o ho K hK
        obtain rfl : (⟨some 115, _, _, _, _, _⟩ : Oper) = o := Option.some.inj ho
        clear ho
        (try simp only [fillL, pZd, pZe, Act.put, pZa, pZb, pZc] at hK ⊢)
        have e105 := (hFf (13, 105) (by simp) (by kernel_rfl))
        simp only [] at e105
        simp only [e105] at hK ⊢
        have e113 := (hFf (21, 113) (by simp) (by kernel_rfl))
        simp only [] at e113
        simp only [e113] at hK ⊢
        have e114 := (hFf (22, 114) (by simp) (by kernel_rfl))
        simp only [] at e114
        simp only [e114] at hK ⊢
        rw [if_pos (by rfl)]
        go_simp
        rw [if_neg (by first | omega | (simp; omega)), Oper.upon_value]
        exact hK.out _ _ ⟨rfl, Below.refl _ _⟩
      focus
        intro vs w2 hBf hFf o ho K hK
        obtain rfl : (⟨some 116, _, _, _, _, _⟩ : Oper) = o := Option.some.inj ho
        clear ho
        (try simp only [fillL, pZd, pZe, Act.put, pZa, pZb, pZc] at hK ⊢)
        have e105 := (hFf (13, 105) (by simp) (by kernel_rfl))
        simp only [] at e105
        simp only [e105] at hK ⊢
        have e111 := (hFf (19, 111) (by simp) (by kernel_rfl))
        simp only [] at e111
        simp only [e111] at hK ⊢
        have e115 := (hFf (23, 115) (by simp) (by kernel_rfl))
        simp only [] at e115
        simp only [e115] at hK ⊢
        rw [if_pos (by rfl)]
        go_simp
        exact hK.out _ _ ⟨rfl, Below.refl _ _⟩
      focus
        intro vs w2 hBf hFf o ho K hK
        obtain rfl : (⟨some 117, _, _, _, _, _⟩ : Oper) = o := Option.some.inj ho
        clear ho
        (try simp only [fillL, pZd, pZe, Act.put, pZa, pZb, pZc] at hK ⊢)
        have e105 := (hFf (13, 105) (by simp) (by kernel_rfl))
        simp only [] at e105
        simp only [e105] at hK ⊢
        have e116 := (hFf (24, 116) (by simp) (by kernel_rfl))
        simp only [] at e116
        simp only [e116] at hK ⊢
        go_simp
        exact hK.out _ _ ⟨rfl, Below.refl _ _⟩
      focus
        intro vs w2 hBf hFf o ho K hK
        obtain rfl : (⟨some 10, _, _, _, _, _⟩ : Oper) = o := Option.some.inj ho
        clear ho
        (try simp only [fillL, pZd, pZe, Act.put, pZa, pZb, pZc] at hK ⊢)
        have e117 := (hFf (25, 117) (by simp) (by kernel_rfl))
        simp only [] at e117
        simp only [e117] at hK ⊢
        go_simp
        exact hK.out _ _ ⟨rfl, Below.refl _ _⟩
      intro vs w2 hBf hFf
      (try simp only [fillL, pZd, pZe, Act.put, pZa, pZb, pZc])
      have e10 := (hFf (26, 10) (by simp))
      simp only [] at e10
      simp only [e10]
      have hB12 := hUb.trans (((Below.refl z16.heap.size z16).drew.trans hBf).mono hUb.size)
      refine wpAnyL_done (by kernel_rfl) ?_ _
      refine NoPanic.normal ?_
      go_wp2
      go_ret
      exact ⟨rfl, hB1.trans (((hU_17).trans (hB12.mono (hU_17).size)).mono hs1)⟩
  · have hla : a.sets_.l.length = 0 := by
      have h9 : a.plain.sets_ = [] := by rw [hpa, HM0.out hE]; rfl
      have h8 := congrArg List.length h9
      rwa [show a.plain.sets_ = a.sets_.l.map MSet.plain from rfl, List.length_map] at h8
    have q2 := beq_eq_false_iff_ne.2 hE
    generalize P1.2 = E1 at *
    have r2 : (E1 != 0) = true := bne_iff_ne.2 hE
    have t2 : (!(E1 == 0)) = true := by rw [q2]; rfl
    obtain ⟨NL, hNL⟩ : ∃ NL, a.sets_.l.length = NL := ⟨_, rfl⟩
    rw [hNL] at ka
    obtain rfl : NL = 0 := by omega
    clear hE hpa hla hNL
    obtain ⟨qq0, qq1, qq2, qq3, qq4, qq5, qq6⟩ := ka.all7
    go_wp2
    go_ret
    exact ⟨rfl, hB1.trans ((hU_7).mono hs1)⟩
end Go.Proofs.YtimmcmjipmkebaaGreat
