/-
  HoldsTells, in its second form: any tenant with a tag more, without one, whether a snapshot is held, and all that are, are as the page says
  Conditions: none but the form’s own.
-/
import Derived.Test.YtimmcmjipmkebaaGreatVDTB
import Derived.Test.YtimmcmjipmkebaaGreatVTX
namespace Go.Proofs.YtimmcmjipmkebaaGreat
open Go.ChangeShapes Go.WideShapes Go.ChangeAt Go.RowKit
set_option maxRecDepth 100000
set_option linter.unusedSimpArgs false
theorem hand_is (x : MT_) (p n : ByteArray) : (decide (0 ≤ findM x p ∧ findM x p < (x.y_.l.length : Int)) && heldM x p n) = heldM x p n := by
 rcases zhX x p n with ⟨hF, hS, hN, hY, hs⟩ | ⟨j, s, hF, hj, _, hS, hN, hY, hs, hh, ho, _⟩ | ⟨j, s, k, z, hF, hj, _, hS, hN, hk, _, hY, hs, hh, ho, _⟩
 · have h9 : heldM x p n = false := by unfold heldM; rw [hN]; rfl
   rw [h9, Bool.and_false]
 all_goals
  have hjl : j < x.y_.l.length := (List.getElem?_eq_some_iff.1 hj).1
  rw [decide_eq_true (by rw [hF]; omega), Bool.true_and]
def seenB (x : MT_) (p n : ByteArray) (k : Nat) : Bool := decide (0 ≤ findM x p ∧ findM x p < (k : Int)) && heldM x p n
theorem seen_no {x : MT_} {p n : ByteArray} {k : Nat} (h : ((k : Int) == findM x p) = false) : seenB x p n (k + 1) = seenB x p n k := by
 unfold seenB
 have h1 : (0 ≤ findM x p ∧ findM x p < ((k + 1 : Nat) : Int)) ↔ (0 ≤ findM x p ∧ findM x p < (k : Int)) := by
  have h2 := beq_eq_false_iff_ne.1 h
  omega
 rw [decide_eq_decide.2 h1]
theorem seen_at {x : MT_} {p n : ByteArray} {k : Nat} {s : MSet} (h : ((k : Int) == findM x p) = true) (hs : x.y_.l[k]? = some s) : seenB x p n (k + 1) = (decide (0 ≤ snapM s n) && (match s.n_.l[(snapM s n).toNat]? with | none => false | some y => decide (0 < y.u_.l.length))) ∧ (0 ≤ snapM s n → ∃ y, s.n_.l[(snapM s n).toNat]? = some y) := by
 have hk : findM x p = k := (beq_iff_eq.1 h).symm
 unfold seenB
 rw [decide_eq_true (by rw [hk]; omega), Bool.true_and]
 rcases zhX x p n with ⟨hF, hS, hN, hY, _⟩ | ⟨j, s2, hF, hj, _, hS, hN, hY, _, _, _, hm⟩ | ⟨j, s2, i, z, hF, hj, _, hS, hN, hi, _, hY, _, _, _, hm, _⟩
 · rw [hk] at hF
   omega
 · have hjk : j = k := by rw [hk] at hF; omega
   subst hjk
   rw [hs] at hj
   injection hj with hj
   subst hj
   unfold heldM
   rw [hN, hm]
   exact ⟨rfl, fun h => absurd h (by decide)⟩
 · have hjk : j = k := by rw [hk] at hF; omega
   subst hjk
   rw [hs] at hj
   injection hj with hj
   subst hj
   unfold heldM
   rw [hN, hm, hY]
   have h9 : ((i : Int)).toNat = i := rfl
   rw [h9, hi]
   exact ⟨rfl, fun _ => ⟨z, rfl⟩⟩
set_option maxHeartbeats 8000000 in
theorem tells18_walk (x : MT_) (p n tg : ByteArray) (hp : p.size ≤ 4398046511104) (hn : n.size ≤ 140737488351232) (htz : tg.size ≤ 140737488351232) (w : World) (hx : x.Good w) (ht : x.Tiny) (htot : totL x.y_.l ≤ 8796093022206) :
 Calls Tryz.prog 7 #[.agg x.cells.toArray, .string p, .string n, .string tg] w fun e w' => e = .returned (.bool true) ∧ Below w.heap.size w w' := by
 obtain ⟨P1, hP1⟩ : ∃ P, tagP x.plain p n tg true = P := ⟨_, rfl⟩
 obtain ⟨P2, hP2⟩ : ∃ P, tagP x.plain p n tg false = P := ⟨_, rfl⟩
 obtain ⟨a1, hw1⟩ : ∃ a1, w.alloc (.cells #[.string x.x_, .int .i64 x.r_, .int .i64 x.v_, .slice x.y_.A x.y_.l.length x.y_.c, .slice x.g_.A x.g_.l.length x.g_.c, .slice x.t_.A x.t_.l.length x.t_.c, .slice x.h_.A x.h_.l.length x.h_.c] 27) = a1 := ⟨_, rfl⟩
 have b1 : Below w.heap.size w a1 := hw1 ▸ (Below.refl _ w).alloc (Nat.le_refl _) _
 have k1 : Blk a1 w.heap.size 27 [.string x.x_, .int .i64 x.r_, .int .i64 x.v_, .slice x.y_.A x.y_.l.length x.y_.c, .slice x.g_.A x.g_.l.length x.g_.c, .slice x.t_.A x.t_.l.length x.t_.c, .slice x.h_.A x.h_.l.length x.h_.c] := hw1 ▸ Blk.new w _ _
 have hB1 : Below w.heap.size w a1 := b1
 have hs1 := hB1.size
 have HW1 := zI hw1
 clear hw1 b1
 have hx1 := hx.below hB1
 have hp2 : p.size ≤ 140737488351232 := Nat.le_trans hp (by decide)
 have hn2 : n.size ≤ 140737488355328 := Nat.le_trans hn (by decide)
 have H1 : Hid (∀ W, x.Good W → Calls Tryz.prog 29 #[.agg x.cells.toArray, .string p, .string n, .string tg] W fun e w' => AnsG W P1 e w') := zI fun W hW => by
  have h9 := hold18_any x p n tg hp2 htz W hW
  rw [hold_isP, hP1] at h9
  exact h9.mono fun e w' h => h.ansG
 have H2 : Hid (∀ W, x.Good W → Calls Tryz.prog 30 #[.agg x.cells.toArray, .string p, .string n, .string tg, .bool true] W fun e w' => AnsG W P1 e w') := zI fun W hW => hP1 ▸ refTag_any x p n tg true hp hn2 htz W hW ht
 have H3 : Hid (∀ W, x.Good W → Calls Tryz.prog 31 #[.agg x.cells.toArray, .string p, .string n, .string tg] W fun e w' => AnsG W P2 e w') := zI fun W hW => by
  have h9 := release18_any x p n tg hp2 W hW
  rw [free_isP, hP2] at h9
  exact h9.mono fun e w' h => h.ansG
 have H4 : Hid (∀ W, x.Good W → Calls Tryz.prog 30 #[.agg x.cells.toArray, .string p, .string n, .string tg, .bool false] W fun e w' => AnsG W P2 e w') := zI fun W hW => hP2 ▸ refTag_any x p n tg false hp hn2 htz W hW ht
 have HTOT := zI htot
 clear hP1 hP2 hx hp hn htz ht hp2 hn2 htot
 go_enter Tryz.func7, Tryz.ntmps7
 go_upto_region 1 with fail
 rw [HW1.out]
 obtain ⟨q1_k1_0, q1_k1_1, q1_k1_2, q1_k1_3, q1_k1_4, q1_k1_5, q1_k1_6⟩ := k1.all7
 have G2 := zI (H1.out a1 hx1)
 go_wp2_with fail
 refine G2.out.mono ?_
 rintro e v2 ⟨a, rfl, hga, hpa, hV2⟩
 clear G2
 have hU_3 : Below a1.heap.size a1 v2 := (Below.refl a1.heap.size a1).trans ((hV2).mono (Below.refl a1.heap.size a1).size)
 have k1 := k1.of hV2
 have hx1 := hx1.below hV2
 clear q1_k1_0 q1_k1_1 q1_k1_2 q1_k1_3 q1_k1_4 q1_k1_5 q1_k1_6
 obtain ⟨z4, hz4⟩ : ∃ z, v2.alloc (.cells #[.string a.x_, .int .i64 a.r_, .int .i64 a.v_, .slice a.y_.A a.y_.l.length a.y_.c, .slice a.g_.A a.g_.l.length a.g_.c, .slice a.t_.A a.t_.l.length a.t_.c, .slice a.h_.A a.h_.l.length a.h_.c] 27) = z := ⟨_, rfl⟩
 have hAz4 : Below v2.heap.size v2 z4 := hz4 ▸ (Below.refl _ v2).alloc (Nat.le_refl _) _
 have ka : Blk z4 v2.heap.size 27 [.string a.x_, .int .i64 a.r_, .int .i64 a.v_, .slice a.y_.A a.y_.l.length a.y_.c, .slice a.g_.A a.g_.l.length a.g_.c, .slice a.t_.A a.t_.l.length a.t_.c, .slice a.h_.A a.h_.l.length a.h_.c] := hz4 ▸ Blk.new v2 _ _
 have HZz4 := zI hz4
 clear hz4
 have hU_5 : Below a1.heap.size a1 z4 := hU_3.trans ((hAz4).mono hU_3.size)
 have k1 := k1.of hAz4
 have hx1 := hx1.below hAz4
 have hga := hga.below hAz4
 go_upto_region 2 with fail
 rw [HZz4.out]
 obtain ⟨q2_k1_0, q2_k1_1, q2_k1_2, q2_k1_3, q2_k1_4, q2_k1_5, q2_k1_6⟩ := k1.all7
 have G6 := zI (H2.out z4 hx1)
 go_wp2_with fail
 refine G6.out.mono ?_
 rintro e v6 ⟨b, rfl, hgb, hpb, hV6⟩
 clear G6
 have hU_7 : Below a1.heap.size a1 v6 := hU_5.trans ((hV6).mono hU_5.size)
 have k1 := k1.of hV6
 have ka := ka.of hV6
 have hx1 := hx1.below hV6
 have hga := hga.below hV6
 clear q2_k1_0 q2_k1_1 q2_k1_2 q2_k1_3 q2_k1_4 q2_k1_5 q2_k1_6
 obtain ⟨z8, hz8⟩ : ∃ z, v6.alloc (.cells #[.string b.x_, .int .i64 b.r_, .int .i64 b.v_, .slice b.y_.A b.y_.l.length b.y_.c, .slice b.g_.A b.g_.l.length b.g_.c, .slice b.t_.A b.t_.l.length b.t_.c, .slice b.h_.A b.h_.l.length b.h_.c] 27) = z := ⟨_, rfl⟩
 have hAz8 : Below v6.heap.size v6 z8 := hz8 ▸ (Below.refl _ v6).alloc (Nat.le_refl _) _
 have kb : Blk z8 v6.heap.size 27 [.string b.x_, .int .i64 b.r_, .int .i64 b.v_, .slice b.y_.A b.y_.l.length b.y_.c, .slice b.g_.A b.g_.l.length b.g_.c, .slice b.t_.A b.t_.l.length b.t_.c, .slice b.h_.A b.h_.l.length b.h_.c] := hz8 ▸ Blk.new v6 _ _
 have HZz8 := zI hz8
 clear hz8
 have hU_9 : Below a1.heap.size a1 z8 := hU_7.trans ((hAz8).mono hU_7.size)
 have k1 := k1.of hAz8
 have ka := ka.of hAz8
 have hx1 := hx1.below hAz8
 have hga := hga.below hAz8
 have hgb := hgb.below hAz8
 go_upto_region 3 with fail
 rw [HZz8.out]
 obtain ⟨q3_k1_0, q3_k1_1, q3_k1_2, q3_k1_3, q3_k1_4, q3_k1_5, q3_k1_6⟩ := k1.all7
 have G10 := zI (H3.out z8 hx1)
 go_wp2_with fail
 refine G10.out.mono ?_
 rintro e v10 ⟨c, rfl, hgc, hpc, hV10⟩
 clear G10
 have hU_11 : Below a1.heap.size a1 v10 := hU_9.trans ((hV10).mono hU_9.size)
 have k1 := k1.of hV10
 have ka := ka.of hV10
 have kb := kb.of hV10
 have hx1 := hx1.below hV10
 have hga := hga.below hV10
 have hgb := hgb.below hV10
 clear q3_k1_0 q3_k1_1 q3_k1_2 q3_k1_3 q3_k1_4 q3_k1_5 q3_k1_6
 obtain ⟨z12, hz12⟩ : ∃ z, v10.alloc (.cells #[.string c.x_, .int .i64 c.r_, .int .i64 c.v_, .slice c.y_.A c.y_.l.length c.y_.c, .slice c.g_.A c.g_.l.length c.g_.c, .slice c.t_.A c.t_.l.length c.t_.c, .slice c.h_.A c.h_.l.length c.h_.c] 27) = z := ⟨_, rfl⟩
 have hAz12 : Below v10.heap.size v10 z12 := hz12 ▸ (Below.refl _ v10).alloc (Nat.le_refl _) _
 have kc : Blk z12 v10.heap.size 27 [.string c.x_, .int .i64 c.r_, .int .i64 c.v_, .slice c.y_.A c.y_.l.length c.y_.c, .slice c.g_.A c.g_.l.length c.g_.c, .slice c.t_.A c.t_.l.length c.t_.c, .slice c.h_.A c.h_.l.length c.h_.c] := hz12 ▸ Blk.new v10 _ _
 have HZz12 := zI hz12
 clear hz12
 have hU_13 : Below a1.heap.size a1 z12 := hU_11.trans ((hAz12).mono hU_11.size)
 have k1 := k1.of hAz12
 have ka := ka.of hAz12
 have kb := kb.of hAz12
 have hx1 := hx1.below hAz12
 have hga := hga.below hAz12
 have hgb := hgb.below hAz12
 have hgc := hgc.below hAz12
 go_upto_region 4 with fail
 rw [HZz12.out]
 obtain ⟨q4_k1_0, q4_k1_1, q4_k1_2, q4_k1_3, q4_k1_4, q4_k1_5, q4_k1_6⟩ := k1.all7
 have G14 := zI (H4.out z12 hx1)
 go_wp2_with fail
 refine G14.out.mono ?_
 rintro e v14 ⟨d, rfl, hgd, hpd, hV14⟩
 clear G14
 have hU_15 : Below a1.heap.size a1 v14 := hU_13.trans ((hV14).mono hU_13.size)
 have k1 := k1.of hV14
 have ka := ka.of hV14
 have kb := kb.of hV14
 have kc := kc.of hV14
 have hx1 := hx1.below hV14
 have hga := hga.below hV14
 have hgb := hgb.below hV14
 have hgc := hgc.below hV14
 clear q4_k1_0 q4_k1_1 q4_k1_2 q4_k1_3 q4_k1_4 q4_k1_5 q4_k1_6
 obtain ⟨z16, hz16⟩ : ∃ z, v14.alloc (.cells #[.string d.x_, .int .i64 d.r_, .int .i64 d.v_, .slice d.y_.A d.y_.l.length d.y_.c, .slice d.g_.A d.g_.l.length d.g_.c, .slice d.t_.A d.t_.l.length d.t_.c, .slice d.h_.A d.h_.l.length d.h_.c] 27) = z := ⟨_, rfl⟩
 have hAz16 : Below v14.heap.size v14 z16 := hz16 ▸ (Below.refl _ v14).alloc (Nat.le_refl _) _
 have kd : Blk z16 v14.heap.size 27 [.string d.x_, .int .i64 d.r_, .int .i64 d.v_, .slice d.y_.A d.y_.l.length d.y_.c, .slice d.g_.A d.g_.l.length d.g_.c, .slice d.t_.A d.t_.l.length d.t_.c, .slice d.h_.A d.h_.l.length d.h_.c] := hz16 ▸ Blk.new v14 _ _
 have HZz16 := zI hz16
 clear hz16
 have hU_17 : Below a1.heap.size a1 z16 := hU_15.trans ((hAz16).mono hU_15.size)
 have k1 := k1.of hAz16
 have ka := ka.of hAz16
 have kb := kb.of hAz16
 have kc := kc.of hAz16
 have hx1 := hx1.below hAz16
 have hga := hga.below hAz16
 have hgb := hgb.below hAz16
 have hgc := hgc.below hAz16
 have hgd := hgd.below hAz16
 go_upto_region 5 with fail
 rw [HZz16.out]
 clear H1 H2 H3 H4
 have HGX := zI hx1
 have HGA := zI hga
 have HGB := zI hgb
 have HGC := zI hgc
 have HGD := zI hgd
 have HPAB : Hid (b.plain = a.plain) := zI (hpb.trans hpa.symm)
 have HPCD : Hid (d.plain = c.plain) := zI (hpd.trans hpc.symm)
 have hxl := hx1.w_.len
 have HKX := zI k1
 have HKA := zI ka
 have HKB := zI kb
 have HKC := zI kc
 have HKD := zI kd
 have hlx := k1.lt
 have hUN := (hU_17).size
 have HUN := zI (hU_17)
 have HFD := zI (fun W (hW : Below z16.heap.size z16 W) => refFind_any x p W (hx1.below hW))
 clear hga hgb hgc hgd hpa hpb hpc hpd k1 ka kb kc kd hx1
 go_wp2
 go_loopw [17, 18, 19] (fun v h i W => ∃ k : Nat, k ≤ x.y_.l.length ∧ i = .int .i64 k ∧ h = .bool (seenB x p n k) ∧ Hid (ownT W z16.heap.size v (allL (x.y_.l.take k))) ∧ Below z16.heap.size z16 W) (fun _ _ i _ => x.y_.l.length - (intOf i).toNat)
 case atStart => exact ⟨0, Nat.zero_le _, rfl, by rw [show seenB x p n 0 = false from by unfold seenB; rw [decide_eq_false (by omega)]; rfl], zI (by simpa [allL, ownT] using ownNone _ _ _ _), Below.refl _ _⟩
 case round =>
  obtain ⟨wo, rfl⟩ : ∃ wo, wo = wr := ⟨_, rfl⟩
  obtain ⟨k, hk, rfl, rfl, HO, hB⟩ := hrel
  have hsB := hB.size
  have kx := HKX.out.of hB
  by_cases hlt : k < x.y_.l.length
  · obtain ⟨s, hs⟩ : ∃ s, x.y_.l[k]? = some s := ⟨_, qZa hlt⟩
    obtain ⟨b0, o0, hA, hb, hc⟩ := Rd.elem (n := 5) (fun _ => rfl) (by omega) (HGX.out.below hB).w_.rd hs
    have c0 : wo.cell? ⟨b0, o0 + k * 5, none⟩ = some (.string s.l_) := hc 0 _ rfl
    have c1 : wo.cell? ⟨b0, o0 + k * 5 + 1, none⟩ = some (.string s.m_) := hc 1 _ rfl
    have c2 : wo.cell? ⟨b0, o0 + k * 5 + 2, none⟩ = some (.slice s.p_.A s.p_.l.length s.p_.c) := hc 2 _ rfl
    have c3 : wo.cell? ⟨b0, o0 + k * 5 + 3, none⟩ = some (.slice s.n_.A s.n_.l.length s.n_.c) := hc 3 _ rfl
    have c4 : wo.cell? ⟨b0, o0 + k * 5 + 4, none⟩ = some (.slice s.j_.A s.j_.l.length s.j_.c) := hc 4 _ rfl
    obtain ⟨q0, q1, q2, q3, q4, q5, q6⟩ := kx.all7
    rw [hA] at q3
    obtain ⟨w1, hw1⟩ : ∃ w1, wo.alloc (.cells #[.string s.l_, .string s.m_, .slice s.p_.A s.p_.l.length s.p_.c, .slice s.n_.A s.n_.l.length s.n_.c, .slice s.j_.A s.j_.l.length s.j_.c] 52) = w1 := ⟨_, rfl⟩
    have hB1' : Below wo.heap.size wo w1 := hw1 ▸ (Below.refl _ wo).alloc (Nat.le_refl _) _
    have kb0 : Blk w1 wo.heap.size 52 [.string s.l_, .string s.m_, .slice s.p_.A s.p_.l.length s.p_.c, .slice s.n_.A s.n_.l.length s.n_.c, .slice s.j_.A s.j_.l.length s.j_.c] := hw1 ▸ Blk.new wo _ _
    have HS := zI hs
    have HKS := zI kb0
    have HW := zI hw1
    have HA := zI hA
    have HO1 := zI (zgQ HO.out hB1' (Nat.le_refl _))
    have hBw1 : Below z16.heap.size z16 w1 := hB.trans (hB1'.mono hsB)
    have hsq := ((HGX.out.w_.el s (mG hs)).f_).len
    clear hs hw1 kb0 hc hA
    go_upto_region 11 with fail
    rw [HW.out]
    go_wp2
    go_loopw [17, 21] (fun v i W => ∃ m : Nat, m ≤ s.n_.l.length ∧ i = .int .i64 m ∧ Hid (ownT W z16.heap.size v (allL (x.y_.l.take k) ++ heldL s (s.n_.l.take m))) ∧ Hid (Blk W wo.heap.size 52 [.string s.l_, .string s.m_, .slice s.p_.A s.p_.l.length s.p_.c, .slice s.n_.A s.n_.l.length s.n_.c, .slice s.j_.A s.j_.l.length s.j_.c]) ∧ Below z16.heap.size z16 W) (fun _ i _ => s.n_.l.length - (intOf i).toNat)
    case atStart => exact ⟨0, Nat.zero_le _, rfl, zI (by simpa [heldL] using HO1.out), HKS, hBw1⟩
    case round =>
     obtain ⟨wi, rfl⟩ : ∃ wi, wi = wr := ⟨_, rfl⟩
     obtain ⟨m, hm, rfl, HO2, HKS2, hB2⟩ := hrel
     have hs2 := hB2.size
     have ks := HKS2.out
     have hlS := ks.lt
     obtain ⟨e0, e1, e2, e3, e4⟩ := ks.all5
     by_cases hlm : m < s.n_.l.length
     · obtain ⟨y, hy⟩ : ∃ y, s.n_.l[m]? = some y := ⟨_, qZa hlm⟩
       obtain ⟨b2, o2, hA2, hb2, hc2⟩ := Rd.elem (n := 5) (fun _ => rfl) (by omega) ((HGX.out.below hB2).w_.el s (mG HS.out)).f_.rd hy
       have f0 : wi.cell? ⟨b2, o2 + m * 5, none⟩ = some (.string y.x_) := hc2 0 _ rfl
       have f3 : wi.cell? ⟨b2, o2 + m * 5 + 3, none⟩ = some (.slice y.u_.A y.u_.l.length y.u_.c) := hc2 3 _ rfl
       have HTK := zI (heldL_take (s := s) hy)
       have htp := totL_part HS.out m hm
       have HTP := zI htp
       have hps := (HGX.out.w_.el s (mG HS.out)).C_
       have hns := (((HGX.out.w_.el s (mG HS.out)).f_.el y (mG hy))).L_
       rw [hA2] at e3
       clear hy hc2 hA2 htp
       by_cases hz : 0 < y.u_.l.length
       · have hz' : decide (0 < y.u_.l.length) = true := decide_eq_true hz
         have HTK' : Hid (allL (x.y_.l.take k) ++ heldL s (s.n_.l.take (m + 1)) = (allL (x.y_.l.take k) ++ heldL s (s.n_.l.take m)) ++ [atT s.l_ y.x_]) := zI (by rw [HTK.out, if_pos hz, List.append_assoc])
         obtain ⟨Q, hQ⟩ : ∃ Q, allL (x.y_.l.take k) ++ heldL s (s.n_.l.take m) = Q := ⟨_, rfl⟩
         rw [hQ] at HO2 HTK' HTP
         obtain ⟨Av, cv, hv, _, _, _, _⟩ := ownAny HO2.out
         subst hv
         have hQl : Q.length ≤ 8796093022206 := Nat.le_trans HTP.out HTOT.out
         obtain ⟨i0, hi, hz0, hz1, hz2⟩ := infoParts infoSt
         obtain ⟨PX, hPX⟩ : ∃ PX, s.l_ ++ ⟨#[64]⟩ = PX := ⟨_, rfl⟩
         obtain ⟨QX, hQX⟩ : ∃ QX, PX ++ y.x_ = QX := ⟨_, rfl⟩
         have hPs : PX.size = s.l_.size + 1 := by rw [← hPX, ByteArray.size_append]; rfl
         have HPX := zI hPX
         have HQX := zI hQX
         have hat : atT s.l_ y.x_ = QX := by rw [← hQX, ← hPX, join_at]
         have HAT := zI hat
         clear hPX hQX hat
         clear hz hQ HTK
         go_upto_region 15 with fail
         refine wp_region_noPanic ?_
         refine zcX 12 (fun W => W.cell? ⟨wo.heap.size, 0, none⟩ = some (.string s.l_) ∧ W.cell? ⟨wo.heap.size, 3, none⟩ = some (.slice (some ⟨b2, o2, none⟩) s.n_.l.length s.n_.c) ∧ W.cell? ⟨b2, o2 + m * 5, none⟩ = some (.string y.x_)) (by kernel_rfl) ⟨e0, e3, f0⟩ (fun hHeld => ?_)
         refine tkA 16 (i := 0) (oi := ⟨some 82, _, _, _, _, _⟩) rfl hHeld ?_
         try simp only [zP]
         refine tkA 16 (i := 1) (oi := ⟨some 83, _, _, _, _, _⟩) rfl hHeld ?_
         try simp only [zP]
         refine tkA 16 (i := 2) (oi := ⟨some 84, _, _, _, _, _⟩) rfl hHeld ?_
         try simp only [zP]
         refine tkA 16 (i := 4) (oi := ⟨some 86, _, _, _, _, _⟩) rfl hHeld ?_
         try simp only [zP]
         refine tkA 16 (i := 5) (oi := ⟨some 87, _, _, _, _, _⟩) rfl hHeld ?_
         try simp only [zP]
         refine tkA 16 (i := 6) (oi := ⟨some 88, _, _, _, _, _⟩) rfl hHeld ?_
         try simp only [zP]
         refine tkA 16 (i := 7) (oi := ⟨some 89, _, _, _, _, _⟩) rfl hHeld ?_
         try simp only [zP]
         refine tkA 16 (i := 8) (oi := ⟨some 90, _, _, _, _, _⟩) rfl hHeld ?_
         try simp only [zP]
         refine tkA 16 (i := 9) (oi := ⟨some 91, _, _, _, _, _⟩) rfl hHeld ?_
         try simp only [zP]
         clear hHeld
         refine zdZ 16 3 2 [(3, 85), (10, 92), (11, 93)] (fun s v w => match s with
          | 85 => v = .string PX
          | 92 => v = .string QX
          | 93 => ∃ g9, v = .slice (some ⟨g9, 0, none⟩) 1 1 ∧ Blk w g9 9 [.string QX]
          | _ => True) (fun w w' => Below w.heap.size w w') (by kernel_rfl) (by kernel_rfl) bZh ⟨?_, ?_, ?_, trivial⟩ (fun w' hB => ⟨(hB.cell (p := ⟨wo.heap.size, 0, none⟩) hlS).trans e0, (hB.cell (p := ⟨wo.heap.size, 3, none⟩) hlS).trans e3, (hB.cell (p := ⟨b2, o2 + m * 5, none⟩) hb2).trans f0⟩) ⟨?_, ?_, ?_, trivial⟩ ?_
         focus
          intro v w w' h hB
          exact h
         focus
          intro v w w' h hB
          exact h
         focus
          intro v w w' h hB
          exact (by obtain ⟨g9, e, hb⟩ := h; exact ⟨g9, e, hb.below hB hb.lt⟩)
         focus
          intro vs w2 hBf hFf o ho K hK
          obtain rfl : (⟨some 85, _, _, _, _, _⟩ : Oper) = o := Option.some.inj ho
          clear ho
          (try simp only [fillL, zQ, zP] at hK ⊢)
          go_simp
          rw [if_neg (by first | omega | (simp; omega)), Oper.upon_value]
          exact hK.out _ _ ⟨by rw [HPX.out], Below.refl _ _⟩
         focus
          intro vs w2 hBf hFf o ho K hK
          obtain rfl : (⟨some 92, _, _, _, _, _⟩ : Oper) = o := Option.some.inj ho
          clear ho
          (try simp only [fillL, zQ, zP] at hK ⊢)
          have e85 := (hFf (3, 85) (by simp) (by kernel_rfl))
          simp only [] at e85
          simp only [e85] at hK ⊢
          go_simp
          rw [if_neg (by first | omega | (simp; omega)), Oper.upon_value]
          exact hK.out _ _ ⟨by rw [HQX.out], Below.refl _ _⟩
         focus
          intro vs w2 hBf hFf o ho K hK
          obtain rfl : (⟨some 93, _, _, _, _, _⟩ : Oper) = o := Option.some.inj ho
          clear ho
          (try simp only [fillL, zQ, zP] at hK ⊢)
          have e92 := (hFf (10, 92) (by simp) (by kernel_rfl))
          simp only [] at e92
          simp only [e92] at hK ⊢
          go_simp
          refine hK.out _ _ ⟨⟨w2.heap.size, rfl, Blk.new w2 _ _⟩, (Below.refl _ w2).alloc (Nat.le_refl _) _⟩
         intro vs w2 hBf hFf
         (try simp only [fillL, zQ, zP])
         obtain ⟨g93, e93, hb93⟩ := (hFf (11, 93) (by simp))
         simp only [e93]
         have hBw8 : Below wi.heap.size wi w2 := (Below.refl wi.heap.size wi).drew.trans hBf
         have hBN : Below z16.heap.size z16 w2 := hB2.trans (hBw8.mono hs2)
         have hsN := hBN.size
         have HOW2 := zI (zgQ HO2.out hBw8 (Nat.le_refl _))
         have HKS3 := zI (HKS2.out.of hBw8)
         clear hBw8
         refine zcZ (i := 12) (o := ⟨some 94, _, _, _, _, _⟩) (by kernel_rfl) rfl (by kernel_rfl) (fun K hK => ?_)
         refine step_append_lies (o := ⟨some 94, _, _, _, _, _⟩) _ (by rfl) _ _ 46 (by rfl) z16.heap.size 9 i0 (.string ByteArray.empty) 1 16 Tryz.underlying46 hi hz0 hz1 hz2 rfl (by omega) (.slice Av Q.length cv) Q.length (Q.map Value.string) (by rfl) HOW2.out ⟨g93, 0, none⟩ 1 1 [.string QX] (by rfl) rfl (fun j u hu => by rw [add_plain, Nat.zero_add]; exact (hb93.cell j).trans hu) (by simp [Value.oneCell']) (by omega) (by unfold maxLen; omega) (by omega) hsN _ rfl ?_
         intro g6 c6 x6 ho6 hg6 _ _
         have hB6 : Below z16.heap.size z16 x6 := hBN.trans ((Below.refl z16.heap.size w2).grown hg6 hsN (fun j e => (HOW2.out.lt j e).1))
         have hK6 : Keeps 9 w2 x6 := fun b cur e' hbb hne => hg6.block b (Array.getElem?_eq_some_iff.1 hbb).1 fun e1 => (by
          obtain ⟨_, ⟨hv, _⟩ | ⟨gg, cap, cur2, hv, hn, hb2, _⟩⟩ := HOW2.out
          · rw [hv] at e1
            cases e1
          · rw [hv] at e1
            injection e1 with e1
            have e1 : b = gg := e1
            subst e1
            rw [hbb] at hb2
            injection hb2 with hb2
            injection hb2 with _ h6 _
            exact hne h6)
         have HO6 := zI ho6
         have HB6 := zI hB6
         have HK6 := zI hK6
         clear ho6 hg6 hB6 hK6
         refine hK.out _ _ ?_
         clear hK K
         try simp only [zP]
         refine zcZ (i := 13) (o := ⟨some 17, _, _, _, _, _⟩) (by kernel_rfl) rfl (by kernel_rfl) (fun K hK => ?_)
         go_simp
         refine hK.out _ _ ?_
         clear hK K
         try simp only [zP]
         refine zdQ (by kernel_rfl) ?_ _
         refine NoPanic.normal ?_
         go_wp2
         go_roundw
         case rel => exact ⟨m + 1, by omega, by go_num, zI (by rw [HTK'.out, HAT.out]; have h9 := HO6.out; simpa [ownT] using h9), zI (HKS3.out.keep HK6.out (by decide)), HB6.out⟩
         case measure => simp [intOf]; omega
       · have hz' : decide (0 < y.u_.l.length) = false := decide_eq_false hz
         have HTK' : Hid (heldL s (s.n_.l.take (m + 1)) = heldL s (s.n_.l.take m)) := zI (by rw [HTK.out, if_neg hz, List.append_nil])
         clear hz HTK
         go_wp2
         go_roundw
         case rel => exact ⟨m + 1, by omega, by go_num, zI (by rw [HTK'.out]; exact HO2.out), HKS2, hB2⟩
         case measure => simp [intOf]; omega
     · obtain rfl : m = s.n_.l.length := by omega
       have HO9 : Hid (ownT wi z16.heap.size u17 (allL (x.y_.l.take (k + 1)))) := zI (by rw [allL_take HS.out]; have h9 := HO2.out; rwa [List.take_length] at h9)
       have kx2 := HKX.out.of hB2
       have HFD2 := zI (HFD.out wi hB2)
       obtain ⟨FI, hFI⟩ : ∃ FI, findM x p = FI := ⟨_, rfl⟩
       rw [hFI] at HFD2
       clear q0 q1 q2 q3 q4 q5 q6
       obtain ⟨q0, q1, q2, q3, q4, q5, q6⟩ := kx2.all7
       go_wp2_with fail
       refine HFD2.out.mono ?_
       rintro e w4 ⟨rfl, hV4⟩
       have hB4 := hB2.trans (hV4.mono hs2)
       have HO4 := zI (zgQ HO9.out hV4 (Nat.le_refl _))
       have ks4 := HKS2.out.of hV4
       clear q0 q1 q2 q3 q4 q5 q6 e0 e1 e2 e3 e4
       rcases hfk : ((k : Int) == FI) with _ | _
       · have hsn := seen_no (x := x) (p := p) (n := n) (k := k) (by rw [hFI]; exact hfk)
         have HSN := zI hsn
         clear hsn hFI
         go_wp2
         go_roundw
         case rel => exact ⟨k + 1, by omega, by go_num, by rw [HSN.out], HO4, hB4⟩
         case measure => simp [intOf]; omega
       · obtain ⟨hse, hex⟩ := seen_at (x := x) (p := p) (n := n) (k := k) (s := s) (by rw [hFI]; exact hfk) HS.out
         have hsg := HGX.out.w_.el s (mG HS.out)
         obtain ⟨SI, hSI⟩ : ∃ SI, snapM s n = SI := ⟨_, rfl⟩
         rw [hSI] at hse hex
         have HSP := zI (refSnap_any s n w4 (hsg.below hB4).f_)
         rw [hSI] at HSP
         have HSE := zI hse
         clear hse hFI hSI
         obtain ⟨e0, e1, e2, e3, e4⟩ := ks4.all5
         go_wp2_with fail
         refine HSP.out.mono ?_
         rintro e w5 ⟨rfl, hV5⟩
         have hB5 := hB4.trans (hV5.mono hB4.size)
         have HO5 := zI (zgQ HO4.out hV5 (Nat.le_refl _))
         have ks5 := ks4.of hV5
         clear e0 e1 e2 e3 e4
         by_cases hsi : 0 ≤ SI
         · obtain ⟨z, hz⟩ := hex hsi
           obtain ⟨mi, rfl⟩ : ∃ mi : Nat, SI = mi := ⟨SI.toNat, by omega⟩
           have hz : s.n_.l[mi]? = some z := hz
           have hzl : mi < s.n_.l.length := (List.getElem?_eq_some_iff.1 hz).1
           have HSE2 : Hid (seenB x p n (k + 1) = decide (0 < z.u_.l.length)) := zI (by
            rw [HSE.out, decide_eq_true hsi, Bool.true_and]
            show (match s.n_.l[mi]? with | none => false | some y => decide (0 < y.u_.l.length)) = _
            rw [hz])
           obtain ⟨b3, o3, hA3, hb3, hc3⟩ := Rd.elem (n := 5) (fun _ => rfl) (by omega) (hsg.below hB5).f_.rd hz
           have f3 : w5.cell? ⟨b3, o3 + mi * 5 + 3, none⟩ = some (.slice z.u_.A z.u_.l.length z.u_.c) := hc3 3 _ rfl
           have hge : decide ((0 : Int) ≤ (mi : Int)) = true := decide_eq_true (by omega)
           rw [hA3] at ks5
           clear hex hz hc3 hA3 HSE hsi
           obtain ⟨e0, e1, e2, e3, e4⟩ := ks5.all5
           go_wp2
           go_roundw
           case rel => exact ⟨k + 1, by omega, by go_num, by rw [HSE2.out], HO5, hB5⟩
           case measure => simp [intOf]; omega
         · have hge : decide ((0 : Int) ≤ SI) = false := decide_eq_false hsi
           have HSE2 : Hid (seenB x p n (k + 1) = false) := zI (by rw [HSE.out, decide_eq_false hsi, Bool.false_and])
           clear hex HSE hsi
           go_wp2
           go_roundw
           case rel => exact ⟨k + 1, by omega, by go_num, by rw [HSE2.out], HO5, hB5⟩
           case measure => simp [intOf]; omega
  · obtain rfl : k = x.y_.l.length := by omega
    have hh : seenB x p n x.y_.l.length = heldM x p n := hand_is x p n
    rw [List.take_length] at HO
    obtain ⟨LL, hLL⟩ : ∃ LL, allL x.y_.l = LL := ⟨_, rfl⟩
    have hLlen : LL.length ≤ 8796093022208 := by rw [← hLL]; exact Nat.le_trans (allL_len _) (Nat.le_trans HTOT.out (by decide))
    have HALL : Hid (∀ W, x.Good W → Calls Tryz.prog 34 #[.agg x.cells.toArray] W fun e w' => ∃ v, e = .returned v ∧ ownT w' W.heap.size v LL ∧ Below W.heap.size W w') := zI fun W hW => by
     have h9 := all18_any x HTOT.out W hW
     rwa [hLL] at h9
    obtain ⟨HB, hHB⟩ : ∃ HB, heldM x p n = HB := ⟨_, rfl⟩
    have HHELD : Hid (∀ W, x.Good W → Calls Tryz.prog 35 #[.agg x.cells.toArray, .string p, .string n] W fun e w' => e = .returned (.bool HB) ∧ Below W.heap.size W w') := zI fun W hW => by
     have h9 := held18_any x p n W hW
     rwa [hHB] at h9
    have HNUM := zI (fun n W => num18_any n W)
    rw [hh, hHB]
    rw [hLL] at HO
    obtain ⟨Av, cv, hv, _, _, hRd, _⟩ := ownAny HO.out
    subst hv
    have HRW := zI hRd.1
    have hga := HGA.out.below hB
    have hgb := HGB.out.below hB
    have hgc := HGC.out.below hB
    have hgd := HGD.out.below hB
    have hgx := HGX.out.below hB
    have ka := HKA.out.of hB
    have kb := HKB.out.of hB
    have kc := HKC.out.of hB
    have kd := HKD.out.of hB
    have hDw := Below.refl wo.heap.size wo
    have hU0 : Below a1.heap.size a1 wo := HUN.out.trans (hB.mono hUN)
    clear hh hLL hHB hRd HO
    obtain ⟨q5_kx_0, q5_kx_1, q5_kx_2, q5_kx_3, q5_kx_4, q5_kx_5, q5_kx_6⟩ := kx.all7
    go_upto_region 19 with fail
    clear q5_kx_0 q5_kx_1 q5_kx_2 q5_kx_3 q5_kx_4 q5_kx_5 q5_kx_6
    obtain ⟨q6_ka_0, q6_ka_1, q6_ka_2, q6_ka_3, q6_ka_4, q6_ka_5, q6_ka_6⟩ := ka.all7
    obtain ⟨q6_kb_0, q6_kb_1, q6_kb_2, q6_kb_3, q6_kb_4, q6_kb_5, q6_kb_6⟩ := kb.all7
    have G18 := zI (refTe a b HPAB.out wo hga hgb)
    go_wp2_with fail
    refine G18.out.mono ?_
    rintro e v18 ⟨rfl, hV18⟩
    clear G18
    have hU_19 : Below a1.heap.size a1 v18 := hU0.trans ((hV18).mono hU0.size)
    have kx := kx.of hV18
    have ka := ka.of hV18
    have kb := kb.of hV18
    have kc := kc.of hV18
    have kd := kd.of hV18
    have hga := hga.below hV18
    have hgb := hgb.below hV18
    have hgc := hgc.below hV18
    have hgd := hgd.below hV18
    have hgx := hgx.below hV18
    have hDw := hDw.trans ((hV18).mono hDw.size)
    clear q6_ka_0 q6_ka_1 q6_ka_2 q6_ka_3 q6_ka_4 q6_ka_5 q6_ka_6 q6_kb_0 q6_kb_1 q6_kb_2 q6_kb_3 q6_kb_4 q6_kb_5 q6_kb_6
    go_wp2_with fail
    refine (HNUM.out _ _).mono ?_
    rintro e t20 ⟨rfl, hq20⟩
    subst hq20
    obtain ⟨q7_kc_0, q7_kc_1, q7_kc_2, q7_kc_3, q7_kc_4, q7_kc_5, q7_kc_6⟩ := kc.all7
    obtain ⟨q7_kd_0, q7_kd_1, q7_kd_2, q7_kd_3, q7_kd_4, q7_kd_5, q7_kd_6⟩ := kd.all7
    have G21 := zI (refTe c d HPCD.out v18 hgc hgd)
    go_wp2_with fail
    refine G21.out.mono ?_
    rintro e v21 ⟨rfl, hV21⟩
    clear G21
    have hU_22 : Below a1.heap.size a1 v21 := hU_19.trans ((hV21).mono hU_19.size)
    have kx := kx.of hV21
    have ka := ka.of hV21
    have kb := kb.of hV21
    have kc := kc.of hV21
    have kd := kd.of hV21
    have hga := hga.below hV21
    have hgb := hgb.below hV21
    have hgc := hgc.below hV21
    have hgd := hgd.below hV21
    have hgx := hgx.below hV21
    have hDw := hDw.trans ((hV21).mono hDw.size)
    clear q7_kc_0 q7_kc_1 q7_kc_2 q7_kc_3 q7_kc_4 q7_kc_5 q7_kc_6 q7_kd_0 q7_kd_1 q7_kd_2 q7_kd_3 q7_kd_4 q7_kd_5 q7_kd_6
    go_wp2_with fail
    refine (HNUM.out _ _).mono ?_
    rintro e t23 ⟨rfl, hq23⟩
    subst hq23
    obtain ⟨q8_kx_0, q8_kx_1, q8_kx_2, q8_kx_3, q8_kx_4, q8_kx_5, q8_kx_6⟩ := kx.all7
    have HAL2 := zI (HALL.out v21 hgx)
    go_wp2_with fail
    refine HAL2.out.mono ?_
    rintro e v24 ⟨vL, rfl, hoL, hVL⟩
    obtain ⟨A2, c2_, hv2, _, _, hRd2, _⟩ := ownAny hoL
    subst hv2
    have HR2 := zI hRd2.1
    clear hRd2 hoL HAL2
    have hU_25 : Below a1.heap.size a1 v24 := hU_22.trans ((hVL).mono hU_22.size)
    have kx := kx.of hVL
    have ka := ka.of hVL
    have kb := kb.of hVL
    have kc := kc.of hVL
    have kd := kd.of hVL
    have hga := hga.below hVL
    have hgb := hgb.below hVL
    have hgc := hgc.below hVL
    have hgd := hgd.below hVL
    have hgx := hgx.below hVL
    have hDw := hDw.trans ((hVL).mono hDw.size)
    clear q8_kx_0 q8_kx_1 q8_kx_2 q8_kx_3 q8_kx_4 q8_kx_5 q8_kx_6
    have G26 := zI (texts_one A2 Av c2_ cv LL hLlen v24 HR2.out (HRW.out.below hDw))
    go_wp2_with fail
    refine G26.out.mono ?_
    rintro e v26 ⟨rfl, hV26⟩
    clear G26
    have hU_27 : Below a1.heap.size a1 v26 := hU_25.trans ((hV26).mono hU_25.size)
    have kx := kx.of hV26
    have ka := ka.of hV26
    have kb := kb.of hV26
    have kc := kc.of hV26
    have kd := kd.of hV26
    have hga := hga.below hV26
    have hgb := hgb.below hV26
    have hgc := hgc.below hV26
    have hgd := hgd.below hV26
    have hgx := hgx.below hV26
    have hDw := hDw.trans ((hV26).mono hDw.size)
    obtain ⟨q9_kx_0, q9_kx_1, q9_kx_2, q9_kx_3, q9_kx_4, q9_kx_5, q9_kx_6⟩ := kx.all7
    have G28 := zI (HHELD.out v26 hgx)
    go_wp2_with fail
    refine G28.out.mono ?_
    rintro e v28 ⟨rfl, hV28⟩
    clear G28
    have hU_29 : Below a1.heap.size a1 v28 := hU_27.trans ((hV28).mono hU_27.size)
    have kx := kx.of hV28
    have ka := ka.of hV28
    have kb := kb.of hV28
    have kc := kc.of hV28
    have kd := kd.of hV28
    have hga := hga.below hV28
    have hgb := hgb.below hV28
    have hgc := hgc.below hV28
    have hgd := hgd.below hV28
    have hgx := hgx.below hV28
    have hDw := hDw.trans ((hV28).mono hDw.size)
    clear q9_kx_0 q9_kx_1 q9_kx_2 q9_kx_3 q9_kx_4 q9_kx_5 q9_kx_6
    have G30 := zI (alive18_any v28)
    go_wp2_with fail
    refine G30.out.mono ?_
    rintro e v30 ⟨rfl, hV30⟩
    clear G30
    have hU_31 : Below a1.heap.size a1 v30 := hU_29.trans ((hV30).mono hU_29.size)
    have kx := kx.of hV30
    have ka := ka.of hV30
    have kb := kb.of hV30
    have kc := kc.of hV30
    have kd := kd.of hV30
    have hga := hga.below hV30
    have hgb := hgb.below hV30
    have hgc := hgc.below hV30
    have hgd := hgd.below hV30
    have hgx := hgx.below hV30
    have hDw := hDw.trans ((hV30).mono hDw.size)
    go_wp2
    go_ret
    exact ⟨rfl, hB1.trans ((hU_31).mono hs1)⟩
theorem totL_each (B : Nat) : ∀ l : List MSet, (∀ s ∈ l, s.n_.l.length ≤ B) → totL l ≤ l.length * B
 | [], _ => Nat.zero_le _
 | a :: l, h => by
  have h1 := totL_each B l fun s hs => h s (List.mem_cons_of_mem _ hs)
  have h2 := h a (List.mem_cons_self ..)
  unfold totL at *
  rw [List.map_cons, List.sum_cons, List.length_cons, Nat.succ_mul]
  omega
theorem MT_.Fine.tot {W : World} {x : MT_} (h : x.Fine W) : totL x.y_.l ≤ 8796093022206 := by
 have h1 : x.y_.l.length ≤ 2581110 := by have := h.few_; omega
 have h2 := totL_each 2796202 x.y_.l fun s hs => by
  have := (h.w_.el s hs).gmany_
  omega
 exact Nat.le_trans h2 (Nat.le_trans (Nat.mul_le_mul_right _ h1) (by decide))
end Go.Proofs.YtimmcmjipmkebaaGreat
namespace Go.Proofs.YtimmcmjipmkebaaGreat.holdsTells
open Go.ChangeShapes Go.WideShapes Go.ChangeAt Go.RowKit
set_option maxRecDepth 100000
theorem own : ownKnob Tryz.prog.godebug = none := by kernel_rfl
theorem laidOut : laidOutB Tryz.prog = true := by kernel_rfl
theorem readsX : Tryz.prog.readableRec 27 = true ∧ 27 < Tryz.prog.types.size := ⟨by kernel_rfl, of_decide_eq_true (by kernel_rfl)⟩
theorem readsS : Tryz.prog.readableRec 9 = true ∧ 9 < Tryz.prog.types.size := ⟨by kernel_rfl, of_decide_eq_true (by kernel_rfl)⟩
theorem closedT : closedB Tryz.prog [27, 9, 3, 22, 52, 45, 106, 50, 49, 46, 47, 109, 23, 111, 24, 91, 89, 87, 85, 4, 25, 104, 28] 224 = true := by kernel_rfl
theorem bulk_one {H : Type} {l : List (DataW H)} {d : DataW H} (hk : Rows.uptoSmall H l = true) (hd : d ∈ l) : Rows.uptoBulk d ≤ 1048576 := by
  have h1 : Rows.uptoBulkAll l ≤ 1048576 := of_decide_eq_true hk
  have h2 : ∀ {l : List (DataW H)} {d : DataW H}, d ∈ l → Rows.uptoBulk d ≤ Rows.uptoBulkAll l := by
    intro l
    induction l with
    | nil => intro d hd; cases hd
    | cons x l ih =>
      intro d hd
      simp only [Rows.uptoBulkAll]
      rcases List.mem_cons.1 hd with rfl | hd
      · omega
      · have := ih hd
        omega
  exact Nat.le_trans (h2 hd) h1
theorem bulk_string {H : Type} {l : List (DataW H)} {s : List UInt8} (hk : Rows.uptoSmall H l = true) (hd : DataW.lit (.string s) ∈ l) : s.length ≤ 1048576 := by
  have := bulk_one hk hd
  simp only [Rows.uptoBulk] at this
  omega
theorem fit2_bulk {H : Type} {l : List (DataW H)} (hk : Rows.uptoSmall H l = true) {d : DataW H} (hd : d ∈ l) {t : TypeId} (ht : t ∈ [27, 9, 3, 22, 52, 45, 106, 50, 49, 46, 47, 109, 23, 111, 24, 91, 89, 87, 85, 4, 25, 104, 28]) : Fit2 Tryz.prog t d := fun m hm =>
  Nat.le_trans (bulk_weights closedT 1048576 d t ht (bulk_one hk hd) m hm) (by decide)
theorem lifted (os : Os) (started : os.Started) (H : Type) (enc : TypeId × Value → H) (F : Stop.Interp) :
    ReturnsInHanded {} Tryz.checked os 7 .any ((Rows.OpenSpec.upto Rows.holdsTellsSpec).pre6 enc Tryz.prog Tryz.f7 Rows.holdsTellsUptoRow.domain false) (((Rows.OpenSpec.upto Rows.holdsTellsSpec).at F).post enc Tryz.prog Tryz.f7 false true false false) := by
  refine returnsInHanded_of_cond (C := Tryz.checked) (s := Rows.OpenSpec.upto Rows.holdsTellsSpec) (k := Rows.uptoSmall) rfl own started (by kernel_rfl) Tryz.func7
    (OpenSpec.witness (enc := enc) (C := Tryz.checked) (s := Rows.OpenSpec.upto Rows.holdsTellsSpec) (k := Rows.uptoSmall) rfl false ⟨#[], #[.agg #[.string ByteArray.empty, .int .i64 0, .int .i64 0, .slice none 0 0, .slice none 0 0, .slice none 0 0, .slice none 0 0], .string ByteArray.empty, .string ByteArray.empty, .string ByteArray.empty], []⟩ 8 (by kernel_rfl) (by kernel_rfl) (by kernel_rfl)
      (x := ([.agg [.lit (.string []), .lit (.int .i64 0), .lit (.int .i64 0), .nil, .nil, .nil, .nil], .lit (.string []), .lit (.string []), .lit (.string [])], [], [])) (by kernel_rfl) rfl (by kernel_rfl)) ?_
  intro W base args ds gs before hval0 hW0 _ hk _
  have hval : ∀ (j : Nat) t v, Tryz.f7.params[j]? = some t → args[j]? = some v → Value.okWide Tryz.prog W .any base t v := hval0
  have hW : DataW.Whole enc Tryz.prog Tryz.f7.params.toList Rows.holdsTellsSpec.vars false W args.toList ds gs before := hW0
  have hW' := hW
  obtain ⟨p, q, hA0, hV, rfl, _, _⟩ := hW
  have hA : DataW.TrodAll enc Tryz.prog W 0 (fun _ => true) true Tryz.f7.params.toList args.toList ds p := hA0
  rw [Tryz.params7] at hA hval
  obtain ⟨v0, v1, v2, v3, d0, d1, d2, d3, p0, p1, p2, p3, rfl, rfl, rfl, h0, h1, h2, h3⟩ := trodAll_four hA
  obtain ⟨rfl, rfl⟩ := trodVars_none hV
  have hz : ∀ s : ByteArray, s.data.toList.length ≤ 1048576 → s.size ≤ 1048576 := fun s h => by
    show s.data.size ≤ _
    rw [← Array.length_toList]
    exact h
  obtain ⟨s0, rfl, hs0⟩ := argSt2 Tryz.underlying27 fines_MTenant (hval 0 27 v0 rfl rfl) h0 (fit2_bulk hk (by simp) (by decide))
  obtain ⟨s1, rfl, rfl, rfl, hs1⟩ := ChangeMaps.open_string Tryz.underlying9 (hval 1 9 v1 rfl rfl) h1
  have hz1 := hz s1 (bulk_string hk (by simp))
  obtain ⟨s2, rfl, rfl, rfl, hs2⟩ := ChangeMaps.open_string Tryz.underlying9 (hval 2 9 v2 rfl rfl) h2
  have hz2 := hz s2 (bulk_string hk (by simp))
  obtain ⟨s3, rfl, rfl, rfl, hs3⟩ := ChangeMaps.open_string Tryz.underlying9 (hval 3 9 v3 rfl rfl) h3
  have hz3 := hz s3 (bulk_string hk (by simp))
  refine (tells18_walk s0 s1 s2 s3 (Nat.le_trans hz1 (by decide)) (Nat.le_trans hz2 (by decide)) (Nat.le_trans hz3 (by decide)) W hs0.good hs0.tiny hs0.tot).mono fun e W' ⟨he, hB⟩ => ?_
  subst he
  refine ⟨_, rfl, ?_⟩
  refine law_post (s := Rows.holdsTellsSpec) (tb := 4) laidOut ?_ rfl rfl Tryz.underlying4 hW' hB rfl rfl rfl
  intro t ht
  have ht' : t ∈ [27, 9, 9, 9] := ht
  simp only [List.mem_cons, List.not_mem_nil, or_false] at ht'
  rcases ht' with rfl | rfl | rfl | rfl
  · exact readsX
  · exact readsS
  · exact readsS
  · exact readsS
theorem proved : Rows.HoldsTellsUptoSaid :=
  OpenClaim.holds_of_cond 7 Tryz.f7 rfl rfl rfl rfl rfl rfl rfl ⟨rfl, rfl, rfl, rfl, rfl⟩ rfl rfl rfl rfl rfl (by kernel_rfl) Tryz.func7 (by kernel_rfl)
    (of_decide_eq_true (by kernel_rfl)) (by unfold Func.isWrapper; first | (rw [if_pos (by decide +kernel)]; kernel_rfl) | (rw [if_neg (by decide +kernel)]; exact ⟨rfl, rfl⟩))
    (fun os started H enc _ F => lifted os started H enc F)
end Go.Proofs.YtimmcmjipmkebaaGreat.holdsTells
