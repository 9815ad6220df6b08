/-
 The reference’s found. Conditions: the tenant is as it comes in; texts of at most 2^42 octets.
-/
import Derived.Test.YtimmcmjipmkebaaGreatVHLB
import Derived.Test.YtimmcmjipmkebaaGreatVTMD
namespace Go.Proofs.YtimmcmjipmkebaaGreat
open Go.ChangeShapes Go.WideShapes Go.ChangeAt Go.RowKit
set_option maxRecDepth 100000
set_option linter.unusedSimpArgs false
set_option maxHeartbeats 2000000 in
theorem refFound_any (x : MT_) (p n : ByteArray) (more must : Bool) (hp : p.size ≤ 4398046511104) (hn : n.size ≤ 140737488355328) (w : World) (hx : x.Good w) (ht : x.Tiny) :
 Calls Tryz.prog 48 #[.agg x.cells.toArray, .string p, .string n, .bool more, .bool must] w fun e w' => e = .returned (.tuple #[.int .i64 (if zfX x.plain p n more must = 0 then findM x p else 0), .int .i64 (if zfX x.plain p n more must = 0 then atN x p n else 0), .int .i64 (zfX x.plain p n more must)]) ∧ Below w.heap.size w w' := by
 obtain ⟨a1, hw1⟩ : ∃ a1, w.alloc (.cells #[.string x.x_, .int .i64 x.r_, .int .i64 x.v_, .slice x.y_.A x.y_.l.length x.y_.c, .slice x.g_.A x.g_.l.length x.g_.c, .slice x.t_.A x.t_.l.length x.t_.c, .slice x.h_.A x.h_.l.length x.h_.c] 27) = a1 := ⟨_, rfl⟩
 have b1 : Below w.heap.size w a1 := hw1 ▸ (Below.refl _ w).alloc (Nat.le_refl _) _
 have k1 : Blk a1 w.heap.size 27 [.string x.x_, .int .i64 x.r_, .int .i64 x.v_, .slice x.y_.A x.y_.l.length x.y_.c, .slice x.g_.A x.g_.l.length x.g_.c, .slice x.t_.A x.t_.l.length x.t_.c, .slice x.h_.A x.h_.l.length x.h_.c] := hw1 ▸ Blk.new w _ _
 have hB1 : Below w.heap.size w a1 := b1
 have hs1 := hB1.size
 have HW1 := zI hw1
 clear hw1 b1
 have hx1 := hx.below hB1
 have HC := zI (refCheck_any14 x a1 hx1 ht)
 have HP := zI (fun W => refPath_any p hp W)
 have HN := zI (fun W => refName_any n hn W)
 have HF := zI (fun W (hW : Below a1.heap.size a1 W) => refFind_any x p W (hx1.below hW))
 have HG := zI hx1
 have hlen := hx1.w_.len
 have hE := foundE_is x p n more must
 rw [hE]
 have hlk1 := k1.lt
 clear hx hx1 ht hp hn hE
 rcases h1 : okT x.plain with _ | _
 · rw [h1] at HC
   simp only [Bool.false_eq_true, if_false] at HC ⊢
   rw [show orL _ = (9 : Int) from by simp [orL_cons, orL_nil]]
   simp only [show ¬ ((9 : Int) = 0) by decide, if_false]
   obtain ⟨q0, q1, q2, q3, q4, q5, q6⟩ := k1.all7
   go_enter Tryz.func48, Tryz.ntmps48
   go_upto_region 1 with fail
   rw [HW1.out]
   go_wp2_with fail
   refine HC.out.mono ?_
   rintro e w2 ⟨rfl, hV2⟩
   have K := k1.of hV2
   have hX2 := hB1.trans (hV2.mono hs1)
   clear q0 q1 q2 q3 q4 q5 q6
   go_wp2
   refine bodyPost_ret (v := .tuple #[.int .i64 (0), .int .i64 (0), .int .i64 (9)]) (by simp [results, Tryz.results48, go_sem]) rfl ?_
   exact ⟨rfl, hX2⟩
 · rw [h1] at HC
   simp only [if_true] at HC ⊢
   rcases h2 : zeX (bs p) with _ | _
   · rw [h2] at HP
     rw [show orL _ = (31 : Int) from by simp [orL_cons, orL_nil, whenI]]
     simp only [show ¬ ((31 : Int) = 0) by decide, if_false]
     obtain ⟨q0, q1, q2, q3, q4, q5, q6⟩ := k1.all7
     go_enter Tryz.func48, Tryz.ntmps48
     go_upto_region 1 with fail
     rw [HW1.out]
     go_wp2_with fail
     refine HC.out.mono ?_
     rintro e w2 ⟨rfl, hV2⟩
     have K := k1.of hV2
     have hX2 := hB1.trans (hV2.mono hs1)
     clear q0 q1 q2 q3 q4 q5 q6
     go_wp2_with fail
     refine (HP.out _).mono ?_
     rintro e w3 ⟨rfl, hV3⟩
     have hV23 := hV2.trans (hV3.mono hV2.size)
     have K := K.of hV3
     have hX3 := hB1.trans (hV23.mono hs1)
     go_wp2
     refine bodyPost_ret (v := .tuple #[.int .i64 (0), .int .i64 (0), .int .i64 (31)]) (by simp [results, Tryz.results48, go_sem]) rfl ?_
     exact ⟨rfl, hX3⟩
   · rw [h2] at HP
     rcases h3 : zaQ (bs n) with _ | _
     · rw [h3] at HN
       rw [show orL _ = (31 : Int) from by simp [orL_cons, orL_nil, whenI]]
       simp only [show ¬ ((31 : Int) = 0) by decide, if_false]
       obtain ⟨q0, q1, q2, q3, q4, q5, q6⟩ := k1.all7
       go_enter Tryz.func48, Tryz.ntmps48
       go_upto_region 1 with fail
       rw [HW1.out]
       go_wp2_with fail
       refine HC.out.mono ?_
       rintro e w2 ⟨rfl, hV2⟩
       have K := k1.of hV2
       have hX2 := hB1.trans (hV2.mono hs1)
       clear q0 q1 q2 q3 q4 q5 q6
       go_wp2_with fail
       refine (HP.out _).mono ?_
       rintro e w3 ⟨rfl, hV3⟩
       have hV23 := hV2.trans (hV3.mono hV2.size)
       have K := K.of hV3
       have hX3 := hB1.trans (hV23.mono hs1)
       go_wp2_with fail
       refine (HN.out _).mono ?_
       rintro e w4 ⟨rfl, hw4⟩
       subst hw4
       go_wp2
       refine bodyPost_ret (v := .tuple #[.int .i64 (0), .int .i64 (0), .int .i64 (31)]) (by simp [results, Tryz.results48, go_sem]) rfl ?_
       exact ⟨rfl, hX3⟩
     · rw [h3] at HN
       rcases more with _ | _
       · rw [show orL _ = (31 : Int) from by simp [orL_cons, orL_nil, whenI]]
         simp only [show ¬ ((31 : Int) = 0) by decide, if_false]
         obtain ⟨q0, q1, q2, q3, q4, q5, q6⟩ := k1.all7
         go_enter Tryz.func48, Tryz.ntmps48
         go_upto_region 1 with fail
         rw [HW1.out]
         go_wp2_with fail
         refine HC.out.mono ?_
         rintro e w2 ⟨rfl, hV2⟩
         have K := k1.of hV2
         have hX2 := hB1.trans (hV2.mono hs1)
         clear q0 q1 q2 q3 q4 q5 q6
         go_wp2_with fail
         refine (HP.out _).mono ?_
         rintro e w3 ⟨rfl, hV3⟩
         have hV23 := hV2.trans (hV3.mono hV2.size)
         have K := K.of hV3
         have hX3 := hB1.trans (hV23.mono hs1)
         go_wp2_with fail
         refine (HN.out _).mono ?_
         rintro e w4 ⟨rfl, hw4⟩
         subst hw4
         go_wp2
         refine bodyPost_ret (v := .tuple #[.int .i64 (0), .int .i64 (0), .int .i64 (31)]) (by simp [results, Tryz.results48, go_sem]) rfl ?_
         exact ⟨rfl, hX3⟩
       · rcases zhX x p n with ⟨a, -, c, -, -⟩ | ⟨j, s, a, hj, -, -, d, -, -, -, -, hM⟩ | ⟨j, s, k, y, a, hj, -, -, d, -, -, -, -, -, -, hM, -⟩
         · rw [a, c]
           rw [a] at HF
           rw [show orL _ = (71 : Int) from by simp [orL_cons, orL_nil, whenI]]
           simp only [show ¬ ((71 : Int) = 0) by decide, if_false]
           clear a c
           obtain ⟨q0, q1, q2, q3, q4, q5, q6⟩ := k1.all7
           go_enter Tryz.func48, Tryz.ntmps48
           go_upto_region 1 with fail
           rw [HW1.out]
           go_wp2_with fail
           refine HC.out.mono ?_
           rintro e w2 ⟨rfl, hV2⟩
           have K := k1.of hV2
           have hX2 := hB1.trans (hV2.mono hs1)
           clear q0 q1 q2 q3 q4 q5 q6
           go_wp2_with fail
           refine (HP.out _).mono ?_
           rintro e w3 ⟨rfl, hV3⟩
           have hV23 := hV2.trans (hV3.mono hV2.size)
           have K := K.of hV3
           have hX3 := hB1.trans (hV23.mono hs1)
           go_wp2_with fail
           refine (HN.out _).mono ?_
           rintro e w4 ⟨rfl, hw4⟩
           subst hw4
           obtain ⟨u0, u1, u2, u3, u4, u5, u6⟩ := K.all7
           have HF3 := zI (HF.out w3 hV23)
           go_wp2_with fail
           refine HF3.out.mono ?_
           rintro e w5 ⟨rfl, hV5⟩
           have hV25 := hV23.trans (hV5.mono hV23.size)
           have K := K.of hV5
           have hX5 := hB1.trans (hV25.mono hs1)
           clear u0 u1 u2 u3 u4 u5 u6
           go_wp2
           refine bodyPost_ret (v := .tuple #[.int .i64 (0), .int .i64 (0), .int .i64 (71)]) (by simp [results, Tryz.results48, go_sem]) rfl ?_
           exact ⟨rfl, hX5⟩
         · rw [a, d]
           rw [a] at HF
           have HJ := zI hj
           have HM := zI hM
           have hjl : j < x.y_.l.length := (List.getElem?_eq_some_iff.1 hj).1
           have h7 : ¬ (j : Int) < 0 := by omega
           rcases must with _ | _
           · rw [show orL _ = (0 : Int) from by simp [orL_cons, orL_nil, whenI, h7]]
             simp only [if_true]
             clear a d hj hM h7
             obtain ⟨q0, q1, q2, q3, q4, q5, q6⟩ := k1.all7
             go_enter Tryz.func48, Tryz.ntmps48
             go_upto_region 1 with fail
             rw [HW1.out]
             go_wp2_with fail
             refine HC.out.mono ?_
             rintro e w2 ⟨rfl, hV2⟩
             have K := k1.of hV2
             have hX2 := hB1.trans (hV2.mono hs1)
             clear q0 q1 q2 q3 q4 q5 q6
             go_wp2_with fail
             refine (HP.out _).mono ?_
             rintro e w3 ⟨rfl, hV3⟩
             have hV23 := hV2.trans (hV3.mono hV2.size)
             have K := K.of hV3
             have hX3 := hB1.trans (hV23.mono hs1)
             go_wp2_with fail
             refine (HN.out _).mono ?_
             rintro e w4 ⟨rfl, hw4⟩
             subst hw4
             obtain ⟨u0, u1, u2, u3, u4, u5, u6⟩ := K.all7
             have HF3 := zI (HF.out w3 hV23)
             go_wp2_with fail
             refine HF3.out.mono ?_
             rintro e w5 ⟨rfl, hV5⟩
             have hV25 := hV23.trans (hV5.mono hV23.size)
             have K := K.of hV5
             have hX5 := hB1.trans (hV25.mono hs1)
             clear u0 u1 u2 u3 u4 u5 u6
             obtain ⟨b, off, hA, hbl, hcc⟩ := Rd.elem (n := 5) (fun _ => rfl) (by omega) (HG.out.below hV25).w_.rd HJ.out
             have d0 : w5.cell? ⟨b, off + j * 5, none⟩ = some (.string s.l_) := hcc 0 _ rfl
             have d1 : w5.cell? ⟨b, off + j * 5 + 1, none⟩ = some (.string s.m_) := hcc 1 _ rfl
             have d2 : w5.cell? ⟨b, off + j * 5 + 2, none⟩ = some (.slice s.p_.A s.p_.l.length s.p_.c) := hcc 2 _ rfl
             have d3 : w5.cell? ⟨b, off + j * 5 + 3, none⟩ = some (.slice s.n_.A s.n_.l.length s.n_.c) := hcc 3 _ rfl
             have d4 : w5.cell? ⟨b, off + j * 5 + 4, none⟩ = some (.slice s.j_.A s.j_.l.length s.j_.c) := hcc 4 _ rfl
             obtain ⟨u0, u1, u2, u3, u4, u5, u6⟩ := K.all7
             rw [hA] at u3
             have HSN := zI (refSnap_any s n w5 ((HG.out.below hV25).w_.el s (mG HJ.out)).f_)
             rw [HM.out] at HSN
             clear hcc hA
             go_wp2_with fail
             refine HSN.out.mono ?_
             rintro e w6 ⟨rfl, hV6⟩
             have hX6 := hX5.trans (hV6.mono hX5.size)
             clear u0 u1 u2 u3 u4 u5 u6 d0 d1 d2 d3 d4
             go_wp2
             refine bodyPost_ret (v := .tuple #[.int .i64 (j), .int .i64 (-1), .int .i64 (0)]) (by simp [results, Tryz.results48, go_sem]) rfl ?_
             exact ⟨rfl, hX6⟩
           · rw [show orL _ = (71 : Int) from by simp [orL_cons, orL_nil, whenI, h7]]
             simp only [show ¬ ((71 : Int) = 0) by decide, if_false]
             clear a d hj hM h7
             obtain ⟨q0, q1, q2, q3, q4, q5, q6⟩ := k1.all7
             go_enter Tryz.func48, Tryz.ntmps48
             go_upto_region 1 with fail
             rw [HW1.out]
             go_wp2_with fail
             refine HC.out.mono ?_
             rintro e w2 ⟨rfl, hV2⟩
             have K := k1.of hV2
             have hX2 := hB1.trans (hV2.mono hs1)
             clear q0 q1 q2 q3 q4 q5 q6
             go_wp2_with fail
             refine (HP.out _).mono ?_
             rintro e w3 ⟨rfl, hV3⟩
             have hV23 := hV2.trans (hV3.mono hV2.size)
             have K := K.of hV3
             have hX3 := hB1.trans (hV23.mono hs1)
             go_wp2_with fail
             refine (HN.out _).mono ?_
             rintro e w4 ⟨rfl, hw4⟩
             subst hw4
             obtain ⟨u0, u1, u2, u3, u4, u5, u6⟩ := K.all7
             have HF3 := zI (HF.out w3 hV23)
             go_wp2_with fail
             refine HF3.out.mono ?_
             rintro e w5 ⟨rfl, hV5⟩
             have hV25 := hV23.trans (hV5.mono hV23.size)
             have K := K.of hV5
             have hX5 := hB1.trans (hV25.mono hs1)
             clear u0 u1 u2 u3 u4 u5 u6
             obtain ⟨b, off, hA, hbl, hcc⟩ := Rd.elem (n := 5) (fun _ => rfl) (by omega) (HG.out.below hV25).w_.rd HJ.out
             have d0 : w5.cell? ⟨b, off + j * 5, none⟩ = some (.string s.l_) := hcc 0 _ rfl
             have d1 : w5.cell? ⟨b, off + j * 5 + 1, none⟩ = some (.string s.m_) := hcc 1 _ rfl
             have d2 : w5.cell? ⟨b, off + j * 5 + 2, none⟩ = some (.slice s.p_.A s.p_.l.length s.p_.c) := hcc 2 _ rfl
             have d3 : w5.cell? ⟨b, off + j * 5 + 3, none⟩ = some (.slice s.n_.A s.n_.l.length s.n_.c) := hcc 3 _ rfl
             have d4 : w5.cell? ⟨b, off + j * 5 + 4, none⟩ = some (.slice s.j_.A s.j_.l.length s.j_.c) := hcc 4 _ rfl
             obtain ⟨u0, u1, u2, u3, u4, u5, u6⟩ := K.all7
             rw [hA] at u3
             have HSN := zI (refSnap_any s n w5 ((HG.out.below hV25).w_.el s (mG HJ.out)).f_)
             rw [HM.out] at HSN
             clear hcc hA
             go_wp2_with fail
             refine HSN.out.mono ?_
             rintro e w6 ⟨rfl, hV6⟩
             have hX6 := hX5.trans (hV6.mono hX5.size)
             clear u0 u1 u2 u3 u4 u5 u6 d0 d1 d2 d3 d4
             go_wp2
             refine bodyPost_ret (v := .tuple #[.int .i64 (0), .int .i64 (0), .int .i64 (71)]) (by simp [results, Tryz.results48, go_sem]) rfl ?_
             exact ⟨rfl, hX6⟩
         · rw [a, d]
           rw [a] at HF
           have HJ := zI hj
           have HM := zI hM
           have hjl : j < x.y_.l.length := (List.getElem?_eq_some_iff.1 hj).1
           have h7 : ¬ (j : Int) < 0 := by omega
           have h8 : ¬ (k : Int) < 0 := by omega
           rw [show orL _ = (0 : Int) from by rcases must with _ | _ <;> simp [orL_cons, orL_nil, whenI, h7, h8]]
           simp only [if_true]
           rcases must with _ | _
           · clear a d hj hM h7 h8
             obtain ⟨q0, q1, q2, q3, q4, q5, q6⟩ := k1.all7
             go_enter Tryz.func48, Tryz.ntmps48
             go_upto_region 1 with fail
             rw [HW1.out]
             go_wp2_with fail
             refine HC.out.mono ?_
             rintro e w2 ⟨rfl, hV2⟩
             have K := k1.of hV2
             have hX2 := hB1.trans (hV2.mono hs1)
             clear q0 q1 q2 q3 q4 q5 q6
             go_wp2_with fail
             refine (HP.out _).mono ?_
             rintro e w3 ⟨rfl, hV3⟩
             have hV23 := hV2.trans (hV3.mono hV2.size)
             have K := K.of hV3
             have hX3 := hB1.trans (hV23.mono hs1)
             go_wp2_with fail
             refine (HN.out _).mono ?_
             rintro e w4 ⟨rfl, hw4⟩
             subst hw4
             obtain ⟨u0, u1, u2, u3, u4, u5, u6⟩ := K.all7
             have HF3 := zI (HF.out w3 hV23)
             go_wp2_with fail
             refine HF3.out.mono ?_
             rintro e w5 ⟨rfl, hV5⟩
             have hV25 := hV23.trans (hV5.mono hV23.size)
             have K := K.of hV5
             have hX5 := hB1.trans (hV25.mono hs1)
             clear u0 u1 u2 u3 u4 u5 u6
             obtain ⟨b, off, hA, hbl, hcc⟩ := Rd.elem (n := 5) (fun _ => rfl) (by omega) (HG.out.below hV25).w_.rd HJ.out
             have d0 : w5.cell? ⟨b, off + j * 5, none⟩ = some (.string s.l_) := hcc 0 _ rfl
             have d1 : w5.cell? ⟨b, off + j * 5 + 1, none⟩ = some (.string s.m_) := hcc 1 _ rfl
             have d2 : w5.cell? ⟨b, off + j * 5 + 2, none⟩ = some (.slice s.p_.A s.p_.l.length s.p_.c) := hcc 2 _ rfl
             have d3 : w5.cell? ⟨b, off + j * 5 + 3, none⟩ = some (.slice s.n_.A s.n_.l.length s.n_.c) := hcc 3 _ rfl
             have d4 : w5.cell? ⟨b, off + j * 5 + 4, none⟩ = some (.slice s.j_.A s.j_.l.length s.j_.c) := hcc 4 _ rfl
             obtain ⟨u0, u1, u2, u3, u4, u5, u6⟩ := K.all7
             rw [hA] at u3
             have HSN := zI (refSnap_any s n w5 ((HG.out.below hV25).w_.el s (mG HJ.out)).f_)
             rw [HM.out] at HSN
             clear hcc hA
             go_wp2_with fail
             refine HSN.out.mono ?_
             rintro e w6 ⟨rfl, hV6⟩
             have hX6 := hX5.trans (hV6.mono hX5.size)
             clear u0 u1 u2 u3 u4 u5 u6 d0 d1 d2 d3 d4
             go_wp2
             refine bodyPost_ret (v := .tuple #[.int .i64 (j), .int .i64 (k), .int .i64 (0)]) (by simp [results, Tryz.results48, go_sem]) rfl ?_
             exact ⟨rfl, hX6⟩
           · clear a d hj hM h7 h8
             obtain ⟨q0, q1, q2, q3, q4, q5, q6⟩ := k1.all7
             go_enter Tryz.func48, Tryz.ntmps48
             go_upto_region 1 with fail
             rw [HW1.out]
             go_wp2_with fail
             refine HC.out.mono ?_
             rintro e w2 ⟨rfl, hV2⟩
             have K := k1.of hV2
             have hX2 := hB1.trans (hV2.mono hs1)
             clear q0 q1 q2 q3 q4 q5 q6
             go_wp2_with fail
             refine (HP.out _).mono ?_
             rintro e w3 ⟨rfl, hV3⟩
             have hV23 := hV2.trans (hV3.mono hV2.size)
             have K := K.of hV3
             have hX3 := hB1.trans (hV23.mono hs1)
             go_wp2_with fail
             refine (HN.out _).mono ?_
             rintro e w4 ⟨rfl, hw4⟩
             subst hw4
             obtain ⟨u0, u1, u2, u3, u4, u5, u6⟩ := K.all7
             have HF3 := zI (HF.out w3 hV23)
             go_wp2_with fail
             refine HF3.out.mono ?_
             rintro e w5 ⟨rfl, hV5⟩
             have hV25 := hV23.trans (hV5.mono hV23.size)
             have K := K.of hV5
             have hX5 := hB1.trans (hV25.mono hs1)
             clear u0 u1 u2 u3 u4 u5 u6
             obtain ⟨b, off, hA, hbl, hcc⟩ := Rd.elem (n := 5) (fun _ => rfl) (by omega) (HG.out.below hV25).w_.rd HJ.out
             have d0 : w5.cell? ⟨b, off + j * 5, none⟩ = some (.string s.l_) := hcc 0 _ rfl
             have d1 : w5.cell? ⟨b, off + j * 5 + 1, none⟩ = some (.string s.m_) := hcc 1 _ rfl
             have d2 : w5.cell? ⟨b, off + j * 5 + 2, none⟩ = some (.slice s.p_.A s.p_.l.length s.p_.c) := hcc 2 _ rfl
             have d3 : w5.cell? ⟨b, off + j * 5 + 3, none⟩ = some (.slice s.n_.A s.n_.l.length s.n_.c) := hcc 3 _ rfl
             have d4 : w5.cell? ⟨b, off + j * 5 + 4, none⟩ = some (.slice s.j_.A s.j_.l.length s.j_.c) := hcc 4 _ rfl
             obtain ⟨u0, u1, u2, u3, u4, u5, u6⟩ := K.all7
             rw [hA] at u3
             have HSN := zI (refSnap_any s n w5 ((HG.out.below hV25).w_.el s (mG HJ.out)).f_)
             rw [HM.out] at HSN
             clear hcc hA
             go_wp2_with fail
             refine HSN.out.mono ?_
             rintro e w6 ⟨rfl, hV6⟩
             have hX6 := hX5.trans (hV6.mono hX5.size)
             clear u0 u1 u2 u3 u4 u5 u6 d0 d1 d2 d3 d4
             go_wp2
             refine bodyPost_ret (v := .tuple #[.int .i64 (j), .int .i64 (k), .int .i64 (0)]) (by simp [results, Tryz.results48, go_sem]) rfl ?_
             exact ⟨rfl, hX6⟩
end Go.Proofs.YtimmcmjipmkebaaGreat
