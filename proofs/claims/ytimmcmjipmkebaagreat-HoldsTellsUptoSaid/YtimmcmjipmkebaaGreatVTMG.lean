/-
 The program’s hasParent, hasOrigin. Conditions: the tenant is as it comes in.
-/
import Derived.Test.YtimmcmjipmkebaaGreatVTMB
import Derived.Test.YtimmcmjipmkebaaGreatVNPS
namespace Go.Proofs.YtimmcmjipmkebaaGreat
set_option maxHeartbeats 2000000
open Go.ChangeShapes Go.WideShapes Go.ChangeAt Go.RowKit
set_option maxRecDepth 100000
set_option linter.unusedSimpArgs false
theorem find_ways {α : Type} (p : α → Bool) (l : List α) : (findI p l = -1 ∧ l.find? p = none) ∨ ∃ (j : Nat) (x : α), findI p l = j ∧ l[j]? = some x ∧ p x = true ∧ l.find? p = some x := by
 rcases findI_ways p l with ⟨h, hn⟩ | ⟨j, x, h, hx, hp, hn⟩
 · refine .inl ⟨h, List.find?_eq_none.2 fun x hx => ?_⟩
   rw [hn x hx]
   exact Bool.false_ne_true
 · refine .inr ⟨j, x, h, hx, hp, ?_⟩
   rw [List.find?_eq_some_iff_getElem]
   obtain ⟨hj, e⟩ := List.getElem?_eq_some_iff.1 hx
   refine ⟨hp, j, hj, e, fun i hi => ?_⟩
   rw [hn _ (List.mem_take_iff_getElem.2 ⟨i, by omega, rfl⟩)]
   rfl
theorem setAt_map (x : MT_) (p : ByteArray) : setAt x.plain p = (x.y_.l.find? fun s : MSet => decide (s.l_ = p)).map MSet.plain := by
 unfold setAt
 rw [show x.plain.y_ = x.y_.l.map MSet.plain from rfl, List.find?_map]
 rfl
theorem set_ways (x : MT_) (p : ByteArray) : (findM x p = -1 ∧ setAt x.plain p = none) ∨ ∃ (j : Nat) (y : MSet), findM x p = j ∧ x.y_.l[j]? = some y ∧ y.l_ = p ∧ setAt x.plain p = some y.plain := by
 rw [setAt_map]
 rcases find_ways (fun s : MSet => decide (s.l_ = p)) x.y_.l with ⟨h, h2⟩ | ⟨j, y, h, h1, hp, h2⟩
 · exact .inl ⟨h, by rw [h2]; rfl⟩
 · exact .inr ⟨j, y, h, h1, of_decide_eq_true hp, by rw [h2]; rfl⟩
theorem hasSet_find (x : MT_) (p : ByteArray) : hasSet x.plain p = decide (0 ≤ findM x p) := by
 unfold hasSet
 rcases set_ways x p with ⟨h, h2⟩ | ⟨j, y, h, _, _, h2⟩
 · rw [h, h2]
   rfl
 · rw [h, h2]
   exact (decide_eq_true (by omega)).symm
theorem hasSnap_find (y : MSet) (n : ByteArray) : zeQ y.plain n = decide (0 ≤ snapM y n) := by
 unfold snapM
 rw [findI_any]
 unfold zeQ
 rw [show y.plain.n_ = y.n_.l.map Mna.plain from rfl, List.any_map]
 rfl
theorem hasParent_any (x : MT_) (p : ByteArray) (hp : p.size ≤ 140737488351232) (w : World) (hx : x.Good w) :
 Calls Tryz.prog 179 #[.agg x.cells.toArray, .string p] w fun e w' => e = .returned (.bool (upB x.plain p)) ∧ Below w.heap.size w w' := by
 obtain ⟨w1, hw1⟩ : ∃ w1, w.alloc (.cells #[.string x.x_, .int .i64 x.r_, .int .i64 x.v_, .slice x.y_.A x.y_.l.length x.y_.c, .slice x.g_.A x.g_.l.length x.g_.c, .slice x.t_.A x.t_.l.length x.t_.c, .slice x.h_.A x.h_.l.length x.h_.c] 27) = w1 := ⟨_, rfl⟩
 have hB1 : Below w.heap.size w w1 := hw1 ▸ (Below.refl _ w).alloc (Nat.le_refl _) _
 have k1 : Blk w1 w.heap.size 27 x.cells := hw1 ▸ Blk.new w _ _
 have HF : Hid (∀ W, Below w1.heap.size w1 W → ∀ q, Calls Tryz.prog 58 #[.agg #[.string x.x_, .int .i64 x.r_, .int .i64 x.v_, .slice x.y_.A x.y_.l.length x.y_.c, .slice x.g_.A x.g_.l.length x.g_.c, .slice x.t_.A x.t_.l.length x.t_.c, .slice x.h_.A x.h_.l.length x.h_.c], .string q] W fun e w' => e = .returned (.int .i64 (findM x q)) ∧ Below W.heap.size W w') := zI fun W hW q => find_any x q W (hx.below (hB1.trans (hW.mono hB1.size)))
 have HP := zI (parent_any p hp w1)
 have HK1 := zI k1
 have HW1 := zI hw1
 have hs1 := hB1.size
 rcases hu : upP p with _ | u
 · have hv : parV p = .tuple #[.string ByteArray.empty, .bool false] := by unfold parV; rw [hu]
   rw [hv] at HP
   have hR : upB x.plain p = decide (p = ByteArray.empty) := by unfold upB; rw [hu]
   rw [hR]
   clear hv hR hu k1 hw1 hx HF
   by_cases he : p = ByteArray.empty
   · subst he
     rw [decide_eq_true rfl]
     go_enter Tryz.func179, Tryz.ntmps179
     go_upto_region 1 with fail
     rw [HW1.out]
     go_wp2_with fail
     refine HP.out.mono ?_
     rintro e w2 ⟨rfl, hB2⟩
     go_wp2
     go_ret
     exact ⟨rfl, hB1.trans (hB2.mono hs1)⟩
   · rw [decide_eq_false he]
     have he2 := isEmpty_no he
     go_enter Tryz.func179, Tryz.ntmps179
     go_upto_region 1 with fail
     rw [HW1.out]
     go_wp2_with fail
     refine HP.out.mono ?_
     rintro e w2 ⟨rfl, hB2⟩
     go_wp2
     go_ret
     exact ⟨rfl, hB1.trans (hB2.mono hs1)⟩
 · have hv : parV p = .tuple #[.string u, .bool true] := by unfold parV; rw [hu]
   rw [hv] at HP
   have he : p ≠ ByteArray.empty := by
    rintro rfl
    rw [(upP_none (by decide)).2 rfl] at hu
    cases hu
   have he2 := isEmpty_no he
   have hR : upB x.plain p = decide (0 ≤ findM x u) := by unfold upB; rw [hu]; exact hasSet_find x u
   obtain ⟨R, hRR⟩ : ∃ R, upB x.plain p = R := ⟨_, rfl⟩
   rw [hRR]
   rw [hRR] at hR
   have HN := zI hR
   have HFu : Hid (∀ W, Below w1.heap.size w1 W → Calls Tryz.prog 58 #[.agg #[.string x.x_, .int .i64 x.r_, .int .i64 x.v_, .slice x.y_.A x.y_.l.length x.y_.c, .slice x.g_.A x.g_.l.length x.g_.c, .slice x.t_.A x.t_.l.length x.t_.c, .slice x.h_.A x.h_.l.length x.h_.c], .string u] W fun e w' => e = .returned (.int .i64 (findM x u)) ∧ Below W.heap.size W w') := zI fun W hW => HF.out W hW u
   generalize findM x u = F at *
   clear hv hR hu k1 hw1 hx HF he hRR
   go_enter Tryz.func179, Tryz.ntmps179
   go_upto_region 1 with fail
   rw [HW1.out]
   go_wp2_with fail
   refine HP.out.mono ?_
   rintro e w2 ⟨rfl, hB2⟩
   have q0 := (HK1.out.below hB2 HK1.out.lt).cell 0
   have q1 := (HK1.out.below hB2 HK1.out.lt).cell 1
   have q2 := (HK1.out.below hB2 HK1.out.lt).cell 2
   have q3 := (HK1.out.below hB2 HK1.out.lt).cell 3
   have q4 := (HK1.out.below hB2 HK1.out.lt).cell 4
   have q5 := (HK1.out.below hB2 HK1.out.lt).cell 5
   have q6 := (HK1.out.below hB2 HK1.out.lt).cell 6
   simp only [gZa, gZb] at q0 q1 q2 q3 q4 q5 q6
   go_wp2_with fail
   refine (HFu.out w2 hB2).mono ?_
   rintro e w3 ⟨rfl, hB3⟩
   have hX : Below w.heap.size w w3 := hB1.trans ((hB2.trans (hB3.mono hB2.size)).mono hs1)
   go_wp2
   go_ret
   exact ⟨zaZ HN.out.symm, hX⟩
theorem hasOrigin_any (x : MT_) (s : MSet) (w : World) (hx : x.Good w) (hs : s.m_.size ≤ 140737488351232) :
 Calls Tryz.prog 180 #[.agg x.cells.toArray, .agg s.cells.toArray] w fun e w' => e = .returned (.bool (origB x.plain s.plain)) ∧ Below w.heap.size w w' := by
 obtain ⟨w1, hw1⟩ : ∃ w1, w.alloc (.cells #[.string x.x_, .int .i64 x.r_, .int .i64 x.v_, .slice x.y_.A x.y_.l.length x.y_.c, .slice x.g_.A x.g_.l.length x.g_.c, .slice x.t_.A x.t_.l.length x.t_.c, .slice x.h_.A x.h_.l.length x.h_.c] 27) = w1 := ⟨_, rfl⟩
 have hB1 : Below w.heap.size w w1 := hw1 ▸ (Below.refl _ w).alloc (Nat.le_refl _) _
 have k1 : Blk w1 w.heap.size 27 x.cells := hw1 ▸ Blk.new w _ _
 obtain ⟨w2, hw2⟩ : ∃ w2, w1.alloc (.cells #[.string s.l_, .string s.m_, .slice s.p_.A s.p_.l.length s.p_.c, .slice s.n_.A s.n_.l.length s.n_.c, .slice s.j_.A s.j_.l.length s.j_.c] 52) = w2 := ⟨_, rfl⟩
 have hB2 : Below w1.heap.size w1 w2 := hw2 ▸ (Below.refl _ w1).alloc (Nat.le_refl _) _
 have k2 : Blk w2 w1.heap.size 52 s.cells := hw2 ▸ Blk.new w1 _ _
 have k1 : Blk w2 w.heap.size 27 x.cells := k1.below hB2 k1.lt
 have hA : Below w.heap.size w w2 := hB1.trans (hB2.mono hB1.size)
 have HG : Hid (∀ W, Below w2.heap.size w2 W → x.Good W) := zI fun W hW => hx.below (hA.trans (hW.mono hA.size))
 have HF : Hid (∀ W, Below w2.heap.size w2 W → ∀ q, Calls Tryz.prog 58 #[.agg #[.string x.x_, .int .i64 x.r_, .int .i64 x.v_, .slice x.y_.A x.y_.l.length x.y_.c, .slice x.g_.A x.g_.l.length x.g_.c, .slice x.t_.A x.t_.l.length x.t_.c, .slice x.h_.A x.h_.l.length x.h_.c], .string q] W fun e w' => e = .returned (.int .i64 (findM x q)) ∧ Below W.heap.size W w') := zI fun W hW q => find_any x q W (HG.out W hW)
 have HP := zI (split_any s.m_ hs w2)
 have hX : w.heap.size + 1 = w1.heap.size := by rw [← hw1, World.size_alloc]
 have z1 := k2.cell 1
 simp only [gZa, gZb] at z1
 have HK1 := zI k1
 have HK2 := zI k2
 have HW1 := zI hw1
 have HW2 := zI hw2
 have hs2 := hA.size
 clear k1 k2 hw1 hw2 hx
 by_cases ho : s.m_ = ByteArray.empty
 · have hR : origB x.plain s.plain = true := by unfold origB; rw [show s.plain.m_ = s.m_ from rfl, ho]; simp
   have he : s.m_.toList.isEmpty = true := by rw [ho]; exact empty_isEmpty
   rw [hR]
   clear hR ho HF HP HG
   go_enter Tryz.func180, Tryz.ntmps180
   go_upto_region 1 with fail
   rw [HW1.out, HW2.out]
   go_wp2
   go_ret
   exact ⟨rfl, hA⟩
 · have he := isEmpty_no ho
   rcases hu : splitP s.m_ with _ | ⟨p, n⟩
   · have hv : splV s.m_ = .tuple #[.string ByteArray.empty, .string ByteArray.empty, .int .i64 31] := by unfold splV; rw [hu]
     rw [hv] at HP
     have hR : origB x.plain s.plain = false := by
      unfold origB
      rw [show s.plain.m_ = s.m_ from rfl, hu]
      simp [ho]
     rw [hR]
     clear hR ho hv hu HF HG
     go_enter Tryz.func180, Tryz.ntmps180
     go_upto_region 1 with fail
     rw [HW1.out, HW2.out]
     go_wp2_with fail
     refine HP.out.mono ?_
     rintro e w3 ⟨rfl, hB3⟩
     go_wp2
     go_ret
     exact ⟨rfl, hA.trans (hB3.mono hs2)⟩
   · have hv : splV s.m_ = .tuple #[.string p, .string n, .int .i64 0] := by unfold splV; rw [hu]
     rw [hv] at HP
     have hR : origB x.plain s.plain = (decide (p ≠ s.l_) && match setAt x.plain p with
      | none => false
      | some y => zeQ y n) := by
      unfold origB
      rw [show s.plain.m_ = s.m_ from rfl, hu]
      simp [ho]
      rfl
     by_cases hpp : p = s.l_
     · have hq : (p.toList == s.l_.toList) = true := by rw [beqS]; exact decide_eq_true hpp
       rw [hR, decide_eq_false (by simpa using hpp), Bool.false_and]
       clear hR ho hv hu HF HG hpp
       go_enter Tryz.func180, Tryz.ntmps180
       go_upto_region 1 with fail
       rw [HW1.out, HW2.out]
       go_wp2_with fail
       refine HP.out.mono ?_
       rintro e w3 ⟨rfl, hB3⟩
       have y0 := (HK2.out.below hB3 HK2.out.lt).cell 0
       simp only [List.getElem?_cons_zero] at y0
       go_wp2
       go_ret
       exact ⟨rfl, hA.trans (hB3.mono hs2)⟩
     · have hq : (p.toList == s.l_.toList) = false := by rw [beqS]; exact decide_eq_false hpp
       rw [decide_eq_true (show p ≠ s.l_ from hpp), Bool.true_and] at hR
       have HFu : Hid (∀ W, Below w2.heap.size w2 W → Calls Tryz.prog 58 #[.agg #[.string x.x_, .int .i64 x.r_, .int .i64 x.v_, .slice x.y_.A x.y_.l.length x.y_.c, .slice x.g_.A x.g_.l.length x.g_.c, .slice x.t_.A x.t_.l.length x.t_.c, .slice x.h_.A x.h_.l.length x.h_.c], .string p] W fun e w' => e = .returned (.int .i64 (findM x p)) ∧ Below W.heap.size W w') := zI fun W hW => HF.out W hW p
       rcases set_ways x p with ⟨hf, hs0⟩ | ⟨j, y, hf, hy, hyp, hs0⟩
       · rw [hs0] at hR
         rw [hR]
         rw [hf] at HFu
         clear hR ho hv hu HF HG hpp hf hs0
         go_enter Tryz.func180, Tryz.ntmps180
         go_upto_region 1 with fail
         rw [HW1.out, HW2.out]
         go_wp2_with fail
         refine HP.out.mono ?_
         rintro e w3 ⟨rfl, hB3⟩
         have y0 := (HK2.out.below hB3 HK2.out.lt).cell 0
         simp only [List.getElem?_cons_zero] at y0
         have q0 := (HK1.out.below hB3 HK1.out.lt).cell 0
         have q1 := (HK1.out.below hB3 HK1.out.lt).cell 1
         have q2 := (HK1.out.below hB3 HK1.out.lt).cell 2
         have q3 := (HK1.out.below hB3 HK1.out.lt).cell 3
         have q4 := (HK1.out.below hB3 HK1.out.lt).cell 4
         have q5 := (HK1.out.below hB3 HK1.out.lt).cell 5
         have q6 := (HK1.out.below hB3 HK1.out.lt).cell 6
         simp only [gZa, gZb] at q0 q1 q2 q3 q4 q5 q6
         go_wp2_with fail
         refine (HFu.out w3 hB3).mono ?_
         rintro e w4 ⟨rfl, hB4⟩
         have hX4 : Below w.heap.size w w4 := hA.trans ((hB3.trans (hB4.mono hB3.size)).mono hs2)
         go_wp2
         go_ret
         exact ⟨rfl, hX4⟩
       · rw [hs0] at hR
         simp only [hasSnap_find] at hR
         rw [hf] at HFu
         obtain ⟨R, hRR⟩ : ∃ R, origB x.plain s.plain = R := ⟨_, rfl⟩
         rw [hRR]
         rw [hRR] at hR
         have HN := zI hR
         have HY := zI hy
         have hjl : j < x.y_.l.length := (List.getElem?_eq_some_iff.1 hy).1
         clear hR ho hv hu HF hpp hf hs0 hRR hy hyp
         go_enter Tryz.func180, Tryz.ntmps180
         go_upto_region 1 with fail
         rw [HW1.out, HW2.out]
         go_wp2_with fail
         refine HP.out.mono ?_
         rintro e w3 ⟨rfl, hB3⟩
         have y0 := (HK2.out.below hB3 HK2.out.lt).cell 0
         simp only [List.getElem?_cons_zero] at y0
         have q0 := (HK1.out.below hB3 HK1.out.lt).cell 0
         have q1 := (HK1.out.below hB3 HK1.out.lt).cell 1
         have q2 := (HK1.out.below hB3 HK1.out.lt).cell 2
         have q3 := (HK1.out.below hB3 HK1.out.lt).cell 3
         have q4 := (HK1.out.below hB3 HK1.out.lt).cell 4
         have q5 := (HK1.out.below hB3 HK1.out.lt).cell 5
         have q6 := (HK1.out.below hB3 HK1.out.lt).cell 6
         simp only [gZa, gZb] at q0 q1 q2 q3 q4 q5 q6
         go_wp2_with fail
         refine (HFu.out w3 hB3).mono ?_
         rintro e w4 ⟨rfl, hB4⟩
         have hT4 : Below w2.heap.size w2 w4 := hB3.trans (hB4.mono hB3.size)
         have hX4 : Below w.heap.size w w4 := hA.trans (hT4.mono hs2)
         have r3 := (HK1.out.below hT4 HK1.out.lt).cell 3
         simp only [gZa, gZb] at r3
         have HG4 := HG.out w4 hT4
         have hlen := HG4.w_.len
         obtain ⟨b, off, hAq, hb, hc⟩ := Rd.elem (n := 5) (fun _ => rfl) (by omega) HG4.w_.rd HY.out
         have c0 : w4.cell? ⟨b, off + j * 5, none⟩ = some (.string y.l_) := hc 0 _ rfl
         have c1 : w4.cell? ⟨b, off + j * 5 + 1, none⟩ = some (.string y.m_) := hc 1 _ rfl
         have c2 : w4.cell? ⟨b, off + j * 5 + 2, none⟩ = some (.slice y.p_.A y.p_.l.length y.p_.c) := hc 2 _ rfl
         have c3 : w4.cell? ⟨b, off + j * 5 + 3, none⟩ = some (.slice y.n_.A y.n_.l.length y.n_.c) := hc 3 _ rfl
         have c4 : w4.cell? ⟨b, off + j * 5 + 4, none⟩ = some (.slice y.j_.A y.j_.l.length y.j_.c) := hc 4 _ rfl
         have HSN := zI (snap_any y n w4 (HG4.w_.el y (mG HY.out)).f_)
         generalize snapM y n = G at *
         rw [hAq] at r3
         have hj0 : (0 : Int) ≤ (j : Int) := by omega
         clear hc hAq HG4
         go_wp2_with fail
         refine HSN.out.mono ?_
         rintro e w5 ⟨rfl, hB5⟩
         have hX5 : Below w.heap.size w w5 := hX4.trans (hB5.mono hX4.size)
         go_wp2
         go_ret
         exact ⟨zaZ HN.out.symm, hX5⟩
theorem takeFilterM {α : Type} (q : α → Bool) {l : List α} {k : Nat} {x : α} (hx : l[k]? = some x) : (l.take (k + 1)).filter q = (l.take k).filter q ++ (if q x then [x] else []) := by
 rw [List.take_add_one, hx, List.filter_append]
 simp [List.filter_cons]
set_option maxHeartbeats 2000000 in
theorem paths_any (x : MT_) (gf : Nat) (lb : Array Value) (eg : Enters Tryz.prog gf) (q : MSet → Bool) (w : World) (hx : x.Good w)
 (hp : ∀ W y, y ∈ x.y_.l → Below w.heap.size w W → Calls Tryz.prog gf (#[.agg y.cells.toArray] ++ lb) W fun e W' => e = .returned (.bool (q y)) ∧ Below W.heap.size W W') :
 Calls Tryz.prog 107 #[.agg x.cells.toArray, .func (.func gf) #[] lb] w fun e w' => ∃ v, e = .returned v ∧ ownT w' w.heap.size v ((x.y_.l.filter q).map MSet.l_) ∧ Below w.heap.size w w' := by
 obtain ⟨xn, xq, xt, ⟨A, l, ca⟩, xg, xs, xl⟩ := x
 have hr := hx.w_.rd
 have hlen := hx.w_.len
 have hel := hx.w_.el
 dsimp only at hr hlen hel hp
 have eg' : ∀ args w, (callFunc gf args).run Tryz.prog w = .ok (.enter gf args) w := eg
 obtain ⟨w1, hw1⟩ : ∃ w1, w.alloc (.cells #[.string xn, .int .i64 xq, .int .i64 xt, .slice A l.length ca, .slice xg.A xg.l.length xg.c, .slice xs.A xs.l.length xs.c, .slice xl.A xl.l.length xl.c] 27) = w1 := ⟨_, rfl⟩
 have hB1 : Below w.heap.size w w1 := hw1 ▸ (Below.refl _ w).alloc (Nat.le_refl _) _
 have k1 : Blk w1 w.heap.size 27 [.string xn, .int .i64 xq, .int .i64 xt, .slice A l.length ca, .slice xg.A xg.l.length xg.c, .slice xs.A xs.l.length xs.c, .slice xl.A xl.l.length xl.c] := hw1 ▸ Blk.new w _ _
 have z3 := k1.cell 3
 simp only [gZa, gZb] at z3
 have HW1 := zI hw1
 have HPP := zI hp
 have HEL := zI hel
 have HRR := zI hr
 clear k1 hw1 hx hp hel hr
 go_enter Tryz.func107, Tryz.ntmps107
 go_upto_region 1 with fail
 rw [HW1.out]
 go_wp2
 go_loopw [5, 11] (fun v i W => ∃ (k : Nat) (o : List ByteArray), k ≤ l.length ∧ i = .int .i64 k ∧ o.length ≤ k ∧ Hid (o = ((l.take k).filter q).map MSet.l_) ∧ Hid (ownT W w.heap.size v o) ∧ Below w.heap.size w W) (fun _ i _ => l.length - (intOf i).toNat)
 case atStart => exact ⟨0, [], Nat.zero_le _, rfl, Nat.le_refl _, zI (by simp), zI (ownNone _ _ _ _), hB1⟩
 case round =>
  obtain ⟨k, o, hk, rfl, hol, HL, HO, hB⟩ := hrel
  obtain ⟨Av, cv, hv, _, _, _, _⟩ := ownAny HO.out
  subst hv
  by_cases hlt : k < l.length
  · obtain ⟨y, hy⟩ : ∃ y, l[k]? = some y := ⟨l[k], qZa hlt⟩
    obtain ⟨b, off, rfl, hb, hc⟩ := Rd.elem (n := 5) (fun _ => rfl) (by omega) (HRR.out.below hB) hy
    have c0 : wr.cell? ⟨b, off + k * 5, none⟩ = some (.string y.l_) := hc 0 _ rfl
    have c1 : wr.cell? ⟨b, off + k * 5 + 1, none⟩ = some (.string y.m_) := hc 1 _ rfl
    have c2 : wr.cell? ⟨b, off + k * 5 + 2, none⟩ = some (.slice y.p_.A y.p_.l.length y.p_.c) := hc 2 _ rfl
    have c3 : wr.cell? ⟨b, off + k * 5 + 3, none⟩ = some (.slice y.n_.A y.n_.l.length y.n_.c) := hc 3 _ rfl
    have c4 : wr.cell? ⟨b, off + k * 5 + 4, none⟩ = some (.slice y.j_.A y.j_.l.length y.j_.c) := hc 4 _ rfl
    obtain ⟨w2, hw2⟩ : ∃ w2, wr.alloc (.cells #[.string y.l_, .string y.m_, .slice y.p_.A y.p_.l.length y.p_.c, .slice y.n_.A y.n_.l.length y.n_.c, .slice y.j_.A y.j_.l.length y.j_.c] 52) = w2 := ⟨_, rfl⟩
    have hB2 : Below wr.heap.size wr w2 := hw2 ▸ (Below.refl _ wr).alloc (Nat.le_refl _) _
    have k2 : Blk w2 wr.heap.size 52 [.string y.l_, .string y.m_, .slice y.p_.A y.p_.l.length y.p_.c, .slice y.n_.A y.n_.l.length y.n_.c, .slice y.j_.A y.j_.l.length y.j_.c] := hw2 ▸ Blk.new wr _ _
    have HP := zI (HPP.out w2 y (mG hy) (hB.trans (hB2.mono hB.size)))
    have hps := (HEL.out y (mG hy)).C_
    have HK := zI k2
    have HW := zI hw2
    have HTK := zI (takeFilterM q hy)
    clear hc hy k2 hw2
    go_wp2_with fail
    rw [HW.out]
    first
     | refine HP.out.mono ?_
     | (go_wp2_with fail; refine HP.out.mono ?_)
    rintro e w3 ⟨rfl, hB3⟩
    have hB13 : Below wr.heap.size wr w3 := hB2.trans (hB3.mono hB2.size)
    have hX3 := hB.trans (hB13.mono hB.size)
    have y0 := (HK.out.below hB3 HK.out.lt).cell 0
    simp only [List.getElem?_cons_zero] at y0
    have HO3 := zI (zgQ HO.out hB13 (Nat.le_refl _))
    clear HP HW HK
    rcases hqq : q y with _ | _
    · have HL' : Hid (o = ((l.take (k + 1)).filter q).map MSet.l_) := zI (by
       rw [HTK.out, hqq, HL.out]
       simp)
      clear HTK hqq HL
      go_wp2
      go_roundw
      case rel => exact ⟨k + 1, o, by omega, by go_num, by omega, HL', HO3, hX3⟩
      case measure => simp [intOf]; omega
    · have HL' : Hid (o ++ [y.l_] = ((l.take (k + 1)).filter q).map MSet.l_) := zI (by rw [HTK.out, hqq, HL.out]; simp)
      have HC := zI (cloneS_any y.l_ (by omega) w3)
      clear HTK hqq HL
      go_wp2_with fail
      refine HC.out.mono ?_
      rintro e w4 ⟨rfl, hB4⟩
      have hX4 := hX3.trans (hB4.mono hX3.size)
      have HO4 := zI (zgQ HO3.out hB4 (Nat.le_refl _))
      have hs4 := hX4.size
      clear HC HO3
      go_wp2_with (at_builtin; refine wpAppT rfl rfl hX4 hs4 HO4.out rfl y.l_ rfl rfl (by omega) ?_; intro g6 c6 x6 HO6 HB6)
      go_roundw
      case rel => exact ⟨k + 1, o ++ [y.l_], by omega, by go_num, by simp; omega, HL', zI (by simpa using HO6.out), HB6.out⟩
      case measure => simp [intOf]; omega
  · have HL' : Hid (o = (l.filter q).map MSet.l_) := zI (by
     rw [HL.out, List.take_of_length_le (show l.length ≤ k by omega)])
    clear HL
    go_wp2
    go_ret
    rw [← HL'.out]
    exact ⟨_, rfl, HO.out, hB⟩
end Go.Proofs.YtimmcmjipmkebaaGreat
