/-
 The program’s areSets, Check. Conditions: the tenant is as it comes in.
-/
import Derived.Test.YtimmcmjipmkebaaGreatVTMG
import Derived.Test.YtimmcmjipmkebaaGreatVGRC
namespace Go.Proofs.YtimmcmjipmkebaaGreat
set_option maxHeartbeats 1000000
open Go.ChangeShapes Go.WideShapes Go.ChangeAt Go.RowKit
set_option maxRecDepth 100000
set_option linter.unusedSimpArgs false
theorem together1_any (x : MT_) (s : MSet) (B0 : Nat) (w : World) (hx : x.Good w) (hp : s.l_.size ≤ 140737488351232) (ho : s.m_.size ≤ 140737488351232) (hb : Blk w B0 27 x.cells) :
 Calls Tryz.prog 178 #[.agg s.cells.toArray, .pointer (some ⟨B0, 0, none⟩)] w fun e w' => e = .returned (.bool (upB x.plain s.l_ && origB x.plain s.plain)) ∧ Below w.heap.size w w' := by
 obtain ⟨w1, hw1⟩ : ∃ w1, w.alloc (.cells #[.string s.l_, .string s.m_, .slice s.p_.A s.p_.l.length s.p_.c, .slice s.n_.A s.n_.l.length s.n_.c, .slice s.j_.A s.j_.l.length s.j_.c] 52) = w1 := ⟨_, rfl⟩
 have hB1 : Below w.heap.size w w1 := hw1 ▸ (Below.refl _ w).alloc (Nat.le_refl _) _
 have k1 : Blk w1 w.heap.size 52 s.cells := hw1 ▸ Blk.new w _ _
 have H1 := zI (hasParent_any x s.l_ hp w1 (hx.below hB1))
 have H2 : Hid (∀ W, Below w1.heap.size w1 W → Calls Tryz.prog 180 #[.agg x.cells.toArray, .agg s.cells.toArray] W fun e w' => e = .returned (.bool (origB x.plain s.plain)) ∧ Below W.heap.size W w') := zI fun W hW => hasOrigin_any x s W (hx.below (hB1.trans (hW.mono hB1.size))) ho
 have hl := hb.lt
 obtain ⟨b1, hb1⟩ : ∃ b, upB x.plain s.l_ = b := ⟨_, rfl⟩
 obtain ⟨b2, hb2⟩ : ∃ b, origB x.plain s.plain = b := ⟨_, rfl⟩
 rw [hb1] at H1 ⊢
 rw [hb2] at H2 ⊢
 have HK := zI hb
 have HK1 := zI k1
 have HW1 := zI hw1
 have hs1 := hB1.size
 have q0 := k1.cell 0
 simp only [List.getElem?_cons_zero] at q0
 clear hb1 hb2 hw1 k1 hb hx
 go_enter Tryz.func178, Tryz.ntmps178
 go_upto_region 1 with fail
 rw [HW1.out]
 have z := (HK.out.below hB1 hl)
 have z0 := z.cell 0
 have z1 := z.cell 1
 have z2 := z.cell 2
 have z3 := z.cell 3
 have z4 := z.cell 4
 have z5 := z.cell 5
 have z6 := z.cell 6
 simp only [gZa, gZb] at z0 z1 z2 z3 z4 z5 z6
 clear z
 go_wp2_with fail
 refine H1.out.mono ?_
 rintro e w2 ⟨rfl, hB2⟩
 have hX2 : Below w.heap.size w w2 := hB1.trans (hB2.mono hs1)
 cases b1
 · go_wp2
   go_ret
   exact ⟨rfl, hX2⟩
 · have z := (HK.out.below hX2 hl)
   have y0 := z.cell 0
   have y1 := z.cell 1
   have y2 := z.cell 2
   have y3 := z.cell 3
   have y4 := z.cell 4
   have y5 := z.cell 5
   have y6 := z.cell 6
   simp only [gZa, gZb] at y0 y1 y2 y3 y4 y5 y6
   have y := (HK1.out.below hB2 HK1.out.lt)
   have v0 := y.cell 0
   have v1 := y.cell 1
   have v2 := y.cell 2
   have v3 := y.cell 3
   have v4 := y.cell 4
   simp only [gZa, gZb] at v0 v1 v2 v3 v4
   clear z y
   go_wp2_with fail
   refine (H2.out _ hB2).mono ?_
   rintro e w3 ⟨rfl, hB3⟩
   go_wp2
   go_ret
   exact ⟨rfl, hX2.trans (hB3.mono hX2.size)⟩
theorem areTogether_any (x : MT_) (w : World) (hx : x.Good w) :
 Calls Tryz.prog 143 #[.agg #[.string x.x_, .int .i64 x.r_, .int .i64 x.v_, .slice x.y_.A x.y_.l.length x.y_.c, .slice x.g_.A x.g_.l.length x.g_.c, .slice x.t_.A x.t_.l.length x.t_.c, .slice x.h_.A x.h_.l.length x.h_.c]] w fun e w' => e = .returned (.bool ((decide (0 ≤ findM x ByteArray.empty) && (x.y_.l.all fun s => upB x.plain s.l_ && origB x.plain s.plain)))) ∧ Below w.heap.size w w' := by
 obtain ⟨w1, hw1⟩ : ∃ w1, w.alloc (.cells #[.string x.x_, .int .i64 x.r_, .int .i64 x.v_, .slice x.y_.A x.y_.l.length x.y_.c, .slice x.g_.A x.g_.l.length x.g_.c, .slice x.t_.A x.t_.l.length x.t_.c, .slice x.h_.A x.h_.l.length x.h_.c] 27) = w1 := ⟨_, rfl⟩
 have hB1 : Below w.heap.size w w1 := hw1 ▸ (Below.refl _ w).alloc (Nat.le_refl _) _
 have k1 : Blk w1 w.heap.size 27 [.string x.x_, .int .i64 x.r_, .int .i64 x.v_, .slice x.y_.A x.y_.l.length x.y_.c, .slice x.g_.A x.g_.l.length x.g_.c, .slice x.t_.A x.t_.l.length x.t_.c, .slice x.h_.A x.h_.l.length x.h_.c] := hw1 ▸ Blk.new w _ _
 have hA : Below w.heap.size w w1 := hB1
 have H1 : Hid (∀ W, Below w1.heap.size w1 W → Calls Tryz.prog 58 #[.agg #[.string x.x_, .int .i64 x.r_, .int .i64 x.v_, .slice x.y_.A x.y_.l.length x.y_.c, .slice x.g_.A x.g_.l.length x.g_.c, .slice x.t_.A x.t_.l.length x.t_.c, .slice x.h_.A x.h_.l.length x.h_.c], .string ByteArray.empty] W fun e w' => e = .returned (.int .i64 (findM x ByteArray.empty)) ∧ Below W.heap.size W w') := zI fun W hW => find_any x _ W (hx.below (hA.trans (hW.mono hA.size)))
 have H2 : Hid (∀ W, Below w1.heap.size w1 W → Calls Tryz.prog 139 #[.slice x.y_.A x.y_.l.length x.y_.c, .func (.func 178) #[] #[.pointer (some ⟨w.heap.size, 0, none⟩)]] W fun e w' => e = .returned (.bool (x.y_.l.all fun s => upB x.plain s.l_ && origB x.plain s.plain)) ∧ Below W.heap.size W w') := zI fun W hW => every_Set (fun s => upB x.plain s.l_ && origB x.plain s.plain) _ #[.pointer (some ⟨w.heap.size, 0, none⟩)] (enters_of Tryz.func178 (by kernel_rfl) rfl) _ _ _ _ rfl W (fun W2 s hm hB => together1_any x s w.heap.size W2 (hx.below ((hA.trans (hW.mono hA.size)).trans (hB.mono (hA.trans (hW.mono hA.size)).size))) (hx.w_.el s hm).C_ (hx.w_.el s hm).gorigin_ ((k1.below hW k1.lt).below hB (Nat.lt_of_lt_of_le k1.lt hW.size))) (by have := hx.w_.len; omega) (hx.w_.rd.below (hA.trans (hW.mono hA.size)))
 obtain ⟨R, hR⟩ : ∃ R, (decide (0 ≤ findM x ByteArray.empty) && (x.y_.l.all fun s => upB x.plain s.l_ && origB x.plain s.plain)) = R := ⟨_, rfl⟩
 rw [hR]
 have HRR : Hid (R = ((decide (0 ≤ findM x ByteArray.empty)) && ((x.y_.l.all fun s => upB x.plain s.l_ && origB x.plain s.plain)))) := zI (hR.symm.trans (show (decide (0 ≤ findM x ByteArray.empty) && (x.y_.l.all fun s => upB x.plain s.l_ && origB x.plain s.plain)) = ((decide (0 ≤ findM x ByteArray.empty)) && ((x.y_.l.all fun s => upB x.plain s.l_ && origB x.plain s.plain))) from by rfl))
 clear hR
 obtain ⟨b1, hb1⟩ : ∃ b, (decide (0 ≤ findM x ByteArray.empty)) = b := ⟨_, rfl⟩
 rw [hb1] at HRR
 obtain ⟨b2, hb2⟩ : ∃ b, (x.y_.l.all fun s => upB x.plain s.l_ && origB x.plain s.plain) = b := ⟨_, rfl⟩
 rw [hb2] at HRR
 rw [hb2] at H2
 clear hb2
 have HW1 := zI hw1
 have HK1 := zI k1
 clear hw1 k1
 have hs0 := hA.size
 have hT0 : Below w1.heap.size w1 w1 := Below.refl _ _
 clear hx
 go_enter Tryz.func143, Tryz.ntmps143
 have z0 := (HK1.out.below hT0 HK1.out.lt).cell 0
 have z1 := (HK1.out.below hT0 HK1.out.lt).cell 1
 have z2 := (HK1.out.below hT0 HK1.out.lt).cell 2
 have z3 := (HK1.out.below hT0 HK1.out.lt).cell 3
 have z4 := (HK1.out.below hT0 HK1.out.lt).cell 4
 have z5 := (HK1.out.below hT0 HK1.out.lt).cell 5
 have z6 := (HK1.out.below hT0 HK1.out.lt).cell 6
 simp only [gZa, gZb] at z0 z1 z2 z3 z4 z5 z6
 go_wp2_with fail
 rw [HW1.out]
 try go_wp2_with fail
 refine (H1.out _ hT0).mono ?_
 rintro e v1 ⟨rfl, hV1⟩
 have hT1 : Below w1.heap.size w1 v1 := hT0.trans (hV1.mono hT0.size)
 have hX1 : Below w.heap.size w v1 := hA.trans (hT1.mono hs0)
 rcases b1 with _ | _
 · have hq : ¬ (0 : Int) ≤ findM x ByteArray.empty := of_decide_eq_false hb1
   go_wp2
   go_ret
   exact ⟨zaZ (by rw [HRR.out]; rfl), hX1⟩
 · have hq : (0 : Int) ≤ findM x ByteArray.empty := of_decide_eq_true hb1
   have z3 := (HK1.out.below hT1 HK1.out.lt).cell 3
   simp only [gZa, gZb] at z3
   go_wp2_with fail
   refine (H2.out _ hT1).mono ?_
   rintro e v2 ⟨rfl, hV2⟩
   have hT2 : Below w1.heap.size w1 v2 := hT1.trans (hV2.mono hT1.size)
   have hX2 : Below w.heap.size w v2 := hA.trans (hT2.mono hs0)
   rcases b2 with _ | _
   · skip
     go_wp2
     go_ret
     exact ⟨zaZ (by rw [HRR.out]; rfl), hX2⟩
   · skip
     go_wp2
     go_ret
     exact ⟨zaZ (by rw [HRR.out]; rfl), hX2⟩
theorem areSets_any (x : MT_) (w : World) (hx : x.Good w) :
 Calls Tryz.prog 88 #[.agg #[.string x.x_, .int .i64 x.r_, .int .i64 x.v_, .slice x.y_.A x.y_.l.length x.y_.c, .slice x.g_.A x.g_.l.length x.g_.c, .slice x.t_.A x.t_.l.length x.t_.c, .slice x.h_.A x.h_.l.length x.h_.c]] w fun e w' => e = .returned (.bool ((decide (x.y_.l.length ≤ 32) && ((x.y_.l.all fun s => setS s.plain) && (riseB (fun a b : MSet => ltTx a.l_ b.l_) x.y_.l && (decide (0 ≤ findM x ByteArray.empty) && (x.y_.l.all fun s => upB x.plain s.l_ && origB x.plain s.plain))))))) ∧ Below w.heap.size w w' := by
 obtain ⟨w1, hw1⟩ : ∃ w1, w.alloc (.cells #[.string x.x_, .int .i64 x.r_, .int .i64 x.v_, .slice x.y_.A x.y_.l.length x.y_.c, .slice x.g_.A x.g_.l.length x.g_.c, .slice x.t_.A x.t_.l.length x.t_.c, .slice x.h_.A x.h_.l.length x.h_.c] 27) = w1 := ⟨_, rfl⟩
 have hB1 : Below w.heap.size w w1 := hw1 ▸ (Below.refl _ w).alloc (Nat.le_refl _) _
 have k1 : Blk w1 w.heap.size 27 [.string x.x_, .int .i64 x.r_, .int .i64 x.v_, .slice x.y_.A x.y_.l.length x.y_.c, .slice x.g_.A x.g_.l.length x.g_.c, .slice x.t_.A x.t_.l.length x.t_.c, .slice x.h_.A x.h_.l.length x.h_.c] := hw1 ▸ Blk.new w _ _
 have hA : Below w.heap.size w w1 := hB1
 have H2 : Hid (∀ W, Below w1.heap.size w1 W → Calls Tryz.prog 139 #[.slice x.y_.A x.y_.l.length x.y_.c, .func (.func 140) #[] #[]] W fun e w' => e = .returned (.bool (x.y_.l.all fun s => setS s.plain)) ∧ Below W.heap.size W w') := zI fun W hW => every_Set (fun s => setS s.plain) _ #[] (enters_of Tryz.func140 (by kernel_rfl) rfl) _ _ _ _ rfl W (fun W2 s hm hB => isSet_any s W2 ((hx.w_.el s hm).below ((hA.trans (hW.mono hA.size)).trans (hB.mono (hA.trans (hW.mono hA.size)).size)))) (by have := hx.w_.len; omega) (hx.w_.rd.below (hA.trans (hW.mono hA.size)))
 have H3 : Hid (∀ W, Below w1.heap.size w1 W → Calls Tryz.prog 141 #[.slice x.y_.A x.y_.l.length x.y_.c, .func (.func 142) #[] #[]] W fun e w' => e = .returned (.bool (riseB (fun a b : MSet => ltTx a.l_ b.l_) x.y_.l)) ∧ Below W.heap.size W w') := zI fun W hW => rising_Set MSet.l_ _ #[] (enters_of Tryz.func142 (by kernel_rfl) rfl) _ _ _ _ rfl W (fun W2 y hB => pathOf_any y W2) (by have := hx.w_.len; omega) (hx.w_.rd.below (hA.trans (hW.mono hA.size)))
 have H4 : Hid (∀ W, Below w1.heap.size w1 W → Calls Tryz.prog 143 #[.agg #[.string x.x_, .int .i64 x.r_, .int .i64 x.v_, .slice x.y_.A x.y_.l.length x.y_.c, .slice x.g_.A x.g_.l.length x.g_.c, .slice x.t_.A x.t_.l.length x.t_.c, .slice x.h_.A x.h_.l.length x.h_.c]] W fun e w' => e = .returned (.bool (decide (0 ≤ findM x ByteArray.empty) && (x.y_.l.all fun s => upB x.plain s.l_ && origB x.plain s.plain))) ∧ Below W.heap.size W w') := zI fun W hW => areTogether_any x W (hx.below (hA.trans (hW.mono hA.size)))
 obtain ⟨R, hR⟩ : ∃ R, (decide (x.y_.l.length ≤ 32) && ((x.y_.l.all fun s => setS s.plain) && (riseB (fun a b : MSet => ltTx a.l_ b.l_) x.y_.l && (decide (0 ≤ findM x ByteArray.empty) && (x.y_.l.all fun s => upB x.plain s.l_ && origB x.plain s.plain))))) = R := ⟨_, rfl⟩
 rw [hR]
 have HRR : Hid (R = ((decide (x.y_.l.length ≤ 32)) && ((x.y_.l.all fun s => setS s.plain) && ((riseB (fun a b : MSet => ltTx a.l_ b.l_) x.y_.l) && ((decide (0 ≤ findM x ByteArray.empty) && (x.y_.l.all fun s => upB x.plain s.l_ && origB x.plain s.plain))))))) := zI (hR.symm.trans (show (decide (x.y_.l.length ≤ 32) && ((x.y_.l.all fun s => setS s.plain) && (riseB (fun a b : MSet => ltTx a.l_ b.l_) x.y_.l && (decide (0 ≤ findM x ByteArray.empty) && (x.y_.l.all fun s => upB x.plain s.l_ && origB x.plain s.plain))))) = ((decide (x.y_.l.length ≤ 32)) && ((x.y_.l.all fun s => setS s.plain) && ((riseB (fun a b : MSet => ltTx a.l_ b.l_) x.y_.l) && ((decide (0 ≤ findM x ByteArray.empty) && (x.y_.l.all fun s => upB x.plain s.l_ && origB x.plain s.plain)))))) from by rfl))
 clear hR
 obtain ⟨b1, hb1⟩ : ∃ b, (decide (x.y_.l.length ≤ 32)) = b := ⟨_, rfl⟩
 rw [hb1] at HRR
 obtain ⟨b2, hb2⟩ : ∃ b, (x.y_.l.all fun s => setS s.plain) = b := ⟨_, rfl⟩
 rw [hb2] at HRR
 rw [hb2] at H2
 clear hb2
 obtain ⟨b3, hb3⟩ : ∃ b, (riseB (fun a b : MSet => ltTx a.l_ b.l_) x.y_.l) = b := ⟨_, rfl⟩
 rw [hb3] at HRR
 rw [hb3] at H3
 clear hb3
 obtain ⟨b4, hb4⟩ : ∃ b, (decide (0 ≤ findM x ByteArray.empty) && (x.y_.l.all fun s => upB x.plain s.l_ && origB x.plain s.plain)) = b := ⟨_, rfl⟩
 rw [hb4] at HRR
 rw [hb4] at H4
 clear hb4
 have HW1 := zI hw1
 have HK1 := zI k1
 clear hw1 k1
 have hs0 := hA.size
 have hT0 : Below w1.heap.size w1 w1 := Below.refl _ _
 clear hx
 go_enter Tryz.func88, Tryz.ntmps88
 have z3 := (HK1.out.below hT0 HK1.out.lt).cell 3
 simp only [gZa, gZb] at z3
 go_upto_region 1 with fail
 rw [HW1.out]
 rcases b1 with _ | _
 · have ht : ¬ ((x.y_.l.length : Int) ≤ 32) := by have := of_decide_eq_false hb1; omega
   go_wp2
   go_ret
   exact ⟨zaZ (by rw [HRR.out]; rfl), (hA.trans (hT0.mono hs0))⟩
 · have ht : (x.y_.l.length : Int) ≤ 32 := by have := of_decide_eq_true hb1; omega
   have z3 := (HK1.out.below hT0 HK1.out.lt).cell 3
   simp only [gZa, gZb] at z3
   go_wp2_with fail
   refine (H2.out _ hT0).mono ?_
   rintro e v2 ⟨rfl, hV2⟩
   have hT2 : Below w1.heap.size w1 v2 := hT0.trans (hV2.mono hT0.size)
   have hX2 : Below w.heap.size w v2 := hA.trans (hT2.mono hs0)
   rcases b2 with _ | _
   · skip
     go_wp2
     go_ret
     exact ⟨zaZ (by rw [HRR.out]; rfl), hX2⟩
   · skip
     have z3 := (HK1.out.below hT2 HK1.out.lt).cell 3
     simp only [gZa, gZb] at z3
     go_wp2_with fail
     refine (H3.out _ hT2).mono ?_
     rintro e v3 ⟨rfl, hV3⟩
     have hT3 : Below w1.heap.size w1 v3 := hT2.trans (hV3.mono hT2.size)
     have hX3 : Below w.heap.size w v3 := hA.trans (hT3.mono hs0)
     rcases b3 with _ | _
     · skip
       go_wp2
       go_ret
       exact ⟨zaZ (by rw [HRR.out]; rfl), hX3⟩
     · skip
       have z0 := (HK1.out.below hT3 HK1.out.lt).cell 0
       have z1 := (HK1.out.below hT3 HK1.out.lt).cell 1
       have z2 := (HK1.out.below hT3 HK1.out.lt).cell 2
       have z3 := (HK1.out.below hT3 HK1.out.lt).cell 3
       have z4 := (HK1.out.below hT3 HK1.out.lt).cell 4
       have z5 := (HK1.out.below hT3 HK1.out.lt).cell 5
       have z6 := (HK1.out.below hT3 HK1.out.lt).cell 6
       simp only [gZa, gZb] at z0 z1 z2 z3 z4 z5 z6
       go_wp2_with fail
       refine (H4.out _ hT3).mono ?_
       rintro e v4 ⟨rfl, hV4⟩
       have hT4 : Below w1.heap.size w1 v4 := hT3.trans (hV4.mono hT3.size)
       have hX4 : Below w.heap.size w v4 := hA.trans (hT4.mono hs0)
       rcases b4 with _ | _
       · skip
         go_wp2
         go_ret
         exact ⟨zaZ (by rw [HRR.out]; rfl), hX4⟩
       · skip
         go_wp2
         go_ret
         exact ⟨zaZ (by rw [HRR.out]; rfl), hX4⟩
theorem riseB_map {α β : Type} (f : α → β) (lt : β → β → Bool) : ∀ l : List α, riseB lt (l.map f) = riseB (fun a b => lt (f a) (f b)) l
 | [] => rfl
 | [_] => rfl
 | a :: b :: l => by
  have := riseB_map f lt (b :: l)
  rw [List.map_cons] at this
  rw [List.map_cons, List.map_cons, riseB, riseB, this]
theorem all_two {α : Type} (p q : α → Bool) : ∀ l : List α, (l.all fun x => p x && q x) = (l.all p && l.all q)
 | [] => rfl
 | x :: l => by
  rw [List.all_cons, List.all_cons, List.all_cons, all_two p q l]
  simp only [Bool.and_assoc, Bool.and_comm, Bool.and_left_comm]
theorem setB_two (t : PT_) (s : PSet) : setB t s = (setS s && (upB t s.l_ && origB t s)) := by
 unfold setB setS
 simp only [Bool.and_assoc, Bool.and_comm, Bool.and_left_comm]
theorem grCheckS (X : Sl Gr) (w : World) (h : SlGood w grC goodGr 40 X) :
 Calls Tryz.prog 89 #[.slice X.A X.l.length X.c] w fun e w' => e = .returned (.int .i64 (if okG X.l then 0 else 9)) ∧ Below w.heap.size w w' :=
 grCheck_any X.A X.c X.l.length X.l rfl (by have := h.len; omega) (fun x hx => ⟨(h.el x hx).1, (h.el x hx).2.1⟩) w h.rd
theorem okT_prog (x : MT_) : okT x.plain = (zaQ (bs x.x_) && (amt 0 x.r_ && (amt 1 x.v_ && ((decide (x.y_.l.length ≤ 32) && ((x.y_.l.all fun s => setS s.plain) && (riseB (fun a b : MSet => ltTx a.l_ b.l_) x.y_.l && (decide (0 ≤ findM x ByteArray.empty) && (x.y_.l.all fun s => upB x.plain s.l_ && origB x.plain s.plain))))) && (okG x.g_.l && ((decide (x.t_.l.length ≤ 4) && ((x.t_.l.all fun x => zeZ x.plain) && riseB (fun a b : Mta => ltTx a.S_ b.S_) x.t_.l)) && (decide (x.h_.l.length ≤ 16) && (x.h_.l.all fun x => zfQ x.plain)))))))) := by
 have e1 : (x.y_.l.map MSet.plain).all (setB x.plain) = ((x.y_.l.all fun s => setS s.plain) && x.y_.l.all fun s => upB x.plain s.l_ && origB x.plain s.plain) := by
  rw [List.all_map, ← all_two]
  congr 1
  funext s
  exact setB_two x.plain s.plain
 have e2 : riseB ltPath (x.y_.l.map MSet.plain) = riseB (fun a b : MSet => ltTx a.l_ b.l_) x.y_.l := riseB_map _ _ _
 have e3 : (x.t_.l.map Mta.plain).all zeZ = x.t_.l.all fun x => zeZ x.plain := by rw [List.all_map]; rfl
 have e4 : riseB ltInto (x.t_.l.map Mta.plain) = riseB (fun a b : Mta => ltTx a.S_ b.S_) x.t_.l := riseB_map _ _ _
 have e5 : (x.h_.l.map ME_.plain).all zfQ = x.h_.l.all fun x => zfQ x.plain := by rw [List.all_map]; rfl
 unfold okT goodL
 rw [hasSet_find]
 rw [show x.plain.y_ = x.y_.l.map MSet.plain from rfl, show x.plain.t_ = x.t_.l.map Mta.plain from rfl, show x.plain.h_ = x.h_.l.map ME_.plain from rfl, e1, e2, e3, e4, e5]
 simp only [List.length_map, show x.plain.x_ = x.x_ from rfl, show x.plain.r_ = x.r_ from rfl, show x.plain.v_ = x.v_ from rfl, show x.plain.g_ = x.g_.l from rfl]
 simp only [Bool.and_assoc, Bool.and_comm, Bool.and_left_comm]
 try rfl
theorem ret_chk {a b : Int} (h : a = b) : Ending.returned (.int .i64 a) = .returned (.int .i64 b) := by rw [h]
theorem check_any14 (x : MT_) (w : World) (hx : x.Good w) :
 Calls Tryz.prog 42 #[.agg #[.string x.x_, .int .i64 x.r_, .int .i64 x.v_, .slice x.y_.A x.y_.l.length x.y_.c, .slice x.g_.A x.g_.l.length x.g_.c, .slice x.t_.A x.t_.l.length x.t_.c, .slice x.h_.A x.h_.l.length x.h_.c]] w fun e w' => e = .returned (.int .i64 (if (okT x.plain) = true then 0 else 9)) ∧ Below w.heap.size w w' := by
 obtain ⟨w1, hw1⟩ : ∃ w1, w.alloc (.cells #[.string x.x_, .int .i64 x.r_, .int .i64 x.v_, .slice x.y_.A x.y_.l.length x.y_.c, .slice x.g_.A x.g_.l.length x.g_.c, .slice x.t_.A x.t_.l.length x.t_.c, .slice x.h_.A x.h_.l.length x.h_.c] 27) = w1 := ⟨_, rfl⟩
 have hB1 : Below w.heap.size w w1 := hw1 ▸ (Below.refl _ w).alloc (Nat.le_refl _) _
 have k1 : Blk w1 w.heap.size 27 [.string x.x_, .int .i64 x.r_, .int .i64 x.v_, .slice x.y_.A x.y_.l.length x.y_.c, .slice x.g_.A x.g_.l.length x.g_.c, .slice x.t_.A x.t_.l.length x.t_.c, .slice x.h_.A x.h_.l.length x.h_.c] := hw1 ▸ Blk.new w _ _
 have hA : Below w.heap.size w w1 := hB1
 have H1 : Hid (∀ W, Below w1.heap.size w1 W → Calls Tryz.prog 45 #[.string x.x_] W fun e w' => e = .returned (.bool (zaQ (bs x.x_))) ∧ Below W.heap.size W w') := zI fun W hW => nameB _ W
 have H2 : Hid (∀ W, Below w1.heap.size w1 W → Calls Tryz.prog 86 #[.int .i64 x.r_] W fun e w' => e = .returned (.bool (amt 0 x.r_)) ∧ Below W.heap.size W w') := zI fun W hW => isAmount_any _ W
 have H3 : Hid (∀ W, Below w1.heap.size w1 W → Calls Tryz.prog 87 #[.int .i64 x.v_] W fun e w' => e = .returned (.bool (amt 1 x.v_)) ∧ Below W.heap.size W w') := zI fun W hW => isFrom1_any _ W
 have H4 : Hid (∀ W, Below w1.heap.size w1 W → Calls Tryz.prog 88 #[.agg #[.string x.x_, .int .i64 x.r_, .int .i64 x.v_, .slice x.y_.A x.y_.l.length x.y_.c, .slice x.g_.A x.g_.l.length x.g_.c, .slice x.t_.A x.t_.l.length x.t_.c, .slice x.h_.A x.h_.l.length x.h_.c]] W fun e w' => e = .returned (.bool ((decide (x.y_.l.length ≤ 32) && ((x.y_.l.all fun s => setS s.plain) && (riseB (fun a b : MSet => ltTx a.l_ b.l_) x.y_.l && (decide (0 ≤ findM x ByteArray.empty) && (x.y_.l.all fun s => upB x.plain s.l_ && origB x.plain s.plain))))))) ∧ Below W.heap.size W w') := zI fun W hW => areSets_any x W (hx.below (hA.trans (hW.mono hA.size)))
 have H5 : Hid (∀ W, Below w1.heap.size w1 W → Calls Tryz.prog 89 #[.slice x.g_.A x.g_.l.length x.g_.c] W fun e w' => e = .returned (.int .i64 (if (okG x.g_.l) then 0 else 9)) ∧ Below W.heap.size W w') := zI fun W hW => grCheckS _ W (hx.Q_.below (hA.trans (hW.mono hA.size)) fun _ h => h)
 have H6 : Hid (∀ W, Below w1.heap.size w1 W → Calls Tryz.prog 90 #[.slice x.t_.A x.t_.l.length x.t_.c] W fun e w' => e = .returned (.bool ((decide (x.t_.l.length ≤ 4) && ((x.t_.l.all fun x => zeZ x.plain) && riseB (fun a b : Mta => ltTx a.S_ b.S_) x.t_.l)))) ∧ Below W.heap.size W w') := zI fun W hW => areStages_any _ W (hx.B_.below (hA.trans (hW.mono hA.size)) fun _ h => h.below (hA.trans (hW.mono hA.size)))
 have H7 : Hid (∀ W, Below w1.heap.size w1 W → Calls Tryz.prog 91 #[.slice x.h_.A x.h_.l.length x.h_.c] W fun e w' => e = .returned (.bool ((decide (x.h_.l.length ≤ 16) && (x.h_.l.all fun x => zfQ x.plain)))) ∧ Below W.heap.size W w') := zI fun W hW => areEntries_any _ W (hx.glog_.below (hA.trans (hW.mono hA.size)) fun _ h => h.below (hA.trans (hW.mono hA.size)))
 obtain ⟨R, hR⟩ : ∃ R, okT x.plain = R := ⟨_, rfl⟩
 rw [hR]
 have HRR : Hid (R = ((zaQ (bs x.x_)) && ((amt 0 x.r_) && ((amt 1 x.v_) && (((decide (x.y_.l.length ≤ 32) && ((x.y_.l.all fun s => setS s.plain) && (riseB (fun a b : MSet => ltTx a.l_ b.l_) x.y_.l && (decide (0 ≤ findM x ByteArray.empty) && (x.y_.l.all fun s => upB x.plain s.l_ && origB x.plain s.plain)))))) && ((okG x.g_.l) && (((decide (x.t_.l.length ≤ 4) && ((x.t_.l.all fun x => zeZ x.plain) && riseB (fun a b : Mta => ltTx a.S_ b.S_) x.t_.l))) && (((decide (x.h_.l.length ≤ 16) && (x.h_.l.all fun x => zfQ x.plain))))))))))) := zI (hR.symm.trans (show okT x.plain = ((zaQ (bs x.x_)) && ((amt 0 x.r_) && ((amt 1 x.v_) && (((decide (x.y_.l.length ≤ 32) && ((x.y_.l.all fun s => setS s.plain) && (riseB (fun a b : MSet => ltTx a.l_ b.l_) x.y_.l && (decide (0 ≤ findM x ByteArray.empty) && (x.y_.l.all fun s => upB x.plain s.l_ && origB x.plain s.plain)))))) && ((okG x.g_.l) && (((decide (x.t_.l.length ≤ 4) && ((x.t_.l.all fun x => zeZ x.plain) && riseB (fun a b : Mta => ltTx a.S_ b.S_) x.t_.l))) && (((decide (x.h_.l.length ≤ 16) && (x.h_.l.all fun x => zfQ x.plain)))))))))) from by exact okT_prog x))
 obtain ⟨Q, hQ⟩ : ∃ Q : Int, (if R = true then 0 else 9) = Q := ⟨_, rfl⟩
 rw [hQ]
 have HQ := zI hQ
 clear hQ
 clear hR
 obtain ⟨b1, hb1⟩ : ∃ b, (zaQ (bs x.x_)) = b := ⟨_, rfl⟩
 rw [hb1] at HRR
 rw [hb1] at H1
 clear hb1
 obtain ⟨b2, hb2⟩ : ∃ b, (amt 0 x.r_) = b := ⟨_, rfl⟩
 rw [hb2] at HRR
 rw [hb2] at H2
 clear hb2
 obtain ⟨b3, hb3⟩ : ∃ b, (amt 1 x.v_) = b := ⟨_, rfl⟩
 rw [hb3] at HRR
 rw [hb3] at H3
 clear hb3
 obtain ⟨b4, hb4⟩ : ∃ b, ((decide (x.y_.l.length ≤ 32) && ((x.y_.l.all fun s => setS s.plain) && (riseB (fun a b : MSet => ltTx a.l_ b.l_) x.y_.l && (decide (0 ≤ findM x ByteArray.empty) && (x.y_.l.all fun s => upB x.plain s.l_ && origB x.plain s.plain)))))) = b := ⟨_, rfl⟩
 rw [hb4] at HRR
 rw [hb4] at H4
 clear hb4
 obtain ⟨b5, hb5⟩ : ∃ b, (okG x.g_.l) = b := ⟨_, rfl⟩
 rw [hb5] at HRR
 rw [hb5] at H5
 clear hb5
 obtain ⟨b6, hb6⟩ : ∃ b, ((decide (x.t_.l.length ≤ 4) && ((x.t_.l.all fun x => zeZ x.plain) && riseB (fun a b : Mta => ltTx a.S_ b.S_) x.t_.l))) = b := ⟨_, rfl⟩
 rw [hb6] at HRR
 rw [hb6] at H6
 clear hb6
 obtain ⟨b7, hb7⟩ : ∃ b, ((decide (x.h_.l.length ≤ 16) && (x.h_.l.all fun x => zfQ x.plain))) = b := ⟨_, rfl⟩
 rw [hb7] at HRR
 rw [hb7] at H7
 clear hb7
 have HW1 := zI hw1
 have HK1 := zI k1
 clear hw1 k1
 have hs0 := hA.size
 have hT0 : Below w1.heap.size w1 w1 := Below.refl _ _
 clear hx
 go_enter Tryz.func42, Tryz.ntmps42
 have z0 := (HK1.out.below hT0 HK1.out.lt).cell 0
 simp only [gZa, gZb] at z0
 go_wp2_with fail
 rw [HW1.out]
 try go_wp2_with fail
 refine (H1.out _ hT0).mono ?_
 rintro e v1 ⟨rfl, hV1⟩
 have hT1 : Below w1.heap.size w1 v1 := hT0.trans (hV1.mono hT0.size)
 have hX1 : Below w.heap.size w v1 := hA.trans (hT1.mono hs0)
 rcases b1 with _ | _
 · skip
   go_wp2
   go_ret
   exact ⟨ret_chk (by rw [← HQ.out, show R = false from by rw [HRR.out]; rfl]; rfl), hX1⟩
 · skip
   have z1 := (HK1.out.below hT1 HK1.out.lt).cell 1
   simp only [gZa, gZb] at z1
   go_wp2_with fail
   refine (H2.out _ hT1).mono ?_
   rintro e v2 ⟨rfl, hV2⟩
   have hT2 : Below w1.heap.size w1 v2 := hT1.trans (hV2.mono hT1.size)
   have hX2 : Below w.heap.size w v2 := hA.trans (hT2.mono hs0)
   rcases b2 with _ | _
   · skip
     go_wp2
     go_ret
     exact ⟨ret_chk (by rw [← HQ.out, show R = false from by rw [HRR.out]; rfl]; rfl), hX2⟩
   · skip
     have z2 := (HK1.out.below hT2 HK1.out.lt).cell 2
     simp only [gZa, gZb] at z2
     go_wp2_with fail
     refine (H3.out _ hT2).mono ?_
     rintro e v3 ⟨rfl, hV3⟩
     have hT3 : Below w1.heap.size w1 v3 := hT2.trans (hV3.mono hT2.size)
     have hX3 : Below w.heap.size w v3 := hA.trans (hT3.mono hs0)
     rcases b3 with _ | _
     · skip
       go_wp2
       go_ret
       exact ⟨ret_chk (by rw [← HQ.out, show R = false from by rw [HRR.out]; rfl]; rfl), hX3⟩
     · skip
       have z0 := (HK1.out.below hT3 HK1.out.lt).cell 0
       have z1 := (HK1.out.below hT3 HK1.out.lt).cell 1
       have z2 := (HK1.out.below hT3 HK1.out.lt).cell 2
       have z3 := (HK1.out.below hT3 HK1.out.lt).cell 3
       have z4 := (HK1.out.below hT3 HK1.out.lt).cell 4
       have z5 := (HK1.out.below hT3 HK1.out.lt).cell 5
       have z6 := (HK1.out.below hT3 HK1.out.lt).cell 6
       simp only [gZa, gZb] at z0 z1 z2 z3 z4 z5 z6
       go_wp2_with fail
       refine (H4.out _ hT3).mono ?_
       rintro e v4 ⟨rfl, hV4⟩
       have hT4 : Below w1.heap.size w1 v4 := hT3.trans (hV4.mono hT3.size)
       have hX4 : Below w.heap.size w v4 := hA.trans (hT4.mono hs0)
       rcases b4 with _ | _
       · skip
         go_wp2
         go_ret
         exact ⟨ret_chk (by rw [← HQ.out, show R = false from by rw [HRR.out]; rfl]; rfl), hX4⟩
       · skip
         have z4 := (HK1.out.below hT4 HK1.out.lt).cell 4
         simp only [gZa, gZb] at z4
         go_wp2_with fail
         refine (H5.out _ hT4).mono ?_
         rintro e v5 ⟨rfl, hV5⟩
         have hT5 : Below w1.heap.size w1 v5 := hT4.trans (hV5.mono hT4.size)
         have hX5 : Below w.heap.size w v5 := hA.trans (hT5.mono hs0)
         rcases b5 with _ | _
         · skip
           go_wp2
           go_ret
           exact ⟨ret_chk (by rw [← HQ.out, show R = false from by rw [HRR.out]; rfl]; rfl), hX5⟩
         · skip
           have z5 := (HK1.out.below hT5 HK1.out.lt).cell 5
           simp only [gZa, gZb] at z5
           go_wp2_with fail
           refine (H6.out _ hT5).mono ?_
           rintro e v6 ⟨rfl, hV6⟩
           have hT6 : Below w1.heap.size w1 v6 := hT5.trans (hV6.mono hT5.size)
           have hX6 : Below w.heap.size w v6 := hA.trans (hT6.mono hs0)
           rcases b6 with _ | _
           · skip
             go_wp2
             go_ret
             exact ⟨ret_chk (by rw [← HQ.out, show R = false from by rw [HRR.out]; rfl]; rfl), hX6⟩
           · skip
             have z6 := (HK1.out.below hT6 HK1.out.lt).cell 6
             simp only [gZa, gZb] at z6
             go_wp2_with fail
             refine (H7.out _ hT6).mono ?_
             rintro e v7 ⟨rfl, hV7⟩
             have hT7 : Below w1.heap.size w1 v7 := hT6.trans (hV7.mono hT6.size)
             have hX7 : Below w.heap.size w v7 := hA.trans (hT7.mono hs0)
             rcases b7 with _ | _
             · skip
               go_wp2
               go_ret
               exact ⟨ret_chk (by rw [← HQ.out, show R = false from by rw [HRR.out]; rfl]; rfl), hX7⟩
             · skip
               go_wp2
               go_ret
               exact ⟨ret_chk (by rw [← HQ.out, show R = true from by rw [HRR.out]; rfl]; rfl), hX7⟩
end Go.Proofs.YtimmcmjipmkebaaGreat
