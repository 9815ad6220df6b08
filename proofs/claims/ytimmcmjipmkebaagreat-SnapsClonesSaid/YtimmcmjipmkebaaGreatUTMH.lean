/-
  The program’s areSets, Check. Conditions: the tenant is as it comes in.
-/
import Derived.Test.YtimmcmjipmkebaaGreatUTMG
import Derived.Test.YtimmcmjipmkebaaGreatUGRC
import Derived.Test.YtimmcmjipmkebaaGreatUEVStage
import Derived.Test.YtimmcmjipmkebaaGreatURISnap
namespace Go.Proofs.YtimmcmjipmkebaaGreat
set_option maxHeartbeats 1000000
open Go.ChangeShapes Go.WideShapes Go.ChangeAt Go.RowKit
set_option maxRecDepth 100000
set_option linter.unusedSimpArgs false
theorem together1_any (x : MTenant) (s : MSet) (B0 : Nat) (w : World) (hx : x.Good w) (hp : s.path_.size ≤ 140737488351232) (ho : s.origin_.size ≤ 140737488351232) (hb : Blk w B0 27 x.cells) :
    Calls Tryz.prog 178 #[.agg s.cells.toArray, .pointer (some ⟨B0, 0, none⟩)] w fun e w' => e = .returned (.bool (upB x.plain s.path_ && origB x.plain s.plain)) ∧ Below w.heap.size w w' := by
  obtain ⟨w1, hw1⟩ : ∃ w1, w.alloc (.cells #[.string s.path_, .string s.origin_, .slice s.body_.A s.body_.l.length s.body_.c, .slice s.snaps_.A s.snaps_.l.length s.snaps_.c, .slice s.own_.A s.own_.l.length s.own_.c] 52) = w1 := ⟨_, rfl⟩
  have hB1 : Below w.heap.size w w1 := hw1 ▸ (Below.refl _ w).alloc (Nat.le_refl _) _
  have k1 : Blk w1 w.heap.size 52 s.cells := hw1 ▸ Blk.new w _ _
  have H1 := Lib.hid (hasParent_any x s.path_ hp w1 (hx.below hB1))
  have H2 : Hid (∀ W, Below w1.heap.size w1 W → Calls Tryz.prog 180 #[.agg x.cells.toArray, .agg s.cells.toArray] W fun e w' => e = .returned (.bool (origB x.plain s.plain)) ∧ Below W.heap.size W w') := Lib.hid fun W hW => hasOrigin_any x s W (hx.below (hB1.trans (hW.mono hB1.size))) ho
  have hl := hb.lt
  obtain ⟨b1, hb1⟩ : ∃ b, upB x.plain s.path_ = b := ⟨_, rfl⟩
  obtain ⟨b2, hb2⟩ : ∃ b, origB x.plain s.plain = b := ⟨_, rfl⟩
  rw [hb1] at H1 ⊢
  rw [hb2] at H2 ⊢
  have HK := Lib.hid hb
  have HK1 := Lib.hid k1
  have HW1 := Lib.hid hw1
  have hs1 := hB1.size
  have q0 := k1.cell 0
  simp only [List.getElem?_cons_zero] at q0
  clear hb1 hb2 hw1 k1 hb hx
  go_enter Tryz.func178, Tryz.ntmps178
  go_upto_region 1 with fail
  rw [HW1.out]
  have z := (HK.out.below hB1 hl)
  have z0 := z.cell 0
  have z1 := z.cell 1
  have z2 := z.cell 2
  have z3 := z.cell 3
  have z4 := z.cell 4
  have z5 := z.cell 5
  have z6 := z.cell 6
  simp only [gZa, gZb] at z0 z1 z2 z3 z4 z5 z6
  clear z
  go_wp2_with fail
  refine H1.out.mono ?_
  rintro e w2 ⟨rfl, hB2⟩
  have hX2 : Below w.heap.size w w2 := hB1.trans (hB2.mono hs1)
  cases b1
  · go_wp2
    go_ret
    exact ⟨rfl, hX2⟩
  · have z := (HK.out.below hX2 hl)
    have y0 := z.cell 0
    have y1 := z.cell 1
    have y2 := z.cell 2
    have y3 := z.cell 3
    have y4 := z.cell 4
    have y5 := z.cell 5
    have y6 := z.cell 6
    simp only [gZa, gZb] at y0 y1 y2 y3 y4 y5 y6
    have y := (HK1.out.below hB2 HK1.out.lt)
    have v0 := y.cell 0
    have v1 := y.cell 1
    have v2 := y.cell 2
    have v3 := y.cell 3
    have v4 := y.cell 4
    simp only [gZa, gZb] at v0 v1 v2 v3 v4
    clear z y
    go_wp2_with fail
    refine (H2.out _ hB2).mono ?_
    rintro e w3 ⟨rfl, hB3⟩
    go_wp2
    go_ret
    exact ⟨rfl, hX2.trans (hB3.mono hX2.size)⟩
theorem areTogether_any (x : MTenant) (w : World) (hx : x.Good w) :
    Calls Tryz.prog 143 #[.agg #[.string x.name_, .int .i64 x.quota_, .int .i64 x.next_, .slice x.sets_.A x.sets_.l.length x.sets_.c, .slice x.grants_.A x.grants_.l.length x.grants_.c, .slice x.stages_.A x.stages_.l.length x.stages_.c, .slice x.log_.A x.log_.l.length x.log_.c]] w fun e w' => e = .returned (.bool ((decide (0 ≤ findM x ByteArray.empty) && (x.sets_.l.all fun s => upB x.plain s.path_ && origB x.plain s.plain)))) ∧ Below w.heap.size w w' := by
  obtain ⟨w1, hw1⟩ : ∃ w1, w.alloc (.cells #[.string x.name_, .int .i64 x.quota_, .int .i64 x.next_, .slice x.sets_.A x.sets_.l.length x.sets_.c, .slice x.grants_.A x.grants_.l.length x.grants_.c, .slice x.stages_.A x.stages_.l.length x.stages_.c, .slice x.log_.A x.log_.l.length x.log_.c] 27) = w1 := ⟨_, rfl⟩
  have hB1 : Below w.heap.size w w1 := hw1 ▸ (Below.refl _ w).alloc (Nat.le_refl _) _
  have k1 : Blk w1 w.heap.size 27 [.string x.name_, .int .i64 x.quota_, .int .i64 x.next_, .slice x.sets_.A x.sets_.l.length x.sets_.c, .slice x.grants_.A x.grants_.l.length x.grants_.c, .slice x.stages_.A x.stages_.l.length x.stages_.c, .slice x.log_.A x.log_.l.length x.log_.c] := hw1 ▸ Blk.new w _ _
  have hA : Below w.heap.size w w1 := hB1
  have H1 : Hid (∀ W, Below w1.heap.size w1 W → Calls Tryz.prog 58 #[.agg #[.string x.name_, .int .i64 x.quota_, .int .i64 x.next_, .slice x.sets_.A x.sets_.l.length x.sets_.c, .slice x.grants_.A x.grants_.l.length x.grants_.c, .slice x.stages_.A x.stages_.l.length x.stages_.c, .slice x.log_.A x.log_.l.length x.log_.c], .string ByteArray.empty] W fun e w' => e = .returned (.int .i64 (findM x ByteArray.empty)) ∧ Below W.heap.size W w') := Lib.hid fun W hW => find_any x _ W (hx.below (hA.trans (hW.mono hA.size)))
  have H2 : Hid (∀ W, Below w1.heap.size w1 W → Calls Tryz.prog 139 #[.slice x.sets_.A x.sets_.l.length x.sets_.c, .func (.func 178) #[] #[.pointer (some ⟨w.heap.size, 0, none⟩)]] W fun e w' => e = .returned (.bool (x.sets_.l.all fun s => upB x.plain s.path_ && origB x.plain s.plain)) ∧ Below W.heap.size W w') := Lib.hid fun W hW => every_Set (fun s => upB x.plain s.path_ && origB x.plain s.plain) _ #[.pointer (some ⟨w.heap.size, 0, none⟩)] (enters_of Tryz.func178 (by kernel_rfl) rfl) _ _ _ _ rfl W (fun W2 s hm hB => together1_any x s w.heap.size W2 (hx.below ((hA.trans (hW.mono hA.size)).trans (hB.mono (hA.trans (hW.mono hA.size)).size))) (hx.gsets_.el s hm).gpath_ (hx.gsets_.el s hm).gorigin_ ((k1.below hW k1.lt).below hB (Nat.lt_of_lt_of_le k1.lt hW.size))) (by have := hx.gsets_.len; omega) (hx.gsets_.rd.below (hA.trans (hW.mono hA.size)))
  obtain ⟨R, hR⟩ : ∃ R, (decide (0 ≤ findM x ByteArray.empty) && (x.sets_.l.all fun s => upB x.plain s.path_ && origB x.plain s.plain)) = R := ⟨_, rfl⟩
  rw [hR]
  have HRR : Hid (R = ((decide (0 ≤ findM x ByteArray.empty)) && ((x.sets_.l.all fun s => upB x.plain s.path_ && origB x.plain s.plain)))) := Lib.hid (hR.symm.trans (show (decide (0 ≤ findM x ByteArray.empty) && (x.sets_.l.all fun s => upB x.plain s.path_ && origB x.plain s.plain)) = ((decide (0 ≤ findM x ByteArray.empty)) && ((x.sets_.l.all fun s => upB x.plain s.path_ && origB x.plain s.plain))) from by rfl))
  clear hR
  obtain ⟨b1, hb1⟩ : ∃ b, (decide (0 ≤ findM x ByteArray.empty)) = b := ⟨_, rfl⟩
  rw [hb1] at HRR
  obtain ⟨b2, hb2⟩ : ∃ b, (x.sets_.l.all fun s => upB x.plain s.path_ && origB x.plain s.plain) = b := ⟨_, rfl⟩
  rw [hb2] at HRR
  rw [hb2] at H2
  clear hb2
  have HW1 := Lib.hid hw1
  have HK1 := Lib.hid k1
  clear hw1 k1
  have hs0 := hA.size
  have hT0 : Below w1.heap.size w1 w1 := Below.refl _ _
  clear hx
  go_enter Tryz.func143, Tryz.ntmps143
  have z0 := (HK1.out.below hT0 HK1.out.lt).cell 0
  have z1 := (HK1.out.below hT0 HK1.out.lt).cell 1
  have z2 := (HK1.out.below hT0 HK1.out.lt).cell 2
  have z3 := (HK1.out.below hT0 HK1.out.lt).cell 3
  have z4 := (HK1.out.below hT0 HK1.out.lt).cell 4
  have z5 := (HK1.out.below hT0 HK1.out.lt).cell 5
  have z6 := (HK1.out.below hT0 HK1.out.lt).cell 6
  simp only [gZa, gZb] at z0 z1 z2 z3 z4 z5 z6
  go_wp2_with fail
  rw [HW1.out]
  try go_wp2_with fail
  refine (H1.out _ hT0).mono ?_
  rintro e v1 ⟨rfl, hV1⟩
  have hT1 : Below w1.heap.size w1 v1 := hT0.trans (hV1.mono hT0.size)
  have hX1 : Below w.heap.size w v1 := hA.trans (hT1.mono hs0)
  rcases b1 with _ | _
  · have hq : ¬ (0 : Int) ≤ findM x ByteArray.empty := of_decide_eq_false hb1
    go_wp2
    go_ret
    exact ⟨ret_bool (by rw [HRR.out]; rfl), hX1⟩
  · have hq : (0 : Int) ≤ findM x ByteArray.empty := of_decide_eq_true hb1
    have z3 := (HK1.out.below hT1 HK1.out.lt).cell 3
    simp only [gZa, gZb] at z3
    go_wp2_with fail
    refine (H2.out _ hT1).mono ?_
    rintro e v2 ⟨rfl, hV2⟩
    have hT2 : Below w1.heap.size w1 v2 := hT1.trans (hV2.mono hT1.size)
    have hX2 : Below w.heap.size w v2 := hA.trans (hT2.mono hs0)
    rcases b2 with _ | _
    · skip
      go_wp2
      go_ret
      exact ⟨ret_bool (by rw [HRR.out]; rfl), hX2⟩
    · skip
      go_wp2
      go_ret
      exact ⟨ret_bool (by rw [HRR.out]; rfl), hX2⟩
theorem areSets_any (x : MTenant) (w : World) (hx : x.Good w) :
    Calls Tryz.prog 88 #[.agg #[.string x.name_, .int .i64 x.quota_, .int .i64 x.next_, .slice x.sets_.A x.sets_.l.length x.sets_.c, .slice x.grants_.A x.grants_.l.length x.grants_.c, .slice x.stages_.A x.stages_.l.length x.stages_.c, .slice x.log_.A x.log_.l.length x.log_.c]] w fun e w' => e = .returned (.bool ((decide (x.sets_.l.length ≤ 32) && ((x.sets_.l.all fun s => setS s.plain) && (riseB (fun a b : MSet => ltTx a.path_ b.path_) x.sets_.l && (decide (0 ≤ findM x ByteArray.empty) && (x.sets_.l.all fun s => upB x.plain s.path_ && origB x.plain s.plain))))))) ∧ Below w.heap.size w w' := by
  obtain ⟨w1, hw1⟩ : ∃ w1, w.alloc (.cells #[.string x.name_, .int .i64 x.quota_, .int .i64 x.next_, .slice x.sets_.A x.sets_.l.length x.sets_.c, .slice x.grants_.A x.grants_.l.length x.grants_.c, .slice x.stages_.A x.stages_.l.length x.stages_.c, .slice x.log_.A x.log_.l.length x.log_.c] 27) = w1 := ⟨_, rfl⟩
  have hB1 : Below w.heap.size w w1 := hw1 ▸ (Below.refl _ w).alloc (Nat.le_refl _) _
  have k1 : Blk w1 w.heap.size 27 [.string x.name_, .int .i64 x.quota_, .int .i64 x.next_, .slice x.sets_.A x.sets_.l.length x.sets_.c, .slice x.grants_.A x.grants_.l.length x.grants_.c, .slice x.stages_.A x.stages_.l.length x.stages_.c, .slice x.log_.A x.log_.l.length x.log_.c] := hw1 ▸ Blk.new w _ _
  have hA : Below w.heap.size w w1 := hB1
  have H2 : Hid (∀ W, Below w1.heap.size w1 W → Calls Tryz.prog 139 #[.slice x.sets_.A x.sets_.l.length x.sets_.c, .func (.func 140) #[] #[]] W fun e w' => e = .returned (.bool (x.sets_.l.all fun s => setS s.plain)) ∧ Below W.heap.size W w') := Lib.hid fun W hW => every_Set (fun s => setS s.plain) _ #[] (enters_of Tryz.func140 (by kernel_rfl) rfl) _ _ _ _ rfl W (fun W2 s hm hB => isSet_any s W2 ((hx.gsets_.el s hm).below ((hA.trans (hW.mono hA.size)).trans (hB.mono (hA.trans (hW.mono hA.size)).size)))) (by have := hx.gsets_.len; omega) (hx.gsets_.rd.below (hA.trans (hW.mono hA.size)))
  have H3 : Hid (∀ W, Below w1.heap.size w1 W → Calls Tryz.prog 141 #[.slice x.sets_.A x.sets_.l.length x.sets_.c, .func (.func 142) #[] #[]] W fun e w' => e = .returned (.bool (riseB (fun a b : MSet => ltTx a.path_ b.path_) x.sets_.l)) ∧ Below W.heap.size W w') := Lib.hid fun W hW => rising_Set MSet.path_ _ #[] (enters_of Tryz.func142 (by kernel_rfl) rfl) _ _ _ _ rfl W (fun W2 y hB => pathOf_any y W2) (by have := hx.gsets_.len; omega) (hx.gsets_.rd.below (hA.trans (hW.mono hA.size)))
  have H4 : Hid (∀ W, Below w1.heap.size w1 W → Calls Tryz.prog 143 #[.agg #[.string x.name_, .int .i64 x.quota_, .int .i64 x.next_, .slice x.sets_.A x.sets_.l.length x.sets_.c, .slice x.grants_.A x.grants_.l.length x.grants_.c, .slice x.stages_.A x.stages_.l.length x.stages_.c, .slice x.log_.A x.log_.l.length x.log_.c]] W fun e w' => e = .returned (.bool (decide (0 ≤ findM x ByteArray.empty) && (x.sets_.l.all fun s => upB x.plain s.path_ && origB x.plain s.plain))) ∧ Below W.heap.size W w') := Lib.hid fun W hW => areTogether_any x W (hx.below (hA.trans (hW.mono hA.size)))
  obtain ⟨R, hR⟩ : ∃ R, (decide (x.sets_.l.length ≤ 32) && ((x.sets_.l.all fun s => setS s.plain) && (riseB (fun a b : MSet => ltTx a.path_ b.path_) x.sets_.l && (decide (0 ≤ findM x ByteArray.empty) && (x.sets_.l.all fun s => upB x.plain s.path_ && origB x.plain s.plain))))) = R := ⟨_, rfl⟩
  rw [hR]
  have HRR : Hid (R = ((decide (x.sets_.l.length ≤ 32)) && ((x.sets_.l.all fun s => setS s.plain) && ((riseB (fun a b : MSet => ltTx a.path_ b.path_) x.sets_.l) && ((decide (0 ≤ findM x ByteArray.empty) && (x.sets_.l.all fun s => upB x.plain s.path_ && origB x.plain s.plain))))))) := Lib.hid (hR.symm.trans (show (decide (x.sets_.l.length ≤ 32) && ((x.sets_.l.all fun s => setS s.plain) && (riseB (fun a b : MSet => ltTx a.path_ b.path_) x.sets_.l && (decide (0 ≤ findM x ByteArray.empty) && (x.sets_.l.all fun s => upB x.plain s.path_ && origB x.plain s.plain))))) = ((decide (x.sets_.l.length ≤ 32)) && ((x.sets_.l.all fun s => setS s.plain) && ((riseB (fun a b : MSet => ltTx a.path_ b.path_) x.sets_.l) && ((decide (0 ≤ findM x ByteArray.empty) && (x.sets_.l.all fun s => upB x.plain s.path_ && origB x.plain s.plain)))))) from by rfl))
  clear hR
  obtain ⟨b1, hb1⟩ : ∃ b, (decide (x.sets_.l.length ≤ 32)) = b := ⟨_, rfl⟩
  rw [hb1] at HRR
  obtain ⟨b2, hb2⟩ : ∃ b, (x.sets_.l.all fun s => setS s.plain) = b := ⟨_, rfl⟩
  rw [hb2] at HRR
  rw [hb2] at H2
  clear hb2
  obtain ⟨b3, hb3⟩ : ∃ b, (riseB (fun a b : MSet => ltTx a.path_ b.path_) x.sets_.l) = b := ⟨_, rfl⟩
  rw [hb3] at HRR
  rw [hb3] at H3
  clear hb3
  obtain ⟨b4, hb4⟩ : ∃ b, (decide (0 ≤ findM x ByteArray.empty) && (x.sets_.l.all fun s => upB x.plain s.path_ && origB x.plain s.plain)) = b := ⟨_, rfl⟩
  rw [hb4] at HRR
  rw [hb4] at H4
  clear hb4
  have HW1 := Lib.hid hw1
  have HK1 := Lib.hid k1
  clear hw1 k1
  have hs0 := hA.size
  have hT0 : Below w1.heap.size w1 w1 := Below.refl _ _
  clear hx
  go_enter Tryz.func88, Tryz.ntmps88
  have z3 := (HK1.out.below hT0 HK1.out.lt).cell 3
  simp only [gZa, gZb] at z3
  go_upto_region 1 with fail
  rw [HW1.out]
  rcases b1 with _ | _
  · have ht : ¬ ((x.sets_.l.length : Int) ≤ 32) := by have := of_decide_eq_false hb1; omega
    go_wp2
    go_ret
    exact ⟨ret_bool (by rw [HRR.out]; rfl), (hA.trans (hT0.mono hs0))⟩
  · have ht : (x.sets_.l.length : Int) ≤ 32 := by have := of_decide_eq_true hb1; omega
    have z3 := (HK1.out.below hT0 HK1.out.lt).cell 3
    simp only [gZa, gZb] at z3
    go_wp2_with fail
    refine (H2.out _ hT0).mono ?_
    rintro e v2 ⟨rfl, hV2⟩
    have hT2 : Below w1.heap.size w1 v2 := hT0.trans (hV2.mono hT0.size)
    have hX2 : Below w.heap.size w v2 := hA.trans (hT2.mono hs0)
    rcases b2 with _ | _
    · skip
      go_wp2
      go_ret
      exact ⟨ret_bool (by rw [HRR.out]; rfl), hX2⟩
    · skip
      have z3 := (HK1.out.below hT2 HK1.out.lt).cell 3
      simp only [gZa, gZb] at z3
      go_wp2_with fail
      refine (H3.out _ hT2).mono ?_
      rintro e v3 ⟨rfl, hV3⟩
      have hT3 : Below w1.heap.size w1 v3 := hT2.trans (hV3.mono hT2.size)
      have hX3 : Below w.heap.size w v3 := hA.trans (hT3.mono hs0)
      rcases b3 with _ | _
      · skip
        go_wp2
        go_ret
        exact ⟨ret_bool (by rw [HRR.out]; rfl), hX3⟩
      · skip
        have z0 := (HK1.out.below hT3 HK1.out.lt).cell 0
        have z1 := (HK1.out.below hT3 HK1.out.lt).cell 1
        have z2 := (HK1.out.below hT3 HK1.out.lt).cell 2
        have z3 := (HK1.out.below hT3 HK1.out.lt).cell 3
        have z4 := (HK1.out.below hT3 HK1.out.lt).cell 4
        have z5 := (HK1.out.below hT3 HK1.out.lt).cell 5
        have z6 := (HK1.out.below hT3 HK1.out.lt).cell 6
        simp only [gZa, gZb] at z0 z1 z2 z3 z4 z5 z6
        go_wp2_with fail
        refine (H4.out _ hT3).mono ?_
        rintro e v4 ⟨rfl, hV4⟩
        have hT4 : Below w1.heap.size w1 v4 := hT3.trans (hV4.mono hT3.size)
        have hX4 : Below w.heap.size w v4 := hA.trans (hT4.mono hs0)
        rcases b4 with _ | _
        · skip
          go_wp2
          go_ret
          exact ⟨ret_bool (by rw [HRR.out]; rfl), hX4⟩
        · skip
          go_wp2
          go_ret
          exact ⟨ret_bool (by rw [HRR.out]; rfl), hX4⟩
theorem riseB_map {α β : Type} (f : α → β) (lt : β → β → Bool) : ∀ l : List α, riseB lt (l.map f) = riseB (fun a b => lt (f a) (f b)) l
  | [] => rfl
  | [_] => rfl
  | a :: b :: l => by
    have := riseB_map f lt (b :: l)
    rw [List.map_cons] at this
    rw [List.map_cons, List.map_cons, riseB, riseB, this]
theorem all_two {α : Type} (p q : α → Bool) : ∀ l : List α, (l.all fun x => p x && q x) = (l.all p && l.all q)
  | [] => rfl
  | x :: l => by
    rw [List.all_cons, List.all_cons, List.all_cons, all_two p q l]
    simp only [Bool.and_assoc, Bool.and_comm, Bool.and_left_comm]
theorem setB_two (t : PTenant) (s : PSet) : setB t s = (setS s && (upB t s.path_ && origB t s)) := by
  unfold setB setS
  simp only [Bool.and_assoc, Bool.and_comm, Bool.and_left_comm]
theorem grCheckS (X : Sl Gr) (w : World) (h : SlGood w grC goodGr 40 X) :
    Calls Tryz.prog 89 #[.slice X.A X.l.length X.c] w fun e w' => e = .returned (.int .i64 (if okG X.l then 0 else 9)) ∧ Below w.heap.size w w' :=
  grCheck_any X.A X.c X.l.length X.l rfl (by have := h.len; omega) (fun x hx => ⟨(h.el x hx).1, (h.el x hx).2.1⟩) w h.rd
theorem okT_prog (x : MTenant) : okT x.plain = (isName (bs x.name_) && (amt 0 x.quota_ && (amt 1 x.next_ && ((decide (x.sets_.l.length ≤ 32) && ((x.sets_.l.all fun s => setS s.plain) && (riseB (fun a b : MSet => ltTx a.path_ b.path_) x.sets_.l && (decide (0 ≤ findM x ByteArray.empty) && (x.sets_.l.all fun s => upB x.plain s.path_ && origB x.plain s.plain))))) && (okG x.grants_.l && ((decide (x.stages_.l.length ≤ 4) && ((x.stages_.l.all fun x => stageB x.plain) && riseB (fun a b : MStage => ltTx a.into_ b.into_) x.stages_.l)) && (decide (x.log_.l.length ≤ 16) && (x.log_.l.all fun x => entryB x.plain)))))))) := by
  have e1 : (x.sets_.l.map MSet.plain).all (setB x.plain) = ((x.sets_.l.all fun s => setS s.plain) && x.sets_.l.all fun s => upB x.plain s.path_ && origB x.plain s.plain) := by
    rw [List.all_map, ← all_two]
    congr 1
    funext s
    exact setB_two x.plain s.plain
  have e2 : riseB ltPath (x.sets_.l.map MSet.plain) = riseB (fun a b : MSet => ltTx a.path_ b.path_) x.sets_.l := riseB_map _ _ _
  have e3 : (x.stages_.l.map MStage.plain).all stageB = x.stages_.l.all fun x => stageB x.plain := by rw [List.all_map]; rfl
  have e4 : riseB ltInto (x.stages_.l.map MStage.plain) = riseB (fun a b : MStage => ltTx a.into_ b.into_) x.stages_.l := riseB_map _ _ _
  have e5 : (x.log_.l.map MEntry.plain).all entryB = x.log_.l.all fun x => entryB x.plain := by rw [List.all_map]; rfl
  unfold okT goodL
  rw [hasSet_find]
  rw [show x.plain.sets_ = x.sets_.l.map MSet.plain from rfl, show x.plain.stages_ = x.stages_.l.map MStage.plain from rfl, show x.plain.log_ = x.log_.l.map MEntry.plain from rfl, e1, e2, e3, e4, e5]
  simp only [List.length_map, show x.plain.name_ = x.name_ from rfl, show x.plain.quota_ = x.quota_ from rfl, show x.plain.next_ = x.next_ from rfl, show x.plain.grants_ = x.grants_.l from rfl]
  simp only [Bool.and_assoc, Bool.and_comm, Bool.and_left_comm]
  try rfl
theorem ret_chk {a b : Int} (h : a = b) : Ending.returned (.int .i64 a) = .returned (.int .i64 b) := by rw [h]
theorem check_any14 (x : MTenant) (w : World) (hx : x.Good w) :
    Calls Tryz.prog 42 #[.agg #[.string x.name_, .int .i64 x.quota_, .int .i64 x.next_, .slice x.sets_.A x.sets_.l.length x.sets_.c, .slice x.grants_.A x.grants_.l.length x.grants_.c, .slice x.stages_.A x.stages_.l.length x.stages_.c, .slice x.log_.A x.log_.l.length x.log_.c]] w fun e w' => e = .returned (.int .i64 (if (okT x.plain) = true then 0 else 9)) ∧ Below w.heap.size w w' := by
  obtain ⟨w1, hw1⟩ : ∃ w1, w.alloc (.cells #[.string x.name_, .int .i64 x.quota_, .int .i64 x.next_, .slice x.sets_.A x.sets_.l.length x.sets_.c, .slice x.grants_.A x.grants_.l.length x.grants_.c, .slice x.stages_.A x.stages_.l.length x.stages_.c, .slice x.log_.A x.log_.l.length x.log_.c] 27) = w1 := ⟨_, rfl⟩
  have hB1 : Below w.heap.size w w1 := hw1 ▸ (Below.refl _ w).alloc (Nat.le_refl _) _
  have k1 : Blk w1 w.heap.size 27 [.string x.name_, .int .i64 x.quota_, .int .i64 x.next_, .slice x.sets_.A x.sets_.l.length x.sets_.c, .slice x.grants_.A x.grants_.l.length x.grants_.c, .slice x.stages_.A x.stages_.l.length x.stages_.c, .slice x.log_.A x.log_.l.length x.log_.c] := hw1 ▸ Blk.new w _ _
  have hA : Below w.heap.size w w1 := hB1
  have H1 : Hid (∀ W, Below w1.heap.size w1 W → Calls Tryz.prog 45 #[.string x.name_] W fun e w' => e = .returned (.bool (isName (bs x.name_))) ∧ Below W.heap.size W w') := Lib.hid fun W hW => nameB _ W
  have H2 : Hid (∀ W, Below w1.heap.size w1 W → Calls Tryz.prog 86 #[.int .i64 x.quota_] W fun e w' => e = .returned (.bool (amt 0 x.quota_)) ∧ Below W.heap.size W w') := Lib.hid fun W hW => isAmount_any _ W
  have H3 : Hid (∀ W, Below w1.heap.size w1 W → Calls Tryz.prog 87 #[.int .i64 x.next_] W fun e w' => e = .returned (.bool (amt 1 x.next_)) ∧ Below W.heap.size W w') := Lib.hid fun W hW => isFrom1_any _ W
  have H4 : Hid (∀ W, Below w1.heap.size w1 W → Calls Tryz.prog 88 #[.agg #[.string x.name_, .int .i64 x.quota_, .int .i64 x.next_, .slice x.sets_.A x.sets_.l.length x.sets_.c, .slice x.grants_.A x.grants_.l.length x.grants_.c, .slice x.stages_.A x.stages_.l.length x.stages_.c, .slice x.log_.A x.log_.l.length x.log_.c]] W fun e w' => e = .returned (.bool ((decide (x.sets_.l.length ≤ 32) && ((x.sets_.l.all fun s => setS s.plain) && (riseB (fun a b : MSet => ltTx a.path_ b.path_) x.sets_.l && (decide (0 ≤ findM x ByteArray.empty) && (x.sets_.l.all fun s => upB x.plain s.path_ && origB x.plain s.plain))))))) ∧ Below W.heap.size W w') := Lib.hid fun W hW => areSets_any x W (hx.below (hA.trans (hW.mono hA.size)))
  have H5 : Hid (∀ W, Below w1.heap.size w1 W → Calls Tryz.prog 89 #[.slice x.grants_.A x.grants_.l.length x.grants_.c] W fun e w' => e = .returned (.int .i64 (if (okG x.grants_.l) then 0 else 9)) ∧ Below W.heap.size W w') := Lib.hid fun W hW => grCheckS _ W (hx.ggrants_.below (hA.trans (hW.mono hA.size)) fun _ h => h)
  have H6 : Hid (∀ W, Below w1.heap.size w1 W → Calls Tryz.prog 90 #[.slice x.stages_.A x.stages_.l.length x.stages_.c] W fun e w' => e = .returned (.bool ((decide (x.stages_.l.length ≤ 4) && ((x.stages_.l.all fun x => stageB x.plain) && riseB (fun a b : MStage => ltTx a.into_ b.into_) x.stages_.l)))) ∧ Below W.heap.size W w') := Lib.hid fun W hW => areStages_any _ W (hx.gstages_.below (hA.trans (hW.mono hA.size)) fun _ h => h.below (hA.trans (hW.mono hA.size)))
  have H7 : Hid (∀ W, Below w1.heap.size w1 W → Calls Tryz.prog 91 #[.slice x.log_.A x.log_.l.length x.log_.c] W fun e w' => e = .returned (.bool ((decide (x.log_.l.length ≤ 16) && (x.log_.l.all fun x => entryB x.plain)))) ∧ Below W.heap.size W w') := Lib.hid fun W hW => areEntries_any _ W (hx.glog_.below (hA.trans (hW.mono hA.size)) fun _ h => h.below (hA.trans (hW.mono hA.size)))
  obtain ⟨R, hR⟩ : ∃ R, okT x.plain = R := ⟨_, rfl⟩
  rw [hR]
  have HRR : Hid (R = ((isName (bs x.name_)) && ((amt 0 x.quota_) && ((amt 1 x.next_) && (((decide (x.sets_.l.length ≤ 32) && ((x.sets_.l.all fun s => setS s.plain) && (riseB (fun a b : MSet => ltTx a.path_ b.path_) x.sets_.l && (decide (0 ≤ findM x ByteArray.empty) && (x.sets_.l.all fun s => upB x.plain s.path_ && origB x.plain s.plain)))))) && ((okG x.grants_.l) && (((decide (x.stages_.l.length ≤ 4) && ((x.stages_.l.all fun x => stageB x.plain) && riseB (fun a b : MStage => ltTx a.into_ b.into_) x.stages_.l))) && (((decide (x.log_.l.length ≤ 16) && (x.log_.l.all fun x => entryB x.plain))))))))))) := Lib.hid (hR.symm.trans (show okT x.plain = ((isName (bs x.name_)) && ((amt 0 x.quota_) && ((amt 1 x.next_) && (((decide (x.sets_.l.length ≤ 32) && ((x.sets_.l.all fun s => setS s.plain) && (riseB (fun a b : MSet => ltTx a.path_ b.path_) x.sets_.l && (decide (0 ≤ findM x ByteArray.empty) && (x.sets_.l.all fun s => upB x.plain s.path_ && origB x.plain s.plain)))))) && ((okG x.grants_.l) && (((decide (x.stages_.l.length ≤ 4) && ((x.stages_.l.all fun x => stageB x.plain) && riseB (fun a b : MStage => ltTx a.into_ b.into_) x.stages_.l))) && (((decide (x.log_.l.length ≤ 16) && (x.log_.l.all fun x => entryB x.plain)))))))))) from by exact okT_prog x))
  obtain ⟨Q, hQ⟩ : ∃ Q : Int, (if R = true then 0 else 9) = Q := ⟨_, rfl⟩
  rw [hQ]
  have HQ := Lib.hid hQ
  clear hQ
  clear hR
  obtain ⟨b1, hb1⟩ : ∃ b, (isName (bs x.name_)) = b := ⟨_, rfl⟩
  rw [hb1] at HRR
  rw [hb1] at H1
  clear hb1
  obtain ⟨b2, hb2⟩ : ∃ b, (amt 0 x.quota_) = b := ⟨_, rfl⟩
  rw [hb2] at HRR
  rw [hb2] at H2
  clear hb2
  obtain ⟨b3, hb3⟩ : ∃ b, (amt 1 x.next_) = b := ⟨_, rfl⟩
  rw [hb3] at HRR
  rw [hb3] at H3
  clear hb3
  obtain ⟨b4, hb4⟩ : ∃ b, ((decide (x.sets_.l.length ≤ 32) && ((x.sets_.l.all fun s => setS s.plain) && (riseB (fun a b : MSet => ltTx a.path_ b.path_) x.sets_.l && (decide (0 ≤ findM x ByteArray.empty) && (x.sets_.l.all fun s => upB x.plain s.path_ && origB x.plain s.plain)))))) = b := ⟨_, rfl⟩
  rw [hb4] at HRR
  rw [hb4] at H4
  clear hb4
  obtain ⟨b5, hb5⟩ : ∃ b, (okG x.grants_.l) = b := ⟨_, rfl⟩
  rw [hb5] at HRR
  rw [hb5] at H5
  clear hb5
  obtain ⟨b6, hb6⟩ : ∃ b, ((decide (x.stages_.l.length ≤ 4) && ((x.stages_.l.all fun x => stageB x.plain) && riseB (fun a b : MStage => ltTx a.into_ b.into_) x.stages_.l))) = b := ⟨_, rfl⟩
  rw [hb6] at HRR
  rw [hb6] at H6
  clear hb6
  obtain ⟨b7, hb7⟩ : ∃ b, ((decide (x.log_.l.length ≤ 16) && (x.log_.l.all fun x => entryB x.plain))) = b := ⟨_, rfl⟩
  rw [hb7] at HRR
  rw [hb7] at H7
  clear hb7
  have HW1 := Lib.hid hw1
  have HK1 := Lib.hid k1
  clear hw1 k1
  have hs0 := hA.size
  have hT0 : Below w1.heap.size w1 w1 := Below.refl _ _
  clear hx
  go_enter Tryz.func42, Tryz.ntmps42
  have z0 := (HK1.out.below hT0 HK1.out.lt).cell 0
  simp only [gZa, gZb] at z0
  go_wp2_with fail
  rw [HW1.out]
  try go_wp2_with fail
  refine (H1.out _ hT0).mono ?_
  rintro e v1 ⟨rfl, hV1⟩
  have hT1 : Below w1.heap.size w1 v1 := hT0.trans (hV1.mono hT0.size)
  have hX1 : Below w.heap.size w v1 := hA.trans (hT1.mono hs0)
  rcases b1 with _ | _
  · skip
    go_wp2
    go_ret
    exact ⟨ret_chk (by rw [← HQ.out, show R = false from by rw [HRR.out]; rfl]; rfl), hX1⟩
  · skip
    have z1 := (HK1.out.below hT1 HK1.out.lt).cell 1
    simp only [gZa, gZb] at z1
    go_wp2_with fail
    refine (H2.out _ hT1).mono ?_
    rintro e v2 ⟨rfl, hV2⟩
    have hT2 : Below w1.heap.size w1 v2 := hT1.trans (hV2.mono hT1.size)
    have hX2 : Below w.heap.size w v2 := hA.trans (hT2.mono hs0)
    rcases b2 with _ | _
    · skip
      go_wp2
      go_ret
      exact ⟨ret_chk (by rw [← HQ.out, show R = false from by rw [HRR.out]; rfl]; rfl), hX2⟩
    · skip
      have z2 := (HK1.out.below hT2 HK1.out.lt).cell 2
      simp only [gZa, gZb] at z2
      go_wp2_with fail
      refine (H3.out _ hT2).mono ?_
      rintro e v3 ⟨rfl, hV3⟩
      have hT3 : Below w1.heap.size w1 v3 := hT2.trans (hV3.mono hT2.size)
      have hX3 : Below w.heap.size w v3 := hA.trans (hT3.mono hs0)
      rcases b3 with _ | _
      · skip
        go_wp2
        go_ret
        exact ⟨ret_chk (by rw [← HQ.out, show R = false from by rw [HRR.out]; rfl]; rfl), hX3⟩
      · skip
        have z0 := (HK1.out.below hT3 HK1.out.lt).cell 0
        have z1 := (HK1.out.below hT3 HK1.out.lt).cell 1
        have z2 := (HK1.out.below hT3 HK1.out.lt).cell 2
        have z3 := (HK1.out.below hT3 HK1.out.lt).cell 3
        have z4 := (HK1.out.below hT3 HK1.out.lt).cell 4
        have z5 := (HK1.out.below hT3 HK1.out.lt).cell 5
        have z6 := (HK1.out.below hT3 HK1.out.lt).cell 6
        simp only [gZa, gZb] at z0 z1 z2 z3 z4 z5 z6
        go_wp2_with fail
        refine (H4.out _ hT3).mono ?_
        rintro e v4 ⟨rfl, hV4⟩
        have hT4 : Below w1.heap.size w1 v4 := hT3.trans (hV4.mono hT3.size)
        have hX4 : Below w.heap.size w v4 := hA.trans (hT4.mono hs0)
        rcases b4 with _ | _
        · skip
          go_wp2
          go_ret
          exact ⟨ret_chk (by rw [← HQ.out, show R = false from by rw [HRR.out]; rfl]; rfl), hX4⟩
        · skip
          have z4 := (HK1.out.below hT4 HK1.out.lt).cell 4
          simp only [gZa, gZb] at z4
          go_wp2_with fail
          refine (H5.out _ hT4).mono ?_
          rintro e v5 ⟨rfl, hV5⟩
          have hT5 : Below w1.heap.size w1 v5 := hT4.trans (hV5.mono hT4.size)
          have hX5 : Below w.heap.size w v5 := hA.trans (hT5.mono hs0)
          rcases b5 with _ | _
          · skip
            go_wp2
            go_ret
            exact ⟨ret_chk (by rw [← HQ.out, show R = false from by rw [HRR.out]; rfl]; rfl), hX5⟩
          · skip
            have z5 := (HK1.out.below hT5 HK1.out.lt).cell 5
            simp only [gZa, gZb] at z5
            go_wp2_with fail
            refine (H6.out _ hT5).mono ?_
            rintro e v6 ⟨rfl, hV6⟩
            have hT6 : Below w1.heap.size w1 v6 := hT5.trans (hV6.mono hT5.size)
            have hX6 : Below w.heap.size w v6 := hA.trans (hT6.mono hs0)
            rcases b6 with _ | _
            · skip
              go_wp2
              go_ret
              exact ⟨ret_chk (by rw [← HQ.out, show R = false from by rw [HRR.out]; rfl]; rfl), hX6⟩
            · skip
              have z6 := (HK1.out.below hT6 HK1.out.lt).cell 6
              simp only [gZa, gZb] at z6
              go_wp2_with fail
              refine (H7.out _ hT6).mono ?_
              rintro e v7 ⟨rfl, hV7⟩
              have hT7 : Below w1.heap.size w1 v7 := hT6.trans (hV7.mono hT6.size)
              have hX7 : Below w.heap.size w v7 := hA.trans (hT7.mono hs0)
              rcases b7 with _ | _
              · skip
                go_wp2
                go_ret
                exact ⟨ret_chk (by rw [← HQ.out, show R = false from by rw [HRR.out]; rfl]; rfl), hX7⟩
              · skip
                go_wp2
                go_ret
                exact ⟨ret_chk (by rw [← HQ.out, show R = true from by rw [HRR.out]; rfl]; rfl), hX7⟩
end Go.Proofs.YtimmcmjipmkebaaGreat
