/-
  shape: refused, place; the reference’s asked, room. Conditions: the tenant is as it comes in.
-/
import Derived.Test.YtimmcmjipmkebaaGreatRHLB
import Derived.Test.YtimmcmjipmkebaaGreatRTMH
import Derived.Test.YtimmcmjipmkebaaGreatRTMD
import Derived.Test.YtimmcmjipmkebaaGreatRNPS
import Derived.Test.YtimmcmjipmkebaaGreatRRPP
import Derived.Test.YtimmcmjipmkebaaGreatRTMG
import Derived.Test.YtimmcmjipmkebaaGreatREVStage
namespace Go.Proofs.YtimmcmjipmkebaaGreat
open Go.ChangeShapes Go.WideShapes Go.ChangeAt Go.RowKit
set_option maxRecDepth 100000
set_option linter.unusedSimpArgs false
theorem refused_any (x : MTenant) (p : ByteArray) (hp : p.size ≤ 9223372036854775807) (w : World) (hx : x.Good w) :
    Calls Tryz.prog 131 #[.agg x.cells.toArray, .string p] w fun e w' => e = .returned (.int .i64 (askE x.plain p)) ∧ Below w.heap.size w w' := by
  obtain ⟨a1, hw1⟩ : ∃ a1, w.alloc (.cells #[.string x.name_, .int .i64 x.quota_, .int .i64 x.next_, .slice x.sets_.A x.sets_.l.length x.sets_.c, .slice x.grants_.A x.grants_.l.length x.grants_.c, .slice x.stages_.A x.stages_.l.length x.stages_.c, .slice x.log_.A x.log_.l.length x.log_.c] 27) = a1 := ⟨_, rfl⟩
  have b1 : Below w.heap.size w a1 := hw1 ▸ (Below.refl _ w).alloc (Nat.le_refl _) _
  have k1 : Blk a1 w.heap.size 27 [.string x.name_, .int .i64 x.quota_, .int .i64 x.next_, .slice x.sets_.A x.sets_.l.length x.sets_.c, .slice x.grants_.A x.grants_.l.length x.grants_.c, .slice x.stages_.A x.stages_.l.length x.stages_.c, .slice x.log_.A x.log_.l.length x.log_.c] := hw1 ▸ Blk.new w _ _
  have hB1 : Below w.heap.size w a1 := b1
  have hs1 := hB1.size
  have HW1 := Lib.hid hw1
  clear hw1 b1
  obtain ⟨q0, q1, q2, q3, q4, q5, q6⟩ := k1.all7
  have HC := Lib.hid (check_any14 x a1 (hx.below hB1))
  have HP := Lib.hid (fun W => path_is (isPath (bs p)) p rfl hp W)
  unfold askE
  rcases hk : okT x.plain with _ | _
  · rw [hk, if_neg (by decide)] at HC
    rw [if_pos rfl]
    clear hk hx
    go_enter Tryz.func131, Tryz.ntmps131
    go_upto_region 1 with fail
    rw [HW1.out]
    go_wp2_with fail
    refine HC.out.mono ?_
    rintro e w3 ⟨rfl, hV⟩
    go_wp2
    go_ret
    exact ⟨rfl, hB1.trans (hV.mono hs1)⟩
  · rw [hk, if_pos rfl] at HC
    rw [if_neg (by decide)]
    rcases hi : isPath (bs p) with _ | _
    · rw [hi] at HP
      rw [if_pos rfl]
      clear hk hx hi
      go_enter Tryz.func131, Tryz.ntmps131
      go_upto_region 1 with fail
      rw [HW1.out]
      go_wp2_with fail
      refine HC.out.mono ?_
      rintro e w3 ⟨rfl, hV⟩
      go_wp2_with fail
      refine (HP.out _).mono ?_
      rintro e w4 ⟨rfl, hV2⟩
      go_wp2
      go_ret
      exact ⟨rfl, hB1.trans ((hV.trans (hV2.mono hV.size)).mono hs1)⟩
    · rw [hi] at HP
      rw [if_neg (by decide)]
      clear hk hx hi
      go_enter Tryz.func131, Tryz.ntmps131
      go_upto_region 1 with fail
      rw [HW1.out]
      go_wp2_with fail
      refine HC.out.mono ?_
      rintro e w3 ⟨rfl, hV⟩
      go_wp2_with fail
      refine (HP.out _).mono ?_
      rintro e w4 ⟨rfl, hV2⟩
      go_wp2
      go_ret
      exact ⟨rfl, hB1.trans ((hV.trans (hV2.mono hV.size)).mono hs1)⟩
def placeE (t : PTenant) (p : ByteArray) : Int := if askE t p ≠ 0 then askE t p else if hasSet t p = true then 0 else 71
def placeI (x : MTenant) (p : ByteArray) : Int := if placeE x.plain p ≠ 0 then 0 else findM x p
set_option maxHeartbeats 1000000 in
theorem place_any (x : MTenant) (p : ByteArray) (hp : p.size ≤ 9223372036854775807) (w : World) (hx : x.Good w) :
    Calls Tryz.prog 82 #[.agg x.cells.toArray, .string p] w fun e w' => e = .returned (.tuple #[.int .i64 (placeI x p), .int .i64 (placeE x.plain p)]) ∧ Below w.heap.size w w' := by
  obtain ⟨a1, hw1⟩ : ∃ a1, w.alloc (.cells #[.string x.name_, .int .i64 x.quota_, .int .i64 x.next_, .slice x.sets_.A x.sets_.l.length x.sets_.c, .slice x.grants_.A x.grants_.l.length x.grants_.c, .slice x.stages_.A x.stages_.l.length x.stages_.c, .slice x.log_.A x.log_.l.length x.log_.c] 27) = a1 := ⟨_, rfl⟩
  have b1 : Below w.heap.size w a1 := hw1 ▸ (Below.refl _ w).alloc (Nat.le_refl _) _
  have k1 : Blk a1 w.heap.size 27 [.string x.name_, .int .i64 x.quota_, .int .i64 x.next_, .slice x.sets_.A x.sets_.l.length x.sets_.c, .slice x.grants_.A x.grants_.l.length x.grants_.c, .slice x.stages_.A x.stages_.l.length x.stages_.c, .slice x.log_.A x.log_.l.length x.log_.c] := hw1 ▸ Blk.new w _ _
  have hB1 : Below w.heap.size w a1 := b1
  have hs1 := hB1.size
  have HW1 := Lib.hid hw1
  clear hw1 b1
  obtain ⟨q0, q1, q2, q3, q4, q5, q6⟩ := k1.all7
  have HC := Lib.hid (refused_any x p hp a1 (hx.below hB1))
  have HF := Lib.hid (fun W (hW : Below a1.heap.size a1 W) => find_any x p W ((hx.below hB1).below hW))
  have hh := hasSet_find x p
  by_cases hk : askE x.plain p ≠ 0
  · have h1 : placeE x.plain p = askE x.plain p := if_pos hk
    have h2 : placeI x p = 0 := if_pos (by rw [h1]; exact hk)
    rw [h1, h2]
    generalize askE x.plain p = E at *
    clear h1 h2 hx hh
    go_enter Tryz.func82, Tryz.ntmps82
    go_upto_region 1 with fail
    rw [HW1.out]
    go_wp2_with fail
    refine HC.out.mono ?_
    rintro e w3 ⟨rfl, hV⟩
    go_wp2
    exact bodyPost_ret (v := .tuple #[.int .i64 0, .int .i64 E]) (by simp [results, Tryz.results82, go_sem]) rfl ⟨rfl, hB1.trans (hV.mono hs1)⟩
  · have hk0 : askE x.plain p = 0 := Classical.not_not.1 hk
    rw [hk0] at HC
    obtain ⟨F, hF⟩ : ∃ F, findM x p = F := ⟨_, rfl⟩
    rw [hF] at hh HF
    by_cases h0 : 0 ≤ F
    · have h1 : placeE x.plain p = 0 := by unfold placeE; rw [if_neg hk, if_pos (by rw [hh]; exact decide_eq_true h0)]
      have h2 : placeI x p = F := by unfold placeI; rw [if_neg (by rw [h1]; decide), hF]
      rw [h1, h2]
      clear h1 h2 hk hk0 hF hh hx
      go_enter Tryz.func82, Tryz.ntmps82
      go_upto_region 1 with fail
      rw [HW1.out]
      go_wp2_with fail
      refine HC.out.mono ?_
      rintro e w3 ⟨rfl, hV⟩
      have K1 := k1.of hV
      obtain ⟨d0, d1, d2, d3, d4, d5, d6⟩ := K1.all7
      go_wp2_with fail
      refine (HF.out _ hV).mono ?_
      rintro e w4 ⟨rfl, hV2⟩
      go_wp2
      exact bodyPost_ret (v := .tuple #[.int .i64 F, .int .i64 0]) (by simp [results, Tryz.results82, go_sem]) rfl ⟨rfl, hB1.trans ((hV.trans (hV2.mono hV.size)).mono hs1)⟩
    · have h1 : placeE x.plain p = 71 := by unfold placeE; rw [if_neg hk, if_neg (by rw [hh]; simpa using h0)]
      have h2 : placeI x p = 0 := by unfold placeI; rw [if_pos (by rw [h1]; decide)]
      rw [h1, h2]
      clear h1 h2 hk hk0 hF hh hx
      go_enter Tryz.func82, Tryz.ntmps82
      go_upto_region 1 with fail
      rw [HW1.out]
      go_wp2_with fail
      refine HC.out.mono ?_
      rintro e w3 ⟨rfl, hV⟩
      have K1 := k1.of hV
      obtain ⟨d0, d1, d2, d3, d4, d5, d6⟩ := K1.all7
      go_wp2_with fail
      refine (HF.out _ hV).mono ?_
      rintro e w4 ⟨rfl, hV2⟩
      go_wp2
      exact bodyPost_ret (v := .tuple #[.int .i64 0, .int .i64 71]) (by simp [results, Tryz.results82, go_sem]) rfl ⟨rfl, hB1.trans ((hV.trans (hV2.mono hV.size)).mono hs1)⟩
end Go.Proofs.YtimmcmjipmkebaaGreat
namespace Go.Proofs.YtimmcmjipmkebaaGreat
open Go.ChangeShapes Go.WideShapes Go.ChangeAt Go.RowKit
set_option maxRecDepth 100000
set_option linter.unusedSimpArgs false
attribute [-simp] Tryz.isAgg91 Tryz.sizeOf91
theorem busy1_any (B0 : Nat) (p : ByteArray) (x : MStage) (w : World) (h0 : w.cell? ⟨B0, 0, none⟩ = some (.string p)) :
    Calls Tryz.prog 134 (#[.agg x.cells.toArray] ++ #[.pointer (some ⟨B0, 0, none⟩)]) w fun e w' => e = .returned (.bool (decide (x.into_ = p))) ∧ Below w.heap.size w w' := by
  have hl := World.block_lt_of_cell? w ⟨B0, 0, none⟩ h0
  obtain ⟨cs, hcs⟩ : ∃ cs, x.cells.toArray = cs := ⟨_, rfl⟩
  obtain ⟨w1, hw1⟩ : ∃ w1, w.alloc (.cells cs 91) = w1 := ⟨_, rfl⟩
  have hB0 : Below w.heap.size w w1 := hw1 ▸ (Below.refl _ w).alloc (Nat.le_refl _) _
  have k1 : Blk w1 w.heap.size 91 x.cells := by
    rw [← hw1, ← hcs]
    exact Blk.new w x.cells _
  have z0 := k1.cell 0
  simp only [MStage.cells, List.getElem?_cons_zero] at z0
  have y0 : w1.cell? ⟨B0, 0, none⟩ = some (.string p) := (hB0.cell (p := ⟨B0, 0, none⟩) hl).trans h0
  rw [hcs]
  rw [← beqS]
  have HW := Lib.hid hw1
  have hcl : cs.size = 21 := by rw [← hcs]; rfl
  clear hw1 k1 hcs
  go_enter Tryz.func134, Tryz.ntmps134
  go_upto_region 1 with fail
  rw [HW.out]
  go_wp2
  go_ret
  exact ⟨rfl, hB0⟩
theorem held1_any (x : MSnap) (w : World) :
    Calls Tryz.prog 136 (#[.agg x.cells.toArray] ++ #[]) w fun e w' => e = .returned (.bool (decide (x.tags_.l ≠ []))) ∧ Below w.heap.size w w' := by
  have hB0 : Below w.heap.size w (w.alloc (.cells x.cells.toArray 49)) := (Below.refl _ w).alloc (Nat.le_refl _) _
  have hd : decide (x.tags_.l ≠ []) = decide (0 < x.tags_.l.length) := by
    rcases x.tags_.l with _ | ⟨a, l⟩ <;> simp
  rw [hd]
  go_enter Tryz.func136, Tryz.ntmps136
  go_wp2
  go_ret
  exact ⟨rfl, hB0⟩
def heldS (s : PSet) : Bool := s.snaps_.any fun x => decide (x.tags_ ≠ [])
def busyP (t : PTenant) (p : ByteArray) : Bool := decide (p = ByteArray.empty) || !(kidsT t p).isEmpty || !(clonesP t p).isEmpty || t.stages_.any fun x => decide (x.into_ = p)
theorem isHeld_any (s : MSet) (w : World) (hs : SlGood w MSnap.cells (MSnap.Good w) 96 s.snaps_) :
    Calls Tryz.prog 84 #[.agg s.cells.toArray] w fun e w' => e = .returned (.bool (heldS s.plain)) ∧ Below w.heap.size w w' := by
  have he : heldS s.plain = s.snaps_.l.any fun x : MSnap => decide (x.tags_.l ≠ []) := by
    unfold heldS
    rw [show s.plain.snaps_ = s.snaps_.l.map MSnap.plain from rfl, List.any_map]
    rfl
  rw [he]
  obtain ⟨a1, hw1⟩ : ∃ a1, w.alloc (.cells #[.string s.path_, .string s.origin_, .slice s.body_.A s.body_.l.length s.body_.c, .slice s.snaps_.A s.snaps_.l.length s.snaps_.c, .slice s.own_.A s.own_.l.length s.own_.c] 52) = a1 := ⟨_, rfl⟩
  have b1 : Below w.heap.size w a1 := hw1 ▸ (Below.refl _ w).alloc (Nat.le_refl _) _
  have k1 : Blk a1 w.heap.size 52 [.string s.path_, .string s.origin_, .slice s.body_.A s.body_.l.length s.body_.c, .slice s.snaps_.A s.snaps_.l.length s.snaps_.c, .slice s.own_.A s.own_.l.length s.own_.c] := hw1 ▸ Blk.new w _ _
  have hB1 : Below w.heap.size w a1 := b1
  have hs1 := hB1.size
  have HW1 := Lib.hid hw1
  clear hw1 b1
  have HC := Lib.hid (contains_Snap (fun x : MSnap => decide (x.tags_.l ≠ [])) 136 #[] (enters_of Tryz.func136 (by kernel_rfl) rfl) s.snaps_.A s.snaps_.c s.snaps_.l.length s.snaps_.l rfl a1
    (fun W x _ _ => held1_any x W) (by have := hs.len; omega) (hs.rd.below hB1))
  obtain ⟨q0, q1, q2, q3, q4⟩ := k1.all5
  generalize (s.snaps_.l.any fun x : MSnap => decide (x.tags_.l ≠ [])) = b at *
  clear he hs
  go_enter Tryz.func84, Tryz.ntmps84
  go_upto_region 1 with fail
  rw [HW1.out]
  go_wp2_with fail
  refine HC.out.mono ?_
  rintro e w3 ⟨rfl, hV⟩
  go_wp2
  go_ret
  exact ⟨rfl, hB1.trans (hV.mono hs1)⟩
set_option maxHeartbeats 1000000 in
theorem isBusy_any (x : MTenant) (p : ByteArray) (w : World) (hx : x.Good w) :
    Calls Tryz.prog 83 #[.agg x.cells.toArray, .string p] w fun e w' => e = .returned (.bool (busyP x.plain p)) ∧ Below w.heap.size w w' := by
  obtain ⟨a1, hw1⟩ : ∃ a1, w.alloc (.cells #[.string x.name_, .int .i64 x.quota_, .int .i64 x.next_, .slice x.sets_.A x.sets_.l.length x.sets_.c, .slice x.grants_.A x.grants_.l.length x.grants_.c, .slice x.stages_.A x.stages_.l.length x.stages_.c, .slice x.log_.A x.log_.l.length x.log_.c] 27) = a1 := ⟨_, rfl⟩
  have b1 : Below w.heap.size w a1 := hw1 ▸ (Below.refl _ w).alloc (Nat.le_refl _) _
  have k1 : Blk a1 w.heap.size 27 [.string x.name_, .int .i64 x.quota_, .int .i64 x.next_, .slice x.sets_.A x.sets_.l.length x.sets_.c, .slice x.grants_.A x.grants_.l.length x.grants_.c, .slice x.stages_.A x.stages_.l.length x.stages_.c, .slice x.log_.A x.log_.l.length x.log_.c] := hw1 ▸ Blk.new w _ _
  obtain ⟨a2, hw2⟩ : ∃ a2, a1.alloc (.cells #[.string p] 9) = a2 := ⟨_, rfl⟩
  have b2 : Below a1.heap.size a1 a2 := hw2 ▸ (Below.refl _ a1).alloc (Nat.le_refl _) _
  have k2 : Blk a2 a1.heap.size 9 [.string p] := hw2 ▸ Blk.new a1 _ _
  have hX2 : w.heap.size + 1 = a1.heap.size := by rw [← hw1, World.size_alloc]
  have hB1 : Below w.heap.size w a1 := b1
  have hB2 : Below w.heap.size w a2 := hB1.trans (b2.mono hB1.size)
  have k1 := k1.of b2
  have hs2 := hB2.size
  have hs1 := hB1.size
  have ht1 : a1.heap.size ≤ a2.heap.size := b2.size
  have HW1 := Lib.hid hw1
  have HW2 := Lib.hid hw2
  clear hw1 b1 hw2 b2
  have hx2 := hx.below hB2
  have HK := Lib.hid (kids_any x p a2 hx2)
  have HL := Lib.hid (fun W (hW : Below a2.heap.size a2 W) => clones_any x p W (hx2.below hW))
  have HC := Lib.hid (fun W (hW : Below a2.heap.size a2 W) => contains_Stage (fun s : MStage => decide (s.into_ = p)) 134 #[.pointer (some ⟨a1.heap.size, 0, none⟩)] (enters_of Tryz.func134 (by kernel_rfl) rfl) x.stages_.A x.stages_.c x.stages_.l.length x.stages_.l rfl W
    (fun W' s _ hW' => busy1_any a1.heap.size p s W' (((k2.of hW).of hW').cell 0)) (by have := hx.gstages_.len; omega) ((hx2.below hW).gstages_.rd))
  have hst : (x.plain.stages_.any fun s : PStage => decide (s.into_ = p)) = x.stages_.l.any fun s : MStage => decide (s.into_ = p) := by
    rw [show x.plain.stages_ = x.stages_.l.map MStage.plain from rfl, List.any_map]
    rfl
  unfold busyP
  rw [hst]
  generalize (x.stages_.l.any fun s : MStage => decide (s.into_ = p)) = bs at *
  generalize kidsT x.plain p = KS at *
  generalize clonesP x.plain p = CS at *
  have hkb2 : decide (p = ByteArray.empty) = p.toList.isEmpty := by
    rw [← beqS]
    rw [Lib.toList_data, Lib.toList_data]
    show (p.data.toList == []) = _
    rcases p.data.toList with _ | ⟨a, l⟩ <;> rfl
  rw [hkb2]
  obtain ⟨kb, hkb⟩ : ∃ kb, p.toList.isEmpty = kb := ⟨_, rfl⟩
  rw [hkb]
  clear hst hx hx2 hkb2
  obtain ⟨q0, q1, q2, q3, q4, q5, q6⟩ := k1.all7
  have r0 := k2.cell 0
  simp only [gZa, gZb] at r0
  rcases kb with _ | _
  · skip
    go_enter Tryz.func83, Tryz.ntmps83
    go_upto_region 1 with fail
    rw [HW1.out, HW2.out]
    try rw [hX2]
    go_wp2_with fail
    refine HK.out.mono ?_
    rintro e w3 ⟨v, rfl, ho, hV⟩
    obtain ⟨A3, c3, rfl, _, _, _, _⟩ := ownAny ho
    have K1 := k1.of hV
    have K2 := k2.of hV
    clear ho
    obtain ⟨d0, d1, d2, d3, d4, d5, d6⟩ := K1.all7
    have e0 := K2.cell 0
    simp only [gZa, gZb] at e0
    rcases KS with _ | ⟨s, KS⟩
    · skip
      have hc : decide (0 < ([] : List ByteArray).length) = false := rfl
      go_wp2_with fail
      refine (HL.out _ hV).mono ?_
      rintro e w4 ⟨v, rfl, ho, hV2⟩
      obtain ⟨A4, c4, rfl, _, _, _, _⟩ := ownAny ho
      have hV4 := hV.trans (hV2.mono hV.size)
      have K3 := K1.of hV2
      have K4 := K2.of hV2
      clear ho
      obtain ⟨t0, t1, t2, t3, t4, t5, t6⟩ := K3.all7
      have u0 := K4.cell 0
      simp only [gZa, gZb] at u0
      rcases CS with _ | ⟨s, CS⟩
      · skip
        go_wp2_with fail
        refine (HC.out _ hV4).mono ?_
        rintro e w5 ⟨rfl, hV5⟩
        have hV6 := hV4.trans (hV5.mono hV4.size)
        go_wp2
        go_ret
        exact ⟨by simp, hB2.trans (hV6.mono hs2)⟩
      · have hc2 : 0 < (s :: CS).length := by simp
        go_wp2
        go_ret
        exact ⟨by simp, hB2.trans (hV4.mono hs2)⟩
    · have hc2 : 0 < (s :: KS).length := by simp
      go_wp2
      go_ret
      exact ⟨by simp, hB2.trans (hV.mono hs2)⟩
  · skip
    go_enter Tryz.func83, Tryz.ntmps83
    go_upto_region 1 with fail
    rw [HW1.out, HW2.out]
    try rw [hX2]
    go_wp2
    go_ret
    exact ⟨by simp, hB2⟩
end Go.Proofs.YtimmcmjipmkebaaGreat
