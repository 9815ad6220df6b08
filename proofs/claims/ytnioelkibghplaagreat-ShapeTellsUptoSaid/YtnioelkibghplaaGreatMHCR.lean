/-
  shape: Create, Settle. Conditions: the tenant is as it comes in.
-/
import Derived.Test.YtnioelkibghplaaGreatMHWA
import Derived.Test.YtnioelkibghplaaGreatMHRF
import Derived.Test.YtnioelkibghplaaGreatMHLB
import Derived.Test.YtnioelkibghplaaGreatMHCC
import Derived.Test.YtnioelkibghplaaGreatMENN
import Derived.Test.YtnioelkibghplaaGreatMTMD
namespace Go.Proofs.YtnioelkibghplaaGreat
open Go.ChangeShapes Go.WideShapes Go.ChangeAt Go.RowKit
set_option maxRecDepth 100000
set_option linter.unusedSimpArgs false
theorem newM_good (p : ByteArray) (hp : p.size ≤ 140737488351232) (W : World) : (⟨p, ByteArray.empty, ⟨none, [], 0⟩, ⟨none, [], 0⟩, ⟨none, [], 0⟩⟩ : MSet).Good W := ⟨hp, by show ByteArray.empty.size ≤ _; decide, slNone _ _ _ _, slNone _ _ _ _, slNone _ _ _ _⟩
theorem ansT_no {w w' : World} {E : Int} (h : Below w.heap.size w w') : AnsT w (noT, E) (.returned (.tuple #[.agg noM.cells.toArray, .int .i64 E])) w' := ⟨noM, rfl, noM_own _ _, noM_good _, rfl, h⟩
def roomU (t : PTenant) (p : ByteArray) : Int := if hasSet t p = true then 6 else if hasSet t ((upP p).getD ByteArray.empty) = false then 71 else if 32 ≤ t.sets_.length then 3 else 0
def createU (t : PTenant) (p : ByteArray) : PTenant × Int := if askE t p ≠ 0 then (noT, askE t p) else if roomU t p ≠ 0 then (noT, roomU t p) else setlP (withP t (newP p))
set_option maxHeartbeats 4000000 in
theorem create_any (x : MTenant) (p : ByteArray) (hp : p.size ≤ 140737488351232) (w : World) (hx : x.Good w) :
    Calls Tryz.prog 8 #[.agg x.cells.toArray, .string p] w fun e w' => AnsT w (createU x.plain p) e w' := by
  obtain ⟨a1, hw1⟩ : ∃ a1, w.alloc (.cells #[.string x.name_, .int .i64 x.quota_, .int .i64 x.next_, .slice x.sets_.A x.sets_.l.length x.sets_.c, .slice x.grants_.A x.grants_.l.length x.grants_.c, .slice x.stages_.A x.stages_.l.length x.stages_.c, .slice x.log_.A x.log_.l.length x.log_.c] 27) = a1 := ⟨_, rfl⟩
  have b1 : Below w.heap.size w a1 := hw1 ▸ (Below.refl _ w).alloc (Nat.le_refl _) _
  have k1 : Blk a1 w.heap.size 27 [.string x.name_, .int .i64 x.quota_, .int .i64 x.next_, .slice x.sets_.A x.sets_.l.length x.sets_.c, .slice x.grants_.A x.grants_.l.length x.grants_.c, .slice x.stages_.A x.stages_.l.length x.stages_.c, .slice x.log_.A x.log_.l.length x.log_.c] := hw1 ▸ Blk.new w _ _
  obtain ⟨a2, hw2⟩ : ∃ a2, a1.alloc (.cells #[.string ⟨#[]⟩, .int .i64 0, .int .i64 0, .slice none 0 0, .slice none 0 0, .slice none 0 0, .slice none 0 0] 27) = a2 := ⟨_, rfl⟩
  have b2 : Below a1.heap.size a1 a2 := hw2 ▸ (Below.refl _ a1).alloc (Nat.le_refl _) _
  have k2 : Blk a2 a1.heap.size 27 [.string ⟨#[]⟩, .int .i64 0, .int .i64 0, .slice none 0 0, .slice none 0 0, .slice none 0 0, .slice none 0 0] := hw2 ▸ Blk.new a1 _ _
  have hX2 : w.heap.size + 1 = a1.heap.size := by rw [← hw1, World.size_alloc]
  have hB1 : Below w.heap.size w a1 := b1
  have hB2 : Below w.heap.size w a2 := hB1.trans (b2.mono hB1.size)
  have k1 := k1.of b2
  have hs2 := hB2.size
  have hs1 := hB1.size
  have ht1 : a1.heap.size ≤ a2.heap.size := b2.size
  have HW1 := Lib.hid hw1
  have HW2 := Lib.hid hw2
  clear hw1 b1 hw2 b2
  have hx2 := hx.below hB2
  have HR := Lib.hid (refused_any x p (Nat.le_trans hp (by decide)) a2 hx2)
  have HF := Lib.hid (fun q W (hW : Below a2.heap.size a2 W) => find_any x q W (hx2.below hW))
  have hlk1 := k1.lt
  have hlk2 := k2.lt
  obtain ⟨u, bb, hu, hv⟩ : ∃ u bb, (upP p).getD ByteArray.empty = u ∧ parV p = .tuple #[.string u, .bool bb] := by
    unfold parV
    rcases upP p with _ | u
    · exact ⟨_, false, rfl, rfl⟩
    · exact ⟨_, true, rfl, rfl⟩
  have HP := Lib.hid (fun W => parent_any p hp W)
  rw [hv] at HP
  have hh := hasSet_find x p
  have hg := hasSet_find x u
  have hln : x.plain.sets_.length = x.sets_.l.length := by simp [MTenant.plain]
  have HG := Lib.hid hx2
  have hroom : roomU x.plain p = if decide (0 ≤ findM x p) = true then 6 else if decide (0 ≤ findM x u) = false then 71 else if 32 ≤ x.sets_.l.length then 3 else 0 := by
    unfold roomU
    rw [hu, hh, hg, hln]
  have HF1 : Hid (∀ W, Below a2.heap.size a2 W → _) := Lib.hid (HF.out p)
  have HF2 : Hid (∀ W, Below a2.heap.size a2 W → _) := Lib.hid (HF.out u)
  obtain ⟨F, hF⟩ : ∃ F, findM x p = F := ⟨_, rfl⟩
  obtain ⟨U, hU⟩ : ∃ U, findM x u = U := ⟨_, rfl⟩
  rw [hF] at HF1
  rw [hU] at HF2
  rw [hF, hU] at hroom
  clear HF hh hg hF hU hv hu hx hx2 hln
  obtain ⟨q0, q1, q2, q3, q4, q5, q6⟩ := k1.all7
  by_cases hk : askE x.plain p ≠ 0
  · have hc : createU x.plain p = (noT, askE x.plain p) := if_pos hk
    rw [hc]
    generalize askE x.plain p = E at *
    clear hc hroom
    go_enter Tryz.func8, Tryz.ntmps8
    go_upto_region 1 with fail
    rw [HW1.out, HW2.out]
    try rw [hX2]
    go_wp2_with fail
    refine HR.out.mono ?_
    rintro e w3 ⟨rfl, hV⟩
    have K2 := k2.of hV
    have hX := hB2.trans (hV.mono hs2)
    obtain ⟨zr0, zr1, zr2, zr3, zr4, zr5, zr6⟩ := K2.all7
    obtain ⟨zrf0, zrf1, zrf2, zrf3, zrf4, zrf5, zrf6⟩ := K2.fz7
    go_wp2
    generalize hwE : World.setCell _ ⟨a1.heap.size, 6, none⟩ _ = wE
    obtain ⟨KE, SE, ZE, BE⟩ := store7 K2 hwE
    obtain ⟨ze0, ze1, ze2, ze3, ze4, ze5, ze6⟩ := KE.all7
    refine bodyPost_ret (v := .tuple #[.agg #[.string ⟨#[]⟩, .int .i64 0, .int .i64 0, .slice none 0 0, .slice none 0 0, .slice none 0 0, .slice none 0 0], .int .i64 E]) (by simp [results, Tryz.results8, go_sem, ze0, ze1, ze2, ze3, ze4, ze5, ze6]) rfl ?_
    exact ansT_no (BE _ _ hX hs1)
  · have hk0 : askE x.plain p = 0 := Classical.not_not.1 hk
    rw [hk0] at HR
    by_cases h0 : 0 ≤ F
    · have hr : roomU x.plain p = 6 := by rw [hroom]; rw [if_pos (decide_eq_true h0)]
      have hc : createU x.plain p = (noT, 6) := by unfold createU; rw [if_neg hk, hr, if_pos (by decide)]
      rw [hc]
      clear hc hr hroom hk hk0
      go_enter Tryz.func8, Tryz.ntmps8
      go_upto_region 1 with fail
      rw [HW1.out, HW2.out]
      try rw [hX2]
      go_wp2_with fail
      refine HR.out.mono ?_
      rintro e w3 ⟨rfl, hV⟩
      have K1 := k1.of hV
      have K2 := k2.of hV
      obtain ⟨d0, d1, d2, d3, d4, d5, d6⟩ := K1.all7
      go_wp2_with fail
      refine (HF1.out _ hV).mono ?_
      rintro e w4 ⟨rfl, hV2⟩
      have hV3 := hV.trans (hV2.mono hV.size)
      have K3 := K1.of hV2
      have K4 := K2.of hV2
      have hX := hB2.trans (hV3.mono hs2)
      obtain ⟨zr0, zr1, zr2, zr3, zr4, zr5, zr6⟩ := K4.all7
      obtain ⟨zrf0, zrf1, zrf2, zrf3, zrf4, zrf5, zrf6⟩ := K4.fz7
      go_wp2
      generalize hwE : World.setCell _ ⟨a1.heap.size, 6, none⟩ _ = wE
      obtain ⟨KE, SE, ZE, BE⟩ := store7 K4 hwE
      obtain ⟨ze0, ze1, ze2, ze3, ze4, ze5, ze6⟩ := KE.all7
      refine bodyPost_ret (v := .tuple #[.agg #[.string ⟨#[]⟩, .int .i64 0, .int .i64 0, .slice none 0 0, .slice none 0 0, .slice none 0 0, .slice none 0 0], .int .i64 6]) (by simp [results, Tryz.results8, go_sem, ze0, ze1, ze2, ze3, ze4, ze5, ze6]) rfl ?_
      exact ansT_no (BE _ _ hX hs1)
    · by_cases h1 : 0 ≤ U
      · by_cases h2 : 32 ≤ x.sets_.l.length
        · have hr : roomU x.plain p = 3 := by rw [hroom]; rw [if_neg (by simpa using h0), if_neg (by simp [h1]), if_pos h2]
          have hc : createU x.plain p = (noT, 3) := by unfold createU; rw [if_neg hk, hr, if_pos (by decide)]
          rw [hc]
          clear hc hr hroom hk hk0
          go_enter Tryz.func8, Tryz.ntmps8
          go_upto_region 1 with fail
          rw [HW1.out, HW2.out]
          try rw [hX2]
          go_wp2_with fail
          refine HR.out.mono ?_
          rintro e w3 ⟨rfl, hV⟩
          have K1 := k1.of hV
          have K2 := k2.of hV
          obtain ⟨d0, d1, d2, d3, d4, d5, d6⟩ := K1.all7
          go_wp2_with fail
          refine (HF1.out _ hV).mono ?_
          rintro e w4 ⟨rfl, hV2⟩
          have hV3 := hV.trans (hV2.mono hV.size)
          have K3 := K1.of hV2
          have K4 := K2.of hV2
          go_wp2_with fail
          refine (HP.out _).mono ?_
          rintro e w5 ⟨rfl, hV4⟩
          have hV5 := hV3.trans (hV4.mono hV3.size)
          have K5 := K3.of hV4
          have K6 := K4.of hV4
          obtain ⟨e0, e1, e2, e3, e4, e5, e6⟩ := K5.all7
          go_wp2_with fail
          refine (HF2.out _ hV5).mono ?_
          rintro e w6 ⟨rfl, hV6⟩
          have hV7 := hV5.trans (hV6.mono hV5.size)
          have K7 := K5.of hV6
          have K8 := K6.of hV6
          obtain ⟨t0, t1, t2, t3, t4, t5, t6⟩ := K7.all7
          have hX := hB2.trans (hV7.mono hs2)
          obtain ⟨zr0, zr1, zr2, zr3, zr4, zr5, zr6⟩ := K8.all7
          obtain ⟨zrf0, zrf1, zrf2, zrf3, zrf4, zrf5, zrf6⟩ := K8.fz7
          go_wp2
          generalize hwE : World.setCell _ ⟨a1.heap.size, 6, none⟩ _ = wE
          obtain ⟨KE, SE, ZE, BE⟩ := store7 K8 hwE
          obtain ⟨ze0, ze1, ze2, ze3, ze4, ze5, ze6⟩ := KE.all7
          refine bodyPost_ret (v := .tuple #[.agg #[.string ⟨#[]⟩, .int .i64 0, .int .i64 0, .slice none 0 0, .slice none 0 0, .slice none 0 0, .slice none 0 0], .int .i64 3]) (by simp [results, Tryz.results8, go_sem, ze0, ze1, ze2, ze3, ze4, ze5, ze6]) rfl ?_
          exact ansT_no (BE _ _ hX hs1)
        · have hr : roomU x.plain p = 0 := by rw [hroom, if_neg (by simpa using h0), if_neg (by simp [h1]), if_neg h2]
          have hc : createU x.plain p = setlP (withP x.plain (newP p)) := by unfold createU; rw [if_neg hk, hr, if_neg (by decide)]
          rw [hc]
          clear hc hr hroom hk hk0
          have HW := Lib.hid (fun W (hW : Below a2.heap.size a2 W) => with_any x ⟨p, ByteArray.empty, ⟨none, [], 0⟩, ⟨none, [], 0⟩, ⟨none, [], 0⟩⟩ W (HG.out.below hW) (newM_good p hp W) (by omega))
          go_enter Tryz.func8, Tryz.ntmps8
          go_upto_region 1 with fail
          rw [HW1.out, HW2.out]
          try rw [hX2]
          go_wp2_with fail
          refine HR.out.mono ?_
          rintro e w3 ⟨rfl, hV⟩
          have K1 := k1.of hV
          have K2 := k2.of hV
          obtain ⟨d0, d1, d2, d3, d4, d5, d6⟩ := K1.all7
          go_wp2_with fail
          refine (HF1.out _ hV).mono ?_
          rintro e w4 ⟨rfl, hV2⟩
          have hV3 := hV.trans (hV2.mono hV.size)
          have K3 := K1.of hV2
          have K4 := K2.of hV2
          go_wp2_with fail
          refine (HP.out _).mono ?_
          rintro e w5 ⟨rfl, hV4⟩
          have hV5 := hV3.trans (hV4.mono hV3.size)
          have K5 := K3.of hV4
          have K6 := K4.of hV4
          obtain ⟨e0, e1, e2, e3, e4, e5, e6⟩ := K5.all7
          go_wp2_with fail
          refine (HF2.out _ hV5).mono ?_
          rintro e w6 ⟨rfl, hV6⟩
          have hV7 := hV5.trans (hV6.mono hV5.size)
          have K7 := K5.of hV6
          have K8 := K6.of hV6
          obtain ⟨t0, t1, t2, t3, t4, t5, t6⟩ := K7.all7
          go_wp2_with fail
          refine (HW.out _ hV7).mono ?_
          rintro e w7 ⟨y, rfl, ho7, hg7, hp7, hV8⟩
          have hV9 := hV7.trans (hV8.mono hV7.size)
          have HS := Lib.hid (settled_any y w7 hg7)
          have HP7 := Lib.hid hp7
          obtain ⟨E, hE⟩ : ∃ E, (setlP y.plain).2 = E := ⟨_, rfl⟩
          rw [hE] at HS
          have hEE : (setlP (withP x.plain (newP p))).2 = E := by rw [← hE, hp7]; rfl
          have HE := Lib.hid hEE
          clear hp7 hE hEE
          go_wp2_with fail
          refine HS.out.mono ?_
          rintro e w8 ⟨rfl, hV10, hfr⟩
          have hV11 := hV9.trans (hV10.mono hV9.size)
          have K9 := (K8.of hV8).of hV10
          have hX := hB2.trans (hV11.mono hs2)
          have hR8 : a1.heap.size < w6.heap.size := K8.lt
          have hX6 := hB2.trans (hV7.mono hs2)
          have hs6 := hX6.size
          have hR7 := (K8.of hV8).lt
          obtain ⟨z, hz⟩ : ∃ z, setlM y = z := ⟨_, rfl⟩
          have hoz : OwnTe w6.heap.size w8 z := hz ▸ setlM_own (ho7.stays fun b _ hb2 => hfr b hb2)
          have hgz : z.Good w8 := hz ▸ setlM_good (hg7.below hV10)
          have hpz : z.plain = (setlP y.plain).1 := hz ▸ setlM_plain y
          rw [hz]
          obtain ⟨zr0, zr1, zr2, zr3, zr4, zr5, zr6⟩ := K9.all7
          obtain ⟨zrf0, zrf1, zrf2, zrf3, zrf4, zrf5, zrf6⟩ := K9.fz7
          go_wp2
          generalize hwE : World.setCell _ ⟨a1.heap.size, 6, none⟩ _ = wE
          obtain ⟨KE, SE, ZE, BE⟩ := store7 K9 hwE
          obtain ⟨ze0, ze1, ze2, ze3, ze4, ze5, ze6⟩ := KE.all7
          refine bodyPost_ret (v := .tuple #[.agg #[.string z.name_, .int .i64 z.quota_, .int .i64 z.next_, .slice z.sets_.A z.sets_.l.length z.sets_.c, .slice z.grants_.A z.grants_.l.length z.grants_.c, .slice z.stages_.A z.stages_.l.length z.stages_.c, .slice z.log_.A z.log_.l.length z.log_.c], .int .i64 E]) (by simp [results, Tryz.results8, go_sem, ze0, ze1, ze2, ze3, ze4, ze5, ze6]) rfl ?_
          rw [HP7.out] at hpz
          have hoz2 := hoz.store hR8 SE
          exact ⟨z, by rw [HE.out], hoz2.base hs6, MTenant.Good.of_own hgz rfl hoz2, hpz, BE _ _ hX hs1⟩
      · have hr : roomU x.plain p = 71 := by rw [hroom]; rw [if_neg (by simpa using h0), if_pos (by simp [h1])]
        have hc : createU x.plain p = (noT, 71) := by unfold createU; rw [if_neg hk, hr, if_pos (by decide)]
        rw [hc]
        clear hc hr hroom hk hk0
        go_enter Tryz.func8, Tryz.ntmps8
        go_upto_region 1 with fail
        rw [HW1.out, HW2.out]
        try rw [hX2]
        go_wp2_with fail
        refine HR.out.mono ?_
        rintro e w3 ⟨rfl, hV⟩
        have K1 := k1.of hV
        have K2 := k2.of hV
        obtain ⟨d0, d1, d2, d3, d4, d5, d6⟩ := K1.all7
        go_wp2_with fail
        refine (HF1.out _ hV).mono ?_
        rintro e w4 ⟨rfl, hV2⟩
        have hV3 := hV.trans (hV2.mono hV.size)
        have K3 := K1.of hV2
        have K4 := K2.of hV2
        go_wp2_with fail
        refine (HP.out _).mono ?_
        rintro e w5 ⟨rfl, hV4⟩
        have hV5 := hV3.trans (hV4.mono hV3.size)
        have K5 := K3.of hV4
        have K6 := K4.of hV4
        obtain ⟨e0, e1, e2, e3, e4, e5, e6⟩ := K5.all7
        go_wp2_with fail
        refine (HF2.out _ hV5).mono ?_
        rintro e w6 ⟨rfl, hV6⟩
        have hV7 := hV5.trans (hV6.mono hV5.size)
        have K7 := K5.of hV6
        have K8 := K6.of hV6
        obtain ⟨t0, t1, t2, t3, t4, t5, t6⟩ := K7.all7
        have hX := hB2.trans (hV7.mono hs2)
        obtain ⟨zr0, zr1, zr2, zr3, zr4, zr5, zr6⟩ := K8.all7
        obtain ⟨zrf0, zrf1, zrf2, zrf3, zrf4, zrf5, zrf6⟩ := K8.fz7
        go_wp2
        generalize hwE : World.setCell _ ⟨a1.heap.size, 6, none⟩ _ = wE
        obtain ⟨KE, SE, ZE, BE⟩ := store7 K8 hwE
        obtain ⟨ze0, ze1, ze2, ze3, ze4, ze5, ze6⟩ := KE.all7
        refine bodyPost_ret (v := .tuple #[.agg #[.string ⟨#[]⟩, .int .i64 0, .int .i64 0, .slice none 0 0, .slice none 0 0, .slice none 0 0, .slice none 0 0], .int .i64 71]) (by simp [results, Tryz.results8, go_sem, ze0, ze1, ze2, ze3, ze4, ze5, ze6]) rfl ?_
        exact ansT_no (BE _ _ hX hs1)

def settleU (t : PTenant) : PTenant × Int := if okT t = true then setlP t else (noT, 9)
set_option maxHeartbeats 1000000 in
theorem settle_any (x : MTenant) (w : World) (hx : x.Good w) :
    Calls Tryz.prog 12 #[.agg x.cells.toArray] w fun e w' => AnsT w (settleU x.plain) e w' := by
  obtain ⟨a1, hw1⟩ : ∃ a1, w.alloc (.cells #[.string x.name_, .int .i64 x.quota_, .int .i64 x.next_, .slice x.sets_.A x.sets_.l.length x.sets_.c, .slice x.grants_.A x.grants_.l.length x.grants_.c, .slice x.stages_.A x.stages_.l.length x.stages_.c, .slice x.log_.A x.log_.l.length x.log_.c] 27) = a1 := ⟨_, rfl⟩
  have b1 : Below w.heap.size w a1 := hw1 ▸ (Below.refl _ w).alloc (Nat.le_refl _) _
  have k1 : Blk a1 w.heap.size 27 [.string x.name_, .int .i64 x.quota_, .int .i64 x.next_, .slice x.sets_.A x.sets_.l.length x.sets_.c, .slice x.grants_.A x.grants_.l.length x.grants_.c, .slice x.stages_.A x.stages_.l.length x.stages_.c, .slice x.log_.A x.log_.l.length x.log_.c] := hw1 ▸ Blk.new w _ _
  obtain ⟨a2, hw2⟩ : ∃ a2, a1.alloc (.cells #[.string ⟨#[]⟩, .int .i64 0, .int .i64 0, .slice none 0 0, .slice none 0 0, .slice none 0 0, .slice none 0 0] 27) = a2 := ⟨_, rfl⟩
  have b2 : Below a1.heap.size a1 a2 := hw2 ▸ (Below.refl _ a1).alloc (Nat.le_refl _) _
  have k2 : Blk a2 a1.heap.size 27 [.string ⟨#[]⟩, .int .i64 0, .int .i64 0, .slice none 0 0, .slice none 0 0, .slice none 0 0, .slice none 0 0] := hw2 ▸ Blk.new a1 _ _
  have hX2 : w.heap.size + 1 = a1.heap.size := by rw [← hw1, World.size_alloc]
  have hB1 : Below w.heap.size w a1 := b1
  have hB2 : Below w.heap.size w a2 := hB1.trans (b2.mono hB1.size)
  have k1 := k1.of b2
  have hs2 := hB2.size
  have hs1 := hB1.size
  have ht1 : a1.heap.size ≤ a2.heap.size := b2.size
  have HW1 := Lib.hid hw1
  have HW2 := Lib.hid hw2
  clear hw1 b1 hw2 b2
  have hx2 := hx.below hB2
  have HR := Lib.hid (check_any14 x a2 hx2)
  have HC := Lib.hid (fun W (hW : Below a2.heap.size a2 W) => copy_any x W (hx2.below hW))
  have HG := Lib.hid hx2
  unfold settleU
  clear hx hx2
  obtain ⟨q0, q1, q2, q3, q4, q5, q6⟩ := k1.all7
  rcases hk : okT x.plain with _ | _
  · rw [hk, if_neg (by decide)] at HR
    rw [if_neg (by decide)]
    clear hk
    go_enter Tryz.func12, Tryz.ntmps12
    go_upto_region 1 with fail
    rw [HW1.out, HW2.out]
    try rw [hX2]
    go_wp2_with fail
    refine HR.out.mono ?_
    rintro e w3 ⟨rfl, hV⟩
    have K2 := k2.of hV
    have hX := hB2.trans (hV.mono hs2)
    obtain ⟨zr0, zr1, zr2, zr3, zr4, zr5, zr6⟩ := K2.all7
    obtain ⟨zrf0, zrf1, zrf2, zrf3, zrf4, zrf5, zrf6⟩ := K2.fz7
    go_wp2
    generalize hwE : World.setCell _ ⟨a1.heap.size, 6, none⟩ _ = wE
    obtain ⟨KE, SE, ZE, BE⟩ := store7 K2 hwE
    obtain ⟨ze0, ze1, ze2, ze3, ze4, ze5, ze6⟩ := KE.all7
    refine bodyPost_ret (v := .tuple #[.agg #[.string ⟨#[]⟩, .int .i64 0, .int .i64 0, .slice none 0 0, .slice none 0 0, .slice none 0 0, .slice none 0 0], .int .i64 9]) (by simp [results, Tryz.results12, go_sem, ze0, ze1, ze2, ze3, ze4, ze5, ze6]) rfl ?_
    exact ansT_no (BE _ _ hX hs1)
  · rw [hk, if_pos rfl] at HR
    rw [if_pos rfl]
    clear hk
    go_enter Tryz.func12, Tryz.ntmps12
    go_upto_region 1 with fail
    rw [HW1.out, HW2.out]
    try rw [hX2]
    go_wp2_with fail
    refine HR.out.mono ?_
    rintro e w3 ⟨rfl, hV⟩
    have K1 := k1.of hV
    have K8 := k2.of hV
    have hV7 := hV
    obtain ⟨d0, d1, d2, d3, d4, d5, d6⟩ := K1.all7
    go_wp2_with fail
    refine (HC.out _ hV).mono ?_
    rintro e w7 ⟨y, rfl, ho7, hp7, hV8⟩
    have hV9 := hV7.trans (hV8.mono hV7.size)
    have hg7 := MTenant.Good.of_own HG.out hp7 ho7
    have HS := Lib.hid (settled_any y w7 hg7)
    have HP7 := Lib.hid hp7
    obtain ⟨E, hE⟩ : ∃ E, (setlP y.plain).2 = E := ⟨_, rfl⟩
    rw [hE] at HS
    have hEE : (setlP x.plain).2 = E := by rw [← hE, hp7]
    have HE := Lib.hid hEE
    clear hp7 hE hEE
    go_wp2_with fail
    refine HS.out.mono ?_
    rintro e w8 ⟨rfl, hV10, hfr⟩
    have hV11 := hV9.trans (hV10.mono hV9.size)
    have K9 := (K8.of hV8).of hV10
    have hX := hB2.trans (hV11.mono hs2)
    have hR8 : a1.heap.size < w3.heap.size := K8.lt
    have hX6 := hB2.trans (hV7.mono hs2)
    have hs6 := hX6.size
    obtain ⟨z, hz⟩ : ∃ z, setlM y = z := ⟨_, rfl⟩
    have hoz : OwnTe w3.heap.size w8 z := hz ▸ setlM_own (ho7.stays fun b _ hb2 => hfr b hb2)
    have hgz : z.Good w8 := hz ▸ setlM_good (hg7.below hV10)
    have hpz : z.plain = (setlP y.plain).1 := hz ▸ setlM_plain y
    rw [hz]
    obtain ⟨zr0, zr1, zr2, zr3, zr4, zr5, zr6⟩ := K9.all7
    obtain ⟨zrf0, zrf1, zrf2, zrf3, zrf4, zrf5, zrf6⟩ := K9.fz7
    go_wp2
    generalize hwE : World.setCell _ ⟨a1.heap.size, 6, none⟩ _ = wE
    obtain ⟨KE, SE, ZE, BE⟩ := store7 K9 hwE
    obtain ⟨ze0, ze1, ze2, ze3, ze4, ze5, ze6⟩ := KE.all7
    refine bodyPost_ret (v := .tuple #[.agg #[.string z.name_, .int .i64 z.quota_, .int .i64 z.next_, .slice z.sets_.A z.sets_.l.length z.sets_.c, .slice z.grants_.A z.grants_.l.length z.grants_.c, .slice z.stages_.A z.stages_.l.length z.stages_.c, .slice z.log_.A z.log_.l.length z.log_.c], .int .i64 E]) (by simp [results, Tryz.results12, go_sem, ze0, ze1, ze2, ze3, ze4, ze5, ze6]) rfl ?_
    rw [HP7.out] at hpz
    have hoz2 := hoz.store hR8 SE
    exact ⟨z, by rw [HE.out], hoz2.base hs6, MTenant.Good.of_own hgz rfl hoz2, hpz, BE _ _ hX hs1⟩

end Go.Proofs.YtnioelkibghplaaGreat

namespace Go.Proofs.YtnioelkibghplaaGreat
open Go.ChangeShapes Go.WideShapes Go.ChangeAt Go.RowKit
set_option maxRecDepth 100000
set_option linter.unusedSimpArgs false
def AnsG (w : World) (P : PTenant × Int) (e : Ending) (w' : World) : Prop := ∃ y : MTenant, e = .returned (.tuple #[.agg y.cells.toArray, .int .i64 P.2]) ∧ y.Good w' ∧ y.plain = P.1 ∧ Below w.heap.size w w'
theorem AnsT.ansG {w w' : World} {P : PTenant × Int} {e : Ending} (h : AnsT w P e w') : AnsG w P e w' := by
  obtain ⟨y, a, _, b, c, d⟩ := h
  exact ⟨y, a, b, c, d⟩
theorem ansG_no {w w' : World} {E : Int} (h : Below w.heap.size w w') : AnsG w (noT, E) (.returned (.tuple #[.agg noM.cells.toArray, .int .i64 E])) w' := ⟨noM, rfl, noM_good _, rfl, h⟩
theorem newM_own (p : ByteArray) (n : Nat) (W : World) : OwnSe n W (⟨p, ByteArray.empty, ⟨none, [], 0⟩, ⟨none, [], 0⟩, ⟨none, [], 0⟩⟩ : MSet) := ⟨ownNone _ _ _ _, ownNone _ _ _ _, ownNone _ _ _ _, fun s hs => (by simp at hs)⟩
def createR (t : PTenant) (p : ByteArray) : PTenant × Int := if askE t p ≠ 0 then (noT, askE t p) else if roomE t p ≠ 0 then (noT, roomE t p) else setlP (withP t (newP p))
theorem ask_ok {t : PTenant} {p : ByteArray} (h : askE t p = 0) : okT t = true ∧ isPath (bs p) = true := by
  unfold askE at h
  split at h
  · exact absurd h (by decide)
  · rename_i a
    split at h
    · exact absurd h (by decide)
    · rename_i b
      exact ⟨by simpa using a, by simpa using b⟩
theorem create_eq (t : PTenant) (p : ByteArray) : createU t p = createR t p := by
  unfold createU createR
  by_cases h : askE t p ≠ 0
  · rw [if_pos h, if_pos h]
  · rw [if_neg h, if_neg h]
    have hok := (ask_ok (Classical.not_not.1 h)).1
    have hl := (okT_parts.1 hok).2.1
    have hr : roomU t p = roomE t p := by
      unfold roomU roomE
      by_cases h1 : t.sets_.length = 32
      · rw [if_pos h1, if_pos (show 32 ≤ t.sets_.length by omega)]
      · rw [if_neg h1, if_neg (show ¬ 32 ≤ t.sets_.length by omega)]
    rw [hr]
set_option maxHeartbeats 4000000 in
theorem refCreate_any (x : MTenant) (p : ByteArray) (hp : p.size ≤ 4398046511104) (w : World) (hx : x.Good w) (ht : x.Tiny) :
    Calls Tryz.prog 9 #[.agg x.cells.toArray, .string p] w fun e w' => AnsG w (createR x.plain p) e w' := by
  obtain ⟨a1, hw1⟩ : ∃ a1, w.alloc (.cells #[.string x.name_, .int .i64 x.quota_, .int .i64 x.next_, .slice x.sets_.A x.sets_.l.length x.sets_.c, .slice x.grants_.A x.grants_.l.length x.grants_.c, .slice x.stages_.A x.stages_.l.length x.stages_.c, .slice x.log_.A x.log_.l.length x.log_.c] 27) = a1 := ⟨_, rfl⟩
  have b1 : Below w.heap.size w a1 := hw1 ▸ (Below.refl _ w).alloc (Nat.le_refl _) _
  have k1 : Blk a1 w.heap.size 27 [.string x.name_, .int .i64 x.quota_, .int .i64 x.next_, .slice x.sets_.A x.sets_.l.length x.sets_.c, .slice x.grants_.A x.grants_.l.length x.grants_.c, .slice x.stages_.A x.stages_.l.length x.stages_.c, .slice x.log_.A x.log_.l.length x.log_.c] := hw1 ▸ Blk.new w _ _
  obtain ⟨a2, hw2⟩ : ∃ a2, a1.alloc (.cells #[.string ⟨#[]⟩, .int .i64 0, .int .i64 0, .slice none 0 0, .slice none 0 0, .slice none 0 0, .slice none 0 0] 27) = a2 := ⟨_, rfl⟩
  have b2 : Below a1.heap.size a1 a2 := hw2 ▸ (Below.refl _ a1).alloc (Nat.le_refl _) _
  have k2 : Blk a2 a1.heap.size 27 [.string ⟨#[]⟩, .int .i64 0, .int .i64 0, .slice none 0 0, .slice none 0 0, .slice none 0 0, .slice none 0 0] := hw2 ▸ Blk.new a1 _ _
  have hX2 : w.heap.size + 1 = a1.heap.size := by rw [← hw1, World.size_alloc]
  have hB1 : Below w.heap.size w a1 := b1
  have hB2 : Below w.heap.size w a2 := hB1.trans (b2.mono hB1.size)
  have k1 := k1.of b2
  have hs2 := hB2.size
  have hs1 := hB1.size
  have ht1 : a1.heap.size ≤ a2.heap.size := b2.size
  have HW1 := Lib.hid hw1
  have HW2 := Lib.hid hw2
  clear hw1 b1 hw2 b2
  have hx2 := hx.below hB2
  have HR := Lib.hid (refAsked_any x p hp a2 hx2 ht)
  have HF := Lib.hid (fun W (hW : Below a2.heap.size a2 W) => refRoom_any x p hp W (hx2.below hW))
  have hlk1 := k1.lt
  have hlk2 := k2.lt
  have HG := Lib.hid hx2
  obtain ⟨q0, q1, q2, q3, q4, q5, q6⟩ := k1.all7
  by_cases hk : askE x.plain p ≠ 0
  · have hc : createR x.plain p = (noT, askE x.plain p) := if_pos hk
    rw [hc]
    generalize askE x.plain p = E at *
    clear hc hx hx2
    go_enter Tryz.func9, Tryz.ntmps9
    go_upto_region 1 with fail
    rw [HW1.out, HW2.out]
    try rw [hX2]
    go_wp2_with fail
    refine HR.out.mono ?_
    rintro e w3 ⟨rfl, hV⟩
    have K2 := k2.of hV
    have hX := hB2.trans (hV.mono hs2)
    obtain ⟨zr0, zr1, zr2, zr3, zr4, zr5, zr6⟩ := K2.all7
    obtain ⟨zrf0, zrf1, zrf2, zrf3, zrf4, zrf5, zrf6⟩ := K2.fz7
    go_wp2
    generalize hwE : World.setCell _ ⟨a1.heap.size, 6, none⟩ _ = wE
    obtain ⟨KE, SE, ZE, BE⟩ := store7 K2 hwE
    obtain ⟨ze0, ze1, ze2, ze3, ze4, ze5, ze6⟩ := KE.all7
    refine bodyPost_ret (v := .tuple #[.agg #[.string ⟨#[]⟩, .int .i64 0, .int .i64 0, .slice none 0 0, .slice none 0 0, .slice none 0 0, .slice none 0 0], .int .i64 E]) (by simp [results, Tryz.results9, go_sem, ze0, ze1, ze2, ze3, ze4, ze5, ze6]) rfl ?_
    exact ansG_no (BE _ _ hX hs1)
  · have hk0 : askE x.plain p = 0 := Classical.not_not.1 hk
    have hok := (ask_ok hk0).1
    have hl32 : x.sets_.l.length ≤ 32 := by
      have := (okT_parts.1 hok).2.1
      simpa [MTenant.plain] using this
    rw [hk0] at HR
    by_cases hr : roomE x.plain p ≠ 0
    · have hc : createR x.plain p = (noT, roomE x.plain p) := by unfold createR; rw [if_neg hk, if_pos hr]
      rw [hc]
      generalize roomE x.plain p = E at *
      clear hc hx hx2 hk hk0 hok
      go_enter Tryz.func9, Tryz.ntmps9
      go_upto_region 1 with fail
      rw [HW1.out, HW2.out]
      try rw [hX2]
      go_wp2_with fail
      refine HR.out.mono ?_
      rintro e w3 ⟨rfl, hV⟩
      have K1 := k1.of hV
      have K2 := k2.of hV
      obtain ⟨d0, d1, d2, d3, d4, d5, d6⟩ := K1.all7
      go_wp2_with fail
      refine (HF.out _ hV).mono ?_
      rintro e w4 ⟨rfl, hV2⟩
      have hV3 := hV.trans (hV2.mono hV.size)
      have K3 := K1.of hV2
      have K4 := K2.of hV2
      obtain ⟨e0, e1, e2, e3, e4, e5, e6⟩ := K3.all7
      have hX := hB2.trans (hV3.mono hs2)
      obtain ⟨zr0, zr1, zr2, zr3, zr4, zr5, zr6⟩ := K4.all7
      obtain ⟨zrf0, zrf1, zrf2, zrf3, zrf4, zrf5, zrf6⟩ := K4.fz7
      go_wp2
      generalize hwE : World.setCell _ ⟨a1.heap.size, 6, none⟩ _ = wE
      obtain ⟨KE, SE, ZE, BE⟩ := store7 K4 hwE
      obtain ⟨ze0, ze1, ze2, ze3, ze4, ze5, ze6⟩ := KE.all7
      refine bodyPost_ret (v := .tuple #[.agg #[.string ⟨#[]⟩, .int .i64 0, .int .i64 0, .slice none 0 0, .slice none 0 0, .slice none 0 0, .slice none 0 0], .int .i64 E]) (by simp [results, Tryz.results9, go_sem, ze0, ze1, ze2, ze3, ze4, ze5, ze6]) rfl ?_
      exact ansG_no (BE _ _ hX hs1)
    · have hr0 : roomE x.plain p = 0 := Classical.not_not.1 hr
      rw [hr0] at HF
      have hc : createR x.plain p = setlP (withP x.plain (newP p)) := by unfold createR; rw [if_neg hk, if_neg hr]
      rw [hc]
      have HW := Lib.hid (fun W (hW : Below a2.heap.size a2 W) => refWith_any x ⟨p, ByteArray.empty, ⟨none, [], 0⟩, ⟨none, [], 0⟩, ⟨none, [], 0⟩⟩ W (HG.out.below hW) (newM_good p (Nat.le_trans hp (by decide)) W) (newM_own p) (by omega))
      clear hc hx hx2 hk hk0 hok hr hr0
      go_enter Tryz.func9, Tryz.ntmps9
      go_upto_region 1 with fail
      rw [HW1.out, HW2.out]
      try rw [hX2]
      go_wp2_with fail
      refine HR.out.mono ?_
      rintro e w3 ⟨rfl, hV⟩
      have K1 := k1.of hV
      have K2 := k2.of hV
      obtain ⟨d0, d1, d2, d3, d4, d5, d6⟩ := K1.all7
      go_wp2_with fail
      refine (HF.out _ hV).mono ?_
      rintro e w4 ⟨rfl, hV2⟩
      have hV3 := hV.trans (hV2.mono hV.size)
      have K3 := K1.of hV2
      have K4 := K2.of hV2
      obtain ⟨e0, e1, e2, e3, e4, e5, e6⟩ := K3.all7
      go_wp2_with fail
      refine (HW.out _ hV3).mono ?_
      rintro e w7 ⟨y, rfl, ho7, hg7, hp7, hV8⟩
      have hV9 := hV3.trans (hV8.mono hV3.size)
      have HS := Lib.hid (refSettled_any y w7 hg7)
      have HP7 := Lib.hid hp7
      obtain ⟨E, hE⟩ : ∃ E, (setlP y.plain).2 = E := ⟨_, rfl⟩
      rw [hE] at HS
      have hEE : (setlP (withP x.plain (newP p))).2 = E := by rw [← hE, hp7]; rfl
      have HE := Lib.hid hEE
      clear hp7 hE hEE
      go_wp2_with fail
      refine HS.out.mono ?_
      rintro e w8 ⟨rfl, hV10, hfr⟩
      have hV11 := hV9.trans (hV10.mono hV9.size)
      have K9 := (K4.of hV8).of hV10
      have hX := hB2.trans (hV11.mono hs2)
      obtain ⟨z, hz⟩ : ∃ z, setlM y = z := ⟨_, rfl⟩
      have hgz : z.Good w8 := hz ▸ setlM_good (hg7.below hV10)
      have hoz : OwnTe w4.heap.size w8 z := hz ▸ setlM_own (ho7.stays fun b _ hb2 => hfr b hb2)
      have hpz : z.plain = (setlP y.plain).1 := hz ▸ setlM_plain y
      rw [hz]
      have hlk4 := K4.lt
      obtain ⟨zr0, zr1, zr2, zr3, zr4, zr5, zr6⟩ := K9.all7
      obtain ⟨zrf0, zrf1, zrf2, zrf3, zrf4, zrf5, zrf6⟩ := K9.fz7
      go_wp2
      generalize hwE : World.setCell _ ⟨a1.heap.size, 6, none⟩ _ = wE
      obtain ⟨KE, SE, ZE, BE⟩ := store7 K9 hwE
      obtain ⟨ze0, ze1, ze2, ze3, ze4, ze5, ze6⟩ := KE.all7
      refine bodyPost_ret (v := .tuple #[.agg #[.string z.name_, .int .i64 z.quota_, .int .i64 z.next_, .slice z.sets_.A z.sets_.l.length z.sets_.c, .slice z.grants_.A z.grants_.l.length z.grants_.c, .slice z.stages_.A z.stages_.l.length z.stages_.c, .slice z.log_.A z.log_.l.length z.log_.c], .int .i64 E]) (by simp [results, Tryz.results9, go_sem, ze0, ze1, ze2, ze3, ze4, ze5, ze6]) rfl ?_
      rw [HP7.out] at hpz
      exact ⟨z, by rw [HE.out], MTenant.Good.of_own hgz rfl (hoz.store hlk4 SE), hpz, BE _ _ hX hs1⟩

set_option maxHeartbeats 1000000 in
theorem refSettle_any (x : MTenant) (w : World) (hx : x.Good w) (ht : x.Tiny) :
    Calls Tryz.prog 13 #[.agg x.cells.toArray] w fun e w' => AnsG w (settleU x.plain) e w' := by
  obtain ⟨a1, hw1⟩ : ∃ a1, w.alloc (.cells #[.string x.name_, .int .i64 x.quota_, .int .i64 x.next_, .slice x.sets_.A x.sets_.l.length x.sets_.c, .slice x.grants_.A x.grants_.l.length x.grants_.c, .slice x.stages_.A x.stages_.l.length x.stages_.c, .slice x.log_.A x.log_.l.length x.log_.c] 27) = a1 := ⟨_, rfl⟩
  have b1 : Below w.heap.size w a1 := hw1 ▸ (Below.refl _ w).alloc (Nat.le_refl _) _
  have k1 : Blk a1 w.heap.size 27 [.string x.name_, .int .i64 x.quota_, .int .i64 x.next_, .slice x.sets_.A x.sets_.l.length x.sets_.c, .slice x.grants_.A x.grants_.l.length x.grants_.c, .slice x.stages_.A x.stages_.l.length x.stages_.c, .slice x.log_.A x.log_.l.length x.log_.c] := hw1 ▸ Blk.new w _ _
  obtain ⟨a2, hw2⟩ : ∃ a2, a1.alloc (.cells #[.string ⟨#[]⟩, .int .i64 0, .int .i64 0, .slice none 0 0, .slice none 0 0, .slice none 0 0, .slice none 0 0] 27) = a2 := ⟨_, rfl⟩
  have b2 : Below a1.heap.size a1 a2 := hw2 ▸ (Below.refl _ a1).alloc (Nat.le_refl _) _
  have k2 : Blk a2 a1.heap.size 27 [.string ⟨#[]⟩, .int .i64 0, .int .i64 0, .slice none 0 0, .slice none 0 0, .slice none 0 0, .slice none 0 0] := hw2 ▸ Blk.new a1 _ _
  have hX2 : w.heap.size + 1 = a1.heap.size := by rw [← hw1, World.size_alloc]
  have hB1 : Below w.heap.size w a1 := b1
  have hB2 : Below w.heap.size w a2 := hB1.trans (b2.mono hB1.size)
  have k1 := k1.of b2
  have hs2 := hB2.size
  have hs1 := hB1.size
  have ht1 : a1.heap.size ≤ a2.heap.size := b2.size
  have HW1 := Lib.hid hw1
  have HW2 := Lib.hid hw2
  clear hw1 b1 hw2 b2
  have hx2 := hx.below hB2
  have HR := Lib.hid (refCheck_any14 x a2 hx2 ht)
  have HC := Lib.hid (fun W (hW : Below a2.heap.size a2 W) => refOwnT_any x W (hx2.below hW))
  have HG := Lib.hid hx2
  unfold settleU
  clear hx hx2
  obtain ⟨q0, q1, q2, q3, q4, q5, q6⟩ := k1.all7
  rcases hk : okT x.plain with _ | _
  · rw [hk, if_neg (by decide)] at HR
    rw [if_neg (by decide)]
    clear hk
    go_enter Tryz.func13, Tryz.ntmps13
    go_upto_region 1 with fail
    rw [HW1.out, HW2.out]
    try rw [hX2]
    go_wp2_with fail
    refine HR.out.mono ?_
    rintro e w3 ⟨rfl, hV⟩
    have K2 := k2.of hV
    have hX := hB2.trans (hV.mono hs2)
    obtain ⟨zr0, zr1, zr2, zr3, zr4, zr5, zr6⟩ := K2.all7
    obtain ⟨zrf0, zrf1, zrf2, zrf3, zrf4, zrf5, zrf6⟩ := K2.fz7
    go_wp2
    generalize hwE : World.setCell _ ⟨a1.heap.size, 6, none⟩ _ = wE
    obtain ⟨KE, SE, ZE, BE⟩ := store7 K2 hwE
    obtain ⟨ze0, ze1, ze2, ze3, ze4, ze5, ze6⟩ := KE.all7
    refine bodyPost_ret (v := .tuple #[.agg #[.string ⟨#[]⟩, .int .i64 0, .int .i64 0, .slice none 0 0, .slice none 0 0, .slice none 0 0, .slice none 0 0], .int .i64 9]) (by simp [results, Tryz.results13, go_sem, ze0, ze1, ze2, ze3, ze4, ze5, ze6]) rfl ?_
    exact ansG_no (BE _ _ hX hs1)
  · rw [hk, if_pos rfl] at HR
    rw [if_pos rfl]
    clear hk
    go_enter Tryz.func13, Tryz.ntmps13
    go_upto_region 1 with fail
    rw [HW1.out, HW2.out]
    try rw [hX2]
    go_wp2_with fail
    refine HR.out.mono ?_
    rintro e w3 ⟨rfl, hV⟩
    have K1 := k1.of hV
    have K8 := k2.of hV
    have hV7 := hV
    obtain ⟨d0, d1, d2, d3, d4, d5, d6⟩ := K1.all7
    go_wp2_with fail
    refine (HC.out _ hV).mono ?_
    rintro e w7 ⟨y, rfl, ho7, hp7, hV8⟩
    have hV9 := hV7.trans (hV8.mono hV7.size)
    have hg7 := MTenant.Good.of_own HG.out hp7 ho7
    have HS := Lib.hid (refSettled_any y w7 hg7)
    have HP7 := Lib.hid hp7
    obtain ⟨E, hE⟩ : ∃ E, (setlP y.plain).2 = E := ⟨_, rfl⟩
    rw [hE] at HS
    have hEE : (setlP x.plain).2 = E := by rw [← hE, hp7]
    have HE := Lib.hid hEE
    clear hp7 hE hEE
    go_wp2_with fail
    refine HS.out.mono ?_
    rintro e w8 ⟨rfl, hV10, hfr⟩
    have hV11 := hV9.trans (hV10.mono hV9.size)
    have K9 := (K8.of hV8).of hV10
    have hX := hB2.trans (hV11.mono hs2)
    obtain ⟨z, hz⟩ : ∃ z, setlM y = z := ⟨_, rfl⟩
    have hgz : z.Good w8 := hz ▸ setlM_good (hg7.below hV10)
    have hoz : OwnTe w3.heap.size w8 z := hz ▸ setlM_own (ho7.stays fun b _ hb2 => hfr b hb2)
    have hpz : z.plain = (setlP y.plain).1 := hz ▸ setlM_plain y
    rw [hz]
    have hlk4 := K8.lt
    obtain ⟨zr0, zr1, zr2, zr3, zr4, zr5, zr6⟩ := K9.all7
    obtain ⟨zrf0, zrf1, zrf2, zrf3, zrf4, zrf5, zrf6⟩ := K9.fz7
    go_wp2
    generalize hwE : World.setCell _ ⟨a1.heap.size, 6, none⟩ _ = wE
    obtain ⟨KE, SE, ZE, BE⟩ := store7 K9 hwE
    obtain ⟨ze0, ze1, ze2, ze3, ze4, ze5, ze6⟩ := KE.all7
    refine bodyPost_ret (v := .tuple #[.agg #[.string z.name_, .int .i64 z.quota_, .int .i64 z.next_, .slice z.sets_.A z.sets_.l.length z.sets_.c, .slice z.grants_.A z.grants_.l.length z.grants_.c, .slice z.stages_.A z.stages_.l.length z.stages_.c, .slice z.log_.A z.log_.l.length z.log_.c], .int .i64 E]) (by simp [results, Tryz.results13, go_sem, ze0, ze1, ze2, ze3, ze4, ze5, ze6]) rfl ?_
    rw [HP7.out] at hpz
    exact ⟨z, by rw [HE.out], MTenant.Good.of_own hgz rfl (hoz.store hlk4 SE), hpz, BE _ _ hX hs1⟩

end Go.Proofs.YtnioelkibghplaaGreat

namespace Go.Proofs.YtnioelkibghplaaGreat
open Go.ChangeShapes Go.WideShapes Go.ChangeAt Go.RowKit
set_option maxRecDepth 100000
set_option linter.unusedSimpArgs false
def goneE (t : PTenant) (p : ByteArray) : Int := if placeE t p ≠ 0 then placeE t p else if busyP t p = true then 44 else match setAt t p with
  | none => 71
  | some s => if heldS s = true then 43 else 0
def goneU (t : PTenant) (p : ByteArray) : PTenant × Int := if goneE t p ≠ 0 then (noT, goneE t p) else ({ t with sets_ := delS p t.sets_ }, 0)
theorem place_ways {x : MTenant} {p : ByteArray} (h : placeE x.plain p = 0) : ∃ (j : Nat) (s : MSet), placeI x p = j ∧ x.sets_.l[j]? = some s ∧ s.path_ = p ∧ setAt x.plain p = some s.plain ∧ okT x.plain = true ∧ isPath (bs p) = true ∧ (∀ y ∈ x.sets_.l.take j, y.path_ ≠ p) := by
  have h1 : askE x.plain p = 0 := by
    unfold placeE at h
    split at h
    · rename_i h2
      exact absurd h h2
    · rename_i h2
      exact Classical.not_not.1 h2
  have h2 : hasSet x.plain p = true := by
    unfold placeE at h
    rw [if_neg (by rw [h1]; decide)] at h
    split at h
    · assumption
    · exact absurd h (by decide)
  have h3 : placeI x p = findM x p := by
    unfold placeI
    rw [if_neg (by rw [h]; decide)]
  have hok : okT x.plain = true ∧ isPath (bs p) = true := by
    unfold askE at h1
    split at h1
    · exact absurd h1 (by decide)
    · rename_i a
      split at h1
      · exact absurd h1 (by decide)
      · rename_i b
        exact ⟨by simpa using a, by simpa using b⟩
  rcases set_ways x p with ⟨a, b⟩ | ⟨j, s, a, b, c, d⟩
  · rw [hasSet_find, a] at h2
    exact absurd h2 (by decide)
  · refine ⟨j, s, by rw [h3, a], b, c, d, hok.1, hok.2, fun y hy e => ?_⟩
    rcases findI_ways (fun s : MSet => decide (s.path_ = p)) x.sets_.l with ⟨a2, _⟩ | ⟨j2, s2, a2, b2, c2, d2⟩
    · unfold findM at a
      rw [a2] at a
      omega
    · have ej : j2 = j := by
        unfold findM at a
        rw [a2] at a
        omega
      subst ej
      have := d2 y hy
      simp [e] at this
set_option maxHeartbeats 4000000 in
theorem destroy_any (x : MTenant) (p : ByteArray) (hp : p.size ≤ 140737488351232) (w : World) (hx : x.Good w) :
    Calls Tryz.prog 10 #[.agg x.cells.toArray, .string p] w fun e w' => AnsT w (goneU x.plain p) e w' := by
  obtain ⟨a1, hw1⟩ : ∃ a1, w.alloc (.cells #[.string x.name_, .int .i64 x.quota_, .int .i64 x.next_, .slice x.sets_.A x.sets_.l.length x.sets_.c, .slice x.grants_.A x.grants_.l.length x.grants_.c, .slice x.stages_.A x.stages_.l.length x.stages_.c, .slice x.log_.A x.log_.l.length x.log_.c] 27) = a1 := ⟨_, rfl⟩
  have b1 : Below w.heap.size w a1 := hw1 ▸ (Below.refl _ w).alloc (Nat.le_refl _) _
  have k1 : Blk a1 w.heap.size 27 [.string x.name_, .int .i64 x.quota_, .int .i64 x.next_, .slice x.sets_.A x.sets_.l.length x.sets_.c, .slice x.grants_.A x.grants_.l.length x.grants_.c, .slice x.stages_.A x.stages_.l.length x.stages_.c, .slice x.log_.A x.log_.l.length x.log_.c] := hw1 ▸ Blk.new w _ _
  obtain ⟨a2, hw2⟩ : ∃ a2, a1.alloc (.cells #[.string ⟨#[]⟩, .int .i64 0, .int .i64 0, .slice none 0 0, .slice none 0 0, .slice none 0 0, .slice none 0 0] 27) = a2 := ⟨_, rfl⟩
  have b2 : Below a1.heap.size a1 a2 := hw2 ▸ (Below.refl _ a1).alloc (Nat.le_refl _) _
  have k2 : Blk a2 a1.heap.size 27 [.string ⟨#[]⟩, .int .i64 0, .int .i64 0, .slice none 0 0, .slice none 0 0, .slice none 0 0, .slice none 0 0] := hw2 ▸ Blk.new a1 _ _
  have hX2 : w.heap.size + 1 = a1.heap.size := by rw [← hw1, World.size_alloc]
  have hB1 : Below w.heap.size w a1 := b1
  have hB2 : Below w.heap.size w a2 := hB1.trans (b2.mono hB1.size)
  have k1 := k1.of b2
  have hs2 := hB2.size
  have hs1 := hB1.size
  have ht1 : a1.heap.size ≤ a2.heap.size := b2.size
  have HW1 := Lib.hid hw1
  have HW2 := Lib.hid hw2
  clear hw1 b1 hw2 b2
  have hx2 := hx.below hB2
  have HR := Lib.hid (place_any x p (Nat.le_trans hp (by decide)) a2 hx2)
  have HF := Lib.hid (fun W (hW : Below a2.heap.size a2 W) => isBusy_any x p W (hx2.below hW))
  have hlk1 := k1.lt
  have hlk2 := k2.lt
  have HG := Lib.hid hx2
  have HG0 := Lib.hid hx
  obtain ⟨q0, q1, q2, q3, q4, q5, q6⟩ := k1.all7
  by_cases hk : placeE x.plain p ≠ 0
  · have hE : goneE x.plain p = placeE x.plain p := if_pos hk
    have hc : goneU x.plain p = (noT, placeE x.plain p) := by unfold goneU; rw [hE, if_pos hk]
    rw [hc]
    generalize placeE x.plain p = E at *
    generalize placeI x p = I at *
    clear hc hE hx hx2
    go_enter Tryz.func10, Tryz.ntmps10
    go_upto_region 1 with fail
    rw [HW1.out, HW2.out]
    try rw [hX2]
    go_wp2_with fail
    refine HR.out.mono ?_
    rintro e w3 ⟨rfl, hV⟩
    have K2 := k2.of hV
    have hX := hB2.trans (hV.mono hs2)
    obtain ⟨zr0, zr1, zr2, zr3, zr4, zr5, zr6⟩ := K2.all7
    obtain ⟨zrf0, zrf1, zrf2, zrf3, zrf4, zrf5, zrf6⟩ := K2.fz7
    go_wp2
    generalize hwE : World.setCell _ ⟨a1.heap.size, 6, none⟩ _ = wE
    obtain ⟨KE, SE, ZE, BE⟩ := store7 K2 hwE
    obtain ⟨ze0, ze1, ze2, ze3, ze4, ze5, ze6⟩ := KE.all7
    refine bodyPost_ret (v := .tuple #[.agg #[.string ⟨#[]⟩, .int .i64 0, .int .i64 0, .slice none 0 0, .slice none 0 0, .slice none 0 0, .slice none 0 0], .int .i64 E]) (by simp [results, Tryz.results10, go_sem, ze0, ze1, ze2, ze3, ze4, ze5, ze6]) rfl ?_
    exact ansT_no (BE _ _ hX hs1)
  · have hk0 : placeE x.plain p = 0 := Classical.not_not.1 hk
    obtain ⟨j, s, hI, hj, hsp, hsa, hok, hip, hnt⟩ := place_ways hk0
    rw [hk0, hI] at HR
    have hjl : j < x.sets_.l.length := (List.getElem?_eq_some_iff.1 hj).1
    rcases hbz : busyP x.plain p with _ | _
    · rw [hbz] at HF
      rcases hhe : heldS s.plain with _ | _
      · have hE : goneE x.plain p = 0 := by unfold goneE; rw [if_neg hk, if_neg (by rw [hbz]; decide), hsa]; show (if heldS s.plain = true then (43 : Int) else 0) = 0; rw [hhe]; rfl
        have hc : goneU x.plain p = ({ x.plain with sets_ := delS p x.plain.sets_ }, 0) := by unfold goneU; rw [hE, if_neg (by decide)]
        rw [hc]
        have HH : Hid (∀ W, Below a2.heap.size a2 W → Calls Tryz.prog 38 #[.agg s.cells.toArray] W fun e w' => e = .returned (.bool false) ∧ Below W.heap.size W w') := Lib.hid fun W hW => by
          have := isHeld_any s W (((hx2.below hW).gsets_.el s (List.mem_of_getElem? hj)).gsnaps_)
          rwa [hhe] at this
        have hdel : delS p x.plain.sets_ = (x.sets_.l.take j ++ x.sets_.l.drop (j + 1)).map MSet.plain := by
          rw [delS_at (j := j) (s := s.plain) (by show (x.sets_.l.map MSet.plain)[j]? = _; rw [List.getElem?_map, hj]; rfl) hsp (fun y hy => by
            rw [show x.plain.sets_ = x.sets_.l.map MSet.plain from rfl, ← List.map_take] at hy
            obtain ⟨z, hz, rfl⟩ := List.mem_map.1 hy
            exact hnt z hz)]
          rw [show x.plain.sets_ = x.sets_.l.map MSet.plain from rfl, List.map_append, List.map_take, List.map_drop]
        have HD := Lib.hid hdel
        have HJ := Lib.hid hj
        have hcap := hx.gsets_.cap
        have hnil := hx.gsets_.nil
        have hlen := hx.gsets_.len
        clear hc hE hx hx2 hk hk0 hbz hhe hsa hok hip hnt hdel hI hj hsp
        go_enter Tryz.func10, Tryz.ntmps10
        go_upto_region 1 with fail
        rw [HW1.out, HW2.out]
        try rw [hX2]
        go_wp2_with fail
        refine HR.out.mono ?_
        rintro e w3 ⟨rfl, hV⟩
        have K1 := k1.of hV
        have K2 := k2.of hV
        obtain ⟨d0, d1, d2, d3, d4, d5, d6⟩ := K1.all7
        go_wp2_with fail
        refine (HF.out _ hV).mono ?_
        rintro e w4 ⟨rfl, hV2⟩
        have hV3 := hV.trans (hV2.mono hV.size)
        have K3 := K1.of hV2
        have K4 := K2.of hV2
        obtain ⟨b, off, hA, hb, hcc⟩ := Rd.elem (n := 5) (fun _ => rfl) (by omega) (HG.out.gsets_.rd.below hV3) HJ.out
        have c0 : w4.cell? ⟨b, off + j * 5, none⟩ = some (.string s.path_) := hcc 0 _ rfl
        have c1 : w4.cell? ⟨b, off + j * 5 + 1, none⟩ = some (.string s.origin_) := hcc 1 _ rfl
        have c2 : w4.cell? ⟨b, off + j * 5 + 2, none⟩ = some (.slice s.body_.A s.body_.l.length s.body_.c) := hcc 2 _ rfl
        have c3 : w4.cell? ⟨b, off + j * 5 + 3, none⟩ = some (.slice s.snaps_.A s.snaps_.l.length s.snaps_.c) := hcc 3 _ rfl
        have c4 : w4.cell? ⟨b, off + j * 5 + 4, none⟩ = some (.slice s.own_.A s.own_.l.length s.own_.c) := hcc 4 _ rfl
        obtain ⟨e0, e1, e2, e3, e4, e5, e6⟩ := K3.all7
        rw [hA] at e3
        have HA := Lib.hid hA
        have HH2 := Lib.hid (HH.out w4 hV3)
        clear hcc hA
        go_wp2_with fail
        refine HH2.out.mono ?_
        rintro e w5 ⟨rfl, hV4⟩
        have hV5 := hV3.trans (hV4.mono hV3.size)
        have K5 := K3.of hV4
        have K6 := K4.of hV4
        go_upto_region 8 with fail
        obtain ⟨t0, t1, t2, t3, t4, t5, t6⟩ := K5.all7
        have tf3 := K5.frozen 3
        have hlt0 := K5.lt
        have hlo := fun W => run_lo x.sets_.A x.sets_.l.length x.sets_.c j (Nat.le_trans (Nat.le_of_lt hjl) hcap) W
        have hhi := fun W => run_hi1 x.sets_.A x.sets_.l.length x.sets_.c j hjl (by omega) W
        have hjt : (x.sets_.l.take j).length = j := by rw [List.length_take]; exact Nat.min_eq_left (Nat.le_of_lt hjl)
        have hjd : (x.sets_.l.drop (j + 1)).length = x.sets_.l.length - (j + 1) := by simp
        have HR5 := Lib.hid (HG.out.gsets_.rd.below hV5)
        have HCC := Lib.hid (fun (W : World) (hW : Below w5.heap.size w5 W) (g : Nat) (hg : Blk W g 22 [.slice (cutA x.sets_.A x.sets_.c 0) j x.sets_.c, .slice (cutA x.sets_.A x.sets_.c (j + 1)) (x.sets_.l.length - (j + 1)) (x.sets_.c - (j + 1))]) =>
          concat_any (some ⟨g, 0, none⟩) 2 [⟨cutA x.sets_.A x.sets_.c 0, x.sets_.l.take j, x.sets_.c⟩, ⟨cutA x.sets_.A x.sets_.c (j + 1), x.sets_.l.drop (j + 1), x.sets_.c - (j + 1)⟩] W
            (by
              simp only [Sl.val, List.map_cons, List.map_nil, hjt, hjd]
              intro _
              exact ⟨g, 0, rfl, hg.lt, fun k u hk => by rw [Nat.zero_add, hg.cell k]; exact hk⟩)
            (by
              intro y hy
              simp only [List.mem_cons, List.not_mem_nil, or_false] at hy
              rcases hy with rfl | rfl
              · exact ⟨cutS_take (HR5.out.below hW) j, fun e => by have := cutS_none (j := 0) hnil e; simpa using this⟩
              · exact ⟨cutS_drop (HR5.out.below hW) hcap (j + 1), cutS_none hnil⟩)
            (by simp) (by unfold lenS; simp only [List.map_cons, List.map_nil, hjt, hjd, List.sum_cons, List.sum_nil]; omega))
        obtain ⟨L, hL⟩ : ∃ L, x.sets_.l.take j ++ x.sets_.l.drop (j + 1) = L := ⟨_, rfl⟩
        have hlen5 : L.length ≤ x.sets_.l.length := by rw [← hL, List.length_append, hjt, hjd]; omega
        have hfl : [(⟨cutA x.sets_.A x.sets_.c 0, x.sets_.l.take j, x.sets_.c⟩ : Sl MSet), ⟨cutA x.sets_.A x.sets_.c (j + 1), x.sets_.l.drop (j + 1), x.sets_.c - (j + 1)⟩].flatMap Sl.l = L := by
          rw [← hL]
          simp
        have HFL := Lib.hid hfl
        have HL := Lib.hid hL
        have HLEN := Lib.hid hlen5
        clear hL hfl hlen5
        refine wp_region_noPanic ?_
        refine wp_region_last 12 (fun W => W.cell? ⟨w.heap.size, 3, none⟩ = some (.slice x.sets_.A x.sets_.l.length x.sets_.c) ∧ W.frozen? ⟨w.heap.size, 3, none⟩ = false) (by kernel_rfl) ⟨t3, tf3⟩ (fun hHeld => ?_)
        refine wpAnyL_take 16 (i := 0) (oi := ⟨some 29, _, _, _, _, _⟩) (v := ?_) rfl (by kernel_rfl) (by kernel_rfl) (by kernel_rfl) (by kernel_rfl) (by kernel_rfl) (by kernel_rfl) (by kernel_rfl) (fun _ _ _ h => h) (Or.inl ⟨by rfl, ?_⟩) hHeld ?_
        rotate_left
        focus (intro w hSw; (try dsimp only at hSw); go_simp; try (with_reducible rfl))
        try simp only [Act.put, pA, pB, pC]
        refine wpAnyL_take 16 (i := 1) (oi := ⟨some 30, _, _, _, _, _⟩) (v := ?_) rfl (by kernel_rfl) (by kernel_rfl) (by kernel_rfl) (by kernel_rfl) (by kernel_rfl) (by kernel_rfl) (by kernel_rfl) (fun _ _ _ h => h) (Or.inl ⟨by rfl, ?_⟩) hHeld ?_
        rotate_left
        focus (intro w hSw; (try dsimp only at hSw); go_simp; try (with_reducible rfl))
        try simp only [Act.put, pA, pB, pC]
        refine wpAnyL_take 16 (i := 2) (oi := ⟨some 31, _, _, _, _, _⟩) (v := ?_) rfl (by kernel_rfl) (by kernel_rfl) (by kernel_rfl) (by kernel_rfl) (by kernel_rfl) (by kernel_rfl) (by kernel_rfl) (fun _ _ _ h => h) (Or.inl ⟨by rfl, ?_⟩) hHeld ?_
        rotate_left
        focus (intro w hSw; (try dsimp only at hSw); go_simp; try (with_reducible rfl))
        try simp only [Act.put, pA, pB, pC]
        refine wpAnyL_take 16 (i := 4) (oi := ⟨some 33, _, _, _, _, _⟩) (v := ?_) rfl (by kernel_rfl) (by kernel_rfl) (by kernel_rfl) (by kernel_rfl) (by kernel_rfl) (by kernel_rfl) (by kernel_rfl) (fun _ _ _ h => h) (Or.inl ⟨by rfl, ?_⟩) hHeld ?_
        rotate_left
        focus (intro w hSw; (try dsimp only at hSw); go_simp; try (with_reducible rfl))
        try simp only [Act.put, pA, pB, pC]
        refine wpAnyL_take 16 (i := 5) (oi := ⟨some 34, _, _, _, _, _⟩) (v := ?_) rfl (by kernel_rfl) (by kernel_rfl) (by kernel_rfl) (by kernel_rfl) (by kernel_rfl) (by kernel_rfl) (by kernel_rfl) (fun _ _ _ h => h) (Or.inl ⟨by rfl, ?_⟩) hHeld ?_
        rotate_left
        focus (intro w hSw; (try dsimp only at hSw); go_simp; try (with_reducible rfl))
        try simp only [Act.put, pA, pB, pC]
        refine wpAnyL_take 16 (i := 6) (oi := ⟨some 35, _, _, _, _, _⟩) (v := ?_) rfl (by kernel_rfl) (by kernel_rfl) (by kernel_rfl) (by kernel_rfl) (by kernel_rfl) (by kernel_rfl) (by kernel_rfl) (fun _ _ _ h => h) (Or.inl ⟨by rfl, ?_⟩) hHeld ?_
        rotate_left
        focus (intro w hSw; (try dsimp only at hSw); go_simp; try (with_reducible rfl))
        try simp only [Act.put, pA, pB, pC]
        refine wpAnyL_take 16 (i := 7) (oi := ⟨some 36, _, _, _, _, _⟩) (v := ?_) rfl (by kernel_rfl) (by kernel_rfl) (by kernel_rfl) (by kernel_rfl) (by kernel_rfl) (by kernel_rfl) (by kernel_rfl) (fun _ _ _ h => h) (Or.inl ⟨by rfl, ?_⟩) hHeld ?_
        rotate_left
        focus (intro w hSw; (try dsimp only at hSw); go_simp; try (with_reducible rfl))
        try simp only [Act.put, pA, pB, pC]
        clear hHeld
        refine wpAnyL_facts 16 4 2 [(3, 32), (8, 37), (9, 38), (10, 39)] (fun s v w => match s with
          | 32 => v = .slice (cutA x.sets_.A x.sets_.c 0) j x.sets_.c
          | 37 => v = .slice (cutA x.sets_.A x.sets_.c (j + 1)) (x.sets_.l.length - (j + 1)) (x.sets_.c - (j + 1))
          | 38 => ∃ g, v = .slice (some ⟨g, 0, none⟩) 2 2 ∧ Blk w g 22 [.slice (cutA x.sets_.A x.sets_.c 0) j x.sets_.c, .slice (cutA x.sets_.A x.sets_.c (j + 1)) (x.sets_.l.length - (j + 1)) (x.sets_.c - (j + 1))]
          | 39 => w.ownsRow w5.heap.size 62 5 v L.length (L.flatMap MSet.cells)
          | _ => True) (fun w w' => Below w.heap.size w w') (by kernel_rfl) (by kernel_rfl) (fun w w' h h' => h.trans (h'.mono h.size)) ⟨?_, ?_, ?_, ?_, trivial⟩ (fun w' hB => ⟨(hB.cell (p := ⟨w.heap.size, 3, none⟩) hlt0).trans t3, (K5.drew.below hB hlt0).frozen 3⟩) ⟨?_, ?_, ?_, ?_, trivial⟩ ?_
        focus
          intro v w w' h hB
          exact h
        focus
          intro v w w' h hB
          exact h
        focus
          intro v w w' h hB
          exact (by obtain ⟨g, e, hb⟩ := h; exact ⟨g, e, hb.below hB hb.lt⟩)
        focus
          intro v w w' h hB
          exact (ownBelow h hB (Nat.le_refl _))
        focus
          intro vs w2 hBf hFf o ho K hK
          obtain rfl : (⟨some 32, _, _, _, _, _⟩ : Oper) = o := Option.some.inj ho
          clear ho
          (try simp only [fillL, List.foldl_cons, List.foldl_nil, Act.put, List.setIfInBounds_toArray, List.set_cons_zero, List.set_cons_succ] at hK ⊢)
          go_simp
          refine hK.out _ _ ⟨rfl, Below.refl _ _⟩
        focus
          intro vs w2 hBf hFf o ho K hK
          obtain rfl : (⟨some 37, _, _, _, _, _⟩ : Oper) = o := Option.some.inj ho
          clear ho
          (try simp only [fillL, List.foldl_cons, List.foldl_nil, Act.put, List.setIfInBounds_toArray, List.set_cons_zero, List.set_cons_succ] at hK ⊢)
          go_simp
          refine hK.out _ _ ⟨rfl, Below.refl _ _⟩
        focus
          intro vs w2 hBf hFf o ho K hK
          obtain rfl : (⟨some 38, _, _, _, _, _⟩ : Oper) = o := Option.some.inj ho
          clear ho
          (try simp only [fillL, List.foldl_cons, List.foldl_nil, Act.put, List.setIfInBounds_toArray, List.set_cons_zero, List.set_cons_succ] at hK ⊢)
          have e32 := (hFf (3, 32) (by simp) (by kernel_rfl))
          have e37 := (hFf (8, 37) (by simp) (by kernel_rfl))
          simp only [] at e32 e37
          simp only [e32, e37] at hK ⊢
          go_simp
          refine hK.out _ _ ⟨⟨w2.heap.size, rfl, Blk.new w2 _ _⟩, (Below.refl _ w2).alloc (Nat.le_refl _) _⟩
        focus
          intro vs w2 hBf hFf o ho K hK
          obtain rfl : (⟨some 39, _, _, _, _, _⟩ : Oper) = o := Option.some.inj ho
          clear ho
          (try simp only [fillL, List.foldl_cons, List.foldl_nil, Act.put, List.setIfInBounds_toArray, List.set_cons_zero, List.set_cons_succ] at hK ⊢)
          obtain ⟨g38, e38, hb38⟩ := (hFf (9, 38) (by simp) (by kernel_rfl))
          simp only [e38] at hK ⊢
          go_simp
          refine (HCC.out _ ((Below.refl w5.heap.size w5).drew.trans hBf) g38 hb38).mono ?_
          rintro e w4 ⟨v4, rfl, ho4, hB4⟩
          rw [HFL.out] at ho4
          exact hK.out _ _ ⟨ownBase ho4 ((Below.refl w5.heap.size w5).drew.trans hBf).size, hB4⟩
        intro vs w2 hBf hFf
        (try simp only [fillL, List.foldl_cons, List.foldl_nil, Act.put, List.setIfInBounds_toArray, List.set_cons_zero, List.set_cons_succ])
        have h39 := (hFf (10, 39) (by simp))
        simp only [] at h39
        obtain ⟨A39, c39, e39, _, _, _, _⟩ := ownAny h39
        rw [e39] at h39
        simp only [e39]
        have hBw : Below w5.heap.size w5 w2 := (Below.refl w5.heap.size w5).drew.trans hBf
        have H39 := Lib.hid h39
        have KT := K5.of hBw
        have KR := K6.of hBw
        clear h39
        have hHeld : (fun W => W.cell? ⟨w.heap.size, 3, none⟩ = some (.slice x.sets_.A x.sets_.l.length x.sets_.c) ∧ W.frozen? ⟨w.heap.size, 3, none⟩ = false) w2 := ⟨(hBf.cell (p := ⟨w.heap.size, 3, none⟩) hlt0).trans t3, (K5.drew.below hBf hlt0).frozen 3⟩
        refine wpAnyL_take 16 (i := 11) (oi := ⟨some 40, _, _, _, _, _⟩) (v := ?_) rfl (by kernel_rfl) (by kernel_rfl) (by kernel_rfl) (by kernel_rfl) (by kernel_rfl) (by kernel_rfl) (by kernel_rfl) (fun _ _ _ h => h) (Or.inl ⟨by rfl, ?_⟩) hHeld ?_
        rotate_left
        focus (intro w hSw; (try dsimp only at hSw); go_simp; try (with_reducible rfl))
        try simp only [Act.put, pA, pB, pC]
        refine wpAnyL_last (i := 12) (o := ⟨none, _, _, _, _, _⟩) (by kernel_rfl) rfl (by kernel_rfl) (fun K hK => ?_)
        go_simp
        go_wp2_with fail
        refine hK.out _ _ ?_
        clear hK K
        try simp only [Act.put, pA, pB, pC]
        refine wpAnyL_done (by kernel_rfl) ?_ _
        refine NoPanic.normal ?_
        have hV7 := hV5.trans (hBw.mono hV5.size)
        have KT5 := KT.set 3 (.slice A39 L.length c39)
        have hne : a1.heap.size ≠ w.heap.size := by omega
        have KR5 := KR.other (g' := w.heap.size) hne 3 (.slice A39 L.length c39)
        have ho5 := own_setT (j := 3) (u := (.slice A39 L.length c39)) H39.out KT (by decide)
        have hX2 := hB2.trans (hV7.mono hs2)
        obtain ⟨w6, hw6⟩ : ∃ w6, w2.setCell ⟨w.heap.size, 3, none⟩ (.slice A39 L.length c39) = w6 := ⟨_, rfl⟩
        rw [hw6] at KT5 KR5 ho5
        have hB6 : Below w.heap.size w w6 := by
          rw [← hw6]
          exact hX2.setCell (p := ⟨w.heap.size, 3, none⟩) (Nat.le_refl _) _
        have hlen5 := HLEN.out
        have hL := HL.out
        have HG6 := mid_good HG0.out hB6 ho5 (by omega) (fun y hy => by
          rw [← hL] at hy
          rcases List.mem_append.1 hy with h | h
          · exact HG0.out.gsets_.el y (List.mem_of_mem_take h)
          · exact HG0.out.gsets_.el y (List.mem_of_mem_drop h))
        have HCP := Lib.hid (copy_any _ w6 HG6)
        have hpl : ({ x with sets_ := ⟨A39, L, c39⟩ } : MTenant).plain = { x.plain with sets_ := delS p x.plain.sets_ } := by
          rw [HD.out, hL]
          rfl
        have HPL := Lib.hid hpl
        have HGG := Lib.hid HG6
        have hs6 := hB6.size
        have hlr := KR5.lt
        have HWW := Lib.hid hw6
        simp only [List.set_cons_zero, List.set_cons_succ] at KT5
        clear hpl HG6 hw6 ho5 HCC HR5 H39 hL hlen5
        obtain ⟨m0, m1, m2, m3, m4, m5, m6⟩ := KT5.all7
        try rw [HWW.out]
        go_wp2_with fail
        refine HCP.out.mono ?_
        rintro e w7 ⟨y, rfl, ho7, hp7, hB7⟩
        have K8 := KR5.of hB7
        have hX8 := hB6.trans (hB7.mono hs6)
        obtain ⟨zr0, zr1, zr2, zr3, zr4, zr5, zr6⟩ := K8.all7
        obtain ⟨zrf0, zrf1, zrf2, zrf3, zrf4, zrf5, zrf6⟩ := K8.fz7
        go_wp2
        generalize hwE : World.setCell _ ⟨a1.heap.size, 6, none⟩ _ = wE
        obtain ⟨KE, SE, ZE, BE⟩ := store7 K8 hwE
        obtain ⟨ze0, ze1, ze2, ze3, ze4, ze5, ze6⟩ := KE.all7
        refine bodyPost_ret (v := .tuple #[.agg #[.string y.name_, .int .i64 y.quota_, .int .i64 y.next_, .slice y.sets_.A y.sets_.l.length y.sets_.c, .slice y.grants_.A y.grants_.l.length y.grants_.c, .slice y.stages_.A y.stages_.l.length y.stages_.c, .slice y.log_.A y.log_.l.length y.log_.c], .int .i64 0]) (by simp [results, Tryz.results10, go_sem, ze0, ze1, ze2, ze3, ze4, ze5, ze6]) rfl ?_
        exact ⟨y, rfl, (ho7.store hlr SE).base hs6, MTenant.Good.of_own HGG.out hp7 (ho7.store hlr SE), hp7.trans HPL.out, BE _ _ hX8 hs1⟩
      · have hE : goneE x.plain p = 43 := by unfold goneE; rw [if_neg hk, if_neg (by rw [hbz]; decide), hsa]; show (if heldS s.plain = true then (43 : Int) else 0) = 43; rw [hhe]; rfl
        have hc : goneU x.plain p = (noT, 43) := by unfold goneU; rw [hE, if_pos (by decide)]
        rw [hc]
        have HH : Hid (∀ W, Below a2.heap.size a2 W → Calls Tryz.prog 38 #[.agg s.cells.toArray] W fun e w' => e = .returned (.bool true) ∧ Below W.heap.size W w') := Lib.hid fun W hW => by
          have := isHeld_any s W (((hx2.below hW).gsets_.el s (List.mem_of_getElem? hj)).gsnaps_)
          rwa [hhe] at this
        have HJ := Lib.hid hj
        clear hc hE hx hx2 hk hk0 hbz hhe hsa hok hip hnt hI hj hsp
        go_enter Tryz.func10, Tryz.ntmps10
        go_upto_region 1 with fail
        rw [HW1.out, HW2.out]
        try rw [hX2]
        go_wp2_with fail
        refine HR.out.mono ?_
        rintro e w3 ⟨rfl, hV⟩
        have K1 := k1.of hV
        have K2 := k2.of hV
        obtain ⟨d0, d1, d2, d3, d4, d5, d6⟩ := K1.all7
        go_wp2_with fail
        refine (HF.out _ hV).mono ?_
        rintro e w4 ⟨rfl, hV2⟩
        have hV3 := hV.trans (hV2.mono hV.size)
        have K3 := K1.of hV2
        have K4 := K2.of hV2
        obtain ⟨b, off, hA, hb, hcc⟩ := Rd.elem (n := 5) (fun _ => rfl) (by omega) (HG.out.gsets_.rd.below hV3) HJ.out
        have c0 : w4.cell? ⟨b, off + j * 5, none⟩ = some (.string s.path_) := hcc 0 _ rfl
        have c1 : w4.cell? ⟨b, off + j * 5 + 1, none⟩ = some (.string s.origin_) := hcc 1 _ rfl
        have c2 : w4.cell? ⟨b, off + j * 5 + 2, none⟩ = some (.slice s.body_.A s.body_.l.length s.body_.c) := hcc 2 _ rfl
        have c3 : w4.cell? ⟨b, off + j * 5 + 3, none⟩ = some (.slice s.snaps_.A s.snaps_.l.length s.snaps_.c) := hcc 3 _ rfl
        have c4 : w4.cell? ⟨b, off + j * 5 + 4, none⟩ = some (.slice s.own_.A s.own_.l.length s.own_.c) := hcc 4 _ rfl
        obtain ⟨e0, e1, e2, e3, e4, e5, e6⟩ := K3.all7
        rw [hA] at e3
        have HA := Lib.hid hA
        have HH2 := Lib.hid (HH.out w4 hV3)
        clear hcc hA
        go_wp2_with fail
        refine HH2.out.mono ?_
        rintro e w5 ⟨rfl, hV4⟩
        have hV5 := hV3.trans (hV4.mono hV3.size)
        have K5 := K3.of hV4
        have K6 := K4.of hV4
        have hX := hB2.trans (hV5.mono hs2)
        obtain ⟨zr0, zr1, zr2, zr3, zr4, zr5, zr6⟩ := K6.all7
        obtain ⟨zrf0, zrf1, zrf2, zrf3, zrf4, zrf5, zrf6⟩ := K6.fz7
        go_wp2
        generalize hwE : World.setCell _ ⟨a1.heap.size, 6, none⟩ _ = wE
        obtain ⟨KE, SE, ZE, BE⟩ := store7 K6 hwE
        obtain ⟨ze0, ze1, ze2, ze3, ze4, ze5, ze6⟩ := KE.all7
        refine bodyPost_ret (v := .tuple #[.agg #[.string ⟨#[]⟩, .int .i64 0, .int .i64 0, .slice none 0 0, .slice none 0 0, .slice none 0 0, .slice none 0 0], .int .i64 43]) (by simp [results, Tryz.results10, go_sem, ze0, ze1, ze2, ze3, ze4, ze5, ze6]) rfl ?_
        exact ansT_no (BE _ _ hX hs1)
    · rw [hbz] at HF
      have hE : goneE x.plain p = 44 := by unfold goneE; rw [if_neg hk, if_pos hbz]
      have hc : goneU x.plain p = (noT, 44) := by unfold goneU; rw [hE, if_pos (by decide)]
      rw [hc]
      clear hc hE hx hx2 hk hk0 hbz hsa hok hip hnt hI hj hsp
      go_enter Tryz.func10, Tryz.ntmps10
      go_upto_region 1 with fail
      rw [HW1.out, HW2.out]
      try rw [hX2]
      go_wp2_with fail
      refine HR.out.mono ?_
      rintro e w3 ⟨rfl, hV⟩
      have K1 := k1.of hV
      have K2 := k2.of hV
      obtain ⟨d0, d1, d2, d3, d4, d5, d6⟩ := K1.all7
      go_wp2_with fail
      refine (HF.out _ hV).mono ?_
      rintro e w4 ⟨rfl, hV2⟩
      have hV3 := hV.trans (hV2.mono hV.size)
      have K3 := K1.of hV2
      have K4 := K2.of hV2
      have hX := hB2.trans (hV3.mono hs2)
      obtain ⟨zr0, zr1, zr2, zr3, zr4, zr5, zr6⟩ := K4.all7
      obtain ⟨zrf0, zrf1, zrf2, zrf3, zrf4, zrf5, zrf6⟩ := K4.fz7
      go_wp2
      generalize hwE : World.setCell _ ⟨a1.heap.size, 6, none⟩ _ = wE
      obtain ⟨KE, SE, ZE, BE⟩ := store7 K4 hwE
      obtain ⟨ze0, ze1, ze2, ze3, ze4, ze5, ze6⟩ := KE.all7
      refine bodyPost_ret (v := .tuple #[.agg #[.string ⟨#[]⟩, .int .i64 0, .int .i64 0, .slice none 0 0, .slice none 0 0, .slice none 0 0, .slice none 0 0], .int .i64 44]) (by simp [results, Tryz.results10, go_sem, ze0, ze1, ze2, ze3, ze4, ze5, ze6]) rfl ?_
      exact ansT_no (BE _ _ hX hs1)

end Go.Proofs.YtnioelkibghplaaGreat

namespace Go.Proofs.YtnioelkibghplaaGreat
open Go.ChangeShapes Go.WideShapes Go.ChangeAt Go.RowKit
set_option maxRecDepth 100000
set_option linter.unusedSimpArgs false
theorem num16_any (n : Int) (w : World) :
    Calls Tryz.prog 15 #[.int .i64 n] w fun e w' => e = .returned (.int .i64 n) ∧ w = w' := by
  go_enter Tryz.func15, Tryz.ntmps15
  go_wp2
  go_ret
  exact ⟨rfl, rfl⟩

def nT : ByteArray := ⟨#[116]⟩
def nA : ByteArray := ⟨#[97]⟩
def setN0 : MSet := ⟨ByteArray.empty, ByteArray.empty, ⟨none, [], 0⟩, ⟨none, [], 0⟩, ⟨none, [], 0⟩⟩
def tenN (g : Nat) : MTenant := ⟨nT, 9, 1, ⟨some ⟨g, 0, none⟩, [setN0], 1⟩, ⟨none, [], 0⟩, ⟨none, [], 0⟩, ⟨none, [], 0⟩⟩
theorem tenN_good {g : Nat} {W : World} (k : Blk W g 62 setN0.cells) : (tenN g).Good W := by
  refine ⟨(by show nT.size ≤ 140737488351232; decide), (by show (-9223372036854775808 : Int) ≤ 9 ∧ (9 : Int) ≤ 9223372036854775807; decide), (by show (-9223372036854775808 : Int) ≤ 1 ∧ (1 : Int) ≤ 9223372036854775807; decide), ⟨?_, ?_, by simp [tenN], (fun h => by cases h), by simp [tenN]⟩, slNone _ _ _ _, slNone _ _ _ _, slNone _ _ _ _⟩
  · intro _
    refine ⟨g, 0, rfl, k.lt, fun j u hu => ?_⟩
    rw [Nat.zero_add, k.cell j]
    simpa [tenN] using hu
  · intro y hy
    simp [tenN] at hy
    subst hy
    exact ⟨by decide, by decide, slNone _ _ _ _, slNone _ _ _ _, slNone _ _ _ _⟩
theorem tenN_ok (g : Nat) : okT (tenN g).plain = true := by
  unfold okT
  rw [Bool.and_eq_true, Bool.and_eq_true, Bool.and_eq_true, Bool.and_eq_true, Bool.and_eq_true, Bool.and_eq_true, Bool.and_eq_true, Bool.and_eq_true, Bool.and_eq_true, Bool.and_eq_true]
  refine ⟨(by show isName (bs nT) = true; decide), (by show amt 0 9 = true; decide), (by show amt 1 1 = true; decide), rfl, ?_, (by show okG [] = true; decide), rfl, rfl, ?_, (by show goodL stageB ltInto [] = true; rfl), rfl⟩
  · simp [hasSet, setAt, tenN, MTenant.plain, setN0, MSet.plain]
  · simp [goodL, riseB, tenN, MTenant.plain, setN0, MSet.plain, setB, upB, (upP_none (p := ByteArray.empty) (by decide)).2 rfl, origB, snapsB, noTwo]
    decide
theorem tenN_sets (g : Nat) : (tenN g).plain.sets_ = [⟨ByteArray.empty, ByteArray.empty, [], [], []⟩] := rfl
theorem upA : upP nA = some ByteArray.empty := by
  unfold upP
  rw [if_neg (by intro h; rcases h with h | h; exact absurd h (by decide); exact absurd (congrArg ByteArray.size h) (by decide))]
  congr 1
theorem tenN_create (g : Nat) : createU (tenN g).plain nA = ({ (tenN g).plain with sets_ := [⟨ByteArray.empty, ByteArray.empty, [], [], []⟩, newP nA] }, 0) := by
  have hne : ¬ (ByteArray.empty = nA) := fun h => absurd (congrArg ByteArray.size h) (by decide)
  have h1 : askE (tenN g).plain nA = 0 := by
    unfold askE
    rw [if_neg (by rw [tenN_ok]; decide), if_neg (by decide)]
  have h2 : roomU (tenN g).plain nA = 0 := by
    unfold roomU
    rw [if_neg, if_neg, if_neg]
    · rw [tenN_sets]
      decide
    · rw [upA]
      unfold hasSet setAt
      rw [tenN_sets]
      simp
    · unfold hasSet setAt
      rw [tenN_sets]
      simp [hne]
  have h3 : insS (newP nA) [⟨ByteArray.empty, ByteArray.empty, [], [], []⟩] = [⟨ByteArray.empty, ByteArray.empty, [], [], []⟩, newP nA] := by
    have h4 : ltTx ByteArray.empty nA = true := by
      show Op.bytesLess ByteArray.empty.toList nA.toList = true
      rw [Lib.toList_data, Lib.toList_data]
      decide
    rw [insS_all (by
      intro x hx
      rw [List.mem_singleton] at hx
      subst hx
      exact h4)]
    rfl
  unfold createU
  rw [if_neg (by rw [h1]; decide), if_neg (by rw [h2]; decide)]
  unfold setlP withP
  rw [tenN_sets, h3]
  rw [if_pos (by
    show wrap64 ((2 : Nat) : Int) ≤ 9
    unfold wrap64
    omega)]

set_option maxHeartbeats 1000000 in
theorem newN (w : World) :
    Calls Tryz.prog 48 #[.string ⟨#[116]⟩, .int .i64 9] w fun e w' => ∃ g, e = .returned (.tuple #[.agg #[.string ⟨#[116]⟩, .int .i64 9, .int .i64 1, .slice (some ⟨g, 0, none⟩) 1 1, .slice none 0 0, .slice none 0 0, .slice none 0 0], .int .i64 0]) ∧ Blk w' g 62 [.string ByteArray.empty, .string ByteArray.empty, .slice none 0 0, .slice none 0 0, .slice none 0 0] ∧ Below w.heap.size w w' := by
  have HN : Hid (∀ W, Calls Tryz.prog 62 #[.string nT] W fun e w' => e = .returned (.bool true) ∧ W = w') := Lib.hid fun W => by
    have := refName_any nT (by decide) W
    rwa [show isName (bs nT) = true by decide] at this
  have HA : Hid (∀ W, Calls Tryz.prog 63 #[.int .i64 9, .int .i64 0] W fun e w' => e = .returned (.bool true) ∧ Below W.heap.size W w') := Lib.hid fun W => by
    have := amountB 0 9 W
    rwa [show amt 0 9 = true by decide] at this
  obtain ⟨a1, hw1⟩ : ∃ a1, w.alloc (.cells #[.string ⟨#[]⟩, .int .i64 0, .int .i64 0, .slice none 0 0, .slice none 0 0, .slice none 0 0, .slice none 0 0] 27) = a1 := ⟨_, rfl⟩
  have hB1 : Below w.heap.size w a1 := hw1 ▸ (Below.refl _ w).alloc (Nat.le_refl _) _
  have k1 : Blk a1 w.heap.size 27 [.string ⟨#[]⟩, .int .i64 0, .int .i64 0, .slice none 0 0, .slice none 0 0, .slice none 0 0, .slice none 0 0] := hw1 ▸ Blk.new w _ _
  have hs1 := hB1.size
  have HW1 := Lib.hid hw1
  have e1 : (⟨#[116]⟩ : ByteArray) = nT := rfl
  rw [e1]
  clear hw1 e1
  generalize nT = t at *
  go_enter Tryz.func48, Tryz.ntmps48
  go_upto_region 1 with fail
  rw [HW1.out]
  go_wp2_with fail
  refine (HN.out _).mono ?_
  rintro e w3 ⟨rfl, hw3⟩
  subst hw3
  have hV := Below.refl a1.heap.size a1
  go_wp2_with fail
  refine (HA.out _).mono ?_
  rintro e w4 ⟨rfl, hV2⟩
  have hV3 := hV.trans (hV2.mono hV.size)
  have K2 := k1.of hV3
  have hX := hB1.trans (hV3.mono hs1)
  have hlt := K2.lt
  have hs4 := hX.size
  obtain ⟨zr0, zr1, zr2, zr3, zr4, zr5, zr6⟩ := K2.all7
  obtain ⟨zrf0, zrf1, zrf2, zrf3, zrf4, zrf5, zrf6⟩ := K2.fz7
  go_wp2
  generalize hwE : World.setCell _ ⟨w.heap.size, 6, none⟩ _ = wE
  obtain ⟨KE, SE, ZE, BE⟩ := store7 K2 hwE
  have KS : Blk (wE.alloc (.cells #[.string ⟨#[]⟩, .string ⟨#[]⟩, .slice none 0 0, .slice none 0 0, .slice none 0 0] 62)) wE.heap.size 62 [.string ⟨#[]⟩, .string ⟨#[]⟩, .slice none 0 0, .slice none 0 0, .slice none 0 0] := Blk.new wE _ _
  rw [ZE] at KS
  have K6 := KE.alloc (.cells #[.string ⟨#[]⟩, .string ⟨#[]⟩, .slice none 0 0, .slice none 0 0, .slice none 0 0] 62)
  have hX5 := (BE _ _ hX (Nat.le_refl _)).alloc (by rw [ZE]; exact hs4) (.cells #[.string ⟨#[]⟩, .string ⟨#[]⟩, .slice none 0 0, .slice none 0 0, .slice none 0 0] 62)
  obtain ⟨ze0, ze1, ze2, ze3, ze4, ze5, ze6⟩ := K6.all7
  refine bodyPost_ret (v := .tuple #[.agg #[.string t, .int .i64 9, .int .i64 1, .slice (some ⟨w4.heap.size, 0, none⟩) 1 1, .slice none 0 0, .slice none 0 0, .slice none 0 0], .int .i64 0]) (by simp [results, Tryz.results48, go_sem, ze0, ze1, ze2, ze3, ze4, ze5, ze6]) rfl ?_
  exact ⟨w4.heap.size, rfl, KS, hX5⟩

set_option maxHeartbeats 1000000 in
theorem alive16_any (w : World) : Calls Tryz.prog 16 #[] w fun e w' => e = .returned (.bool true) ∧ Below w.heap.size w w' := by
  have H1 := Lib.hid (newN w)
  have HN := Lib.hid (fun W => num16_any 0 W)
  have HC : Hid (∀ g W, Blk W g 62 setN0.cells → Calls Tryz.prog 8 #[.agg (tenN g).cells.toArray, .string ⟨#[97]⟩] W fun e w' => ∃ y : MTenant, e = .returned (.tuple #[.agg y.cells.toArray, .int .i64 0]) ∧ y.Good w' ∧ y.plain.sets_ = [⟨ByteArray.empty, ByteArray.empty, [], [], []⟩, newP nA] ∧ Below W.heap.size W w') := Lib.hid fun g W k => by
    have := create_any (tenN g) nA (by decide) W (tenN_good k)
    rw [tenN_create] at this
    exact this.mono fun e w' ⟨y, a, _, b, c, d⟩ => ⟨y, a, b, by rw [c], d⟩
  go_enter Tryz.func16, Tryz.ntmps16
  go_wp2_with fail
  refine H1.out.mono ?_
  rintro e w1 ⟨g, rfl, hb, hV1⟩
  obtain ⟨w2, hw2⟩ : ∃ w2, w1.alloc (.cells #[.string ⟨#[116]⟩, .int .i64 9, .int .i64 1, .slice (some ⟨g, 0, none⟩) 1 1, .slice none 0 0, .slice none 0 0, .slice none 0 0] 27) = w2 := ⟨_, rfl⟩
  have hV2 : Below w1.heap.size w1 w2 := hw2 ▸ (Below.refl _ w1).alloc (Nat.le_refl _) _
  have k2 : Blk w2 w1.heap.size 27 [.string ⟨#[116]⟩, .int .i64 9, .int .i64 1, .slice (some ⟨g, 0, none⟩) 1 1, .slice none 0 0, .slice none 0 0, .slice none 0 0] := hw2 ▸ Blk.new w1 _ _
  have hb2 := hb.of hV2
  have hX2 := hV1.trans (hV2.mono hV1.size)
  have HW2 := Lib.hid hw2
  clear hw2
  go_upto_region 2 with fail
  rw [HW2.out]
  obtain ⟨q0, q1, q2, q3, q4, q5, q6⟩ := k2.all7
  have HC2 := Lib.hid (HC.out g w2 hb2)
  go_wp2_with fail
  refine HC2.out.mono ?_
  rintro e w3 ⟨y, rfl, hgy, hpy, hV3⟩
  obtain ⟨yn, yq, yt, ⟨A, l, c⟩, yg, ys, yl⟩ := y
  have hpl : l.map MSet.plain = [⟨ByteArray.empty, ByteArray.empty, [], [], []⟩, newP nA] := hpy
  have h2l : l.length = 2 := by
    have := congrArg List.length hpl
    simpa using this
  obtain ⟨s1, hs1⟩ : ∃ s1, l[1]? = some s1 := ⟨_, List.getElem?_eq_getElem (by omega)⟩
  have hs1p : s1.path_ = nA := by
    have h3 : (l.map MSet.plain)[1]? = some s1.plain := by rw [List.getElem?_map, hs1]; rfl
    rw [hpl] at h3
    simp only [List.getElem?_cons_succ, List.getElem?_cons_zero, Option.some.injEq] at h3
    have h4 := congrArg PSet.path_ h3
    exact h4.symm
  obtain ⟨b, off, hA, hbl, hc⟩ := Rd.elem (n := 5) (fun _ => rfl) (by omega) hgy.gsets_.rd hs1
  have hA2 : A = some ⟨b, off, none⟩ := hA
  subst hA2
  have c0 : w3.cell? ⟨b, off + 1 * 5, none⟩ = some (.string s1.path_) := hc 0 _ rfl
  rw [hs1p] at c0
  obtain ⟨w4, hw4⟩ : ∃ w4, w3.alloc (.cells #[.string yn, .int .i64 yq, .int .i64 yt, .slice (some ⟨b, off, none⟩) l.length c, .slice yg.A yg.l.length yg.c, .slice ys.A ys.l.length ys.c, .slice yl.A yl.l.length yl.c] 27) = w4 := ⟨_, rfl⟩
  have hV4 : Below w3.heap.size w3 w4 := hw4 ▸ (Below.refl _ w3).alloc (Nat.le_refl _) _
  have k4 : Blk w4 w3.heap.size 27 [.string yn, .int .i64 yq, .int .i64 yt, .slice (some ⟨b, off, none⟩) l.length c, .slice yg.A yg.l.length yg.c, .slice ys.A ys.l.length ys.c, .slice yl.A yl.l.length yl.c] := hw4 ▸ Blk.new w3 _ _
  have d0 := (hV4.cell (p := ⟨b, off + 1 * 5, none⟩) hbl).trans c0
  have hX3 := hX2.trans (hV3.mono hX2.size)
  have hX4 := hX3.trans (hV4.mono hX3.size)
  rw [h2l] at k4 hw4
  have HW4 := Lib.hid hw4
  clear hw4 hc c0 hgy hpy hpl hs1 hA
  go_upto_region 3 with fail
  rw [HW4.out]
  obtain ⟨z0, z1, z2, z3, z4, z5, z6⟩ := k4.all7
  go_wp2_with fail
  refine (HN.out w4).mono ?_
  rintro e w5 ⟨rfl, hw5⟩
  subst hw5
  have hn : nA = (⟨#[97]⟩ : ByteArray) := rfl
  rw [hn] at d0
  go_wp2
  go_ret
  exact ⟨rfl, hX4⟩

end Go.Proofs.YtnioelkibghplaaGreat

namespace Go.Proofs.YtnioelkibghplaaGreat
open Go.ChangeShapes Go.WideShapes Go.ChangeAt Go.RowKit
set_option maxRecDepth 100000
set_option linter.unusedSimpArgs false

theorem wp_append_rdS {P : Program} {w : World} {o : Oper} {a : Act} {K : Act → World → Prop} {Q : Exit → Act → World → Prop} (s x : Operand) (t : TypeId)
    (ho : o.op = .call { callee := .builtin .append, args := #[s, x], argTypes := #[t, t] })
    (base : Nat) (e : TypeId) (i : TypeInfo) (z : Value) (size bytes : Nat) (ht : P.underlying t = some (.slice e)) (hi : P.info? e = some i) (hz : i.zero = some z) (hsize : i.size = size) (hby : i.bytes = bytes) (hzs : z.cells.size = size) (hsz : 0 < size)
    (v : Value) (n : Nat) (xs : List Value) (hs : a.eval s = v) (hown : w.ownsRow base e size v n xs)
    (A : Option Addr) (m c : Nat) (news : List Value) (hx : a.eval x = .slice A m c) (hl : news.length = m * size) (hr : Rd w A news) (hnil : A = none → c = 0) (h1 : ∀ u ∈ news, u.oneCell' = true)
    (h63 : n + m ≤ maxLen) (hbytes : (n + m) * bytes ≤ 140737488355328) (hbase : base ≤ w.heap.size)
    (h : ∀ v' w', w'.ownsRow base e size v' (n + m) (xs ++ news) → w.grownBy w' v.ownBlock → K (a.put o.dst v') w') : o.wp P a w K Q := by
  rcases A with _ | ad
  · have hz : news = [] := by
      rcases news with _ | ⟨u, us⟩
      · rfl
      · obtain ⟨b, off, e, _⟩ := hr (by simp)
        cases e
    subst hz
    obtain rfl : m = 0 := by
      rcases Nat.eq_zero_or_pos m with h0 | h0
      · exact h0
      · have := Nat.mul_pos h0 hsz
        simp at hl
        omega
    have := hnil rfl
    subst this
    have hrun := run_append_owned_none (P := P) (w := w) base t o.type e i size ht hi v n xs hown
    have h2 := h v w (by simpa using hown) (World.grownBy.refl w _)
    unfold Oper.wp
    simp [execOp, ho, resolve, invoke, builtin, hs, hx, hrun, Result.andThen]
    exact h2
  · refine wp_append_own w s x t ho base e i z size bytes ht hi hz hsize hby hzs hsz v n xs hs hown ad m c news hx hl ?_ h1 h63 hbytes hbase (fun v' w' a b _ => h v' w' a b)
    intro j u hu
    obtain ⟨b, off, e, _, hc⟩ := hr (by rintro rfl; simp at hu)
    injection e with e
    subst e
    rw [add_plain]
    exact hc j u hu
theorem busy_parts (x : MTenant) (p : ByteArray) : busyP x.plain p = (p.toList.isEmpty || (!(kidsT x.plain p).isEmpty || (!(clonesP x.plain p).isEmpty || x.stages_.l.any fun s : MStage => decide (s.into_ = p)))) := by
  have hst : (x.plain.stages_.any fun s : PStage => decide (s.into_ = p)) = x.stages_.l.any fun s : MStage => decide (s.into_ = p) := by
    rw [show x.plain.stages_ = x.stages_.l.map MStage.plain from rfl, List.any_map]
    rfl
  unfold busyP
  rw [hst, show decide (p = ByteArray.empty) = p.toList.isEmpty by
    rw [← beqS, Lib.toList_data, Lib.toList_data]
    show (p.data.toList == []) = _
    rcases p.data.toList with _ | ⟨a, l⟩ <;> rfl]
  simp only [Bool.or_assoc]
theorem anyT_take {α : Type} {q : α → Bool} {l : List α} {k : Nat} {y : α} (hy : l[k]? = some y) : (l.take (k + 1)).any q = ((l.take k).any q || q y) := by
  rw [List.take_add_one, hy, List.any_append]
  simp
theorem any_yes {α : Type} {q : α → Bool} {l : List α} {k : Nat} {y : α} (hy : l[k]? = some y) (h : q y = true) : l.any q = true := List.any_eq_true.2 ⟨y, List.mem_of_getElem? hy, h⟩
theorem heldS_m (s : MSet) : heldS s.plain = s.snaps_.l.any fun x : MSnap => decide (x.tags_.l ≠ []) := by
  unfold heldS
  rw [show s.plain.snaps_ = s.snaps_.l.map MSnap.plain from rfl, List.any_map]
  rfl
set_option maxHeartbeats 4000000 in
theorem refDestroy_any (x : MTenant) (p : ByteArray) (hp : p.size ≤ 4398046511104) (w : World) (hx : x.Good w) (ht : x.Tiny) :
    Calls Tryz.prog 11 #[.agg x.cells.toArray, .string p] w fun e w' => AnsG w (goneU x.plain p) e w' := by
  obtain ⟨a1, hw1⟩ : ∃ a1, w.alloc (.cells #[.string x.name_, .int .i64 x.quota_, .int .i64 x.next_, .slice x.sets_.A x.sets_.l.length x.sets_.c, .slice x.grants_.A x.grants_.l.length x.grants_.c, .slice x.stages_.A x.stages_.l.length x.stages_.c, .slice x.log_.A x.log_.l.length x.log_.c] 27) = a1 := ⟨_, rfl⟩
  have b1 : Below w.heap.size w a1 := hw1 ▸ (Below.refl _ w).alloc (Nat.le_refl _) _
  have k1 : Blk a1 w.heap.size 27 [.string x.name_, .int .i64 x.quota_, .int .i64 x.next_, .slice x.sets_.A x.sets_.l.length x.sets_.c, .slice x.grants_.A x.grants_.l.length x.grants_.c, .slice x.stages_.A x.stages_.l.length x.stages_.c, .slice x.log_.A x.log_.l.length x.log_.c] := hw1 ▸ Blk.new w _ _
  obtain ⟨a2, hw2⟩ : ∃ a2, a1.alloc (.cells #[.string ⟨#[]⟩, .int .i64 0, .int .i64 0, .slice none 0 0, .slice none 0 0, .slice none 0 0, .slice none 0 0] 27) = a2 := ⟨_, rfl⟩
  have b2 : Below a1.heap.size a1 a2 := hw2 ▸ (Below.refl _ a1).alloc (Nat.le_refl _) _
  have k2 : Blk a2 a1.heap.size 27 [.string ⟨#[]⟩, .int .i64 0, .int .i64 0, .slice none 0 0, .slice none 0 0, .slice none 0 0, .slice none 0 0] := hw2 ▸ Blk.new a1 _ _
  have hX2 : w.heap.size + 1 = a1.heap.size := by rw [← hw1, World.size_alloc]
  have hB1 : Below w.heap.size w a1 := b1
  have hB2 : Below w.heap.size w a2 := hB1.trans (b2.mono hB1.size)
  have k1 := k1.of b2
  have hs2 := hB2.size
  have hs1 := hB1.size
  have ht1 : a1.heap.size ≤ a2.heap.size := b2.size
  have HW1 := Lib.hid hw1
  have HW2 := Lib.hid hw2
  clear hw1 b1 hw2 b2
  have hx2 := hx.below hB2
  have HR := Lib.hid (refAsked_any x p hp a2 hx2 ht)
  have HF := Lib.hid (fun W (hW : Below a2.heap.size a2 W) => refFind_any x p W (hx2.below hW))
  have HK := Lib.hid (fun W (hW : Below a2.heap.size a2 W) => refKids_any x p W (hx2.below hW) ht)
  have HC := Lib.hid (fun W (hW : Below a2.heap.size a2 W) => refClones_any x p W (hx2.below hW) ht)
  have HO := Lib.hid (fun W (hW : Below a2.heap.size a2 W) => refOwnT_any x W (hx2.below hW))
  have hlk1 := k1.lt
  have hlk2 := k2.lt
  have HG := Lib.hid hx2
  have hlst := hx.gstages_.len
  obtain ⟨q0, q1, q2, q3, q4, q5, q6⟩ := k1.all7
  by_cases hk : askE x.plain p ≠ 0
  · have hpe : placeE x.plain p = askE x.plain p := if_pos hk
    have hE : goneE x.plain p = askE x.plain p := by unfold goneE; rw [if_pos (by rw [hpe]; exact hk), hpe]
    have hc : goneU x.plain p = (noT, askE x.plain p) := by unfold goneU; rw [hE, if_pos hk]
    rw [hc]
    generalize askE x.plain p = E at *
    clear hc hE hpe hx hx2
    go_enter Tryz.func11, Tryz.ntmps11
    go_upto_region 1 with fail
    rw [HW1.out, HW2.out]
    try rw [hX2]
    go_wp2_with fail
    refine HR.out.mono ?_
    rintro e w3 ⟨rfl, hV⟩
    have K2 := k2.of hV
    have hX := hB2.trans (hV.mono hs2)
    obtain ⟨zr0, zr1, zr2, zr3, zr4, zr5, zr6⟩ := K2.all7
    obtain ⟨zrf0, zrf1, zrf2, zrf3, zrf4, zrf5, zrf6⟩ := K2.fz7
    go_wp2
    generalize hwE : World.setCell _ ⟨a1.heap.size, 6, none⟩ _ = wE
    obtain ⟨KE, SE, ZE, BE⟩ := store7 K2 hwE
    obtain ⟨ze0, ze1, ze2, ze3, ze4, ze5, ze6⟩ := KE.all7
    refine bodyPost_ret (v := .tuple #[.agg #[.string ⟨#[]⟩, .int .i64 0, .int .i64 0, .slice none 0 0, .slice none 0 0, .slice none 0 0, .slice none 0 0], .int .i64 E]) (by simp [results, Tryz.results11, go_sem, ze0, ze1, ze2, ze3, ze4, ze5, ze6]) rfl ?_
    exact ansG_no (BE _ _ hX hs1)
  · have hk0 : askE x.plain p = 0 := Classical.not_not.1 hk
    rw [hk0] at HR
    have hh := hasSet_find x p
    by_cases h0 : 0 ≤ findM x p
    · have hpl0 : placeE x.plain p = 0 := by unfold placeE; rw [if_neg hk, if_pos (by rw [hh]; exact decide_eq_true h0)]
      obtain ⟨j, s, hI, hj, hsp, hsa, hok, hip, hnt⟩ := place_ways hpl0
      have hfj : findM x p = j := by rw [← hI]; unfold placeI; rw [if_neg (by rw [hpl0]; decide)]
      rw [hfj] at HF
      have hjl : j < x.sets_.l.length := (List.getElem?_eq_some_iff.1 hj).1
      have hbp := busy_parts x p
      have hE : goneE x.plain p = if busyP x.plain p = true then 44 else if heldS s.plain = true then 43 else 0 := by unfold goneE; rw [if_neg (by rw [hpl0]; decide), hsa]
      have hcap := hx.gsets_.cap
      have hnil := hx.gsets_.nil
      have hlen := hx.gsets_.len
      have hnl : s.snaps_.l.length * 96 ≤ 140737488351232 := (hx.gsets_.el s (List.mem_of_getElem? hj)).gsnaps_.len
      have hdel : delS p x.plain.sets_ = (x.sets_.l.take j ++ x.sets_.l.drop (j + 1)).map MSet.plain := by
        rw [delS_at (j := j) (s := s.plain) (by show (x.sets_.l.map MSet.plain)[j]? = _; rw [List.getElem?_map, hj]; rfl) hsp (fun y hy => by
          rw [show x.plain.sets_ = x.sets_.l.map MSet.plain from rfl, ← List.map_take] at hy
          obtain ⟨z, hz, rfl⟩ := List.mem_map.1 hy
          exact hnt z hz)]
        rw [show x.plain.sets_ = x.sets_.l.map MSet.plain from rfl, List.map_append, List.map_take, List.map_drop]
      have HD := Lib.hid hdel
      have HJ := Lib.hid hj
      have HE := Lib.hid hE
      have HH := Lib.hid (heldS_m s)
      have HBP := Lib.hid hbp
      obtain ⟨P, hP⟩ : ∃ P, goneU x.plain p = P := ⟨_, rfl⟩
      rw [hP]
      have HPP := Lib.hid hP
      generalize hKS : kidsT x.plain p = KS at *
      generalize hCS : clonesP x.plain p = CS at *
      obtain ⟨kb, hkb⟩ : ∃ kb, p.toList.isEmpty = kb := ⟨_, rfl⟩
      have HKB := Lib.hid hkb
      clear hP hE hdel hbp hh hx hx2 hk hk0 hpl0 hI hsp hsa hok hip hnt hfj hKS hCS hkb h0
      go_enter Tryz.func11, Tryz.ntmps11
      go_upto_region 1 with fail
      rw [HW1.out, HW2.out]
      try rw [hX2]
      go_wp2_with fail
      refine HR.out.mono ?_
      rintro e w3 ⟨rfl, hV⟩
      have K1 := k1.of hV
      have K2 := k2.of hV
      obtain ⟨d0, d1, d2, d3, d4, d5, d6⟩ := K1.all7
      go_wp2_with fail
      refine (HF.out _ hV).mono ?_
      rintro e w4 ⟨rfl, hV2⟩
      have hV3 := hV.trans (hV2.mono hV.size)
      have K3 := K1.of hV2
      have K4 := K2.of hV2
      obtain ⟨e0, e1, e2, e3, e4, e5, e6⟩ := K3.all7
      have hkb := HKB.out
      rcases kb with _ | _
      · skip
        go_wp2_with fail
        refine (HK.out _ hV3).mono ?_
        rintro e w5 ⟨v, rfl, ho, hV4⟩
        obtain ⟨A3, c3, rfl, _, _, _, _⟩ := ownAny ho
        have hV5 := hV3.trans (hV4.mono hV3.size)
        have K5 := K3.of hV4
        have K6 := K4.of hV4
        clear ho
        obtain ⟨t0, t1, t2, t3, t4, t5, t6⟩ := K5.all7
        rcases KS with _ | ⟨ks, KS⟩
        · skip
          go_wp2_with fail
          refine (HC.out _ hV5).mono ?_
          rintro e w6 ⟨v, rfl, ho, hV6⟩
          obtain ⟨A4, c4, rfl, _, _, _, _⟩ := ownAny ho
          have hV7 := hV5.trans (hV6.mono hV5.size)
          have K7 := K5.of hV6
          have K8 := K6.of hV6
          clear ho
          obtain ⟨n0, n1, n2, n3, n4, n5, n6⟩ := K7.all7
          rcases CS with _ | ⟨cs, CS⟩
          · skip
            have HB0 : Hid (busyP x.plain p = x.stages_.l.any fun s : MStage => decide (s.into_ = p)) := Lib.hid (by rw [HBP.out, HKB.out]; simp)
            have HRS := Lib.hid ((HG.out.below hV7).gstages_.rd)
            have HRN := Lib.hid ((HG.out.below hV7).gsets_.rd)
            go_wp2
            go_loopw [8] (fun i W => ∃ k : Nat, k ≤ x.stages_.l.length ∧ i = .int .i64 k ∧ Hid (((x.stages_.l.take k).any fun s : MStage => decide (s.into_ = p)) = false) ∧ W = w6) (fun i _ => x.stages_.l.length - (intOf i).toNat)
            case atStart => exact ⟨0, Nat.zero_le _, rfl, Lib.hid rfl, rfl⟩
            case round =>
              obtain ⟨k, hk, rfl, HN, rfl⟩ := hrel
              by_cases hlt : k < x.stages_.l.length
              · obtain ⟨y, hy⟩ : ∃ y, x.stages_.l[k]? = some y := ⟨_, List.getElem?_eq_getElem hlt⟩
                obtain ⟨b, off, hA, hb, hc⟩ := Rd.elem (n := 21) (fun _ => rfl) (by omega) HRS.out hy
                have c0 : wr.cell? ⟨b, off + k * 21, none⟩ = some (.string y.into_) := hc 0 _ rfl
                rw [hA] at n5
                obtain ⟨qb, hqb⟩ : ∃ qb, (y.into_.toList == p.toList) = qb := ⟨_, rfl⟩
                have hqy : decide (y.into_ = p) = qb := by rw [← beqS, hqb]
                have HY := Lib.hid hy
                have HQY := Lib.hid hqy
                have HA := Lib.hid hA
                clear hc hy hqy hA
                rcases qb with _ | _
                · have HN' : Hid (((x.stages_.l.take (k + 1)).any fun s : MStage => decide (s.into_ = p)) = false) := Lib.hid (by rw [anyT_take HY.out, HN.out, HQY.out]; rfl)
                  clear HN HY HQY
                  go_wp2
                  go_roundw
                  case rel => exact ⟨k + 1, by omega, by go_num, HN', trivial⟩
                  case measure => simp [intOf]; omega
                · have hbz : busyP x.plain p = true := by rw [HB0.out]; exact any_yes HY.out HQY.out
                  have hE1 : goneE x.plain p = 44 := by rw [HE.out, if_pos hbz]
                  have hc : P = (noT, 44) := by rw [← HPP.out]; unfold goneU; rw [hE1, if_pos (by decide)]
                  subst hc
                  have hX := hB2.trans (hV7.mono hs2)
                  clear hE1 hbz HN HY HQY
                  obtain ⟨zr0, zr1, zr2, zr3, zr4, zr5, zr6⟩ := K8.all7
                  obtain ⟨zrf0, zrf1, zrf2, zrf3, zrf4, zrf5, zrf6⟩ := K8.fz7
                  go_wp2
                  generalize hwE : World.setCell _ ⟨a1.heap.size, 6, none⟩ _ = wE
                  obtain ⟨KE, SE, ZE, BE⟩ := store7 K8 hwE
                  obtain ⟨ze0, ze1, ze2, ze3, ze4, ze5, ze6⟩ := KE.all7
                  refine bodyPost_ret (v := .tuple #[.agg #[.string ⟨#[]⟩, .int .i64 0, .int .i64 0, .slice none 0 0, .slice none 0 0, .slice none 0 0, .slice none 0 0], .int .i64 44]) (by simp [results, Tryz.results11, go_sem, ze0, ze1, ze2, ze3, ze4, ze5, ze6]) rfl ?_
                  exact ansG_no (BE _ _ hX hs1)
              · obtain rfl : k = x.stages_.l.length := by omega
                rw [List.take_length] at HN
                have HB1 : Hid (busyP x.plain p = false) := Lib.hid (by rw [HB0.out, HN.out])
                obtain ⟨b, off, hA, hb, hc⟩ := Rd.elem (n := 5) (fun _ => rfl) (by omega) HRN.out HJ.out
                have c3 : wr.cell? ⟨b, off + j * 5 + 3, none⟩ = some (.slice s.snaps_.A s.snaps_.l.length s.snaps_.c) := hc 3 _ rfl
                have hGS := Lib.hid (((HG.out.below hV7).gsets_.el s (List.mem_of_getElem? HJ.out)).gsnaps_.rd)
                rw [hA] at n3
                have HA := Lib.hid hA
                clear hc hA
                go_wp2
                go_loopw [9] (fun i W => ∃ k : Nat, k ≤ s.snaps_.l.length ∧ i = .int .i64 k ∧ Hid (((s.snaps_.l.take k).any fun x : MSnap => decide (x.tags_.l ≠ [])) = false) ∧ W = wr) (fun i _ => s.snaps_.l.length - (intOf i).toNat)
                case atStart => exact ⟨0, Nat.zero_le _, rfl, Lib.hid rfl, rfl⟩
                case round =>
                  obtain ⟨k, hk, rfl, HN, rfl⟩ := hrel
                  by_cases hlt : k < s.snaps_.l.length
                  · obtain ⟨y, hy⟩ : ∃ y, s.snaps_.l[k]? = some y := ⟨_, List.getElem?_eq_getElem hlt⟩
                    obtain ⟨b2, off2, hA2, hb2, hc2⟩ := Rd.elem (n := 5) (fun _ => rfl) (by omega) hGS.out hy
                    have e3' : wr.cell? ⟨b2, off2 + k * 5 + 3, none⟩ = some (.slice y.tags_.A y.tags_.l.length y.tags_.c) := hc2 3 _ rfl
                    rw [hA2] at c3
                    obtain ⟨qb, hqb⟩ : ∃ qb, decide (0 < y.tags_.l.length) = qb := ⟨_, rfl⟩
                    have hqy : decide (y.tags_.l ≠ []) = qb := by rw [← hqb]; rcases y.tags_.l with _ | ⟨a, l⟩ <;> simp
                    have HY := Lib.hid hy
                    have HQY := Lib.hid hqy
                    have HA2 := Lib.hid hA2
                    clear hc2 hy hqy hA2
                    rcases qb with _ | _
                    · have HN' : Hid (((s.snaps_.l.take (k + 1)).any fun x : MSnap => decide (x.tags_.l ≠ [])) = false) := Lib.hid (by rw [anyT_take HY.out, HN.out, HQY.out]; rfl)
                      have hq2 : ¬ 0 < y.tags_.l.length := of_decide_eq_false hqb
                      clear HN HY HQY hqb
                      go_wp2
                      go_roundw
                      case rel => exact ⟨k + 1, by omega, by go_num, HN', trivial⟩
                      case measure => simp [intOf]; omega
                    · have hhe : heldS s.plain = true := by rw [HH.out]; exact any_yes HY.out HQY.out
                      have hE1 : goneE x.plain p = 43 := by rw [HE.out, if_neg (show ¬ busyP x.plain p = true by rw [HB1.out]; decide), if_pos hhe]
                      have hc : P = (noT, 43) := by rw [← HPP.out]; unfold goneU; rw [hE1, if_pos (by decide)]
                      subst hc
                      have hX := hB2.trans (hV7.mono hs2)
                      have hq2 : 0 < y.tags_.l.length := of_decide_eq_true hqb
                      clear hE1 hhe HN HY HQY hqb
                      obtain ⟨zr0, zr1, zr2, zr3, zr4, zr5, zr6⟩ := K8.all7
                      obtain ⟨zrf0, zrf1, zrf2, zrf3, zrf4, zrf5, zrf6⟩ := K8.fz7
                      go_wp2
                      generalize hwE : World.setCell _ ⟨a1.heap.size, 6, none⟩ _ = wE
                      obtain ⟨KE, SE, ZE, BE⟩ := store7 K8 hwE
                      obtain ⟨ze0, ze1, ze2, ze3, ze4, ze5, ze6⟩ := KE.all7
                      refine bodyPost_ret (v := .tuple #[.agg #[.string ⟨#[]⟩, .int .i64 0, .int .i64 0, .slice none 0 0, .slice none 0 0, .slice none 0 0, .slice none 0 0], .int .i64 43]) (by simp [results, Tryz.results11, go_sem, ze0, ze1, ze2, ze3, ze4, ze5, ze6]) rfl ?_
                      exact ansG_no (BE _ _ hX hs1)
                  · obtain rfl : k = s.snaps_.l.length := by omega
                    rw [List.take_length] at HN
                    have hhe : heldS s.plain = false := by rw [HH.out, HN.out]
                    have hE1 : goneE x.plain p = 0 := by rw [HE.out, if_neg (show ¬ busyP x.plain p = true by rw [HB1.out]; decide), if_neg (show ¬ heldS s.plain = true by rw [hhe]; decide)]
                    have hc : P = ({ x.plain with sets_ := delS p x.plain.sets_ }, 0) := by rw [← HPP.out]; unfold goneU; rw [hE1, if_neg (by decide)]
                    subst hc
                    clear hE1 hhe HN
                    go_upto_region 19 with fail
                    clear n0 n1 n2 n3 n4 n5 n6
                    obtain ⟨h0, h1, h2, h3, h4, h5, h6⟩ := K7.all7
                    have HOW := Lib.hid (HO.out wr hV7)
                    go_wp2_with fail
                    refine HOW.out.mono ?_
                    rintro e w8 ⟨y, rfl, ho8, hp8, hV8⟩
                    obtain ⟨Z, hZ⟩ : ∃ Z, w8.alloc (.cells #[.string y.name_, .int .i64 y.quota_, .int .i64 y.next_, .slice y.sets_.A y.sets_.l.length y.sets_.c, .slice y.grants_.A y.grants_.l.length y.grants_.c, .slice y.stages_.A y.stages_.l.length y.stages_.c, .slice y.log_.A y.log_.l.length y.log_.c] 27) = Z := ⟨_, rfl⟩
                    have hVZ : Below w8.heap.size w8 Z := hZ ▸ (Below.refl _ w8).alloc (Nat.le_refl _) _
                    have kY : Blk Z w8.heap.size 27 [.string y.name_, .int .i64 y.quota_, .int .i64 y.next_, .slice y.sets_.A y.sets_.l.length y.sets_.c, .slice y.grants_.A y.grants_.l.length y.grants_.c, .slice y.stages_.A y.stages_.l.length y.stages_.c, .slice y.log_.A y.log_.l.length y.log_.c] := hZ ▸ Blk.new w8 _ _
                    have hs78 := hV8.size
                    have hs8Z := hVZ.size
                    have hoZ := ho8.below hVZ
                    have hVV := hV7.trans ((hV8.trans (hVZ.mono hs78)).mono hV7.size)
                    have K9 := (K8.of hV8).of hVZ
                    have HZ := Lib.hid hZ
                    have hgy : y.Good Z := MTenant.Good.of_own HG.out hp8 hoZ
                    have hyl : y.sets_.l.map MSet.plain = x.sets_.l.map MSet.plain := congrArg PTenant.sets_ hp8
                    have hyn : y.sets_.l.length = x.sets_.l.length := map_len hyl
                    have hycap := hgy.gsets_.cap
                    have hynil := hgy.gsets_.nil
                    have hylen := hgy.gsets_.len
                    have hjl2 : j < y.sets_.l.length := by rw [hyn]; exact hjl
                    have HRY := Lib.hid hgy.gsets_.rd
                    have HGY := Lib.hid hgy
                    have HOZ := Lib.hid hoZ
                    have HP8 := Lib.hid hp8
                    have hdl : delS p x.plain.sets_ = (y.sets_.l.take j ++ y.sets_.l.drop (j + 1)).map MSet.plain := by
                      rw [HD.out, List.map_append, List.map_append, List.map_take, List.map_take, List.map_drop, List.map_drop, hyl]
                    have HDL := Lib.hid hdl
                    have hlo := fun W => run_lo y.sets_.A y.sets_.l.length y.sets_.c j (Nat.le_trans (Nat.le_of_lt hjl2) hycap) W
                    have hhi := fun W => run_hi1 y.sets_.A y.sets_.l.length y.sets_.c j hjl2 (by omega) W
                    have hjt : (y.sets_.l.take j).length = j := by rw [List.length_take]; exact Nat.min_eq_left (Nat.le_of_lt hjl2)
                    have hjd : (y.sets_.l.drop (j + 1)).length = y.sets_.l.length - (j + 1) := by simp
                    have hltY := kY.lt
                    obtain ⟨i0, hi, hz0, hz1, hz2⟩ := infoParts infoSe7
                    clear hyl hyn hgy hoZ hp8 ho8 hdl hZ
                    go_upto_region 21 with fail
                    try rw [HZ.out]
                    obtain ⟨m0, m1, m2, m3, m4, m5, m6⟩ := kY.all7
                    obtain ⟨mf0, mf1, mf2, mf3, mf4, mf5, mf6⟩ := kY.fz7
                    refine wp_region_noPanic ?_
                    refine wp_region_last 12 (fun W => W.cell? ⟨w8.heap.size, 3, none⟩ = some (.slice y.sets_.A y.sets_.l.length y.sets_.c)) (by kernel_rfl) m3 (fun hHeld => ?_)
                    refine wpAnyL_take 16 (i := 0) (oi := ⟨some 84, _, _, _, _, _⟩) (v := ?_) rfl (by kernel_rfl) (by kernel_rfl) (by kernel_rfl) (by kernel_rfl) (by kernel_rfl) (by kernel_rfl) (by kernel_rfl) (fun _ _ _ h => h) (Or.inl ⟨by rfl, ?_⟩) hHeld ?_
                    rotate_left
                    focus (intro w hSw; (try dsimp only at hSw); go_simp; try (with_reducible rfl))
                    try simp only [Act.put, pA, pB, pC]
                    refine wpAnyL_take 16 (i := 1) (oi := ⟨some 85, _, _, _, _, _⟩) (v := ?_) rfl (by kernel_rfl) (by kernel_rfl) (by kernel_rfl) (by kernel_rfl) (by kernel_rfl) (by kernel_rfl) (by kernel_rfl) (fun _ _ _ h => h) (Or.inl ⟨by rfl, ?_⟩) hHeld ?_
                    rotate_left
                    focus (intro w hSw; (try dsimp only at hSw); go_simp; try (with_reducible rfl))
                    try simp only [Act.put, pA, pB, pC]
                    refine wpAnyL_take 16 (i := 2) (oi := ⟨some 86, _, _, _, _, _⟩) (v := ?_) rfl (by kernel_rfl) (by kernel_rfl) (by kernel_rfl) (by kernel_rfl) (by kernel_rfl) (by kernel_rfl) (by kernel_rfl) (fun _ _ _ h => h) (Or.inl ⟨by rfl, ?_⟩) hHeld ?_
                    rotate_left
                    focus (intro w hSw; (try dsimp only at hSw); go_simp; try (with_reducible rfl))
                    try simp only [Act.put, pA, pB, pC]
                    refine wpAnyL_take 16 (i := 3) (oi := ⟨some 87, _, _, _, _, _⟩) (v := ?_) rfl (by kernel_rfl) (by kernel_rfl) (by kernel_rfl) (by kernel_rfl) (by kernel_rfl) (by kernel_rfl) (by kernel_rfl) (fun _ _ _ h => h) (Or.inl ⟨by rfl, ?_⟩) hHeld ?_
                    rotate_left
                    focus (intro w hSw; (try dsimp only at hSw); go_simp; try (with_reducible rfl))
                    try simp only [Act.put, pA, pB, pC]
                    refine wpAnyL_take 16 (i := 6) (oi := ⟨some 90, _, _, _, _, _⟩) (v := ?_) rfl (by kernel_rfl) (by kernel_rfl) (by kernel_rfl) (by kernel_rfl) (by kernel_rfl) (by kernel_rfl) (by kernel_rfl) (fun _ _ _ h => h) (Or.inl ⟨by rfl, ?_⟩) hHeld ?_
                    rotate_left
                    focus (intro w hSw; (try dsimp only at hSw); go_simp; try (with_reducible rfl))
                    try simp only [Act.put, pA, pB, pC]
                    refine wpAnyL_take 16 (i := 7) (oi := ⟨some 91, _, _, _, _, _⟩) (v := ?_) rfl (by kernel_rfl) (by kernel_rfl) (by kernel_rfl) (by kernel_rfl) (by kernel_rfl) (by kernel_rfl) (by kernel_rfl) (fun _ _ _ h => h) (Or.inl ⟨by rfl, ?_⟩) hHeld ?_
                    rotate_left
                    focus (intro w hSw; (try dsimp only at hSw); go_simp; try (with_reducible rfl))
                    try simp only [Act.put, pA, pB, pC]
                    refine wpAnyL_take 16 (i := 8) (oi := ⟨some 92, _, _, _, _, _⟩) (v := ?_) rfl (by kernel_rfl) (by kernel_rfl) (by kernel_rfl) (by kernel_rfl) (by kernel_rfl) (by kernel_rfl) (by kernel_rfl) (fun _ _ _ h => h) (Or.inl ⟨by rfl, ?_⟩) hHeld ?_
                    rotate_left
                    focus (intro w hSw; (try dsimp only at hSw); go_simp; try (with_reducible rfl))
                    try simp only [Act.put, pA, pB, pC]
                    refine wpAnyL_take 16 (i := 9) (oi := ⟨some 93, _, _, _, _, _⟩) (v := ?_) rfl (by kernel_rfl) (by kernel_rfl) (by kernel_rfl) (by kernel_rfl) (by kernel_rfl) (by kernel_rfl) (by kernel_rfl) (fun _ _ _ h => h) (Or.inl ⟨by rfl, ?_⟩) hHeld ?_
                    rotate_left
                    focus (intro w hSw; (try dsimp only at hSw); go_simp; try (with_reducible rfl))
                    try simp only [Act.put, pA, pB, pC]
                    clear hHeld
                    refine wpAnyL_facts 16 3 2 [(4, 88), (5, 89), (10, 94)] (fun s v w => match s with
                      | 88 => v = .slice (cutA y.sets_.A y.sets_.c 0) j y.sets_.c
                      | 89 => w.ownsRow Z.heap.size 62 5 v j ((y.sets_.l.take j).flatMap MSet.cells)
                      | 94 => v = .slice (cutA y.sets_.A y.sets_.c (j + 1)) (y.sets_.l.length - (j + 1)) (y.sets_.c - (j + 1))
                      | _ => True) (fun w w' => Below w.heap.size w w') (by kernel_rfl) (by kernel_rfl) (fun w w' h h' => h.trans (h'.mono h.size)) ⟨?_, ?_, ?_, trivial⟩ (fun w' hB => (hB.cell (p := ⟨w8.heap.size, 3, none⟩) hltY).trans m3) ⟨?_, ?_, ?_, trivial⟩ ?_
                    focus
                      intro v w w' h hB
                      exact h
                    focus
                      intro v w w' h hB
                      exact (ownBelow h hB (Nat.le_refl _))
                    focus
                      intro v w w' h hB
                      exact h
                    focus
                      intro vs w2 hBf hFf o ho K hK
                      obtain rfl : (⟨some 88, _, _, _, _, _⟩ : Oper) = o := Option.some.inj ho
                      clear ho
                      (try simp only [fillL, List.foldl_cons, List.foldl_nil, Act.put, List.setIfInBounds_toArray, List.set_cons_zero, List.set_cons_succ] at hK ⊢)
                      go_simp
                      refine hK.out _ _ ⟨rfl, Below.refl _ _⟩
                    focus
                      intro vs w2 hBf hFf o ho K hK
                      obtain rfl : (⟨some 89, _, _, _, _, _⟩ : Oper) = o := Option.some.inj ho
                      clear ho
                      (try simp only [fillL, List.foldl_cons, List.foldl_nil, Act.put, List.setIfInBounds_toArray, List.set_cons_zero, List.set_cons_succ] at hK ⊢)
                      have e88 := (hFf (4, 88) (by simp) (by kernel_rfl))
                      simp only [] at e88
                      simp only [e88] at hK ⊢
                      rw [if_pos (by rfl)]
                      have hB2w : Below Z.heap.size Z w2 := (Below.refl Z.heap.size Z).drew.trans hBf
                      refine wp_append_rdS _ _ 22 (by rfl) Z.heap.size 62 i0 (.agg #[.string ByteArray.empty, .string ByteArray.empty, .slice none 0 0, .slice none 0 0, .slice none 0 0]) 5 104 Tryz.underlying22 hi hz0 hz1 hz2 rfl (by omega) (.slice none 0 0) 0 [] (by rfl) (ownNone _ _ _ _) (cutA y.sets_.A y.sets_.c 0) j y.sets_.c ((y.sets_.l.take j).flatMap MSet.cells) (by rfl) (by rw [flat_len (cells := MSet.cells) (n := 5) (fun _ => rfl), hjt]) (cutS_take (HRY.out.below hB2w) j) (fun e => by have := cutS_none (j := 0) hynil e; simpa using this) (fun u hu => by obtain ⟨z, _, hu⟩ := List.mem_flatMap.1 hu; exact oneSe z u hu) (by unfold maxLen; omega) (by omega) hB2w.size ?_
                      intro v7 w7 ho7 hg7
                      exact hK.out _ _ ⟨ownBare ho7, (Below.refl w2.heap.size w2).grown hg7 (Nat.le_refl _) (fun j e => by cases e)⟩
                    focus
                      intro vs w2 hBf hFf o ho K hK
                      obtain rfl : (⟨some 94, _, _, _, _, _⟩ : Oper) = o := Option.some.inj ho
                      clear ho
                      (try simp only [fillL, List.foldl_cons, List.foldl_nil, Act.put, List.setIfInBounds_toArray, List.set_cons_zero, List.set_cons_succ] at hK ⊢)
                      go_simp
                      refine hK.out _ _ ⟨rfl, Below.refl _ _⟩
                    intro vs w2 hBf hFf
                    (try simp only [fillL, List.foldl_cons, List.foldl_nil, Act.put, List.setIfInBounds_toArray, List.set_cons_zero, List.set_cons_succ])
                    have h89 := (hFf (5, 89) (by simp))
                    have e94 := (hFf (10, 94) (by simp))
                    simp only [] at h89 e94
                    simp only [e94]
                    have hBw : Below Z.heap.size Z w2 := (Below.refl Z.heap.size Z).drew.trans hBf
                    have H89 := Lib.hid h89
                    have HRw := Lib.hid (HRY.out.below hBw)
                    have hszw := hBw.size
                    have hHeld : (fun W => W.cell? ⟨w8.heap.size, 3, none⟩ = some (.slice y.sets_.A y.sets_.l.length y.sets_.c)) w2 := (hBf.cell (p := ⟨w8.heap.size, 3, none⟩) hltY).trans m3
                    refine wpAnyL_one (i := 11) (o := ⟨some 95, _, _, _, _, _⟩) (by kernel_rfl) rfl (fun K hK => ?_)
                    clear hHeld
                    rw [if_pos (by rfl)]
                    refine wp_append_rdS _ _ 22 (by rfl) Z.heap.size 62 i0 (.agg #[.string ByteArray.empty, .string ByteArray.empty, .slice none 0 0, .slice none 0 0, .slice none 0 0]) 5 104 Tryz.underlying22 hi hz0 hz1 hz2 rfl (by omega) _ j ((y.sets_.l.take j).flatMap MSet.cells) (by rfl) H89.out (cutA y.sets_.A y.sets_.c (j + 1)) (y.sets_.l.length - (j + 1)) (y.sets_.c - (j + 1)) ((y.sets_.l.drop (j + 1)).flatMap MSet.cells) (by rfl) (by rw [flat_len (cells := MSet.cells) (n := 5) (fun _ => rfl), hjd]) (cutS_drop HRw.out hycap (j + 1)) (cutS_none hynil) (fun u hu => by obtain ⟨z, _, hu⟩ := List.mem_flatMap.1 hu; exact oneSe z u hu) (by unfold maxLen; omega) (by omega) hszw ?_
                    intro v9 w9 ho9 hg9
                    have hB9 : Below Z.heap.size Z w9 := hBw.grown hg9 hszw (fun j e => (H89.out.lt j e).1)
                    have c9 := (hB9.cell (p := ⟨w8.heap.size, 3, none⟩) hltY).trans m3
                    obtain ⟨A95, c95, rfl, _, _, _, _⟩ := ownAny ho9
                    have HO9 := Lib.hid ho9
                    have HB9 := Lib.hid hB9
                    clear ho9 hg9 hB9
                    refine hK.out _ _ c9 (fun hHeld => ?_)
                    clear hK K
                    try simp only [Act.put, pA, pB, pC]
                    refine wpAnyL_last (i := 12) (o := ⟨some 11, _, _, _, _, _⟩) (by kernel_rfl) rfl (by kernel_rfl) (fun K hK => ?_)
                    go_simp
                    refine hK.out _ _ ?_
                    clear hK K
                    try simp only [Act.put, pA, pB, pC]
                    refine wpAnyL_done (by kernel_rfl) ?_ _
                    refine NoPanic.normal ?_
                    obtain ⟨L, hL⟩ : ∃ L, y.sets_.l.take j ++ y.sets_.l.drop (j + 1) = L := ⟨_, rfl⟩
                    have hN : j + (y.sets_.l.length - (j + 1)) = L.length := by rw [← hL, List.length_append, hjt, hjd]
                    have hLl : L.length ≤ y.sets_.l.length := by rw [← hN]; omega
                    have ho9 := HO9.out
                    rw [← List.flatMap_append, hL, hN] at ho9
                    have KY9 := kY.below HB9.out hltY
                    have hlkr := K8.lt
                    have hlk9 := K9.lt
                    have K10 := (K9.below HB9.out hlk9)
                    have hoy9 := HOZ.out.below HB9.out
                    have hne : a1.heap.size ≠ w8.heap.size := by omega
                    have KT10 := KY9.set 3 (.slice A95 L.length c95)
                    have K11 := K10.other (g' := w8.heap.size) hne 3 (.slice A95 L.length c95)
                    have ho10 := own_setT (j := 3) (u := .slice A95 L.length c95) ho9 KY9 (by decide)
                    have hoy10 := hoy9.setBox KY9 3 (.slice A95 L.length c95)
                    have hX9 := hB2.trans ((hVV.trans (HB9.out.mono hVV.size)).mono hs2)
                    obtain ⟨w10, hw10⟩ : ∃ w10, w9.setCell ⟨w8.heap.size, 3, none⟩ (.slice A95 L.length c95) = w10 := ⟨_, rfl⟩
                    rw [hw10] at KT10 K11 ho10 hoy10
                    have hX10 : Below w.heap.size w w10 := by
                      rw [← hw10]
                      exact hX9.setCell (p := ⟨w8.heap.size, 3, none⟩) (Nat.le_trans hs2 (Nat.le_trans hV7.size hs78)) _
                    have hgy10 : y.Good w10 := MTenant.Good.of_own HGY.out rfl hoy10
                    have hlen9 := HGY.out.gsets_.len
                    have hmem : ∀ s ∈ L, s ∈ y.sets_.l := fun s hs => by
                      rw [← hL] at hs
                      rcases List.mem_append.1 hs with h | h
                      · exact List.mem_of_mem_take h
                      · exact List.mem_of_mem_drop h
                    have hmg := mid_good hgy10 (Below.refl _ _) ho10 (by omega) (fun s hs => hgy10.gsets_.el s (hmem s hs))
                    have hlz : wr.heap.size ≤ Z.heap.size := by omega
                    have hOT : OwnTe wr.heap.size w10 ({ y with sets_ := ⟨A95, L, c95⟩ } : MTenant) := ⟨ownBase ho10 hlz, hoy10.grants, hoy10.stages, hoy10.log, fun s hs => hoy10.eset s (hmem s hs), hoy10.estage⟩
                    have hpl : ({ y with sets_ := ⟨A95, L, c95⟩ } : MTenant).plain = { x.plain with sets_ := delS p x.plain.sets_ } := by
                      rw [HDL.out, hL, ← HP8.out]
                      rfl
                    have HMG := Lib.hid hmg
                    have HOT := Lib.hid hOT
                    have HPL := Lib.hid hpl
                    have HW10 := Lib.hid hw10
                    simp only [List.set_cons_zero, List.set_cons_succ] at KT10
                    rw [hN]
                    clear hN hmg hOT hpl hw10 hgy10 hoy10 hoy9 ho9 ho10 m0 m1 m2 m3 m4 m5 m6 mf0 mf1 mf2 mf3 mf4 mf5 mf6
                    obtain ⟨r0, r1, r2, r3, r4, r5, r6⟩ := KY9.all7
                    obtain ⟨rf0, rf1, rf2, rf3, rf4, rf5, rf6⟩ := KY9.fz7
                    go_upto_region 23 with fail
                    rw [HW10.out]
                    obtain ⟨v0, v1, v2, v3, v4, v5, v6⟩ := KT10.all7
                    obtain ⟨zr0, zr1, zr2, zr3, zr4, zr5, zr6⟩ := K11.all7
                    obtain ⟨zrf0, zrf1, zrf2, zrf3, zrf4, zrf5, zrf6⟩ := K11.fz7
                    go_wp2
                    generalize hwE : World.setCell _ ⟨a1.heap.size, 6, none⟩ _ = wE
                    obtain ⟨KE, SE, ZE, BE⟩ := store7 K11 hwE
                    obtain ⟨ze0, ze1, ze2, ze3, ze4, ze5, ze6⟩ := KE.all7
                    refine bodyPost_ret (v := .tuple #[.agg #[.string y.name_, .int .i64 y.quota_, .int .i64 y.next_, .slice A95 L.length c95, .slice y.grants_.A y.grants_.l.length y.grants_.c, .slice y.stages_.A y.stages_.l.length y.stages_.c, .slice y.log_.A y.log_.l.length y.log_.c], .int .i64 0]) (by simp [results, Tryz.results11, go_sem, ze0, ze1, ze2, ze3, ze4, ze5, ze6]) rfl ?_
                    exact ⟨_, rfl, MTenant.Good.of_own HMG.out rfl (HOT.out.store hlkr SE), HPL.out, BE _ _ hX10 hs1⟩
          · skip
            have hc2 : 0 < (cs :: CS).length := by simp
            have hb : busyP x.plain p = true := by rw [HBP.out, HKB.out]; simp
            have hE1 : goneE x.plain p = 44 := by rw [HE.out, if_pos hb]
            have hc : P = (noT, 44) := by rw [← HPP.out]; unfold goneU; rw [hE1, if_pos (by decide)]
            subst hc
            have hX := hB2.trans (hV7.mono hs2)
            clear hb hE1
            obtain ⟨zr0, zr1, zr2, zr3, zr4, zr5, zr6⟩ := K8.all7
            obtain ⟨zrf0, zrf1, zrf2, zrf3, zrf4, zrf5, zrf6⟩ := K8.fz7
            go_wp2
            generalize hwE : World.setCell _ ⟨a1.heap.size, 6, none⟩ _ = wE
            obtain ⟨KE, SE, ZE, BE⟩ := store7 K8 hwE
            obtain ⟨ze0, ze1, ze2, ze3, ze4, ze5, ze6⟩ := KE.all7
            refine bodyPost_ret (v := .tuple #[.agg #[.string ⟨#[]⟩, .int .i64 0, .int .i64 0, .slice none 0 0, .slice none 0 0, .slice none 0 0, .slice none 0 0], .int .i64 44]) (by simp [results, Tryz.results11, go_sem, ze0, ze1, ze2, ze3, ze4, ze5, ze6]) rfl ?_
            exact ansG_no (BE _ _ hX hs1)
        · skip
          have hc2 : 0 < (ks :: KS).length := by simp
          have hb : busyP x.plain p = true := by rw [HBP.out, HKB.out]; simp
          have hE1 : goneE x.plain p = 44 := by rw [HE.out, if_pos hb]
          have hc : P = (noT, 44) := by rw [← HPP.out]; unfold goneU; rw [hE1, if_pos (by decide)]
          subst hc
          have hX := hB2.trans (hV5.mono hs2)
          clear hb hE1
          obtain ⟨zr0, zr1, zr2, zr3, zr4, zr5, zr6⟩ := K6.all7
          obtain ⟨zrf0, zrf1, zrf2, zrf3, zrf4, zrf5, zrf6⟩ := K6.fz7
          go_wp2
          generalize hwE : World.setCell _ ⟨a1.heap.size, 6, none⟩ _ = wE
          obtain ⟨KE, SE, ZE, BE⟩ := store7 K6 hwE
          obtain ⟨ze0, ze1, ze2, ze3, ze4, ze5, ze6⟩ := KE.all7
          refine bodyPost_ret (v := .tuple #[.agg #[.string ⟨#[]⟩, .int .i64 0, .int .i64 0, .slice none 0 0, .slice none 0 0, .slice none 0 0, .slice none 0 0], .int .i64 44]) (by simp [results, Tryz.results11, go_sem, ze0, ze1, ze2, ze3, ze4, ze5, ze6]) rfl ?_
          exact ansG_no (BE _ _ hX hs1)
      · skip
        have hb : busyP x.plain p = true := by rw [HBP.out, HKB.out]; simp
        have hE1 : goneE x.plain p = 44 := by rw [HE.out, if_pos hb]
        have hc : P = (noT, 44) := by rw [← HPP.out]; unfold goneU; rw [hE1, if_pos (by decide)]
        subst hc
        have hX := hB2.trans (hV3.mono hs2)
        clear hb hE1
        obtain ⟨zr0, zr1, zr2, zr3, zr4, zr5, zr6⟩ := K4.all7
        obtain ⟨zrf0, zrf1, zrf2, zrf3, zrf4, zrf5, zrf6⟩ := K4.fz7
        go_wp2
        generalize hwE : World.setCell _ ⟨a1.heap.size, 6, none⟩ _ = wE
        obtain ⟨KE, SE, ZE, BE⟩ := store7 K4 hwE
        obtain ⟨ze0, ze1, ze2, ze3, ze4, ze5, ze6⟩ := KE.all7
        refine bodyPost_ret (v := .tuple #[.agg #[.string ⟨#[]⟩, .int .i64 0, .int .i64 0, .slice none 0 0, .slice none 0 0, .slice none 0 0, .slice none 0 0], .int .i64 44]) (by simp [results, Tryz.results11, go_sem, ze0, ze1, ze2, ze3, ze4, ze5, ze6]) rfl ?_
        exact ansG_no (BE _ _ hX hs1)
    · have hpl0 : placeE x.plain p = 71 := by unfold placeE; rw [if_neg hk, if_neg (by rw [hh]; simpa using h0)]
      have hE : goneE x.plain p = 71 := by unfold goneE; rw [if_pos (by rw [hpl0]; decide), hpl0]
      have hc : goneU x.plain p = (noT, 71) := by unfold goneU; rw [hE, if_pos (by decide)]
      rw [hc]
      generalize findM x p = F at *
      clear hc hE hpl0 hh hx hx2
      go_enter Tryz.func11, Tryz.ntmps11
      go_upto_region 1 with fail
      rw [HW1.out, HW2.out]
      try rw [hX2]
      go_wp2_with fail
      refine HR.out.mono ?_
      rintro e w3 ⟨rfl, hV⟩
      have K1 := k1.of hV
      have K2 := k2.of hV
      obtain ⟨d0, d1, d2, d3, d4, d5, d6⟩ := K1.all7
      go_wp2_with fail
      refine (HF.out _ hV).mono ?_
      rintro e w4 ⟨rfl, hV2⟩
      have hV3 := hV.trans (hV2.mono hV.size)
      have K3 := K1.of hV2
      have K4 := K2.of hV2
      obtain ⟨e0, e1, e2, e3, e4, e5, e6⟩ := K3.all7
      have hX := hB2.trans (hV3.mono hs2)
      obtain ⟨zr0, zr1, zr2, zr3, zr4, zr5, zr6⟩ := K4.all7
      obtain ⟨zrf0, zrf1, zrf2, zrf3, zrf4, zrf5, zrf6⟩ := K4.fz7
      go_wp2
      generalize hwE : World.setCell _ ⟨a1.heap.size, 6, none⟩ _ = wE
      obtain ⟨KE, SE, ZE, BE⟩ := store7 K4 hwE
      obtain ⟨ze0, ze1, ze2, ze3, ze4, ze5, ze6⟩ := KE.all7
      refine bodyPost_ret (v := .tuple #[.agg #[.string ⟨#[]⟩, .int .i64 0, .int .i64 0, .slice none 0 0, .slice none 0 0, .slice none 0 0, .slice none 0 0], .int .i64 71]) (by simp [results, Tryz.results11, go_sem, ze0, ze1, ze2, ze3, ze4, ze5, ze6]) rfl ?_
      exact ansG_no (BE _ _ hX hs1)

end Go.Proofs.YtnioelkibghplaaGreat

namespace Go.Proofs.YtnioelkibghplaaGreat
open Go.ChangeShapes Go.WideShapes Go.ChangeAt Go.RowKit
set_option maxRecDepth 100000
set_option linter.unusedSimpArgs false
set_option maxHeartbeats 4000000 in
theorem tells16_walk (x : MTenant) (p : ByteArray) (hp : p.size ≤ 4398046511104) (w : World) (hx : x.Good w) (ht : x.Tiny) :
    Calls Tryz.prog 3 #[.agg x.cells.toArray, .string p] w fun e w' => e = .returned (.bool true) ∧ Below w.heap.size w w' := by
  have hp2 : p.size ≤ 140737488351232 := Nat.le_trans hp (by decide)
  obtain ⟨P1, hP1⟩ : ∃ P, createU x.plain p = P := ⟨_, rfl⟩
  obtain ⟨P3, hP3⟩ : ∃ P, goneU x.plain p = P := ⟨_, rfl⟩
  obtain ⟨P5, hP5⟩ : ∃ P, settleU x.plain = P := ⟨_, rfl⟩
  obtain ⟨a1, hw1⟩ : ∃ a1, w.alloc (.cells #[.string x.name_, .int .i64 x.quota_, .int .i64 x.next_, .slice x.sets_.A x.sets_.l.length x.sets_.c, .slice x.grants_.A x.grants_.l.length x.grants_.c, .slice x.stages_.A x.stages_.l.length x.stages_.c, .slice x.log_.A x.log_.l.length x.log_.c] 27) = a1 := ⟨_, rfl⟩
  have b1 : Below w.heap.size w a1 := hw1 ▸ (Below.refl _ w).alloc (Nat.le_refl _) _
  have k1 : Blk a1 w.heap.size 27 [.string x.name_, .int .i64 x.quota_, .int .i64 x.next_, .slice x.sets_.A x.sets_.l.length x.sets_.c, .slice x.grants_.A x.grants_.l.length x.grants_.c, .slice x.stages_.A x.stages_.l.length x.stages_.c, .slice x.log_.A x.log_.l.length x.log_.c] := hw1 ▸ Blk.new w _ _
  have hB1 : Below w.heap.size w a1 := b1
  have hs1 := hB1.size
  have HW1 := Lib.hid hw1
  clear hw1 b1
  have hx1 := hx.below hB1
  have H1 : Hid (∀ W, Below a1.heap.size a1 W → Calls Tryz.prog 8 #[.agg x.cells.toArray, .string p] W fun e w' => AnsG W P1 e w') := Lib.hid fun W hW => by
    have h9 := create_any x p hp2 W (hx1.below hW)
    rw [hP1] at h9
    exact h9.mono fun e w' h => h.ansG
  have H2 : Hid (∀ W, Below a1.heap.size a1 W → Calls Tryz.prog 9 #[.agg x.cells.toArray, .string p] W fun e w' => AnsG W P1 e w') := Lib.hid fun W hW => by
    have h9 := refCreate_any x p hp W (hx1.below hW) ht
    rw [← create_eq, hP1] at h9
    exact h9
  have H3 : Hid (∀ W, Below a1.heap.size a1 W → Calls Tryz.prog 10 #[.agg x.cells.toArray, .string p] W fun e w' => AnsG W P3 e w') := Lib.hid fun W hW => by
    have h9 := destroy_any x p hp2 W (hx1.below hW)
    rw [hP3] at h9
    exact h9.mono fun e w' h => h.ansG
  have H4 : Hid (∀ W, Below a1.heap.size a1 W → Calls Tryz.prog 11 #[.agg x.cells.toArray, .string p] W fun e w' => AnsG W P3 e w') := Lib.hid fun W hW => by
    have h9 := refDestroy_any x p hp W (hx1.below hW) ht
    rw [hP3] at h9
    exact h9
  have H5 : Hid (∀ W, Below a1.heap.size a1 W → Calls Tryz.prog 12 #[.agg x.cells.toArray] W fun e w' => AnsG W P5 e w') := Lib.hid fun W hW => by
    have h9 := settle_any x W (hx1.below hW)
    rw [hP5] at h9
    exact h9.mono fun e w' h => h.ansG
  have H6 : Hid (∀ W, Below a1.heap.size a1 W → Calls Tryz.prog 13 #[.agg x.cells.toArray] W fun e w' => AnsG W P5 e w') := Lib.hid fun W hW => by
    have h9 := refSettle_any x W (hx1.below hW) ht
    rw [hP5] at h9
    exact h9
  have HA := Lib.hid (fun W => alive16_any W)
  have HN := Lib.hid (fun n W => num16_any n W)
  clear hP1 hP3 hP5 hx hx1 ht hp hp2
  go_enter Tryz.func3, Tryz.ntmps3
  go_upto_region 1 with fail
  rw [HW1.out]
  obtain ⟨q0_0, q0_1, q0_2, q0_3, q0_4, q0_5, q0_6⟩ := k1.all7
  have G1 := Lib.hid (H1.out a1 (Below.refl a1.heap.size a1))
  go_wp2_with fail
  refine G1.out.mono ?_
  rintro e v1 ⟨y1, rfl, hg1, hp1, hV1⟩
  obtain ⟨z1, hz1⟩ : ∃ z, v1.alloc (.cells #[.string y1.name_, .int .i64 y1.quota_, .int .i64 y1.next_, .slice y1.sets_.A y1.sets_.l.length y1.sets_.c, .slice y1.grants_.A y1.grants_.l.length y1.grants_.c, .slice y1.stages_.A y1.stages_.l.length y1.stages_.c, .slice y1.log_.A y1.log_.l.length y1.log_.c] 27) = z := ⟨_, rfl⟩
  have hA1 : Below v1.heap.size v1 z1 := hz1 ▸ (Below.refl _ v1).alloc (Nat.le_refl _) _
  have kY1 : Blk z1 v1.heap.size 27 [.string y1.name_, .int .i64 y1.quota_, .int .i64 y1.next_, .slice y1.sets_.A y1.sets_.l.length y1.sets_.c, .slice y1.grants_.A y1.grants_.l.length y1.grants_.c, .slice y1.stages_.A y1.stages_.l.length y1.stages_.c, .slice y1.log_.A y1.log_.l.length y1.log_.c] := hz1 ▸ Blk.new v1 _ _
  have hW1 : Below a1.heap.size a1 z1 := hV1.trans (hA1.mono hV1.size)
  have hU1 : Below a1.heap.size a1 z1 := (Below.refl a1.heap.size a1).trans (hW1.mono (Below.refl a1.heap.size a1).size)
  have HZ1 := Lib.hid hz1
  have hgz1 := hg1.below hA1
  clear hz1 G1
  have kx1 := k1.of hW1
  clear q0_0 q0_1 q0_2 q0_3 q0_4 q0_5 q0_6
  go_upto_region 2 with fail
  rw [HZ1.out]
  obtain ⟨q1_0, q1_1, q1_2, q1_3, q1_4, q1_5, q1_6⟩ := kx1.all7
  have G2 := Lib.hid (H2.out z1 hU1)
  go_wp2_with fail
  refine G2.out.mono ?_
  rintro e v2 ⟨y2, rfl, hg2, hp2, hV2⟩
  obtain ⟨z2, hz2⟩ : ∃ z, v2.alloc (.cells #[.string y2.name_, .int .i64 y2.quota_, .int .i64 y2.next_, .slice y2.sets_.A y2.sets_.l.length y2.sets_.c, .slice y2.grants_.A y2.grants_.l.length y2.grants_.c, .slice y2.stages_.A y2.stages_.l.length y2.stages_.c, .slice y2.log_.A y2.log_.l.length y2.log_.c] 27) = z := ⟨_, rfl⟩
  have hA2 : Below v2.heap.size v2 z2 := hz2 ▸ (Below.refl _ v2).alloc (Nat.le_refl _) _
  have kY2 : Blk z2 v2.heap.size 27 [.string y2.name_, .int .i64 y2.quota_, .int .i64 y2.next_, .slice y2.sets_.A y2.sets_.l.length y2.sets_.c, .slice y2.grants_.A y2.grants_.l.length y2.grants_.c, .slice y2.stages_.A y2.stages_.l.length y2.stages_.c, .slice y2.log_.A y2.log_.l.length y2.log_.c] := hz2 ▸ Blk.new v2 _ _
  have hW2 : Below z1.heap.size z1 z2 := hV2.trans (hA2.mono hV2.size)
  have hU2 : Below a1.heap.size a1 z2 := hU1.trans (hW2.mono hU1.size)
  have HZ2 := Lib.hid hz2
  have hgz2 := hg2.below hA2
  clear hz2 G2
  have kx2 := kx1.of hW2
  have kY1 := kY1.of hW2
  have hgz1 := hgz1.below hW2
  clear q1_0 q1_1 q1_2 q1_3 q1_4 q1_5 q1_6
  go_upto_region 3 with fail
  rw [HZ2.out]
  obtain ⟨q2_0, q2_1, q2_2, q2_3, q2_4, q2_5, q2_6⟩ := kx2.all7
  have G3 := Lib.hid (H3.out z2 hU2)
  go_wp2_with fail
  refine G3.out.mono ?_
  rintro e v3 ⟨y3, rfl, hg3, hp3, hV3⟩
  obtain ⟨z3, hz3⟩ : ∃ z, v3.alloc (.cells #[.string y3.name_, .int .i64 y3.quota_, .int .i64 y3.next_, .slice y3.sets_.A y3.sets_.l.length y3.sets_.c, .slice y3.grants_.A y3.grants_.l.length y3.grants_.c, .slice y3.stages_.A y3.stages_.l.length y3.stages_.c, .slice y3.log_.A y3.log_.l.length y3.log_.c] 27) = z := ⟨_, rfl⟩
  have hA3 : Below v3.heap.size v3 z3 := hz3 ▸ (Below.refl _ v3).alloc (Nat.le_refl _) _
  have kY3 : Blk z3 v3.heap.size 27 [.string y3.name_, .int .i64 y3.quota_, .int .i64 y3.next_, .slice y3.sets_.A y3.sets_.l.length y3.sets_.c, .slice y3.grants_.A y3.grants_.l.length y3.grants_.c, .slice y3.stages_.A y3.stages_.l.length y3.stages_.c, .slice y3.log_.A y3.log_.l.length y3.log_.c] := hz3 ▸ Blk.new v3 _ _
  have hW3 : Below z2.heap.size z2 z3 := hV3.trans (hA3.mono hV3.size)
  have hU3 : Below a1.heap.size a1 z3 := hU2.trans (hW3.mono hU2.size)
  have HZ3 := Lib.hid hz3
  have hgz3 := hg3.below hA3
  clear hz3 G3
  have kx3 := kx2.of hW3
  have kY1 := kY1.of hW3
  have hgz1 := hgz1.below hW3
  have kY2 := kY2.of hW3
  have hgz2 := hgz2.below hW3
  clear q2_0 q2_1 q2_2 q2_3 q2_4 q2_5 q2_6
  go_upto_region 4 with fail
  rw [HZ3.out]
  obtain ⟨q3_0, q3_1, q3_2, q3_3, q3_4, q3_5, q3_6⟩ := kx3.all7
  have G4 := Lib.hid (H4.out z3 hU3)
  go_wp2_with fail
  refine G4.out.mono ?_
  rintro e v4 ⟨y4, rfl, hg4, hp4, hV4⟩
  obtain ⟨z4, hz4⟩ : ∃ z, v4.alloc (.cells #[.string y4.name_, .int .i64 y4.quota_, .int .i64 y4.next_, .slice y4.sets_.A y4.sets_.l.length y4.sets_.c, .slice y4.grants_.A y4.grants_.l.length y4.grants_.c, .slice y4.stages_.A y4.stages_.l.length y4.stages_.c, .slice y4.log_.A y4.log_.l.length y4.log_.c] 27) = z := ⟨_, rfl⟩
  have hA4 : Below v4.heap.size v4 z4 := hz4 ▸ (Below.refl _ v4).alloc (Nat.le_refl _) _
  have kY4 : Blk z4 v4.heap.size 27 [.string y4.name_, .int .i64 y4.quota_, .int .i64 y4.next_, .slice y4.sets_.A y4.sets_.l.length y4.sets_.c, .slice y4.grants_.A y4.grants_.l.length y4.grants_.c, .slice y4.stages_.A y4.stages_.l.length y4.stages_.c, .slice y4.log_.A y4.log_.l.length y4.log_.c] := hz4 ▸ Blk.new v4 _ _
  have hW4 : Below z3.heap.size z3 z4 := hV4.trans (hA4.mono hV4.size)
  have hU4 : Below a1.heap.size a1 z4 := hU3.trans (hW4.mono hU3.size)
  have HZ4 := Lib.hid hz4
  have hgz4 := hg4.below hA4
  clear hz4 G4
  have kx4 := kx3.of hW4
  have kY1 := kY1.of hW4
  have hgz1 := hgz1.below hW4
  have kY2 := kY2.of hW4
  have hgz2 := hgz2.below hW4
  have kY3 := kY3.of hW4
  have hgz3 := hgz3.below hW4
  clear q3_0 q3_1 q3_2 q3_3 q3_4 q3_5 q3_6
  go_upto_region 5 with fail
  rw [HZ4.out]
  obtain ⟨q4_0, q4_1, q4_2, q4_3, q4_4, q4_5, q4_6⟩ := kx4.all7
  have G5 := Lib.hid (H5.out z4 hU4)
  go_wp2_with fail
  refine G5.out.mono ?_
  rintro e v5 ⟨y5, rfl, hg5, hp5, hV5⟩
  obtain ⟨z5, hz5⟩ : ∃ z, v5.alloc (.cells #[.string y5.name_, .int .i64 y5.quota_, .int .i64 y5.next_, .slice y5.sets_.A y5.sets_.l.length y5.sets_.c, .slice y5.grants_.A y5.grants_.l.length y5.grants_.c, .slice y5.stages_.A y5.stages_.l.length y5.stages_.c, .slice y5.log_.A y5.log_.l.length y5.log_.c] 27) = z := ⟨_, rfl⟩
  have hA5 : Below v5.heap.size v5 z5 := hz5 ▸ (Below.refl _ v5).alloc (Nat.le_refl _) _
  have kY5 : Blk z5 v5.heap.size 27 [.string y5.name_, .int .i64 y5.quota_, .int .i64 y5.next_, .slice y5.sets_.A y5.sets_.l.length y5.sets_.c, .slice y5.grants_.A y5.grants_.l.length y5.grants_.c, .slice y5.stages_.A y5.stages_.l.length y5.stages_.c, .slice y5.log_.A y5.log_.l.length y5.log_.c] := hz5 ▸ Blk.new v5 _ _
  have hW5 : Below z4.heap.size z4 z5 := hV5.trans (hA5.mono hV5.size)
  have hU5 : Below a1.heap.size a1 z5 := hU4.trans (hW5.mono hU4.size)
  have HZ5 := Lib.hid hz5
  have hgz5 := hg5.below hA5
  clear hz5 G5
  have kx5 := kx4.of hW5
  have kY1 := kY1.of hW5
  have hgz1 := hgz1.below hW5
  have kY2 := kY2.of hW5
  have hgz2 := hgz2.below hW5
  have kY3 := kY3.of hW5
  have hgz3 := hgz3.below hW5
  have kY4 := kY4.of hW5
  have hgz4 := hgz4.below hW5
  clear q4_0 q4_1 q4_2 q4_3 q4_4 q4_5 q4_6
  go_upto_region 6 with fail
  rw [HZ5.out]
  obtain ⟨q5_0, q5_1, q5_2, q5_3, q5_4, q5_5, q5_6⟩ := kx5.all7
  have G6 := Lib.hid (H6.out z5 hU5)
  go_wp2_with fail
  refine G6.out.mono ?_
  rintro e v6 ⟨y6, rfl, hg6, hp6, hV6⟩
  obtain ⟨z6, hz6⟩ : ∃ z, v6.alloc (.cells #[.string y6.name_, .int .i64 y6.quota_, .int .i64 y6.next_, .slice y6.sets_.A y6.sets_.l.length y6.sets_.c, .slice y6.grants_.A y6.grants_.l.length y6.grants_.c, .slice y6.stages_.A y6.stages_.l.length y6.stages_.c, .slice y6.log_.A y6.log_.l.length y6.log_.c] 27) = z := ⟨_, rfl⟩
  have hA6 : Below v6.heap.size v6 z6 := hz6 ▸ (Below.refl _ v6).alloc (Nat.le_refl _) _
  have kY6 : Blk z6 v6.heap.size 27 [.string y6.name_, .int .i64 y6.quota_, .int .i64 y6.next_, .slice y6.sets_.A y6.sets_.l.length y6.sets_.c, .slice y6.grants_.A y6.grants_.l.length y6.grants_.c, .slice y6.stages_.A y6.stages_.l.length y6.stages_.c, .slice y6.log_.A y6.log_.l.length y6.log_.c] := hz6 ▸ Blk.new v6 _ _
  have hW6 : Below z5.heap.size z5 z6 := hV6.trans (hA6.mono hV6.size)
  have hU6 : Below a1.heap.size a1 z6 := hU5.trans (hW6.mono hU5.size)
  have HZ6 := Lib.hid hz6
  have hgz6 := hg6.below hA6
  clear hz6 G6
  have kx6 := kx5.of hW6
  have kY1 := kY1.of hW6
  have hgz1 := hgz1.below hW6
  have kY2 := kY2.of hW6
  have hgz2 := hgz2.below hW6
  have kY3 := kY3.of hW6
  have hgz3 := hgz3.below hW6
  have kY4 := kY4.of hW6
  have hgz4 := hgz4.below hW6
  have kY5 := kY5.of hW6
  have hgz5 := hgz5.below hW6
  clear q5_0 q5_1 q5_2 q5_3 q5_4 q5_5 q5_6
  go_upto_region 7 with fail
  rw [HZ6.out]
  have hT0 := Below.refl z6.heap.size z6
  obtain ⟨c0_1_0, c0_1_1, c0_1_2, c0_1_3, c0_1_4, c0_1_5, c0_1_6⟩ := kY1.all7
  obtain ⟨c0_2_0, c0_2_1, c0_2_2, c0_2_3, c0_2_4, c0_2_5, c0_2_6⟩ := kY2.all7
  have S1 := Lib.hid (refTe y1 y2 (by rw [hp1, hp2]) z6 (hgz1.below hT0) (hgz2.below hT0))
  go_wp2_with fail
  refine S1.out.mono ?_
  rintro e s1 ⟨rfl, hS1⟩
  have hT1 := hT0.trans (hS1.mono hT0.size)
  go_wp2_with fail
  refine (HN.out _ _).mono ?_
  rintro e t1 ⟨rfl, hq1⟩
  subst hq1
  clear c0_1_0 c0_1_1 c0_1_2 c0_1_3 c0_1_4 c0_1_5 c0_1_6 c0_2_0 c0_2_1 c0_2_2 c0_2_3 c0_2_4 c0_2_5 c0_2_6
  have kY1 := kY1.of hS1
  have kY2 := kY2.of hS1
  have kY3 := kY3.of hS1
  have kY4 := kY4.of hS1
  have kY5 := kY5.of hS1
  have kY6 := kY6.of hS1
  obtain ⟨c1_3_0, c1_3_1, c1_3_2, c1_3_3, c1_3_4, c1_3_5, c1_3_6⟩ := kY3.all7
  obtain ⟨c1_4_0, c1_4_1, c1_4_2, c1_4_3, c1_4_4, c1_4_5, c1_4_6⟩ := kY4.all7
  have S3 := Lib.hid (refTe y3 y4 (by rw [hp3, hp4]) s1 (hgz3.below hT1) (hgz4.below hT1))
  go_wp2_with fail
  refine S3.out.mono ?_
  rintro e s3 ⟨rfl, hS3⟩
  have hT2 := hT1.trans (hS3.mono hT1.size)
  go_wp2_with fail
  refine (HN.out _ _).mono ?_
  rintro e t3 ⟨rfl, hq3⟩
  subst hq3
  clear c1_3_0 c1_3_1 c1_3_2 c1_3_3 c1_3_4 c1_3_5 c1_3_6 c1_4_0 c1_4_1 c1_4_2 c1_4_3 c1_4_4 c1_4_5 c1_4_6
  have kY1 := kY1.of hS3
  have kY2 := kY2.of hS3
  have kY3 := kY3.of hS3
  have kY4 := kY4.of hS3
  have kY5 := kY5.of hS3
  have kY6 := kY6.of hS3
  obtain ⟨c2_5_0, c2_5_1, c2_5_2, c2_5_3, c2_5_4, c2_5_5, c2_5_6⟩ := kY5.all7
  obtain ⟨c2_6_0, c2_6_1, c2_6_2, c2_6_3, c2_6_4, c2_6_5, c2_6_6⟩ := kY6.all7
  have S5 := Lib.hid (refTe y5 y6 (by rw [hp5, hp6]) s3 (hgz5.below hT2) (hgz6.below hT2))
  go_wp2_with fail
  refine S5.out.mono ?_
  rintro e s5 ⟨rfl, hS5⟩
  have hT3 := hT2.trans (hS5.mono hT2.size)
  go_wp2_with fail
  refine (HN.out _ _).mono ?_
  rintro e t5 ⟨rfl, hq5⟩
  subst hq5
  clear c2_5_0 c2_5_1 c2_5_2 c2_5_3 c2_5_4 c2_5_5 c2_5_6 c2_6_0 c2_6_1 c2_6_2 c2_6_3 c2_6_4 c2_6_5 c2_6_6
  have kY1 := kY1.of hS5
  have kY2 := kY2.of hS5
  have kY3 := kY3.of hS5
  have kY4 := kY4.of hS5
  have kY5 := kY5.of hS5
  have kY6 := kY6.of hS5
  go_wp2_with fail
  refine (HA.out _).mono ?_
  rintro e w9 ⟨rfl, hV9⟩
  go_wp2
  go_ret
  exact ⟨rfl, hB1.trans ((hU6.trans ((hT3.trans (hV9.mono hT3.size)).mono hU6.size)).mono hs1)⟩

end Go.Proofs.YtnioelkibghplaaGreat
