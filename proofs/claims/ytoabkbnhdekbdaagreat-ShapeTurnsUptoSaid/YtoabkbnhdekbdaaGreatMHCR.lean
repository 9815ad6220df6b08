/-
  shape: Create, Settle. Conditions: the tenant is as it comes in.
-/
import Derived.Test.YtoabkbnhdekbdaaGreatMHWA
import Derived.Test.YtoabkbnhdekbdaaGreatMHRF
import Derived.Test.YtoabkbnhdekbdaaGreatMHLB
import Derived.Test.YtoabkbnhdekbdaaGreatMHCC
import Derived.Test.YtoabkbnhdekbdaaGreatMEVSet
import Derived.Test.YtoabkbnhdekbdaaGreatMTMH
import Derived.Test.YtoabkbnhdekbdaaGreatMTNP
import Derived.Test.YtoabkbnhdekbdaaGreatMTMG
import Derived.Test.YtoabkbnhdekbdaaGreatMSL
import Derived.Test.YtoabkbnhdekbdaaGreatMCS
import Derived.Test.YtoabkbnhdekbdaaGreatMTMD
namespace Go.Proofs.YtoabkbnhdekbdaaGreat
open Go.ChangeShapes Go.WideShapes Go.ChangeAt Go.RowKit
set_option maxRecDepth 100000
set_option linter.unusedSimpArgs false
theorem newM_good (p : ByteArray) (hp : p.size ≤ 140737488351232) (W : World) : (⟨p, ByteArray.empty, ⟨none, [], 0⟩, ⟨none, [], 0⟩, ⟨none, [], 0⟩⟩ : MSet).Good W := ⟨hp, by show ByteArray.empty.size ≤ _; decide, slNone _ _ _ _, slNone _ _ _ _, slNone _ _ _ _⟩
theorem ansT_no {w w' : World} {E : Int} (h : Below w.heap.size w w') : AnsT w (noT, E) (.returned (.tuple #[.agg noM.cells.toArray, .int .i64 E])) w' := ⟨noM, rfl, noM_own _ _, noM_good _, rfl, h⟩
def roomU (t : PTenant) (p : ByteArray) : Int := if hasSet t p = true then 6 else if hasSet t ((upP p).getD ByteArray.empty) = false then 71 else if 32 ≤ t.sets_.length then 3 else 0
def createU (t : PTenant) (p : ByteArray) : PTenant × Int := if askE t p ≠ 0 then (noT, askE t p) else if roomU t p ≠ 0 then (noT, roomU t p) else setlP (withP t (newP p))
set_option maxHeartbeats 4000000 in
theorem create_any (x : MTenant) (p : ByteArray) (hp : p.size ≤ 140737488351232) (w : World) (hx : x.Good w) :
    Calls Tryz.prog 19 #[.agg x.cells.toArray, .string p] w fun e w' => AnsT w (createU x.plain p) e w' := by
  obtain ⟨a1, hw1⟩ : ∃ a1, w.alloc (.cells #[.string x.name_, .int .i64 x.quota_, .int .i64 x.next_, .slice x.sets_.A x.sets_.l.length x.sets_.c, .slice x.grants_.A x.grants_.l.length x.grants_.c, .slice x.stages_.A x.stages_.l.length x.stages_.c, .slice x.log_.A x.log_.l.length x.log_.c] 27) = a1 := ⟨_, rfl⟩
  have b1 : Below w.heap.size w a1 := hw1 ▸ (Below.refl _ w).alloc (Nat.le_refl _) _
  have k1 : Blk a1 w.heap.size 27 [.string x.name_, .int .i64 x.quota_, .int .i64 x.next_, .slice x.sets_.A x.sets_.l.length x.sets_.c, .slice x.grants_.A x.grants_.l.length x.grants_.c, .slice x.stages_.A x.stages_.l.length x.stages_.c, .slice x.log_.A x.log_.l.length x.log_.c] := hw1 ▸ Blk.new w _ _
  obtain ⟨a2, hw2⟩ : ∃ a2, a1.alloc (.cells #[.string ⟨#[]⟩, .int .i64 0, .int .i64 0, .slice none 0 0, .slice none 0 0, .slice none 0 0, .slice none 0 0] 27) = a2 := ⟨_, rfl⟩
  have b2 : Below a1.heap.size a1 a2 := hw2 ▸ (Below.refl _ a1).alloc (Nat.le_refl _) _
  have k2 : Blk a2 a1.heap.size 27 [.string ⟨#[]⟩, .int .i64 0, .int .i64 0, .slice none 0 0, .slice none 0 0, .slice none 0 0, .slice none 0 0] := hw2 ▸ Blk.new a1 _ _
  have hX2 : w.heap.size + 1 = a1.heap.size := by rw [← hw1, World.size_alloc]
  have hB1 : Below w.heap.size w a1 := b1
  have hB2 : Below w.heap.size w a2 := hB1.trans (b2.mono hB1.size)
  have k1 := k1.of b2
  have hs2 := hB2.size
  have hs1 := hB1.size
  have ht1 : a1.heap.size ≤ a2.heap.size := b2.size
  have HW1 := Lib.hid hw1
  have HW2 := Lib.hid hw2
  clear hw1 b1 hw2 b2
  have hx2 := hx.below hB2
  have HR := Lib.hid (refused_any x p (Nat.le_trans hp (by decide)) a2 hx2)
  have HF := Lib.hid (fun q W (hW : Below a2.heap.size a2 W) => find_any x q W (hx2.below hW))
  have hlk1 := k1.lt
  have hlk2 := k2.lt
  obtain ⟨u, bb, hu, hv⟩ : ∃ u bb, (upP p).getD ByteArray.empty = u ∧ parV p = .tuple #[.string u, .bool bb] := by
    unfold parV
    rcases upP p with _ | u
    · exact ⟨_, false, rfl, rfl⟩
    · exact ⟨_, true, rfl, rfl⟩
  have HP := Lib.hid (fun W => parent_any p hp W)
  rw [hv] at HP
  have hh := hasSet_find x p
  have hg := hasSet_find x u
  have hln : x.plain.sets_.length = x.sets_.l.length := by simp [MTenant.plain]
  have HG := Lib.hid hx2
  have hroom : roomU x.plain p = if decide (0 ≤ findM x p) = true then 6 else if decide (0 ≤ findM x u) = false then 71 else if 32 ≤ x.sets_.l.length then 3 else 0 := by
    unfold roomU
    rw [hu, hh, hg, hln]
  have HF1 : Hid (∀ W, Below a2.heap.size a2 W → _) := Lib.hid (HF.out p)
  have HF2 : Hid (∀ W, Below a2.heap.size a2 W → _) := Lib.hid (HF.out u)
  obtain ⟨F, hF⟩ : ∃ F, findM x p = F := ⟨_, rfl⟩
  obtain ⟨U, hU⟩ : ∃ U, findM x u = U := ⟨_, rfl⟩
  rw [hF] at HF1
  rw [hU] at HF2
  rw [hF, hU] at hroom
  clear HF hh hg hF hU hv hu hx hx2 hln
  obtain ⟨q0, q1, q2, q3, q4, q5, q6⟩ := k1.all7
  by_cases hk : askE x.plain p ≠ 0
  · have hc : createU x.plain p = (noT, askE x.plain p) := if_pos hk
    rw [hc]
    generalize askE x.plain p = E at *
    clear hc hroom
    go_enter Tryz.func19, Tryz.ntmps19
    go_upto_region 1 with fail
    rw [HW1.out, HW2.out]
    try rw [hX2]
    go_wp2_with fail
    refine HR.out.mono ?_
    rintro e w3 ⟨rfl, hV⟩
    have K2 := k2.of hV
    have hX := hB2.trans (hV.mono hs2)
    obtain ⟨zr0, zr1, zr2, zr3, zr4, zr5, zr6⟩ := K2.all7
    obtain ⟨zrf0, zrf1, zrf2, zrf3, zrf4, zrf5, zrf6⟩ := K2.fz7
    go_wp2
    generalize hwE : World.setCell _ ⟨a1.heap.size, 6, none⟩ _ = wE
    obtain ⟨KE, SE, ZE, BE⟩ := store7 K2 hwE
    obtain ⟨ze0, ze1, ze2, ze3, ze4, ze5, ze6⟩ := KE.all7
    refine bodyPost_ret (v := .tuple #[.agg #[.string ⟨#[]⟩, .int .i64 0, .int .i64 0, .slice none 0 0, .slice none 0 0, .slice none 0 0, .slice none 0 0], .int .i64 E]) (by simp [results, Tryz.results19, go_sem, ze0, ze1, ze2, ze3, ze4, ze5, ze6]) rfl ?_
    exact ansT_no (BE _ _ hX hs1)
  · have hk0 : askE x.plain p = 0 := Classical.not_not.1 hk
    rw [hk0] at HR
    by_cases h0 : 0 ≤ F
    · have hr : roomU x.plain p = 6 := by rw [hroom]; rw [if_pos (decide_eq_true h0)]
      have hc : createU x.plain p = (noT, 6) := by unfold createU; rw [if_neg hk, hr, if_pos (by decide)]
      rw [hc]
      clear hc hr hroom hk hk0
      go_enter Tryz.func19, Tryz.ntmps19
      go_upto_region 1 with fail
      rw [HW1.out, HW2.out]
      try rw [hX2]
      go_wp2_with fail
      refine HR.out.mono ?_
      rintro e w3 ⟨rfl, hV⟩
      have K1 := k1.of hV
      have K2 := k2.of hV
      obtain ⟨d0, d1, d2, d3, d4, d5, d6⟩ := K1.all7
      go_wp2_with fail
      refine (HF1.out _ hV).mono ?_
      rintro e w4 ⟨rfl, hV2⟩
      have hV3 := hV.trans (hV2.mono hV.size)
      have K3 := K1.of hV2
      have K4 := K2.of hV2
      have hX := hB2.trans (hV3.mono hs2)
      obtain ⟨zr0, zr1, zr2, zr3, zr4, zr5, zr6⟩ := K4.all7
      obtain ⟨zrf0, zrf1, zrf2, zrf3, zrf4, zrf5, zrf6⟩ := K4.fz7
      go_wp2
      generalize hwE : World.setCell _ ⟨a1.heap.size, 6, none⟩ _ = wE
      obtain ⟨KE, SE, ZE, BE⟩ := store7 K4 hwE
      obtain ⟨ze0, ze1, ze2, ze3, ze4, ze5, ze6⟩ := KE.all7
      refine bodyPost_ret (v := .tuple #[.agg #[.string ⟨#[]⟩, .int .i64 0, .int .i64 0, .slice none 0 0, .slice none 0 0, .slice none 0 0, .slice none 0 0], .int .i64 6]) (by simp [results, Tryz.results19, go_sem, ze0, ze1, ze2, ze3, ze4, ze5, ze6]) rfl ?_
      exact ansT_no (BE _ _ hX hs1)
    · by_cases h1 : 0 ≤ U
      · by_cases h2 : 32 ≤ x.sets_.l.length
        · have hr : roomU x.plain p = 3 := by rw [hroom]; rw [if_neg (by simpa using h0), if_neg (by simp [h1]), if_pos h2]
          have hc : createU x.plain p = (noT, 3) := by unfold createU; rw [if_neg hk, hr, if_pos (by decide)]
          rw [hc]
          clear hc hr hroom hk hk0
          go_enter Tryz.func19, Tryz.ntmps19
          go_upto_region 1 with fail
          rw [HW1.out, HW2.out]
          try rw [hX2]
          go_wp2_with fail
          refine HR.out.mono ?_
          rintro e w3 ⟨rfl, hV⟩
          have K1 := k1.of hV
          have K2 := k2.of hV
          obtain ⟨d0, d1, d2, d3, d4, d5, d6⟩ := K1.all7
          go_wp2_with fail
          refine (HF1.out _ hV).mono ?_
          rintro e w4 ⟨rfl, hV2⟩
          have hV3 := hV.trans (hV2.mono hV.size)
          have K3 := K1.of hV2
          have K4 := K2.of hV2
          go_wp2_with fail
          refine (HP.out _).mono ?_
          rintro e w5 ⟨rfl, hV4⟩
          have hV5 := hV3.trans (hV4.mono hV3.size)
          have K5 := K3.of hV4
          have K6 := K4.of hV4
          obtain ⟨e0, e1, e2, e3, e4, e5, e6⟩ := K5.all7
          go_wp2_with fail
          refine (HF2.out _ hV5).mono ?_
          rintro e w6 ⟨rfl, hV6⟩
          have hV7 := hV5.trans (hV6.mono hV5.size)
          have K7 := K5.of hV6
          have K8 := K6.of hV6
          obtain ⟨t0, t1, t2, t3, t4, t5, t6⟩ := K7.all7
          have hX := hB2.trans (hV7.mono hs2)
          obtain ⟨zr0, zr1, zr2, zr3, zr4, zr5, zr6⟩ := K8.all7
          obtain ⟨zrf0, zrf1, zrf2, zrf3, zrf4, zrf5, zrf6⟩ := K8.fz7
          go_wp2
          generalize hwE : World.setCell _ ⟨a1.heap.size, 6, none⟩ _ = wE
          obtain ⟨KE, SE, ZE, BE⟩ := store7 K8 hwE
          obtain ⟨ze0, ze1, ze2, ze3, ze4, ze5, ze6⟩ := KE.all7
          refine bodyPost_ret (v := .tuple #[.agg #[.string ⟨#[]⟩, .int .i64 0, .int .i64 0, .slice none 0 0, .slice none 0 0, .slice none 0 0, .slice none 0 0], .int .i64 3]) (by simp [results, Tryz.results19, go_sem, ze0, ze1, ze2, ze3, ze4, ze5, ze6]) rfl ?_
          exact ansT_no (BE _ _ hX hs1)
        · have hr : roomU x.plain p = 0 := by rw [hroom, if_neg (by simpa using h0), if_neg (by simp [h1]), if_neg h2]
          have hc : createU x.plain p = setlP (withP x.plain (newP p)) := by unfold createU; rw [if_neg hk, hr, if_neg (by decide)]
          rw [hc]
          clear hc hr hroom hk hk0
          have HW := Lib.hid (fun W (hW : Below a2.heap.size a2 W) => with_any x ⟨p, ByteArray.empty, ⟨none, [], 0⟩, ⟨none, [], 0⟩, ⟨none, [], 0⟩⟩ W (HG.out.below hW) (newM_good p hp W) (by omega))
          go_enter Tryz.func19, Tryz.ntmps19
          go_upto_region 1 with fail
          rw [HW1.out, HW2.out]
          try rw [hX2]
          go_wp2_with fail
          refine HR.out.mono ?_
          rintro e w3 ⟨rfl, hV⟩
          have K1 := k1.of hV
          have K2 := k2.of hV
          obtain ⟨d0, d1, d2, d3, d4, d5, d6⟩ := K1.all7
          go_wp2_with fail
          refine (HF1.out _ hV).mono ?_
          rintro e w4 ⟨rfl, hV2⟩
          have hV3 := hV.trans (hV2.mono hV.size)
          have K3 := K1.of hV2
          have K4 := K2.of hV2
          go_wp2_with fail
          refine (HP.out _).mono ?_
          rintro e w5 ⟨rfl, hV4⟩
          have hV5 := hV3.trans (hV4.mono hV3.size)
          have K5 := K3.of hV4
          have K6 := K4.of hV4
          obtain ⟨e0, e1, e2, e3, e4, e5, e6⟩ := K5.all7
          go_wp2_with fail
          refine (HF2.out _ hV5).mono ?_
          rintro e w6 ⟨rfl, hV6⟩
          have hV7 := hV5.trans (hV6.mono hV5.size)
          have K7 := K5.of hV6
          have K8 := K6.of hV6
          obtain ⟨t0, t1, t2, t3, t4, t5, t6⟩ := K7.all7
          go_wp2_with fail
          refine (HW.out _ hV7).mono ?_
          rintro e w7 ⟨y, rfl, ho7, hg7, hp7, hV8⟩
          have hV9 := hV7.trans (hV8.mono hV7.size)
          have HS := Lib.hid (settled_any y w7 hg7)
          have HP7 := Lib.hid hp7
          obtain ⟨E, hE⟩ : ∃ E, (setlP y.plain).2 = E := ⟨_, rfl⟩
          rw [hE] at HS
          have hEE : (setlP (withP x.plain (newP p))).2 = E := by rw [← hE, hp7]; rfl
          have HE := Lib.hid hEE
          clear hp7 hE hEE
          go_wp2_with fail
          refine HS.out.mono ?_
          rintro e w8 ⟨rfl, hV10, hfr⟩
          have hV11 := hV9.trans (hV10.mono hV9.size)
          have K9 := (K8.of hV8).of hV10
          have hX := hB2.trans (hV11.mono hs2)
          have hR8 : a1.heap.size < w6.heap.size := K8.lt
          have hX6 := hB2.trans (hV7.mono hs2)
          have hs6 := hX6.size
          have hR7 := (K8.of hV8).lt
          obtain ⟨z, hz⟩ : ∃ z, setlM y = z := ⟨_, rfl⟩
          have hoz : OwnTe w6.heap.size w8 z := hz ▸ setlM_own (ho7.stays fun b _ hb2 => hfr b hb2)
          have hgz : z.Good w8 := hz ▸ setlM_good (hg7.below hV10)
          have hpz : z.plain = (setlP y.plain).1 := hz ▸ setlM_plain y
          rw [hz]
          obtain ⟨zr0, zr1, zr2, zr3, zr4, zr5, zr6⟩ := K9.all7
          obtain ⟨zrf0, zrf1, zrf2, zrf3, zrf4, zrf5, zrf6⟩ := K9.fz7
          go_wp2
          generalize hwE : World.setCell _ ⟨a1.heap.size, 6, none⟩ _ = wE
          obtain ⟨KE, SE, ZE, BE⟩ := store7 K9 hwE
          obtain ⟨ze0, ze1, ze2, ze3, ze4, ze5, ze6⟩ := KE.all7
          refine bodyPost_ret (v := .tuple #[.agg #[.string z.name_, .int .i64 z.quota_, .int .i64 z.next_, .slice z.sets_.A z.sets_.l.length z.sets_.c, .slice z.grants_.A z.grants_.l.length z.grants_.c, .slice z.stages_.A z.stages_.l.length z.stages_.c, .slice z.log_.A z.log_.l.length z.log_.c], .int .i64 E]) (by simp [results, Tryz.results19, go_sem, ze0, ze1, ze2, ze3, ze4, ze5, ze6]) rfl ?_
          rw [HP7.out] at hpz
          have hoz2 := hoz.store hR8 SE
          exact ⟨z, by rw [HE.out], hoz2.base hs6, MTenant.Good.of_own hgz rfl hoz2, hpz, BE _ _ hX hs1⟩
      · have hr : roomU x.plain p = 71 := by rw [hroom]; rw [if_neg (by simpa using h0), if_pos (by simp [h1])]
        have hc : createU x.plain p = (noT, 71) := by unfold createU; rw [if_neg hk, hr, if_pos (by decide)]
        rw [hc]
        clear hc hr hroom hk hk0
        go_enter Tryz.func19, Tryz.ntmps19
        go_upto_region 1 with fail
        rw [HW1.out, HW2.out]
        try rw [hX2]
        go_wp2_with fail
        refine HR.out.mono ?_
        rintro e w3 ⟨rfl, hV⟩
        have K1 := k1.of hV
        have K2 := k2.of hV
        obtain ⟨d0, d1, d2, d3, d4, d5, d6⟩ := K1.all7
        go_wp2_with fail
        refine (HF1.out _ hV).mono ?_
        rintro e w4 ⟨rfl, hV2⟩
        have hV3 := hV.trans (hV2.mono hV.size)
        have K3 := K1.of hV2
        have K4 := K2.of hV2
        go_wp2_with fail
        refine (HP.out _).mono ?_
        rintro e w5 ⟨rfl, hV4⟩
        have hV5 := hV3.trans (hV4.mono hV3.size)
        have K5 := K3.of hV4
        have K6 := K4.of hV4
        obtain ⟨e0, e1, e2, e3, e4, e5, e6⟩ := K5.all7
        go_wp2_with fail
        refine (HF2.out _ hV5).mono ?_
        rintro e w6 ⟨rfl, hV6⟩
        have hV7 := hV5.trans (hV6.mono hV5.size)
        have K7 := K5.of hV6
        have K8 := K6.of hV6
        obtain ⟨t0, t1, t2, t3, t4, t5, t6⟩ := K7.all7
        have hX := hB2.trans (hV7.mono hs2)
        obtain ⟨zr0, zr1, zr2, zr3, zr4, zr5, zr6⟩ := K8.all7
        obtain ⟨zrf0, zrf1, zrf2, zrf3, zrf4, zrf5, zrf6⟩ := K8.fz7
        go_wp2
        generalize hwE : World.setCell _ ⟨a1.heap.size, 6, none⟩ _ = wE
        obtain ⟨KE, SE, ZE, BE⟩ := store7 K8 hwE
        obtain ⟨ze0, ze1, ze2, ze3, ze4, ze5, ze6⟩ := KE.all7
        refine bodyPost_ret (v := .tuple #[.agg #[.string ⟨#[]⟩, .int .i64 0, .int .i64 0, .slice none 0 0, .slice none 0 0, .slice none 0 0, .slice none 0 0], .int .i64 71]) (by simp [results, Tryz.results19, go_sem, ze0, ze1, ze2, ze3, ze4, ze5, ze6]) rfl ?_
        exact ansT_no (BE _ _ hX hs1)
def AnsG (w : World) (P : PTenant × Int) (e : Ending) (w' : World) : Prop := ∃ y : MTenant, e = .returned (.tuple #[.agg y.cells.toArray, .int .i64 P.2]) ∧ y.Good w' ∧ y.plain = P.1 ∧ Below w.heap.size w w'
theorem AnsT.ansG {w w' : World} {P : PTenant × Int} {e : Ending} (h : AnsT w P e w') : AnsG w P e w' := by
  obtain ⟨y, a, _, b, c, d⟩ := h
  exact ⟨y, a, b, c, d⟩
theorem ansG_no {w w' : World} {E : Int} (h : Below w.heap.size w w') : AnsG w (noT, E) (.returned (.tuple #[.agg noM.cells.toArray, .int .i64 E])) w' := ⟨noM, rfl, noM_good _, rfl, h⟩
theorem place_ways {x : MTenant} {p : ByteArray} (h : placeE x.plain p = 0) : ∃ (j : Nat) (s : MSet), placeI x p = j ∧ x.sets_.l[j]? = some s ∧ s.path_ = p ∧ setAt x.plain p = some s.plain ∧ okT x.plain = true ∧ isPath (bs p) = true ∧ (∀ y ∈ x.sets_.l.take j, y.path_ ≠ p) := by
  have h1 : askE x.plain p = 0 := by
    unfold placeE at h
    split at h
    · rename_i h2
      exact absurd h h2
    · rename_i h2
      exact Classical.not_not.1 h2
  have h2 : hasSet x.plain p = true := by
    unfold placeE at h
    rw [if_neg (by rw [h1]; decide)] at h
    split at h
    · assumption
    · exact absurd h (by decide)
  have h3 : placeI x p = findM x p := by
    unfold placeI
    rw [if_neg (by rw [h]; decide)]
  have hok : okT x.plain = true ∧ isPath (bs p) = true := by
    unfold askE at h1
    split at h1
    · exact absurd h1 (by decide)
    · rename_i a
      split at h1
      · exact absurd h1 (by decide)
      · rename_i b
        exact ⟨by simpa using a, by simpa using b⟩
  rcases set_ways x p with ⟨a, b⟩ | ⟨j, s, a, b, c, d⟩
  · rw [hasSet_find, a] at h2
    exact absurd h2 (by decide)
  · refine ⟨j, s, by rw [h3, a], b, c, d, hok.1, hok.2, fun y hy e => ?_⟩
    rcases findI_ways (fun s : MSet => decide (s.path_ = p)) x.sets_.l with ⟨a2, _⟩ | ⟨j2, s2, a2, b2, c2, d2⟩
    · unfold findM at a
      rw [a2] at a
      omega
    · have ej : j2 = j := by
        unfold findM at a
        rw [a2] at a
        omega
      subst ej
      have := d2 y hy
      simp [e] at this
def changedU (t : PTenant) (p : ByteArray) (e : PSet → Int) (f : PSet → PSet) : PTenant × Int := if placeE t p ≠ 0 then (noT, placeE t p) else match setAt t p with
  | none => (noT, 71)
  | some s => if e s ≠ 0 then (noT, e s) else ({ t with sets_ := chS p f t.sets_ }, 0)
set_option maxHeartbeats 4000000 in
theorem changed_any (x : MTenant) (p : ByteArray) (hp : p.size ≤ 140737488351232) (gf : Nat) (lb : Array Value) (eg : Enters Tryz.prog gf) (e : PSet → Int) (fu : PSet → PSet) (w : World) (hx : x.Good w)
    (hf : ∀ (W : World) (n g j : Nat) (y : MTenant) (s : MSet), okT x.plain = true → w.heap.size ≤ n → n ≤ W.heap.size → Below w.heap.size w W → OwnTe n W y → y.Good W → y.sets_.A = some ⟨g, 0, none⟩ → y.sets_.l[j]? = some s → s.plain ∈ x.plain.sets_ → n ≤ g →
      Calls Tryz.prog gf (#[.pointer (some ⟨g, j * 5, none⟩)] ++ lb) W fun e2 W' => ∃ s' : MSet, e2 = .returned (.int .i64 (e s.plain)) ∧ (e s.plain = 0 → s'.plain = fu s.plain ∧ OwnTe n W' { y with sets_ := ⟨some ⟨g, 0, none⟩, y.sets_.l.set j s', y.sets_.c⟩ } ∧ ({ y with sets_ := ⟨some ⟨g, 0, none⟩, y.sets_.l.set j s', y.sets_.c⟩ } : MTenant).Good W') ∧ Below n W W') :
    Calls Tryz.prog 42 #[.agg x.cells.toArray, .string p, .func (.func gf) #[] lb] w fun e2 w' => AnsT w (changedU x.plain p e fu) e2 w' := by
  have eg' : ∀ args w, (callFunc gf args).run Tryz.prog w = .ok (.enter gf args) w := eg
  obtain ⟨a1, hw1⟩ : ∃ a1, w.alloc (.cells #[.string x.name_, .int .i64 x.quota_, .int .i64 x.next_, .slice x.sets_.A x.sets_.l.length x.sets_.c, .slice x.grants_.A x.grants_.l.length x.grants_.c, .slice x.stages_.A x.stages_.l.length x.stages_.c, .slice x.log_.A x.log_.l.length x.log_.c] 27) = a1 := ⟨_, rfl⟩
  have b1 : Below w.heap.size w a1 := hw1 ▸ (Below.refl _ w).alloc (Nat.le_refl _) _
  have k1 : Blk a1 w.heap.size 27 [.string x.name_, .int .i64 x.quota_, .int .i64 x.next_, .slice x.sets_.A x.sets_.l.length x.sets_.c, .slice x.grants_.A x.grants_.l.length x.grants_.c, .slice x.stages_.A x.stages_.l.length x.stages_.c, .slice x.log_.A x.log_.l.length x.log_.c] := hw1 ▸ Blk.new w _ _
  obtain ⟨a2, hw2⟩ : ∃ a2, a1.alloc (.cells #[.string ⟨#[]⟩, .int .i64 0, .int .i64 0, .slice none 0 0, .slice none 0 0, .slice none 0 0, .slice none 0 0] 27) = a2 := ⟨_, rfl⟩
  have b2 : Below a1.heap.size a1 a2 := hw2 ▸ (Below.refl _ a1).alloc (Nat.le_refl _) _
  have k2 : Blk a2 a1.heap.size 27 [.string ⟨#[]⟩, .int .i64 0, .int .i64 0, .slice none 0 0, .slice none 0 0, .slice none 0 0, .slice none 0 0] := hw2 ▸ Blk.new a1 _ _
  have hX2 : w.heap.size + 1 = a1.heap.size := by rw [← hw1, World.size_alloc]
  have hB1 : Below w.heap.size w a1 := b1
  have hB2 : Below w.heap.size w a2 := hB1.trans (b2.mono hB1.size)
  have k1 := k1.of b2
  have hs2 := hB2.size
  have hs1 := hB1.size
  have ht1 : a1.heap.size ≤ a2.heap.size := b2.size
  have HW1 := Lib.hid hw1
  have HW2 := Lib.hid hw2
  clear hw1 b1 hw2 b2
  have hx2 := hx.below hB2
  have HR := Lib.hid (place_any x p (Nat.le_trans hp (by decide)) a2 hx2)
  have hlk1 := k1.lt
  have hlk2 := k2.lt
  have HG := Lib.hid hx2
  have HFF := Lib.hid hf
  have HXW := Lib.hid hx
  obtain ⟨q0, q1, q2, q3, q4, q5, q6⟩ := k1.all7
  by_cases hk : placeE x.plain p ≠ 0
  · have hc : changedU x.plain p e fu = (noT, placeE x.plain p) := if_pos hk
    rw [hc]
    generalize placeE x.plain p = E at *
    generalize placeI x p = I at *
    clear hc hx hx2 hf
    go_enter Tryz.func42, Tryz.ntmps42
    go_upto_region 1 with fail
    rw [HW1.out, HW2.out]
    try rw [hX2]
    go_wp2_with fail
    refine HR.out.mono ?_
    rintro e w3 ⟨rfl, hV⟩
    have K2 := k2.of hV
    have hX := hB2.trans (hV.mono hs2)
    obtain ⟨zr0, zr1, zr2, zr3, zr4, zr5, zr6⟩ := K2.all7
    obtain ⟨zrf0, zrf1, zrf2, zrf3, zrf4, zrf5, zrf6⟩ := K2.fz7
    go_wp2
    generalize hwE : World.setCell _ ⟨a1.heap.size, 6, none⟩ _ = wE
    obtain ⟨KE, SE, ZE, BE⟩ := store7 K2 hwE
    obtain ⟨ze0, ze1, ze2, ze3, ze4, ze5, ze6⟩ := KE.all7
    refine bodyPost_ret (v := .tuple #[.agg #[.string ⟨#[]⟩, .int .i64 0, .int .i64 0, .slice none 0 0, .slice none 0 0, .slice none 0 0, .slice none 0 0], .int .i64 E]) (by simp [results, Tryz.results42, go_sem, ze0, ze1, ze2, ze3, ze4, ze5, ze6]) rfl ?_
    exact ansT_no (BE _ _ hX hs1)
  · have hk0 : placeE x.plain p = 0 := Classical.not_not.1 hk
    obtain ⟨j, s, hI, hj, hsp, hsa, hok, hip, hnt⟩ := place_ways hk0
    rw [hk0, hI] at HR
    have hjl : j < x.sets_.l.length := (List.getElem?_eq_some_iff.1 hj).1
    have hc : changedU x.plain p e fu = if e s.plain ≠ 0 then (noT, e s.plain) else ({ x.plain with sets_ := chS p fu x.plain.sets_ }, 0) := by
      unfold changedU
      rw [if_neg hk, hsa]
    rw [hc]
    have hris : x.plain.sets_.Pairwise fun a b => ltPath a b = true := (goodL_iff (fun a b c => ltPath_trans a b c)).1 (okT_parts.1 hok).2.2.2 |>.2
    have hchs : chS p fu x.plain.sets_ = x.plain.sets_.set j (fu s.plain) := by
      have h9 := chS_set (f := fu) hris (j := j) (s := s.plain) (by show (x.sets_.l.map MSet.plain)[j]? = _; rw [List.getElem?_map, hj]; rfl)
      rw [show s.plain.path_ = p from hsp] at h9
      exact h9
    have hmem : s.plain ∈ x.plain.sets_ := by
      show s.plain ∈ x.sets_.l.map MSet.plain
      exact List.mem_map.2 ⟨s, List.mem_of_getElem? hj, rfl⟩
    have HCH := Lib.hid hchs
    have HME := Lib.hid hmem
    have HJ := Lib.hid hj
    have HOK := Lib.hid hok
    have HC := Lib.hid (fun W (hW : Below a2.heap.size a2 W) => copy_any x W (hx2.below hW))
    obtain ⟨E, hE⟩ : ∃ E, e s.plain = E := ⟨_, rfl⟩
    rw [hE]
    have HE := Lib.hid hE
    obtain ⟨P, hP⟩ : ∃ P : PTenant × Int, (if E ≠ 0 then (noT, E) else ({ x.plain with sets_ := chS p fu x.plain.sets_ }, 0)) = P := ⟨_, rfl⟩
    rw [hP]
    have HPP := Lib.hid hP
    clear hP hE hc hx hx2 hf hk hk0 hsa hok hip hnt hris hchs hmem hI hj hsp
    go_enter Tryz.func42, Tryz.ntmps42
    go_upto_region 1 with fail
    rw [HW1.out, HW2.out]
    try rw [hX2]
    go_wp2_with fail
    refine HR.out.mono ?_
    rintro e w3 ⟨rfl, hV⟩
    have K1 := k1.of hV
    have K2 := k2.of hV
    obtain ⟨d0, d1, d2, d3, d4, d5, d6⟩ := K1.all7
    obtain ⟨df0, df1, df2, df3, df4, df5, df6⟩ := K1.fz7
    have HC3 := Lib.hid (HC.out w3 hV)
    go_wp2_with fail
    refine HC3.out.mono ?_
    rintro e w4 ⟨y, rfl, hoy, hpy, hV2⟩
    have hV3 := hV.trans (hV2.mono hV.size)
    have K3 := K1.of hV2
    have K4 := K2.of hV2
    have hlk3 := K3.lt
    have hgy : y.Good w4 := MTenant.Good.of_own HG.out hpy hoy
    have hyl : y.sets_.l.map MSet.plain = x.sets_.l.map MSet.plain := congrArg PTenant.sets_ hpy
    have hyn : y.sets_.l.length = x.sets_.l.length := map_len hyl
    have hjy : j < y.sets_.l.length := by rw [hyn]; exact hjl
    obtain ⟨t, hjt⟩ : ∃ t, y.sets_.l[j]? = some t := ⟨_, qZa hjy⟩
    have htp : t.plain = s.plain := by
      have h9 : (y.sets_.l.map MSet.plain)[j]? = some t.plain := by rw [List.getElem?_map, hjt]; rfl
      rw [hyl, List.getElem?_map, HJ.out] at h9
      simp only [Option.map_some, Option.some.injEq] at h9
      exact h9.symm
    obtain ⟨b, off, hA, hbl, hcc⟩ := Rd.elem (n := 5) (fun _ => rfl) (by omega) hgy.gsets_.rd hjt
    have hoff : off = 0 ∧ w3.heap.size ≤ b := by
      obtain ⟨_, ⟨hv, h0⟩ | ⟨gg, cap, cur, hv, hn, _⟩⟩ := hoy.sets
      · omega
      · injection hv with e1 e2 e3
        rw [hA] at e1
        injection e1 with e1
        injection e1 with e1 e4
        exact ⟨e4, by omega⟩
    obtain ⟨rfl, hbn⟩ := hoff
    obtain ⟨e0, e1, e2, e3, e4, e5, e6⟩ := K3.all7
    obtain ⟨ef0, ef1, ef2, ef3, ef4, ef5, ef6⟩ := K3.fz7
    have HHA := Lib.hid hA
    clear hyn hA d0 d1 d2 d3 d4 d5 d6 df0 df1 df2 df3 df4 df5 df6
    go_upto_region 5 with fail
    generalize hwE : World.setCell _ ⟨w.heap.size, 6, none⟩ _ = wE
    obtain ⟨KE, SE, ZE, BE⟩ := store7 K3 hwE
    have hlw : w.heap.size < w3.heap.size := K1.lt
    have hoE := hoy.store hlw SE
    have hgE : y.Good wE := MTenant.Good.of_own hgy rfl hoE
    have hX4 := hB2.trans (hV3.mono hs2)
    have hXE : Below w.heap.size w wE := BE _ _ hX4 (Nat.le_refl _)
    have hne1 : a1.heap.size ≠ w.heap.size := by omega
    have K5 : Blk wE a1.heap.size 27 [.string ⟨#[]⟩, .int .i64 0, .int .i64 0, .slice none 0 0, .slice none 0 0, .slice none 0 0, .slice none 0 0] := (SE _ hne1).trans K4
    have hw3E : w3.heap.size ≤ wE.heap.size := by rw [ZE]; exact hV2.size
    have hw03 : w.heap.size ≤ w3.heap.size := Nat.le_of_lt hlw
    have HD := Lib.hid (HFF.out wE w3.heap.size b j y t HOK.out hw03 hw3E hXE hoE hgE HHA.out hjt (by rw [htp]; exact HME.out) hbn)
    rw [htp, HE.out] at HD
    have HPY := Lib.hid hpy
    have HYL := Lib.hid hyl
    have HJY := Lib.hid hjt
    have HTP := Lib.hid htp
    clear hcc hpy hyl hjt htp hgE hoE hgy hoy e0 e1 e2 e3 e4 e5 e6 ef0 ef1 ef2 ef3 ef4 ef5 ef6
    rw [HHA.out] at KE
    obtain ⟨h0, h1, h2, h3, h4, h5, h6⟩ := KE.all7
    go_wp2_with fail
    refine HD.out.mono ?_
    rintro e9 w5 ⟨s', rfl, hs', hV5⟩
    have hlka : a1.heap.size < w3.heap.size := by have := hV.size; omega
    have K6 := K5.below hV5 hlka
    have KT6 := KE.below hV5 hlw
    have hX5 := hXE.trans (hV5.mono hw03)
    by_cases hz : E = 0
    · subst hz
      obtain ⟨hs3', hs2', hs3⟩ := hs' rfl
      have hPE : P = ({ x.plain with sets_ := chS p fu x.plain.sets_ }, 0) := by rw [← HPP.out]; exact if_neg (by decide)
      subst hPE
      have hpl : ({ y with sets_ := ⟨some ⟨b, 0, none⟩, y.sets_.l.set j s', y.sets_.c⟩ } : MTenant).plain = { x.plain with sets_ := chS p fu x.plain.sets_ } := by
        rw [HCH.out, ← hs3']
        show ({ y.plain with sets_ := (y.sets_.l.set j s').map MSet.plain } : PTenant) = _
        rw [List.map_set, HYL.out, HPY.out]
        rfl
      have HPL := Lib.hid hpl
      have HS2 := Lib.hid hs2'
      have HS3 := Lib.hid hs3
      clear hs' hs3' hs2' hs3 hpl h0 h1 h2 h3 h4 h5 h6
      obtain ⟨m0, m1, m2, m3, m4, m5, m6⟩ := KT6.all7
      obtain ⟨zr0, zr1, zr2, zr3, zr4, zr5, zr6⟩ := K6.all7
      obtain ⟨zrf0, zrf1, zrf2, zrf3, zrf4, zrf5, zrf6⟩ := K6.fz7
      go_wp2
      generalize hwE : World.setCell _ ⟨a1.heap.size, 6, none⟩ _ = wE
      obtain ⟨KE, SE, ZE, BE⟩ := store7 K6 hwE
      obtain ⟨ze0, ze1, ze2, ze3, ze4, ze5, ze6⟩ := KE.all7
      refine bodyPost_ret (v := .tuple #[.agg #[.string y.name_, .int .i64 y.quota_, .int .i64 y.next_, .slice (some ⟨b, 0, none⟩) y.sets_.l.length y.sets_.c, .slice y.grants_.A y.grants_.l.length y.grants_.c, .slice y.stages_.A y.stages_.l.length y.stages_.c, .slice y.log_.A y.log_.l.length y.log_.c], .int .i64 0]) (by simp [results, Tryz.results42, go_sem, ze0, ze1, ze2, ze3, ze4, ze5, ze6]) rfl ?_
      have hoF := HS2.out.store hlka SE
      refine ⟨({ y with sets_ := ⟨some ⟨b, 0, none⟩, y.sets_.l.set j s', y.sets_.c⟩ } : MTenant), by simp only [MTenant.cells, List.length_set], hoF.base hw03, MTenant.Good.of_own HS3.out rfl hoF, HPL.out, BE _ _ hX5 hs1⟩
    · have hPE : P = (noT, E) := by rw [← HPP.out]; exact if_pos hz
      subst hPE
      clear hs' h0 h1 h2 h3 h4 h5 h6
      obtain ⟨zr0, zr1, zr2, zr3, zr4, zr5, zr6⟩ := K6.all7
      obtain ⟨zrf0, zrf1, zrf2, zrf3, zrf4, zrf5, zrf6⟩ := K6.fz7
      go_wp2
      generalize hwE : World.setCell _ ⟨a1.heap.size, 6, none⟩ _ = wE
      obtain ⟨KE, SE, ZE, BE⟩ := store7 K6 hwE
      obtain ⟨ze0, ze1, ze2, ze3, ze4, ze5, ze6⟩ := KE.all7
      refine bodyPost_ret (v := .tuple #[.agg #[.string ⟨#[]⟩, .int .i64 0, .int .i64 0, .slice none 0 0, .slice none 0 0, .slice none 0 0, .slice none 0 0], .int .i64 E]) (by simp [results, Tryz.results42, go_sem, ze0, ze1, ze2, ze3, ze4, ze5, ze6]) rfl ?_
      exact ansT_no (BE _ _ hX5 hs1)
set_option maxHeartbeats 1000000
theorem num16_any (n : Int) (w : World) :
    Calls Tryz.prog 16 #[.int .i64 n] w fun e w' => e = .returned (.int .i64 n) ∧ w = w' := by
  go_enter Tryz.func16, Tryz.ntmps16
  go_wp2
  go_ret
  exact ⟨rfl, rfl⟩
def nT : ByteArray := ⟨#[116]⟩
def nA : ByteArray := ⟨#[97]⟩
def setN0 : MSet := ⟨ByteArray.empty, ByteArray.empty, ⟨none, [], 0⟩, ⟨none, [], 0⟩, ⟨none, [], 0⟩⟩
def tenN (g : Nat) : MTenant := ⟨nT, 9, 1, ⟨some ⟨g, 0, none⟩, [setN0], 1⟩, ⟨none, [], 0⟩, ⟨none, [], 0⟩, ⟨none, [], 0⟩⟩
theorem tenN_good {g : Nat} {W : World} (k : Blk W g 49 setN0.cells) : (tenN g).Good W := by
  refine ⟨(by show nT.size ≤ 140737488351232; decide), (by show (-9223372036854775808 : Int) ≤ 9 ∧ (9 : Int) ≤ 9223372036854775807; decide), (by show (-9223372036854775808 : Int) ≤ 1 ∧ (1 : Int) ≤ 9223372036854775807; decide), ⟨?_, ?_, by simp [tenN], (fun h => by cases h), by simp [tenN]⟩, slNone _ _ _ _, slNone _ _ _ _, slNone _ _ _ _⟩
  · intro _
    refine ⟨g, 0, rfl, k.lt, fun j u hu => ?_⟩
    rw [Nat.zero_add, k.cell j]
    simpa [tenN] using hu
  · intro y hy
    simp [tenN] at hy
    subst hy
    exact ⟨by decide, by decide, slNone _ _ _ _, slNone _ _ _ _, slNone _ _ _ _⟩
theorem tenN_ok (g : Nat) : okT (tenN g).plain = true := by
  unfold okT
  rw [Bool.and_eq_true, Bool.and_eq_true, Bool.and_eq_true, Bool.and_eq_true, Bool.and_eq_true, Bool.and_eq_true, Bool.and_eq_true, Bool.and_eq_true, Bool.and_eq_true, Bool.and_eq_true]
  refine ⟨(by show isName (bs nT) = true; decide), (by show amt 0 9 = true; decide), (by show amt 1 1 = true; decide), rfl, ?_, (by show okG [] = true; decide), rfl, rfl, ?_, (by show goodL stageB ltInto [] = true; rfl), rfl⟩
  · simp [hasSet, setAt, tenN, MTenant.plain, setN0, MSet.plain]
  · simp [goodL, riseB, tenN, MTenant.plain, setN0, MSet.plain, setB, upB, (upP_none (p := ByteArray.empty) (by decide)).2 rfl, origB, snapsB, noTwo]
    decide
theorem tenN_sets (g : Nat) : (tenN g).plain.sets_ = [⟨ByteArray.empty, ByteArray.empty, [], [], []⟩] := rfl
theorem upA : upP nA = some ByteArray.empty := by
  unfold upP
  rw [if_neg (by intro h; rcases h with h | h; exact absurd h (by decide); exact absurd (congrArg ByteArray.size h) (by decide))]
  congr 1
theorem tenN_create (g : Nat) : createU (tenN g).plain nA = ({ (tenN g).plain with sets_ := [⟨ByteArray.empty, ByteArray.empty, [], [], []⟩, newP nA] }, 0) := by
  have hne : ¬ (ByteArray.empty = nA) := fun h => absurd (congrArg ByteArray.size h) (by decide)
  have h1 : askE (tenN g).plain nA = 0 := by
    unfold askE
    rw [if_neg (by rw [tenN_ok]; decide), if_neg (by decide)]
  have h2 : roomU (tenN g).plain nA = 0 := by
    unfold roomU
    rw [if_neg, if_neg, if_neg]
    · rw [tenN_sets]
      decide
    · rw [upA]
      unfold hasSet setAt
      rw [tenN_sets]
      simp
    · unfold hasSet setAt
      rw [tenN_sets]
      simp [hne]
  have h3 : insS (newP nA) [⟨ByteArray.empty, ByteArray.empty, [], [], []⟩] = [⟨ByteArray.empty, ByteArray.empty, [], [], []⟩, newP nA] := by
    have h4 : ltTx ByteArray.empty nA = true := by
      show Op.bytesLess ByteArray.empty.toList nA.toList = true
      rw [Lib.toList_data, Lib.toList_data]
      decide
    rw [insS_all (by
      intro x hx
      rw [List.mem_singleton] at hx
      subst hx
      exact h4)]
    rfl
  unfold createU
  rw [if_neg (by rw [h1]; decide), if_neg (by rw [h2]; decide)]
  unfold setlP withP
  rw [tenN_sets, h3]
  rw [if_pos (by
    show wrap64 ((2 : Nat) : Int) ≤ 9
    unfold wrap64
    omega)]
theorem newN (w : World) :
    Calls Tryz.prog 62 #[.string ⟨#[116]⟩, .int .i64 9] w fun e w' => ∃ g, e = .returned (.tuple #[.agg #[.string ⟨#[116]⟩, .int .i64 9, .int .i64 1, .slice (some ⟨g, 0, none⟩) 1 1, .slice none 0 0, .slice none 0 0, .slice none 0 0], .int .i64 0]) ∧ Blk w' g 49 [.string ByteArray.empty, .string ByteArray.empty, .slice none 0 0, .slice none 0 0, .slice none 0 0] ∧ Below w.heap.size w w' := by
  have HN : Hid (∀ W, Calls Tryz.prog 88 #[.string nT] W fun e w' => e = .returned (.bool true) ∧ W = w') := Lib.hid fun W => by
    have := refName_any nT (by decide) W
    rwa [show isName (bs nT) = true by decide] at this
  have HA : Hid (∀ W, Calls Tryz.prog 90 #[.int .i64 9, .int .i64 0] W fun e w' => e = .returned (.bool true) ∧ Below W.heap.size W w') := Lib.hid fun W => by
    have := amountB 0 9 W
    rwa [show amt 0 9 = true by decide] at this
  obtain ⟨a1, hw1⟩ : ∃ a1, w.alloc (.cells #[.string ⟨#[]⟩, .int .i64 0, .int .i64 0, .slice none 0 0, .slice none 0 0, .slice none 0 0, .slice none 0 0] 27) = a1 := ⟨_, rfl⟩
  have hB1 : Below w.heap.size w a1 := hw1 ▸ (Below.refl _ w).alloc (Nat.le_refl _) _
  have k1 : Blk a1 w.heap.size 27 [.string ⟨#[]⟩, .int .i64 0, .int .i64 0, .slice none 0 0, .slice none 0 0, .slice none 0 0, .slice none 0 0] := hw1 ▸ Blk.new w _ _
  have hs1 := hB1.size
  have HW1 := Lib.hid hw1
  have e1 : (⟨#[116]⟩ : ByteArray) = nT := rfl
  rw [e1]
  clear hw1 e1
  generalize nT = t at *
  go_enter Tryz.func62, Tryz.ntmps62
  go_upto_region 1 with fail
  rw [HW1.out]
  go_wp2_with fail
  refine (HN.out _).mono ?_
  rintro e w3 ⟨rfl, hw3⟩
  subst hw3
  have hV := Below.refl a1.heap.size a1
  go_wp2_with fail
  refine (HA.out _).mono ?_
  rintro e w4 ⟨rfl, hV2⟩
  have hV3 := hV.trans (hV2.mono hV.size)
  have K2 := k1.of hV3
  have hX := hB1.trans (hV3.mono hs1)
  have hlt := K2.lt
  have hs4 := hX.size
  obtain ⟨zr0, zr1, zr2, zr3, zr4, zr5, zr6⟩ := K2.all7
  obtain ⟨zrf0, zrf1, zrf2, zrf3, zrf4, zrf5, zrf6⟩ := K2.fz7
  go_wp2
  generalize hwE : World.setCell _ ⟨w.heap.size, 6, none⟩ _ = wE
  obtain ⟨KE, SE, ZE, BE⟩ := store7 K2 hwE
  have KS : Blk (wE.alloc (.cells #[.string ⟨#[]⟩, .string ⟨#[]⟩, .slice none 0 0, .slice none 0 0, .slice none 0 0] 49)) wE.heap.size 49 [.string ⟨#[]⟩, .string ⟨#[]⟩, .slice none 0 0, .slice none 0 0, .slice none 0 0] := Blk.new wE _ _
  rw [ZE] at KS
  have K6 := KE.alloc (.cells #[.string ⟨#[]⟩, .string ⟨#[]⟩, .slice none 0 0, .slice none 0 0, .slice none 0 0] 49)
  have hX5 := (BE _ _ hX (Nat.le_refl _)).alloc (by rw [ZE]; exact hs4) (.cells #[.string ⟨#[]⟩, .string ⟨#[]⟩, .slice none 0 0, .slice none 0 0, .slice none 0 0] 49)
  obtain ⟨ze0, ze1, ze2, ze3, ze4, ze5, ze6⟩ := K6.all7
  refine bodyPost_ret (v := .tuple #[.agg #[.string t, .int .i64 9, .int .i64 1, .slice (some ⟨w4.heap.size, 0, none⟩) 1 1, .slice none 0 0, .slice none 0 0, .slice none 0 0], .int .i64 0]) (by simp [results, Tryz.results62, go_sem, ze0, ze1, ze2, ze3, ze4, ze5, ze6]) rfl ?_
  exact ⟨w4.heap.size, rfl, KS, hX5⟩
theorem alive16_any (w : World) : Calls Tryz.prog 17 #[] w fun e w' => e = .returned (.bool true) ∧ Below w.heap.size w w' := by
  have H1 := Lib.hid (newN w)
  have HN := Lib.hid (fun W => num16_any 0 W)
  have HC : Hid (∀ g W, Blk W g 49 setN0.cells → Calls Tryz.prog 19 #[.agg (tenN g).cells.toArray, .string ⟨#[97]⟩] W fun e w' => ∃ y : MTenant, e = .returned (.tuple #[.agg y.cells.toArray, .int .i64 0]) ∧ y.Good w' ∧ y.plain.sets_ = [⟨ByteArray.empty, ByteArray.empty, [], [], []⟩, newP nA] ∧ Below W.heap.size W w') := Lib.hid fun g W k => by
    have := create_any (tenN g) nA (by decide) W (tenN_good k)
    rw [tenN_create] at this
    exact this.mono fun e w' ⟨y, a, _, b, c, d⟩ => ⟨y, a, b, by rw [c], d⟩
  go_enter Tryz.func17, Tryz.ntmps17
  go_wp2_with fail
  refine H1.out.mono ?_
  rintro e w1 ⟨g, rfl, hb, hV1⟩
  obtain ⟨w2, hw2⟩ : ∃ w2, w1.alloc (.cells #[.string ⟨#[116]⟩, .int .i64 9, .int .i64 1, .slice (some ⟨g, 0, none⟩) 1 1, .slice none 0 0, .slice none 0 0, .slice none 0 0] 27) = w2 := ⟨_, rfl⟩
  have hV2 : Below w1.heap.size w1 w2 := hw2 ▸ (Below.refl _ w1).alloc (Nat.le_refl _) _
  have k2 : Blk w2 w1.heap.size 27 [.string ⟨#[116]⟩, .int .i64 9, .int .i64 1, .slice (some ⟨g, 0, none⟩) 1 1, .slice none 0 0, .slice none 0 0, .slice none 0 0] := hw2 ▸ Blk.new w1 _ _
  have hb2 := hb.of hV2
  have hX2 := hV1.trans (hV2.mono hV1.size)
  have HW2 := Lib.hid hw2
  clear hw2
  go_upto_region 2 with fail
  rw [HW2.out]
  obtain ⟨q0, q1, q2, q3, q4, q5, q6⟩ := k2.all7
  have HC2 := Lib.hid (HC.out g w2 hb2)
  go_wp2_with fail
  refine HC2.out.mono ?_
  rintro e w3 ⟨y, rfl, hgy, hpy, hV3⟩
  obtain ⟨yn, yq, yt, ⟨A, l, c⟩, yg, ys, yl⟩ := y
  have hpl : l.map MSet.plain = [⟨ByteArray.empty, ByteArray.empty, [], [], []⟩, newP nA] := hpy
  have h2l : l.length = 2 := by
    have := congrArg List.length hpl
    simpa using this
  obtain ⟨s1, hs1⟩ : ∃ s1, l[1]? = some s1 := ⟨_, qZa (by omega)⟩
  have hs1p : s1.path_ = nA := by
    have h3 : (l.map MSet.plain)[1]? = some s1.plain := by rw [List.getElem?_map, hs1]; rfl
    rw [hpl] at h3
    simp only [List.getElem?_cons_succ, List.getElem?_cons_zero, Option.some.injEq] at h3
    have h4 := congrArg PSet.path_ h3
    exact h4.symm
  obtain ⟨b, off, hA, hbl, hc⟩ := Rd.elem (n := 5) (fun _ => rfl) (by omega) hgy.gsets_.rd hs1
  have hA2 : A = some ⟨b, off, none⟩ := hA
  subst hA2
  have c0 : w3.cell? ⟨b, off + 1 * 5, none⟩ = some (.string s1.path_) := hc 0 _ rfl
  rw [hs1p] at c0
  obtain ⟨w4, hw4⟩ : ∃ w4, w3.alloc (.cells #[.string yn, .int .i64 yq, .int .i64 yt, .slice (some ⟨b, off, none⟩) l.length c, .slice yg.A yg.l.length yg.c, .slice ys.A ys.l.length ys.c, .slice yl.A yl.l.length yl.c] 27) = w4 := ⟨_, rfl⟩
  have hV4 : Below w3.heap.size w3 w4 := hw4 ▸ (Below.refl _ w3).alloc (Nat.le_refl _) _
  have k4 : Blk w4 w3.heap.size 27 [.string yn, .int .i64 yq, .int .i64 yt, .slice (some ⟨b, off, none⟩) l.length c, .slice yg.A yg.l.length yg.c, .slice ys.A ys.l.length ys.c, .slice yl.A yl.l.length yl.c] := hw4 ▸ Blk.new w3 _ _
  have d0 := (hV4.cell (p := ⟨b, off + 1 * 5, none⟩) hbl).trans c0
  have hX3 := hX2.trans (hV3.mono hX2.size)
  have hX4 := hX3.trans (hV4.mono hX3.size)
  rw [h2l] at k4 hw4
  have HW4 := Lib.hid hw4
  clear hw4 hc c0 hgy hpy hpl hs1 hA
  go_upto_region 3 with fail
  rw [HW4.out]
  obtain ⟨z0, z1, z2, z3, z4, z5, z6⟩ := k4.all7
  go_wp2_with fail
  refine (HN.out w4).mono ?_
  rintro e w5 ⟨rfl, hw5⟩
  subst hw5
  have hn : nA = (⟨#[97]⟩ : ByteArray) := rfl
  rw [hn] at d0
  go_wp2
  go_ret
  exact ⟨rfl, hX4⟩
end Go.Proofs.YtoabkbnhdekbdaaGreat
