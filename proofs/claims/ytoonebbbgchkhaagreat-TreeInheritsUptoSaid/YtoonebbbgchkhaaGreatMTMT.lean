/-
  The program’s Props. Conditions: the tenant is as it comes in.
-/
import Derived.Test.YtoonebbbgchkhaaGreatMTMG
import Derived.Test.YtoonebbbgchkhaaGreatMTMS
import Derived.Test.YtoonebbbgchkhaaGreatMOVR
import Derived.Test.YtoonebbbgchkhaaGreatMSL
namespace Go.Proofs.YtoonebbbgchkhaaGreat
open Go.ChangeShapes Go.WideShapes Go.ChangeAt Go.RowKit
set_option maxRecDepth 100000
set_option linter.unusedSimpArgs false

set_option maxRecDepth 100000 in
theorem infoSlP : (Tryz.prog.info? 40).map (fun i => (i.zero, i.size, i.bytes)) = some (some (.slice none 0 0), 1, 24) := by kernel_rfl
theorem flatS (l : List (Sl Pr)) : l.flatMap (fun s => [s.val]) = l.map Sl.val := by
  induction l with
  | nil => rfl
  | cons x l ih => rw [List.flatMap_cons, ih]; rfl
/-- How far it is to the root. -/
def dep (p : ByteArray) : Nat := if upP p = none then 0 else (bs p).count 47 + 1
theorem up_path {p u : ByteArray} (h : upP p = some u) : isPath (bs p) = true := by
  rw [← Bool.not_eq_false]
  intro e
  rw [upP_off e] at h
  cases h
theorem dep_up {p u : ByteArray} (h : upP p = some u) : dep u + 1 ≤ dep p := by
  have h0 : dep p = (bs p).count 47 + 1 := by unfold dep; rw [if_neg (by rw [h]; simp)]
  rw [h0]
  rcases up_count h with h1 | h1
  · unfold dep
    rw [if_pos h1]
    omega
  · unfold dep
    split
    · omega
    · omega
theorem dep_le (p : ByteArray) : dep p ≤ 4 := by
  unfold dep
  split
  · omega
  · rename_i h
    rcases hu : upP p with _ | u
    · exact absurd hu h
    · have := path_count (up_path hu)
      omega
theorem up_size {p u : ByteArray} (h : upP p = some u) : u.size ≤ p.size := by
  unfold upP at h
  split at h
  · cases h
  · injection h with h
    rw [← h, ofL_size, ← bs_length]
    by_cases hm : (47 : UInt8) ∈ bs p
    · obtain ⟨a, b, e, hb⟩ := last_slash hm
      rw [e, aboveL_up hb]
      simp
    · rw [aboveL_top hm]
      simp
theorem propsL_none {t : PTenant} {p : ByteArray} (h : upP p = none) : propsL t p = ((setAt t p).map PSet.own_).toList := by
  unfold propsL
  rw [wayP_none h]
  cases h2 : setAt t p <;> simp [h2]
theorem propsL_some {t : PTenant} {p u : ByteArray} (h : upP p = some u) : propsL t p = propsL t u ++ ((setAt t p).map PSet.own_).toList := by
  unfold propsL
  rw [wayP_up (up_path h) h, List.filterMap_append]
  cases h2 : setAt t p <;> simp [h2]
def meas (p m : Value) : Nat := match m, p with | .bool true, .string s => dep s + 1 | _, _ => 0

set_option maxHeartbeats 4000000 in
theorem props14_any (x : MTenant) (path : ByteArray) (hz : path.size ≤ 140737488351232) (w : World) (hx : x.Good w) :
    Calls Tryz.prog 15 #[.agg x.cells.toArray, .string path] w fun e w' => ∃ v, e = .returned (ansP v (propsE x.plain path)) ∧ ownP w' w.heap.size v (propsR x.plain path) ∧ Below w.heap.size w w' := by
  obtain ⟨w1, hw1⟩ : ∃ w1, w.alloc (.cells #[.string x.name_, .int .i64 x.quota_, .int .i64 x.next_, .slice x.sets_.A x.sets_.l.length x.sets_.c, .slice x.grants_.A x.grants_.l.length x.grants_.c, .slice x.stages_.A x.stages_.l.length x.stages_.c, .slice x.log_.A x.log_.l.length x.log_.c] 27) = w1 := ⟨_, rfl⟩
  have hA : Below w.heap.size w w1 := hw1 ▸ (Below.refl _ w).alloc (Nat.le_refl _) _
  have k1 : Blk w1 w.heap.size 27 x.cells := hw1 ▸ Blk.new w _ _
  have HG : Hid (∀ W, Below w1.heap.size w1 W → x.Good W) := Lib.hid fun W hW => hx.below (hA.trans (hW.mono hA.size))
  have HF : Hid (∀ W, Below w1.heap.size w1 W → ∀ q, Calls Tryz.prog 17 #[.agg #[.string x.name_, .int .i64 x.quota_, .int .i64 x.next_, .slice x.sets_.A x.sets_.l.length x.sets_.c, .slice x.grants_.A x.grants_.l.length x.grants_.c, .slice x.stages_.A x.stages_.l.length x.stages_.c, .slice x.log_.A x.log_.l.length x.log_.c], .string q] W fun e w' => e = .returned (.int .i64 (findM x q)) ∧ Below W.heap.size W w') := Lib.hid fun W hW q => find_any x q W (HG.out W hW)
  have HGW := Lib.hid hx
  have HK1 := Lib.hid k1
  have HW1 := Lib.hid hw1
  have hs1 := hA.size
  have hT0 : Below w1.heap.size w1 w1 := Below.refl _ _
  have HF1 := Lib.hid (HF.out w1 hT0 path)
  have z0 := (HK1.out.below hT0 HK1.out.lt).cell 0
  have z1 := (HK1.out.below hT0 HK1.out.lt).cell 1
  have z2 := (HK1.out.below hT0 HK1.out.lt).cell 2
  have z3 := (HK1.out.below hT0 HK1.out.lt).cell 3
  have z4 := (HK1.out.below hT0 HK1.out.lt).cell 4
  have z5 := (HK1.out.below hT0 HK1.out.lt).cell 5
  have z6 := (HK1.out.below hT0 HK1.out.lt).cell 6
  simp only [List.getElem?_cons_zero, List.getElem?_cons_succ] at z0 z1 z2 z3 z4 z5 z6
  rcases set_ways x path with ⟨hf, hs0⟩ | ⟨j0, y0, hf, _, _, hs0⟩
  · have hE : propsE x.plain path = 71 := by unfold propsE; rw [if_pos hs0]
    have hR : propsR x.plain path = [] := by unfold propsR; rw [hE]; rfl
    rw [hE, hR]
    rw [hf] at HF1
    clear hE hR hf hs0 k1 hw1 hx
    go_enter Tryz.func15, Tryz.ntmps15
    go_upto_region 1 with fail
    rw [HW1.out]
    go_wp2_with fail
    refine HF1.out.mono ?_
    rintro e w2 ⟨rfl, hB2⟩
    go_wp2
    go_ret2
    exact ⟨_, rfl, ownNone _ _ _ _, hA.trans (hB2.mono hs1)⟩
  · have hE : propsE x.plain path = overE (propsL x.plain path) := by unfold propsE; rw [if_neg (by rw [hs0]; simp)]
    have hR : propsR x.plain path = overR (propsL x.plain path) := by unfold propsR overR; rw [hE]
    rw [hE, hR]
    rw [hf] at HF1
    obtain ⟨LS, hLS⟩ : ∃ LS, propsL x.plain path = LS := ⟨_, rfl⟩
    rw [hLS]
    have HLS := Lib.hid hLS
    obtain ⟨E, hE2⟩ : ∃ E, overE LS = E := ⟨_, rfl⟩
    obtain ⟨U, hU2⟩ : ∃ U, overR LS = U := ⟨_, rfl⟩
    rw [hE2, hU2]
    have HE := Lib.hid hE2
    have HU := Lib.hid hU2
    clear hE2 hU2
    have hj0 : ¬ (j0 : Int) < 0 := by omega
    clear hE hR hf hs0 k1 hw1 hx hLS
    go_enter Tryz.func15, Tryz.ntmps15
    go_upto_region 1 with fail
    rw [HW1.out]
    go_wp2_with fail
    refine HF1.out.mono ?_
    rintro e w2 ⟨rfl, hB2⟩
    clear HF1 z0 z1 z2 z3 z4 z5 z6
    go_wp2
    go_loopw [1, 6, 7] (fun p v m W => ∃ (more : Bool) (cur : ByteArray) (done : List (Sl Pr)), p = .string cur ∧ m = .bool more ∧ cur.size ≤ 140737488351232 ∧ Hid (∀ s ∈ done, ∃ y ∈ x.sets_.l, s = y.own_) ∧ Hid (LS = (if more then propsL x.plain cur else []) ++ (done.map (·.l)).reverse) ∧ done.length + (if more then dep cur + 1 else 0) ≤ 5 ∧ Hid (W.ownsRow w1.heap.size 40 1 v done.length (done.map Sl.val)) ∧ Below w1.heap.size w1 W) (fun p _ m _ => meas p m)
    case atStart => exact ⟨true, path, [], rfl, rfl, hz, Lib.hid (by simp), Lib.hid (by simp [HLS.out]), by have := dep_le path; simp; omega, Lib.hid (ownNone _ _ _ _), hB2⟩
    case round =>
      obtain ⟨more, cur, done, rfl, rfl, hcs, HM, HL, hdl, HO, hB⟩ := hrel
      obtain ⟨Av, cv, hv, _, _, _, _⟩ := ownAny HO.out
      subst hv
      cases more
      · have HL2 : Hid (LS = (done.map (·.l)).reverse) := Lib.hid (by rw [HL.out]; simp)
        have hdl5 : done.length ≤ 5 := by simp at hdl; omega
        have HRV := Lib.hid (reverse_any done Av cv done.length w1.heap.size rfl (by omega) wr HO.out)
        clear HL HO
        go_wp2_with fail
        refine HRV.out.mono ?_
        rintro e w3 ⟨rfl, hrd, hB3⟩
        have hX3 : Below w.heap.size w w3 := hA.trans ((hB.trans hB3).mono hs1)
        have hg3 := HGW.out.below hX3
        have hsl : SlsP w3 Av done.reverse := ⟨hrd, fun s hs => by
          obtain ⟨y, hy, rfl⟩ := HM.out s (List.mem_reverse.1 hs)
          have hyg := hg3.gsets_.el y hy
          exact ⟨hyg.gown_.rd, by have := hyg.gown_.len; omega, fun p hp => hyg.gown_.el p hp⟩⟩
        have HOV := over_any Av cv done.length done.reverse (by simp) (by omega) w3 hsl
        have e1 : done.reverse.map (·.l) = LS := by rw [HL2.out, List.map_reverse]
        rw [e1] at HOV
        have HOV' := Lib.hid HOV
        rw [HE.out, HU.out] at HOV'
        clear HOV e1 hsl hrd HL2 HLS hg3 HRV HE HU
        go_wp2_with fail
        refine HOV'.out.mono ?_
        rintro e w4 ⟨v, rfl, ho, hB4⟩
        obtain ⟨A4, c4, rfl, _, _, _, _⟩ := ownAny ho
        have HO4 := Lib.hid (ownBase ho hX3.size)
        clear ho HOV'
        go_wp2
        go_ret2
        exact ⟨_, rfl, HO4.out, hX3.trans (hB4.mono hX3.size)⟩
      · simp only [if_true] at HL hdl
        have HFc := Lib.hid (HF.out wr hB cur)
        have z0 := (HK1.out.below hB HK1.out.lt).cell 0
        have z1 := (HK1.out.below hB HK1.out.lt).cell 1
        have z2 := (HK1.out.below hB HK1.out.lt).cell 2
        have z3 := (HK1.out.below hB HK1.out.lt).cell 3
        have z4 := (HK1.out.below hB HK1.out.lt).cell 4
        have z5 := (HK1.out.below hB HK1.out.lt).cell 5
        have z6 := (HK1.out.below hB HK1.out.lt).cell 6
        simp only [List.getElem?_cons_zero, List.getElem?_cons_succ] at z0 z1 z2 z3 z4 z5 z6
        rcases set_ways x cur with ⟨hf, hs0⟩ | ⟨j, y, hf, hy, hyp, hs0⟩
        · rw [hf] at HFc
          rcases hu : upP cur with _ | u
          · have hv : parV cur = .tuple #[.string ByteArray.empty, .bool false] := by unfold parV; rw [hu]
            have HPA := Lib.hid (fun W => parent_any cur hcs W)
            rw [hv] at HPA
            have HL' : Hid (LS = (if false = true then propsL x.plain ByteArray.empty else []) ++ (done.map (·.l)).reverse) := Lib.hid (by
              rw [HL.out, propsL_none hu]
              rw [hs0]
              simp)
            clear hv hu HL
            go_wp2_with fail
            refine HFc.out.mono ?_
            rintro e v8 ⟨rfl, hV8⟩
            have hQ8 : Below w1.heap.size w1 v8 := hB.trans (hV8.mono hB.size)
            have HO8 := Lib.hid (ownBelow HO.out hV8 (Nat.le_refl _))
            clear HO HFc
            go_wp2_with fail
            refine (HPA.out _).mono ?_
            rintro e v9 ⟨rfl, hV9⟩
            have hQ9 : Below w1.heap.size w1 v9 := hQ8.trans (hV9.mono hQ8.size)
            go_wp2
            go_roundw
            case rel => exact ⟨false, ByteArray.empty, done, rfl, rfl, by decide, HM, HL', by simp; omega, Lib.hid (ownBelow HO8.out hV9 (Nat.le_refl _)), hQ9⟩
            case measure => simp [meas]
          · have hv : parV cur = .tuple #[.string u, .bool true] := by unfold parV; rw [hu]
            have HPA := Lib.hid (fun W => parent_any cur hcs W)
            rw [hv] at HPA
            have hdu := dep_up hu
            have hus : u.size ≤ 140737488351232 := Nat.le_trans (up_size hu) hcs
            have HL' : Hid (LS = (if true = true then propsL x.plain u else []) ++ (done.map (·.l)).reverse) := Lib.hid (by
              rw [HL.out, propsL_some hu]
              rw [hs0]
              simp)
            clear hv hu HL
            go_wp2_with fail
            refine HFc.out.mono ?_
            rintro e v8 ⟨rfl, hV8⟩
            have hQ8 : Below w1.heap.size w1 v8 := hB.trans (hV8.mono hB.size)
            have HO8 := Lib.hid (ownBelow HO.out hV8 (Nat.le_refl _))
            clear HO HFc
            go_wp2_with fail
            refine (HPA.out _).mono ?_
            rintro e v9 ⟨rfl, hV9⟩
            have hQ9 : Below w1.heap.size w1 v9 := hQ8.trans (hV9.mono hQ8.size)
            go_wp2
            go_roundw
            case rel => exact ⟨true, u, done, rfl, rfl, hus, HM, HL', by simp; omega, Lib.hid (ownBelow HO8.out hV9 (Nat.le_refl _)), hQ9⟩
            case measure => simp [meas]; omega

        · rw [hf] at HFc
          have HY := Lib.hid hy
          have hjl : j < x.sets_.l.length := (List.getElem?_eq_some_iff.1 hy).1
          have hj0 : (0 : Int) ≤ (j : Int) := by omega
          have HM' : Hid (∀ s ∈ done ++ [y.own_], ∃ y ∈ x.sets_.l, s = y.own_) := Lib.hid fun s hs => by
            rcases List.mem_append.1 hs with h | h
            · exact HM.out s h
            · simp at h
              exact ⟨y, List.mem_of_getElem? HY.out, h⟩
          clear hf hy hyp
          rcases hu : upP cur with _ | u
          · have hv : parV cur = .tuple #[.string ByteArray.empty, .bool false] := by unfold parV; rw [hu]
            have HPA := Lib.hid (fun W => parent_any cur hcs W)
            rw [hv] at HPA
            have HL' : Hid (LS = (if false = true then propsL x.plain ByteArray.empty else []) ++ ((done ++ [y.own_]).map (·.l)).reverse) := Lib.hid (by
              rw [HL.out, propsL_none hu]
              rw [hs0]
              simp [MSet.plain])
            clear hv hu HL
            go_wp2_with fail
            refine HFc.out.mono ?_
            rintro e v7 ⟨rfl, hV7⟩
            have hQ7 : Below w1.heap.size w1 v7 := hB.trans (hV7.mono hB.size)
            have HO7 := Lib.hid (ownBelow HO.out hV7 (Nat.le_refl _))
            have q3 := (HK1.out.below hQ7 HK1.out.lt).cell 3
            simp only [List.getElem?_cons_zero, List.getElem?_cons_succ] at q3
            have hG7 := HG.out v7 hQ7
            obtain ⟨b, off, hAq, hb, hc⟩ := Rd.elem (n := 5) (fun _ => rfl) (by omega) hG7.gsets_.rd HY.out
            have c4 : v7.cell? ⟨b, off + j * 5 + 4, none⟩ = some (.slice y.own_.A y.own_.l.length y.own_.c) := hc 4 _ rfl
            have hlen := hG7.gsets_.len
            rw [hAq] at q3
            have hd5 : done.length ≤ 4 := by omega
            have hs7 := hQ7.size
            clear hc hAq hG7 HO HFc
            go_wp2_with (at_builtin; refine wpAppend1 rfl rfl Tryz.underlying98 (fun s : Sl Pr => [s.val]) (fun _ => rfl) (by decide) (fun y u hu => by rw [List.mem_singleton] at hu; subst hu; rfl) infoSlP rfl hQ7 hs7 (by rw [flatS]; exact HO7.out) y.own_ rfl rfl (by unfold maxLen; omega) (by omega) ?_; intro g6 c6 x6 HO6 HB6)
            have HO8 : Hid (x6.ownsRow w1.heap.size 40 1 (.slice (some ⟨g6, 0, none⟩) (done.length + 1) c6) (done ++ [y.own_]).length ((done ++ [y.own_]).map Sl.val)) := Lib.hid (by
              have := HO6.out
              rw [flatS] at this
              simpa using this)
            have hX6 := HB6.out
            clear HO6 HB6 HO7
            refine (HPA.out _).mono ?_
            rintro e v9 ⟨rfl, hV9⟩
            have hQ9 : Below w1.heap.size w1 v9 := hX6.trans (hV9.mono hX6.size)
            go_wp2
            go_roundw
            case rel => exact ⟨false, ByteArray.empty, (done ++ [y.own_]), rfl, rfl, by decide, HM', HL', by simp; omega, Lib.hid (by simpa using ownBelow HO8.out hV9 (Nat.le_refl _)), hQ9⟩
            case measure => simp [meas]
          · have hv : parV cur = .tuple #[.string u, .bool true] := by unfold parV; rw [hu]
            have HPA := Lib.hid (fun W => parent_any cur hcs W)
            rw [hv] at HPA
            have hdu := dep_up hu
            have hus : u.size ≤ 140737488351232 := Nat.le_trans (up_size hu) hcs
            have HL' : Hid (LS = (if true = true then propsL x.plain u else []) ++ ((done ++ [y.own_]).map (·.l)).reverse) := Lib.hid (by
              rw [HL.out, propsL_some hu]
              rw [hs0]
              simp [MSet.plain])
            clear hv hu HL
            go_wp2_with fail
            refine HFc.out.mono ?_
            rintro e v7 ⟨rfl, hV7⟩
            have hQ7 : Below w1.heap.size w1 v7 := hB.trans (hV7.mono hB.size)
            have HO7 := Lib.hid (ownBelow HO.out hV7 (Nat.le_refl _))
            have q3 := (HK1.out.below hQ7 HK1.out.lt).cell 3
            simp only [List.getElem?_cons_zero, List.getElem?_cons_succ] at q3
            have hG7 := HG.out v7 hQ7
            obtain ⟨b, off, hAq, hb, hc⟩ := Rd.elem (n := 5) (fun _ => rfl) (by omega) hG7.gsets_.rd HY.out
            have c4 : v7.cell? ⟨b, off + j * 5 + 4, none⟩ = some (.slice y.own_.A y.own_.l.length y.own_.c) := hc 4 _ rfl
            have hlen := hG7.gsets_.len
            rw [hAq] at q3
            have hd5 : done.length ≤ 4 := by omega
            have hs7 := hQ7.size
            clear hc hAq hG7 HO HFc
            go_wp2_with (at_builtin; refine wpAppend1 rfl rfl Tryz.underlying98 (fun s : Sl Pr => [s.val]) (fun _ => rfl) (by decide) (fun y u hu => by rw [List.mem_singleton] at hu; subst hu; rfl) infoSlP rfl hQ7 hs7 (by rw [flatS]; exact HO7.out) y.own_ rfl rfl (by unfold maxLen; omega) (by omega) ?_; intro g6 c6 x6 HO6 HB6)
            have HO8 : Hid (x6.ownsRow w1.heap.size 40 1 (.slice (some ⟨g6, 0, none⟩) (done.length + 1) c6) (done ++ [y.own_]).length ((done ++ [y.own_]).map Sl.val)) := Lib.hid (by
              have := HO6.out
              rw [flatS] at this
              simpa using this)
            have hX6 := HB6.out
            clear HO6 HB6 HO7
            refine (HPA.out _).mono ?_
            rintro e v9 ⟨rfl, hV9⟩
            have hQ9 : Below w1.heap.size w1 v9 := hX6.trans (hV9.mono hX6.size)
            go_wp2
            go_roundw
            case rel => exact ⟨true, u, (done ++ [y.own_]), rfl, rfl, hus, HM', HL', by simp; omega, Lib.hid (by simpa using ownBelow HO8.out hV9 (Nat.le_refl _)), hQ9⟩
            case measure => simp [meas]; omega


end Go.Proofs.YtoonebbbgchkhaaGreat
