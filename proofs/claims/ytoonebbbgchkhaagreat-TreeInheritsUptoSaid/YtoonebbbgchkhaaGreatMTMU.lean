/-
  TreeInherits’ walk. Conditions: the tenant is as it comes in; paths of at most 2^42 octets.
-/
import Derived.Test.YtoonebbbgchkhaaGreatMTMJ
import Derived.Test.YtoonebbbgchkhaaGreatMTMG
import Derived.Test.YtoonebbbgchkhaaGreatMTMT
import Derived.Test.YtoonebbbgchkhaaGreatMRPR
namespace Go.Proofs.YtoonebbbgchkhaaGreat
open Go.ChangeShapes Go.WideShapes Go.ChangeAt Go.RowKit
set_option maxRecDepth 100000
set_option linter.unusedSimpArgs false

theorem aboveL_slash (l : List UInt8) : aboveL (l ++ [47]) = l := by
  have := aboveL_up (a := l) (b := []) (by simp)
  exact this
theorem aboveL_other (l : List UInt8) {c : UInt8} (h : c ≠ 47) : aboveL (l ++ [c]) = aboveL l := by
  unfold aboveL
  rw [List.reverse_append]
  simp [h]
theorem propsR_len (t : PTenant) (p : ByteArray) : (propsR t p).length ≤ 8 := by
  unfold propsR
  split
  · rename_i h
    unfold propsE at h
    split at h
    · cases h
    · unfold overE at h
      split at h
      · cases h
      · split at h
        · cases h
        · omega
  · simp
/-- What stands at a path has of a name what is its own, else what stands above it has. -/
theorem inherits {x : MTenant} (hok : okT x.plain = true) {p : ByteArray} (hp : p ≠ ByteArray.empty) (h0 : propsE x.plain p = 0) :
    ∃ (j : Nat) (y : MSet), findM x p = j ∧ x.sets_.l[j]? = some y ∧ ∀ n, propsE x.plain (ofL (aboveL (bs p))) = 0 → getP (propsR x.plain p) n = (getP y.own_.l n).or (getP (propsR x.plain (ofL (aboveL (bs p)))) n) := by
  have hs : setAt x.plain p ≠ none := by
    intro e
    unfold propsE at h0
    rw [if_pos e] at h0
    cases h0
  rcases set_ways x p with ⟨_, e⟩ | ⟨j, y, hf, hy, hyp, hsa⟩
  · exact absurd e hs
  · refine ⟨j, y, hf, hy, fun n hu0 => ?_⟩
    rw [okT_prog] at hok
    simp only [Bool.and_eq_true] at hok
    obtain ⟨_, _, _, ⟨_, h1, _, _, h4⟩, _⟩ := hok
    have hm := List.mem_of_getElem? hy
    have hup := List.all_eq_true.1 h4 y hm
    rw [Bool.and_eq_true, hyp] at hup
    have hset := List.all_eq_true.1 h1 y hm
    have hrise : RisP y.own_.l := by
      unfold setS at hset
      rw [Bool.and_eq_true, Bool.and_eq_true] at hset
      exact (okP_iff.1 hset.2.1).2.2
    have hpath : isPath (bs p) = true := by
      rw [← Bool.not_eq_false]
      intro e
      have := hup.1
      unfold upB at this
      rw [upP_off e] at this
      exact hp (of_decide_eq_true this)
    have hu := upP_some hpath hp
    unfold propsR
    rw [if_pos h0, if_pos hu0]
    exact props_get hpath hu hsa hrise n

set_option maxHeartbeats 8000000 in
theorem inherits_walk (x : MTenant) (path name : ByteArray) (hz : path.size ≤ 140737488351232) (w : World) (hx : x.Good w) (ht : x.Tiny) :
    Calls Tryz.prog 5 #[.agg x.cells.toArray, .string path, .string name] w fun e w' => e = .returned (.bool true) ∧ Below w.heap.size w w' := by
  obtain ⟨w1, hw1⟩ : ∃ w1, w.alloc (.cells #[.string x.name_, .int .i64 x.quota_, .int .i64 x.next_, .slice x.sets_.A x.sets_.l.length x.sets_.c, .slice x.grants_.A x.grants_.l.length x.grants_.c, .slice x.stages_.A x.stages_.l.length x.stages_.c, .slice x.log_.A x.log_.l.length x.log_.c] 27) = w1 := ⟨_, rfl⟩
  have hA : Below w.heap.size w w1 := hw1 ▸ (Below.refl _ w).alloc (Nat.le_refl _) _
  have k1 : Blk w1 w.heap.size 27 x.cells := hw1 ▸ Blk.new w _ _
  have HG : Hid (∀ W, Below w1.heap.size w1 W → x.Good W) := Lib.hid fun W hW => hx.below (hA.trans (hW.mono hA.size))
  have HRC : Hid (∀ W, Below w1.heap.size w1 W → Calls Tryz.prog 12 #[.agg #[.string x.name_, .int .i64 x.quota_, .int .i64 x.next_, .slice x.sets_.A x.sets_.l.length x.sets_.c, .slice x.grants_.A x.grants_.l.length x.grants_.c, .slice x.stages_.A x.stages_.l.length x.stages_.c, .slice x.log_.A x.log_.l.length x.log_.c]] W fun e w' => e = .returned (.int .i64 (if okT x.plain = true then 0 else 9)) ∧ Below W.heap.size W w') := Lib.hid fun W hW => refCheck_any14 x W (HG.out W hW) ht
  have HPR : Hid (∀ W, Below w1.heap.size w1 W → Calls Tryz.prog 15 #[.agg #[.string x.name_, .int .i64 x.quota_, .int .i64 x.next_, .slice x.sets_.A x.sets_.l.length x.sets_.c, .slice x.grants_.A x.grants_.l.length x.grants_.c, .slice x.stages_.A x.stages_.l.length x.stages_.c, .slice x.log_.A x.log_.l.length x.log_.c], .string path] W fun e w' => ∃ v, e = .returned (ansP v (propsE x.plain path)) ∧ ownP w' W.heap.size v (propsR x.plain path) ∧ Below W.heap.size W w') := Lib.hid fun W hW => props14_any x path hz W (HG.out W hW)
  have HFI : Hid (∀ W, Below w1.heap.size w1 W → Calls Tryz.prog 17 #[.agg #[.string x.name_, .int .i64 x.quota_, .int .i64 x.next_, .slice x.sets_.A x.sets_.l.length x.sets_.c, .slice x.grants_.A x.grants_.l.length x.grants_.c, .slice x.stages_.A x.stages_.l.length x.stages_.c, .slice x.log_.A x.log_.l.length x.log_.c], .string path] W fun e w' => e = .returned (.int .i64 (findM x path)) ∧ Below W.heap.size W w') := Lib.hid fun W hW => find_any x path W (HG.out W hW)
  have HNM := Lib.hid num14_any
  have HAL := Lib.hid (alive14_any w1)
  have HK1 := Lib.hid k1
  have HW1 := Lib.hid hw1
  have hs1 := hA.size
  clear k1 hw1 hx ht
  by_cases h0 : propsE x.plain path = 0
  · have hs : setAt x.plain path ≠ none := by
      intro e
      unfold propsE at h0
      rw [if_pos e] at h0
      cases h0
    rcases hok : okT x.plain with _ | _
    · obtain ⟨j, hfj⟩ : ∃ j : Nat, findM x path = j := by
        rcases set_ways x path with ⟨_, e⟩ | ⟨j, y, hf, _⟩
        · exact absurd e hs
        · exact ⟨j, hf⟩
      rw [hfj] at HFI
      rw [hok] at HRC
      rw [h0] at HPR
      have hj0 : (0 : Int) ≤ (j : Int) := by omega
      generalize propsR x.plain path = PL at *
      clear h0 hok hs hfj HG
      go_enter Tryz.func5, Tryz.ntmps5
      go_upto_region 1 with fail
      rw [HW1.out]
      go_wp2_with fail
      refine HAL.out.mono ?_
      rintro e w2 ⟨rfl, hB2⟩
      have z0 := (HK1.out.below hB2 HK1.out.lt).cell 0
      have z1 := (HK1.out.below hB2 HK1.out.lt).cell 1
      have z2 := (HK1.out.below hB2 HK1.out.lt).cell 2
      have z3 := (HK1.out.below hB2 HK1.out.lt).cell 3
      have z4 := (HK1.out.below hB2 HK1.out.lt).cell 4
      have z5 := (HK1.out.below hB2 HK1.out.lt).cell 5
      have z6 := (HK1.out.below hB2 HK1.out.lt).cell 6
      simp only [List.getElem?_cons_zero, List.getElem?_cons_succ] at z0 z1 z2 z3 z4 z5 z6
      go_wp2_with fail
      refine (HPR.out w2 hB2).mono ?_
      rintro e w3 ⟨v3, rfl, ho3, hB3⟩
      have hQ3 : Below w1.heap.size w1 w3 := hB2.trans (hB3.mono hB2.size)
      obtain ⟨A3, c3, rfl, _, _, _, _⟩ := ownAny ho3
      have HR3 := Lib.hid (RdN.of_own ho3).1
      clear ho3
      go_wp2_with fail
      refine (HNM.out _ w3).mono ?_
      rintro e w4 ⟨rfl, rfl⟩
      have z0 := (HK1.out.below hQ3 HK1.out.lt).cell 0
      have z1 := (HK1.out.below hQ3 HK1.out.lt).cell 1
      have z2 := (HK1.out.below hQ3 HK1.out.lt).cell 2
      have z3 := (HK1.out.below hQ3 HK1.out.lt).cell 3
      have z4 := (HK1.out.below hQ3 HK1.out.lt).cell 4
      have z5 := (HK1.out.below hQ3 HK1.out.lt).cell 5
      have z6 := (HK1.out.below hQ3 HK1.out.lt).cell 6
      simp only [List.getElem?_cons_zero, List.getElem?_cons_succ] at z0 z1 z2 z3 z4 z5 z6
      go_wp2_with fail
      refine (HRC.out w3 hQ3).mono ?_
      rintro e w4 ⟨rfl, hB4⟩
      have hQ4 : Below w1.heap.size w1 w4 := hQ3.trans (hB4.mono hQ3.size)
      go_wp2_with fail
      refine (HNM.out _ w4).mono ?_
      rintro e w5 ⟨rfl, rfl⟩
      have z0 := (HK1.out.below hQ4 HK1.out.lt).cell 0
      have z1 := (HK1.out.below hQ4 HK1.out.lt).cell 1
      have z2 := (HK1.out.below hQ4 HK1.out.lt).cell 2
      have z3 := (HK1.out.below hQ4 HK1.out.lt).cell 3
      have z4 := (HK1.out.below hQ4 HK1.out.lt).cell 4
      have z5 := (HK1.out.below hQ4 HK1.out.lt).cell 5
      have z6 := (HK1.out.below hQ4 HK1.out.lt).cell 6
      simp only [List.getElem?_cons_zero, List.getElem?_cons_succ] at z0 z1 z2 z3 z4 z5 z6
      go_wp2_with fail
      refine (HFI.out w4 hQ4).mono ?_
      rintro e w6 ⟨rfl, hB6⟩
      go_wp2
      go_ret
      exact ⟨rfl, hA.trans ((hQ4.trans (hB6.mono hQ4.size)).mono hs1)⟩

    · by_cases hp : path = ByteArray.empty
      · have he : path.toList.isEmpty = true := by rw [hp]; exact empty_isEmpty
        obtain ⟨j, hfj⟩ : ∃ j : Nat, findM x path = j := by
          rcases set_ways x path with ⟨_, e⟩ | ⟨j, y, hf, _⟩
          · exact absurd e hs
          · exact ⟨j, hf⟩
        rw [hfj] at HFI
        rw [hok] at HRC
        rw [h0] at HPR
        have hj0 : (0 : Int) ≤ (j : Int) := by omega
        generalize propsR x.plain path = PL at *
        clear h0 hok hs hfj hp HG
        go_enter Tryz.func5, Tryz.ntmps5
        go_upto_region 1 with fail
        rw [HW1.out]
        go_wp2_with fail
        refine HAL.out.mono ?_
        rintro e w2 ⟨rfl, hB2⟩
        have z0 := (HK1.out.below hB2 HK1.out.lt).cell 0
        have z1 := (HK1.out.below hB2 HK1.out.lt).cell 1
        have z2 := (HK1.out.below hB2 HK1.out.lt).cell 2
        have z3 := (HK1.out.below hB2 HK1.out.lt).cell 3
        have z4 := (HK1.out.below hB2 HK1.out.lt).cell 4
        have z5 := (HK1.out.below hB2 HK1.out.lt).cell 5
        have z6 := (HK1.out.below hB2 HK1.out.lt).cell 6
        simp only [List.getElem?_cons_zero, List.getElem?_cons_succ] at z0 z1 z2 z3 z4 z5 z6
        go_wp2_with fail
        refine (HPR.out w2 hB2).mono ?_
        rintro e w3 ⟨v3, rfl, ho3, hB3⟩
        have hQ3 : Below w1.heap.size w1 w3 := hB2.trans (hB3.mono hB2.size)
        obtain ⟨A3, c3, rfl, _, _, _, _⟩ := ownAny ho3
        have HR3 := Lib.hid (RdN.of_own ho3).1
        clear ho3
        go_wp2_with fail
        refine (HNM.out _ w3).mono ?_
        rintro e w4 ⟨rfl, rfl⟩
        have z0 := (HK1.out.below hQ3 HK1.out.lt).cell 0
        have z1 := (HK1.out.below hQ3 HK1.out.lt).cell 1
        have z2 := (HK1.out.below hQ3 HK1.out.lt).cell 2
        have z3 := (HK1.out.below hQ3 HK1.out.lt).cell 3
        have z4 := (HK1.out.below hQ3 HK1.out.lt).cell 4
        have z5 := (HK1.out.below hQ3 HK1.out.lt).cell 5
        have z6 := (HK1.out.below hQ3 HK1.out.lt).cell 6
        simp only [List.getElem?_cons_zero, List.getElem?_cons_succ] at z0 z1 z2 z3 z4 z5 z6
        go_wp2_with fail
        refine (HRC.out w3 hQ3).mono ?_
        rintro e w4 ⟨rfl, hB4⟩
        have hQ4 : Below w1.heap.size w1 w4 := hQ3.trans (hB4.mono hQ3.size)
        go_wp2_with fail
        refine (HNM.out _ w4).mono ?_
        rintro e w5 ⟨rfl, rfl⟩
        have z0 := (HK1.out.below hQ4 HK1.out.lt).cell 0
        have z1 := (HK1.out.below hQ4 HK1.out.lt).cell 1
        have z2 := (HK1.out.below hQ4 HK1.out.lt).cell 2
        have z3 := (HK1.out.below hQ4 HK1.out.lt).cell 3
        have z4 := (HK1.out.below hQ4 HK1.out.lt).cell 4
        have z5 := (HK1.out.below hQ4 HK1.out.lt).cell 5
        have z6 := (HK1.out.below hQ4 HK1.out.lt).cell 6
        simp only [List.getElem?_cons_zero, List.getElem?_cons_succ] at z0 z1 z2 z3 z4 z5 z6
        go_wp2_with fail
        refine (HFI.out w4 hQ4).mono ?_
        rintro e w6 ⟨rfl, hB6⟩
        go_wp2
        go_ret
        exact ⟨rfl, hA.trans ((hQ4.trans (hB6.mono hQ4.size)).mono hs1)⟩

      · have he := isEmpty_no hp
        obtain ⟨j, y, hfj, hy, hget⟩ := inherits hok hp h0
        have HGT := Lib.hid (hget name)
        have hlen1 := propsR_len x.plain path
        have hlen2 := propsR_len x.plain (ofL (aboveL (bs path)))
        have hus : (ofL (aboveL (bs path))).size ≤ 140737488351232 := by
          by_cases hq : isPath (bs path) = true
          · exact Nat.le_trans (up_size (upP_some hq hp)) hz
          · rw [ofL_size]
            have : (aboveL (bs path)).length ≤ (bs path).length := by
              unfold aboveL
              rw [List.length_reverse, List.length_drop]
              have := (List.dropWhile_sublist (l := (bs path).reverse) (p := fun c => decide (c ≠ 47))).length_le
              rw [List.length_reverse] at this
              omega
            rw [bs_length] at this
            omega
        have HPU : Hid (∀ W, Below w1.heap.size w1 W → Calls Tryz.prog 15 #[.agg #[.string x.name_, .int .i64 x.quota_, .int .i64 x.next_, .slice x.sets_.A x.sets_.l.length x.sets_.c, .slice x.grants_.A x.grants_.l.length x.grants_.c, .slice x.stages_.A x.stages_.l.length x.stages_.c, .slice x.log_.A x.log_.l.length x.log_.c], .string (ofL (aboveL (bs path)))] W fun e w' => ∃ v, e = .returned (ansP v (propsE x.plain (ofL (aboveL (bs path))))) ∧ ownP w' W.heap.size v (propsR x.plain (ofL (aboveL (bs path)))) ∧ Below W.heap.size W w') := Lib.hid fun W hW => props14_any x (ofL (aboveL (bs path))) hus W (HG.out W hW)
        obtain ⟨U, hU⟩ : ∃ U, ofL (aboveL (bs path)) = U := ⟨_, rfl⟩
        have HU := Lib.hid hU
        rw [hU] at HPU HGT hlen2
        rw [hok] at HRC
        rw [h0] at HPR
        rw [hfj] at HFI
        have hj0 : (0 : Int) ≤ (j : Int) := by omega
        have HY := Lib.hid hy
        have hjl : j < x.sets_.l.length := (List.getElem?_eq_some_iff.1 hy).1
        generalize propsR x.plain path = PL at *
        generalize propsR x.plain U = PU at *
        obtain ⟨FU, hFU⟩ : ∃ F, propsE x.plain U = F := ⟨_, rfl⟩
        rw [hFU] at HPU HGT
        clear h0 hok hs hfj hp hy hget hU hFU hus
        go_enter Tryz.func5, Tryz.ntmps5
        go_upto_region 1 with fail
        rw [HW1.out]
        go_wp2_with fail
        refine HAL.out.mono ?_
        rintro e w2 ⟨rfl, hB2⟩
        have z0 := (HK1.out.below hB2 HK1.out.lt).cell 0
        have z1 := (HK1.out.below hB2 HK1.out.lt).cell 1
        have z2 := (HK1.out.below hB2 HK1.out.lt).cell 2
        have z3 := (HK1.out.below hB2 HK1.out.lt).cell 3
        have z4 := (HK1.out.below hB2 HK1.out.lt).cell 4
        have z5 := (HK1.out.below hB2 HK1.out.lt).cell 5
        have z6 := (HK1.out.below hB2 HK1.out.lt).cell 6
        simp only [List.getElem?_cons_zero, List.getElem?_cons_succ] at z0 z1 z2 z3 z4 z5 z6
        go_wp2_with fail
        refine (HPR.out w2 hB2).mono ?_
        rintro e w3 ⟨v3, rfl, ho3, hB3⟩
        have hQ3 : Below w1.heap.size w1 w3 := hB2.trans (hB3.mono hB2.size)
        obtain ⟨A3, c3, rfl, _, _, _, _⟩ := ownAny ho3
        have HR3 := Lib.hid (RdN.of_own ho3).1
        clear ho3
        go_wp2_with fail
        refine (HNM.out _ w3).mono ?_
        rintro e w4 ⟨rfl, rfl⟩
        have z0 := (HK1.out.below hQ3 HK1.out.lt).cell 0
        have z1 := (HK1.out.below hQ3 HK1.out.lt).cell 1
        have z2 := (HK1.out.below hQ3 HK1.out.lt).cell 2
        have z3 := (HK1.out.below hQ3 HK1.out.lt).cell 3
        have z4 := (HK1.out.below hQ3 HK1.out.lt).cell 4
        have z5 := (HK1.out.below hQ3 HK1.out.lt).cell 5
        have z6 := (HK1.out.below hQ3 HK1.out.lt).cell 6
        simp only [List.getElem?_cons_zero, List.getElem?_cons_succ] at z0 z1 z2 z3 z4 z5 z6
        go_wp2_with fail
        refine (HRC.out w3 hQ3).mono ?_
        rintro e w4 ⟨rfl, hB4⟩
        have hQ4 : Below w1.heap.size w1 w4 := hQ3.trans (hB4.mono hQ3.size)
        go_wp2
        go_loop [9, 10] (fun u i => ∃ k : Nat, k ≤ path.size ∧ i = .int .i64 k ∧ u = .string (ofL (aboveL ((bs path).take k)))) (fun _ i => path.size - (intOf i).toNat)
        case atStart => exact ⟨0, Nat.zero_le _, rfl, rfl⟩
        case round =>
          obtain ⟨k, hk, rfl, rfl⟩ := hrel
          by_cases hlt : k < path.size
          · have hg : (bs path)[k]? = some path[k] := by
              rw [List.getElem?_eq_getElem (by rw [bs_length]; exact hlt)]
              rfl
            have htk : (bs path).take (k + 1) = (bs path).take k ++ [path[k]] := by
              rw [List.take_add_one, hg]
              rfl
            by_cases h47 : path[k] = 47
            · have hd : ((path[k].toNat : Int) == 47) = true := by rw [h47]; rfl
              have HE : Hid (path.extract 0 k = ofL (aboveL ((bs path).take (k + 1)))) := Lib.hid (by
                rw [htk, h47, aboveL_slash]
                refine bs_inj ?_
                rw [bs_ofL, bs_extract]
                simp)
              clear hg htk h47
              go_wp2
              go_round
              case rel => exact ⟨k + 1, by omega, by go_num, by rw [HE.out]⟩
              case measure => simp [intOf]; omega
            · have hd : ((path[k].toNat : Int) == 47) = false := by
                rw [beq_eq_false_iff_ne]
                intro e
                exact h47 (UInt8.toNat_inj.1 (by show path[k].toNat = 47; omega))
              have HE : Hid (ofL (aboveL ((bs path).take k)) = ofL (aboveL ((bs path).take (k + 1)))) := Lib.hid (by
                rw [htk, aboveL_other _ h47])
              clear hg htk h47
              go_wp2
              go_round
              case rel => exact ⟨k + 1, by omega, by go_num, by rw [HE.out]⟩
              case measure => simp [intOf]; omega
          · have hke : ofL (aboveL ((bs path).take k)) = U := by rw [← HU.out, List.take_of_length_le (by rw [bs_length]; omega)]
            rw [hke]
            clear hke HU
            have z0 := (HK1.out.below hQ4 HK1.out.lt).cell 0
            have z1 := (HK1.out.below hQ4 HK1.out.lt).cell 1
            have z2 := (HK1.out.below hQ4 HK1.out.lt).cell 2
            have z3 := (HK1.out.below hQ4 HK1.out.lt).cell 3
            have z4 := (HK1.out.below hQ4 HK1.out.lt).cell 4
            have z5 := (HK1.out.below hQ4 HK1.out.lt).cell 5
            have z6 := (HK1.out.below hQ4 HK1.out.lt).cell 6
            simp only [List.getElem?_cons_zero, List.getElem?_cons_succ] at z0 z1 z2 z3 z4 z5 z6
            go_wp2_with fail
            refine (HPU.out w4 hQ4).mono ?_
            rintro e w5 ⟨v5, rfl, ho5, hB5⟩
            have hQ5 : Below w1.heap.size w1 w5 := hQ4.trans (hB5.mono hQ4.size)
            obtain ⟨A5, c5, rfl, _, _, _, _⟩ := ownAny ho5
            have HR5 := Lib.hid (RdN.of_own ho5).1
            have HP1 := Lib.hid (refProp_any A3 c3 PL.length PL rfl (by omega) name w5 ((HR3.out.below hB4).below hB5))
            clear ho5 z0 z1 z2 z3 z4 z5 z6
            obtain ⟨o1, ho1⟩ : ∃ o, getP PL name = o := ⟨_, rfl⟩
            rw [ho1] at HP1 HGT
            clear ho1
            go_wp2_with fail
            refine HP1.out.mono ?_
            rintro e w6 ⟨rfl, hB6⟩
            have hQ6 : Below w1.heap.size w1 w6 := hQ5.trans (hB6.mono hQ5.size)
            have hlz : w.heap.size < w6.heap.size := Nat.lt_of_lt_of_le HK1.out.lt hQ6.size
            have z0 := (HK1.out.below hQ6 HK1.out.lt).cell 0
            have z1 := (HK1.out.below hQ6 HK1.out.lt).cell 1
            have z2 := (HK1.out.below hQ6 HK1.out.lt).cell 2
            have z3 := (HK1.out.below hQ6 HK1.out.lt).cell 3
            have z4 := (HK1.out.below hQ6 HK1.out.lt).cell 4
            have z5 := (HK1.out.below hQ6 HK1.out.lt).cell 5
            have z6 := (HK1.out.below hQ6 HK1.out.lt).cell 6
            simp only [List.getElem?_cons_zero, List.getElem?_cons_succ] at z0 z1 z2 z3 z4 z5 z6
            have hG6 := HG.out w6 hQ6
            obtain ⟨b, off, hAq, hb, hc⟩ := Rd.elem (n := 5) (fun _ => rfl) (by omega) hG6.gsets_.rd HY.out
            have c4 : w6.cell? ⟨b, off + j * 5 + 4, none⟩ = some (.slice y.own_.A y.own_.l.length y.own_.c) := hc 4 _ rfl
            have hlen := hG6.gsets_.len
            have hyo := (hG6.gsets_.el y (List.mem_of_getElem? HY.out)).gown_
            have HYO := Lib.hid hyo
            have hyl := hyo.len
            have HFJ : Hid (∀ W, Below w1.heap.size w1 W → Calls Tryz.prog 17 #[.agg #[.string x.name_, .int .i64 x.quota_, .int .i64 x.next_, .slice (some ⟨b, off, none⟩) x.sets_.l.length x.sets_.c, .slice x.grants_.A x.grants_.l.length x.grants_.c, .slice x.stages_.A x.stages_.l.length x.stages_.c, .slice x.log_.A x.log_.l.length x.log_.c], .string path] W fun e w' => e = .returned (.int .i64 j) ∧ Below W.heap.size W w') := Lib.hid (by rw [← hAq]; exact HFI.out)
            rw [hAq] at z3
            obtain ⟨o2, ho2⟩ : ∃ o, getP y.own_.l name = o := ⟨_, rfl⟩
            have HP2 : Hid (∀ W, Below w6.heap.size w6 W → Calls Tryz.prog 18 #[.slice y.own_.A y.own_.l.length y.own_.c, .string name] W fun e w' => e = .returned (ansO o2) ∧ Below W.heap.size W w') := Lib.hid fun W hW => by
              rw [← ho2]
              exact refProp_any y.own_.A y.own_.c y.own_.l.length y.own_.l rfl (by omega) name W (HYO.out.rd.below hW)
            rw [ho2] at HGT
            clear hc hG6 hyo ho2 hAq
            go_wp2_with fail
            refine wp_region_noPanic ?_
            refine wp_region_last 9 (fun W => W.cell? ⟨w.heap.size, 0, none⟩ = some (.string x.name_) ∧ W.cell? ⟨w.heap.size, 1, none⟩ = some (.int .i64 x.quota_) ∧ W.cell? ⟨w.heap.size, 2, none⟩ = some (.int .i64 x.next_) ∧ W.cell? ⟨w.heap.size, 3, none⟩ = some (.slice (some ⟨b, off, none⟩) x.sets_.l.length x.sets_.c) ∧ W.cell? ⟨w.heap.size, 4, none⟩ = some (.slice x.grants_.A x.grants_.l.length x.grants_.c) ∧ W.cell? ⟨w.heap.size, 5, none⟩ = some (.slice x.stages_.A x.stages_.l.length x.stages_.c) ∧ W.cell? ⟨w.heap.size, 6, none⟩ = some (.slice x.log_.A x.log_.l.length x.log_.c) ∧ W.cell? ⟨b, off + j * 5 + 4, none⟩ = some (.slice y.own_.A y.own_.l.length y.own_.c)) (by kernel_rfl) ⟨z0, z1, z2, z3, z4, z5, z6, c4⟩ (fun hHeld => ?_)
            refine wpAnyL_take 12 (i := 0) (oi := ⟨some 72, _, _, _, _, _⟩) (v := ?_) rfl (by kernel_rfl) (by kernel_rfl) (by kernel_rfl) (by kernel_rfl) (by kernel_rfl) (by kernel_rfl) (by kernel_rfl) (fun _ _ _ h => h) (Or.inl ⟨by rfl, ?_⟩) hHeld ?_
            rotate_left
            focus (intro w hSw; (try dsimp only at hSw); go_simp; try (with_reducible rfl))
            try simp only [Act.put, List.setIfInBounds_toArray, List.set_cons_zero, List.set_cons_succ]
            refine wpAnyL_take 12 (i := 1) (oi := ⟨some 73, _, _, _, _, _⟩) (v := ?_) rfl (by kernel_rfl) (by kernel_rfl) (by kernel_rfl) (by kernel_rfl) (by kernel_rfl) (by kernel_rfl) (by kernel_rfl) (fun _ _ _ h => h) (Or.inl ⟨by rfl, ?_⟩) hHeld ?_
            rotate_left
            focus (intro w hSw; (try dsimp only at hSw); go_simp; try (with_reducible rfl))
            try simp only [Act.put, List.setIfInBounds_toArray, List.set_cons_zero, List.set_cons_succ]
            refine wpAnyL_take 12 (i := 2) (oi := ⟨some 74, _, _, _, _, _⟩) (v := ?_) rfl (by kernel_rfl) (by kernel_rfl) (by kernel_rfl) (by kernel_rfl) (by kernel_rfl) (by kernel_rfl) (by kernel_rfl) (fun _ _ _ h => h) (Or.inl ⟨by rfl, ?_⟩) hHeld ?_
            rotate_left
            focus (intro w hSw; (try dsimp only at hSw); go_simp; try (with_reducible rfl))
            try simp only [Act.put, List.setIfInBounds_toArray, List.set_cons_zero, List.set_cons_succ]
            refine wpAnyL_take 12 (i := 3) (oi := ⟨some 75, _, _, _, _, _⟩) (v := ?_) rfl (by kernel_rfl) (by kernel_rfl) (by kernel_rfl) (by kernel_rfl) (by kernel_rfl) (by kernel_rfl) (by kernel_rfl) (fun _ _ _ h => h) (Or.inl ⟨by rfl, ?_⟩) hHeld ?_
            rotate_left
            focus (intro w hSw; (try dsimp only at hSw); go_simp; try (with_reducible rfl))
            try simp only [Act.put, List.setIfInBounds_toArray, List.set_cons_zero, List.set_cons_succ]
            refine wpAnyL_take 12 (i := 8) (oi := ⟨some 80, _, _, _, _, _⟩) (v := ?_) rfl (by kernel_rfl) (by kernel_rfl) (by kernel_rfl) (by kernel_rfl) (by kernel_rfl) (by kernel_rfl) (by kernel_rfl) (fun _ _ _ h => h) (Or.inl ⟨by rfl, ?_⟩) hHeld ?_
            rotate_left
            focus (intro w hSw; (try dsimp only at hSw); go_simp; try (with_reducible rfl))
            try simp only [Act.put, List.setIfInBounds_toArray, List.set_cons_zero, List.set_cons_succ]
            refine wpAnyL_one (i := 4) (o := ⟨some 76, _, _, _, _, _⟩) (by kernel_rfl) rfl (fun K hK => ?_)
            clear hHeld
            go_simp
            refine (HFJ.out _ (hQ6.trans (belowDrewN w6 1 _))).mono ?_
            rintro e w9 ⟨rfl, hB9⟩
            go_wp2_with fail
            refine hK.out _ _ ⟨(hB9.cell (p := ⟨w.heap.size, 0, none⟩) hlz).trans z0, (hB9.cell (p := ⟨w.heap.size, 1, none⟩) hlz).trans z1, (hB9.cell (p := ⟨w.heap.size, 2, none⟩) hlz).trans z2, (hB9.cell (p := ⟨w.heap.size, 3, none⟩) hlz).trans z3, (hB9.cell (p := ⟨w.heap.size, 4, none⟩) hlz).trans z4, (hB9.cell (p := ⟨w.heap.size, 5, none⟩) hlz).trans z5, (hB9.cell (p := ⟨w.heap.size, 6, none⟩) hlz).trans z6, (hB9.cell (p := ⟨b, off + j * 5 + 4, none⟩) hb).trans c4⟩ (fun hHeld => ?_)
            clear hK K
            try simp only [Act.put, List.setIfInBounds_toArray, List.set_cons_zero, List.set_cons_succ]
            refine wpAnyL_take 12 (i := 5) (oi := ⟨some 77, _, _, _, _, _⟩) (v := ?_) rfl (by kernel_rfl) (by kernel_rfl) (by kernel_rfl) (by kernel_rfl) (by kernel_rfl) (by kernel_rfl) (by kernel_rfl) (fun _ _ _ h => h) (Or.inl ⟨by rfl, ?_⟩) hHeld ?_
            rotate_left
            focus (intro w hSw; (try dsimp only at hSw); go_simp; try (with_reducible rfl))
            try simp only [Act.put, List.setIfInBounds_toArray, List.set_cons_zero, List.set_cons_succ]
            refine wpAnyL_take 12 (i := 6) (oi := ⟨some 78, _, _, _, _, _⟩) (v := ?_) rfl (by kernel_rfl) (by kernel_rfl) (by kernel_rfl) (by kernel_rfl) (by kernel_rfl) (by kernel_rfl) (by kernel_rfl) (fun _ _ _ h => h) (Or.inl ⟨by rfl, ?_⟩) hHeld ?_
            rotate_left
            focus (intro w hSw; (try dsimp only at hSw); go_simp; try (with_reducible rfl))
            try simp only [Act.put, List.setIfInBounds_toArray, List.set_cons_zero, List.set_cons_succ]
            refine wpAnyL_take 12 (i := 7) (oi := ⟨some 79, _, _, _, _, _⟩) (v := ?_) rfl (by kernel_rfl) (by kernel_rfl) (by kernel_rfl) (by kernel_rfl) (by kernel_rfl) (by kernel_rfl) (by kernel_rfl) (fun _ _ _ h => h) (Or.inl ⟨by rfl, ?_⟩) hHeld ?_
            rotate_left
            focus (intro w hSw; (try dsimp only at hSw); go_simp; try (with_reducible rfl))
            try simp only [Act.put, List.setIfInBounds_toArray, List.set_cons_zero, List.set_cons_succ]
            refine wpAnyL_last (i := 9) (o := ⟨some 81, _, _, _, _, _⟩) (by kernel_rfl) rfl (by kernel_rfl) (fun K hK => ?_)
            clear hHeld
            go_simp
            refine (HP2.out _ ((belowDrewN w6 1 _).trans hB9)).mono ?_
            rintro e w8 ⟨rfl, hB8⟩
            go_wp2_with fail
            refine hK.out _ _ ?_
            clear hK K
            try simp only [Act.put, List.setIfInBounds_toArray, List.set_cons_zero, List.set_cons_succ]
            refine wpAnyL_takeW (i := 10) (oi := ⟨some 71, _, _, _, _, _⟩) (v := ?_) rfl (by kernel_rfl) (by kernel_rfl) (by kernel_rfl) (by kernel_rfl) (fun _ _ _ h => h) (Or.inl ⟨by rfl, ?_⟩) (.inl (by kernel_rfl)) ?_
            rotate_left
            focus (intro w hSw; (try dsimp only at hSw); go_simp; try (with_reducible rfl))
            try simp only [Act.put, List.setIfInBounds_toArray, List.set_cons_zero, List.set_cons_succ]
            refine wpAnyL_takeW (i := 11) (oi := ⟨some 82, _, _, _, _, _⟩) (v := ?_) rfl (by kernel_rfl) (by kernel_rfl) (by kernel_rfl) (by kernel_rfl) (fun _ _ _ h => h) (Or.inl ⟨by rfl, ?_⟩) (.inl (by kernel_rfl)) ?_
            rotate_left
            focus (intro w hSw; (try dsimp only at hSw); go_simp; try (with_reducible rfl))
            try simp only [Act.put, List.setIfInBounds_toArray, List.set_cons_zero, List.set_cons_succ]
            refine wpAnyL_takeW (i := 12) (oi := ⟨some 83, _, _, _, _, _⟩) (v := ?_) rfl (by kernel_rfl) (by kernel_rfl) (by kernel_rfl) (by kernel_rfl) (fun _ _ _ h => h) (Or.inl ⟨by rfl, ?_⟩) (.inl (by kernel_rfl)) ?_
            rotate_left
            focus (intro w hSw; (try dsimp only at hSw); go_simp; try (with_reducible rfl))
            try simp only [Act.put, List.setIfInBounds_toArray, List.set_cons_zero, List.set_cons_succ]
            refine wpAnyL_takeW (i := 13) (oi := ⟨some 15, _, _, _, _, _⟩) (v := ?_) rfl (by kernel_rfl) (by kernel_rfl) (by kernel_rfl) (by kernel_rfl) (fun _ _ _ h => h) (Or.inl ⟨by rfl, ?_⟩) (.inl (by kernel_rfl)) ?_
            rotate_left
            focus (intro w hSw; (try dsimp only at hSw); go_simp; try (with_reducible rfl))
            try simp only [Act.put, List.setIfInBounds_toArray, List.set_cons_zero, List.set_cons_succ]
            refine wpAnyL_takeW (i := 14) (oi := ⟨some 16, _, _, _, _, _⟩) (v := ?_) rfl (by kernel_rfl) (by kernel_rfl) (by kernel_rfl) (by kernel_rfl) (fun _ _ _ h => h) (Or.inl ⟨by rfl, ?_⟩) (.inl (by kernel_rfl)) ?_
            rotate_left
            focus (intro w hSw; (try dsimp only at hSw); go_simp; try (with_reducible rfl))
            try simp only [Act.put, List.setIfInBounds_toArray, List.set_cons_zero, List.set_cons_succ]
            refine wpAnyL_done (by kernel_rfl) ?_ _
            refine NoPanic.normal ?_
            have hB68 : Below w6.heap.size w6 w8 := ((belowDrewN w6 1 _).trans hB9).trans (hB8.mono hB9.size)
            have hQ8 : Below w1.heap.size w1 w8 := hQ6.trans (hB68.mono hQ6.size)
            rcases o2 with _ | s2
            · have HP3 := Lib.hid (refProp_any A5 c5 PU.length PU rfl (by omega) name w8 ((HR5.out.below hB6).below hB68))
              obtain ⟨o3, ho3⟩ : ∃ o, getP PU name = o := ⟨_, rfl⟩
              rw [ho3] at HP3 HGT
              clear ho3
              go_wp2_with fail
              refine HP3.out.mono ?_
              rintro e w10 ⟨rfl, hB10⟩
              have hQ10 : Below w1.heap.size w1 w10 := hQ8.trans (hB10.mono hQ8.size)
              by_cases hf0 : FU = 0
              · have h13 : o1 = o3 := by rw [HGT.out hf0]; rfl
                subst h13 hf0
                cases o1
                all_goals
                  go_wp2_with fail
                  refine (HNM.out _ w10).mono ?_
                  rintro e w13 ⟨rfl, rfl⟩
                  go_wp2
                  go_ret
                  exact ⟨rfl, hA.trans (hQ10.mono hs1)⟩
              · have hfq : (FU == 0) = false := beq_eq_false_iff_ne.2 hf0
                clear HGT
                go_wp2_with fail
                refine (HNM.out _ w10).mono ?_
                rintro e w13 ⟨rfl, rfl⟩
                go_wp2
                go_ret
                exact ⟨rfl, hA.trans (hQ10.mono hs1)⟩
            · by_cases hf0 : FU = 0
              · have h13 : o1 = some s2 := by rw [HGT.out hf0]; rfl
                subst h13 hf0
                go_wp2_with fail
                refine (HNM.out _ w8).mono ?_
                rintro e w13 ⟨rfl, rfl⟩
                go_wp2
                go_ret
                exact ⟨rfl, hA.trans (hQ8.mono hs1)⟩
              · have hfq : (FU == 0) = false := beq_eq_false_iff_ne.2 hf0
                clear HGT
                go_wp2_with fail
                refine (HNM.out _ w8).mono ?_
                rintro e w13 ⟨rfl, rfl⟩
                go_wp2
                go_ret
                exact ⟨rfl, hA.trans (hQ8.mono hs1)⟩

  · have hq : (propsE x.plain path == 0) = false := beq_eq_false_iff_ne.2 h0
    generalize propsE x.plain path = E at *
    generalize propsR x.plain path = PL at *
    clear HG HRC HFI
    go_enter Tryz.func5, Tryz.ntmps5
    go_upto_region 1 with fail
    rw [HW1.out]
    go_wp2_with fail
    refine HAL.out.mono ?_
    rintro e w2 ⟨rfl, hB2⟩
    have z0 := (HK1.out.below hB2 HK1.out.lt).cell 0
    have z1 := (HK1.out.below hB2 HK1.out.lt).cell 1
    have z2 := (HK1.out.below hB2 HK1.out.lt).cell 2
    have z3 := (HK1.out.below hB2 HK1.out.lt).cell 3
    have z4 := (HK1.out.below hB2 HK1.out.lt).cell 4
    have z5 := (HK1.out.below hB2 HK1.out.lt).cell 5
    have z6 := (HK1.out.below hB2 HK1.out.lt).cell 6
    simp only [List.getElem?_cons_zero, List.getElem?_cons_succ] at z0 z1 z2 z3 z4 z5 z6
    go_wp2_with fail
    refine (HPR.out w2 hB2).mono ?_
    rintro e w3 ⟨v3, rfl, ho3, hB3⟩
    have hQ3 : Below w1.heap.size w1 w3 := hB2.trans (hB3.mono hB2.size)
    obtain ⟨A3, c3, rfl, _, _, _, _⟩ := ownAny ho3
    have HR3 := Lib.hid (RdN.of_own ho3).1
    clear ho3
    go_wp2_with fail
    refine (HNM.out _ w3).mono ?_
    rintro e w4 ⟨rfl, rfl⟩
    go_wp2_with fail
    refine (HNM.out _ w3).mono ?_
    rintro e w5 ⟨rfl, rfl⟩
    go_wp2
    go_ret
    exact ⟨rfl, hA.trans (hQ3.mono hs1)⟩


end Go.Proofs.YtoonebbbgchkhaaGreat
