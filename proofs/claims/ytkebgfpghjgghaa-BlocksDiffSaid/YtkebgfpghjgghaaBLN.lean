/-
  The reference's Diff, index by index. Conditions: the lists are as they come in.
-/
import Derived.Test.YtkebgfpghjgghaaBLR
namespace Go.Proofs.Ytkebgfpghjgghaa
open Go.ChangeShapes Go.WideShapes Go.ChangeAt Go.RowKit
set_option maxRecDepth 100000

theorem gone_start {a b : List Bk} (ha : okK a = true) : goneAt a b (((0 : Nat) : Int) - 1) = false := by
  unfold goneAt
  rw [getK_none (n := 0) ha (by omega)]
  rfl
theorem ref_more {a b : List Bk} (ha : okK a = true) {k : Nat} {d : ByteArray} (ga : getK a k = some d) (gb : getK b k = none) (hr : goneAt a b ((k : Int) - 1) = true) :
    ∃ rs r, recsTo a b k = rs ++ [r] ∧ recsTo a b (k + 1) = rs ++ [⟨r.k, r.ix, r.ct + 1, r.d⟩] := by
  obtain ⟨i1, i2, i3⟩ := run_last a b k
  have he : recsTo a b (k + 1) = fr (recsTo a b k) k := by rw [recsTo_succ]; simp only [evAt, ga, gb, List.foldl_cons, List.foldl_nil, stepE]
  rcases last_cases (recsTo a b k) with h0 | ⟨rs, r, h0⟩
  · exfalso
    by_cases hk : k = 0
    · subst hk
      rw [gone_start ha] at hr
      cases hr
    · have := i3 (by rw [h0]; rfl) hk
      rw [hr] at this
      cases this
  · have hl : (recsTo a b k).getLast? = some r := by rw [h0]; simp
    have h3 : r.k = 3 := by
      by_cases h : r.k = 3
      · exact h
      · have := i2 r hl h
        rw [hr] at this
        cases this
    exact ⟨rs, r, h0, by rw [he, h0, fr_more _ _ _ ⟨h3, (i1 r hl h3).2.2 hr⟩]⟩
theorem ref_new {a b : List Bk} {k : Nat} {d : ByteArray} (ga : getK a k = some d) (gb : getK b k = none) (hr : goneAt a b ((k : Int) - 1) = false) :
    recsTo a b (k + 1) = recsTo a b k ++ [⟨3, k, 1, ByteArray.empty⟩] := by
  obtain ⟨i1, i2, i3⟩ := run_last a b k
  have he : recsTo a b (k + 1) = fr (recsTo a b k) k := by rw [recsTo_succ]; simp only [evAt, ga, gb, List.foldl_cons, List.foldl_nil, stepE]
  rw [he]
  rcases last_cases (recsTo a b k) with h0 | ⟨rs, r, h0⟩
  · rw [h0]; rfl
  · have hl : (recsTo a b k).getLast? = some r := by rw [h0]; simp
    rw [h0, fr_new]
    rintro ⟨h3, h4⟩
    have := (i1 r hl h3).2.1 h4
    rw [hr] at this
    cases this
theorem ref_write {a b : List Bk} {k : Nat} {e : ByteArray} (gb : getK b k = some e) (ga : getK a k ≠ some e) :
    recsTo a b (k + 1) = recsTo a b k ++ [⟨2, k, 0, e⟩] := by
  rw [recsTo_succ]
  rcases h : getK a k with _ | d
  · simp only [evAt, h, gb, List.foldl_cons, List.foldl_nil, stepE]
  · have hde : ¬ d = e := fun hh => ga (by rw [h, hh])
    simp only [evAt, h, gb, if_neg hde, List.foldl_cons, List.foldl_nil, stepE]
theorem ref_stay {a b : List Bk} {k : Nat} (h : getK a k = getK b k) : recsTo a b (k + 1) = recsTo a b k := by
  rw [recsTo_succ]
  rcases hb : getK b k with _ | e
  · rw [hb] at h
    simp only [evAt, h, hb, List.foldl_nil]
  · rw [hb] at h
    simp only [evAt, h, hb, if_pos, List.foldl_nil]

set_option maxRecDepth 100000 in
set_option maxHeartbeats 8000000 in
theorem refDiff_any (A B : Option Addr) (c d : Nat) (a b : List Bk) (w : World) (ha : Came w A c a) (hb : Came w B d b) :
    Calls Try.prog 25 #[.slice A a.length c, .slice B b.length d] w fun e w' => ∃ v, e = .returned (ansK v (diffE a b)) ∧ ownRc w' w.heap.size v (diffR a b) ∧ Below w.heap.size w w' := by
  obtain ⟨i0, hi, hz0, hz1, hz2⟩ := infoParts infoRc
  have HA := Lib.hid ha
  have HB := Lib.hid hb
  have HC1 := Lib.hid ha.refCheck
  have HC2 := Lib.hid (fun W (hW : Below w.heap.size w W) => (HB.out.below hW).refCheck)
  clear ha hb
  by_cases hoa : okK a = true
  · have ca : chkK a = 0 := by unfold chkK; rw [if_pos hoa]
    rw [ca] at HC1
    by_cases hob : okK b = true
    · have cb : chkK b = 0 := by unfold chkK; rw [if_pos hob]
      have hE : diffE a b = 0 := by unfold diffE; rw [if_pos ⟨hoa, hob⟩]
      have hR : diffR a b = recsTo a b 1024 := by unfold diffR; rw [if_pos ⟨hoa, hob⟩, recsOf_eq hoa hob]
      rw [cb] at HC2
      rw [hE, hR]
      have HUP := Lib.hid (fun k hk => upTo hoa hob k hk)
      have HOA := Lib.hid hoa
      clear ca cb hE hR hoa hob
      go_enter Try.func25, Try.ntmps25
      go_wp2_with fail
      refine HC1.out.mono ?_
      rintro e w1 ⟨rfl, hB1⟩
      go_wp2_with fail
      refine (HC2.out w1 hB1).mono ?_
      rintro e w2 ⟨rfl, hB2⟩
      have hB02 := hB1.trans (hB2.mono hB1.size)
      clear HC1 HC2
      go_wp2
      go_loopw [6, 7, 8] (fun vo vr vi W => ∃ k : Nat, k ≤ 1024 ∧ vi = .int .i64 k ∧ vr = .bool (goneAt a b ((k : Int) - 1)) ∧ Hid (ownRc W w.heap.size vo (recsTo a b k)) ∧ Below w.heap.size w W) (fun _ _ vi _ => 1024 - (intOf vi).toNat)
      case atStart => exact ⟨0, Nat.zero_le _, rfl, by rw [gone_start HOA.out], Lib.hid (ownNone _ _ _ _), hB02⟩
      case round =>
        obtain ⟨k, hk, rfl, rfl, HO, hB⟩ := hrel
        obtain ⟨Av, cv, hv, _, _, _, _⟩ := ownAny HO.out
        subst hv
        by_cases hlt : k < 1024
        · obtain ⟨u1, u2, u3, u4⟩ := HUP.out k (by omega)
          have hlen := goodR_len _ 0 (by omega) u1
          have hBs := hB.size
          have F1 := Lib.hid ((HA.out.below hB).refGet k)
          have F2 := Lib.hid ((HB.out.below hB).refGet k)
          have hg : goneAt a b k = ((getK a k).isSome && (getK b k).isNone) := rfl
          have hcast : (((k + 1 : Nat) : Int) - 1) = (k : Int) := by omega
          rcases ga : getK a k with _ | da <;> rcases gb : getK b k with _ | db
          · have HS := Lib.hid (ref_stay (a := a) (b := b) (k := k) (by rw [ga, gb]))
            rw [ga, gb] at hg
            rw [ga] at F1
            rw [gb] at F2
            have HG : Hid (Value.bool (goneAt a b (((k + 1 : Nat) : Int) - 1)) = .bool false) := Lib.hid (by rw [hcast, hg]; rfl)
            clear hg hcast ga gb u1 u2 u3 u4 HUP
            go_wp2_with fail
            refine F1.out.mono ?_
            rintro e w3 ⟨rfl, rfl⟩
            unfold ansG
            simp only [Option.getD_none, Option.isSome_none]
            go_wp2_with fail
            refine F2.out.mono ?_
            rintro e w4 ⟨rfl, rfl⟩
            unfold ansG
            simp only [Option.getD_none, Option.isSome_none]
            go_wp2
            go_roundw
            case rel => exact ⟨k + 1, by omega, by go_num, HG.out.symm, Lib.hid (by rw [HS.out]; exact HO.out), hB⟩
            case measure => simp [intOf]; omega
          · have HS := Lib.hid (ref_write (a := a) gb (by rw [ga]; simp))
            rw [ga, gb] at hg
            rw [ga] at F1
            rw [gb] at F2
            have HG : Hid (Value.bool (goneAt a b (((k + 1 : Nat) : Int) - 1)) = .bool false) := Lib.hid (by rw [hcast, hg]; rfl)
            clear hg hcast ga gb u1 u2 u3 u4 HUP
            go_wp2_with fail
            refine F1.out.mono ?_
            rintro e w3 ⟨rfl, rfl⟩
            unfold ansG
            simp only [Option.getD_none, Option.isSome_none]
            go_wp2_with fail
            refine F2.out.mono ?_
            rintro e w4 ⟨rfl, rfl⟩
            unfold ansG
            simp only [Option.getD_some, Option.isSome_some]
            go_wp2_with (first
              | (at_builtin; refine wpList_append_lies _ rfl _ _ 44 rfl w.heap.size 54 i0 zeroRc 12 128 Try.underlying44 hi hz0 hz1 hz2 rfl (by decide) (.slice Av (recsTo a b k).length cv) (recsTo a b k).length (rcs (recsTo a b k)) rfl (ownBelow HO.out ((Below.refl _ _).alloc (Nat.le_refl _) _) (Nat.le_refl _)) ⟨w4.heap.size, 0, none⟩ 1 1 (rcC ⟨2, k, 0, db⟩) rfl rfl (newsNew _ _ _) (by simp [Value.oneCell']) (by omega) (by unfold maxLen; omega) (by omega) (by simp; omega) _ rfl ?_
                 intro g6 c6 x6 ho6 hg6 _ _
                 have HO6 := Lib.hid ho6
                 have HB6 : Hid (Below w.heap.size w x6) := Lib.hid ((hB.alloc hBs _).grown hg6 (by simp; omega) (fun j e => (HO.out.lt j e).1))
                 clear ho6 hg6))
            go_roundw
            case rel => exact ⟨k + 1, by omega, by go_num, HG.out.symm, Lib.hid (by rw [HS.out]; unfold ownRc; rw [rcs_snoc, List.length_append]; exact HO6.out), HB6.out⟩
            case measure => simp [intOf]; omega
          · rcases hrun : goneAt a b ((k : Int) - 1) with _ | _
            · have HS := Lib.hid (ref_new ga gb hrun)
              rw [ga, gb] at hg
              rw [ga] at F1
              rw [gb] at F2
              have HG : Hid (Value.bool (goneAt a b (((k + 1 : Nat) : Int) - 1)) = .bool true) := Lib.hid (by rw [hcast, hg]; rfl)
              clear hrun
              clear hg hcast ga gb u1 u2 u3 u4 HUP
              go_wp2_with fail
              refine F1.out.mono ?_
              rintro e w3 ⟨rfl, rfl⟩
              unfold ansG
              simp only [Option.getD_some, Option.isSome_some]
              go_wp2_with fail
              refine F2.out.mono ?_
              rintro e w4 ⟨rfl, rfl⟩
              unfold ansG
              simp only [Option.getD_none, Option.isSome_none]
              go_wp2_with (first
                | (at_builtin; refine wpList_append_lies _ rfl _ _ 44 rfl w.heap.size 54 i0 zeroRc 12 128 Try.underlying44 hi hz0 hz1 hz2 rfl (by decide) (.slice Av (recsTo a b k).length cv) (recsTo a b k).length (rcs (recsTo a b k)) rfl (ownBelow HO.out ((Below.refl _ _).alloc (Nat.le_refl _) _) (Nat.le_refl _)) ⟨w4.heap.size, 0, none⟩ 1 1 (rcC ⟨3, k, 1, ByteArray.empty⟩) rfl rfl (newsNew _ _ _) (by simp [Value.oneCell']) (by omega) (by unfold maxLen; omega) (by omega) (by simp; omega) _ rfl ?_
                   intro g6 c6 x6 ho6 hg6 _ _
                   have HO6 := Lib.hid ho6
                   have HB6 : Hid (Below w.heap.size w x6) := Lib.hid ((hB.alloc hBs _).grown hg6 (by simp; omega) (fun j e => (HO.out.lt j e).1))
                   clear ho6 hg6))
              go_roundw
              case rel => exact ⟨k + 1, by omega, by go_num, HG.out.symm, Lib.hid (by rw [HS.out]; unfold ownRc; rw [rcs_snoc, List.length_append]; exact HO6.out), HB6.out⟩
              case measure => simp [intOf]; omega
            · obtain ⟨rs, r, h0, h1⟩ := ref_more HOA.out ga gb hrun
              have HS := Lib.hid h1
              have hsm : 0 ≤ r.ix ∧ r.ix < 1024 ∧ r.ct ≤ 1024 ∧ 0 ≤ r.ct + 1 := by
                rw [h0, goodR_snoc] at u1
                obtain ⟨_, _, q1, q2, q3⟩ := u1
                have u5 := (HUP.out (k + 1) (by omega)).good
                rw [h1, goodR_snoc] at u5
                obtain ⟨_, _, _, _, q4⟩ := u5
                rcases q4 with ⟨q5, _⟩ | ⟨q5, q6, q7⟩
                · dsimp only at q5
                  rcases q3 with ⟨_, _⟩ | ⟨q8, _⟩
                  · exfalso
                    have hl : (recsTo a b k).getLast? = some r := by rw [h0]; simp
                    have := (run_last a b k).2.1 r hl (by omega)
                    rw [hrun] at this
                    cases this
                  · omega
                · dsimp only at q6 q7
                  omega
              have hrl : rs.length ≤ 1024 := by rw [h0] at hlen; simp at hlen; omega
              have hll : (recsTo a b k).length = rs.length + 1 := by rw [h0]; simp
              rw [hll] at HO ⊢
              have HO' : Hid (wr.ownsRow w.heap.size 54 12 (.slice Av (rs.length + 1) cv) (rs.length + 1) (rcs (rs ++ [r]))) := Lib.hid (by have := HO.out; unfold ownRc at this; rw [hll, h0] at this; exact this)
              obtain ⟨g, cap, e, hg1, hg2⟩ := HO'.out.form (by omega)
              injection e with e1 _ e3
              subst e1
              have hw : wrap64 ((rs.length : Int) + 1 - 1) = rs.length := by
                rw [show (rs.length : Int) + 1 - 1 = rs.length by omega]
                exact IntWalk.wrap64_in _ (by omega)
              have hwc : wrap64 (r.ct + 1) = r.ct + 1 := IntWalk.wrap64_in _ (by omega)
              have hat : (rs ++ [r])[rs.length]? = some r := by simp
              have c6 := (HO'.out.cellAt (rs.length * 12 + 6) (by omega)).trans (rcs_at hat 6 (by omega))
              simp only [rcC, List.getElem?_cons_zero, List.getElem?_cons_succ] at c6
              have q6 := HO'.out.frozenAt (rs.length * 12 + 6)
              have hrs : (rcs (rs ++ [r])).set (rs.length * 12 + 6) (.int .i64 (r.ct + 1)) = rcs (rs ++ [⟨r.k, r.ix, r.ct + 1, r.d⟩]) := by
                rw [rcs_snoc, rcs_snoc, List.set_append_right _ _ (by rw [rcs_length]; omega), rcs_length, show rs.length * 12 + 6 - rs.length * 12 = 6 by omega]
                rfl
              obtain ⟨hst, hgs⟩ := HO'.out.stored (rs.length * 12 + 6) (.int .i64 (r.ct + 1))
              rw [hrs] at hst
              have HST := Lib.hid hst
              have hB' : Below w.heap.size w (wr.setCell ⟨g, rs.length * 12 + 6, none⟩ (.int .i64 (r.ct + 1))) := hB.setCell (p := ⟨g, _, none⟩) hg1 _
              rw [ga, gb] at hg
              rw [ga] at F1
              rw [gb] at F2
              have HG : Hid (Value.bool (goneAt a b (((k + 1 : Nat) : Int) - 1)) = .bool true) := Lib.hid (by rw [hcast, hg]; rfl)
              clear hrun hat HO e3 hst hrs hgs h0 h1 hll
              clear hg hcast ga gb u1 u2 u3 u4 HUP
              go_wp2_with fail
              refine F1.out.mono ?_
              rintro e w3 ⟨rfl, rfl⟩
              unfold ansG
              simp only [Option.getD_some, Option.isSome_some]
              go_wp2_with fail
              refine F2.out.mono ?_
              rintro e w4 ⟨rfl, rfl⟩
              unfold ansG
              simp only [Option.getD_none, Option.isSome_none]
              go_wp2
              go_roundw
              case rel => exact ⟨k + 1, by omega, by go_num, HG.out.symm, Lib.hid (by rw [HS.out]; unfold ownRc; rw [List.length_append]; exact HST.out), hB'⟩
              case measure => simp [intOf]; omega
          · by_cases hde : da = db
            · subst hde
              have HS := Lib.hid (ref_stay (a := a) (b := b) (k := k) (by rw [ga, gb]))
              rw [ga, gb] at hg
              rw [ga] at F1
              rw [gb] at F2
              have HG : Hid (Value.bool (goneAt a b (((k + 1 : Nat) : Int) - 1)) = .bool false) := Lib.hid (by rw [hcast, hg]; rfl)
              clear hg hcast ga gb u1 u2 u3 u4 HUP
              go_wp2_with fail
              refine F1.out.mono ?_
              rintro e w3 ⟨rfl, rfl⟩
              unfold ansG
              simp only [Option.getD_some, Option.isSome_some]
              go_wp2_with fail
              refine F2.out.mono ?_
              rintro e w4 ⟨rfl, rfl⟩
              unfold ansG
              simp only [Option.getD_some, Option.isSome_some]
              go_wp2
              go_roundw
              case rel => exact ⟨k + 1, by omega, by go_num, HG.out.symm, Lib.hid (by rw [HS.out]; exact HO.out), hB⟩
              case measure => simp [intOf]; omega
            · have HS := Lib.hid (ref_write (a := a) gb (by rw [ga]; intro h; injection h with h; exact hde h))
              have hne : (da.toList == db.toList) = false := beq_eq_false_iff_ne.2 fun e => hde (by
                rw [Lib.toList_data, Lib.toList_data] at e
                exact ByteArray.ext (Array.toList_inj.1 e))
              rw [ga, gb] at hg
              rw [ga] at F1
              rw [gb] at F2
              have HG : Hid (Value.bool (goneAt a b (((k + 1 : Nat) : Int) - 1)) = .bool false) := Lib.hid (by rw [hcast, hg]; rfl)
              clear hde
              clear hg hcast ga gb u1 u2 u3 u4 HUP
              go_wp2_with fail
              refine F1.out.mono ?_
              rintro e w3 ⟨rfl, rfl⟩
              unfold ansG
              simp only [Option.getD_some, Option.isSome_some]
              go_wp2_with fail
              refine F2.out.mono ?_
              rintro e w4 ⟨rfl, rfl⟩
              unfold ansG
              simp only [Option.getD_some, Option.isSome_some]
              go_wp2_with (first
                | (at_builtin; refine wpList_append_lies _ rfl _ _ 44 rfl w.heap.size 54 i0 zeroRc 12 128 Try.underlying44 hi hz0 hz1 hz2 rfl (by decide) (.slice Av (recsTo a b k).length cv) (recsTo a b k).length (rcs (recsTo a b k)) rfl (ownBelow HO.out ((Below.refl _ _).alloc (Nat.le_refl _) _) (Nat.le_refl _)) ⟨w4.heap.size, 0, none⟩ 1 1 (rcC ⟨2, k, 0, db⟩) rfl rfl (newsNew _ _ _) (by simp [Value.oneCell']) (by omega) (by unfold maxLen; omega) (by omega) (by simp; omega) _ rfl ?_
                   intro g6 c6 x6 ho6 hg6 _ _
                   have HO6 := Lib.hid ho6
                   have HB6 : Hid (Below w.heap.size w x6) := Lib.hid ((hB.alloc hBs _).grown hg6 (by simp; omega) (fun j e => (HO.out.lt j e).1))
                   clear ho6 hg6))
              go_roundw
              case rel => exact ⟨k + 1, by omega, by go_num, HG.out.symm, Lib.hid (by rw [HS.out]; unfold ownRc; rw [rcs_snoc, List.length_append]; exact HO6.out), HB6.out⟩
              case measure => simp [intOf]; omega
        · obtain rfl : k = 1024 := by omega
          go_wp2
          go_ret2
          exact ⟨_, rfl, HO.out, hB⟩
    · have cb : chkK b = 9 := by unfold chkK; rw [if_neg hob]
      have hE : diffE a b = 9 := by unfold diffE; rw [if_neg (fun h => hob h.2)]
      have hR : diffR a b = [] := by unfold diffR; rw [if_neg (fun h => hob h.2)]
      rw [cb] at HC2
      rw [hE, hR]
      clear ca cb hE hR
      go_enter Try.func25, Try.ntmps25
      go_wp2_with fail
      refine HC1.out.mono ?_
      rintro e w1 ⟨rfl, hB1⟩
      go_wp2_with fail
      refine (HC2.out w1 hB1).mono ?_
      rintro e w2 ⟨rfl, hB2⟩
      go_wp2
      go_ret2
      exact ⟨_, rfl, ownNone _ _ _ _, hB1.trans (hB2.mono hB1.size)⟩
  · have ca : chkK a = 9 := by unfold chkK; rw [if_neg hoa]
    have hE : diffE a b = 9 := by unfold diffE; rw [if_neg (fun h => hoa h.1)]
    have hR : diffR a b = [] := by unfold diffR; rw [if_neg (fun h => hoa h.1)]
    rw [ca] at HC1
    rw [hE, hR]
    clear ca hE hR
    go_enter Try.func25, Try.ntmps25
    go_wp2_with fail
    refine HC1.out.mono ?_
    rintro e w1 ⟨rfl, hB1⟩
    go_wp2
    go_ret2
    exact ⟨_, rfl, ownNone _ _ _ _, hB1⟩

end Go.Proofs.Ytkebgfpghjgghaa
