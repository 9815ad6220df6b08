/-
  The reference's Own, Free and Put. Conditions: the lists are as they come in.
-/
import Derived.Test.YtkebgfpghjgghaaBLF
namespace Go.Proofs.Ytkebgfpghjgghaa
open Go.ChangeShapes Go.WideShapes Go.ChangeAt Go.RowKit
set_option maxRecDepth 100000

theorem refOwn_any (A : Option Addr) (c n : Nat) (l : List Bk) (hn : l.length = n) (hl : n * 24 ≤ 140737488355328) (hA : A = none → c = 0) (w : World) (hr : Rd w A (bks l)) :
    Calls Try.prog 26 #[.slice A n c] w fun e w' => ∃ v, e = .returned v ∧ ownK w' w.heap.size v l ∧ Below w.heap.size w w' := by
  subst hn
  obtain ⟨i0, hi, hz0, hz1, hz2⟩ := infoParts infoBk
  go_enter Try.func26, Try.ntmps26
  go_wp2_with (first
    | (at_builtin; refine wpList_append_rdS rfl _ _ 22 rfl w.heap.size 58 i0 (.agg #[.int .i64 0, .string ByteArray.empty]) 2 24 Try.underlying22 hi hz0 hz1 hz2 rfl (by decide) (.slice none 0 0) 0 [] rfl (ownNone _ _ _ _) A l.length c (bks l) rfl (by rw [bks_length]; omega) hr hA (bks_one l) (by unfold maxLen; omega) (by omega) (by omega) ?_
       intro v7 w7 ho7 hg7
       have HO7 := Lib.hid (ownBare ho7)
       have HB7 : Hid (Below w.heap.size w w7) := Lib.hid ((Below.refl _ w).grown hg7 (by omega) (fun j e => (by cases e)))
       clear ho7 hg7))
  go_ret
  exact ⟨_, rfl, HO7.out, HB7.out⟩

set_option maxHeartbeats 2000000 in
theorem refFree_any (A : Option Addr) (c n : Nat) (l : List Bk) (hn : l.length = n) (hl : n ≤ 5864062014805) (hf : ∀ x ∈ l, x.2.size ≤ 140737488351232) (i m : Int) (hm : -9223372036854775808 ≤ m ∧ m ≤ 9223372036854775807) (w : World) (hr : Rd w A (bks l)) :
    Calls Try.prog 11 #[.slice A n c, .int .i64 i, .int .i64 m] w fun e w' => ∃ v, e = .returned (ansK v (freeE l i m)) ∧ ownK w' w.heap.size v (freeR l i m) ∧ Below w.heap.size w w' := by
  subst hn
  obtain ⟨i0, hi, hz0, hz1, hz2⟩ := infoParts infoBk
  have HC := Lib.hid (refCheck_any A c l.length l rfl (by omega) hf w hr)
  by_cases hok : okK l = true
  · have hc0 : chkK l = 0 := by unfold chkK; rw [if_pos hok]
    rw [hc0] at HC
    by_cases hix : 0 ≤ i ∧ i < 1024
    · have hw3 : wrap64 (1024 - i) = 1024 - i := IntWalk.wrap64_in _ (by omega)
      have hi0 : ¬ i < 0 := by omega
      have hi1 : ¬ 1024 ≤ i := by omega
      by_cases hm1 : m < 1
      · have hE : freeE l i m = 4 := by unfold freeE; rw [if_neg (by rw [hok]; simp), if_pos (by omega)]
        have hPR : freeR l i m = [] := by unfold freeR; rw [if_neg (by rw [hE]; omega)]
        rw [hE, hPR]
        clear hE hPR hc0
        go_enter Try.func11, Try.ntmps11
        go_wp2_with fail
        refine HC.out.mono ?_
        rintro e w2 ⟨rfl, hB2⟩
        go_wp2
        go_ret2
        exact ⟨_, rfl, ownNone _ _ _ _, hB2⟩
      · by_cases hm2 : 1024 - i < m
        · have hE : freeE l i m = 4 := by unfold freeE; rw [if_neg (by rw [hok]; simp), if_pos (by omega)]
          have hPR : freeR l i m = [] := by unfold freeR; rw [if_neg (by rw [hE]; omega)]
          rw [hE, hPR]
          clear hE hPR hc0
          go_enter Try.func11, Try.ntmps11
          go_wp2_with fail
          refine HC.out.mono ?_
          rintro e w2 ⟨rfl, hB2⟩
          go_wp2
          go_ret2
          exact ⟨_, rfl, ownNone _ _ _ _, hB2⟩
        · have hE : freeE l i m = 0 := by unfold freeE; rw [if_neg (by rw [hok]; simp), if_neg (by omega)]
          have hPR : freeR l i m = freeK l i m := by unfold freeR; rw [if_pos hE]
          have hw4 : wrap64 (i + m) = i + m := IntWalk.wrap64_in _ (by omega)
          obtain ⟨q, hq⟩ : ∃ q : Bk → Bool, (fun x : Bk => decide (x.1 < i) || decide (i + m ≤ x.1)) = q := ⟨_, rfl⟩
          have hFK : freeK l i m = l.filter q := by rw [← hq]; rfl
          have HQ : Hid (∀ x : Bk, q x = (decide (x.1 < i) || decide (i + m ≤ x.1))) := Lib.hid fun x => by rw [← hq]
          rw [hE, hPR, hFK]
          clear hE hPR hc0 hFK hq
          go_enter Try.func11, Try.ntmps11
          go_wp2_with fail
          refine HC.out.mono ?_
          rintro e w2 ⟨rfl, hB2⟩
          clear HC
          go_wp2
          go_loopw [8, 9] (fun v j W => ∃ k : Nat, k ≤ l.length ∧ j = .int .i64 k ∧ Hid (ownK W w.heap.size v ((l.take k).filter q)) ∧ Below w.heap.size w W) (fun _ j _ => l.length - (intOf j).toNat)
          case atStart => exact ⟨0, Nat.zero_le _, rfl, Lib.hid (ownNone _ _ _ _), hB2⟩
          case round =>
            obtain ⟨k, hk, rfl, HO, hB⟩ := hrel
            obtain ⟨Av, cv, hv, _, _, _, _⟩ := ownAny HO.out
            subst hv
            by_cases hlt : k < l.length
            · obtain ⟨x, hx⟩ : ∃ x, l[k]? = some x := ⟨l[k], List.getElem?_eq_getElem hlt⟩
              obtain ⟨b, off, rfl, hb, hd0, hd1⟩ := (Rd.below hr hB).bk hx
              have HTK : Hid ((l.take (k + 1)).filter q = (l.take k).filter q ++ (if q x then [x] else [])) := Lib.hid (by
                rw [List.take_add_one, hx, List.filter_append]
                simp [List.filter_cons])
              have hfl := filter_le q l k
              clear hx
              have hBs := hB.size
              have keepArm : q x = true → (Hid (∀ x6 g6 c6, x6.ownsRow w.heap.size 58 2 (.slice (some ⟨g6, 0, none⟩) (((l.take k).filter q).length + 1) c6) (((l.take k).filter q).length + 1) (bks ((l.take k).filter q) ++ [.int .i64 x.1, .string x.2]) → ownK x6 w.heap.size (.slice (some ⟨g6, 0, none⟩) (((l.take k).filter q).length + 1) c6) ((l.take (k + 1)).filter q))) := fun hqx => Lib.hid fun x6 g6 c6 h => by
                rw [HTK.out, hqx]
                unfold ownK
                rw [if_pos rfl, bks_snoc, List.length_append]
                exact h
              by_cases h1 : x.1 < i
              · have KA := keepArm (by rw [HQ.out, decide_eq_true h1]; rfl)
                clear keepArm HTK
                go_wp2_with (first
                  | (at_builtin; refine wpList_append_lies _ rfl _ _ 22 rfl w.heap.size 58 i0 (.agg #[.int .i64 0, .string ByteArray.empty]) 2 24 Try.underlying22 hi hz0 hz1 hz2 rfl (by decide) (.slice Av ((l.take k).filter q).length cv) ((l.take k).filter q).length (bks ((l.take k).filter q)) rfl (ownBelow HO.out ((Below.refl _ _).alloc (Nat.le_refl _) _) (Nat.le_refl _)) ⟨wr.heap.size, 0, none⟩ 1 1 [.int .i64 x.1, .string x.2] rfl rfl (newsNew _ _ _) (by simp [Value.oneCell']) (by omega) (by unfold maxLen; omega) (by omega) (by simp; omega) _ rfl ?_
                     intro g6 c6 x6 ho6 hg6 _ _
                     have HB6 : Hid (Below w.heap.size w x6) := Lib.hid ((hB.alloc hBs _).grown hg6 (by simp; omega) (fun j e => (HO.out.lt j e).1))
                     have HO6 := Lib.hid (KA.out x6 g6 c6 ho6)
                     clear ho6 hg6))
                go_roundw
                case rel => exact ⟨k + 1, by omega, by go_num, HO6, HB6.out⟩
                case measure => simp [intOf]; omega
              · by_cases h2 : i + m ≤ x.1
                · have KA := keepArm (by rw [HQ.out, decide_eq_true h2, Bool.or_true])
                  clear keepArm HTK
                  go_wp2_with (first
                    | (at_builtin; refine wpList_append_lies _ rfl _ _ 22 rfl w.heap.size 58 i0 (.agg #[.int .i64 0, .string ByteArray.empty]) 2 24 Try.underlying22 hi hz0 hz1 hz2 rfl (by decide) (.slice Av ((l.take k).filter q).length cv) ((l.take k).filter q).length (bks ((l.take k).filter q)) rfl (ownBelow HO.out ((Below.refl _ _).alloc (Nat.le_refl _) _) (Nat.le_refl _)) ⟨wr.heap.size, 0, none⟩ 1 1 [.int .i64 x.1, .string x.2] rfl rfl (newsNew _ _ _) (by simp [Value.oneCell']) (by omega) (by unfold maxLen; omega) (by omega) (by simp; omega) _ rfl ?_
                       intro g6 c6 x6 ho6 hg6 _ _
                       have HB6 : Hid (Below w.heap.size w x6) := Lib.hid ((hB.alloc hBs _).grown hg6 (by simp; omega) (fun j e => (HO.out.lt j e).1))
                       have HO6 := Lib.hid (KA.out x6 g6 c6 ho6)
                       clear ho6 hg6))
                  go_roundw
                  case rel => exact ⟨k + 1, by omega, by go_num, HO6, HB6.out⟩
                  case measure => simp [intOf]; omega
                · have HO' : Hid (ownK wr w.heap.size (.slice Av ((l.take k).filter q).length cv) ((l.take (k + 1)).filter q)) := Lib.hid (by
                    rw [HTK.out, HQ.out, decide_eq_false h1, decide_eq_false h2]
                    simpa using HO.out)
                  clear keepArm HTK HO
                  go_wp2
                  go_roundw
                  case rel => exact ⟨k + 1, by omega, by go_num, HO', hB⟩
                  case measure => simp [intOf]; omega
            · obtain rfl : k = l.length := by omega
              have HO' : Hid (ownK wr w.heap.size (.slice Av ((l.take l.length).filter q).length cv) (l.filter q)) := Lib.hid (by have := HO.out; rw [List.take_length] at this ⊢; exact this)
              clear HO
              go_wp2
              go_ret2
              exact ⟨_, rfl, HO'.out, hB⟩
    · have hE : freeE l i m = 4 := by unfold freeE; rw [if_neg (by rw [hok]; simp), if_pos (by omega)]
      have hPR : freeR l i m = [] := by unfold freeR; rw [if_neg (by rw [hE]; omega)]
      rw [hE, hPR]
      clear hE hPR hc0
      by_cases hi0 : i < 0
      · go_enter Try.func11, Try.ntmps11
        go_wp2_with fail
        refine HC.out.mono ?_
        rintro e w2 ⟨rfl, hB2⟩
        go_wp2
        go_ret2
        exact ⟨_, rfl, ownNone _ _ _ _, hB2⟩
      · have hi1 : 1024 ≤ i := by omega
        go_enter Try.func11, Try.ntmps11
        go_wp2_with fail
        refine HC.out.mono ?_
        rintro e w2 ⟨rfl, hB2⟩
        go_wp2
        go_ret2
        exact ⟨_, rfl, ownNone _ _ _ _, hB2⟩
  · have hc0 : chkK l = 9 := by unfold chkK; rw [if_neg hok]
    have hE : freeE l i m = 9 := by unfold freeE; rw [if_pos ((Bool.not_eq_true _).mp hok)]
    have hPR : freeR l i m = [] := by unfold freeR; rw [if_neg (by rw [hE]; omega)]
    rw [hE, hPR]
    rw [hc0] at HC
    clear hE hPR hc0
    go_enter Try.func11, Try.ntmps11
    go_wp2_with fail
    refine HC.out.mono ?_
    rintro e w2 ⟨rfl, hB2⟩
    go_wp2
    go_ret2
    exact ⟨_, rfl, ownNone _ _ _ _, hB2⟩

end Go.Proofs.Ytkebgfpghjgghaa
