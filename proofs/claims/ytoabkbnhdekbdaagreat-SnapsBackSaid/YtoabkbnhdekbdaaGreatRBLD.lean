/-
  blocks: those. Conditions: the lists are as they come in; the function tells what is to be kept.
-/
import Derived.Test.YtoabkbnhdekbdaaGreatRGO
import Derived.Test.YtoabkbnhdekbdaaGreatRRL
import Derived.Test.YtoabkbnhdekbdaaGreatRBLM
import Derived.Test.YtoabkbnhdekbdaaGreatRRSM
import Derived.BigQuiet
import Derived.Test.YtoabkbnhdekbdaaGreatShelf
import Derived.LoopTactic
import Derived.Lib.Hide
import Derived.IntWalk
import Derived.RegionTactic
import Derived.Deep.QuietTactic
import Derived.Laws.StructEq
namespace Go.Proofs.YtoabkbnhdekbdaaGreat
open Go.ChangeShapes Go.WideShapes Go.ChangeAt Go.RowKit
set_option maxRecDepth 100000
theorem infoBk : (Tryz.prog.info? 103).map (fun i => (i.zero, i.size, i.bytes)) = some (some (.agg #[.int .i64 0, .string ByteArray.empty]), 2, 24) := by kernel_rfl
def putR (l : List Bk) (i : Int) (d : ByteArray) : List Bk := if putE l i d.size = 0 then putK l i d else []
abbrev ansK (v : Value) (e : Int) : Value := .tuple #[v, .int .i64 e]
abbrev ownK (w : World) (base : Nat) (v : Value) (l : List Bk) : Prop := w.ownsRow base 103 2 v l.length (bks l)
theorem okF_drop {n : Int} : ∀ {l : List Bk}, okF n l = true → ∀ k x, l[k]? = some x → okF (x.1 + 1) (l.drop (k + 1)) = true
  | y :: r, h, 0, x, hx => by
    rw [okF_cons] at h
    simp at hx
    subst hx
    simpa using h.2.2.2
  | y :: r, h, k + 1, x, hx => by
    rw [okF_cons] at h
    simpa using okF_drop h.2.2.2 k x (by simpa using hx)
theorem part_at {l : List Bk} (h : okK l = true) (i : Int) (k : Nat) (h1 : ∀ x ∈ l.take k, x.1 < i) (h2 : ∀ x, l[k]? = some x → i ≤ x.1) :
    l.filter (fun x => decide (x.1 < i)) = l.take k ∧ l.filter (fun x => decide (i < x.1)) = (if (l[k]?.map Prod.fst) = some i then l.drop (k + 1) else l.drop k) := by
  have hs := List.take_append_drop k l
  have f1 : (l.take k).filter (fun x => decide (x.1 < i)) = l.take k := List.filter_eq_self.2 fun x hx => decide_eq_true (h1 x hx)
  have f2 : (l.take k).filter (fun x => decide (i < x.1)) = [] := List.filter_eq_nil_iff.2 fun x hx => by have := h1 x hx; simp; omega
  rcases hk : l[k]? with _ | x
  · have hd : l.drop k = [] := List.drop_eq_nil_of_le (List.getElem?_eq_none_iff.1 hk)
    constructor
    · conv => lhs; rw [← hs, List.filter_append, f1, hd]
      simp
    · conv => lhs; rw [← hs, List.filter_append, f2, hd]
      simp [hd]
  · have hx := h2 x hk
    have hd : l.drop k = x :: l.drop (k + 1) := dropB _ hk
    have hgt : ∀ y ∈ l.drop (k + 1), x.1 < y.1 := fun y hy => by have := (okF_le (okF_drop h k x hk) y hy).1; omega
    have g1 : (l.drop (k + 1)).filter (fun y => decide (y.1 < i)) = [] := List.filter_eq_nil_iff.2 fun y hy => by have := hgt y hy; simp; omega
    have g2 : (l.drop (k + 1)).filter (fun y => decide (i < y.1)) = l.drop (k + 1) := List.filter_eq_self.2 fun y hy => by have := hgt y hy; simp; omega
    constructor
    · conv => lhs; rw [← hs, List.filter_append, f1, hd, List.filter_cons, g1, decide_eq_false (show ¬ x.1 < i by omega)]
      simp
    · conv => lhs; rw [← hs, List.filter_append, f2, hd, List.filter_cons, g2]
      by_cases he : x.1 = i
      · rw [decide_eq_false (show ¬ i < x.1 by omega)]
        simp [he]
      · rw [decide_eq_true (show i < x.1 by omega)]
        simp [he, hd]
theorem Rd.drop2 {w : World} {A : Option Addr} {l : List Bk} (h : Rd w A (bks l)) (k c : Nat) (hc : l.length ≤ c) : Rd w (if c = k then A else Option.map (fun x => x.add (k * 2)) A) (bks (l.drop k)) := fun hne => by
  have hlt : k < l.length := by
    rcases Nat.lt_or_ge k l.length with h | h
    · exact h
    · rw [List.drop_eq_nil_of_le h] at hne; simp [bks] at hne
  obtain ⟨b, off, rfl, hb, hcl⟩ := h (bks_ne (by intro e; simp [e] at hlt))
  rw [if_neg (by omega)]
  refine ⟨b, off + k * 2, by simp [add_plain], hb, fun j u hu => ?_⟩
  rw [Nat.add_assoc]
  refine hcl (k * 2 + j) u ?_
  have hs : bks l = bks (l.take k) ++ bks (l.drop k) := by rw [← bks_append, List.take_append_drop]
  rw [hs, List.getElem?_append_right (by rw [bks_length, List.length_take]; omega), bks_length, List.length_take, Nat.min_eq_left (by omega), show k * 2 + j - 2 * k = j by omega]
  exact hu
set_option maxHeartbeats 2000000 in
theorem refPut_blk (A : Option Addr) (c n : Nat) (l : List Bk) (hn : l.length = n) (hl : n ≤ 5864062014805) (hcap : n ≤ c) (hA : A = none → c = 0) (hf : ∀ x ∈ l, x.2.size ≤ 140737488351232) (i : Int) (d : ByteArray) (_hd : d.size ≤ 140737488351232) (w : World) (hr : Rd w A (bks l)) :
    Calls Tryz.prog 47 #[.slice A n c, .int .i64 i, .string d] w fun e w' => ∃ v, e = .returned (ansK v (putE l i d.size)) ∧ ownK w' w.heap.size v (putR l i d) ∧ Below w.heap.size w w' := by
  subst hn
  obtain ⟨i0, hi, hz0, hz1, hz2⟩ := infoParts infoBk
  have HC := Lib.hid (refCheck_any A c l.length l rfl (by omega) hf w hr)
  by_cases hok : okK l = true
  · have hc0 : chkK l = 0 := by unfold chkK; rw [if_pos hok]
    rw [hc0] at HC
    by_cases hix : 0 ≤ i ∧ i < 1024
    · have hi0 : ¬ i < 0 := by omega
      have hi1 : ¬ 1024 ≤ i := by omega
      by_cases hds : d.size = 16
      · have hE : putE l i d.size = 0 := by unfold putE; rw [if_neg (by rw [hok]; simp), if_neg (by omega), if_neg (by omega)]
        have hPR : putR l i d = putK l i d := by unfold putR; rw [if_pos hE]
        rw [hE, hPR]
        have g3 : ((d.size : Int) == 16) = true := beq_iff_eq.2 (by omega)
        obtain ⟨R, hR⟩ : ∃ R, putK l i d = R := ⟨_, rfl⟩
        rw [hR]
        have hln := okK_len hok
        clear hE hPR hc0
        go_enter Tryz.func47, Tryz.ntmps47
        go_wp2_with fail
        refine HC.out.mono ?_
        rintro e w2 ⟨rfl, hB2⟩
        clear HC
        go_wp2
        clear g3
        go_loopw [8, 9] (fun v j W => ∃ k : Nat, k ≤ l.length ∧ j = .int .i64 k ∧ Hid (∀ x ∈ l.take k, x.1 < i) ∧ Hid (ownK W w.heap.size v (l.take k)) ∧ Below w.heap.size w W) (fun _ j _ => l.length - (intOf j).toNat)
        case atStart => exact ⟨0, Nat.zero_le _, rfl, Lib.hid (by simp), Lib.hid (ownNone _ _ _ _), hB2⟩
        case round =>
          obtain ⟨k, hk, rfl, HT, HO, hB⟩ := hrel
          have hlk : (l.take k).length = k := by rw [List.length_take]; omega
          have hBs := hB.size
          obtain ⟨Av, cv, hv, _, _, _, _⟩ := ownAny HO.out
          rw [hlk] at hv
          subst hv
          have HO' : Hid (wr.ownsRow w.heap.size 103 2 (.slice Av k cv) k (bks (l.take k))) := Lib.hid (by have := HO.out; unfold ownK at this; rw [hlk] at this; exact this)
          clear HO
          -- behind the loop: with it, and what comes behind
          have END : ∀ m : Nat, m ≤ l.length → (R = l.take k ++ [(i, d)] ++ l.drop m) → Hid (R = l.take k ++ [(i, d)] ++ l.drop m ∧ l.drop m = l.drop m) := fun m _ h => Lib.hid ⟨h, rfl⟩
          by_cases hlt : k < l.length
          · obtain ⟨x, hx⟩ : ∃ x, l[k]? = some x := ⟨l[k], qZa hlt⟩
            obtain ⟨b, off, rfl, hb, hq0, hq1⟩ := hr.bk hx
            have hd0 := (hB.cell (p := ⟨b, off + k * 2, none⟩) hb).trans hq0
            have hd1 := (hB.cell (p := ⟨b, off + k * 2 + 1, none⟩) hb).trans hq1
            by_cases h1 : x.1 < i
            · have HT' : Hid (∀ x ∈ l.take (k + 1), x.1 < i) := Lib.hid fun y hy => by
                rw [List.take_add_one, hx] at hy
                rcases List.mem_append.1 hy with hy | hy
                · exact HT.out y hy
                · simp at hy; subst hy; exact h1
              have KA : Hid (∀ x6 g6 c6, x6.ownsRow w.heap.size 103 2 (.slice (some ⟨g6, 0, none⟩) (k + 1) c6) (k + 1) (bks (l.take k) ++ [.int .i64 x.1, .string x.2]) → ownK x6 w.heap.size (.slice (some ⟨g6, 0, none⟩) (k + 1) c6) (l.take (k + 1))) := Lib.hid fun x6 g6 c6 h => by
                unfold ownK
                rw [List.take_add_one, hx, Option.toList_some, bks_snoc, List.length_append, hlk]
                exact h
              clear hx HT END hR
              go_wp2_with (first
                | (at_builtin; refine wpList_append_lies _ rfl _ _ 45 rfl w.heap.size 103 i0 (.agg #[.int .i64 0, .string ByteArray.empty]) 2 24 Tryz.underlying45 hi hz0 hz1 hz2 rfl (by decide) (.slice Av k cv) k (bks (l.take k)) rfl (ownBelow HO'.out ((Below.refl _ _).alloc (Nat.le_refl _) _) (Nat.le_refl _)) ⟨wr.heap.size, 0, none⟩ 1 1 [.int .i64 x.1, .string x.2] rfl rfl (newsNew _ _ _) (by simp [Value.oneCell']) (by omega) (by unfold maxLen; omega) (by omega) (by simp; omega) _ rfl ?_
                   intro g6 c6 x6 ho6 hg6 _ _
                   have HB6 : Hid (Below w.heap.size w x6) := Lib.hid ((hB.alloc hBs _).grown hg6 (by simp; omega) (fun j e => (HO'.out.lt j e).1))
                   have HO6 := Lib.hid (KA.out x6 g6 c6 ho6)
                   clear ho6 hg6))
              go_roundw
              case rel => exact ⟨k + 1, by omega, by go_num, HT', HO6, HB6.out⟩
              case measure => simp [intOf]; omega
            · have hpt := part_at hok i k HT.out (fun y hy => by rw [hx] at hy; injection hy with hy; subst hy; omega)
              have hmap : (l[k]?.map Prod.fst) = some x.1 := by rw [hx]; rfl
              rw [hmap] at hpt
              by_cases h2 : x.1 = i
              · rw [if_pos (by rw [h2])] at hpt
                have E := END (k + 1) (by omega) (by rw [← hR, putK, hpt.1, hpt.2])
                have h2b : (x.1 == i) = true := beq_iff_eq.2 h2
                have HRD := Lib.hid (hr.drop2 (k + 1) c hcap)
                clear END hR hpt hmap hx h2 HT
                go_wp2_with (first
                  | (at_builtin; refine wpList_append_own _ rfl _ _ 45 rfl w.heap.size 103 i0 (.agg #[.int .i64 0, .string ByteArray.empty]) 2 24 Tryz.underlying45 hi hz0 hz1 hz2 rfl (by decide) (.slice Av k cv) k (bks (l.take k)) rfl (ownBelow HO'.out ((Below.refl _ _).alloc (Nat.le_refl _) _) (Nat.le_refl _)) ⟨wr.heap.size, 0, none⟩ 1 1 [.int .i64 i, .string d] rfl rfl (newsNew _ _ _) (by simp [Value.oneCell']) (by unfold maxLen; omega) (by omega) (by simp; omega) ?_
                     intro v6 x6 ho6 hg6 _
                     have HB6 : Hid (Below w.heap.size w x6) := Lib.hid ((hB.alloc hBs _).grown hg6 (by simp; omega) (fun j e => (HO'.out.lt j e).1))
                     have he0 := (HB6.out.cell (p := ⟨b, off + k * 2, none⟩) hb).trans hq0
                     obtain ⟨A6, c6, rfl, _, _, _, _⟩ := ownAny ho6
                     have HO6 := Lib.hid ho6
                     clear ho6 hg6 hq0 hq1 hd0 hd1)
                  | (at_builtin; refine wpList_append_rdS rfl _ _ 45 rfl w.heap.size 103 i0 (.agg #[.int .i64 0, .string ByteArray.empty]) 2 24 Tryz.underlying45 hi hz0 hz1 hz2 rfl (by decide) (.slice A6 (k + 1) c6) (k + 1) (bks (l.take k) ++ [.int .i64 i, .string d]) rfl HO6.out _ _ _ (bks (l.drop (k + 1))) rfl (by rw [bks_length, List.length_drop]; omega) (HRD.out.below HB6.out) (fun e => by split at e <;> cases e) (bks_one _) (by unfold maxLen; omega) (by omega) HB6.out.size ?_
                     intro v7 w7 ho7 hg7
                     have HO7 := Lib.hid ho7
                     have HB7 : Hid (Below w.heap.size w w7) := Lib.hid (HB6.out.grown hg7 HB6.out.size (fun j e => (HO6.out.lt j e).1))
                     clear ho7 hg7))
                all_goals
                  go_ret2
                  refine ⟨_, rfl, ?_, HB7.out⟩
                  rw [E.out.1]
                  have := HO7.out
                  unfold ownK
                  rw [bks_append, bks_snoc, List.length_append, List.length_append, List.length_drop, hlk]
                  exact this
              · rw [if_neg (by simpa using h2)] at hpt
                have E := END k (by omega) (by rw [← hR, putK, hpt.1, hpt.2])
                have h2b : (x.1 == i) = false := beq_eq_false_iff_ne.2 h2
                have hrd := hr.drop2 k c hcap
                rw [if_neg (by omega), Option.map_some, add_plain] at hrd
                have HRD := Lib.hid hrd
                clear hrd
                clear END hR hpt hmap hx HT
                go_wp2_with (first
                  | (at_builtin; refine wpList_append_own _ rfl _ _ 45 rfl w.heap.size 103 i0 (.agg #[.int .i64 0, .string ByteArray.empty]) 2 24 Tryz.underlying45 hi hz0 hz1 hz2 rfl (by decide) (.slice Av k cv) k (bks (l.take k)) rfl (ownBelow HO'.out ((Below.refl _ _).alloc (Nat.le_refl _) _) (Nat.le_refl _)) ⟨wr.heap.size, 0, none⟩ 1 1 [.int .i64 i, .string d] rfl rfl (newsNew _ _ _) (by simp [Value.oneCell']) (by unfold maxLen; omega) (by omega) (by simp; omega) ?_
                     intro v6 x6 ho6 hg6 _
                     have HB6 : Hid (Below w.heap.size w x6) := Lib.hid ((hB.alloc hBs _).grown hg6 (by simp; omega) (fun j e => (HO'.out.lt j e).1))
                     have he0 := (HB6.out.cell (p := ⟨b, off + k * 2, none⟩) hb).trans hq0
                     obtain ⟨A6, c6, rfl, _, _, _, _⟩ := ownAny ho6
                     have HO6 := Lib.hid ho6
                     clear ho6 hg6 hq0 hq1 hd0 hd1)
                  | (at_builtin; refine wpList_append_rdS rfl _ _ 45 rfl w.heap.size 103 i0 (.agg #[.int .i64 0, .string ByteArray.empty]) 2 24 Tryz.underlying45 hi hz0 hz1 hz2 rfl (by decide) (.slice A6 (k + 1) c6) (k + 1) (bks (l.take k) ++ [.int .i64 i, .string d]) rfl HO6.out _ _ _ (bks (l.drop k)) rfl (by rw [bks_length, List.length_drop]; omega) (HRD.out.below HB6.out) (fun e => nomatch e) (bks_one _) (by unfold maxLen; omega) (by omega) HB6.out.size ?_
                     intro v7 w7 ho7 hg7
                     have HO7 := Lib.hid ho7
                     have HB7 : Hid (Below w.heap.size w w7) := Lib.hid (HB6.out.grown hg7 HB6.out.size (fun j e => (HO6.out.lt j e).1))
                     clear ho7 hg7))
                all_goals
                  go_ret2
                  refine ⟨_, rfl, ?_, HB7.out⟩
                  rw [E.out.1]
                  have := HO7.out
                  unfold ownK
                  rw [bks_append, bks_snoc, List.length_append, List.length_append, List.length_drop, hlk]
                  exact this
          · obtain rfl : k = l.length := by omega
            have hgn : l[l.length]? = none := by simp
            have hpt := part_at hok i l.length HT.out (fun y hy => by rw [hgn] at hy; cases hy)
            have hmap : (l[l.length]?.map Prod.fst) = none := by rw [hgn]; rfl
            rw [hmap] at hpt
            rw [if_neg (by simp)] at hpt
            have hnil : (if c = l.length then A else Option.map (fun x => x.add (l.length * 2)) A) = none → c - l.length = 0 := fun e => by
              split at e
              · rw [hA e]; omega
              · rw [Option.map_eq_none_iff] at e
                rw [hA e]; omega
            have E := END l.length (by omega) (by rw [← hR, putK, hpt.1, hpt.2])
            have HRD := Lib.hid (hr.drop2 l.length c hcap)
            clear END hR hpt hmap HT
            go_wp2_with (first
              | (at_builtin; refine wpList_append_own _ rfl _ _ 45 rfl w.heap.size 103 i0 (.agg #[.int .i64 0, .string ByteArray.empty]) 2 24 Tryz.underlying45 hi hz0 hz1 hz2 rfl (by decide) (.slice Av l.length cv) l.length (bks (l.take l.length)) rfl (ownBelow HO'.out ((Below.refl _ _).alloc (Nat.le_refl _) _) (Nat.le_refl _)) ⟨wr.heap.size, 0, none⟩ 1 1 [.int .i64 i, .string d] rfl rfl (newsNew _ _ _) (by simp [Value.oneCell']) (by unfold maxLen; omega) (by omega) (by simp; omega) ?_
                 intro v6 x6 ho6 hg6 _
                 have HB6 : Hid (Below w.heap.size w x6) := Lib.hid ((hB.alloc hBs _).grown hg6 (by simp; omega) (fun j e => (HO'.out.lt j e).1))
                 obtain ⟨A6, c6, rfl, _, _, _, _⟩ := ownAny ho6
                 have HO6 := Lib.hid ho6
                 clear ho6 hg6)
              | (at_builtin; refine wpList_append_rdS rfl _ _ 45 rfl w.heap.size 103 i0 (.agg #[.int .i64 0, .string ByteArray.empty]) 2 24 Tryz.underlying45 hi hz0 hz1 hz2 rfl (by decide) (.slice A6 (l.length + 1) c6) (l.length + 1) (bks (l.take l.length) ++ [.int .i64 i, .string d]) rfl HO6.out _ _ _ (bks (l.drop l.length)) rfl (by rw [bks_length, List.length_drop]; omega) (HRD.out.below HB6.out) hnil (bks_one _) (by unfold maxLen; omega) (by omega) HB6.out.size ?_
                 intro v7 w7 ho7 hg7
                 have HO7 := Lib.hid ho7
                 have HB7 : Hid (Below w.heap.size w w7) := Lib.hid (HB6.out.grown hg7 HB6.out.size (fun j e => (HO6.out.lt j e).1))
                 clear ho7 hg7))
            all_goals
              go_ret2
              refine ⟨_, rfl, ?_, HB7.out⟩
              rw [E.out.1]
              have := HO7.out
              unfold ownK
              rw [bks_append, bks_snoc, List.length_append, List.length_append, List.length_drop, hlk]
              rw [Nat.sub_self]
              exact this
      · have hE : putE l i d.size = 5 := by unfold putE; rw [if_neg (by rw [hok]; simp), if_neg (by omega), if_pos hds]
        have hPR : putR l i d = [] := by unfold putR; rw [if_neg (by rw [hE]; omega)]
        rw [hE, hPR]
        have g3 : ((d.size : Int) == 16) = false := beq_eq_false_iff_ne.2 (by omega)
        clear hE hPR hc0
        go_enter Tryz.func47, Tryz.ntmps47
        go_wp2_with fail
        refine HC.out.mono ?_
        rintro e w2 ⟨rfl, hB2⟩
        go_wp2
        go_ret2
        exact ⟨_, rfl, ownNone _ _ _ _, hB2⟩
    · have hE : putE l i d.size = 4 := by unfold putE; rw [if_neg (by rw [hok]; simp), if_pos (by omega)]
      have hPR : putR l i d = [] := by unfold putR; rw [if_neg (by rw [hE]; omega)]
      rw [hE, hPR]
      clear hE hPR hc0
      by_cases hi0 : i < 0
      · go_enter Tryz.func47, Tryz.ntmps47
        go_wp2_with fail
        refine HC.out.mono ?_
        rintro e w2 ⟨rfl, hB2⟩
        go_wp2
        go_ret2
        exact ⟨_, rfl, ownNone _ _ _ _, hB2⟩
      · have hi1 : 1024 ≤ i := by omega
        go_enter Tryz.func47, Tryz.ntmps47
        go_wp2_with fail
        refine HC.out.mono ?_
        rintro e w2 ⟨rfl, hB2⟩
        go_wp2
        go_ret2
        exact ⟨_, rfl, ownNone _ _ _ _, hB2⟩
  · have hc0 : chkK l = 9 := by unfold chkK; rw [if_neg hok]
    have hE : putE l i d.size = 9 := by unfold putE; rw [if_pos ((Bool.not_eq_true _).mp hok)]
    have hPR : putR l i d = [] := by unfold putR; rw [if_neg (by rw [hE]; omega)]
    rw [hE, hPR]
    rw [hc0] at HC
    clear hE hPR hc0
    go_enter Tryz.func47, Tryz.ntmps47
    go_wp2_with fail
    refine HC.out.mono ?_
    rintro e w2 ⟨rfl, hB2⟩
    go_wp2
    go_ret2
    exact ⟨_, rfl, ownNone _ _ _ _, hB2⟩
end Go.Proofs.YtoabkbnhdekbdaaGreat
