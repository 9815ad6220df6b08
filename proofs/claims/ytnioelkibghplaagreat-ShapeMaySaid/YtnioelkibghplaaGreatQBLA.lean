/-
  blocks: Check, isIndex; strings.Clone. Conditions: the lists are as they come in.
-/
import Derived.Test.YtnioelkibghplaaGreatQBLM
import Derived.Test.YtnioelkibghplaaGreatQRSM
import Derived.Test.YtnioelkibghplaaGreatQGO
import Derived.Test.YtnioelkibghplaaGreatQRL
import Derived.Test.YtnioelkibghplaaGreatShelf
import Derived.LoopTactic
import Derived.Lib.Hide
import Derived.IntWalk
import Derived.RegionTactic
import Derived.BigQuiet
namespace Go.Proofs.YtnioelkibghplaaGreat
open Go.ChangeShapes Go.WideShapes Go.ChangeAt Go.RowKit
set_option maxRecDepth 100000

theorem isIndex_any (n : Int) (w : World) :
    Calls Tryz.prog 107 #[.int .i64 n] w fun e w' => e = .returned (.bool (decide (0 ≤ n) && decide (n < 1024))) ∧ w' = w := by
  by_cases h1 : 0 ≤ n
  · by_cases h2 : n < 1024
    · rw [decide_eq_true h1, decide_eq_true h2]
      go_enter Tryz.func107, Tryz.ntmps107
      go_wp2
      go_ret
      exact ⟨rfl, rfl⟩
    · rw [decide_eq_true h1, decide_eq_false h2]
      go_enter Tryz.func107, Tryz.ntmps107
      go_wp2
      go_ret
      exact ⟨rfl, rfl⟩
  · rw [decide_eq_false h1]
    go_enter Tryz.func107, Tryz.ntmps107
    go_wp2
    go_ret
    exact ⟨rfl, rfl⟩

theorem cloneT_any (s : ByteArray) (hl : s.size ≤ 281474976710656) (w : World) :
    Calls Tryz.prog 75 #[.string s] w fun e w' => e = .returned (.string s) ∧ Below w.heap.size w w' := by
  go_enter Tryz.func75, Tryz.ntmps75
  go_wp2_with (refine (Tryz.stringslite_Clone _ _ hl).mono ?_; rintro e w' ⟨rfl, hB⟩)
  go_ret
  exact ⟨rfl, hB⟩

end Go.Proofs.YtnioelkibghplaaGreat

namespace Go.Proofs.YtnioelkibghplaaGreat
open Go.ChangeShapes Go.WideShapes Go.ChangeAt Go.RowKit
set_option maxRecDepth 100000

set_option maxRecDepth 100000 in
theorem infoBk : (Tryz.prog.info? 107).map (fun i => (i.zero, i.size, i.bytes)) = some (some (.agg #[.int .i64 0, .string ByteArray.empty]), 2, 24) := by kernel_rfl

theorem filter_le {α : Type} (p : α → Bool) (l : List α) (k : Nat) : ((l.take k).filter p).length ≤ k :=
  Nat.le_trans (List.length_filter_le _ _) (by rw [List.length_take]; omega)

set_option maxHeartbeats 1000000 in
theorem those_any (gf : Nat) (lb : Array Value) (eg : Enters Tryz.prog gf) (p : Int → Bool) (A : Option Addr) (c n : Nat) (l : List Bk) (hn : l.length = n) (hl : n ≤ 4398046511104) (hf : ∀ x ∈ l, x.2.size ≤ 140737488351232) (w : World)
    (hp : ∀ W i, Below w.heap.size w W → Calls Tryz.prog gf (#[.int .i64 i] ++ lb) W fun e W' => e = .returned (.bool (p i)) ∧ Below W.heap.size W W') (hr : Rd w A (bks l)) :
    Calls Tryz.prog 108 #[.slice A n c, .func (.func gf) #[] lb] w fun e w' => ∃ v, e = .returned v ∧ w'.ownsRow w.heap.size 107 2 v (l.filter (fun x => p x.1)).length (bks (l.filter (fun x => p x.1))) ∧ Below w.heap.size w w' := by
  subst hn
  obtain ⟨i0, hi, hz0, hz1, hz2⟩ := infoParts infoBk
  have eg' : ∀ args w, (callFunc gf args).run Tryz.prog w = .ok (.enter gf args) w := eg
  obtain ⟨q, hq⟩ : ∃ q : Bk → Bool, (fun x : Bk => p x.1) = q := ⟨_, rfl⟩
  have hqx : ∀ x : Bk, p x.1 = q x := fun x => by rw [← hq]
  rw [hq]
  clear hq
  go_enter Tryz.func108, Tryz.ntmps108
  go_wp2
  go_loopw [5, 10] (fun v j W => ∃ k : Nat, k ≤ l.length ∧ j = .int .i64 k ∧ Hid (W.ownsRow w.heap.size 107 2 v ((l.take k).filter q).length (bks ((l.take k).filter q))) ∧ Below w.heap.size w W) (fun _ j _ => l.length - (intOf j).toNat)
  case atStart => exact ⟨0, Nat.zero_le _, rfl, Lib.hid (ownNone _ _ _ _), Below.refl _ _⟩
  case round =>
    obtain ⟨k, hk, rfl, HO, hB⟩ := hrel
    obtain ⟨Av, cv, hv, _, _, _, _⟩ := ownAny HO.out
    subst hv
    by_cases hlt : k < l.length
    · obtain ⟨x, hx⟩ : ∃ x, l[k]? = some x := ⟨l[k], List.getElem?_eq_getElem hlt⟩
      obtain ⟨b, off, rfl, hb, hc0, hc1⟩ := (Rd.below hr hB).bk hx
      have hks : x.2.size ≤ 140737488351232 := hf x (List.mem_of_getElem? hx)
      obtain ⟨w1, hw1⟩ : ∃ w1, wr.alloc (.cells #[.int .i64 x.1, .string x.2] 107) = w1 := ⟨_, rfl⟩
      have hB1 : Below wr.heap.size wr w1 := hw1 ▸ (Below.refl _ wr).alloc (Nat.le_refl _) _
      have k1 : Blk w1 wr.heap.size 107 [.int .i64 x.1, .string x.2] := hw1 ▸ Blk.new wr _ _
      have x0 := k1.cell 0
      simp only [List.getElem?_cons_zero] at x0
      have HP := Lib.hid (hp w1 x.1 (hB.trans (hB1.mono hB.size)))
      have HK := Lib.hid k1
      have HW := Lib.hid hw1
      have HTK : Hid ((l.take (k + 1)).filter q = (l.take k).filter q ++ (if q x then [x] else [])) := Lib.hid (by
        rw [List.take_add_one, hx, List.filter_append]
        simp [List.filter_cons])
      have hfl := filter_le q l k
      clear hx k1 hw1
      go_wp2_with fail
      rw [HW.out]
      refine HP.out.mono ?_
      rintro e w2 ⟨rfl, hB2⟩
      have hB12 : Below wr.heap.size wr w2 := hB1.trans (hB2.mono hB1.size)
      have K2 := Lib.hid (HK.out.below hB2 HK.out.lt)
      have hB02 := hB.trans (hB12.mono hB.size)
      have HO2 := Lib.hid (ownBelow HO.out hB12 (Nat.le_refl _))
      rw [hqx]
      clear HP HK x0 HW
      rcases hqq : q x with _ | _
      · have HO' : Hid (w2.ownsRow w.heap.size 107 2 (.slice Av ((l.take k).filter q).length cv) ((l.take (k + 1)).filter q).length (bks ((l.take (k + 1)).filter q))) := Lib.hid (by
          rw [HTK.out, hqq]
          simpa using HO2.out)
        clear HO2 HTK hqq
        go_wp2
        go_roundw
        case rel => exact ⟨k + 1, by omega, by go_num, HO', hB02⟩
        case measure => simp [intOf]; omega
      · have HTK' : Hid ((l.take (k + 1)).filter q = (l.take k).filter q ++ [x]) := Lib.hid (by rw [HTK.out, hqq]; rfl)
        clear HTK hqq
        have hS0 : Hid (∀ W', Below w2.heap.size w2 W' → W'.cell? ⟨wr.heap.size, 0, none⟩ = some (.int .i64 x.1) ∧ W'.cell? ⟨wr.heap.size, 1, none⟩ = some (.string x.2)) := Lib.hid fun W' hB' => by
          have h := K2.out.below hB' K2.out.lt
          exact ⟨h.cell 0, h.cell 1⟩
        have hBd : Below w2.heap.size w2 w2.drew := (Below.refl _ _).drew
        go_wp2_with fail
        refine wp_region_noPanic ?_
        refine wp_region_last 8 (fun W' => W'.cell? ⟨wr.heap.size, 0, none⟩ = some (.int .i64 x.1) ∧ W'.cell? ⟨wr.heap.size, 1, none⟩ = some (.string x.2)) (by kernel_rfl) (hS0.out _ hBd) (fun hHeld => ?_)
        refine wpAnyL_take 12 (i := 0) (oi := ⟨some 18, _, _, _, _, _⟩) (v := ?_) rfl (by kernel_rfl) (by kernel_rfl) (by kernel_rfl) (by kernel_rfl) (by kernel_rfl) (by kernel_rfl) (by kernel_rfl) (fun _ _ _ h => h) (Or.inl ⟨by rfl, ?_⟩) hHeld ?_
        rotate_left
        focus (intro w hSw; (try dsimp only at hSw); go_simp; try (with_reducible rfl))
        try simp only [Act.put, pA, pB, pC]
        refine wpAnyL_take 12 (i := 1) (oi := ⟨some 19, _, _, _, _, _⟩) (v := ?_) rfl (by kernel_rfl) (by kernel_rfl) (by kernel_rfl) (by kernel_rfl) (by kernel_rfl) (by kernel_rfl) (by kernel_rfl) (fun _ _ _ h => h) (Or.inl ⟨by rfl, ?_⟩) hHeld ?_
        rotate_left
        focus (intro w hSw; (try dsimp only at hSw); go_simp; try (with_reducible rfl))
        try simp only [Act.put, pA, pB, pC]
        refine wpAnyL_take 12 (i := 2) (oi := ⟨some 20, _, _, _, _, _⟩) (v := ?_) rfl (by kernel_rfl) (by kernel_rfl) (by kernel_rfl) (by kernel_rfl) (by kernel_rfl) (by kernel_rfl) (by kernel_rfl) (fun _ _ _ h => h) (Or.inl ⟨by rfl, ?_⟩) hHeld ?_
        rotate_left
        focus (intro w hSw; (try dsimp only at hSw); go_simp; try (with_reducible rfl))
        try simp only [Act.put, pA, pB, pC]
        refine wpAnyL_take 12 (i := 3) (oi := ⟨some 21, _, _, _, _, _⟩) (v := ?_) rfl (by kernel_rfl) (by kernel_rfl) (by kernel_rfl) (by kernel_rfl) (by kernel_rfl) (by kernel_rfl) (by kernel_rfl) (fun _ _ _ h => h) (Or.inl ⟨by rfl, ?_⟩) hHeld ?_
        rotate_left
        focus (intro w hSw; (try dsimp only at hSw); go_simp; try (with_reducible rfl))
        try simp only [Act.put, pA, pB, pC]
        refine wpAnyL_take 12 (i := 4) (oi := ⟨some 22, _, _, _, _, _⟩) (v := ?_) rfl (by kernel_rfl) (by kernel_rfl) (by kernel_rfl) (by kernel_rfl) (by kernel_rfl) (by kernel_rfl) (by kernel_rfl) (fun _ _ _ h => h) (Or.inl ⟨by rfl, ?_⟩) hHeld ?_
        rotate_left
        focus (intro w hSw; (try dsimp only at hSw); go_simp; try (with_reducible rfl))
        try simp only [Act.put, pA, pB, pC]
        refine wpAnyL_one (i := 5) (o := ⟨some 23, _, _, _, _, _⟩) (by kernel_rfl) rfl (fun K hK => ?_)
        clear hHeld
        go_simp
        refine (cloneT_any x.2 (by omega) _).mono ?_
        rintro e w3 ⟨rfl, hB3⟩
        have hB3 : Below w2.heap.size w2 w3 := hBd.trans (hB3.mono hBd.size)
        go_wp2_with fail
        refine hK.out _ _ (hS0.out _ hB3) (fun hHeld => ?_)
        clear hK K
        try simp only [Act.put, pA, pB, pC]
        refine wpAnyL_take 12 (i := 6) (oi := ⟨some 24, _, _, _, _, _⟩) (v := ?_) rfl (by kernel_rfl) (by kernel_rfl) (by kernel_rfl) (by kernel_rfl) (by kernel_rfl) (by kernel_rfl) (by kernel_rfl) (fun _ _ _ h => h) (Or.inl ⟨by rfl, ?_⟩) hHeld ?_
        rotate_left
        focus (intro w hSw; (try dsimp only at hSw); go_simp; try (with_reducible rfl))
        try simp only [Act.put, pA, pB, pC]
        refine wpAnyL_one (i := 7) (o := ⟨some 25, _, _, _, _, _⟩) (by kernel_rfl) rfl (fun K hK => ?_)
        clear hHeld
        go_simp
        have hB4 : Below w2.heap.size w2 (w3.alloc (.cells #[.int .i64 x.1, .string x.2] 107)) := hB3.alloc hB3.size _
        go_wp2_with fail
        refine hK.out _ _ (hS0.out _ hB4) (fun hHeld => ?_)
        clear hK K
        try simp only [Act.put, pA, pB, pC]
        refine wpAnyL_last (i := 8) (o := ⟨some 26, _, _, _, _, _⟩) (by kernel_rfl) rfl (by kernel_rfl) (fun K hK => ?_)
        clear hHeld
        refine step_append_lies (o := ⟨some 26, _, _, _, _, _⟩) _ (by rfl) _ _ 53 (by rfl) w.heap.size 107 i0 (.agg #[.int .i64 0, .string ByteArray.empty]) 2 24 Tryz.underlying53 hi hz0 hz1 hz2 rfl (by omega) (.slice Av ((l.take k).filter q).length cv) ((l.take k).filter q).length (bks ((l.take k).filter q)) (by rfl) (ownBelow HO2.out hB4 (Nat.le_refl _)) ⟨w3.heap.size, 0, none⟩ 1 1 [.int .i64 x.1, .string x.2] (by rfl) rfl (newsNew _ _ _) (by simp [Value.oneCell']) (by omega) (by unfold maxLen; omega) (by omega) (by have := hB3.size; have := hB02.size; simp; omega) _ rfl ?_
        intro g6 c6 x6 ho6 hg6 hg6' hl6
        have hB6 : Below w.heap.size w x6 := (hB02.trans (hB4.mono hB02.size)).grown hg6 (by have := hB3.size; have := hB02.size; simp; omega) (fun j e => (HO2.out.lt j e).1)
        have HO6 := Lib.hid ho6
        clear ho6 hg6
        refine hK.out _ _ ?_
        clear hK K
        try simp only [Act.put, pA, pB, pC]
        refine wpAnyL_takeW (i := 9) (oi := ⟨some 5, _, _, _, _, _⟩) (v := ?_) rfl (by kernel_rfl) (by kernel_rfl) (by kernel_rfl) (by kernel_rfl) (fun _ _ _ h => h) (Or.inl ⟨by rfl, ?_⟩) (.inl (by kernel_rfl)) ?_
        rotate_left
        focus (intro w hSw; (try dsimp only at hSw); go_simp; try (with_reducible rfl))
        try simp only [Act.put, pA, pB, pC]
        refine wpAnyL_done (by kernel_rfl) ?_ _
        refine NoPanic.normal ?_
        go_wp2_with fail
        go_roundw
        case rel => exact ⟨k + 1, by omega, by go_num, Lib.hid (by rw [HTK'.out, bks_snoc, List.length_append]; exact HO6.out), hB6⟩
        case measure => simp [intOf]; omega
    · obtain rfl : k = l.length := by omega
      have HO' : Hid (wr.ownsRow w.heap.size 107 2 (.slice Av ((l.take l.length).filter q).length cv) (l.filter q).length (bks (l.filter q))) := Lib.hid (by have := HO.out; rw [List.take_length] at this ⊢; exact this)
      clear HO
      go_wp2
      go_ret
      exact ⟨_, rfl, HO'.out, hB⟩

end Go.Proofs.YtnioelkibghplaaGreat

namespace Go.Proofs.YtnioelkibghplaaGreat
open Go.ChangeShapes Go.WideShapes Go.ChangeAt Go.RowKit
set_option maxRecDepth 100000

theorem put1_any (B : Nat) (i j : Int) (w : World) (h0 : w.cell? ⟨B, 0, none⟩ = some (.int .i64 i)) :
    Calls Tryz.prog 109 (#[.int .i64 j] ++ #[.pointer (some ⟨B, 0, none⟩)]) w fun e w' => e = .returned (.bool (decide (j < i))) ∧ Below w.heap.size w w' := by
  go_enter Tryz.func109, Tryz.ntmps109
  go_wp2
  go_ret
  exact ⟨rfl, Below.refl _ _⟩
theorem put2_any (B : Nat) (i j : Int) (w : World) (h0 : w.cell? ⟨B, 0, none⟩ = some (.int .i64 i)) :
    Calls Tryz.prog 110 (#[.int .i64 j] ++ #[.pointer (some ⟨B, 0, none⟩)]) w fun e w' => e = .returned (.bool (decide (i < j))) ∧ Below w.heap.size w w' := by
  go_enter Tryz.func110, Tryz.ntmps110
  go_wp2
  go_ret
  exact ⟨rfl, Below.refl _ _⟩
def putR (l : List Bk) (i : Int) (d : ByteArray) : List Bk := if putE l i d.size = 0 then putK l i d else []
abbrev ansK (v : Value) (e : Int) : Value := .tuple #[v, .int .i64 e]
abbrev ownK (w : World) (base : Nat) (v : Value) (l : List Bk) : Prop := w.ownsRow base 107 2 v l.length (bks l)

theorem bool_int0 (n : Int) : (decide (0 ≤ n) && decide (n < 1024)) = true ↔ 0 ≤ n ∧ n < 1024 := by simp

set_option maxHeartbeats 2000000 in
theorem blkPut_any (A : Option Addr) (c n : Nat) (l : List Bk) (hn : l.length = n) (hl : n ≤ 5864062014805) (hf : ∀ x ∈ l, x.2.size ≤ 140737488351232) (i : Int) (d : ByteArray) (_hd : d.size ≤ 140737488351232) (w : World) (hr : Rd w A (bks l)) :
    Calls Tryz.prog 51 #[.slice A n c, .int .i64 i, .string d] w fun e w' => ∃ v, e = .returned (ansK v (putE l i d.size)) ∧ ownK w' w.heap.size v (putR l i d) ∧ Below w.heap.size w w' := by
  subst hn
  obtain ⟨i0, hi, hz0, hz1, hz2⟩ := infoParts infoBk
  obtain ⟨w1, hw1⟩ : ∃ w1, w.alloc (.cells #[.int .i64 i] 3) = w1 := ⟨_, rfl⟩
  have hB1 : Below w.heap.size w w1 := hw1 ▸ (Below.refl _ w).alloc (Nat.le_refl _) _
  have k1 : Blk w1 w.heap.size 3 [.int .i64 i] := hw1 ▸ Blk.new w _ _
  have HC := Lib.hid (blkCheck_any A c l.length l rfl (by omega) hf w1 (hr.below hB1))
  have HW := Lib.hid hw1
  by_cases hok : okK l = true
  · have hc0 : chkK l = 0 := by unfold chkK; rw [if_pos hok]
    rw [hc0] at HC
    by_cases hix : 0 ≤ i ∧ i < 1024
    · have hxb := (bool_int0 i).2 hix
      by_cases hds : d.size = 16
      · have hE : putE l i d.size = 0 := by unfold putE; rw [if_neg (by rw [hok]; simp), if_neg (by omega), if_neg (by omega)]
        have hPR : putR l i d = putK l i d := by unfold putR; rw [if_pos hE]
        rw [hE, hPR]
        have g3 : ((d.size : Int) == 16) = true := beq_iff_eq.2 (by omega)
        have HT1 := Lib.hid fun (W : World) (hB : Below w1.heap.size w1 W) => those_any 109 #[.pointer (some ⟨w.heap.size, 0, none⟩)] (enters_of Tryz.func109 (by kernel_rfl) rfl) (fun j => decide (j < i)) A c l.length l rfl (by have := okK_len hok; omega) hf W
          (fun W' j hB' => put1_any w.heap.size i j W' (((k1.below hB k1.lt).below hB' (Nat.lt_of_lt_of_le k1.lt hB.size)).cell 0)) ((hr.below hB1).below hB)
        have HT2 := Lib.hid fun (W : World) (hB : Below w1.heap.size w1 W) => those_any 110 #[.pointer (some ⟨w.heap.size, 0, none⟩)] (enters_of Tryz.func110 (by kernel_rfl) rfl) (fun j => decide (i < j)) A c l.length l rfl (by have := okK_len hok; omega) hf W
          (fun W' j hB' => put2_any w.heap.size i j W' (((k1.below hB k1.lt).below hB' (Nat.lt_of_lt_of_le k1.lt hB.size)).cell 0)) ((hr.below hB1).below hB)
        have HK1 := Lib.hid k1
        have x0 := k1.cell 0
        simp only [List.getElem?_cons_zero] at x0
        have hlx := k1.lt
        obtain ⟨l1, hl1⟩ : ∃ l1, l.filter (fun x => decide (x.1 < i)) = l1 := ⟨_, rfl⟩
        obtain ⟨l2, hl2⟩ : ∃ l2, l.filter (fun x => decide (i < x.1)) = l2 := ⟨_, rfl⟩
        have hPK : Hid (putK l i d = l1 ++ [(i, d)] ++ l2) := Lib.hid (by rw [putK, hl1, hl2])
        rw [hl1] at HT1
        rw [hl2] at HT2
        have hln := okK_len hok
        have hl1n : l1.length ≤ 1024 := by rw [← hl1]; exact Nat.le_trans (List.length_filter_le _ _) hln
        have hl2n : l2.length ≤ 1024 := by rw [← hl2]; exact Nat.le_trans (List.length_filter_le _ _) hln
        clear hw1 k1 hE hPR hl1 hl2 hc0
        go_enter Tryz.func51, Tryz.ntmps51
        go_wp2_with fail
        rw [HW.out]
        refine HC.out.mono ?_
        rintro e w2 ⟨rfl, hB2⟩
        have y0 := (hB2.cell (p := ⟨w.heap.size, 0, none⟩) hlx).trans x0
        go_wp2_with fail
        refine (isIndex_any i w2).mono ?_
        rintro e w2' ⟨rfl, rfl⟩
        rw [hxb]
        go_wp2_with fail
        refine (HT1.out w2' hB2).mono ?_
        rintro e w3 ⟨v1, rfl, ho1, hB3⟩
        obtain ⟨A1, c1, rfl, hc1, hn1, hr1, _⟩ := ownAny ho1
        have HO1 := Lib.hid ho1
        have hB13 := hB2.trans (hB3.mono hB2.size)
        clear ho1 HC
        go_wp2_with fail
        refine (HT2.out w3 hB13).mono ?_
        rintro e w4 ⟨v2, rfl, ho2, hB4⟩
        obtain ⟨A2, c2, rfl, hc2, hn2, hr2, _⟩ := ownAny ho2
        have HO2 := Lib.hid ho2
        have hB14 := hB13.trans (hB4.mono hB13.size)
        have z0 := (hB14.cell (p := ⟨w.heap.size, 0, none⟩) hlx).trans x0
        have hlx4 := Nat.lt_of_lt_of_le hlx hB14.size
        clear ho2 HT1 HT2 hxb
        go_wp2_with fail
        refine wp_region_noPanic ?_
        refine wp_region_last 5 (fun W' => W'.cell? ⟨w.heap.size, 0, none⟩ = some (.int .i64 i)) (by kernel_rfl) z0 (fun hHeld => ?_)
        refine wpAnyL_take 16 (i := 0) (oi := ⟨some 29, _, _, _, _, _⟩) (v := ?_) rfl (by kernel_rfl) (by kernel_rfl) (by kernel_rfl) (by kernel_rfl) (by kernel_rfl) (by kernel_rfl) (by kernel_rfl) (fun _ _ _ h => h) (Or.inl ⟨by rfl, ?_⟩) hHeld ?_
        rotate_left
        focus (intro w hSw; (try dsimp only at hSw); go_simp; try (with_reducible rfl))
        try simp only [Act.put, pA, pB, pC]
        refine wpAnyL_take 16 (i := 1) (oi := ⟨some 30, _, _, _, _, _⟩) (v := ?_) rfl (by kernel_rfl) (by kernel_rfl) (by kernel_rfl) (by kernel_rfl) (by kernel_rfl) (by kernel_rfl) (by kernel_rfl) (fun _ _ _ h => h) (Or.inl ⟨by rfl, ?_⟩) hHeld ?_
        rotate_left
        focus (intro w hSw; (try dsimp only at hSw); go_simp; try (with_reducible rfl))
        try simp only [Act.put, pA, pB, pC]
        clear hHeld
        refine wpAnyL_facts 16 3 1 [(2, 31), (3, 32), (4, 11)] (fun s v w => match s with
          | 31 => v = .string d
          | 32 => v = .agg #[.int .i64 i, .string d]
          | 11 => ∃ X, v = .pointer (some ⟨X, 0, none⟩) ∧ w4.heap.size ≤ X ∧ Blk w X 107 [.int .i64 0, .string ByteArray.empty]
          | _ => True) (fun w w' => Below w.heap.size w w') (by kernel_rfl) (by kernel_rfl) (fun w w' h h' => h.trans (h'.mono h.size)) ⟨?_, ?_, ?_, trivial⟩ (fun w' hB => (hB.cell (p := ⟨w.heap.size, 0, none⟩) hlx4).trans z0) ⟨?_, ?_, ?_, trivial⟩ ?_
        focus
          intro v w w' h hB
          exact h
        focus
          intro v w w' h hB
          exact h
        focus
          intro v w w' h hB
          exact (by obtain ⟨X, e, hX, hb⟩ := h; exact ⟨X, e, hX, hb.below hB hb.lt⟩)
        focus
          intro vs w2 hBf hFf o ho K hK
          obtain rfl : (⟨some 31, _, _, _, _, _⟩ : Oper) = o := Option.some.inj ho
          clear ho
          (try simp only [fillL, List.foldl_cons, List.foldl_nil, Act.put, List.setIfInBounds_toArray, List.set_cons_zero, List.set_cons_succ] at hK ⊢)
          go_simp
          refine (cloneT_any d (by omega) w2).mono ?_
          rintro e w3 ⟨rfl, hB9⟩
          refine hK.out _ _ ⟨rfl, hB9⟩
        focus
          intro vs w2 hBf hFf o ho K hK
          obtain rfl : (⟨some 32, _, _, _, _, _⟩ : Oper) = o := Option.some.inj ho
          clear ho
          (try simp only [fillL, List.foldl_cons, List.foldl_nil, Act.put, List.setIfInBounds_toArray, List.set_cons_zero, List.set_cons_succ] at hK ⊢)
          have e1 : vs 31 = .string d := (hFf (2, 31) (by simp) (by kernel_rfl))
          simp only [e1] at hK ⊢
          go_simp
          refine hK.out _ _ ⟨rfl, Below.refl _ _⟩
        focus
          intro vs w2 hBf hFf o ho K hK
          obtain rfl : (⟨some 11, _, _, _, _, _⟩ : Oper) = o := Option.some.inj ho
          clear ho
          (try simp only [fillL, List.foldl_cons, List.foldl_nil, Act.put, List.setIfInBounds_toArray, List.set_cons_zero, List.set_cons_succ] at hK ⊢)
          go_simp
          refine hK.out _ _ ⟨⟨_, rfl, hBf.size, Blk.new w2 [.int .i64 0, .string ByteArray.empty] 107⟩, (Below.refl _ _).alloc (Nat.le_refl _) _⟩
        intro vs w2 hBf hFf
        (try simp only [fillL, List.foldl_cons, List.foldl_nil, Act.put, List.setIfInBounds_toArray, List.set_cons_zero, List.set_cons_succ])
        have e1 : vs 32 = .agg #[.int .i64 i, .string d] := (hFf (3, 32) (by simp))
        obtain ⟨X, e4, hX, hKX⟩ := (hFf (4, 11) (by simp))
        simp only [e1, e4]
        have KX := Lib.hid hKX
        have fx0 := hKX.frozen 0
        have fx1 := hKX.frozen 1
        have cx0 := hKX.cell 0
        have cx1 := hKX.cell 1
        simp only [gA, gB] at cx0 cx1
        clear hKX
        refine wpAnyL_last (i := 5) (o := ⟨none, _, _, _, _, _⟩) (by kernel_rfl) rfl (by kernel_rfl) (fun K hK => ?_)
        go_simp
        go_wp2_with fail
        refine hK.out _ _ ?_
        clear hK K
        try simp only [Act.put, pA, pB, pC]
        refine wpAnyL_done (by kernel_rfl) ?_ _
        refine NoPanic.normal ?_
        have k5 : Blk ((w2.setCell ⟨X, 0, none⟩ (.int .i64 i)).setCell ⟨X, 1, none⟩ (.string d)) X 107 [.int .i64 i, .string d] := (KX.out.set 0 _).set 1 _
        have hB5 : Below w4.heap.size w4 ((w2.setCell ⟨X, 0, none⟩ (.int .i64 i)).setCell ⟨X, 1, none⟩ (.string d)) := (((Below.refl _ w4).drew.trans hBf).setCell (p := ⟨X, 0, none⟩) hX _).setCell (p := ⟨X, 1, none⟩) hX _
        obtain ⟨w5, hw5⟩ : ∃ w5, (w2.setCell ⟨X, 0, none⟩ (.int .i64 i)).setCell ⟨X, 1, none⟩ (.string d) = w5 := ⟨_, rfl⟩
        rw [hw5] at k5 hB5 ⊢
        clear hw5 cx0 cx1 fx0 fx1 hFf e1 e4
        have hB45 := hB4.trans (hB5.mono hB4.size)
        have HO15 := Lib.hid (ownBelow (base' := w.heap.size) HO1.out hB45 (by have := hB1.size; have := hB2.size; omega))
        have HO25 := Lib.hid (ownBelow (base' := w3.heap.size) HO2.out hB5 (Nat.le_refl _))
        have x0' := k5.cell 0
        have x1' := k5.cell 1
        simp only [gA, gB] at x0' x1'
        have hs5 := hB5.size
        have hs45 := hB45.size
        have hs14 := hB14.size
        have hs1 := hB1.size
        have hs13 := hB13.size
        go_wp2_with (first
          | (at_builtin; refine wpList_append_own _ rfl _ _ 53 rfl w.heap.size 107 i0 (.agg #[.int .i64 0, .string ByteArray.empty]) 2 24 Tryz.underlying53 hi hz0 hz1 hz2 rfl (by decide) (.slice A1 l1.length c1) l1.length (bks l1) rfl (ownBelow HO15.out ((Below.refl _ _).alloc (Nat.le_refl _) _) (Nat.le_refl _)) ⟨w5.heap.size, 0, none⟩ 1 1 [.int .i64 i, .string d] rfl rfl (newsNew _ _ _) (by simp [Value.oneCell']) (by unfold maxLen; omega) (by omega) (by simp; omega) ?_
             intro v6 w6 ho6 hg6 _
             have hk6 : ∀ k, w3.heap.size ≤ k → k < w5.heap.size → w6.heap[k]? = w5.heap[k]? := fun k h1 h2 => (hg6.block k (by simp; omega) (fun e => by have := (HO1.out.lt k e.symm).2; omega)).trans (Below.heap_alloc _ _ k h2)
             have hB6 : Below w.heap.size w w6 := ((hB1.trans (hB14.mono hs1)).trans (hB5.mono (by omega))).trans (((Below.refl w.heap.size w5).alloc (by omega) _).grown hg6 (by simp; omega) (fun j e => by have := (HO1.out.lt j e).1; have := hB2.size; omega))
             have hs6 : w5.heap.size ≤ w6.heap.size := by have := hg6.size; simp at this; omega
             obtain ⟨A6, c6, rfl, _, _, _, _⟩ := ownAny ho6
             have HO6 := Lib.hid ho6
             have HR6 := Lib.hid ((RdN.of_own HO25.out).stays hs6 hk6)
             clear ho6 hg6)
          | (at_builtin; refine wpList_append_rdS rfl _ _ 53 rfl w.heap.size 107 i0 (.agg #[.int .i64 0, .string ByteArray.empty]) 2 24 Tryz.underlying53 hi hz0 hz1 hz2 rfl (by decide) (.slice A6 (l1.length + 1) c6) (l1.length + 1) (bks l1 ++ [.int .i64 i, .string d]) rfl HO6.out A2 l2.length c2 (bks l2) rfl (by rw [bks_length]; omega) HR6.out.1 hn2 (bks_one l2) (by unfold maxLen; omega) (by omega) (by omega) ?_
             intro v7 w7 ho7 hg7
             have HO7 := Lib.hid ho7
             have HB7 : Hid (Below w.heap.size w w7) := Lib.hid (hB6.grown hg7 (by omega) (fun j e => (HO6.out.lt j e).1))
             clear ho7 hg7))
        go_ret2
        refine ⟨_, rfl, ?_, HB7.out⟩
        rw [hPK.out]
        have := HO7.out
        unfold ownK
        rw [bks_append, bks_snoc, List.length_append, List.length_append]
        exact this
      · have hE : putE l i d.size = 5 := by unfold putE; rw [if_neg (by rw [hok]; simp), if_neg (by omega), if_pos hds]
        have hPR : putR l i d = [] := by unfold putR; rw [if_neg (by rw [hE]; omega)]
        rw [hE, hPR]
        have g3 : ((d.size : Int) == 16) = false := beq_eq_false_iff_ne.2 (by omega)
        have x0 := k1.cell 0
        simp only [List.getElem?_cons_zero] at x0
        have hlx := k1.lt
        clear hw1 k1 hE hPR hc0
        go_enter Tryz.func51, Tryz.ntmps51
        go_wp2_with fail
        rw [HW.out]
        refine HC.out.mono ?_
        rintro e w2 ⟨rfl, hB2⟩
        have y0 := (hB2.cell (p := ⟨w.heap.size, 0, none⟩) hlx).trans x0
        go_wp2_with fail
        refine (isIndex_any i w2).mono ?_
        rintro e w2' ⟨rfl, rfl⟩
        rw [hxb]
        go_wp2
        go_ret2
        exact ⟨_, rfl, ownNone _ _ _ _, hB1.trans (hB2.mono hB1.size)⟩
    · have hE : putE l i d.size = 4 := by unfold putE; rw [if_neg (by rw [hok]; simp), if_pos (by omega)]
      have hPR : putR l i d = [] := by unfold putR; rw [if_neg (by rw [hE]; omega)]
      rw [hE, hPR]
      have hxb : (decide (0 ≤ i) && decide (i < 1024)) = false := by
        rcases hb : (decide (0 ≤ i) && decide (i < 1024)) with _ | _
        · rfl
        · exact absurd ((bool_int0 i).1 hb) hix
      have x0 := k1.cell 0
      simp only [List.getElem?_cons_zero] at x0
      have hlx := k1.lt
      clear hw1 k1 hE hPR hc0
      go_enter Tryz.func51, Tryz.ntmps51
      go_wp2_with fail
      rw [HW.out]
      refine HC.out.mono ?_
      rintro e w2 ⟨rfl, hB2⟩
      have y0 := (hB2.cell (p := ⟨w.heap.size, 0, none⟩) hlx).trans x0
      go_wp2_with fail
      refine (isIndex_any i w2).mono ?_
      rintro e w2' ⟨rfl, rfl⟩
      rw [hxb]
      go_wp2
      go_ret2
      exact ⟨_, rfl, ownNone _ _ _ _, hB1.trans (hB2.mono hB1.size)⟩
  · have hc0 : chkK l = 9 := by unfold chkK; rw [if_neg hok]
    have hE : putE l i d.size = 9 := by unfold putE; rw [if_pos ((Bool.not_eq_true _).mp hok)]
    have hPR : putR l i d = [] := by unfold putR; rw [if_neg (by rw [hE]; omega)]
    rw [hE, hPR]
    rw [hc0] at HC
    clear hw1 k1 hE hPR hc0
    go_enter Tryz.func51, Tryz.ntmps51
    go_wp2_with fail
    rw [HW.out]
    refine HC.out.mono ?_
    rintro e w2 ⟨rfl, hB2⟩
    go_wp2
    go_ret2
    exact ⟨_, rfl, ownNone _ _ _ _, hB1.trans (hB2.mono hB1.size)⟩

end Go.Proofs.YtnioelkibghplaaGreat
