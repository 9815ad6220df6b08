/-
  blocks: Check, isIndex; strings.Clone. Conditions: the lists are as they come in.
-/
import Derived.Test.YtoabkbnhdekbdaaGreatMBLM
import Derived.Test.YtoabkbnhdekbdaaGreatMRSM
import Derived.Test.YtoabkbnhdekbdaaGreatMGO
import Derived.Test.YtoabkbnhdekbdaaGreatMRL
import Derived.Test.YtoabkbnhdekbdaaGreatShelf
import Derived.LoopTactic
import Derived.Lib.Hide
import Derived.IntWalk
import Derived.RegionTactic
import Derived.BigQuiet
import Derived.Deep.QuietTactic
import Derived.Laws.StructEq
namespace Go.Proofs.YtoabkbnhdekbdaaGreat
open Go.ChangeShapes Go.WideShapes Go.ChangeAt Go.RowKit
set_option maxRecDepth 100000
theorem isIndex_any (n : Int) (w : World) :
    Calls Tryz.prog 97 #[.int .i64 n] w fun e w' => e = .returned (.bool (decide (0 ≤ n) && decide (n < 1024))) ∧ w' = w := by
  by_cases h1 : 0 ≤ n
  · by_cases h2 : n < 1024
    · rw [decide_eq_true h1, decide_eq_true h2]
      go_enter Tryz.func97, Tryz.ntmps97
      go_wp2
      go_ret
      exact ⟨rfl, rfl⟩
    · rw [decide_eq_true h1, decide_eq_false h2]
      go_enter Tryz.func97, Tryz.ntmps97
      go_wp2
      go_ret
      exact ⟨rfl, rfl⟩
  · rw [decide_eq_false h1]
    go_enter Tryz.func97, Tryz.ntmps97
    go_wp2
    go_ret
    exact ⟨rfl, rfl⟩
theorem cloneT_any (s : ByteArray) (hl : s.size ≤ 281474976710656) (w : World) :
    Calls Tryz.prog 87 #[.string s] w fun e w' => e = .returned (.string s) ∧ Below w.heap.size w w' := by
  go_enter Tryz.func87, Tryz.ntmps87
  go_wp2_with (refine (Tryz.stringslite_Clone _ _ hl).mono ?_; rintro e w' ⟨rfl, hB⟩)
  go_ret
  exact ⟨rfl, hB⟩
theorem infoBk : (Tryz.prog.info? 103).map (fun i => (i.zero, i.size, i.bytes)) = some (some (.agg #[.int .i64 0, .string ByteArray.empty]), 2, 24) := by kernel_rfl
theorem filter_le {α : Type} (p : α → Bool) (l : List α) (k : Nat) : ((l.take k).filter p).length ≤ k :=
  Nat.le_trans (List.length_filter_le _ _) (by rw [List.length_take]; omega)
set_option maxHeartbeats 1000000 in
theorem those_any (gf : Nat) (lb : Array Value) (eg : Enters Tryz.prog gf) (p : Int → Bool) (A : Option Addr) (c n : Nat) (l : List Bk) (hn : l.length = n) (hl : n ≤ 4398046511104) (hf : ∀ x ∈ l, x.2.size ≤ 140737488351232) (w : World)
    (hp : ∀ W i, Below w.heap.size w W → Calls Tryz.prog gf (#[.int .i64 i] ++ lb) W fun e W' => e = .returned (.bool (p i)) ∧ Below W.heap.size W W') (hr : Rd w A (bks l)) :
    Calls Tryz.prog 98 #[.slice A n c, .func (.func gf) #[] lb] w fun e w' => ∃ v, e = .returned v ∧ w'.ownsRow w.heap.size 103 2 v (l.filter (fun x => p x.1)).length (bks (l.filter (fun x => p x.1))) ∧ Below w.heap.size w w' := by
  subst hn
  obtain ⟨i0, hi, hz0, hz1, hz2⟩ := infoParts infoBk
  have eg' : ∀ args w, (callFunc gf args).run Tryz.prog w = .ok (.enter gf args) w := eg
  obtain ⟨q, hq⟩ : ∃ q : Bk → Bool, (fun x : Bk => p x.1) = q := ⟨_, rfl⟩
  have hqx : ∀ x : Bk, p x.1 = q x := fun x => by rw [← hq]
  rw [hq]
  clear hq
  go_enter Tryz.func98, Tryz.ntmps98
  go_wp2
  go_loopw [5, 10] (fun v j W => ∃ k : Nat, k ≤ l.length ∧ j = .int .i64 k ∧ Hid (W.ownsRow w.heap.size 103 2 v ((l.take k).filter q).length (bks ((l.take k).filter q))) ∧ Below w.heap.size w W) (fun _ j _ => l.length - (intOf j).toNat)
  case atStart => exact ⟨0, Nat.zero_le _, rfl, Lib.hid (ownNone _ _ _ _), Below.refl _ _⟩
  case round =>
    obtain ⟨k, hk, rfl, HO, hB⟩ := hrel
    obtain ⟨Av, cv, hv, _, _, _, _⟩ := ownAny HO.out
    subst hv
    by_cases hlt : k < l.length
    · obtain ⟨x, hx⟩ : ∃ x, l[k]? = some x := ⟨l[k], qZa hlt⟩
      obtain ⟨b, off, rfl, hb, hc0, hc1⟩ := (Rd.below hr hB).bk hx
      have hks : x.2.size ≤ 140737488351232 := hf x (List.mem_of_getElem? hx)
      obtain ⟨w1, hw1⟩ : ∃ w1, wr.alloc (.cells #[.int .i64 x.1, .string x.2] 103) = w1 := ⟨_, rfl⟩
      have hB1 : Below wr.heap.size wr w1 := hw1 ▸ (Below.refl _ wr).alloc (Nat.le_refl _) _
      have k1 : Blk w1 wr.heap.size 103 [.int .i64 x.1, .string x.2] := hw1 ▸ Blk.new wr _ _
      have x0 := k1.cell 0
      simp only [List.getElem?_cons_zero] at x0
      have HP := Lib.hid (hp w1 x.1 (hB.trans (hB1.mono hB.size)))
      have HK := Lib.hid k1
      have HW := Lib.hid hw1
      have HTK : Hid ((l.take (k + 1)).filter q = (l.take k).filter q ++ (if q x then [x] else [])) := Lib.hid (by
        rw [List.take_add_one, hx, List.filter_append]
        simp [List.filter_cons])
      have hfl := filter_le q l k
      clear hx k1 hw1
      go_wp2_with fail
      rw [HW.out]
      refine HP.out.mono ?_
      rintro e w2 ⟨rfl, hB2⟩
      have hB12 : Below wr.heap.size wr w2 := hB1.trans (hB2.mono hB1.size)
      have K2 := Lib.hid (HK.out.below hB2 HK.out.lt)
      have hB02 := hB.trans (hB12.mono hB.size)
      have HO2 := Lib.hid (ownBelow HO.out hB12 (Nat.le_refl _))
      rw [hqx]
      clear HP HK x0 HW
      rcases hqq : q x with _ | _
      · have HO' : Hid (w2.ownsRow w.heap.size 103 2 (.slice Av ((l.take k).filter q).length cv) ((l.take (k + 1)).filter q).length (bks ((l.take (k + 1)).filter q))) := Lib.hid (by
          rw [HTK.out, hqq]
          simpa using HO2.out)
        clear HO2 HTK hqq
        go_wp2
        go_roundw
        case rel => exact ⟨k + 1, by omega, by go_num, HO', hB02⟩
        case measure => simp [intOf]; omega
      · have HTK' : Hid ((l.take (k + 1)).filter q = (l.take k).filter q ++ [x]) := Lib.hid (by rw [HTK.out, hqq]; rfl)
        clear HTK hqq
        have hS0 : Hid (∀ W', Below w2.heap.size w2 W' → W'.cell? ⟨wr.heap.size, 0, none⟩ = some (.int .i64 x.1) ∧ W'.cell? ⟨wr.heap.size, 1, none⟩ = some (.string x.2)) := Lib.hid fun W' hB' => by
          have h := K2.out.below hB' K2.out.lt
          exact ⟨h.cell 0, h.cell 1⟩
        have hBd : Below w2.heap.size w2 w2.drew := (Below.refl _ _).drew
        go_wp2_with fail
        refine wp_region_noPanic ?_
        refine wp_region_last 8 (fun W' => W'.cell? ⟨wr.heap.size, 0, none⟩ = some (.int .i64 x.1) ∧ W'.cell? ⟨wr.heap.size, 1, none⟩ = some (.string x.2)) (by kernel_rfl) (hS0.out _ hBd) (fun hHeld => ?_)
        refine tkA 12 (i := 0) (oi := ⟨some 18, _, _, _, _, _⟩) rfl hHeld ?_
        try simp only [Act.put, pZa, pZb, pZc]
        refine tkA 12 (i := 1) (oi := ⟨some 19, _, _, _, _, _⟩) rfl hHeld ?_
        try simp only [Act.put, pZa, pZb, pZc]
        refine tkA 12 (i := 2) (oi := ⟨some 20, _, _, _, _, _⟩) rfl hHeld ?_
        try simp only [Act.put, pZa, pZb, pZc]
        refine tkA 12 (i := 3) (oi := ⟨some 21, _, _, _, _, _⟩) rfl hHeld ?_
        try simp only [Act.put, pZa, pZb, pZc]
        refine tkA 12 (i := 4) (oi := ⟨some 22, _, _, _, _, _⟩) rfl hHeld ?_
        try simp only [Act.put, pZa, pZb, pZc]
        refine wpAnyL_one (i := 5) (o := ⟨some 23, _, _, _, _, _⟩) (by kernel_rfl) rfl (fun K hK => ?_)
        clear hHeld
        go_simp
        refine (cloneT_any x.2 (by omega) _).mono ?_
        rintro e w3 ⟨rfl, hB3⟩
        have hB3 : Below w2.heap.size w2 w3 := hBd.trans (hB3.mono hBd.size)
        go_wp2_with fail
        refine hK.out _ _ (hS0.out _ hB3) (fun hHeld => ?_)
        clear hK K
        try simp only [Act.put, pZa, pZb, pZc]
        refine tkA 12 (i := 6) (oi := ⟨some 24, _, _, _, _, _⟩) rfl hHeld ?_
        try simp only [Act.put, pZa, pZb, pZc]
        refine wpAnyL_one (i := 7) (o := ⟨some 25, _, _, _, _, _⟩) (by kernel_rfl) rfl (fun K hK => ?_)
        clear hHeld
        go_simp
        have hB4 : Below w2.heap.size w2 (w3.alloc (.cells #[.int .i64 x.1, .string x.2] 103)) := hB3.alloc hB3.size _
        go_wp2_with fail
        refine hK.out _ _ (hS0.out _ hB4) (fun hHeld => ?_)
        clear hK K
        try simp only [Act.put, pZa, pZb, pZc]
        refine wpAnyL_last (i := 8) (o := ⟨some 26, _, _, _, _, _⟩) (by kernel_rfl) rfl (by kernel_rfl) (fun K hK => ?_)
        clear hHeld
        refine step_append_lies (o := ⟨some 26, _, _, _, _, _⟩) _ (by rfl) _ _ 45 (by rfl) w.heap.size 103 i0 (.agg #[.int .i64 0, .string ByteArray.empty]) 2 24 Tryz.underlying45 hi hz0 hz1 hz2 rfl (by omega) (.slice Av ((l.take k).filter q).length cv) ((l.take k).filter q).length (bks ((l.take k).filter q)) (by rfl) (ownBelow HO2.out hB4 (Nat.le_refl _)) ⟨w3.heap.size, 0, none⟩ 1 1 [.int .i64 x.1, .string x.2] (by rfl) rfl (newsNew _ _ _) (by simp [Value.oneCell']) (by omega) (by unfold maxLen; omega) (by omega) (by have := hB3.size; have := hB02.size; simp; omega) _ rfl ?_
        intro g6 c6 x6 ho6 hg6 hg6' hl6
        have hB6 : Below w.heap.size w x6 := (hB02.trans (hB4.mono hB02.size)).grown hg6 (by have := hB3.size; have := hB02.size; simp; omega) (fun j e => (HO2.out.lt j e).1)
        have HO6 := Lib.hid ho6
        clear ho6 hg6
        refine hK.out _ _ ?_
        clear hK K
        try simp only [Act.put, pZa, pZb, pZc]
        refine wpAnyL_takeW (i := 9) (oi := ⟨some 5, _, _, _, _, _⟩) (v := ?_) rfl (by kernel_rfl) (by kernel_rfl) (by kernel_rfl) (by kernel_rfl) (fun _ _ _ h => h) (Or.inl ⟨by rfl, ?_⟩) (.inl (by kernel_rfl)) ?_
        rotate_left
        focus (intro w hSw; (try dsimp only at hSw); go_simp; try (with_reducible rfl))
        try simp only [Act.put, pZa, pZb, pZc]
        refine wpAnyL_done (by kernel_rfl) ?_ _
        refine NoPanic.normal ?_
        go_wp2_with fail
        go_roundw
        case rel => exact ⟨k + 1, by omega, by go_num, Lib.hid (by rw [HTK'.out, bks_snoc, List.length_append]; exact HO6.out), hB6⟩
        case measure => simp [intOf]; omega
    · obtain rfl : k = l.length := by omega
      have HO' : Hid (wr.ownsRow w.heap.size 103 2 (.slice Av ((l.take l.length).filter q).length cv) (l.filter q).length (bks (l.filter q))) := Lib.hid (by have := HO.out; rw [List.take_length] at this ⊢; exact this)
      clear HO
      go_wp2
      go_ret
      exact ⟨_, rfl, HO'.out, hB⟩
set_option maxHeartbeats 2000000
theorem put1_any (B : Nat) (i j : Int) (w : World) (h0 : w.cell? ⟨B, 0, none⟩ = some (.int .i64 i)) :
    Calls Tryz.prog 99 (#[.int .i64 j] ++ #[.pointer (some ⟨B, 0, none⟩)]) w fun e w' => e = .returned (.bool (decide (j < i))) ∧ Below w.heap.size w w' := by
  go_enter Tryz.func99, Tryz.ntmps99
  go_wp2
  go_ret
  exact ⟨rfl, Below.refl _ _⟩
theorem put2_any (B : Nat) (i j : Int) (w : World) (h0 : w.cell? ⟨B, 0, none⟩ = some (.int .i64 i)) :
    Calls Tryz.prog 100 (#[.int .i64 j] ++ #[.pointer (some ⟨B, 0, none⟩)]) w fun e w' => e = .returned (.bool (decide (i < j))) ∧ Below w.heap.size w w' := by
  go_enter Tryz.func100, Tryz.ntmps100
  go_wp2
  go_ret
  exact ⟨rfl, Below.refl _ _⟩
theorem free1_any (B C : Nat) (i c j : Int) (hi : 0 ≤ i ∧ i < 1024) (hc : 1 ≤ c ∧ c ≤ 1024) (w : World) (h0 : w.cell? ⟨B, 0, none⟩ = some (.int .i64 i)) (h1 : w.cell? ⟨C, 0, none⟩ = some (.int .i64 c)) :
    Calls Tryz.prog 108 (#[.int .i64 j] ++ #[.pointer (some ⟨B, 0, none⟩), .pointer (some ⟨C, 0, none⟩)]) w fun e w' => e = .returned (.bool (decide (j < i) || decide (i + c ≤ j))) ∧ Below w.heap.size w w' := by
  have hw1 : wrap64 (i + c) = i + c := IntWalk.wrap64_in _ (by omega)
  by_cases h : j < i
  · rw [decide_eq_true h]
    go_enter Tryz.func108, Tryz.ntmps108
    go_wp2
    go_ret
    exact ⟨rfl, Below.refl _ _⟩
  · rw [decide_eq_false h]
    go_enter Tryz.func108, Tryz.ntmps108
    go_wp2
    go_ret
    exact ⟨rfl, Below.refl _ _⟩
def putR (l : List Bk) (i : Int) (d : ByteArray) : List Bk := if putE l i d.size = 0 then putK l i d else []
def freeR (l : List Bk) (i c : Int) : List Bk := if freeE l i c = 0 then freeK l i c else []
abbrev ansK (v : Value) (e : Int) : Value := .tuple #[v, .int .i64 e]
abbrev ownK (w : World) (base : Nat) (v : Value) (l : List Bk) : Prop := w.ownsRow base 103 2 v l.length (bks l)
theorem bool_int0 (n : Int) : (decide (0 ≤ n) && decide (n < 1024)) = true ↔ 0 ≤ n ∧ n < 1024 := by simp
theorem blkPut_any (A : Option Addr) (c n : Nat) (l : List Bk) (hn : l.length = n) (hl : n ≤ 5864062014805) (hf : ∀ x ∈ l, x.2.size ≤ 140737488351232) (i : Int) (d : ByteArray) (_hd : d.size ≤ 140737488351232) (w : World) (hr : Rd w A (bks l)) :
    Calls Tryz.prog 44 #[.slice A n c, .int .i64 i, .string d] w fun e w' => ∃ v, e = .returned (ansK v (putE l i d.size)) ∧ ownK w' w.heap.size v (putR l i d) ∧ Below w.heap.size w w' := by
  subst hn
  obtain ⟨i0, hi, hz0, hz1, hz2⟩ := infoParts infoBk
  obtain ⟨w1, hw1⟩ : ∃ w1, w.alloc (.cells #[.int .i64 i] 3) = w1 := ⟨_, rfl⟩
  have hB1 : Below w.heap.size w w1 := hw1 ▸ (Below.refl _ w).alloc (Nat.le_refl _) _
  have k1 : Blk w1 w.heap.size 3 [.int .i64 i] := hw1 ▸ Blk.new w _ _
  have HC := Lib.hid (blkCheck_any A c l.length l rfl (by omega) hf w1 (hr.below hB1))
  have HW := Lib.hid hw1
  by_cases hok : okK l = true
  · have hc0 : chkK l = 0 := by unfold chkK; rw [if_pos hok]
    rw [hc0] at HC
    by_cases hix : 0 ≤ i ∧ i < 1024
    · have hxb := (bool_int0 i).2 hix
      by_cases hds : d.size = 16
      · have hE : putE l i d.size = 0 := by unfold putE; rw [if_neg (by rw [hok]; simp), if_neg (by omega), if_neg (by omega)]
        have hPR : putR l i d = putK l i d := by unfold putR; rw [if_pos hE]
        rw [hE, hPR]
        have g3 : ((d.size : Int) == 16) = true := beq_iff_eq.2 (by omega)
        have HT1 := Lib.hid fun (W : World) (hB : Below w1.heap.size w1 W) => those_any 99 #[.pointer (some ⟨w.heap.size, 0, none⟩)] (enters_of Tryz.func99 (by kernel_rfl) rfl) (fun j => decide (j < i)) A c l.length l rfl (by have := okK_len hok; omega) hf W
          (fun W' j hB' => put1_any w.heap.size i j W' (((k1.below hB k1.lt).below hB' (Nat.lt_of_lt_of_le k1.lt hB.size)).cell 0)) ((hr.below hB1).below hB)
        have HT2 := Lib.hid fun (W : World) (hB : Below w1.heap.size w1 W) => those_any 100 #[.pointer (some ⟨w.heap.size, 0, none⟩)] (enters_of Tryz.func100 (by kernel_rfl) rfl) (fun j => decide (i < j)) A c l.length l rfl (by have := okK_len hok; omega) hf W
          (fun W' j hB' => put2_any w.heap.size i j W' (((k1.below hB k1.lt).below hB' (Nat.lt_of_lt_of_le k1.lt hB.size)).cell 0)) ((hr.below hB1).below hB)
        have HK1 := Lib.hid k1
        have x0 := k1.cell 0
        simp only [List.getElem?_cons_zero] at x0
        have hlx := k1.lt
        obtain ⟨l1, hl1⟩ : ∃ l1, l.filter (fun x => decide (x.1 < i)) = l1 := ⟨_, rfl⟩
        obtain ⟨l2, hl2⟩ : ∃ l2, l.filter (fun x => decide (i < x.1)) = l2 := ⟨_, rfl⟩
        have hPK : Hid (putK l i d = l1 ++ [(i, d)] ++ l2) := Lib.hid (by rw [putK, hl1, hl2])
        rw [hl1] at HT1
        rw [hl2] at HT2
        have hln := okK_len hok
        have hl1n : l1.length ≤ 1024 := by rw [← hl1]; exact Nat.le_trans (List.length_filter_le _ _) hln
        have hl2n : l2.length ≤ 1024 := by rw [← hl2]; exact Nat.le_trans (List.length_filter_le _ _) hln
        clear hw1 k1 hE hPR hl1 hl2 hc0
        go_enter Tryz.func44, Tryz.ntmps44
        go_wp2_with fail
        rw [HW.out]
        refine HC.out.mono ?_
        rintro e w2 ⟨rfl, hB2⟩
        have y0 := (hB2.cell (p := ⟨w.heap.size, 0, none⟩) hlx).trans x0
        go_wp2_with fail
        refine (isIndex_any i w2).mono ?_
        rintro e w2' ⟨rfl, rfl⟩
        rw [hxb]
        go_wp2_with fail
        refine (HT1.out w2' hB2).mono ?_
        rintro e w3 ⟨v1, rfl, ho1, hB3⟩
        obtain ⟨A1, c1, rfl, hc1, hn1, hr1, _⟩ := ownAny ho1
        have HO1 := Lib.hid ho1
        have hB13 := hB2.trans (hB3.mono hB2.size)
        clear ho1 HC
        go_wp2_with fail
        refine (HT2.out w3 hB13).mono ?_
        rintro e w4 ⟨v2, rfl, ho2, hB4⟩
        obtain ⟨A2, c2, rfl, hc2, hn2, hr2, _⟩ := ownAny ho2
        have HO2 := Lib.hid ho2
        have hB14 := hB13.trans (hB4.mono hB13.size)
        have z0 := (hB14.cell (p := ⟨w.heap.size, 0, none⟩) hlx).trans x0
        have hlx4 := Nat.lt_of_lt_of_le hlx hB14.size
        clear ho2 HT1 HT2 hxb
        go_wp2_with fail
        refine wp_region_noPanic ?_
        refine wp_region_last 5 (fun W' => W'.cell? ⟨w.heap.size, 0, none⟩ = some (.int .i64 i)) (by kernel_rfl) z0 (fun hHeld => ?_)
        refine tkA 16 (i := 0) (oi := ⟨some 29, _, _, _, _, _⟩) rfl hHeld ?_
        try simp only [Act.put, pZa, pZb, pZc]
        refine tkA 16 (i := 1) (oi := ⟨some 30, _, _, _, _, _⟩) rfl hHeld ?_
        try simp only [Act.put, pZa, pZb, pZc]
        clear hHeld
        refine wpAnyL_facts 16 3 1 [(2, 31), (3, 32), (4, 11)] (fun s v w => match s with
          | 31 => v = .string d
          | 32 => v = .agg #[.int .i64 i, .string d]
          | 11 => ∃ X, v = .pointer (some ⟨X, 0, none⟩) ∧ w4.heap.size ≤ X ∧ Blk w X 103 [.int .i64 0, .string ByteArray.empty]
          | _ => True) (fun w w' => Below w.heap.size w w') (by kernel_rfl) (by kernel_rfl) bZh ⟨?_, ?_, ?_, trivial⟩ (fun w' hB => (hB.cell (p := ⟨w.heap.size, 0, none⟩) hlx4).trans z0) ⟨?_, ?_, ?_, trivial⟩ ?_
        focus
          intro v w w' h hB
          exact h
        focus
          intro v w w' h hB
          exact h
        focus
          intro v w w' h hB
          exact (by obtain ⟨X, e, hX, hb⟩ := h; exact ⟨X, e, hX, hb.below hB hb.lt⟩)
        focus
          intro vs w2 hBf hFf o ho K hK
          obtain rfl : (⟨some 31, _, _, _, _, _⟩ : Oper) = o := Option.some.inj ho
          clear ho
          (try simp only [fillL, pZd, pZe, Act.put, pZa, pZb, pZc] at hK ⊢)
          go_simp
          refine (cloneT_any d (by omega) w2).mono ?_
          rintro e w3 ⟨rfl, hB9⟩
          refine hK.out _ _ ⟨rfl, hB9⟩
        focus
          intro vs w2 hBf hFf o ho K hK
          obtain rfl : (⟨some 32, _, _, _, _, _⟩ : Oper) = o := Option.some.inj ho
          clear ho
          (try simp only [fillL, pZd, pZe, Act.put, pZa, pZb, pZc] at hK ⊢)
          have e1 : vs 31 = .string d := (hFf (2, 31) (by simp) (by kernel_rfl))
          simp only [e1] at hK ⊢
          go_simp
          refine hK.out _ _ ⟨rfl, Below.refl _ _⟩
        focus
          intro vs w2 hBf hFf o ho K hK
          obtain rfl : (⟨some 11, _, _, _, _, _⟩ : Oper) = o := Option.some.inj ho
          clear ho
          (try simp only [fillL, pZd, pZe, Act.put, pZa, pZb, pZc] at hK ⊢)
          go_simp
          refine hK.out _ _ ⟨⟨_, rfl, hBf.size, Blk.new w2 [.int .i64 0, .string ByteArray.empty] 103⟩, (Below.refl _ _).alloc (Nat.le_refl _) _⟩
        intro vs w2 hBf hFf
        (try simp only [fillL, pZd, pZe, Act.put, pZa, pZb, pZc])
        have e1 : vs 32 = .agg #[.int .i64 i, .string d] := (hFf (3, 32) (by simp))
        obtain ⟨X, e4, hX, hKX⟩ := (hFf (4, 11) (by simp))
        simp only [e1, e4]
        have KX := Lib.hid hKX
        have fx0 := hKX.frozen 0
        have fx1 := hKX.frozen 1
        have cx0 := hKX.cell 0
        have cx1 := hKX.cell 1
        simp only [gZa, gZb] at cx0 cx1
        clear hKX
        refine wpAnyL_last (i := 5) (o := ⟨none, _, _, _, _, _⟩) (by kernel_rfl) rfl (by kernel_rfl) (fun K hK => ?_)
        go_simp
        go_wp2_with fail
        refine hK.out _ _ ?_
        clear hK K
        try simp only [Act.put, pZa, pZb, pZc]
        refine wpAnyL_done (by kernel_rfl) ?_ _
        refine NoPanic.normal ?_
        have k5 : Blk ((w2.setCell ⟨X, 0, none⟩ (.int .i64 i)).setCell ⟨X, 1, none⟩ (.string d)) X 103 [.int .i64 i, .string d] := (KX.out.set 0 _).set 1 _
        have hB5 : Below w4.heap.size w4 ((w2.setCell ⟨X, 0, none⟩ (.int .i64 i)).setCell ⟨X, 1, none⟩ (.string d)) := (((Below.refl _ w4).drew.trans hBf).setCell (p := ⟨X, 0, none⟩) hX _).setCell (p := ⟨X, 1, none⟩) hX _
        obtain ⟨w5, hw5⟩ : ∃ w5, (w2.setCell ⟨X, 0, none⟩ (.int .i64 i)).setCell ⟨X, 1, none⟩ (.string d) = w5 := ⟨_, rfl⟩
        rw [hw5] at k5 hB5 ⊢
        clear hw5 cx0 cx1 fx0 fx1 hFf e1 e4
        have hB45 := hB4.trans (hB5.mono hB4.size)
        have HO15 := Lib.hid (ownBelow (base' := w.heap.size) HO1.out hB45 (by have := hB1.size; have := hB2.size; omega))
        have HO25 := Lib.hid (ownBelow (base' := w3.heap.size) HO2.out hB5 (Nat.le_refl _))
        have x0' := k5.cell 0
        have x1' := k5.cell 1
        simp only [gZa, gZb] at x0' x1'
        have hs5 := hB5.size
        have hs45 := hB45.size
        have hs14 := hB14.size
        have hs1 := hB1.size
        have hs13 := hB13.size
        go_wp2_with (first
          | (at_builtin; refine wpList_append_own _ rfl _ _ 45 rfl w.heap.size 103 i0 (.agg #[.int .i64 0, .string ByteArray.empty]) 2 24 Tryz.underlying45 hi hz0 hz1 hz2 rfl (by decide) (.slice A1 l1.length c1) l1.length (bks l1) rfl (ownBelow HO15.out ((Below.refl _ _).alloc (Nat.le_refl _) _) (Nat.le_refl _)) ⟨w5.heap.size, 0, none⟩ 1 1 [.int .i64 i, .string d] rfl rfl (newsNew _ _ _) (by simp [Value.oneCell']) (by unfold maxLen; omega) (by omega) (by simp; omega) ?_
             intro v6 w6 ho6 hg6 _
             have hk6 : ∀ k, w3.heap.size ≤ k → k < w5.heap.size → w6.heap[k]? = w5.heap[k]? := fun k h1 h2 => (hg6.block k (by simp; omega) (fun e => by have := (HO1.out.lt k e.symm).2; omega)).trans (Below.heap_alloc _ _ k h2)
             have hB6 : Below w.heap.size w w6 := ((hB1.trans (hB14.mono hs1)).trans (hB5.mono (by omega))).trans (((Below.refl w.heap.size w5).alloc (by omega) _).grown hg6 (by simp; omega) (fun j e => by have := (HO1.out.lt j e).1; have := hB2.size; omega))
             have hs6 : w5.heap.size ≤ w6.heap.size := by have := hg6.size; simp at this; omega
             obtain ⟨A6, c6, rfl, _, _, _, _⟩ := ownAny ho6
             have HO6 := Lib.hid ho6
             have HR6 := Lib.hid ((RdN.of_own HO25.out).stays hs6 hk6)
             clear ho6 hg6)
          | (at_builtin; refine wpList_append_rdS rfl _ _ 45 rfl w.heap.size 103 i0 (.agg #[.int .i64 0, .string ByteArray.empty]) 2 24 Tryz.underlying45 hi hz0 hz1 hz2 rfl (by decide) (.slice A6 (l1.length + 1) c6) (l1.length + 1) (bks l1 ++ [.int .i64 i, .string d]) rfl HO6.out A2 l2.length c2 (bks l2) rfl (by rw [bks_length]; omega) HR6.out.1 hn2 (bks_one l2) (by unfold maxLen; omega) (by omega) (by omega) ?_
             intro v7 w7 ho7 hg7
             have HO7 := Lib.hid ho7
             have HB7 : Hid (Below w.heap.size w w7) := Lib.hid (hB6.grown hg7 (by omega) (fun j e => (HO6.out.lt j e).1))
             clear ho7 hg7))
        go_ret2
        refine ⟨_, rfl, ?_, HB7.out⟩
        rw [hPK.out]
        have := HO7.out
        unfold ownK
        rw [bks_append, bks_snoc, List.length_append, List.length_append]
        exact this
      · have hE : putE l i d.size = 5 := by unfold putE; rw [if_neg (by rw [hok]; simp), if_neg (by omega), if_pos hds]
        have hPR : putR l i d = [] := by unfold putR; rw [if_neg (by rw [hE]; omega)]
        rw [hE, hPR]
        have g3 : ((d.size : Int) == 16) = false := beq_eq_false_iff_ne.2 (by omega)
        have x0 := k1.cell 0
        simp only [List.getElem?_cons_zero] at x0
        have hlx := k1.lt
        clear hw1 k1 hE hPR hc0
        go_enter Tryz.func44, Tryz.ntmps44
        go_wp2_with fail
        rw [HW.out]
        refine HC.out.mono ?_
        rintro e w2 ⟨rfl, hB2⟩
        have y0 := (hB2.cell (p := ⟨w.heap.size, 0, none⟩) hlx).trans x0
        go_wp2_with fail
        refine (isIndex_any i w2).mono ?_
        rintro e w2' ⟨rfl, rfl⟩
        rw [hxb]
        go_wp2
        go_ret2
        exact ⟨_, rfl, ownNone _ _ _ _, hB1.trans (hB2.mono hB1.size)⟩
    · have hE : putE l i d.size = 4 := by unfold putE; rw [if_neg (by rw [hok]; simp), if_pos (by omega)]
      have hPR : putR l i d = [] := by unfold putR; rw [if_neg (by rw [hE]; omega)]
      rw [hE, hPR]
      have hxb : (decide (0 ≤ i) && decide (i < 1024)) = false := by
        rcases hb : (decide (0 ≤ i) && decide (i < 1024)) with _ | _
        · rfl
        · exact absurd ((bool_int0 i).1 hb) hix
      have x0 := k1.cell 0
      simp only [List.getElem?_cons_zero] at x0
      have hlx := k1.lt
      clear hw1 k1 hE hPR hc0
      go_enter Tryz.func44, Tryz.ntmps44
      go_wp2_with fail
      rw [HW.out]
      refine HC.out.mono ?_
      rintro e w2 ⟨rfl, hB2⟩
      have y0 := (hB2.cell (p := ⟨w.heap.size, 0, none⟩) hlx).trans x0
      go_wp2_with fail
      refine (isIndex_any i w2).mono ?_
      rintro e w2' ⟨rfl, rfl⟩
      rw [hxb]
      go_wp2
      go_ret2
      exact ⟨_, rfl, ownNone _ _ _ _, hB1.trans (hB2.mono hB1.size)⟩
  · have hc0 : chkK l = 9 := by unfold chkK; rw [if_neg hok]
    have hE : putE l i d.size = 9 := by unfold putE; rw [if_pos ((Bool.not_eq_true _).mp hok)]
    have hPR : putR l i d = [] := by unfold putR; rw [if_neg (by rw [hE]; omega)]
    rw [hE, hPR]
    rw [hc0] at HC
    clear hw1 k1 hE hPR hc0
    go_enter Tryz.func44, Tryz.ntmps44
    go_wp2_with fail
    rw [HW.out]
    refine HC.out.mono ?_
    rintro e w2 ⟨rfl, hB2⟩
    go_wp2
    go_ret2
    exact ⟨_, rfl, ownNone _ _ _ _, hB1.trans (hB2.mono hB1.size)⟩
theorem blkFree_any (A : Option Addr) (c n : Nat) (l : List Bk) (hn : l.length = n) (hl : n ≤ 5864062014805) (hf : ∀ x ∈ l, x.2.size ≤ 140737488351232) (i m : Int) (w : World) (hr : Rd w A (bks l)) :
    Calls Tryz.prog 53 #[.slice A n c, .int .i64 i, .int .i64 m] w fun e w' => ∃ v, e = .returned (ansK v (freeE l i m)) ∧ ownK w' w.heap.size v (freeR l i m) ∧ Below w.heap.size w w' := by
  subst hn
  obtain ⟨w1, hw1⟩ : ∃ w1, (w.alloc (.cells #[.int .i64 i] 3)).alloc (.cells #[.int .i64 m] 3) = w1 := ⟨_, rfl⟩
  have e1 : w1 = allocs w [([.int .i64 i], 3), ([.int .i64 m], 3)] := by rw [← hw1]; rfl
  have hB1 : Below w.heap.size w w1 := by rw [e1]; exact allocs_below _ _
  have k1 : Blk w1 w.heap.size 3 [.int .i64 i] := by rw [e1]; exact allocs_blk _ w 0 rfl
  have k2 : Blk w1 (w.heap.size + 1) 3 [.int .i64 m] := by rw [e1]; exact allocs_blk _ w 1 rfl
  have HC := Lib.hid (blkCheck_any A c l.length l rfl (by omega) hf w1 (hr.below hB1))
  have HW := Lib.hid hw1
  have x0 := k1.cell 0
  have x1 := k2.cell 0
  simp only [List.getElem?_cons_zero] at x0 x1
  have hlx := k1.lt
  have hly := k2.lt
  clear hw1 e1
  by_cases hok : okK l = true
  · have hc0 : chkK l = 0 := by unfold chkK; rw [if_pos hok]
    rw [hc0] at HC
    by_cases hix : 0 ≤ i ∧ i < 1024
    · have hxb := (bool_int0 i).2 hix
      have hw3 : wrap64 (1024 - i) = 1024 - i := IntWalk.wrap64_in _ (by omega)
      by_cases hm1 : m < 1
      · have hE : freeE l i m = 4 := by unfold freeE; rw [if_neg (by rw [hok]; simp), if_pos (by omega)]
        have hPR : freeR l i m = [] := by unfold freeR; rw [if_neg (by rw [hE]; omega)]
        rw [hE, hPR]
        clear k1 k2 hE hPR hc0
        go_enter Tryz.func53, Tryz.ntmps53
        go_wp2_with fail
        rw [HW.out]
        refine HC.out.mono ?_
        rintro e w2 ⟨rfl, hB2⟩
        have y0 := (hB2.cell (p := ⟨w.heap.size, 0, none⟩) hlx).trans x0
        have y1 := (hB2.cell (p := ⟨w.heap.size + 1, 0, none⟩) hly).trans x1
        go_wp2_with fail
        refine (isIndex_any i w2).mono ?_
        rintro e w2' ⟨rfl, rfl⟩
        rw [hxb]
        go_wp2
        go_ret2
        exact ⟨_, rfl, ownNone _ _ _ _, hB1.trans (hB2.mono hB1.size)⟩
      · by_cases hm2 : 1024 - i < m
        · have hE : freeE l i m = 4 := by unfold freeE; rw [if_neg (by rw [hok]; simp), if_pos (by omega)]
          have hPR : freeR l i m = [] := by unfold freeR; rw [if_neg (by rw [hE]; omega)]
          rw [hE, hPR]
          clear k1 k2 hE hPR hc0
          go_enter Tryz.func53, Tryz.ntmps53
          go_wp2_with fail
          rw [HW.out]
          refine HC.out.mono ?_
          rintro e w2 ⟨rfl, hB2⟩
          have y0 := (hB2.cell (p := ⟨w.heap.size, 0, none⟩) hlx).trans x0
          have y1 := (hB2.cell (p := ⟨w.heap.size + 1, 0, none⟩) hly).trans x1
          go_wp2_with fail
          refine (isIndex_any i w2).mono ?_
          rintro e w2' ⟨rfl, rfl⟩
          rw [hxb]
          go_wp2
          go_ret2
          exact ⟨_, rfl, ownNone _ _ _ _, hB1.trans (hB2.mono hB1.size)⟩
        · have hE : freeE l i m = 0 := by unfold freeE; rw [if_neg (by rw [hok]; simp), if_neg (by omega)]
          have hPR : freeR l i m = freeK l i m := by unfold freeR; rw [if_pos hE]
          rw [hE, hPR]
          have HT := Lib.hid fun (W : World) (hB : Below w1.heap.size w1 W) => those_any 108 #[.pointer (some ⟨w.heap.size, 0, none⟩), .pointer (some ⟨w.heap.size + 1, 0, none⟩)] (enters_of Tryz.func108 (by kernel_rfl) rfl) (fun j => decide (j < i) || decide (i + m ≤ j)) A c l.length l rfl (by have := okK_len hok; omega) hf W
            (fun W' j hB' => free1_any w.heap.size (w.heap.size + 1) i m j hix (by omega) W' (((k1.below hB k1.lt).below hB' (Nat.lt_of_lt_of_le k1.lt hB.size)).cell 0) (((k2.below hB k2.lt).below hB' (Nat.lt_of_lt_of_le k2.lt hB.size)).cell 0)) ((hr.below hB1).below hB)
          have hFK : Hid (l.filter (fun x => decide (x.1 < i) || decide (i + m ≤ x.1)) = freeK l i m) := Lib.hid rfl
          rw [hFK.out] at HT
          clear k1 k2 hE hPR hc0
          go_enter Tryz.func53, Tryz.ntmps53
          go_wp2_with fail
          rw [HW.out]
          refine HC.out.mono ?_
          rintro e w2 ⟨rfl, hB2⟩
          have y0 := (hB2.cell (p := ⟨w.heap.size, 0, none⟩) hlx).trans x0
          have y1 := (hB2.cell (p := ⟨w.heap.size + 1, 0, none⟩) hly).trans x1
          go_wp2_with fail
          refine (isIndex_any i w2).mono ?_
          rintro e w2' ⟨rfl, rfl⟩
          rw [hxb]
          go_wp2_with fail
          refine (HT.out w2' hB2).mono ?_
          rintro e w3 ⟨v1, rfl, ho1, hB3⟩
          have HO1 := Lib.hid ho1
          clear ho1 HT
          go_wp2
          go_ret2
          have hB12 := hB1.trans (hB2.mono hB1.size)
          exact ⟨_, rfl, ownBase HO1.out hB12.size, hB12.trans (hB3.mono hB12.size)⟩
    · have hE : freeE l i m = 4 := by unfold freeE; rw [if_neg (by rw [hok]; simp), if_pos (by omega)]
      have hPR : freeR l i m = [] := by unfold freeR; rw [if_neg (by rw [hE]; omega)]
      rw [hE, hPR]
      have hxb : (decide (0 ≤ i) && decide (i < 1024)) = false := by
        rcases hb : (decide (0 ≤ i) && decide (i < 1024)) with _ | _
        · rfl
        · exact absurd ((bool_int0 i).1 hb) hix
      clear k1 k2 hE hPR hc0
      go_enter Tryz.func53, Tryz.ntmps53
      go_wp2_with fail
      rw [HW.out]
      refine HC.out.mono ?_
      rintro e w2 ⟨rfl, hB2⟩
      have y0 := (hB2.cell (p := ⟨w.heap.size, 0, none⟩) hlx).trans x0
      go_wp2_with fail
      refine (isIndex_any i w2).mono ?_
      rintro e w2' ⟨rfl, rfl⟩
      rw [hxb]
      go_wp2
      go_ret2
      exact ⟨_, rfl, ownNone _ _ _ _, hB1.trans (hB2.mono hB1.size)⟩
  · have hc0 : chkK l = 9 := by unfold chkK; rw [if_neg hok]
    have hE : freeE l i m = 9 := by unfold freeE; rw [if_pos ((Bool.not_eq_true _).mp hok)]
    have hPR : freeR l i m = [] := by unfold freeR; rw [if_neg (by rw [hE]; omega)]
    rw [hE, hPR]
    rw [hc0] at HC
    clear k1 k2 hE hPR hc0
    go_enter Tryz.func53, Tryz.ntmps53
    go_wp2_with fail
    rw [HW.out]
    refine HC.out.mono ?_
    rintro e w2 ⟨rfl, hB2⟩
    go_wp2
    go_ret2
    exact ⟨_, rfl, ownNone _ _ _ _, hB1.trans (hB2.mono hB1.size)⟩
set_option maxHeartbeats 2000000 in
theorem refFree_any (A : Option Addr) (c n : Nat) (l : List Bk) (hn : l.length = n) (hl : n ≤ 5864062014805) (hf : ∀ x ∈ l, x.2.size ≤ 140737488351232) (i m : Int) (hm : -9223372036854775808 ≤ m ∧ m ≤ 9223372036854775807) (w : World) (hr : Rd w A (bks l)) :
    Calls Tryz.prog 48 #[.slice A n c, .int .i64 i, .int .i64 m] w fun e w' => ∃ v, e = .returned (ansK v (freeE l i m)) ∧ ownK w' w.heap.size v (freeR l i m) ∧ Below w.heap.size w w' := by
  subst hn
  obtain ⟨i0, hi, hz0, hz1, hz2⟩ := infoParts infoBk
  have HC := Lib.hid (refCheck_any A c l.length l rfl (by omega) hf w hr)
  by_cases hok : okK l = true
  · have hc0 : chkK l = 0 := by unfold chkK; rw [if_pos hok]
    rw [hc0] at HC
    by_cases hix : 0 ≤ i ∧ i < 1024
    · have hw3 : wrap64 (1024 - i) = 1024 - i := IntWalk.wrap64_in _ (by omega)
      have hi0 : ¬ i < 0 := by omega
      have hi1 : ¬ 1024 ≤ i := by omega
      by_cases hm1 : m < 1
      · have hE : freeE l i m = 4 := by unfold freeE; rw [if_neg (by rw [hok]; simp), if_pos (by omega)]
        have hPR : freeR l i m = [] := by unfold freeR; rw [if_neg (by rw [hE]; omega)]
        rw [hE, hPR]
        clear hE hPR hc0
        go_enter Tryz.func48, Tryz.ntmps48
        go_wp2_with fail
        refine HC.out.mono ?_
        rintro e w2 ⟨rfl, hB2⟩
        go_wp2
        go_ret2
        exact ⟨_, rfl, ownNone _ _ _ _, hB2⟩
      · by_cases hm2 : 1024 - i < m
        · have hE : freeE l i m = 4 := by unfold freeE; rw [if_neg (by rw [hok]; simp), if_pos (by omega)]
          have hPR : freeR l i m = [] := by unfold freeR; rw [if_neg (by rw [hE]; omega)]
          rw [hE, hPR]
          clear hE hPR hc0
          go_enter Tryz.func48, Tryz.ntmps48
          go_wp2_with fail
          refine HC.out.mono ?_
          rintro e w2 ⟨rfl, hB2⟩
          go_wp2
          go_ret2
          exact ⟨_, rfl, ownNone _ _ _ _, hB2⟩
        · have hE : freeE l i m = 0 := by unfold freeE; rw [if_neg (by rw [hok]; simp), if_neg (by omega)]
          have hPR : freeR l i m = freeK l i m := by unfold freeR; rw [if_pos hE]
          have hw4 : wrap64 (i + m) = i + m := IntWalk.wrap64_in _ (by omega)
          obtain ⟨q, hq⟩ : ∃ q : Bk → Bool, (fun x : Bk => decide (x.1 < i) || decide (i + m ≤ x.1)) = q := ⟨_, rfl⟩
          have hFK : freeK l i m = l.filter q := by rw [← hq]; rfl
          have HQ : Hid (∀ x : Bk, q x = (decide (x.1 < i) || decide (i + m ≤ x.1))) := Lib.hid fun x => by rw [← hq]
          rw [hE, hPR, hFK]
          clear hE hPR hc0 hFK hq
          go_enter Tryz.func48, Tryz.ntmps48
          go_wp2_with fail
          refine HC.out.mono ?_
          rintro e w2 ⟨rfl, hB2⟩
          clear HC
          go_wp2
          go_loopw [8, 9] (fun v j W => ∃ k : Nat, k ≤ l.length ∧ j = .int .i64 k ∧ Hid (ownK W w.heap.size v ((l.take k).filter q)) ∧ Below w.heap.size w W) (fun _ j _ => l.length - (intOf j).toNat)
          case atStart => exact ⟨0, Nat.zero_le _, rfl, Lib.hid (ownNone _ _ _ _), hB2⟩
          case round =>
            obtain ⟨k, hk, rfl, HO, hB⟩ := hrel
            obtain ⟨Av, cv, hv, _, _, _, _⟩ := ownAny HO.out
            subst hv
            by_cases hlt : k < l.length
            · obtain ⟨x, hx⟩ : ∃ x, l[k]? = some x := ⟨l[k], qZa hlt⟩
              obtain ⟨b, off, rfl, hb, hd0, hd1⟩ := (Rd.below hr hB).bk hx
              have HTK : Hid ((l.take (k + 1)).filter q = (l.take k).filter q ++ (if q x then [x] else [])) := Lib.hid (by
                rw [List.take_add_one, hx, List.filter_append]
                simp [List.filter_cons])
              have hfl := filter_le q l k
              clear hx
              have hBs := hB.size
              have keepArm : q x = true → (Hid (∀ x6 g6 c6, x6.ownsRow w.heap.size 103 2 (.slice (some ⟨g6, 0, none⟩) (((l.take k).filter q).length + 1) c6) (((l.take k).filter q).length + 1) (bks ((l.take k).filter q) ++ [.int .i64 x.1, .string x.2]) → ownK x6 w.heap.size (.slice (some ⟨g6, 0, none⟩) (((l.take k).filter q).length + 1) c6) ((l.take (k + 1)).filter q))) := fun hqx => Lib.hid fun x6 g6 c6 h => by
                rw [HTK.out, hqx]
                unfold ownK
                rw [if_pos rfl, bks_snoc, List.length_append]
                exact h
              by_cases h1 : x.1 < i
              · have KA := keepArm (by rw [HQ.out, decide_eq_true h1]; rfl)
                clear keepArm HTK
                go_wp2_with (first
                  | (at_builtin; refine wpList_append_lies _ rfl _ _ 45 rfl w.heap.size 103 i0 (.agg #[.int .i64 0, .string ByteArray.empty]) 2 24 Tryz.underlying45 hi hz0 hz1 hz2 rfl (by decide) (.slice Av ((l.take k).filter q).length cv) ((l.take k).filter q).length (bks ((l.take k).filter q)) rfl (ownBelow HO.out ((Below.refl _ _).alloc (Nat.le_refl _) _) (Nat.le_refl _)) ⟨wr.heap.size, 0, none⟩ 1 1 [.int .i64 x.1, .string x.2] rfl rfl (newsNew _ _ _) (by simp [Value.oneCell']) (by omega) (by unfold maxLen; omega) (by omega) (by simp; omega) _ rfl ?_
                     intro g6 c6 x6 ho6 hg6 _ _
                     have HB6 : Hid (Below w.heap.size w x6) := Lib.hid ((hB.alloc hBs _).grown hg6 (by simp; omega) (fun j e => (HO.out.lt j e).1))
                     have HO6 := Lib.hid (KA.out x6 g6 c6 ho6)
                     clear ho6 hg6))
                go_roundw
                case rel => exact ⟨k + 1, by omega, by go_num, HO6, HB6.out⟩
                case measure => simp [intOf]; omega
              · by_cases h2 : i + m ≤ x.1
                · have KA := keepArm (by rw [HQ.out, decide_eq_true h2, Bool.or_true])
                  clear keepArm HTK
                  go_wp2_with (first
                    | (at_builtin; refine wpList_append_lies _ rfl _ _ 45 rfl w.heap.size 103 i0 (.agg #[.int .i64 0, .string ByteArray.empty]) 2 24 Tryz.underlying45 hi hz0 hz1 hz2 rfl (by decide) (.slice Av ((l.take k).filter q).length cv) ((l.take k).filter q).length (bks ((l.take k).filter q)) rfl (ownBelow HO.out ((Below.refl _ _).alloc (Nat.le_refl _) _) (Nat.le_refl _)) ⟨wr.heap.size, 0, none⟩ 1 1 [.int .i64 x.1, .string x.2] rfl rfl (newsNew _ _ _) (by simp [Value.oneCell']) (by omega) (by unfold maxLen; omega) (by omega) (by simp; omega) _ rfl ?_
                       intro g6 c6 x6 ho6 hg6 _ _
                       have HB6 : Hid (Below w.heap.size w x6) := Lib.hid ((hB.alloc hBs _).grown hg6 (by simp; omega) (fun j e => (HO.out.lt j e).1))
                       have HO6 := Lib.hid (KA.out x6 g6 c6 ho6)
                       clear ho6 hg6))
                  go_roundw
                  case rel => exact ⟨k + 1, by omega, by go_num, HO6, HB6.out⟩
                  case measure => simp [intOf]; omega
                · have HO' : Hid (ownK wr w.heap.size (.slice Av ((l.take k).filter q).length cv) ((l.take (k + 1)).filter q)) := Lib.hid (by
                    rw [HTK.out, HQ.out, decide_eq_false h1, decide_eq_false h2]
                    simpa using HO.out)
                  clear keepArm HTK HO
                  go_wp2
                  go_roundw
                  case rel => exact ⟨k + 1, by omega, by go_num, HO', hB⟩
                  case measure => simp [intOf]; omega
            · obtain rfl : k = l.length := by omega
              have HO' : Hid (ownK wr w.heap.size (.slice Av ((l.take l.length).filter q).length cv) (l.filter q)) := Lib.hid (by have := HO.out; rw [List.take_length] at this ⊢; exact this)
              clear HO
              go_wp2
              go_ret2
              exact ⟨_, rfl, HO'.out, hB⟩
    · have hE : freeE l i m = 4 := by unfold freeE; rw [if_neg (by rw [hok]; simp), if_pos (by omega)]
      have hPR : freeR l i m = [] := by unfold freeR; rw [if_neg (by rw [hE]; omega)]
      rw [hE, hPR]
      clear hE hPR hc0
      by_cases hi0 : i < 0
      · go_enter Tryz.func48, Tryz.ntmps48
        go_wp2_with fail
        refine HC.out.mono ?_
        rintro e w2 ⟨rfl, hB2⟩
        go_wp2
        go_ret2
        exact ⟨_, rfl, ownNone _ _ _ _, hB2⟩
      · have hi1 : 1024 ≤ i := by omega
        go_enter Tryz.func48, Tryz.ntmps48
        go_wp2_with fail
        refine HC.out.mono ?_
        rintro e w2 ⟨rfl, hB2⟩
        go_wp2
        go_ret2
        exact ⟨_, rfl, ownNone _ _ _ _, hB2⟩
  · have hc0 : chkK l = 9 := by unfold chkK; rw [if_neg hok]
    have hE : freeE l i m = 9 := by unfold freeE; rw [if_pos ((Bool.not_eq_true _).mp hok)]
    have hPR : freeR l i m = [] := by unfold freeR; rw [if_neg (by rw [hE]; omega)]
    rw [hE, hPR]
    rw [hc0] at HC
    clear hE hPR hc0
    go_enter Tryz.func48, Tryz.ntmps48
    go_wp2_with fail
    refine HC.out.mono ?_
    rintro e w2 ⟨rfl, hB2⟩
    go_wp2
    go_ret2
    exact ⟨_, rfl, ownNone _ _ _ _, hB2⟩
theorem okF_drop {n : Int} : ∀ {l : List Bk}, okF n l = true → ∀ k x, l[k]? = some x → okF (x.1 + 1) (l.drop (k + 1)) = true
  | y :: r, h, 0, x, hx => by
    rw [okF_cons] at h
    simp at hx
    subst hx
    simpa using h.2.2.2
  | y :: r, h, k + 1, x, hx => by
    rw [okF_cons] at h
    simpa using okF_drop h.2.2.2 k x (by simpa using hx)
theorem part_at {l : List Bk} (h : okK l = true) (i : Int) (k : Nat) (h1 : ∀ x ∈ l.take k, x.1 < i) (h2 : ∀ x, l[k]? = some x → i ≤ x.1) :
    l.filter (fun x => decide (x.1 < i)) = l.take k ∧ l.filter (fun x => decide (i < x.1)) = (if (l[k]?.map Prod.fst) = some i then l.drop (k + 1) else l.drop k) := by
  have hs := List.take_append_drop k l
  have f1 : (l.take k).filter (fun x => decide (x.1 < i)) = l.take k := List.filter_eq_self.2 fun x hx => decide_eq_true (h1 x hx)
  have f2 : (l.take k).filter (fun x => decide (i < x.1)) = [] := List.filter_eq_nil_iff.2 fun x hx => by have := h1 x hx; simp; omega
  rcases hk : l[k]? with _ | x
  · have hd : l.drop k = [] := List.drop_eq_nil_of_le (List.getElem?_eq_none_iff.1 hk)
    constructor
    · conv => lhs; rw [← hs, List.filter_append, f1, hd]
      simp
    · conv => lhs; rw [← hs, List.filter_append, f2, hd]
      simp [hd]
  · have hx := h2 x hk
    have hd : l.drop k = x :: l.drop (k + 1) := dropB _ hk
    have hgt : ∀ y ∈ l.drop (k + 1), x.1 < y.1 := fun y hy => by have := (okF_le (okF_drop h k x hk) y hy).1; omega
    have g1 : (l.drop (k + 1)).filter (fun y => decide (y.1 < i)) = [] := List.filter_eq_nil_iff.2 fun y hy => by have := hgt y hy; simp; omega
    have g2 : (l.drop (k + 1)).filter (fun y => decide (i < y.1)) = l.drop (k + 1) := List.filter_eq_self.2 fun y hy => by have := hgt y hy; simp; omega
    constructor
    · conv => lhs; rw [← hs, List.filter_append, f1, hd, List.filter_cons, g1, decide_eq_false (show ¬ x.1 < i by omega)]
      simp
    · conv => lhs; rw [← hs, List.filter_append, f2, hd, List.filter_cons, g2]
      by_cases he : x.1 = i
      · rw [decide_eq_false (show ¬ i < x.1 by omega)]
        simp [he]
      · rw [decide_eq_true (show i < x.1 by omega)]
        simp [he, hd]
theorem Rd.drop2 {w : World} {A : Option Addr} {l : List Bk} (h : Rd w A (bks l)) (k c : Nat) (hc : l.length ≤ c) : Rd w (if c = k then A else Option.map (fun x => x.add (k * 2)) A) (bks (l.drop k)) := fun hne => by
  have hlt : k < l.length := by
    rcases Nat.lt_or_ge k l.length with h | h
    · exact h
    · rw [List.drop_eq_nil_of_le h] at hne; simp [bks] at hne
  obtain ⟨b, off, rfl, hb, hcl⟩ := h (bks_ne (by intro e; simp [e] at hlt))
  rw [if_neg (by omega)]
  refine ⟨b, off + k * 2, by simp [add_plain], hb, fun j u hu => ?_⟩
  rw [Nat.add_assoc]
  refine hcl (k * 2 + j) u ?_
  have hs : bks l = bks (l.take k) ++ bks (l.drop k) := by rw [← bks_append, List.take_append_drop]
  rw [hs, List.getElem?_append_right (by rw [bks_length, List.length_take]; omega), bks_length, List.length_take, Nat.min_eq_left (by omega), show k * 2 + j - 2 * k = j by omega]
  exact hu
set_option maxHeartbeats 2000000 in
theorem refPut_blk (A : Option Addr) (c n : Nat) (l : List Bk) (hn : l.length = n) (hl : n ≤ 5864062014805) (hcap : n ≤ c) (hA : A = none → c = 0) (hf : ∀ x ∈ l, x.2.size ≤ 140737488351232) (i : Int) (d : ByteArray) (_hd : d.size ≤ 140737488351232) (w : World) (hr : Rd w A (bks l)) :
    Calls Tryz.prog 47 #[.slice A n c, .int .i64 i, .string d] w fun e w' => ∃ v, e = .returned (ansK v (putE l i d.size)) ∧ ownK w' w.heap.size v (putR l i d) ∧ Below w.heap.size w w' := by
  subst hn
  obtain ⟨i0, hi, hz0, hz1, hz2⟩ := infoParts infoBk
  have HC := Lib.hid (refCheck_any A c l.length l rfl (by omega) hf w hr)
  by_cases hok : okK l = true
  · have hc0 : chkK l = 0 := by unfold chkK; rw [if_pos hok]
    rw [hc0] at HC
    by_cases hix : 0 ≤ i ∧ i < 1024
    · have hi0 : ¬ i < 0 := by omega
      have hi1 : ¬ 1024 ≤ i := by omega
      by_cases hds : d.size = 16
      · have hE : putE l i d.size = 0 := by unfold putE; rw [if_neg (by rw [hok]; simp), if_neg (by omega), if_neg (by omega)]
        have hPR : putR l i d = putK l i d := by unfold putR; rw [if_pos hE]
        rw [hE, hPR]
        have g3 : ((d.size : Int) == 16) = true := beq_iff_eq.2 (by omega)
        obtain ⟨R, hR⟩ : ∃ R, putK l i d = R := ⟨_, rfl⟩
        rw [hR]
        have hln := okK_len hok
        clear hE hPR hc0
        go_enter Tryz.func47, Tryz.ntmps47
        go_wp2_with fail
        refine HC.out.mono ?_
        rintro e w2 ⟨rfl, hB2⟩
        clear HC
        go_wp2
        clear g3
        go_loopw [8, 9] (fun v j W => ∃ k : Nat, k ≤ l.length ∧ j = .int .i64 k ∧ Hid (∀ x ∈ l.take k, x.1 < i) ∧ Hid (ownK W w.heap.size v (l.take k)) ∧ Below w.heap.size w W) (fun _ j _ => l.length - (intOf j).toNat)
        case atStart => exact ⟨0, Nat.zero_le _, rfl, Lib.hid (by simp), Lib.hid (ownNone _ _ _ _), hB2⟩
        case round =>
          obtain ⟨k, hk, rfl, HT, HO, hB⟩ := hrel
          have hlk : (l.take k).length = k := by rw [List.length_take]; omega
          have hBs := hB.size
          obtain ⟨Av, cv, hv, _, _, _, _⟩ := ownAny HO.out
          rw [hlk] at hv
          subst hv
          have HO' : Hid (wr.ownsRow w.heap.size 103 2 (.slice Av k cv) k (bks (l.take k))) := Lib.hid (by have := HO.out; unfold ownK at this; rw [hlk] at this; exact this)
          clear HO
          -- behind the loop: with it, and what comes behind
          have END : ∀ m : Nat, m ≤ l.length → (R = l.take k ++ [(i, d)] ++ l.drop m) → Hid (R = l.take k ++ [(i, d)] ++ l.drop m ∧ l.drop m = l.drop m) := fun m _ h => Lib.hid ⟨h, rfl⟩
          by_cases hlt : k < l.length
          · obtain ⟨x, hx⟩ : ∃ x, l[k]? = some x := ⟨l[k], qZa hlt⟩
            obtain ⟨b, off, rfl, hb, hq0, hq1⟩ := hr.bk hx
            have hd0 := (hB.cell (p := ⟨b, off + k * 2, none⟩) hb).trans hq0
            have hd1 := (hB.cell (p := ⟨b, off + k * 2 + 1, none⟩) hb).trans hq1
            by_cases h1 : x.1 < i
            · have HT' : Hid (∀ x ∈ l.take (k + 1), x.1 < i) := Lib.hid fun y hy => by
                rw [List.take_add_one, hx] at hy
                rcases List.mem_append.1 hy with hy | hy
                · exact HT.out y hy
                · simp at hy; subst hy; exact h1
              have KA : Hid (∀ x6 g6 c6, x6.ownsRow w.heap.size 103 2 (.slice (some ⟨g6, 0, none⟩) (k + 1) c6) (k + 1) (bks (l.take k) ++ [.int .i64 x.1, .string x.2]) → ownK x6 w.heap.size (.slice (some ⟨g6, 0, none⟩) (k + 1) c6) (l.take (k + 1))) := Lib.hid fun x6 g6 c6 h => by
                unfold ownK
                rw [List.take_add_one, hx, Option.toList_some, bks_snoc, List.length_append, hlk]
                exact h
              clear hx HT END hR
              go_wp2_with (first
                | (at_builtin; refine wpList_append_lies _ rfl _ _ 45 rfl w.heap.size 103 i0 (.agg #[.int .i64 0, .string ByteArray.empty]) 2 24 Tryz.underlying45 hi hz0 hz1 hz2 rfl (by decide) (.slice Av k cv) k (bks (l.take k)) rfl (ownBelow HO'.out ((Below.refl _ _).alloc (Nat.le_refl _) _) (Nat.le_refl _)) ⟨wr.heap.size, 0, none⟩ 1 1 [.int .i64 x.1, .string x.2] rfl rfl (newsNew _ _ _) (by simp [Value.oneCell']) (by omega) (by unfold maxLen; omega) (by omega) (by simp; omega) _ rfl ?_
                   intro g6 c6 x6 ho6 hg6 _ _
                   have HB6 : Hid (Below w.heap.size w x6) := Lib.hid ((hB.alloc hBs _).grown hg6 (by simp; omega) (fun j e => (HO'.out.lt j e).1))
                   have HO6 := Lib.hid (KA.out x6 g6 c6 ho6)
                   clear ho6 hg6))
              go_roundw
              case rel => exact ⟨k + 1, by omega, by go_num, HT', HO6, HB6.out⟩
              case measure => simp [intOf]; omega
            · have hpt := part_at hok i k HT.out (fun y hy => by rw [hx] at hy; injection hy with hy; subst hy; omega)
              have hmap : (l[k]?.map Prod.fst) = some x.1 := by rw [hx]; rfl
              rw [hmap] at hpt
              by_cases h2 : x.1 = i
              · rw [if_pos (by rw [h2])] at hpt
                have E := END (k + 1) (by omega) (by rw [← hR, putK, hpt.1, hpt.2])
                have h2b : (x.1 == i) = true := beq_iff_eq.2 h2
                have HRD := Lib.hid (hr.drop2 (k + 1) c hcap)
                clear END hR hpt hmap hx h2 HT
                go_wp2_with (first
                  | (at_builtin; refine wpList_append_own _ rfl _ _ 45 rfl w.heap.size 103 i0 (.agg #[.int .i64 0, .string ByteArray.empty]) 2 24 Tryz.underlying45 hi hz0 hz1 hz2 rfl (by decide) (.slice Av k cv) k (bks (l.take k)) rfl (ownBelow HO'.out ((Below.refl _ _).alloc (Nat.le_refl _) _) (Nat.le_refl _)) ⟨wr.heap.size, 0, none⟩ 1 1 [.int .i64 i, .string d] rfl rfl (newsNew _ _ _) (by simp [Value.oneCell']) (by unfold maxLen; omega) (by omega) (by simp; omega) ?_
                     intro v6 x6 ho6 hg6 _
                     have HB6 : Hid (Below w.heap.size w x6) := Lib.hid ((hB.alloc hBs _).grown hg6 (by simp; omega) (fun j e => (HO'.out.lt j e).1))
                     have he0 := (HB6.out.cell (p := ⟨b, off + k * 2, none⟩) hb).trans hq0
                     obtain ⟨A6, c6, rfl, _, _, _, _⟩ := ownAny ho6
                     have HO6 := Lib.hid ho6
                     clear ho6 hg6 hq0 hq1 hd0 hd1)
                  | (at_builtin; refine wpList_append_rdS rfl _ _ 45 rfl w.heap.size 103 i0 (.agg #[.int .i64 0, .string ByteArray.empty]) 2 24 Tryz.underlying45 hi hz0 hz1 hz2 rfl (by decide) (.slice A6 (k + 1) c6) (k + 1) (bks (l.take k) ++ [.int .i64 i, .string d]) rfl HO6.out _ _ _ (bks (l.drop (k + 1))) rfl (by rw [bks_length, List.length_drop]; omega) (HRD.out.below HB6.out) (fun e => by split at e <;> cases e) (bks_one _) (by unfold maxLen; omega) (by omega) HB6.out.size ?_
                     intro v7 w7 ho7 hg7
                     have HO7 := Lib.hid ho7
                     have HB7 : Hid (Below w.heap.size w w7) := Lib.hid (HB6.out.grown hg7 HB6.out.size (fun j e => (HO6.out.lt j e).1))
                     clear ho7 hg7))
                all_goals
                  go_ret2
                  refine ⟨_, rfl, ?_, HB7.out⟩
                  rw [E.out.1]
                  have := HO7.out
                  unfold ownK
                  rw [bks_append, bks_snoc, List.length_append, List.length_append, List.length_drop, hlk]
                  exact this
              · rw [if_neg (by simpa using h2)] at hpt
                have E := END k (by omega) (by rw [← hR, putK, hpt.1, hpt.2])
                have h2b : (x.1 == i) = false := beq_eq_false_iff_ne.2 h2
                have hrd := hr.drop2 k c hcap
                rw [if_neg (by omega), Option.map_some, add_plain] at hrd
                have HRD := Lib.hid hrd
                clear hrd
                clear END hR hpt hmap hx HT
                go_wp2_with (first
                  | (at_builtin; refine wpList_append_own _ rfl _ _ 45 rfl w.heap.size 103 i0 (.agg #[.int .i64 0, .string ByteArray.empty]) 2 24 Tryz.underlying45 hi hz0 hz1 hz2 rfl (by decide) (.slice Av k cv) k (bks (l.take k)) rfl (ownBelow HO'.out ((Below.refl _ _).alloc (Nat.le_refl _) _) (Nat.le_refl _)) ⟨wr.heap.size, 0, none⟩ 1 1 [.int .i64 i, .string d] rfl rfl (newsNew _ _ _) (by simp [Value.oneCell']) (by unfold maxLen; omega) (by omega) (by simp; omega) ?_
                     intro v6 x6 ho6 hg6 _
                     have HB6 : Hid (Below w.heap.size w x6) := Lib.hid ((hB.alloc hBs _).grown hg6 (by simp; omega) (fun j e => (HO'.out.lt j e).1))
                     have he0 := (HB6.out.cell (p := ⟨b, off + k * 2, none⟩) hb).trans hq0
                     obtain ⟨A6, c6, rfl, _, _, _, _⟩ := ownAny ho6
                     have HO6 := Lib.hid ho6
                     clear ho6 hg6 hq0 hq1 hd0 hd1)
                  | (at_builtin; refine wpList_append_rdS rfl _ _ 45 rfl w.heap.size 103 i0 (.agg #[.int .i64 0, .string ByteArray.empty]) 2 24 Tryz.underlying45 hi hz0 hz1 hz2 rfl (by decide) (.slice A6 (k + 1) c6) (k + 1) (bks (l.take k) ++ [.int .i64 i, .string d]) rfl HO6.out _ _ _ (bks (l.drop k)) rfl (by rw [bks_length, List.length_drop]; omega) (HRD.out.below HB6.out) (fun e => nomatch e) (bks_one _) (by unfold maxLen; omega) (by omega) HB6.out.size ?_
                     intro v7 w7 ho7 hg7
                     have HO7 := Lib.hid ho7
                     have HB7 : Hid (Below w.heap.size w w7) := Lib.hid (HB6.out.grown hg7 HB6.out.size (fun j e => (HO6.out.lt j e).1))
                     clear ho7 hg7))
                all_goals
                  go_ret2
                  refine ⟨_, rfl, ?_, HB7.out⟩
                  rw [E.out.1]
                  have := HO7.out
                  unfold ownK
                  rw [bks_append, bks_snoc, List.length_append, List.length_append, List.length_drop, hlk]
                  exact this
          · obtain rfl : k = l.length := by omega
            have hgn : l[l.length]? = none := by simp
            have hpt := part_at hok i l.length HT.out (fun y hy => by rw [hgn] at hy; cases hy)
            have hmap : (l[l.length]?.map Prod.fst) = none := by rw [hgn]; rfl
            rw [hmap] at hpt
            rw [if_neg (by simp)] at hpt
            have hnil : (if c = l.length then A else Option.map (fun x => x.add (l.length * 2)) A) = none → c - l.length = 0 := fun e => by
              split at e
              · rw [hA e]; omega
              · rw [Option.map_eq_none_iff] at e
                rw [hA e]; omega
            have E := END l.length (by omega) (by rw [← hR, putK, hpt.1, hpt.2])
            have HRD := Lib.hid (hr.drop2 l.length c hcap)
            clear END hR hpt hmap HT
            go_wp2_with (first
              | (at_builtin; refine wpList_append_own _ rfl _ _ 45 rfl w.heap.size 103 i0 (.agg #[.int .i64 0, .string ByteArray.empty]) 2 24 Tryz.underlying45 hi hz0 hz1 hz2 rfl (by decide) (.slice Av l.length cv) l.length (bks (l.take l.length)) rfl (ownBelow HO'.out ((Below.refl _ _).alloc (Nat.le_refl _) _) (Nat.le_refl _)) ⟨wr.heap.size, 0, none⟩ 1 1 [.int .i64 i, .string d] rfl rfl (newsNew _ _ _) (by simp [Value.oneCell']) (by unfold maxLen; omega) (by omega) (by simp; omega) ?_
                 intro v6 x6 ho6 hg6 _
                 have HB6 : Hid (Below w.heap.size w x6) := Lib.hid ((hB.alloc hBs _).grown hg6 (by simp; omega) (fun j e => (HO'.out.lt j e).1))
                 obtain ⟨A6, c6, rfl, _, _, _, _⟩ := ownAny ho6
                 have HO6 := Lib.hid ho6
                 clear ho6 hg6)
              | (at_builtin; refine wpList_append_rdS rfl _ _ 45 rfl w.heap.size 103 i0 (.agg #[.int .i64 0, .string ByteArray.empty]) 2 24 Tryz.underlying45 hi hz0 hz1 hz2 rfl (by decide) (.slice A6 (l.length + 1) c6) (l.length + 1) (bks (l.take l.length) ++ [.int .i64 i, .string d]) rfl HO6.out _ _ _ (bks (l.drop l.length)) rfl (by rw [bks_length, List.length_drop]; omega) (HRD.out.below HB6.out) hnil (bks_one _) (by unfold maxLen; omega) (by omega) HB6.out.size ?_
                 intro v7 w7 ho7 hg7
                 have HO7 := Lib.hid ho7
                 have HB7 : Hid (Below w.heap.size w w7) := Lib.hid (HB6.out.grown hg7 HB6.out.size (fun j e => (HO6.out.lt j e).1))
                 clear ho7 hg7))
            all_goals
              go_ret2
              refine ⟨_, rfl, ?_, HB7.out⟩
              rw [E.out.1]
              have := HO7.out
              unfold ownK
              rw [bks_append, bks_snoc, List.length_append, List.length_append, List.length_drop, hlk]
              rw [Nat.sub_self]
              exact this
      · have hE : putE l i d.size = 5 := by unfold putE; rw [if_neg (by rw [hok]; simp), if_neg (by omega), if_pos hds]
        have hPR : putR l i d = [] := by unfold putR; rw [if_neg (by rw [hE]; omega)]
        rw [hE, hPR]
        have g3 : ((d.size : Int) == 16) = false := beq_eq_false_iff_ne.2 (by omega)
        clear hE hPR hc0
        go_enter Tryz.func47, Tryz.ntmps47
        go_wp2_with fail
        refine HC.out.mono ?_
        rintro e w2 ⟨rfl, hB2⟩
        go_wp2
        go_ret2
        exact ⟨_, rfl, ownNone _ _ _ _, hB2⟩
    · have hE : putE l i d.size = 4 := by unfold putE; rw [if_neg (by rw [hok]; simp), if_pos (by omega)]
      have hPR : putR l i d = [] := by unfold putR; rw [if_neg (by rw [hE]; omega)]
      rw [hE, hPR]
      clear hE hPR hc0
      by_cases hi0 : i < 0
      · go_enter Tryz.func47, Tryz.ntmps47
        go_wp2_with fail
        refine HC.out.mono ?_
        rintro e w2 ⟨rfl, hB2⟩
        go_wp2
        go_ret2
        exact ⟨_, rfl, ownNone _ _ _ _, hB2⟩
      · have hi1 : 1024 ≤ i := by omega
        go_enter Tryz.func47, Tryz.ntmps47
        go_wp2_with fail
        refine HC.out.mono ?_
        rintro e w2 ⟨rfl, hB2⟩
        go_wp2
        go_ret2
        exact ⟨_, rfl, ownNone _ _ _ _, hB2⟩
  · have hc0 : chkK l = 9 := by unfold chkK; rw [if_neg hok]
    have hE : putE l i d.size = 9 := by unfold putE; rw [if_pos ((Bool.not_eq_true _).mp hok)]
    have hPR : putR l i d = [] := by unfold putR; rw [if_neg (by rw [hE]; omega)]
    rw [hE, hPR]
    rw [hc0] at HC
    clear hE hPR hc0
    go_enter Tryz.func47, Tryz.ntmps47
    go_wp2_with fail
    refine HC.out.mono ?_
    rintro e w2 ⟨rfl, hB2⟩
    go_wp2
    go_ret2
    exact ⟨_, rfl, ownNone _ _ _ _, hB2⟩
end Go.Proofs.YtoabkbnhdekbdaaGreat
