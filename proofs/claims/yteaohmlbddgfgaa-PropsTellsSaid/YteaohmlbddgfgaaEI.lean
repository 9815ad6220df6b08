/-
  props: Same and Text; the reference's SameProps and Text. Conditions: the lists are as they come in.
-/
import Derived.Test.YteaohmlbddgfgaaEH
import Derived.Test.YteaohmlbddgfgaaTS
namespace Go.Proofs.Yteaohmlbddgfgaa
open Go.ChangeShapes Go.WideShapes Go.ChangeAt Go.RowKit
set_option maxRecDepth 100000

theorem pr_ne {x1 y1 x2 y2 : ByteArray} (h : ¬ ((x1, x2) : Pr) = (y1, y2)) : (x1.toList == y1.toList) = false ∨ (x1 = y1 ∧ (x2.toList == y2.toList) = false) := by
  by_cases h1 : x1 = y1
  · refine .inr ⟨h1, ?_⟩
    rw [beqTE, decide_eq_false]
    intro e
    exact h (by rw [h1, e])
  · exact .inl (by rw [beqTE, decide_eq_false h1])
theorem sameSplit {α : Type} [DecidableEq α] (a b : List α) (_h : a.length = b.length) (k : Nat) (hp : a.take k = b.take k) (x y : α) (hx : a[k]? = some x) (hy : b[k]? = some y) : a.take (k + 1) = b.take (k + 1) ↔ x = y := by
  rw [List.take_add_one, List.take_add_one, hx, hy, hp]
  simp

set_option maxHeartbeats 1000000 in
theorem equalP_any (A B : Option Addr) (c d n m : Nat) (a b : List Pr) (hn : a.length = n) (hm : b.length = m) (hl : n ≤ 8796093022208) (hl2 : m ≤ 8796093022208) (w : World) (hr : Rd w A (prs a)) (hs : Rd w B (prs b)) :
    Calls Try.prog 36 #[.slice A n c, .slice B m d] w fun e w' => e = .returned (.bool (decide (a = b))) ∧ Below w.heap.size w w' := by
  subst hn hm
  obtain ⟨R, hR⟩ : ∃ R, decide (a = b) = R := ⟨_, rfl⟩
  rw [hR]
  by_cases hab : a.length = b.length
  · have HAB := Lib.hid hab
    have hq : ((a.length : Int) == b.length) = true := beq_iff_eq.2 (by omega)
    go_enter Try.func36, Try.ntmps36
    go_wp2
    clear hq
    go_loopw [13] (fun i W => ∃ k : Nat, k ≤ a.length ∧ i = .int .i64 k ∧ Hid (a.take k = b.take k) ∧ Below w.heap.size w W) (fun i _ => a.length - (intOf i).toNat)
    case atStart => exact ⟨0, Nat.zero_le _, rfl, Lib.hid rfl, Below.refl _ _⟩
    case round =>
      obtain ⟨k, hk, rfl, HT, hB⟩ := hrel
      by_cases hlt : k < a.length
      · obtain ⟨x, hx⟩ : ∃ x, a[k]? = some x := ⟨a[k], List.getElem?_eq_getElem hlt⟩
        obtain ⟨y, hy⟩ : ∃ y, b[k]? = some y := ⟨b[k]'(by omega), List.getElem?_eq_getElem (by omega)⟩
        obtain ⟨ba, oa, rfl, hba, hc0, hc1⟩ := (Rd.below hr hB).pr hx
        obtain ⟨bb, ob, rfl, hbb, hd0, hd1⟩ := (Rd.below hs hB).pr hy
        have hsp := sameSplit a b hab k HT.out x y hx hy
        have HS := Lib.hid hsp
        clear hsp hx hy
        have hlb : k < b.length := by omega
        by_cases he : x = y
        · subst he
          have HT' : Hid (a.take (k + 1) = b.take (k + 1)) := Lib.hid (HS.out.2 rfl)
          clear HT HS hab
          go_wp2_with (go_quiet (fail))
          go_round
          case rel => exact ⟨k + 1, by omega, by go_num, HT', hB.trans (belowDrewN _ _ _)⟩
          case measure => simp [intOf]; omega
        · have HR : Hid (R = false) := Lib.hid (by
            rw [← hR]
            refine decide_eq_false fun e => he (HS.out.1 (by rw [e])))
          clear hR HS HT hab
          obtain ⟨x1, x2⟩ := x
          obtain ⟨y1, y2⟩ := y
          dsimp only at hc0 hc1 hd0 hd1
          rcases pr_ne he with h | ⟨rfl, h⟩
          · clear he
            go_wp2_with (go_quiet (fail))
            go_ret
            rw [HR.out]
            exact ⟨rfl, hB.trans (belowDrewN _ _ _)⟩
          · clear he
            go_wp2_with (go_quiet (fail))
            go_ret
            rw [HR.out]
            exact ⟨rfl, hB.trans (belowDrewN _ _ _)⟩
      · have HR : Hid (R = true) := Lib.hid (by
          have := HT.out
          rw [List.take_of_length_le (by omega), List.take_of_length_le (by omega)] at this
          rw [← hR]
          exact decide_eq_true this)
        have hlb : ¬ k < b.length := by omega
        clear hR HT hab
        go_wp2
        go_ret
        rw [HR.out]
        exact ⟨rfl, hB⟩
  · have HR : Hid (R = false) := Lib.hid (by rw [← hR]; exact decide_eq_false fun e => hab (by rw [e]))
    have hq : ((a.length : Int) == b.length) = false := beq_eq_false_iff_ne.2 (by omega)
    clear hR
    go_enter Try.func36, Try.ntmps36
    go_wp2
    go_ret
    rw [HR.out]
    exact ⟨rfl, Below.refl _ _⟩

theorem same_any (A B : Option Addr) (c d n m : Nat) (a b : List Pr) (hn : a.length = n) (hm : b.length = m) (hl : n ≤ 8796093022208) (hl2 : m ≤ 8796093022208) (w : World) (hr : Rd w A (prs a)) (hs : Rd w B (prs b)) :
    Calls Try.prog 20 #[.slice A n c, .slice B m d] w fun e w' => e = .returned (.bool (decide (a = b))) ∧ Below w.heap.size w w' := by
  have HE := Lib.hid (equalP_any A B c d n m a b hn hm hl hl2 w hr hs)
  obtain ⟨R, hR⟩ : ∃ R, decide (a = b) = R := ⟨_, rfl⟩
  rw [hR] at HE ⊢
  clear hR
  go_enter Try.func20, Try.ntmps20
  go_wp2_with fail
  refine HE.out.mono ?_
  rintro e w1 ⟨rfl, hB1⟩
  go_wp2
  go_ret
  exact ⟨rfl, hB1⟩

set_option maxHeartbeats 1000000 in
theorem refSameP_any (A B : Option Addr) (c d n m : Nat) (a b : List Pr) (hn : a.length = n) (hm : b.length = m) (hl : n ≤ 8796093022208) (hl2 : m ≤ 8796093022208) (w : World) (hr : Rd w A (prs a)) (hs : Rd w B (prs b)) :
    Calls Try.prog 13 #[.slice A n c, .slice B m d] w fun e w' => e = .returned (.bool (decide (a = b))) ∧ Below w.heap.size w w' := by
  subst hn hm
  obtain ⟨R, hR⟩ : ∃ R, decide (a = b) = R := ⟨_, rfl⟩
  rw [hR]
  by_cases hab : a.length = b.length
  · have HAB := Lib.hid hab
    have hq : ((a.length : Int) == b.length) = true := beq_iff_eq.2 (by omega)
    go_enter Try.func13, Try.ntmps13
    go_wp2
    clear hq
    go_loopw [5] (fun i W => ∃ k : Nat, k ≤ a.length ∧ i = .int .i64 k ∧ Hid (a.take k = b.take k) ∧ Below w.heap.size w W) (fun i _ => a.length - (intOf i).toNat)
    case atStart => exact ⟨0, Nat.zero_le _, rfl, Lib.hid rfl, Below.refl _ _⟩
    case round =>
      obtain ⟨k, hk, rfl, HT, hB⟩ := hrel
      by_cases hlt : k < a.length
      · obtain ⟨x, hx⟩ : ∃ x, a[k]? = some x := ⟨a[k], List.getElem?_eq_getElem hlt⟩
        obtain ⟨y, hy⟩ : ∃ y, b[k]? = some y := ⟨b[k]'(by omega), List.getElem?_eq_getElem (by omega)⟩
        obtain ⟨ba, oa, rfl, hba, hc0, hc1⟩ := (Rd.below hr hB).pr hx
        obtain ⟨bb, ob, rfl, hbb, hd0, hd1⟩ := (Rd.below hs hB).pr hy
        have hsp := sameSplit a b hab k HT.out x y hx hy
        have HS := Lib.hid hsp
        clear hsp hx hy
        have hlb : k < b.length := by omega
        by_cases he : x = y
        · subst he
          have HT' : Hid (a.take (k + 1) = b.take (k + 1)) := Lib.hid (HS.out.2 rfl)
          clear HT HS hab
          go_wp2_with (go_quiet (fail))
          go_round
          case rel => exact ⟨k + 1, by omega, by go_num, HT', hB.trans (belowDrewN _ _ _)⟩
          case measure => simp [intOf]; omega
        · have HR : Hid (R = false) := Lib.hid (by
            rw [← hR]
            refine decide_eq_false fun e => he (HS.out.1 (by rw [e])))
          clear hR HS HT hab
          obtain ⟨x1, x2⟩ := x
          obtain ⟨y1, y2⟩ := y
          dsimp only at hc0 hc1 hd0 hd1
          rcases pr_ne he with h | ⟨rfl, h⟩
          · clear he
            go_wp2_with (go_quiet (fail))
            go_ret
            rw [HR.out]
            exact ⟨rfl, hB.trans (belowDrewN _ _ _)⟩
          · clear he
            go_wp2_with (go_quiet (fail))
            go_ret
            rw [HR.out]
            exact ⟨rfl, hB.trans (belowDrewN _ _ _)⟩
      · have HR : Hid (R = true) := Lib.hid (by
          have := HT.out
          rw [List.take_of_length_le (by omega), List.take_of_length_le (by omega)] at this
          rw [← hR]
          exact decide_eq_true this)
        have hlb : ¬ k < b.length := by omega
        clear hR HT hab
        go_wp2
        go_ret
        rw [HR.out]
        exact ⟨rfl, hB⟩
  · have HR : Hid (R = false) := Lib.hid (by rw [← hR]; exact decide_eq_false fun e => hab (by rw [e]))
    have hq : ((a.length : Int) == b.length) = false := beq_eq_false_iff_ne.2 (by omega)
    clear hR
    go_enter Try.func13, Try.ntmps13
    go_wp2
    go_ret
    rw [HR.out]
    exact ⟨rfl, Below.refl _ _⟩

set_option maxRecDepth 100000 in
theorem infoSt : (Try.prog.info? 9).map (fun i => (i.zero, i.size, i.bytes)) = some (some (.string ByteArray.empty), 1, 16) := by kernel_rfl
/-- An own list of texts. -/
abbrev ownT (w : World) (base : Nat) (v : Value) (l : List ByteArray) : Prop := w.ownsRow base 9 1 v l.length (l.map Value.string)
theorem textP_len (l : List Pr) : (textP l).length = 2 * l.length := by
  unfold textP
  induction l with
  | nil => rfl
  | cons x l ih =>
    rw [List.flatMap_cons, List.length_append, ih]
    simp
    omega
theorem textP_snoc {l : List Pr} {k : Nat} {x : Pr} (hx : l[k]? = some x) : textP (l.take (k + 1)) = textP (l.take k) ++ [x.1, x.2] := by
  rw [List.take_add_one, hx]
  simp [textP]

set_option maxHeartbeats 1000000 in
theorem text_any (A : Option Addr) (c n : Nat) (l : List Pr) (hn : l.length = n) (hl : n ≤ 4398046511103) (hf : ∀ x ∈ l, x.1.size ≤ 140737488351232 ∧ x.2.size ≤ 140737488351232) (w : World) (hr : Rd w A (prs l)) :
    Calls Try.prog 18 #[.slice A n c] w fun e w' => ∃ v, e = .returned v ∧ ownT w' w.heap.size v (textP l) ∧ Below w.heap.size w w' := by
  subst hn
  obtain ⟨i0, hi, hz0, hz1, hz2⟩ := infoParts infoSt
  go_enter Try.func18, Try.ntmps18
  go_wp2
  go_loopw [3, 8] (fun v j W => ∃ k : Nat, k ≤ l.length ∧ j = .int .i64 k ∧ Hid (ownT W w.heap.size v (textP (l.take k))) ∧ Below w.heap.size w W) (fun _ j _ => l.length - (intOf j).toNat)
  case atStart => exact ⟨0, Nat.zero_le _, rfl, Lib.hid (ownNone _ _ _ _), Below.refl _ _⟩
  case round =>
    obtain ⟨k, hk, rfl, HO, hB⟩ := hrel
    obtain ⟨Av, cv, hv, _, _, _, _⟩ := ownAny HO.out
    subst hv
    by_cases hlt : k < l.length
    · obtain ⟨x, hx⟩ : ∃ x, l[k]? = some x := ⟨l[k], List.getElem?_eq_getElem hlt⟩
      obtain ⟨b, off, rfl, hb, hc0, hc1⟩ := (Rd.below hr hB).pr hx
      obtain ⟨hks1, hks2⟩ := hf x (List.mem_of_getElem? hx)
      obtain ⟨w1, hw1⟩ : ∃ w1, wr.alloc (.cells #[.string x.1, .string x.2] 50) = w1 := ⟨_, rfl⟩
      have hB1 : Below wr.heap.size wr w1 := hw1 ▸ (Below.refl _ wr).alloc (Nat.le_refl _) _
      have k1 : Blk w1 wr.heap.size 50 [.string x.1, .string x.2] := hw1 ▸ Blk.new wr _ _
      have x0 := k1.cell 0
      have y0 := k1.cell 1
      simp only [List.getElem?_cons_zero, List.getElem?_cons_succ] at x0 y0
      have HK := Lib.hid k1
      have HW := Lib.hid hw1
      have HTK := Lib.hid (textP_snoc hx)
      have HC := Lib.hid (copied_any x (by omega) (by omega) w1)
      have htl : (textP (l.take k)).length = 2 * k := by rw [textP_len, List.length_take]; omega
      have htl2 : (textP (l.take k)).length ≤ 8796093022206 := by omega
      clear hx k1 hw1 htl
      go_wp2_with fail
      rw [HW.out]
      go_wp2_with fail
      refine HC.out.mono ?_
      rintro e w2 ⟨rfl, hB2⟩
      have hB12 : Below wr.heap.size wr w2 := hB1.trans (hB2.mono hB1.size)
      have k2 := HK.out.below hB2 HK.out.lt
      have HO2 := Lib.hid (ownBelow HO.out hB12 (Nat.le_refl _))
      have hB02 := hB.trans (hB12.mono hB.size)
      have fx0 := k2.frozen 0
      have fx1 := k2.frozen 1
      have cx0 := k2.cell 0
      have cx1 := k2.cell 1
      simp only [List.getElem?_cons_zero, List.getElem?_cons_succ] at cx0 cx1
      have K2 := Lib.hid k2
      clear k2 x0 y0 HC HK HW
      have k5 : Blk ((w2.setCell ⟨wr.heap.size, 0, none⟩ (.string x.1)).setCell ⟨wr.heap.size, 1, none⟩ (.string x.2)) wr.heap.size 50 [.string x.1, .string x.2] := (K2.out.set 0 _).set 1 _
      have hB5 : Below wr.heap.size w2 ((w2.setCell ⟨wr.heap.size, 0, none⟩ (.string x.1)).setCell ⟨wr.heap.size, 1, none⟩ (.string x.2)) := ((Below.refl _ w2).setCell (p := ⟨wr.heap.size, 0, none⟩) (Nat.le_refl _) _).setCell (p := ⟨wr.heap.size, 1, none⟩) (Nat.le_refl _) _
      go_upto_region 6 with fail
      obtain ⟨w5, hw5⟩ : ∃ w5, (w2.setCell ⟨wr.heap.size, 0, none⟩ (.string x.1)).setCell ⟨wr.heap.size, 1, none⟩ (.string x.2) = w5 := ⟨_, rfl⟩
      rw [hw5] at k5 hB5 ⊢
      have hB05 : Below w.heap.size w w5 := hB02.trans (hB5.mono hB.size)
      have hB15 : Below wr.heap.size wr w5 := hB12.trans hB5
      have HO5 := Lib.hid (ownBelow HO.out hB15 (Nat.le_refl _))
      have z0 := k5.cell 0
      have z1 := k5.cell 1
      simp only [List.getElem?_cons_zero, List.getElem?_cons_succ] at z0 z1
      have hs5 := hB05.size
      clear hw5 k5 fx0 fx1 cx0 cx1 K2 HO2 HO
      generalize textP (l.take k) = tk at *
      go_wp2_with (at_builtin; refine wpList_append_lies _ rfl _ _ 37 rfl w.heap.size 9 i0 (.string ByteArray.empty) 1 16 Try.underlying37 hi hz0 hz1 hz2 rfl (by decide) (.slice Av tk.length cv) tk.length (tk.map Value.string) rfl (ownBelow HO5.out ((Below.refl _ _).alloc (Nat.le_refl _) _) (Nat.le_refl _)) ⟨w5.heap.size, 0, none⟩ 2 2 [.string x.1, .string x.2] rfl rfl (newsNew _ _ _) (by simp [Value.oneCell']) (by omega) (by unfold maxLen; omega) (by omega) (by simp; omega) _ rfl ?_
                   intro g6 c6 x6 ho6 hg6 _ _
                   have HB6 : Hid (Below w.heap.size w x6) := Lib.hid ((hB05.alloc hs5 _).grown hg6 (by simp; omega) (fun j e => (HO5.out.lt j e).1))
                   have HO6 : Hid (ownT x6 w.heap.size (.slice (some ⟨g6, 0, none⟩) (tk.length + 2) c6) (textP (l.take (k + 1)))) := Lib.hid (by rw [HTK.out]; unfold ownT; rw [List.length_append, List.map_append]; exact ho6)
                   clear ho6 hg6)
      go_roundw
      case rel => exact ⟨k + 1, by omega, by go_num, HO6, HB6.out⟩
      case measure => simp [intOf]; omega
    · obtain rfl : k = l.length := by omega
      have HO' : Hid (ownT wr w.heap.size (.slice Av (textP (l.take l.length)).length cv) (textP l)) := Lib.hid (by have := HO.out; rw [List.take_length] at this ⊢; exact this)
      clear HO
      go_wp2
      go_ret
      exact ⟨_, rfl, HO'.out, hB⟩

end Go.Proofs.Yteaohmlbddgfgaa
