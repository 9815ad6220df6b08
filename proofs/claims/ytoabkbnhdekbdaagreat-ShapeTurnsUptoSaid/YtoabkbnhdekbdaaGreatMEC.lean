/-
  props: Get and copied; the reference's Prop. Conditions: the lists are as they come in.
-/
import Derived.Test.YtoabkbnhdekbdaaGreatMEM
import Derived.Test.YtoabkbnhdekbdaaGreatMSX
import Derived.Test.YtoabkbnhdekbdaaGreatMCS
import Derived.Test.YtoabkbnhdekbdaaGreatMRL
import Derived.Test.YtoabkbnhdekbdaaGreatMEB
import Derived.Test.YtoabkbnhdekbdaaGreatLayH
import Derived.BigQuiet
import Derived.Deep.DeepCutAuto
namespace Go.Proofs.YtoabkbnhdekbdaaGreat
open Go.ChangeShapes Go.WideShapes Go.ChangeAt Go.RowKit
set_option maxRecDepth 100000
abbrev ansO (o : Option ByteArray) : Value := .tuple #[.string (o.getD ByteArray.empty), .bool o.isSome]
theorem beqT (a b : ByteArray) : (a.toList == b.toList) = decide (a = b) := by
  rw [Bool.eq_iff_iff, beq_iff_eq, decide_eq_true_eq]
  exact ⟨ba_toList, fun h => by rw [h]⟩
theorem getP_at {l : List Pr} {n : ByteArray} : ∀ {j : Nat} {x : Pr}, l[j]? = some x → x.1 = n → (∀ y ∈ l.take j, y.1 ≠ n) → getP l n = some x.2 := by
  induction l with
  | nil => intro j x h; simp at h
  | cons z l ih =>
    intro j x h hx hn
    unfold getP
    rcases j with _ | j
    · simp at h
      subst h
      rw [if_pos hx]
    · rw [if_neg (hn z (by simp)), ih (by simpa using h) hx fun y hy => hn y (by simp [hy])]
set_option maxHeartbeats 1000000 in
theorem refProp_any (A : Option Addr) (c m : Nat) (l : List Pr) (hm : l.length = m) (hl : m ≤ 4398046511104) (n : ByteArray) (w : World) (hr : Rd w A (prs l)) :
    Calls Tryz.prog 103 #[.slice A m c, .string n] w fun e w' => e = .returned (ansO (getP l n)) ∧ Below w.heap.size w w' := by
  subst hm
  obtain ⟨R, hR⟩ : ∃ R, getP l n = R := ⟨_, rfl⟩
  rw [hR]
  go_enter Tryz.func103, Tryz.ntmps103
  go_wp2
  go_loopw [6] (fun j W => ∃ k : Nat, k ≤ l.length ∧ j = .int .i64 k ∧ Hid (∀ y ∈ l.take k, y.1 ≠ n) ∧ Below w.heap.size w W) (fun j _ => l.length - (intOf j).toNat)
  case atStart => exact ⟨0, Nat.zero_le _, rfl, Lib.hid (by simp), Below.refl _ _⟩
  case round =>
    obtain ⟨k, hk, rfl, HD, hB⟩ := hrel
    by_cases hlt : k < l.length
    · obtain ⟨x, hx⟩ : ∃ x, l[k]? = some x := ⟨l[k], qZa hlt⟩
      obtain ⟨b, off, rfl, hb, hc0, hc1⟩ := (Rd.below hr hB).pr hx
      have hlk : (k : Int) < l.length := by omega
      have hd := beqT x.1 n
      by_cases he : x.1 = n
      · have HG : Hid (R = some x.2) := Lib.hid (by rw [← hR, getP_at hx he HD.out])
        rw [decide_eq_true he] at hd
        clear HD hR he hx
        go_wp2
        go_ret2
        rw [HG.out]
        exact ⟨rfl, hB⟩
      · have HD' : Hid (∀ y ∈ l.take (k + 1), y.1 ≠ n) := Lib.hid (by
          rw [List.take_add_one, hx]
          intro y hy
          rcases List.mem_append.1 hy with hy | hy
          · exact HD.out y hy
          · simp at hy
            rw [hy]
            exact he)
        rw [decide_eq_false he] at hd
        clear HD hR he hx
        go_wp2
        go_round
        case rel => exact ⟨k + 1, by omega, by go_num, HD', hB⟩
        case measure => simp [intOf]; omega
    · have HG : Hid (R = none) := Lib.hid (by
        have := HD.out
        rw [List.take_of_length_le (by omega)] at this
        rw [← hR]
        exact getP_none.2 this)
      clear HD hR
      go_wp2
      go_ret2
      rw [HG.out]
      exact ⟨rfl, hB⟩
set_option maxHeartbeats 1000000
theorem copied_any (x : Pr) (h1 : x.1.size ≤ 140737488355328) (h2 : x.2.size ≤ 140737488355328) (w : World) :
    Calls Tryz.prog 156 #[prV x] w fun e w' => e = .returned (prV x) ∧ Below w.heap.size w w' := by
  obtain ⟨x1, x2⟩ := x
  dsimp only at h1 h2 ⊢
  obtain ⟨u1, hw1⟩ : ∃ u1, w.alloc (.cells #[.string x1, .string x2] 105) = u1 := ⟨_, rfl⟩
  have k1 : Blk u1 w.heap.size 105 [.string x1, .string x2] := hw1 ▸ Blk.new w _ _
  have hB1 : Below w.heap.size w u1 := hw1 ▸ (Below.refl _ w).alloc (Nat.le_refl _) _
  have hlt1 : w.heap.size < u1.heap.size := k1.lt
  obtain ⟨u2, hw2⟩ : ∃ u2, u1.alloc (.cells #[.string ⟨#[]⟩, .string ⟨#[]⟩] 105) = u2 := ⟨_, rfl⟩
  have k2 : Blk u2 u1.heap.size 105 [.string ⟨#[]⟩, .string ⟨#[]⟩] := hw2 ▸ Blk.new u1 _ _
  have hB2 : Below u1.heap.size u1 u2 := hw2 ▸ (Below.refl _ u1).alloc (Nat.le_refl _) _
  have hlt2 : u1.heap.size < u2.heap.size := k2.lt
  have hlt12 : w.heap.size < u2.heap.size := by omega
  have k12 := k1.below hB2 hlt1
  have x0 := k12.cell 0
  have y0 := k12.cell 1
  simp only [gZa, gZb] at x0 y0
  have HK2 := Lib.hid k2
  have HB1 := Lib.hid hB1
  have HB2 := Lib.hid hB2
  have HW1 := Lib.hid hw1
  have HW2 := Lib.hid hw2
  clear k1 k2 k12 hB1 hB2 hw1 hw2
  go_enter Tryz.func156, Tryz.ntmps156
  go_upto_region 1 with fail
  have hX : w.heap.size + 1 = u1.heap.size := by rw [← HW1.out, World.size_alloc]
  rw [HW1.out, HW2.out, hX]
  refine wp_region_noPanic ?_
  refine wp_region_last 7 (fun W' => W'.cell? ⟨w.heap.size, 0, none⟩ = some (.string x1) ∧ W'.cell? ⟨w.heap.size, 1, none⟩ = some (.string x2)) (by kernel_rfl) ⟨x0, y0⟩ (fun hHeld => ?_)
  refine tkA 16 (i := 0) (oi := ⟨some 3, _, _, _, _, _⟩) rfl hHeld ?_
  try simp only [Act.put, pZa, pZb, pZc]
  refine tkA 16 (i := 1) (oi := ⟨some 4, _, _, _, _, _⟩) rfl hHeld ?_
  try simp only [Act.put, pZa, pZb, pZc]
  refine tkA 16 (i := 3) (oi := ⟨some 6, _, _, _, _, _⟩) rfl hHeld ?_
  try simp only [Act.put, pZa, pZb, pZc]
  refine tkA 16 (i := 4) (oi := ⟨some 7, _, _, _, _, _⟩) rfl hHeld ?_
  try simp only [Act.put, pZa, pZb, pZc]
  clear hHeld
  refine wpAnyL_facts 16 3 1 [(2, 5), (5, 8), (6, 9)] (fun s v w => match s with
    | 5 => v = .string x1
    | 8 => v = .string x2
    | 9 => v = .agg #[.string x1, .string x2]
    | _ => True) (fun w w' => Below w.heap.size w w') (by kernel_rfl) (by kernel_rfl) bZh ⟨?_, ?_, ?_, trivial⟩ (fun w' hB => ⟨(hB.cell (p := ⟨w.heap.size, 0, none⟩) hlt12).trans x0, (hB.cell (p := ⟨w.heap.size, 1, none⟩) hlt12).trans y0⟩) ⟨?_, ?_, ?_, trivial⟩ ?_
  focus
    intro v w w' h hB
    exact h
  focus
    intro v w w' h hB
    exact h
  focus
    intro v w w' h hB
    exact h
  focus
    intro vs w2 hBf hFf o ho K hK
    obtain rfl : (⟨some 5, _, _, _, _, _⟩ : Oper) = o := Option.some.inj ho
    clear ho
    (try simp only [fillL, pZd, pZe, Act.put, pZa, pZb, pZc] at hK ⊢)
    go_simp
    refine (cloneU_any x1 (by omega) w2).mono ?_
    rintro e w3 ⟨rfl, hB9⟩
    refine hK.out _ _ ⟨rfl, hB9⟩
  focus
    intro vs w2 hBf hFf o ho K hK
    obtain rfl : (⟨some 8, _, _, _, _, _⟩ : Oper) = o := Option.some.inj ho
    clear ho
    (try simp only [fillL, pZd, pZe, Act.put, pZa, pZb, pZc] at hK ⊢)
    go_simp
    refine (cloneU_any x2 (by omega) w2).mono ?_
    rintro e w3 ⟨rfl, hB9⟩
    refine hK.out _ _ ⟨rfl, hB9⟩
  focus
    intro vs w2 hBf hFf o ho K hK
    obtain rfl : (⟨some 9, _, _, _, _, _⟩ : Oper) = o := Option.some.inj ho
    clear ho
    (try simp only [fillL, pZd, pZe, Act.put, pZa, pZb, pZc] at hK ⊢)
    have e1 : vs 5 = .string x1 := (hFf (2, 5) (by simp) (by kernel_rfl))
    have e2 : vs 8 = .string x2 := (hFf (5, 8) (by simp) (by kernel_rfl))
    simp only [e1, e2] at hK ⊢
    go_simp
    refine hK.out _ _ ⟨rfl, Below.refl _ _⟩
  intro vs w2 hBf hFf
  (try simp only [fillL, pZd, pZe, Act.put, pZa, pZb, pZc])
  have e1 : vs 9 = .agg #[.string x1, .string x2] := (hFf (6, 9) (by simp))
  have KX := HK2.out.below ((Below.refl _ _).drew.trans hBf) HK2.out.lt
  simp only [e1]
  have fx0 := KX.frozen 0
  have fx1 := KX.frozen 1
  have cx0 := KX.cell 0
  have cx1 := KX.cell 1
  simp only [gZa, gZb] at cx0 cx1
  refine wpAnyL_last (i := 7) (o := ⟨none, _, _, _, _, _⟩) (by kernel_rfl) rfl (by kernel_rfl) (fun K hK => ?_)
  go_simp
  go_wp2_with fail
  refine hK.out _ _ ?_
  clear hK K
  try simp only [Act.put, pZa, pZb, pZc]
  refine wpAnyL_done (by kernel_rfl) ?_ _
  refine NoPanic.normal ?_
  have k5 : Blk ((w2.setCell ⟨u1.heap.size, 0, none⟩ (.string x1)).setCell ⟨u1.heap.size, 1, none⟩ (.string x2)) u1.heap.size 105 [.string x1, .string x2] := (KX.set 0 _).set 1 _
  have hB02 : Below w.heap.size w u2 := HB1.out.trans (HB2.out.mono HB1.out.size)
  have hB2 : Below w.heap.size w w2 := hB02.trans ((((Below.refl _ u2).drew.trans hBf)).mono hB02.size)
  have hB5 : Below w.heap.size w ((w2.setCell ⟨u1.heap.size, 0, none⟩ (.string x1)).setCell ⟨u1.heap.size, 1, none⟩ (.string x2)) := (hB2.setCell (p := ⟨u1.heap.size, 0, none⟩) (by show w.heap.size ≤ u1.heap.size; omega) _).setCell (p := ⟨u1.heap.size, 1, none⟩) (by show w.heap.size ≤ u1.heap.size; omega) _
  have z0 := k5.cell 0
  have z1 := k5.cell 1
  simp only [gZa, gZb] at z0 z1
  generalize (w2.setCell ⟨u1.heap.size, 0, none⟩ (.string x1)).setCell ⟨u1.heap.size, 1, none⟩ (.string x2) = w5 at *
  go_wp2
  refine bodyPost_ret (v := prV (x1, x2)) (by simp [results, Tryz.results156, go_sem, z0, z1]) rfl ⟨rfl, hB5⟩
theorem thoseP_any (gf : Nat) (lb : Array Value) (eg : Enters Tryz.prog gf) (q : Pr → Bool) (A : Option Addr) (c n : Nat) (l : List Pr) (hn : l.length = n) (hl : n ≤ 4398046511103) (hf : ∀ x ∈ l, x.1.size ≤ 140737488351232 ∧ x.2.size ≤ 140737488351232) (w : World)
    (hp : ∀ W x, Below w.heap.size w W → Calls Tryz.prog gf (#[prV x] ++ lb) W fun e W' => e = .returned (.bool (q x)) ∧ Below W.heap.size W W') (hr : Rd w A (prs l)) :
    Calls Tryz.prog 112 #[.slice A n c, .func (.func gf) #[] lb] w fun e w' => ∃ v, e = .returned v ∧ ownP w' w.heap.size v (l.filter q) ∧ Below w.heap.size w w' := by
  subst hn
  obtain ⟨i0, hi, hz0, hz1, hz2⟩ := infoParts infoPr
  have eg' : ∀ args w, (callFunc gf args).run Tryz.prog w = .ok (.enter gf args) w := eg
  go_enter Tryz.func112, Tryz.ntmps112
  go_wp2
  go_loopw [5, 10] (fun v j W => ∃ k : Nat, k ≤ l.length ∧ j = .int .i64 k ∧ Hid (ownP W w.heap.size v ((l.take k).filter q)) ∧ Below w.heap.size w W) (fun _ j _ => l.length - (intOf j).toNat)
  case atStart => exact ⟨0, Nat.zero_le _, rfl, Lib.hid (ownNone _ _ _ _), Below.refl _ _⟩
  case round =>
    obtain ⟨k, hk, rfl, HO, hB⟩ := hrel
    obtain ⟨Av, cv, hv, _, _, _, _⟩ := ownAny HO.out
    subst hv
    by_cases hlt : k < l.length
    · obtain ⟨x, hx⟩ : ∃ x, l[k]? = some x := ⟨l[k], qZa hlt⟩
      obtain ⟨b, off, rfl, hb, hc0, hc1⟩ := (Rd.below hr hB).pr hx
      obtain ⟨hks1, hks2⟩ := hf x (List.mem_of_getElem? hx)
      obtain ⟨w1, hw1⟩ : ∃ w1, wr.alloc (.cells #[.string x.1, .string x.2] 105) = w1 := ⟨_, rfl⟩
      have hB1 : Below wr.heap.size wr w1 := hw1 ▸ (Below.refl _ wr).alloc (Nat.le_refl _) _
      have k1 : Blk w1 wr.heap.size 105 [.string x.1, .string x.2] := hw1 ▸ Blk.new wr _ _
      have x0 := k1.cell 0
      have y0 := k1.cell 1
      simp only [gZa, gZb] at x0 y0
      have HP := Lib.hid (hp w1 x (hB.trans (hB1.mono hB.size)))
      have HK := Lib.hid k1
      have HW := Lib.hid hw1
      have HTK := Lib.hid (takeFilter q hx)
      have hfl := filterLe q l k
      clear hx k1 hw1
      go_wp2_with fail
      rw [HW.out]
      go_wp2_with fail
      refine HP.out.mono ?_
      rintro e w2 ⟨rfl, hB2⟩
      have hB12 : Below wr.heap.size wr w2 := hB1.trans (hB2.mono hB1.size)
      have k2 := HK.out.below hB2 HK.out.lt
      have x1 := k2.cell 0
      have y1 := k2.cell 1
      simp only [gZa, gZb] at x1 y1
      have hB02 := hB.trans (hB12.mono hB.size)
      have HO2 := Lib.hid (ownBelow HO.out hB12 (Nat.le_refl _))
      clear HP HK x0 y0 HW k2
      rcases hqq : q x with _ | _
      · have HO' : Hid (ownP w2 w.heap.size (.slice Av ((l.take k).filter q).length cv) ((l.take (k + 1)).filter q)) := Lib.hid (by
          rw [HTK.out, hqq]
          simpa using HO2.out)
        clear HO2 HTK hqq
        go_wp2
        go_roundw
        case rel => exact ⟨k + 1, by omega, by go_num, HO', hB02⟩
        case measure => simp [intOf]; omega
      · have HTK' : Hid ((l.take (k + 1)).filter q = (l.take k).filter q ++ [x]) := Lib.hid (by rw [HTK.out, hqq]; rfl)
        clear HTK hqq
        have HC := Lib.hid (copied_any x (by omega) (by omega) w2)
        go_wp2_with fail
        refine HC.out.mono ?_
        rintro e w3 ⟨rfl, hB3⟩
        have hB03 := hB02.trans (hB3.mono hB02.size)
        have HO3 := Lib.hid (ownBelow HO2.out hB3 (Nat.le_refl _))
        have hs3 := hB03.size
        generalize hfk : (l.take k).filter q = fk at *
        have HFK := Lib.hid hfk
        clear hfk HC
        go_wp2_with (at_builtin; refine wpList_append_lies _ rfl _ _ 47 rfl w.heap.size 105 i0 (.agg #[.string ByteArray.empty, .string ByteArray.empty]) 2 32 Tryz.underlying47 hi hz0 hz1 hz2 rfl (by decide) (.slice Av fk.length cv) fk.length (prs fk) rfl (ownBelow HO3.out ((Below.refl _ _).alloc (Nat.le_refl _) _) (Nat.le_refl _)) ⟨w3.heap.size, 0, none⟩ 1 1 [.string x.1, .string x.2] rfl rfl (newsNew _ _ _) (by simp [Value.oneCell']) (by omega) (by unfold maxLen; omega) (by omega) (by simp; omega) _ rfl ?_; intro g6 c6 x6 ho6 hg6 _ _
                     have HB6 : Hid (Below w.heap.size w x6) := Lib.hid ((hB03.alloc hs3 _).grown hg6 (by simp; omega) (fun j e => (HO3.out.lt j e).1))
                     have HO6 : Hid (ownP x6 w.heap.size (.slice (some ⟨g6, 0, none⟩) (fk.length + 1) c6) ((l.take (k + 1)).filter q)) := Lib.hid (by rw [HTK'.out]; exact ownP_snoc ho6)
                     clear ho6 hg6)
        go_roundw
        case rel => exact ⟨k + 1, by omega, by go_num, HO6, HB6.out⟩
        case measure => simp [intOf]; omega
    · obtain rfl : k = l.length := by omega
      have HO' : Hid (ownP wr w.heap.size (.slice Av ((l.take l.length).filter q).length cv) (l.filter q)) := Lib.hid (by have := HO.out; rw [List.take_length] at this ⊢; exact this)
      clear HO
      go_wp2
      go_ret
      exact ⟨_, rfl, HO'.out, hB⟩
theorem unset1_any (B0 : Nat) (n : ByteArray) (x : Pr) (w : World) (h0 : w.cell? ⟨B0, 0, none⟩ = some (.string n)) :
    Calls Tryz.prog 113 #[prV x, .pointer (some ⟨B0, 0, none⟩)] w fun e w' => e = .returned (.bool (decide (x.1 ≠ n))) ∧ Below w.heap.size w w' := by
  have hB0 : Below w.heap.size w (w.alloc (.cells #[.string x.1, .string x.2] 105)) := (Below.refl _ w).alloc (Nat.le_refl _) _
  have hl := World.block_lt_of_cell? w ⟨B0, 0, none⟩ h0
  have hd := beqT x.1 n
  rw [decide_not]
  go_enter Tryz.func113, Tryz.ntmps113
  go_wp2
  go_ret
  exact ⟨rfl, hB0⟩
def unsetE (l : List Pr) (n : ByteArray) : Int := if okP l = false then 9 else if getP l n = none then 71 else 0
def unsetR (l : List Pr) (n : ByteArray) : List Pr := if unsetE l n = 0 then dropP l n else []
theorem dropP_len {l : List Pr} {n : ByteArray} : (dropP l n).length = l.length ↔ getP l n = none := by
  unfold dropP
  rw [getP_none]
  constructor
  · intro h
    have := List.length_filter_eq_length_iff.1 h
    exact fun p hp => of_decide_eq_true (this p hp)
  · intro h
    exact List.length_filter_eq_length_iff.2 fun p hp => decide_eq_true (h p hp)
theorem unset_any (A : Option Addr) (c m : Nat) (l : List Pr) (hm : l.length = m) (hl : m ≤ 4398046511103) (hf : ∀ x ∈ l, x.1.size ≤ 140737488351232 ∧ x.2.size ≤ 140737488351232) (n : ByteArray) (w : World) (hr : Rd w A (prs l)) :
    Calls Tryz.prog 57 #[.slice A m c, .string n] w fun e w' => ∃ v, e = .returned (ansP v (unsetE l n)) ∧ ownP w' w.heap.size v (unsetR l n) ∧ Below w.heap.size w w' := by
  subst hm
  obtain ⟨w1, hw1⟩ : ∃ w1, w.alloc (.cells #[.string n] 9) = w1 := ⟨_, rfl⟩
  have hB1 : Below w.heap.size w w1 := hw1 ▸ (Below.refl _ w).alloc (Nat.le_refl _) _
  have k1 : Blk w1 w.heap.size 9 [.string n] := hw1 ▸ Blk.new w _ _
  have HK1 := Lib.hid k1
  have HW1 := Lib.hid hw1
  have HC := Lib.hid (check_any A c l.length l rfl (by omega) (fun x hx => (hf x hx).2) w1 (hr.below hB1))
  have HR := Lib.hid hr
  have HF := Lib.hid hf
  clear k1 hw1 hr hf
  rcases hok : okP l with _ | _
  · rw [chkP_no hok] at HC
    have hE : unsetE l n = 9 := by unfold unsetE; rw [if_pos hok]
    have hU : unsetR l n = [] := by unfold unsetR; rw [if_neg (by rw [hE]; omega)]
    rw [hE, hU]
    clear hE hU hok
    go_enter Tryz.func57, Tryz.ntmps57
    go_wp2_with fail
    rw [HW1.out]
    refine HC.out.mono ?_
    rintro e w2 ⟨rfl, hB2⟩
    go_wp2
    go_ret2
    exact ⟨_, rfl, ownNone _ _ _ _, hB1.trans (hB2.mono hB1.size)⟩
  · rw [chkP_ok hok] at HC
    have HD : Hid (unsetE l n = if (dropP l n).length = l.length then 71 else 0) := Lib.hid (by
      unfold unsetE
      rw [if_neg (by rw [hok]; exact Bool.noConfusion)]
      by_cases h : getP l n = none
      · rw [if_pos h, if_pos (dropP_len.2 h)]
      · rw [if_neg h, if_neg (fun e => h (dropP_len.1 e))])
    have HRU : Hid (unsetR l n = if unsetE l n = 0 then dropP l n else []) := Lib.hid rfl
    have hdl : (dropP l n).length ≤ l.length := List.length_filter_le _ _
    have HT : Hid (∀ W, Below w1.heap.size w1 W → Calls Tryz.prog 112 #[.slice A l.length c, .func (.func 113) #[] #[.pointer (some ⟨w.heap.size, 0, none⟩)]] W fun e w' => ∃ v, e = .returned v ∧ ownP w' W.heap.size v (dropP l n) ∧ Below W.heap.size W w') := Lib.hid fun W hB =>
      thoseP_any 113 #[.pointer (some ⟨w.heap.size, 0, none⟩)] (enters_of Tryz.func113 (by kernel_rfl) rfl) (fun x => decide (x.1 ≠ n)) A c l.length l rfl hl HF.out W
        (fun W' x hB' => unset1_any w.heap.size n x W' (((HK1.out.below hB HK1.out.lt).below hB' (Nat.lt_of_lt_of_le HK1.out.lt hB.size)).cell 0)) (HR.out.below (hB1.trans (hB.mono hB1.size)))
    generalize dropP l n = dl at *
    generalize unsetE l n = E at *
    generalize unsetR l n = U at *
    clear hok
    go_enter Tryz.func57, Tryz.ntmps57
    go_wp2_with fail
    rw [HW1.out]
    refine HC.out.mono ?_
    rintro e w2 ⟨rfl, hB2⟩
    go_wp2_with fail
    refine (HT.out w2 hB2).mono ?_
    rintro e w3 ⟨v, rfl, ho3, hB3⟩
    obtain ⟨A3, c3, rfl, hc3, _, _, _⟩ := ownAny ho3
    have HO3 := Lib.hid ho3
    have hB03 : Below w.heap.size w w3 := hB1.trans ((hB2.trans (hB3.mono hB2.size)).mono hB1.size)
    have hs2 : w.heap.size ≤ w2.heap.size := Nat.le_trans hB1.size hB2.size
    clear ho3 HT HC
    by_cases hE : dl.length = l.length
    · have HE : Hid (E = 71) := Lib.hid (by rw [HD.out, if_pos hE])
      have HU : Hid (U = []) := Lib.hid (by rw [HRU.out, if_neg (by rw [HE.out]; omega)])
      have hq : ((dl.length : Int) == l.length) = true := beq_iff_eq.2 (by omega)
      clear HD HRU hE
      go_wp2
      go_ret2
      rw [HE.out, HU.out]
      exact ⟨_, rfl, ownNone _ _ _ _, hB03⟩
    · have HE : Hid (E = 0) := Lib.hid (by rw [HD.out, if_neg hE])
      have HU : Hid (U = dl) := Lib.hid (by rw [HRU.out, if_pos HE.out])
      have hq : ((dl.length : Int) == l.length) = false := beq_eq_false_iff_ne.2 (by omega)
      clear HD HRU hE
      go_wp2
      go_ret2
      rw [HE.out, HU.out]
      exact ⟨_, rfl, ownBase HO3.out hs2, hB03⟩
end Go.Proofs.YtoabkbnhdekbdaaGreat
