/-
  props: Get and copied; the reference's Prop. Conditions: the lists are as they come in.
-/
import Derived.Test.YtoabkbnhdekbdaaGreatMEM
import Derived.Test.YtoabkbnhdekbdaaGreatMSX
import Derived.Test.YtoabkbnhdekbdaaGreatMCS
import Derived.Test.YtoabkbnhdekbdaaGreatMRL
import Derived.Test.YtoabkbnhdekbdaaGreatMEB
import Derived.Test.YtoabkbnhdekbdaaGreatMTNP
import Derived.Test.YtoabkbnhdekbdaaGreatLayH
import Derived.BigQuiet
import Derived.Deep.DeepCutAuto
import Derived.Test.YtoabkbnhdekbdaaGreatLayS
import Derived.StringKeys
import Derived.Maps.OwnSet
namespace Go.Proofs.YtoabkbnhdekbdaaGreat
open Go.ChangeShapes Go.WideShapes Go.ChangeAt Go.RowKit
set_option maxRecDepth 100000
abbrev ansO (o : Option ByteArray) : Value := .tuple #[.string (o.getD ByteArray.empty), .bool o.isSome]
theorem beqT (a b : ByteArray) : (a.toList == b.toList) = decide (a = b) := by
  rw [Bool.eq_iff_iff, beq_iff_eq, decide_eq_true_eq]
  exact ⟨ba_toList, fun h => by rw [h]⟩
theorem getP_at {l : List Pr} {n : ByteArray} : ∀ {j : Nat} {x : Pr}, l[j]? = some x → x.1 = n → (∀ y ∈ l.take j, y.1 ≠ n) → getP l n = some x.2 := by
  induction l with
  | nil => intro j x h; simp at h
  | cons z l ih =>
    intro j x h hx hn
    unfold getP
    rcases j with _ | j
    · simp at h
      subst h
      rw [if_pos hx]
    · rw [if_neg (hn z (by simp)), ih (by simpa using h) hx fun y hy => hn y (by simp [hy])]
set_option maxHeartbeats 1000000 in
theorem refProp_any (A : Option Addr) (c m : Nat) (l : List Pr) (hm : l.length = m) (hl : m ≤ 4398046511104) (n : ByteArray) (w : World) (hr : Rd w A (prs l)) :
    Calls Tryz.prog 103 #[.slice A m c, .string n] w fun e w' => e = .returned (ansO (getP l n)) ∧ Below w.heap.size w w' := by
  subst hm
  obtain ⟨R, hR⟩ : ∃ R, getP l n = R := ⟨_, rfl⟩
  rw [hR]
  go_enter Tryz.func103, Tryz.ntmps103
  go_wp2
  go_loopw [6] (fun j W => ∃ k : Nat, k ≤ l.length ∧ j = .int .i64 k ∧ Hid (∀ y ∈ l.take k, y.1 ≠ n) ∧ Below w.heap.size w W) (fun j _ => l.length - (intOf j).toNat)
  case atStart => exact ⟨0, Nat.zero_le _, rfl, Lib.hid (by simp), Below.refl _ _⟩
  case round =>
    obtain ⟨k, hk, rfl, HD, hB⟩ := hrel
    by_cases hlt : k < l.length
    · obtain ⟨x, hx⟩ : ∃ x, l[k]? = some x := ⟨l[k], qZa hlt⟩
      obtain ⟨b, off, rfl, hb, hc0, hc1⟩ := (Rd.below hr hB).pr hx
      have hlk : (k : Int) < l.length := by omega
      have hd := beqT x.1 n
      by_cases he : x.1 = n
      · have HG : Hid (R = some x.2) := Lib.hid (by rw [← hR, getP_at hx he HD.out])
        rw [decide_eq_true he] at hd
        clear HD hR he hx
        go_wp2
        go_ret2
        rw [HG.out]
        exact ⟨rfl, hB⟩
      · have HD' : Hid (∀ y ∈ l.take (k + 1), y.1 ≠ n) := Lib.hid (by
          rw [List.take_add_one, hx]
          intro y hy
          rcases List.mem_append.1 hy with hy | hy
          · exact HD.out y hy
          · simp at hy
            rw [hy]
            exact he)
        rw [decide_eq_false he] at hd
        clear HD hR he hx
        go_wp2
        go_round
        case rel => exact ⟨k + 1, by omega, by go_num, HD', hB⟩
        case measure => simp [intOf]; omega
    · have HG : Hid (R = none) := Lib.hid (by
        have := HD.out
        rw [List.take_of_length_le (by omega)] at this
        rw [← hR]
        exact getP_none.2 this)
      clear HD hR
      go_wp2
      go_ret2
      rw [HG.out]
      exact ⟨rfl, hB⟩
set_option maxHeartbeats 1000000
theorem copied_any (x : Pr) (h1 : x.1.size ≤ 140737488355328) (h2 : x.2.size ≤ 140737488355328) (w : World) :
    Calls Tryz.prog 156 #[prV x] w fun e w' => e = .returned (prV x) ∧ Below w.heap.size w w' := by
  obtain ⟨x1, x2⟩ := x
  dsimp only at h1 h2 ⊢
  obtain ⟨u1, hw1⟩ : ∃ u1, w.alloc (.cells #[.string x1, .string x2] 105) = u1 := ⟨_, rfl⟩
  have k1 : Blk u1 w.heap.size 105 [.string x1, .string x2] := hw1 ▸ Blk.new w _ _
  have hB1 : Below w.heap.size w u1 := hw1 ▸ (Below.refl _ w).alloc (Nat.le_refl _) _
  have hlt1 : w.heap.size < u1.heap.size := k1.lt
  obtain ⟨u2, hw2⟩ : ∃ u2, u1.alloc (.cells #[.string ⟨#[]⟩, .string ⟨#[]⟩] 105) = u2 := ⟨_, rfl⟩
  have k2 : Blk u2 u1.heap.size 105 [.string ⟨#[]⟩, .string ⟨#[]⟩] := hw2 ▸ Blk.new u1 _ _
  have hB2 : Below u1.heap.size u1 u2 := hw2 ▸ (Below.refl _ u1).alloc (Nat.le_refl _) _
  have hlt2 : u1.heap.size < u2.heap.size := k2.lt
  have hlt12 : w.heap.size < u2.heap.size := by omega
  have k12 := k1.below hB2 hlt1
  have x0 := k12.cell 0
  have y0 := k12.cell 1
  simp only [gZa, gZb] at x0 y0
  have HK2 := Lib.hid k2
  have HB1 := Lib.hid hB1
  have HB2 := Lib.hid hB2
  have HW1 := Lib.hid hw1
  have HW2 := Lib.hid hw2
  clear k1 k2 k12 hB1 hB2 hw1 hw2
  go_enter Tryz.func156, Tryz.ntmps156
  go_upto_region 1 with fail
  have hX : w.heap.size + 1 = u1.heap.size := by rw [← HW1.out, World.size_alloc]
  rw [HW1.out, HW2.out, hX]
  refine wp_region_noPanic ?_
  refine wp_region_last 7 (fun W' => W'.cell? ⟨w.heap.size, 0, none⟩ = some (.string x1) ∧ W'.cell? ⟨w.heap.size, 1, none⟩ = some (.string x2)) (by kernel_rfl) ⟨x0, y0⟩ (fun hHeld => ?_)
  refine tkA 16 (i := 0) (oi := ⟨some 3, _, _, _, _, _⟩) rfl hHeld ?_
  try simp only [Act.put, pZa, pZb, pZc]
  refine tkA 16 (i := 1) (oi := ⟨some 4, _, _, _, _, _⟩) rfl hHeld ?_
  try simp only [Act.put, pZa, pZb, pZc]
  refine tkA 16 (i := 3) (oi := ⟨some 6, _, _, _, _, _⟩) rfl hHeld ?_
  try simp only [Act.put, pZa, pZb, pZc]
  refine tkA 16 (i := 4) (oi := ⟨some 7, _, _, _, _, _⟩) rfl hHeld ?_
  try simp only [Act.put, pZa, pZb, pZc]
  clear hHeld
  refine wpAnyL_facts 16 3 1 [(2, 5), (5, 8), (6, 9)] (fun s v w => match s with
    | 5 => v = .string x1
    | 8 => v = .string x2
    | 9 => v = .agg #[.string x1, .string x2]
    | _ => True) (fun w w' => Below w.heap.size w w') (by kernel_rfl) (by kernel_rfl) bZh ⟨?_, ?_, ?_, trivial⟩ (fun w' hB => ⟨(hB.cell (p := ⟨w.heap.size, 0, none⟩) hlt12).trans x0, (hB.cell (p := ⟨w.heap.size, 1, none⟩) hlt12).trans y0⟩) ⟨?_, ?_, ?_, trivial⟩ ?_
  focus
    intro v w w' h hB
    exact h
  focus
    intro v w w' h hB
    exact h
  focus
    intro v w w' h hB
    exact h
  focus
    intro vs w2 hBf hFf o ho K hK
    obtain rfl : (⟨some 5, _, _, _, _, _⟩ : Oper) = o := Option.some.inj ho
    clear ho
    (try simp only [fillL, pZd, pZe, Act.put, pZa, pZb, pZc] at hK ⊢)
    go_simp
    refine (cloneU_any x1 (by omega) w2).mono ?_
    rintro e w3 ⟨rfl, hB9⟩
    refine hK.out _ _ ⟨rfl, hB9⟩
  focus
    intro vs w2 hBf hFf o ho K hK
    obtain rfl : (⟨some 8, _, _, _, _, _⟩ : Oper) = o := Option.some.inj ho
    clear ho
    (try simp only [fillL, pZd, pZe, Act.put, pZa, pZb, pZc] at hK ⊢)
    go_simp
    refine (cloneU_any x2 (by omega) w2).mono ?_
    rintro e w3 ⟨rfl, hB9⟩
    refine hK.out _ _ ⟨rfl, hB9⟩
  focus
    intro vs w2 hBf hFf o ho K hK
    obtain rfl : (⟨some 9, _, _, _, _, _⟩ : Oper) = o := Option.some.inj ho
    clear ho
    (try simp only [fillL, pZd, pZe, Act.put, pZa, pZb, pZc] at hK ⊢)
    have e1 : vs 5 = .string x1 := (hFf (2, 5) (by simp) (by kernel_rfl))
    have e2 : vs 8 = .string x2 := (hFf (5, 8) (by simp) (by kernel_rfl))
    simp only [e1, e2] at hK ⊢
    go_simp
    refine hK.out _ _ ⟨rfl, Below.refl _ _⟩
  intro vs w2 hBf hFf
  (try simp only [fillL, pZd, pZe, Act.put, pZa, pZb, pZc])
  have e1 : vs 9 = .agg #[.string x1, .string x2] := (hFf (6, 9) (by simp))
  have KX := HK2.out.below ((Below.refl _ _).drew.trans hBf) HK2.out.lt
  simp only [e1]
  have fx0 := KX.frozen 0
  have fx1 := KX.frozen 1
  have cx0 := KX.cell 0
  have cx1 := KX.cell 1
  simp only [gZa, gZb] at cx0 cx1
  refine wpAnyL_last (i := 7) (o := ⟨none, _, _, _, _, _⟩) (by kernel_rfl) rfl (by kernel_rfl) (fun K hK => ?_)
  go_simp
  go_wp2_with fail
  refine hK.out _ _ ?_
  clear hK K
  try simp only [Act.put, pZa, pZb, pZc]
  refine wpAnyL_done (by kernel_rfl) ?_ _
  refine NoPanic.normal ?_
  have k5 : Blk ((w2.setCell ⟨u1.heap.size, 0, none⟩ (.string x1)).setCell ⟨u1.heap.size, 1, none⟩ (.string x2)) u1.heap.size 105 [.string x1, .string x2] := (KX.set 0 _).set 1 _
  have hB02 : Below w.heap.size w u2 := HB1.out.trans (HB2.out.mono HB1.out.size)
  have hB2 : Below w.heap.size w w2 := hB02.trans ((((Below.refl _ u2).drew.trans hBf)).mono hB02.size)
  have hB5 : Below w.heap.size w ((w2.setCell ⟨u1.heap.size, 0, none⟩ (.string x1)).setCell ⟨u1.heap.size, 1, none⟩ (.string x2)) := (hB2.setCell (p := ⟨u1.heap.size, 0, none⟩) (by show w.heap.size ≤ u1.heap.size; omega) _).setCell (p := ⟨u1.heap.size, 1, none⟩) (by show w.heap.size ≤ u1.heap.size; omega) _
  have z0 := k5.cell 0
  have z1 := k5.cell 1
  simp only [gZa, gZb] at z0 z1
  generalize (w2.setCell ⟨u1.heap.size, 0, none⟩ (.string x1)).setCell ⟨u1.heap.size, 1, none⟩ (.string x2) = w5 at *
  go_wp2
  refine bodyPost_ret (v := prV (x1, x2)) (by simp [results, Tryz.results156, go_sem, z0, z1]) rfl ⟨rfl, hB5⟩
theorem thoseP_any (gf : Nat) (lb : Array Value) (eg : Enters Tryz.prog gf) (q : Pr → Bool) (A : Option Addr) (c n : Nat) (l : List Pr) (hn : l.length = n) (hl : n ≤ 4398046511103) (hf : ∀ x ∈ l, x.1.size ≤ 140737488351232 ∧ x.2.size ≤ 140737488351232) (w : World)
    (hp : ∀ W x, Below w.heap.size w W → Calls Tryz.prog gf (#[prV x] ++ lb) W fun e W' => e = .returned (.bool (q x)) ∧ Below W.heap.size W W') (hr : Rd w A (prs l)) :
    Calls Tryz.prog 112 #[.slice A n c, .func (.func gf) #[] lb] w fun e w' => ∃ v, e = .returned v ∧ ownP w' w.heap.size v (l.filter q) ∧ Below w.heap.size w w' := by
  subst hn
  obtain ⟨i0, hi, hz0, hz1, hz2⟩ := infoParts infoPr
  have eg' : ∀ args w, (callFunc gf args).run Tryz.prog w = .ok (.enter gf args) w := eg
  go_enter Tryz.func112, Tryz.ntmps112
  go_wp2
  go_loopw [5, 10] (fun v j W => ∃ k : Nat, k ≤ l.length ∧ j = .int .i64 k ∧ Hid (ownP W w.heap.size v ((l.take k).filter q)) ∧ Below w.heap.size w W) (fun _ j _ => l.length - (intOf j).toNat)
  case atStart => exact ⟨0, Nat.zero_le _, rfl, Lib.hid (ownNone _ _ _ _), Below.refl _ _⟩
  case round =>
    obtain ⟨k, hk, rfl, HO, hB⟩ := hrel
    obtain ⟨Av, cv, hv, _, _, _, _⟩ := ownAny HO.out
    subst hv
    by_cases hlt : k < l.length
    · obtain ⟨x, hx⟩ : ∃ x, l[k]? = some x := ⟨l[k], qZa hlt⟩
      obtain ⟨b, off, rfl, hb, hc0, hc1⟩ := (Rd.below hr hB).pr hx
      obtain ⟨hks1, hks2⟩ := hf x (List.mem_of_getElem? hx)
      obtain ⟨w1, hw1⟩ : ∃ w1, wr.alloc (.cells #[.string x.1, .string x.2] 105) = w1 := ⟨_, rfl⟩
      have hB1 : Below wr.heap.size wr w1 := hw1 ▸ (Below.refl _ wr).alloc (Nat.le_refl _) _
      have k1 : Blk w1 wr.heap.size 105 [.string x.1, .string x.2] := hw1 ▸ Blk.new wr _ _
      have x0 := k1.cell 0
      have y0 := k1.cell 1
      simp only [gZa, gZb] at x0 y0
      have HP := Lib.hid (hp w1 x (hB.trans (hB1.mono hB.size)))
      have HK := Lib.hid k1
      have HW := Lib.hid hw1
      have HTK := Lib.hid (takeFilter q hx)
      have hfl := filterLe q l k
      clear hx k1 hw1
      go_wp2_with fail
      rw [HW.out]
      go_wp2_with fail
      refine HP.out.mono ?_
      rintro e w2 ⟨rfl, hB2⟩
      have hB12 : Below wr.heap.size wr w2 := hB1.trans (hB2.mono hB1.size)
      have k2 := HK.out.below hB2 HK.out.lt
      have x1 := k2.cell 0
      have y1 := k2.cell 1
      simp only [gZa, gZb] at x1 y1
      have hB02 := hB.trans (hB12.mono hB.size)
      have HO2 := Lib.hid (ownBelow HO.out hB12 (Nat.le_refl _))
      clear HP HK x0 y0 HW k2
      rcases hqq : q x with _ | _
      · have HO' : Hid (ownP w2 w.heap.size (.slice Av ((l.take k).filter q).length cv) ((l.take (k + 1)).filter q)) := Lib.hid (by
          rw [HTK.out, hqq]
          simpa using HO2.out)
        clear HO2 HTK hqq
        go_wp2
        go_roundw
        case rel => exact ⟨k + 1, by omega, by go_num, HO', hB02⟩
        case measure => simp [intOf]; omega
      · have HTK' : Hid ((l.take (k + 1)).filter q = (l.take k).filter q ++ [x]) := Lib.hid (by rw [HTK.out, hqq]; rfl)
        clear HTK hqq
        have HC := Lib.hid (copied_any x (by omega) (by omega) w2)
        go_wp2_with fail
        refine HC.out.mono ?_
        rintro e w3 ⟨rfl, hB3⟩
        have hB03 := hB02.trans (hB3.mono hB02.size)
        have HO3 := Lib.hid (ownBelow HO2.out hB3 (Nat.le_refl _))
        have hs3 := hB03.size
        generalize hfk : (l.take k).filter q = fk at *
        have HFK := Lib.hid hfk
        clear hfk HC
        go_wp2_with (at_builtin; refine wpList_append_lies _ rfl _ _ 47 rfl w.heap.size 105 i0 (.agg #[.string ByteArray.empty, .string ByteArray.empty]) 2 32 Tryz.underlying47 hi hz0 hz1 hz2 rfl (by decide) (.slice Av fk.length cv) fk.length (prs fk) rfl (ownBelow HO3.out ((Below.refl _ _).alloc (Nat.le_refl _) _) (Nat.le_refl _)) ⟨w3.heap.size, 0, none⟩ 1 1 [.string x.1, .string x.2] rfl rfl (newsNew _ _ _) (by simp [Value.oneCell']) (by omega) (by unfold maxLen; omega) (by omega) (by simp; omega) _ rfl ?_; intro g6 c6 x6 ho6 hg6 _ _
                     have HB6 : Hid (Below w.heap.size w x6) := Lib.hid ((hB03.alloc hs3 _).grown hg6 (by simp; omega) (fun j e => (HO3.out.lt j e).1))
                     have HO6 : Hid (ownP x6 w.heap.size (.slice (some ⟨g6, 0, none⟩) (fk.length + 1) c6) ((l.take (k + 1)).filter q)) := Lib.hid (by rw [HTK'.out]; exact ownP_snoc ho6)
                     clear ho6 hg6)
        go_roundw
        case rel => exact ⟨k + 1, by omega, by go_num, HO6, HB6.out⟩
        case measure => simp [intOf]; omega
    · obtain rfl : k = l.length := by omega
      have HO' : Hid (ownP wr w.heap.size (.slice Av ((l.take l.length).filter q).length cv) (l.filter q)) := Lib.hid (by have := HO.out; rw [List.take_length] at this ⊢; exact this)
      clear HO
      go_wp2
      go_ret
      exact ⟨_, rfl, HO'.out, hB⟩
theorem unset1_any (B0 : Nat) (n : ByteArray) (x : Pr) (w : World) (h0 : w.cell? ⟨B0, 0, none⟩ = some (.string n)) :
    Calls Tryz.prog 113 #[prV x, .pointer (some ⟨B0, 0, none⟩)] w fun e w' => e = .returned (.bool (decide (x.1 ≠ n))) ∧ Below w.heap.size w w' := by
  have hB0 : Below w.heap.size w (w.alloc (.cells #[.string x.1, .string x.2] 105)) := (Below.refl _ w).alloc (Nat.le_refl _) _
  have hl := World.block_lt_of_cell? w ⟨B0, 0, none⟩ h0
  have hd := beqT x.1 n
  rw [decide_not]
  go_enter Tryz.func113, Tryz.ntmps113
  go_wp2
  go_ret
  exact ⟨rfl, hB0⟩
def unsetE (l : List Pr) (n : ByteArray) : Int := if okP l = false then 9 else if getP l n = none then 71 else 0
def unsetR (l : List Pr) (n : ByteArray) : List Pr := if unsetE l n = 0 then dropP l n else []
theorem dropP_len {l : List Pr} {n : ByteArray} : (dropP l n).length = l.length ↔ getP l n = none := by
  unfold dropP
  rw [getP_none]
  constructor
  · intro h
    have := List.length_filter_eq_length_iff.1 h
    exact fun p hp => of_decide_eq_true (this p hp)
  · intro h
    exact List.length_filter_eq_length_iff.2 fun p hp => decide_eq_true (h p hp)
theorem unset_any (A : Option Addr) (c m : Nat) (l : List Pr) (hm : l.length = m) (hl : m ≤ 4398046511103) (hf : ∀ x ∈ l, x.1.size ≤ 140737488351232 ∧ x.2.size ≤ 140737488351232) (n : ByteArray) (w : World) (hr : Rd w A (prs l)) :
    Calls Tryz.prog 57 #[.slice A m c, .string n] w fun e w' => ∃ v, e = .returned (ansP v (unsetE l n)) ∧ ownP w' w.heap.size v (unsetR l n) ∧ Below w.heap.size w w' := by
  subst hm
  obtain ⟨w1, hw1⟩ : ∃ w1, w.alloc (.cells #[.string n] 9) = w1 := ⟨_, rfl⟩
  have hB1 : Below w.heap.size w w1 := hw1 ▸ (Below.refl _ w).alloc (Nat.le_refl _) _
  have k1 : Blk w1 w.heap.size 9 [.string n] := hw1 ▸ Blk.new w _ _
  have HK1 := Lib.hid k1
  have HW1 := Lib.hid hw1
  have HC := Lib.hid (check_any A c l.length l rfl (by omega) (fun x hx => (hf x hx).2) w1 (hr.below hB1))
  have HR := Lib.hid hr
  have HF := Lib.hid hf
  clear k1 hw1 hr hf
  rcases hok : okP l with _ | _
  · rw [chkP_no hok] at HC
    have hE : unsetE l n = 9 := by unfold unsetE; rw [if_pos hok]
    have hU : unsetR l n = [] := by unfold unsetR; rw [if_neg (by rw [hE]; omega)]
    rw [hE, hU]
    clear hE hU hok
    go_enter Tryz.func57, Tryz.ntmps57
    go_wp2_with fail
    rw [HW1.out]
    refine HC.out.mono ?_
    rintro e w2 ⟨rfl, hB2⟩
    go_wp2
    go_ret2
    exact ⟨_, rfl, ownNone _ _ _ _, hB1.trans (hB2.mono hB1.size)⟩
  · rw [chkP_ok hok] at HC
    have HD : Hid (unsetE l n = if (dropP l n).length = l.length then 71 else 0) := Lib.hid (by
      unfold unsetE
      rw [if_neg (by rw [hok]; exact Bool.noConfusion)]
      by_cases h : getP l n = none
      · rw [if_pos h, if_pos (dropP_len.2 h)]
      · rw [if_neg h, if_neg (fun e => h (dropP_len.1 e))])
    have HRU : Hid (unsetR l n = if unsetE l n = 0 then dropP l n else []) := Lib.hid rfl
    have hdl : (dropP l n).length ≤ l.length := List.length_filter_le _ _
    have HT : Hid (∀ W, Below w1.heap.size w1 W → Calls Tryz.prog 112 #[.slice A l.length c, .func (.func 113) #[] #[.pointer (some ⟨w.heap.size, 0, none⟩)]] W fun e w' => ∃ v, e = .returned v ∧ ownP w' W.heap.size v (dropP l n) ∧ Below W.heap.size W w') := Lib.hid fun W hB =>
      thoseP_any 113 #[.pointer (some ⟨w.heap.size, 0, none⟩)] (enters_of Tryz.func113 (by kernel_rfl) rfl) (fun x => decide (x.1 ≠ n)) A c l.length l rfl hl HF.out W
        (fun W' x hB' => unset1_any w.heap.size n x W' (((HK1.out.below hB HK1.out.lt).below hB' (Nat.lt_of_lt_of_le HK1.out.lt hB.size)).cell 0)) (HR.out.below (hB1.trans (hB.mono hB1.size)))
    generalize dropP l n = dl at *
    generalize unsetE l n = E at *
    generalize unsetR l n = U at *
    clear hok
    go_enter Tryz.func57, Tryz.ntmps57
    go_wp2_with fail
    rw [HW1.out]
    refine HC.out.mono ?_
    rintro e w2 ⟨rfl, hB2⟩
    go_wp2_with fail
    refine (HT.out w2 hB2).mono ?_
    rintro e w3 ⟨v, rfl, ho3, hB3⟩
    obtain ⟨A3, c3, rfl, hc3, _, _, _⟩ := ownAny ho3
    have HO3 := Lib.hid ho3
    have hB03 : Below w.heap.size w w3 := hB1.trans ((hB2.trans (hB3.mono hB2.size)).mono hB1.size)
    have hs2 : w.heap.size ≤ w2.heap.size := Nat.le_trans hB1.size hB2.size
    clear ho3 HT HC
    by_cases hE : dl.length = l.length
    · have HE : Hid (E = 71) := Lib.hid (by rw [HD.out, if_pos hE])
      have HU : Hid (U = []) := Lib.hid (by rw [HRU.out, if_neg (by rw [HE.out]; omega)])
      have hq : ((dl.length : Int) == l.length) = true := beq_iff_eq.2 (by omega)
      clear HD HRU hE
      go_wp2
      go_ret2
      rw [HE.out, HU.out]
      exact ⟨_, rfl, ownNone _ _ _ _, hB03⟩
    · have HE : Hid (E = 0) := Lib.hid (by rw [HD.out, if_neg hE])
      have HU : Hid (U = dl) := Lib.hid (by rw [HRU.out, if_pos HE.out])
      have hq : ((dl.length : Int) == l.length) = false := beq_eq_false_iff_ne.2 (by omega)
      clear HD HRU hE
      go_wp2
      go_ret2
      rw [HE.out, HU.out]
      exact ⟨_, rfl, ownBase HO3.out hs2, hB03⟩
end Go.Proofs.YtoabkbnhdekbdaaGreat
namespace Go.Proofs.YtoabkbnhdekbdaaGreat
open Go.ChangeShapes Go.WideShapes Go.ChangeAt Go.RowKit Go.Maps Go.Sort
set_option maxRecDepth 100000
abbrev Dh := DataW Value
def heldV (v : Value) : Option (DataW Value × List MemPlace) := some (.held v, [])
abbrev bKey (s : ByteArray) : Lit := .string s.data.toList
theorem keyedT : Keyed Tryz.prog 9 := string_keyed Tryz.underlying9
theorem keyT {s : ByteArray} (h : s.size ≤ maxLen) : keyOf Tryz.prog 9 (.string s) = some (bKey s) := WideMaps.keyOf_string_mk Tryz.underlying9 h
theorem bKey_inj {a b : ByteArray} (h : bKey a = bKey b) : a = b := by
  injection h with h
  exact bs_inj h
abbrev prZ : Value := .agg #[.string ⟨#[]⟩, .string ⟨#[]⟩]
abbrev prAt (m : List Pr) (k : ByteArray) : Value := match getP m k with | some v => prV (k, v) | none => prZ
def MapPr (D : Dh) (m : List Pr) : Prop := IsMap D ∧ ∀ k : ByteArray, Maps.has D (bKey k) = (getP m k).isSome ∧ D.atKey (bKey k) (.held prZ) = .held (prAt m k)
theorem MapPr.empty : MapPr (.map []) [] := ⟨isMap_empty, fun _ => ⟨rfl, rfl⟩⟩
theorem MapPr.put {D : Dh} {m : List Pr} (h : MapPr D m) (hr : RisP m) (p : Pr) : MapPr (D.put (bKey p.1) (.held (prV p))) (putP m p) := by
  refine ⟨h.1.put _ _, fun k => ?_⟩
  unfold prAt
  rw [getP_put hr]
  by_cases e : p.1 = k
  · subst e
    rw [if_pos rfl, has_put_same h.1 (show WideAt.IsKeyLit (bKey p.1) from trivial), atKey_put_same h.1 (show WideAt.IsKeyLit (bKey p.1) from trivial)]
    exact ⟨rfl, rfl⟩
  · have hne : bKey k ≠ bKey p.1 := fun h' => e (bKey_inj h').symm
    rw [if_neg e, has_put_other hne, atKey_put_other hne]
    exact h.2 k
theorem mapPr_look {w : World} {mb n : Nat} {D : Dh} {m : List Pr} (h : w.ownsMap Tryz.prog 9 heldV mb n D) (hM : MapPr D m) {k : ByteArray} (hk : k.size ≤ maxLen) :
    (Instr.lookup 182 (.map (some mb)) (.string k) false).run Tryz.prog w = .ok (prAt m k) w := by
  have hz : (zeroValue 105).run Tryz.prog w = .ok prZ w := by kernel_rfl
  obtain ⟨v, ps, hrun, hv⟩ := h.lookup keyedT Tryz.underlying182 hz (zd := .held prZ) (zp := []) rfl (keyT hk)
  have hv' : DataW.held v = D.atKey (bKey k) (.held prZ) := by
    have := congrArg (Option.map Prod.fst) hv
    simpa [heldV] using this
  rw [(hM.2 k).2] at hv'
  injection hv' with hv'
  rw [← hv']
  exact hrun
theorem blt_eq : ∀ x y : List UInt8, Op.bytesLess x y = decide (x < y)
  | [], [] => by simp [Op.bytesLess]
  | _ :: _, [] => by simp [Op.bytesLess]
  | [], _ :: _ => by simp [Op.bytesLess]
  | a :: x, b :: y => by
    rw [Op.bytesLess, blt_eq x y]
    simp only [List.cons_lt_cons_iff]
    by_cases h1 : a < b <;> by_cases h2 : a = b <;> by_cases h3 : x < y <;> simp [h1, h2, h3]
theorem ltK_lt {a b : ByteArray} : ltK a b ↔ bs a < bs b := by
  unfold ltK
  rw [ByteArray.toList_eq, ByteArray.toList_eq, blt_eq, decide_eq_true_eq]
  rfl
def namesP (m : List Pr) : List (List UInt8) := m.map fun p => bs p.1
theorem namesP_nodup {m : List Pr} (h : RisP m) : (namesP m).Nodup := by
  unfold namesP
  exact List.pairwise_map.2 (h.imp fun {a b} hab e => ltK_ne hab (bs_inj e))
theorem getP_some_iff {m : List Pr} {k : ByteArray} : (getP m k).isSome = true ↔ bs k ∈ namesP m := by
  unfold namesP
  rw [List.mem_map, Option.isSome_iff_ne_none, ne_eq, getP_none]
  constructor
  · intro h
    apply Classical.byContradiction
    intro h2
    exact h fun p hp e => h2 ⟨p, hp, by rw [e]⟩
  · rintro ⟨p, hp, e⟩ h
    exact h p hp (bs_inj e)
theorem mapPr_keys {w : World} {mb n : Nat} {D : Dh} {m : List Pr} (h : w.ownsMap Tryz.prog 9 heldV mb n D) (hM : MapPr D m) (hr : RisP m) : (namesP m).Perm (strKeys D) ∧ Maps.size D = m.length := by
  obtain ⟨es, hD, hpw, _⟩ := h.entries keyedT
  obtain ⟨es', hD', hko⟩ := h.keysOf
  obtain rfl : es = es' := by rw [hD] at hD'; simpa using hD'
  subst hD
  have hp := perm_strKeys hpw (fun p hp => by obtain ⟨v, hv⟩ := hko p hp; obtain ⟨x, _, hx, _⟩ := Maps.keyOf_str Tryz.underlying9 hv; exact ⟨x, hx⟩) (namesP_nodup hr) (fun x => by
    have h1 := (hM.2 (ofL x)).1
    have e : bKey (ofL x) = .string x := by show Lit.string (bs (ofL x)) = _; rw [bs_ofL]
    rw [e] at h1
    rw [h1, getP_some_iff, bs_ofL])
  refine ⟨hp, ?_⟩
  have := hp.length_eq
  rw [show (namesP m).length = m.length from List.length_map ..] at this
  rw [this]
  show es.length = (es.map _).length
  simp
theorem sorted_names {m : List Pr} (h : RisP m) {ss : List (List UInt8)} (hp : ss.Perm (namesP m)) : ss.mergeSort (fun x y => decide (x ≤ y)) = namesP m := by
  have tr : ∀ a b c : List UInt8, leB a b = true → leB b c = true → leB a c = true := fun a b c h1 h2 => by simp only [leB, decide_eq_true_eq] at *; exact List.le_trans h1 h2
  have to : ∀ a b : List UInt8, (leB a b || leB b a) = true := fun a b => by simp only [leB, Bool.or_eq_true, decide_eq_true_eq]; exact List.le_total a b
  refine List.Perm.eq_of_pairwise (le := fun a b => leB a b = true) (fun a b _ _ h1 h2 => ?_) (List.pairwise_mergeSort tr to ss) ?_ ((List.mergeSort_perm ss leB).trans hp)
  · simp only [leB, decide_eq_true_eq] at h1 h2
    exact List.le_antisymm h1 h2
  · unfold namesP
    exact List.pairwise_map.2 (h.imp fun {a b} hab => by simp only [leB, decide_eq_true_eq]; exact List.le_of_lt (ltK_lt.1 hab))
theorem keysS_any (mb : Option Nat) (W : World) : Calls Tryz.prog 155 #[.map mb] W fun e w' => e = .returned (.func (.func 188) #[] #[.pointer (some ⟨W.heap.size, 0, none⟩)]) ∧ w' = W.alloc (.cells #[.map mb] 182) :=
  (callsIn_wide (n := 5)).1 (AnyZ.keys_in Tryz.keysS Fence.wide 5 trivial rfl mb W)
theorem sortsS (m : Nat) : AnyZ.SortsIn Tryz.prog Tryz.sortedS_ren Fence.wide m :=
  ⟨fun blk off cap ss W hH hblk hsz => callsIn_wide.2 (AnyM.slices_Sort_string Tryz.sortS blk off cap ss W hH hblk hsz),
   fun p cap W => callsIn_wide.2 (AnyM.slices_Sort_string_none Tryz.sortS p cap W)⟩
set_option maxHeartbeats 1000000 in
theorem sortedS_any {w : World} {mb n : Nat} {D : Dh} {m : List Pr} (hown : w.ownsMap Tryz.prog 9 heldV mb n D) (hM : MapPr D m) (hr : RisP m) (hl : m.length ≤ 4398046511104) :
    Calls Tryz.prog 154 #[.func (.func 188) #[] #[.pointer (some ⟨w.heap.size, 0, none⟩)]] (w.alloc (.cells #[.map (some mb)] 182)) fun e w' => ∃ A c, e = .returned (.slice A m.length c) ∧ Rd w' A (m.map fun p => .string p.1) ∧ Below w.heap.size w w' := by
  obtain ⟨hp, hsz⟩ := mapPr_keys hown hM hr
  have hbl := hown.lt
  have hseq : SeqGives Fence.wide 2 Tryz.prog 188 #[.pointer (some ⟨w.heap.size, 0, none⟩)] encStr (fun ss => ss.Perm (strKeys D)) (Maps.size D) (w.alloc (.cells #[.map (some mb)] 182)) :=
    AnyZ.keys_gives (ρ := Tryz.keysS_ren) { Tryz.keysS with } Fence.wide _ trivial rfl (by omega) w.heap.size mb n D _ (by simp) (by simp) (by
      obtain ⟨es, clock, hb, Ft, hs, hD⟩ := hown
      exact ⟨es, clock, (Below.heap_alloc _ _ mb hbl).trans hb, Ft, hs, hD⟩)
  have cS := AnyZ.sorted_in Tryz.sortedS Fence.wide 5 trivial trivial trivial trivial rfl (by omega) (sortsS _) (enters_of Tryz.func187 (by kernel_rfl) rfl) 188 #[.pointer (some ⟨w.heap.size, 0, none⟩)] trivial (enters_of Tryz.func188 (by kernel_rfl) rfl) _ _ (by rw [hsz]; unfold maxLen; omega) (by rw [hsz]; omega) _ hseq
  refine ((callsIn_wide (n := 5)).1 cS).mono ?_
  rintro e w' ⟨v, ss, rfl, hS, hrow, _, hB⟩
  have hss : ss.Perm (namesP m) := hS.trans hp.symm
  rw [sorted_names hr hss, hss.length_eq, show (namesP m).length = m.length from List.length_map ..] at hrow
  obtain ⟨A, c, rfl, _, _, hrd, _⟩ := ownAny hrow
  refine ⟨A, c, rfl, ?_, ((Below.refl _ w).alloc (Nat.le_refl _) _).trans (hB.mono (by simp))⟩
  have e : (namesP m).map encStr = m.map fun p => Value.string p.1 := by
    unfold namesP
    rw [List.map_map]
    exact List.map_congr_left fun p _ => by show Value.string (ofL (bs p.1)) = _; rw [ofL_bs]
  rw [← e]
  exact hrd.1
end Go.Proofs.YtoabkbnhdekbdaaGreat
namespace Go.Proofs.YtoabkbnhdekbdaaGreat
open Go.ChangeShapes Go.WideShapes Go.ChangeAt Go.RowKit Go.Maps
set_option maxRecDepth 100000
theorem ownMap_block {w w' : World} {k : TypeId} {b n : Nat} {D : Dh} (h : w.ownsMap Tryz.prog k heldV b n D) (e : w'.heap[b]? = w.heap[b]?) : w'.ownsMap Tryz.prog k heldV b n D := by
  obtain ⟨es, clock, hb, r⟩ := h
  exact ⟨es, clock, e.trans hb, r⟩
structure SlsP (w : World) (L : Option Addr) (ls : List (Sl Pr)) : Prop where
  rd : Rd w L (ls.map fun s => s.val)
  each : ∀ s ∈ ls, Rd w s.A (prs s.l) ∧ s.l.length ≤ 4398046511103 ∧ ∀ x ∈ s.l, x.1.size ≤ 140737488351232 ∧ x.2.size ≤ 140737488351232
theorem SlsP.below {w w' : World} {L : Option Addr} {ls : List (Sl Pr)} (h : SlsP w L ls) (hB : Below w.heap.size w w') : SlsP w' L ls := ⟨h.rd.below hB, fun s hs => ⟨(h.each s hs).1.below hB, (h.each s hs).2⟩⟩
theorem SlsP.at_ {w : World} {L : Option Addr} {ls : List (Sl Pr)} (h : SlsP w L ls) {k : Nat} {s : Sl Pr} (hk : ls[k]? = some s) : ∃ b off, L = some ⟨b, off, none⟩ ∧ b < w.heap.size ∧ w.cell? ⟨b, off + k, none⟩ = some (.slice s.A s.l.length s.c) := by
  have h1 : (ls.map fun s => s.val)[k]? = some s.val := by rw [List.getElem?_map, hk]; rfl
  obtain ⟨b, off, e, hb, hc⟩ := h.rd (by intro e; rw [e] at h1; simp at h1)
  exact ⟨b, off, e, hb, hc _ _ h1⟩
set_option maxHeartbeats 4000000 in
theorem over_any (L : Option Addr) (c n : Nat) (ls : List (Sl Pr)) (hn : ls.length = n) (hl : n ≤ 4398046511103) (w : World) (hr : SlsP w L ls) :
    Calls Tryz.prog 111 #[.slice L n c] w fun e w' => ∃ v, e = .returned (ansP v (overE (ls.map (·.l)))) ∧ ownP w' w.heap.size v (overR (ls.map (·.l))) ∧ Below w.heap.size w w' := by
  subst hn
  obtain ⟨i0, hi, hz0, hz1, hz2⟩ := infoParts infoPr
  obtain ⟨E, hE⟩ : ∃ E, overE (ls.map (·.l)) = E := ⟨_, rfl⟩
  obtain ⟨U, hU⟩ : ∃ U, overR (ls.map (·.l)) = U := ⟨_, rfl⟩
  have HE := Lib.hid hE
  have HU : Hid (U = if E = 0 then overL (ls.map (·.l)) else []) := Lib.hid (by rw [← hU, ← hE]; rfl)
  have HR := Lib.hid hr
  rw [hE, hU]
  clear hE hU hr
  have hmm : ∀ w : World, (Instr.makeMap 182 none).run Tryz.prog w = .ok (.map (some w.heap.size)) (w.alloc (.map #[] 0)) := fun _ => by kernel_rfl
  go_enter Tryz.func111, Tryz.ntmps111
  go_wp2
  go_loopw [17] (fun i W => ∃ k : Nat, k ≤ ls.length ∧ i = .int .i64 k ∧ Hid (((ls.map (·.l)).take k).all okP = true) ∧ Below w.heap.size w W) (fun i _ => ls.length - (intOf i).toNat)
  case atStart => exact ⟨0, Nat.zero_le _, rfl, Lib.hid (by simp), Below.refl _ _⟩
  case round =>
    obtain ⟨k, hk, rfl, HD, hB⟩ := hrel
    by_cases hlt : k < ls.length
    · obtain ⟨s, hs⟩ : ∃ s, ls[k]? = some s := ⟨ls[k], qZa hlt⟩
      have hrw := HR.out.below hB
      obtain ⟨b, off, rfl, hb, hc0⟩ := hrw.at_ hs
      obtain ⟨hrs, hls, hfs⟩ := hrw.each s (List.mem_of_getElem? hs)
      have HC := Lib.hid (check_any s.A s.c s.l.length s.l rfl (by omega) (fun x hx => (hfs x hx).2) wr hrs)
      have HT : Hid (((ls.map (·.l)).take (k + 1)).all okP = okP s.l) := Lib.hid (by
        rw [takeMap _ hs, List.all_append, HD.out]
        simp)
      have HAT : Hid (okP s.l = false → E = 9) := Lib.hid (fun h => by
        rw [← HE.out]
        unfold overE
        rw [if_pos]
        rw [← Bool.not_eq_true, List.all_eq_true]
        intro hall
        have := hall s.l (List.mem_map_of_mem (List.mem_of_getElem? hs))
        rw [h] at this
        cases this)
      clear hrw hrs hfs hs HD
      rcases hok : okP s.l with _ | _
      · rw [chkP_no hok] at HC
        have HE9 : Hid (E = 9) := Lib.hid (HAT.out hok)
        have HU0 : Hid (U = []) := Lib.hid (by rw [HU.out, if_neg (by rw [HE9.out]; omega)])
        clear hok HAT HT
        go_wp2_with fail
        refine HC.out.mono ?_
        rintro e w2 ⟨rfl, hB2⟩
        go_wp2
        go_ret2
        rw [HE9.out, HU0.out]
        exact ⟨_, rfl, ownNone _ _ _ _, hB.trans (hB2.mono hB.size)⟩
      · rw [chkP_ok hok] at HC
        rw [hok] at HT
        clear hok HAT
        go_wp2_with fail
        refine HC.out.mono ?_
        rintro e w2 ⟨rfl, hB2⟩
        go_wp2
        go_roundw
        case rel => exact ⟨k + 1, by omega, by go_num, HT, hB.trans (hB2.mono hB.size)⟩
        case measure => simp [intOf]; omega
    · have HA : Hid ((ls.map (·.l)).all okP = true) := Lib.hid (by
        have := HD.out
        rwa [List.take_of_length_le (by rw [List.length_map]; omega)] at this)
      clear HD
      obtain ⟨w1, hw1⟩ : ∃ w1, wr.alloc (.map #[] 0) = w1 := ⟨_, rfl⟩
      have hB1 : Below wr.heap.size wr w1 := hw1 ▸ (Below.refl _ wr).alloc (Nat.le_refl _) _
      have hown1 : w1.ownsMap Tryz.prog 9 heldV wr.heap.size 0 (.map []) := hw1 ▸ World.ownsMap_made wr _ _ _
      have HO1 := Lib.hid hown1
      have hB0 := hB
      have HW1 := Lib.hid hw1
      have hw1s : wr.heap.size < w1.heap.size := hown1.lt
      have hmbw : w.heap.size ≤ wr.heap.size := hB0.size
      have HBW : Hid (Below w.heap.size w w1) := Lib.hid (hB.trans (hB1.mono hB.size))
      clear hown1 hw1
      go_wp2
      rw [HW1.out]
      clear hB1
      generalize hmb : wr.heap.size = mb at *
      clear hmb hB hB0
      go_loopw [30] (fun i W => ∃ (k N : Nat) (D : Dh), k ≤ ls.length ∧ i = .int .i64 k ∧ N ≤ 8 * k ∧ Hid (W.ownsMap Tryz.prog 9 heldV mb N D) ∧ Hid (MapPr D (overL ((ls.map (·.l)).take k))) ∧ (overL ((ls.map (·.l)).take k)).length ≤ 8 ∧ Hid (Below mb w1 W)) (fun i _ => ls.length - (intOf i).toNat)
      case atStart => exact ⟨0, 0, .map [], Nat.zero_le _, rfl, Nat.zero_le _, HO1, Lib.hid MapPr.empty, by simp [overL], Lib.hid (Below.refl _ _)⟩
      case round =>
        obtain ⟨k, N, D, hk, rfl, hN, HM, HI, h8, HB⟩ := hrel
        have hrise := overL_rise ((ls.map (·.l)).take k)
        by_cases hlt : k < ls.length
        · obtain ⟨s, hs⟩ : ∃ s, ls[k]? = some s := ⟨ls[k], qZa hlt⟩
          have hBw := HBW.out.trans (HB.out.mono hmbw)
          obtain ⟨b, off, rfl, hb, hc0⟩ := (HR.out.below hBw).at_ hs
          obtain ⟨hrs, hls, hfs⟩ := HR.out.each s (List.mem_of_getElem? hs)
          have hs8 : s.l.length ≤ 8 := okP_len (List.all_eq_true.1 HA.out _ (List.mem_map_of_mem (List.mem_of_getElem? hs)))
          have HT : Hid (overL ((ls.map (·.l)).take (k + 1)) = overP (overL ((ls.map (·.l)).take k)) s.l) := Lib.hid (by rw [takeMap _ hs, overL_snoc])
          have HLE := Lib.hid (overL_len (ls.map (·.l)) (k + 1))
          have HRS := Lib.hid hrs
          have HFS := Lib.hid hfs
          clear hs hrs hfs hls
          obtain ⟨B, l, d⟩ := s
          dsimp only at hs8 hc0 HT HRS HFS
          generalize overL ((ls.map (·.l)).take k) = M0 at *
          go_wp2
          go_loopw [36] (fun i W => ∃ (j N' : Nat) (D' : Dh), j ≤ l.length ∧ i = .int .i64 j ∧ N' ≤ 8 * k + j ∧ Hid (W.ownsMap Tryz.prog 9 heldV mb N' D') ∧ Hid (MapPr D' (overP M0 (l.take j))) ∧ Hid (Below mb w1 W)) (fun i _ => l.length - (intOf i).toNat)
          case atStart => exact ⟨0, N, D, Nat.zero_le _, rfl, by omega, HM, Lib.hid (by simpa [overP] using HI.out), HB⟩
          case round =>
            obtain ⟨j, N', D', hj, rfl, hN', HM', HI', HB'⟩ := hrel
            have hBw' := HBW.out.trans (HB'.out.mono hmbw)
            by_cases hlt' : j < l.length
            · obtain ⟨x, hx⟩ : ∃ x, l[j]? = some x := ⟨l[j], qZa hlt'⟩
              obtain ⟨b', off', rfl, hb', hc1, hc2⟩ := (HRS.out.below hBw').pr hx
              have hxk : x.1.size ≤ maxLen := by unfold maxLen; have := (HFS.out x (List.mem_of_getElem? hx)).1; omega
              have HPUT : Hid (MapPr (D'.put (bKey x.1) (.held (prV x))) (overP M0 (l.take (j + 1)))) := Lib.hid (by
                rw [overP_snoc _ hx]
                exact HI'.out.put (overP_rise hrise _) x)
              have hmw : mb ≤ wr.heap.size := Nat.le_trans (Nat.le_of_lt hw1s) HB'.out.size
              have HMA := Lib.hid (HM'.out.alloc (.cells #[.string x.1, .string x.2] 105))
              have HBA : Hid (Below mb w1 (wr.alloc (.cells #[.string x.1, .string x.2] 105))) := Lib.hid (HB'.out.alloc hmw _)
              have HKEY := Lib.hid (keyT hxk)
              clear hx HI' hxk
              obtain ⟨x1, x2⟩ := x
              dsimp only at *
              go_wp2_with (at_mapUpdate; refine wpList_mapUpdate_own _ rfl _ _ _ 182 rfl 9 105 keyedT Tryz.underlying182 heldV mb N' D' rfl HMA.out (by unfold maxLen; omega) _ _ _ rfl rfl HKEY.out (.held (prV (x1, x2))) [] rfl ?_; intro w10 hown10 hgrow10)
              have HB10 : Hid (Below mb w1 w10) := Lib.hid (HBA.out.grown hgrow10 (by simp; omega) (fun j e => by cases e; exact Nat.le_refl _))
              have HO10 := Lib.hid hown10
              clear hown10 hgrow10
              go_roundw
              case rel => exact ⟨j + 1, N' + 1, _, by omega, by go_num, by omega, HO10, HPUT, HB10⟩
              case measure => simp [intOf]; omega
            · obtain rfl : j = l.length := by omega
              have HI2 : Hid (MapPr D' (overP M0 l)) := Lib.hid (by have := HI'.out; rwa [List.take_length] at this)
              have hsz := (mapPr_keys HM'.out HI2.out (overP_rise hrise _)).2
              rw [HT.out] at HLE
              clear HI'
              generalize overP M0 l = M1 at *
              have hlen : Sem.run Tryz.prog (Builtin.len_ #[182] 3 #[.map (some mb)]) wr = .ok (.int .i64 (M1.length : Int)) wr := by
                rw [← hsz]
                exact HM'.out.len Tryz.underlying182 _
              clear hsz
              by_cases h9 : 8 < M1.length
              · have HE3 : Hid (E = 3) := Lib.hid (by
                  rw [← HE.out]
                  unfold overE
                  rw [if_neg (by rw [HA.out]; exact Bool.noConfusion), if_pos (Nat.lt_of_lt_of_le h9 HLE.out)])
                have HU0 : Hid (U = []) := Lib.hid (by rw [HU.out, if_neg (by rw [HE3.out]; omega)])
                clear HLE
                go_wp2
                go_ret2
                rw [HE3.out, HU0.out]
                exact ⟨_, rfl, ownNone _ _ _ _, hBw'⟩
              · clear HLE
                have h9' : M1.length ≤ 8 := by omega
                go_wp2
                go_roundw
                case rel => exact ⟨k + 1, N', D', by omega, by go_num, by omega, HM', Lib.hid (by rw [HT.out]; exact HI2.out), by rw [HT.out]; exact h9', HB'⟩
                case measure => simp [intOf]; omega
        · obtain ⟨M, hM⟩ : ∃ M, overL (ls.map (·.l)) = M := ⟨_, rfl⟩
          have hMk : overL ((ls.map (·.l)).take k) = M := by rw [List.take_of_length_le (by rw [List.length_map]; omega), hM]
          rw [hMk] at HI h8 hrise
          have HE0 : Hid (E = 0) := Lib.hid (by
            rw [← HE.out]
            unfold overE
            rw [if_neg (by rw [HA.out]; exact Bool.noConfusion), if_neg (by rw [hM]; omega)])
          have HU0 : Hid (U = M) := Lib.hid (by rw [HU.out, if_pos HE0.out, hM])
          have HMS : Hid (∀ x ∈ M, x.1.size ≤ 140737488351232 ∧ x.2.size ≤ 140737488351232) := Lib.hid (by
            intro x hx
            rw [← hM] at hx
            obtain ⟨l, hl, hx⟩ := overL_mem hx
            obtain ⟨s, hs, rfl⟩ := List.mem_map.1 hl
            exact (HR.out.each s hs).2.2 x hx)
          have hBw := HBW.out.trans (HB.out.mono hmbw)
          have HS := Lib.hid (sortedS_any HM.out HI.out hrise (by omega))
          clear hM hMk
          go_wp2_with fail
          refine (keysS_any _ _).mono ?_
          rintro e w2 ⟨rfl, rfl⟩
          go_wp2_with fail
          refine HS.out.mono ?_
          rintro e w3 ⟨A3, c3, rfl, hrd3, hB3⟩
          have hmbl := HM.out.lt
          have HM3 : Hid (w3.ownsMap Tryz.prog 9 heldV mb N D) := Lib.hid (ownMap_block HM.out (hB3.block mb hmbl))
          have hmb3 : mb < w3.heap.size := HM3.out.lt
          have hBw3 : Below w.heap.size w w3 := hBw.trans (hB3.mono hBw.size)
          have HRD := Lib.hid hrd3
          clear hrd3 HS HM
          go_wp2
          go_loopw [12, 53] (fun v i W => ∃ j : Nat, j ≤ M.length ∧ i = .int .i64 j ∧ Hid (ownP W w3.heap.size v (M.take j)) ∧ Hid (Below w3.heap.size w3 W)) (fun _ i _ => M.length - (intOf i).toNat)
          case atStart => exact ⟨0, Nat.zero_le _, rfl, Lib.hid (ownNone _ _ _ _), Lib.hid (Below.refl _ _)⟩
          case round =>
            obtain ⟨j, hj, rfl, HO, HB4⟩ := hrel
            obtain ⟨Av, cv, hv, _, _, _, _⟩ := ownAny HO.out
            subst hv
            by_cases hlt' : j < M.length
            · obtain ⟨x, hx⟩ : ∃ x, M[j]? = some x := ⟨M[j], qZa hlt'⟩
              have hxn : (M.map fun p => Value.string p.1)[j]? = some (.string x.1) := by rw [List.getElem?_map, hx]; rfl
              obtain ⟨b, off, rfl, hb, hcc⟩ := (HRD.out.below HB4.out) (by intro e; rw [e] at hxn; simp at hxn)
              have hc0 := hcc _ _ hxn
              obtain ⟨hx1, hx2⟩ := HMS.out x (List.mem_of_getElem? hx)
              have HM4 := ownMap_block HM3.out (HB4.out.block mb hmb3)
              have hlk := mapPr_look HM4 HI.out (k := x.1) (by unfold maxLen; omega)
              have hpa : prAt M x.1 = prV x := by unfold prAt; rw [getP_of hrise (List.mem_of_getElem? hx)]
              rw [hpa] at hlk
              have HTK : Hid (M.take (j + 1) = M.take j ++ [x]) := Lib.hid (by rw [List.take_add_one, hx]; rfl)
              have HC := Lib.hid (copied_any x (by omega) (by omega) wr)
              have hs4 := HB4.out.size
              have hml : (M.take j).length ≤ 8 := by rw [List.length_take]; omega
              clear hxn hcc hx HM4 hpa
              generalize M.take j = mj at *
              go_wp2_with fail
              refine HC.out.mono ?_
              rintro e w5 ⟨rfl, hB5⟩
              have HO5 := Lib.hid (ownBelow HO.out hB5 (Nat.le_refl _))
              have hB35 : Below w3.heap.size w3 w5 := HB4.out.trans (hB5.mono hs4)
              have hs5 := hB35.size
              clear hlk
              go_wp2_with (at_builtin; refine wpList_append_lies _ rfl _ _ 47 rfl w3.heap.size 105 i0 (.agg #[.string ByteArray.empty, .string ByteArray.empty]) 2 32 Tryz.underlying47 hi hz0 hz1 hz2 rfl (by decide) (.slice Av mj.length cv) mj.length (prs mj) rfl (ownBelow HO5.out ((Below.refl _ _).alloc (Nat.le_refl _) _) (Nat.le_refl _)) ⟨w5.heap.size, 0, none⟩ 1 1 [.string x.1, .string x.2] rfl rfl (newsNew _ _ _) (by simp [Value.oneCell']) (by omega) (by unfold maxLen; omega) (by omega) (by simp; omega) _ rfl ?_
                           intro g6 c6 x6 ho6 hg6 _ _
                           have HB6 : Hid (Below w3.heap.size w3 x6) := Lib.hid ((hB35.alloc hs5 _).grown hg6 (by simp; omega) (fun j e => (HO5.out.lt j e).1))
                           have HO6 : Hid (ownP x6 w3.heap.size (.slice (some ⟨g6, 0, none⟩) (mj.length + 1) c6) (M.take (j + 1))) := Lib.hid (by rw [HTK.out]; exact ownP_snoc ho6)
                           clear ho6 hg6)
              go_roundw
              case rel => exact ⟨j + 1, by omega, by go_num, HO6, HB6⟩
              case measure => simp [intOf]; omega
            · obtain rfl : j = M.length := by omega
              have HO' : Hid (ownP wr w3.heap.size (.slice Av (M.take M.length).length cv) M) := Lib.hid (by have := HO.out; rw [List.take_length] at this ⊢; exact this)
              clear HO
              go_wp2
              go_ret2
              rw [HE0.out, HU0.out]
              exact ⟨_, rfl, ownBase HO'.out hBw3.size, hBw3.trans (HB4.out.mono hBw3.size)⟩
end Go.Proofs.YtoabkbnhdekbdaaGreat
namespace Go.Proofs.YtoabkbnhdekbdaaGreat
open Go.ChangeShapes Go.WideShapes Go.ChangeAt Go.RowKit
set_option maxRecDepth 100000
theorem leT (a b : ByteArray) : (Op.bytesLess a.toList b.toList || a.toList == b.toList) = !(Op.bytesLess b.toList a.toList) := by
  rcases h : Op.bytesLess b.toList a.toList with _ | _
  · rw [Bool.not_false, ← Bool.not_eq_false]
    intro e
    have : ltK b a := ltK_iff.2 e
    unfold ltK at this
    rw [h] at this
    cases this
  · exact ltK_iff.1 h
set_option maxHeartbeats 4000000 in
theorem refPutP_any (A : Option Addr) (c n : Nat) (l : List Pr) (hn : l.length = n) (hl : n ≤ 4398046511100) (p : Pr) (w : World) (hr : Rd w A (prs l)) :
    Calls Tryz.prog 106 #[.slice A n c, prV p] w fun e w' => ∃ v, e = .returned v ∧ ownP w' w.heap.size v (putG p false l) ∧ Below w.heap.size w w' := by
  subst hn
  obtain ⟨p1, p2⟩ := p
  obtain ⟨R, hR⟩ : ∃ R, putG (p1, p2) false l = R := ⟨_, rfl⟩
  obtain ⟨w1, hw1⟩ : ∃ w1, w.alloc (.cells #[.string p1, .string p2] 105) = w1 := ⟨_, rfl⟩
  have hB1 : Below w.heap.size w w1 := hw1 ▸ (Below.refl _ w).alloc (Nat.le_refl _) _
  have k1 : Blk w1 w.heap.size 105 [.string p1, .string p2] := hw1 ▸ Blk.new w _ _
  have HK := Lib.hid k1
  have HW := Lib.hid hw1
  have hlt1 : w.heap.size < w1.heap.size := k1.lt
  have HR1 := Lib.hid (hr.below hB1)
  rw [hR]
  have HRR := Lib.hid hR
  clear k1 hw1 hr hR
  go_enter Tryz.func106, Tryz.ntmps106
  go_wp2
  rw [HW.out]
  go_loopw [5, 6, 7] (fun v d i W => ∃ (k : Nat) (dn : Bool) (o : List Pr), k ≤ l.length ∧ i = .int .i64 k ∧ d = .bool dn ∧ Hid (ownP W w1.heap.size v o) ∧ Hid (o ++ putG (p1, p2) dn (l.drop k) = R) ∧ o.length ≤ k + dn.toNat ∧ Hid (Below w1.heap.size w1 W)) (fun _ _ i _ => l.length - (intOf i).toNat)
  case atStart => exact ⟨0, false, [], Nat.zero_le _, rfl, rfl, Lib.hid (ownNone _ _ _ _), Lib.hid (by rw [← HRR.out]; rfl), Nat.zero_le _, Lib.hid (Below.refl _ _)⟩
  case round =>
    obtain ⟨k, dn, o, hk, rfl, rfl, HO, HP, ho, HB⟩ := hrel
    obtain ⟨Av, cv, hv, _, _, _, _⟩ := ownAny HO.out
    subst hv
    have k2 := HK.out.below HB.out hlt1
    have x0 := k2.cell 0
    have y0 := k2.cell 1
    simp only [gZa, gZb] at x0 y0
    have hbs := HB.out.size
    have hlw : w.heap.size < wr.heap.size := by omega
    clear k2
    by_cases hlt : k < l.length
    · obtain ⟨x, hx⟩ : ∃ x, l[k]? = some x := ⟨l[k], qZa hlt⟩
      obtain ⟨b, off, rfl, hb, hc0, hc1⟩ := (HR1.out.below HB.out).pr hx
      have HP' : Hid (R = o ++ ((if !dn && !(Op.bytesLess x.1.toList p1.toList) then [(p1, p2)] else []) ++ ((if x.1 = p1 then [] else [x]) ++ putG (p1, p2) (dn || !(Op.bytesLess x.1.toList p1.toList)) (l.drop (k + 1))))) := Lib.hid (by
        rw [← HP.out]
        obtain ⟨h, e⟩ := List.getElem?_eq_some_iff.1 hx
        rw [List.drop_eq_getElem_cons h, e]
        rfl)
      have hlk : (k : Int) < l.length := by omega
      have hle := leT p1 x.1
      have heq := beqTE x.1 p1
      have HX := Lib.hid hx
      clear hx HP
      obtain ⟨x1, x2⟩ := x
      dsimp only at *
      have hstep : ∀ nq, Below w1.heap.size w1 (wr.drewN nq) ∧ w1.heap.size ≤ (wr.drewN nq).heap.size := fun nq => ⟨HB.out.trans (belowDrewN _ _ _), hbs⟩
      obtain ⟨eb, heb⟩ : ∃ eb, decide (x1 = p1) = eb := ⟨_, rfl⟩
      rw [heb] at heq
      have HEB : Hid ((eb = false → ¬ x1 = p1) ∧ (eb = true → x1 = p1)) := Lib.hid ⟨fun h => of_decide_eq_false (heb.trans h), fun h => of_decide_eq_true (heb.trans h)⟩
      clear heb
      rcases dn with _ | _
      · replace ho : o.length ≤ k := ho
        rcases hbl : Op.bytesLess x1.toList p1.toList with _ | _
        · rw [hbl, Bool.not_false] at hle
          rw [hbl] at HP'
          have hol : o.length < 4398046511104 := by omega
          have HP2 : Hid (R = (o ++ [(p1, p2)]) ++ ((if x1 = p1 then [] else [(x1, x2)]) ++ putG (p1, p2) true (l.drop (k + 1)))) := Lib.hid (by rw [HP'.out]; simp)
          clear HP' hbl
          go_wp2_with fail
          go_big_quiet (fail)
          have HO1 := Lib.hid (ownBelow HO.out (belowDrewN wr nq wr.heap.size) (Nat.le_refl _))
          go_wp2_with (at_builtin; refine wpAppP rfl rfl (hstep nq).1 (hstep nq).2 HO1.out (p1, p2) rfl rfl hol ?_; intro g6 c6 x6 HO6 HB6)
          have HO6' : Hid (ownP x6 w1.heap.size (.slice (some ⟨g6, 0, none⟩) (o ++ [(p1, p2)]).length c6) (o ++ [(p1, p2)])) := Lib.hid (by rw [List.length_append]; exact HO6.out)
          have hol6 : (o ++ [(p1, p2)]).length = o.length + 1 := by simp
          rw [← hol6]
          have hol7 : (o ++ [(p1, p2)]).length ≤ k + 1 := by omega
          clear HO6 hol6
          generalize o ++ [(p1, p2)] = o6 at *
          have k3 := HK.out.below HB6.out hlt1
          have x3 := k3.cell 0
          have y3 := k3.cell 1
          have hbs6 := HB6.out.size
          have hlw6 : w.heap.size < x6.heap.size := Nat.lt_of_lt_of_le hlt1 hbs6
          obtain ⟨b', off', e', hb', hc3, hc4⟩ := (HR1.out.below HB6.out).pr HX.out
          injection e' with e'
          injection e' with e1 e2 _
          subst e1 e2
          simp only [gZa, gZb] at x3 y3
          clear k3
          rcases eb with _ | _
          · go_big_quiet (fail)
            have HO7 := Lib.hid (ownBelow HO6'.out (belowDrewN x6 nq x6.heap.size) (Nat.le_refl _))
            have hB7 : Below w1.heap.size w1 (x6.drewN nq) := HB6.out.trans (belowDrewN _ _ _)
            go_wp2_with (at_builtin; refine wpAppP rfl rfl hB7 hbs6 HO7.out (x1, x2) rfl rfl (by omega) ?_; intro g8 c8 x8 HO8 HB8)
            go_roundw
            case rel => exact ⟨k + 1, true, _, by omega, by go_num, rfl, HO8, Lib.hid (by rw [HP2.out, if_neg (HEB.out.1 rfl)]; simp), by show _ ≤ k + 1 + 1; simp; omega, HB8⟩
            case measure => simp [intOf]; omega
          · go_big_quiet (fail)
            go_wp2
            go_roundw
            case rel => exact ⟨k + 1, true, _, by omega, by go_num, rfl, Lib.hid (ownBelow HO6'.out (belowDrewN _ _ _) (Nat.le_refl _)), Lib.hid (by rw [HP2.out, if_pos (HEB.out.2 rfl)]; rfl), by first | (show _ ≤ k + 1 + 1; omega) | (show _ ≤ k + 1; omega), Lib.hid (HB6.out.trans (belowDrewN _ _ _))⟩
            case measure => simp [intOf]; omega
        · rw [hbl, Bool.not_true] at hle
          rw [hbl] at HP'
          have HP2 : Hid (R = o ++ ((if x1 = p1 then [] else [(x1, x2)]) ++ putG (p1, p2) false (l.drop (k + 1)))) := Lib.hid (by rw [HP'.out]; simp)
          clear HP' hbl
          go_wp2_with fail
          go_big_quiet (fail)
          have HO6 := Lib.hid (ownBelow HO.out (belowDrewN wr nq wr.heap.size) (Nat.le_refl _))
          have HB6 := Lib.hid (hstep nq).1
          go_wp2_with fail
          generalize wr.drewN nq = wq at *
          have k3 := HK.out.below HB6.out hlt1
          have x3 := k3.cell 0
          have y3 := k3.cell 1
          have hbs6 := HB6.out.size
          have hlw6 : w.heap.size < wq.heap.size := Nat.lt_of_lt_of_le hlt1 hbs6
          obtain ⟨b', off', e', hb', hc3, hc4⟩ := (HR1.out.below HB6.out).pr HX.out
          injection e' with e'
          injection e' with e1 e2 _
          subst e1 e2
          simp only [gZa, gZb] at x3 y3
          clear k3
          rcases eb with _ | _
          · go_big_quiet (fail)
            have HO7 := Lib.hid (ownBelow HO6.out (belowDrewN wq nq wq.heap.size) (Nat.le_refl _))
            have hB7 : Below w1.heap.size w1 (wq.drewN nq) := HB6.out.trans (belowDrewN _ _ _)
            go_wp2_with (at_builtin; refine wpAppP rfl rfl hB7 hbs6 HO7.out (x1, x2) rfl rfl (by omega) ?_; intro g8 c8 x8 HO8 HB8)
            go_roundw
            case rel => exact ⟨k + 1, false, _, by omega, by go_num, rfl, HO8, Lib.hid (by rw [HP2.out, if_neg (HEB.out.1 rfl)]; simp), by show _ ≤ k + 1; simp; omega, HB8⟩
            case measure => simp [intOf]; omega
          · go_big_quiet (fail)
            go_wp2
            go_roundw
            case rel => exact ⟨k + 1, false, _, by omega, by go_num, rfl, Lib.hid (ownBelow HO6.out (belowDrewN _ _ _) (Nat.le_refl _)), Lib.hid (by rw [HP2.out, if_pos (HEB.out.2 rfl)]; rfl), by first | (show _ ≤ k + 1 + 1; omega) | (show _ ≤ k + 1; omega), Lib.hid (HB6.out.trans (belowDrewN _ _ _))⟩
            case measure => simp [intOf]; omega
      · replace ho : o.length ≤ k + 1 := ho
        have HP2 : Hid (R = o ++ ((if x1 = p1 then [] else [(x1, x2)]) ++ putG (p1, p2) true (l.drop (k + 1)))) := Lib.hid (by rw [HP'.out]; simp)
        clear HP' hle
        go_wp2_with fail
        go_big_quiet (fail)
        have HO6 := Lib.hid (ownBelow HO.out (belowDrewN wr nq wr.heap.size) (Nat.le_refl _))
        have HB6 := Lib.hid (hstep nq).1
        go_wp2_with fail
        generalize wr.drewN nq = wq at *
        have k3 := HK.out.below HB6.out hlt1
        have x3 := k3.cell 0
        have y3 := k3.cell 1
        have hbs6 := HB6.out.size
        have hlw6 : w.heap.size < wq.heap.size := Nat.lt_of_lt_of_le hlt1 hbs6
        obtain ⟨b', off', e', hb', hc3, hc4⟩ := (HR1.out.below HB6.out).pr HX.out
        injection e' with e'
        injection e' with e1 e2 _
        subst e1 e2
        simp only [gZa, gZb] at x3 y3
        clear k3
        rcases eb with _ | _
        · go_big_quiet (fail)
          have HO7 := Lib.hid (ownBelow HO6.out (belowDrewN wq nq wq.heap.size) (Nat.le_refl _))
          have hB7 : Below w1.heap.size w1 (wq.drewN nq) := HB6.out.trans (belowDrewN _ _ _)
          go_wp2_with (at_builtin; refine wpAppP rfl rfl hB7 hbs6 HO7.out (x1, x2) rfl rfl (by omega) ?_; intro g8 c8 x8 HO8 HB8)
          go_roundw
          case rel => exact ⟨k + 1, true, _, by omega, by go_num, rfl, HO8, Lib.hid (by rw [HP2.out, if_neg (HEB.out.1 rfl)]; simp), by show _ ≤ k + 1 + 1; simp; omega, HB8⟩
          case measure => simp [intOf]; omega
        · go_big_quiet (fail)
          go_wp2
          go_roundw
          case rel => exact ⟨k + 1, true, _, by omega, by go_num, rfl, Lib.hid (ownBelow HO6.out (belowDrewN _ _ _) (Nat.le_refl _)), Lib.hid (by rw [HP2.out, if_pos (HEB.out.2 rfl)]; rfl), by first | (show _ ≤ k + 1 + 1; omega) | (show _ ≤ k + 1; omega), Lib.hid (HB6.out.trans (belowDrewN _ _ _))⟩
          case measure => simp [intOf]; omega
    · have hBw : Below w.heap.size w wr := hB1.trans (HB.out.mono hB1.size)
      rcases dn with _ | _
      · replace ho : o.length ≤ k := ho
        have HP2 : Hid (R = o ++ [(p1, p2)]) := Lib.hid (by rw [← HP.out, List.drop_eq_nil_of_le (by omega)]; rfl)
        have hol : o.length < 4398046511104 := by omega
        clear HP
        go_wp2_with (at_builtin; refine wpAppP rfl rfl HB.out hbs HO.out (p1, p2) rfl rfl hol ?_; intro g6 c6 x6 HO6 HB6)
        go_ret
        rw [HP2.out]
        exact ⟨_, rfl, ownBase HO6.out (Nat.le_of_lt hlt1), hB1.trans (HB6.out.mono hB1.size)⟩
      · have HP2 : Hid (R = o) := Lib.hid (by rw [← HP.out, List.drop_eq_nil_of_le (by omega)]; simp [putG])
        clear HP
        go_wp2
        go_ret
        rw [HP2.out]
        exact ⟨_, rfl, ownBase HO.out (Nat.le_of_lt hlt1), hBw⟩
end Go.Proofs.YtoabkbnhdekbdaaGreat
