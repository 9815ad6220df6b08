/-
  perms: Deny, Of, May. Conditions: the texts are as they come in.
-/
import Derived.Test.YtkokfmodoacflaaGRA
namespace Go.Proofs.Ytkokfmodoacflaa
open Go.ChangeShapes Go.WideShapes Go.ChangeAt Go.RowKit
set_option maxRecDepth 100000

theorem beqG (a b : ByteArray) : (a.toList == b.toList) = decide (a = b) := by
  rw [Bool.eq_iff_iff, beq_iff_eq, decide_eq_true_eq]
  exact ⟨ba_toList, fun h => by rw [h]⟩

set_option maxHeartbeats 2000000 in
theorem HasG.deny {w : World} {A : Option Addr} {c : Nat} {l : List Gr} (h : HasG w A c l) (u p : ByteArray) (hu : u.size ≤ 140737488351232) (hp : p.size ≤ 140737488351232) (r : Int) :
    Calls Try.prog 11 #[.slice A l.length c, .string u, .string p, .int .i64 r] w (TellG w (denyR l u p r) (denyE l u p r)) := by
  obtain ⟨w1, hw1⟩ : ∃ w1, w.alloc (.cells #[.int .i64 r] 3) = w1 := ⟨_, rfl⟩
  have hB1 : Below w.heap.size w w1 := hw1 ▸ (Below.refl _ w).alloc (Nat.le_refl _) _
  have k1 : Blk w1 w.heap.size 3 [.int .i64 r] := hw1 ▸ Blk.new w _ _
  have HC := Lib.hid (refused_any (h.below hB1) u p hp r)
  have HX := Lib.hid (h.below hB1)
  have HW1 := Lib.hid hw1
  have HK1 := Lib.hid k1
  clear h k1 hw1
  by_cases hE : refE l u p r = 0
  · have hok := (refE_zero hE).1
    have HCH : Hid (∀ W, Below w1.heap.size w1 W → Calls Try.prog 16 #[.slice A l.length c, .string u, .string p, .func (.func 25) #[] #[.pointer (some ⟨w.heap.size, 0, none⟩)]] W fun e w' => ∃ v, e = .returned v ∧ ownGr w' W.heap.size v (setG u p (anF r) l) ∧ Below W.heap.size W w') := Lib.hid fun W hW =>
      grChanged_any 25 #[.pointer (some ⟨w.heap.size, 0, none⟩)] (enters_of Try.func25 (by kernel_rfl) rfl) (anF r) A c l.length l rfl (by have := okG_len hok; omega) HX.out.cap HX.out.nil HX.out.sz u p hu hp W
        (fun W' x hB' => deny1_any w.heap.size r x W' ((HK1.out.below (hW.trans (hB'.mono hW.size)) HK1.out.lt).cell 0)) (HX.out.rd.below hW)
    have HPL : Hid (∀ W, Below w1.heap.size w1 W → Calls Try.prog 24 #[.slice A l.length c, .string u, .string p] W fun e w' => ∃ j : Nat, e = .returned (.tuple #[.int .i64 j, .bool (hasG u p l)]) ∧ atG u p l j ∧ Below W.heap.size W w') := Lib.hid fun W hW =>
      grPlace_any A c l.length l rfl (by have := okG_len hok; omega) u p W (HX.out.rd.below hW)
    rw [hE] at HC
    have HAE : Hid (denyE l u p r = if hasG u p l then 0 else 71) := Lib.hid (by rw [denyE, if_pos hE])
    have HAR : Hid (denyR l u p r = if denyE l u p r = 0 then setG u p (anF r) l else []) := Lib.hid rfl
    have x1 := HK1.out.cell 0
    simp only [List.getElem?_cons_zero] at x1
    generalize setG u p (anF r) l = m at *
    generalize denyE l u p r = E at *
    generalize denyR l u p r = R at *
    clear hE hok HX
    rcases hh : hasG u p l with _ | _
    · rw [hh] at HPL
      have HE : Hid (E = 71) := Lib.hid (by rw [HAE.out, hh]; rfl)
      have HR : Hid (R = []) := Lib.hid (by rw [HAR.out, if_neg (by rw [HE.out]; omega)])
      clear HAE HAR hh HCH
      go_enter Try.func11, Try.ntmps11
      go_wp2_with fail
      rw [HW1.out]
      go_wp2_with fail
      refine HC.out.mono ?_
      rintro e w2 ⟨rfl, hB2⟩
      go_wp2_with fail
      refine (HPL.out w2 hB2).mono ?_
      rintro e w3 ⟨j, rfl, _, hB3⟩
      have hB03 : Below w.heap.size w w3 := hB1.trans ((hB2.trans (hB3.mono hB2.size)).mono hB1.size)
      clear HC HPL
      go_wp2
      go_ret2
      rw [HE.out, HR.out]
      exact tellG_none hB03
    · rw [hh] at HPL
      have HE : Hid (E = 0) := Lib.hid (by rw [HAE.out, hh]; rfl)
      have HR : Hid (R = m) := Lib.hid (by rw [HAR.out, if_pos HE.out])
      clear HAE HAR hh
      go_enter Try.func11, Try.ntmps11
      go_wp2_with fail
      rw [HW1.out]
      go_wp2_with fail
      refine HC.out.mono ?_
      rintro e w2 ⟨rfl, hB2⟩
      go_wp2_with fail
      refine (HPL.out w2 hB2).mono ?_
      rintro e w3 ⟨j, rfl, _, hB3⟩
      have hB13 := hB2.trans (hB3.mono hB2.size)
      go_wp2_with fail
      refine (HCH.out w3 hB13).mono ?_
      rintro e w4 ⟨v, rfl, ho4, hB4⟩
      obtain ⟨A3, c3, hv3, _, _, _, _⟩ := ownAny ho4
      subst hv3
      have HO4 := Lib.hid ho4
      have hB04 : Below w.heap.size w w4 := hB1.trans ((hB13.trans (hB4.mono hB13.size)).mono hB1.size)
      clear ho4 HC HPL HCH
      go_wp2
      go_ret2
      rw [HE.out, HR.out]
      exact tellG_of HO4.out hB04
  · have HAE : Hid (denyE l u p r = refE l u p r) := Lib.hid (by rw [denyE, if_neg hE])
    have HAR : Hid (denyR l u p r = []) := Lib.hid (by rw [denyR, if_neg (by rw [HAE.out]; exact hE)])
    rw [HAE.out, HAR.out]
    have hq : (refE l u p r == 0) = false := beq_eq_false_iff_ne.2 hE
    have x1 := HK1.out.cell 0
    simp only [List.getElem?_cons_zero] at x1
    generalize refE l u p r = E at *
    clear hE HAE HAR HX
    go_enter Try.func11, Try.ntmps11
    go_wp2_with fail
    rw [HW1.out]
    go_wp2_with fail
    refine HC.out.mono ?_
    rintro e w2 ⟨rfl, hB2⟩
    go_wp2
    go_ret2
    exact tellG_none (hB1.trans (hB2.mono hB1.size))

set_option maxHeartbeats 1000000 in
theorem together_any (gf : Nat) (lb : Array Value) (eg : Enters Try.prog gf) (q : Gr → Bool) (A : Option Addr) (c n : Nat) (l : List Gr) (hn : l.length = n) (hl : n ≤ 4398046511104) (w : World)
    (hg : ∀ W x, x ∈ l → Below w.heap.size w W → Calls Try.prog gf (#[grV x] ++ lb) W fun e W' => e = .returned (.bool (q x)) ∧ Below W.heap.size W W') (hr : Rd w A (grs l)) :
    Calls Try.prog 19 #[.slice A n c, .func (.func gf) #[] lb] w fun e w' => e = .returned (.int .i64 (ofG q l)) ∧ Below w.heap.size w w' := by
  subst hn
  have eg' : ∀ args w, (callFunc gf args).run Try.prog w = .ok (.enter gf args) w := eg
  obtain ⟨R, hR⟩ : ∃ R, ofG q l = R := ⟨_, rfl⟩
  rw [hR]
  have HRR := Lib.hid hR
  clear hR
  go_enter Try.func19, Try.ntmps19
  go_wp2
  go_loopw [5, 10] (fun v j W => ∃ (k : Nat) (m : Int), k ≤ l.length ∧ j = .int .i64 k ∧ v = .int .i64 m ∧ Hid ((l.drop k).foldl (stepG q) m = ofG q l) ∧ Below w.heap.size w W) (fun _ j _ => l.length - (intOf j).toNat)
  case atStart => exact ⟨0, 0, Nat.zero_le _, rfl, rfl, Lib.hid rfl, Below.refl _ _⟩
  case round =>
    obtain ⟨k, m, hk, rfl, rfl, HD, hB⟩ := hrel
    by_cases hlt : k < l.length
    · obtain ⟨x, hx⟩ : ∃ x, l[k]? = some x := ⟨l[k], List.getElem?_eq_getElem hlt⟩
      obtain ⟨b, off, rfl, hb, hc0, hc1, hc2⟩ := (Rd.below hr hB).gr hx
      have HD1 : Hid ((l.drop (k + 1)).foldl (stepG q) (stepG q m x) = ofG q l) := Lib.hid (by
        rw [← HD.out, grs_drop0 hx]
        rfl)
      have hmem := List.mem_of_getElem? hx
      obtain ⟨w1, hw1⟩ : ∃ w1, wr.alloc (.cells #[.string x.1, .string x.2.1, .int .i64 x.2.2] 30) = w1 := ⟨_, rfl⟩
      have hB1 : Below wr.heap.size wr w1 := hw1 ▸ (Below.refl _ wr).alloc (Nat.le_refl _) _
      have k1 : Blk w1 wr.heap.size 30 [.string x.1, .string x.2.1, .int .i64 x.2.2] := hw1 ▸ Blk.new wr _ _
      have hBw1 : Below w.heap.size w w1 := hB.trans (hB1.mono hB.size)
      have y0 := k1.cell 0
      have y1 := k1.cell 1
      have y2 := k1.cell 2
      simp only [List.getElem?_cons_zero, List.getElem?_cons_succ] at y0 y1 y2
      have HG := Lib.hid (hg w1 x hmem hBw1)
      have HW1 := Lib.hid hw1
      have HK1 := Lib.hid k1
      clear hx hmem hw1 k1 HD
      go_wp2_with fail
      rw [HW1.out]
      go_wp2_with fail
      refine HG.out.mono ?_
      rintro e w2 ⟨rfl, hB2⟩
      have k2 := HK1.out.below hB2 HK1.out.lt
      have z2 := k2.cell 2
      simp only [List.getElem?_cons_zero, List.getElem?_cons_succ] at z2
      have hBw2 := hBw1.trans (hB2.mono hBw1.size)
      clear k2 HG y0 y1 y2
      rcases hq : q x with _ | _
      · have HS : Hid (stepG q m x = m) := Lib.hid (by rw [stepG, hq]; rfl)
        clear hq
        go_wp2
        go_roundw
        case rel => exact ⟨k + 1, m, by omega, by go_num, rfl, Lib.hid (by rw [← HD1.out, HS.out]), hBw2⟩
        case measure => simp [intOf]; omega
      · have HS : Hid (stepG q m x = bits .or .i64 m (bits .and .i64 x.2.2 255)) := Lib.hid (by rw [stepG, hq]; rfl)
        clear hq
        go_wp2
        go_roundw
        case rel => exact ⟨k + 1, _, by omega, by go_num, rfl, Lib.hid (by rw [← HD1.out, HS.out]), hBw2⟩
        case measure => simp [intOf]; omega
    · have HR : Hid (R = m) := Lib.hid (by
        rw [← HRR.out, ← HD.out, List.drop_eq_nil_of_le (by omega)]
        rfl)
      clear HD
      go_wp2
      go_ret
      rw [HR.out]
      exact ⟨rfl, hB⟩

theorem of1_any (Bo Bp : Nat) (o pl : ByteArray) (hpl : pl.size ≤ 140737488351232) (x : Gr) (hx : x.2.1.size ≤ 140737488351232) (w : World) (h1 : w.cell? ⟨Bo, 0, none⟩ = some (.string o)) (h2 : w.cell? ⟨Bp, 0, none⟩ = some (.string pl)) :
    Calls Try.prog 20 #[grV x, .pointer (some ⟨Bo, 0, none⟩), .pointer (some ⟨Bp, 0, none⟩)] w fun e w' => e = .returned (.bool (qOf o pl x)) ∧ Below w.heap.size w w' := by
  obtain ⟨x1, x2, x3⟩ := x
  dsimp only [grV] at hx ⊢
  have hB0 : Below w.heap.size w (w.alloc (.cells #[.string x1, .string x2, .int .i64 x3] 30)) := (Below.refl _ w).alloc (Nat.le_refl _) _
  have HB0 := Lib.hid hB0
  have hl1 := World.block_lt_of_cell? w ⟨Bo, 0, none⟩ h1
  have hl2 := World.block_lt_of_cell? w ⟨Bp, 0, none⟩ h2
  have hd := beqG x1 o
  obtain ⟨R, hR⟩ : ∃ R, qOf o pl (x1, x2, x3) = R := ⟨_, rfl⟩
  rw [hR]
  clear hB0
  by_cases he : x1 = o
  · have HR : Hid (R = underL (bs pl) (bs x2)) := Lib.hid (by rw [← hR]; simp [qOf, he])
    rw [decide_eq_true he] at hd
    clear hR he
    have HU := Lib.hid (under_any pl x2 hpl hx)
    generalize underL (bs pl) (bs x2) = U at *
    go_enter Try.func20, Try.ntmps20
    go_wp2_with fail
    refine (HU.out _).mono ?_
    rintro e w2 ⟨rfl, hB2⟩
    go_wp2
    go_ret
    exact ⟨ret_bool HR.out.symm, HB0.out.trans (hB2.mono HB0.out.size)⟩
  · have HR : Hid (R = false) := Lib.hid (by rw [← hR]; simp [qOf, he])
    rw [decide_eq_false he] at hd
    clear hR he
    go_enter Try.func20, Try.ntmps20
    go_wp2
    go_ret
    exact ⟨ret_bool HR.out.symm, HB0.out⟩

set_option maxHeartbeats 1000000 in
theorem of_any (A : Option Addr) (c n : Nat) (l : List Gr) (hn : l.length = n) (o pl : ByteArray) (w : World)
    (hX : o ≠ ByteArray.empty → n ≤ 4398046511104 ∧ (∀ x ∈ l, x.2.1.size ≤ 140737488351232) ∧ Rd w A (grs l) ∧ pl.size ≤ 140737488351232) :
    Calls Try.prog 9 #[.slice A n c, .string o, .string pl] w fun e w' => e = .returned (.int .i64 (ofA l o pl)) ∧ Below w.heap.size w w' := by
  subst hn
  obtain ⟨R, hR⟩ : ∃ R, ofA l o pl = R := ⟨_, rfl⟩
  rw [hR]
  by_cases he : o = ByteArray.empty
  · have HR : Hid (R = 255) := Lib.hid (by rw [← hR, ofA, if_pos he])
    subst he
    have hB : Below w.heap.size w ((w.alloc (.cells #[.string ByteArray.empty] 9)).alloc (.cells #[.string pl] 9)) := ((Below.refl _ w).alloc (Nat.le_refl _) _).alloc (by simp) _
    have HB := Lib.hid hB
    clear hR hB hX
    go_enter Try.func9, Try.ntmps9
    go_wp2
    go_ret
    rw [HR.out]
    exact ⟨rfl, HB.out⟩
  · obtain ⟨hl, hf, hr, hpl⟩ := hX he
    have he2 : (o.toList == ByteArray.empty.toList) = false := by rw [beqG, decide_eq_false he]
    have he3 : o.toList.isEmpty = false := by
      rw [Lib.toList_data]
      rcases hb : o.data.toList with _ | ⟨z, t⟩
      · exact absurd (bs_inj (t := ByteArray.empty) hb) he
      · rfl
    obtain ⟨w1, hw1⟩ : ∃ w1, w.alloc (.cells #[.string o] 9) = w1 := ⟨_, rfl⟩
    have hB1 : Below w.heap.size w w1 := hw1 ▸ (Below.refl _ w).alloc (Nat.le_refl _) _
    have k1 : Blk w1 w.heap.size 9 [.string o] := hw1 ▸ Blk.new w _ _
    have hs1 : w.heap.size + 1 = w1.heap.size := by rw [← hw1, World.size_alloc]
    obtain ⟨w2, hw2⟩ : ∃ w2, w1.alloc (.cells #[.string pl] 9) = w2 := ⟨_, rfl⟩
    have hB2 : Below w1.heap.size w1 w2 := hw2 ▸ (Below.refl _ w1).alloc (Nat.le_refl _) _
    have k2 : Blk w2 w1.heap.size 9 [.string pl] := hw2 ▸ Blk.new w1 _ _
    have k12 := k1.below hB2 k1.lt
    have hB02 : Below w.heap.size w w2 := hB1.trans (hB2.mono hB1.size)
    have HT : Hid (Calls Try.prog 19 #[.slice A l.length c, .func (.func 20) #[] #[.pointer (some ⟨w.heap.size, 0, none⟩), .pointer (some ⟨w1.heap.size, 0, none⟩)]] w2 fun e w' => e = .returned (.int .i64 (ofG (qOf o pl) l)) ∧ Below w2.heap.size w2 w') := Lib.hid (
      together_any 20 #[.pointer (some ⟨w.heap.size, 0, none⟩), .pointer (some ⟨w1.heap.size, 0, none⟩)] (enters_of Try.func20 (by kernel_rfl) rfl) (qOf o pl) A c l.length l rfl hl w2
        (fun W x hx hW => of1_any w.heap.size w1.heap.size o pl hpl x (hf x hx) W ((k12.below hW k12.lt).cell 0) ((k2.below hW k2.lt).cell 0)) (hr.below hB02))
    have HN := Lib.hid (name_any o w2)
    have c1 := k12.cell 0
    have c2 := k2.cell 0
    simp only [List.getElem?_cons_zero] at c1 c2
    have HW1 := Lib.hid hw1
    have HW2 := Lib.hid hw2
    have HS1 := Lib.hid hs1
    have HRR := Lib.hid hR
    rcases hnm : isName (bs o) with _ | _
    · have HR : Hid (R = 0) := Lib.hid (by rw [← hR, ofA, if_neg he, if_pos hnm])
      rw [hnm] at HN
      clear k1 k2 k12 hw1 hw2 hs1 hR hr hf hnm HT HRR
      have hlo : w.heap.size < w2.heap.size := Nat.lt_of_lt_of_le (by have := HS1.out; omega) hB2.size
      go_enter Try.func9, Try.ntmps9
      go_upto_region 3 with fail
      rw [HW1.out, HS1.out, HW2.out]
      go_wp2_with fail
      refine HN.out.mono ?_
      rintro e w3 ⟨rfl, rfl⟩
      go_wp2
      go_ret
      rw [HR.out]
      exact ⟨rfl, hB02⟩
    · have HR : Hid (R = ofG (qOf o pl) l) := Lib.hid (by rw [← hR, ofA, if_neg he, if_neg (by rw [hnm]; simp)])
      rw [hnm] at HN
      clear k1 k2 k12 hw1 hw2 hs1 hR hr hf hnm HRR
      go_enter Try.func9, Try.ntmps9
      go_upto_region 3 with fail
      rw [HW1.out, HS1.out, HW2.out]
      go_wp2_with fail
      refine HN.out.mono ?_
      rintro e w3 ⟨rfl, rfl⟩
      go_wp2_with fail
      refine HT.out.mono ?_
      rintro e w4 ⟨rfl, hB4⟩
      go_wp2
      go_ret
      rw [HR.out]
      exact ⟨rfl, hB02.trans (hB4.mono hB02.size)⟩

theorem may_any (A : Option Addr) (c n : Nat) (l : List Gr) (hn : l.length = n) (o pl : ByteArray) (need : Int) (w : World)
    (hX : o ≠ ByteArray.empty → n ≤ 4398046511104 ∧ (∀ x ∈ l, x.2.1.size ≤ 140737488351232) ∧ Rd w A (grs l) ∧ pl.size ≤ 140737488351232) :
    Calls Try.prog 14 #[.slice A n c, .string o, .string pl, .int .i64 need] w fun e w' => e = .returned (.bool (bits .and .i64 (ofA l o pl) need == need)) ∧ Below w.heap.size w w' := by
  have HO := Lib.hid (of_any A c n l hn o pl w hX)
  generalize ofA l o pl = R at *
  clear hX
  go_enter Try.func14, Try.ntmps14
  go_wp2_with fail
  refine HO.out.mono ?_
  rintro e w2 ⟨rfl, hB2⟩
  go_wp2
  go_ret
  exact ⟨rfl, hB2⟩

end Go.Proofs.Ytkokfmodoacflaa
