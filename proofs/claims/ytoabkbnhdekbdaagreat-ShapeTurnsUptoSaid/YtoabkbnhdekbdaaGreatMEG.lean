/-
  The reference's Unset, Set and Over; Set of props. Conditions: the lists are as they come in.
-/
import Derived.Test.YtoabkbnhdekbdaaGreatMEE
import Derived.Test.YtoabkbnhdekbdaaGreatMEF
namespace Go.Proofs.YtoabkbnhdekbdaaGreat
set_option maxHeartbeats 2000000
open Go.ChangeShapes Go.WideShapes Go.ChangeAt Go.RowKit
set_option maxRecDepth 100000
theorem refUnset_any (A : Option Addr) (c m : Nat) (l : List Pr) (hm : l.length = m) (hl : m ≤ 4398046511103) (hf : ∀ x ∈ l, x.1.size ≤ 140737488351232 ∧ x.2.size ≤ 140737488351232) (n : ByteArray) (w : World) (hr : Rd w A (prs l)) :
    Calls Tryz.prog 50 #[.slice A m c, .string n] w fun e w' => ∃ v, e = .returned (ansP v (unsetE l n)) ∧ ownP w' w.heap.size v (unsetR l n) ∧ Below w.heap.size w w' := by
  subst hm
  have HG := Lib.hid (refProp_any A c l.length l rfl (by omega) n w hr)
  have HC : Hid (∀ W, Below w.heap.size w W → Calls Tryz.prog 104 #[.slice A l.length c] W fun e w' => e = .returned (.int .i64 (chkP l)) ∧ Below W.heap.size W w') := Lib.hid fun W hB => refProps_any A c l.length l rfl (by omega) (fun x hx => ⟨Nat.le_trans (hf x hx).1 (by omega), Nat.le_trans (hf x hx).2 (by omega)⟩) W (hr.below hB)
  have HR := Lib.hid hr
  rcases hok : okP l with _ | _
  · rw [chkP_no hok] at HC
    have hE : unsetE l n = 9 := by unfold unsetE; rw [if_pos hok]
    have hU : unsetR l n = [] := by unfold unsetR; rw [if_neg (by rw [hE]; omega)]
    rw [hE, hU]
    generalize getP l n = G at *
    clear hE hU hok hr hf
    go_enter Tryz.func50, Tryz.ntmps50
    go_wp2_with fail
    refine HG.out.mono ?_
    rintro e w2 ⟨rfl, hB2⟩
    go_wp2_with fail
    refine (HC.out w2 hB2).mono ?_
    rintro e w3 ⟨rfl, hB3⟩
    go_wp2
    go_ret2
    exact ⟨_, rfl, ownNone _ _ _ _, hB2.trans (hB3.mono hB2.size)⟩
  · rw [chkP_ok hok] at HC
    rcases hg : getP l n with _ | u
    · have hE : unsetE l n = 71 := by unfold unsetE; rw [if_neg (by rw [hok]; exact Bool.noConfusion), if_pos hg]
      have hU : unsetR l n = [] := by unfold unsetR; rw [if_neg (by rw [hE]; omega)]
      rw [hE, hU]
      rw [hg] at HG
      clear hE hU hok hr hf hg
      go_enter Tryz.func50, Tryz.ntmps50
      go_wp2_with fail
      refine HG.out.mono ?_
      rintro e w2 ⟨rfl, hB2⟩
      go_wp2_with fail
      refine (HC.out w2 hB2).mono ?_
      rintro e w3 ⟨rfl, hB3⟩
      go_wp2
      go_ret2
      exact ⟨_, rfl, ownNone _ _ _ _, hB2.trans (hB3.mono hB2.size)⟩
    · have hE : unsetE l n = 0 := by unfold unsetE; rw [if_neg (by rw [hok]; exact Bool.noConfusion), if_neg (by rw [hg]; exact fun h => nomatch h)]
      have hU : unsetR l n = dropP l n := by unfold unsetR; rw [if_pos hE]
      rw [hE, hU]
      rw [hg] at HG
      have hl8 := okP_len hok
      clear hE hU hok hr hf hg
      have hdr : dropP l n = l.filter fun x => decide (x.1 ≠ n) := rfl
      rw [hdr]
      clear hdr
      go_enter Tryz.func50, Tryz.ntmps50
      go_wp2_with fail
      refine HG.out.mono ?_
      rintro e w2 ⟨rfl, hB2⟩
      go_wp2_with fail
      refine (HC.out w2 hB2).mono ?_
      rintro e w3 ⟨rfl, hB3⟩
      have hB03 : Below w.heap.size w w3 := hB2.trans (hB3.mono hB2.size)
      clear HC HG
      go_wp2
      go_loopw [8, 9] (fun v i W => ∃ k : Nat, k ≤ l.length ∧ i = .int .i64 k ∧ Hid (ownP W w.heap.size v ((l.take k).filter fun x => decide (x.1 ≠ n))) ∧ Hid (Below w.heap.size w W)) (fun _ i _ => l.length - (intOf i).toNat)
      case atStart => exact ⟨0, Nat.zero_le _, rfl, Lib.hid (ownNone _ _ _ _), Lib.hid hB03⟩
      case round =>
        obtain ⟨k, hk, rfl, HO, HB⟩ := hrel
        obtain ⟨Av, cv, hv, _, _, _, _⟩ := ownAny HO.out
        subst hv
        have hbs := HB.out.size
        by_cases hlt : k < l.length
        · obtain ⟨x, hx⟩ : ∃ x, l[k]? = some x := ⟨l[k], qZa hlt⟩
          obtain ⟨b, off, rfl, hb, hc0, hc1⟩ := (HR.out.below HB.out).pr hx
          have HTK := Lib.hid (takeFilter (fun x : Pr => decide (x.1 ≠ n)) hx)
          have hfl := filterLe (fun x : Pr => decide (x.1 ≠ n)) l k
          have heq := beqTE x.1 n
          have hlk : (k : Int) < l.length := by omega
          by_cases he : x.1 = n
          · rw [decide_eq_true he] at heq
            have HO' : Hid (ownP wr w.heap.size (.slice Av ((l.take k).filter fun x => decide (x.1 ≠ n)).length cv) ((l.take (k + 1)).filter fun x => decide (x.1 ≠ n))) := Lib.hid (by
              rw [HTK.out, if_neg (by simp [he])]
              simpa using HO.out)
            clear HTK HO hx he
            go_wp2
            go_roundw
            case rel => exact ⟨k + 1, by omega, by go_num, HO', HB⟩
            case measure => simp [intOf]; omega
          · rw [decide_eq_false he] at heq
            have HTK' : Hid (((l.take k).filter fun x => decide (x.1 ≠ n)) ++ [x] = (l.take (k + 1)).filter fun x => decide (x.1 ≠ n)) := Lib.hid (by
              rw [HTK.out, if_pos (by simp [he])])
            clear HTK hx he
            generalize (l.take k).filter (fun x => decide (x.1 ≠ n)) = fk at *
            obtain ⟨x1, x2⟩ := x
            dsimp only at *
            go_wp2_with (at_builtin; refine wpAppP rfl rfl HB.out hbs HO.out (x1, x2) rfl rfl (by omega) ?_; intro g6 c6 x6 HO6 HB6)
            rw [HTK'.out] at HO6
            go_roundw
            case rel => exact ⟨k + 1, by omega, by go_num, HO6, HB6⟩
            case measure => simp [intOf]; omega
        · obtain rfl : k = l.length := by omega
          rw [List.take_length] at HO ⊢
          go_wp2
          go_ret2
          exact ⟨_, rfl, HO.out, HB.out⟩
def setE (l : List Pr) (n v : ByteArray) : Int := if okP l = false then 9 else if isName (bs n) = false then 31 else if valOk v = false then 9 else if getP l n = none ∧ l.length = 8 then 3 else 0
def setR (l : List Pr) (n v : ByteArray) : List Pr := if setE l n v = 0 then putP l (n, v) else []
theorem refSet_any (A : Option Addr) (c m : Nat) (l : List Pr) (hm : l.length = m) (hl : m ≤ 4398046511100) (hf : ∀ x ∈ l, x.1.size ≤ 140737488351232 ∧ x.2.size ≤ 140737488351232) (n v : ByteArray) (hn : n.size ≤ 140737488351232) (hv : v.size ≤ 140737488351232) (w : World) (hr : Rd w A (prs l)) :
    Calls Tryz.prog 49 #[.slice A m c, .string n, .string v] w fun e w' => ∃ u, e = .returned (ansP u (setE l n v)) ∧ ownP w' w.heap.size u (setR l n v) ∧ Below w.heap.size w w' := by
  subst hm
  have HG := Lib.hid (refProp_any A c l.length l rfl (by omega) n w hr)
  have HC : Hid (∀ W, Below w.heap.size w W → Calls Tryz.prog 104 #[.slice A l.length c] W fun e w' => e = .returned (.int .i64 (chkP l)) ∧ Below W.heap.size W w') := Lib.hid fun W hB => refProps_any A c l.length l rfl (by omega) (fun x hx => ⟨Nat.le_trans (hf x hx).1 (by omega), Nat.le_trans (hf x hx).2 (by omega)⟩) W (hr.below hB)
  have HN := Lib.hid (refName_any n (by omega))
  have HV := Lib.hid (refValue_any v (by omega))
  have HPUT : Hid (∀ W, Below w.heap.size w W → Calls Tryz.prog 106 #[.slice A l.length c, prV (n, v)] W fun e w' => ∃ u, e = .returned u ∧ ownP w' W.heap.size u (putG (n, v) false l) ∧ Below W.heap.size W w') := Lib.hid fun W hB => refPutP_any A c l.length l rfl hl (n, v) W (hr.below hB)
  obtain ⟨E, hE⟩ : ∃ E, setE l n v = E := ⟨_, rfl⟩
  obtain ⟨U, hU⟩ : ∃ U, setR l n v = U := ⟨_, rfl⟩
  have HE := Lib.hid hE
  have HU : Hid (U = if E = 0 then putP l (n, v) else []) := Lib.hid (by rw [← hU, ← hE]; rfl)
  rw [hE, hU]
  unfold setE at hE
  have HE' := Lib.hid hE
  clear hE hU hr hf
  obtain ⟨G, hG⟩ : ∃ G, getP l n = G := ⟨_, rfl⟩
  have HGG := Lib.hid hG
  rw [hG] at HG HE'
  clear hG
  go_enter Tryz.func49, Tryz.ntmps49
  go_wp2_with fail
  refine HG.out.mono ?_
  rintro e w2 ⟨rfl, hB2⟩
  rcases hok : okP l with _ | _
  · rw [chkP_no hok] at HC
    have HE0 : Hid (E = 9) := Lib.hid (by rw [← HE'.out, if_pos hok])
    have HU0 : Hid (U = []) := Lib.hid (by rw [HU.out, if_neg (by rw [HE0.out]; omega)])
    clear hok
    go_wp2_with fail
    refine (HC.out w2 hB2).mono ?_
    rintro e w3 ⟨rfl, hB3⟩
    go_wp2
    go_ret2
    rw [HE0.out, HU0.out]
    exact ⟨_, rfl, ownNone _ _ _ _, hB2.trans (hB3.mono hB2.size)⟩
  · rw [chkP_ok hok] at HC
    have hrise := okP_rise hok
    have hl8 := okP_len hok
    have HOK := Lib.hid hok
    have HRI := Lib.hid hrise
    clear hok hrise
    go_wp2_with fail
    refine (HC.out w2 hB2).mono ?_
    rintro e w3 ⟨rfl, hB3⟩
    have hB03 : Below w.heap.size w w3 := hB2.trans (hB3.mono hB2.size)
    clear HC HG
    have HN3 := Lib.hid (HN.out w3)
    rcases hnm : isName (bs n) with _ | _
    · have HE0 : Hid (E = 31) := Lib.hid (by rw [← HE'.out, if_neg (by rw [HOK.out]; exact Bool.noConfusion), if_pos hnm])
      have HU0 : Hid (U = []) := Lib.hid (by rw [HU.out, if_neg (by rw [HE0.out]; omega)])
      rw [hnm] at HN3
      clear hnm
      go_wp2_with fail
      refine HN3.out.mono ?_
      rintro e w4 ⟨rfl, rfl⟩
      go_wp2
      go_ret2
      rw [HE0.out, HU0.out]
      exact ⟨_, rfl, ownNone _ _ _ _, hB03⟩
    · rw [hnm] at HN3
      have HNM := Lib.hid hnm
      clear hnm
      go_wp2_with fail
      refine HN3.out.mono ?_
      rintro e w4 ⟨rfl, rfl⟩
      have HV3 := Lib.hid (HV.out w3)
      rcases hvv : valOk v with _ | _
      · have HE0 : Hid (E = 9) := Lib.hid (by rw [← HE'.out, if_neg (by rw [HOK.out]; exact Bool.noConfusion), if_neg (by rw [HNM.out]; exact Bool.noConfusion), if_pos hvv])
        have HU0 : Hid (U = []) := Lib.hid (by rw [HU.out, if_neg (by rw [HE0.out]; omega)])
        rw [hvv] at HV3
        clear hvv
        go_wp2_with fail
        refine HV3.out.mono ?_
        rintro e w4 ⟨rfl, rfl⟩
        go_wp2
        go_ret2
        rw [HE0.out, HU0.out]
        exact ⟨_, rfl, ownNone _ _ _ _, hB03⟩
      · rw [hvv] at HV3
        have HVV := Lib.hid hvv
        clear hvv
        have HEE : Hid (E = if G = none ∧ l.length = 8 then 3 else 0) := Lib.hid (by rw [← HE'.out, if_neg (by rw [HOK.out]; exact Bool.noConfusion), if_neg (by rw [HNM.out]; exact Bool.noConfusion), if_neg (by rw [HVV.out]; exact Bool.noConfusion)])
        have HPG : Hid (E = 0 → putG (n, v) false l = U) := Lib.hid fun h => by rw [HU.out, if_pos h, putG_eq HRI.out]
        go_wp2_with fail
        refine HV3.out.mono ?_
        rintro e w4 ⟨rfl, rfl⟩
        rcases G with _ | u0
        · by_cases h8 : l.length = 8
          · have HE0 : Hid (E = 3) := Lib.hid (by rw [HEE.out, if_pos ⟨rfl, h8⟩])
            have HU0 : Hid (U = []) := Lib.hid (by rw [HU.out, if_neg (by rw [HE0.out]; omega)])
            have hq : ((l.length : Int) == 8) = true := beq_iff_eq.2 (by omega)
            have hq2 : (l.length == 8) = true := beq_iff_eq.2 h8
            clear h8
            go_wp2
            go_ret2
            rw [HE0.out, HU0.out]
            exact ⟨_, rfl, ownNone _ _ _ _, hB03⟩
          · have HE0 : Hid (E = 0) := Lib.hid (by rw [HEE.out, if_neg (fun h => h8 h.2)])
            have hq : ((l.length : Int) == 8) = false := beq_eq_false_iff_ne.2 (by omega)
            have hq2 : (l.length == 8) = false := beq_eq_false_iff_ne.2 h8
            clear h8
            go_wp2_with fail
            refine (HPUT.out w3 hB03).mono ?_
            rintro e w5 ⟨u, rfl, hu, hB5⟩
            rw [HPG.out HE0.out] at hu
            have HUU := Lib.hid hu
            clear hu
            go_wp2
            go_ret2
            rw [HE0.out]
            exact ⟨_, rfl, ownBase HUU.out hB03.size, hB03.trans (hB5.mono hB03.size)⟩
        · have HE0 : Hid (E = 0) := Lib.hid (by rw [HEE.out, if_neg (fun h => nomatch h.1)])
          go_wp2_with fail
          refine (HPUT.out w3 hB03).mono ?_
          rintro e w5 ⟨u, rfl, hu, hB5⟩
          rw [HPG.out HE0.out] at hu
          have HUU := Lib.hid hu
          clear hu
          go_wp2
          go_ret2
          rw [HE0.out]
          exact ⟨_, rfl, ownBase HUU.out hB03.size, hB03.trans (hB5.mono hB03.size)⟩
theorem overP_nil {l : List Pr} (h : RisP l) : overP [] l = l := by
  refine risP_ext (overP_rise List.Pairwise.nil l) h fun n => ?_
  rw [getP_over List.Pairwise.nil h]
  cases getP l n <;> rfl
theorem okP_one {p : Pr} : okP [p] = (isName (bs p.1) && valOk p.2) := by
  rw [Bool.eq_iff_iff, okP_iff, Bool.and_eq_true]
  constructor
  · rintro ⟨_, h, _⟩
    exact h p (by simp)
  · intro h
    exact ⟨by simp, fun q hq => by simp at hq; rw [hq]; exact h, List.pairwise_singleton _ _⟩
theorem overE_set {l : List Pr} {n v : ByteArray} (h1 : okP l = true) (h2 : isName (bs n) = true) (h3 : valOk v = true) : overE [l, [(n, v)]] = setE l n v ∧ overR [l, [(n, v)]] = setR l n v := by
  have hL : overL [l, [(n, v)]] = putP l (n, v) := by
    show overP (overP [] l) [(n, v)] = _
    rw [overP_nil (okP_rise h1)]
    rfl
  have hA : [l, [(n, v)]].all okP = true := by simp [h1, okP_one, h2, h3]
  have hE : overE [l, [(n, v)]] = setE l n v := by
    unfold overE setE
    rw [hA, h1, h2, h3, hL, putP_length (okP_rise h1)]
    have := okP_len h1
    dsimp only
    by_cases hg : getP l n = none
    · rw [if_pos hg]
      by_cases h8 : l.length = 8
      · simp [h8, hg]
      · have : ¬ 8 < l.length + 1 := by omega
        simp [h8, this]
    · rw [if_neg hg]
      have : ¬ 8 < l.length := by omega
      simp [hg, this]
  refine ⟨hE, ?_⟩
  unfold overR setR
  rw [hE, hL]
set_option maxHeartbeats 2000000 in
theorem set_any (A : Option Addr) (c m : Nat) (l : List Pr) (hm : l.length = m) (hl : m ≤ 4398046511100) (hf : ∀ x ∈ l, x.1.size ≤ 140737488351232 ∧ x.2.size ≤ 140737488351232) (n v : ByteArray) (hn : n.size ≤ 140737488351232) (hv : v.size ≤ 140737488351232) (w : World) (hr : Rd w A (prs l)) :
    Calls Tryz.prog 55 #[.slice A m c, .string n, .string v] w fun e w' => ∃ u, e = .returned (ansP u (setE l n v)) ∧ ownP w' w.heap.size u (setR l n v) ∧ Below w.heap.size w w' := by
  subst hm
  have HC := Lib.hid (check_any A c l.length l rfl (by omega) (fun x hx => (hf x hx).2) w hr)
  have HN := Lib.hid (name_any n)
  have HV := Lib.hid (isValue_any v (by omega))
  have HR := Lib.hid hr
  obtain ⟨E, hE⟩ : ∃ E, setE l n v = E := ⟨_, rfl⟩
  obtain ⟨U, hU⟩ : ∃ U, setR l n v = U := ⟨_, rfl⟩
  have HU : Hid (U = if E = 0 then putP l (n, v) else []) := Lib.hid (by rw [← hU, ← hE]; rfl)
  have HE := Lib.hid hE
  have HUU := Lib.hid hU
  rw [hE, hU]
  unfold setE at hE
  have HE' := Lib.hid hE
  have HF := Lib.hid hf
  clear hE hU hr hf
  rcases hok : okP l with _ | _
  · rw [chkP_no hok] at HC
    have HE0 : Hid (E = 9) := Lib.hid (by rw [← HE'.out, if_pos hok])
    have HU0 : Hid (U = []) := Lib.hid (by rw [HU.out, if_neg (by rw [HE0.out]; omega)])
    clear hok
    go_enter Tryz.func55, Tryz.ntmps55
    go_wp2_with fail
    refine HC.out.mono ?_
    rintro e w3 ⟨rfl, hB3⟩
    go_wp2
    go_ret2
    rw [HE0.out, HU0.out]
    exact ⟨_, rfl, ownNone _ _ _ _, hB3⟩
  · rw [chkP_ok hok] at HC
    have hl8 := okP_len hok
    have HOK := Lib.hid hok
    clear hok
    rcases hnm : isName (bs n) with _ | _
    · have HE0 : Hid (E = 31) := Lib.hid (by rw [← HE'.out, if_neg (by rw [HOK.out]; exact Bool.noConfusion), if_pos hnm])
      have HU0 : Hid (U = []) := Lib.hid (by rw [HU.out, if_neg (by rw [HE0.out]; omega)])
      have HN3 : Hid (∀ W, Calls Tryz.prog 78 #[.string n] W fun e w' => e = .returned (.bool false) ∧ W = w') := Lib.hid fun W => by have := HN.out W; rw [hnm] at this; exact this
      clear hnm
      go_enter Tryz.func55, Tryz.ntmps55
      go_wp2_with fail
      refine HC.out.mono ?_
      rintro e w3 ⟨rfl, hB3⟩
      go_wp2_with fail
      refine (HN3.out w3).mono ?_
      rintro e w4 ⟨rfl, rfl⟩
      go_wp2
      go_ret2
      rw [HE0.out, HU0.out]
      exact ⟨_, rfl, ownNone _ _ _ _, hB3⟩
    · have HN3 : Hid (∀ W, Calls Tryz.prog 78 #[.string n] W fun e w' => e = .returned (.bool true) ∧ W = w') := Lib.hid fun W => by have := HN.out W; rw [hnm] at this; exact this
      have HNM := Lib.hid hnm
      clear hnm
      rcases hvv : valOk v with _ | _
      · have HE0 : Hid (E = 9) := Lib.hid (by rw [← HE'.out, if_neg (by rw [HOK.out]; exact Bool.noConfusion), if_neg (by rw [HNM.out]; exact Bool.noConfusion), if_pos hvv])
        have HU0 : Hid (U = []) := Lib.hid (by rw [HU.out, if_neg (by rw [HE0.out]; omega)])
        have HV3 : Hid (∀ W, Calls Tryz.prog 110 #[.string v] W fun e w' => e = .returned (.bool false) ∧ Below W.heap.size W w') := Lib.hid fun W => by have := HV.out W; rw [hvv] at this; exact this
        clear hvv
        go_enter Tryz.func55, Tryz.ntmps55
        go_wp2_with fail
        refine HC.out.mono ?_
        rintro e w3 ⟨rfl, hB3⟩
        go_wp2_with fail
        refine (HN3.out w3).mono ?_
        rintro e w4 ⟨rfl, rfl⟩
        go_wp2_with fail
        refine (HV3.out w3).mono ?_
        rintro e w4 ⟨rfl, hB4⟩
        go_wp2
        go_ret2
        rw [HE0.out, HU0.out]
        exact ⟨_, rfl, ownNone _ _ _ _, hB3.trans (hB4.mono hB3.size)⟩
      · have HV3 : Hid (∀ W, Calls Tryz.prog 110 #[.string v] W fun e w' => e = .returned (.bool true) ∧ Below W.heap.size W w') := Lib.hid fun W => by have := HV.out W; rw [hvv] at this; exact this
        have hES := overE_set HOK.out HNM.out hvv
        have HOV : Hid (∀ W b d W', Below w.heap.size w W → W' = (W.alloc (.cells #[.string n, .string v] 105)).alloc (.cells #[.slice A l.length c, .slice (some ⟨W.heap.size, 0, none⟩) 1 1] d) → b = W.heap.size + 1 → Calls Tryz.prog 111 #[.slice (some ⟨b, 0, none⟩) 2 2] W' fun e w' => ∃ u, e = .returned (ansP u E) ∧ ownP w' w.heap.size u U ∧ Below w.heap.size w w') := Lib.hid fun W b d W' hB hW' hb => by
          have hB1 : Below W.heap.size W (W.alloc (.cells #[.string n, .string v] 105)) := (Below.refl _ W).alloc (Nat.le_refl _) _
          have k1 : Blk (W.alloc (.cells #[.string n, .string v] 105)) W.heap.size 105 [.string n, .string v] := Blk.new W _ _
          have hs1 : (W.alloc (.cells #[.string n, .string v] 105)).heap.size = W.heap.size + 1 := World.size_alloc _ _
          generalize W.alloc (.cells #[.string n, .string v] 105) = W1 at *
          have hB2 : Below W1.heap.size W1 W' := hW' ▸ (Below.refl _ W1).alloc (Nat.le_refl _) _
          have k2 : Blk W' W1.heap.size d [.slice A l.length c, .slice (some ⟨W.heap.size, 0, none⟩) 1 1] := hW' ▸ Blk.new W1 _ _
          have hBW' : Below w.heap.size w W' := hB.trans ((hB1.trans (hB2.mono (by omega))).mono hB.size)
          have hbb : b = W1.heap.size := by omega
          subst hbb
          have hk1 := k1.below hB2 k1.lt
          have := over_any (some ⟨W1.heap.size, 0, none⟩) 2 2 [⟨A, l, c⟩, ⟨some ⟨W.heap.size, 0, none⟩, [(n, v)], 1⟩] rfl (by omega) W' ⟨fun _ => ⟨W1.heap.size, 0, rfl, k2.lt, fun j u hu => by
              have h := k2.cell j
              rw [Nat.zero_add]
              rw [h]
              exact hu⟩, fun s hs => by
              rcases List.mem_cons.1 hs with rfl | hs
              · exact ⟨HR.out.below hBW', by dsimp only; omega, HF.out⟩
              · simp at hs
                subst hs
                refine ⟨fun _ => ⟨W.heap.size, 0, rfl, hk1.lt, fun j u hu => ?_⟩, by simp, fun x hx => ?_⟩
                · rw [Nat.zero_add, hk1.cell j]
                  exact hu
                · simp at hx
                  subst hx
                  exact ⟨hn, hv⟩⟩
          refine this.mono ?_
          rintro e w' ⟨u, rfl, hu, hBB⟩
          have e1 : ([⟨A, l, c⟩, ⟨some ⟨W.heap.size, 0, none⟩, [(n, v)], 1⟩] : List (Sl Pr)).map (·.l) = [l, [(n, v)]] := rfl
          rw [e1] at hu ⊢
          rw [hES.1, HE.out]
          rw [hES.2, HUU.out] at hu
          exact ⟨u, rfl, ownBase hu hBW'.size, hBW'.trans (hBB.mono hBW'.size)⟩
        clear hvv hES
        go_enter Tryz.func55, Tryz.ntmps55
        go_wp2_with fail
        refine HC.out.mono ?_
        rintro e w3 ⟨rfl, hB3⟩
        go_wp2_with fail
        refine (HN3.out w3).mono ?_
        rintro e w4 ⟨rfl, rfl⟩
        go_wp2_with fail
        refine (HV3.out w3).mono ?_
        rintro e w4 ⟨rfl, hB4⟩
        have hB04 := hB3.trans (hB4.mono hB3.size)
        go_wp2_with fail
        refine (HOV.out w4 _ _ _ hB04 rfl (by simp)).mono ?_
        rintro e w5 ⟨u, rfl, hu, hB5⟩
        have HU5 := Lib.hid hu
        clear hu
        go_wp2
        go_ret2
        exact ⟨_, rfl, HU5.out, hB5⟩
theorem putP_ok {l : List Pr} {n v : ByteArray} (h : setE l n v = 0) : okP (putP l (n, v)) = true := by
  unfold setE at h
  split at h
  · omega
  · rename_i h0
    have hok : okP l = true := (Bool.not_eq_false _).mp h0
    split at h
    · omega
    · rename_i h1
      split at h
      · omega
      · rename_i h2
        split at h
        · omega
        · rename_i h3
          have hr := okP_rise hok
          refine okP_iff.2 ⟨?_, fun p hp => ?_, putP_rise hr _⟩
          · rw [putP_length hr]
            have := okP_len hok
            split
            · rename_i hg
              have : ¬ l.length = 8 := fun e => h3 ⟨hg, e⟩
              omega
            · exact this
          · rcases putP_mem hp with rfl | hp
            · exact ⟨(Bool.not_eq_false _).mp h1, (Bool.not_eq_false _).mp h2⟩
            · exact (okP_iff.1 hok).2.1 p hp
theorem dropP_ok {l : List Pr} (n : ByteArray) (h : okP l = true) : okP (dropP l n) = true := by
  obtain ⟨h1, h2, h3⟩ := okP_iff.1 h
  refine okP_iff.2 ⟨Nat.le_trans (List.length_filter_le _ _) h1, fun p hp => h2 p (List.mem_filter.1 hp).1, dropP_rise h3 n⟩
end Go.Proofs.YtoabkbnhdekbdaaGreat
