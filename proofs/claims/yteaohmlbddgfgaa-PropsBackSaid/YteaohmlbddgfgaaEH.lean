/-
  Set of props; the reference's Over. Conditions: the lists are as they come in; at most 2^30 lists.
-/
import Derived.Test.YteaohmlbddgfgaaEG
namespace Go.Proofs.Yteaohmlbddgfgaa
open Go.ChangeShapes Go.WideShapes Go.ChangeAt Go.RowKit
set_option maxRecDepth 100000

theorem overP_nil {l : List Pr} (h : RisP l) : overP [] l = l := by
  refine risP_ext (overP_rise List.Pairwise.nil l) h fun n => ?_
  rw [getP_over List.Pairwise.nil h]
  cases getP l n <;> rfl
theorem okP_one {p : Pr} : okP [p] = (isName (bs p.1) && valOk p.2) := by
  rw [Bool.eq_iff_iff, okP_iff, Bool.and_eq_true]
  constructor
  · rintro ⟨_, h, _⟩
    exact h p (by simp)
  · intro h
    exact ⟨by simp, fun q hq => by simp at hq; rw [hq]; exact h, List.pairwise_singleton _ _⟩
theorem overE_set {l : List Pr} {n v : ByteArray} (h1 : okP l = true) (h2 : isName (bs n) = true) (h3 : valOk v = true) : overE [l, [(n, v)]] = setE l n v ∧ overR [l, [(n, v)]] = setR l n v := by
  have hL : overL [l, [(n, v)]] = putP l (n, v) := by
    show overP (overP [] l) [(n, v)] = _
    rw [overP_nil (okP_rise h1)]
    rfl
  have hA : [l, [(n, v)]].all okP = true := by simp [h1, okP_one, h2, h3]
  have hE : overE [l, [(n, v)]] = setE l n v := by
    unfold overE setE
    rw [hA, h1, h2, h3, hL, putP_length (okP_rise h1)]
    have := okP_len h1
    dsimp only
    by_cases hg : getP l n = none
    · rw [if_pos hg]
      by_cases h8 : l.length = 8
      · simp [h8, hg]
      · have : ¬ 8 < l.length + 1 := by omega
        simp [h8, this]
    · rw [if_neg hg]
      have : ¬ 8 < l.length := by omega
      simp [hg, this]
  refine ⟨hE, ?_⟩
  unfold overR setR
  rw [hE, hL]

set_option maxHeartbeats 2000000 in
theorem set_any (A : Option Addr) (c m : Nat) (l : List Pr) (hm : l.length = m) (hl : m ≤ 4398046511100) (hf : ∀ x ∈ l, x.1.size ≤ 140737488351232 ∧ x.2.size ≤ 140737488351232) (n v : ByteArray) (hn : n.size ≤ 140737488351232) (hv : v.size ≤ 140737488351232) (w : World) (hr : Rd w A (prs l)) :
    Calls Try.prog 7 #[.slice A m c, .string n, .string v] w fun e w' => ∃ u, e = .returned (ansP u (setE l n v)) ∧ ownP w' w.heap.size u (setR l n v) ∧ Below w.heap.size w w' := by
  subst hm
  have HC := Lib.hid (check_any A c l.length l rfl (by omega) (fun x hx => (hf x hx).2) w hr)
  have HN := Lib.hid (name_any n)
  have HV := Lib.hid (isValue_any v (by omega))
  have HR := Lib.hid hr
  obtain ⟨E, hE⟩ : ∃ E, setE l n v = E := ⟨_, rfl⟩
  obtain ⟨U, hU⟩ : ∃ U, setR l n v = U := ⟨_, rfl⟩
  have HU : Hid (U = if E = 0 then putP l (n, v) else []) := Lib.hid (by rw [← hU, ← hE]; rfl)
  have HE := Lib.hid hE
  have HUU := Lib.hid hU
  rw [hE, hU]
  unfold setE at hE
  have HE' := Lib.hid hE
  have HF := Lib.hid hf
  clear hE hU hr hf
  rcases hok : okP l with _ | _
  · rw [chkP_no hok] at HC
    have HE0 : Hid (E = 9) := Lib.hid (by rw [← HE'.out, if_pos hok])
    have HU0 : Hid (U = []) := Lib.hid (by rw [HU.out, if_neg (by rw [HE0.out]; omega)])
    clear hok
    go_enter Try.func7, Try.ntmps7
    go_wp2_with fail
    refine HC.out.mono ?_
    rintro e w3 ⟨rfl, hB3⟩
    go_wp2
    go_ret2
    rw [HE0.out, HU0.out]
    exact ⟨_, rfl, ownNone _ _ _ _, hB3⟩
  · rw [chkP_ok hok] at HC
    have hl8 := okP_len hok
    have HOK := Lib.hid hok
    clear hok
    rcases hnm : isName (bs n) with _ | _
    · have HE0 : Hid (E = 31) := Lib.hid (by rw [← HE'.out, if_neg (by rw [HOK.out]; exact Bool.noConfusion), if_pos hnm])
      have HU0 : Hid (U = []) := Lib.hid (by rw [HU.out, if_neg (by rw [HE0.out]; omega)])
      have HN3 : Hid (∀ W, Calls Try.prog 25 #[.string n] W fun e w' => e = .returned (.bool false) ∧ W = w') := Lib.hid fun W => by have := HN.out W; rw [hnm] at this; exact this
      clear hnm
      go_enter Try.func7, Try.ntmps7
      go_wp2_with fail
      refine HC.out.mono ?_
      rintro e w3 ⟨rfl, hB3⟩
      go_wp2_with fail
      refine (HN3.out w3).mono ?_
      rintro e w4 ⟨rfl, rfl⟩
      go_wp2
      go_ret2
      rw [HE0.out, HU0.out]
      exact ⟨_, rfl, ownNone _ _ _ _, hB3⟩
    · have HN3 : Hid (∀ W, Calls Try.prog 25 #[.string n] W fun e w' => e = .returned (.bool true) ∧ W = w') := Lib.hid fun W => by have := HN.out W; rw [hnm] at this; exact this
      have HNM := Lib.hid hnm
      clear hnm
      rcases hvv : valOk v with _ | _
      · have HE0 : Hid (E = 9) := Lib.hid (by rw [← HE'.out, if_neg (by rw [HOK.out]; exact Bool.noConfusion), if_neg (by rw [HNM.out]; exact Bool.noConfusion), if_pos hvv])
        have HU0 : Hid (U = []) := Lib.hid (by rw [HU.out, if_neg (by rw [HE0.out]; omega)])
        have HV3 : Hid (∀ W, Calls Try.prog 26 #[.string v] W fun e w' => e = .returned (.bool false) ∧ Below W.heap.size W w') := Lib.hid fun W => by have := HV.out W; rw [hvv] at this; exact this
        clear hvv
        go_enter Try.func7, Try.ntmps7
        go_wp2_with fail
        refine HC.out.mono ?_
        rintro e w3 ⟨rfl, hB3⟩
        go_wp2_with fail
        refine (HN3.out w3).mono ?_
        rintro e w4 ⟨rfl, rfl⟩
        go_wp2_with fail
        refine (HV3.out w3).mono ?_
        rintro e w4 ⟨rfl, hB4⟩
        go_wp2
        go_ret2
        rw [HE0.out, HU0.out]
        exact ⟨_, rfl, ownNone _ _ _ _, hB3.trans (hB4.mono hB3.size)⟩
      · have HV3 : Hid (∀ W, Calls Try.prog 26 #[.string v] W fun e w' => e = .returned (.bool true) ∧ Below W.heap.size W w') := Lib.hid fun W => by have := HV.out W; rw [hvv] at this; exact this
        have hES := overE_set HOK.out HNM.out hvv
        have HOV : Hid (∀ W b d W', Below w.heap.size w W → W' = (W.alloc (.cells #[.string n, .string v] 50)).alloc (.cells #[.slice A l.length c, .slice (some ⟨W.heap.size, 0, none⟩) 1 1] d) → b = W.heap.size + 1 → Calls Try.prog 22 #[.slice (some ⟨b, 0, none⟩) 2 2] W' fun e w' => ∃ u, e = .returned (ansP u E) ∧ ownP w' w.heap.size u U ∧ Below w.heap.size w w') := Lib.hid fun W b d W' hB hW' hb => by
          have hB1 : Below W.heap.size W (W.alloc (.cells #[.string n, .string v] 50)) := (Below.refl _ W).alloc (Nat.le_refl _) _
          have k1 : Blk (W.alloc (.cells #[.string n, .string v] 50)) W.heap.size 50 [.string n, .string v] := Blk.new W _ _
          have hs1 : (W.alloc (.cells #[.string n, .string v] 50)).heap.size = W.heap.size + 1 := World.size_alloc _ _
          generalize W.alloc (.cells #[.string n, .string v] 50) = W1 at *
          have hB2 : Below W1.heap.size W1 W' := hW' ▸ (Below.refl _ W1).alloc (Nat.le_refl _) _
          have k2 : Blk W' W1.heap.size d [.slice A l.length c, .slice (some ⟨W.heap.size, 0, none⟩) 1 1] := hW' ▸ Blk.new W1 _ _
          have hBW' : Below w.heap.size w W' := hB.trans ((hB1.trans (hB2.mono (by omega))).mono hB.size)
          have hbb : b = W1.heap.size := by omega
          subst hbb
          have hk1 := k1.below hB2 k1.lt
          have := over_any (some ⟨W1.heap.size, 0, none⟩) 2 2 [⟨A, l, c⟩, ⟨some ⟨W.heap.size, 0, none⟩, [(n, v)], 1⟩] rfl (by omega) W' ⟨fun _ => ⟨W1.heap.size, 0, rfl, k2.lt, fun j u hu => by
              have h := k2.cell j
              rw [Nat.zero_add]
              rw [h]
              exact hu⟩, fun s hs => by
              rcases List.mem_cons.1 hs with rfl | hs
              · exact ⟨HR.out.below hBW', by dsimp only; omega, HF.out⟩
              · simp at hs
                subst hs
                refine ⟨fun _ => ⟨W.heap.size, 0, rfl, hk1.lt, fun j u hu => ?_⟩, by simp, fun x hx => ?_⟩
                · rw [Nat.zero_add, hk1.cell j]
                  exact hu
                · simp at hx
                  subst hx
                  exact ⟨hn, hv⟩⟩
          refine this.mono ?_
          rintro e w' ⟨u, rfl, hu, hBB⟩
          have e1 : ([⟨A, l, c⟩, ⟨some ⟨W.heap.size, 0, none⟩, [(n, v)], 1⟩] : List (Sl Pr)).map (·.l) = [l, [(n, v)]] := rfl
          rw [e1] at hu ⊢
          rw [hES.1, HE.out]
          rw [hES.2, HUU.out] at hu
          exact ⟨u, rfl, ownBase hu hBW'.size, hBW'.trans (hBB.mono hBW'.size)⟩
        clear hvv hES
        go_enter Try.func7, Try.ntmps7
        go_wp2_with fail
        refine HC.out.mono ?_
        rintro e w3 ⟨rfl, hB3⟩
        go_wp2_with fail
        refine (HN3.out w3).mono ?_
        rintro e w4 ⟨rfl, rfl⟩
        go_wp2_with fail
        refine (HV3.out w3).mono ?_
        rintro e w4 ⟨rfl, hB4⟩
        have hB04 := hB3.trans (hB4.mono hB3.size)
        go_wp2_with fail
        refine (HOV.out w4 _ _ _ hB04 rfl (by simp)).mono ?_
        rintro e w5 ⟨u, rfl, hu, hB5⟩
        have HU5 := Lib.hid hu
        clear hu
        go_wp2
        go_ret2
        exact ⟨_, rfl, HU5.out, hB5⟩

set_option maxHeartbeats 4000000 in
theorem refOver_any (L : Option Addr) (c n : Nat) (ls : List (Sl Pr)) (hn : ls.length = n) (hl : n ≤ 1073741824) (w : World) (hr : SlsP w L ls) :
    Calls Try.prog 23 #[.slice L n c] w fun e w' => ∃ v, e = .returned (ansP v (overE (ls.map (·.l)))) ∧ ownP w' w.heap.size v (overR (ls.map (·.l))) ∧ Below w.heap.size w w' := by
  subst hn
  obtain ⟨E, hE⟩ : ∃ E, overE (ls.map (·.l)) = E := ⟨_, rfl⟩
  obtain ⟨U, hU⟩ : ∃ U, overR (ls.map (·.l)) = U := ⟨_, rfl⟩
  have HE := Lib.hid hE
  have HU : Hid (U = if E = 0 then overL (ls.map (·.l)) else []) := Lib.hid (by rw [← hU, ← hE]; rfl)
  have HR := Lib.hid hr
  rw [hE, hU]
  clear hE hU hr
  go_enter Try.func23, Try.ntmps23
  go_wp2
  go_loopw [4, 5] (fun v i W => ∃ k : Nat, k ≤ ls.length ∧ i = .int .i64 k ∧ Hid (((ls.map (·.l)).take k).all okP = true) ∧ Hid (ownP W w.heap.size v (overL ((ls.map (·.l)).take k))) ∧ (overL ((ls.map (·.l)).take k)).length ≤ 8 * k ∧ Hid (Below w.heap.size w W)) (fun _ i _ => ls.length - (intOf i).toNat)
  case atStart => exact ⟨0, Nat.zero_le _, rfl, Lib.hid (by simp), Lib.hid (ownNone _ _ _ _), by simp [overL], Lib.hid (Below.refl _ _)⟩
  case round =>
    obtain ⟨k, hk, rfl, HD, HO, hlen, HB⟩ := hrel
    have hrise := overL_rise ((ls.map (·.l)).take k)
    by_cases hlt : k < ls.length
    · obtain ⟨s, hs⟩ : ∃ s, ls[k]? = some s := ⟨ls[k], List.getElem?_eq_getElem hlt⟩
      have hrw := HR.out.below HB.out
      obtain ⟨b, off, rfl, hb, hc0⟩ := hrw.at_ hs
      obtain ⟨hrs, hls, hfs⟩ := hrw.each s (List.mem_of_getElem? hs)
      have HC := Lib.hid (refProps_any s.A s.c s.l.length s.l rfl (by omega) (fun x hx => ⟨Nat.le_trans (hfs x hx).1 (by omega), Nat.le_trans (hfs x hx).2 (by omega)⟩) wr hrs)
      have HS := Lib.hid hs
      have HT : Hid (((ls.map (·.l)).take (k + 1)).all okP = okP s.l) := Lib.hid (by
        rw [takeMap _ hs, List.all_append, HD.out]
        simp)
      have HTL : Hid (overL ((ls.map (·.l)).take (k + 1)) = overP (overL ((ls.map (·.l)).take k)) s.l) := Lib.hid (by rw [takeMap _ hs, overL_snoc])
      have HAT : Hid (okP s.l = false → E = 9) := Lib.hid (fun h => by
        rw [← HE.out]
        unfold overE
        rw [if_pos]
        rw [← Bool.not_eq_true, List.all_eq_true]
        intro hall
        have := hall s.l (List.mem_map_of_mem (List.mem_of_getElem? hs))
        rw [h] at this
        cases this)
      have hkl : (k : Int) < ls.length := by omega
      clear hrw hrs hfs hs HD
      rcases hok : okP s.l with _ | _
      · rw [chkP_no hok] at HC
        have HE9 : Hid (E = 9) := Lib.hid (HAT.out hok)
        have HU0 : Hid (U = []) := Lib.hid (by rw [HU.out, if_neg (by rw [HE9.out]; omega)])
        clear hok HAT HT
        go_wp2_with fail
        refine HC.out.mono ?_
        rintro e w2 ⟨rfl, hB2⟩
        go_wp2
        go_ret2
        rw [HE9.out, HU0.out]
        exact ⟨_, rfl, ownNone _ _ _ _, HB.out.trans (hB2.mono HB.out.size)⟩
      · rw [chkP_ok hok] at HC
        rw [hok] at HT
        have hs8 := okP_len hok
        have hr0 := hrise
        have hso := okP_rise hok
        clear hok HAT hrise
        obtain ⟨B, l, d⟩ := s
        dsimp only at *
        go_wp2_with fail
        refine HC.out.mono ?_
        rintro e w2 ⟨rfl, hB2⟩
        have HB2 := Lib.hid (HB.out.trans (hB2.mono HB.out.size))
        have HO2 := Lib.hid (ownBelow HO.out hB2 (Nat.le_refl _))
        clear HO HC
        generalize overL ((ls.map (·.l)).take k) = M0 at *
        go_wp2
        go_loopw [4, 6] (fun v i W => ∃ j : Nat, j ≤ l.length ∧ i = .int .i64 j ∧ Hid (ownP W w.heap.size v (overP M0 (l.take j))) ∧ Hid (Below w.heap.size w W)) (fun _ i _ => l.length - (intOf i).toNat)
        case atStart => exact ⟨0, Nat.zero_le _, rfl, HO2, HB2⟩
        case round =>
          obtain ⟨j, hj, rfl, HO', HB'⟩ := hrel
          obtain ⟨Av, cv, hv, _, _, hrv, _⟩ := ownAny HO'.out
          subst hv
          have hrw' := HR.out.below HB'.out
          obtain ⟨b', off', e', hb', hc0'⟩ := hrw'.at_ HS.out
          injection e' with e'
          injection e' with e1 e2 _
          subst e1 e2
          have hup := overP_upto hr0 (l.take j)
          rw [List.length_take] at hup
          by_cases hlt' : j < l.length
          · obtain ⟨x, hx⟩ : ∃ x, l[j]? = some x := ⟨l[j], List.getElem?_eq_getElem hlt'⟩
            obtain ⟨hrs, _, _⟩ := hrw'.each _ (List.mem_of_getElem? HS.out)
            obtain ⟨bb, oo, e9, hbb, hd0, hd1⟩ := hrs.pr hx
            have e9' : B = some ⟨bb, oo, none⟩ := e9
            subst e9'
            have HTJ : Hid (putG x false (overP M0 (l.take j)) = overP M0 (l.take (j + 1))) := Lib.hid (by rw [overP_snoc _ hx, putG_eq (overP_rise hr0 _)])
            have HPUT := Lib.hid (refPutP_any Av cv _ (overP M0 (l.take j)) rfl (by omega) x wr hrv.1)
            rw [HTJ.out] at HPUT
            have hjl : (j : Int) < l.length := by omega
            clear hx hrs hrw' hrv e9 hup
            generalize overP M0 (l.take j) = m0 at *
            obtain ⟨x1, x2⟩ := x
            dsimp only at *
            go_wp2_with fail
            refine HPUT.out.mono ?_
            rintro e w5 ⟨u, rfl, hu, hB5⟩
            have HO5 := Lib.hid (ownBase hu HB'.out.size)
            have HB5 := Lib.hid (HB'.out.trans (hB5.mono HB'.out.size))
            clear hu HPUT
            go_wp2
            go_roundw
            case rel => exact ⟨j + 1, by omega, by go_num, HO5, HB5⟩
            case measure => simp [intOf]; omega
          · obtain rfl : j = l.length := by omega
            have HO6 : Hid (ownP wr w.heap.size (.slice Av (overP M0 (l.take l.length)).length cv) (overP M0 l)) := Lib.hid (by have := HO'.out; rw [List.take_length] at this ⊢; exact this)
            rw [Nat.min_self] at hup
            rw [List.take_length] at hup
            have hup2 : (overP M0 l).length ≤ 8 * (k + 1) := by omega
            clear HO' hrw' hrv hup
            go_wp2
            go_roundw
            case rel => exact ⟨k + 1, by omega, by go_num, HT, by rw [HTL.out]; exact HO6, by rw [HTL.out]; exact hup2, HB'⟩
            case measure => simp [intOf]; omega
    · obtain ⟨M, hM⟩ : ∃ M, overL (ls.map (·.l)) = M := ⟨_, rfl⟩
      have hMk : overL ((ls.map (·.l)).take k) = M := by rw [List.take_of_length_le (by rw [List.length_map]; omega), hM]
      have HA : Hid ((ls.map (·.l)).all okP = true) := Lib.hid (by
        have := HD.out
        rwa [List.take_of_length_le (by rw [List.length_map]; omega)] at this)
      rw [hMk] at HO hlen hrise
      obtain ⟨Av, cv, hv, _, _, _, _⟩ := ownAny HO.out
      subst hv
      have HEE : Hid (E = if 8 < M.length then 3 else 0) := Lib.hid (by
        rw [← HE.out]
        unfold overE
        rw [if_neg (by rw [HA.out]; exact Bool.noConfusion), hM])
      rw [hM] at HU
      clear HD hM hMk
      by_cases h9 : 8 < M.length
      · have HE3 : Hid (E = 3) := Lib.hid (by rw [HEE.out, if_pos h9])
        have HU0 : Hid (U = []) := Lib.hid (by rw [HU.out, if_neg (by rw [HE3.out]; omega)])
        go_wp2
        go_ret2
        rw [HE3.out, HU0.out]
        exact ⟨_, rfl, ownNone _ _ _ _, HB.out⟩
      · have HE0 : Hid (E = 0) := Lib.hid (by rw [HEE.out, if_neg h9])
        have HU0 : Hid (U = M) := Lib.hid (by rw [HU.out, if_pos HE0.out])
        go_wp2
        go_ret2
        rw [HE0.out, HU0.out]
        exact ⟨_, rfl, HO.out, HB.out⟩

end Go.Proofs.Yteaohmlbddgfgaa
