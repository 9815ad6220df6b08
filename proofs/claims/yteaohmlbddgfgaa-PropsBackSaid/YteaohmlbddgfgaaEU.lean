/-
  PropsOver's, PropsForce's and PropsBack's walks. No conditions.
-/
import Derived.Test.YteaohmlbddgfgaaEP
namespace Go.Proofs.Yteaohmlbddgfgaa
open Go.ChangeShapes Go.WideShapes Go.ChangeAt Go.RowKit
set_option maxRecDepth 100000

theorem HasP.each {W : World} {A : Option Addr} {l : List Pr} (h : HasP W A l) : Rd W A (prs l) ∧ l.length ≤ 4398046511103 ∧ ∀ x ∈ l, x.1.size ≤ 140737488351232 ∧ x.2.size ≤ 140737488351232 := ⟨h.rd, by have := h.len; omega, h.sz⟩
theorem over_two {W : World} {A B : Option Addr} {a b : List Pr} (ha : HasP W A a) (hb : HasP W B b) (c d : Nat) :
    Calls Try.prog 22 #[.slice (some ⟨W.heap.size, 0, none⟩) 2 2] (W.alloc (.cells #[.slice A a.length c, .slice B b.length d] 22)) (TellP W (overR [a, b]) (overE [a, b])) :=
  (over_row [⟨A, a, c⟩, ⟨B, b, d⟩] 2 rfl (by omega) W (fun s hs => by
    rcases List.mem_cons.1 hs with rfl | hs
    · exact ha.each
    · simp at hs
      subst hs
      exact hb.each) 22).mono fun _ _ => tellP_of
theorem over_three {W : World} {A B C : Option Addr} {a b m : List Pr} (ha : HasP W A a) (hb : HasP W B b) (hm : HasP W C m) (c d q : Nat) :
    Calls Try.prog 22 #[.slice (some ⟨W.heap.size, 0, none⟩) 3 3] (W.alloc (.cells #[.slice A a.length c, .slice B b.length d, .slice C m.length q] 22)) (TellP W (overR [a, b, m]) (overE [a, b, m])) :=
  (over_row [⟨A, a, c⟩, ⟨B, b, d⟩, ⟨C, m, q⟩] 3 rfl (by omega) W (fun s hs => by
    rcases List.mem_cons.1 hs with rfl | hs
    · exact ha.each
    · rcases List.mem_cons.1 hs with rfl | hs
      · exact hb.each
      · simp at hs
        subst hs
        exact hm.each) 22).mono fun _ _ => tellP_of
theorem refOver_three {W : World} {A B C : Option Addr} {a b m : List Pr} (ha : HasP W A a) (hb : HasP W B b) (hm : HasP W C m) (c d q : Nat) :
    Calls Try.prog 23 #[.slice (some ⟨W.heap.size, 0, none⟩) 3 3] (W.alloc (.cells #[.slice A a.length c, .slice B b.length d, .slice C m.length q] 22)) (TellP W (overR [a, b, m]) (overE [a, b, m])) :=
  (refOver_row [⟨A, a, c⟩, ⟨B, b, d⟩, ⟨C, m, q⟩] 3 rfl (by omega) W (fun s hs => by
    rcases List.mem_cons.1 hs with rfl | hs
    · exact ha.each
    · rcases List.mem_cons.1 hs with rfl | hs
      · exact hb.each
      · simp at hs
        subst hs
        exact hm.each) 22).mono fun _ _ => tellP_of
theorem overE_ok {ls : List (List Pr)} (h : overE ls = 0) : ls.all okP = true := by
  unfold overE at h
  split at h
  · omega
  · rename_i h0; exact (Bool.not_eq_false _).mp h0
theorem over_self {a : List Pr} (h : overE [a, a] = 0) : overR [a, a] = a := by
  have hok := List.all_eq_true.1 (overE_ok h) a (by simp)
  have hr := okP_rise hok
  unfold overR
  rw [if_pos h]
  show overP (overP [] a) a = a
  rw [overP_nil hr, overP_self hr]
theorem over_get {a b : List Pr} (h : overE [a, b] = 0) (n : ByteArray) : getP (overR [a, b]) n = (getP b n).or (getP a n) := by
  have ha := okP_rise (List.all_eq_true.1 (overE_ok h) a (by simp))
  have hb := okP_rise (List.all_eq_true.1 (overE_ok h) b (by simp))
  unfold overR
  rw [if_pos h]
  show getP (overP (overP [] a) b) n = _
  rw [overP_nil ha, getP_over ha hb]

set_option maxRecDepth 100000 in
set_option maxHeartbeats 4000000 in
theorem over12_walk (A B C : Option Addr) (c d q : Nat) (a b m : List Pr) (w : World) (ha : HasP w A a) (hb : HasP w B b) (hm : HasP w C m) :
    Calls Try.prog 4 #[.slice A a.length c, .slice B b.length d, .slice C m.length q] w fun e w' => e = .returned (.bool true) ∧ Below w.heap.size w w' := by
  have HA := Lib.hid ha
  have F1 := Lib.hid (fun W (hW : Below w.heap.size w W) => over_three (ha.below hW) (hb.below hW) (hm.below hW) c d q)
  have F2 := Lib.hid (fun W (hW : Below w.heap.size w W) => refOver_three (ha.below hW) (hb.below hW) (hm.below hW) c d q)
  have F3 := Lib.hid (fun W (hW : Below w.heap.size w W) => over_two (ha.below hW) (ha.below hW) c c)
  have HP1 := Lib.hid (overR_ok [a, b, m])
  have HP2 := Lib.hid (overR_ok [a, a])
  have HS := Lib.hid (fun h : overE [a, a] = 0 => over_self h)
  have hN := Lib.hid num12_any
  have hbE : ∀ x : Int, (x == x) = true := fun x => beq_self_eq_true x
  clear ha hb hm
  generalize overR [a, b, m] = P1 at *
  generalize overE [a, b, m] = E1 at *
  generalize overR [a, a] = P2 at *
  generalize overE [a, a] = E2 at *
  go_enter Try.func4, Try.ntmps4
  go_wp2_with fail
  refine (F1.out w (Below.refl _ _)).mono ?_
  rintro e w1 ⟨A1, c1, rfl, q1, n1, r1, B1⟩
  have X1 := Lib.hid (HasP.of_ok r1 HP1.out)
  clear r1 q1 n1
  go_wp2_with fail
  refine (F2.out w1 B1).mono ?_
  rintro e w2 ⟨A2, c2, rfl, q2, n2, r2, B2⟩
  have X2 := Lib.hid (HasP.of_ok r2 HP1.out)
  have K2 := B1.trans (B2.mono B1.size)
  clear r2 q2 n2
  go_wp2_with fail
  refine (F3.out w2 K2).mono ?_
  rintro e w3 ⟨A3, c3, rfl, q3, n3, r3, B3⟩
  have X3 := Lib.hid (HasP.of_ok r3 HP2.out)
  have K3 := K2.trans (B3.mono K2.size)
  have S1 := Lib.hid (((X1.out.below B2).below B3).one (X2.out.below B3) c1 c2)
  clear r3 q3 n3 X1 X2 F1 F2 F3
  go_wp2_with fail
  refine S1.out.mono ?_
  rintro e w4 ⟨rfl, B4⟩
  have K4 := K3.trans (B4.mono K3.size)
  go_wp2_with fail
  refine (hN.out E1 w4).mono ?_
  rintro e w4' ⟨rfl, rfl⟩
  go_wp2_with fail
  refine (hN.out E2 _).mono ?_
  rintro e w4' ⟨rfl, rfl⟩
  by_cases hE : E2 = 0
  · have hp := HS.out hE
    subst hE
    subst hp
    have S2 := Lib.hid ((X3.out.below B4).one (HA.out.below K4) c3 c)
    go_wp2_with fail
    refine S2.out.mono ?_
    rintro e w5 ⟨rfl, B5⟩
    have K5 := K4.trans (B5.mono K4.size)
    go_wp2_with fail
    refine (alive12_any _).mono ?_
    rintro e w6 ⟨rfl, B6⟩
    have K6 := K5.trans (B6.mono K5.size)
    go_wp2
    go_ret
    exact ⟨rfl, K6⟩
  · have hq1 : (E2 == 0) = false := beq_eq_false_iff_ne.2 hE
    have hq2 : (E2 != 0) = true := by rw [bne, hq1]; rfl
    clear hE
    go_wp2_with fail
    refine (alive12_any _).mono ?_
    rintro e w6 ⟨rfl, B6⟩
    have K6 := K4.trans (B6.mono K4.size)
    go_wp2
    go_ret
    exact ⟨rfl, K6⟩

set_option maxRecDepth 100000 in
set_option maxHeartbeats 4000000 in
theorem force12_walk (A B : Option Addr) (c d : Nat) (a b : List Pr) (n : ByteArray) (w : World) (ha : HasP w A a) (hb : HasP w B b) :
    Calls Try.prog 5 #[.slice A a.length c, .slice B b.length d, .string n] w fun e w' => e = .returned (.bool true) ∧ Below w.heap.size w w' := by
  have F1 := Lib.hid (fun W (hW : Below w.heap.size w W) => over_two (ha.below hW) (hb.below hW) c d)
  have F2 := Lib.hid (fun W (hW : Below w.heap.size w W) => (hb.below hW).get d n)
  have F3 := Lib.hid (fun W (hW : Below w.heap.size w W) => (ha.below hW).get c n)
  have HP1 := Lib.hid (overR_ok [a, b])
  have HG := Lib.hid (fun h : overE [a, b] = 0 => over_get h n)
  have HZ : Hid (overE [a, b] ≠ 0 → overR [a, b] = []) := Lib.hid fun h => by unfold overR; rw [if_neg h]
  have hN := Lib.hid num12_any
  clear ha hb
  generalize overR [a, b] = P1 at *
  generalize overE [a, b] = E1 at *
  generalize getP b n = gb at *
  generalize getP a n = ga at *
  go_enter Try.func5, Try.ntmps5
  go_wp2_with fail
  refine (alive12_any _).mono ?_
  rintro e w1 ⟨rfl, B1⟩
  go_wp2_with fail
  refine (F1.out w1 B1).mono ?_
  rintro e w2 ⟨A2, c2, rfl, q2, n2, r2, B2⟩
  have X2 := Lib.hid (HasP.of_ok r2 HP1.out)
  have K2 := B1.trans (B2.mono B1.size)
  clear r2 q2 n2
  go_wp2_with fail
  refine (hN.out E1 _).mono ?_
  rintro e w2' ⟨rfl, rfl⟩
  by_cases hE : E1 = 0
  · have hg := HG.out hE
    subst hE
    have F4 := Lib.hid (X2.out.get c2 n)
    rw [hg] at F4
    clear hg
    go_wp2_with fail
    refine F4.out.mono ?_
    rintro e w3 ⟨rfl, B3⟩
    have K3 := K2.trans (B3.mono K2.size)
    go_wp2_with fail
    refine (F2.out _ K3).mono ?_
    rintro e w4 ⟨rfl, B4⟩
    have K4 := K3.trans (B4.mono K3.size)
    rcases gb with _ | gb
    · rcases ga with _ | ga
      · simp only [Option.or, ansO, Option.getD_none, Option.isSome_none]
        go_wp2_with fail
        refine (F3.out _ K4).mono ?_
        rintro e w5 ⟨rfl, B5⟩
        have K5 := K4.trans (B5.mono K4.size)
        simp only [ansO, Option.getD_none, Option.isSome_none]
        go_wp2
        go_ret
        exact ⟨rfl, K5⟩
      · simp only [Option.or, ansO, Option.getD_some, Option.isSome_some, Option.getD_none, Option.isSome_none]
        go_wp2_with fail
        refine (F3.out _ K4).mono ?_
        rintro e w5 ⟨rfl, B5⟩
        have K5 := K4.trans (B5.mono K4.size)
        simp only [ansO, Option.getD_some, Option.isSome_some]
        go_wp2
        go_ret
        exact ⟨rfl, K5⟩
    · simp only [Option.or, ansO, Option.getD_some, Option.isSome_some]
      go_wp2
      go_ret
      exact ⟨rfl, K4⟩
  · have hp := HZ.out hE
    subst hp
    have hq1 : (E1 == 0) = false := beq_eq_false_iff_ne.2 hE
    have hq2 : (E1 != 0) = true := by rw [bne, hq1]; rfl
    clear hE
    go_wp2
    go_ret
    exact ⟨rfl, K2⟩

theorem pairsT_text (l : List Pr) : pairsT (textP l) = l := by
  have h1 := readP_text l
  rw [readP_even (by rw [textP_len]; omega)] at h1
  injection h1
theorem textP_pairs {s : List ByteArray} (h : s.length % 2 = 0) : textP (pairsT s) = s := textP_read (readP_even h)
theorem readE_text (l : List Pr) : readE (textP l) = chkP l ∧ readR (textP l) = if okP l then l else [] := by
  have h0 : (textP l).length % 2 = 0 := by rw [textP_len]; omega
  have hE : readE (textP l) = chkP l := by
    unfold readE chkP
    rw [if_neg (fun h => h h0), pairsT_text]
    rcases okP l with _ | _ <;> rfl
  refine ⟨hE, ?_⟩
  unfold readR
  rw [hE, pairsT_text]
  unfold chkP
  rcases okP l with _ | _
  · simp
  · simp
theorem readE_back {s : List ByteArray} (h : readE s = 0) : textP (readR s) = s := by
  unfold readR
  rw [if_pos h]
  refine textP_pairs ?_
  unfold readE at h
  split at h
  · omega
  · omega

set_option maxRecDepth 100000 in
set_option maxHeartbeats 4000000 in
theorem back12_walk (A B : Option Addr) (c d : Nat) (l : List Pr) (s : List ByteArray) (w : World) (h : HasP w A l) (hs : RdS w B s) (hsl : s.length ≤ 8796093021952) (hsz : ∀ x ∈ s, x.size ≤ 140737488351232) :
    Calls Try.prog 6 #[.slice A l.length c, .slice B s.length d] w fun e w' => e = .returned (.bool true) ∧ Below w.heap.size w w' := by
  have HX := Lib.hid h
  have hl := h.len
  have F1 := Lib.hid (fun W (hW : Below w.heap.size w W) => (h.below hW).text c)
  have F2 := Lib.hid (fun W (hW : Below w.heap.size w W) C q (hr : RdS W C (textP l)) => readT_any C q (textP l).length (textP l) rfl (by rw [textP_len]; omega) (fun x hx => by
    unfold textP at hx
    obtain ⟨p, hp, hx⟩ := List.mem_flatMap.1 hx
    have := h.sz p hp
    simp at hx
    rcases hx with rfl | rfl
    · exact this.1
    · exact this.2) W hr)
  have F3 := Lib.hid (fun W (hW : Below w.heap.size w W) => (h.below hW).refCheck c)
  have F4 := Lib.hid (fun W (hW : Below w.heap.size w W) => readT_any B d s.length s rfl (by omega) hsz W (hs.below hW))
  have F5 := Lib.hid (fun W (hW : Below w.heap.size w W) C q (hr : RdS W C s) => texts_one C B q d s (by omega) W hr (hs.below hW))
  obtain ⟨e1, e2⟩ := readE_text l
  rw [e1, e2] at F2
  obtain ⟨P3, hP3⟩ : ∃ P, (if okP l = true then l else []) = P := ⟨_, rfl⟩
  rw [hP3] at F2
  have HC0 : Hid ((chkP l = 0 ∧ P3 = l ∧ okP l = true) ∨ chkP l = 9) := Lib.hid (by
    unfold chkP
    rcases hok : okP l with _ | _
    · exact .inr (by simp)
    · exact .inl ⟨by simp, by rw [← hP3, hok]; rfl, rfl⟩)
  clear hP3
  have hok2 := readR_okP s
  have HP := Lib.hid hok2
  have HB := Lib.hid (fun h : readE s = 0 => readE_back h)
  have HZ : Hid (readE s ≠ 0 → readR s = []) := Lib.hid fun h => by unfold readR; rw [if_neg h]
  have hN := Lib.hid num12_any
  clear h hs hsz e1 e2 hok2
  generalize textP l = tl at *
  generalize readE s = E2 at *
  generalize readR s = P2 at *
  go_enter Try.func6, Try.ntmps6
  go_wp2_with fail
  refine (alive12_any _).mono ?_
  rintro e w1 ⟨rfl, B1⟩
  go_wp2_with fail
  refine (F1.out w1 B1).mono ?_
  rintro e w2 ⟨A2, c2, rfl, q2, n2, r2, B2⟩
  have K2 := B1.trans (B2.mono B1.size)
  have F2' := Lib.hid ((F2.out _ K2 A2 c2 r2).mono fun _ _ => tellP_of)
  clear r2 q2 n2 F2
  go_wp2_with fail
  refine F2'.out.mono ?_
  rintro e w3 ⟨A3, c3, rfl, q3, n3, r3, B3⟩
  have K3 := K2.trans (B3.mono K2.size)
  have R3 := Lib.hid r3
  clear r3 q3 n3 F2'
  generalize chkP l = C at *
  go_wp2_with fail
  refine (hN.out C _).mono ?_
  rintro e w3' ⟨rfl, rfl⟩
  go_wp2_with fail
  refine (F3.out _ K3).mono ?_
  rintro e w4 ⟨rfl, B4⟩
  have K4 := K3.trans (B4.mono K3.size)
  have hbC : (C == C) = true := beq_self_eq_true C
  have hbC2 : (C != C) = false := by rw [bne, hbC]; rfl
  go_wp2_with fail
  refine (hN.out C _).mono ?_
  rintro e w4' ⟨rfl, rfl⟩
  have F6 : Hid (∀ W, Below w.heap.size w W → Calls Try.prog 24 #[.slice B s.length d] W (TellP W P2 E2)) := Lib.hid fun W hW => (F4.out W hW).mono fun _ _ => tellP_of
  have HT : Hid (∀ W A6 c6, HasP W A6 P2 → Calls Try.prog 18 #[.slice A6 P2.length c6] W (TellT W (textP P2))) := Lib.hid fun W A6 c6 h => h.text c6
  clear F4
  rcases HC0.out with ⟨rfl, rfl, hok⟩ | rfl
  · have S3' := Lib.hid ((HX.out.below K4).one (HasP.of_ok (R3.out.below B4) hok) c c3)
    clear hok
    go_wp2_with fail
    refine S3'.out.mono ?_
    rintro e w5 ⟨rfl, B5⟩
    have K5 := K4.trans (B5.mono K4.size)
    go_wp2_with fail
    refine (F6.out _ K5).mono ?_
    rintro e w6 ⟨A6, c6, rfl, q6, n6, r6, B6⟩
    have K6 := K5.trans (B6.mono K5.size)
    have X6 := Lib.hid (HasP.of_ok r6 HP.out)
    clear r6 q6 n6
    go_wp2_with fail
    refine (hN.out E2 _).mono ?_
    rintro e w6' ⟨rfl, rfl⟩
    by_cases hE : E2 = 0
    · have hb := HB.out hE
      subst hE
      go_wp2_with fail
      refine (hN.out 0 _).mono ?_
      rintro e w7 ⟨rfl, rfl⟩
      go_wp2_with fail
      refine (HT.out _ A6 c6 X6.out).mono ?_
      rintro e w8 ⟨A8, c8, rfl, q8, n8, r8, B8⟩
      have K8 := K6.trans (B8.mono K6.size)
      rw [hb] at r8 ⊢
      have S8 := Lib.hid (F5.out _ K8 A8 c8 r8)
      clear r8 q8 n8 hb
      go_wp2_with fail
      refine S8.out.mono ?_
      rintro e w9 ⟨rfl, B9⟩
      have K9 := K8.trans (B9.mono K8.size)
      go_wp2
      go_ret
      exact ⟨rfl, K9⟩
    · have hz := HZ.out hE
      subst hz
      have hq1 : (E2 == 0) = false := beq_eq_false_iff_ne.2 hE
      have hq2 : (E2 != 0) = true := by rw [bne, hq1]; rfl
      clear hE
      go_wp2
      go_ret
      exact ⟨rfl, K6⟩
  · go_wp2_with fail
    refine (F6.out _ K4).mono ?_
    rintro e w6 ⟨A6, c6, rfl, q6, n6, r6, B6⟩
    have K6 := K4.trans (B6.mono K4.size)
    have X6 := Lib.hid (HasP.of_ok r6 HP.out)
    clear r6 q6 n6
    go_wp2_with fail
    refine (hN.out E2 _).mono ?_
    rintro e w6' ⟨rfl, rfl⟩
    by_cases hE : E2 = 0
    · have hb := HB.out hE
      subst hE
      go_wp2_with fail
      refine (hN.out 0 _).mono ?_
      rintro e w7 ⟨rfl, rfl⟩
      go_wp2_with fail
      refine (HT.out _ A6 c6 X6.out).mono ?_
      rintro e w8 ⟨A8, c8, rfl, q8, n8, r8, B8⟩
      have K8 := K6.trans (B8.mono K6.size)
      rw [hb] at r8 ⊢
      have S8 := Lib.hid (F5.out _ K8 A8 c8 r8)
      clear r8 q8 n8 hb
      go_wp2_with fail
      refine S8.out.mono ?_
      rintro e w9 ⟨rfl, B9⟩
      have K9 := K8.trans (B9.mono K8.size)
      go_wp2
      go_ret
      exact ⟨rfl, K9⟩
    · have hz := HZ.out hE
      subst hz
      have hq1 : (E2 == 0) = false := beq_eq_false_iff_ne.2 hE
      have hq2 : (E2 != 0) = true := by rw [bne, hq1]; rfl
      clear hE
      go_wp2
      go_ret
      exact ⟨rfl, K6⟩

end Go.Proofs.Yteaohmlbddgfgaa
