/-
  PropsTells' walk. No conditions.
-/
import Derived.Test.YteaohmlbddgfgaaEP
namespace Go.Proofs.Yteaohmlbddgfgaa
open Go.ChangeShapes Go.WideShapes Go.ChangeAt Go.RowKit
set_option maxRecDepth 100000

set_option maxRecDepth 100000 in
set_option maxHeartbeats 4000000 in
theorem tells12_walk (A : Option Addr) (c : Nat) (l : List Pr) (n v : ByteArray) (hn : n.size ≤ 140737488351232) (hv : v.size ≤ 140737488351232) (w : World) (h : HasP w A l) :
    Calls Try.prog 3 #[.slice A l.length c, .string n, .string v] w fun e w' => e = .returned (.bool true) ∧ Below w.heap.size w w' := by
  have HX := Lib.hid h
  have hP1 := setR_ok l n v
  have hP2 := unsetR_ok l n
  obtain ⟨P1, p1⟩ : ∃ P, setR l n v = P := ⟨_, rfl⟩
  obtain ⟨P2, p2⟩ : ∃ P, unsetR l n = P := ⟨_, rfl⟩
  obtain ⟨E1, e1⟩ : ∃ E, setE l n v = E := ⟨_, rfl⟩
  obtain ⟨E2, e2⟩ : ∃ E, unsetE l n = E := ⟨_, rfl⟩
  obtain ⟨C, eC⟩ : ∃ E, chkP l = E := ⟨_, rfl⟩
  obtain ⟨G, eG⟩ : ∃ E, getP l n = E := ⟨_, rfl⟩
  obtain ⟨O, eO⟩ : ∃ E, textP l = E := ⟨_, rfl⟩
  obtain ⟨D, eD⟩ : ∃ D, decide (l = P1) = D := ⟨_, rfl⟩
  rw [p1] at hP1
  rw [p2] at hP2
  have F1 := Lib.hid (fun W (hW : Below w.heap.size w W) => (HX.out.below hW).set c n v hn hv)
  have F2 := Lib.hid (fun W (hW : Below w.heap.size w W) => (HX.out.below hW).refSet c n v hn hv)
  have F3 := Lib.hid (fun W (hW : Below w.heap.size w W) => (HX.out.below hW).unset c n)
  have F4 := Lib.hid (fun W (hW : Below w.heap.size w W) => (HX.out.below hW).refUnset c n)
  have F5 := Lib.hid (fun W (hW : Below w.heap.size w W) => (HX.out.below hW).get c n)
  have F6 := Lib.hid (fun W (hW : Below w.heap.size w W) => (HX.out.below hW).refGet c n)
  have F7 := Lib.hid (fun W (hW : Below w.heap.size w W) => (HX.out.below hW).check c)
  have F8 := Lib.hid (fun W (hW : Below w.heap.size w W) => (HX.out.below hW).refCheck c)
  have F9 := Lib.hid (fun W (hW : Below w.heap.size w W) => (HX.out.below hW).text c)
  have F10 := Lib.hid (fun W (hW : Below w.heap.size w W) => (HX.out.below hW).refText c)
  have F11 := Lib.hid (fun W (hW : Below w.heap.size w W) B d (h2 : HasP W B P1) => (HX.out.below hW).same c h2 d)
  have F12 := Lib.hid (fun W (hW : Below w.heap.size w W) B d (h2 : HasP W B P1) => (HX.out.below hW).refSame c h2 d)
  have htl : O.length ≤ 8796093022208 := by rw [← eO, textP_len]; have := h.len; omega
  have HP1 := Lib.hid hP1
  have HP2 := Lib.hid hP2
  rw [p1, e1] at F1 F2
  rw [p2, e2] at F3 F4
  rw [eG] at F5 F6
  rw [eC] at F7 F8
  rw [eO] at F9 F10
  rw [eD] at F11 F12
  have hN := Lib.hid num12_any
  have hbE : ∀ x : Int, (x == x) = true := fun x => beq_self_eq_true x
  have hgd : ((G.getD ByteArray.empty).toList == (G.getD ByteArray.empty).toList) = true := beq_self_eq_true _
  clear h p1 p2 e1 e2 eC eG eO eD hP1 hP2
  go_enter Try.func3, Try.ntmps3
  go_wp2_with fail
  refine (F1.out w (Below.refl _ _)).mono ?_
  rintro e w1 ⟨A1, c1, rfl, q1, n1, r1, B1⟩
  have X1 := Lib.hid (HasP.of_ok r1 HP1.out)
  clear r1 q1 n1
  go_wp2_with fail
  refine (F2.out w1 B1).mono ?_
  rintro e w2 ⟨A2, c2, rfl, q2, n2, r2, B2⟩
  have X2 := Lib.hid (HasP.of_ok r2 HP1.out)
  have K2 := B1.trans (B2.mono B1.size)
  clear r2 q2 n2
  go_wp2_with fail
  refine (F3.out w2 K2).mono ?_
  rintro e w3 ⟨A3, c3, rfl, q3, n3, r3, B3⟩
  have X3 := Lib.hid (HasP.of_ok r3 HP2.out)
  have K3 := K2.trans (B3.mono K2.size)
  clear r3 q3 n3
  go_wp2_with fail
  refine (F4.out w3 K3).mono ?_
  rintro e w4 ⟨A4, c4, rfl, q4, n4, r4, B4⟩
  have X4 := Lib.hid (HasP.of_ok r4 HP2.out)
  have K4 := K3.trans (B4.mono K3.size)
  clear r4 q4 n4
  go_wp2_with fail
  refine (F5.out w4 K4).mono ?_
  rintro e w5 ⟨rfl, B5⟩
  have K5 := K4.trans (B5.mono K4.size)
  go_wp2_with fail
  refine (F6.out w5 K5).mono ?_
  rintro e w6 ⟨rfl, B6⟩
  have K6 := K5.trans (B6.mono K5.size)
  have Y1 := (X1.out.below B2).below B3
  have Y2 := ((Y1.below B4).below B5).below B6
  have Z2 := (((X2.out.below B3).below B4).below B5).below B6
  have S1 := Lib.hid (Y2.one Z2 c1 c2)
  have HY2 := Lib.hid Y2
  have HX36 := Lib.hid (((X3.out.below B4).below B5).below B6)
  have HX46 := Lib.hid ((X4.out.below B5).below B6)
  clear Y1 Y2 Z2 X1 X2 X3 X4
  go_wp2_with fail
  refine S1.out.mono ?_
  rintro e w7 ⟨rfl, B7⟩
  have K7 := K6.trans (B7.mono K6.size)
  have S2 := Lib.hid ((HX36.out.below B7).one (HX46.out.below B7) c3 c4)
  go_wp2_with fail
  refine (hN.out E1 w7).mono ?_
  rintro e w7' ⟨rfl, rfl⟩
  go_wp2_with fail
  refine S2.out.mono ?_
  rintro e w8 ⟨rfl, B8⟩
  have K8 := K7.trans (B8.mono K7.size)
  go_wp2_with fail
  refine (hN.out E2 w8).mono ?_
  rintro e w8' ⟨rfl, rfl⟩
  have HY8 := Lib.hid ((HY2.out.below B7).below B8)
  clear S1 S2 HX36 HX46 HY2
  go_wp2_with fail
  refine (F7.out _ K8).mono ?_
  rintro e w9 ⟨rfl, B9⟩
  have K9 := K8.trans (B9.mono K8.size)
  go_wp2_with fail
  refine (hN.out C w9).mono ?_
  rintro e w9' ⟨rfl, rfl⟩
  go_wp2_with fail
  refine (F8.out _ K9).mono ?_
  rintro e w10 ⟨rfl, B10⟩
  have K10 := K9.trans (B10.mono K9.size)
  go_wp2_with fail
  refine (F9.out _ K10).mono ?_
  rintro e w11 ⟨A5, c5, rfl, q5, n5, r5, B11⟩
  have K11 := K10.trans (B11.mono K10.size)
  go_wp2_with fail
  refine (F10.out _ K11).mono ?_
  rintro e w12 ⟨A6, c6, rfl, q6, n6, r6, B12⟩
  have K12 := K11.trans (B12.mono K11.size)
  have S3 := Lib.hid (texts_one A5 A6 c5 c6 O htl w12 (r5.below B12) r6)
  clear r5 r6 q5 n5 q6 n6
  go_wp2_with fail
  refine S3.out.mono ?_
  rintro e w13 ⟨rfl, B13⟩
  have K13 := K12.trans (B13.mono K12.size)
  have Y13 := ((((HY8.out.below B9).below B10).below B11).below B12).below B13
  have S4 := Lib.hid (F11.out _ K13 A1 c1 Y13)
  have HY13 := Lib.hid Y13
  clear Y13 S3
  go_wp2_with fail
  refine S4.out.mono ?_
  rintro e w14 ⟨rfl, B14⟩
  have K14 := K13.trans (B14.mono K13.size)
  have S5 := Lib.hid (F12.out _ K14 A1 c1 (HY13.out.below B14))
  go_wp2_with fail
  refine S5.out.mono ?_
  rintro e w15 ⟨rfl, B15⟩
  have K15 := K14.trans (B15.mono K14.size)
  go_wp2_with fail
  refine (alive12_any _).mono ?_
  rintro e w16 ⟨rfl, B16⟩
  have K16 := K15.trans (B16.mono K15.size)
  go_wp2
  go_ret
  exact ⟨rfl, K16⟩

end Go.Proofs.Yteaohmlbddgfgaa
