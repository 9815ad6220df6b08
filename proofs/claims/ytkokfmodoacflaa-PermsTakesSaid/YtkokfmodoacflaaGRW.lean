/-
  The walks of PermsTakes and PermsGives. Conditions: those written.
-/
import Derived.Test.YtkokfmodoacflaaGRO
import Derived.Test.YtkokfmodoacflaaROF
namespace Go.Proofs.Ytkokfmodoacflaa
open Go.ChangeShapes Go.WideShapes Go.ChangeAt Go.RowKit
set_option maxRecDepth 100000

theorem denyR_nil (u p : ByteArray) (r : Int) : denyR [] u p r = [] := by
  unfold denyR
  split
  · rename_i h
    unfold denyE at h
    split at h
    · unfold hasG at h
      simp at h
    · rename_i h0
      exact absurd h h0
  · rfl
theorem allowR_no {l : List Gr} {u p : ByteArray} {r : Int} (h : allowE l u p r ≠ 0) : allowR l u p r = [] := by
  unfold allowR
  rw [if_neg h]
theorem allowR_yes {l : List Gr} {u p : ByteArray} {r : Int} (h : allowE l u p r = 0) : allowR l u p r = setG u p (orF r) l := by
  unfold allowR
  rw [if_pos h]
/-- Given and taken away again where there was none. -/
theorem takes_back {l : List Gr} {u p : ByteArray} {r : Int} (h : allowE l u p r = 0) (hno : ∀ x ∈ l, ¬ (x.1 = u ∧ x.2.1 = p)) : denyE (allowR l u p r) u p r = 0 ∧ denyR (allowR l u p r) u p r = l := by
  obtain ⟨h1, _⟩ := allowE_zero h
  obtain ⟨_, k2, k3, k4, k5⟩ := refE_zero h1
  have hf : orF r 0 = r := by
    unfold orF
    rw [or_range (by omega) (by omega) (by omega) k5]
    simp
    omega
  have hb := setG_back (u := u) (p := p) (f := orF r) (g := anF r) (r := r) hf (by omega) (andNot_self r) hno
  rw [allowR_yes h]
  have hre : refE (setG u p (orF r) l) u p r = 0 := by
    unfold refE
    have hs : someP r = true := by unfold someP; simp [k4, k5]
    rw [allow_ok h, k2, k3, hs]
    simp
  have hE : denyE (setG u p (orF r) l) u p r = 0 := by
    unfold denyE
    rw [if_pos hre, hb.2]
    rfl
  refine ⟨hE, ?_⟩
  unfold denyR
  rw [if_pos hE]
  exact hb.1

set_option maxHeartbeats 4000000 in
theorem takes_walk (A : Option Addr) (c : Nat) (l : List Gr) (u p : ByteArray) (hu : u.size ≤ 140737488351232) (hp : p.size ≤ 140737488351232) (r : Int) (w : World) (h : HasG w A c l) :
    Calls Try.prog 4 #[.slice A l.length c, .string u, .string p, .int .i64 r] w fun e w' => e = .returned (.bool true) ∧ Below w.heap.size w w' := by
  have HX := Lib.hid h
  have hln := h.len
  clear h
  go_enter Try.func4, Try.ntmps4
  go_wp2_with fail
  refine (alive13_any w).mono ?_
  rintro e w1 ⟨rfl, hB1⟩
  go_wp2
  go_loopw [9] (fun j W => ∃ k : Nat, k ≤ l.length ∧ j = .int .i64 k ∧ Hid (∀ x ∈ l.take k, ¬ (x.1 = u ∧ x.2.1 = p)) ∧ w1 = W) (fun j _ => l.length - (intOf j).toNat)
  case atStart => exact ⟨0, Nat.zero_le _, rfl, Lib.hid (by simp), rfl⟩
  case round =>
    obtain ⟨k, hk, rfl, HNO, rfl⟩ := hrel
    by_cases hlt : k < l.length
    · obtain ⟨x, hx⟩ : ∃ x, l[k]? = some x := ⟨l[k], List.getElem?_eq_getElem hlt⟩
      obtain ⟨b, off, rfl, hb, hc0, hc1, hc2⟩ := (HX.out.rd.below hB1).gr hx
      have hd1 := beqG x.1 u
      have hd2 := beqG x.2.1 p
      by_cases h1 : x.1 = u
      · rw [decide_eq_true h1] at hd1
        by_cases h2 : x.2.1 = p
        · rw [decide_eq_true h2] at hd2
          clear hx h1 h2
          go_wp2
          go_ret
          exact ⟨rfl, hB1⟩
        · rw [decide_eq_false h2] at hd2
          have HNO2 : Hid (∀ x ∈ l.take (k + 1), ¬ (x.1 = u ∧ x.2.1 = p)) := Lib.hid fun y hy => by
            rw [List.take_add_one, hx] at hy
            rcases List.mem_append.1 hy with hy | hy
            · exact HNO.out y hy
            · simp at hy
              subst hy
              exact fun e => h2 e.2
          clear hx h1 h2
          go_wp2
          go_roundw
          case rel => exact ⟨k + 1, by omega, by go_num, HNO2, by trivial⟩
          case measure => simp [intOf]; omega
      · rw [decide_eq_false h1] at hd1
        have HNO2 : Hid (∀ x ∈ l.take (k + 1), ¬ (x.1 = u ∧ x.2.1 = p)) := Lib.hid fun y hy => by
          rw [List.take_add_one, hx] at hy
          rcases List.mem_append.1 hy with hy | hy
          · exact HNO.out y hy
          · simp at hy
            subst hy
            exact fun e => h1 e.1
        clear hx h1 hd2
        go_wp2
        go_roundw
        case rel => exact ⟨k + 1, by omega, by go_num, HNO2, by trivial⟩
        case measure => simp [intOf]; omega
    · have HNA : Hid (∀ x ∈ l, ¬ (x.1 = u ∧ x.2.1 = p)) := Lib.hid (by
        have := HNO.out
        rwa [List.take_of_length_le (by omega)] at this)
      have HA := Lib.hid ((HX.out.below hB1).allow u p hu hp r)
      have hmok := allowR_ok l u p r
      by_cases hE : allowE l u p r = 0
      · obtain ⟨hdE, hdR⟩ := takes_back hE HNA.out
        rw [hE] at HA
        have hsame : ∀ W B d, HasG W B d (allowR l u p r) → Calls Try.prog 11 #[.slice B (allowR l u p r).length d, .string u, .string p, .int .i64 r] W (TellG W l 0) := fun W B d hW => by
          have := hW.deny u p hu hp r
          rwa [hdE, hdR] at this
        have HD := Lib.hid hsame
        have hlok : okG l = true := (refE_zero (allowE_zero hE).1).1
        have HOL := Lib.hid hlok
        have HOM := Lib.hid hmok
        generalize allowR l u p r = m at *
        clear hE hdE hdR HNO hsame hmok hlok
        go_wp2_with fail
        refine HA.out.mono ?_
        rintro e w2 ⟨A2, c2, rfl, q2, n2, r2, B2⟩
        have X2 := Lib.hid (HasG.of_ok r2 q2 n2 HOM.out)
        have K2 := hB1.trans (B2.mono hB1.size)
        clear q2 n2 r2
        go_wp2_with fail
        refine (HD.out w2 A2 c2 X2.out).mono ?_
        rintro e w3 ⟨A3, c3, rfl, q3, n3, r3, B3⟩
        have K3 := K2.trans (B3.mono K2.size)
        have HR3 := Lib.hid r3
        have HS := Lib.hid (refSameG_any A3 A c3 c l.length l.length l l rfl rfl hln hln w3 r3 (HX.out.rd.below K3))
        rw [decide_eq_true rfl] at HS
        clear q3 n3 r3
        go_wp2_with fail
        refine (num13_any 0 w3).mono ?_
        rintro e w4 ⟨rfl, rfl⟩
        go_wp2_with fail
        refine (num13_any 0 _).mono ?_
        rintro e w5 ⟨rfl, rfl⟩
        go_wp2_with fail
        refine HS.out.mono ?_
        rintro e w6 ⟨rfl, B6⟩
        have K6 := K3.trans (B6.mono K3.size)
        have HG := Lib.hid (refGrants_ok A2 c2 m.length m rfl HOM.out w6 ((X2.out.below B3).below B6).rd)
        go_wp2_with fail
        refine HG.out.mono ?_
        rintro e w7 ⟨rfl, B7⟩
        go_wp2
        go_ret
        exact ⟨rfl, K6.trans (B7.mono K6.size)⟩
      · have hR := allowR_no hE
        rw [hR] at HA
        have hq : (allowE l u p r == 0) = false := beq_eq_false_iff_ne.2 hE
        have HD : Hid (∀ W B d, HasG W B d [] → ∀ n, n = 0 → Calls Try.prog 11 #[.slice B n d, .string u, .string p, .int .i64 r] W (TellG W [] (denyE [] u p r))) := Lib.hid fun W B d hW n hn => by
          have := hW.deny u p hu hp r
          rw [denyR_nil] at this
          subst hn
          exact this
        generalize allowE l u p r = E at *
        generalize denyE [] u p r = F at *
        clear hE hR HNO hmok
        go_wp2_with fail
        refine HA.out.mono ?_
        rintro e w2 ⟨A2, c2, rfl, q2, n2, r2, B2⟩
        have X2 := Lib.hid (HasG.of_ok r2 q2 n2 rfl)
        have K2 := hB1.trans (B2.mono hB1.size)
        have HD2 := Lib.hid (HD.out w2 A2 c2 X2.out 0 rfl)
        clear q2 n2 r2
        go_wp2_with fail
        refine HD2.out.mono ?_
        rintro e w3 ⟨A3, c3, rfl, q3, n3, r3, B3⟩
        have K3 := K2.trans (B3.mono K2.size)
        clear q3 n3 r3
        go_wp2_with fail
        refine (num13_any E w3).mono ?_
        rintro e w4 ⟨rfl, rfl⟩
        go_wp2
        go_ret
        exact ⟨rfl, K3⟩

set_option maxHeartbeats 4000000 in
theorem gives_walk (A : Option Addr) (c : Nat) (l : List Gr) (u p : ByteArray) (hu : u.size ≤ 140737488351232) (hp : p.size ≤ 140737488351232) (r : Int) (o q : ByteArray) (hq : q.size ≤ 4398046511104) (w : World) (h : HasG w A c l) :
    Calls Try.prog 3 #[.slice A l.length c, .string u, .string p, .int .i64 r, .string o, .string q] w fun e w' => e = .returned (.bool true) ∧ Below w.heap.size w w' := by
  have HX := Lib.hid h
  have HA := Lib.hid (fun W (hW : Below w.heap.size w W) => (HX.out.below hW).allow u p hu hp r)
  clear h
  by_cases hE : allowE l u p r = 0
  · have hmok := allowR_ok l u p r
    have hof := ofA_allow hE o q
    rw [← allowR_yes hE] at hof
    obtain ⟨h1, _⟩ := allowE_zero hE
    obtain ⟨_, k2, k3, k4, k5⟩ := refE_zero h1
    obtain ⟨rn, rfl⟩ := Int.eq_ofNat_of_zero_le (show 0 ≤ r by omega)
    have HO := Lib.hid (fun W (hW : Below w.heap.size w W) => (HX.out.below hW).of o q (by omega))
    have HM : Hid (∀ W B d, HasG W B d (allowR l u p rn) → Calls Try.prog 9 #[.slice B (allowR l u p rn).length d, .string o, .string q] W fun e w' => e = .returned (.int .i64 (ofA (allowR l u p rn) o q)) ∧ Below W.heap.size W w') := Lib.hid fun W B d hW => hW.of o q (by omega)
    have hR := fun b W hb => refOfOne_any b u p q rn k2 (by have := path_len k3; omega) hq (by omega) (by omega) W hb
    rw [hE] at HA
    have HR := Lib.hid hR
    have HOM := Lib.hid hmok
    have hd := beqG o u
    generalize ofA (allowR l u p rn) o q = is at *
    generalize allowR l u p rn = m at *
    generalize ofA l o q = was at *
    clear hE hmok h1 k2 k3 hR
    by_cases ho : o = u
    · rw [decide_eq_true ho] at hd
      rcases hU : underL (bs q) (bs p) with _ | _
      · have HE2 : Hid (is = was) := Lib.hid (by rw [hof, if_neg (by rw [hU]; simp)])
        have hqe : (is == was) = true := beq_iff_eq.2 HE2.out
        rw [hU] at HR
        simp only [Bool.false_eq_true, if_false] at HR
        have hz : ((0 : Int) == (rn : Int)) = false := beq_eq_false_iff_ne.2 (by omega)
        clear hof hU ho HE2
        go_enter Try.func3, Try.ntmps3
        go_wp2_with fail
        refine (alive13_any w).mono ?_
        rintro e w1 ⟨rfl, hB1⟩
        go_wp2_with fail
        refine (HA.out w1 hB1).mono ?_
        rintro e w2 ⟨A2, c2, rfl, q2, n2, r2, B2⟩
        have X2 := Lib.hid (HasG.of_ok r2 q2 n2 HOM.out)
        have K2 := hB1.trans (B2.mono hB1.size)
        clear q2 n2 r2
        go_wp2_with fail
        refine (num13_any 0 w2).mono ?_
        rintro e w2' ⟨rfl, rfl⟩
        go_wp2_with fail
        refine (HO.out _ K2).mono ?_
        rintro e w3 ⟨rfl, B3⟩
        have K3 := K2.trans (B3.mono K2.size)
        go_wp2_with fail
        refine (HM.out w3 A2 c2 (X2.out.below B3)).mono ?_
        rintro e w4 ⟨rfl, B4⟩
        have K4 := K3.trans (B4.mono K3.size)
        obtain ⟨w5, hw5⟩ : ∃ w5, w4.alloc (.cells #[.string u, .string p, .int .i64 rn] 30) = w5 := ⟨_, rfl⟩
        have hB5 : Below w4.heap.size w4 w5 := hw5 ▸ (Below.refl _ w4).alloc (Nat.le_refl _) _
        have k5 : Blk w5 w4.heap.size 30 [.string u, .string p, .int .i64 rn] := hw5 ▸ Blk.new w4 _ _
        have HRR := Lib.hid (HR.out _ _ k5)
        have HW5 := Lib.hid hw5
        have K5 := K4.trans (hB5.mono K4.size)
        clear k5 hw5 HR
        go_wp2_with fail
        rw [HW5.out]
        refine HRR.out.mono ?_
        rintro e w6 ⟨rfl, B6⟩
        go_wp2
        go_ret
        exact ⟨rfl, K5.trans (B6.mono K5.size)⟩
      · have HE2 : Hid (is = bits .or .i64 was rn) := Lib.hid (by rw [hof, if_pos ⟨ho, hU⟩])
        have hqe : (is == bits .or .i64 was rn) = true := beq_iff_eq.2 HE2.out
        rw [hU] at HR
        simp only [if_true] at HR
        have hz : ((rn : Int) == (rn : Int)) = true := beq_self_eq_true _
        clear hof hU ho HE2
        go_enter Try.func3, Try.ntmps3
        go_wp2_with fail
        refine (alive13_any w).mono ?_
        rintro e w1 ⟨rfl, hB1⟩
        go_wp2_with fail
        refine (HA.out w1 hB1).mono ?_
        rintro e w2 ⟨A2, c2, rfl, q2, n2, r2, B2⟩
        have X2 := Lib.hid (HasG.of_ok r2 q2 n2 HOM.out)
        have K2 := hB1.trans (B2.mono hB1.size)
        clear q2 n2 r2
        go_wp2_with fail
        refine (num13_any 0 w2).mono ?_
        rintro e w2' ⟨rfl, rfl⟩
        go_wp2_with fail
        refine (HO.out _ K2).mono ?_
        rintro e w3 ⟨rfl, B3⟩
        have K3 := K2.trans (B3.mono K2.size)
        go_wp2_with fail
        refine (HM.out w3 A2 c2 (X2.out.below B3)).mono ?_
        rintro e w4 ⟨rfl, B4⟩
        have K4 := K3.trans (B4.mono K3.size)
        obtain ⟨w5, hw5⟩ : ∃ w5, w4.alloc (.cells #[.string u, .string p, .int .i64 rn] 30) = w5 := ⟨_, rfl⟩
        have hB5 : Below w4.heap.size w4 w5 := hw5 ▸ (Below.refl _ w4).alloc (Nat.le_refl _) _
        have k5 : Blk w5 w4.heap.size 30 [.string u, .string p, .int .i64 rn] := hw5 ▸ Blk.new w4 _ _
        have HRR := Lib.hid (HR.out _ _ k5)
        have HW5 := Lib.hid hw5
        have K5 := K4.trans (hB5.mono K4.size)
        clear k5 hw5 HR
        go_wp2_with fail
        rw [HW5.out]
        refine HRR.out.mono ?_
        rintro e w6 ⟨rfl, B6⟩
        go_wp2
        go_ret
        exact ⟨rfl, K5.trans (B6.mono K5.size)⟩
    · rw [decide_eq_false ho] at hd
      have HE2 : Hid (is = was) := Lib.hid (by rw [hof, if_neg (fun e => ho e.1)])
      have hqe : (is == was) = true := beq_iff_eq.2 HE2.out
      clear hof ho HE2 HR
      go_enter Try.func3, Try.ntmps3
      go_wp2_with fail
      refine (alive13_any w).mono ?_
      rintro e w1 ⟨rfl, hB1⟩
      go_wp2_with fail
      refine (HA.out w1 hB1).mono ?_
      rintro e w2 ⟨A2, c2, rfl, q2, n2, r2, B2⟩
      have X2 := Lib.hid (HasG.of_ok r2 q2 n2 HOM.out)
      have K2 := hB1.trans (B2.mono hB1.size)
      clear q2 n2 r2
      go_wp2_with fail
      refine (num13_any 0 w2).mono ?_
      rintro e w2' ⟨rfl, rfl⟩
      go_wp2_with fail
      refine (HO.out _ K2).mono ?_
      rintro e w3 ⟨rfl, B3⟩
      have K3 := K2.trans (B3.mono K2.size)
      go_wp2_with fail
      refine (HM.out w3 A2 c2 (X2.out.below B3)).mono ?_
      rintro e w4 ⟨rfl, B4⟩
      have K4 := K3.trans (B4.mono K3.size)
      go_wp2
      go_ret
      exact ⟨rfl, K4⟩
  · have hR := allowR_no hE
    rw [hR] at HA
    have hq : (allowE l u p r == 0) = false := beq_eq_false_iff_ne.2 hE
    generalize allowE l u p r = E at *
    clear hE hR
    go_enter Try.func3, Try.ntmps3
    go_wp2_with fail
    refine (alive13_any w).mono ?_
    rintro e w1 ⟨rfl, hB1⟩
    go_wp2_with fail
    refine (HA.out w1 hB1).mono ?_
    rintro e w2 ⟨A2, c2, rfl, q2, n2, r2, B2⟩
    have K2 := hB1.trans (B2.mono hB1.size)
    clear q2 n2 r2
    go_wp2_with fail
    refine (num13_any E w2).mono ?_
    rintro e w2' ⟨rfl, rfl⟩
    go_wp2
    go_ret
    exact ⟨rfl, K2⟩

end Go.Proofs.Ytkokfmodoacflaa
