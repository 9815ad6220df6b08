/-
  perms: refused, Allow, Deny. Conditions: the texts are as they come in.
-/
import Derived.Test.YtkokfmodoacflaaGRC
import Derived.Test.YtkokfmodoacflaaGRS
namespace Go.Proofs.Ytkokfmodoacflaa
open Go.ChangeShapes Go.WideShapes Go.ChangeAt Go.RowKit
set_option maxRecDepth 100000

/-- A list of grants that reads, none of whose texts is too long. -/
structure HasG (W : World) (A : Option Addr) (c : Nat) (l : List Gr) : Prop where
  rd : Rd W A (grs l)
  len : l.length ≤ 4398046511104
  cap : l.length ≤ c
  nil : A = none → c = 0
  sz : ∀ x ∈ l, x.1.size ≤ 140737488351232 ∧ x.2.1.size ≤ 140737488351232
theorem HasG.below {W W' : World} {A : Option Addr} {c : Nat} {l : List Gr} (h : HasG W A c l) (hB : Below W.heap.size W W') : HasG W' A c l := ⟨h.rd.below hB, h.len, h.cap, h.nil, h.sz⟩
theorem HasG.of_ok {W : World} {A : Option Addr} {c : Nat} {l : List Gr} (h : Rd W A (grs l)) (hc : l.length ≤ c) (hn : A = none → c = 0) (hok : okG l = true) : HasG W A c l :=
  ⟨h, by have := okG_len hok; omega, hc, hn, fun x hx => by have := okG_mem hok x hx; omega⟩
/-- Grants, and an error: as slices that read. -/
def TellG (W : World) (P : List Gr) (E : Int) (e : Ending) (W' : World) : Prop := ∃ A c, e = .returned (ansG (.slice A P.length c) E) ∧ P.length ≤ c ∧ (A = none → c = 0) ∧ Rd W' A (grs P) ∧ Below W.heap.size W W'
theorem tellG_of {W W' : World} {b : Nat} {P : List Gr} {E : Int} {v : Value} (ho : ownGr W' b v P) (hB : Below W.heap.size W W') : TellG W P E (.returned (ansG v E)) W' := by
  obtain ⟨A, c, rfl, h1, h2, h3, _⟩ := ownAny ho
  exact ⟨A, c, rfl, h1, h2, h3.1, hB⟩
theorem tellG_none {W W' : World} {E : Int} (hB : Below W.heap.size W W') : TellG W [] E (.returned (ansG (.slice none 0 0) E)) W' := ⟨none, 0, rfl, Nat.le_refl _, fun _ => rfl, Rd.nil _ _, hB⟩

set_option maxHeartbeats 1000000 in
theorem refused_any {W : World} {A : Option Addr} {c : Nat} {l : List Gr} (h : HasG W A c l) (u p : ByteArray) (hp : p.size ≤ 140737488351232) (r : Int) :
    Calls Try.prog 15 #[.slice A l.length c, .string u, .string p, .int .i64 r] W fun e w' => e = .returned (.int .i64 (refE l u p r)) ∧ Below W.heap.size W w' := by
  have HC := Lib.hid (grCheck_any A c l.length l rfl (by have := h.len; omega) h.sz W h.rd)
  obtain ⟨E, hE⟩ : ∃ E, refE l u p r = E := ⟨_, rfl⟩
  have HE := Lib.hid hE
  rw [hE]
  clear h hE
  rcases hok : okG l with _ | _
  · have HR : Hid (E = 9) := Lib.hid (by rw [← HE.out, refE, if_pos hok])
    rw [show chkG l = 9 by rw [chkG, hok]; rfl] at HC
    clear HE
    go_enter Try.func15, Try.ntmps15
    go_wp2_with fail
    refine HC.out.mono ?_
    rintro e w1 ⟨rfl, hB1⟩
    go_wp2
    go_ret
    rw [HR.out]
    exact ⟨rfl, hB1⟩
  · rw [show chkG l = 0 by rw [chkG, hok]; rfl] at HC
    have HN := Lib.hid (fun W => name_any u W)
    rcases hnm : isName (bs u) with _ | _
    · have HR : Hid (E = 31) := Lib.hid (by rw [← HE.out, refE, hok, if_neg (by simp), if_pos hnm])
      rw [hnm] at HN
      clear HE hnm
      go_enter Try.func15, Try.ntmps15
      go_wp2_with fail
      refine HC.out.mono ?_
      rintro e w1 ⟨rfl, hB1⟩
      go_wp2_with fail
      refine (HN.out w1).mono ?_
      rintro e w2 ⟨rfl, rfl⟩
      go_wp2
      go_ret
      rw [HR.out]
      exact ⟨rfl, hB1⟩
    · rw [hnm] at HN
      have HP := Lib.hid (fun W => path_any p (by omega) W)
      rcases hpt : isPath (bs p) with _ | _
      · have HR : Hid (E = 31) := Lib.hid (by rw [← HE.out, refE, hok, if_neg (by simp), hnm, if_neg (by simp), if_pos hpt])
        rw [hpt] at HP
        clear HE hnm hpt
        go_enter Try.func15, Try.ntmps15
        go_wp2_with fail
        refine HC.out.mono ?_
        rintro e w1 ⟨rfl, hB1⟩
        go_wp2_with fail
        refine (HN.out w1).mono ?_
        rintro e w2 ⟨rfl, rfl⟩
        go_wp2_with fail
        refine (HP.out w1).mono ?_
        rintro e w3 ⟨rfl, hB3⟩
        go_wp2
        go_ret
        rw [HR.out]
        exact ⟨rfl, hB1.trans (hB3.mono hB1.size)⟩
      · rw [hpt] at HP
        have HS := Lib.hid (fun W => isSome_any r W)
        obtain ⟨S, hS⟩ : ∃ S, someP r = S := ⟨_, rfl⟩
        have HR : Hid (E = if S = true then 0 else 4) := Lib.hid (by
          rw [← HE.out, refE, hok, if_neg (by simp), hnm, if_neg (by simp), hpt, if_neg (by simp), hS]
          cases S <;> rfl)
        rw [hS] at HS
        clear HE hnm hpt hS
        rcases S with _ | _
        all_goals
          go_enter Try.func15, Try.ntmps15
          go_wp2_with fail
          refine HC.out.mono ?_
          rintro e w1 ⟨rfl, hB1⟩
          go_wp2_with fail
          refine (HN.out w1).mono ?_
          rintro e w2 ⟨rfl, rfl⟩
          go_wp2_with fail
          refine (HP.out w1).mono ?_
          rintro e w3 ⟨rfl, hB3⟩
          go_wp2_with fail
          refine (HS.out w3).mono ?_
          rintro e w4 ⟨rfl, rfl⟩
          go_wp2
          go_ret
          rw [HR.out]
          exact ⟨rfl, hB1.trans (hB3.mono hB1.size)⟩

theorem allow1_any (B0 : Nat) (r x : Int) (w : World) (h : w.cell? ⟨B0, 0, none⟩ = some (.int .i64 r)) :
    Calls Try.prog 17 #[.int .i64 x, .pointer (some ⟨B0, 0, none⟩)] w fun e w' => e = .returned (.int .i64 (orF r x)) ∧ Below w.heap.size w w' := by
  have hR : orF r x = bits .or .i64 x r := rfl
  rw [hR]
  clear hR
  go_enter Try.func17, Try.ntmps17
  go_wp2
  go_ret
  exact ⟨rfl, Below.refl _ _⟩
theorem deny1_any (B0 : Nat) (r x : Int) (w : World) (h : w.cell? ⟨B0, 0, none⟩ = some (.int .i64 r)) :
    Calls Try.prog 25 #[.int .i64 x, .pointer (some ⟨B0, 0, none⟩)] w fun e w' => e = .returned (.int .i64 (anF r x)) ∧ Below w.heap.size w w' := by
  have hR : anF r x = bits .andNot .i64 x r := rfl
  rw [hR]
  clear hR
  go_enter Try.func25, Try.ntmps25
  go_wp2
  go_ret
  exact ⟨rfl, Below.refl _ _⟩

set_option maxHeartbeats 2000000 in
theorem HasG.allow {w : World} {A : Option Addr} {c : Nat} {l : List Gr} (h : HasG w A c l) (u p : ByteArray) (hu : u.size ≤ 140737488351232) (hp : p.size ≤ 140737488351232) (r : Int) :
    Calls Try.prog 7 #[.slice A l.length c, .string u, .string p, .int .i64 r] w (TellG w (allowR l u p r) (allowE l u p r)) := by
  obtain ⟨w1, hw1⟩ : ∃ w1, w.alloc (.cells #[.int .i64 r] 3) = w1 := ⟨_, rfl⟩
  have hB1 : Below w.heap.size w w1 := hw1 ▸ (Below.refl _ w).alloc (Nat.le_refl _) _
  have k1 : Blk w1 w.heap.size 3 [.int .i64 r] := hw1 ▸ Blk.new w _ _
  have HC := Lib.hid (refused_any (h.below hB1) u p hp r)
  have HX := Lib.hid (h.below hB1)
  have HW1 := Lib.hid hw1
  have HK1 := Lib.hid k1
  clear h k1 hw1
  by_cases hE : refE l u p r = 0
  · have hok := (refE_zero hE).1
    have HCH : Hid (∀ W, Below w1.heap.size w1 W → Calls Try.prog 16 #[.slice A l.length c, .string u, .string p, .func (.func 17) #[] #[.pointer (some ⟨w.heap.size, 0, none⟩)]] W fun e w' => ∃ v, e = .returned v ∧ ownGr w' W.heap.size v (setG u p (orF r) l) ∧ Below W.heap.size W w') := Lib.hid fun W hW =>
      grChanged_any 17 #[.pointer (some ⟨w.heap.size, 0, none⟩)] (enters_of Try.func17 (by kernel_rfl) rfl) (orF r) A c l.length l rfl (by have := okG_len hok; omega) HX.out.cap HX.out.nil HX.out.sz u p hu hp W
        (fun W' x hB' => allow1_any w.heap.size r x W' ((HK1.out.below (hW.trans (hB'.mono hW.size)) HK1.out.lt).cell 0)) (HX.out.rd.below hW)
    rw [hE] at HC
    have HAE : Hid (allowE l u p r = if 16 < (setG u p (orF r) l).length then 3 else 0) := Lib.hid (by rw [allowE, if_pos hE])
    have HAR : Hid (allowR l u p r = if allowE l u p r = 0 then setG u p (orF r) l else []) := Lib.hid rfl
    have hsl : (setG u p (orF r) l).length ≤ 1099511627776 := by
      have : ∀ m : List Gr, (setG u p (orF r) m).length ≤ m.length + 1 := by
        intro m
        have hm : ∀ s, (mkG u p s).length ≤ 1 := fun s => by unfold mkG; split <;> simp
        induction m with
        | nil => exact hm _
        | cons g m ih =>
          unfold setG
          split
          · simp only [List.length_cons]; omega
          · split
            · simp only [List.length_append, List.length_cons]; have := hm (orF r g.2.2); omega
            · simp only [List.length_append, List.length_cons]; have := hm (orF r 0); omega
      have := this l
      have := okG_len hok
      omega
    generalize setG u p (orF r) l = m at *
    generalize allowE l u p r = E at *
    generalize allowR l u p r = R at *
    clear hE hok HX
    go_enter Try.func7, Try.ntmps7
    have x1 := HK1.out.cell 0
    simp only [List.getElem?_cons_zero] at x1
    go_wp2_with fail
    rw [HW1.out]
    go_wp2_with fail
    refine HC.out.mono ?_
    rintro e w2 ⟨rfl, hB2⟩
    go_wp2_with fail
    refine (HCH.out w2 hB2).mono ?_
    rintro e w3 ⟨v, rfl, ho3, hB3⟩
    obtain ⟨A3, c3, hv3, _, _, _, _⟩ := ownAny ho3
    subst hv3
    have HO3 := Lib.hid ho3
    have hB03 : Below w.heap.size w w3 := hB1.trans ((hB2.trans (hB3.mono hB2.size)).mono hB1.size)
    clear ho3 HC HCH
    by_cases h16 : 16 < m.length
    · have HE : Hid (E = 3) := Lib.hid (by rw [HAE.out, if_pos h16])
      have HR : Hid (R = []) := Lib.hid (by rw [HAR.out, if_neg (by rw [HE.out]; omega)])
      clear HAE HAR
      go_wp2
      go_ret2
      rw [HE.out, HR.out]
      exact tellG_none hB03
    · have HE : Hid (E = 0) := Lib.hid (by rw [HAE.out, if_neg h16])
      have HR : Hid (R = m) := Lib.hid (by rw [HAR.out, if_pos HE.out])
      clear HAE HAR
      go_wp2
      go_ret2
      rw [HE.out, HR.out]
      exact tellG_of HO3.out hB03
  · have HAE : Hid (allowE l u p r = refE l u p r) := Lib.hid (by rw [allowE, if_neg hE])
    have HAR : Hid (allowR l u p r = []) := Lib.hid (by rw [allowR, if_neg (by rw [HAE.out]; exact hE)])
    rw [HAE.out, HAR.out]
    have hq : (refE l u p r == 0) = false := beq_eq_false_iff_ne.2 hE
    generalize refE l u p r = E at *
    clear hE HAE HAR HX
    go_enter Try.func7, Try.ntmps7
    have x1 := HK1.out.cell 0
    simp only [List.getElem?_cons_zero] at x1
    go_wp2_with fail
    rw [HW1.out]
    go_wp2_with fail
    refine HC.out.mono ?_
    rintro e w2 ⟨rfl, hB2⟩
    go_wp2
    go_ret2
    exact tellG_none (hB1.trans (hB2.mono hB1.size))

end Go.Proofs.Ytkokfmodoacflaa
