/-
  Grants that came in; the page's example. No conditions.
-/
import Derived.Test.YtkokfmodoacflaaGRB
namespace Go.Proofs.Ytkokfmodoacflaa
open Go.ChangeShapes Go.WideShapes Go.ChangeAt Go.RowKit
set_option maxRecDepth 100000

section
variable {H : Type} {enc : TypeId × Value → H} {W : World}
set_option maxRecDepth 100000 in
theorem kcGr : Try.prog.cellsOf 30 = 3 := by kernel_rfl
set_option maxRecDepth 100000 in
theorem kbGr : Try.prog.bytesOf 30 = 40 := by kernel_rfl
set_option maxRecDepth 100000 in
theorem kcStrG : Try.prog.cellsOf 9 = 1 := by kernel_rfl
set_option maxRecDepth 100000 in
theorem kcIntG : Try.prog.cellsOf 3 = 1 := by kernel_rfl
/-- A grant that came in. -/
def goodGr (x : Gr) : Prop := x.1.size ≤ 140737488351232 ∧ x.2.1.size ≤ 140737488351232 ∧ -9223372036854775808 ≤ x.2.2 ∧ x.2.2 ≤ 9223372036854775807
theorem opensGr : Opens enc Try.prog W 30 grC goodGr := fun fuel cs x h hf => by
  obtain ⟨xs, n, _, rfl, hl, hxs, hel⟩ := DataW.trod_struct Try.underlying30 h
  rw [kcGr] at hl
  obtain ⟨c0, c1, c2, rfl⟩ : ∃ c0 c1 c2, cs = [c0, c1, c2] := by
    rcases cs with _ | ⟨a, _ | ⟨b, _ | ⟨d, _ | ⟨e, t⟩⟩⟩⟩ <;> simp at hl
    exact ⟨a, b, d, rfl⟩
  have h0 : DataW.trod enc Try.prog W 0 (fun _ => true) true n 9 (([c0, c1, c2].drop 0).take (Try.prog.cellsOf 9)) = xs[0]? := hel 0 _ rfl
  have h1 : DataW.trod enc Try.prog W 0 (fun _ => true) true n 9 (([c0, c1, c2].drop 1).take (Try.prog.cellsOf 9)) = xs[1]? := hel 1 _ rfl
  have h2 : DataW.trod enc Try.prog W 0 (fun _ => true) true n 3 (([c0, c1, c2].drop 2).take (Try.prog.cellsOf 3)) = xs[2]? := hel 2 _ rfl
  rw [kcStrG] at h0 h1
  rw [kcIntG] at h2
  obtain ⟨y0, e0⟩ : ∃ y, xs[0]? = some y := ⟨_, List.getElem?_eq_getElem (by rw [hxs]; decide)⟩
  obtain ⟨y1, e1⟩ : ∃ y, xs[1]? = some y := ⟨_, List.getElem?_eq_getElem (by rw [hxs]; decide)⟩
  obtain ⟨y2, e2⟩ : ∃ y, xs[2]? = some y := ⟨_, List.getElem?_eq_getElem (by rw [hxs]; decide)⟩
  rw [e0] at h0
  rw [e1] at h1
  rw [e2] at h2
  obtain ⟨a0, k0, g0⟩ := opensTx Try.underlying9 n [c0] y0 h0 (fit_part Try.underlying30 hf (i := 0) rfl (by rw [List.getElem?_map, e0]; rfl))
  obtain ⟨a1, k1, g1⟩ := opensTx Try.underlying9 n [c1] y1 h1 (fit_part Try.underlying30 hf (i := 1) rfl (by rw [List.getElem?_map, e1]; rfl))
  obtain ⟨a2, k2, g2⟩ := opensI64 Try.underlying3 n [c2] y2 h2 (fit_part Try.underlying30 hf (i := 2) rfl (by rw [List.getElem?_map, e2]; rfl))
  injection k0 with k0
  injection k1 with k1
  injection k2 with k2
  subst k0
  subst k1
  subst k2
  exact ⟨(a0, a1, a2), rfl, g0, g1, g2⟩
/-- A list of grants came in. -/
abbrev CameG (W : World) (s : Sl Gr) : Prop := SlGood W grC goodGr 40 s
theorem open_grants {r : Reach} {b0 : Nat} {v : Value} {d : DataW H} {ps : List MemPlace} (hval : Value.okWide Try.prog W r b0 22 v) (hd : DataW.Trod enc Try.prog W 0 (fun _ => true) true 22 v d ps) (hf : Fit Try.prog 22 d) :
    ∃ s : Sl Gr, v = s.val ∧ CameG W s :=
  argSl Try.underlying22 (opensSl Try.underlying22 kcGr kbGr (by decide) (fun _ => rfl) opensGr) hval hd hf
end
theorem CameG.has {W : World} {s : Sl Gr} (h : CameG W s) : HasG W s.A s.c s.l := ⟨SlGood.rd h, by have := SlGood.len h; omega, SlGood.cap h, SlGood.nil h, fun x hx => ⟨(SlGood.el h x hx).1, (SlGood.el h x hx).2.1⟩⟩

theorem num13_any (n : Int) (w : World) : Calls Try.prog 8 #[.int .i64 n] w fun e w' => e = .returned (.int .i64 n) ∧ w' = w := by
  go_enter Try.func8, Try.ntmps8
  go_wp2
  go_ret
  exact ⟨rfl, rfl⟩

/-- What Of tells, where the list reads. -/
theorem HasG.of {W : World} {A : Option Addr} {c : Nat} {l : List Gr} (h : HasG W A c l) (o pl : ByteArray) (hpl : pl.size ≤ 140737488351232) : Calls Try.prog 9 #[.slice A l.length c, .string o, .string pl] W fun e w' => e = .returned (.int .i64 (ofA l o pl)) ∧ Below W.heap.size W w' :=
  of_any A c l.length l rfl o pl W fun _ => ⟨by have := h.len; omega, fun x hx => (h.sz x hx).2, h.rd, hpl⟩
theorem HasG.may {W : World} {A : Option Addr} {c : Nat} {l : List Gr} (h : HasG W A c l) (o pl : ByteArray) (hpl : pl.size ≤ 140737488351232) (need : Int) : Calls Try.prog 14 #[.slice A l.length c, .string o, .string pl, .int .i64 need] W fun e w' => e = .returned (.bool (bits .and .i64 (ofA l o pl) need == need)) ∧ Below W.heap.size W w' :=
  may_any A c l.length l rfl o pl need W fun _ => ⟨by have := h.len; omega, fun x hx => (h.sz x hx).2, h.rd, hpl⟩

def tU : ByteArray := ⟨#[117]⟩
def tGA : ByteArray := ⟨#[97]⟩
def tAB : ByteArray := ⟨#[97, 47, 98]⟩
def tGB : ByteArray := ⟨#[98]⟩
set_option maxRecDepth 100000 in
theorem allowEx : allowE [] tU tGA 1 = 0 ∧ allowR [] tU tGA 1 = [(tU, tGA, 1)] ∧ (bits .and .i64 (ofA [(tU, tGA, 1)] tU tAB) 1 == 1) = true ∧ (bits .and .i64 (ofA [(tU, tGA, 1)] tU tGB) 1 == 1) = false := by decide +kernel

set_option maxHeartbeats 1000000 in
theorem alive13_any (w : World) : Calls Try.prog 6 #[] w fun e w' => e = .returned (.bool true) ∧ Below w.heap.size w w' := by
  obtain ⟨x1, x2, x3, x4⟩ := allowEx
  have H1 := Lib.hid (HasG.allow (w := w) (A := none) (c := 0) (l := []) ⟨Rd.nil _ _, by simp, by simp, fun _ => rfl, fun x hx => by cases hx⟩ tU tGA (by decide) (by decide) 1)
  rw [x1, x2] at H1
  have hok : okG [(tU, tGA, 1)] = true := by rw [← x2]; exact allowR_ok _ _ _ _
  have HM : Hid (∀ W A c, HasG W A c [(tU, tGA, 1)] → ∀ n, n = 1 → Calls Try.prog 14 #[.slice A n c, .string tU, .string tAB, .int .i64 1] W fun e w' => e = .returned (.bool true) ∧ Below W.heap.size W w') := Lib.hid fun W A c h n hn => by
    have := h.may tU tAB (by decide) 1
    rw [x3] at this
    subst hn
    exact this
  have HM2 : Hid (∀ W A c, HasG W A c [(tU, tGA, 1)] → ∀ n, n = 1 → Calls Try.prog 14 #[.slice A n c, .string tU, .string tGB, .int .i64 1] W fun e w' => e = .returned (.bool false) ∧ Below W.heap.size W w') := Lib.hid fun W A c h n hn => by
    have := h.may tU tGB (by decide) 1
    rw [x4] at this
    subst hn
    exact this
  have HOK := Lib.hid hok
  have e1 : (⟨#[117]⟩ : ByteArray) = tU := rfl
  have e2 : (⟨#[97]⟩ : ByteArray) = tGA := rfl
  have e3 : (⟨#[97, 47, 98]⟩ : ByteArray) = tAB := rfl
  have e4 : (⟨#[98]⟩ : ByteArray) = tGB := rfl
  have HN := Lib.hid (fun W => num13_any 0 W)
  clear x1 x2 x3 x4 hok
  generalize tU = t1 at *
  generalize tGA = t2 at *
  generalize tAB = t3 at *
  generalize tGB = t4 at *
  go_enter Try.func6, Try.ntmps6
  go_wp2_with fail
  refine H1.out.mono ?_
  rintro e w1 ⟨A1, c1, rfl, q1, n1, r1, B1⟩
  have X1 := Lib.hid (HasG.of_ok r1 q1 n1 HOK.out)
  clear q1 n1 r1 H1
  go_wp2_with fail
  refine (HN.out w1).mono ?_
  rintro e w2 ⟨rfl, rfl⟩
  have HM1 := Lib.hid (HM.out _ _ _ X1.out 1 rfl)
  go_wp2_with fail
  refine HM1.out.mono ?_
  rintro e w3 ⟨rfl, B3⟩
  have HM3 := Lib.hid (HM2.out _ _ _ (X1.out.below B3) 1 rfl)
  clear HM HM2 HM1
  go_wp2_with fail
  refine HM3.out.mono ?_
  rintro e w4 ⟨rfl, B4⟩
  go_wp2
  go_ret
  exact ⟨rfl, B1.trans ((B3.trans (B4.mono B3.size)).mono B1.size)⟩

/-- PermsOwner's walk. -/
theorem owner_walk (A : Option Addr) (c n : Nat) (l : List Gr) (hn : l.length = n) (u p : ByteArray) (hp : p.size ≤ 140737488351232) (need : Int) (h0 : -9223372036854775808 ≤ need) (h1 : need ≤ 9223372036854775807) (w : World) :
    Calls Try.prog 5 #[.slice A n c, .string u, .string p, .int .i64 need] w fun e w' => e = .returned (.bool true) ∧ Below w.heap.size w w' := by
  have HM := Lib.hid (may_any A c n l hn ByteArray.empty p need w (fun h => absurd rfl h))
  have HO : Hid (u ≠ ByteArray.empty → ∀ W, Calls Try.prog 9 #[.slice none 0 0, .string u, .string p] W fun e w' => e = .returned (.int .i64 0) ∧ Below W.heap.size W w') := Lib.hid fun hu W => by
    have h := of_any none 0 0 [] rfl u p W fun _ => ⟨by omega, (fun x hx => by cases hx), Rd.nil _ _, hp⟩
    have e : ofA [] u p = 0 := by
      unfold ofA
      rw [if_neg hu]
      split
      · rfl
      · rfl
    rwa [e] at h
  rw [show ofA l ByteArray.empty p = 255 by unfold ofA; rw [if_pos rfl], and_own h0 h1] at HM
  have hbu := beqG u ByteArray.empty
  have heb : u.toList.isEmpty = decide (u = ByteArray.empty) := by
    rw [Bool.eq_iff_iff, decide_eq_true_eq, Lib.toList_data, List.isEmpty_iff]
    exact ⟨fun h => bs_inj (t := ByteArray.empty) h, fun h => by rw [h]; rfl⟩
  have key : ∀ B : Bool, (decide (0 ≤ need) && decide (need ≤ 255)) = B → Calls Try.prog 5 #[.slice A n c, .string u, .string p, .int .i64 need] w fun e w' => e = .returned (.bool true) ∧ Below w.heap.size w w' := by
    intro B hB
    rw [hB] at HM
    by_cases hu : u = ByteArray.empty
    · rw [decide_eq_true hu] at hbu heb
      subst hu
      by_cases h2 : 0 ≤ need
      · by_cases h3 : need ≤ 255
        · have hBe : B = true := by rw [← hB]; simp [h2, h3]
          subst hBe
          clear hB
          go_enter Try.func5, Try.ntmps5
          go_wp2_with fail
          refine HM.out.mono ?_
          rintro e w1 ⟨rfl, B1⟩
          go_wp2_with fail
          refine (alive13_any _).mono ?_
          rintro e w2 ⟨rfl, B2⟩
          go_wp2
          go_ret
          exact ⟨rfl, B1.trans (B2.mono B1.size)⟩
        · have hBe : B = false := by rw [← hB]; simp [h3]
          have hd3 : decide (need ≤ 255) = false := decide_eq_false h3
          subst hBe
          clear hB
          go_enter Try.func5, Try.ntmps5
          go_wp2_with fail
          refine HM.out.mono ?_
          rintro e w1 ⟨rfl, B1⟩
          go_wp2_with fail
          refine (alive13_any _).mono ?_
          rintro e w2 ⟨rfl, B2⟩
          go_wp2
          go_ret
          exact ⟨rfl, B1.trans (B2.mono B1.size)⟩
      · have hBe : B = false := by rw [← hB]; simp [h2]
        subst hBe
        clear hB
        go_enter Try.func5, Try.ntmps5
        go_wp2_with fail
        refine HM.out.mono ?_
        rintro e w1 ⟨rfl, B1⟩
        go_wp2_with fail
        refine (alive13_any _).mono ?_
        rintro e w2 ⟨rfl, B2⟩
        go_wp2
        go_ret
        exact ⟨rfl, B1.trans (B2.mono B1.size)⟩
    · rw [decide_eq_false hu] at hbu heb
      have HO1 := Lib.hid (HO.out hu)
      by_cases h2 : 0 ≤ need
      · by_cases h3 : need ≤ 255
        · have hBe : B = true := by rw [← hB]; simp [h2, h3]
          subst hBe
          clear hB hu
          go_enter Try.func5, Try.ntmps5
          go_wp2_with fail
          refine HM.out.mono ?_
          rintro e w1 ⟨rfl, B1⟩
          go_wp2_with fail
          refine (HO1.out _).mono ?_
          rintro e w3 ⟨rfl, B3⟩
          go_wp2_with fail
          refine (alive13_any _).mono ?_
          rintro e w2 ⟨rfl, B2⟩
          go_wp2
          go_ret
          exact ⟨rfl, B1.trans ((B3.trans (B2.mono B3.size)).mono B1.size)⟩
        · have hBe : B = false := by rw [← hB]; simp [h3]
          have hd3 : decide (need ≤ 255) = false := decide_eq_false h3
          subst hBe
          clear hB hu
          go_enter Try.func5, Try.ntmps5
          go_wp2_with fail
          refine HM.out.mono ?_
          rintro e w1 ⟨rfl, B1⟩
          go_wp2_with fail
          refine (HO1.out _).mono ?_
          rintro e w3 ⟨rfl, B3⟩
          go_wp2_with fail
          refine (alive13_any _).mono ?_
          rintro e w2 ⟨rfl, B2⟩
          go_wp2
          go_ret
          exact ⟨rfl, B1.trans ((B3.trans (B2.mono B3.size)).mono B1.size)⟩
      · have hBe : B = false := by rw [← hB]; simp [h2]
        subst hBe
        clear hB hu
        go_enter Try.func5, Try.ntmps5
        go_wp2_with fail
        refine HM.out.mono ?_
        rintro e w1 ⟨rfl, B1⟩
        go_wp2_with fail
        refine (HO1.out _).mono ?_
        rintro e w3 ⟨rfl, B3⟩
        go_wp2_with fail
        refine (alive13_any _).mono ?_
        rintro e w2 ⟨rfl, B2⟩
        go_wp2
        go_ret
        exact ⟨rfl, B1.trans ((B3.trans (B2.mono B3.size)).mono B1.size)⟩
  exact key _ rfl

end Go.Proofs.Ytkokfmodoacflaa
