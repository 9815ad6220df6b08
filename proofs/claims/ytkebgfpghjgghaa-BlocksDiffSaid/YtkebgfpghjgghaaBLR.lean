/-
  blocks: apart, Diff. Conditions: the lists are as they come in.
-/
import Derived.Test.YtkebgfpghjgghaaBLQ
import Derived.BigQuiet
namespace Go.Proofs.Ytkebgfpghjgghaa
open Go.ChangeShapes Go.WideShapes Go.ChangeAt Go.RowKit
set_option maxRecDepth 100000

/-- What is still ahead. -/
structure Ahead (w0 : World) (A : Option Addr) (n c : Nat) (l : List Bk) : Prop where
  ln : l.length = n
  lc : n ≤ c
  rd : Rd w0 A (bks l)
  r : ∀ x ∈ l, 0 ≤ x.1 ∧ x.1 < 1024 ∧ x.2.size ≤ 140737488351232
theorem Ahead.tail {w0 : World} {A : Option Addr} {n c : Nat} {x : Bk} {l : List Bk} (h : Ahead w0 A n c (x :: l)) : Ahead w0 (if c = 1 then A else Option.map (fun y => y.add (1 * 2)) A) (n - 1) (c - 1) l :=
  ⟨by have := h.ln; simp at this; omega, by have := h.lc; omega, h.rd.drop2 1 c (by have := h.ln; have := h.lc; omega), fun y hy => h.r y (by simp [hy])⟩
theorem Ahead.head {w0 W : World} {A : Option Addr} {n c : Nat} {x : Bk} {l : List Bk} (h : Ahead w0 A n c (x :: l)) (hB : Below w0.heap.size w0 W) :
    0 < n ∧ ∃ b off, A = some ⟨b, off, none⟩ ∧ W.cell? ⟨b, off, none⟩ = some (.int .i64 x.1) ∧ W.cell? ⟨b, off + 1, none⟩ = some (.string x.2) := by
  obtain ⟨b, off, e, _, h0, h1⟩ := (h.rd.below hB).bk (k := 0) (x := x) rfl
  refine ⟨by have := h.ln; simp at this; omega, b, off, e, ?_, ?_⟩
  · simpa using h0
  · simpa using h1
theorem Ahead.drew {w0 : World} {A : Option Addr} {n c : Nat} {l : List Bk} (h : Ahead w0 A n c l) (h0 : n = 0) : l = [] := List.eq_nil_of_length_eq_zero (by rw [h.ln, h0])

set_option maxRecDepth 100000 in
set_option maxHeartbeats 8000000 in
theorem apart_any (w0 : World) (A B : Option Addr) (c d : Nat) (a b : List Bk) (hA : Ahead w0 A a.length c a) (hB0 : Ahead w0 B b.length d b) (hab : a.length + b.length ≤ 2048) (X : Nat) (w : World) (hw : Below w0.heap.size w0 w) (hj : DJ X w0.heap.size w []) :
    Calls Try.prog 40 #[.slice A a.length c, .slice B b.length d, .func (.func 41) #[] #[.pointer (some ⟨X, 0, none⟩)], .func (.func 43) #[] #[.pointer (some ⟨X, 0, none⟩)]] w fun e w' => e = .returned (.tuple #[]) ∧ DJ X w0.heap.size w' (recsOf a b) ∧ Below w0.heap.size w0 w' := by
  have eg1 : ∀ args w, (callFunc 41 args).run Try.prog w = .ok (.enter 41 args) w := enters_of Try.func41 (by kernel_rfl) rfl
  have eg2 : ∀ args w, (callFunc 43 args).run Try.prog w = .ok (.enter 43 args) w := enters_of Try.func43 (by kernel_rfl) rfl
  obtain ⟨R, hR⟩ : ∃ R, recsOf a b = R := ⟨_, rfl⟩
  have hf : Hid ((apartL a b).foldl stepE [] = R) := Lib.hid hR
  rw [hR]
  have HA := Lib.hid hA
  have HB := Lib.hid hB0
  have HJ := Lib.hid hj
  clear hA hB0 hj hR
  go_enter Try.func40, Try.ntmps40
  go_wp2
  go_loopw [0, 1] (fun va vb W => ∃ (a' b' : List Bk) (n m cA cB : Nat) (A' B' : Option Addr) (l : List Rc) (s : Nat), va = .slice A' n cA ∧ vb = .slice B' m cB ∧ Hid (Ahead w0 A' n cA a') ∧ Hid (Ahead w0 B' m cB b') ∧ Hid ((apartL a' b').foldl stepE l = R) ∧ Hid (Small s l) ∧ s + n + m ≤ 2048 ∧ Hid (DJ X w0.heap.size W l) ∧ Below w0.heap.size w0 W) (fun va vb _ => slenK va + slenK vb)
  case atStart => exact ⟨a, b, _, _, c, d, A, B, [], 0, rfl, rfl, HA, HB, hf, Lib.hid ⟨Nat.zero_le _, fun r hr => by simp at hr⟩, by omega, HJ, hw⟩
  case round =>
    clear HA HB hf HJ hw
    obtain ⟨a', b', n, m, cA, cB, A', B', l, s, rfl, rfl, HA, HB, HF, HL, hs, HJ, hW⟩ := hrel
    have hnA := HA.out.ln
    have hnB := HB.out.ln
    have hcA := HA.out.lc
    have hcB := HB.out.lc
    rcases a' with _ | ⟨x, ta⟩
    · obtain rfl : n = 0 := by simpa using hnA.symm
      rcases b' with _ | ⟨y, tb⟩
      · obtain rfl : m = 0 := by simpa using hnB.symm
        have HE : Hid (l = R) := Lib.hid (by have := HF.out; rw [apartL] at this; exact this)
        clear HF
        go_wp2
        go_end0
        exact ⟨rfl, HE.out ▸ HJ.out, hW⟩
      · obtain ⟨hm, bb, bo, rfl, d0, d1⟩ := HB.out.head hW
        have HT := Lib.hid HB.out.tail
        have HE : Hid ((apartL [] tb).foldl stepE (l ++ [⟨2, y.1, 0, y.2⟩]) = R) := Lib.hid (by have := HF.out; rw [apartL] at this; exact this)
        have HC := Lib.hid (fun W (h : DJ X w0.heap.size W l) => diff2_any s (by omega) X w0.heap.size l HL.out y (HB.out.r y (by simp)).2.2 W h)
        have HL' := Lib.hid (HL.out.more (r := ⟨2, y.1, 0, y.2⟩) ⟨(HB.out.r y (by simp)).1, (HB.out.r y (by simp)).2.1, Int.le_refl _, by show (0 : Int) ≤ 1; omega⟩)
        have m0 : ((m : Int) == 0) = false := beq_eq_false_iff_ne.2 (by omega)
        clear HF hnA hnB HL
        go_wp2_with (go_quiet (fail))
        refine (HC.out _ (HJ.out.below (belowDrewN _ _ _))).mono ?_
        rintro e w1 ⟨rfl, hJ1, hB1⟩
        have HJ1 := Lib.hid hJ1
        have hW1 := hW.trans ((belowDrewN wr _ w0.heap.size).trans hB1)
        clear HC HJ hJ1 hB1 m0
        go_wp2_with (go_quiet (fail))
        all_goals
          go_roundw
          case rel => exact ⟨[], tb, 0, m - 1, cA, cB - 1, A', _, _, s + 1, rfl, rfl, HA, HT, HE, HL', by omega, HJ1, hW1⟩
          case measure => simp [slenK]; omega
    · obtain ⟨hn, ab, ao, rfl, c0, c1⟩ := HA.out.head hW
      rcases b' with _ | ⟨y, tb⟩
      · obtain rfl : m = 0 := by simpa using hnB.symm
        have HE : Hid ((apartL ta []).foldl stepE (fr l x.1) = R) := Lib.hid (by have := HF.out; rw [apartL] at this; exact this)
        have HT := Lib.hid HA.out.tail
        have HC := Lib.hid (fun W (h : DJ X w0.heap.size W l) => diff1_any s (by omega) X w0.heap.size l HL.out x ⟨(HA.out.r x (by simp)).1, (HA.out.r x (by simp)).2.1⟩ W h)
        have HL' := Lib.hid (HL.out.fr (i := x.1) ⟨(HA.out.r x (by simp)).1, (HA.out.r x (by simp)).2.1⟩)
        have n0 : ((n : Int) == 0) = false := beq_eq_false_iff_ne.2 (by omega)
        clear HF hnA hnB HL
        go_wp2_with (go_quiet (fail))
        refine (HC.out _ (HJ.out.below (belowDrewN _ _ _))).mono ?_
        rintro e w1 ⟨rfl, hJ1, hB1⟩
        have HJ1 := Lib.hid hJ1
        have hW1 := hW.trans ((belowDrewN wr _ w0.heap.size).trans hB1)
        clear HC HJ hJ1 hB1 n0
        go_wp2_with (go_quiet (fail))
        all_goals
          go_roundw
          case rel => exact ⟨ta, [], n - 1, 0, cA - 1, cB, _, _, _, s + 1, rfl, rfl, HT, HB, HE, HL', by omega, HJ1, hW1⟩
          case measure => simp [slenK]; omega
      · obtain ⟨hm, bb, bo, rfl, d0, d1⟩ := HB.out.head hW
        by_cases h1 : x.1 < y.1
        · have HE : Hid ((apartL ta (y :: tb)).foldl stepE (fr l x.1) = R) := Lib.hid (by have := HF.out; rw [apartL, if_pos h1] at this; exact this)
          have m0 : ((m : Int) == 0) = false := beq_eq_false_iff_ne.2 (by omega)
          have HT := Lib.hid HA.out.tail
          have HC := Lib.hid (fun W (h : DJ X w0.heap.size W l) => diff1_any s (by omega) X w0.heap.size l HL.out x ⟨(HA.out.r x (by simp)).1, (HA.out.r x (by simp)).2.1⟩ W h)
          have HL' := Lib.hid (HL.out.fr (i := x.1) ⟨(HA.out.r x (by simp)).1, (HA.out.r x (by simp)).2.1⟩)
          have n0 : ((n : Int) == 0) = false := beq_eq_false_iff_ne.2 (by omega)
          clear HF hnA hnB HL
          go_wp2_with (go_quiet (fail))
          refine (HC.out _ (HJ.out.below (belowDrewN _ _ _))).mono ?_
          rintro e w1 ⟨rfl, hJ1, hB1⟩
          have HJ1 := Lib.hid hJ1
          have hW1 := hW.trans ((belowDrewN wr _ w0.heap.size).trans hB1)
          clear HC HJ hJ1 hB1 n0
          go_wp2_with (go_quiet (fail))
          all_goals
            go_roundw
            case rel => exact ⟨ta, y :: tb, n - 1, m, cA - 1, cB, _, _, _, s + 1, rfl, rfl, HT, HB, HE, HL', by omega, HJ1, hW1⟩
            case measure => simp [slenK]; omega
        · by_cases h2 : y.1 < x.1
          · have HE : Hid ((apartL (x :: ta) tb).foldl stepE (l ++ [⟨2, y.1, 0, y.2⟩]) = R) := Lib.hid (by have := HF.out; rw [apartL, if_neg h1, if_pos h2] at this; exact this)
            have HT := Lib.hid HB.out.tail
            have HC := Lib.hid (fun W (h : DJ X w0.heap.size W l) => diff2_any s (by omega) X w0.heap.size l HL.out y (HB.out.r y (by simp)).2.2 W h)
            have HL' := Lib.hid (HL.out.more (r := ⟨2, y.1, 0, y.2⟩) ⟨(HB.out.r y (by simp)).1, (HB.out.r y (by simp)).2.1, Int.le_refl _, by show (0 : Int) ≤ 1; omega⟩)
            have n0 : ((n : Int) == 0) = false := beq_eq_false_iff_ne.2 (by omega)
            have m0 : ((m : Int) == 0) = false := beq_eq_false_iff_ne.2 (by omega)
            clear HF hnA hnB HL
            go_wp2_with (go_quiet (fail))
            refine (HC.out _ (HJ.out.below (belowDrewN _ _ _))).mono ?_
            rintro e w1 ⟨rfl, hJ1, hB1⟩
            have HJ1 := Lib.hid hJ1
            have hW1 := hW.trans ((belowDrewN wr _ w0.heap.size).trans hB1)
            clear HC HJ hJ1 hB1 m0 n0
            go_wp2_with (go_quiet (fail))
            all_goals
              go_roundw
              case rel => exact ⟨x :: ta, tb, n, m - 1, cA, cB - 1, _, _, _, s + 1, rfl, rfl, HA, HT, HE, HL', by omega, HJ1, hW1⟩
              case measure => simp [slenK]; omega
          · have hxy1 : x.1 = y.1 := by omega
            have HTA := Lib.hid HA.out.tail
            have HTB := Lib.hid HB.out.tail
            have n0 : ((n : Int) == 0) = false := beq_eq_false_iff_ne.2 (by omega)
            have m0 : ((m : Int) == 0) = false := beq_eq_false_iff_ne.2 (by omega)
            by_cases hxy : x = y
            · subst hxy
              have HE : Hid ((apartL ta tb).foldl stepE l = R) := Lib.hid (by have := HF.out; rw [apartL, if_neg h1, if_neg h2, if_pos rfl] at this; exact this)
              have HJ1 := Lib.hid (fun n1 n2 n3 n4 => HJ.out.below ((((belowDrewN wr n1 _).trans (belowDrewN _ n2 _)).trans (belowDrewN _ n3 _)).trans (belowDrewN _ n4 _)))
              have hW1 := fun n1 n2 n3 n4 => hW.trans ((((belowDrewN wr n1 w0.heap.size).trans (belowDrewN _ n2 _)).trans (belowDrewN _ n3 _)).trans (belowDrewN _ n4 _))
              clear HF hnA hnB HJ h1 h2
              go_wp2_with (go_quiet (fail))
              all_goals
                go_roundw
                case rel => exact ⟨ta, tb, n - 1, m - 1, cA - 1, cB - 1, _, _, l, s, rfl, rfl, HTA, HTB, HE, HL, by omega, Lib.hid (HJ1.out _ _ _ _), hW1 _ _ _ _⟩
                case measure => simp [slenK]; omega
            · have HE : Hid ((apartL ta tb).foldl stepE (l ++ [⟨2, y.1, 0, y.2⟩]) = R) := Lib.hid (by have := HF.out; rw [apartL, if_neg h1, if_neg h2, if_neg hxy] at this; exact this)
              have HC := Lib.hid (fun W (h : DJ X w0.heap.size W l) => diff2_any s (by omega) X w0.heap.size l HL.out y (HB.out.r y (by simp)).2.2 W h)
              have HL' := Lib.hid (HL.out.more (r := ⟨2, y.1, 0, y.2⟩) ⟨(HB.out.r y (by simp)).1, (HB.out.r y (by simp)).2.1, Int.le_refl _, by show (0 : Int) ≤ 1; omega⟩)
              obtain ⟨x1, x2⟩ := x
              obtain ⟨y1, y2⟩ := y
              dsimp only at h1 h2 c0 c1 d0 d1 HE HL' HC
              have hxe : x1 = y1 := by omega
              subst hxe
              have hne : (x2.toList == y2.toList) = false := by
                rcases bk_ne hxy with h | ⟨_, h⟩
                · simp at h
                · exact h
              clear HF hnA hnB HL hxy h1 h2
              go_wp2_with (go_quiet (fail))
              refine (HC.out _ (HJ.out.below (belowDrewN _ _ _))).mono ?_
              rintro e w1 ⟨rfl, hJ1, hB1⟩
              have HJ1 := Lib.hid (fun n => hJ1.below (belowDrewN w1 n _))
              have hW1 := hW.trans ((belowDrewN wr _ w0.heap.size).trans hB1)
              have hW2 := fun n => hW1.trans (belowDrewN w1 n w0.heap.size)
              clear HC HJ hJ1 hB1 m0 n0
              go_wp2_with (go_quiet (fail))
              all_goals
                go_roundw
                case rel => exact ⟨ta, tb, n - 1, m - 1, cA - 1, cB - 1, _, _, _, s + 1, rfl, rfl, HTA, HTB, HE, HL', by omega, Lib.hid (HJ1.out _), hW2 _⟩
                case measure => simp [slenK]; omega

def diffE (a b : List Bk) : Int := if okK a ∧ okK b then 0 else 9
def diffR (a b : List Bk) : List Rc := if okK a ∧ okK b then recsOf a b else []
theorem Came.ahead {w : World} {A : Option Addr} {c : Nat} {l : List Bk} (h : Came w A c l) (hok : okK l = true) : Ahead w A l.length c l := ⟨rfl, h.cap, h.rd, fun x hx => ⟨(okK_mem hok x hx).1, (okK_mem hok x hx).2.1, h.sz x hx⟩⟩
theorem Ahead.same_world {w W : World} {A : Option Addr} {n c : Nat} {l : List Bk} (h : Ahead w A n c l) (hB : Below w.heap.size w W) : Ahead W A n c l := ⟨h.ln, h.lc, h.rd.below hB, h.r⟩

set_option maxHeartbeats 2000000 in
theorem blkDiff_any (A B : Option Addr) (c d : Nat) (a b : List Bk) (w : World) (ha : Came w A c a) (hb : Came w B d b) :
    Calls Try.prog 24 #[.slice A a.length c, .slice B b.length d] w fun e w' => ∃ v, e = .returned (ansK v (diffE a b)) ∧ ownRc w' w.heap.size v (diffR a b) ∧ Below w.heap.size w w' := by
  have HA := Lib.hid ha
  have HB := Lib.hid hb
  have HC1 := Lib.hid ha.check
  have HC2 := Lib.hid (fun W (hW : Below w.heap.size w W) => (HB.out.below hW).check)
  clear ha hb
  by_cases hoa : okK a = true
  · have ca : chkK a = 0 := by unfold chkK; rw [if_pos hoa]
    rw [ca] at HC1
    by_cases hob : okK b = true
    · have cb : chkK b = 0 := by unfold chkK; rw [if_pos hob]
      have hE : diffE a b = 0 := by unfold diffE; rw [if_pos ⟨hoa, hob⟩]
      have hR : diffR a b = recsOf a b := by unfold diffR; rw [if_pos ⟨hoa, hob⟩]
      rw [cb] at HC2
      rw [hE, hR]
      have hla := okK_len hoa
      have hlb := okK_len hob
      have HAP := Lib.hid (fun X W hW hj => apart_any w A B c d a b (HA.out.ahead hoa) (HB.out.ahead hob) (by omega) X W hW hj)
      clear ca cb hE hR
      go_enter Try.func24, Try.ntmps24
      go_wp2_with fail
      refine HC1.out.mono ?_
      rintro e w1 ⟨rfl, hB1⟩
      go_wp2_with fail
      refine (HC2.out w1 hB1).mono ?_
      rintro e w2 ⟨rfl, hB2⟩
      have hB02 := hB1.trans (hB2.mono hB1.size)
      obtain ⟨w3, hw3⟩ : ∃ w3, w2.alloc (.cells #[.slice none 0 0] 44) = w3 := ⟨_, rfl⟩
      have hB3 : Below w2.heap.size w2 w3 := hw3 ▸ (Below.refl _ w2).alloc (Nat.le_refl _) _
      have k3 : Blk w3 w2.heap.size 44 [.slice none 0 0] := hw3 ▸ Blk.new w2 _ _
      have hB03 := hB02.trans (hB3.mono hB02.size)
      have HJ := Lib.hid (HAP.out w2.heap.size w3 hB03 ⟨⟨_, k3, ownNone _ _ _ _⟩, hB02.size⟩)
      have HW := Lib.hid hw3
      clear hw3 k3 HAP
      go_wp2_with fail
      rw [HW.out]
      refine HJ.out.mono ?_
      rintro e w4 ⟨rfl, ⟨⟨v, hb4, ho4⟩, _⟩, hB4⟩
      have c0 := hb4.cell 0
      simp only [List.getElem?_cons_zero] at c0
      have HO4 := Lib.hid ho4
      clear HJ ho4 hb4
      go_wp2
      go_ret2
      exact ⟨_, rfl, HO4.out, hB4⟩
    · have cb : chkK b = 9 := by unfold chkK; rw [if_neg hob]
      have hE : diffE a b = 9 := by unfold diffE; rw [if_neg (fun h => hob h.2)]
      have hR : diffR a b = [] := by unfold diffR; rw [if_neg (fun h => hob h.2)]
      rw [cb] at HC2
      rw [hE, hR]
      clear ca cb hE hR
      go_enter Try.func24, Try.ntmps24
      go_wp2_with fail
      refine HC1.out.mono ?_
      rintro e w1 ⟨rfl, hB1⟩
      go_wp2_with fail
      refine (HC2.out w1 hB1).mono ?_
      rintro e w2 ⟨rfl, hB2⟩
      go_wp2
      go_ret2
      exact ⟨_, rfl, ownNone _ _ _ _, hB1.trans (hB2.mono hB1.size)⟩
  · have ca : chkK a = 9 := by unfold chkK; rw [if_neg hoa]
    have hE : diffE a b = 9 := by unfold diffE; rw [if_neg (fun h => hoa h.1)]
    have hR : diffR a b = [] := by unfold diffR; rw [if_neg (fun h => hoa h.1)]
    rw [ca] at HC1
    rw [hE, hR]
    clear ca hE hR
    go_enter Try.func24, Try.ntmps24
    go_wp2_with fail
    refine HC1.out.mono ?_
    rintro e w1 ⟨rfl, hB1⟩
    go_wp2
    go_ret2
    exact ⟨_, rfl, ownNone _ _ _ _, hB1⟩

end Go.Proofs.Ytkebgfpghjgghaa
