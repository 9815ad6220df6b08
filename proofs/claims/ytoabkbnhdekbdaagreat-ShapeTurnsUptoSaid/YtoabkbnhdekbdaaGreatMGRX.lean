/-
  Grants in memory: how lists of them lie. No conditions.
-/
import Derived.Test.YtoabkbnhdekbdaaGreatMSL
import Derived.Test.YtoabkbnhdekbdaaGreatMGY
import Derived.Test.YtoabkbnhdekbdaaGreatMRL
import Derived.Laws.Cover1
import Derived.Laws.StructEq
import Derived.Deep.QuietTactic
import Derived.BigQuiet
import Derived.Deep.DeepCutAuto
namespace Go.Proofs.YtoabkbnhdekbdaaGreat
open Go.ChangeShapes Go.WideShapes Go.ChangeAt Go.RowKit
set_option maxRecDepth 100000
abbrev grC (x : Gr) : List Value := [.string x.1, .string x.2.1, .int .i64 x.2.2]
abbrev grV (x : Gr) : Value := .agg #[.string x.1, .string x.2.1, .int .i64 x.2.2]
def grs (l : List Gr) : List Value := l.flatMap grC
theorem Rd.gr {w : World} {A : Option Addr} {l : List Gr} (h : Rd w A (grs l)) {k : Nat} {x : Gr} (hk : l[k]? = some x) :
    ∃ b off, A = some ⟨b, off, none⟩ ∧ b < w.heap.size ∧ w.cell? ⟨b, off + k * 3, none⟩ = some (.string x.1) ∧ w.cell? ⟨b, off + k * 3 + 1, none⟩ = some (.string x.2.1) ∧ w.cell? ⟨b, off + k * 3 + 2, none⟩ = some (.int .i64 x.2.2) := by
  have h1 : (grs l)[k * 3 + 0]? = _ := flat_at_of (cells := grC) (n := 3) (fun _ => rfl) l k 0 x hk (by omega)
  have h2 : (grs l)[k * 3 + 1]? = _ := flat_at_of (cells := grC) (n := 3) (fun _ => rfl) l k 1 x hk (by omega)
  have h3 : (grs l)[k * 3 + 2]? = _ := flat_at_of (cells := grC) (n := 3) (fun _ => rfl) l k 2 x hk (by omega)
  obtain ⟨b, off, e, hb, hc⟩ := h (by intro h0; rw [h0] at h1; simp at h1)
  exact ⟨b, off, e, hb, hc _ _ h1, hc _ _ h2, hc _ _ h3⟩
abbrev ansG (v : Value) (e : Int) : Value := .tuple #[v, .int .i64 e]
section
variable {H : Type} {enc : TypeId × Value → H} {W : World}
theorem kcGr : Tryz.prog.cellsOf 107 = 3 := by kernel_rfl
theorem kcStrG : Tryz.prog.cellsOf 9 = 1 := by kernel_rfl
theorem kcIntG : Tryz.prog.cellsOf 3 = 1 := by kernel_rfl
def goodGr (x : Gr) : Prop := x.1.size ≤ 140737488351232 ∧ x.2.1.size ≤ 140737488351232 ∧ -9223372036854775808 ≤ x.2.2 ∧ x.2.2 ≤ 9223372036854775807
end
theorem isNaN_any (a : ByteArray) (w : World) :
    Calls Tryz.prog 220 #[.string a] w fun e w' => e = .returned (.bool false) ∧ w = w' := by
  have h : (a.toList == a.toList) = true := beq_self_eq_true _
  go_enter Tryz.func220, Tryz.ntmps220
  go_wp2
  go_ret
  exact ⟨rfl, rfl⟩
theorem compare_any (a b : ByteArray) (w : World) :
    Calls Tryz.prog 203 #[.string a, .string b] w fun e w' => e = .returned (.int .i64 (cmpK a b)) ∧ w = w' := by
  obtain ⟨R, hR⟩ : ∃ R, cmpK a b = R := ⟨_, rfl⟩
  rw [hR]
  rcases h1 : Op.bytesLess a.toList b.toList with _ | _
  · rcases h2 : Op.bytesLess b.toList a.toList with _ | _
    · have HR : Hid (R = 0) := Lib.hid (by
        rw [← hR, cmpK_eq]
        rcases ltK_tri a b with k | k | k
        · unfold ltK at k; rw [h1] at k; cases k
        · unfold ltK at k; rw [h2] at k; cases k
        · exact k)
      have h3 : (a.toList == b.toList) = true := by
        have := cmpK_eq.1 (hR.trans HR.out)
        rw [this]
        exact beq_self_eq_true _
      clear hR
      go_enter Tryz.func203, Tryz.ntmps203
      go_wp2_with (refine (isNaN_any _ _).mono ?_; rintro e w' ⟨rfl, rfl⟩)
      go_ret
      rw [HR.out]
      exact ⟨rfl, rfl⟩
    · have h4 : (a.toList == b.toList) = false := by
        rw [beq_eq_false_iff_ne]
        intro e
        rw [e] at h1 h2
        rw [h1] at h2
        cases h2
      have HR : Hid (R = 1) := Lib.hid (by
        have h3 : a ≠ b := by rintro rfl; rw [h1] at h2; cases h2
        rw [← hR, cmpK, h1, if_neg Bool.false_ne_true, if_neg h3])
      clear hR
      go_enter Tryz.func203, Tryz.ntmps203
      go_wp2_with (refine (isNaN_any _ _).mono ?_; rintro e w' ⟨rfl, rfl⟩)
      go_ret
      rw [HR.out]
      exact ⟨rfl, rfl⟩
  · have HR : Hid (R = -1) := Lib.hid (by rw [← hR, cmpK, if_pos h1])
    clear hR
    go_enter Tryz.func203, Tryz.ntmps203
    go_wp2_with (refine (isNaN_any _ _).mono ?_; rintro e w' ⟨rfl, rfl⟩)
    go_ret
    rw [HR.out]
    exact ⟨rfl, rfl⟩
theorem cmpOr_any (R x y : Int) (hR : (if x = 0 then y else x) = R) (b : Nat) (w : World) (_hb : b < w.heap.size) (h0 : w.cell? ⟨b, 0, none⟩ = some (.int .i64 x)) (h1 : w.cell? ⟨b, 1, none⟩ = some (.int .i64 y)) :
    Calls Tryz.prog 202 #[.slice (some ⟨b, 0, none⟩) 2 2] w fun e w' => e = .returned (.int .i64 R) ∧ w = w' := by
  have HRO := Lib.hid hR
  clear hR
  go_enter Tryz.func202, Tryz.ntmps202
  go_wp2
  go_loopw [5, 8] (fun _ i W => ∃ k : Nat, k ≤ 2 ∧ i = .int .i64 k ∧ (1 ≤ k → x = 0) ∧ (2 ≤ k → y = 0) ∧ w = W) (fun _ i _ => 2 - (intOf i).toNat)
  case atStart => exact ⟨0, by omega, rfl, by omega, by omega, rfl⟩
  case round =>
    obtain ⟨k, hk, rfl, p0, p1, rfl⟩ := hrel
    rcases (show k = 0 ∨ k = 1 ∨ k = 2 by omega) with rfl | rfl | rfl
    · clear p0 p1
      by_cases hx : x = 0
      · have hq : (x == 0) = true := beq_iff_eq.2 hx
        have HX := Lib.hid hx
        clear hx
        go_wp2
        go_roundw
        case rel => exact ⟨1, by omega, by go_num, fun _ => HX.out, by omega, by trivial⟩
        case measure => simp [intOf]
      · have hq : (x == 0) = false := beq_eq_false_iff_ne.2 hx
        have HR : Hid (R = x) := Lib.hid (by rw [← HRO.out, if_neg hx])
        clear hx
        go_wp2
        go_ret
        rw [HR.out]
        exact ⟨rfl, rfl⟩
    · have HX := Lib.hid (p0 (by omega))
      clear p0 p1
      by_cases hx : y = 0
      · have hq : (y == 0) = true := beq_iff_eq.2 hx
        have HY := Lib.hid hx
        clear hx
        go_wp2
        go_roundw
        case rel => exact ⟨2, by omega, by go_num, fun _ => HX.out, fun _ => HY.out, by trivial⟩
        case measure => simp [intOf]
      · have hq : (y == 0) = false := beq_eq_false_iff_ne.2 hx
        have HR : Hid (R = y) := Lib.hid (by rw [← HRO.out, if_pos HX.out])
        clear hx
        go_wp2
        go_ret
        rw [HR.out]
        exact ⟨rfl, rfl⟩
    · have HR : Hid (R = 0) := Lib.hid (by rw [← HRO.out, if_pos (p0 (by omega)), p1 (by omega)])
      clear p0 p1
      go_wp2
      go_ret
      rw [HR.out]
      exact ⟨rfl, rfl⟩
set_option maxHeartbeats 1000000 in
theorem order_any (x y : Gr) (w : World) :
    Calls Tryz.prog 172 #[grV x, grV y] w fun e w' => e = .returned (.int .i64 (cmpG x y)) ∧ Below w.heap.size w w' := by
  obtain ⟨x1, x2, x3⟩ := x
  obtain ⟨y1, y2, y3⟩ := y
  obtain ⟨R, hR⟩ : ∃ R, cmpG (x1, x2, x3) (y1, y2, y3) = R := ⟨_, rfl⟩
  have HRO : Hid (R = if cmpK x1 y1 = 0 then cmpK x2 y2 else cmpK x1 y1) := Lib.hid hR.symm
  rw [hR]
  clear hR
  dsimp only [grV]
  obtain ⟨C1, hC1⟩ : ∃ C, cmpK x1 y1 = C := ⟨_, rfl⟩
  obtain ⟨C2, hC2⟩ : ∃ C, cmpK x2 y2 = C := ⟨_, rfl⟩
  have HC1 := Lib.hid (compare_any x1 y1)
  have HC2 := Lib.hid (compare_any x2 y2)
  rw [hC1] at HC1 HRO
  rw [hC2] at HC2 HRO
  clear hC1 hC2
  obtain ⟨u1, hw1⟩ : ∃ u1, w.alloc (.cells #[.string x1, .string x2, .int .i64 x3] 107) = u1 := ⟨_, rfl⟩
  have k1 : Blk u1 w.heap.size 107 [.string x1, .string x2, .int .i64 x3] := hw1 ▸ Blk.new w _ _
  have hB1 : Below w.heap.size w u1 := hw1 ▸ (Below.refl _ w).alloc (Nat.le_refl _) _
  have hlt1 : w.heap.size < u1.heap.size := k1.lt
  obtain ⟨u2, hw2⟩ : ∃ u2, u1.alloc (.cells #[.string y1, .string y2, .int .i64 y3] 107) = u2 := ⟨_, rfl⟩
  have k2 : Blk u2 u1.heap.size 107 [.string y1, .string y2, .int .i64 y3] := hw2 ▸ Blk.new u1 _ _
  have hB2 : Below u1.heap.size u1 u2 := hw2 ▸ (Below.refl _ u1).alloc (Nat.le_refl _) _
  have hlt2 : u1.heap.size < u2.heap.size := k2.lt
  have hlt12 : w.heap.size < u2.heap.size := by omega
  have k12 := k1.below hB2 hlt1
  have a0 := k12.cell 0
  have a1 := k12.cell 1
  have b0 := k2.cell 0
  have b1 := k2.cell 1
  simp only [gZa, gZb] at a0 a1 b0 b1
  have HB1 := Lib.hid hB1
  have HB2 := Lib.hid hB2
  have HW1 := Lib.hid hw1
  have HW2 := Lib.hid hw2
  clear k1 k2 k12 hB1 hB2 hw1 hw2
  go_enter Tryz.func172, Tryz.ntmps172
  go_upto_region 1 with fail
  have hX : w.heap.size + 1 = u1.heap.size := by rw [← HW1.out, World.size_alloc]
  rw [HW1.out, HW2.out, hX]
  refine wp_region_noPanic ?_
  refine wp_region_last 10 (fun W' => W'.cell? ⟨w.heap.size, 0, none⟩ = some (.string x1) ∧ W'.cell? ⟨w.heap.size, 1, none⟩ = some (.string x2) ∧ W'.cell? ⟨u1.heap.size, 0, none⟩ = some (.string y1) ∧ W'.cell? ⟨u1.heap.size, 1, none⟩ = some (.string y2)) (by kernel_rfl) ⟨a0, a1, b0, b1⟩ (fun hHeld => ?_)
  refine tkA 16 (i := 0) (oi := ⟨some 5, _, _, _, _, _⟩) rfl hHeld ?_
  try simp only [Act.put, pZa, pZb, pZc]
  refine tkA 16 (i := 1) (oi := ⟨some 6, _, _, _, _, _⟩) rfl hHeld ?_
  try simp only [Act.put, pZa, pZb, pZc]
  refine tkA 16 (i := 2) (oi := ⟨some 7, _, _, _, _, _⟩) rfl hHeld ?_
  try simp only [Act.put, pZa, pZb, pZc]
  refine tkA 16 (i := 3) (oi := ⟨some 8, _, _, _, _, _⟩) rfl hHeld ?_
  try simp only [Act.put, pZa, pZb, pZc]
  refine tkA 16 (i := 5) (oi := ⟨some 10, _, _, _, _, _⟩) rfl hHeld ?_
  try simp only [Act.put, pZa, pZb, pZc]
  refine tkA 16 (i := 6) (oi := ⟨some 11, _, _, _, _, _⟩) rfl hHeld ?_
  try simp only [Act.put, pZa, pZb, pZc]
  refine tkA 16 (i := 7) (oi := ⟨some 12, _, _, _, _, _⟩) rfl hHeld ?_
  try simp only [Act.put, pZa, pZb, pZc]
  refine tkA 16 (i := 8) (oi := ⟨some 13, _, _, _, _, _⟩) rfl hHeld ?_
  try simp only [Act.put, pZa, pZb, pZc]
  clear hHeld
  refine wpAnyL_facts 16 2 3 [(4, 9), (9, 14)] (fun s v w => match s with
    | 9 => v = .int .i64 C1
    | 14 => v = .int .i64 C2
    | _ => True) (fun w w' => Below w.heap.size w w') (by kernel_rfl) (by kernel_rfl) bZh ⟨?_, ?_, trivial⟩ (fun w' hB => ⟨(hB.cell (p := ⟨w.heap.size, 0, none⟩) hlt12).trans a0, (hB.cell (p := ⟨w.heap.size, 1, none⟩) hlt12).trans a1, (hB.cell (p := ⟨u1.heap.size, 0, none⟩) hlt2).trans b0, (hB.cell (p := ⟨u1.heap.size, 1, none⟩) hlt2).trans b1⟩) ⟨?_, ?_, trivial⟩ ?_
  focus
    intro v w w' h hB
    exact h
  focus
    intro v w w' h hB
    exact h
  focus
    intro vs w2 hBf hFf o ho K hK
    obtain rfl : (⟨some 9, _, _, _, _, _⟩ : Oper) = o := Option.some.inj ho
    clear ho
    (try simp only [fillL, pZd, pZe, Act.put, pZa, pZb, pZc] at hK ⊢)
    go_simp
    refine (HC1.out w2).mono ?_
    rintro e w3 ⟨rfl, rfl⟩
    refine hK.out _ _ ⟨rfl, Below.refl _ _⟩
  focus
    intro vs w2 hBf hFf o ho K hK
    obtain rfl : (⟨some 14, _, _, _, _, _⟩ : Oper) = o := Option.some.inj ho
    clear ho
    (try simp only [fillL, pZd, pZe, Act.put, pZa, pZb, pZc] at hK ⊢)
    go_simp
    refine (HC2.out w2).mono ?_
    rintro e w3 ⟨rfl, rfl⟩
    refine hK.out _ _ ⟨rfl, Below.refl _ _⟩
  intro vs w2 hBf hFf
  (try simp only [fillL, pZd, pZe, Act.put, pZa, pZb, pZc])
  have e1 : vs 9 = .int .i64 C1 := (hFf (4, 9) (by simp))
  have e2 : vs 14 = .int .i64 C2 := (hFf (9, 14) (by simp))
  simp only [e1, e2]
  have hB02 : Below w.heap.size w u2 := HB1.out.trans (HB2.out.mono HB1.out.size)
  have hB2 : Below w.heap.size w w2 := hB02.trans ((((Below.refl _ u2).drew.trans hBf)).mono hB02.size)
  refine wpAnyL_last (i := 10) (o := ⟨some 15, _, _, _, _, _⟩) (by kernel_rfl) rfl (by kernel_rfl) (fun K hK => ?_)
  go_simp
  refine hK.out _ _ ?_
  clear hK K
  try simp only [Act.put, pZa, pZb, pZc]
  refine wpAnyL_last (i := 11) (o := ⟨some 16, _, _, _, _, _⟩) (by kernel_rfl) rfl (by kernel_rfl) (fun K hK => ?_)
  go_simp
  refine (cmpOr_any R C1 C2 HRO.out.symm w2.heap.size (w2.alloc (.cells #[.int .i64 C1, .int .i64 C2] 3)) (by simp) (by simp) (by simp)).mono ?_
  rintro e w3 ⟨rfl, rfl⟩
  go_wp2_with fail
  refine hK.out _ _ ?_
  clear hK K
  try simp only [Act.put, pZa, pZb, pZc]
  refine wpAnyL_last (i := 12) (o := ⟨some 4, _, _, _, _, _⟩) (by kernel_rfl) rfl (by kernel_rfl) (fun K hK => ?_)
  go_simp
  refine hK.out _ _ ?_
  clear hK K
  try simp only [Act.put, pZa, pZb, pZc]
  refine wpAnyL_done (by kernel_rfl) ?_ _
  refine NoPanic.normal ?_
  go_wp2
  go_ret
  exact ⟨rfl, hB2.alloc hB2.size _⟩
theorem beqU (a b : ByteArray) : (a.toList == b.toList) = decide (a = b) := by
  rw [Bool.eq_iff_iff, beq_iff_eq, decide_eq_true_eq]
  constructor
  · intro h
    rw [Lib.toList_data, Lib.toList_data] at h
    exact bs_inj h
  · intro h; rw [h]
theorem gr_ne {x1 y1 x2 y2 : ByteArray} {x3 y3 : Int} (h : ¬ ((x1, x2, x3) : Gr) = (y1, y2, y3)) : (x1.toList == y1.toList) = false ∨ (x1 = y1 ∧ (x2.toList == y2.toList) = false) ∨ (x1 = y1 ∧ x2 = y2 ∧ (x3 == y3) = false) := by
  by_cases h1 : x1 = y1
  · by_cases h2 : x2 = y2
    · refine .inr (.inr ⟨h1, h2, ?_⟩)
      rw [beq_eq_false_iff_ne]
      intro e
      exact h (by rw [h1, h2, e])
    · exact .inr (.inl ⟨h1, by rw [beqU, decide_eq_false h2]⟩)
  · exact .inl (by rw [beqU, decide_eq_false h1])
theorem sameSplitG {α : Type} [DecidableEq α] (a b : List α) (k : Nat) (hp : a.take k = b.take k) (x y : α) (hx : a[k]? = some x) (hy : b[k]? = some y) : a.take (k + 1) = b.take (k + 1) ↔ x = y := by
  rw [List.take_add_one, List.take_add_one, hx, hy, hp]
  simp
set_option maxHeartbeats 1000000 in
theorem refSameG_any (A B : Option Addr) (c d n m : Nat) (a b : List Gr) (hn : a.length = n) (hm : b.length = m) (hl : n ≤ 4398046511104) (hl2 : m ≤ 4398046511104) (w : World) (hr : Rd w A (grs a)) (hs : Rd w B (grs b)) :
    Calls Tryz.prog 58 #[.slice A n c, .slice B m d] w fun e w' => e = .returned (.bool (decide (a = b))) ∧ Below w.heap.size w w' := by
  subst hn hm
  obtain ⟨R, hR⟩ : ∃ R, decide (a = b) = R := ⟨_, rfl⟩
  rw [hR]
  by_cases hab : a.length = b.length
  · have HAB := Lib.hid hab
    have hq : ((a.length : Int) == b.length) = true := beq_iff_eq.2 (by omega)
    go_enter Tryz.func58, Tryz.ntmps58
    go_wp2
    clear hq
    go_loopw [5] (fun i W => ∃ k : Nat, k ≤ a.length ∧ i = .int .i64 k ∧ Hid (a.take k = b.take k) ∧ Below w.heap.size w W) (fun i _ => a.length - (intOf i).toNat)
    case atStart => exact ⟨0, Nat.zero_le _, rfl, Lib.hid rfl, Below.refl _ _⟩
    case round =>
      obtain ⟨k, hk, rfl, HT, hB⟩ := hrel
      by_cases hlt : k < a.length
      · obtain ⟨x, hx⟩ : ∃ x, a[k]? = some x := ⟨a[k], qZa hlt⟩
        obtain ⟨y, hy⟩ : ∃ y, b[k]? = some y := ⟨b[k]'(by omega), qZa (by omega)⟩
        obtain ⟨ba, oa, rfl, hba, hc0, hc1, hc2⟩ := (Rd.below hr hB).gr hx
        obtain ⟨bb, ob, rfl, hbb, hd0, hd1, hd2⟩ := (Rd.below hs hB).gr hy
        have HS := Lib.hid (sameSplitG a b k HT.out x y hx hy)
        clear hx hy
        have hlb : k < b.length := by omega
        by_cases he : x = y
        · subst he
          have HT' : Hid (a.take (k + 1) = b.take (k + 1)) := Lib.hid (HS.out.2 rfl)
          clear HT HS hab
          go_wp2_with (go_quiet (fail))
          go_round
          case rel => exact ⟨k + 1, by omega, by go_num, HT', hB.trans (belowDrewN _ _ _)⟩
          case measure => simp [intOf]; omega
        · have HR : Hid (R = false) := Lib.hid (by
            rw [← hR]
            refine decide_eq_false fun e => he (HS.out.1 (by rw [e])))
          clear hR HS HT hab
          obtain ⟨x1, x2, x3⟩ := x
          obtain ⟨y1, y2, y3⟩ := y
          dsimp only at hc0 hc1 hc2 hd0 hd1 hd2
          rcases gr_ne he with h | ⟨rfl, h⟩ | ⟨rfl, rfl, h⟩
          all_goals
            clear he
            go_wp2_with (go_quiet (fail))
            go_ret
            rw [HR.out]
            exact ⟨rfl, hB.trans (belowDrewN _ _ _)⟩
      · have HR : Hid (R = true) := Lib.hid (by
          have := HT.out
          rw [List.take_of_length_le (by omega), List.take_of_length_le (by omega)] at this
          rw [← hR]
          exact decide_eq_true this)
        have hlb : ¬ k < b.length := by omega
        clear hR HT hab
        go_wp2
        go_ret
        rw [HR.out]
        exact ⟨rfl, hB⟩
  · have HR : Hid (R = false) := Lib.hid (by rw [← hR]; exact decide_eq_false fun e => hab (by rw [e]))
    have hq : ((a.length : Int) == b.length) = false := beq_eq_false_iff_ne.2 (by omega)
    clear hR
    go_enter Tryz.func58, Tryz.ntmps58
    go_wp2
    go_ret
    rw [HR.out]
    exact ⟨rfl, Below.refl _ _⟩
end Go.Proofs.YtoabkbnhdekbdaaGreat
