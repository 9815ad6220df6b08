/-
  The reference's Grants at grants that may be, its Of at one grant, SameGrants. Conditions: the texts have at most 2^42 octets.
-/
import Derived.Test.YtkokfmodoacflaaRUN
import Derived.Test.YtkokfmodoacflaaGRE
namespace Go.Proofs.Ytkokfmodoacflaa
open Go.ChangeShapes Go.WideShapes Go.ChangeAt Go.RowKit
set_option maxRecDepth 100000

theorem risG_at {l : List Gr} (h : RisG l) {i j : Nat} {x y : Gr} (hij : i < j) (hx : l[i]? = some x) (hy : l[j]? = some y) : ltG x y := by
  obtain ⟨hi, ex⟩ := List.getElem?_eq_some_iff.1 hx
  obtain ⟨hj, ey⟩ := List.getElem?_eq_some_iff.1 hy
  rw [← ex, ← ey]
  exact List.pairwise_iff_getElem.1 h i j hi hj hij

set_option maxHeartbeats 2000000 in
theorem refGrants_ok (A : Option Addr) (c n : Nat) (l : List Gr) (hn : l.length = n) (hok : okG l = true) (w : World) (hr : Rd w A (grs l)) :
    Calls Try.prog 13 #[.slice A n c] w fun e w' => e = .returned (.int .i64 0) ∧ Below w.heap.size w w' := by
  subst hn
  have hl := okG_len hok
  have HOK := Lib.hid hok
  clear hok
  go_enter Try.func13, Try.ntmps13
  go_wp2
  go_loopw [3] (fun j W => ∃ k : Nat, k ≤ l.length ∧ j = .int .i64 k ∧ Below w.heap.size w W) (fun j _ => l.length - (intOf j).toNat)
  case atStart => exact ⟨0, Nat.zero_le _, rfl, Below.refl _ _⟩
  case round =>
    obtain ⟨k, hk, rfl, hB⟩ := hrel
    by_cases hlt : k < l.length
    · obtain ⟨x, hx⟩ : ∃ x, l[k]? = some x := ⟨l[k], List.getElem?_eq_getElem hlt⟩
      have HRDW := Lib.hid (Rd.below hr hB)
      obtain ⟨b, off, rfl, hb, hc0, hc1, hc2⟩ := (Rd.below hr hB).gr hx
      obtain ⟨g1, g2, g3, g4⟩ := goodG_iff.1 ((okG_iff.1 HOK.out).2.1 x (List.mem_of_getElem? hx))
      have hs1 := user_len g1
      have hs2 := path_len g2
      have HX := Lib.hid hx
      have HN := Lib.hid (fun W => refName_any x.1 (by omega) W)
      have HP := Lib.hid (fun W => refPath_any x.2.1 (by omega) W)
      rw [g1] at HN
      rw [g2] at HP
      obtain ⟨x1, x2, x3⟩ := x
      dsimp only at hc0 hc1 hc2 hs1 hs2 g3 g4 HN HP
      obtain ⟨w1, hw1⟩ : ∃ w1, wr.alloc (.cells #[.string x1, .string x2, .int .i64 x3] 30) = w1 := ⟨_, rfl⟩
      have hB1 : Below wr.heap.size wr w1 := hw1 ▸ (Below.refl _ wr).alloc (Nat.le_refl _) _
      have k1 : Blk w1 wr.heap.size 30 [.string x1, .string x2, .int .i64 x3] := hw1 ▸ Blk.new wr _ _
      have hBw1 : Below w.heap.size w w1 := hB.trans (hB1.mono hB.size)
      have y0 := k1.cell 0
      have y1 := k1.cell 1
      have y2 := k1.cell 2
      simp only [List.getElem?_cons_zero, List.getElem?_cons_succ] at y0 y1 y2
      have HW1 := Lib.hid hw1
      have HK1 := Lib.hid k1
      have HB1 := Lib.hid hB1
      have hway : (k = 0 ∧ decide (0 < k) = false) ∨ ∃ (i : Nat) (y : Gr), decide (0 < k) = true ∧ IntKind.i64.wrap ((k : Int) - 1) = (i : Int) ∧ i < l.length ∧ Hid (l[i]? = some y) ∧ Hid (ltG y (x1, x2, x3)) := by
        rcases k with _ | j
        · exact .inl ⟨rfl, rfl⟩
        · obtain ⟨y, hy⟩ : ∃ y, l[j]? = some y := ⟨l[j]'(by omega), List.getElem?_eq_getElem (by omega)⟩
          exact .inr ⟨j, y, decide_eq_true (by omega), by rw [show (((j + 1 : Nat) : Int) - 1) = (j : Int) by omega]; exact IntWalk.i64_in _ (by omega), by omega, Lib.hid hy, Lib.hid (risG_at (okG_iff.1 HOK.out).2.2 (by omega) hy hx)⟩
      have h1le : ¬ x3 < 1 := by omega
      have h255 : ¬ 255 < x3 := by omega
      clear hx hw1 k1 hB1 g1 g2
      go_wp2_with fail
      rw [HW1.out]
      go_wp2_with fail
      refine (HN.out w1).mono ?_
      rintro e w2 ⟨rfl, rfl⟩
      go_wp2_with fail
      refine (HP.out w1).mono ?_
      rintro e w3 ⟨rfl, hB3⟩
      have k3 := HK1.out.below hB3 HK1.out.lt
      have z0 := k3.cell 0
      have z1 := k3.cell 1
      have z2 := k3.cell 2
      simp only [List.getElem?_cons_zero, List.getElem?_cons_succ] at z0 z1 z2
      have hBw3 := hBw1.trans (hB3.mono hBw1.size)
      have hBr3 : Below wr.heap.size wr w3 := HB1.out.trans (hB3.mono HB1.out.size)
      clear k3 y0 y1 y2 HN HP
      rcases hway with ⟨rfl, hj0⟩ | ⟨i, y, hj0, hw, hi, HY, HLT⟩
      · clear HRDW
        go_wp2_with fail
        go_big_quiet (fail)
        go_wp2
        go_roundw
        case rel => exact ⟨0 + 1, by omega, by go_num, hBw3.trans (belowDrewN _ _ _)⟩
        case measure => simp [intOf]; omega
      · obtain ⟨b', off', e', hb', d0, d1, d2⟩ := (HRDW.out.below hBr3).gr HY.out
        injection e' with e'
        injection e' with e1 e2 _
        subst e1 e2
        have hcs := ltG_iff.1 HLT.out
        obtain ⟨y1', y2', y3'⟩ := y
        dsimp only at d0 d1 d2 hcs
        clear HRDW HY HLT
        rcases hcs with hA | ⟨hE, hA⟩
        · have hA1 : Op.bytesLess y1'.toList x1.toList = true := hA
          have hA2 : (y1'.toList == x1.toList) = false := by rw [beqU, decide_eq_false (ltK_ne hA)]
          clear hA
          go_wp2_with fail
          go_big_quiet (fail)
          go_wp2
          go_roundw
          case rel => exact ⟨k + 1, by omega, by go_num, hBw3.trans (belowDrewN _ _ _)⟩
          case measure => simp [intOf]; omega
        · have hA1 : Op.bytesLess y2'.toList x2.toList = true := hA
          have hA2 : (y1'.toList == x1.toList) = true := by rw [beqU, decide_eq_true hE]
          have hA3 : Op.bytesLess y1'.toList x1.toList = false := by rw [hE, bl_irr]
          clear hA hE
          go_wp2_with fail
          go_big_quiet (fail)
          go_wp2
          go_roundw
          case rel => exact ⟨k + 1, by omega, by go_num, hBw3.trans (belowDrewN _ _ _)⟩
          case measure => simp [intOf]; omega
    · go_wp2
      go_ret
      exact ⟨rfl, hB⟩

theorem gr_ne {x1 y1 x2 y2 : ByteArray} {x3 y3 : Int} (h : ¬ ((x1, x2, x3) : Gr) = (y1, y2, y3)) : (x1.toList == y1.toList) = false ∨ (x1 = y1 ∧ (x2.toList == y2.toList) = false) ∨ (x1 = y1 ∧ x2 = y2 ∧ (x3 == y3) = false) := by
  by_cases h1 : x1 = y1
  · by_cases h2 : x2 = y2
    · refine .inr (.inr ⟨h1, h2, ?_⟩)
      rw [beq_eq_false_iff_ne]
      intro e
      exact h (by rw [h1, h2, e])
    · exact .inr (.inl ⟨h1, by rw [beqU, decide_eq_false h2]⟩)
  · exact .inl (by rw [beqU, decide_eq_false h1])
theorem sameSplitG {α : Type} [DecidableEq α] (a b : List α) (k : Nat) (hp : a.take k = b.take k) (x y : α) (hx : a[k]? = some x) (hy : b[k]? = some y) : a.take (k + 1) = b.take (k + 1) ↔ x = y := by
  rw [List.take_add_one, List.take_add_one, hx, hy, hp]
  simp

set_option maxHeartbeats 1000000 in
theorem refSameG_any (A B : Option Addr) (c d n m : Nat) (a b : List Gr) (hn : a.length = n) (hm : b.length = m) (hl : n ≤ 4398046511104) (hl2 : m ≤ 4398046511104) (w : World) (hr : Rd w A (grs a)) (hs : Rd w B (grs b)) :
    Calls Try.prog 12 #[.slice A n c, .slice B m d] w fun e w' => e = .returned (.bool (decide (a = b))) ∧ Below w.heap.size w w' := by
  subst hn hm
  obtain ⟨R, hR⟩ : ∃ R, decide (a = b) = R := ⟨_, rfl⟩
  rw [hR]
  by_cases hab : a.length = b.length
  · have HAB := Lib.hid hab
    have hq : ((a.length : Int) == b.length) = true := beq_iff_eq.2 (by omega)
    go_enter Try.func12, Try.ntmps12
    go_wp2
    clear hq
    go_loopw [5] (fun i W => ∃ k : Nat, k ≤ a.length ∧ i = .int .i64 k ∧ Hid (a.take k = b.take k) ∧ Below w.heap.size w W) (fun i _ => a.length - (intOf i).toNat)
    case atStart => exact ⟨0, Nat.zero_le _, rfl, Lib.hid rfl, Below.refl _ _⟩
    case round =>
      obtain ⟨k, hk, rfl, HT, hB⟩ := hrel
      by_cases hlt : k < a.length
      · obtain ⟨x, hx⟩ : ∃ x, a[k]? = some x := ⟨a[k], List.getElem?_eq_getElem hlt⟩
        obtain ⟨y, hy⟩ : ∃ y, b[k]? = some y := ⟨b[k]'(by omega), List.getElem?_eq_getElem (by omega)⟩
        obtain ⟨ba, oa, rfl, hba, hc0, hc1, hc2⟩ := (Rd.below hr hB).gr hx
        obtain ⟨bb, ob, rfl, hbb, hd0, hd1, hd2⟩ := (Rd.below hs hB).gr hy
        have HS := Lib.hid (sameSplitG a b k HT.out x y hx hy)
        clear hx hy
        have hlb : k < b.length := by omega
        by_cases he : x = y
        · subst he
          have HT' : Hid (a.take (k + 1) = b.take (k + 1)) := Lib.hid (HS.out.2 rfl)
          clear HT HS hab
          go_wp2_with (go_quiet (fail))
          go_round
          case rel => exact ⟨k + 1, by omega, by go_num, HT', hB.trans (belowDrewN _ _ _)⟩
          case measure => simp [intOf]; omega
        · have HR : Hid (R = false) := Lib.hid (by
            rw [← hR]
            refine decide_eq_false fun e => he (HS.out.1 (by rw [e])))
          clear hR HS HT hab
          obtain ⟨x1, x2, x3⟩ := x
          obtain ⟨y1, y2, y3⟩ := y
          dsimp only at hc0 hc1 hc2 hd0 hd1 hd2
          rcases gr_ne he with h | ⟨rfl, h⟩ | ⟨rfl, rfl, h⟩
          all_goals
            clear he
            go_wp2_with (go_quiet (fail))
            go_ret
            rw [HR.out]
            exact ⟨rfl, hB.trans (belowDrewN _ _ _)⟩
      · have HR : Hid (R = true) := Lib.hid (by
          have := HT.out
          rw [List.take_of_length_le (by omega), List.take_of_length_le (by omega)] at this
          rw [← hR]
          exact decide_eq_true this)
        have hlb : ¬ k < b.length := by omega
        clear hR HT hab
        go_wp2
        go_ret
        rw [HR.out]
        exact ⟨rfl, hB⟩
  · have HR : Hid (R = false) := Lib.hid (by rw [← hR]; exact decide_eq_false fun e => hab (by rw [e]))
    have hq : ((a.length : Int) == b.length) = false := beq_eq_false_iff_ne.2 (by omega)
    clear hR
    go_enter Try.func12, Try.ntmps12
    go_wp2
    go_ret
    rw [HR.out]
    exact ⟨rfl, Below.refl _ _⟩

theorem bit_step0 : ∀ a : Fin 256, ∀ i : Fin 8, ((bits .and .i64 ((a.val : Nat) : Int) ((2 ^ i.val : Nat) : Int) == 0) = true ∧ a.val % 2 ^ (i.val + 1) = a.val % 2 ^ i.val) ∨ ((bits .and .i64 ((a.val : Nat) : Int) ((2 ^ i.val : Nat) : Int) == 0) = false ∧ a.val % 2 ^ (i.val + 1) = a.val % 2 ^ i.val + 2 ^ i.val) := by decide +kernel
theorem bit_step {a i : Nat} (ha : a < 256) (hi : i < 8) : ((bits .and .i64 (a : Int) ((2 ^ i : Nat) : Int) == 0) = true ∧ a % 2 ^ (i + 1) = a % 2 ^ i) ∨ ((bits .and .i64 (a : Int) ((2 ^ i : Nat) : Int) == 0) = false ∧ a % 2 ^ (i + 1) = a % 2 ^ i + 2 ^ i) := bit_step0 ⟨a, ha⟩ ⟨i, hi⟩

/-- What was added, bit by bit. -/
def sumTo (U : Bool) (r i : Nat) : Nat := if U then r % 2 ^ i else 0
set_option maxHeartbeats 2000000 in
theorem refOfOne_any (b : Nat) (u p q : ByteArray) (r : Nat) (hu : isName (bs u) = true) (hp : p.size ≤ 4398046511104) (hq : q.size ≤ 4398046511104) (h1 : 1 ≤ r) (h2 : r ≤ 255) (w : World) (hb : Blk w b 30 [.string u, .string p, .int .i64 r]) :
    Calls Try.prog 10 #[.slice (some ⟨b, 0, none⟩) 1 1, .string u, .string q] w fun e w' => e = .returned (.int .i64 (if underL (bs q) (bs p) then r else 0)) ∧ Below w.heap.size w w' := by
  have he := user_ne hu
  have hus := user_len hu
  have he3 : u.toList.isEmpty = false := by
    rw [Lib.toList_data]
    rcases hb : u.data.toList with _ | ⟨z, t⟩
    · exact absurd (bs_inj (t := ByteArray.empty) hb) he
    · rfl
  have huu : (u.toList == u.toList) = true := beq_self_eq_true _
  obtain ⟨U, hU⟩ : ∃ U, underL (bs q) (bs p) = U := ⟨_, rfl⟩
  have HN := Lib.hid (fun W => refName_any u (by omega) W)
  have HU := Lib.hid (fun W => refUnder_any q p hq hp W)
  rw [hu] at HN
  rw [hU] at HU ⊢
  have HBK := Lib.hid hb
  have HF : Hid ((if U = true then (r : Int) else 0) = ((sumTo U r 8 : Nat) : Int)) := Lib.hid (by
    unfold sumTo
    cases U
    · rfl
    · rw [if_pos rfl, if_pos rfl, Nat.mod_eq_of_lt (by omega)])
  rw [HF.out]
  clear he hU hu hb HF
  go_enter Try.func10, Try.ntmps10
  go_wp2
  go_loopw [7, 8] (fun n t W => ∃ (i bI : Nat) (m : Nat), i ≤ 8 ∧ t = .int .i64 bI ∧ n = .int .i64 m ∧ bI ≤ 256 ∧ 1 ≤ bI ∧ m ≤ 255 ∧ Hid (bI = 2 ^ i) ∧ Hid (m = sumTo U r i) ∧ Below w.heap.size w W) (fun _ t _ => 256 - (intOf t).toNat)
  case atStart => exact ⟨0, 1, 0, by omega, rfl, rfl, by omega, by omega, by omega, Lib.hid rfl, Lib.hid (by unfold sumTo; rw [Nat.pow_zero, Nat.mod_one]; split <;> rfl), Below.refl _ _⟩
  case round =>
    obtain ⟨i, bI, m, hi, rfl, rfl, hb1, hb2, hm, HBI, HM, hB⟩ := hrel
    by_cases hlt : bI < 256
    · have hi8 : i < 8 := by
        rcases Nat.lt_or_ge i 8 with h | h
        · exact h
        · have : i = 8 := by omega
          subst this
          have := HBI.out
          omega
      have hb128 : bI ≤ 128 := by
        have := HBI.out
        rw [this]
        exact Nat.le_trans (Nat.pow_le_pow_right (by omega) (show i ≤ 7 by omega)) (by decide)
      obtain ⟨T, hT1, hT2, hT3⟩ : ∃ T : Bool, (bits .and .i64 (r : Int) (bI : Int) == 0) = !T ∧ sumTo U r (i + 1) = sumTo U r i + (if U && T then bI else 0) ∧ sumTo U r (i + 1) ≤ 255 := by
        rw [HBI.out]
        have hle : sumTo U r (i + 1) ≤ 255 := by
          unfold sumTo
          split
          · exact Nat.le_trans (Nat.mod_le _ _) h2
          · omega
        rcases bit_step (a := r) (i := i) (by omega) hi8 with ⟨e1, e2⟩ | ⟨e1, e2⟩
        · refine ⟨false, e1, ?_, hle⟩
          unfold sumTo
          rw [e2]
          simp
        · refine ⟨true, e1, ?_, hle⟩
          unfold sumTo
          rw [e2]
          cases U <;> simp
      have HT2 := Lib.hid hT2
      have HT3 := Lib.hid hT3
      have hm2 : (if (U && T) = true then m + bI else m) ≤ 255 := by
        rw [hT2, ← HM.out] at hT3
        split at hT3 <;> split <;> simp_all
      have HB2 : Hid (bI * 2 = 2 ^ (i + 1)) := Lib.hid (by rw [Nat.pow_succ, ← HBI.out])
      have HM2 : Hid ((if (U && T) = true then m + bI else m) = sumTo U r (i + 1)) := Lib.hid (by
        rw [hT2, ← HM.out]
        split <;> rfl)
      clear hT2 hT3
      go_wp2
      generalize decide ((bI : Int) < 256) = dd
      go_loopw [9, 10] (fun is j W => ((j = .int .i64 0 ∧ is = .bool false) ∨ (j = .int .i64 1 ∧ is = .bool (U && T))) ∧ Below w.heap.size w W) (fun _ j _ => 1 - (intOf j).toNat)
      case atStart => exact ⟨.inl ⟨rfl, rfl⟩, hB⟩
      case round =>
        obtain ⟨⟨rfl, rfl⟩ | ⟨rfl, rfl⟩, hB⟩ := hrel
        · have kk := HBK.out.below hB HBK.out.lt
          have c0 := kk.cell 0
          have c1 := kk.cell 1
          have c2 := kk.cell 2
          simp only [List.getElem?_cons_zero, List.getElem?_cons_succ] at c0 c1 c2
          have hbl := kk.lt
          clear kk
          go_wp2_with fail
          refine (HN.out _).mono ?_
          rintro e w2 ⟨rfl, rfl⟩
          go_wp2_with fail
          refine (HU.out _).mono ?_
          rintro e w3 ⟨rfl, hB3⟩
          have hBw3 := hB.trans (hB3.mono hB.size)
          have kk := HBK.out.below hBw3 HBK.out.lt
          have c2 := kk.cell 2
          simp only [List.getElem?_cons_zero, List.getElem?_cons_succ] at c2
          clear kk
          rcases U with _ | _
          · go_wp2
            go_roundw
            case rel => exact ⟨.inr ⟨by go_num, rfl⟩, hBw3⟩
            case measure => simp [intOf]
          · rcases T with _ | _
            all_goals
              go_wp2
              go_roundw
              case rel => exact ⟨.inr ⟨by go_num, by rw [bne, hT1]; rfl⟩, hBw3⟩
              case measure => simp [intOf]
        · rcases hUT : (U && T) with _ | _
          · rw [hUT] at hm2 HM2
            simp only [Bool.false_eq_true, if_false] at hm2 HM2
            go_wp2
            go_roundw
            case rel => exact ⟨i + 1, bI * 2, m, by omega, by go_num, rfl, by omega, by omega, by omega, HB2, HM2, hB⟩
            case measure => simp [intOf]; omega
          · rw [hUT] at hm2 HM2
            simp only [if_true] at hm2 HM2
            go_wp2
            go_roundw
            case rel => exact ⟨i + 1, bI * 2, m + bI, by omega, by go_num, by go_num, by omega, by omega, by omega, HB2, HM2, hB⟩
            case measure => simp [intOf]; omega
    · have HE : Hid ((m : Int) = ((sumTo U r 8 : Nat) : Int)) := Lib.hid (by
        have h256 : bI = 256 := by omega
        have := HBI.out
        have hi8 : i = 8 := by
          rcases Nat.lt_or_ge i 8 with h | h
          · have h7 : 2 ^ i ≤ 2 ^ 7 := Nat.pow_le_pow_right (by omega) (by omega)
            omega
          · omega
        rw [HM.out, hi8])
      go_wp2
      go_ret
      rw [← HE.out]
      exact ⟨rfl, hB⟩

end Go.Proofs.Ytkokfmodoacflaa
