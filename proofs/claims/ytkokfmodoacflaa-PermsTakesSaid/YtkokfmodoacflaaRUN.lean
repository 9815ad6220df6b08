/-
  The reference's Under. Conditions: the texts have at most 2^42 octets.
-/
import Derived.Test.YtkokfmodoacflaaRPA
import Derived.Laws.Cover1
namespace Go.Proofs.Ytkokfmodoacflaa
open Go.ChangeShapes Go.WideShapes Go.ChangeAt Go.RowKit
set_option maxRecDepth 100000

theorem beqU (a b : ByteArray) : (a.toList == b.toList) = decide (a = b) := by
  rw [Bool.eq_iff_iff, beq_iff_eq, decide_eq_true_eq]
  constructor
  · intro h
    rw [Lib.toList_data, Lib.toList_data] at h
    exact bs_inj h
  · intro h; rw [h]
theorem prefix_iff {p f : ByteArray} : (bs f ++ [47]).isPrefixOf (bs p) = true ↔ ∃ h : f.size < p.size, p.extract 0 f.size = f ∧ p[f.size] = 47 := by
  rw [List.isPrefixOf_iff_prefix]
  have ex : bs (p.extract 0 f.size) = (bs p).take f.size := by
    rw [bs_extract]
    simp
  constructor
  · rintro ⟨t, ht⟩
    have hl : f.size < p.size := by
      have := congrArg List.length ht
      simp only [List.length_append, List.length_cons, List.length_nil, bs_length] at this
      omega
    refine ⟨hl, bs_inj ?_, ?_⟩
    · rw [ex, ← ht, List.append_assoc, List.take_append_of_le_length (by rw [bs_length]; omega), List.take_of_length_le (by rw [bs_length]; omega)]
    · have e : (bs p)[f.size]? = some p[f.size] := by
        rw [List.getElem?_eq_getElem (by rw [bs_length]; exact hl)]
        rfl
      rw [← ht, List.append_assoc, List.getElem?_append_right (by rw [bs_length]; omega), bs_length, Nat.sub_self] at e
      simp at e
      exact e.symm
  · rintro ⟨hl, h1, h2⟩
    have e := bs_at p f.size hl
    have e1 : (bs p).take f.size = bs f := by rw [← ex, h1]
    refine ⟨(bs p).drop (f.size + 1), ?_⟩
    rw [List.append_assoc]
    show bs f ++ (47 :: (bs p).drop (f.size + 1)) = bs p
    rw [← h2, ← e, ← e1]
    exact List.take_append_drop _ _

set_option maxHeartbeats 1000000 in
theorem refUnder_any (p f : ByteArray) (hp : p.size ≤ 4398046511104) (hf : f.size ≤ 4398046511104) (w : World) :
    Calls Try.prog 23 #[.string p, .string f] w fun e w' => e = .returned (.bool (underL (bs p) (bs f))) ∧ Below w.heap.size w w' := by
  obtain ⟨R, hR⟩ : ∃ R, underL (bs p) (bs f) = R := ⟨_, rfl⟩
  rw [hR]
  have HP := Lib.hid (refPath_any p hp w)
  have HF := Lib.hid (fun W => refPath_any f hf W)
  rcases h1 : isPath (bs p) with _ | _
  · have HU : Hid (R = false) := Lib.hid (by rw [← hR]; simp [underL, h1])
    rw [h1] at HP
    clear hR h1
    go_enter Try.func23, Try.ntmps23
    go_wp2_with fail
    refine HP.out.mono ?_
    rintro e w1 ⟨rfl, hB2⟩
    go_wp2
    go_ret; exact ⟨ret_boolE HU.out.symm, hB2⟩
  · rw [h1] at HP
    rcases h2 : isPath (bs f) with _ | _
    · have HU : Hid (R = false) := Lib.hid (by rw [← hR]; simp [underL, h2])
      rw [h2] at HF
      clear hR h1 h2
      go_enter Try.func23, Try.ntmps23
      go_wp2_with fail
      refine HP.out.mono ?_
      rintro e w1 ⟨rfl, hB1⟩
      go_wp2_with fail
      refine (HF.out w1).mono ?_
      rintro e w2 ⟨rfl, hBf⟩
      have hB2 : Below w.heap.size w w2 := hB1.trans (hBf.mono hB1.size)
      go_wp2
      go_ret; exact ⟨ret_boolE HU.out.symm, hB2⟩
    · rw [h2] at HF
      have HR : Hid (R = ((bs f).isEmpty || bs p == bs f || (bs f ++ [47]).isPrefixOf (bs p))) := Lib.hid (by rw [← hR]; simp [underL, h1, h2])
      have hpre := prefix_iff (p := p) (f := f)
      have hee : (bs f).isEmpty = decide (f.size = 0) := by
        rw [Bool.eq_iff_iff, List.isEmpty_iff_length_eq_zero, bs_length, decide_eq_true_eq]
      have heq : (bs p == bs f) = decide (p = f) := by
        rw [Bool.eq_iff_iff, beq_iff_eq, decide_eq_true_eq]
        exact ⟨bs_inj, fun h => by rw [h]⟩
      rw [hee, heq] at HR
      have HPR := Lib.hid hpre
      have hb1 := beqU p f
      have hb2 := beqU (p.extract 0 f.size) f
      clear hR h1 h2 hpre hee heq
      by_cases h0 : f.size = 0
      · have HU : Hid (R = true) := Lib.hid (by rw [HR.out, decide_eq_true h0]; rfl)
        have hq : ((f.size : Int) == 0) = true := beq_iff_eq.2 (by omega)
        clear HR hb1 hb2 HPR h0
        go_enter Try.func23, Try.ntmps23
        go_wp2_with fail
        refine HP.out.mono ?_
        rintro e w1 ⟨rfl, hB1⟩
        go_wp2_with fail
        refine (HF.out w1).mono ?_
        rintro e w2 ⟨rfl, hBf⟩
        have hB2 : Below w.heap.size w w2 := hB1.trans (hBf.mono hB1.size)
        go_wp2
        go_ret; exact ⟨ret_boolE HU.out.symm, hB2⟩
      · have hq : ((f.size : Int) == 0) = false := beq_eq_false_iff_ne.2 (by omega)
        by_cases h3 : p = f
        · have HU : Hid (R = true) := Lib.hid (by rw [HR.out, decide_eq_true h3]; simp)
          rw [decide_eq_true h3] at hb1
          clear HR hb2 HPR h3 h0
          go_enter Try.func23, Try.ntmps23
          go_wp2_with fail
          refine HP.out.mono ?_
          rintro e w1 ⟨rfl, hB1⟩
          go_wp2_with fail
          refine (HF.out w1).mono ?_
          rintro e w2 ⟨rfl, hBf⟩
          have hB2 : Below w.heap.size w w2 := hB1.trans (hBf.mono hB1.size)
          go_wp2
          go_ret; exact ⟨ret_boolE HU.out.symm, hB2⟩
        · have HR2 : Hid (R = (bs f ++ [47]).isPrefixOf (bs p)) := Lib.hid (by rw [HR.out, decide_eq_false h3, decide_eq_false h0]; rfl)
          rw [decide_eq_false h3] at hb1
          clear HR h3
          by_cases h4 : f.size < p.size
          · by_cases h5 : p.extract 0 f.size = f
            · rw [decide_eq_true h5] at hb2
              by_cases h6 : p[f.size] = 47
              · have HU : Hid (R = true) := Lib.hid (by rw [HR2.out, HPR.out]; exact ⟨h4, h5, h6⟩)
                have hd : ((p[f.size].toNat : Int) == 47) = true := by rw [h6]; rfl
                clear HR2 HPR h5 h6 h0
                go_enter Try.func23, Try.ntmps23
                go_wp2_with fail
                refine HP.out.mono ?_
                rintro e w1 ⟨rfl, hB1⟩
                go_wp2_with fail
                refine (HF.out w1).mono ?_
                rintro e w2 ⟨rfl, hBf⟩
                have hB2 : Below w.heap.size w w2 := hB1.trans (hBf.mono hB1.size)
                go_wp2
                go_ret; exact ⟨ret_boolE HU.out.symm, hB2⟩
              · have HU : Hid (R = false) := Lib.hid (by rw [HR2.out, ← Bool.not_eq_true, HPR.out]; rintro ⟨_, _, h⟩; exact h6 h)
                have hd : ((p[f.size].toNat : Int) == 47) = false := by
                  rw [beq_eq_false_iff_ne]
                  intro e
                  exact h6 (UInt8.toNat_inj.1 (by show p[f.size].toNat = 47; omega))
                clear HR2 HPR h5 h6 h0
                go_enter Try.func23, Try.ntmps23
                go_wp2_with fail
                refine HP.out.mono ?_
                rintro e w1 ⟨rfl, hB1⟩
                go_wp2_with fail
                refine (HF.out w1).mono ?_
                rintro e w2 ⟨rfl, hBf⟩
                have hB2 : Below w.heap.size w w2 := hB1.trans (hBf.mono hB1.size)
                go_wp2
                go_ret; exact ⟨ret_boolE HU.out.symm, hB2⟩
            · have HU : Hid (R = false) := Lib.hid (by rw [HR2.out, ← Bool.not_eq_true, HPR.out]; rintro ⟨_, h, _⟩; exact h5 h)
              rw [decide_eq_false h5] at hb2
              clear HR2 HPR h5 h0
              go_enter Try.func23, Try.ntmps23
              go_wp2_with fail
              refine HP.out.mono ?_
              rintro e w1 ⟨rfl, hB1⟩
              go_wp2_with fail
              refine (HF.out w1).mono ?_
              rintro e w2 ⟨rfl, hBf⟩
              have hB2 : Below w.heap.size w w2 := hB1.trans (hBf.mono hB1.size)
              go_wp2
              go_ret; exact ⟨ret_boolE HU.out.symm, hB2⟩
          · have HU : Hid (R = false) := Lib.hid (by rw [HR2.out, ← Bool.not_eq_true, HPR.out]; rintro ⟨h, _, _⟩; exact h4 h)
            clear HR2 HPR h0 hb2
            go_enter Try.func23, Try.ntmps23
            go_wp2_with fail
            refine HP.out.mono ?_
            rintro e w1 ⟨rfl, hB1⟩
            go_wp2_with fail
            refine (HF.out w1).mono ?_
            rintro e w2 ⟨rfl, hBf⟩
            have hB2 : Below w.heap.size w w2 := hB1.trans (hBf.mono hB1.size)
            go_wp2
            go_ret; exact ⟨ret_boolE HU.out.symm, hB2⟩

end Go.Proofs.Ytkokfmodoacflaa
