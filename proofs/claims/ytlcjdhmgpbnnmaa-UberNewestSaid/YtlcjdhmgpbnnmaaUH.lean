/-
  UberBack's, UberNewest's and UberSpoilt's walks. Conditions: the slices are ones that may be.
-/
import Derived.Test.YtlcjdhmgpbnnmaaUG
import Derived.Test.YtlcjdhmgpbnnmaaPL
namespace Go.Proofs.Ytlcjdhmgpbnnmaa
open Go.ChangeShapes Go.WideShapes Go.ChangeAt Go.RowKit

theorem Slc.decode {s : Slc} {w : World} (h : s.ok w) : Calls Try.prog 9 #[s.val] w fun e w' => e = .returned (ansU (ubOf s.zs)) ∧ Below w.heap.size w w' := decode_any s.A s.zs.length s.c s.zs rfl h.1 h.2.1 h.2.2.1 w h.2.2.2
theorem Slc.refDecode {s : Slc} {w : World} (h : s.ok w) : Calls Try.prog 10 #[s.val] w fun e w' => e = .returned (ansU (ubOf s.zs)) ∧ Below w.heap.size w w' := refDecode_any s.A s.zs.length s.c s.zs rfl h.1 h.2.1 h.2.2.1 w h.2.2.2

theorem ubOf_ways (zs : List Int) : ubOf zs = (ub0, 21) ∨ ∃ u : Ub, ubOf zs = (u, 0) ∧ u.ok = true ∧ u.octs = zs ∧ 1 ≤ u.t := by
  by_cases h : (ubOf zs).2 = 0
  · obtain ⟨h1, h2⟩ := ubOf_ok h
    refine .inr ⟨(ubOf zs).1, ?_, h1, h2, (Ub.ok_iff.1 h1).1⟩
    rw [← h]
  · exact .inl (ubOf_no h)

theorem Ub.enc_octs (u : Ub) : Octs u.enc := by
  unfold Ub.enc
  split
  · exact u.octs_octs
  · intro z hz; cases hz
theorem Ub.enc_le (u : Ub) : u.enc.length ≤ 64 := by
  unfold Ub.enc
  split
  · rw [u.octs_length]; omega
  · simp

theorem ubNew_ways (x y : Ub × Int) (hx : x = (ub0, 21) ∨ x.2 = 0 ∧ 1 ≤ x.1.t) (hy : y = (ub0, 21) ∨ y.2 = 0 ∧ 1 ≤ y.1.t) :
    (x = (ub0, 21) ∧ y = (ub0, 21) ∧ ubNew x y = (ub0, 0, 21)) ∨ (x = (ub0, 21) ∧ y.2 = 0 ∧ ubNew x y = (y.1, 1, 0)) ∨ (x.2 = 0 ∧ y = (ub0, 21) ∧ ubNew x y = (x.1, 0, 0)) ∨ (x.2 = 0 ∧ y.2 = 0 ∧ x.1.t < y.1.t ∧ ubNew x y = (y.1, 1, 0)) ∨ (x.2 = 0 ∧ y.2 = 0 ∧ ¬ x.1.t < y.1.t ∧ ubNew x y = (x.1, 0, 0)) := by
  have h0 : ub0.t = 0 := rfl
  rcases hx with rfl | ⟨hx, hx1⟩
  · rcases hy with rfl | ⟨hy, hy1⟩
    · exact .inl ⟨rfl, rfl, rfl⟩
    · refine .inr (.inl ⟨rfl, hy, ?_⟩)
      have h1 : ubSt (ub0, 21) y 2 = (y.1, 1) := by
        simp only [ubSt, ubUpd]
        rw [if_neg (c := (21 : Int) = 0 ∧ _) (fun h => by cases h.1)]
        rw [if_pos ⟨hy, by show ub0.t < _; omega⟩]
      unfold ubNew
      rw [h1, if_neg (by show ¬ y.1.t = 0; omega)]
  · have hu : ubUpd (ub0, 0) x 0 = (x.1, 0) := by
      unfold ubUpd
      rw [if_pos ⟨hx, by show ub0.t < _; omega⟩]
    rcases hy with rfl | ⟨hy, hy1⟩
    · refine .inr (.inr (.inl ⟨hx, rfl, ?_⟩))
      have h1 : ubSt x (ub0, 21) 2 = (x.1, 0) := by
        simp only [ubSt]
        rw [hu]
        unfold ubUpd
        rw [if_neg (fun h => by cases h.1)]
      unfold ubNew
      rw [h1, if_neg (by show ¬ x.1.t = 0; omega)]
    · by_cases ht : x.1.t < y.1.t
      · refine .inr (.inr (.inr (.inl ⟨hx, hy, ht, ?_⟩)))
        have h1 : ubSt x y 2 = (y.1, 1) := by
          simp only [ubSt]
          rw [hu]
          unfold ubUpd
          rw [if_pos ⟨hy, ht⟩]
        unfold ubNew
        rw [h1, if_neg (by show ¬ y.1.t = 0; omega)]
      · refine .inr (.inr (.inr (.inr ⟨hx, hy, ht, ?_⟩)))
        have h1 : ubSt x y 2 = (x.1, 0) := by
          simp only [ubSt]
          rw [hu]
          unfold ubUpd
          rw [if_neg fun h => ht h.2]
        unfold ubNew
        rw [h1, if_neg (by show ¬ x.1.t = 0; omega)]

set_option maxHeartbeats 2000000 in
set_option maxRecDepth 100000 in
theorem newest_walk (a b : Slc) (w : World) (ha : a.ok w) (hb : b.ok w) :
    Calls Try.prog 5 #[a.val, b.val] w fun e w' => e = .returned (.bool true) ∧ Below w.heap.size w w' := by
  have hw := ubNew_ways (ubOf a.zs) (ubOf b.zs) ((ubOf_ways a.zs).imp id fun ⟨u, h, _, _, h1⟩ => by rw [h]; exact ⟨rfl, h1⟩) ((ubOf_ways b.zs).imp id fun ⟨u, h, _, _, h1⟩ => by rw [h]; exact ⟨rfl, h1⟩)
  have HN := Lib.hid (newestU_any a b)
  have HA := Lib.hid ha
  have HB := Lib.hid hb
  have DA := Lib.hid fun w => Slc.refDecode (s := a) (w := w)
  have DB := Lib.hid fun w => Slc.refDecode (s := b) (w := w)
  generalize ubNew (ubOf a.zs) (ubOf b.zs) = r at *
  generalize ubOf a.zs = x at *
  generalize ubOf b.zs = y at *
  obtain ⟨⟨t1, f1, o1⟩, e1⟩ := x
  obtain ⟨⟨t2, f2, o2⟩, e2⟩ := y
  obtain ⟨⟨t3, f3, o3⟩, p3, e3⟩ := r
  clear ha hb
  go_enter Try.func5, Try.ntmps5
  go_wp2_with fail
  refine (HN.out w HA.out HB.out).mono ?_
  rintro e w1 ⟨rfl, hB1⟩
  have HA1 := Lib.hid (HA.out.below hB1)
  have HB1 := Lib.hid (HB.out.below hB1)
  clear HA HB HN
  go_wp2_with fail
  obtain ⟨w2, hw2⟩ : ∃ w2, w1.alloc (.cells #[.int .i64 t3, .int .i64 f3, .int .i64 o3] 23) = w2 := ⟨_, rfl⟩
  have hB12 : Below w1.heap.size w1 w2 := hw2 ▸ (Below.refl _ w1).alloc (Nat.le_refl _) _
  have k1 : Blk w2 w1.heap.size 23 [.int .i64 t3, .int .i64 f3, .int .i64 o3] := hw2 ▸ Blk.new w1 [.int .i64 t3, .int .i64 f3, .int .i64 o3] 23
  have hB2 : Below w.heap.size w w2 := hB1.trans (hB12.mono hB1.size)
  rw [hw2]
  refine (DA.out w2 (HA1.out.below hB12)).mono ?_
  rintro e w3 ⟨rfl, hB3⟩
  have HB3 := Lib.hid ((HB1.out.below hB12).below hB3)
  have k13 := k1.below hB3 k1.lt
  have hB03 : Below w.heap.size w w3 := hB2.trans (hB3.mono hB2.size)
  clear hw2 k1 HA1 HB1 DA hB12 hB2 hB3 hB1
  generalize w1.heap.size = X at *
  go_wp2_with fail
  obtain ⟨w4, hw4⟩ : ∃ w4, w3.alloc (.cells #[.int .i64 t1, .int .i64 f1, .int .i64 o1] 23) = w4 := ⟨_, rfl⟩
  have hB34 : Below w3.heap.size w3 w4 := hw4 ▸ (Below.refl _ w3).alloc (Nat.le_refl _) _
  have k2 : Blk w4 w3.heap.size 23 [.int .i64 t1, .int .i64 f1, .int .i64 o1] := hw4 ▸ Blk.new w3 [.int .i64 t1, .int .i64 f1, .int .i64 o1] 23
  have hB4 : Below w.heap.size w w4 := hB03.trans (hB34.mono hB03.size)
  rw [hw4]
  refine (DB.out w4 (HB3.out.below hB34)).mono ?_
  rintro e w5 ⟨rfl, hB5⟩
  have k15 := (k13.below hB34 k13.lt).below hB5 (k13.below hB34 k13.lt).lt
  have k25 := k2.below hB5 k2.lt
  have hB05 : Below w.heap.size w w5 := hB4.trans (hB5.mono hB4.size)
  clear hw4 k2 k13 HB3 DB hB34 hB4 hB5 hB03
  generalize w3.heap.size = Y at *
  have k16 := k15.alloc (.cells #[.int .i64 t2, .int .i64 f2, .int .i64 o2] 23)
  have k26 := k25.alloc (.cells #[.int .i64 t2, .int .i64 f2, .int .i64 o2] 23)
  have k36 := Blk.new w5 [.int .i64 t2, .int .i64 f2, .int .i64 o2] 23
  have hB6 : Below w.heap.size w (w5.alloc (.cells #[.int .i64 t2, .int .i64 f2, .int .i64 o2] 23)) := hB05.alloc hB05.size _
  have hlX := k15.lt
  have hlY := k25.lt
  have x0 := k15.cell 0
  have x1 := k15.cell 1
  have x2 := k15.cell 2
  have y0 := k25.cell 0
  have y1 := k25.cell 1
  have y2 := k25.cell 2
  simp only [List.getElem?_cons_zero, List.getElem?_cons_succ] at x0 x1 x2 y0 y1 y2
  clear k15 k25 k16 k26 k36
  simp only [Prod.mk.injEq, ub0, Ub.mk.injEq] at hw
  rcases hw with ⟨⟨⟨rfl, rfl, rfl⟩, rfl⟩, ⟨⟨rfl, rfl, rfl⟩, rfl⟩, ⟨rfl, rfl, rfl⟩, rfl, rfl⟩ | ⟨⟨⟨rfl, rfl, rfl⟩, rfl⟩, rfl, ⟨rfl, rfl, rfl⟩, rfl, rfl⟩ | ⟨rfl, ⟨⟨rfl, rfl, rfl⟩, rfl⟩, ⟨rfl, rfl, rfl⟩, rfl, rfl⟩ | ⟨rfl, rfl, ht, ⟨rfl, rfl, rfl⟩, rfl, rfl⟩ | ⟨rfl, rfl, ht, ⟨rfl, rfl, rfl⟩, rfl, rfl⟩
  all_goals
    go_wp2_with (first
      | (go_at_call 11; refine (num_any _ _).mono ?_; rintro e w' ⟨rfl, rfl⟩)
      | (go_at_call 14; refine (alive_any _).mono ?_; rintro e w9 ⟨rfl, hB9⟩))
    go_ret
    exact ⟨rfl, hB6.trans (hB9.mono hB6.size)⟩

end Go.Proofs.Ytlcjdhmgpbnnmaa
