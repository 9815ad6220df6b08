/-
  newest and Newest of uber. Conditions: the slices are ones that may be.
-/
import Derived.Test.YtlcjdhmgpbnnmaaUD
import Derived.LoopTactic
namespace Go.Proofs.Ytlcjdhmgpbnnmaa
open Go.ChangeShapes Go.WideShapes Go.ChangeAt Go.RowKit

/-- Behind one more sector. -/
def ubUpd (s x : Ub × Int) (p : Int) : Ub × Int := if x.2 = 0 ∧ s.1.t < x.1.t then (x.1, p) else s
def ubSt (x y : Ub × Int) : Nat → Ub × Int
  | 0 => (ub0, 0)
  | 1 => ubUpd (ub0, 0) x 0
  | _ => ubUpd (ubUpd (ub0, 0) x 0) y 1
/-- The newest of two. -/
def ubNew (x y : Ub × Int) : Ub × Int × Int := if (ubSt x y 2).1.t = 0 then (ub0, 0, 21) else ((ubSt x y 2).1, (ubSt x y 2).2, 0)
abbrev ansN3 (r : Ub × Int × Int) : Value := .tuple #[r.1.val, .int .i64 r.2.1, .int .i64 r.2.2]

structure Slc where
  A : Option Addr
  zs : List Int
  c : Nat
def Slc.ok (s : Slc) (w : World) : Prop := s.zs.length ≤ s.c ∧ s.zs.length ≤ maxLen ∧ Octs s.zs ∧ RdB w s.A s.zs
theorem Slc.ok.below {s : Slc} {w w' : World} (h : s.ok w) (hB : Below w.heap.size w w') : s.ok w' := ⟨h.1, h.2.1, h.2.2.1, h.2.2.2.below hB⟩
abbrev Slc.val (s : Slc) : Value := .slice s.A s.zs.length s.c
def pick2 {α : Type} (a b : α) : Nat → α
  | 0 => a
  | _ => b

set_option maxHeartbeats 2000000 in
set_option maxRecDepth 100000 in
theorem newest_any (a b : Slc) (g : Nat) (w : World) (t : TypeId) (hb : Blk w g t [a.val, b.val]) (ha' : a.ok w) (hb' : b.ok w) :
    Calls Try.prog 26 #[.slice (some ⟨g, 0, none⟩) 2 2] w fun e w' => e = .returned (ansN3 (ubNew (ubOf a.zs) (ubOf b.zs))) ∧ Below w.heap.size w w' := by
  have hcell : ∀ k, k < 2 → w.cell? ⟨g, k, none⟩ = some (pick2 a b k).val := fun k hk => by
    have := hb.cell k
    rcases k with _ | _ | k
    · exact this
    · exact this
    · omega
  have hok : ∀ k, (pick2 a b k).ok w := fun k => by rcases k with _ | k <;> assumption
  have hst : ∀ k, k < 2 → ubSt (ubOf a.zs) (ubOf b.zs) (k + 1) = ubUpd (ubSt (ubOf a.zs) (ubOf b.zs) k) (ubOf (pick2 a b k).zs) k := fun k hk => by
    rcases k with _ | _ | k
    · rfl
    · rfl
    · omega
  have hd : ∀ (s : Slc) (w : World), s.ok w → Calls Try.prog 9 #[s.val] w fun e w' => e = .returned (ansU (ubOf s.zs)) ∧ Below w.heap.size w w' := fun s w h => decode_any s.A s.zs.length s.c s.zs rfl h.1 h.2.1 h.2.2.1 w h.2.2.2
  have HD := Lib.hid hd
  have HC := Lib.hid hcell
  have HOK := Lib.hid hok
  have hlg := hb.lt
  have HST := Lib.hid hst
  obtain ⟨st, hst0⟩ : ∃ st, ubSt (ubOf a.zs) (ubOf b.zs) = st := ⟨_, rfl⟩
  have h0 : st 0 = (ub0, 0) := by rw [← hst0]; rfl
  have hnew : ubNew (ubOf a.zs) (ubOf b.zs) = if (st 2).1.t = 0 then (ub0, 0, 21) else ((st 2).1, (st 2).2, 0) := by rw [← hst0]; rfl
  rw [hst0] at HST
  have HNEW := Lib.hid hnew
  generalize ubNew (ubOf a.zs) (ubOf b.zs) = r at HNEW ⊢
  generalize pick2 a b = sl at *
  clear hb ha' hb' hd hcell hok hst hst0 hnew
  clear a b
  go_enter Try.func26, Try.ntmps26
  go_wp2_with fail
  go_loopw [6, 13] (fun at_ i wr => ∃ k : Nat, k ≤ 2 ∧ i = .int .i64 k ∧ at_ = .int .i64 (st k).2 ∧ Hid (Blk wr (w.heap.size + 1) 23 (st k).1.cells) ∧ Hid (Blk wr w.heap.size 23 ub0.cells) ∧ Below w.heap.size w wr) (fun _ i _ => 2 - (intOf i).toNat)
  case atStart =>
    refine ⟨0, by omega, rfl, by rw [h0], ?_, ?_, ((Below.refl _ w).alloc (Nat.le_refl _) _).alloc (by simp) _⟩
    · rw [h0]
      have := Blk.new (w.alloc (.cells #[.int .i64 0, .int .i64 0, .int .i64 0] 23)) ub0.cells 23
      rw [World.size_alloc] at this
      exact this
    · exact (Blk.new w ub0.cells 23).alloc _
  case round =>
    obtain ⟨k, hk, rfl, rfl, HX, HR, hB⟩ := hrel
    by_cases hlt : k < 2
    · have hck := (hB.cell (p := ⟨g, k, none⟩) hlg).trans (HC.out k hlt)
      have HOKk := Lib.hid ((HOK.out k).below hB)
      have hsk := HST.out k hlt
      generalize sl k = s at *
      have HSK := Lib.hid hsk
      clear hsk
      have hlx := HX.out.lt
      have hs := hB.size
      go_wp2_with fail
      refine (HD.out s wr HOKk.out).mono ?_
      rintro e w4 ⟨rfl, hB4⟩
      have HX4 := Lib.hid (HX.out.below hB4 HX.out.lt)
      have HR4 := Lib.hid (HR.out.below hB4 HR.out.lt)
      have hB04 : Below w.heap.size w w4 := hB.trans (hB4.mono hB.size)
      have hlx4 := HX4.out.lt
      have hl4 := HR4.out.lt
      have hs4 := hB04.size
      generalize ubOf s.zs = xx at *
      clear HX HR hB4
      clear hB
      rcases hS : st k with ⟨⟨t0, f0, o0⟩, p0⟩
      rw [hS] at HSK HX4
      obtain ⟨⟨t, f, o⟩, ee⟩ := xx
      have y0 := HX4.out.cell 0
      have y1 := HX4.out.cell 1
      have y2 := HX4.out.cell 2
      have q0 := HX4.out.frozen 0
      have q1 := HX4.out.frozen 1
      have q2 := HX4.out.frozen 2
      simp only [Ub.cells, List.getElem?_cons_zero, List.getElem?_cons_succ] at y0 y1 y2
      have HXA := Lib.hid (HX4.out.alloc (.cells #[.int .i64 t, .int .i64 f, .int .i64 o] 23))
      have HRA := Lib.hid (HR4.out.alloc (.cells #[.int .i64 t, .int .i64 f, .int .i64 o] 23))
      have hBA : Below w.heap.size w (w4.alloc (.cells #[.int .i64 t, .int .i64 f, .int .i64 o] 23)) := hB04.alloc hs4 _
      have hneX : w.heap.size ≠ w.heap.size + 1 := by omega
      clear hS
      unfold ubUpd at HSK
      dsimp only at HSK
      by_cases he : ee = 0
      · subst he
        by_cases ht : t0 < t
        · rw [if_pos ⟨rfl, ht⟩] at HSK
          go_wp2
          go_roundw
          case rel =>
            refine ⟨k + 1, by omega, by go_num, by rw [HSK.out], ?_, ?_, ?_⟩
            · rw [HSK.out]
              exact (((HX4.out.set 0 (.int .i64 t)).set 1 (.int .i64 f)).set 2 (.int .i64 o)).alloc _
            · exact ((((HR4.out.other hneX 0 (.int .i64 t)).other hneX 1 (.int .i64 f)).other hneX 2 (.int .i64 o))).alloc _
            · exact (((hB04.setCell (p := ⟨w.heap.size + 1, 0, none⟩) (by simp) _).setCell (p := ⟨w.heap.size + 1, 1, none⟩) (by simp) _).setCell (p := ⟨w.heap.size + 1, 2, none⟩) (by simp) _).alloc (by simp; omega) _
          case measure => simp [intOf]; omega
        · rw [if_neg fun h => ht h.2] at HSK
          go_wp2
          go_roundw
          case rel =>
            refine ⟨k + 1, by omega, by go_num, by rw [HSK.out], ?_, HRA, hBA⟩
            rw [HSK.out]
            exact HXA
          case measure => simp [intOf]; omega
      · rw [if_neg fun h => he h.1] at HSK
        have hee : (ee == 0) = false := beq_eq_false_iff_ne.2 he
        go_wp2
        go_roundw
        case rel =>
          refine ⟨k + 1, by omega, by go_num, by rw [HSK.out], ?_, HRA, hBA⟩
          rw [HSK.out]
          exact HXA
        case measure => simp [intOf]; omega
    · obtain rfl : k = 2 := by omega
      have hn := HNEW.out
      have hlx := HX.out.lt
      have hl4 := HR.out.lt
      rcases hS : st 2 with ⟨⟨t0, f0, o0⟩, p0⟩
      rw [hS] at HX hn
      dsimp only at hn
      have y0 := HX.out.cell 0
      have y1 := HX.out.cell 1
      have y2 := HX.out.cell 2
      have z0 := HR.out.cell 0
      have z1 := HR.out.cell 1
      have z2 := HR.out.cell 2
      have q0 := HR.out.frozen 0
      have q1 := HR.out.frozen 1
      have q2 := HR.out.frozen 2
      simp only [Ub.cells, ub0, List.getElem?_cons_zero, List.getElem?_cons_succ] at y0 y1 y2 z0 z1 z2
      clear HX HR HNEW HST HC HD HOK
      clear hS
      by_cases ht : t0 = 0
      · rw [if_pos ht] at hn
        subst ht hn
        go_wp2
        refine bodyPost_ret (v := ansN3 (ub0, 0, 21)) (by simp [results, Try.results26, go_sem, z0, z1, z2, ub0]) rfl ⟨rfl, ?_⟩
        exact ((hB.setCell (p := ⟨w.heap.size, 0, none⟩) (Nat.le_refl _) _).setCell (p := ⟨w.heap.size, 1, none⟩) (Nat.le_refl _) _).setCell (p := ⟨w.heap.size, 2, none⟩) (Nat.le_refl _) _
      · rw [if_neg ht] at hn
        subst hn
        have htt : (t0 == 0) = false := beq_eq_false_iff_ne.2 ht
        go_wp2
        refine bodyPost_ret (v := ansN3 (⟨t0, f0, o0⟩, p0, 0)) (by simp [results, Try.results26, go_sem, z0, z1, z2]) rfl ⟨rfl, ?_⟩
        exact ((hB.setCell (p := ⟨w.heap.size, 0, none⟩) (Nat.le_refl _) _).setCell (p := ⟨w.heap.size, 1, none⟩) (Nat.le_refl _) _).setCell (p := ⟨w.heap.size, 2, none⟩) (Nat.le_refl _) _

set_option maxHeartbeats 1000000 in
theorem newestU_any (a b : Slc) (w : World) (ha' : a.ok w) (hb' : b.ok w) :
    Calls Try.prog 15 #[a.val, b.val] w fun e w' => e = .returned (ansN3 (ubNew (ubOf a.zs) (ubOf b.zs))) ∧ Below w.heap.size w w' := by
  obtain ⟨w1, hw1⟩ : ∃ w1, w.alloc (.cells #[.int .i64 0, .int .i64 0, .int .i64 0] 23) = w1 := ⟨_, rfl⟩
  have hB1 : Below w.heap.size w w1 := hw1 ▸ (Below.refl _ w).alloc (Nat.le_refl _) _
  have kr : Blk w1 w.heap.size 23 ub0.cells := hw1 ▸ Blk.new w ub0.cells 23
  have hB12 : Below w1.heap.size w1 (w1.alloc (.cells #[a.val, b.val] 24)) := (Below.refl _ _).alloc (Nat.le_refl _) _
  have hc := newest_any a b w1.heap.size (w1.alloc (.cells #[a.val, b.val] 24)) 24 (Blk.new w1 [a.val, b.val] _) ((ha'.below hB1).below hB12) ((hb'.below hB1).below hB12)
  have HC := Lib.hid hc
  have HKR := Lib.hid (kr.below hB12 kr.lt)
  have hB2 : Below w.heap.size w (w1.alloc (.cells #[a.val, b.val] 24)) := hB1.trans (hB12.mono hB1.size)
  generalize ubNew (ubOf a.zs) (ubOf b.zs) = r at HC ⊢
  obtain ⟨⟨t, f, o⟩, p, ee⟩ := r
  clear hc ha' hb' kr
  go_enter Try.func15, Try.ntmps15
  go_wp2_with fail
  refine HC.out.mono ?_
  rintro e w3 ⟨rfl, hB3⟩
  have k3 := HKR.out.below hB3 HKR.out.lt
  have hB03 : Below w.heap.size w w3 := hB2.trans (hB3.mono hB2.size)
  have z0 := k3.cell 0
  have z1 := k3.cell 1
  have z2 := k3.cell 2
  have q0 := k3.frozen 0
  have q1 := k3.frozen 1
  have q2 := k3.frozen 2
  simp only [Ub.cells, ub0, List.getElem?_cons_zero, List.getElem?_cons_succ] at z0 z1 z2
  clear k3 HKR HC hw1
  go_wp2_with fail
  refine bodyPost_ret (v := ansN3 (⟨t, f, o⟩, p, ee)) (by simp [results, Try.results15, go_sem, z0, z1, z2]) rfl ⟨rfl, ?_⟩
  exact ((hB03.setCell (p := ⟨w.heap.size, 0, none⟩) (Nat.le_refl _) _).setCell (p := ⟨w.heap.size, 1, none⟩) (Nat.le_refl _) _).setCell (p := ⟨w.heap.size, 2, none⟩) (Nat.le_refl _) _

end Go.Proofs.Ytlcjdhmgpbnnmaa
