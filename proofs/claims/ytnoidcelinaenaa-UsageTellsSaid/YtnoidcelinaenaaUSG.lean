/-
  usage: line, Set: a set's contents, its charge. Conditions: the set reads.
-/
import Derived.Test.YtnoidcelinaenaaUSF
import Derived.Test.YtnoidcelinaenaaKP
import Derived.Test.YtnoidcelinaenaaTNT
namespace Go.Proofs.Ytnoidcelinaenaa
open Go.ChangeShapes Go.WideShapes Go.ChangeAt Go.RowKit
set_option maxRecDepth 100000
set_option linter.unusedSimpArgs false

/-- A set's contents: its snapshots', then its own. -/
def lineM (s : MSet) : List (Sl Bk) := s.snaps_.l.map MSnap.body_ ++ [s.body_]
theorem lineM_length (s : MSet) : (lineM s).length = s.snaps_.l.length + 1 := by simp [lineM]
/-- What is read of a set. -/
structure SetU (W : World) (s : MSet) : Prop where
  sn : Rd W s.snaps_.A (s.snaps_.l.flatMap MSnap.cells)
  nn : s.snaps_.l.length ≤ 4398046511104
  bo : ∀ l ∈ lineM s, Rd W l.A (bks l.l) ∧ l.l.length * 24 ≤ 140737488351232
theorem SetU.below {W W' : World} {s : MSet} (h : SetU W s) (hB : Below W.heap.size W W') : SetU W' s := ⟨h.sn.below hB, h.nn, fun l hl => ⟨(h.bo l hl).1.below hB, (h.bo l hl).2⟩⟩
theorem slU {W : World} {l : Sl Bk} {good : Bk → Prop} (h : SlGood W bkC good 24 l) : Rd W l.A (bks l.l) ∧ l.l.length * 24 ≤ 140737488351232 := ⟨h.rd, h.len⟩
theorem SetU.of {W : World} {s : MSet} (h : s.Good W) : SetU W s := by
  refine ⟨h.gsnaps_.rd, by have := h.gsnaps_.len; omega, fun l hl => ?_⟩
  rcases List.mem_append.1 hl with h1 | h1
  · obtain ⟨y, hy, rfl⟩ := List.mem_map.1 h1
    exact slU (h.gsnaps_.el y hy).gbody_
  · simp at h1
    subst h1
    exact slU h.gbody_

set_option maxHeartbeats 4000000 in
theorem line_any (s : MSet) (w : World) (hs : SetU w s) :
    Calls Try.prog 20 #[.agg s.cells.toArray] w fun e w' => ∃ g c, e = .returned (.slice (some ⟨g, 0, none⟩) (s.snaps_.l.length + 1) c) ∧ w'.ownsRow w.heap.size 28 1 (.slice (some ⟨g, 0, none⟩) (s.snaps_.l.length + 1) c) (lineM s).length ((lineM s).flatMap slC) ∧ Below w.heap.size w w' := by
  obtain ⟨w1, hw1⟩ : ∃ w1, w.alloc (.cells #[.string s.path_, .string s.origin_, .slice s.body_.A s.body_.l.length s.body_.c, .slice s.snaps_.A s.snaps_.l.length s.snaps_.c, .slice s.own_.A s.own_.l.length s.own_.c] 32) = w1 := ⟨_, rfl⟩
  have hB1 : Below w.heap.size w w1 := hw1 ▸ (Below.refl _ w).alloc (Nat.le_refl _) _
  have k1 : Blk w1 w.heap.size 32 s.cells := hw1 ▸ Blk.new w _ _
  have hsz1 : w1.heap.size = w.heap.size + 1 := by rw [← hw1, World.size_alloc]
  have z3 := k1.cell 3
  simp only [List.getElem?_cons_zero, List.getElem?_cons_succ] at z3
  have HW1 := Lib.hid hw1
  have HK1 := Lib.hid k1
  have HS := Lib.hid hs
  have hnn := hs.nn
  have HB1 := Lib.hid hB1
  clear hw1 k1 hs hB1
  go_enter Try.func20, Try.ntmps20
  go_upto_region 1 with fail
  rw [HW1.out]
  go_wp2_with fail
  go_loopw [3, 9] (fun v i W => ∃ k : Nat, k ≤ s.snaps_.l.length ∧ i = .int .i64 k ∧ Hid (W.ownsRow w.heap.size 28 1 v ((s.snaps_.l.take k).map MSnap.body_).length (((s.snaps_.l.take k).map MSnap.body_).flatMap slC)) ∧ Hid (Blk W w.heap.size 32 s.cells) ∧ Below w.heap.size w W) (fun _ i _ => s.snaps_.l.length - (intOf i).toNat)
  case atStart => exact ⟨0, Nat.zero_le _, rfl, Lib.hid (ownNone _ _ _ _), HK1, HB1.out⟩
  case round =>
    obtain ⟨k, hk, rfl, HO, HK, hB⟩ := hrel
    obtain ⟨Av, cv, hv, _, _, _, _⟩ := ownAny HO.out
    subst hv
    have hs1 := hB.size
    have hlk : ((s.snaps_.l.take k).map MSnap.body_).length = k := by rw [List.length_map, List.length_take]; omega
    by_cases hlt : k < s.snaps_.l.length
    · obtain ⟨y, hy⟩ : ∃ y, s.snaps_.l[k]? = some y := ⟨_, List.getElem?_eq_getElem hlt⟩
      obtain ⟨b, off, hA, hb, hc⟩ := Rd.elem (cells := MSnap.cells) (n := 5) (fun _ => rfl) (by omega) (HS.out.sn.below hB) hy
      rw [hA]
      have c0 : wr.cell? ⟨b, off + k * 5, none⟩ = some (.string y.name_) := hc 0 _ rfl
      have c1 : wr.cell? ⟨b, off + k * 5 + 1, none⟩ = some (.int .i64 y.guid_) := hc 1 _ rfl
      have c2 : wr.cell? ⟨b, off + k * 5 + 2, none⟩ = some (.slice y.body_.A y.body_.l.length y.body_.c) := hc 2 _ rfl
      have c3 : wr.cell? ⟨b, off + k * 5 + 3, none⟩ = some (.slice y.tags_.A y.tags_.l.length y.tags_.c) := hc 3 _ rfl
      have c4 : wr.cell? ⟨b, off + k * 5 + 4, none⟩ = some (.slice y.own_.A y.own_.l.length y.own_.c) := hc 4 _ rfl
      obtain ⟨w2, hw2⟩ : ∃ w2, wr.alloc (.cells #[.string y.name_, .int .i64 y.guid_, .slice y.body_.A y.body_.l.length y.body_.c, .slice y.tags_.A y.tags_.l.length y.tags_.c, .slice y.own_.A y.own_.l.length y.own_.c] 42) = w2 := ⟨_, rfl⟩
      have hB2 : Below wr.heap.size wr w2 := hw2 ▸ (Below.refl _ wr).alloc (Nat.le_refl _) _
      have k2 : Blk w2 wr.heap.size 42 y.cells := hw2 ▸ Blk.new wr _ _
      have d2 := k2.cell 2
      simp only [List.getElem?_cons_zero, List.getElem?_cons_succ] at d2
      have hX2 := hB.trans (hB2.mono hs1)
      have hs2 := hX2.size
      have HO2 := Lib.hid (ownBelow HO.out hB2 (Nat.le_refl _))
      have HW2 := Lib.hid hw2
      have HM : Hid ((s.snaps_.l.take (k + 1)).map MSnap.body_ = (s.snaps_.l.take k).map MSnap.body_ ++ [y.body_]) := Lib.hid (by rw [List.take_add_one, hy, List.map_append]; rfl)
      generalize hM : (s.snaps_.l.take k).map MSnap.body_ = M at *
      subst hlk
      clear hc hy hw2 k2 HO
      go_wp2_with (first | rw [HW2.out] | (at_builtin; refine wpAppendK rfl rfl Try.underlying52 slC (fun _ => rfl) (by decide) slC_one infoLB rfl hX2 hs2 HO2.out y.body_ rfl rfl (by unfold maxLen; omega) (by omega) ?_; intro g6 c6 x6 HO6 HB6 HK6))
      have HKx : Hid (Blk x6 w.heap.size 32 s.cells) := Lib.hid ((HK6.out _ _ _ (HK.out.below hB2 HK.out.lt) (by decide)).trans (HK.out.below hB2 HK.out.lt))
      go_roundw
      case rel =>
        refine ⟨M.length + 1, by omega, by go_num, ?_, HKx, HB6.out⟩
        rw [HM.out]
        exact Lib.hid (by simpa using HO6.out)
      case measure => simp [intOf]; omega
    · have hke : s.snaps_.l.take k = s.snaps_.l := List.take_of_length_le (by omega)
      obtain rfl : k = s.snaps_.l.length := by omega
      rw [hke] at HO ⊢
      have hM : (lineM s) = s.snaps_.l.map MSnap.body_ ++ [s.body_] := rfl
      have hlM : (s.snaps_.l.map MSnap.body_).length = s.snaps_.l.length := by simp
      have HMM := Lib.hid hM
      generalize s.snaps_.l.map MSnap.body_ = M at *
      have z2 := HK.out.cell 2
      simp only [List.getElem?_cons_zero, List.getElem?_cons_succ] at z2
      clear hke hM
      have hMn : M.length ≤ 4398046511104 := by omega
      go_wp2_with (at_builtin; refine wpAppendK rfl rfl Try.underlying52 slC (fun _ => rfl) (by decide) slC_one infoLB rfl hB hs1 HO.out s.body_ rfl rfl (by unfold maxLen; omega) (by omega) ?_; intro g6 c6 x6 HO6 HB6 HK6)
      go_ret
      rw [HMM.out, ← hlM]
      exact ⟨g6, c6, rfl, HO6.out, HB6.out⟩

end Go.Proofs.Ytnoidcelinaenaa
