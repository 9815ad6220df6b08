/-
  TreeCopies’ walk. Conditions: the tenant is as it comes in.
-/
import Derived.Test.YtgcncanpgefhjaaGreatMTCU
import Derived.Test.YtgcncanpgefhjaaGreatMTES
import Derived.Test.YtgcncanpgefhjaaGreatMTMH
namespace Go.Proofs.YtgcncanpgefhjaaGreat
open Go.ChangeShapes Go.WideShapes Go.ChangeAt Go.RowKit
set_option maxRecDepth 100000
set_option linter.unusedSimpArgs false

theorem own_stays {W W' : World} {n e size k : Nat} {v : Value} {xs : List Value} (h : W.ownsRow n e size v k xs) (hk : ∀ b, n ≤ b → b < W.heap.size → W'.heap[b]? = W.heap[b]?) : W'.ownsRow n e size v k xs := ownStay h fun b hb => hk b (h.lt b hb).1 (h.lt b hb).2
theorem OwnTe.stays {n : Nat} {W W' : World} {y : MTenant} (h : OwnTe n W y) (hk : ∀ b, n ≤ b → b < W.heap.size → W'.heap[b]? = W.heap[b]?) : OwnTe n W' y :=
  ⟨own_stays h.sets hk, own_stays h.grants hk, own_stays h.stages hk, own_stays h.log hk, fun s hs => ⟨own_stays (h.eset s hs).body hk, own_stays (h.eset s hs).snaps hk, own_stays (h.eset s hs).own hk, fun z hz => ⟨own_stays ((h.eset s hs).each z hz).body hk, own_stays ((h.eset s hs).each z hz).tags hk, own_stays ((h.eset s hs).each z hz).own hk⟩⟩, fun s hs => ⟨own_stays (h.estage s hs).body hk, own_stays (h.estage s hs).own hk⟩⟩
theorem OwnTe.below {n : Nat} {W W' : World} {y : MTenant} (h : OwnTe n W y) (hB : Below W.heap.size W W') : OwnTe n W' y := h.stays fun b _ hb => hB.block b hb
theorem sum_eq {a b : MSum} (h : a.plain = b.plain) : a = b := by
  obtain ⟨a1, a2, a3, a4⟩ := a
  obtain ⟨b1, b2, b3, b4⟩ := b
  obtain ⟨h1, h2, h3, h4⟩ := PSum.eq_iff.1 h
  simp only [MSum.plain] at h1 h2 h3 h4
  subst h1 h2 h3 h4
  rfl
theorem MSum.Good.to {W : World} {x : MSum} (h : x.Good W) (W' : World) : x.Good W' := ⟨h.ga_, h.gb_, h.gc_, h.gd_⟩
theorem MEntry.Good.to {W : World} {x : MEntry} (h : x.Good W) (W' : World) : x.Good W' := ⟨h.guser_, h.gkind_, h.gpath_, h.gerr_⟩
theorem MStage.Good.of_own {W W' : World} {n : Nat} {x y : MStage} (h : x.Good W) (hp : y.plain = x.plain) (ho : OwnSt n W' y) : y.Good W' := by
  obtain ⟨h1, h2, h3, h4, h5, h6, h7⟩ := PStage.eq_iff.1 hp
  obtain ⟨r1, r2, r3, r4, r5, r6, r7, r8, r9⟩ := PRecord.eq_iff.1 h2
  have e1 := sum_eq h6
  have e2 := sum_eq r9
  have b := h.gbegin_
  refine ⟨by have := h.ginto_; rw [show y.into_ = x.into_ from h1]; exact this, ⟨?_, ?_, ?_, ?_, slGood_own b.gown_ (by rw [show y.begin_.own_.l = x.begin_.own_.l from r5]) ho.own fun q hq => b.gown_.el q (by rw [← show y.begin_.own_.l = x.begin_.own_.l from r5]; exact hq), ?_, ?_, ?_, ?_⟩, slGood_own h.gbody_ (by rw [show y.body_.l = x.body_.l from h3]) ho.body fun q hq => h.gbody_.el q (by rw [← show y.body_.l = x.body_.l from h3]; exact hq), by rw [show y.at_ = x.at_ from h4]; exact h.gat_, by rw [show y.next_ = x.next_ from h5]; exact h.gnext_, by rw [e1]; exact h.gsum_.to W'⟩
  · rw [show y.begin_.kind_ = x.begin_.kind_ from r1]; exact b.gkind_
  · rw [show y.begin_.name_ = x.begin_.name_ from r2]; exact b.gname_
  · rw [show y.begin_.from_ = x.begin_.from_ from r3]; exact b.gfrom_
  · rw [show y.begin_.guid_ = x.begin_.guid_ from r4]; exact b.gguid_
  · rw [show y.begin_.index_ = x.begin_.index_ from r6]; exact b.gindex_
  · rw [show y.begin_.count_ = x.begin_.count_ from r7]; exact b.gcount_
  · rw [show y.begin_.data_ = x.begin_.data_ from r8]; exact b.gdata_
  · rw [e2]; exact b.gsum_.to W'
theorem MTenant.Good.of_own {W W' : World} {n : Nat} {x y : MTenant} (h : x.Good W) (hp : y.plain = x.plain) (ho : OwnTe n W' y) : y.Good W' := by
  obtain ⟨h1, h2, h3, h4, h5, h6, h7⟩ := PTenant.eq_iff.1 hp
  have e7 : y.log_.l = x.log_.l := entries_eq h7
  refine ⟨by rw [show y.name_ = x.name_ from h1]; exact h.gname_, by rw [show y.quota_ = x.quota_ from h2]; exact h.gquota_, by rw [show y.next_ = x.next_ from h3]; exact h.gnext_, slGood_own h.gsets_ (map_len h4) ho.sets fun s hs => ?_, slGood_own h.ggrants_ (by rw [show y.grants_.l = x.grants_.l from h5]) ho.grants fun q hq => h.ggrants_.el q (by rw [← show y.grants_.l = x.grants_.l from h5]; exact hq), slGood_own h.gstages_ (map_len h6) ho.stages fun s hs => ?_, slGood_own h.glog_ (by rw [e7]) ho.log fun q hq => (h.glog_.el q (by rw [← e7]; exact hq)).to W'⟩
  · obtain ⟨s', hs', e⟩ := mem_plain h4 hs
    exact (h.gsets_.el s' hs').of_own e (ho.eset s hs)
  · obtain ⟨s', hs', e⟩ := mem_plain h6 hs
    exact (h.gstages_.el s' hs').of_own e (ho.estage s hs)

set_option maxHeartbeats 4000000 in
theorem copies_walk (x : MTenant) (w : World) (hx : x.Good w) :
    Calls Tryz.prog 3 #[.agg x.cells.toArray] w fun e w' => e = .returned (.bool true) ∧ Below w.heap.size w w' := by
  obtain ⟨w1, hw1⟩ : ∃ w1, w.alloc (.cells #[.string x.name_, .int .i64 x.quota_, .int .i64 x.next_, .slice x.sets_.A x.sets_.l.length x.sets_.c, .slice x.grants_.A x.grants_.l.length x.grants_.c, .slice x.stages_.A x.stages_.l.length x.stages_.c, .slice x.log_.A x.log_.l.length x.log_.c] 27) = w1 := ⟨_, rfl⟩
  have hB1 : Below w.heap.size w w1 := hw1 ▸ (Below.refl _ w).alloc (Nat.le_refl _) _
  have k1 : Blk w1 w.heap.size 27 [.string x.name_, .int .i64 x.quota_, .int .i64 x.next_, .slice x.sets_.A x.sets_.l.length x.sets_.c, .slice x.grants_.A x.grants_.l.length x.grants_.c, .slice x.stages_.A x.stages_.l.length x.stages_.c, .slice x.log_.A x.log_.l.length x.log_.c] := hw1 ▸ Blk.new w _ _
  have hs1 := hB1.size
  have HW1 := Lib.hid hw1
  have HA := Lib.hid (alive14_any w1)
  clear hw1
  go_enter Tryz.func3, Tryz.ntmps3
  go_wp2_with fail
  rw [HW1.out]
  try go_wp2_with fail
  refine HA.out.mono ?_
  rintro e w2 ⟨rfl, hV2⟩
  have k2 := k1.of hV2
  have hB2 := hB1.trans (hV2.mono hs1)
  have hs2 := hB2.size
  have a0 := k2.cell 0
  have a1 := k2.cell 1
  have a2 := k2.cell 2
  have a3 := k2.cell 3
  have a4 := k2.cell 4
  have a5 := k2.cell 5
  have a6 := k2.cell 6
  simp only [List.getElem?_cons_zero, List.getElem?_cons_succ] at a0 a1 a2 a3 a4 a5 a6
  have HC1 := Lib.hid (refOwnT_any x w2 (hx.below hB2))
  go_wp2_with fail
  refine HC1.out.mono ?_
  rintro e w3 ⟨y, rfl, hoy, hpy, hV3⟩
  clear a0 a1 a2 a3 a4 a5 a6
  have hB3 := hB2.trans (hV3.mono hs2)
  have hs23 := hV3.size
  obtain ⟨w4, hw4⟩ : ∃ w4, w3.alloc (.cells #[.string y.name_, .int .i64 y.quota_, .int .i64 y.next_, .slice y.sets_.A y.sets_.l.length y.sets_.c, .slice y.grants_.A y.grants_.l.length y.grants_.c, .slice y.stages_.A y.stages_.l.length y.stages_.c, .slice y.log_.A y.log_.l.length y.log_.c] 27) = w4 := ⟨_, rfl⟩
  have hV4 : Below w3.heap.size w3 w4 := hw4 ▸ (Below.refl _ w3).alloc (Nat.le_refl _) _
  have kY4 : Blk w4 w3.heap.size 27 [.string y.name_, .int .i64 y.quota_, .int .i64 y.next_, .slice y.sets_.A y.sets_.l.length y.sets_.c, .slice y.grants_.A y.grants_.l.length y.grants_.c, .slice y.stages_.A y.stages_.l.length y.stages_.c, .slice y.log_.A y.log_.l.length y.log_.c] := hw4 ▸ Blk.new w3 _ _
  have hs34 := hV4.size
  have hgy : y.Good w3 := (hx.below hB2).of_own hpy hoy
  have HC2 := Lib.hid (copy_any y w4 (hgy.below hV4))
  have HW4 := Lib.hid hw4
  clear hw4
  go_wp2_with fail
  rw [HW4.out]
  try go_wp2_with fail
  refine HC2.out.mono ?_
  rintro e w5 ⟨z, rfl, hoz, hpz, hV5⟩
  have kY5 := kY4.of hV5
  have hs45 := hV5.size
  obtain ⟨w6, hw6⟩ : ∃ w6, w5.alloc (.cells #[.string z.name_, .int .i64 z.quota_, .int .i64 z.next_, .slice z.sets_.A z.sets_.l.length z.sets_.c, .slice z.grants_.A z.grants_.l.length z.grants_.c, .slice z.stages_.A z.stages_.l.length z.stages_.c, .slice z.log_.A z.log_.l.length z.log_.c] 27) = w6 := ⟨_, rfl⟩
  have hV6 : Below w5.heap.size w5 w6 := hw6 ▸ (Below.refl _ w5).alloc (Nat.le_refl _) _
  have kZ6 : Blk w6 w5.heap.size 27 [.string z.name_, .int .i64 z.quota_, .int .i64 z.next_, .slice z.sets_.A z.sets_.l.length z.sets_.c, .slice z.grants_.A z.grants_.l.length z.grants_.c, .slice z.stages_.A z.stages_.l.length z.stages_.c, .slice z.log_.A z.log_.l.length z.log_.c] := hw6 ▸ Blk.new w5 _ _
  have kY6 := kY5.of hV6
  have hs56 := hV6.size
  have hV36 : Below w3.heap.size w3 w6 := (hV4.trans (hV5.mono hs34)).trans (hV6.mono (by omega))
  have HC3 := Lib.hid (spoilT_any y w2.heap.size w3 w6 hgy hoy hV36 hs23)
  have HW6 := Lib.hid hw6
  have kYa : Blk (w5.alloc (.cells #[.string z.name_, .int .i64 z.quota_, .int .i64 z.next_, .slice z.sets_.A z.sets_.l.length z.sets_.c, .slice z.grants_.A z.grants_.l.length z.grants_.c, .slice z.stages_.A z.stages_.l.length z.stages_.c, .slice z.log_.A z.log_.l.length z.log_.c] 27)) w3.heap.size 27 [.string y.name_, .int .i64 y.quota_, .int .i64 y.next_, .slice y.sets_.A y.sets_.l.length y.sets_.c, .slice y.grants_.A y.grants_.l.length y.grants_.c, .slice y.stages_.A y.stages_.l.length y.stages_.c, .slice y.log_.A y.log_.l.length y.log_.c] := kY5.alloc _
  clear hw6
  have a0 := kYa.cell 0
  have a1 := kYa.cell 1
  have a2 := kYa.cell 2
  have a3 := kYa.cell 3
  have a4 := kYa.cell 4
  have a5 := kYa.cell 5
  have a6 := kYa.cell 6
  simp only [List.getElem?_cons_zero, List.getElem?_cons_succ] at a0 a1 a2 a3 a4 a5 a6
  go_wp2_with fail
  rw [HW6.out]
  try go_wp2_with fail
  refine HC3.out.mono ?_
  rintro e w7 ⟨⟨r, rfl⟩, hV7, hK7⟩
  clear a0 a1 a2 a3 a4 a5 a6
  have hs67 := hV7.size
  have hB7 : Below w.heap.size w w7 := (hB3.trans (hV36.mono (by omega))).trans (hV7.mono hs2)
  have kT7 : Blk w7 w.heap.size 27 [.string x.name_, .int .i64 x.quota_, .int .i64 x.next_, .slice x.sets_.A x.sets_.l.length x.sets_.c, .slice x.grants_.A x.grants_.l.length x.grants_.c, .slice x.stages_.A x.stages_.l.length x.stages_.c, .slice x.log_.A x.log_.l.length x.log_.c] := by
    refine (hV7.block _ ?_).trans ((hV36.block _ ?_).trans ((hV3.block _ ?_).trans k2))
    · exact k2.lt
    · have := k2.lt; omega
    · exact k2.lt
  have kZ7 : Blk w7 w5.heap.size 27 [.string z.name_, .int .i64 z.quota_, .int .i64 z.next_, .slice z.sets_.A z.sets_.l.length z.sets_.c, .slice z.grants_.A z.grants_.l.length z.grants_.c, .slice z.stages_.A z.stages_.l.length z.stages_.c, .slice z.log_.A z.log_.l.length z.log_.c] := (hK7 _ (by omega) kZ6.lt).trans kZ6
  have hgz : z.Good w7 := hgy.of_own hpz ((hoz.below hV6).stays fun b hb1 hb2 => hK7 b (by omega) hb2)
  have hpx : x.plain = z.plain := (hpz.trans hpy).symm
  have a0 := kT7.cell 0
  have a1 := kT7.cell 1
  have a2 := kT7.cell 2
  have a3 := kT7.cell 3
  have a4 := kT7.cell 4
  have a5 := kT7.cell 5
  have a6 := kT7.cell 6
  simp only [List.getElem?_cons_zero, List.getElem?_cons_succ] at a0 a1 a2 a3 a4 a5 a6
  have b0 := kZ7.cell 0
  have b1 := kZ7.cell 1
  have b2 := kZ7.cell 2
  have b3 := kZ7.cell 3
  have b4 := kZ7.cell 4
  have b5 := kZ7.cell 5
  have b6 := kZ7.cell 6
  simp only [List.getElem?_cons_zero, List.getElem?_cons_succ] at b0 b1 b2 b3 b4 b5 b6
  have HD1 := Lib.hid (refTe z x hpx w7 hgz (hx.below hB7))
  go_wp2_with fail
  refine HD1.out.mono ?_
  rintro e w8 ⟨rfl, hV8⟩
  clear a0 a1 a2 a3 a4 a5 a6 b0 b1 b2 b3 b4 b5 b6
  have kT8 := kT7.of hV8
  have kZ8 := kZ7.of hV8
  have hB8 := hB7.trans (hV8.mono hB7.size)
  have a0 := kT8.cell 0
  have a1 := kT8.cell 1
  have a2 := kT8.cell 2
  have a3 := kT8.cell 3
  have a4 := kT8.cell 4
  have a5 := kT8.cell 5
  have a6 := kT8.cell 6
  simp only [List.getElem?_cons_zero, List.getElem?_cons_succ] at a0 a1 a2 a3 a4 a5 a6
  have b0 := kZ8.cell 0
  have b1 := kZ8.cell 1
  have b2 := kZ8.cell 2
  have b3 := kZ8.cell 3
  have b4 := kZ8.cell 4
  have b5 := kZ8.cell 5
  have b6 := kZ8.cell 6
  simp only [List.getElem?_cons_zero, List.getElem?_cons_succ] at b0 b1 b2 b3 b4 b5 b6
  have HD2 := Lib.hid (sameTe z x hpx w8 (hgz.below hV8) (hx.below hB8))
  go_wp2_with fail
  refine HD2.out.mono ?_
  rintro e w9 ⟨rfl, hV9⟩
  go_wp2
  go_ret
  exact ⟨rfl, hB8.trans (hV9.mono hB8.size)⟩


end Go.Proofs.YtgcncanpgefhjaaGreat
