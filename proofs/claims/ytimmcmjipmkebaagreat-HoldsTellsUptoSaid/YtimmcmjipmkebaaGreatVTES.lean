/-
 The program's Same and the reference's where both are plainly the same. Conditions: they came in or lie as what came in.
-/
import Derived.Test.YtimmcmjipmkebaaGreatVTCU
import Derived.Test.YtimmcmjipmkebaaGreatVEI4
namespace Go.Proofs.YtimmcmjipmkebaaGreat
open Go.ChangeShapes Go.WideShapes Go.ChangeAt Go.RowKit
set_option maxRecDepth 100000
set_option linter.unusedSimpArgs false
theorem refSame_true (A B : Option Addr) (c d : Nat) (l : List Bk) (hl : l.length ≤ 8796093022208) (w : World) (hr : Rd w A (l.flatMap bkC)) (hs : Rd w B (l.flatMap bkC)) : Calls Tryz.prog 26 #[.slice A l.length c, .slice B l.length d] w fun e w' => e = .returned (.bool true) ∧ Below w.heap.size w w' :=
 (refSame_any A B c d _ _ l l rfl rfl hl hl w hr hs).mono fun e w' ⟨he, hB⟩ => ⟨by rw [he]; simp, hB⟩
theorem refG_true (A B : Option Addr) (c d : Nat) (l : List Gr) (hl : l.length * 40 ≤ 140737488351232) (w : World) (hr : Rd w A (l.flatMap grC)) (hs : Rd w B (l.flatMap grC)) : Calls Tryz.prog 53 #[.slice A l.length c, .slice B l.length d] w fun e w' => e = .returned (.bool true) ∧ Below w.heap.size w w' :=
 (refSameG_any A B c d _ _ l l rfl rfl (by omega) (by omega) w hr hs).mono fun e w' ⟨he, hB⟩ => ⟨by rw [he]; simp, hB⟩
theorem refPr_true (A B : Option Addr) (c d : Nat) (l : List Pr) (hl : l.length ≤ 8796093022208) (w : World) (hr : Rd w A (l.flatMap prC)) (hs : Rd w B (l.flatMap prC)) : Calls Tryz.prog 110 #[.slice A l.length c, .slice B l.length d] w fun e w' => e = .returned (.bool true) ∧ Below w.heap.size w w' :=
 (refSameP_any A B c d _ _ l l rfl rfl hl hl w hr hs).mono fun e w' ⟨he, hB⟩ => ⟨by rw [he]; simp, hB⟩
theorem entries_eq : ∀ {a b : List ME_}, a.map ME_.plain = b.map ME_.plain → a = b
 | [], [], _ => rfl
 | [], _ :: _, h => by simp at h
 | _ :: _, [], h => by simp at h
 | x :: a, y :: b, h => by
  simp only [List.map_cons, List.cons.injEq] at h
  obtain ⟨h1, h2⟩ := h
  obtain ⟨e1, e2, e3, e4⟩ := PEntry.eq_iff.1 h1
  have : x = y := by
   obtain ⟨a1, a2, a3, a4⟩ := x
   obtain ⟨b1, b2, b3, b4⟩ := y
   simp only [ME_.plain] at e1 e2 e3 e4
   subst e1 e2 e3 e4
   rfl
  rw [this, entries_eq h2]
set_option maxHeartbeats 4000000
theorem refSn (x y : Mna) (hp : y.plain = x.plain) (w : World) (hx : x.Good w) (hy : y.Good w) :
 Calls Tryz.prog 111 (#[.agg x.cells.toArray, .agg y.cells.toArray]) w fun e w' => e = .returned (.bool true) ∧ Below w.heap.size w w' := by
 obtain ⟨yname_, yguid_, ⟨yAbody_, ylbody_, ycbody_⟩, ⟨yAtags_, yltags_, yctags_⟩, ⟨yAown_, ylown_, ycown_⟩⟩ := y
 obtain ⟨hp0, hp1, hp2, hp3, hp4⟩ := PS_.eq_iff.1 hp
 dsimp only [Mna.plain] at hp0
 dsimp only [Mna.plain] at hp1
 dsimp only [Mna.plain] at hp2
 dsimp only [Mna.plain] at hp3
 dsimp only [Mna.plain] at hp4
 subst hp0
 subst hp1
 subst hp2
 subst hp3
 subst hp4
 have HX := zI hx
 have HY := zI hy
 clear hx hy
 obtain ⟨w1, hw1⟩ : ∃ w1, w.alloc (.cells #[.string x.x_, .int .i64 x.z_, .slice x.p_.A x.p_.l.length x.p_.c, .slice x.u_.A x.u_.l.length x.u_.c, .slice x.j_.A x.j_.l.length x.j_.c] 49) = w1 := ⟨_, rfl⟩
 have hB1 : Below w.heap.size w w1 := hw1 ▸ (Below.refl _ w).alloc (Nat.le_refl _) _
 have k1 : Blk w1 w.heap.size 49 [.string x.x_, .int .i64 x.z_, .slice x.p_.A x.p_.l.length x.p_.c, .slice x.u_.A x.u_.l.length x.u_.c, .slice x.j_.A x.j_.l.length x.j_.c] := hw1 ▸ Blk.new w _ _
 obtain ⟨w2, hw2⟩ : ∃ w2, w1.alloc (.cells #[.string x.x_, .int .i64 x.z_, .slice yAbody_ x.p_.l.length ycbody_, .slice yAtags_ x.u_.l.length yctags_, .slice yAown_ x.j_.l.length ycown_] 49) = w2 := ⟨_, rfl⟩
 have hB2 : Below w1.heap.size w1 w2 := hw2 ▸ (Below.refl _ w1).alloc (Nat.le_refl _) _
 have k2 : Blk w2 w1.heap.size 49 [.string x.x_, .int .i64 x.z_, .slice yAbody_ x.p_.l.length ycbody_, .slice yAtags_ x.u_.l.length yctags_, .slice yAown_ x.j_.l.length ycown_] := hw2 ▸ Blk.new w1 _ _
 have hz : w1.heap.size = w.heap.size + 1 := by rw [← hw1, World.size_alloc]
 rw [hz] at k2
 have hA : Below w.heap.size w w2 := hB1.trans (hB2.mono hB1.size)
 have HK1 := zI (k1.below hB2 k1.lt)
 have HK2 := zI k2
 have HW1 := zI hw1
 have HW2 := zI hw2
 clear k1 k2 hw1 hw2
 have hs0 := hA.size
 have hT0 : Below w2.heap.size w2 w2 := Below.refl _ _
 dsimp only [Mna.cells]
 go_enter Tryz.func111, Tryz.ntmps111
 have a0 := (HK1.out.below hT0 HK1.out.lt).cell 0
 have b0 := (HK2.out.below hT0 HK2.out.lt).cell 0
 have a1 := (HK1.out.below hT0 HK1.out.lt).cell 1
 have b1 := (HK2.out.below hT0 HK2.out.lt).cell 1
 have a3 := (HK1.out.below hT0 HK1.out.lt).cell 3
 have b3 := (HK2.out.below hT0 HK2.out.lt).cell 3
 have a2 := (HK1.out.below hT0 HK1.out.lt).cell 2
 have b2 := (HK2.out.below hT0 HK2.out.lt).cell 2
 simp only [gZa, gZb] at a0 b0 a1 b1 a3 b3 a2 b2
 have H0 := zI (refSame_true _ _ x.p_.c ycbody_ x.p_.l (by have := HX.out.K_.len; omega) w2 (HX.out.K_.rd.below (hA.trans (hT0.mono hs0))) (HY.out.K_.rd.below (hA.trans (hT0.mono hs0))))
 go_wp2_with fail
 rw [HW1.out, HW2.out]
 try go_wp2_with fail
 refine H0.out.mono ?_
 rintro e v0 ⟨rfl, hV0⟩
 have hT1 := hT0.trans (hV0.mono hT0.size)
 clear H0
 clear a0 b0 a1 b1 a3 b3 a2 b2
 have a4 := (HK1.out.below hT1 HK1.out.lt).cell 4
 have b4 := (HK2.out.below hT1 HK2.out.lt).cell 4
 simp only [gZa, gZb] at a4 b4
 have H1 := zI (refPr_true _ _ x.j_.c ycown_ x.j_.l (by have := HX.out.G_.len; omega) v0 (HX.out.G_.rd.below (hA.trans (hT1.mono hs0))) (HY.out.G_.rd.below (hA.trans (hT1.mono hs0))))
 go_wp2_with fail
 refine H1.out.mono ?_
 rintro e v1 ⟨rfl, hV1⟩
 have hT2 := hT1.trans (hV1.mono hT1.size)
 clear H1
 clear a4 b4
 have a3 := (HK1.out.below hT2 HK1.out.lt).cell 3
 have b3 := (HK2.out.below hT2 HK2.out.lt).cell 3
 simp only [gZa, gZb] at a3 b3
 go_wp2
 clear a3 b3
 go_loopw [5] (fun i W => ∃ k : Nat, k ≤ x.u_.l.length ∧ i = .int .i64 k ∧ Below w2.heap.size w2 W) (fun i _ => x.u_.l.length - (intOf i).toNat)
 case atStart => exact ⟨0, Nat.zero_le _, rfl, hT2⟩
 case round =>
  obtain ⟨k, hk, rfl, hB⟩ := hrel
  have hQ : Below w.heap.size w wr := hA.trans (hB.mono hs0)
  have hsr := hB.size
  have hkl : x.u_.l.length ≤ 8796093022208 := by have := HX.out.U_.len; omega
  by_cases hlt : k < x.u_.l.length
  · obtain ⟨z, hz⟩ : ∃ z, x.u_.l[k]? = some z := ⟨_, qZa hlt⟩
    obtain ⟨ba, oa, ea, hba, hc0⟩ := rdT_at (tagsRd (HX.out.U_.rd.below hQ)) hz
    obtain ⟨bb, ob, eb, hbb, hd0⟩ := rdT_at (tagsRd (HY.out.U_.rd.below hQ)) hz
    have a3 := (HK1.out.below hB HK1.out.lt).cell 3
    have b3 := (HK2.out.below hB HK2.out.lt).cell 3
    simp only [gZa, gZb] at a3 b3
    dsimp only at eb
    rw [ea] at a3
    rw [eb] at b3
    clear hz ea eb
    go_wp2_with (go_quiet (fail))
    go_round
    case rel => exact ⟨k + 1, by omega, by go_num, hB.trans (zaX _ _ _)⟩
    case measure => simp [intOf]; omega
  · have hk9 := hk
    have a3 := (HK1.out.below hB HK1.out.lt).cell 3
    have b3 := (HK2.out.below hB HK2.out.lt).cell 3
    simp only [gZa, gZb] at a3 b3
    go_wp2
    go_ret
    exact ⟨rfl, hQ⟩
theorem refSe (x y : MSet) (hp : y.plain = x.plain) (w : World) (hx : x.Good w) (hy : y.Good w) :
 Calls Tryz.prog 55 (#[.agg x.cells.toArray, .agg y.cells.toArray]) w fun e w' => e = .returned (.bool true) ∧ Below w.heap.size w w' := by
 obtain ⟨ypath_, yorigin_, ⟨yAbody_, ylbody_, ycbody_⟩, ⟨yAsnaps_, ylsnaps_, ycsnaps_⟩, ⟨yAown_, ylown_, ycown_⟩⟩ := y
 obtain ⟨hp0, hp1, hp2, hp3, hp4⟩ := PSet.eq_iff.1 hp
 dsimp only [MSet.plain] at hp0
 dsimp only [MSet.plain] at hp1
 dsimp only [MSet.plain] at hp2
 dsimp only [MSet.plain] at hp3
 dsimp only [MSet.plain] at hp4
 subst hp0
 subst hp1
 subst hp2
 have hmsnaps_ : ylsnaps_.length = x.n_.l.length := map_len hp3
 subst hp4
 have HX := zI hx
 have HY := zI hy
 clear hx hy
 obtain ⟨w1, hw1⟩ : ∃ w1, w.alloc (.cells #[.string x.l_, .string x.m_, .slice x.p_.A x.p_.l.length x.p_.c, .slice x.n_.A x.n_.l.length x.n_.c, .slice x.j_.A x.j_.l.length x.j_.c] 52) = w1 := ⟨_, rfl⟩
 have hB1 : Below w.heap.size w w1 := hw1 ▸ (Below.refl _ w).alloc (Nat.le_refl _) _
 have k1 : Blk w1 w.heap.size 52 [.string x.l_, .string x.m_, .slice x.p_.A x.p_.l.length x.p_.c, .slice x.n_.A x.n_.l.length x.n_.c, .slice x.j_.A x.j_.l.length x.j_.c] := hw1 ▸ Blk.new w _ _
 obtain ⟨w2, hw2⟩ : ∃ w2, w1.alloc (.cells #[.string x.l_, .string x.m_, .slice yAbody_ x.p_.l.length ycbody_, .slice yAsnaps_ x.n_.l.length ycsnaps_, .slice yAown_ x.j_.l.length ycown_] 52) = w2 := ⟨_, rfl⟩
 have hB2 : Below w1.heap.size w1 w2 := hw2 ▸ (Below.refl _ w1).alloc (Nat.le_refl _) _
 have k2 : Blk w2 w1.heap.size 52 [.string x.l_, .string x.m_, .slice yAbody_ x.p_.l.length ycbody_, .slice yAsnaps_ x.n_.l.length ycsnaps_, .slice yAown_ x.j_.l.length ycown_] := hw2 ▸ Blk.new w1 _ _
 have hz : w1.heap.size = w.heap.size + 1 := by rw [← hw1, World.size_alloc]
 rw [hz] at k2
 have hA : Below w.heap.size w w2 := hB1.trans (hB2.mono hB1.size)
 have HK1 := zI (k1.below hB2 k1.lt)
 have HK2 := zI k2
 have HW1 := zI hw1
 have HW2 := zI hw2
 clear k1 k2 hw1 hw2
 have hs0 := hA.size
 have hT0 : Below w2.heap.size w2 w2 := Below.refl _ _
 dsimp only [MSet.cells]
 rw [hmsnaps_]
 go_enter Tryz.func55, Tryz.ntmps55
 have a0 := (HK1.out.below hT0 HK1.out.lt).cell 0
 have b0 := (HK2.out.below hT0 HK2.out.lt).cell 0
 have a1 := (HK1.out.below hT0 HK1.out.lt).cell 1
 have b1 := (HK2.out.below hT0 HK2.out.lt).cell 1
 have a3 := (HK1.out.below hT0 HK1.out.lt).cell 3
 have b3 := (HK2.out.below hT0 HK2.out.lt).cell 3
 have a2 := (HK1.out.below hT0 HK1.out.lt).cell 2
 have b2 := (HK2.out.below hT0 HK2.out.lt).cell 2
 simp only [gZa, gZb] at a0 b0 a1 b1 a3 b3 a2 b2
 have H0 := zI (refSame_true _ _ x.p_.c ycbody_ x.p_.l (by have := HX.out.K_.len; omega) w2 (HX.out.K_.rd.below (hA.trans (hT0.mono hs0))) (HY.out.K_.rd.below (hA.trans (hT0.mono hs0))))
 go_wp2_with fail
 rw [HW1.out, HW2.out]
 try go_wp2_with fail
 refine H0.out.mono ?_
 rintro e v0 ⟨rfl, hV0⟩
 have hT1 := hT0.trans (hV0.mono hT0.size)
 clear H0
 clear a0 b0 a1 b1 a3 b3 a2 b2
 have a4 := (HK1.out.below hT1 HK1.out.lt).cell 4
 have b4 := (HK2.out.below hT1 HK2.out.lt).cell 4
 simp only [gZa, gZb] at a4 b4
 have H1 := zI (refPr_true _ _ x.j_.c ycown_ x.j_.l (by have := HX.out.G_.len; omega) v0 (HX.out.G_.rd.below (hA.trans (hT1.mono hs0))) (HY.out.G_.rd.below (hA.trans (hT1.mono hs0))))
 go_wp2_with fail
 refine H1.out.mono ?_
 rintro e v1 ⟨rfl, hV1⟩
 have hT2 := hT1.trans (hV1.mono hT1.size)
 clear H1
 clear a4 b4
 have a3 := (HK1.out.below hT2 HK1.out.lt).cell 3
 have b3 := (HK2.out.below hT2 HK2.out.lt).cell 3
 simp only [gZa, gZb] at a3 b3
 go_wp2
 clear a3 b3
 go_loopw [5] (fun i W => ∃ k : Nat, k ≤ x.n_.l.length ∧ i = .int .i64 k ∧ Below w2.heap.size w2 W) (fun i _ => x.n_.l.length - (intOf i).toNat)
 case atStart => exact ⟨0, Nat.zero_le _, rfl, hT2⟩
 case round =>
  obtain ⟨k, hk, rfl, hB⟩ := hrel
  have hQ : Below w.heap.size w wr := hA.trans (hB.mono hs0)
  have hsr := hB.size
  have hkl : x.n_.l.length ≤ 8796093022208 := by have := HX.out.f_.len; omega
  by_cases hlt : k < x.n_.l.length
  · obtain ⟨z, hz⟩ : ∃ z, x.n_.l[k]? = some z := ⟨_, qZa hlt⟩
    have hlt2 : k < ylsnaps_.length := hmsnaps_ ▸ hlt
    obtain ⟨u, hu⟩ : ∃ u, ylsnaps_[k]? = some u := ⟨_, qZa hlt2⟩
    obtain ⟨ba, oa, ea, hba, hc⟩ := Rd.elem (n := 5) (fun _ => rfl) (by omega) (HX.out.f_.rd.below hQ) hz
    obtain ⟨bb, ob, eb, hbb, hd⟩ := Rd.elem (n := 5) (fun _ => rfl) (by omega) (HY.out.f_.rd.below hQ) hu
    have a3 := (HK1.out.below hB HK1.out.lt).cell 3
    have b3 := (HK2.out.below hB HK2.out.lt).cell 3
    simp only [gZa, gZb] at a3 b3
    dsimp only at eb
    rw [ea] at a3
    rw [eb] at b3
    have c0 : wr.cell? ⟨ba, oa + k * 5, none⟩ = some (.string z.x_) := hc 0 _ rfl
    have d0 : wr.cell? ⟨bb, ob + k * 5, none⟩ = some (.string u.x_) := hd 0 _ rfl
    have c1 : wr.cell? ⟨ba, oa + k * 5 + 1, none⟩ = some (.int .i64 z.z_) := hc 1 _ rfl
    have d1 : wr.cell? ⟨bb, ob + k * 5 + 1, none⟩ = some (.int .i64 u.z_) := hd 1 _ rfl
    have c2 : wr.cell? ⟨ba, oa + k * 5 + 2, none⟩ = some (.slice z.p_.A z.p_.l.length z.p_.c) := hc 2 _ rfl
    have d2 : wr.cell? ⟨bb, ob + k * 5 + 2, none⟩ = some (.slice u.p_.A u.p_.l.length u.p_.c) := hd 2 _ rfl
    have c3 : wr.cell? ⟨ba, oa + k * 5 + 3, none⟩ = some (.slice z.u_.A z.u_.l.length z.u_.c) := hc 3 _ rfl
    have d3 : wr.cell? ⟨bb, ob + k * 5 + 3, none⟩ = some (.slice u.u_.A u.u_.l.length u.u_.c) := hd 3 _ rfl
    have c4 : wr.cell? ⟨ba, oa + k * 5 + 4, none⟩ = some (.slice z.j_.A z.j_.l.length z.j_.c) := hc 4 _ rfl
    have d4 : wr.cell? ⟨bb, ob + k * 5 + 4, none⟩ = some (.slice u.j_.A u.j_.l.length u.j_.c) := hd 4 _ rfl
    have HST := zI (fun W (hW : Below w2.heap.size w2 W) => refSn z u (map_at hp3 hz hu) W ((HX.out.f_.el z (mG hz)).below (hA.trans (hW.mono hs0))) ((HY.out.f_.el u (mG hu)).below (hA.trans (hW.mono hs0))))
    have hlz1 : w.heap.size < wr.heap.size := (HK1.out.below hB HK1.out.lt).lt
    have hlz2 : w.heap.size + 1 < wr.heap.size := (HK2.out.below hB HK2.out.lt).lt
    clear hc hd hz hu hlt2 ea eb
    go_upto_region 6 with fail
    refine wp_region_noPanic ?_
    refine zcX 11 (fun W => W.cell? ⟨w.heap.size, 3, none⟩ = some (.slice (some ⟨ba, oa, none⟩) x.n_.l.length x.n_.c) ∧ W.cell? ⟨w.heap.size + 1, 3, none⟩ = some (.slice (some ⟨bb, ob, none⟩) x.n_.l.length ycsnaps_) ∧ W.cell? ⟨ba, oa + k * 5, none⟩ = some (.string z.x_) ∧ W.cell? ⟨ba, oa + k * 5 + 1, none⟩ = some (.int .i64 z.z_) ∧ W.cell? ⟨ba, oa + k * 5 + 2, none⟩ = some (.slice z.p_.A z.p_.l.length z.p_.c) ∧ W.cell? ⟨ba, oa + k * 5 + 3, none⟩ = some (.slice z.u_.A z.u_.l.length z.u_.c) ∧ W.cell? ⟨ba, oa + k * 5 + 4, none⟩ = some (.slice z.j_.A z.j_.l.length z.j_.c) ∧ W.cell? ⟨bb, ob + k * 5, none⟩ = some (.string u.x_) ∧ W.cell? ⟨bb, ob + k * 5 + 1, none⟩ = some (.int .i64 u.z_) ∧ W.cell? ⟨bb, ob + k * 5 + 2, none⟩ = some (.slice u.p_.A u.p_.l.length u.p_.c) ∧ W.cell? ⟨bb, ob + k * 5 + 3, none⟩ = some (.slice u.u_.A u.u_.l.length u.u_.c) ∧ W.cell? ⟨bb, ob + k * 5 + 4, none⟩ = some (.slice u.j_.A u.j_.l.length u.j_.c)) (by kernel_rfl) ⟨a3, b3, c0, c1, c2, c3, c4, d0, d1, d2, d3, d4⟩ (fun hHeld => ?_)
    refine tkA 12 (i := 0) (oi := ⟨some 50, _, _, _, _, _⟩) rfl hHeld ?_
    try simp only [zP]
    refine tkA 12 (i := 1) (oi := ⟨some 51, _, _, _, _, _⟩) rfl hHeld ?_
    try simp only [zP]
    refine tkA 12 (i := 2) (oi := ⟨some 52, _, _, _, _, _⟩) rfl hHeld ?_
    try simp only [zP]
    refine tkA 12 (i := 3) (oi := ⟨some 53, _, _, _, _, _⟩) rfl hHeld ?_
    try simp only [zP]
    refine tkA 12 (i := 4) (oi := ⟨some 54, _, _, _, _, _⟩) rfl hHeld ?_
    try simp only [zP]
    refine tkA 12 (i := 5) (oi := ⟨some 55, _, _, _, _, _⟩) rfl hHeld ?_
    try simp only [zP]
    refine tkA 12 (i := 6) (oi := ⟨some 56, _, _, _, _, _⟩) rfl hHeld ?_
    try simp only [zP]
    refine tkA 12 (i := 7) (oi := ⟨some 57, _, _, _, _, _⟩) rfl hHeld ?_
    try simp only [zP]
    refine tkA 12 (i := 8) (oi := ⟨some 58, _, _, _, _, _⟩) rfl hHeld ?_
    try simp only [zP]
    refine tkA 12 (i := 9) (oi := ⟨some 59, _, _, _, _, _⟩) rfl hHeld ?_
    try simp only [zP]
    refine zdX (i := 10) (o := ⟨some 60, _, _, _, _, _⟩) (by kernel_rfl) rfl (fun K hK => ?_)
    clear hHeld
    go_simp
    refine (HST.out _ (hB.trans (zaX wr 1 _))).mono ?_
    rintro e w3 ⟨rfl, hB3⟩
    go_wp2_with fail
    refine hK.out _ _ ⟨(hB3.cell (p := ⟨w.heap.size, 3, none⟩) hlz1).trans a3, (hB3.cell (p := ⟨w.heap.size + 1, 3, none⟩) hlz2).trans b3, (hB3.cell (p := ⟨ba, oa + k * 5, none⟩) hba).trans c0, (hB3.cell (p := ⟨ba, oa + k * 5 + 1, none⟩) hba).trans c1, (hB3.cell (p := ⟨ba, oa + k * 5 + 2, none⟩) hba).trans c2, (hB3.cell (p := ⟨ba, oa + k * 5 + 3, none⟩) hba).trans c3, (hB3.cell (p := ⟨ba, oa + k * 5 + 4, none⟩) hba).trans c4, (hB3.cell (p := ⟨bb, ob + k * 5, none⟩) hbb).trans d0, (hB3.cell (p := ⟨bb, ob + k * 5 + 1, none⟩) hbb).trans d1, (hB3.cell (p := ⟨bb, ob + k * 5 + 2, none⟩) hbb).trans d2, (hB3.cell (p := ⟨bb, ob + k * 5 + 3, none⟩) hbb).trans d3, (hB3.cell (p := ⟨bb, ob + k * 5 + 4, none⟩) hbb).trans d4⟩ (fun hHeld => ?_)
    clear hK K
    try simp only [zP]
    refine zcZ (i := 11) (o := ⟨some 61, _, _, _, _, _⟩) (by kernel_rfl) rfl (by kernel_rfl) (fun K hK => ?_)
    clear hHeld
    go_simp
    refine hK.out _ _ ?_
    clear hK K
    try simp only [zP]
    refine zdQ (by kernel_rfl) ?_ _
    refine NoPanic.normal ?_
    have hQ3 : Below w2.heap.size w2 w3 := (hB.trans (zaX wr 1 _)).trans (hB3.mono hB.size)
    go_wp2
    go_roundw
    case rel => exact ⟨k + 1, by omega, by go_num, hQ3⟩
    case measure => simp [intOf]; omega
  · have hk9 := hk
    have a3 := (HK1.out.below hB HK1.out.lt).cell 3
    have b3 := (HK2.out.below hB HK2.out.lt).cell 3
    simp only [gZa, gZb] at a3 b3
    go_wp2
    go_ret
    exact ⟨rfl, hQ⟩
theorem refRe (x y : MR_) (hp : y.plain = x.plain) (w : World) (hx : x.Good w) (hy : y.Good w) :
 Calls Tryz.prog 112 (#[.agg x.cells.toArray, .agg y.cells.toArray]) w fun e w' => e = .returned (.bool true) ∧ Below w.heap.size w w' := by
 obtain ⟨ykind_, yname_, yfrom_, yguid_, ⟨yAown_, ylown_, ycown_⟩, yindex_, ycount_, ydata_, ⟨ysum_a, ysum_b, ysum_c, ysum_d⟩⟩ := y
 obtain ⟨hp0, hp1, hp2, hp3, hp4, hp5, hp6, hp7, hp8⟩ := PRecord.eq_iff.1 hp
 dsimp only [MR_.plain] at hp0
 dsimp only [MR_.plain] at hp1
 dsimp only [MR_.plain] at hp2
 dsimp only [MR_.plain] at hp3
 dsimp only [MR_.plain] at hp4
 dsimp only [MR_.plain] at hp5
 dsimp only [MR_.plain] at hp6
 dsimp only [MR_.plain] at hp7
 dsimp only [MR_.plain] at hp8
 subst hp0
 subst hp1
 subst hp2
 subst hp3
 subst hp4
 subst hp5
 subst hp6
 subst hp7
 obtain ⟨hp8a, hp8b, hp8c, hp8d⟩ := PSum.eq_iff.1 hp8
 dsimp only [MSum.plain] at hp8a
 subst hp8a
 dsimp only [MSum.plain] at hp8b
 subst hp8b
 dsimp only [MSum.plain] at hp8c
 subst hp8c
 dsimp only [MSum.plain] at hp8d
 subst hp8d
 have HX := zI hx
 have HY := zI hy
 clear hx hy
 obtain ⟨w1, hw1⟩ : ∃ w1, w.alloc (.cells #[.int .i64 x.N_, .string x.x_, .int .i64 x.from_, .int .i64 x.z_, .slice x.j_.A x.j_.l.length x.j_.c, .int .i64 x.E_, .int .i64 x.Y_, .string x.P_, .int .u64 x.T_.a_, .int .u64 x.T_.b_, .int .u64 x.T_.c_, .int .u64 x.T_.d_] 89) = w1 := ⟨_, rfl⟩
 have hB1 : Below w.heap.size w w1 := hw1 ▸ (Below.refl _ w).alloc (Nat.le_refl _) _
 have k1 : Blk w1 w.heap.size 89 [.int .i64 x.N_, .string x.x_, .int .i64 x.from_, .int .i64 x.z_, .slice x.j_.A x.j_.l.length x.j_.c, .int .i64 x.E_, .int .i64 x.Y_, .string x.P_, .int .u64 x.T_.a_, .int .u64 x.T_.b_, .int .u64 x.T_.c_, .int .u64 x.T_.d_] := hw1 ▸ Blk.new w _ _
 obtain ⟨w2, hw2⟩ : ∃ w2, w1.alloc (.cells #[.int .i64 x.N_, .string x.x_, .int .i64 x.from_, .int .i64 x.z_, .slice yAown_ x.j_.l.length ycown_, .int .i64 x.E_, .int .i64 x.Y_, .string x.P_, .int .u64 x.T_.a_, .int .u64 x.T_.b_, .int .u64 x.T_.c_, .int .u64 x.T_.d_] 89) = w2 := ⟨_, rfl⟩
 have hB2 : Below w1.heap.size w1 w2 := hw2 ▸ (Below.refl _ w1).alloc (Nat.le_refl _) _
 have k2 : Blk w2 w1.heap.size 89 [.int .i64 x.N_, .string x.x_, .int .i64 x.from_, .int .i64 x.z_, .slice yAown_ x.j_.l.length ycown_, .int .i64 x.E_, .int .i64 x.Y_, .string x.P_, .int .u64 x.T_.a_, .int .u64 x.T_.b_, .int .u64 x.T_.c_, .int .u64 x.T_.d_] := hw2 ▸ Blk.new w1 _ _
 have hz : w1.heap.size = w.heap.size + 1 := by rw [← hw1, World.size_alloc]
 rw [hz] at k2
 have hA : Below w.heap.size w w2 := hB1.trans (hB2.mono hB1.size)
 have HK1 := zI (k1.below hB2 k1.lt)
 have HK2 := zI k2
 have HW1 := zI hw1
 have HW2 := zI hw2
 clear k1 k2 hw1 hw2
 have hs0 := hA.size
 have hT0 : Below w2.heap.size w2 w2 := Below.refl _ _
 dsimp only [MR_.cells]
 go_enter Tryz.func112, Tryz.ntmps112
 have a0 := (HK1.out.below hT0 HK1.out.lt).cell 0
 have b0 := (HK2.out.below hT0 HK2.out.lt).cell 0
 have a1 := (HK1.out.below hT0 HK1.out.lt).cell 1
 have b1 := (HK2.out.below hT0 HK2.out.lt).cell 1
 have a2 := (HK1.out.below hT0 HK1.out.lt).cell 2
 have b2 := (HK2.out.below hT0 HK2.out.lt).cell 2
 have a3 := (HK1.out.below hT0 HK1.out.lt).cell 3
 have b3 := (HK2.out.below hT0 HK2.out.lt).cell 3
 have a4 := (HK1.out.below hT0 HK1.out.lt).cell 4
 have b4 := (HK2.out.below hT0 HK2.out.lt).cell 4
 have a5 := (HK1.out.below hT0 HK1.out.lt).cell 5
 have b5 := (HK2.out.below hT0 HK2.out.lt).cell 5
 have a6 := (HK1.out.below hT0 HK1.out.lt).cell 6
 have b6 := (HK2.out.below hT0 HK2.out.lt).cell 6
 have a7 := (HK1.out.below hT0 HK1.out.lt).cell 7
 have b7 := (HK2.out.below hT0 HK2.out.lt).cell 7
 have a8 := (HK1.out.below hT0 HK1.out.lt).cell 8
 have b8 := (HK2.out.below hT0 HK2.out.lt).cell 8
 have a9 := (HK1.out.below hT0 HK1.out.lt).cell 9
 have b9 := (HK2.out.below hT0 HK2.out.lt).cell 9
 have a10 := (HK1.out.below hT0 HK1.out.lt).cell 10
 have b10 := (HK2.out.below hT0 HK2.out.lt).cell 10
 have a11 := (HK1.out.below hT0 HK1.out.lt).cell 11
 have b11 := (HK2.out.below hT0 HK2.out.lt).cell 11
 have a12 := (HK1.out.below hT0 HK1.out.lt).cell 12
 have b12 := (HK2.out.below hT0 HK2.out.lt).cell 12
 simp only [gZa, gZb] at a0 b0 a1 b1 a2 b2 a3 b3 a4 b4 a5 b5 a6 b6 a7 b7 a8 b8 a9 b9 a10 b10 a11 b11 a12 b12
 have H0 := zI (refPr_true _ _ x.j_.c ycown_ x.j_.l (by have := HX.out.G_.len; omega) w2 (HX.out.G_.rd.below (hA.trans (hT0.mono hs0))) (HY.out.G_.rd.below (hA.trans (hT0.mono hs0))))
 go_wp2_with fail
 rw [HW1.out, HW2.out]
 try go_wp2_with fail
 refine H0.out.mono ?_
 rintro e v0 ⟨rfl, hV0⟩
 have hT1 := hT0.trans (hV0.mono hT0.size)
 clear H0
 clear a0 b0 a1 b1 a2 b2 a3 b3 a4 b4 a5 b5 a6 b6 a7 b7 a8 b8 a9 b9 a10 b10 a11 b11 a12 b12
 go_wp2
 go_ret
 exact ⟨rfl, hA.trans (hT1.mono hs0)⟩
set_option maxHeartbeats 4000000 in
theorem refSt (x y : Mta) (hp : y.plain = x.plain) (w : World) (hx : x.Good w) (hy : y.Good w) :
 Calls Tryz.prog 56 (#[.agg x.cells.toArray, .agg y.cells.toArray]) w fun e w' => e = .returned (.bool true) ∧ Below w.heap.size w w' := by
 obtain ⟨yinto_, ⟨rkind_, rname_, rfrom_, rguid_, ⟨rAown_, rlown_, rcown_⟩, rindex_, rcount_, rdata_, ⟨rsum_a, rsum_b, rsum_c, rsum_d⟩⟩, ⟨yAbody_, ylbody_, ycbody_⟩, yat_, ynext_, ⟨ysum_a, ysum_b, ysum_c, ysum_d⟩, ydone_⟩ := y
 obtain ⟨hp0, hp1, hp2, hp3, hp4, hp5, hp6⟩ := PStage.eq_iff.1 hp
 dsimp only [Mta.plain] at hp0
 dsimp only [Mta.plain] at hp1
 dsimp only [Mta.plain] at hp2
 dsimp only [Mta.plain] at hp3
 dsimp only [Mta.plain] at hp4
 dsimp only [Mta.plain] at hp5
 dsimp only [Mta.plain] at hp6
 subst hp0
 obtain ⟨hp10, hp11, hp12, hp13, hp14, hp15, hp16, hp17, hp18⟩ := PRecord.eq_iff.1 hp1
 dsimp only [MR_.plain] at hp10
 dsimp only [MR_.plain] at hp11
 dsimp only [MR_.plain] at hp12
 dsimp only [MR_.plain] at hp13
 dsimp only [MR_.plain] at hp14
 dsimp only [MR_.plain] at hp15
 dsimp only [MR_.plain] at hp16
 dsimp only [MR_.plain] at hp17
 dsimp only [MR_.plain] at hp18
 subst hp10
 subst hp11
 subst hp12
 subst hp13
 subst hp14
 subst hp15
 subst hp16
 subst hp17
 obtain ⟨hp18a, hp18b, hp18c, hp18d⟩ := PSum.eq_iff.1 hp18
 dsimp only [MSum.plain] at hp18a
 subst hp18a
 dsimp only [MSum.plain] at hp18b
 subst hp18b
 dsimp only [MSum.plain] at hp18c
 subst hp18c
 dsimp only [MSum.plain] at hp18d
 subst hp18d
 subst hp2
 subst hp3
 subst hp4
 obtain ⟨hp5a, hp5b, hp5c, hp5d⟩ := PSum.eq_iff.1 hp5
 dsimp only [MSum.plain] at hp5a
 subst hp5a
 dsimp only [MSum.plain] at hp5b
 subst hp5b
 dsimp only [MSum.plain] at hp5c
 subst hp5c
 dsimp only [MSum.plain] at hp5d
 subst hp5d
 subst hp6
 have HX := zI hx
 have HY := zI hy
 clear hx hy
 obtain ⟨w1, hw1⟩ : ∃ w1, w.alloc (.cells #[.string x.S_, .int .i64 x.o_.N_, .string x.o_.x_, .int .i64 x.o_.from_, .int .i64 x.o_.z_, .slice x.o_.j_.A x.o_.j_.l.length x.o_.j_.c, .int .i64 x.o_.E_, .int .i64 x.o_.Y_, .string x.o_.P_, .int .u64 x.o_.T_.a_, .int .u64 x.o_.T_.b_, .int .u64 x.o_.T_.c_, .int .u64 x.o_.T_.d_, .slice x.p_.A x.p_.l.length x.p_.c, .int .i64 x.at_, .int .i64 x.v_, .int .u64 x.T_.a_, .int .u64 x.T_.b_, .int .u64 x.T_.c_, .int .u64 x.T_.d_, .bool x.done_] 91) = w1 := ⟨_, rfl⟩
 have hB1 : Below w.heap.size w w1 := hw1 ▸ (Below.refl _ w).alloc (Nat.le_refl _) _
 have k1 : Blk w1 w.heap.size 91 [.string x.S_, .int .i64 x.o_.N_, .string x.o_.x_, .int .i64 x.o_.from_, .int .i64 x.o_.z_, .slice x.o_.j_.A x.o_.j_.l.length x.o_.j_.c, .int .i64 x.o_.E_, .int .i64 x.o_.Y_, .string x.o_.P_, .int .u64 x.o_.T_.a_, .int .u64 x.o_.T_.b_, .int .u64 x.o_.T_.c_, .int .u64 x.o_.T_.d_, .slice x.p_.A x.p_.l.length x.p_.c, .int .i64 x.at_, .int .i64 x.v_, .int .u64 x.T_.a_, .int .u64 x.T_.b_, .int .u64 x.T_.c_, .int .u64 x.T_.d_, .bool x.done_] := hw1 ▸ Blk.new w _ _
 obtain ⟨w2, hw2⟩ : ∃ w2, w1.alloc (.cells #[.string x.S_, .int .i64 x.o_.N_, .string x.o_.x_, .int .i64 x.o_.from_, .int .i64 x.o_.z_, .slice rAown_ x.o_.j_.l.length rcown_, .int .i64 x.o_.E_, .int .i64 x.o_.Y_, .string x.o_.P_, .int .u64 x.o_.T_.a_, .int .u64 x.o_.T_.b_, .int .u64 x.o_.T_.c_, .int .u64 x.o_.T_.d_, .slice yAbody_ x.p_.l.length ycbody_, .int .i64 x.at_, .int .i64 x.v_, .int .u64 x.T_.a_, .int .u64 x.T_.b_, .int .u64 x.T_.c_, .int .u64 x.T_.d_, .bool x.done_] 91) = w2 := ⟨_, rfl⟩
 have hB2 : Below w1.heap.size w1 w2 := hw2 ▸ (Below.refl _ w1).alloc (Nat.le_refl _) _
 have k2 : Blk w2 w1.heap.size 91 [.string x.S_, .int .i64 x.o_.N_, .string x.o_.x_, .int .i64 x.o_.from_, .int .i64 x.o_.z_, .slice rAown_ x.o_.j_.l.length rcown_, .int .i64 x.o_.E_, .int .i64 x.o_.Y_, .string x.o_.P_, .int .u64 x.o_.T_.a_, .int .u64 x.o_.T_.b_, .int .u64 x.o_.T_.c_, .int .u64 x.o_.T_.d_, .slice yAbody_ x.p_.l.length ycbody_, .int .i64 x.at_, .int .i64 x.v_, .int .u64 x.T_.a_, .int .u64 x.T_.b_, .int .u64 x.T_.c_, .int .u64 x.T_.d_, .bool x.done_] := hw2 ▸ Blk.new w1 _ _
 have hz : w1.heap.size = w.heap.size + 1 := by rw [← hw1, World.size_alloc]
 rw [hz] at k2
 have hA : Below w.heap.size w w2 := hB1.trans (hB2.mono hB1.size)
 have HK1 := zI (k1.below hB2 k1.lt)
 have HK2 := zI k2
 have HW1 := zI hw1
 have HW2 := zI hw2
 clear k1 k2 hw1 hw2
 have hs0 := hA.size
 have hT0 : Below w2.heap.size w2 w2 := Below.refl _ _
 dsimp only [Mta.cells]
 go_enter Tryz.func56, Tryz.ntmps56
 have a0 := (HK1.out.below hT0 HK1.out.lt).cell 0
 have b0 := (HK2.out.below hT0 HK2.out.lt).cell 0
 have a1 := (HK1.out.below hT0 HK1.out.lt).cell 1
 have b1 := (HK2.out.below hT0 HK2.out.lt).cell 1
 have a2 := (HK1.out.below hT0 HK1.out.lt).cell 2
 have b2 := (HK2.out.below hT0 HK2.out.lt).cell 2
 have a3 := (HK1.out.below hT0 HK1.out.lt).cell 3
 have b3 := (HK2.out.below hT0 HK2.out.lt).cell 3
 have a4 := (HK1.out.below hT0 HK1.out.lt).cell 4
 have b4 := (HK2.out.below hT0 HK2.out.lt).cell 4
 have a5 := (HK1.out.below hT0 HK1.out.lt).cell 5
 have b5 := (HK2.out.below hT0 HK2.out.lt).cell 5
 have a6 := (HK1.out.below hT0 HK1.out.lt).cell 6
 have b6 := (HK2.out.below hT0 HK2.out.lt).cell 6
 have a7 := (HK1.out.below hT0 HK1.out.lt).cell 7
 have b7 := (HK2.out.below hT0 HK2.out.lt).cell 7
 have a8 := (HK1.out.below hT0 HK1.out.lt).cell 8
 have b8 := (HK2.out.below hT0 HK2.out.lt).cell 8
 have a9 := (HK1.out.below hT0 HK1.out.lt).cell 9
 have b9 := (HK2.out.below hT0 HK2.out.lt).cell 9
 have a10 := (HK1.out.below hT0 HK1.out.lt).cell 10
 have b10 := (HK2.out.below hT0 HK2.out.lt).cell 10
 have a11 := (HK1.out.below hT0 HK1.out.lt).cell 11
 have b11 := (HK2.out.below hT0 HK2.out.lt).cell 11
 have a12 := (HK1.out.below hT0 HK1.out.lt).cell 12
 have b12 := (HK2.out.below hT0 HK2.out.lt).cell 12
 simp only [gZa, gZb] at a0 b0 a1 b1 a2 b2 a3 b3 a4 b4 a5 b5 a6 b6 a7 b7 a8 b8 a9 b9 a10 b10 a11 b11 a12 b12
 have H0 := zI (refRe x.o_ ⟨x.o_.N_, x.o_.x_, x.o_.from_, x.o_.z_, ⟨rAown_, x.o_.j_.l, rcown_⟩, x.o_.E_, x.o_.Y_, x.o_.P_, ⟨x.o_.T_.a_, x.o_.T_.b_, x.o_.T_.c_, x.o_.T_.d_⟩⟩ rfl w2 (HX.out.X_.below (hA.trans (hT0.mono hs0))) (HY.out.X_.below (hA.trans (hT0.mono hs0))))
 go_wp2_with fail
 rw [HW1.out, HW2.out]
 try go_wp2_with fail
 refine H0.out.mono ?_
 rintro e v0 ⟨rfl, hV0⟩
 have hT1 := hT0.trans (hV0.mono hT0.size)
 clear H0
 clear a0 b0 a1 b1 a2 b2 a3 b3 a4 b4 a5 b5 a6 b6 a7 b7 a8 b8 a9 b9 a10 b10 a11 b11 a12 b12
 have a13 := (HK1.out.below hT1 HK1.out.lt).cell 13
 have b13 := (HK2.out.below hT1 HK2.out.lt).cell 13
 simp only [gZa, gZb] at a13 b13
 have H1 := zI (refSame_true _ _ x.p_.c ycbody_ x.p_.l (by have := HX.out.K_.len; omega) v0 (HX.out.K_.rd.below (hA.trans (hT1.mono hs0))) (HY.out.K_.rd.below (hA.trans (hT1.mono hs0))))
 go_wp2_with fail
 refine H1.out.mono ?_
 rintro e v1 ⟨rfl, hV1⟩
 have hT2 := hT1.trans (hV1.mono hT1.size)
 clear H1
 clear a13 b13
 have a14 := (HK1.out.below hT2 HK1.out.lt).cell 14
 have b14 := (HK2.out.below hT2 HK2.out.lt).cell 14
 have a15 := (HK1.out.below hT2 HK1.out.lt).cell 15
 have b15 := (HK2.out.below hT2 HK2.out.lt).cell 15
 have a16 := (HK1.out.below hT2 HK1.out.lt).cell 16
 have b16 := (HK2.out.below hT2 HK2.out.lt).cell 16
 have a17 := (HK1.out.below hT2 HK1.out.lt).cell 17
 have b17 := (HK2.out.below hT2 HK2.out.lt).cell 17
 have a18 := (HK1.out.below hT2 HK1.out.lt).cell 18
 have b18 := (HK2.out.below hT2 HK2.out.lt).cell 18
 have a19 := (HK1.out.below hT2 HK1.out.lt).cell 19
 have b19 := (HK2.out.below hT2 HK2.out.lt).cell 19
 have a20 := (HK1.out.below hT2 HK1.out.lt).cell 20
 have b20 := (HK2.out.below hT2 HK2.out.lt).cell 20
 simp only [gZa, gZb] at a14 b14 a15 b15 a16 b16 a17 b17 a18 b18 a19 b19 a20 b20
 go_wp2
 go_ret
 exact ⟨rfl, hA.trans (hT2.mono hs0)⟩
end Go.Proofs.YtimmcmjipmkebaaGreat
namespace Go.Proofs.YtimmcmjipmkebaaGreat
open Go.ChangeShapes Go.WideShapes Go.ChangeAt Go.RowKit
set_option maxRecDepth 100000
set_option linter.unusedSimpArgs false
attribute [-go_sem] loadCellsFrom
set_option maxHeartbeats 4000000 in
theorem refTe (x y : MT_) (hp : y.plain = x.plain) (w : World) (hx : x.Good w) (hy : y.Good w) :
 Calls Tryz.prog 16 (#[.agg x.cells.toArray, .agg y.cells.toArray]) w fun e w' => e = .returned (.bool true) ∧ Below w.heap.size w w' := by
 obtain ⟨yname_, yquota_, ynext_, ⟨yAsets_, ylsets_, ycsets_⟩, ⟨yAgrants_, ylgrants_, ycgrants_⟩, ⟨yAstages_, ylstages_, ycstages_⟩, ⟨yAlog_, yllog_, yclog_⟩⟩ := y
 obtain ⟨hp0, hp1, hp2, hp3, hp4, hp5, hp6⟩ := PT_.eq_iff.1 hp
 dsimp only [MT_.plain] at hp0
 dsimp only [MT_.plain] at hp1
 dsimp only [MT_.plain] at hp2
 dsimp only [MT_.plain] at hp3
 dsimp only [MT_.plain] at hp4
 dsimp only [MT_.plain] at hp5
 dsimp only [MT_.plain] at hp6
 subst hp0
 subst hp1
 subst hp2
 have hmsets_ : ylsets_.length = x.y_.l.length := map_len hp3
 subst hp4
 have hmstages_ : ylstages_.length = x.t_.l.length := map_len hp5
 have helog_ : yllog_ = x.h_.l := entries_eq hp6
 clear hp6
 subst helog_
 have HX := zI hx
 have HY := zI hy
 clear hx hy
 obtain ⟨w1, hw1⟩ : ∃ w1, w.alloc (.cells #[.string x.x_, .int .i64 x.r_, .int .i64 x.v_, .slice x.y_.A x.y_.l.length x.y_.c, .slice x.g_.A x.g_.l.length x.g_.c, .slice x.t_.A x.t_.l.length x.t_.c, .slice x.h_.A x.h_.l.length x.h_.c] 27) = w1 := ⟨_, rfl⟩
 have hB1 : Below w.heap.size w w1 := hw1 ▸ (Below.refl _ w).alloc (Nat.le_refl _) _
 have k1 : Blk w1 w.heap.size 27 [.string x.x_, .int .i64 x.r_, .int .i64 x.v_, .slice x.y_.A x.y_.l.length x.y_.c, .slice x.g_.A x.g_.l.length x.g_.c, .slice x.t_.A x.t_.l.length x.t_.c, .slice x.h_.A x.h_.l.length x.h_.c] := hw1 ▸ Blk.new w _ _
 obtain ⟨w2, hw2⟩ : ∃ w2, w1.alloc (.cells #[.string x.x_, .int .i64 x.r_, .int .i64 x.v_, .slice yAsets_ x.y_.l.length ycsets_, .slice yAgrants_ x.g_.l.length ycgrants_, .slice yAstages_ x.t_.l.length ycstages_, .slice yAlog_ x.h_.l.length yclog_] 27) = w2 := ⟨_, rfl⟩
 have hB2 : Below w1.heap.size w1 w2 := hw2 ▸ (Below.refl _ w1).alloc (Nat.le_refl _) _
 have k2 : Blk w2 w1.heap.size 27 [.string x.x_, .int .i64 x.r_, .int .i64 x.v_, .slice yAsets_ x.y_.l.length ycsets_, .slice yAgrants_ x.g_.l.length ycgrants_, .slice yAstages_ x.t_.l.length ycstages_, .slice yAlog_ x.h_.l.length yclog_] := hw2 ▸ Blk.new w1 _ _
 have hz : w1.heap.size = w.heap.size + 1 := by rw [← hw1, World.size_alloc]
 rw [hz] at k2
 have hA : Below w.heap.size w w2 := hB1.trans (hB2.mono hB1.size)
 have HK1 := zI (k1.below hB2 k1.lt)
 have HK2 := zI k2
 have HW1 := zI hw1
 have HW2 := zI hw2
 clear k1 k2 hw1 hw2
 have hs0 := hA.size
 have hT0 : Below w2.heap.size w2 w2 := Below.refl _ _
 dsimp only [MT_.cells]
 rw [hmsets_, hmstages_]
 go_enter Tryz.func16, Tryz.ntmps16
 have a0 := (HK1.out.below hT0 HK1.out.lt).cell 0
 have b0 := (HK2.out.below hT0 HK2.out.lt).cell 0
 have a1 := (HK1.out.below hT0 HK1.out.lt).cell 1
 have b1 := (HK2.out.below hT0 HK2.out.lt).cell 1
 have a2 := (HK1.out.below hT0 HK1.out.lt).cell 2
 have b2 := (HK2.out.below hT0 HK2.out.lt).cell 2
 have a3 := (HK1.out.below hT0 HK1.out.lt).cell 3
 have b3 := (HK2.out.below hT0 HK2.out.lt).cell 3
 have a5 := (HK1.out.below hT0 HK1.out.lt).cell 5
 have b5 := (HK2.out.below hT0 HK2.out.lt).cell 5
 have a4 := (HK1.out.below hT0 HK1.out.lt).cell 4
 have b4 := (HK2.out.below hT0 HK2.out.lt).cell 4
 simp only [gZa, gZb] at a0 b0 a1 b1 a2 b2 a3 b3 a5 b5 a4 b4
 have H0 := zI (refG_true _ _ x.g_.c ycgrants_ x.g_.l (by have := HX.out.Q_.len; omega) w2 (HX.out.Q_.rd.below (hA.trans (hT0.mono hs0))) (HY.out.Q_.rd.below (hA.trans (hT0.mono hs0))))
 go_wp2_with fail
 rw [HW1.out, HW2.out]
 try go_wp2_with fail
 refine H0.out.mono ?_
 rintro e v0 ⟨rfl, hV0⟩
 have hT1 := hT0.trans (hV0.mono hT0.size)
 clear H0
 clear a0 b0 a1 b1 a2 b2 a3 b3 a5 b5 a4 b4
 have a6 := (HK1.out.below hT1 HK1.out.lt).cell 6
 have b6 := (HK2.out.below hT1 HK2.out.lt).cell 6
 simp only [gZa, gZb] at a6 b6
 have H1 := zI (sameLog_true _ _ x.h_.c yclog_ x.h_.l (by have := HX.out.glog_.len; omega) v0 (HX.out.glog_.rd.below (hA.trans (hT1.mono hs0))) (HY.out.glog_.rd.below (hA.trans (hT1.mono hs0))))
 go_wp2_with fail
 refine H1.out.mono ?_
 rintro e v1 ⟨rfl, hV1⟩
 have hT2 := hT1.trans (hV1.mono hT1.size)
 clear H1
 clear a6 b6
 have a3 := (HK1.out.below hT2 HK1.out.lt).cell 3
 have b3 := (HK2.out.below hT2 HK2.out.lt).cell 3
 simp only [gZa, gZb] at a3 b3
 go_wp2
 clear a3 b3
 go_loopw [5] (fun i W => ∃ k : Nat, k ≤ x.y_.l.length ∧ i = .int .i64 k ∧ Below w2.heap.size w2 W) (fun i _ => x.y_.l.length - (intOf i).toNat)
 case atStart => exact ⟨0, Nat.zero_le _, rfl, hT2⟩
 case round =>
  obtain ⟨k, hk, rfl, hB⟩ := hrel
  have hQ : Below w.heap.size w wr := hA.trans (hB.mono hs0)
  have hsr := hB.size
  have hkl : x.y_.l.length ≤ 8796093022208 := by have := HX.out.w_.len; omega
  by_cases hlt : k < x.y_.l.length
  · obtain ⟨z, hz⟩ : ∃ z, x.y_.l[k]? = some z := ⟨_, qZa hlt⟩
    have hlt2 : k < ylsets_.length := hmsets_ ▸ hlt
    obtain ⟨u, hu⟩ : ∃ u, ylsets_[k]? = some u := ⟨_, qZa hlt2⟩
    obtain ⟨ba, oa, ea, hba, hc⟩ := load_elem Tryz.prog (n := 5) (fun _ => rfl) (by omega) (HX.out.w_.rd.below hQ) hz
    obtain ⟨bb, ob, eb, hbb, hd⟩ := load_elem Tryz.prog (n := 5) (fun _ => rfl) (by omega) (HY.out.w_.rd.below hQ) hu
    have a3 := (HK1.out.below hB HK1.out.lt).cell 3
    have b3 := (HK2.out.below hB HK2.out.lt).cell 3
    simp only [gZa, gZb] at a3 b3
    dsimp only at eb
    rw [ea] at a3
    rw [eb] at b3
    have HST := zI (fun W (hW : Below w2.heap.size w2 W) => refSe z u (map_at hp3 hz hu) W ((HX.out.w_.el z (mG hz)).below (hA.trans (hW.mono hs0))) ((HY.out.w_.el u (mG hu)).below (hA.trans (hW.mono hs0))))
    have hc9 := hc wr (Below.refl _ _)
    have hd9 := hd wr (Below.refl _ _)
    have HCC := zI hc
    have HDD := zI hd
    obtain ⟨cs, hcs⟩ : ∃ cs, z.cells.toArray = cs := ⟨_, rfl⟩
    obtain ⟨ds, hds⟩ : ∃ ds, u.cells.toArray = ds := ⟨_, rfl⟩
    rw [hcs] at hc9 HST HCC
    rw [hds] at hd9 HST HDD
    clear hcs hds
    have hlz1 : w.heap.size < wr.heap.size := (HK1.out.below hB HK1.out.lt).lt
    have hlz2 : w.heap.size + 1 < wr.heap.size := (HK2.out.below hB HK2.out.lt).lt
    clear hc hd hz hu hlt2 ea eb
    go_upto_region 6 with fail
    refine wp_region_noPanic ?_
    refine zcX 11 (fun W => W.cell? ⟨w.heap.size, 3, none⟩ = some (.slice (some ⟨ba, oa, none⟩) x.y_.l.length x.y_.c) ∧ W.cell? ⟨w.heap.size + 1, 3, none⟩ = some (.slice (some ⟨bb, ob, none⟩) x.y_.l.length ycsets_) ∧ Sem.run Tryz.prog (loadCellsFrom ⟨ba, oa + k * 5, none⟩ 0 5 #[]) W = .ok cs W ∧ Sem.run Tryz.prog (loadCellsFrom ⟨bb, ob + k * 5, none⟩ 0 5 #[]) W = .ok ds W) (by kernel_rfl) ⟨a3, b3, HCC.out wr.drew (Below.refl _ wr).drew, HDD.out wr.drew (Below.refl _ wr).drew⟩ (fun hHeld => ?_)
    refine tkA 12 (i := 0) (oi := ⟨some 67, _, _, _, _, _⟩) rfl hHeld ?_
    try simp only [zP]
    refine tkA 12 (i := 1) (oi := ⟨some 68, _, _, _, _, _⟩) rfl hHeld ?_
    try simp only [zP]
    refine tkA 12 (i := 2) (oi := ⟨some 69, _, _, _, _, _⟩) rfl hHeld ?_
    try simp only [zP]
    refine tkA 12 (i := 3) (oi := ⟨some 70, _, _, _, _, _⟩) rfl hHeld ?_
    try simp only [zP]
    refine tkA 12 (i := 4) (oi := ⟨some 71, _, _, _, _, _⟩) rfl hHeld ?_
    try simp only [zP]
    refine tkA 12 (i := 5) (oi := ⟨some 72, _, _, _, _, _⟩) rfl hHeld ?_
    try simp only [zP]
    refine tkA 12 (i := 6) (oi := ⟨some 73, _, _, _, _, _⟩) rfl hHeld ?_
    try simp only [zP]
    refine tkA 12 (i := 7) (oi := ⟨some 74, _, _, _, _, _⟩) rfl hHeld ?_
    try simp only [zP]
    refine tkA 12 (i := 8) (oi := ⟨some 75, _, _, _, _, _⟩) rfl hHeld ?_
    try simp only [zP]
    refine tkA 12 (i := 9) (oi := ⟨some 76, _, _, _, _, _⟩) rfl hHeld ?_
    try simp only [zP]
    refine zdX (i := 10) (o := ⟨some 77, _, _, _, _, _⟩) (by kernel_rfl) rfl (fun K hK => ?_)
    clear hHeld
    go_simp
    refine (HST.out _ (hB.trans (zaX wr 1 _))).mono ?_
    rintro e w3 ⟨rfl, hB3⟩
    go_wp2_with fail
    refine hK.out _ _ ⟨(hB3.cell (p := ⟨w.heap.size, 3, none⟩) hlz1).trans a3, (hB3.cell (p := ⟨w.heap.size + 1, 3, none⟩) hlz2).trans b3, HCC.out w3 ((zaX wr 1 wr.heap.size).trans (hB3.mono (zaX wr 1 wr.heap.size).size)), HDD.out w3 ((zaX wr 1 wr.heap.size).trans (hB3.mono (zaX wr 1 wr.heap.size).size))⟩ (fun hHeld => ?_)
    clear hK K
    try simp only [zP]
    refine zcZ (i := 11) (o := ⟨some 78, _, _, _, _, _⟩) (by kernel_rfl) rfl (by kernel_rfl) (fun K hK => ?_)
    clear hHeld
    go_simp
    refine hK.out _ _ ?_
    clear hK K
    try simp only [zP]
    refine zdQ (by kernel_rfl) ?_ _
    refine NoPanic.normal ?_
    have hQ3 : Below w2.heap.size w2 w3 := (hB.trans (zaX wr 1 _)).trans (hB3.mono hB.size)
    go_wp2
    go_roundw
    case rel => exact ⟨k + 1, by omega, by go_num, hQ3⟩
    case measure => simp [intOf]; omega
  · have hk9 := hk
    have a3 := (HK1.out.below hB HK1.out.lt).cell 3
    have b3 := (HK2.out.below hB HK2.out.lt).cell 3
    simp only [gZa, gZb] at a3 b3
    skip
    have a5 := (HK1.out.below hB HK1.out.lt).cell 5
    have b5 := (HK2.out.below hB HK2.out.lt).cell 5
    simp only [gZa, gZb] at a5 b5
    have hB9 := hB
    go_wp2
    clear a3 b3 a5 b5
    go_loopw [6] (fun i W => ∃ k : Nat, k ≤ x.t_.l.length ∧ i = .int .i64 k ∧ Below w2.heap.size w2 W) (fun i _ => x.t_.l.length - (intOf i).toNat)
    case atStart => exact ⟨0, Nat.zero_le _, rfl, hB9⟩
    case round =>
     clear hQ hB hsr hlt hk hk9
     obtain ⟨k, hk, rfl, hB⟩ := hrel
     have hQ : Below w.heap.size w wr := hA.trans (hB.mono hs0)
     have hsr := hB.size
     have hkl : x.t_.l.length ≤ 8796093022208 := by have := HX.out.B_.len; omega
     by_cases hlt : k < x.t_.l.length
     · obtain ⟨z, hz⟩ : ∃ z, x.t_.l[k]? = some z := ⟨_, qZa hlt⟩
       have hlt2 : k < ylstages_.length := hmstages_ ▸ hlt
       obtain ⟨u, hu⟩ : ∃ u, ylstages_[k]? = some u := ⟨_, qZa hlt2⟩
       obtain ⟨ba, oa, ea, hba, hc⟩ := load_elem Tryz.prog (n := 21) (fun _ => rfl) (by omega) (HX.out.B_.rd.below hQ) hz
       obtain ⟨bb, ob, eb, hbb, hd⟩ := load_elem Tryz.prog (n := 21) (fun _ => rfl) (by omega) (HY.out.B_.rd.below hQ) hu
       have a5 := (HK1.out.below hB HK1.out.lt).cell 5
       have b5 := (HK2.out.below hB HK2.out.lt).cell 5
       simp only [gZa, gZb] at a5 b5
       dsimp only at eb
       rw [ea] at a5
       rw [eb] at b5
       have HST := zI (fun W (hW : Below w2.heap.size w2 W) => refSt z u (map_at hp5 hz hu) W ((HX.out.B_.el z (mG hz)).below (hA.trans (hW.mono hs0))) ((HY.out.B_.el u (mG hu)).below (hA.trans (hW.mono hs0))))
       have hc9 := hc wr (Below.refl _ _)
       have hd9 := hd wr (Below.refl _ _)
       have HCC := zI hc
       have HDD := zI hd
       obtain ⟨cs, hcs⟩ : ∃ cs, z.cells.toArray = cs := ⟨_, rfl⟩
       obtain ⟨ds, hds⟩ : ∃ ds, u.cells.toArray = ds := ⟨_, rfl⟩
       rw [hcs] at hc9 HST HCC
       rw [hds] at hd9 HST HDD
       clear hcs hds
       have hlz1 : w.heap.size < wr.heap.size := (HK1.out.below hB HK1.out.lt).lt
       have hlz2 : w.heap.size + 1 < wr.heap.size := (HK2.out.below hB HK2.out.lt).lt
       clear hc hd hz hu hlt2 ea eb
       go_upto_region 11 with fail
       refine wp_region_noPanic ?_
       refine zcX 11 (fun W => W.cell? ⟨w.heap.size, 5, none⟩ = some (.slice (some ⟨ba, oa, none⟩) x.t_.l.length x.t_.c) ∧ W.cell? ⟨w.heap.size + 1, 5, none⟩ = some (.slice (some ⟨bb, ob, none⟩) x.t_.l.length ycstages_) ∧ Sem.run Tryz.prog (loadCellsFrom ⟨ba, oa + k * 21, none⟩ 0 21 #[]) W = .ok cs W ∧ Sem.run Tryz.prog (loadCellsFrom ⟨bb, ob + k * 21, none⟩ 0 21 #[]) W = .ok ds W) (by kernel_rfl) ⟨a5, b5, HCC.out wr.drew (Below.refl _ wr).drew, HDD.out wr.drew (Below.refl _ wr).drew⟩ (fun hHeld => ?_)
       refine tkA 12 (i := 0) (oi := ⟨some 86, _, _, _, _, _⟩) rfl hHeld ?_
       try simp only [zP]
       refine tkA 12 (i := 1) (oi := ⟨some 87, _, _, _, _, _⟩) rfl hHeld ?_
       try simp only [zP]
       refine tkA 12 (i := 2) (oi := ⟨some 88, _, _, _, _, _⟩) rfl hHeld ?_
       try simp only [zP]
       refine tkA 12 (i := 3) (oi := ⟨some 89, _, _, _, _, _⟩) rfl hHeld ?_
       try simp only [zP]
       refine tkA 12 (i := 4) (oi := ⟨some 90, _, _, _, _, _⟩) rfl hHeld ?_
       try simp only [zP]
       refine tkA 12 (i := 5) (oi := ⟨some 91, _, _, _, _, _⟩) rfl hHeld ?_
       try simp only [zP]
       refine tkA 12 (i := 6) (oi := ⟨some 92, _, _, _, _, _⟩) rfl hHeld ?_
       try simp only [zP]
       refine tkA 12 (i := 7) (oi := ⟨some 93, _, _, _, _, _⟩) rfl hHeld ?_
       try simp only [zP]
       refine tkA 12 (i := 8) (oi := ⟨some 94, _, _, _, _, _⟩) rfl hHeld ?_
       try simp only [zP]
       refine tkA 12 (i := 9) (oi := ⟨some 95, _, _, _, _, _⟩) rfl hHeld ?_
       try simp only [zP]
       refine zdX (i := 10) (o := ⟨some 96, _, _, _, _, _⟩) (by kernel_rfl) rfl (fun K hK => ?_)
       clear hHeld
       go_simp
       refine (HST.out _ (hB.trans (zaX wr 1 _))).mono ?_
       rintro e w3 ⟨rfl, hB3⟩
       go_wp2_with fail
       refine hK.out _ _ ⟨(hB3.cell (p := ⟨w.heap.size, 5, none⟩) hlz1).trans a5, (hB3.cell (p := ⟨w.heap.size + 1, 5, none⟩) hlz2).trans b5, HCC.out w3 ((zaX wr 1 wr.heap.size).trans (hB3.mono (zaX wr 1 wr.heap.size).size)), HDD.out w3 ((zaX wr 1 wr.heap.size).trans (hB3.mono (zaX wr 1 wr.heap.size).size))⟩ (fun hHeld => ?_)
       clear hK K
       try simp only [zP]
       refine zcZ (i := 11) (o := ⟨some 97, _, _, _, _, _⟩) (by kernel_rfl) rfl (by kernel_rfl) (fun K hK => ?_)
       clear hHeld
       go_simp
       refine hK.out _ _ ?_
       clear hK K
       try simp only [zP]
       refine zdQ (by kernel_rfl) ?_ _
       refine NoPanic.normal ?_
       have hQ3 : Below w2.heap.size w2 w3 := (hB.trans (zaX wr 1 _)).trans (hB3.mono hB.size)
       go_wp2
       go_roundw
       case rel => exact ⟨k + 1, by omega, by go_num, hQ3⟩
       case measure => simp [intOf]; omega
     · skip
       have a5 := (HK1.out.below hB HK1.out.lt).cell 5
       have b5 := (HK2.out.below hB HK2.out.lt).cell 5
       simp only [gZa, gZb] at a5 b5
       go_wp2
       go_ret
       exact ⟨rfl, hQ⟩
end Go.Proofs.YtimmcmjipmkebaaGreat
namespace Go.Proofs.YtimmcmjipmkebaaGreat
open Go.ChangeShapes Go.WideShapes Go.ChangeAt Go.RowKit
set_option maxRecDepth 100000
set_option linter.unusedSimpArgs false
theorem zbZ {W W' : World} {n e size k : Nat} {v : Value} {xs : List Value} (h : W.ownsRow n e size v k xs) (hk : ∀ b, n ≤ b → b < W.heap.size → W'.heap[b]? = W.heap[b]?) : W'.ownsRow n e size v k xs := ownStay h fun b hb => hk b (h.lt b hb).1 (h.lt b hb).2
theorem OwnTe.stays {n : Nat} {W W' : World} {y : MT_} (h : OwnTe n W y) (hk : ∀ b, n ≤ b → b < W.heap.size → W'.heap[b]? = W.heap[b]?) : OwnTe n W' y :=
 ⟨zbZ h.sets hk, zbZ h.grants hk, zbZ h.stages hk, zbZ h.log hk, fun s hs => ⟨zbZ (h.eset s hs).body hk, zbZ (h.eset s hs).snaps hk, zbZ (h.eset s hs).own hk, fun z hz => ⟨zbZ ((h.eset s hs).each z hz).body hk, zbZ ((h.eset s hs).each z hz).tags hk, zbZ ((h.eset s hs).each z hz).own hk⟩⟩, fun s hs => ⟨zbZ (h.estage s hs).body hk, zbZ (h.estage s hs).own hk⟩⟩
theorem OwnTe.below {n : Nat} {W W' : World} {y : MT_} (h : OwnTe n W y) (hB : Below W.heap.size W W') : OwnTe n W' y := h.stays fun b _ hb => hB.block b hb
theorem sum_eq {a b : MSum} (h : a.plain = b.plain) : a = b := by
 obtain ⟨a1, a2, a3, a4⟩ := a
 obtain ⟨b1, b2, b3, b4⟩ := b
 obtain ⟨h1, h2, h3, h4⟩ := PSum.eq_iff.1 h
 simp only [MSum.plain] at h1 h2 h3 h4
 subst h1 h2 h3 h4
 rfl
theorem MSum.Good.to {W : World} {x : MSum} (h : x.Good W) (W' : World) : x.Good W' := ⟨h.ga_, h.gb_, h.gc_, h.gd_⟩
theorem ME_.Good.to {W : World} {x : ME_} (h : x.Good W) (W' : World) : x.Good W' := ⟨h.guser_, h.gkind_, h.C_, h.gerr_⟩
theorem Mta.Good.of_own {W W' : World} {n : Nat} {x y : Mta} (h : x.Good W) (hp : y.plain = x.plain) (ho : OwnSt n W' y) : y.Good W' := by
 obtain ⟨h1, h2, h3, h4, h5, h6, h7⟩ := PStage.eq_iff.1 hp
 obtain ⟨r1, r2, r3, r4, r5, r6, r7, r8, r9⟩ := PRecord.eq_iff.1 h2
 have e1 := sum_eq h6
 have e2 := sum_eq r9
 have b := h.X_
 refine ⟨by have := h.ginto_; rw [show y.S_ = x.S_ from h1]; exact this, ⟨?_, ?_, ?_, ?_, slGood_own b.G_ (by rw [show y.o_.j_.l = x.o_.j_.l from r5]) ho.own fun q hq => b.G_.el q (by rw [← show y.o_.j_.l = x.o_.j_.l from r5]; exact hq), ?_, ?_, ?_, ?_⟩, slGood_own h.K_ (by rw [show y.p_.l = x.p_.l from h3]) ho.body fun q hq => h.K_.el q (by rw [← show y.p_.l = x.p_.l from h3]; exact hq), by rw [show y.at_ = x.at_ from h4]; exact h.gat_, by rw [show y.v_ = x.v_ from h5]; exact h.gnext_, by rw [e1]; exact h.gsum_.to W'⟩
 · rw [show y.o_.N_ = x.o_.N_ from r1]; exact b.gkind_
 · rw [show y.o_.x_ = x.o_.x_ from r2]; exact b.L_
 · rw [show y.o_.from_ = x.o_.from_ from r3]; exact b.gfrom_
 · rw [show y.o_.z_ = x.o_.z_ from r4]; exact b.gguid_
 · rw [show y.o_.E_ = x.o_.E_ from r6]; exact b.gindex_
 · rw [show y.o_.Y_ = x.o_.Y_ from r7]; exact b.gcount_
 · rw [show y.o_.P_ = x.o_.P_ from r8]; exact b.gdata_
 · rw [e2]; exact b.gsum_.to W'
theorem MT_.Good.of_own {W W' : World} {n : Nat} {x y : MT_} (h : x.Good W) (hp : y.plain = x.plain) (ho : OwnTe n W' y) : y.Good W' := by
 obtain ⟨h1, h2, h3, h4, h5, h6, h7⟩ := PT_.eq_iff.1 hp
 have e7 : y.h_.l = x.h_.l := entries_eq h7
 refine ⟨by rw [show y.x_ = x.x_ from h1]; exact h.L_, by rw [show y.r_ = x.r_ from h2]; exact h.gquota_, by rw [show y.v_ = x.v_ from h3]; exact h.gnext_, slGood_own h.w_ (map_len h4) ho.sets fun s hs => ?_, slGood_own h.Q_ (by rw [show y.g_.l = x.g_.l from h5]) ho.grants fun q hq => h.Q_.el q (by rw [← show y.g_.l = x.g_.l from h5]; exact hq), slGood_own h.B_ (map_len h6) ho.stages fun s hs => ?_, slGood_own h.glog_ (by rw [e7]) ho.log fun q hq => (h.glog_.el q (by rw [← e7]; exact hq)).to W'⟩
 · obtain ⟨s', hs', e⟩ := mem_plain h4 hs
   exact (h.w_.el s' hs').of_own e (ho.eset s hs)
 · obtain ⟨s', hs', e⟩ := mem_plain h6 hs
   exact (h.B_.el s' hs').of_own e (ho.estage s hs)
theorem flat_set {α : Type} (cells : α → List Value) {n : Nat} (hn : ∀ a, (cells a).length = n) : ∀ {l : List α} {j : Nat} {x y : α} {f : Nat} {u : Value}, l[j]? = some x → cells y = (cells x).set f u → f < n → (l.set j y).flatMap cells = (l.flatMap cells).set (j * n + f) u
 | [], j, x, y, f, u, h, _, _ => by simp at h
 | a :: l, 0, x, y, f, u, h, hy, hf => by
  simp only [List.getElem?_cons_zero, Option.some.injEq] at h
  subst h
  rw [List.set_cons_zero, List.flatMap_cons, List.flatMap_cons, hy, Nat.zero_mul, Nat.zero_add, List.set_append_left _ _ (by rw [hn]; exact hf)]
 | a :: l, j + 1, x, y, f, u, h, hy, hf => by
  rw [List.getElem?_cons_succ] at h
  have ih := flat_set cells hn h hy hf
  rw [List.set_cons_succ, List.flatMap_cons, List.flatMap_cons, ih, List.set_append_right _ _ (by rw [hn]; have : (j + 1) * n = j * n + n := Nat.succ_mul j n; omega), hn]
  congr 2
  have : (j + 1) * n = j * n + n := Nat.succ_mul j n
  omega
theorem heap_setIn {W : World} {g i : Nat} {cur : Array Value} {e : TypeId} {u : Value} (h : W.heap[g]? = some (.cells cur e (0, 0))) : (W.setCell ⟨g, i, none⟩ u).heap[g]? = some (.cells (cur.setIfInBounds i u) e (0, 0)) := by
 have hlt := lt_of_block h
 have h' : W.heap[g] = .cells cur e (0, 0) := by simpa [Array.getElem?_eq_getElem hlt] using h
 show (W.heap.modify g _)[g]? = _
 rw [Array.getElem?_eq_getElem (by simpa using hlt), Array.getElem_modify_self, h']
 rfl
theorem own_setIn {W : World} {n size k g cap : Nat} {e : TypeId} {xs : List Value} (h : W.ownsRow n e size (.slice (some ⟨g, 0, none⟩) k cap) k xs) (i : Nat) (u : Value) : (W.setCell ⟨g, i, none⟩ u).ownsRow n e size (.slice (some ⟨g, 0, none⟩) k cap) k (xs.set i u) := by
 obtain ⟨h0, ⟨hv, _⟩ | ⟨g2, cap2, cur, hv, hn, hb, h2, h3, h4, h5⟩⟩ := h
 · cases hv
 · injection hv with e1 e2 e3
   injection e1 with e1
   injection e1 with e1
   subst e1 e3
   refine ⟨by rw [List.length_set]; exact h0, .inr ⟨g, cap, _, rfl, hn, heap_setIn hb, h2, h3, by rw [Array.size_setIfInBounds]; exact h4, ?_⟩⟩
   rw [Array.toList_setIfInBounds, List.take_set, h5]
theorem keeps_setIn {W : World} {n size k g cap : Nat} {e : TypeId} {xs : List Value} (h : W.ownsRow n e size (.slice (some ⟨g, 0, none⟩) k cap) k xs) (i : Nat) (u : Value) : Keeps e W (W.setCell ⟨g, i, none⟩ u) := fun b cur e' hb hne => heap_setCell_other W ⟨g, i, none⟩ b u (by
 intro e1
 have e1 : b = g := e1
 subst e1
 obtain ⟨_, ⟨hv, _⟩ | ⟨g2, cap2, cur2, hv, _, hb2, _⟩⟩ := h
 · cases hv
 · injection hv with e1 e2 e3
   injection e1 with e1
   injection e1 with e1
   subst e1
   rw [hb] at hb2
   injection hb2 with hb2
   injection hb2 with _ h6 _
   exact hne h6)
theorem OwnSe.setIn {n : Nat} {W W' : World} {s : MSet} (h : OwnSe n W s) (hk : Keeps 52 W W') : OwnSe n W' s := h.keep hk (by decide) (by decide) (by decide) (by decide)
theorem OwnTe.setIn {n : Nat} {W : World} {y : MT_} (h : OwnTe n W y) {g j : Nat} {s s' : MSet} (hA : y.y_.A = some ⟨g, 0, none⟩) (hj : y.y_.l[j]? = some s) {f : Nat} {u : Value} (hf : f < 5) (hs : s'.cells = s.cells.set f u) (ho : OwnSe n W s') :
 OwnTe n (W.setCell ⟨g, j * 5 + f, none⟩ u) { y with y_ := ⟨some ⟨g, 0, none⟩, y.y_.l.set j s', y.y_.c⟩ } := by
 have h1 : W.ownsRow n 52 5 (.slice (some ⟨g, 0, none⟩) y.y_.l.length y.y_.c) y.y_.l.length (y.y_.l.flatMap MSet.cells) := by
  rw [← hA]
  exact h.sets
 have hk := keeps_setIn h1 (j * 5 + f) u
 have h2 := own_setIn h1 (j * 5 + f) u
 rw [← flat_set MSet.cells (fun _ => rfl) hj hs hf] at h2
 refine ⟨?_, zbX h.grants (by decide) hk, zbX h.stages (by decide) hk, zbX h.log (by decide) hk, fun x hx => ?_, fun x hx => (h.estage x hx).keep hk (by decide) (by decide)⟩
 · show (W.setCell ⟨g, j * 5 + f, none⟩ u).ownsRow n 52 5 (.slice (some ⟨g, 0, none⟩) (y.y_.l.set j s').length y.y_.c) (y.y_.l.set j s').length ((y.y_.l.set j s').flatMap MSet.cells)
   rw [List.length_set]
   exact h2
 · rcases List.mem_or_eq_of_mem_set hx with hx | rfl
   · exact (h.eset x hx).setIn hk
   · exact ho.setIn hk
theorem MT_.Good.of_sets {W W' : World} {n : Nat} {x y : MT_} (h : x.Good W) (hp : { y.plain with y_ := [] } = { x.plain with y_ := [] }) (hl : y.y_.l.length * 104 ≤ 140737488351232) (hg : ∀ s ∈ y.y_.l, s.Good W') (ho : OwnTe n W' y) : y.Good W' := by
 obtain ⟨h1, h2, h3, _, h5, h6, h7⟩ := PT_.eq_iff.1 hp
 have e7 : y.h_.l = x.h_.l := entries_eq h7
 obtain ⟨A, c, hv, hcap, hnil, hrd, _⟩ := ownAny ho.sets
 injection hv with v1 v2 v3
 refine ⟨by rw [show y.x_ = x.x_ from h1]; exact h.L_, by rw [show y.r_ = x.r_ from h2]; exact h.gquota_, by rw [show y.v_ = x.v_ from h3]; exact h.gnext_, ⟨by rw [v1]; exact hrd.1, hg, by rw [v3]; exact hcap, by rw [v1, v3]; exact hnil, hl⟩, slGood_own h.Q_ (by rw [show y.g_.l = x.g_.l from h5]) ho.grants fun q hq => h.Q_.el q (by rw [← show y.g_.l = x.g_.l from h5]; exact hq), slGood_own h.B_ (map_len h6) ho.stages fun s hs => ?_, slGood_own h.glog_ (by rw [e7]) ho.log fun q hq => (h.glog_.el q (by rw [← e7]; exact hq)).to W'⟩
 obtain ⟨s', hs', e⟩ := mem_plain h6 hs
 exact (h.B_.el s' hs').of_own e (ho.estage s hs)
end Go.Proofs.YtimmcmjipmkebaaGreat
