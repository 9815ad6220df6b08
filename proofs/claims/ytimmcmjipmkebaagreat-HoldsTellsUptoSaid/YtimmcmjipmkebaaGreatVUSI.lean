/-
 usage: Tenant, Fits. Conditions: the tenant is as it comes in.
-/
import Derived.Test.YtimmcmjipmkebaaGreatVUSF
import Derived.Test.YtimmcmjipmkebaaGreatVTMA
namespace Go.Proofs.YtimmcmjipmkebaaGreat
open Go.ChangeShapes Go.WideShapes Go.ChangeAt Go.RowKit
set_option maxRecDepth 100000
set_option linter.unusedSimpArgs false
def tenC (x : MT_) : Nat := (x.y_.l.map setC).sum + (x.t_.l.map fun s => 1 + s.p_.l.length).sum
theorem sum_take {α : Type} {f : α → Nat} {l : List α} {k : Nat} {x : α} (h : l[k]? = some x) : ((l.take (k + 1)).map f).sum = ((l.take k).map f).sum + f x := by
 rw [List.take_add_one, h]
 simp
attribute [-simp] Tryz.isAgg91 Tryz.sizeOf91
set_option maxHeartbeats 4000000 in
theorem tenant_any (x : MT_) (w : World) (hx : x.Good w) :
 Calls Tryz.prog 189 #[.agg x.cells.toArray] w fun e w' => e = .returned (.int .i64 (wrap64 (tenC x))) ∧ Below w.heap.size w w' := by
 obtain ⟨w1, hw1⟩ : ∃ w1, w.alloc (.cells #[.string x.x_, .int .i64 x.r_, .int .i64 x.v_, .slice x.y_.A x.y_.l.length x.y_.c, .slice x.g_.A x.g_.l.length x.g_.c, .slice x.t_.A x.t_.l.length x.t_.c, .slice x.h_.A x.h_.l.length x.h_.c] 27) = w1 := ⟨_, rfl⟩
 have hB1 : Below w.heap.size w w1 := hw1 ▸ (Below.refl _ w).alloc (Nat.le_refl _) _
 have k1 : Blk w1 w.heap.size 27 x.cells := hw1 ▸ Blk.new w _ _
 have hsz1 : w1.heap.size = w.heap.size + 1 := by rw [← hw1, World.size_alloc]
 obtain ⟨w2, hw2⟩ : ∃ w2, w1.alloc (.cells #[.int .i64 0] 208) = w2 := ⟨_, rfl⟩
 have hB2 : Below w1.heap.size w1 w2 := hw2 ▸ (Below.refl _ w1).alloc (Nat.le_refl _) _
 have kc : Blk w2 w1.heap.size 208 [.int .i64 0] := hw2 ▸ Blk.new w1 _ _
 have hB02 : Below w.heap.size w w2 := hB1.trans (hB2.mono hB1.size)
 rw [hsz1] at kc
 have hsz2 : w2.heap.size = w.heap.size + 2 := by rw [← hw2, World.size_alloc, hsz1]
 have k12 := k1.below hB2 k1.lt
 have z3 := k12.cell 3
 simp only [gZa, gZb] at z3
 have HW1 := zI hw1
 have HW2 := zI hw2
 have HX := zI hx
 have HKC : Hid (Blk w2 (w.heap.size + 1) 208 [.int .i64 (wrap64 (((x.y_.l.take 0).map setC).sum : Nat))]) := zI (by simpa [wrap64] using kc)
 have HB := zI hB02
 have HK1 := zI k12
 have hns : x.y_.l.length ≤ 8796093022208 := by have := hx.w_.len; omega
 have hnt : x.t_.l.length ≤ 8796093022208 := by have := hx.B_.len; omega
 clear hw1 hw2 hx kc k1 k12 hB1 hB2 hB02
 go_enter Tryz.func189, Tryz.ntmps189
 go_wp2_with (first | rw [HW1.out] | rw [HW2.out])
 clear z3
 go_loopw [11] (fun i W => ∃ k : Nat, k ≤ x.y_.l.length ∧ i = .int .i64 k ∧ Hid (Blk W w.heap.size 27 x.cells) ∧ Hid (Blk W (w.heap.size + 1) 208 [.int .i64 (wrap64 (((x.y_.l.take k).map setC).sum : Nat))]) ∧ Below w.heap.size w W) (fun i _ => x.y_.l.length - (intOf i).toNat)
 case atStart => exact ⟨0, Nat.zero_le _, rfl, HK1, HKC, HB.out⟩
 case round =>
  obtain ⟨k, hk, rfl, HK, HC, hB⟩ := hrel
  have hs1 := hB.size
  have hcl := HC.out.lt
  by_cases hlt : k < x.y_.l.length
  · obtain ⟨y, hy⟩ : ∃ y, x.y_.l[k]? = some y := ⟨_, qZa hlt⟩
    obtain ⟨b, off, hA, hb, hc⟩ := Rd.elem (cells := MSet.cells) (n := 5) (fun _ => rfl) (by omega) (HX.out.w_.rd.below hB) hy
    rw [hA]
    have c0 : wr.cell? ⟨b, off + k * 5, none⟩ = some (.string y.l_) := hc 0 _ rfl
    have c1 : wr.cell? ⟨b, off + k * 5 + 1, none⟩ = some (.string y.m_) := hc 1 _ rfl
    have c2 : wr.cell? ⟨b, off + k * 5 + 2, none⟩ = some (.slice y.p_.A y.p_.l.length y.p_.c) := hc 2 _ rfl
    have c3 : wr.cell? ⟨b, off + k * 5 + 3, none⟩ = some (.slice y.n_.A y.n_.l.length y.n_.c) := hc 3 _ rfl
    have c4 : wr.cell? ⟨b, off + k * 5 + 4, none⟩ = some (.slice y.j_.A y.j_.l.length y.j_.c) := hc 4 _ rfl
    obtain ⟨w3, hw3⟩ : ∃ w3, wr.alloc (.cells #[.string y.l_, .string y.m_, .slice y.p_.A y.p_.l.length y.p_.c, .slice y.n_.A y.n_.l.length y.n_.c, .slice y.j_.A y.j_.l.length y.j_.c] 52) = w3 := ⟨_, rfl⟩
    have hB3 : Below wr.heap.size wr w3 := hw3 ▸ (Below.refl _ wr).alloc (Nat.le_refl _) _
    have k3 : Blk w3 wr.heap.size 52 y.cells := hw3 ▸ Blk.new wr _ _
    have d0 := k3.cell 0
    have d1 := k3.cell 1
    have d2 := k3.cell 2
    have d3 := k3.cell 3
    have d4 := k3.cell 4
    simp only [gZa, gZb] at d0 d1 d2 d3 d4
    have hSU : SetU w3 y := SetU.of (((HX.out.w_.el y (mG hy)).below hB).below hB3)
    have HL := zI (line_any y w3 hSU)
    have HSU := zI hSU
    have HB3 := zI hB3
    have HW3 := zI hw3
    have HY := zI hy
    clear hc hy hw3 k3 hSU hB3
    go_wp2_with (rw [HW3.out])
    refine HL.out.mono ?_
    rintro e w4 ⟨g, c, rfl, ho, hB4⟩
    have hgl : w3.heap.size ≤ g := (ho.lt g rfl).1
    obtain ⟨A3, c3', he3, _, _, hR3, _⟩ := ownAny ho
    have hR : Rd w4 (some ⟨g, 0, none⟩) ((lineM y).flatMap slC) := by
     injection he3 with e1 _ _
     rw [e1]
     exact hR3.1
    have hs3 := HB3.out.size
    have hs4 := hB4.size
    have hB34 : Below wr.heap.size wr w4 := HB3.out.trans (hB4.mono hs3)
    have HE := zI (charge_each (w.heap.size + 1) _ g c (lineM y) (by rw [lineM_length]; have := HSU.out.nn; omega) (fun x hx => (HSU.out.bo x hx).2) (by omega) w4 (HC.out.below hB34 hcl) hR)
    rw [lineM_length] at HE
    have HB34 := zI hB34
    clear HL ho he3 hR3 hR hB34
    go_wp2_with fail
    refine HE.out.mono ?_
    rintro e w5 ⟨rfl, hk5, ho5⟩
    have HC5 : Hid (Blk w5 (w.heap.size + 1) 208 [.int .i64 (wrap64 (((x.y_.l.take (k + 1)).map setC).sum : Nat))]) := zI (by
     rw [sum_take HY.out, Int.natCast_add]
     exact hk5)
    have HK5 : Hid (Blk w5 w.heap.size 27 x.cells) := zI (ho5.blk (HK.out.below HB34.out HK.out.lt) (by omega))
    have hBw : Below w.heap.size w w5 := (hB.trans (HB34.out.mono hs1)).trans (ho5.below (by omega) (by omega))
    clear hk5 ho5 HE HC HK
    go_wp2
    go_roundw
    case rel => exact ⟨k + 1, by omega, by go_num, HK5, HC5, hBw⟩
    case measure => simp [intOf]; omega
  · obtain rfl : k = x.y_.l.length := by omega
    rw [List.take_length] at HC
    have z5 := HK.out.cell 5
    simp only [gZa, gZb] at z5
    have HC0 : Hid (Blk wr (w.heap.size + 1) 208 [.int .i64 (wrap64 (((x.y_.l.map setC).sum + ((x.t_.l.take 0).map fun s => 1 + s.p_.l.length).sum : Nat)))]) := zI (by simpa using HC.out)
    clear HC
    have hinf : (Tryz.prog.info? 91).map (·.size) = some 21 := by kernel_rfl
    go_wp2
    go_loopw [23] (fun i W => ∃ k : Nat, k ≤ x.t_.l.length ∧ i = .int .i64 k ∧ Hid (Blk W (w.heap.size + 1) 208 [.int .i64 (wrap64 (((x.y_.l.map setC).sum + ((x.t_.l.take k).map fun s => 1 + s.p_.l.length).sum : Nat)))]) ∧ Below w.heap.size w W) (fun i _ => x.t_.l.length - (intOf i).toNat)
    case atStart => exact ⟨0, Nat.zero_le _, rfl, HC0, hB⟩
    case round =>
     obtain ⟨k, hk, rfl, HC, hB⟩ := hrel
     have hs1 := hB.size
     have hcl := HC.out.lt
     by_cases hlt : k < x.t_.l.length
     · obtain ⟨y, hy⟩ : ∃ y, x.t_.l[k]? = some y := ⟨_, qZa hlt⟩
       obtain ⟨b, off, hA, hb, hc⟩ := load_elem Tryz.prog (n := 21) (fun _ => rfl) (by omega) (HX.out.B_.rd.below hB) hy
       rw [hA]
       obtain ⟨cs, hcs⟩ : ∃ cs, y.cells.toArray = cs := ⟨_, rfl⟩
       have hn : cs.size = 21 := by rw [← hcs]; rfl
       have hone : cs.all (·.oneCell') = true := by rw [← hcs]; simp [Mta.cells, MR_.cells, MSum.cells, Value.oneCell']
       rw [hcs] at hc
       have hlc := hc wr (Below.refl _ _)
       have hsc := run_storeCells_new (P := Tryz.prog) wr 91 #[.string ⟨#[]⟩, .int .i64 0, .string ⟨#[]⟩, .int .i64 0, .int .i64 0, .slice none 0 0, .int .i64 0, .int .i64 0, .string ⟨#[]⟩, .int .u64 0, .int .u64 0, .int .u64 0, .int .u64 0, .slice none 0 0, .int .i64 0, .int .i64 0, .int .u64 0, .int .u64 0, .int .u64 0, .int .u64 0, .bool false] cs (by rw [hinf, hn]) (by rw [hn]; rfl) hone
       have kb : Blk (wr.alloc (.cells cs 91)) wr.heap.size 91 y.cells := hcs ▸ Blk.new wr _ _
       have d13 := kb.cell 13
       simp only [gZa, gZb] at d13
       obtain ⟨w3, hw3⟩ : ∃ w3, wr.alloc (.cells cs 91) = w3 := ⟨_, rfl⟩
       have hB3 : Below wr.heap.size wr w3 := hw3 ▸ (Below.refl _ wr).alloc (Nat.le_refl _) _
       rw [hw3] at hsc d13
       obtain ⟨w4, hw4⟩ : ∃ w4, w3.alloc (.cells #[.slice y.p_.A y.p_.l.length y.p_.c] 45) = w4 := ⟨_, rfl⟩
       have hB4 : Below w3.heap.size w3 w4 := hw4 ▸ (Below.refl _ w3).alloc (Nat.le_refl _) _
       have k4 : Blk w4 w3.heap.size 45 [.slice y.p_.A y.p_.l.length y.p_.c] := hw4 ▸ Blk.new w3 _ _
       have hs3 := hB3.size
       have hB34 : Below wr.heap.size wr w4 := hB3.trans (hB4.mono hs3)
       have hR : Rd w4 (some ⟨w3.heap.size, 0, none⟩) ([y.p_].flatMap slC) := fun _ => ⟨w3.heap.size, 0, rfl, k4.lt, fun j u hu => by
        rw [Nat.zero_add, k4.cell j]
        simpa using hu⟩
       have hby := (HX.out.B_.el y (mG hy)).K_.len
       have HE := zI (charge_each (w.heap.size + 1) _ w3.heap.size 1 [y.p_] (by simp) (fun x hx => by simp at hx; subst hx; exact hby) (by omega) w4 (HC.out.below hB34 hcl) hR)
       rw [show [y.p_].length = 1 from rfl] at HE
       have HW4 := zI hw4
       have HB34 := zI hB34
       have HY := zI hy
       clear hc hcs hone k4 hR hw4 hy hB3 hB4 hB34 kb
       go_wp2_with fail
       simp only [Tryz.sizeOf91, Result.andThen]
       rw [Oper.upon_value]
       go_wp2_with fail
       simp only [Tryz.isAgg91, Tryz.sizeOf91, Result.andThen, ↓reduceIte, hlc]
       rw [Oper.upon_value]
       go_wp2_with fail
       simp only [Tryz.sizeOf91, Result.andThen, ↓reduceIte, hsc]
       rw [Oper.upon_skip]
       go_wp2_with (rw [HW4.out])
       refine HE.out.mono ?_
       rintro e w5 ⟨rfl, hk5, ho5⟩
       have HC5 : Hid (Blk w5 (w.heap.size + 1) 208 [.int .i64 (wrap64 (((x.y_.l.map setC).sum + ((x.t_.l.take (k + 1)).map fun s => 1 + s.p_.l.length).sum : Nat)))]) := zI (by
        rw [sum_take HY.out, ← Nat.add_assoc, Int.natCast_add _ (1 + y.p_.l.length)]
        have e1 : chgL [y.p_] = 1 + y.p_.l.length := by simp [chgL, chg]
        rw [← e1]
        exact hk5)
       have hBw : Below w.heap.size w w5 := (hB.trans (HB34.out.mono hs1)).trans (ho5.below (by omega) (Nat.le_trans hs1 HB34.out.size))
       clear hk5 ho5 HE HC
       go_wp2
       go_roundw
       case rel => exact ⟨k + 1, by omega, by go_num, HC5, hBw⟩
       case measure => simp [intOf]; omega
     · obtain rfl : k = x.t_.l.length := by omega
       rw [List.take_length] at HC
       have y0 := HC.out.cell 0
       simp only [List.getElem?_cons_zero] at y0
       go_wp2
       go_ret
       exact ⟨rfl, hB⟩
end Go.Proofs.YtimmcmjipmkebaaGreat
namespace Go.Proofs.YtimmcmjipmkebaaGreat
open Go.ChangeShapes Go.WideShapes Go.ChangeAt Go.RowKit
set_option maxRecDepth 100000
set_option linter.unusedSimpArgs false
set_option maxHeartbeats 2000000 in
theorem fits_any (x : MT_) (w : World) (hx : x.Good w) :
 Calls Tryz.prog 160 #[.agg x.cells.toArray] w fun e w' => e = .returned (.bool (decide (wrap64 (tenC x) ≤ x.r_))) ∧ Below w.heap.size w w' := by
 obtain ⟨w1, hw1⟩ : ∃ w1, w.alloc (.cells #[.string x.x_, .int .i64 x.r_, .int .i64 x.v_, .slice x.y_.A x.y_.l.length x.y_.c, .slice x.g_.A x.g_.l.length x.g_.c, .slice x.t_.A x.t_.l.length x.t_.c, .slice x.h_.A x.h_.l.length x.h_.c] 27) = w1 := ⟨_, rfl⟩
 have hB1 : Below w.heap.size w w1 := hw1 ▸ (Below.refl _ w).alloc (Nat.le_refl _) _
 have k1 : Blk w1 w.heap.size 27 x.cells := hw1 ▸ Blk.new w _ _
 have hlt := k1.lt
 have z0 := k1.cell 0
 have z1 := k1.cell 1
 have z2 := k1.cell 2
 have z3 := k1.cell 3
 have z4 := k1.cell 4
 have z5 := k1.cell 5
 have z6 := k1.cell 6
 simp only [gZa, gZb] at z0 z1 z2 z3 z4 z5 z6
 have HT := zI (fun W (hW : Below w1.heap.size w1 W) => tenant_any x W ((hx.below hB1).below hW))
 generalize wrap64 (tenC x) = T at *
 have HW1 := zI hw1
 have HB := zI hB1
 clear hw1 k1 hB1
 go_enter Tryz.func160, Tryz.ntmps160
 go_upto_region 1 with fail
 rw [HW1.out]
 refine wp_region_noPanic ?_
 refine zcX 4 (fun W => W.cell? ⟨w.heap.size, 0, none⟩ = some (.string x.x_) ∧ W.cell? ⟨w.heap.size, 1, none⟩ = some (.int .i64 x.r_) ∧ W.cell? ⟨w.heap.size, 2, none⟩ = some (.int .i64 x.v_) ∧ W.cell? ⟨w.heap.size, 3, none⟩ = some (.slice x.y_.A x.y_.l.length x.y_.c) ∧ W.cell? ⟨w.heap.size, 4, none⟩ = some (.slice x.g_.A x.g_.l.length x.g_.c) ∧ W.cell? ⟨w.heap.size, 5, none⟩ = some (.slice x.t_.A x.t_.l.length x.t_.c) ∧ W.cell? ⟨w.heap.size, 6, none⟩ = some (.slice x.h_.A x.h_.l.length x.h_.c)) (by kernel_rfl) ⟨z0, z1, z2, z3, z4, z5, z6⟩ (fun hHeld => ?_)
 refine tkA 16 (i := 0) (oi := ⟨some 3, _, _, _, _, _⟩) rfl hHeld ?_
 try simp only [zP]
 refine tkA 16 (i := 2) (oi := ⟨some 5, _, _, _, _, _⟩) rfl hHeld ?_
 try simp only [zP]
 refine tkA 16 (i := 3) (oi := ⟨some 6, _, _, _, _, _⟩) rfl hHeld ?_
 try simp only [zP]
 clear hHeld
 refine zdZ 16 1 2 [(1, 4)] (fun s v w => match s with
  | 4 => v = .int .i64 T
  | _ => True) (fun w w' => Below w.heap.size w w') (by kernel_rfl) (by kernel_rfl) bZh ⟨?_, trivial⟩ (fun w' hB => ⟨(hB.cell (p := ⟨w.heap.size, 0, none⟩) hlt).trans z0, (hB.cell (p := ⟨w.heap.size, 1, none⟩) hlt).trans z1, (hB.cell (p := ⟨w.heap.size, 2, none⟩) hlt).trans z2, (hB.cell (p := ⟨w.heap.size, 3, none⟩) hlt).trans z3, (hB.cell (p := ⟨w.heap.size, 4, none⟩) hlt).trans z4, (hB.cell (p := ⟨w.heap.size, 5, none⟩) hlt).trans z5, (hB.cell (p := ⟨w.heap.size, 6, none⟩) hlt).trans z6⟩) ⟨?_, trivial⟩ ?_
 focus
  intro v w w' h hB
  exact h
 focus
  intro vs w2 hBf hFf o ho K hK
  obtain rfl : (⟨some 4, _, _, _, _, _⟩ : Oper) = o := Option.some.inj ho
  clear ho
  (try simp only [fillL, zQ, zP] at hK ⊢)
  go_simp
  refine (HT.out _ ((Below.refl w1.heap.size w1).drew.trans hBf)).mono ?_
  rintro e w3 ⟨rfl, hB3⟩
  refine hK.out _ _ ⟨rfl, hB3⟩
 intro vs w2 hBf hFf
 (try simp only [fillL, zQ, zP])
 have e1 : vs 4 = .int .i64 T := (hFf (1, 4) (by simp))
 simp only [e1]
 have hBw5 : Below w.heap.size w w2 := HB.out.trans (((Below.refl w1.heap.size w1).drew.trans hBf).mono HB.out.size)
 refine zcZ (i := 4) (o := ⟨some 7, _, _, _, _, _⟩) (by kernel_rfl) rfl (by kernel_rfl) (fun K hK => ?_)
 go_simp
 refine hK.out _ _ ?_
 clear hK K
 try simp only [zP]
 refine zcZ (i := 5) (o := ⟨some 2, _, _, _, _, _⟩) (by kernel_rfl) rfl (by kernel_rfl) (fun K hK => ?_)
 go_simp
 refine hK.out _ _ ?_
 clear hK K
 try simp only [zP]
 refine zdQ (by kernel_rfl) ?_ _
 refine NoPanic.normal ?_
 go_wp2
 go_ret
 exact ⟨rfl, hBw5⟩
end Go.Proofs.YtimmcmjipmkebaaGreat
