/-
  shape: Create, Settle. Conditions: the tenant is as it comes in.
-/
import Derived.Test.YtoabkbnhdekbdaaGreatRHRF
import Derived.Test.YtoabkbnhdekbdaaGreatRHLB
import Derived.Test.YtoabkbnhdekbdaaGreatRTCU
import Derived.Test.YtoabkbnhdekbdaaGreatRTMB
import Derived.Test.YtoabkbnhdekbdaaGreatRGRX
import Derived.Test.YtoabkbnhdekbdaaGreatRTNP
import Derived.Test.YtoabkbnhdekbdaaGreatRTMG
import Derived.Test.YtoabkbnhdekbdaaGreatRSL
import Derived.Test.YtoabkbnhdekbdaaGreatREVStage
import Derived.Test.YtoabkbnhdekbdaaGreatRTMH
import Derived.Test.YtoabkbnhdekbdaaGreatRUSF
import Derived.Test.YtoabkbnhdekbdaaGreatRENN
import Derived.Test.YtoabkbnhdekbdaaGreatRTMD
import Derived.Lib.AppendZeros
namespace Go.Proofs.YtoabkbnhdekbdaaGreat
open Go.ChangeShapes Go.WideShapes Go.ChangeAt Go.RowKit
set_option maxRecDepth 100000
set_option linter.unusedSimpArgs false
theorem ansT_no {w w' : World} {E : Int} (h : Below w.heap.size w w') : AnsT w (noT, E) (.returned (.tuple #[.agg noM.cells.toArray, .int .i64 E])) w' := ⟨noM, rfl, noM_own _ _, noM_good _, rfl, h⟩
def settleU (t : PTenant) : PTenant × Int := if okT t = true then setlP t else (noT, 9)
set_option maxHeartbeats 1000000 in
theorem settle_any (x : MTenant) (w : World) (hx : x.Good w) :
    Calls Tryz.prog 79 #[.agg x.cells.toArray] w fun e w' => AnsT w (settleU x.plain) e w' := by
  obtain ⟨a1, hw1⟩ : ∃ a1, w.alloc (.cells #[.string x.name_, .int .i64 x.quota_, .int .i64 x.next_, .slice x.sets_.A x.sets_.l.length x.sets_.c, .slice x.grants_.A x.grants_.l.length x.grants_.c, .slice x.stages_.A x.stages_.l.length x.stages_.c, .slice x.log_.A x.log_.l.length x.log_.c] 27) = a1 := ⟨_, rfl⟩
  have b1 : Below w.heap.size w a1 := hw1 ▸ (Below.refl _ w).alloc (Nat.le_refl _) _
  have k1 : Blk a1 w.heap.size 27 [.string x.name_, .int .i64 x.quota_, .int .i64 x.next_, .slice x.sets_.A x.sets_.l.length x.sets_.c, .slice x.grants_.A x.grants_.l.length x.grants_.c, .slice x.stages_.A x.stages_.l.length x.stages_.c, .slice x.log_.A x.log_.l.length x.log_.c] := hw1 ▸ Blk.new w _ _
  obtain ⟨a2, hw2⟩ : ∃ a2, a1.alloc (.cells #[.string ⟨#[]⟩, .int .i64 0, .int .i64 0, .slice none 0 0, .slice none 0 0, .slice none 0 0, .slice none 0 0] 27) = a2 := ⟨_, rfl⟩
  have b2 : Below a1.heap.size a1 a2 := hw2 ▸ (Below.refl _ a1).alloc (Nat.le_refl _) _
  have k2 : Blk a2 a1.heap.size 27 [.string ⟨#[]⟩, .int .i64 0, .int .i64 0, .slice none 0 0, .slice none 0 0, .slice none 0 0, .slice none 0 0] := hw2 ▸ Blk.new a1 _ _
  have hX2 : w.heap.size + 1 = a1.heap.size := by rw [← hw1, World.size_alloc]
  have hB1 : Below w.heap.size w a1 := b1
  have hB2 : Below w.heap.size w a2 := hB1.trans (b2.mono hB1.size)
  have k1 := k1.of b2
  have hs2 := hB2.size
  have hs1 := hB1.size
  have ht1 : a1.heap.size ≤ a2.heap.size := b2.size
  have HW1 := Lib.hid hw1
  have HW2 := Lib.hid hw2
  clear hw1 b1 hw2 b2
  have hx2 := hx.below hB2
  have HR := Lib.hid (check_any14 x a2 hx2)
  have HC := Lib.hid (fun W (hW : Below a2.heap.size a2 W) => copy_any x W (hx2.below hW))
  have HG := Lib.hid hx2
  unfold settleU
  clear hx hx2
  obtain ⟨q0, q1, q2, q3, q4, q5, q6⟩ := k1.all7
  rcases hk : okT x.plain with _ | _
  · rw [hk, if_neg (by decide)] at HR
    rw [if_neg (by decide)]
    clear hk
    go_enter Tryz.func79, Tryz.ntmps79
    go_upto_region 1 with fail
    rw [HW1.out, HW2.out]
    try rw [hX2]
    go_wp2_with fail
    refine HR.out.mono ?_
    rintro e w3 ⟨rfl, hV⟩
    have K2 := k2.of hV
    have hX := hB2.trans (hV.mono hs2)
    obtain ⟨zr0, zr1, zr2, zr3, zr4, zr5, zr6⟩ := K2.all7
    obtain ⟨zrf0, zrf1, zrf2, zrf3, zrf4, zrf5, zrf6⟩ := K2.fz7
    go_wp2
    generalize hwE : World.setCell _ ⟨a1.heap.size, 6, none⟩ _ = wE
    obtain ⟨KE, SE, ZE, BE⟩ := store7 K2 hwE
    obtain ⟨ze0, ze1, ze2, ze3, ze4, ze5, ze6⟩ := KE.all7
    refine bodyPost_ret (v := .tuple #[.agg #[.string ⟨#[]⟩, .int .i64 0, .int .i64 0, .slice none 0 0, .slice none 0 0, .slice none 0 0, .slice none 0 0], .int .i64 9]) (by simp [results, Tryz.results79, go_sem, ze0, ze1, ze2, ze3, ze4, ze5, ze6]) rfl ?_
    exact ansT_no (BE _ _ hX hs1)
  · rw [hk, if_pos rfl] at HR
    rw [if_pos rfl]
    clear hk
    go_enter Tryz.func79, Tryz.ntmps79
    go_upto_region 1 with fail
    rw [HW1.out, HW2.out]
    try rw [hX2]
    go_wp2_with fail
    refine HR.out.mono ?_
    rintro e w3 ⟨rfl, hV⟩
    have K1 := k1.of hV
    have K8 := k2.of hV
    have hV7 := hV
    obtain ⟨d0, d1, d2, d3, d4, d5, d6⟩ := K1.all7
    go_wp2_with fail
    refine (HC.out _ hV).mono ?_
    rintro e w7 ⟨y, rfl, ho7, hp7, hV8⟩
    have hV9 := hV7.trans (hV8.mono hV7.size)
    have hg7 := MTenant.Good.of_own HG.out hp7 ho7
    have HS := Lib.hid (settled_any y w7 hg7)
    have HP7 := Lib.hid hp7
    obtain ⟨E, hE⟩ : ∃ E, (setlP y.plain).2 = E := ⟨_, rfl⟩
    rw [hE] at HS
    have hEE : (setlP x.plain).2 = E := by rw [← hE, hp7]
    have HE := Lib.hid hEE
    clear hp7 hE hEE
    go_wp2_with fail
    refine HS.out.mono ?_
    rintro e w8 ⟨rfl, hV10, hfr⟩
    have hV11 := hV9.trans (hV10.mono hV9.size)
    have K9 := (K8.of hV8).of hV10
    have hX := hB2.trans (hV11.mono hs2)
    have hR8 : a1.heap.size < w3.heap.size := K8.lt
    have hX6 := hB2.trans (hV7.mono hs2)
    have hs6 := hX6.size
    obtain ⟨z, hz⟩ : ∃ z, setlM y = z := ⟨_, rfl⟩
    have hoz : OwnTe w3.heap.size w8 z := hz ▸ setlM_own (ho7.stays fun b _ hb2 => hfr b hb2)
    have hgz : z.Good w8 := hz ▸ setlM_good (hg7.below hV10)
    have hpz : z.plain = (setlP y.plain).1 := hz ▸ setlM_plain y
    rw [hz]
    obtain ⟨zr0, zr1, zr2, zr3, zr4, zr5, zr6⟩ := K9.all7
    obtain ⟨zrf0, zrf1, zrf2, zrf3, zrf4, zrf5, zrf6⟩ := K9.fz7
    go_wp2
    generalize hwE : World.setCell _ ⟨a1.heap.size, 6, none⟩ _ = wE
    obtain ⟨KE, SE, ZE, BE⟩ := store7 K9 hwE
    obtain ⟨ze0, ze1, ze2, ze3, ze4, ze5, ze6⟩ := KE.all7
    refine bodyPost_ret (v := .tuple #[.agg #[.string z.name_, .int .i64 z.quota_, .int .i64 z.next_, .slice z.sets_.A z.sets_.l.length z.sets_.c, .slice z.grants_.A z.grants_.l.length z.grants_.c, .slice z.stages_.A z.stages_.l.length z.stages_.c, .slice z.log_.A z.log_.l.length z.log_.c], .int .i64 E]) (by simp [results, Tryz.results79, go_sem, ze0, ze1, ze2, ze3, ze4, ze5, ze6]) rfl ?_
    rw [HP7.out] at hpz
    have hoz2 := hoz.store hR8 SE
    exact ⟨z, by rw [HE.out], hoz2.base hs6, MTenant.Good.of_own hgz rfl hoz2, hpz, BE _ _ hX hs1⟩
theorem place_ways {x : MTenant} {p : ByteArray} (h : placeE x.plain p = 0) : ∃ (j : Nat) (s : MSet), placeI x p = j ∧ x.sets_.l[j]? = some s ∧ s.path_ = p ∧ setAt x.plain p = some s.plain ∧ okT x.plain = true ∧ isPath (bs p) = true ∧ (∀ y ∈ x.sets_.l.take j, y.path_ ≠ p) := by
  have h1 : askE x.plain p = 0 := by
    unfold placeE at h
    split at h
    · rename_i h2
      exact absurd h h2
    · rename_i h2
      exact Classical.not_not.1 h2
  have h2 : hasSet x.plain p = true := by
    unfold placeE at h
    rw [if_neg (by rw [h1]; decide)] at h
    split at h
    · assumption
    · exact absurd h (by decide)
  have h3 : placeI x p = findM x p := by
    unfold placeI
    rw [if_neg (by rw [h]; decide)]
  have hok : okT x.plain = true ∧ isPath (bs p) = true := by
    unfold askE at h1
    split at h1
    · exact absurd h1 (by decide)
    · rename_i a
      split at h1
      · exact absurd h1 (by decide)
      · rename_i b
        exact ⟨by simpa using a, by simpa using b⟩
  rcases set_ways x p with ⟨a, b⟩ | ⟨j, s, a, b, c, d⟩
  · rw [hasSet_find, a] at h2
    exact absurd h2 (by decide)
  · refine ⟨j, s, by rw [h3, a], b, c, d, hok.1, hok.2, fun y hy e => ?_⟩
    rcases findI_ways (fun s : MSet => decide (s.path_ = p)) x.sets_.l with ⟨a2, _⟩ | ⟨j2, s2, a2, b2, c2, d2⟩
    · unfold findM at a
      rw [a2] at a
      omega
    · have ej : j2 = j := by
        unfold findM at a
        rw [a2] at a
        omega
      subst ej
      have := d2 y hy
      simp [e] at this
def changedU (t : PTenant) (p : ByteArray) (e : PSet → Int) (f : PSet → PSet) : PTenant × Int := if placeE t p ≠ 0 then (noT, placeE t p) else match setAt t p with
  | none => (noT, 71)
  | some s => if e s ≠ 0 then (noT, e s) else ({ t with sets_ := chS p f t.sets_ }, 0)
theorem Oth.more {C : Nat} {Z W W' : World} (h : Oth C Z W) (hB : Below Z.heap.size W W') : Oth C Z W' := ⟨hB.os.trans h.os, hB.tape.trans h.tape, hB.output.trans h.output, Nat.le_trans h.size hB.size, fun k hk hc => (hB.block k hk).trans (h.block k hk hc)⟩
theorem Oth.keeps {C : Nat} {Z W : World} (h : Oth C Z W) {cs : List Value} (hb : Blk Z C 27 cs) : Keeps 27 Z W := fun b cur e' hbb hne => h.block b (Array.getElem?_eq_some_iff.1 hbb).1 (by
  rintro rfl
  unfold Blk at hb
  rw [hbb] at hb
  injection hb with hb
  injection hb with _ h6 _
  exact hne h6)
def nT : ByteArray := ⟨#[116]⟩
def nA : ByteArray := ⟨#[97]⟩
def setN0 : MSet := ⟨ByteArray.empty, ByteArray.empty, ⟨none, [], 0⟩, ⟨none, [], 0⟩, ⟨none, [], 0⟩⟩
def tenN (g : Nat) : MTenant := ⟨nT, 9, 1, ⟨some ⟨g, 0, none⟩, [setN0], 1⟩, ⟨none, [], 0⟩, ⟨none, [], 0⟩, ⟨none, [], 0⟩⟩
theorem tenN_good {g : Nat} {W : World} (k : Blk W g 49 setN0.cells) : (tenN g).Good W := by
  refine ⟨(by show nT.size ≤ 140737488351232; decide), (by show (-9223372036854775808 : Int) ≤ 9 ∧ (9 : Int) ≤ 9223372036854775807; decide), (by show (-9223372036854775808 : Int) ≤ 1 ∧ (1 : Int) ≤ 9223372036854775807; decide), ⟨?_, ?_, by simp [tenN], (fun h => by cases h), by simp [tenN]⟩, slNone _ _ _ _, slNone _ _ _ _, slNone _ _ _ _⟩
  · intro _
    refine ⟨g, 0, rfl, k.lt, fun j u hu => ?_⟩
    rw [Nat.zero_add, k.cell j]
    simpa [tenN] using hu
  · intro y hy
    simp [tenN] at hy
    subst hy
    exact ⟨by decide, by decide, slNone _ _ _ _, slNone _ _ _ _, slNone _ _ _ _⟩
theorem tenN_ok (g : Nat) : okT (tenN g).plain = true := by
  unfold okT
  rw [Bool.and_eq_true, Bool.and_eq_true, Bool.and_eq_true, Bool.and_eq_true, Bool.and_eq_true, Bool.and_eq_true, Bool.and_eq_true, Bool.and_eq_true, Bool.and_eq_true, Bool.and_eq_true]
  refine ⟨(by show isName (bs nT) = true; decide), (by show amt 0 9 = true; decide), (by show amt 1 1 = true; decide), rfl, ?_, (by show okG [] = true; decide), rfl, rfl, ?_, (by show goodL stageB ltInto [] = true; rfl), rfl⟩
  · simp [hasSet, setAt, tenN, MTenant.plain, setN0, MSet.plain]
  · simp [goodL, riseB, tenN, MTenant.plain, setN0, MSet.plain, setB, upB, (upP_none (p := ByteArray.empty) (by decide)).2 rfl, origB, snapsB, noTwo]
    decide
theorem tenN_sets (g : Nat) : (tenN g).plain.sets_ = [⟨ByteArray.empty, ByteArray.empty, [], [], []⟩] := rfl
set_option maxHeartbeats 1000000 in
theorem newN (w : World) :
    Calls Tryz.prog 62 #[.string ⟨#[116]⟩, .int .i64 9] w fun e w' => ∃ g, e = .returned (.tuple #[.agg #[.string ⟨#[116]⟩, .int .i64 9, .int .i64 1, .slice (some ⟨g, 0, none⟩) 1 1, .slice none 0 0, .slice none 0 0, .slice none 0 0], .int .i64 0]) ∧ Blk w' g 49 [.string ByteArray.empty, .string ByteArray.empty, .slice none 0 0, .slice none 0 0, .slice none 0 0] ∧ Below w.heap.size w w' := by
  have HN : Hid (∀ W, Calls Tryz.prog 88 #[.string nT] W fun e w' => e = .returned (.bool true) ∧ W = w') := Lib.hid fun W => by
    have := refName_any nT (by decide) W
    rwa [show isName (bs nT) = true by decide] at this
  have HA : Hid (∀ W, Calls Tryz.prog 90 #[.int .i64 9, .int .i64 0] W fun e w' => e = .returned (.bool true) ∧ Below W.heap.size W w') := Lib.hid fun W => by
    have := amountB 0 9 W
    rwa [show amt 0 9 = true by decide] at this
  obtain ⟨a1, hw1⟩ : ∃ a1, w.alloc (.cells #[.string ⟨#[]⟩, .int .i64 0, .int .i64 0, .slice none 0 0, .slice none 0 0, .slice none 0 0, .slice none 0 0] 27) = a1 := ⟨_, rfl⟩
  have hB1 : Below w.heap.size w a1 := hw1 ▸ (Below.refl _ w).alloc (Nat.le_refl _) _
  have k1 : Blk a1 w.heap.size 27 [.string ⟨#[]⟩, .int .i64 0, .int .i64 0, .slice none 0 0, .slice none 0 0, .slice none 0 0, .slice none 0 0] := hw1 ▸ Blk.new w _ _
  have hs1 := hB1.size
  have HW1 := Lib.hid hw1
  have e1 : (⟨#[116]⟩ : ByteArray) = nT := rfl
  rw [e1]
  clear hw1 e1
  generalize nT = t at *
  go_enter Tryz.func62, Tryz.ntmps62
  go_upto_region 1 with fail
  rw [HW1.out]
  go_wp2_with fail
  refine (HN.out _).mono ?_
  rintro e w3 ⟨rfl, hw3⟩
  subst hw3
  have hV := Below.refl a1.heap.size a1
  go_wp2_with fail
  refine (HA.out _).mono ?_
  rintro e w4 ⟨rfl, hV2⟩
  have hV3 := hV.trans (hV2.mono hV.size)
  have K2 := k1.of hV3
  have hX := hB1.trans (hV3.mono hs1)
  have hlt := K2.lt
  have hs4 := hX.size
  obtain ⟨zr0, zr1, zr2, zr3, zr4, zr5, zr6⟩ := K2.all7
  obtain ⟨zrf0, zrf1, zrf2, zrf3, zrf4, zrf5, zrf6⟩ := K2.fz7
  go_wp2
  generalize hwE : World.setCell _ ⟨w.heap.size, 6, none⟩ _ = wE
  obtain ⟨KE, SE, ZE, BE⟩ := store7 K2 hwE
  have KS : Blk (wE.alloc (.cells #[.string ⟨#[]⟩, .string ⟨#[]⟩, .slice none 0 0, .slice none 0 0, .slice none 0 0] 49)) wE.heap.size 49 [.string ⟨#[]⟩, .string ⟨#[]⟩, .slice none 0 0, .slice none 0 0, .slice none 0 0] := Blk.new wE _ _
  rw [ZE] at KS
  have K6 := KE.alloc (.cells #[.string ⟨#[]⟩, .string ⟨#[]⟩, .slice none 0 0, .slice none 0 0, .slice none 0 0] 49)
  have hX5 := (BE _ _ hX (Nat.le_refl _)).alloc (by rw [ZE]; exact hs4) (.cells #[.string ⟨#[]⟩, .string ⟨#[]⟩, .slice none 0 0, .slice none 0 0, .slice none 0 0] 49)
  obtain ⟨ze0, ze1, ze2, ze3, ze4, ze5, ze6⟩ := K6.all7
  refine bodyPost_ret (v := .tuple #[.agg #[.string t, .int .i64 9, .int .i64 1, .slice (some ⟨w4.heap.size, 0, none⟩) 1 1, .slice none 0 0, .slice none 0 0, .slice none 0 0], .int .i64 0]) (by simp [results, Tryz.results62, go_sem, ze0, ze1, ze2, ze3, ze4, ze5, ze6]) rfl ?_
  exact ⟨w4.heap.size, rfl, KS, hX5⟩
def AnsG (w : World) (P : PTenant × Int) (e : Ending) (w' : World) : Prop := ∃ y : MTenant, e = .returned (.tuple #[.agg y.cells.toArray, .int .i64 P.2]) ∧ y.Good w' ∧ y.plain = P.1 ∧ Below w.heap.size w w'
theorem ansG_no {w w' : World} {E : Int} (h : Below w.heap.size w w') : AnsG w (noT, E) (.returned (.tuple #[.agg noM.cells.toArray, .int .i64 E])) w' := ⟨noM, rfl, noM_good _, rfl, h⟩
theorem ask_ok {t : PTenant} {p : ByteArray} (h : askE t p = 0) : okT t = true ∧ isPath (bs p) = true := by
  unfold askE at h
  split at h
  · exact absurd h (by decide)
  · rename_i a
    split at h
    · exact absurd h (by decide)
    · rename_i b
      exact ⟨by simpa using a, by simpa using b⟩
end Go.Proofs.YtoabkbnhdekbdaaGreat
