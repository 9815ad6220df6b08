/-
  shape: what Free, Set, Unset do to a set. Conditions: the tenant is as it comes in.
-/
import Derived.Test.YtoabkbnhdekbdaaGreatMHWB
import Derived.Test.YtoabkbnhdekbdaaGreatMEG
import Derived.Test.YtoabkbnhdekbdaaGreatMEC
import Derived.Test.YtoabkbnhdekbdaaGreatMBLA
import Derived.Test.YtoabkbnhdekbdaaGreatMHCR
import Derived.Test.YtoabkbnhdekbdaaGreatMRPP
import Derived.Test.YtoabkbnhdekbdaaGreatMTMD
import Derived.Test.YtoabkbnhdekbdaaGreatMHLB
import Derived.Test.YtoabkbnhdekbdaaGreatMTNP
import Derived.Test.YtoabkbnhdekbdaaGreatMTMG
import Derived.Test.YtoabkbnhdekbdaaGreatMSL
namespace Go.Proofs.YtoabkbnhdekbdaaGreat
set_option maxHeartbeats 2000000
open Go.ChangeShapes Go.WideShapes Go.ChangeAt Go.RowKit
set_option maxRecDepth 100000
set_option linter.unusedSimpArgs false
theorem free_okK {l : List Bk} {i c : Int} (h : freeE l i c = 0) : okK l = true := by
  unfold freeE at h
  split at h
  · exact absurd h (by decide)
  · rename_i k
    simpa using k
theorem unset_okP {l : List Pr} {k : ByteArray} (h : unsetE l k = 0) : okP l = true := by
  unfold unsetE at h
  split at h
  · omega
  · rename_i h0
    exact (Bool.not_eq_false _).mp h0
theorem shFree1_any (i c : Int) (BI : Nat) (BC : Nat) (W : World) (n g j : Nat) (y : MTenant) (s : MSet) (hn : n ≤ W.heap.size) (ho : OwnTe n W y) (hgy : y.Good W) (hA : y.sets_.A = some ⟨g, 0, none⟩) (hj : y.sets_.l[j]? = some s) (hng : n ≤ g) (hBI : BI < n) (cI : W.cell? ⟨BI, 0, none⟩ = some (.int .i64 i)) (hBC : BC < n) (cC : W.cell? ⟨BC, 0, none⟩ = some (.int .i64 c)) :
    Calls Tryz.prog 52 (#[.pointer (some ⟨g, j * 5, none⟩)] ++ #[.pointer (some ⟨BI, 0, none⟩), .pointer (some ⟨BC, 0, none⟩)]) W fun e2 W' => ∃ s' : MSet, e2 = .returned (.int .i64 (freeE s.body_.l i c)) ∧ (freeE s.body_.l i c = 0 → s'.plain = { s.plain with body_ := freeK s.plain.body_ i c } ∧ OwnTe n W' { y with sets_ := ⟨some ⟨g, 0, none⟩, y.sets_.l.set j s', y.sets_.c⟩ } ∧ ({ y with sets_ := ⟨some ⟨g, 0, none⟩, y.sets_.l.set j s', y.sets_.c⟩ } : MTenant).Good W') ∧ Below n W W' := by
  obtain ⟨b, off, hA2, hbl, hcc⟩ := Rd.elem (n := 5) (fun _ => rfl) (by omega) hgy.gsets_.rd hj
  rw [hA] at hA2
  injection hA2 with hA2
  injection hA2 with e1 e2
  subst e1 e2
  have hsg := hgy.gsets_.el s (List.mem_of_getElem? hj)
  have c0 : W.cell? ⟨g, j * 5 + 2, none⟩ = some (.slice s.body_.A s.body_.l.length s.body_.c) := by
    have := hcc 2 _ rfl
    rwa [Nat.zero_add] at this
  have hrow := ho.sets
  unfold Sl.val at hrow
  rw [hA] at hrow
  have cf := own_frozen hrow (j * 5 + 2)
  have hlen := hsg.gbody_.len
  have HC := Lib.hid (fun (V : World) (hV : Below W.heap.size W V) => blkFree_any s.body_.A s.body_.c s.body_.l.length s.body_.l rfl (by omega) (fun z hz => (hsg.gbody_.el z hz).1) i c V (hsg.gbody_.rd.below hV))
  obtain ⟨E, hE⟩ : ∃ E, freeE s.body_.l i c = E := ⟨_, rfl⟩
  obtain ⟨R, hR⟩ : ∃ R, freeR s.body_.l i c = R := ⟨_, rfl⟩
  rw [hE, hR] at HC
  rw [hE]
  have HE := Lib.hid hE
  have HR := Lib.hid hR
  have HA := Lib.hid hA
  have HJ := Lib.hid hj
  have HO := Lib.hid ho
  have HG := Lib.hid hgy
  have HS := Lib.hid hsg
  have hgl := hbl
  clear hE hR hA hj hcc hrow ho hgy hsg
  have hlI : BI < W.heap.size := by omega
  have hlC : BC < W.heap.size := by omega
  go_enter Tryz.func52, Tryz.ntmps52
  go_upto_region 1 with fail
  refine wp_region_noPanic ?_
  refine wp_region_last 13 (fun W => W.cell? ⟨g, j * 5 + 2, none⟩ = some (.slice s.body_.A s.body_.l.length s.body_.c) ∧ W.frozen? ⟨g, j * 5 + 2, none⟩ = false ∧ W.cell? ⟨BI, 0, none⟩ = some (.int .i64 i) ∧ W.cell? ⟨BC, 0, none⟩ = some (.int .i64 c)) (by kernel_rfl) ⟨c0, cf, cI, cC⟩ (fun hHeld => ?_)
  refine tkA 16 (i := 0) (oi := ⟨some 6, _, _, _, _, _⟩) rfl hHeld ?_
  try simp only [Act.put, pZa, pZb, pZc]
  refine tkA 16 (i := 1) (oi := ⟨some 7, _, _, _, _, _⟩) rfl hHeld ?_
  try simp only [Act.put, pZa, pZb, pZc]
  refine tkA 16 (i := 2) (oi := ⟨some 8, _, _, _, _, _⟩) rfl hHeld ?_
  try simp only [Act.put, pZa, pZb, pZc]
  refine tkA 16 (i := 3) (oi := ⟨some 9, _, _, _, _, _⟩) rfl hHeld ?_
  try simp only [Act.put, pZa, pZb, pZc]
  refine tkA 16 (i := 4) (oi := ⟨some 10, _, _, _, _, _⟩) rfl hHeld ?_
  try simp only [Act.put, pZa, pZb, pZc]
  refine tkA 16 (i := 5) (oi := ⟨some 11, _, _, _, _, _⟩) rfl hHeld ?_
  try simp only [Act.put, pZa, pZb, pZc]
  refine tkA 16 (i := 6) (oi := ⟨some 12, _, _, _, _, _⟩) rfl hHeld ?_
  try simp only [Act.put, pZa, pZb, pZc]
  clear hHeld
  refine wpAnyL_facts 16 1 7 [(7, 13)] (fun s v w => match s with
    | 13 => ∃ A13 c13, v = .tuple #[.slice A13 R.length c13, .int .i64 E] ∧ w.ownsRow W.heap.size 103 2 (.slice A13 R.length c13) R.length (R.flatMap bkC)
    | _ => True) (fun w w' => Below w.heap.size w w') (by kernel_rfl) (by kernel_rfl) bZh ⟨?_, trivial⟩ (fun w' hB => ⟨(hB.cell (p := ⟨g, j * 5 + 2, none⟩) hgl).trans c0, (hB.frozen (p := ⟨g, j * 5 + 2, none⟩) hgl).trans cf, (hB.cell (p := ⟨BI, 0, none⟩) hlI).trans cI, (hB.cell (p := ⟨BC, 0, none⟩) hlC).trans cC⟩) ⟨?_, trivial⟩ ?_
  focus
    intro v w w' h hB
    exact (by obtain ⟨A13, c13, e, hb⟩ := h; exact ⟨A13, c13, e, ownBelow hb hB (Nat.le_refl _)⟩)
  focus
    intro vs w2 hBf hFf o ho K hK
    obtain rfl : (⟨some 13, _, _, _, _, _⟩ : Oper) = o := Option.some.inj ho
    clear ho
    (try simp only [fillL, pZd, pZe, Act.put, pZa, pZb, pZc] at hK ⊢)
    go_simp
    refine (HC.out _ ((Below.refl W.heap.size W).drew.trans hBf)).mono ?_
    rintro e w4 ⟨v4, rfl, ho4, hB4⟩
    obtain ⟨A4, c4, rfl, _, _, _, _⟩ := ownAny ho4
    exact hK.out _ _ ⟨⟨A4, c4, rfl, ownBase ho4 ((Below.refl W.heap.size W).drew.trans hBf).size⟩, hB4⟩
  intro vs w2 hBf hFf
  (try simp only [fillL, pZd, pZe, Act.put, pZa, pZb, pZc])
  obtain ⟨A13, c13, e13, h13⟩ := (hFf (7, 13) (by simp))
  simp only [e13]
  have hBw : Below W.heap.size W w2 := (Below.refl W.heap.size W).drew.trans hBf
  have H13 := Lib.hid h13
  clear h13
  have hHeld : (fun W => W.cell? ⟨g, j * 5 + 2, none⟩ = some (.slice s.body_.A s.body_.l.length s.body_.c) ∧ W.frozen? ⟨g, j * 5 + 2, none⟩ = false ∧ W.cell? ⟨BI, 0, none⟩ = some (.int .i64 i) ∧ W.cell? ⟨BC, 0, none⟩ = some (.int .i64 c)) w2 := ⟨(hBf.cell (p := ⟨g, j * 5 + 2, none⟩) hgl).trans c0, (hBf.frozen (p := ⟨g, j * 5 + 2, none⟩) hgl).trans cf, (hBf.cell (p := ⟨BI, 0, none⟩) hlI).trans cI, (hBf.cell (p := ⟨BC, 0, none⟩) hlC).trans cC⟩
  refine tkA 16 (i := 8) (oi := ⟨some 5, _, _, _, _, _⟩) rfl hHeld ?_
  try simp only [Act.put, pZa, pZb, pZc]
  refine tkA 16 (i := 9) (oi := ⟨some 14, _, _, _, _, _⟩) rfl hHeld ?_
  try simp only [Act.put, pZa, pZb, pZc]
  refine wpAnyL_takeW (i := 10) (oi := ⟨some 15, _, _, _, _, _⟩) (v := ?_) rfl (by kernel_rfl) (by kernel_rfl) (by kernel_rfl) (by kernel_rfl) (fun _ _ _ h => h) (Or.inl ⟨by rfl, ?_⟩) (.inr hHeld) ?_
  rotate_left
  focus (intro w hSw; (try dsimp only at hSw); go_simp; try (with_reducible rfl))
  try simp only [Act.put, pZa, pZb, pZc]
  refine tkA 16 (i := 11) (oi := ⟨some 16, _, _, _, _, _⟩) rfl hHeld ?_
  try simp only [Act.put, pZa, pZb, pZc]
  refine tkA 16 (i := 12) (oi := ⟨some 17, _, _, _, _, _⟩) rfl hHeld ?_
  try simp only [Act.put, pZa, pZb, pZc]
  refine wpAnyL_last (i := 13) (o := ⟨none, _, _, _, _, _⟩) (by kernel_rfl) rfl (by kernel_rfl) (fun K hK => ?_)
  go_simp
  go_wp2_with fail
  refine hK.out _ _ ?_
  clear hK K
  try simp only [Act.put, pZa, pZb, pZc]
  refine wpAnyL_last (i := 14) (o := ⟨some 4, _, _, _, _, _⟩) (by kernel_rfl) rfl (by kernel_rfl) (fun K hK => ?_)
  go_simp
  refine hK.out _ _ ?_
  clear hK K
  try simp only [Act.put, pZa, pZb, pZc]
  refine wpAnyL_done (by kernel_rfl) ?_ _
  refine NoPanic.normal ?_
  go_wp2
  go_ret
  refine ⟨⟨s.path_, s.origin_, ⟨A13, R, c13⟩, s.snaps_, s.own_⟩, rfl, fun h0 => ?_, (hBw.mono hn).setCell (p := ⟨g, j * 5 + 2, none⟩) hng _⟩
  have hE0 : freeE s.body_.l i c = 0 := by rw [HE.out]; exact h0
  have hRk : R = freeK s.body_.l i c := by
    rw [← HR.out]
    exact if_pos hE0
  have hos : OwnSe n w2 (⟨s.path_, s.origin_, ⟨A13, R, c13⟩, s.snaps_, s.own_⟩ : MSet) := by
    have h9 := (HO.out.eset s (List.mem_of_getElem? HJ.out)).below hBw
    exact ⟨ownBase H13.out hn, h9.snaps, h9.own, h9.each⟩
  have hrow2 := (HO.out.below hBw).sets
  unfold Sl.val at hrow2
  rw [HA.out] at hrow2
  have hkp := keeps_setIn hrow2 (j * 5 + 2) (.slice A13 R.length c13)
  have h13' := own_keeps H13.out (by decide) hkp
  have hss := MSet.Good.of_own HS.out rfl (((HO.out.eset s (List.mem_of_getElem? HJ.out)).below hBw).setIn hkp)
  have hgr : SlGood (w2.setCell ⟨g, j * 5 + 2, none⟩ (.slice A13 R.length c13)) bkC goodBk 24 ⟨A13, R, c13⟩ := slGood_of h13' rfl (by rw [hRk]; intro z hz; have h9 := okK_mem (freeK_ok i c (free_okK hE0)) z hz; exact ⟨by omega, by omega, by omega⟩) (by rw [hRk]; have h9 := okK_len (freeK_ok i c (free_okK hE0)); omega)
  refine ⟨?_, turned hBw HO.out HG.out HA.out HJ.out (by decide) (by rfl) hos ⟨hss.gpath_, hss.gorigin_, hgr, hss.gsnaps_, hss.gown_⟩⟩
  rw [hRk]
  rfl
theorem shSet1_any (k v : ByteArray) (hk : k.size ≤ 140737488351232) (hv : v.size ≤ 140737488351232) (BK : Nat) (BV : Nat) (W : World) (n g j : Nat) (y : MTenant) (s : MSet) (hn : n ≤ W.heap.size) (ho : OwnTe n W y) (hgy : y.Good W) (hA : y.sets_.A = some ⟨g, 0, none⟩) (hj : y.sets_.l[j]? = some s) (hng : n ≤ g) (hBK : BK < n) (cK : W.cell? ⟨BK, 0, none⟩ = some (.string k)) (hBV : BV < n) (cV : W.cell? ⟨BV, 0, none⟩ = some (.string v)) :
    Calls Tryz.prog 54 (#[.pointer (some ⟨g, j * 5, none⟩)] ++ #[.pointer (some ⟨BK, 0, none⟩), .pointer (some ⟨BV, 0, none⟩)]) W fun e2 W' => ∃ s' : MSet, e2 = .returned (.int .i64 (setE s.own_.l k v)) ∧ (setE s.own_.l k v = 0 → s'.plain = { s.plain with own_ := putP s.plain.own_ (k, v) } ∧ OwnTe n W' { y with sets_ := ⟨some ⟨g, 0, none⟩, y.sets_.l.set j s', y.sets_.c⟩ } ∧ ({ y with sets_ := ⟨some ⟨g, 0, none⟩, y.sets_.l.set j s', y.sets_.c⟩ } : MTenant).Good W') ∧ Below n W W' := by
  obtain ⟨b, off, hA2, hbl, hcc⟩ := Rd.elem (n := 5) (fun _ => rfl) (by omega) hgy.gsets_.rd hj
  rw [hA] at hA2
  injection hA2 with hA2
  injection hA2 with e1 e2
  subst e1 e2
  have hsg := hgy.gsets_.el s (List.mem_of_getElem? hj)
  have c0 : W.cell? ⟨g, j * 5 + 4, none⟩ = some (.slice s.own_.A s.own_.l.length s.own_.c) := by
    have := hcc 4 _ rfl
    rwa [Nat.zero_add] at this
  have hrow := ho.sets
  unfold Sl.val at hrow
  rw [hA] at hrow
  have cf := own_frozen hrow (j * 5 + 4)
  have hlen := hsg.gown_.len
  have HC := Lib.hid (fun (V : World) (hV : Below W.heap.size W V) => set_any s.own_.A s.own_.c s.own_.l.length s.own_.l rfl (by omega) (fun z hz => hsg.gown_.el z hz) k v hk hv V (hsg.gown_.rd.below hV))
  obtain ⟨E, hE⟩ : ∃ E, setE s.own_.l k v = E := ⟨_, rfl⟩
  obtain ⟨R, hR⟩ : ∃ R, setR s.own_.l k v = R := ⟨_, rfl⟩
  rw [hE, hR] at HC
  rw [hE]
  have HE := Lib.hid hE
  have HR := Lib.hid hR
  have HA := Lib.hid hA
  have HJ := Lib.hid hj
  have HO := Lib.hid ho
  have HG := Lib.hid hgy
  have HS := Lib.hid hsg
  have hgl := hbl
  clear hE hR hA hj hcc hrow ho hgy hsg
  have hlK : BK < W.heap.size := by omega
  have hlV : BV < W.heap.size := by omega
  go_enter Tryz.func54, Tryz.ntmps54
  go_upto_region 1 with fail
  refine wp_region_noPanic ?_
  refine wp_region_last 13 (fun W => W.cell? ⟨g, j * 5 + 4, none⟩ = some (.slice s.own_.A s.own_.l.length s.own_.c) ∧ W.frozen? ⟨g, j * 5 + 4, none⟩ = false ∧ W.cell? ⟨BK, 0, none⟩ = some (.string k) ∧ W.cell? ⟨BV, 0, none⟩ = some (.string v)) (by kernel_rfl) ⟨c0, cf, cK, cV⟩ (fun hHeld => ?_)
  refine tkA 16 (i := 0) (oi := ⟨some 6, _, _, _, _, _⟩) rfl hHeld ?_
  try simp only [Act.put, pZa, pZb, pZc]
  refine tkA 16 (i := 1) (oi := ⟨some 7, _, _, _, _, _⟩) rfl hHeld ?_
  try simp only [Act.put, pZa, pZb, pZc]
  refine tkA 16 (i := 2) (oi := ⟨some 8, _, _, _, _, _⟩) rfl hHeld ?_
  try simp only [Act.put, pZa, pZb, pZc]
  refine tkA 16 (i := 3) (oi := ⟨some 9, _, _, _, _, _⟩) rfl hHeld ?_
  try simp only [Act.put, pZa, pZb, pZc]
  refine tkA 16 (i := 4) (oi := ⟨some 10, _, _, _, _, _⟩) rfl hHeld ?_
  try simp only [Act.put, pZa, pZb, pZc]
  refine tkA 16 (i := 5) (oi := ⟨some 11, _, _, _, _, _⟩) rfl hHeld ?_
  try simp only [Act.put, pZa, pZb, pZc]
  refine tkA 16 (i := 6) (oi := ⟨some 12, _, _, _, _, _⟩) rfl hHeld ?_
  try simp only [Act.put, pZa, pZb, pZc]
  clear hHeld
  refine wpAnyL_facts 16 1 7 [(7, 13)] (fun s v w => match s with
    | 13 => ∃ A13 c13, v = .tuple #[.slice A13 R.length c13, .int .i64 E] ∧ w.ownsRow W.heap.size 105 2 (.slice A13 R.length c13) R.length (R.flatMap prC)
    | _ => True) (fun w w' => Below w.heap.size w w') (by kernel_rfl) (by kernel_rfl) bZh ⟨?_, trivial⟩ (fun w' hB => ⟨(hB.cell (p := ⟨g, j * 5 + 4, none⟩) hgl).trans c0, (hB.frozen (p := ⟨g, j * 5 + 4, none⟩) hgl).trans cf, (hB.cell (p := ⟨BK, 0, none⟩) hlK).trans cK, (hB.cell (p := ⟨BV, 0, none⟩) hlV).trans cV⟩) ⟨?_, trivial⟩ ?_
  focus
    intro v w w' h hB
    exact (by obtain ⟨A13, c13, e, hb⟩ := h; exact ⟨A13, c13, e, ownBelow hb hB (Nat.le_refl _)⟩)
  focus
    intro vs w2 hBf hFf o ho K hK
    obtain rfl : (⟨some 13, _, _, _, _, _⟩ : Oper) = o := Option.some.inj ho
    clear ho
    (try simp only [fillL, pZd, pZe, Act.put, pZa, pZb, pZc] at hK ⊢)
    go_simp
    refine (HC.out _ ((Below.refl W.heap.size W).drew.trans hBf)).mono ?_
    rintro e w4 ⟨v4, rfl, ho4, hB4⟩
    obtain ⟨A4, c4, rfl, _, _, _, _⟩ := ownAny ho4
    exact hK.out _ _ ⟨⟨A4, c4, rfl, ownBase ho4 ((Below.refl W.heap.size W).drew.trans hBf).size⟩, hB4⟩
  intro vs w2 hBf hFf
  (try simp only [fillL, pZd, pZe, Act.put, pZa, pZb, pZc])
  obtain ⟨A13, c13, e13, h13⟩ := (hFf (7, 13) (by simp))
  simp only [e13]
  have hBw : Below W.heap.size W w2 := (Below.refl W.heap.size W).drew.trans hBf
  have H13 := Lib.hid h13
  clear h13
  have hHeld : (fun W => W.cell? ⟨g, j * 5 + 4, none⟩ = some (.slice s.own_.A s.own_.l.length s.own_.c) ∧ W.frozen? ⟨g, j * 5 + 4, none⟩ = false ∧ W.cell? ⟨BK, 0, none⟩ = some (.string k) ∧ W.cell? ⟨BV, 0, none⟩ = some (.string v)) w2 := ⟨(hBf.cell (p := ⟨g, j * 5 + 4, none⟩) hgl).trans c0, (hBf.frozen (p := ⟨g, j * 5 + 4, none⟩) hgl).trans cf, (hBf.cell (p := ⟨BK, 0, none⟩) hlK).trans cK, (hBf.cell (p := ⟨BV, 0, none⟩) hlV).trans cV⟩
  refine tkA 16 (i := 8) (oi := ⟨some 5, _, _, _, _, _⟩) rfl hHeld ?_
  try simp only [Act.put, pZa, pZb, pZc]
  refine tkA 16 (i := 9) (oi := ⟨some 14, _, _, _, _, _⟩) rfl hHeld ?_
  try simp only [Act.put, pZa, pZb, pZc]
  refine wpAnyL_takeW (i := 10) (oi := ⟨some 15, _, _, _, _, _⟩) (v := ?_) rfl (by kernel_rfl) (by kernel_rfl) (by kernel_rfl) (by kernel_rfl) (fun _ _ _ h => h) (Or.inl ⟨by rfl, ?_⟩) (.inr hHeld) ?_
  rotate_left
  focus (intro w hSw; (try dsimp only at hSw); go_simp; try (with_reducible rfl))
  try simp only [Act.put, pZa, pZb, pZc]
  refine tkA 16 (i := 11) (oi := ⟨some 16, _, _, _, _, _⟩) rfl hHeld ?_
  try simp only [Act.put, pZa, pZb, pZc]
  refine tkA 16 (i := 12) (oi := ⟨some 17, _, _, _, _, _⟩) rfl hHeld ?_
  try simp only [Act.put, pZa, pZb, pZc]
  refine wpAnyL_last (i := 13) (o := ⟨none, _, _, _, _, _⟩) (by kernel_rfl) rfl (by kernel_rfl) (fun K hK => ?_)
  go_simp
  go_wp2_with fail
  refine hK.out _ _ ?_
  clear hK K
  try simp only [Act.put, pZa, pZb, pZc]
  refine wpAnyL_last (i := 14) (o := ⟨some 4, _, _, _, _, _⟩) (by kernel_rfl) rfl (by kernel_rfl) (fun K hK => ?_)
  go_simp
  refine hK.out _ _ ?_
  clear hK K
  try simp only [Act.put, pZa, pZb, pZc]
  refine wpAnyL_done (by kernel_rfl) ?_ _
  refine NoPanic.normal ?_
  go_wp2
  go_ret
  refine ⟨⟨s.path_, s.origin_, s.body_, s.snaps_, ⟨A13, R, c13⟩⟩, rfl, fun h0 => ?_, (hBw.mono hn).setCell (p := ⟨g, j * 5 + 4, none⟩) hng _⟩
  have hE0 : setE s.own_.l k v = 0 := by rw [HE.out]; exact h0
  have hRk : R = putP s.own_.l (k, v) := by
    rw [← HR.out]
    exact if_pos hE0
  have hos : OwnSe n w2 (⟨s.path_, s.origin_, s.body_, s.snaps_, ⟨A13, R, c13⟩⟩ : MSet) := by
    have h9 := (HO.out.eset s (List.mem_of_getElem? HJ.out)).below hBw
    exact ⟨h9.body, h9.snaps, ownBase H13.out hn, h9.each⟩
  have hrow2 := (HO.out.below hBw).sets
  unfold Sl.val at hrow2
  rw [HA.out] at hrow2
  have hkp := keeps_setIn hrow2 (j * 5 + 4) (.slice A13 R.length c13)
  have h13' := own_keeps H13.out (by decide) hkp
  have hss := MSet.Good.of_own HS.out rfl (((HO.out.eset s (List.mem_of_getElem? HJ.out)).below hBw).setIn hkp)
  have hgr : SlGood (w2.setCell ⟨g, j * 5 + 4, none⟩ (.slice A13 R.length c13)) prC goodPr 32 ⟨A13, R, c13⟩ := slGood_of h13' rfl (by rw [hRk]; intro z hz; have h9 := okP_mem (putP_ok hE0) z hz; exact ⟨by omega, by omega⟩) (by rw [hRk]; have h9 := (okP_iff.1 (putP_ok hE0)).1; omega)
  refine ⟨?_, turned hBw HO.out HG.out HA.out HJ.out (by decide) (by rfl) hos ⟨hss.gpath_, hss.gorigin_, hss.gbody_, hss.gsnaps_, hgr⟩⟩
  rw [hRk]
  rfl
theorem shUnset1_any (k : ByteArray) (BK : Nat) (W : World) (n g j : Nat) (y : MTenant) (s : MSet) (hn : n ≤ W.heap.size) (ho : OwnTe n W y) (hgy : y.Good W) (hA : y.sets_.A = some ⟨g, 0, none⟩) (hj : y.sets_.l[j]? = some s) (hng : n ≤ g) (hBK : BK < n) (cK : W.cell? ⟨BK, 0, none⟩ = some (.string k)) :
    Calls Tryz.prog 56 (#[.pointer (some ⟨g, j * 5, none⟩)] ++ #[.pointer (some ⟨BK, 0, none⟩)]) W fun e2 W' => ∃ s' : MSet, e2 = .returned (.int .i64 (unsetE s.own_.l k)) ∧ (unsetE s.own_.l k = 0 → s'.plain = { s.plain with own_ := dropP s.plain.own_ k } ∧ OwnTe n W' { y with sets_ := ⟨some ⟨g, 0, none⟩, y.sets_.l.set j s', y.sets_.c⟩ } ∧ ({ y with sets_ := ⟨some ⟨g, 0, none⟩, y.sets_.l.set j s', y.sets_.c⟩ } : MTenant).Good W') ∧ Below n W W' := by
  obtain ⟨b, off, hA2, hbl, hcc⟩ := Rd.elem (n := 5) (fun _ => rfl) (by omega) hgy.gsets_.rd hj
  rw [hA] at hA2
  injection hA2 with hA2
  injection hA2 with e1 e2
  subst e1 e2
  have hsg := hgy.gsets_.el s (List.mem_of_getElem? hj)
  have c0 : W.cell? ⟨g, j * 5 + 4, none⟩ = some (.slice s.own_.A s.own_.l.length s.own_.c) := by
    have := hcc 4 _ rfl
    rwa [Nat.zero_add] at this
  have hrow := ho.sets
  unfold Sl.val at hrow
  rw [hA] at hrow
  have cf := own_frozen hrow (j * 5 + 4)
  have hlen := hsg.gown_.len
  have HC := Lib.hid (fun (V : World) (hV : Below W.heap.size W V) => unset_any s.own_.A s.own_.c s.own_.l.length s.own_.l rfl (by omega) (fun z hz => hsg.gown_.el z hz) k V (hsg.gown_.rd.below hV))
  obtain ⟨E, hE⟩ : ∃ E, unsetE s.own_.l k = E := ⟨_, rfl⟩
  obtain ⟨R, hR⟩ : ∃ R, unsetR s.own_.l k = R := ⟨_, rfl⟩
  rw [hE, hR] at HC
  rw [hE]
  have HE := Lib.hid hE
  have HR := Lib.hid hR
  have HA := Lib.hid hA
  have HJ := Lib.hid hj
  have HO := Lib.hid ho
  have HG := Lib.hid hgy
  have HS := Lib.hid hsg
  have hgl := hbl
  clear hE hR hA hj hcc hrow ho hgy hsg
  have hlK : BK < W.heap.size := by omega
  go_enter Tryz.func56, Tryz.ntmps56
  go_upto_region 1 with fail
  refine wp_region_noPanic ?_
  refine wp_region_last 12 (fun W => W.cell? ⟨g, j * 5 + 4, none⟩ = some (.slice s.own_.A s.own_.l.length s.own_.c) ∧ W.frozen? ⟨g, j * 5 + 4, none⟩ = false ∧ W.cell? ⟨BK, 0, none⟩ = some (.string k)) (by kernel_rfl) ⟨c0, cf, cK⟩ (fun hHeld => ?_)
  refine tkA 16 (i := 0) (oi := ⟨some 5, _, _, _, _, _⟩) rfl hHeld ?_
  try simp only [Act.put, pZa, pZb, pZc]
  refine tkA 16 (i := 1) (oi := ⟨some 6, _, _, _, _, _⟩) rfl hHeld ?_
  try simp only [Act.put, pZa, pZb, pZc]
  refine tkA 16 (i := 2) (oi := ⟨some 7, _, _, _, _, _⟩) rfl hHeld ?_
  try simp only [Act.put, pZa, pZb, pZc]
  refine tkA 16 (i := 3) (oi := ⟨some 8, _, _, _, _, _⟩) rfl hHeld ?_
  try simp only [Act.put, pZa, pZb, pZc]
  refine tkA 16 (i := 4) (oi := ⟨some 9, _, _, _, _, _⟩) rfl hHeld ?_
  try simp only [Act.put, pZa, pZb, pZc]
  refine tkA 16 (i := 5) (oi := ⟨some 10, _, _, _, _, _⟩) rfl hHeld ?_
  try simp only [Act.put, pZa, pZb, pZc]
  clear hHeld
  refine wpAnyL_facts 16 1 7 [(6, 11)] (fun s v w => match s with
    | 11 => ∃ A13 c13, v = .tuple #[.slice A13 R.length c13, .int .i64 E] ∧ w.ownsRow W.heap.size 105 2 (.slice A13 R.length c13) R.length (R.flatMap prC)
    | _ => True) (fun w w' => Below w.heap.size w w') (by kernel_rfl) (by kernel_rfl) bZh ⟨?_, trivial⟩ (fun w' hB => ⟨(hB.cell (p := ⟨g, j * 5 + 4, none⟩) hgl).trans c0, (hB.frozen (p := ⟨g, j * 5 + 4, none⟩) hgl).trans cf, (hB.cell (p := ⟨BK, 0, none⟩) hlK).trans cK⟩) ⟨?_, trivial⟩ ?_
  focus
    intro v w w' h hB
    exact (by obtain ⟨A13, c13, e, hb⟩ := h; exact ⟨A13, c13, e, ownBelow hb hB (Nat.le_refl _)⟩)
  focus
    intro vs w2 hBf hFf o ho K hK
    obtain rfl : (⟨some 11, _, _, _, _, _⟩ : Oper) = o := Option.some.inj ho
    clear ho
    (try simp only [fillL, pZd, pZe, Act.put, pZa, pZb, pZc] at hK ⊢)
    go_simp
    refine (HC.out _ ((Below.refl W.heap.size W).drew.trans hBf)).mono ?_
    rintro e w4 ⟨v4, rfl, ho4, hB4⟩
    obtain ⟨A4, c4, rfl, _, _, _, _⟩ := ownAny ho4
    exact hK.out _ _ ⟨⟨A4, c4, rfl, ownBase ho4 ((Below.refl W.heap.size W).drew.trans hBf).size⟩, hB4⟩
  intro vs w2 hBf hFf
  (try simp only [fillL, pZd, pZe, Act.put, pZa, pZb, pZc])
  obtain ⟨A13, c13, e13, h13⟩ := (hFf (6, 11) (by simp))
  simp only [e13]
  have hBw : Below W.heap.size W w2 := (Below.refl W.heap.size W).drew.trans hBf
  have H13 := Lib.hid h13
  clear h13
  have hHeld : (fun W => W.cell? ⟨g, j * 5 + 4, none⟩ = some (.slice s.own_.A s.own_.l.length s.own_.c) ∧ W.frozen? ⟨g, j * 5 + 4, none⟩ = false ∧ W.cell? ⟨BK, 0, none⟩ = some (.string k)) w2 := ⟨(hBf.cell (p := ⟨g, j * 5 + 4, none⟩) hgl).trans c0, (hBf.frozen (p := ⟨g, j * 5 + 4, none⟩) hgl).trans cf, (hBf.cell (p := ⟨BK, 0, none⟩) hlK).trans cK⟩
  refine tkA 16 (i := 7) (oi := ⟨some 4, _, _, _, _, _⟩) rfl hHeld ?_
  try simp only [Act.put, pZa, pZb, pZc]
  refine tkA 16 (i := 8) (oi := ⟨some 12, _, _, _, _, _⟩) rfl hHeld ?_
  try simp only [Act.put, pZa, pZb, pZc]
  refine wpAnyL_takeW (i := 9) (oi := ⟨some 13, _, _, _, _, _⟩) (v := ?_) rfl (by kernel_rfl) (by kernel_rfl) (by kernel_rfl) (by kernel_rfl) (fun _ _ _ h => h) (Or.inl ⟨by rfl, ?_⟩) (.inr hHeld) ?_
  rotate_left
  focus (intro w hSw; (try dsimp only at hSw); go_simp; try (with_reducible rfl))
  try simp only [Act.put, pZa, pZb, pZc]
  refine tkA 16 (i := 10) (oi := ⟨some 14, _, _, _, _, _⟩) rfl hHeld ?_
  try simp only [Act.put, pZa, pZb, pZc]
  refine tkA 16 (i := 11) (oi := ⟨some 15, _, _, _, _, _⟩) rfl hHeld ?_
  try simp only [Act.put, pZa, pZb, pZc]
  refine wpAnyL_last (i := 12) (o := ⟨none, _, _, _, _, _⟩) (by kernel_rfl) rfl (by kernel_rfl) (fun K hK => ?_)
  go_simp
  go_wp2_with fail
  refine hK.out _ _ ?_
  clear hK K
  try simp only [Act.put, pZa, pZb, pZc]
  refine wpAnyL_last (i := 13) (o := ⟨some 3, _, _, _, _, _⟩) (by kernel_rfl) rfl (by kernel_rfl) (fun K hK => ?_)
  go_simp
  refine hK.out _ _ ?_
  clear hK K
  try simp only [Act.put, pZa, pZb, pZc]
  refine wpAnyL_done (by kernel_rfl) ?_ _
  refine NoPanic.normal ?_
  go_wp2
  go_ret
  refine ⟨⟨s.path_, s.origin_, s.body_, s.snaps_, ⟨A13, R, c13⟩⟩, rfl, fun h0 => ?_, (hBw.mono hn).setCell (p := ⟨g, j * 5 + 4, none⟩) hng _⟩
  have hE0 : unsetE s.own_.l k = 0 := by rw [HE.out]; exact h0
  have hRk : R = dropP s.own_.l k := by
    rw [← HR.out]
    exact if_pos hE0
  have hos : OwnSe n w2 (⟨s.path_, s.origin_, s.body_, s.snaps_, ⟨A13, R, c13⟩⟩ : MSet) := by
    have h9 := (HO.out.eset s (List.mem_of_getElem? HJ.out)).below hBw
    exact ⟨h9.body, h9.snaps, ownBase H13.out hn, h9.each⟩
  have hrow2 := (HO.out.below hBw).sets
  unfold Sl.val at hrow2
  rw [HA.out] at hrow2
  have hkp := keeps_setIn hrow2 (j * 5 + 4) (.slice A13 R.length c13)
  have h13' := own_keeps H13.out (by decide) hkp
  have hss := MSet.Good.of_own HS.out rfl (((HO.out.eset s (List.mem_of_getElem? HJ.out)).below hBw).setIn hkp)
  have hgr : SlGood (w2.setCell ⟨g, j * 5 + 4, none⟩ (.slice A13 R.length c13)) prC goodPr 32 ⟨A13, R, c13⟩ := slGood_of h13' rfl (by rw [hRk]; intro z hz; have h9 := okP_mem (dropP_ok k (unset_okP hE0)) z hz; exact ⟨by omega, by omega⟩) (by rw [hRk]; have h9 := (okP_iff.1 (dropP_ok k (unset_okP hE0))).1; omega)
  refine ⟨?_, turned hBw HO.out HG.out HA.out HJ.out (by decide) (by rfl) hos ⟨hss.gpath_, hss.gorigin_, hss.gbody_, hss.gsnaps_, hgr⟩⟩
  rw [hRk]
  rfl
set_option maxHeartbeats 1000000
theorem shapeFree_any (x : MTenant) (p : ByteArray) (i c : Int) (hp : p.size ≤ 140737488351232)  (w : World) (hx : x.Good w) :
    Calls Tryz.prog 12 #[.agg x.cells.toArray, .string p, .int .i64 i, .int .i64 c] w fun e w' => AnsT w (changedU x.plain p (fun s => freeE s.body_ i c) (fun s => { s with body_ := freeK s.body_ i c })) e w' := by
  obtain ⟨a1, hw1⟩ : ∃ a1, w.alloc (.cells #[.string x.name_, .int .i64 x.quota_, .int .i64 x.next_, .slice x.sets_.A x.sets_.l.length x.sets_.c, .slice x.grants_.A x.grants_.l.length x.grants_.c, .slice x.stages_.A x.stages_.l.length x.stages_.c, .slice x.log_.A x.log_.l.length x.log_.c] 27) = a1 := ⟨_, rfl⟩
  have b1 : Below w.heap.size w a1 := hw1 ▸ (Below.refl _ w).alloc (Nat.le_refl _) _
  have k1 : Blk a1 w.heap.size 27 [.string x.name_, .int .i64 x.quota_, .int .i64 x.next_, .slice x.sets_.A x.sets_.l.length x.sets_.c, .slice x.grants_.A x.grants_.l.length x.grants_.c, .slice x.stages_.A x.stages_.l.length x.stages_.c, .slice x.log_.A x.log_.l.length x.log_.c] := hw1 ▸ Blk.new w _ _
  obtain ⟨a2, hw2⟩ : ∃ a2, a1.alloc (.cells #[.int .i64 i] 3) = a2 := ⟨_, rfl⟩
  have b2 : Below a1.heap.size a1 a2 := hw2 ▸ (Below.refl _ a1).alloc (Nat.le_refl _) _
  have k2 : Blk a2 a1.heap.size 3 [.int .i64 i] := hw2 ▸ Blk.new a1 _ _
  have hX2 : w.heap.size + 1 = a1.heap.size := by rw [← hw1, World.size_alloc]
  obtain ⟨a3, hw3⟩ : ∃ a3, a2.alloc (.cells #[.int .i64 c] 3) = a3 := ⟨_, rfl⟩
  have b3 : Below a2.heap.size a2 a3 := hw3 ▸ (Below.refl _ a2).alloc (Nat.le_refl _) _
  have k3 : Blk a3 a2.heap.size 3 [.int .i64 c] := hw3 ▸ Blk.new a2 _ _
  have hX3 : a1.heap.size + 1 = a2.heap.size := by rw [← hw2, World.size_alloc]
  obtain ⟨a4, hw4⟩ : ∃ a4, a3.alloc (.cells #[.string ⟨#[]⟩, .int .i64 0, .int .i64 0, .slice none 0 0, .slice none 0 0, .slice none 0 0, .slice none 0 0] 27) = a4 := ⟨_, rfl⟩
  have b4 : Below a3.heap.size a3 a4 := hw4 ▸ (Below.refl _ a3).alloc (Nat.le_refl _) _
  have k4 : Blk a4 a3.heap.size 27 [.string ⟨#[]⟩, .int .i64 0, .int .i64 0, .slice none 0 0, .slice none 0 0, .slice none 0 0, .slice none 0 0] := hw4 ▸ Blk.new a3 _ _
  have hX4 : a2.heap.size + 1 = a3.heap.size := by rw [← hw3, World.size_alloc]
  have hB1 : Below w.heap.size w a1 := b1
  have hB2 : Below w.heap.size w a2 := hB1.trans (b2.mono hB1.size)
  have hB3 : Below w.heap.size w a3 := hB2.trans (b3.mono hB2.size)
  have hB4 : Below w.heap.size w a4 := hB3.trans (b4.mono hB3.size)
  have k1 := k1.of b2
  have k1 := k1.of b3
  have k1 := k1.of b4
  have k2 := k2.of b3
  have k2 := k2.of b4
  have k3 := k3.of b4
  have hs4 := hB4.size
  have hs1 := hB1.size
  have ht1 : a1.heap.size ≤ a2.heap.size := b2.size
  have hs2 := hB2.size
  have ht2 : a2.heap.size ≤ a3.heap.size := b3.size
  have hs3 := hB3.size
  have ht3 : a3.heap.size ≤ a4.heap.size := b4.size
  have HW1 := Lib.hid hw1
  have HW2 := Lib.hid hw2
  have HW3 := Lib.hid hw3
  have HW4 := Lib.hid hw4
  clear hw1 b1 hw2 b2 hw3 b3 hw4 b4
  have hx2 := hx.below hB4
  obtain ⟨P, hP⟩ : ∃ P, changedU x.plain p (fun s => freeE s.body_ i c) (fun s => { s with body_ := freeK s.body_ i c }) = P := ⟨_, rfl⟩
  have hlk1 := k1.lt
  have hlk2 := k2.lt
  have hlk3 := k3.lt
  have hlk4 := k4.lt
  have HC : Hid (Calls Tryz.prog 42 #[.agg x.cells.toArray, .string p, .func (.func 52) #[] #[.pointer (some ⟨a1.heap.size, 0, none⟩), .pointer (some ⟨a2.heap.size, 0, none⟩)]] a4 fun e w' => AnsT a4 P e w') := Lib.hid (by
    have h9 := changed_any x p hp 52 #[.pointer (some ⟨a1.heap.size, 0, none⟩), .pointer (some ⟨a2.heap.size, 0, none⟩)] (enters_of Tryz.func52 (by kernel_rfl) rfl) (fun s => freeE s.body_ i c) (fun s => { s with body_ := freeK s.body_ i c }) a4 hx2
      (fun W n g j y s _ hn1 hn2 hBW ho hg hA hj _ hng => shFree1_any i c a1.heap.size a2.heap.size W n g j y s hn2 ho hg hA hj hng (by omega) ((k2.of hBW).cell 0) (by omega) ((k3.of hBW).cell 0))
    rwa [hP] at h9)
  rw [hP]
  clear hP hx hx2
  obtain ⟨q0, q1, q2, q3, q4, q5, q6⟩ := k1.all7
  go_enter Tryz.func12, Tryz.ntmps12
  go_upto_region 1 with fail
  rw [HW1.out, HW2.out, HW3.out, HW4.out]
  try rw [hX2]
  try rw [hX3]
  try rw [hX4]
  go_wp2_with fail
  refine HC.out.mono ?_
  rintro e w5 ⟨y, rfl, hoy, hgy, hpy, hV⟩
  have K4 := k4.of hV
  have hX5 := hB4.trans (hV.mono hs4)
  clear q0 q1 q2 q3 q4 q5 q6
  obtain ⟨zr0, zr1, zr2, zr3, zr4, zr5, zr6⟩ := K4.all7
  obtain ⟨zrf0, zrf1, zrf2, zrf3, zrf4, zrf5, zrf6⟩ := K4.fz7
  go_wp2
  generalize hwE : World.setCell _ ⟨a3.heap.size, 6, none⟩ _ = wE
  obtain ⟨KE, SE, ZE, BE⟩ := store7 K4 hwE
  obtain ⟨ze0, ze1, ze2, ze3, ze4, ze5, ze6⟩ := KE.all7
  refine bodyPost_ret (v := .tuple #[.agg #[.string y.name_, .int .i64 y.quota_, .int .i64 y.next_, .slice y.sets_.A y.sets_.l.length y.sets_.c, .slice y.grants_.A y.grants_.l.length y.grants_.c, .slice y.stages_.A y.stages_.l.length y.stages_.c, .slice y.log_.A y.log_.l.length y.log_.c], .int .i64 P.2]) (by simp [results, Tryz.results12, go_sem, ze0, ze1, ze2, ze3, ze4, ze5, ze6]) rfl ?_
  have hoz2 := hoy.store hlk4 SE
  exact ⟨y, rfl, hoz2.base hs4, MTenant.Good.of_own hgy rfl hoz2, hpy, BE _ _ hX5 hs3⟩
theorem shapeSet_any (x : MTenant) (p : ByteArray) (k v : ByteArray) (hp : p.size ≤ 140737488351232) (hk : k.size ≤ 140737488351232) (hv : v.size ≤ 140737488351232) (w : World) (hx : x.Good w) :
    Calls Tryz.prog 13 #[.agg x.cells.toArray, .string p, .string k, .string v] w fun e w' => AnsT w (changedU x.plain p (fun s => setE s.own_ k v) (fun s => { s with own_ := putP s.own_ (k, v) })) e w' := by
  obtain ⟨a1, hw1⟩ : ∃ a1, w.alloc (.cells #[.string x.name_, .int .i64 x.quota_, .int .i64 x.next_, .slice x.sets_.A x.sets_.l.length x.sets_.c, .slice x.grants_.A x.grants_.l.length x.grants_.c, .slice x.stages_.A x.stages_.l.length x.stages_.c, .slice x.log_.A x.log_.l.length x.log_.c] 27) = a1 := ⟨_, rfl⟩
  have b1 : Below w.heap.size w a1 := hw1 ▸ (Below.refl _ w).alloc (Nat.le_refl _) _
  have k1 : Blk a1 w.heap.size 27 [.string x.name_, .int .i64 x.quota_, .int .i64 x.next_, .slice x.sets_.A x.sets_.l.length x.sets_.c, .slice x.grants_.A x.grants_.l.length x.grants_.c, .slice x.stages_.A x.stages_.l.length x.stages_.c, .slice x.log_.A x.log_.l.length x.log_.c] := hw1 ▸ Blk.new w _ _
  obtain ⟨a2, hw2⟩ : ∃ a2, a1.alloc (.cells #[.string k] 9) = a2 := ⟨_, rfl⟩
  have b2 : Below a1.heap.size a1 a2 := hw2 ▸ (Below.refl _ a1).alloc (Nat.le_refl _) _
  have k2 : Blk a2 a1.heap.size 9 [.string k] := hw2 ▸ Blk.new a1 _ _
  have hX2 : w.heap.size + 1 = a1.heap.size := by rw [← hw1, World.size_alloc]
  obtain ⟨a3, hw3⟩ : ∃ a3, a2.alloc (.cells #[.string v] 9) = a3 := ⟨_, rfl⟩
  have b3 : Below a2.heap.size a2 a3 := hw3 ▸ (Below.refl _ a2).alloc (Nat.le_refl _) _
  have k3 : Blk a3 a2.heap.size 9 [.string v] := hw3 ▸ Blk.new a2 _ _
  have hX3 : a1.heap.size + 1 = a2.heap.size := by rw [← hw2, World.size_alloc]
  obtain ⟨a4, hw4⟩ : ∃ a4, a3.alloc (.cells #[.string ⟨#[]⟩, .int .i64 0, .int .i64 0, .slice none 0 0, .slice none 0 0, .slice none 0 0, .slice none 0 0] 27) = a4 := ⟨_, rfl⟩
  have b4 : Below a3.heap.size a3 a4 := hw4 ▸ (Below.refl _ a3).alloc (Nat.le_refl _) _
  have k4 : Blk a4 a3.heap.size 27 [.string ⟨#[]⟩, .int .i64 0, .int .i64 0, .slice none 0 0, .slice none 0 0, .slice none 0 0, .slice none 0 0] := hw4 ▸ Blk.new a3 _ _
  have hX4 : a2.heap.size + 1 = a3.heap.size := by rw [← hw3, World.size_alloc]
  have hB1 : Below w.heap.size w a1 := b1
  have hB2 : Below w.heap.size w a2 := hB1.trans (b2.mono hB1.size)
  have hB3 : Below w.heap.size w a3 := hB2.trans (b3.mono hB2.size)
  have hB4 : Below w.heap.size w a4 := hB3.trans (b4.mono hB3.size)
  have k1 := k1.of b2
  have k1 := k1.of b3
  have k1 := k1.of b4
  have k2 := k2.of b3
  have k2 := k2.of b4
  have k3 := k3.of b4
  have hs4 := hB4.size
  have hs1 := hB1.size
  have ht1 : a1.heap.size ≤ a2.heap.size := b2.size
  have hs2 := hB2.size
  have ht2 : a2.heap.size ≤ a3.heap.size := b3.size
  have hs3 := hB3.size
  have ht3 : a3.heap.size ≤ a4.heap.size := b4.size
  have HW1 := Lib.hid hw1
  have HW2 := Lib.hid hw2
  have HW3 := Lib.hid hw3
  have HW4 := Lib.hid hw4
  clear hw1 b1 hw2 b2 hw3 b3 hw4 b4
  have hx2 := hx.below hB4
  obtain ⟨P, hP⟩ : ∃ P, changedU x.plain p (fun s => setE s.own_ k v) (fun s => { s with own_ := putP s.own_ (k, v) }) = P := ⟨_, rfl⟩
  have hlk1 := k1.lt
  have hlk2 := k2.lt
  have hlk3 := k3.lt
  have hlk4 := k4.lt
  have HC : Hid (Calls Tryz.prog 42 #[.agg x.cells.toArray, .string p, .func (.func 54) #[] #[.pointer (some ⟨a1.heap.size, 0, none⟩), .pointer (some ⟨a2.heap.size, 0, none⟩)]] a4 fun e w' => AnsT a4 P e w') := Lib.hid (by
    have h9 := changed_any x p hp 54 #[.pointer (some ⟨a1.heap.size, 0, none⟩), .pointer (some ⟨a2.heap.size, 0, none⟩)] (enters_of Tryz.func54 (by kernel_rfl) rfl) (fun s => setE s.own_ k v) (fun s => { s with own_ := putP s.own_ (k, v) }) a4 hx2
      (fun W n g j y s _ hn1 hn2 hBW ho hg hA hj _ hng => shSet1_any k v hk hv a1.heap.size a2.heap.size W n g j y s hn2 ho hg hA hj hng (by omega) ((k2.of hBW).cell 0) (by omega) ((k3.of hBW).cell 0))
    rwa [hP] at h9)
  rw [hP]
  clear hP hx hx2
  obtain ⟨q0, q1, q2, q3, q4, q5, q6⟩ := k1.all7
  go_enter Tryz.func13, Tryz.ntmps13
  go_upto_region 1 with fail
  rw [HW1.out, HW2.out, HW3.out, HW4.out]
  try rw [hX2]
  try rw [hX3]
  try rw [hX4]
  go_wp2_with fail
  refine HC.out.mono ?_
  rintro e w5 ⟨y, rfl, hoy, hgy, hpy, hV⟩
  have K4 := k4.of hV
  have hX5 := hB4.trans (hV.mono hs4)
  clear q0 q1 q2 q3 q4 q5 q6
  obtain ⟨zr0, zr1, zr2, zr3, zr4, zr5, zr6⟩ := K4.all7
  obtain ⟨zrf0, zrf1, zrf2, zrf3, zrf4, zrf5, zrf6⟩ := K4.fz7
  go_wp2
  generalize hwE : World.setCell _ ⟨a3.heap.size, 6, none⟩ _ = wE
  obtain ⟨KE, SE, ZE, BE⟩ := store7 K4 hwE
  obtain ⟨ze0, ze1, ze2, ze3, ze4, ze5, ze6⟩ := KE.all7
  refine bodyPost_ret (v := .tuple #[.agg #[.string y.name_, .int .i64 y.quota_, .int .i64 y.next_, .slice y.sets_.A y.sets_.l.length y.sets_.c, .slice y.grants_.A y.grants_.l.length y.grants_.c, .slice y.stages_.A y.stages_.l.length y.stages_.c, .slice y.log_.A y.log_.l.length y.log_.c], .int .i64 P.2]) (by simp [results, Tryz.results13, go_sem, ze0, ze1, ze2, ze3, ze4, ze5, ze6]) rfl ?_
  have hoz2 := hoy.store hlk4 SE
  exact ⟨y, rfl, hoz2.base hs4, MTenant.Good.of_own hgy rfl hoz2, hpy, BE _ _ hX5 hs3⟩
theorem shapeUnset_any (x : MTenant) (p : ByteArray) (k : ByteArray) (hp : p.size ≤ 140737488351232)  (w : World) (hx : x.Good w) :
    Calls Tryz.prog 14 #[.agg x.cells.toArray, .string p, .string k] w fun e w' => AnsT w (changedU x.plain p (fun s => unsetE s.own_ k) (fun s => { s with own_ := dropP s.own_ k })) e w' := by
  obtain ⟨a1, hw1⟩ : ∃ a1, w.alloc (.cells #[.string x.name_, .int .i64 x.quota_, .int .i64 x.next_, .slice x.sets_.A x.sets_.l.length x.sets_.c, .slice x.grants_.A x.grants_.l.length x.grants_.c, .slice x.stages_.A x.stages_.l.length x.stages_.c, .slice x.log_.A x.log_.l.length x.log_.c] 27) = a1 := ⟨_, rfl⟩
  have b1 : Below w.heap.size w a1 := hw1 ▸ (Below.refl _ w).alloc (Nat.le_refl _) _
  have k1 : Blk a1 w.heap.size 27 [.string x.name_, .int .i64 x.quota_, .int .i64 x.next_, .slice x.sets_.A x.sets_.l.length x.sets_.c, .slice x.grants_.A x.grants_.l.length x.grants_.c, .slice x.stages_.A x.stages_.l.length x.stages_.c, .slice x.log_.A x.log_.l.length x.log_.c] := hw1 ▸ Blk.new w _ _
  obtain ⟨a2, hw2⟩ : ∃ a2, a1.alloc (.cells #[.string k] 9) = a2 := ⟨_, rfl⟩
  have b2 : Below a1.heap.size a1 a2 := hw2 ▸ (Below.refl _ a1).alloc (Nat.le_refl _) _
  have k2 : Blk a2 a1.heap.size 9 [.string k] := hw2 ▸ Blk.new a1 _ _
  have hX2 : w.heap.size + 1 = a1.heap.size := by rw [← hw1, World.size_alloc]
  obtain ⟨a3, hw3⟩ : ∃ a3, a2.alloc (.cells #[.string ⟨#[]⟩, .int .i64 0, .int .i64 0, .slice none 0 0, .slice none 0 0, .slice none 0 0, .slice none 0 0] 27) = a3 := ⟨_, rfl⟩
  have b3 : Below a2.heap.size a2 a3 := hw3 ▸ (Below.refl _ a2).alloc (Nat.le_refl _) _
  have k3 : Blk a3 a2.heap.size 27 [.string ⟨#[]⟩, .int .i64 0, .int .i64 0, .slice none 0 0, .slice none 0 0, .slice none 0 0, .slice none 0 0] := hw3 ▸ Blk.new a2 _ _
  have hX3 : a1.heap.size + 1 = a2.heap.size := by rw [← hw2, World.size_alloc]
  have hB1 : Below w.heap.size w a1 := b1
  have hB2 : Below w.heap.size w a2 := hB1.trans (b2.mono hB1.size)
  have hB3 : Below w.heap.size w a3 := hB2.trans (b3.mono hB2.size)
  have k1 := k1.of b2
  have k1 := k1.of b3
  have k2 := k2.of b3
  have hs3 := hB3.size
  have hs1 := hB1.size
  have ht1 : a1.heap.size ≤ a2.heap.size := b2.size
  have hs2 := hB2.size
  have ht2 : a2.heap.size ≤ a3.heap.size := b3.size
  have HW1 := Lib.hid hw1
  have HW2 := Lib.hid hw2
  have HW3 := Lib.hid hw3
  clear hw1 b1 hw2 b2 hw3 b3
  have hx2 := hx.below hB3
  obtain ⟨P, hP⟩ : ∃ P, changedU x.plain p (fun s => unsetE s.own_ k) (fun s => { s with own_ := dropP s.own_ k }) = P := ⟨_, rfl⟩
  have hlk1 := k1.lt
  have hlk2 := k2.lt
  have hlk3 := k3.lt
  have HC : Hid (Calls Tryz.prog 42 #[.agg x.cells.toArray, .string p, .func (.func 56) #[] #[.pointer (some ⟨a1.heap.size, 0, none⟩)]] a3 fun e w' => AnsT a3 P e w') := Lib.hid (by
    have h9 := changed_any x p hp 56 #[.pointer (some ⟨a1.heap.size, 0, none⟩)] (enters_of Tryz.func56 (by kernel_rfl) rfl) (fun s => unsetE s.own_ k) (fun s => { s with own_ := dropP s.own_ k }) a3 hx2
      (fun W n g j y s _ hn1 hn2 hBW ho hg hA hj _ hng => shUnset1_any k a1.heap.size W n g j y s hn2 ho hg hA hj hng (by omega) ((k2.of hBW).cell 0))
    rwa [hP] at h9)
  rw [hP]
  clear hP hx hx2
  obtain ⟨q0, q1, q2, q3, q4, q5, q6⟩ := k1.all7
  go_enter Tryz.func14, Tryz.ntmps14
  go_upto_region 1 with fail
  rw [HW1.out, HW2.out, HW3.out]
  try rw [hX2]
  try rw [hX3]
  go_wp2_with fail
  refine HC.out.mono ?_
  rintro e w5 ⟨y, rfl, hoy, hgy, hpy, hV⟩
  have K4 := k3.of hV
  have hX5 := hB3.trans (hV.mono hs3)
  clear q0 q1 q2 q3 q4 q5 q6
  obtain ⟨zr0, zr1, zr2, zr3, zr4, zr5, zr6⟩ := K4.all7
  obtain ⟨zrf0, zrf1, zrf2, zrf3, zrf4, zrf5, zrf6⟩ := K4.fz7
  go_wp2
  generalize hwE : World.setCell _ ⟨a2.heap.size, 6, none⟩ _ = wE
  obtain ⟨KE, SE, ZE, BE⟩ := store7 K4 hwE
  obtain ⟨ze0, ze1, ze2, ze3, ze4, ze5, ze6⟩ := KE.all7
  refine bodyPost_ret (v := .tuple #[.agg #[.string y.name_, .int .i64 y.quota_, .int .i64 y.next_, .slice y.sets_.A y.sets_.l.length y.sets_.c, .slice y.grants_.A y.grants_.l.length y.grants_.c, .slice y.stages_.A y.stages_.l.length y.stages_.c, .slice y.log_.A y.log_.l.length y.log_.c], .int .i64 P.2]) (by simp [results, Tryz.results14, go_sem, ze0, ze1, ze2, ze3, ze4, ze5, ze6]) rfl ?_
  have hoz2 := hoy.store hlk3 SE
  exact ⟨y, rfl, hoz2.base hs3, MTenant.Good.of_own hgy rfl hoz2, hpy, BE _ _ hX5 hs2⟩
theorem chS_setP {f : PSet → PSet} {l : List PSet} {j : Nat} {s : PSet} {p : ByteArray} (hr : l.Pairwise fun a b => ltPath a b = true) (hj : l[j]? = some s) (hp : s.path_ = p) : chS p f l = l.set j (f s) := by
  subst hp
  exact chS_set hr hj
set_option maxHeartbeats 4000000 in
theorem refTurn1_any (x : MTenant) (p : ByteArray) (i : Int) (d : ByteArray) (hp : p.size ≤ 4398046511104) (hd : d.size ≤ 140737488351232) (w : World) (hx : x.Good w) (ht : x.Tiny) :
    Calls Tryz.prog 11 #[.agg x.cells.toArray, .string p, .int .i64 1, .int .i64 i, .int .i64 0, .string ⟨#[]⟩, .string d] w fun e w' => AnsG w (writeU x.plain p i d) e w' := by
  obtain ⟨a1, hw1⟩ : ∃ a1, w.alloc (.cells #[.string x.name_, .int .i64 x.quota_, .int .i64 x.next_, .slice x.sets_.A x.sets_.l.length x.sets_.c, .slice x.grants_.A x.grants_.l.length x.grants_.c, .slice x.stages_.A x.stages_.l.length x.stages_.c, .slice x.log_.A x.log_.l.length x.log_.c] 27) = a1 := ⟨_, rfl⟩
  have b1 : Below w.heap.size w a1 := hw1 ▸ (Below.refl _ w).alloc (Nat.le_refl _) _
  have k1 : Blk a1 w.heap.size 27 [.string x.name_, .int .i64 x.quota_, .int .i64 x.next_, .slice x.sets_.A x.sets_.l.length x.sets_.c, .slice x.grants_.A x.grants_.l.length x.grants_.c, .slice x.stages_.A x.stages_.l.length x.stages_.c, .slice x.log_.A x.log_.l.length x.log_.c] := hw1 ▸ Blk.new w _ _
  obtain ⟨a2, hw2⟩ : ∃ a2, a1.alloc (.cells #[.string ⟨#[]⟩, .int .i64 0, .int .i64 0, .slice none 0 0, .slice none 0 0, .slice none 0 0, .slice none 0 0] 27) = a2 := ⟨_, rfl⟩
  have b2 : Below a1.heap.size a1 a2 := hw2 ▸ (Below.refl _ a1).alloc (Nat.le_refl _) _
  have k2 : Blk a2 a1.heap.size 27 [.string ⟨#[]⟩, .int .i64 0, .int .i64 0, .slice none 0 0, .slice none 0 0, .slice none 0 0, .slice none 0 0] := hw2 ▸ Blk.new a1 _ _
  have hX2 : w.heap.size + 1 = a1.heap.size := by rw [← hw1, World.size_alloc]
  have hB1 : Below w.heap.size w a1 := b1
  have hB2 : Below w.heap.size w a2 := hB1.trans (b2.mono hB1.size)
  have k1 := k1.of b2
  have hs2 := hB2.size
  have hs1 := hB1.size
  have ht1 : a1.heap.size ≤ a2.heap.size := b2.size
  have HW1 := Lib.hid hw1
  have HW2 := Lib.hid hw2
  clear hw1 b1 hw2 b2
  have hx2 := hx.below hB2
  have HR := Lib.hid (refAsked_any x p hp a2 hx2 ht)
  have HF := Lib.hid (fun W (hW : Below a2.heap.size a2 W) => refFind_any x p W (hx2.below hW))
  have HO := Lib.hid (fun W (hW : Below a2.heap.size a2 W) => refOwnT_any x W (hx2.below hW))
  have hlk1 := k1.lt
  have hlk2 := k2.lt
  have HG := Lib.hid hx2
  obtain ⟨q0, q1, q2, q3, q4, q5, q6⟩ := k1.all7
  obtain ⟨PP, hPP⟩ : ∃ PP : PTenant × Int, writeU x.plain p i d = PP := ⟨_, rfl⟩
  rw [hPP]
  by_cases hk : askE x.plain p ≠ 0
  · have hc : PP = (noT, askE x.plain p) := by rw [← hPP]; exact write_ask hk
    subst hc
    generalize askE x.plain p = E at *
    clear hPP hx hx2
    go_enter Tryz.func11, Tryz.ntmps11
    go_upto_region 1 with fail
    rw [HW1.out, HW2.out]
    try rw [hX2]
    go_wp2_with fail
    refine HR.out.mono ?_
    rintro e w3 ⟨rfl, hV⟩
    have K2 := k2.of hV
    have hX := hB2.trans (hV.mono hs2)
    obtain ⟨zr0, zr1, zr2, zr3, zr4, zr5, zr6⟩ := K2.all7
    obtain ⟨zrf0, zrf1, zrf2, zrf3, zrf4, zrf5, zrf6⟩ := K2.fz7
    go_wp2
    generalize hwE : World.setCell _ ⟨a1.heap.size, 6, none⟩ _ = wE
    obtain ⟨KE, SE, ZE, BE⟩ := store7 K2 hwE
    obtain ⟨ze0, ze1, ze2, ze3, ze4, ze5, ze6⟩ := KE.all7
    refine bodyPost_ret (v := .tuple #[.agg #[.string ⟨#[]⟩, .int .i64 0, .int .i64 0, .slice none 0 0, .slice none 0 0, .slice none 0 0, .slice none 0 0], .int .i64 E]) (by simp [results, Tryz.results11, go_sem, ze0, ze1, ze2, ze3, ze4, ze5, ze6]) rfl ?_
    exact ansG_no (BE _ _ hX hs1)
  · have hk0 : askE x.plain p = 0 := Classical.not_not.1 hk
    rw [hk0] at HR
    have hh := hasSet_find x p
    by_cases h0 : 0 ≤ findM x p
    · have hpl0 : placeE x.plain p = 0 := by unfold placeE; rw [if_neg hk, if_pos (by rw [hh]; exact decide_eq_true h0)]
      obtain ⟨j, s, hI, hj, hsp, hsa, hok, hip, hnt⟩ := place_ways hpl0
      have hfj : findM x p = j := by rw [← hI]; unfold placeI; rw [if_neg (by rw [hpl0]; decide)]
      rw [hfj] at HF
      have hjl : j < x.sets_.l.length := (List.getElem?_eq_some_iff.1 hj).1
      have hval : PP = (if putE s.body_.l i d.size ≠ 0 then (noT, putE s.body_.l i d.size) else setlP { x.plain with sets_ := chS p (fun s => { s with body_ := putK s.body_ i d }) x.plain.sets_ } : PTenant × Int) := by
        rw [← hPP]
        exact write_some hk0 hsa
      have hris : x.plain.sets_.Pairwise fun a b => ltPath a b = true := (goodL_iff (fun a b c => ltPath_trans a b c)).1 (okT_parts.1 hok).2.2.2 |>.2
      have hchs : chS p (fun s => { s with body_ := putK s.body_ i d }) x.plain.sets_ = x.plain.sets_.set j ((fun s => { s with body_ := putK s.body_ i d }) s.plain) := by
        exact chS_setP hris (j := j) (s := s.plain) (by show (x.sets_.l.map MSet.plain)[j]? = _; rw [List.getElem?_map, hj]; rfl) hsp
      have HCH := Lib.hid hchs
      have HJ := Lib.hid hj
      obtain ⟨E, hE⟩ : ∃ E, putE s.body_.l i d.size = E := ⟨_, rfl⟩
      obtain ⟨R, hR⟩ : ∃ R, putR s.body_.l i d = R := ⟨_, rfl⟩
      have hsg := hx2.gsets_.el s (List.mem_of_getElem? hj)
      have hlenf := hsg.gbody_.len
      have HC := Lib.hid (fun (V : World) (hV : Below a2.heap.size a2 V) => refPut_blk s.body_.A s.body_.c s.body_.l.length s.body_.l rfl (by omega) hsg.gbody_.cap hsg.gbody_.nil (fun z hz => (hsg.gbody_.el z hz).1) i d hd V (hsg.gbody_.rd.below hV))
      rw [hE, hR] at HC
      rw [hE] at hval
      have HE := Lib.hid hE
      have HRR := Lib.hid hR
      have HV := Lib.hid hval
      have HSG := Lib.hid hsg
      clear hPP hh hx hx2 hk hk0 hpl0 hI hj hsp hsa hok hip hnt hfj h0 hris hchs hE hR hval hsg
      go_enter Tryz.func11, Tryz.ntmps11
      go_upto_region 1 with fail
      rw [HW1.out, HW2.out]
      try rw [hX2]
      go_wp2_with fail
      refine HR.out.mono ?_
      rintro e w3 ⟨rfl, hV⟩
      have K1 := k1.of hV
      have K2 := k2.of hV
      obtain ⟨d0, d1, d2, d3, d4, d5, d6⟩ := K1.all7
      go_wp2_with fail
      refine (HF.out _ hV).mono ?_
      rintro e w4 ⟨rfl, hV2⟩
      have hV3 := hV.trans (hV2.mono hV.size)
      have K3 := K1.of hV2
      have K4 := K2.of hV2
      obtain ⟨e0, e1, e2, e3, e4, e5, e6⟩ := K3.all7
      have HOW := Lib.hid (HO.out w4 hV3)
      go_wp2_with fail
      refine HOW.out.mono ?_
      rintro e w5 ⟨y, rfl, hoy, hpy, hV5⟩
      have hs45 := hV5.size
      obtain ⟨w6, hw6⟩ : ∃ w6, w5.alloc (.cells #[.string y.name_, .int .i64 y.quota_, .int .i64 y.next_, .slice y.sets_.A y.sets_.l.length y.sets_.c, .slice y.grants_.A y.grants_.l.length y.grants_.c, .slice y.stages_.A y.stages_.l.length y.stages_.c, .slice y.log_.A y.log_.l.length y.log_.c] 27) = w6 := ⟨_, rfl⟩
      have hV6 : Below w5.heap.size w5 w6 := hw6 ▸ (Below.refl _ w5).alloc (Nat.le_refl _) _
      have kY : Blk w6 w5.heap.size 27 [.string y.name_, .int .i64 y.quota_, .int .i64 y.next_, .slice y.sets_.A y.sets_.l.length y.sets_.c, .slice y.grants_.A y.grants_.l.length y.grants_.c, .slice y.stages_.A y.stages_.l.length y.stages_.c, .slice y.log_.A y.log_.l.length y.log_.c] := hw6 ▸ Blk.new w5 _ _
      have hs56 := hV6.size
      have hV46 := hV5.trans (hV6.mono hs45)
      have hV36 := hV3.trans (hV46.mono hV3.size)
      have K5 := K3.of hV46
      have K6 := K4.of hV46
      have HW6 := Lib.hid hw6
      obtain ⟨b, off, hA, hbl, hcc⟩ := Rd.elem (n := 5) (fun _ => rfl) (by omega) (HG.out.gsets_.rd.below hV36) HJ.out
      have c0 : w6.cell? ⟨b, off + j * 5, none⟩ = some (.string s.path_) := hcc 0 _ rfl
      have c1 : w6.cell? ⟨b, off + j * 5 + 1, none⟩ = some (.string s.origin_) := hcc 1 _ rfl
      have c2 : w6.cell? ⟨b, off + j * 5 + 2, none⟩ = some (.slice s.body_.A s.body_.l.length s.body_.c) := hcc 2 _ rfl
      have c3 : w6.cell? ⟨b, off + j * 5 + 3, none⟩ = some (.slice s.snaps_.A s.snaps_.l.length s.snaps_.c) := hcc 3 _ rfl
      have c4 : w6.cell? ⟨b, off + j * 5 + 4, none⟩ = some (.slice s.own_.A s.own_.l.length s.own_.c) := hcc 4 _ rfl
      clear hcc hw6 e0 e1 e2 e3 e4 e5 e6 d0 d1 d2 d3 d4 d5 d6
      go_upto_region 8 with fail
      rw [HW6.out]
      obtain ⟨h0, h1, h2, h3, h4, h5, h6⟩ := K5.all7
      rw [hA] at h3
      have HA := Lib.hid hA
      clear hA
      obtain ⟨w7, hw7⟩ : ∃ w7, w6.alloc (.cells #[.string s.path_, .string s.origin_, .slice s.body_.A s.body_.l.length s.body_.c, .slice s.snaps_.A s.snaps_.l.length s.snaps_.c, .slice s.own_.A s.own_.l.length s.own_.c] 49) = w7 := ⟨_, rfl⟩
      have hV7 : Below w6.heap.size w6 w7 := hw7 ▸ (Below.refl _ w6).alloc (Nat.le_refl _) _
      have kS : Blk w7 w6.heap.size 49 [.string s.path_, .string s.origin_, .slice s.body_.A s.body_.l.length s.body_.c, .slice s.snaps_.A s.snaps_.l.length s.snaps_.c, .slice s.own_.A s.own_.l.length s.own_.c] := hw7 ▸ Blk.new w6 _ _
      have hs67 := hV7.size
      have hV37 := hV36.trans (hV7.mono hV36.size)
      have kY7 := kY.of hV7
      have K7 := K6.of hV7
      have HW7 := Lib.hid hw7
      have hgy : y.Good w7 := (MTenant.Good.of_own HG.out hpy hoy).below (hV6.trans (hV7.mono hs56))
      have ho7 : OwnTe w4.heap.size w7 y := hoy.below (hV6.trans (hV7.mono hs56))
      have hyl : y.sets_.l.map MSet.plain = x.sets_.l.map MSet.plain := congrArg PTenant.sets_ hpy
      have hjy : j < y.sets_.l.length := by rw [map_len hyl]; exact hjl
      obtain ⟨t, hjt⟩ : ∃ t, y.sets_.l[j]? = some t := ⟨_, qZa hjy⟩
      have htp : t.plain = s.plain := by
        have h9 : (y.sets_.l.map MSet.plain)[j]? = some t.plain := by rw [List.getElem?_map, hjt]; rfl
        rw [hyl, List.getElem?_map, HJ.out] at h9
        simp only [Option.map_some, Option.some.injEq] at h9
        exact h9.symm
      obtain ⟨g, goff, hAy, hgl, hcy⟩ := Rd.elem (n := 5) (fun _ => rfl) (by omega) hgy.gsets_.rd hjt
      have hoff : goff = 0 ∧ w4.heap.size ≤ g := by
        obtain ⟨_, ⟨hv, h0⟩ | ⟨gg, cap, cur, hv, hn, _⟩⟩ := ho7.sets
        · omega
        · injection hv with e1 e2 e3
          rw [hAy] at e1
          injection e1 with e1
          injection e1 with e1 e4
          exact ⟨e4, by omega⟩
      obtain ⟨rfl, hgn⟩ := hoff
      have cy : w7.cell? ⟨g, 0 + j * 5 + 2, none⟩ = some (.slice t.body_.A t.body_.l.length t.body_.c) := hcy 2 _ rfl
      rw [Nat.zero_add] at cy
      have hrow := ho7.sets
      unfold Sl.val at hrow
      rw [hAy] at hrow
      have cfz := own_frozen hrow (j * 5 + 2)
      have HAY := Lib.hid hAy
      have HJT := Lib.hid hjt
      have HTP := Lib.hid htp
      have HYL := Lib.hid hyl
      have HPY := Lib.hid hpy
      have HGY := Lib.hid hgy
      have HO7 := Lib.hid ho7
      have hly := kY7.lt
      have hlS := kS.lt
      clear hw7 hgy ho7 hyl hjt htp hcy hrow hpy hoy
      go_upto_region 12 with fail
      rw [HW7.out]
      clear c0 c1 c2 c3 c4 h0 h1 h2 h3 h4 h5 h6
      obtain ⟨m0, m1, m2, m3, m4, m5, m6⟩ := kY7.all7
      obtain ⟨n0, n1, n2, n3, n4⟩ := kS.all5
      rw [HAY.out] at m3
      refine wp_region_noPanic ?_
      refine wp_region_last 13 (fun W => W.cell? ⟨w5.heap.size, 3, none⟩ = some (.slice (some ⟨g, 0, none⟩) y.sets_.l.length y.sets_.c) ∧ W.cell? ⟨w6.heap.size, 2, none⟩ = some (.slice s.body_.A s.body_.l.length s.body_.c) ∧ W.cell? ⟨g, j * 5 + 2, none⟩ = some (.slice t.body_.A t.body_.l.length t.body_.c) ∧ W.frozen? ⟨g, j * 5 + 2, none⟩ = false) (by kernel_rfl) ⟨m3, n2, cy, cfz⟩ (fun hHeld => ?_)
      refine tkA 16 (i := 0) (oi := ⟨some 56, _, _, _, _, _⟩) rfl hHeld ?_
      try simp only [Act.put, pZa, pZb, pZc]
      refine tkA 16 (i := 1) (oi := ⟨some 57, _, _, _, _, _⟩) rfl hHeld ?_
      try simp only [Act.put, pZa, pZb, pZc]
      refine tkA 16 (i := 2) (oi := ⟨some 58, _, _, _, _, _⟩) rfl hHeld ?_
      try simp only [Act.put, pZa, pZb, pZc]
      refine tkA 16 (i := 3) (oi := ⟨some 59, _, _, _, _, _⟩) rfl hHeld ?_
      try simp only [Act.put, pZa, pZb, pZc]
      refine tkA 16 (i := 4) (oi := ⟨some 60, _, _, _, _, _⟩) rfl hHeld ?_
      try simp only [Act.put, pZa, pZb, pZc]
      refine tkA 16 (i := 5) (oi := ⟨some 61, _, _, _, _, _⟩) rfl hHeld ?_
      try simp only [Act.put, pZa, pZb, pZc]
      refine tkA 16 (i := 6) (oi := ⟨some 62, _, _, _, _, _⟩) rfl hHeld ?_
      try simp only [Act.put, pZa, pZb, pZc]
      clear hHeld
      refine wpAnyL_facts 16 1 7 [(7, 63)] (fun s v w => match s with
        | 63 => ∃ A13 c13, v = .tuple #[.slice A13 R.length c13, .int .i64 E] ∧ w.ownsRow w7.heap.size 103 2 (.slice A13 R.length c13) R.length (R.flatMap bkC)
        | _ => True) (fun w w' => Below w.heap.size w w') (by kernel_rfl) (by kernel_rfl) bZh ⟨?_, trivial⟩ (fun w' hB => ⟨(hB.cell (p := ⟨w5.heap.size, 3, none⟩) hly).trans m3, (hB.cell (p := ⟨w6.heap.size, 2, none⟩) hlS).trans n2, (hB.cell (p := ⟨g, j * 5 + 2, none⟩) hgl).trans cy, (hB.frozen (p := ⟨g, j * 5 + 2, none⟩) hgl).trans cfz⟩) ⟨?_, trivial⟩ ?_
      focus
        intro v w w' h hB
        exact (by obtain ⟨A13, c13, e, hb⟩ := h; exact ⟨A13, c13, e, ownBelow hb hB (Nat.le_refl _)⟩)
      focus
        intro vs w2 hBf hFf o ho K hK
        obtain rfl : (⟨some 63, _, _, _, _, _⟩ : Oper) = o := Option.some.inj ho
        clear ho
        (try simp only [fillL, pZd, pZe, Act.put, pZa, pZb, pZc] at hK ⊢)
        go_simp
        refine (HC.out _ (hV37.trans (((Below.refl w7.heap.size w7).drew.trans hBf).mono hV37.size))).mono ?_
        rintro e w4 ⟨v4, rfl, ho4, hB4⟩
        obtain ⟨A4, c4, rfl, _, _, _, _⟩ := ownAny ho4
        exact hK.out _ _ ⟨⟨A4, c4, rfl, ownBase ho4 ((Below.refl w7.heap.size w7).drew.trans hBf).size⟩, hB4⟩
      intro vs w2 hBf hFf
      (try simp only [fillL, pZd, pZe, Act.put, pZa, pZb, pZc])
      obtain ⟨A13, c13, e13, h13⟩ := (hFf (7, 63) (by simp))
      simp only [e13]
      have hBw : Below w7.heap.size w7 w2 := (Below.refl w7.heap.size w7).drew.trans hBf
      have H13 := Lib.hid h13
      clear h13
      have hHeld : (fun W => W.cell? ⟨w5.heap.size, 3, none⟩ = some (.slice (some ⟨g, 0, none⟩) y.sets_.l.length y.sets_.c) ∧ W.cell? ⟨w6.heap.size, 2, none⟩ = some (.slice s.body_.A s.body_.l.length s.body_.c) ∧ W.cell? ⟨g, j * 5 + 2, none⟩ = some (.slice t.body_.A t.body_.l.length t.body_.c) ∧ W.frozen? ⟨g, j * 5 + 2, none⟩ = false) w2 := ⟨(hBf.cell (p := ⟨w5.heap.size, 3, none⟩) hly).trans m3, (hBf.cell (p := ⟨w6.heap.size, 2, none⟩) hlS).trans n2, (hBf.cell (p := ⟨g, j * 5 + 2, none⟩) hgl).trans cy, (hBf.frozen (p := ⟨g, j * 5 + 2, none⟩) hgl).trans cfz⟩
      refine tkA 16 (i := 8) (oi := ⟨some 55, _, _, _, _, _⟩) rfl hHeld ?_
      try simp only [Act.put, pZa, pZb, pZc]
      refine tkA 16 (i := 9) (oi := ⟨some 64, _, _, _, _, _⟩) rfl hHeld ?_
      try simp only [Act.put, pZa, pZb, pZc]
      refine wpAnyL_takeW (i := 10) (oi := ⟨some 65, _, _, _, _, _⟩) (v := ?_) rfl (by kernel_rfl) (by kernel_rfl) (by kernel_rfl) (by kernel_rfl) (fun _ _ _ h => h) (Or.inl ⟨by rfl, ?_⟩) (.inr hHeld) ?_
      rotate_left
      focus (intro w hSw; (try dsimp only at hSw); go_simp; try (with_reducible rfl))
      try simp only [Act.put, pZa, pZb, pZc]
      refine tkA 16 (i := 11) (oi := ⟨some 66, _, _, _, _, _⟩) rfl hHeld ?_
      try simp only [Act.put, pZa, pZb, pZc]
      refine tkA 16 (i := 12) (oi := ⟨some 67, _, _, _, _, _⟩) rfl hHeld ?_
      try simp only [Act.put, pZa, pZb, pZc]
      refine wpAnyL_last (i := 13) (o := ⟨none, _, _, _, _, _⟩) (by kernel_rfl) rfl (by kernel_rfl) (fun K hK => ?_)
      go_simp
      go_wp2_with fail
      refine hK.out _ _ ?_
      clear hK K
      try simp only [Act.put, pZa, pZb, pZc]
      refine wpAnyL_last (i := 14) (o := ⟨some 16, _, _, _, _, _⟩) (by kernel_rfl) rfl (by kernel_rfl) (fun K hK => ?_)
      go_simp
      refine hK.out _ _ ?_
      clear hK K
      try simp only [Act.put, pZa, pZb, pZc]
      refine wpAnyL_done (by kernel_rfl) ?_ _
      refine NoPanic.normal ?_
      have hrow2 := (HO7.out.below hBw).sets
      unfold Sl.val at hrow2
      rw [HAY.out] at hrow2
      have hgY : w5.heap.size ≠ g := fun e => own_not hrow2 (kY7.of hBw) (by decide) (by rw [e]; rfl)
      have hgR : a1.heap.size ≠ g := fun e => own_not hrow2 (K7.of hBw) (by decide) (by rw [e]; rfl)
      have kY8 := (kY7.of hBw).other (g' := g) hgY (j * 5 + 2) (.slice A13 R.length c13)
      have K8 := (K7.of hBw).other (g' := g) hgR (j * 5 + 2) (.slice A13 R.length c13)
      have hsz37 := hV37.size
      have hbase : w.heap.size ≤ w4.heap.size := Nat.le_trans hs2 hV3.size
      have hwg : w.heap.size ≤ g := Nat.le_trans hbase hgn
      have hX8 : Below w.heap.size w (w2.setCell ⟨g, j * 5 + 2, none⟩ (.slice A13 R.length c13)) := ((hB2.trans ((hV37.trans (hBw.mono hsz37)).mono hs2))).setCell (p := ⟨g, j * 5 + 2, none⟩) hwg _
      have hkp := keeps_setIn hrow2 (j * 5 + 2) (.slice A13 R.length c13)
      have h13' := own_keeps H13.out (by decide) hkp
      have htu : E = 0 → OwnTe w4.heap.size (w2.setCell ⟨g, j * 5 + 2, none⟩ (.slice A13 R.length c13)) ({ y with sets_ := ⟨some ⟨g, 0, none⟩, y.sets_.l.set j (⟨t.path_, t.origin_, ⟨A13, R, c13⟩, t.snaps_, t.own_⟩ : MSet), y.sets_.c⟩ } : MTenant) ∧ ({ y with sets_ := ⟨some ⟨g, 0, none⟩, y.sets_.l.set j (⟨t.path_, t.origin_, ⟨A13, R, c13⟩, t.snaps_, t.own_⟩ : MSet), y.sets_.c⟩ } : MTenant).Good (w2.setCell ⟨g, j * 5 + 2, none⟩ (.slice A13 R.length c13)) := fun h0 => by
        have hE0 : putE s.body_.l i d.size = 0 := by rw [HE.out]; exact h0
        have hRk : R = putK s.body_.l i d := by
          rw [← HRR.out]
          exact if_pos hE0
        have h9 := (HO7.out.eset t (List.mem_of_getElem? HJT.out)).below hBw
        have htg := HGY.out.gsets_.el t (List.mem_of_getElem? HJT.out)
        have hss := MSet.Good.of_own htg rfl (h9.setIn hkp)
        have hgr : SlGood (w2.setCell ⟨g, j * 5 + 2, none⟩ (.slice A13 R.length c13)) bkC goodBk 24 ⟨A13, R, c13⟩ := slGood_of h13' rfl (by rw [hRk]; intro z hz; have h9 := okK_mem (putK_ok hE0) z hz; exact ⟨by omega, by omega, by omega⟩) (by rw [hRk]; have h9 := okK_len (putK_ok hE0); omega)
        exact turned hBw HO7.out HGY.out HAY.out HJT.out (by decide) (by rfl) ⟨ownBase H13.out (by omega), h9.snaps, h9.own, h9.each⟩ ⟨hss.gpath_, hss.gorigin_, hgr, hss.gsnaps_, hss.gown_⟩
      have hpl : E = 0 → ({ y with sets_ := ⟨some ⟨g, 0, none⟩, y.sets_.l.set j (⟨t.path_, t.origin_, ⟨A13, R, c13⟩, t.snaps_, t.own_⟩ : MSet), y.sets_.c⟩ } : MTenant).plain = { x.plain with sets_ := chS p (fun s => { s with body_ := putK s.body_ i d }) x.plain.sets_ } := fun h0 => by
        have hE0 : putE s.body_.l i d.size = 0 := by rw [HE.out]; exact h0
        have hRk : R = putK s.body_.l i d := by
          rw [← HRR.out]
          exact if_pos hE0
        rw [HCH.out]
        show ({ y.plain with sets_ := (y.sets_.l.set j (⟨t.path_, t.origin_, ⟨A13, R, c13⟩, t.snaps_, t.own_⟩ : MSet)).map MSet.plain } : PTenant) = _
        rw [List.map_set, HYL.out, HPY.out, hRk]
        have e1 : (⟨t.path_, t.origin_, ⟨A13, (putK s.body_.l i d), c13⟩, t.snaps_, t.own_⟩ : MSet).plain = (fun s => { s with body_ := putK s.body_ i d }) s.plain := by
          have hb : s.body_.l = t.body_.l := (congrArg PSet.body_ HTP.out).symm
          rw [← HTP.out, hb]
          rfl
        rw [e1]
        rfl
      obtain ⟨w8, hw8⟩ : ∃ w8, w2.setCell ⟨g, j * 5 + 2, none⟩ (.slice A13 R.length c13) = w8 := ⟨_, rfl⟩
      rw [hw8] at kY8 K8 hX8 htu
      have HT := Lib.hid htu
      have HPL := Lib.hid hpl
      have HW8 := Lib.hid hw8
      rw [HAY.out] at kY8
      have hlK := K8.lt
      have hlk9 : a1.heap.size < w4.heap.size := by have := hV3.size; omega
      clear htu hpl hw8 h13' hkp hrow2 m0 m1 m2 m3 m4 m5 m6 n0 n1 n2 n3 n4
      go_upto_region 17 with fail
      try rw [HW8.out]
      by_cases hz : E = 0
      · subst hz
        obtain ⟨hoT, hgT⟩ := HT.out rfl
        have hplT := HPL.out rfl
        have hPE : PP = setlP { x.plain with sets_ := chS p (fun s => { s with body_ := putK s.body_ i d }) x.plain.sets_ } := by rw [HV.out]; exact if_neg (by decide)
        subst hPE
        obtain ⟨Y, hY⟩ : ∃ Y : MTenant, ({ y with sets_ := ⟨some ⟨g, 0, none⟩, y.sets_.l.set j (⟨t.path_, t.origin_, ⟨A13, R, c13⟩, t.snaps_, t.own_⟩ : MSet), y.sets_.c⟩ } : MTenant) = Y := ⟨_, rfl⟩
        have hYc : Y.cells.toArray = #[.string y.name_, .int .i64 y.quota_, .int .i64 y.next_, .slice (some ⟨g, 0, none⟩) y.sets_.l.length y.sets_.c, .slice y.grants_.A y.grants_.l.length y.grants_.c, .slice y.stages_.A y.stages_.l.length y.stages_.c, .slice y.log_.A y.log_.l.length y.log_.c] := by rw [← hY]; simp only [MTenant.cells, List.length_set]
        rw [hY] at hoT hgT hplT
        have HS := Lib.hid (refSettled_any Y w8 hgT)
        rw [hYc] at HS
        obtain ⟨EE, hEE⟩ : ∃ EE, (setlP Y.plain).2 = EE := ⟨_, rfl⟩
        rw [hEE] at HS
        have hEP : (setlP { x.plain with sets_ := chS p (fun s => { s with body_ := putK s.body_ i d }) x.plain.sets_ }).2 = EE := by rw [← hEE, hplT]
        obtain ⟨z, hzz⟩ : ∃ z, setlM Y = z := ⟨_, rfl⟩
        have HEP := Lib.hid hEP
        have HYP := Lib.hid hplT
        rw [hzz] at HS
        clear hY hYc hEE hEP hplT
        obtain ⟨m0, m1, m2, m3, m4, m5, m6⟩ := kY8.all7
        go_wp2_with fail
        refine HS.out.mono ?_
        rintro e w9 ⟨rfl, hV9, hfr⟩
        have hoz : OwnTe w4.heap.size w9 z := hzz ▸ setlM_own (hoT.stays fun b _ hb2 => hfr b hb2)
        have hgz : z.Good w9 := hzz ▸ setlM_good (hgT.below hV9)
        have hpz : z.plain = (setlP Y.plain).1 := hzz ▸ setlM_plain Y
        have K9 := K8.of hV9
        have hX9 := hX8.trans (hV9.mono hX8.size)
        obtain ⟨zr0, zr1, zr2, zr3, zr4, zr5, zr6⟩ := K9.all7
        obtain ⟨zrf0, zrf1, zrf2, zrf3, zrf4, zrf5, zrf6⟩ := K9.fz7
        go_wp2
        generalize hwE : World.setCell _ ⟨a1.heap.size, 6, none⟩ _ = wE
        obtain ⟨KE, SE, ZE, BE⟩ := store7 K9 hwE
        obtain ⟨ze0, ze1, ze2, ze3, ze4, ze5, ze6⟩ := KE.all7
        refine bodyPost_ret (v := .tuple #[.agg #[.string z.name_, .int .i64 z.quota_, .int .i64 z.next_, .slice z.sets_.A z.sets_.l.length z.sets_.c, .slice z.grants_.A z.grants_.l.length z.grants_.c, .slice z.stages_.A z.stages_.l.length z.stages_.c, .slice z.log_.A z.log_.l.length z.log_.c], .int .i64 EE]) (by simp [results, Tryz.results11, go_sem, ze0, ze1, ze2, ze3, ze4, ze5, ze6]) rfl ?_
        rw [HYP.out] at hpz
        exact ⟨z, by rw [HEP.out], MTenant.Good.of_own hgz rfl (hoz.store hlk9 SE), hpz, BE _ _ hX9 hs1⟩
      · have hPE : PP = (noT, E) := by rw [HV.out]; exact if_pos hz
        subst hPE
        obtain ⟨zr0, zr1, zr2, zr3, zr4, zr5, zr6⟩ := K8.all7
        obtain ⟨zrf0, zrf1, zrf2, zrf3, zrf4, zrf5, zrf6⟩ := K8.fz7
        go_wp2
        generalize hwE : World.setCell _ ⟨a1.heap.size, 6, none⟩ _ = wE
        obtain ⟨KE, SE, ZE, BE⟩ := store7 K8 hwE
        obtain ⟨ze0, ze1, ze2, ze3, ze4, ze5, ze6⟩ := KE.all7
        refine bodyPost_ret (v := .tuple #[.agg #[.string ⟨#[]⟩, .int .i64 0, .int .i64 0, .slice none 0 0, .slice none 0 0, .slice none 0 0, .slice none 0 0], .int .i64 E]) (by simp [results, Tryz.results11, go_sem, ze0, ze1, ze2, ze3, ze4, ze5, ze6]) rfl ?_
        exact ansG_no (BE _ _ hX8 hs1)
    · have hpl : hasSet x.plain p = false := by rw [hh]; simpa using h0
      have hsn := hasSet_no.1 hpl
      have hc : PP = (noT, 71) := by
        rw [← hPP]
        exact write_none hk0 hsn
      subst hc
      generalize findM x p = F at *
      clear hPP hpl hsn hh hx hx2 hk hk0
      go_enter Tryz.func11, Tryz.ntmps11
      go_upto_region 1 with fail
      rw [HW1.out, HW2.out]
      try rw [hX2]
      go_wp2_with fail
      refine HR.out.mono ?_
      rintro e w3 ⟨rfl, hV⟩
      have K1 := k1.of hV
      have K2 := k2.of hV
      obtain ⟨d0, d1, d2, d3, d4, d5, d6⟩ := K1.all7
      go_wp2_with fail
      refine (HF.out _ hV).mono ?_
      rintro e w4 ⟨rfl, hV2⟩
      have hV3 := hV.trans (hV2.mono hV.size)
      have K3 := K1.of hV2
      have K4 := K2.of hV2
      have hX := hB2.trans (hV3.mono hs2)
      obtain ⟨zr0, zr1, zr2, zr3, zr4, zr5, zr6⟩ := K4.all7
      obtain ⟨zrf0, zrf1, zrf2, zrf3, zrf4, zrf5, zrf6⟩ := K4.fz7
      go_wp2
      generalize hwE : World.setCell _ ⟨a1.heap.size, 6, none⟩ _ = wE
      obtain ⟨KE, SE, ZE, BE⟩ := store7 K4 hwE
      obtain ⟨ze0, ze1, ze2, ze3, ze4, ze5, ze6⟩ := KE.all7
      refine bodyPost_ret (v := .tuple #[.agg #[.string ⟨#[]⟩, .int .i64 0, .int .i64 0, .slice none 0 0, .slice none 0 0, .slice none 0 0, .slice none 0 0], .int .i64 71]) (by simp [results, Tryz.results11, go_sem, ze0, ze1, ze2, ze3, ze4, ze5, ze6]) rfl ?_
      exact ansG_no (BE _ _ hX hs1)
set_option maxHeartbeats 1000000
theorem refTurn2_any (x : MTenant) (p : ByteArray) (i c : Int) (hp : p.size ≤ 4398046511104) (hc : -9223372036854775808 ≤ c ∧ c ≤ 9223372036854775807) (w : World) (hx : x.Good w) (ht : x.Tiny) :
    Calls Tryz.prog 11 #[.agg x.cells.toArray, .string p, .int .i64 2, .int .i64 i, .int .i64 c, .string ⟨#[]⟩, .string ⟨#[]⟩] w fun e w' => AnsG w (changedU x.plain p (fun s => freeE s.body_ i c) (fun s => { s with body_ := freeK s.body_ i c })) e w' := by
  obtain ⟨a1, hw1⟩ : ∃ a1, w.alloc (.cells #[.string x.name_, .int .i64 x.quota_, .int .i64 x.next_, .slice x.sets_.A x.sets_.l.length x.sets_.c, .slice x.grants_.A x.grants_.l.length x.grants_.c, .slice x.stages_.A x.stages_.l.length x.stages_.c, .slice x.log_.A x.log_.l.length x.log_.c] 27) = a1 := ⟨_, rfl⟩
  have b1 : Below w.heap.size w a1 := hw1 ▸ (Below.refl _ w).alloc (Nat.le_refl _) _
  have k1 : Blk a1 w.heap.size 27 [.string x.name_, .int .i64 x.quota_, .int .i64 x.next_, .slice x.sets_.A x.sets_.l.length x.sets_.c, .slice x.grants_.A x.grants_.l.length x.grants_.c, .slice x.stages_.A x.stages_.l.length x.stages_.c, .slice x.log_.A x.log_.l.length x.log_.c] := hw1 ▸ Blk.new w _ _
  obtain ⟨a2, hw2⟩ : ∃ a2, a1.alloc (.cells #[.string ⟨#[]⟩, .int .i64 0, .int .i64 0, .slice none 0 0, .slice none 0 0, .slice none 0 0, .slice none 0 0] 27) = a2 := ⟨_, rfl⟩
  have b2 : Below a1.heap.size a1 a2 := hw2 ▸ (Below.refl _ a1).alloc (Nat.le_refl _) _
  have k2 : Blk a2 a1.heap.size 27 [.string ⟨#[]⟩, .int .i64 0, .int .i64 0, .slice none 0 0, .slice none 0 0, .slice none 0 0, .slice none 0 0] := hw2 ▸ Blk.new a1 _ _
  have hX2 : w.heap.size + 1 = a1.heap.size := by rw [← hw1, World.size_alloc]
  have hB1 : Below w.heap.size w a1 := b1
  have hB2 : Below w.heap.size w a2 := hB1.trans (b2.mono hB1.size)
  have k1 := k1.of b2
  have hs2 := hB2.size
  have hs1 := hB1.size
  have ht1 : a1.heap.size ≤ a2.heap.size := b2.size
  have HW1 := Lib.hid hw1
  have HW2 := Lib.hid hw2
  clear hw1 b1 hw2 b2
  have hx2 := hx.below hB2
  have HR := Lib.hid (refAsked_any x p hp a2 hx2 ht)
  have HF := Lib.hid (fun W (hW : Below a2.heap.size a2 W) => refFind_any x p W (hx2.below hW))
  have HO := Lib.hid (fun W (hW : Below a2.heap.size a2 W) => refOwnT_any x W (hx2.below hW))
  have hlk1 := k1.lt
  have hlk2 := k2.lt
  have HG := Lib.hid hx2
  obtain ⟨q0, q1, q2, q3, q4, q5, q6⟩ := k1.all7
  obtain ⟨PP, hPP⟩ : ∃ PP : PTenant × Int, changedU x.plain p (fun s => freeE s.body_ i c) (fun s => { s with body_ := freeK s.body_ i c }) = PP := ⟨_, rfl⟩
  rw [hPP]
  by_cases hk : askE x.plain p ≠ 0
  · have hc : PP = (noT, askE x.plain p) := by rw [← hPP]; exact changed_ask hk
    subst hc
    generalize askE x.plain p = E at *
    clear hPP hx hx2
    go_enter Tryz.func11, Tryz.ntmps11
    go_upto_region 1 with fail
    rw [HW1.out, HW2.out]
    try rw [hX2]
    go_wp2_with fail
    refine HR.out.mono ?_
    rintro e w3 ⟨rfl, hV⟩
    have K2 := k2.of hV
    have hX := hB2.trans (hV.mono hs2)
    obtain ⟨zr0, zr1, zr2, zr3, zr4, zr5, zr6⟩ := K2.all7
    obtain ⟨zrf0, zrf1, zrf2, zrf3, zrf4, zrf5, zrf6⟩ := K2.fz7
    go_wp2
    generalize hwE : World.setCell _ ⟨a1.heap.size, 6, none⟩ _ = wE
    obtain ⟨KE, SE, ZE, BE⟩ := store7 K2 hwE
    obtain ⟨ze0, ze1, ze2, ze3, ze4, ze5, ze6⟩ := KE.all7
    refine bodyPost_ret (v := .tuple #[.agg #[.string ⟨#[]⟩, .int .i64 0, .int .i64 0, .slice none 0 0, .slice none 0 0, .slice none 0 0, .slice none 0 0], .int .i64 E]) (by simp [results, Tryz.results11, go_sem, ze0, ze1, ze2, ze3, ze4, ze5, ze6]) rfl ?_
    exact ansG_no (BE _ _ hX hs1)
  · have hk0 : askE x.plain p = 0 := Classical.not_not.1 hk
    rw [hk0] at HR
    have hh := hasSet_find x p
    by_cases h0 : 0 ≤ findM x p
    · have hpl0 : placeE x.plain p = 0 := by unfold placeE; rw [if_neg hk, if_pos (by rw [hh]; exact decide_eq_true h0)]
      obtain ⟨j, s, hI, hj, hsp, hsa, hok, hip, hnt⟩ := place_ways hpl0
      have hfj : findM x p = j := by rw [← hI]; unfold placeI; rw [if_neg (by rw [hpl0]; decide)]
      rw [hfj] at HF
      have hjl : j < x.sets_.l.length := (List.getElem?_eq_some_iff.1 hj).1
      have hval : PP = (if freeE s.body_.l i c ≠ 0 then (noT, freeE s.body_.l i c) else ({ x.plain with sets_ := chS p (fun s => { s with body_ := freeK s.body_ i c }) x.plain.sets_ }, 0) : PTenant × Int) := by
        rw [← hPP]
        exact changed_some hk0 hsa
      have hris : x.plain.sets_.Pairwise fun a b => ltPath a b = true := (goodL_iff (fun a b c => ltPath_trans a b c)).1 (okT_parts.1 hok).2.2.2 |>.2
      have hchs : chS p (fun s => { s with body_ := freeK s.body_ i c }) x.plain.sets_ = x.plain.sets_.set j ((fun s => { s with body_ := freeK s.body_ i c }) s.plain) := by
        exact chS_setP hris (j := j) (s := s.plain) (by show (x.sets_.l.map MSet.plain)[j]? = _; rw [List.getElem?_map, hj]; rfl) hsp
      have HCH := Lib.hid hchs
      have HJ := Lib.hid hj
      obtain ⟨E, hE⟩ : ∃ E, freeE s.body_.l i c = E := ⟨_, rfl⟩
      obtain ⟨R, hR⟩ : ∃ R, freeR s.body_.l i c = R := ⟨_, rfl⟩
      have hsg := hx2.gsets_.el s (List.mem_of_getElem? hj)
      have hlenf := hsg.gbody_.len
      have HC := Lib.hid (fun (V : World) (hV : Below a2.heap.size a2 V) => refFree_any s.body_.A s.body_.c s.body_.l.length s.body_.l rfl (by omega) (fun z hz => (hsg.gbody_.el z hz).1) i c hc V (hsg.gbody_.rd.below hV))
      rw [hE, hR] at HC
      rw [hE] at hval
      have HE := Lib.hid hE
      have HRR := Lib.hid hR
      have HV := Lib.hid hval
      have HSG := Lib.hid hsg
      clear hPP hh hx hx2 hk hk0 hpl0 hI hj hsp hsa hok hip hnt hfj h0 hris hchs hE hR hval hsg
      go_enter Tryz.func11, Tryz.ntmps11
      go_upto_region 1 with fail
      rw [HW1.out, HW2.out]
      try rw [hX2]
      go_wp2_with fail
      refine HR.out.mono ?_
      rintro e w3 ⟨rfl, hV⟩
      have K1 := k1.of hV
      have K2 := k2.of hV
      obtain ⟨d0, d1, d2, d3, d4, d5, d6⟩ := K1.all7
      go_wp2_with fail
      refine (HF.out _ hV).mono ?_
      rintro e w4 ⟨rfl, hV2⟩
      have hV3 := hV.trans (hV2.mono hV.size)
      have K3 := K1.of hV2
      have K4 := K2.of hV2
      obtain ⟨e0, e1, e2, e3, e4, e5, e6⟩ := K3.all7
      have HOW := Lib.hid (HO.out w4 hV3)
      go_wp2_with fail
      refine HOW.out.mono ?_
      rintro e w5 ⟨y, rfl, hoy, hpy, hV5⟩
      have hs45 := hV5.size
      obtain ⟨w6, hw6⟩ : ∃ w6, w5.alloc (.cells #[.string y.name_, .int .i64 y.quota_, .int .i64 y.next_, .slice y.sets_.A y.sets_.l.length y.sets_.c, .slice y.grants_.A y.grants_.l.length y.grants_.c, .slice y.stages_.A y.stages_.l.length y.stages_.c, .slice y.log_.A y.log_.l.length y.log_.c] 27) = w6 := ⟨_, rfl⟩
      have hV6 : Below w5.heap.size w5 w6 := hw6 ▸ (Below.refl _ w5).alloc (Nat.le_refl _) _
      have kY : Blk w6 w5.heap.size 27 [.string y.name_, .int .i64 y.quota_, .int .i64 y.next_, .slice y.sets_.A y.sets_.l.length y.sets_.c, .slice y.grants_.A y.grants_.l.length y.grants_.c, .slice y.stages_.A y.stages_.l.length y.stages_.c, .slice y.log_.A y.log_.l.length y.log_.c] := hw6 ▸ Blk.new w5 _ _
      have hs56 := hV6.size
      have hV46 := hV5.trans (hV6.mono hs45)
      have hV36 := hV3.trans (hV46.mono hV3.size)
      have K5 := K3.of hV46
      have K6 := K4.of hV46
      have HW6 := Lib.hid hw6
      obtain ⟨b, off, hA, hbl, hcc⟩ := Rd.elem (n := 5) (fun _ => rfl) (by omega) (HG.out.gsets_.rd.below hV36) HJ.out
      have c0 : w6.cell? ⟨b, off + j * 5, none⟩ = some (.string s.path_) := hcc 0 _ rfl
      have c1 : w6.cell? ⟨b, off + j * 5 + 1, none⟩ = some (.string s.origin_) := hcc 1 _ rfl
      have c2 : w6.cell? ⟨b, off + j * 5 + 2, none⟩ = some (.slice s.body_.A s.body_.l.length s.body_.c) := hcc 2 _ rfl
      have c3 : w6.cell? ⟨b, off + j * 5 + 3, none⟩ = some (.slice s.snaps_.A s.snaps_.l.length s.snaps_.c) := hcc 3 _ rfl
      have c4 : w6.cell? ⟨b, off + j * 5 + 4, none⟩ = some (.slice s.own_.A s.own_.l.length s.own_.c) := hcc 4 _ rfl
      clear hcc hw6 e0 e1 e2 e3 e4 e5 e6 d0 d1 d2 d3 d4 d5 d6
      go_upto_region 8 with fail
      rw [HW6.out]
      obtain ⟨h0, h1, h2, h3, h4, h5, h6⟩ := K5.all7
      rw [hA] at h3
      have HA := Lib.hid hA
      clear hA
      obtain ⟨w7, hw7⟩ : ∃ w7, w6.alloc (.cells #[.string s.path_, .string s.origin_, .slice s.body_.A s.body_.l.length s.body_.c, .slice s.snaps_.A s.snaps_.l.length s.snaps_.c, .slice s.own_.A s.own_.l.length s.own_.c] 49) = w7 := ⟨_, rfl⟩
      have hV7 : Below w6.heap.size w6 w7 := hw7 ▸ (Below.refl _ w6).alloc (Nat.le_refl _) _
      have kS : Blk w7 w6.heap.size 49 [.string s.path_, .string s.origin_, .slice s.body_.A s.body_.l.length s.body_.c, .slice s.snaps_.A s.snaps_.l.length s.snaps_.c, .slice s.own_.A s.own_.l.length s.own_.c] := hw7 ▸ Blk.new w6 _ _
      have hs67 := hV7.size
      have hV37 := hV36.trans (hV7.mono hV36.size)
      have kY7 := kY.of hV7
      have K7 := K6.of hV7
      have HW7 := Lib.hid hw7
      have hgy : y.Good w7 := (MTenant.Good.of_own HG.out hpy hoy).below (hV6.trans (hV7.mono hs56))
      have ho7 : OwnTe w4.heap.size w7 y := hoy.below (hV6.trans (hV7.mono hs56))
      have hyl : y.sets_.l.map MSet.plain = x.sets_.l.map MSet.plain := congrArg PTenant.sets_ hpy
      have hjy : j < y.sets_.l.length := by rw [map_len hyl]; exact hjl
      obtain ⟨t, hjt⟩ : ∃ t, y.sets_.l[j]? = some t := ⟨_, qZa hjy⟩
      have htp : t.plain = s.plain := by
        have h9 : (y.sets_.l.map MSet.plain)[j]? = some t.plain := by rw [List.getElem?_map, hjt]; rfl
        rw [hyl, List.getElem?_map, HJ.out] at h9
        simp only [Option.map_some, Option.some.injEq] at h9
        exact h9.symm
      obtain ⟨g, goff, hAy, hgl, hcy⟩ := Rd.elem (n := 5) (fun _ => rfl) (by omega) hgy.gsets_.rd hjt
      have hoff : goff = 0 ∧ w4.heap.size ≤ g := by
        obtain ⟨_, ⟨hv, h0⟩ | ⟨gg, cap, cur, hv, hn, _⟩⟩ := ho7.sets
        · omega
        · injection hv with e1 e2 e3
          rw [hAy] at e1
          injection e1 with e1
          injection e1 with e1 e4
          exact ⟨e4, by omega⟩
      obtain ⟨rfl, hgn⟩ := hoff
      have cy : w7.cell? ⟨g, 0 + j * 5 + 2, none⟩ = some (.slice t.body_.A t.body_.l.length t.body_.c) := hcy 2 _ rfl
      rw [Nat.zero_add] at cy
      have hrow := ho7.sets
      unfold Sl.val at hrow
      rw [hAy] at hrow
      have cfz := own_frozen hrow (j * 5 + 2)
      have HAY := Lib.hid hAy
      have HJT := Lib.hid hjt
      have HTP := Lib.hid htp
      have HYL := Lib.hid hyl
      have HPY := Lib.hid hpy
      have HGY := Lib.hid hgy
      have HO7 := Lib.hid ho7
      have hly := kY7.lt
      have hlS := kS.lt
      clear hw7 hgy ho7 hyl hjt htp hcy hrow hpy hoy
      go_upto_region 14 with fail
      rw [HW7.out]
      clear c0 c1 c2 c3 c4 h0 h1 h2 h3 h4 h5 h6
      obtain ⟨m0, m1, m2, m3, m4, m5, m6⟩ := kY7.all7
      obtain ⟨n0, n1, n2, n3, n4⟩ := kS.all5
      rw [HAY.out] at m3
      refine wp_region_noPanic ?_
      refine wp_region_last 13 (fun W => W.cell? ⟨w5.heap.size, 3, none⟩ = some (.slice (some ⟨g, 0, none⟩) y.sets_.l.length y.sets_.c) ∧ W.cell? ⟨w6.heap.size, 2, none⟩ = some (.slice s.body_.A s.body_.l.length s.body_.c) ∧ W.cell? ⟨g, j * 5 + 2, none⟩ = some (.slice t.body_.A t.body_.l.length t.body_.c) ∧ W.frozen? ⟨g, j * 5 + 2, none⟩ = false) (by kernel_rfl) ⟨m3, n2, cy, cfz⟩ (fun hHeld => ?_)
      refine tkA 16 (i := 0) (oi := ⟨some 71, _, _, _, _, _⟩) rfl hHeld ?_
      try simp only [Act.put, pZa, pZb, pZc]
      refine tkA 16 (i := 1) (oi := ⟨some 72, _, _, _, _, _⟩) rfl hHeld ?_
      try simp only [Act.put, pZa, pZb, pZc]
      refine tkA 16 (i := 2) (oi := ⟨some 73, _, _, _, _, _⟩) rfl hHeld ?_
      try simp only [Act.put, pZa, pZb, pZc]
      refine tkA 16 (i := 3) (oi := ⟨some 74, _, _, _, _, _⟩) rfl hHeld ?_
      try simp only [Act.put, pZa, pZb, pZc]
      refine tkA 16 (i := 4) (oi := ⟨some 75, _, _, _, _, _⟩) rfl hHeld ?_
      try simp only [Act.put, pZa, pZb, pZc]
      refine tkA 16 (i := 5) (oi := ⟨some 76, _, _, _, _, _⟩) rfl hHeld ?_
      try simp only [Act.put, pZa, pZb, pZc]
      refine tkA 16 (i := 6) (oi := ⟨some 77, _, _, _, _, _⟩) rfl hHeld ?_
      try simp only [Act.put, pZa, pZb, pZc]
      clear hHeld
      refine wpAnyL_facts 16 1 7 [(7, 78)] (fun s v w => match s with
        | 78 => ∃ A13 c13, v = .tuple #[.slice A13 R.length c13, .int .i64 E] ∧ w.ownsRow w7.heap.size 103 2 (.slice A13 R.length c13) R.length (R.flatMap bkC)
        | _ => True) (fun w w' => Below w.heap.size w w') (by kernel_rfl) (by kernel_rfl) bZh ⟨?_, trivial⟩ (fun w' hB => ⟨(hB.cell (p := ⟨w5.heap.size, 3, none⟩) hly).trans m3, (hB.cell (p := ⟨w6.heap.size, 2, none⟩) hlS).trans n2, (hB.cell (p := ⟨g, j * 5 + 2, none⟩) hgl).trans cy, (hB.frozen (p := ⟨g, j * 5 + 2, none⟩) hgl).trans cfz⟩) ⟨?_, trivial⟩ ?_
      focus
        intro v w w' h hB
        exact (by obtain ⟨A13, c13, e, hb⟩ := h; exact ⟨A13, c13, e, ownBelow hb hB (Nat.le_refl _)⟩)
      focus
        intro vs w2 hBf hFf o ho K hK
        obtain rfl : (⟨some 78, _, _, _, _, _⟩ : Oper) = o := Option.some.inj ho
        clear ho
        (try simp only [fillL, pZd, pZe, Act.put, pZa, pZb, pZc] at hK ⊢)
        go_simp
        refine (HC.out _ (hV37.trans (((Below.refl w7.heap.size w7).drew.trans hBf).mono hV37.size))).mono ?_
        rintro e w4 ⟨v4, rfl, ho4, hB4⟩
        obtain ⟨A4, c4, rfl, _, _, _, _⟩ := ownAny ho4
        exact hK.out _ _ ⟨⟨A4, c4, rfl, ownBase ho4 ((Below.refl w7.heap.size w7).drew.trans hBf).size⟩, hB4⟩
      intro vs w2 hBf hFf
      (try simp only [fillL, pZd, pZe, Act.put, pZa, pZb, pZc])
      obtain ⟨A13, c13, e13, h13⟩ := (hFf (7, 78) (by simp))
      simp only [e13]
      have hBw : Below w7.heap.size w7 w2 := (Below.refl w7.heap.size w7).drew.trans hBf
      have H13 := Lib.hid h13
      clear h13
      have hHeld : (fun W => W.cell? ⟨w5.heap.size, 3, none⟩ = some (.slice (some ⟨g, 0, none⟩) y.sets_.l.length y.sets_.c) ∧ W.cell? ⟨w6.heap.size, 2, none⟩ = some (.slice s.body_.A s.body_.l.length s.body_.c) ∧ W.cell? ⟨g, j * 5 + 2, none⟩ = some (.slice t.body_.A t.body_.l.length t.body_.c) ∧ W.frozen? ⟨g, j * 5 + 2, none⟩ = false) w2 := ⟨(hBf.cell (p := ⟨w5.heap.size, 3, none⟩) hly).trans m3, (hBf.cell (p := ⟨w6.heap.size, 2, none⟩) hlS).trans n2, (hBf.cell (p := ⟨g, j * 5 + 2, none⟩) hgl).trans cy, (hBf.frozen (p := ⟨g, j * 5 + 2, none⟩) hgl).trans cfz⟩
      refine tkA 16 (i := 8) (oi := ⟨some 70, _, _, _, _, _⟩) rfl hHeld ?_
      try simp only [Act.put, pZa, pZb, pZc]
      refine tkA 16 (i := 9) (oi := ⟨some 79, _, _, _, _, _⟩) rfl hHeld ?_
      try simp only [Act.put, pZa, pZb, pZc]
      refine wpAnyL_takeW (i := 10) (oi := ⟨some 80, _, _, _, _, _⟩) (v := ?_) rfl (by kernel_rfl) (by kernel_rfl) (by kernel_rfl) (by kernel_rfl) (fun _ _ _ h => h) (Or.inl ⟨by rfl, ?_⟩) (.inr hHeld) ?_
      rotate_left
      focus (intro w hSw; (try dsimp only at hSw); go_simp; try (with_reducible rfl))
      try simp only [Act.put, pZa, pZb, pZc]
      refine tkA 16 (i := 11) (oi := ⟨some 81, _, _, _, _, _⟩) rfl hHeld ?_
      try simp only [Act.put, pZa, pZb, pZc]
      refine tkA 16 (i := 12) (oi := ⟨some 82, _, _, _, _, _⟩) rfl hHeld ?_
      try simp only [Act.put, pZa, pZb, pZc]
      refine wpAnyL_last (i := 13) (o := ⟨none, _, _, _, _, _⟩) (by kernel_rfl) rfl (by kernel_rfl) (fun K hK => ?_)
      go_simp
      go_wp2_with fail
      refine hK.out _ _ ?_
      clear hK K
      try simp only [Act.put, pZa, pZb, pZc]
      refine wpAnyL_last (i := 14) (o := ⟨some 16, _, _, _, _, _⟩) (by kernel_rfl) rfl (by kernel_rfl) (fun K hK => ?_)
      go_simp
      refine hK.out _ _ ?_
      clear hK K
      try simp only [Act.put, pZa, pZb, pZc]
      refine wpAnyL_done (by kernel_rfl) ?_ _
      refine NoPanic.normal ?_
      have hrow2 := (HO7.out.below hBw).sets
      unfold Sl.val at hrow2
      rw [HAY.out] at hrow2
      have hgY : w5.heap.size ≠ g := fun e => own_not hrow2 (kY7.of hBw) (by decide) (by rw [e]; rfl)
      have hgR : a1.heap.size ≠ g := fun e => own_not hrow2 (K7.of hBw) (by decide) (by rw [e]; rfl)
      have kY8 := (kY7.of hBw).other (g' := g) hgY (j * 5 + 2) (.slice A13 R.length c13)
      have K8 := (K7.of hBw).other (g' := g) hgR (j * 5 + 2) (.slice A13 R.length c13)
      have hsz37 := hV37.size
      have hbase : w.heap.size ≤ w4.heap.size := Nat.le_trans hs2 hV3.size
      have hwg : w.heap.size ≤ g := Nat.le_trans hbase hgn
      have hX8 : Below w.heap.size w (w2.setCell ⟨g, j * 5 + 2, none⟩ (.slice A13 R.length c13)) := ((hB2.trans ((hV37.trans (hBw.mono hsz37)).mono hs2))).setCell (p := ⟨g, j * 5 + 2, none⟩) hwg _
      have hkp := keeps_setIn hrow2 (j * 5 + 2) (.slice A13 R.length c13)
      have h13' := own_keeps H13.out (by decide) hkp
      have htu : E = 0 → OwnTe w4.heap.size (w2.setCell ⟨g, j * 5 + 2, none⟩ (.slice A13 R.length c13)) ({ y with sets_ := ⟨some ⟨g, 0, none⟩, y.sets_.l.set j (⟨t.path_, t.origin_, ⟨A13, R, c13⟩, t.snaps_, t.own_⟩ : MSet), y.sets_.c⟩ } : MTenant) ∧ ({ y with sets_ := ⟨some ⟨g, 0, none⟩, y.sets_.l.set j (⟨t.path_, t.origin_, ⟨A13, R, c13⟩, t.snaps_, t.own_⟩ : MSet), y.sets_.c⟩ } : MTenant).Good (w2.setCell ⟨g, j * 5 + 2, none⟩ (.slice A13 R.length c13)) := fun h0 => by
        have hE0 : freeE s.body_.l i c = 0 := by rw [HE.out]; exact h0
        have hRk : R = freeK s.body_.l i c := by
          rw [← HRR.out]
          exact if_pos hE0
        have h9 := (HO7.out.eset t (List.mem_of_getElem? HJT.out)).below hBw
        have htg := HGY.out.gsets_.el t (List.mem_of_getElem? HJT.out)
        have hss := MSet.Good.of_own htg rfl (h9.setIn hkp)
        have hgr : SlGood (w2.setCell ⟨g, j * 5 + 2, none⟩ (.slice A13 R.length c13)) bkC goodBk 24 ⟨A13, R, c13⟩ := slGood_of h13' rfl (by rw [hRk]; intro z hz; have h9 := okK_mem (freeK_ok i c (free_okK hE0)) z hz; exact ⟨by omega, by omega, by omega⟩) (by rw [hRk]; have h9 := okK_len (freeK_ok i c (free_okK hE0)); omega)
        exact turned hBw HO7.out HGY.out HAY.out HJT.out (by decide) (by rfl) ⟨ownBase H13.out (by omega), h9.snaps, h9.own, h9.each⟩ ⟨hss.gpath_, hss.gorigin_, hgr, hss.gsnaps_, hss.gown_⟩
      have hpl : E = 0 → ({ y with sets_ := ⟨some ⟨g, 0, none⟩, y.sets_.l.set j (⟨t.path_, t.origin_, ⟨A13, R, c13⟩, t.snaps_, t.own_⟩ : MSet), y.sets_.c⟩ } : MTenant).plain = { x.plain with sets_ := chS p (fun s => { s with body_ := freeK s.body_ i c }) x.plain.sets_ } := fun h0 => by
        have hE0 : freeE s.body_.l i c = 0 := by rw [HE.out]; exact h0
        have hRk : R = freeK s.body_.l i c := by
          rw [← HRR.out]
          exact if_pos hE0
        rw [HCH.out]
        show ({ y.plain with sets_ := (y.sets_.l.set j (⟨t.path_, t.origin_, ⟨A13, R, c13⟩, t.snaps_, t.own_⟩ : MSet)).map MSet.plain } : PTenant) = _
        rw [List.map_set, HYL.out, HPY.out, hRk]
        have e1 : (⟨t.path_, t.origin_, ⟨A13, (freeK s.body_.l i c), c13⟩, t.snaps_, t.own_⟩ : MSet).plain = (fun s => { s with body_ := freeK s.body_ i c }) s.plain := by
          have hb : s.body_.l = t.body_.l := (congrArg PSet.body_ HTP.out).symm
          rw [← HTP.out, hb]
          rfl
        rw [e1]
        rfl
      obtain ⟨w8, hw8⟩ : ∃ w8, w2.setCell ⟨g, j * 5 + 2, none⟩ (.slice A13 R.length c13) = w8 := ⟨_, rfl⟩
      rw [hw8] at kY8 K8 hX8 htu
      have HT := Lib.hid htu
      have HPL := Lib.hid hpl
      have HW8 := Lib.hid hw8
      rw [HAY.out] at kY8
      have hlK := K8.lt
      have hlk9 : a1.heap.size < w4.heap.size := by have := hV3.size; omega
      clear htu hpl hw8 h13' hkp hrow2 m0 m1 m2 m3 m4 m5 m6 n0 n1 n2 n3 n4
      go_upto_region 17 with fail
      try rw [HW8.out]
      by_cases hz : E = 0
      · subst hz
        obtain ⟨hoT, hgT⟩ := HT.out rfl
        have hplT := HPL.out rfl
        have hPE : PP = ({ x.plain with sets_ := chS p (fun s => { s with body_ := freeK s.body_ i c }) x.plain.sets_ }, 0) := by rw [HV.out]; exact if_neg (by decide)
        subst hPE
        obtain ⟨m0, m1, m2, m3, m4, m5, m6⟩ := kY8.all7
        obtain ⟨zr0, zr1, zr2, zr3, zr4, zr5, zr6⟩ := K8.all7
        obtain ⟨zrf0, zrf1, zrf2, zrf3, zrf4, zrf5, zrf6⟩ := K8.fz7
        go_wp2
        generalize hwE : World.setCell _ ⟨a1.heap.size, 6, none⟩ _ = wE
        obtain ⟨KE, SE, ZE, BE⟩ := store7 K8 hwE
        obtain ⟨ze0, ze1, ze2, ze3, ze4, ze5, ze6⟩ := KE.all7
        refine bodyPost_ret (v := .tuple #[.agg #[.string y.name_, .int .i64 y.quota_, .int .i64 y.next_, .slice (some ⟨g, 0, none⟩) y.sets_.l.length y.sets_.c, .slice y.grants_.A y.grants_.l.length y.grants_.c, .slice y.stages_.A y.stages_.l.length y.stages_.c, .slice y.log_.A y.log_.l.length y.log_.c], .int .i64 0]) (by simp [results, Tryz.results11, go_sem, ze0, ze1, ze2, ze3, ze4, ze5, ze6]) rfl ?_
        exact ⟨({ y with sets_ := ⟨some ⟨g, 0, none⟩, y.sets_.l.set j (⟨t.path_, t.origin_, ⟨A13, R, c13⟩, t.snaps_, t.own_⟩ : MSet), y.sets_.c⟩ } : MTenant), by simp only [MTenant.cells, List.length_set], MTenant.Good.of_own hgT rfl (hoT.store hlk9 SE), hplT, BE _ _ hX8 hs1⟩
      · have hPE : PP = (noT, E) := by rw [HV.out]; exact if_pos hz
        subst hPE
        obtain ⟨zr0, zr1, zr2, zr3, zr4, zr5, zr6⟩ := K8.all7
        obtain ⟨zrf0, zrf1, zrf2, zrf3, zrf4, zrf5, zrf6⟩ := K8.fz7
        go_wp2
        generalize hwE : World.setCell _ ⟨a1.heap.size, 6, none⟩ _ = wE
        obtain ⟨KE, SE, ZE, BE⟩ := store7 K8 hwE
        obtain ⟨ze0, ze1, ze2, ze3, ze4, ze5, ze6⟩ := KE.all7
        refine bodyPost_ret (v := .tuple #[.agg #[.string ⟨#[]⟩, .int .i64 0, .int .i64 0, .slice none 0 0, .slice none 0 0, .slice none 0 0, .slice none 0 0], .int .i64 E]) (by simp [results, Tryz.results11, go_sem, ze0, ze1, ze2, ze3, ze4, ze5, ze6]) rfl ?_
        exact ansG_no (BE _ _ hX8 hs1)
    · have hpl : hasSet x.plain p = false := by rw [hh]; simpa using h0
      have hsn := hasSet_no.1 hpl
      have hc : PP = (noT, 71) := by
        rw [← hPP]
        exact changed_none hk0 hsn
      subst hc
      generalize findM x p = F at *
      clear hPP hpl hsn hh hx hx2 hk hk0
      go_enter Tryz.func11, Tryz.ntmps11
      go_upto_region 1 with fail
      rw [HW1.out, HW2.out]
      try rw [hX2]
      go_wp2_with fail
      refine HR.out.mono ?_
      rintro e w3 ⟨rfl, hV⟩
      have K1 := k1.of hV
      have K2 := k2.of hV
      obtain ⟨d0, d1, d2, d3, d4, d5, d6⟩ := K1.all7
      go_wp2_with fail
      refine (HF.out _ hV).mono ?_
      rintro e w4 ⟨rfl, hV2⟩
      have hV3 := hV.trans (hV2.mono hV.size)
      have K3 := K1.of hV2
      have K4 := K2.of hV2
      have hX := hB2.trans (hV3.mono hs2)
      obtain ⟨zr0, zr1, zr2, zr3, zr4, zr5, zr6⟩ := K4.all7
      obtain ⟨zrf0, zrf1, zrf2, zrf3, zrf4, zrf5, zrf6⟩ := K4.fz7
      go_wp2
      generalize hwE : World.setCell _ ⟨a1.heap.size, 6, none⟩ _ = wE
      obtain ⟨KE, SE, ZE, BE⟩ := store7 K4 hwE
      obtain ⟨ze0, ze1, ze2, ze3, ze4, ze5, ze6⟩ := KE.all7
      refine bodyPost_ret (v := .tuple #[.agg #[.string ⟨#[]⟩, .int .i64 0, .int .i64 0, .slice none 0 0, .slice none 0 0, .slice none 0 0, .slice none 0 0], .int .i64 71]) (by simp [results, Tryz.results11, go_sem, ze0, ze1, ze2, ze3, ze4, ze5, ze6]) rfl ?_
      exact ansG_no (BE _ _ hX hs1)
theorem refTurn3_any (x : MTenant) (p : ByteArray) (k v : ByteArray) (hp : p.size ≤ 4398046511104) (hkk : k.size ≤ 140737488351232) (hvv : v.size ≤ 140737488351232) (w : World) (hx : x.Good w) (ht : x.Tiny) :
    Calls Tryz.prog 11 #[.agg x.cells.toArray, .string p, .int .i64 3, .int .i64 0, .int .i64 0, .string k, .string v] w fun e w' => AnsG w (changedU x.plain p (fun s => setE s.own_ k v) (fun s => { s with own_ := putP s.own_ (k, v) })) e w' := by
  obtain ⟨a1, hw1⟩ : ∃ a1, w.alloc (.cells #[.string x.name_, .int .i64 x.quota_, .int .i64 x.next_, .slice x.sets_.A x.sets_.l.length x.sets_.c, .slice x.grants_.A x.grants_.l.length x.grants_.c, .slice x.stages_.A x.stages_.l.length x.stages_.c, .slice x.log_.A x.log_.l.length x.log_.c] 27) = a1 := ⟨_, rfl⟩
  have b1 : Below w.heap.size w a1 := hw1 ▸ (Below.refl _ w).alloc (Nat.le_refl _) _
  have k1 : Blk a1 w.heap.size 27 [.string x.name_, .int .i64 x.quota_, .int .i64 x.next_, .slice x.sets_.A x.sets_.l.length x.sets_.c, .slice x.grants_.A x.grants_.l.length x.grants_.c, .slice x.stages_.A x.stages_.l.length x.stages_.c, .slice x.log_.A x.log_.l.length x.log_.c] := hw1 ▸ Blk.new w _ _
  obtain ⟨a2, hw2⟩ : ∃ a2, a1.alloc (.cells #[.string ⟨#[]⟩, .int .i64 0, .int .i64 0, .slice none 0 0, .slice none 0 0, .slice none 0 0, .slice none 0 0] 27) = a2 := ⟨_, rfl⟩
  have b2 : Below a1.heap.size a1 a2 := hw2 ▸ (Below.refl _ a1).alloc (Nat.le_refl _) _
  have k2 : Blk a2 a1.heap.size 27 [.string ⟨#[]⟩, .int .i64 0, .int .i64 0, .slice none 0 0, .slice none 0 0, .slice none 0 0, .slice none 0 0] := hw2 ▸ Blk.new a1 _ _
  have hX2 : w.heap.size + 1 = a1.heap.size := by rw [← hw1, World.size_alloc]
  have hB1 : Below w.heap.size w a1 := b1
  have hB2 : Below w.heap.size w a2 := hB1.trans (b2.mono hB1.size)
  have k1 := k1.of b2
  have hs2 := hB2.size
  have hs1 := hB1.size
  have ht1 : a1.heap.size ≤ a2.heap.size := b2.size
  have HW1 := Lib.hid hw1
  have HW2 := Lib.hid hw2
  clear hw1 b1 hw2 b2
  have hx2 := hx.below hB2
  have HR := Lib.hid (refAsked_any x p hp a2 hx2 ht)
  have HF := Lib.hid (fun W (hW : Below a2.heap.size a2 W) => refFind_any x p W (hx2.below hW))
  have HO := Lib.hid (fun W (hW : Below a2.heap.size a2 W) => refOwnT_any x W (hx2.below hW))
  have hlk1 := k1.lt
  have hlk2 := k2.lt
  have HG := Lib.hid hx2
  obtain ⟨q0, q1, q2, q3, q4, q5, q6⟩ := k1.all7
  obtain ⟨PP, hPP⟩ : ∃ PP : PTenant × Int, changedU x.plain p (fun s => setE s.own_ k v) (fun s => { s with own_ := putP s.own_ (k, v) }) = PP := ⟨_, rfl⟩
  rw [hPP]
  by_cases hk : askE x.plain p ≠ 0
  · have hc : PP = (noT, askE x.plain p) := by rw [← hPP]; exact changed_ask hk
    subst hc
    generalize askE x.plain p = E at *
    clear hPP hx hx2
    go_enter Tryz.func11, Tryz.ntmps11
    go_upto_region 1 with fail
    rw [HW1.out, HW2.out]
    try rw [hX2]
    go_wp2_with fail
    refine HR.out.mono ?_
    rintro e w3 ⟨rfl, hV⟩
    have K2 := k2.of hV
    have hX := hB2.trans (hV.mono hs2)
    obtain ⟨zr0, zr1, zr2, zr3, zr4, zr5, zr6⟩ := K2.all7
    obtain ⟨zrf0, zrf1, zrf2, zrf3, zrf4, zrf5, zrf6⟩ := K2.fz7
    go_wp2
    generalize hwE : World.setCell _ ⟨a1.heap.size, 6, none⟩ _ = wE
    obtain ⟨KE, SE, ZE, BE⟩ := store7 K2 hwE
    obtain ⟨ze0, ze1, ze2, ze3, ze4, ze5, ze6⟩ := KE.all7
    refine bodyPost_ret (v := .tuple #[.agg #[.string ⟨#[]⟩, .int .i64 0, .int .i64 0, .slice none 0 0, .slice none 0 0, .slice none 0 0, .slice none 0 0], .int .i64 E]) (by simp [results, Tryz.results11, go_sem, ze0, ze1, ze2, ze3, ze4, ze5, ze6]) rfl ?_
    exact ansG_no (BE _ _ hX hs1)
  · have hk0 : askE x.plain p = 0 := Classical.not_not.1 hk
    rw [hk0] at HR
    have hh := hasSet_find x p
    by_cases h0 : 0 ≤ findM x p
    · have hpl0 : placeE x.plain p = 0 := by unfold placeE; rw [if_neg hk, if_pos (by rw [hh]; exact decide_eq_true h0)]
      obtain ⟨j, s, hI, hj, hsp, hsa, hok, hip, hnt⟩ := place_ways hpl0
      have hfj : findM x p = j := by rw [← hI]; unfold placeI; rw [if_neg (by rw [hpl0]; decide)]
      rw [hfj] at HF
      have hjl : j < x.sets_.l.length := (List.getElem?_eq_some_iff.1 hj).1
      have hval : PP = (if setE s.own_.l k v ≠ 0 then (noT, setE s.own_.l k v) else ({ x.plain with sets_ := chS p (fun s => { s with own_ := putP s.own_ (k, v) }) x.plain.sets_ }, 0) : PTenant × Int) := by
        rw [← hPP]
        exact changed_some hk0 hsa
      have hris : x.plain.sets_.Pairwise fun a b => ltPath a b = true := (goodL_iff (fun a b c => ltPath_trans a b c)).1 (okT_parts.1 hok).2.2.2 |>.2
      have hchs : chS p (fun s => { s with own_ := putP s.own_ (k, v) }) x.plain.sets_ = x.plain.sets_.set j ((fun s => { s with own_ := putP s.own_ (k, v) }) s.plain) := by
        exact chS_setP hris (j := j) (s := s.plain) (by show (x.sets_.l.map MSet.plain)[j]? = _; rw [List.getElem?_map, hj]; rfl) hsp
      have HCH := Lib.hid hchs
      have HJ := Lib.hid hj
      obtain ⟨E, hE⟩ : ∃ E, setE s.own_.l k v = E := ⟨_, rfl⟩
      obtain ⟨R, hR⟩ : ∃ R, setR s.own_.l k v = R := ⟨_, rfl⟩
      have hsg := hx2.gsets_.el s (List.mem_of_getElem? hj)
      have hlenf := hsg.gown_.len
      have HC := Lib.hid (fun (V : World) (hV : Below a2.heap.size a2 V) => refSet_any s.own_.A s.own_.c s.own_.l.length s.own_.l rfl (by omega) (fun z hz => hsg.gown_.el z hz) k v hkk hvv V (hsg.gown_.rd.below hV))
      rw [hE, hR] at HC
      rw [hE] at hval
      have HE := Lib.hid hE
      have HRR := Lib.hid hR
      have HV := Lib.hid hval
      have HSG := Lib.hid hsg
      clear hPP hh hx hx2 hk hk0 hpl0 hI hj hsp hsa hok hip hnt hfj h0 hris hchs hE hR hval hsg
      go_enter Tryz.func11, Tryz.ntmps11
      go_upto_region 1 with fail
      rw [HW1.out, HW2.out]
      try rw [hX2]
      go_wp2_with fail
      refine HR.out.mono ?_
      rintro e w3 ⟨rfl, hV⟩
      have K1 := k1.of hV
      have K2 := k2.of hV
      obtain ⟨d0, d1, d2, d3, d4, d5, d6⟩ := K1.all7
      go_wp2_with fail
      refine (HF.out _ hV).mono ?_
      rintro e w4 ⟨rfl, hV2⟩
      have hV3 := hV.trans (hV2.mono hV.size)
      have K3 := K1.of hV2
      have K4 := K2.of hV2
      obtain ⟨e0, e1, e2, e3, e4, e5, e6⟩ := K3.all7
      have HOW := Lib.hid (HO.out w4 hV3)
      go_wp2_with fail
      refine HOW.out.mono ?_
      rintro e w5 ⟨y, rfl, hoy, hpy, hV5⟩
      have hs45 := hV5.size
      obtain ⟨w6, hw6⟩ : ∃ w6, w5.alloc (.cells #[.string y.name_, .int .i64 y.quota_, .int .i64 y.next_, .slice y.sets_.A y.sets_.l.length y.sets_.c, .slice y.grants_.A y.grants_.l.length y.grants_.c, .slice y.stages_.A y.stages_.l.length y.stages_.c, .slice y.log_.A y.log_.l.length y.log_.c] 27) = w6 := ⟨_, rfl⟩
      have hV6 : Below w5.heap.size w5 w6 := hw6 ▸ (Below.refl _ w5).alloc (Nat.le_refl _) _
      have kY : Blk w6 w5.heap.size 27 [.string y.name_, .int .i64 y.quota_, .int .i64 y.next_, .slice y.sets_.A y.sets_.l.length y.sets_.c, .slice y.grants_.A y.grants_.l.length y.grants_.c, .slice y.stages_.A y.stages_.l.length y.stages_.c, .slice y.log_.A y.log_.l.length y.log_.c] := hw6 ▸ Blk.new w5 _ _
      have hs56 := hV6.size
      have hV46 := hV5.trans (hV6.mono hs45)
      have hV36 := hV3.trans (hV46.mono hV3.size)
      have K5 := K3.of hV46
      have K6 := K4.of hV46
      have HW6 := Lib.hid hw6
      obtain ⟨b, off, hA, hbl, hcc⟩ := Rd.elem (n := 5) (fun _ => rfl) (by omega) (HG.out.gsets_.rd.below hV36) HJ.out
      have c0 : w6.cell? ⟨b, off + j * 5, none⟩ = some (.string s.path_) := hcc 0 _ rfl
      have c1 : w6.cell? ⟨b, off + j * 5 + 1, none⟩ = some (.string s.origin_) := hcc 1 _ rfl
      have c2 : w6.cell? ⟨b, off + j * 5 + 2, none⟩ = some (.slice s.body_.A s.body_.l.length s.body_.c) := hcc 2 _ rfl
      have c3 : w6.cell? ⟨b, off + j * 5 + 3, none⟩ = some (.slice s.snaps_.A s.snaps_.l.length s.snaps_.c) := hcc 3 _ rfl
      have c4 : w6.cell? ⟨b, off + j * 5 + 4, none⟩ = some (.slice s.own_.A s.own_.l.length s.own_.c) := hcc 4 _ rfl
      clear hcc hw6 e0 e1 e2 e3 e4 e5 e6 d0 d1 d2 d3 d4 d5 d6
      go_upto_region 8 with fail
      rw [HW6.out]
      obtain ⟨h0, h1, h2, h3, h4, h5, h6⟩ := K5.all7
      rw [hA] at h3
      have HA := Lib.hid hA
      clear hA
      obtain ⟨w7, hw7⟩ : ∃ w7, w6.alloc (.cells #[.string s.path_, .string s.origin_, .slice s.body_.A s.body_.l.length s.body_.c, .slice s.snaps_.A s.snaps_.l.length s.snaps_.c, .slice s.own_.A s.own_.l.length s.own_.c] 49) = w7 := ⟨_, rfl⟩
      have hV7 : Below w6.heap.size w6 w7 := hw7 ▸ (Below.refl _ w6).alloc (Nat.le_refl _) _
      have kS : Blk w7 w6.heap.size 49 [.string s.path_, .string s.origin_, .slice s.body_.A s.body_.l.length s.body_.c, .slice s.snaps_.A s.snaps_.l.length s.snaps_.c, .slice s.own_.A s.own_.l.length s.own_.c] := hw7 ▸ Blk.new w6 _ _
      have hs67 := hV7.size
      have hV37 := hV36.trans (hV7.mono hV36.size)
      have kY7 := kY.of hV7
      have K7 := K6.of hV7
      have HW7 := Lib.hid hw7
      have hgy : y.Good w7 := (MTenant.Good.of_own HG.out hpy hoy).below (hV6.trans (hV7.mono hs56))
      have ho7 : OwnTe w4.heap.size w7 y := hoy.below (hV6.trans (hV7.mono hs56))
      have hyl : y.sets_.l.map MSet.plain = x.sets_.l.map MSet.plain := congrArg PTenant.sets_ hpy
      have hjy : j < y.sets_.l.length := by rw [map_len hyl]; exact hjl
      obtain ⟨t, hjt⟩ : ∃ t, y.sets_.l[j]? = some t := ⟨_, qZa hjy⟩
      have htp : t.plain = s.plain := by
        have h9 : (y.sets_.l.map MSet.plain)[j]? = some t.plain := by rw [List.getElem?_map, hjt]; rfl
        rw [hyl, List.getElem?_map, HJ.out] at h9
        simp only [Option.map_some, Option.some.injEq] at h9
        exact h9.symm
      obtain ⟨g, goff, hAy, hgl, hcy⟩ := Rd.elem (n := 5) (fun _ => rfl) (by omega) hgy.gsets_.rd hjt
      have hoff : goff = 0 ∧ w4.heap.size ≤ g := by
        obtain ⟨_, ⟨hv, h0⟩ | ⟨gg, cap, cur, hv, hn, _⟩⟩ := ho7.sets
        · omega
        · injection hv with e1 e2 e3
          rw [hAy] at e1
          injection e1 with e1
          injection e1 with e1 e4
          exact ⟨e4, by omega⟩
      obtain ⟨rfl, hgn⟩ := hoff
      have cy : w7.cell? ⟨g, 0 + j * 5 + 4, none⟩ = some (.slice t.own_.A t.own_.l.length t.own_.c) := hcy 4 _ rfl
      rw [Nat.zero_add] at cy
      have hrow := ho7.sets
      unfold Sl.val at hrow
      rw [hAy] at hrow
      have cfz := own_frozen hrow (j * 5 + 4)
      have HAY := Lib.hid hAy
      have HJT := Lib.hid hjt
      have HTP := Lib.hid htp
      have HYL := Lib.hid hyl
      have HPY := Lib.hid hpy
      have HGY := Lib.hid hgy
      have HO7 := Lib.hid ho7
      have hly := kY7.lt
      have hlS := kS.lt
      clear hw7 hgy ho7 hyl hjt htp hcy hrow hpy hoy
      go_upto_region 16 with fail
      rw [HW7.out]
      clear c0 c1 c2 c3 c4 h0 h1 h2 h3 h4 h5 h6
      obtain ⟨m0, m1, m2, m3, m4, m5, m6⟩ := kY7.all7
      obtain ⟨n0, n1, n2, n3, n4⟩ := kS.all5
      rw [HAY.out] at m3
      refine wp_region_noPanic ?_
      refine wp_region_last 13 (fun W => W.cell? ⟨w5.heap.size, 3, none⟩ = some (.slice (some ⟨g, 0, none⟩) y.sets_.l.length y.sets_.c) ∧ W.cell? ⟨w6.heap.size, 4, none⟩ = some (.slice s.own_.A s.own_.l.length s.own_.c) ∧ W.cell? ⟨g, j * 5 + 4, none⟩ = some (.slice t.own_.A t.own_.l.length t.own_.c) ∧ W.frozen? ⟨g, j * 5 + 4, none⟩ = false) (by kernel_rfl) ⟨m3, n4, cy, cfz⟩ (fun hHeld => ?_)
      refine tkA 16 (i := 0) (oi := ⟨some 86, _, _, _, _, _⟩) rfl hHeld ?_
      try simp only [Act.put, pZa, pZb, pZc]
      refine tkA 16 (i := 1) (oi := ⟨some 87, _, _, _, _, _⟩) rfl hHeld ?_
      try simp only [Act.put, pZa, pZb, pZc]
      refine tkA 16 (i := 2) (oi := ⟨some 88, _, _, _, _, _⟩) rfl hHeld ?_
      try simp only [Act.put, pZa, pZb, pZc]
      refine tkA 16 (i := 3) (oi := ⟨some 89, _, _, _, _, _⟩) rfl hHeld ?_
      try simp only [Act.put, pZa, pZb, pZc]
      refine tkA 16 (i := 4) (oi := ⟨some 90, _, _, _, _, _⟩) rfl hHeld ?_
      try simp only [Act.put, pZa, pZb, pZc]
      refine tkA 16 (i := 5) (oi := ⟨some 91, _, _, _, _, _⟩) rfl hHeld ?_
      try simp only [Act.put, pZa, pZb, pZc]
      refine tkA 16 (i := 6) (oi := ⟨some 92, _, _, _, _, _⟩) rfl hHeld ?_
      try simp only [Act.put, pZa, pZb, pZc]
      clear hHeld
      refine wpAnyL_facts 16 1 7 [(7, 93)] (fun s v w => match s with
        | 93 => ∃ A13 c13, v = .tuple #[.slice A13 R.length c13, .int .i64 E] ∧ w.ownsRow w7.heap.size 105 2 (.slice A13 R.length c13) R.length (R.flatMap prC)
        | _ => True) (fun w w' => Below w.heap.size w w') (by kernel_rfl) (by kernel_rfl) bZh ⟨?_, trivial⟩ (fun w' hB => ⟨(hB.cell (p := ⟨w5.heap.size, 3, none⟩) hly).trans m3, (hB.cell (p := ⟨w6.heap.size, 4, none⟩) hlS).trans n4, (hB.cell (p := ⟨g, j * 5 + 4, none⟩) hgl).trans cy, (hB.frozen (p := ⟨g, j * 5 + 4, none⟩) hgl).trans cfz⟩) ⟨?_, trivial⟩ ?_
      focus
        intro v w w' h hB
        exact (by obtain ⟨A13, c13, e, hb⟩ := h; exact ⟨A13, c13, e, ownBelow hb hB (Nat.le_refl _)⟩)
      focus
        intro vs w2 hBf hFf o ho K hK
        obtain rfl : (⟨some 93, _, _, _, _, _⟩ : Oper) = o := Option.some.inj ho
        clear ho
        (try simp only [fillL, pZd, pZe, Act.put, pZa, pZb, pZc] at hK ⊢)
        go_simp
        refine (HC.out _ (hV37.trans (((Below.refl w7.heap.size w7).drew.trans hBf).mono hV37.size))).mono ?_
        rintro e w4 ⟨v4, rfl, ho4, hB4⟩
        obtain ⟨A4, c4, rfl, _, _, _, _⟩ := ownAny ho4
        exact hK.out _ _ ⟨⟨A4, c4, rfl, ownBase ho4 ((Below.refl w7.heap.size w7).drew.trans hBf).size⟩, hB4⟩
      intro vs w2 hBf hFf
      (try simp only [fillL, pZd, pZe, Act.put, pZa, pZb, pZc])
      obtain ⟨A13, c13, e13, h13⟩ := (hFf (7, 93) (by simp))
      simp only [e13]
      have hBw : Below w7.heap.size w7 w2 := (Below.refl w7.heap.size w7).drew.trans hBf
      have H13 := Lib.hid h13
      clear h13
      have hHeld : (fun W => W.cell? ⟨w5.heap.size, 3, none⟩ = some (.slice (some ⟨g, 0, none⟩) y.sets_.l.length y.sets_.c) ∧ W.cell? ⟨w6.heap.size, 4, none⟩ = some (.slice s.own_.A s.own_.l.length s.own_.c) ∧ W.cell? ⟨g, j * 5 + 4, none⟩ = some (.slice t.own_.A t.own_.l.length t.own_.c) ∧ W.frozen? ⟨g, j * 5 + 4, none⟩ = false) w2 := ⟨(hBf.cell (p := ⟨w5.heap.size, 3, none⟩) hly).trans m3, (hBf.cell (p := ⟨w6.heap.size, 4, none⟩) hlS).trans n4, (hBf.cell (p := ⟨g, j * 5 + 4, none⟩) hgl).trans cy, (hBf.frozen (p := ⟨g, j * 5 + 4, none⟩) hgl).trans cfz⟩
      refine tkA 16 (i := 8) (oi := ⟨some 85, _, _, _, _, _⟩) rfl hHeld ?_
      try simp only [Act.put, pZa, pZb, pZc]
      refine tkA 16 (i := 9) (oi := ⟨some 94, _, _, _, _, _⟩) rfl hHeld ?_
      try simp only [Act.put, pZa, pZb, pZc]
      refine wpAnyL_takeW (i := 10) (oi := ⟨some 95, _, _, _, _, _⟩) (v := ?_) rfl (by kernel_rfl) (by kernel_rfl) (by kernel_rfl) (by kernel_rfl) (fun _ _ _ h => h) (Or.inl ⟨by rfl, ?_⟩) (.inr hHeld) ?_
      rotate_left
      focus (intro w hSw; (try dsimp only at hSw); go_simp; try (with_reducible rfl))
      try simp only [Act.put, pZa, pZb, pZc]
      refine tkA 16 (i := 11) (oi := ⟨some 96, _, _, _, _, _⟩) rfl hHeld ?_
      try simp only [Act.put, pZa, pZb, pZc]
      refine tkA 16 (i := 12) (oi := ⟨some 97, _, _, _, _, _⟩) rfl hHeld ?_
      try simp only [Act.put, pZa, pZb, pZc]
      refine wpAnyL_last (i := 13) (o := ⟨none, _, _, _, _, _⟩) (by kernel_rfl) rfl (by kernel_rfl) (fun K hK => ?_)
      go_simp
      go_wp2_with fail
      refine hK.out _ _ ?_
      clear hK K
      try simp only [Act.put, pZa, pZb, pZc]
      refine wpAnyL_last (i := 14) (o := ⟨some 16, _, _, _, _, _⟩) (by kernel_rfl) rfl (by kernel_rfl) (fun K hK => ?_)
      go_simp
      refine hK.out _ _ ?_
      clear hK K
      try simp only [Act.put, pZa, pZb, pZc]
      refine wpAnyL_done (by kernel_rfl) ?_ _
      refine NoPanic.normal ?_
      have hrow2 := (HO7.out.below hBw).sets
      unfold Sl.val at hrow2
      rw [HAY.out] at hrow2
      have hgY : w5.heap.size ≠ g := fun e => own_not hrow2 (kY7.of hBw) (by decide) (by rw [e]; rfl)
      have hgR : a1.heap.size ≠ g := fun e => own_not hrow2 (K7.of hBw) (by decide) (by rw [e]; rfl)
      have kY8 := (kY7.of hBw).other (g' := g) hgY (j * 5 + 4) (.slice A13 R.length c13)
      have K8 := (K7.of hBw).other (g' := g) hgR (j * 5 + 4) (.slice A13 R.length c13)
      have hsz37 := hV37.size
      have hbase : w.heap.size ≤ w4.heap.size := Nat.le_trans hs2 hV3.size
      have hwg : w.heap.size ≤ g := Nat.le_trans hbase hgn
      have hX8 : Below w.heap.size w (w2.setCell ⟨g, j * 5 + 4, none⟩ (.slice A13 R.length c13)) := ((hB2.trans ((hV37.trans (hBw.mono hsz37)).mono hs2))).setCell (p := ⟨g, j * 5 + 4, none⟩) hwg _
      have hkp := keeps_setIn hrow2 (j * 5 + 4) (.slice A13 R.length c13)
      have h13' := own_keeps H13.out (by decide) hkp
      have htu : E = 0 → OwnTe w4.heap.size (w2.setCell ⟨g, j * 5 + 4, none⟩ (.slice A13 R.length c13)) ({ y with sets_ := ⟨some ⟨g, 0, none⟩, y.sets_.l.set j (⟨t.path_, t.origin_, t.body_, t.snaps_, ⟨A13, R, c13⟩⟩ : MSet), y.sets_.c⟩ } : MTenant) ∧ ({ y with sets_ := ⟨some ⟨g, 0, none⟩, y.sets_.l.set j (⟨t.path_, t.origin_, t.body_, t.snaps_, ⟨A13, R, c13⟩⟩ : MSet), y.sets_.c⟩ } : MTenant).Good (w2.setCell ⟨g, j * 5 + 4, none⟩ (.slice A13 R.length c13)) := fun h0 => by
        have hE0 : setE s.own_.l k v = 0 := by rw [HE.out]; exact h0
        have hRk : R = putP s.own_.l (k, v) := by
          rw [← HRR.out]
          exact if_pos hE0
        have h9 := (HO7.out.eset t (List.mem_of_getElem? HJT.out)).below hBw
        have htg := HGY.out.gsets_.el t (List.mem_of_getElem? HJT.out)
        have hss := MSet.Good.of_own htg rfl (h9.setIn hkp)
        have hgr : SlGood (w2.setCell ⟨g, j * 5 + 4, none⟩ (.slice A13 R.length c13)) prC goodPr 32 ⟨A13, R, c13⟩ := slGood_of h13' rfl (by rw [hRk]; intro z hz; have h9 := okP_mem (putP_ok hE0) z hz; exact ⟨by omega, by omega⟩) (by rw [hRk]; have h9 := (okP_iff.1 (putP_ok hE0)).1; omega)
        exact turned hBw HO7.out HGY.out HAY.out HJT.out (by decide) (by rfl) ⟨h9.body, h9.snaps, ownBase H13.out (by omega), h9.each⟩ ⟨hss.gpath_, hss.gorigin_, hss.gbody_, hss.gsnaps_, hgr⟩
      have hpl : E = 0 → ({ y with sets_ := ⟨some ⟨g, 0, none⟩, y.sets_.l.set j (⟨t.path_, t.origin_, t.body_, t.snaps_, ⟨A13, R, c13⟩⟩ : MSet), y.sets_.c⟩ } : MTenant).plain = { x.plain with sets_ := chS p (fun s => { s with own_ := putP s.own_ (k, v) }) x.plain.sets_ } := fun h0 => by
        have hE0 : setE s.own_.l k v = 0 := by rw [HE.out]; exact h0
        have hRk : R = putP s.own_.l (k, v) := by
          rw [← HRR.out]
          exact if_pos hE0
        rw [HCH.out]
        show ({ y.plain with sets_ := (y.sets_.l.set j (⟨t.path_, t.origin_, t.body_, t.snaps_, ⟨A13, R, c13⟩⟩ : MSet)).map MSet.plain } : PTenant) = _
        rw [List.map_set, HYL.out, HPY.out, hRk]
        have e1 : (⟨t.path_, t.origin_, t.body_, t.snaps_, ⟨A13, (putP s.own_.l (k, v)), c13⟩⟩ : MSet).plain = (fun s => { s with own_ := putP s.own_ (k, v) }) s.plain := by
          have hb : s.own_.l = t.own_.l := (congrArg PSet.own_ HTP.out).symm
          rw [← HTP.out, hb]
          rfl
        rw [e1]
        rfl
      obtain ⟨w8, hw8⟩ : ∃ w8, w2.setCell ⟨g, j * 5 + 4, none⟩ (.slice A13 R.length c13) = w8 := ⟨_, rfl⟩
      rw [hw8] at kY8 K8 hX8 htu
      have HT := Lib.hid htu
      have HPL := Lib.hid hpl
      have HW8 := Lib.hid hw8
      rw [HAY.out] at kY8
      have hlK := K8.lt
      have hlk9 : a1.heap.size < w4.heap.size := by have := hV3.size; omega
      clear htu hpl hw8 h13' hkp hrow2 m0 m1 m2 m3 m4 m5 m6 n0 n1 n2 n3 n4
      go_upto_region 17 with fail
      try rw [HW8.out]
      by_cases hz : E = 0
      · subst hz
        obtain ⟨hoT, hgT⟩ := HT.out rfl
        have hplT := HPL.out rfl
        have hPE : PP = ({ x.plain with sets_ := chS p (fun s => { s with own_ := putP s.own_ (k, v) }) x.plain.sets_ }, 0) := by rw [HV.out]; exact if_neg (by decide)
        subst hPE
        obtain ⟨m0, m1, m2, m3, m4, m5, m6⟩ := kY8.all7
        obtain ⟨zr0, zr1, zr2, zr3, zr4, zr5, zr6⟩ := K8.all7
        obtain ⟨zrf0, zrf1, zrf2, zrf3, zrf4, zrf5, zrf6⟩ := K8.fz7
        go_wp2
        generalize hwE : World.setCell _ ⟨a1.heap.size, 6, none⟩ _ = wE
        obtain ⟨KE, SE, ZE, BE⟩ := store7 K8 hwE
        obtain ⟨ze0, ze1, ze2, ze3, ze4, ze5, ze6⟩ := KE.all7
        refine bodyPost_ret (v := .tuple #[.agg #[.string y.name_, .int .i64 y.quota_, .int .i64 y.next_, .slice (some ⟨g, 0, none⟩) y.sets_.l.length y.sets_.c, .slice y.grants_.A y.grants_.l.length y.grants_.c, .slice y.stages_.A y.stages_.l.length y.stages_.c, .slice y.log_.A y.log_.l.length y.log_.c], .int .i64 0]) (by simp [results, Tryz.results11, go_sem, ze0, ze1, ze2, ze3, ze4, ze5, ze6]) rfl ?_
        exact ⟨({ y with sets_ := ⟨some ⟨g, 0, none⟩, y.sets_.l.set j (⟨t.path_, t.origin_, t.body_, t.snaps_, ⟨A13, R, c13⟩⟩ : MSet), y.sets_.c⟩ } : MTenant), by simp only [MTenant.cells, List.length_set], MTenant.Good.of_own hgT rfl (hoT.store hlk9 SE), hplT, BE _ _ hX8 hs1⟩
      · have hPE : PP = (noT, E) := by rw [HV.out]; exact if_pos hz
        subst hPE
        obtain ⟨zr0, zr1, zr2, zr3, zr4, zr5, zr6⟩ := K8.all7
        obtain ⟨zrf0, zrf1, zrf2, zrf3, zrf4, zrf5, zrf6⟩ := K8.fz7
        go_wp2
        generalize hwE : World.setCell _ ⟨a1.heap.size, 6, none⟩ _ = wE
        obtain ⟨KE, SE, ZE, BE⟩ := store7 K8 hwE
        obtain ⟨ze0, ze1, ze2, ze3, ze4, ze5, ze6⟩ := KE.all7
        refine bodyPost_ret (v := .tuple #[.agg #[.string ⟨#[]⟩, .int .i64 0, .int .i64 0, .slice none 0 0, .slice none 0 0, .slice none 0 0, .slice none 0 0], .int .i64 E]) (by simp [results, Tryz.results11, go_sem, ze0, ze1, ze2, ze3, ze4, ze5, ze6]) rfl ?_
        exact ansG_no (BE _ _ hX8 hs1)
    · have hpl : hasSet x.plain p = false := by rw [hh]; simpa using h0
      have hsn := hasSet_no.1 hpl
      have hc : PP = (noT, 71) := by
        rw [← hPP]
        exact changed_none hk0 hsn
      subst hc
      generalize findM x p = F at *
      clear hPP hpl hsn hh hx hx2 hk hk0
      go_enter Tryz.func11, Tryz.ntmps11
      go_upto_region 1 with fail
      rw [HW1.out, HW2.out]
      try rw [hX2]
      go_wp2_with fail
      refine HR.out.mono ?_
      rintro e w3 ⟨rfl, hV⟩
      have K1 := k1.of hV
      have K2 := k2.of hV
      obtain ⟨d0, d1, d2, d3, d4, d5, d6⟩ := K1.all7
      go_wp2_with fail
      refine (HF.out _ hV).mono ?_
      rintro e w4 ⟨rfl, hV2⟩
      have hV3 := hV.trans (hV2.mono hV.size)
      have K3 := K1.of hV2
      have K4 := K2.of hV2
      have hX := hB2.trans (hV3.mono hs2)
      obtain ⟨zr0, zr1, zr2, zr3, zr4, zr5, zr6⟩ := K4.all7
      obtain ⟨zrf0, zrf1, zrf2, zrf3, zrf4, zrf5, zrf6⟩ := K4.fz7
      go_wp2
      generalize hwE : World.setCell _ ⟨a1.heap.size, 6, none⟩ _ = wE
      obtain ⟨KE, SE, ZE, BE⟩ := store7 K4 hwE
      obtain ⟨ze0, ze1, ze2, ze3, ze4, ze5, ze6⟩ := KE.all7
      refine bodyPost_ret (v := .tuple #[.agg #[.string ⟨#[]⟩, .int .i64 0, .int .i64 0, .slice none 0 0, .slice none 0 0, .slice none 0 0, .slice none 0 0], .int .i64 71]) (by simp [results, Tryz.results11, go_sem, ze0, ze1, ze2, ze3, ze4, ze5, ze6]) rfl ?_
      exact ansG_no (BE _ _ hX hs1)
theorem refTurn4_any (x : MTenant) (p : ByteArray) (k : ByteArray) (hp : p.size ≤ 4398046511104)  (w : World) (hx : x.Good w) (ht : x.Tiny) :
    Calls Tryz.prog 11 #[.agg x.cells.toArray, .string p, .int .i64 4, .int .i64 0, .int .i64 0, .string k, .string ⟨#[]⟩] w fun e w' => AnsG w (changedU x.plain p (fun s => unsetE s.own_ k) (fun s => { s with own_ := dropP s.own_ k })) e w' := by
  obtain ⟨a1, hw1⟩ : ∃ a1, w.alloc (.cells #[.string x.name_, .int .i64 x.quota_, .int .i64 x.next_, .slice x.sets_.A x.sets_.l.length x.sets_.c, .slice x.grants_.A x.grants_.l.length x.grants_.c, .slice x.stages_.A x.stages_.l.length x.stages_.c, .slice x.log_.A x.log_.l.length x.log_.c] 27) = a1 := ⟨_, rfl⟩
  have b1 : Below w.heap.size w a1 := hw1 ▸ (Below.refl _ w).alloc (Nat.le_refl _) _
  have k1 : Blk a1 w.heap.size 27 [.string x.name_, .int .i64 x.quota_, .int .i64 x.next_, .slice x.sets_.A x.sets_.l.length x.sets_.c, .slice x.grants_.A x.grants_.l.length x.grants_.c, .slice x.stages_.A x.stages_.l.length x.stages_.c, .slice x.log_.A x.log_.l.length x.log_.c] := hw1 ▸ Blk.new w _ _
  obtain ⟨a2, hw2⟩ : ∃ a2, a1.alloc (.cells #[.string ⟨#[]⟩, .int .i64 0, .int .i64 0, .slice none 0 0, .slice none 0 0, .slice none 0 0, .slice none 0 0] 27) = a2 := ⟨_, rfl⟩
  have b2 : Below a1.heap.size a1 a2 := hw2 ▸ (Below.refl _ a1).alloc (Nat.le_refl _) _
  have k2 : Blk a2 a1.heap.size 27 [.string ⟨#[]⟩, .int .i64 0, .int .i64 0, .slice none 0 0, .slice none 0 0, .slice none 0 0, .slice none 0 0] := hw2 ▸ Blk.new a1 _ _
  have hX2 : w.heap.size + 1 = a1.heap.size := by rw [← hw1, World.size_alloc]
  have hB1 : Below w.heap.size w a1 := b1
  have hB2 : Below w.heap.size w a2 := hB1.trans (b2.mono hB1.size)
  have k1 := k1.of b2
  have hs2 := hB2.size
  have hs1 := hB1.size
  have ht1 : a1.heap.size ≤ a2.heap.size := b2.size
  have HW1 := Lib.hid hw1
  have HW2 := Lib.hid hw2
  clear hw1 b1 hw2 b2
  have hx2 := hx.below hB2
  have HR := Lib.hid (refAsked_any x p hp a2 hx2 ht)
  have HF := Lib.hid (fun W (hW : Below a2.heap.size a2 W) => refFind_any x p W (hx2.below hW))
  have HO := Lib.hid (fun W (hW : Below a2.heap.size a2 W) => refOwnT_any x W (hx2.below hW))
  have hlk1 := k1.lt
  have hlk2 := k2.lt
  have HG := Lib.hid hx2
  obtain ⟨q0, q1, q2, q3, q4, q5, q6⟩ := k1.all7
  obtain ⟨PP, hPP⟩ : ∃ PP : PTenant × Int, changedU x.plain p (fun s => unsetE s.own_ k) (fun s => { s with own_ := dropP s.own_ k }) = PP := ⟨_, rfl⟩
  rw [hPP]
  by_cases hk : askE x.plain p ≠ 0
  · have hc : PP = (noT, askE x.plain p) := by rw [← hPP]; exact changed_ask hk
    subst hc
    generalize askE x.plain p = E at *
    clear hPP hx hx2
    go_enter Tryz.func11, Tryz.ntmps11
    go_upto_region 1 with fail
    rw [HW1.out, HW2.out]
    try rw [hX2]
    go_wp2_with fail
    refine HR.out.mono ?_
    rintro e w3 ⟨rfl, hV⟩
    have K2 := k2.of hV
    have hX := hB2.trans (hV.mono hs2)
    obtain ⟨zr0, zr1, zr2, zr3, zr4, zr5, zr6⟩ := K2.all7
    obtain ⟨zrf0, zrf1, zrf2, zrf3, zrf4, zrf5, zrf6⟩ := K2.fz7
    go_wp2
    generalize hwE : World.setCell _ ⟨a1.heap.size, 6, none⟩ _ = wE
    obtain ⟨KE, SE, ZE, BE⟩ := store7 K2 hwE
    obtain ⟨ze0, ze1, ze2, ze3, ze4, ze5, ze6⟩ := KE.all7
    refine bodyPost_ret (v := .tuple #[.agg #[.string ⟨#[]⟩, .int .i64 0, .int .i64 0, .slice none 0 0, .slice none 0 0, .slice none 0 0, .slice none 0 0], .int .i64 E]) (by simp [results, Tryz.results11, go_sem, ze0, ze1, ze2, ze3, ze4, ze5, ze6]) rfl ?_
    exact ansG_no (BE _ _ hX hs1)
  · have hk0 : askE x.plain p = 0 := Classical.not_not.1 hk
    rw [hk0] at HR
    have hh := hasSet_find x p
    by_cases h0 : 0 ≤ findM x p
    · have hpl0 : placeE x.plain p = 0 := by unfold placeE; rw [if_neg hk, if_pos (by rw [hh]; exact decide_eq_true h0)]
      obtain ⟨j, s, hI, hj, hsp, hsa, hok, hip, hnt⟩ := place_ways hpl0
      have hfj : findM x p = j := by rw [← hI]; unfold placeI; rw [if_neg (by rw [hpl0]; decide)]
      rw [hfj] at HF
      have hjl : j < x.sets_.l.length := (List.getElem?_eq_some_iff.1 hj).1
      have hval : PP = (if unsetE s.own_.l k ≠ 0 then (noT, unsetE s.own_.l k) else ({ x.plain with sets_ := chS p (fun s => { s with own_ := dropP s.own_ k }) x.plain.sets_ }, 0) : PTenant × Int) := by
        rw [← hPP]
        exact changed_some hk0 hsa
      have hris : x.plain.sets_.Pairwise fun a b => ltPath a b = true := (goodL_iff (fun a b c => ltPath_trans a b c)).1 (okT_parts.1 hok).2.2.2 |>.2
      have hchs : chS p (fun s => { s with own_ := dropP s.own_ k }) x.plain.sets_ = x.plain.sets_.set j ((fun s => { s with own_ := dropP s.own_ k }) s.plain) := by
        exact chS_setP hris (j := j) (s := s.plain) (by show (x.sets_.l.map MSet.plain)[j]? = _; rw [List.getElem?_map, hj]; rfl) hsp
      have HCH := Lib.hid hchs
      have HJ := Lib.hid hj
      obtain ⟨E, hE⟩ : ∃ E, unsetE s.own_.l k = E := ⟨_, rfl⟩
      obtain ⟨R, hR⟩ : ∃ R, unsetR s.own_.l k = R := ⟨_, rfl⟩
      have hsg := hx2.gsets_.el s (List.mem_of_getElem? hj)
      have hlenf := hsg.gown_.len
      have HC := Lib.hid (fun (V : World) (hV : Below a2.heap.size a2 V) => refUnset_any s.own_.A s.own_.c s.own_.l.length s.own_.l rfl (by omega) (fun z hz => hsg.gown_.el z hz) k V (hsg.gown_.rd.below hV))
      rw [hE, hR] at HC
      rw [hE] at hval
      have HE := Lib.hid hE
      have HRR := Lib.hid hR
      have HV := Lib.hid hval
      have HSG := Lib.hid hsg
      clear hPP hh hx hx2 hk hk0 hpl0 hI hj hsp hsa hok hip hnt hfj h0 hris hchs hE hR hval hsg
      go_enter Tryz.func11, Tryz.ntmps11
      go_upto_region 1 with fail
      rw [HW1.out, HW2.out]
      try rw [hX2]
      go_wp2_with fail
      refine HR.out.mono ?_
      rintro e w3 ⟨rfl, hV⟩
      have K1 := k1.of hV
      have K2 := k2.of hV
      obtain ⟨d0, d1, d2, d3, d4, d5, d6⟩ := K1.all7
      go_wp2_with fail
      refine (HF.out _ hV).mono ?_
      rintro e w4 ⟨rfl, hV2⟩
      have hV3 := hV.trans (hV2.mono hV.size)
      have K3 := K1.of hV2
      have K4 := K2.of hV2
      obtain ⟨e0, e1, e2, e3, e4, e5, e6⟩ := K3.all7
      have HOW := Lib.hid (HO.out w4 hV3)
      go_wp2_with fail
      refine HOW.out.mono ?_
      rintro e w5 ⟨y, rfl, hoy, hpy, hV5⟩
      have hs45 := hV5.size
      obtain ⟨w6, hw6⟩ : ∃ w6, w5.alloc (.cells #[.string y.name_, .int .i64 y.quota_, .int .i64 y.next_, .slice y.sets_.A y.sets_.l.length y.sets_.c, .slice y.grants_.A y.grants_.l.length y.grants_.c, .slice y.stages_.A y.stages_.l.length y.stages_.c, .slice y.log_.A y.log_.l.length y.log_.c] 27) = w6 := ⟨_, rfl⟩
      have hV6 : Below w5.heap.size w5 w6 := hw6 ▸ (Below.refl _ w5).alloc (Nat.le_refl _) _
      have kY : Blk w6 w5.heap.size 27 [.string y.name_, .int .i64 y.quota_, .int .i64 y.next_, .slice y.sets_.A y.sets_.l.length y.sets_.c, .slice y.grants_.A y.grants_.l.length y.grants_.c, .slice y.stages_.A y.stages_.l.length y.stages_.c, .slice y.log_.A y.log_.l.length y.log_.c] := hw6 ▸ Blk.new w5 _ _
      have hs56 := hV6.size
      have hV46 := hV5.trans (hV6.mono hs45)
      have hV36 := hV3.trans (hV46.mono hV3.size)
      have K5 := K3.of hV46
      have K6 := K4.of hV46
      have HW6 := Lib.hid hw6
      obtain ⟨b, off, hA, hbl, hcc⟩ := Rd.elem (n := 5) (fun _ => rfl) (by omega) (HG.out.gsets_.rd.below hV36) HJ.out
      have c0 : w6.cell? ⟨b, off + j * 5, none⟩ = some (.string s.path_) := hcc 0 _ rfl
      have c1 : w6.cell? ⟨b, off + j * 5 + 1, none⟩ = some (.string s.origin_) := hcc 1 _ rfl
      have c2 : w6.cell? ⟨b, off + j * 5 + 2, none⟩ = some (.slice s.body_.A s.body_.l.length s.body_.c) := hcc 2 _ rfl
      have c3 : w6.cell? ⟨b, off + j * 5 + 3, none⟩ = some (.slice s.snaps_.A s.snaps_.l.length s.snaps_.c) := hcc 3 _ rfl
      have c4 : w6.cell? ⟨b, off + j * 5 + 4, none⟩ = some (.slice s.own_.A s.own_.l.length s.own_.c) := hcc 4 _ rfl
      clear hcc hw6 e0 e1 e2 e3 e4 e5 e6 d0 d1 d2 d3 d4 d5 d6
      go_upto_region 8 with fail
      rw [HW6.out]
      obtain ⟨h0, h1, h2, h3, h4, h5, h6⟩ := K5.all7
      rw [hA] at h3
      have HA := Lib.hid hA
      clear hA
      obtain ⟨w7, hw7⟩ : ∃ w7, w6.alloc (.cells #[.string s.path_, .string s.origin_, .slice s.body_.A s.body_.l.length s.body_.c, .slice s.snaps_.A s.snaps_.l.length s.snaps_.c, .slice s.own_.A s.own_.l.length s.own_.c] 49) = w7 := ⟨_, rfl⟩
      have hV7 : Below w6.heap.size w6 w7 := hw7 ▸ (Below.refl _ w6).alloc (Nat.le_refl _) _
      have kS : Blk w7 w6.heap.size 49 [.string s.path_, .string s.origin_, .slice s.body_.A s.body_.l.length s.body_.c, .slice s.snaps_.A s.snaps_.l.length s.snaps_.c, .slice s.own_.A s.own_.l.length s.own_.c] := hw7 ▸ Blk.new w6 _ _
      have hs67 := hV7.size
      have hV37 := hV36.trans (hV7.mono hV36.size)
      have kY7 := kY.of hV7
      have K7 := K6.of hV7
      have HW7 := Lib.hid hw7
      have hgy : y.Good w7 := (MTenant.Good.of_own HG.out hpy hoy).below (hV6.trans (hV7.mono hs56))
      have ho7 : OwnTe w4.heap.size w7 y := hoy.below (hV6.trans (hV7.mono hs56))
      have hyl : y.sets_.l.map MSet.plain = x.sets_.l.map MSet.plain := congrArg PTenant.sets_ hpy
      have hjy : j < y.sets_.l.length := by rw [map_len hyl]; exact hjl
      obtain ⟨t, hjt⟩ : ∃ t, y.sets_.l[j]? = some t := ⟨_, qZa hjy⟩
      have htp : t.plain = s.plain := by
        have h9 : (y.sets_.l.map MSet.plain)[j]? = some t.plain := by rw [List.getElem?_map, hjt]; rfl
        rw [hyl, List.getElem?_map, HJ.out] at h9
        simp only [Option.map_some, Option.some.injEq] at h9
        exact h9.symm
      obtain ⟨g, goff, hAy, hgl, hcy⟩ := Rd.elem (n := 5) (fun _ => rfl) (by omega) hgy.gsets_.rd hjt
      have hoff : goff = 0 ∧ w4.heap.size ≤ g := by
        obtain ⟨_, ⟨hv, h0⟩ | ⟨gg, cap, cur, hv, hn, _⟩⟩ := ho7.sets
        · omega
        · injection hv with e1 e2 e3
          rw [hAy] at e1
          injection e1 with e1
          injection e1 with e1 e4
          exact ⟨e4, by omega⟩
      obtain ⟨rfl, hgn⟩ := hoff
      have cy : w7.cell? ⟨g, 0 + j * 5 + 4, none⟩ = some (.slice t.own_.A t.own_.l.length t.own_.c) := hcy 4 _ rfl
      rw [Nat.zero_add] at cy
      have hrow := ho7.sets
      unfold Sl.val at hrow
      rw [hAy] at hrow
      have cfz := own_frozen hrow (j * 5 + 4)
      have HAY := Lib.hid hAy
      have HJT := Lib.hid hjt
      have HTP := Lib.hid htp
      have HYL := Lib.hid hyl
      have HPY := Lib.hid hpy
      have HGY := Lib.hid hgy
      have HO7 := Lib.hid ho7
      have hly := kY7.lt
      have hlS := kS.lt
      clear hw7 hgy ho7 hyl hjt htp hcy hrow hpy hoy
      go_upto_region 10 with fail
      rw [HW7.out]
      clear c0 c1 c2 c3 c4 h0 h1 h2 h3 h4 h5 h6
      obtain ⟨m0, m1, m2, m3, m4, m5, m6⟩ := kY7.all7
      obtain ⟨n0, n1, n2, n3, n4⟩ := kS.all5
      rw [HAY.out] at m3
      refine wp_region_noPanic ?_
      refine wp_region_last 12 (fun W => W.cell? ⟨w5.heap.size, 3, none⟩ = some (.slice (some ⟨g, 0, none⟩) y.sets_.l.length y.sets_.c) ∧ W.cell? ⟨w6.heap.size, 4, none⟩ = some (.slice s.own_.A s.own_.l.length s.own_.c) ∧ W.cell? ⟨g, j * 5 + 4, none⟩ = some (.slice t.own_.A t.own_.l.length t.own_.c) ∧ W.frozen? ⟨g, j * 5 + 4, none⟩ = false) (by kernel_rfl) ⟨m3, n4, cy, cfz⟩ (fun hHeld => ?_)
      refine tkA 16 (i := 0) (oi := ⟨some 42, _, _, _, _, _⟩) rfl hHeld ?_
      try simp only [Act.put, pZa, pZb, pZc]
      refine tkA 16 (i := 1) (oi := ⟨some 43, _, _, _, _, _⟩) rfl hHeld ?_
      try simp only [Act.put, pZa, pZb, pZc]
      refine tkA 16 (i := 2) (oi := ⟨some 44, _, _, _, _, _⟩) rfl hHeld ?_
      try simp only [Act.put, pZa, pZb, pZc]
      refine tkA 16 (i := 3) (oi := ⟨some 45, _, _, _, _, _⟩) rfl hHeld ?_
      try simp only [Act.put, pZa, pZb, pZc]
      refine tkA 16 (i := 4) (oi := ⟨some 46, _, _, _, _, _⟩) rfl hHeld ?_
      try simp only [Act.put, pZa, pZb, pZc]
      refine tkA 16 (i := 5) (oi := ⟨some 47, _, _, _, _, _⟩) rfl hHeld ?_
      try simp only [Act.put, pZa, pZb, pZc]
      clear hHeld
      refine wpAnyL_facts 16 1 7 [(6, 48)] (fun s v w => match s with
        | 48 => ∃ A13 c13, v = .tuple #[.slice A13 R.length c13, .int .i64 E] ∧ w.ownsRow w7.heap.size 105 2 (.slice A13 R.length c13) R.length (R.flatMap prC)
        | _ => True) (fun w w' => Below w.heap.size w w') (by kernel_rfl) (by kernel_rfl) bZh ⟨?_, trivial⟩ (fun w' hB => ⟨(hB.cell (p := ⟨w5.heap.size, 3, none⟩) hly).trans m3, (hB.cell (p := ⟨w6.heap.size, 4, none⟩) hlS).trans n4, (hB.cell (p := ⟨g, j * 5 + 4, none⟩) hgl).trans cy, (hB.frozen (p := ⟨g, j * 5 + 4, none⟩) hgl).trans cfz⟩) ⟨?_, trivial⟩ ?_
      focus
        intro v w w' h hB
        exact (by obtain ⟨A13, c13, e, hb⟩ := h; exact ⟨A13, c13, e, ownBelow hb hB (Nat.le_refl _)⟩)
      focus
        intro vs w2 hBf hFf o ho K hK
        obtain rfl : (⟨some 48, _, _, _, _, _⟩ : Oper) = o := Option.some.inj ho
        clear ho
        (try simp only [fillL, pZd, pZe, Act.put, pZa, pZb, pZc] at hK ⊢)
        go_simp
        refine (HC.out _ (hV37.trans (((Below.refl w7.heap.size w7).drew.trans hBf).mono hV37.size))).mono ?_
        rintro e w4 ⟨v4, rfl, ho4, hB4⟩
        obtain ⟨A4, c4, rfl, _, _, _, _⟩ := ownAny ho4
        exact hK.out _ _ ⟨⟨A4, c4, rfl, ownBase ho4 ((Below.refl w7.heap.size w7).drew.trans hBf).size⟩, hB4⟩
      intro vs w2 hBf hFf
      (try simp only [fillL, pZd, pZe, Act.put, pZa, pZb, pZc])
      obtain ⟨A13, c13, e13, h13⟩ := (hFf (6, 48) (by simp))
      simp only [e13]
      have hBw : Below w7.heap.size w7 w2 := (Below.refl w7.heap.size w7).drew.trans hBf
      have H13 := Lib.hid h13
      clear h13
      have hHeld : (fun W => W.cell? ⟨w5.heap.size, 3, none⟩ = some (.slice (some ⟨g, 0, none⟩) y.sets_.l.length y.sets_.c) ∧ W.cell? ⟨w6.heap.size, 4, none⟩ = some (.slice s.own_.A s.own_.l.length s.own_.c) ∧ W.cell? ⟨g, j * 5 + 4, none⟩ = some (.slice t.own_.A t.own_.l.length t.own_.c) ∧ W.frozen? ⟨g, j * 5 + 4, none⟩ = false) w2 := ⟨(hBf.cell (p := ⟨w5.heap.size, 3, none⟩) hly).trans m3, (hBf.cell (p := ⟨w6.heap.size, 4, none⟩) hlS).trans n4, (hBf.cell (p := ⟨g, j * 5 + 4, none⟩) hgl).trans cy, (hBf.frozen (p := ⟨g, j * 5 + 4, none⟩) hgl).trans cfz⟩
      refine tkA 16 (i := 7) (oi := ⟨some 41, _, _, _, _, _⟩) rfl hHeld ?_
      try simp only [Act.put, pZa, pZb, pZc]
      refine tkA 16 (i := 8) (oi := ⟨some 49, _, _, _, _, _⟩) rfl hHeld ?_
      try simp only [Act.put, pZa, pZb, pZc]
      refine wpAnyL_takeW (i := 9) (oi := ⟨some 50, _, _, _, _, _⟩) (v := ?_) rfl (by kernel_rfl) (by kernel_rfl) (by kernel_rfl) (by kernel_rfl) (fun _ _ _ h => h) (Or.inl ⟨by rfl, ?_⟩) (.inr hHeld) ?_
      rotate_left
      focus (intro w hSw; (try dsimp only at hSw); go_simp; try (with_reducible rfl))
      try simp only [Act.put, pZa, pZb, pZc]
      refine tkA 16 (i := 10) (oi := ⟨some 51, _, _, _, _, _⟩) rfl hHeld ?_
      try simp only [Act.put, pZa, pZb, pZc]
      refine tkA 16 (i := 11) (oi := ⟨some 52, _, _, _, _, _⟩) rfl hHeld ?_
      try simp only [Act.put, pZa, pZb, pZc]
      refine wpAnyL_last (i := 12) (o := ⟨none, _, _, _, _, _⟩) (by kernel_rfl) rfl (by kernel_rfl) (fun K hK => ?_)
      go_simp
      go_wp2_with fail
      refine hK.out _ _ ?_
      clear hK K
      try simp only [Act.put, pZa, pZb, pZc]
      refine wpAnyL_last (i := 13) (o := ⟨some 16, _, _, _, _, _⟩) (by kernel_rfl) rfl (by kernel_rfl) (fun K hK => ?_)
      go_simp
      refine hK.out _ _ ?_
      clear hK K
      try simp only [Act.put, pZa, pZb, pZc]
      refine wpAnyL_done (by kernel_rfl) ?_ _
      refine NoPanic.normal ?_
      have hrow2 := (HO7.out.below hBw).sets
      unfold Sl.val at hrow2
      rw [HAY.out] at hrow2
      have hgY : w5.heap.size ≠ g := fun e => own_not hrow2 (kY7.of hBw) (by decide) (by rw [e]; rfl)
      have hgR : a1.heap.size ≠ g := fun e => own_not hrow2 (K7.of hBw) (by decide) (by rw [e]; rfl)
      have kY8 := (kY7.of hBw).other (g' := g) hgY (j * 5 + 4) (.slice A13 R.length c13)
      have K8 := (K7.of hBw).other (g' := g) hgR (j * 5 + 4) (.slice A13 R.length c13)
      have hsz37 := hV37.size
      have hbase : w.heap.size ≤ w4.heap.size := Nat.le_trans hs2 hV3.size
      have hwg : w.heap.size ≤ g := Nat.le_trans hbase hgn
      have hX8 : Below w.heap.size w (w2.setCell ⟨g, j * 5 + 4, none⟩ (.slice A13 R.length c13)) := ((hB2.trans ((hV37.trans (hBw.mono hsz37)).mono hs2))).setCell (p := ⟨g, j * 5 + 4, none⟩) hwg _
      have hkp := keeps_setIn hrow2 (j * 5 + 4) (.slice A13 R.length c13)
      have h13' := own_keeps H13.out (by decide) hkp
      have htu : E = 0 → OwnTe w4.heap.size (w2.setCell ⟨g, j * 5 + 4, none⟩ (.slice A13 R.length c13)) ({ y with sets_ := ⟨some ⟨g, 0, none⟩, y.sets_.l.set j (⟨t.path_, t.origin_, t.body_, t.snaps_, ⟨A13, R, c13⟩⟩ : MSet), y.sets_.c⟩ } : MTenant) ∧ ({ y with sets_ := ⟨some ⟨g, 0, none⟩, y.sets_.l.set j (⟨t.path_, t.origin_, t.body_, t.snaps_, ⟨A13, R, c13⟩⟩ : MSet), y.sets_.c⟩ } : MTenant).Good (w2.setCell ⟨g, j * 5 + 4, none⟩ (.slice A13 R.length c13)) := fun h0 => by
        have hE0 : unsetE s.own_.l k = 0 := by rw [HE.out]; exact h0
        have hRk : R = dropP s.own_.l k := by
          rw [← HRR.out]
          exact if_pos hE0
        have h9 := (HO7.out.eset t (List.mem_of_getElem? HJT.out)).below hBw
        have htg := HGY.out.gsets_.el t (List.mem_of_getElem? HJT.out)
        have hss := MSet.Good.of_own htg rfl (h9.setIn hkp)
        have hgr : SlGood (w2.setCell ⟨g, j * 5 + 4, none⟩ (.slice A13 R.length c13)) prC goodPr 32 ⟨A13, R, c13⟩ := slGood_of h13' rfl (by rw [hRk]; intro z hz; have h9 := okP_mem (dropP_ok k (unset_okP hE0)) z hz; exact ⟨by omega, by omega⟩) (by rw [hRk]; have h9 := (okP_iff.1 (dropP_ok k (unset_okP hE0))).1; omega)
        exact turned hBw HO7.out HGY.out HAY.out HJT.out (by decide) (by rfl) ⟨h9.body, h9.snaps, ownBase H13.out (by omega), h9.each⟩ ⟨hss.gpath_, hss.gorigin_, hss.gbody_, hss.gsnaps_, hgr⟩
      have hpl : E = 0 → ({ y with sets_ := ⟨some ⟨g, 0, none⟩, y.sets_.l.set j (⟨t.path_, t.origin_, t.body_, t.snaps_, ⟨A13, R, c13⟩⟩ : MSet), y.sets_.c⟩ } : MTenant).plain = { x.plain with sets_ := chS p (fun s => { s with own_ := dropP s.own_ k }) x.plain.sets_ } := fun h0 => by
        have hE0 : unsetE s.own_.l k = 0 := by rw [HE.out]; exact h0
        have hRk : R = dropP s.own_.l k := by
          rw [← HRR.out]
          exact if_pos hE0
        rw [HCH.out]
        show ({ y.plain with sets_ := (y.sets_.l.set j (⟨t.path_, t.origin_, t.body_, t.snaps_, ⟨A13, R, c13⟩⟩ : MSet)).map MSet.plain } : PTenant) = _
        rw [List.map_set, HYL.out, HPY.out, hRk]
        have e1 : (⟨t.path_, t.origin_, t.body_, t.snaps_, ⟨A13, (dropP s.own_.l k), c13⟩⟩ : MSet).plain = (fun s => { s with own_ := dropP s.own_ k }) s.plain := by
          have hb : s.own_.l = t.own_.l := (congrArg PSet.own_ HTP.out).symm
          rw [← HTP.out, hb]
          rfl
        rw [e1]
        rfl
      obtain ⟨w8, hw8⟩ : ∃ w8, w2.setCell ⟨g, j * 5 + 4, none⟩ (.slice A13 R.length c13) = w8 := ⟨_, rfl⟩
      rw [hw8] at kY8 K8 hX8 htu
      have HT := Lib.hid htu
      have HPL := Lib.hid hpl
      have HW8 := Lib.hid hw8
      rw [HAY.out] at kY8
      have hlK := K8.lt
      have hlk9 : a1.heap.size < w4.heap.size := by have := hV3.size; omega
      clear htu hpl hw8 h13' hkp hrow2 m0 m1 m2 m3 m4 m5 m6 n0 n1 n2 n3 n4
      go_upto_region 17 with fail
      try rw [HW8.out]
      by_cases hz : E = 0
      · subst hz
        obtain ⟨hoT, hgT⟩ := HT.out rfl
        have hplT := HPL.out rfl
        have hPE : PP = ({ x.plain with sets_ := chS p (fun s => { s with own_ := dropP s.own_ k }) x.plain.sets_ }, 0) := by rw [HV.out]; exact if_neg (by decide)
        subst hPE
        obtain ⟨m0, m1, m2, m3, m4, m5, m6⟩ := kY8.all7
        obtain ⟨zr0, zr1, zr2, zr3, zr4, zr5, zr6⟩ := K8.all7
        obtain ⟨zrf0, zrf1, zrf2, zrf3, zrf4, zrf5, zrf6⟩ := K8.fz7
        go_wp2
        generalize hwE : World.setCell _ ⟨a1.heap.size, 6, none⟩ _ = wE
        obtain ⟨KE, SE, ZE, BE⟩ := store7 K8 hwE
        obtain ⟨ze0, ze1, ze2, ze3, ze4, ze5, ze6⟩ := KE.all7
        refine bodyPost_ret (v := .tuple #[.agg #[.string y.name_, .int .i64 y.quota_, .int .i64 y.next_, .slice (some ⟨g, 0, none⟩) y.sets_.l.length y.sets_.c, .slice y.grants_.A y.grants_.l.length y.grants_.c, .slice y.stages_.A y.stages_.l.length y.stages_.c, .slice y.log_.A y.log_.l.length y.log_.c], .int .i64 0]) (by simp [results, Tryz.results11, go_sem, ze0, ze1, ze2, ze3, ze4, ze5, ze6]) rfl ?_
        exact ⟨({ y with sets_ := ⟨some ⟨g, 0, none⟩, y.sets_.l.set j (⟨t.path_, t.origin_, t.body_, t.snaps_, ⟨A13, R, c13⟩⟩ : MSet), y.sets_.c⟩ } : MTenant), by simp only [MTenant.cells, List.length_set], MTenant.Good.of_own hgT rfl (hoT.store hlk9 SE), hplT, BE _ _ hX8 hs1⟩
      · have hPE : PP = (noT, E) := by rw [HV.out]; exact if_pos hz
        subst hPE
        obtain ⟨zr0, zr1, zr2, zr3, zr4, zr5, zr6⟩ := K8.all7
        obtain ⟨zrf0, zrf1, zrf2, zrf3, zrf4, zrf5, zrf6⟩ := K8.fz7
        go_wp2
        generalize hwE : World.setCell _ ⟨a1.heap.size, 6, none⟩ _ = wE
        obtain ⟨KE, SE, ZE, BE⟩ := store7 K8 hwE
        obtain ⟨ze0, ze1, ze2, ze3, ze4, ze5, ze6⟩ := KE.all7
        refine bodyPost_ret (v := .tuple #[.agg #[.string ⟨#[]⟩, .int .i64 0, .int .i64 0, .slice none 0 0, .slice none 0 0, .slice none 0 0, .slice none 0 0], .int .i64 E]) (by simp [results, Tryz.results11, go_sem, ze0, ze1, ze2, ze3, ze4, ze5, ze6]) rfl ?_
        exact ansG_no (BE _ _ hX8 hs1)
    · have hpl : hasSet x.plain p = false := by rw [hh]; simpa using h0
      have hsn := hasSet_no.1 hpl
      have hc : PP = (noT, 71) := by
        rw [← hPP]
        exact changed_none hk0 hsn
      subst hc
      generalize findM x p = F at *
      clear hPP hpl hsn hh hx hx2 hk hk0
      go_enter Tryz.func11, Tryz.ntmps11
      go_upto_region 1 with fail
      rw [HW1.out, HW2.out]
      try rw [hX2]
      go_wp2_with fail
      refine HR.out.mono ?_
      rintro e w3 ⟨rfl, hV⟩
      have K1 := k1.of hV
      have K2 := k2.of hV
      obtain ⟨d0, d1, d2, d3, d4, d5, d6⟩ := K1.all7
      go_wp2_with fail
      refine (HF.out _ hV).mono ?_
      rintro e w4 ⟨rfl, hV2⟩
      have hV3 := hV.trans (hV2.mono hV.size)
      have K3 := K1.of hV2
      have K4 := K2.of hV2
      have hX := hB2.trans (hV3.mono hs2)
      obtain ⟨zr0, zr1, zr2, zr3, zr4, zr5, zr6⟩ := K4.all7
      obtain ⟨zrf0, zrf1, zrf2, zrf3, zrf4, zrf5, zrf6⟩ := K4.fz7
      go_wp2
      generalize hwE : World.setCell _ ⟨a1.heap.size, 6, none⟩ _ = wE
      obtain ⟨KE, SE, ZE, BE⟩ := store7 K4 hwE
      obtain ⟨ze0, ze1, ze2, ze3, ze4, ze5, ze6⟩ := KE.all7
      refine bodyPost_ret (v := .tuple #[.agg #[.string ⟨#[]⟩, .int .i64 0, .int .i64 0, .slice none 0 0, .slice none 0 0, .slice none 0 0, .slice none 0 0], .int .i64 71]) (by simp [results, Tryz.results11, go_sem, ze0, ze1, ze2, ze3, ze4, ze5, ze6]) rfl ?_
      exact ansG_no (BE _ _ hX hs1)
set_option maxHeartbeats 4000000 in
theorem turns_walk (x : MTenant) (p : ByteArray) (i c : Int) (k d : ByteArray) (hp : p.size ≤ 4398046511104) (hc : -9223372036854775808 ≤ c ∧ c ≤ 9223372036854775807) (hkk : k.size ≤ 4398046511104) (hd : d.size ≤ 4398046511104) (w : World) (hx : x.Good w) (ht : x.Tiny) :
    Calls Tryz.prog 3 #[.agg x.cells.toArray, .string p, .int .i64 i, .int .i64 c, .string k, .string d] w fun e w' => e = .returned (.bool true) ∧ Below w.heap.size w w' := by
  have hp2 : p.size ≤ 140737488351232 := Nat.le_trans hp (by decide)
  have hk2 : k.size ≤ 140737488351232 := Nat.le_trans hkk (by decide)
  have hd2 : d.size ≤ 140737488351232 := Nat.le_trans hd (by decide)
  obtain ⟨P1, hP1⟩ : ∃ P, writeU x.plain p i d = P := ⟨_, rfl⟩
  obtain ⟨P3, hP3⟩ : ∃ P, changedU x.plain p (fun s => freeE s.body_ i c) (fun s => { s with body_ := freeK s.body_ i c }) = P := ⟨_, rfl⟩
  obtain ⟨P5, hP5⟩ : ∃ P, changedU x.plain p (fun s => setE s.own_ k d) (fun s => { s with own_ := putP s.own_ (k, d) }) = P := ⟨_, rfl⟩
  obtain ⟨P7, hP7⟩ : ∃ P, changedU x.plain p (fun s => unsetE s.own_ k) (fun s => { s with own_ := dropP s.own_ k }) = P := ⟨_, rfl⟩
  obtain ⟨a1, hw1⟩ : ∃ a1, w.alloc (.cells #[.string x.name_, .int .i64 x.quota_, .int .i64 x.next_, .slice x.sets_.A x.sets_.l.length x.sets_.c, .slice x.grants_.A x.grants_.l.length x.grants_.c, .slice x.stages_.A x.stages_.l.length x.stages_.c, .slice x.log_.A x.log_.l.length x.log_.c] 27) = a1 := ⟨_, rfl⟩
  have b1 : Below w.heap.size w a1 := hw1 ▸ (Below.refl _ w).alloc (Nat.le_refl _) _
  have k1 : Blk a1 w.heap.size 27 [.string x.name_, .int .i64 x.quota_, .int .i64 x.next_, .slice x.sets_.A x.sets_.l.length x.sets_.c, .slice x.grants_.A x.grants_.l.length x.grants_.c, .slice x.stages_.A x.stages_.l.length x.stages_.c, .slice x.log_.A x.log_.l.length x.log_.c] := hw1 ▸ Blk.new w _ _
  have hB1 : Below w.heap.size w a1 := b1
  have hs1 := hB1.size
  have HW1 := Lib.hid hw1
  clear hw1 b1
  have hx1 := hx.below hB1
  have H1 : Hid (∀ W, Below a1.heap.size a1 W → Calls Tryz.prog 10 #[.agg x.cells.toArray, .string p, .int .i64 i, .string d] W fun e w' => AnsG W P1 e w') := Lib.hid fun W hW => by
    have h9 := write_any x p i d hp2 hd2 W (hx1.below hW)
    rw [hP1] at h9
    exact h9.mono fun e w' h => h.ansG
  have H2 : Hid (∀ W, Below a1.heap.size a1 W → Calls Tryz.prog 11 #[.agg x.cells.toArray, .string p, .int .i64 1, .int .i64 i, .int .i64 0, .string ⟨#[]⟩, .string d] W fun e w' => AnsG W P1 e w') := Lib.hid fun W hW => by
    have h9 := refTurn1_any x p i d hp hd2 W (hx1.below hW) ht
    rw [hP1] at h9
    exact h9
  have H3 : Hid (∀ W, Below a1.heap.size a1 W → Calls Tryz.prog 12 #[.agg x.cells.toArray, .string p, .int .i64 i, .int .i64 c] W fun e w' => AnsG W P3 e w') := Lib.hid fun W hW => by
    have h9 := shapeFree_any x p i c hp2 W (hx1.below hW)
    rw [hP3] at h9
    exact h9.mono fun e w' h => h.ansG
  have H4 : Hid (∀ W, Below a1.heap.size a1 W → Calls Tryz.prog 11 #[.agg x.cells.toArray, .string p, .int .i64 2, .int .i64 i, .int .i64 c, .string ⟨#[]⟩, .string ⟨#[]⟩] W fun e w' => AnsG W P3 e w') := Lib.hid fun W hW => by
    have h9 := refTurn2_any x p i c hp hc W (hx1.below hW) ht
    rw [hP3] at h9
    exact h9
  have H5 : Hid (∀ W, Below a1.heap.size a1 W → Calls Tryz.prog 13 #[.agg x.cells.toArray, .string p, .string k, .string d] W fun e w' => AnsG W P5 e w') := Lib.hid fun W hW => by
    have h9 := shapeSet_any x p k d hp2 hk2 hd2 W (hx1.below hW)
    rw [hP5] at h9
    exact h9.mono fun e w' h => h.ansG
  have H6 : Hid (∀ W, Below a1.heap.size a1 W → Calls Tryz.prog 11 #[.agg x.cells.toArray, .string p, .int .i64 3, .int .i64 0, .int .i64 0, .string k, .string d] W fun e w' => AnsG W P5 e w') := Lib.hid fun W hW => by
    have h9 := refTurn3_any x p k d hp hk2 hd2 W (hx1.below hW) ht
    rw [hP5] at h9
    exact h9
  have H7 : Hid (∀ W, Below a1.heap.size a1 W → Calls Tryz.prog 14 #[.agg x.cells.toArray, .string p, .string k] W fun e w' => AnsG W P7 e w') := Lib.hid fun W hW => by
    have h9 := shapeUnset_any x p k hp2 W (hx1.below hW)
    rw [hP7] at h9
    exact h9.mono fun e w' h => h.ansG
  have H8 : Hid (∀ W, Below a1.heap.size a1 W → Calls Tryz.prog 11 #[.agg x.cells.toArray, .string p, .int .i64 4, .int .i64 0, .int .i64 0, .string k, .string ⟨#[]⟩] W fun e w' => AnsG W P7 e w') := Lib.hid fun W hW => by
    have h9 := refTurn4_any x p k hp W (hx1.below hW) ht
    rw [hP7] at h9
    exact h9
  have HA := Lib.hid (fun W => alive16_any W)
  have HN := Lib.hid (fun n W => num16_any n W)
  clear hP1 hP3 hP5 hP7 hx hx1 ht hp hp2 hk2 hd2 hkk hd hc
  go_enter Tryz.func3, Tryz.ntmps3
  go_upto_region 1 with fail
  rw [HW1.out]
  obtain ⟨q0_0, q0_1, q0_2, q0_3, q0_4, q0_5, q0_6⟩ := k1.all7
  have G1 := Lib.hid (H1.out a1 (Below.refl a1.heap.size a1))
  go_wp2_with fail
  refine G1.out.mono ?_
  rintro e v1 ⟨y1, rfl, hg1, hp1, hV1⟩
  obtain ⟨z1, hz1⟩ : ∃ z, v1.alloc (.cells y1.cells.toArray 27) = z := ⟨_, rfl⟩
  have hA1 : Below v1.heap.size v1 z1 := hz1 ▸ (Below.refl _ v1).alloc (Nat.le_refl _) _
  have kY1 : Blk z1 v1.heap.size 27 y1.cells := hz1 ▸ Blk.new v1 _ _
  have hW1 : Below a1.heap.size a1 z1 := hV1.trans (hA1.mono hV1.size)
  have hU1 : Below a1.heap.size a1 z1 := (Below.refl a1.heap.size a1).trans (hW1.mono (Below.refl a1.heap.size a1).size)
  have HZ1 := Lib.hid hz1
  have hgz1 := hg1.below hA1
  clear hz1 G1
  have kx1 := k1.of hW1
  clear q0_0 q0_1 q0_2 q0_3 q0_4 q0_5 q0_6
  go_upto_region 2 with fail
  rw [HZ1.out]
  obtain ⟨q1_0, q1_1, q1_2, q1_3, q1_4, q1_5, q1_6⟩ := kx1.all7
  have G2 := Lib.hid (H2.out z1 hU1)
  go_wp2_with fail
  refine G2.out.mono ?_
  rintro e v2 ⟨y2, rfl, hg2, hp2, hV2⟩
  obtain ⟨z2, hz2⟩ : ∃ z, v2.alloc (.cells y2.cells.toArray 27) = z := ⟨_, rfl⟩
  have hA2 : Below v2.heap.size v2 z2 := hz2 ▸ (Below.refl _ v2).alloc (Nat.le_refl _) _
  have kY2 : Blk z2 v2.heap.size 27 y2.cells := hz2 ▸ Blk.new v2 _ _
  have hW2 : Below z1.heap.size z1 z2 := hV2.trans (hA2.mono hV2.size)
  have hU2 : Below a1.heap.size a1 z2 := hU1.trans (hW2.mono hU1.size)
  have HZ2 := Lib.hid hz2
  have hgz2 := hg2.below hA2
  clear hz2 G2
  have kx2 := kx1.of hW2
  have kY1 := kY1.of hW2
  have hgz1 := hgz1.below hW2
  clear q1_0 q1_1 q1_2 q1_3 q1_4 q1_5 q1_6
  go_upto_region 3 with fail
  rw [HZ2.out]
  obtain ⟨q2_0, q2_1, q2_2, q2_3, q2_4, q2_5, q2_6⟩ := kx2.all7
  have G3 := Lib.hid (H3.out z2 hU2)
  go_wp2_with fail
  refine G3.out.mono ?_
  rintro e v3 ⟨y3, rfl, hg3, hp3, hV3⟩
  obtain ⟨z3, hz3⟩ : ∃ z, v3.alloc (.cells y3.cells.toArray 27) = z := ⟨_, rfl⟩
  have hA3 : Below v3.heap.size v3 z3 := hz3 ▸ (Below.refl _ v3).alloc (Nat.le_refl _) _
  have kY3 : Blk z3 v3.heap.size 27 y3.cells := hz3 ▸ Blk.new v3 _ _
  have hW3 : Below z2.heap.size z2 z3 := hV3.trans (hA3.mono hV3.size)
  have hU3 : Below a1.heap.size a1 z3 := hU2.trans (hW3.mono hU2.size)
  have HZ3 := Lib.hid hz3
  have hgz3 := hg3.below hA3
  clear hz3 G3
  have kx3 := kx2.of hW3
  have kY1 := kY1.of hW3
  have hgz1 := hgz1.below hW3
  have kY2 := kY2.of hW3
  have hgz2 := hgz2.below hW3
  clear q2_0 q2_1 q2_2 q2_3 q2_4 q2_5 q2_6
  go_upto_region 4 with fail
  rw [HZ3.out]
  obtain ⟨q3_0, q3_1, q3_2, q3_3, q3_4, q3_5, q3_6⟩ := kx3.all7
  have G4 := Lib.hid (H4.out z3 hU3)
  go_wp2_with fail
  refine G4.out.mono ?_
  rintro e v4 ⟨y4, rfl, hg4, hp4, hV4⟩
  obtain ⟨z4, hz4⟩ : ∃ z, v4.alloc (.cells y4.cells.toArray 27) = z := ⟨_, rfl⟩
  have hA4 : Below v4.heap.size v4 z4 := hz4 ▸ (Below.refl _ v4).alloc (Nat.le_refl _) _
  have kY4 : Blk z4 v4.heap.size 27 y4.cells := hz4 ▸ Blk.new v4 _ _
  have hW4 : Below z3.heap.size z3 z4 := hV4.trans (hA4.mono hV4.size)
  have hU4 : Below a1.heap.size a1 z4 := hU3.trans (hW4.mono hU3.size)
  have HZ4 := Lib.hid hz4
  have hgz4 := hg4.below hA4
  clear hz4 G4
  have kx4 := kx3.of hW4
  have kY1 := kY1.of hW4
  have hgz1 := hgz1.below hW4
  have kY2 := kY2.of hW4
  have hgz2 := hgz2.below hW4
  have kY3 := kY3.of hW4
  have hgz3 := hgz3.below hW4
  clear q3_0 q3_1 q3_2 q3_3 q3_4 q3_5 q3_6
  go_upto_region 5 with fail
  rw [HZ4.out]
  obtain ⟨q4_0, q4_1, q4_2, q4_3, q4_4, q4_5, q4_6⟩ := kx4.all7
  have G5 := Lib.hid (H5.out z4 hU4)
  go_wp2_with fail
  refine G5.out.mono ?_
  rintro e v5 ⟨y5, rfl, hg5, hp5, hV5⟩
  obtain ⟨z5, hz5⟩ : ∃ z, v5.alloc (.cells y5.cells.toArray 27) = z := ⟨_, rfl⟩
  have hA5 : Below v5.heap.size v5 z5 := hz5 ▸ (Below.refl _ v5).alloc (Nat.le_refl _) _
  have kY5 : Blk z5 v5.heap.size 27 y5.cells := hz5 ▸ Blk.new v5 _ _
  have hW5 : Below z4.heap.size z4 z5 := hV5.trans (hA5.mono hV5.size)
  have hU5 : Below a1.heap.size a1 z5 := hU4.trans (hW5.mono hU4.size)
  have HZ5 := Lib.hid hz5
  have hgz5 := hg5.below hA5
  clear hz5 G5
  have kx5 := kx4.of hW5
  have kY1 := kY1.of hW5
  have hgz1 := hgz1.below hW5
  have kY2 := kY2.of hW5
  have hgz2 := hgz2.below hW5
  have kY3 := kY3.of hW5
  have hgz3 := hgz3.below hW5
  have kY4 := kY4.of hW5
  have hgz4 := hgz4.below hW5
  clear q4_0 q4_1 q4_2 q4_3 q4_4 q4_5 q4_6
  go_upto_region 6 with fail
  rw [HZ5.out]
  obtain ⟨q5_0, q5_1, q5_2, q5_3, q5_4, q5_5, q5_6⟩ := kx5.all7
  have G6 := Lib.hid (H6.out z5 hU5)
  go_wp2_with fail
  refine G6.out.mono ?_
  rintro e v6 ⟨y6, rfl, hg6, hp6, hV6⟩
  obtain ⟨z6, hz6⟩ : ∃ z, v6.alloc (.cells y6.cells.toArray 27) = z := ⟨_, rfl⟩
  have hA6 : Below v6.heap.size v6 z6 := hz6 ▸ (Below.refl _ v6).alloc (Nat.le_refl _) _
  have kY6 : Blk z6 v6.heap.size 27 y6.cells := hz6 ▸ Blk.new v6 _ _
  have hW6 : Below z5.heap.size z5 z6 := hV6.trans (hA6.mono hV6.size)
  have hU6 : Below a1.heap.size a1 z6 := hU5.trans (hW6.mono hU5.size)
  have HZ6 := Lib.hid hz6
  have hgz6 := hg6.below hA6
  clear hz6 G6
  have kx6 := kx5.of hW6
  have kY1 := kY1.of hW6
  have hgz1 := hgz1.below hW6
  have kY2 := kY2.of hW6
  have hgz2 := hgz2.below hW6
  have kY3 := kY3.of hW6
  have hgz3 := hgz3.below hW6
  have kY4 := kY4.of hW6
  have hgz4 := hgz4.below hW6
  have kY5 := kY5.of hW6
  have hgz5 := hgz5.below hW6
  clear q5_0 q5_1 q5_2 q5_3 q5_4 q5_5 q5_6
  go_upto_region 7 with fail
  rw [HZ6.out]
  obtain ⟨q6_0, q6_1, q6_2, q6_3, q6_4, q6_5, q6_6⟩ := kx6.all7
  have G7 := Lib.hid (H7.out z6 hU6)
  go_wp2_with fail
  refine G7.out.mono ?_
  rintro e v7 ⟨y7, rfl, hg7, hp7, hV7⟩
  obtain ⟨z7, hz7⟩ : ∃ z, v7.alloc (.cells y7.cells.toArray 27) = z := ⟨_, rfl⟩
  have hA7 : Below v7.heap.size v7 z7 := hz7 ▸ (Below.refl _ v7).alloc (Nat.le_refl _) _
  have kY7 : Blk z7 v7.heap.size 27 y7.cells := hz7 ▸ Blk.new v7 _ _
  have hW7 : Below z6.heap.size z6 z7 := hV7.trans (hA7.mono hV7.size)
  have hU7 : Below a1.heap.size a1 z7 := hU6.trans (hW7.mono hU6.size)
  have HZ7 := Lib.hid hz7
  have hgz7 := hg7.below hA7
  clear hz7 G7
  have kx7 := kx6.of hW7
  have kY1 := kY1.of hW7
  have hgz1 := hgz1.below hW7
  have kY2 := kY2.of hW7
  have hgz2 := hgz2.below hW7
  have kY3 := kY3.of hW7
  have hgz3 := hgz3.below hW7
  have kY4 := kY4.of hW7
  have hgz4 := hgz4.below hW7
  have kY5 := kY5.of hW7
  have hgz5 := hgz5.below hW7
  have kY6 := kY6.of hW7
  have hgz6 := hgz6.below hW7
  clear q6_0 q6_1 q6_2 q6_3 q6_4 q6_5 q6_6
  go_upto_region 8 with fail
  rw [HZ7.out]
  obtain ⟨q7_0, q7_1, q7_2, q7_3, q7_4, q7_5, q7_6⟩ := kx7.all7
  have G8 := Lib.hid (H8.out z7 hU7)
  go_wp2_with fail
  refine G8.out.mono ?_
  rintro e v8 ⟨y8, rfl, hg8, hp8, hV8⟩
  obtain ⟨z8, hz8⟩ : ∃ z, v8.alloc (.cells y8.cells.toArray 27) = z := ⟨_, rfl⟩
  have hA8 : Below v8.heap.size v8 z8 := hz8 ▸ (Below.refl _ v8).alloc (Nat.le_refl _) _
  have kY8 : Blk z8 v8.heap.size 27 y8.cells := hz8 ▸ Blk.new v8 _ _
  have hW8 : Below z7.heap.size z7 z8 := hV8.trans (hA8.mono hV8.size)
  have hU8 : Below a1.heap.size a1 z8 := hU7.trans (hW8.mono hU7.size)
  have HZ8 := Lib.hid hz8
  have hgz8 := hg8.below hA8
  clear hz8 G8
  have kx8 := kx7.of hW8
  have kY1 := kY1.of hW8
  have hgz1 := hgz1.below hW8
  have kY2 := kY2.of hW8
  have hgz2 := hgz2.below hW8
  have kY3 := kY3.of hW8
  have hgz3 := hgz3.below hW8
  have kY4 := kY4.of hW8
  have hgz4 := hgz4.below hW8
  have kY5 := kY5.of hW8
  have hgz5 := hgz5.below hW8
  have kY6 := kY6.of hW8
  have hgz6 := hgz6.below hW8
  have kY7 := kY7.of hW8
  have hgz7 := hgz7.below hW8
  clear q7_0 q7_1 q7_2 q7_3 q7_4 q7_5 q7_6
  go_upto_region 9 with fail
  rw [HZ8.out]
  have hT0 := Below.refl z8.heap.size z8
  obtain ⟨c0_1_0, c0_1_1, c0_1_2, c0_1_3, c0_1_4, c0_1_5, c0_1_6⟩ := kY1.all7
  obtain ⟨c0_2_0, c0_2_1, c0_2_2, c0_2_3, c0_2_4, c0_2_5, c0_2_6⟩ := kY2.all7
  have S1 := Lib.hid (refTe y1 y2 (by rw [hp1, hp2]) z8 (hgz1.below hT0) (hgz2.below hT0))
  go_wp2_with fail
  refine S1.out.mono ?_
  rintro e s1 ⟨rfl, hS1⟩
  have hT1 := hT0.trans (hS1.mono hT0.size)
  go_wp2_with fail
  refine (HN.out _ _).mono ?_
  rintro e t1 ⟨rfl, hq1⟩
  subst hq1
  clear c0_1_0 c0_1_1 c0_1_2 c0_1_3 c0_1_4 c0_1_5 c0_1_6 c0_2_0 c0_2_1 c0_2_2 c0_2_3 c0_2_4 c0_2_5 c0_2_6
  have kY1 := kY1.of hS1
  have kY2 := kY2.of hS1
  have kY3 := kY3.of hS1
  have kY4 := kY4.of hS1
  have kY5 := kY5.of hS1
  have kY6 := kY6.of hS1
  have kY7 := kY7.of hS1
  have kY8 := kY8.of hS1
  obtain ⟨c1_3_0, c1_3_1, c1_3_2, c1_3_3, c1_3_4, c1_3_5, c1_3_6⟩ := kY3.all7
  obtain ⟨c1_4_0, c1_4_1, c1_4_2, c1_4_3, c1_4_4, c1_4_5, c1_4_6⟩ := kY4.all7
  have S3 := Lib.hid (refTe y3 y4 (by rw [hp3, hp4]) s1 (hgz3.below hT1) (hgz4.below hT1))
  go_wp2_with fail
  refine S3.out.mono ?_
  rintro e s3 ⟨rfl, hS3⟩
  have hT2 := hT1.trans (hS3.mono hT1.size)
  go_wp2_with fail
  refine (HN.out _ _).mono ?_
  rintro e t3 ⟨rfl, hq3⟩
  subst hq3
  clear c1_3_0 c1_3_1 c1_3_2 c1_3_3 c1_3_4 c1_3_5 c1_3_6 c1_4_0 c1_4_1 c1_4_2 c1_4_3 c1_4_4 c1_4_5 c1_4_6
  have kY1 := kY1.of hS3
  have kY2 := kY2.of hS3
  have kY3 := kY3.of hS3
  have kY4 := kY4.of hS3
  have kY5 := kY5.of hS3
  have kY6 := kY6.of hS3
  have kY7 := kY7.of hS3
  have kY8 := kY8.of hS3
  obtain ⟨c2_5_0, c2_5_1, c2_5_2, c2_5_3, c2_5_4, c2_5_5, c2_5_6⟩ := kY5.all7
  obtain ⟨c2_6_0, c2_6_1, c2_6_2, c2_6_3, c2_6_4, c2_6_5, c2_6_6⟩ := kY6.all7
  have S5 := Lib.hid (refTe y5 y6 (by rw [hp5, hp6]) s3 (hgz5.below hT2) (hgz6.below hT2))
  go_wp2_with fail
  refine S5.out.mono ?_
  rintro e s5 ⟨rfl, hS5⟩
  have hT3 := hT2.trans (hS5.mono hT2.size)
  go_wp2_with fail
  refine (HN.out _ _).mono ?_
  rintro e t5 ⟨rfl, hq5⟩
  subst hq5
  clear c2_5_0 c2_5_1 c2_5_2 c2_5_3 c2_5_4 c2_5_5 c2_5_6 c2_6_0 c2_6_1 c2_6_2 c2_6_3 c2_6_4 c2_6_5 c2_6_6
  have kY1 := kY1.of hS5
  have kY2 := kY2.of hS5
  have kY3 := kY3.of hS5
  have kY4 := kY4.of hS5
  have kY5 := kY5.of hS5
  have kY6 := kY6.of hS5
  have kY7 := kY7.of hS5
  have kY8 := kY8.of hS5
  obtain ⟨c3_7_0, c3_7_1, c3_7_2, c3_7_3, c3_7_4, c3_7_5, c3_7_6⟩ := kY7.all7
  obtain ⟨c3_8_0, c3_8_1, c3_8_2, c3_8_3, c3_8_4, c3_8_5, c3_8_6⟩ := kY8.all7
  have S7 := Lib.hid (refTe y7 y8 (by rw [hp7, hp8]) s5 (hgz7.below hT3) (hgz8.below hT3))
  go_wp2_with fail
  refine S7.out.mono ?_
  rintro e s7 ⟨rfl, hS7⟩
  have hT4 := hT3.trans (hS7.mono hT3.size)
  go_wp2_with fail
  refine (HN.out _ _).mono ?_
  rintro e t7 ⟨rfl, hq7⟩
  subst hq7
  clear c3_7_0 c3_7_1 c3_7_2 c3_7_3 c3_7_4 c3_7_5 c3_7_6 c3_8_0 c3_8_1 c3_8_2 c3_8_3 c3_8_4 c3_8_5 c3_8_6
  have kY1 := kY1.of hS7
  have kY2 := kY2.of hS7
  have kY3 := kY3.of hS7
  have kY4 := kY4.of hS7
  have kY5 := kY5.of hS7
  have kY6 := kY6.of hS7
  have kY7 := kY7.of hS7
  have kY8 := kY8.of hS7
  go_wp2_with fail
  refine (HA.out _).mono ?_
  rintro e w9 ⟨rfl, hV9⟩
  go_wp2
  go_ret
  exact ⟨rfl, hB1.trans ((hU8.trans ((hT4.trans (hV9.mono hT4.size)).mono hU8.size)).mono hs1)⟩
end Go.Proofs.YtoabkbnhdekbdaaGreat
