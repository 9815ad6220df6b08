/-
  shape: Write, Free, Set, Unset. Conditions: the tenant is as it comes in.
-/
import Derived.Test.YtoabkbnhdekbdaaGreatMHCR
import Derived.Test.YtoabkbnhdekbdaaGreatMBLA
namespace Go.Proofs.YtoabkbnhdekbdaaGreat
open Go.ChangeShapes Go.WideShapes Go.ChangeAt Go.RowKit
set_option maxRecDepth 100000
set_option linter.unusedSimpArgs false
theorem own_frozen {W : World} {n e size k g cap : Nat} {xs : List Value} (h : W.ownsRow n e size (.slice (some ⟨g, 0, none⟩) k cap) k xs) (i : Nat) : W.frozen? ⟨g, i, none⟩ = false := by
  obtain ⟨_, ⟨hv, _⟩ | ⟨g2, cap2, cur, hv, _, hb, _⟩⟩ := h
  · cases hv
  · injection hv with e1 e2 e3
    injection e1 with e1
    injection e1 with e1
    subst e1
    exact frozen_of_row W g i cur e hb
theorem slGood_of {α : Type} {W : World} {n size b k : Nat} {e : TypeId} {cells : α → List Value} {good : α → Prop} {A : Option Addr} {l : List α} {c : Nat} (ho : W.ownsRow n e size (.slice A k c) k (l.flatMap cells)) (hk : k = l.length) (hg : ∀ y ∈ l, good y) (hl : l.length * b ≤ 140737488351232) : SlGood W cells good b ⟨A, l, c⟩ := by
  obtain ⟨A2, c2, hv, hcap, hnil, hrd, _⟩ := ownAny ho
  injection hv with h1 h2 h3
  exact ⟨by rw [h1]; exact hrd.1, hg, by rw [← hk, h3]; exact hcap, by rw [h1, h3]; exact hnil, hl⟩
theorem turned {W V : World} {n g j : Nat} {y : MTenant} {s s' : MSet} {f : Nat} {u : Value} (hB : Below W.heap.size W V) (ho : OwnTe n W y) (hgy : y.Good W) (hA : y.sets_.A = some ⟨g, 0, none⟩) (hj : y.sets_.l[j]? = some s) (hf : f < 5) (hs : s'.cells = s.cells.set f u) (hos : OwnSe n V s') (hgs : s'.Good (V.setCell ⟨g, j * 5 + f, none⟩ u)) :
    OwnTe n (V.setCell ⟨g, j * 5 + f, none⟩ u) { y with sets_ := ⟨some ⟨g, 0, none⟩, y.sets_.l.set j s', y.sets_.c⟩ } ∧ ({ y with sets_ := ⟨some ⟨g, 0, none⟩, y.sets_.l.set j s', y.sets_.c⟩ } : MTenant).Good (V.setCell ⟨g, j * 5 + f, none⟩ u) := by
  have hoV := ho.below hB
  have h1 := hoV.setIn hA hj hf hs hos
  refine ⟨h1, MTenant.Good.of_sets (x := y) hgy rfl (by show (y.sets_.l.set j s').length * 104 ≤ _; rw [List.length_set]; exact hgy.gsets_.len) (fun z hz => ?_) h1⟩
  rcases List.mem_or_eq_of_mem_set hz with hz2 | rfl
  · exact MSet.Good.of_own (hgy.gsets_.el z hz2) rfl (h1.eset z hz)
  · exact hgs
set_option maxHeartbeats 2000000 in
theorem write1_any (i : Int) (d : ByteArray) (hd : d.size ≤ 140737488351232) (BI : Nat) (BD : Nat) (W : World) (n g j : Nat) (y : MTenant) (s : MSet) (hn : n ≤ W.heap.size) (ho : OwnTe n W y) (hgy : y.Good W) (hA : y.sets_.A = some ⟨g, 0, none⟩) (hj : y.sets_.l[j]? = some s) (hng : n ≤ g) (hBI : BI < n) (cI : W.cell? ⟨BI, 0, none⟩ = some (.int .i64 i)) (hBD : BD < n) (cD : W.cell? ⟨BD, 0, none⟩ = some (.string d)) :
    Calls Tryz.prog 43 (#[.pointer (some ⟨g, j * 5, none⟩)] ++ #[.pointer (some ⟨BI, 0, none⟩), .pointer (some ⟨BD, 0, none⟩)]) W fun e2 W' => ∃ s' : MSet, e2 = .returned (.int .i64 (putE s.body_.l i d.size)) ∧ (putE s.body_.l i d.size = 0 → s'.plain = { s.plain with body_ := putK s.plain.body_ i d } ∧ OwnTe n W' { y with sets_ := ⟨some ⟨g, 0, none⟩, y.sets_.l.set j s', y.sets_.c⟩ } ∧ ({ y with sets_ := ⟨some ⟨g, 0, none⟩, y.sets_.l.set j s', y.sets_.c⟩ } : MTenant).Good W') ∧ Below n W W' := by
  obtain ⟨b, off, hA2, hbl, hcc⟩ := Rd.elem (n := 5) (fun _ => rfl) (by omega) hgy.gsets_.rd hj
  rw [hA] at hA2
  injection hA2 with hA2
  injection hA2 with e1 e2
  subst e1 e2
  have hsg := hgy.gsets_.el s (List.mem_of_getElem? hj)
  have c0 : W.cell? ⟨g, j * 5 + 2, none⟩ = some (.slice s.body_.A s.body_.l.length s.body_.c) := by
    have := hcc 2 _ rfl
    rwa [Nat.zero_add] at this
  have hrow := ho.sets
  unfold Sl.val at hrow
  rw [hA] at hrow
  have cf := own_frozen hrow (j * 5 + 2)
  have hlen := hsg.gbody_.len
  have HC := Lib.hid (fun (V : World) (hV : Below W.heap.size W V) => blkPut_any s.body_.A s.body_.c s.body_.l.length s.body_.l rfl (by omega) (fun z hz => (hsg.gbody_.el z hz).1) i d hd V (hsg.gbody_.rd.below hV))
  obtain ⟨E, hE⟩ : ∃ E, putE s.body_.l i d.size = E := ⟨_, rfl⟩
  obtain ⟨R, hR⟩ : ∃ R, putR s.body_.l i d = R := ⟨_, rfl⟩
  rw [hE, hR] at HC
  rw [hE]
  have HE := Lib.hid hE
  have HR := Lib.hid hR
  have HA := Lib.hid hA
  have HJ := Lib.hid hj
  have HO := Lib.hid ho
  have HG := Lib.hid hgy
  have HS := Lib.hid hsg
  have hgl := hbl
  clear hE hR hA hj hcc hrow ho hgy hsg
  have hlI : BI < W.heap.size := by omega
  have hlD : BD < W.heap.size := by omega
  go_enter Tryz.func43, Tryz.ntmps43
  go_upto_region 1 with fail
  refine wp_region_noPanic ?_
  refine wp_region_last 13 (fun W => W.cell? ⟨g, j * 5 + 2, none⟩ = some (.slice s.body_.A s.body_.l.length s.body_.c) ∧ W.frozen? ⟨g, j * 5 + 2, none⟩ = false ∧ W.cell? ⟨BI, 0, none⟩ = some (.int .i64 i) ∧ W.cell? ⟨BD, 0, none⟩ = some (.string d)) (by kernel_rfl) ⟨c0, cf, cI, cD⟩ (fun hHeld => ?_)
  refine tkA 16 (i := 0) (oi := ⟨some 6, _, _, _, _, _⟩) rfl hHeld ?_
  try simp only [Act.put, pZa, pZb, pZc]
  refine tkA 16 (i := 1) (oi := ⟨some 7, _, _, _, _, _⟩) rfl hHeld ?_
  try simp only [Act.put, pZa, pZb, pZc]
  refine tkA 16 (i := 2) (oi := ⟨some 8, _, _, _, _, _⟩) rfl hHeld ?_
  try simp only [Act.put, pZa, pZb, pZc]
  refine tkA 16 (i := 3) (oi := ⟨some 9, _, _, _, _, _⟩) rfl hHeld ?_
  try simp only [Act.put, pZa, pZb, pZc]
  refine tkA 16 (i := 4) (oi := ⟨some 10, _, _, _, _, _⟩) rfl hHeld ?_
  try simp only [Act.put, pZa, pZb, pZc]
  refine tkA 16 (i := 5) (oi := ⟨some 11, _, _, _, _, _⟩) rfl hHeld ?_
  try simp only [Act.put, pZa, pZb, pZc]
  refine tkA 16 (i := 6) (oi := ⟨some 12, _, _, _, _, _⟩) rfl hHeld ?_
  try simp only [Act.put, pZa, pZb, pZc]
  clear hHeld
  refine wpAnyL_facts 16 1 7 [(7, 13)] (fun s v w => match s with
    | 13 => ∃ A13 c13, v = .tuple #[.slice A13 R.length c13, .int .i64 E] ∧ w.ownsRow W.heap.size 103 2 (.slice A13 R.length c13) R.length (R.flatMap bkC)
    | _ => True) (fun w w' => Below w.heap.size w w') (by kernel_rfl) (by kernel_rfl) bZh ⟨?_, trivial⟩ (fun w' hB => ⟨(hB.cell (p := ⟨g, j * 5 + 2, none⟩) hgl).trans c0, (hB.frozen (p := ⟨g, j * 5 + 2, none⟩) hgl).trans cf, (hB.cell (p := ⟨BI, 0, none⟩) hlI).trans cI, (hB.cell (p := ⟨BD, 0, none⟩) hlD).trans cD⟩) ⟨?_, trivial⟩ ?_
  focus
    intro v w w' h hB
    exact (by obtain ⟨A13, c13, e, hb⟩ := h; exact ⟨A13, c13, e, ownBelow hb hB (Nat.le_refl _)⟩)
  focus
    intro vs w2 hBf hFf o ho K hK
    obtain rfl : (⟨some 13, _, _, _, _, _⟩ : Oper) = o := Option.some.inj ho
    clear ho
    (try simp only [fillL, pZd, pZe, Act.put, pZa, pZb, pZc] at hK ⊢)
    go_simp
    refine (HC.out _ ((Below.refl W.heap.size W).drew.trans hBf)).mono ?_
    rintro e w4 ⟨v4, rfl, ho4, hB4⟩
    obtain ⟨A4, c4, rfl, _, _, _, _⟩ := ownAny ho4
    exact hK.out _ _ ⟨⟨A4, c4, rfl, ownBase ho4 ((Below.refl W.heap.size W).drew.trans hBf).size⟩, hB4⟩
  intro vs w2 hBf hFf
  (try simp only [fillL, pZd, pZe, Act.put, pZa, pZb, pZc])
  obtain ⟨A13, c13, e13, h13⟩ := (hFf (7, 13) (by simp))
  simp only [e13]
  have hBw : Below W.heap.size W w2 := (Below.refl W.heap.size W).drew.trans hBf
  have H13 := Lib.hid h13
  clear h13
  have hHeld : (fun W => W.cell? ⟨g, j * 5 + 2, none⟩ = some (.slice s.body_.A s.body_.l.length s.body_.c) ∧ W.frozen? ⟨g, j * 5 + 2, none⟩ = false ∧ W.cell? ⟨BI, 0, none⟩ = some (.int .i64 i) ∧ W.cell? ⟨BD, 0, none⟩ = some (.string d)) w2 := ⟨(hBf.cell (p := ⟨g, j * 5 + 2, none⟩) hgl).trans c0, (hBf.frozen (p := ⟨g, j * 5 + 2, none⟩) hgl).trans cf, (hBf.cell (p := ⟨BI, 0, none⟩) hlI).trans cI, (hBf.cell (p := ⟨BD, 0, none⟩) hlD).trans cD⟩
  refine tkA 16 (i := 8) (oi := ⟨some 5, _, _, _, _, _⟩) rfl hHeld ?_
  try simp only [Act.put, pZa, pZb, pZc]
  refine tkA 16 (i := 9) (oi := ⟨some 14, _, _, _, _, _⟩) rfl hHeld ?_
  try simp only [Act.put, pZa, pZb, pZc]
  refine wpAnyL_takeW (i := 10) (oi := ⟨some 15, _, _, _, _, _⟩) (v := ?_) rfl (by kernel_rfl) (by kernel_rfl) (by kernel_rfl) (by kernel_rfl) (fun _ _ _ h => h) (Or.inl ⟨by rfl, ?_⟩) (.inr hHeld) ?_
  rotate_left
  focus (intro w hSw; (try dsimp only at hSw); go_simp; try (with_reducible rfl))
  try simp only [Act.put, pZa, pZb, pZc]
  refine tkA 16 (i := 11) (oi := ⟨some 16, _, _, _, _, _⟩) rfl hHeld ?_
  try simp only [Act.put, pZa, pZb, pZc]
  refine tkA 16 (i := 12) (oi := ⟨some 17, _, _, _, _, _⟩) rfl hHeld ?_
  try simp only [Act.put, pZa, pZb, pZc]
  refine wpAnyL_last (i := 13) (o := ⟨none, _, _, _, _, _⟩) (by kernel_rfl) rfl (by kernel_rfl) (fun K hK => ?_)
  go_simp
  go_wp2_with fail
  refine hK.out _ _ ?_
  clear hK K
  try simp only [Act.put, pZa, pZb, pZc]
  refine wpAnyL_last (i := 14) (o := ⟨some 4, _, _, _, _, _⟩) (by kernel_rfl) rfl (by kernel_rfl) (fun K hK => ?_)
  go_simp
  refine hK.out _ _ ?_
  clear hK K
  try simp only [Act.put, pZa, pZb, pZc]
  refine wpAnyL_done (by kernel_rfl) ?_ _
  refine NoPanic.normal ?_
  go_wp2
  go_ret
  refine ⟨⟨s.path_, s.origin_, ⟨A13, R, c13⟩, s.snaps_, s.own_⟩, rfl, fun h0 => ?_, (hBw.mono hn).setCell (p := ⟨g, j * 5 + 2, none⟩) hng _⟩
  have hE0 : putE s.body_.l i d.size = 0 := by rw [HE.out]; exact h0
  have hRk : R = putK s.body_.l i d := by
    rw [← HR.out]
    exact if_pos hE0
  have hos : OwnSe n w2 (⟨s.path_, s.origin_, ⟨A13, R, c13⟩, s.snaps_, s.own_⟩ : MSet) := by
    have h9 := (HO.out.eset s (List.mem_of_getElem? HJ.out)).below hBw
    exact ⟨ownBase H13.out hn, h9.snaps, h9.own, h9.each⟩
  have hrow2 := (HO.out.below hBw).sets
  unfold Sl.val at hrow2
  rw [HA.out] at hrow2
  have hkp := keeps_setIn hrow2 (j * 5 + 2) (.slice A13 R.length c13)
  have h13' := own_keeps H13.out (by decide) hkp
  have hss := MSet.Good.of_own HS.out rfl (((HO.out.eset s (List.mem_of_getElem? HJ.out)).below hBw).setIn hkp)
  have hgr : SlGood (w2.setCell ⟨g, j * 5 + 2, none⟩ (.slice A13 R.length c13)) bkC goodBk 24 ⟨A13, R, c13⟩ := slGood_of h13' rfl (by rw [hRk]; intro z hz; have h9 := okK_mem (putK_ok hE0) z hz; exact ⟨by omega, by omega, by omega⟩) (by rw [hRk]; have h9 := okK_len (putK_ok hE0); omega)
  refine ⟨?_, turned hBw HO.out HG.out HA.out HJ.out (by decide) (by rfl) hos ⟨hss.gpath_, hss.gorigin_, hgr, hss.gsnaps_, hss.gown_⟩⟩
  rw [hRk]
  rfl
def writeU (t : PTenant) (p : ByteArray) (i : Int) (d : ByteArray) : PTenant × Int := if (changedU t p (fun s => putE s.body_ i d.size) (fun s => { s with body_ := putK s.body_ i d })).2 ≠ 0 then (noT, (changedU t p (fun s => putE s.body_ i d.size) (fun s => { s with body_ := putK s.body_ i d })).2) else setlP (changedU t p (fun s => putE s.body_ i d.size) (fun s => { s with body_ := putK s.body_ i d })).1
set_option maxHeartbeats 2000000 in
theorem write_any (x : MTenant) (p : ByteArray) (i : Int) (d : ByteArray) (hp : p.size ≤ 140737488351232) (hd : d.size ≤ 140737488351232) (w : World) (hx : x.Good w) :
    Calls Tryz.prog 10 #[.agg x.cells.toArray, .string p, .int .i64 i, .string d] w fun e w' => AnsT w (writeU x.plain p i d) e w' := by
  obtain ⟨a1, hw1⟩ : ∃ a1, w.alloc (.cells #[.string x.name_, .int .i64 x.quota_, .int .i64 x.next_, .slice x.sets_.A x.sets_.l.length x.sets_.c, .slice x.grants_.A x.grants_.l.length x.grants_.c, .slice x.stages_.A x.stages_.l.length x.stages_.c, .slice x.log_.A x.log_.l.length x.log_.c] 27) = a1 := ⟨_, rfl⟩
  have b1 : Below w.heap.size w a1 := hw1 ▸ (Below.refl _ w).alloc (Nat.le_refl _) _
  have k1 : Blk a1 w.heap.size 27 [.string x.name_, .int .i64 x.quota_, .int .i64 x.next_, .slice x.sets_.A x.sets_.l.length x.sets_.c, .slice x.grants_.A x.grants_.l.length x.grants_.c, .slice x.stages_.A x.stages_.l.length x.stages_.c, .slice x.log_.A x.log_.l.length x.log_.c] := hw1 ▸ Blk.new w _ _
  obtain ⟨a2, hw2⟩ : ∃ a2, a1.alloc (.cells #[.int .i64 i] 3) = a2 := ⟨_, rfl⟩
  have b2 : Below a1.heap.size a1 a2 := hw2 ▸ (Below.refl _ a1).alloc (Nat.le_refl _) _
  have k2 : Blk a2 a1.heap.size 3 [.int .i64 i] := hw2 ▸ Blk.new a1 _ _
  have hX2 : w.heap.size + 1 = a1.heap.size := by rw [← hw1, World.size_alloc]
  obtain ⟨a3, hw3⟩ : ∃ a3, a2.alloc (.cells #[.string d] 9) = a3 := ⟨_, rfl⟩
  have b3 : Below a2.heap.size a2 a3 := hw3 ▸ (Below.refl _ a2).alloc (Nat.le_refl _) _
  have k3 : Blk a3 a2.heap.size 9 [.string d] := hw3 ▸ Blk.new a2 _ _
  have hX3 : a1.heap.size + 1 = a2.heap.size := by rw [← hw2, World.size_alloc]
  obtain ⟨a4, hw4⟩ : ∃ a4, a3.alloc (.cells #[.string ⟨#[]⟩, .int .i64 0, .int .i64 0, .slice none 0 0, .slice none 0 0, .slice none 0 0, .slice none 0 0] 27) = a4 := ⟨_, rfl⟩
  have b4 : Below a3.heap.size a3 a4 := hw4 ▸ (Below.refl _ a3).alloc (Nat.le_refl _) _
  have k4 : Blk a4 a3.heap.size 27 [.string ⟨#[]⟩, .int .i64 0, .int .i64 0, .slice none 0 0, .slice none 0 0, .slice none 0 0, .slice none 0 0] := hw4 ▸ Blk.new a3 _ _
  have hX4 : a2.heap.size + 1 = a3.heap.size := by rw [← hw3, World.size_alloc]
  have hB1 : Below w.heap.size w a1 := b1
  have hB2 : Below w.heap.size w a2 := hB1.trans (b2.mono hB1.size)
  have hB3 : Below w.heap.size w a3 := hB2.trans (b3.mono hB2.size)
  have hB4 : Below w.heap.size w a4 := hB3.trans (b4.mono hB3.size)
  have k1 := k1.of b2
  have k1 := k1.of b3
  have k1 := k1.of b4
  have k2 := k2.of b3
  have k2 := k2.of b4
  have k3 := k3.of b4
  have hs4 := hB4.size
  have hs1 := hB1.size
  have ht1 : a1.heap.size ≤ a2.heap.size := b2.size
  have hs2 := hB2.size
  have ht2 : a2.heap.size ≤ a3.heap.size := b3.size
  have hs3 := hB3.size
  have ht3 : a3.heap.size ≤ a4.heap.size := b4.size
  have HW1 := Lib.hid hw1
  have HW2 := Lib.hid hw2
  have HW3 := Lib.hid hw3
  have HW4 := Lib.hid hw4
  clear hw1 b1 hw2 b2 hw3 b3 hw4 b4
  have hx2 := hx.below hB4
  obtain ⟨P, hP⟩ : ∃ P, changedU x.plain p (fun s => putE s.body_ i d.size) (fun s => { s with body_ := putK s.body_ i d }) = P := ⟨_, rfl⟩
  have hlk1 := k1.lt
  have hlk2 := k2.lt
  have hlk3 := k3.lt
  have hlk4 := k4.lt
  have HC : Hid (Calls Tryz.prog 42 #[.agg x.cells.toArray, .string p, .func (.func 43) #[] #[.pointer (some ⟨a1.heap.size, 0, none⟩), .pointer (some ⟨a2.heap.size, 0, none⟩)]] a4 fun e w' => AnsT a4 P e w') := Lib.hid (by
    have h9 := changed_any x p hp 43 #[.pointer (some ⟨a1.heap.size, 0, none⟩), .pointer (some ⟨a2.heap.size, 0, none⟩)] (enters_of Tryz.func43 (by kernel_rfl) rfl) (fun s => putE s.body_ i d.size) (fun s => { s with body_ := putK s.body_ i d }) a4 hx2
      (fun W n g j y s _ hn1 hn2 hBW ho hg hA hj _ hng => write1_any i d hd a1.heap.size a2.heap.size W n g j y s hn2 ho hg hA hj hng (by omega) ((k2.of hBW).cell 0) (by omega) ((k3.of hBW).cell 0))
    rwa [hP] at h9)
  have hw : writeU x.plain p i d = if P.2 ≠ 0 then (noT, P.2) else setlP P.1 := by unfold writeU; rw [hP]
  obtain ⟨R, hR⟩ : ∃ R, (if P.2 ≠ 0 then (noT, P.2) else setlP P.1) = R := ⟨_, rfl⟩
  rw [hw, hR]
  have HRR := Lib.hid hR
  clear hw hP hR hx hx2
  obtain ⟨q0, q1, q2, q3, q4, q5, q6⟩ := k1.all7
  obtain ⟨qf0, qf1, qf2, qf3, qf4, qf5, qf6⟩ := k1.fz7
  go_enter Tryz.func10, Tryz.ntmps10
  go_upto_region 1 with fail
  rw [HW1.out, HW2.out, HW3.out, HW4.out]
  try rw [hX2]
  try rw [hX3]
  try rw [hX4]
  go_wp2_with fail
  refine HC.out.mono ?_
  rintro e w5 ⟨y, rfl, hoy, hgy, hpy, hV⟩
  have K1 := k1.of hV
  have K4 := k4.of hV
  have hX5 := hB4.trans (hV.mono hs4)
  clear q0 q1 q2 q3 q4 q5 q6 qf0 qf1 qf2 qf3 qf4 qf5 qf6
  obtain ⟨d0, d1, d2, d3, d4, d5, d6⟩ := K1.all7
  obtain ⟨df0, df1, df2, df3, df4, df5, df6⟩ := K1.fz7
  go_upto_region 2 with fail
  generalize hwE : World.setCell _ ⟨w.heap.size, 6, none⟩ _ = wF
  obtain ⟨KF, SF, ZF, BF⟩ := store7 K1 hwE
  have hlw : w.heap.size < a4.heap.size := by omega
  have hoF := hoy.store hlw SF
  have hgF : y.Good wF := MTenant.Good.of_own hgy rfl hoF
  have hXF : Below w.heap.size w wF := BF _ _ hX5 (Nat.le_refl _)
  have hneF : a3.heap.size ≠ w.heap.size := by omega
  have K5 : Blk wF a3.heap.size 27 [.string ⟨#[]⟩, .int .i64 0, .int .i64 0, .slice none 0 0, .slice none 0 0, .slice none 0 0, .slice none 0 0] := (SF _ hneF).trans K4
  have hsF := hXF.size
  clear d0 d1 d2 d3 d4 d5 d6 df0 df1 df2 df3 df4 df5 df6 hoy hgy hwE
  by_cases hz : P.2 = 0
  · skip
    have hRR : R = setlP P.1 := by rw [← HRR.out]; exact if_neg (fun h => h hz)
    rw [hz]
    have HS := Lib.hid (settled_any y wF hgF)
    obtain ⟨E, hE⟩ : ∃ E, (setlP y.plain).2 = E := ⟨_, rfl⟩
    rw [hE] at HS
    have hEE : (setlP P.1).2 = E := by rw [← hE, hpy]
    subst hRR
    have HE := Lib.hid hEE
    have HPY := Lib.hid hpy
    clear hpy hE hEE
    obtain ⟨h0, h1, h2, h3, h4, h5, h6⟩ := KF.all7
    go_wp2_with fail
    refine HS.out.mono ?_
    rintro e w8 ⟨rfl, hV10, hfr⟩
    have K9 := K5.of hV10
    have hX := hXF.trans (hV10.mono hsF)
    have hR8 : a3.heap.size < a4.heap.size := hlk4
    obtain ⟨z, hzz⟩ : ∃ z, setlM y = z := ⟨_, rfl⟩
    have hoz : OwnTe a4.heap.size w8 z := hzz ▸ setlM_own (hoF.stays fun b _ hb2 => hfr b hb2)
    have hgz : z.Good w8 := hzz ▸ setlM_good (hgF.below hV10)
    have hpz : z.plain = (setlP y.plain).1 := hzz ▸ setlM_plain y
    rw [hzz]
    obtain ⟨zr0, zr1, zr2, zr3, zr4, zr5, zr6⟩ := K9.all7
    obtain ⟨zrf0, zrf1, zrf2, zrf3, zrf4, zrf5, zrf6⟩ := K9.fz7
    go_wp2
    generalize hwE : World.setCell _ ⟨a3.heap.size, 6, none⟩ _ = wE
    obtain ⟨KE, SE, ZE, BE⟩ := store7 K9 hwE
    obtain ⟨ze0, ze1, ze2, ze3, ze4, ze5, ze6⟩ := KE.all7
    refine bodyPost_ret (v := .tuple #[.agg #[.string z.name_, .int .i64 z.quota_, .int .i64 z.next_, .slice z.sets_.A z.sets_.l.length z.sets_.c, .slice z.grants_.A z.grants_.l.length z.grants_.c, .slice z.stages_.A z.stages_.l.length z.stages_.c, .slice z.log_.A z.log_.l.length z.log_.c], .int .i64 E]) (by simp [results, Tryz.results10, go_sem, ze0, ze1, ze2, ze3, ze4, ze5, ze6]) rfl ?_
    rw [HPY.out] at hpz
    have hoz2 := hoz.store hR8 SE
    exact ⟨z, by rw [HE.out], hoz2.base hs4, MTenant.Good.of_own hgz rfl hoz2, hpz, BE _ _ hX hs3⟩
  · skip
    have hRR : R = (noT, P.2) := by rw [← HRR.out]; exact if_pos hz
    subst hRR
    obtain ⟨zr0, zr1, zr2, zr3, zr4, zr5, zr6⟩ := K5.all7
    obtain ⟨zrf0, zrf1, zrf2, zrf3, zrf4, zrf5, zrf6⟩ := K5.fz7
    go_wp2
    generalize hwE : World.setCell _ ⟨a3.heap.size, 6, none⟩ _ = wE
    obtain ⟨KE, SE, ZE, BE⟩ := store7 K5 hwE
    obtain ⟨ze0, ze1, ze2, ze3, ze4, ze5, ze6⟩ := KE.all7
    refine bodyPost_ret (v := .tuple #[.agg #[.string ⟨#[]⟩, .int .i64 0, .int .i64 0, .slice none 0 0, .slice none 0 0, .slice none 0 0, .slice none 0 0], .int .i64 P.2]) (by simp [results, Tryz.results10, go_sem, ze0, ze1, ze2, ze3, ze4, ze5, ze6]) rfl ?_
    exact ansT_no (BE _ _ hXF hs3)
theorem changed_ask {t : PTenant} {p : ByteArray} {e : PSet → Int} {f : PSet → PSet} (h : askE t p ≠ 0) : changedU t p e f = (noT, askE t p) := by
  have h1 : placeE t p = askE t p := if_pos h
  unfold changedU
  rw [h1]
  exact if_pos h
theorem changed_none {t : PTenant} {p : ByteArray} {e : PSet → Int} {f : PSet → PSet} (h : askE t p = 0) (hs : setAt t p = none) : changedU t p e f = (noT, 71) := by
  have h1 : placeE t p = 71 := by
    unfold placeE
    rw [if_neg (fun k => k h), if_neg (by rw [hasSet_no.2 hs]; decide)]
  unfold changedU
  rw [h1]
  exact if_pos (by decide)
theorem changed_some {t : PTenant} {p : ByteArray} {e : PSet → Int} {f : PSet → PSet} {s : PSet} (h : askE t p = 0) (hs : setAt t p = some s) : changedU t p e f = if e s ≠ 0 then (noT, e s) else ({ t with sets_ := chS p f t.sets_ }, 0) := by
  have h1 : placeE t p = 0 := by
    unfold placeE
    rw [if_neg (fun k => k h), if_pos (hasSet_iff.2 ⟨s, hs⟩)]
  unfold changedU
  rw [h1, hs, if_neg (show ¬ (0 : Int) ≠ 0 by decide)]
theorem write_some {t : PTenant} {p : ByteArray} {i : Int} {d : ByteArray} {s : PSet} (h : askE t p = 0) (hs : setAt t p = some s) : writeU t p i d = if putE s.body_ i d.size ≠ 0 then (noT, putE s.body_ i d.size) else setlP { t with sets_ := chS p (fun s => { s with body_ := putK s.body_ i d }) t.sets_ } := by
  unfold writeU
  rw [changed_some h hs]
  by_cases he : putE s.body_ i d.size ≠ 0
  · rw [if_pos he]
    exact (if_pos he).trans (if_pos he).symm
  · rw [if_neg he]
    exact (if_neg (fun k => k rfl)).trans (if_neg he).symm
theorem write_none {t : PTenant} {p : ByteArray} {i : Int} {d : ByteArray} (h : askE t p = 0) (hs : setAt t p = none) : writeU t p i d = (noT, 71) := by
  unfold writeU
  rw [changed_none h hs]
  exact if_pos (show (71 : Int) ≠ 0 by decide)
theorem write_ask {t : PTenant} {p : ByteArray} {i : Int} {d : ByteArray} (h : askE t p ≠ 0) : writeU t p i d = (noT, askE t p) := by
  unfold writeU
  rw [changed_ask h]
  exact if_pos h
end Go.Proofs.YtoabkbnhdekbdaaGreat
