/-
  shape: With. Conditions: the tenant and the set are as they come in.
-/
import Derived.Test.YtoabkbnhdekbdaaGreatQHCC
import Derived.Test.YtoabkbnhdekbdaaGreatQHLB
import Derived.Test.YtoabkbnhdekbdaaGreatQTCU
import Derived.Test.YtoabkbnhdekbdaaGreatQTMB
import Derived.Test.YtoabkbnhdekbdaaGreatQTNP
import Derived.Test.YtoabkbnhdekbdaaGreatQTMG
import Derived.Test.YtoabkbnhdekbdaaGreatQSL
import Derived.Test.YtoabkbnhdekbdaaGreatQUSF
namespace Go.Proofs.YtoabkbnhdekbdaaGreat
open Go.ChangeShapes Go.WideShapes Go.ChangeAt Go.RowKit
set_option maxRecDepth 100000
set_option linter.unusedSimpArgs false
theorem with1_any (B0 : Nat) (s x : MSet) (w : World) (hb : Blk w B0 49 s.cells) :
    Calls Tryz.prog 69 #[.agg x.cells.toArray, .pointer (some ⟨B0, 0, none⟩)] w fun e w' => e = .returned (.bool (!(ltTx x.path_ s.path_))) ∧ Below w.heap.size w w' := by
  have hB0 : Below w.heap.size w (w.alloc (.cells x.cells.toArray 49)) := (Below.refl _ w).alloc (Nat.le_refl _) _
  have h0 := hb.cell 0
  simp only [List.getElem?_cons_zero] at h0
  have hl := hb.lt
  have hg : (!(ltTx x.path_ s.path_)) = !(Op.bytesLess x.path_.toList s.path_.toList) := by
    rfl
  rw [hg]
  go_enter Tryz.func69, Tryz.ntmps69
  go_wp2
  go_ret
  exact ⟨by rfl, hB0⟩
theorem with_ways (s : MSet) (l : List MSet) : ∃ j : Nat, j ≤ l.length ∧ insS s.plain (l.map MSet.plain) = (l.take j ++ s :: l.drop j).map MSet.plain ∧ ((findI (fun y : MSet => !(ltTx y.path_ s.path_)) l = j ∧ j < l.length) ∨ (findI (fun y : MSet => !(ltTx y.path_ s.path_)) l = -1 ∧ j = l.length)) := by
  rcases findI_ways (fun y : MSet => !(ltTx y.path_ s.path_)) l with ⟨h1, h2⟩ | ⟨j, x, h1, h2, h3, h4⟩
  · refine ⟨l.length, Nat.le_refl _, ?_, .inr ⟨h1, rfl⟩⟩
    rw [insS_at (j := l.length)]
    · rw [show l.length = (l.map MSet.plain).length by simp, List.take_length, List.drop_length]
      simp
    · intro x hx
      obtain ⟨y, hy, rfl⟩ := List.mem_map.1 (List.mem_of_mem_take hx)
      have := h2 y hy
      show ltTx y.path_ s.path_ = true
      simpa using this
    · intro x hx
      have := (List.getElem?_eq_some_iff.1 hx).1
      simp at this
    · simp
  · have hj := (List.getElem?_eq_some_iff.1 h2).1
    refine ⟨j, by omega, ?_, .inl ⟨h1, hj⟩⟩
    rw [insS_at (j := j)]
    · simp [List.map_take, List.map_drop]
    · intro y hy
      rw [← List.map_take] at hy
      obtain ⟨z, hz, rfl⟩ := List.mem_map.1 hy
      have := h4 z hz
      show ltTx z.path_ s.path_ = true
      simpa using this
    · intro y hy
      rw [List.getElem?_map, h2] at hy
      simp at hy
      subst hy
      show ltTx x.path_ s.path_ = false
      simpa using h3
    · simp; omega
theorem mid_good {W W' : World} {x : MTenant} (h : x.Good W) (hB : Below W.heap.size W W') {n c : Nat} {A : Option Addr} {l : List MSet} (ho : W'.ownsRow n 49 5 (.slice A l.length c) l.length (l.flatMap MSet.cells)) (hl : l.length * 104 ≤ 140737488351232) (hg : ∀ s ∈ l, s.Good W) : ({ x with sets_ := ⟨A, l, c⟩ } : MTenant).Good W' := by
  obtain ⟨A2, c2, hv, hcap, hnil, hrd, _⟩ := ownAny ho
  injection hv with v1 v2 v3
  have h2 := h.below hB
  exact ⟨h2.gname_, h2.gquota_, h2.gnext_, ⟨by rw [v1]; exact hrd.1, fun s hs => (hg s hs).below hB, by rw [v3]; exact hcap, by rw [v1, v3]; exact hnil, hl⟩, h2.ggrants_, h2.gstages_, h2.glog_⟩
set_option maxHeartbeats 4000000 in
theorem with_any (x : MTenant) (q : MSet) (w : World) (hx : x.Good w) (hs : q.Good w) (hl : (x.sets_.l.length + 1) * 104 ≤ 140737488351232) :
    Calls Tryz.prog 23 #[.agg x.cells.toArray, .agg q.cells.toArray] w fun e w' => ∃ y : MTenant, e = .returned (.agg y.cells.toArray) ∧ OwnTe w.heap.size w' y ∧ y.Good w' ∧ y.plain = withP x.plain q.plain ∧ Below w.heap.size w w' := by
  obtain ⟨j, hj, hins, hw0⟩ := with_ways q x.sets_.l
  obtain ⟨xn, xq, xt, ⟨A, l, c⟩, xg, xs, xl⟩ := x
  dsimp only at hj hins hw0 hl
  obtain ⟨a1, hw1⟩ : ∃ a1, w.alloc (.cells #[.string xn, .int .i64 xq, .int .i64 xt, .slice A l.length c, .slice xg.A xg.l.length xg.c, .slice xs.A xs.l.length xs.c, .slice xl.A xl.l.length xl.c] 27) = a1 := ⟨_, rfl⟩
  have b1 : Below w.heap.size w a1 := hw1 ▸ (Below.refl _ w).alloc (Nat.le_refl _) _
  have k1 : Blk a1 w.heap.size 27 [.string xn, .int .i64 xq, .int .i64 xt, .slice A l.length c, .slice xg.A xg.l.length xg.c, .slice xs.A xs.l.length xs.c, .slice xl.A xl.l.length xl.c] := hw1 ▸ Blk.new w _ _
  obtain ⟨a2, hw2⟩ : ∃ a2, a1.alloc (.cells #[.string q.path_, .string q.origin_, .slice q.body_.A q.body_.l.length q.body_.c, .slice q.snaps_.A q.snaps_.l.length q.snaps_.c, .slice q.own_.A q.own_.l.length q.own_.c] 49) = a2 := ⟨_, rfl⟩
  have b2 : Below a1.heap.size a1 a2 := hw2 ▸ (Below.refl _ a1).alloc (Nat.le_refl _) _
  have k2 : Blk a2 a1.heap.size 49 [.string q.path_, .string q.origin_, .slice q.body_.A q.body_.l.length q.body_.c, .slice q.snaps_.A q.snaps_.l.length q.snaps_.c, .slice q.own_.A q.own_.l.length q.own_.c] := hw2 ▸ Blk.new a1 _ _
  have hX2 : w.heap.size + 1 = a1.heap.size := by rw [← hw1, World.size_alloc]
  obtain ⟨a3, hw3⟩ : ∃ a3, a2.alloc (.cells #[.string ⟨#[]⟩, .int .i64 0, .int .i64 0, .slice none 0 0, .slice none 0 0, .slice none 0 0, .slice none 0 0] 27) = a3 := ⟨_, rfl⟩
  have b3 : Below a2.heap.size a2 a3 := hw3 ▸ (Below.refl _ a2).alloc (Nat.le_refl _) _
  have k3 : Blk a3 a2.heap.size 27 [.string ⟨#[]⟩, .int .i64 0, .int .i64 0, .slice none 0 0, .slice none 0 0, .slice none 0 0, .slice none 0 0] := hw3 ▸ Blk.new a2 _ _
  have hX3 : a1.heap.size + 1 = a2.heap.size := by rw [← hw2, World.size_alloc]
  have hB1 : Below w.heap.size w a1 := b1
  have hB2 : Below w.heap.size w a2 := hB1.trans (b2.mono hB1.size)
  have hB3 : Below w.heap.size w a3 := hB2.trans (b3.mono hB2.size)
  have k1 := k1.of b2
  have k1 := k1.of b3
  have k2 := k2.of b3
  have hs3 := hB3.size
  have hs1 := hB1.size
  have ht1 : a1.heap.size ≤ a2.heap.size := b2.size
  have hs2 := hB2.size
  have ht2 : a2.heap.size ≤ a3.heap.size := b3.size
  have HW1 := Lib.hid hw1
  have HW2 := Lib.hid hw2
  have HW3 := Lib.hid hw3
  clear hw1 b1 hw2 b2 hw3 b3
  have hr := hx.gsets_.rd
  have hnil := hx.gsets_.nil
  have hcap := hx.gsets_.cap
  have hlen := hx.gsets_.len
  dsimp only at hr hnil hcap hlen
  have HI := indexMem Tryz.indexSet 5 Tryz.isAgg49 Tryz.sizeOf49 MSet.cells (fun _ => rfl) (by omega) (fun y : MSet => !(ltTx y.path_ q.path_)) 69 #[.pointer (some ⟨a1.heap.size, 0, none⟩)] (enters_of Tryz.func69 (by kernel_rfl) rfl) A c l.length l rfl a3
    (fun W y _ hB => with1_any a1.heap.size q y W (k2.of hB)) (by omega) (hr.below hB3)
  change Calls _ 68 _ _ _ at HI
  have HI' := Lib.hid HI
  have HR := Lib.hid (hr.below hB3)
  have HG := Lib.hid hx
  have HS := Lib.hid hs
  have HINS := Lib.hid hins
  clear HI hr hx hs hins
  obtain ⟨qq0, qq1, qq2, qq3, qq4, qq5, qq6⟩ := k1.all7
  obtain ⟨r0, r1, r2, r3, r4⟩ := k2.all5
  rcases hw0 with ⟨hF, hjl⟩ | ⟨hF, rfl⟩
  · skip
    rw [hF] at HI'
    clear hF
    go_enter Tryz.func23, Tryz.ntmps23
    go_upto_region 1 with fail
    rw [HW1.out, HW2.out, HW3.out]
    try rw [hX2]
    try rw [hX3]
    go_wp2_with fail
    refine HI'.out.mono ?_
    rintro e w3 ⟨rfl, hV⟩
    have K1 := k1.of hV
    have K2 := k2.of hV
    have K3 := k3.of hV
    have hB4 := hB3.trans (hV.mono hs3)
    have HR4 := Lib.hid (HR.out.below hV)
    clear HI'
    obtain ⟨t0, t1, t2, t3, t4, t5, t6⟩ := K1.all7
    obtain ⟨u0, u1, u2, u3, u4⟩ := K2.all5
    go_upto_region 4 with fail
    have hlo := fun W => run_lo A l.length c j (by omega) W
    have hhi := fun W => run_hi A l.length c j (by omega) W
    have hlt0 := K1.lt
    have hlt1 := K2.lt
    have tf3 := K1.frozen 3
    have hb3 : w.heap.size < a3.heap.size := by omega
    have hjt : (l.take j).length = j := by rw [List.length_take]; omega
    have hjd : (l.drop j).length = (l.length - j) := by simp
    have HCC := Lib.hid (fun (W : World) (hW : Below w3.heap.size w3 W) (g g2 : Nat) (hg : Blk W g 22 [.slice (cutA A c 0) j c, .slice (some ⟨g2, 0, none⟩) 1 1, .slice (cutA A c j) (l.length - j) (c - j)]) (hg2 : Blk W g2 49 q.cells) =>
      concat_any (some ⟨g, 0, none⟩) 3 [⟨cutA A c 0, l.take j, c⟩, ⟨some ⟨g2, 0, none⟩, [q], 1⟩, ⟨cutA A c j, l.drop j, c - j⟩] W
        (by
          simp only [Sl.val, List.map_cons, List.map_nil, hjt, hjd, List.length_singleton]
          intro _
          exact ⟨g, 0, rfl, hg.lt, fun k u hk => by rw [Nat.zero_add, hg.cell k]; exact hk⟩)
        (by
          intro y hy
          simp only [List.mem_cons, List.not_mem_nil, or_false] at hy
          rcases hy with rfl | rfl | rfl
          · exact ⟨cutS_take (HR4.out.below hW) j, fun e => by have := cutS_none (j := 0) hnil e; simpa using this⟩
          · refine ⟨fun _ => ⟨g2, 0, rfl, hg2.lt, fun k u hk => ?_⟩, fun e => by cases e⟩
            rw [Nat.zero_add, hg2.cell k]
            simpa using hk
          · exact ⟨cutS_drop (HR4.out.below hW) hcap j, cutS_none hnil⟩)
        (by simp) (by unfold lenS; simp only [List.map_cons, List.map_nil, hjt, hjd, List.length_singleton, List.sum_cons, List.sum_nil]; omega))
    obtain ⟨L, hL⟩ : ∃ L, l.take j ++ q :: l.drop j = L := ⟨_, rfl⟩
    have hlen5 : L.length = l.length + 1 := by rw [← hL, List.length_append, List.length_cons, hjt, hjd] <;> omega
    have hfl : ∀ g2 : Nat, [(⟨cutA A c 0, l.take j, c⟩ : Sl MSet), ⟨some ⟨g2, 0, none⟩, [q], 1⟩, ⟨cutA A c j, l.drop j, c - j⟩].flatMap Sl.l = L := fun g2 => by
      rw [← hL]
      simp
    have HFL := Lib.hid hfl
    have HL := Lib.hid hL
    have HLEN := Lib.hid hlen5
    clear hL hfl hlen5
    refine wp_region_noPanic ?_
    refine wp_region_last 13 (fun W => W.cell? ⟨w.heap.size, 3, none⟩ = some (.slice A l.length c) ∧ W.frozen? ⟨w.heap.size, 3, none⟩ = false ∧ W.cell? ⟨a1.heap.size, 0, none⟩ = some (.string q.path_) ∧ W.cell? ⟨a1.heap.size, 1, none⟩ = some (.string q.origin_) ∧ W.cell? ⟨a1.heap.size, 2, none⟩ = some (.slice q.body_.A q.body_.l.length q.body_.c) ∧ W.cell? ⟨a1.heap.size, 3, none⟩ = some (.slice q.snaps_.A q.snaps_.l.length q.snaps_.c) ∧ W.cell? ⟨a1.heap.size, 4, none⟩ = some (.slice q.own_.A q.own_.l.length q.own_.c)) (by kernel_rfl) ⟨t3, tf3, u0, u1, u2, u3, u4⟩ (fun hHeld => ?_)
    refine tkA 16 (i := 0) (oi := ⟨some 15, _, _, _, _, _⟩) rfl hHeld ?_
    try simp only [Act.put, pZa, pZb, pZc]
    refine tkA 16 (i := 1) (oi := ⟨some 16, _, _, _, _, _⟩) rfl hHeld ?_
    try simp only [Act.put, pZa, pZb, pZc]
    refine tkA 16 (i := 2) (oi := ⟨some 17, _, _, _, _, _⟩) rfl hHeld ?_
    try simp only [Act.put, pZa, pZb, pZc]
    refine tkA 16 (i := 4) (oi := ⟨some 19, _, _, _, _, _⟩) rfl hHeld ?_
    try simp only [Act.put, pZa, pZb, pZc]
    refine tkA 16 (i := 6) (oi := ⟨some 21, _, _, _, _, _⟩) rfl hHeld ?_
    try simp only [Act.put, pZa, pZb, pZc]
    refine tkA 16 (i := 7) (oi := ⟨some 22, _, _, _, _, _⟩) rfl hHeld ?_
    try simp only [Act.put, pZa, pZb, pZc]
    refine tkA 16 (i := 8) (oi := ⟨some 23, _, _, _, _, _⟩) rfl hHeld ?_
    try simp only [Act.put, pZa, pZb, pZc]
    clear hHeld
    refine wpAnyL_facts 16 5 2 [(3, 18), (5, 20), (9, 24), (10, 25), (11, 26)] (fun s v w => match s with
      | 18 => v = .slice (cutA A c 0) j c
      | 20 => ∃ g, v = .slice (some ⟨g, 0, none⟩) 1 1 ∧ Blk w g 49 q.cells
      | 24 => v = .slice (cutA A c j) (l.length - j) (c - j)
      | 25 => ∃ g g2, v = .slice (some ⟨g, 0, none⟩) 3 3 ∧ Blk w g 22 [.slice (cutA A c 0) j c, .slice (some ⟨g2, 0, none⟩) 1 1, .slice (cutA A c j) (l.length - j) (c - j)] ∧ Blk w g2 49 q.cells
      | 26 => w.ownsRow w3.heap.size 49 5 v L.length (L.flatMap MSet.cells)
      | _ => True) (fun w w' => Below w.heap.size w w') (by kernel_rfl) (by kernel_rfl) bZh ⟨?_, ?_, ?_, ?_, ?_, trivial⟩ (fun w' hB => ⟨(hB.cell (p := ⟨w.heap.size, 3, none⟩) hlt0).trans t3, (K1.drew.below hB hlt0).frozen 3, (hB.cell (p := ⟨a1.heap.size, 0, none⟩) hlt1).trans u0, (hB.cell (p := ⟨a1.heap.size, 1, none⟩) hlt1).trans u1, (hB.cell (p := ⟨a1.heap.size, 2, none⟩) hlt1).trans u2, (hB.cell (p := ⟨a1.heap.size, 3, none⟩) hlt1).trans u3, (hB.cell (p := ⟨a1.heap.size, 4, none⟩) hlt1).trans u4⟩) ⟨?_, ?_, ?_, ?_, ?_, trivial⟩ ?_
    focus
      intro v w w' h hB
      exact h
    focus
      intro v w w' h hB
      exact (by obtain ⟨g, e, hb⟩ := h; exact ⟨g, e, hb.below hB hb.lt⟩)
    focus
      intro v w w' h hB
      exact h
    focus
      intro v w w' h hB
      exact (by obtain ⟨g, g2, e, hb, hb2⟩ := h; exact ⟨g, g2, e, hb.below hB hb.lt, hb2.below hB hb2.lt⟩)
    focus
      intro v w w' h hB
      exact (ownBelow h hB (Nat.le_refl _))
    focus
      intro vs w2 hBf hFf o ho K hK
      obtain rfl : (⟨some 18, _, _, _, _, _⟩ : Oper) = o := Option.some.inj ho
      clear ho
      (try simp only [fillL, pZd, pZe, Act.put, pZa, pZb, pZc] at hK ⊢)
      go_simp
      refine hK.out _ _ ⟨rfl, Below.refl _ _⟩
    focus
      intro vs w2 hBf hFf o ho K hK
      obtain rfl : (⟨some 20, _, _, _, _, _⟩ : Oper) = o := Option.some.inj ho
      clear ho
      (try simp only [fillL, pZd, pZe, Act.put, pZa, pZb, pZc] at hK ⊢)
      go_simp
      refine hK.out _ _ ⟨⟨w2.heap.size, rfl, Blk.new w2 _ _⟩, (Below.refl _ w2).alloc (Nat.le_refl _) _⟩
    focus
      intro vs w2 hBf hFf o ho K hK
      obtain rfl : (⟨some 24, _, _, _, _, _⟩ : Oper) = o := Option.some.inj ho
      clear ho
      (try simp only [fillL, pZd, pZe, Act.put, pZa, pZb, pZc] at hK ⊢)
      go_simp
      refine hK.out _ _ ⟨rfl, Below.refl _ _⟩
    focus
      intro vs w2 hBf hFf o ho K hK
      obtain rfl : (⟨some 25, _, _, _, _, _⟩ : Oper) = o := Option.some.inj ho
      clear ho
      (try simp only [fillL, pZd, pZe, Act.put, pZa, pZb, pZc] at hK ⊢)
      obtain ⟨g20, e20, hb20⟩ := (hFf (5, 20) (by simp) (by kernel_rfl))
      have e18 := (hFf (3, 18) (by simp) (by kernel_rfl))
      have e24 := (hFf (9, 24) (by simp) (by kernel_rfl))
      simp only [] at e18 e24
      simp only [e18, e20, e24] at hK ⊢
      go_simp
      refine hK.out _ _ ⟨⟨w2.heap.size, g20, rfl, Blk.new w2 _ _, hb20.below ((Below.refl _ w2).alloc (Nat.le_refl _) _) hb20.lt⟩, (Below.refl _ w2).alloc (Nat.le_refl _) _⟩
    focus
      intro vs w2 hBf hFf o ho K hK
      obtain rfl : (⟨some 26, _, _, _, _, _⟩ : Oper) = o := Option.some.inj ho
      clear ho
      (try simp only [fillL, pZd, pZe, Act.put, pZa, pZb, pZc] at hK ⊢)
      obtain ⟨g25, g20, e25, hb25, hb20⟩ := (hFf (10, 25) (by simp) (by kernel_rfl))
      simp only [e25] at hK ⊢
      go_simp
      refine (HCC.out _ ((Below.refl w3.heap.size w3).drew.trans hBf) g25 g20 hb25 hb20).mono ?_
      rintro e w4 ⟨v4, rfl, ho4, hB4⟩
      rw [HFL.out g20] at ho4
      exact hK.out _ _ ⟨ownBase ho4 ((Below.refl w3.heap.size w3).drew.trans hBf).size, hB4⟩
    intro vs w2 hBf hFf
    (try simp only [fillL, pZd, pZe, Act.put, pZa, pZb, pZc])
    have h26 := (hFf (11, 26) (by simp))
    simp only [] at h26
    obtain ⟨A26, c26, e26, _, _, _, _⟩ := ownAny h26
    rw [e26] at h26
    simp only [e26]
    have hBw : Below w3.heap.size w3 w2 := (Below.refl w3.heap.size w3).drew.trans hBf
    have H26 := Lib.hid h26
    have KT := K1.of hBw
    have KR := K3.of hBw
    clear h26
    have hHeld : (fun W => W.cell? ⟨w.heap.size, 3, none⟩ = some (.slice A l.length c) ∧ W.frozen? ⟨w.heap.size, 3, none⟩ = false ∧ W.cell? ⟨a1.heap.size, 0, none⟩ = some (.string q.path_) ∧ W.cell? ⟨a1.heap.size, 1, none⟩ = some (.string q.origin_) ∧ W.cell? ⟨a1.heap.size, 2, none⟩ = some (.slice q.body_.A q.body_.l.length q.body_.c) ∧ W.cell? ⟨a1.heap.size, 3, none⟩ = some (.slice q.snaps_.A q.snaps_.l.length q.snaps_.c) ∧ W.cell? ⟨a1.heap.size, 4, none⟩ = some (.slice q.own_.A q.own_.l.length q.own_.c)) w2 := ⟨(hBf.cell (p := ⟨w.heap.size, 3, none⟩) hlt0).trans t3, (K1.drew.below hBf hlt0).frozen 3, (hBf.cell (p := ⟨a1.heap.size, 0, none⟩) hlt1).trans u0, (hBf.cell (p := ⟨a1.heap.size, 1, none⟩) hlt1).trans u1, (hBf.cell (p := ⟨a1.heap.size, 2, none⟩) hlt1).trans u2, (hBf.cell (p := ⟨a1.heap.size, 3, none⟩) hlt1).trans u3, (hBf.cell (p := ⟨a1.heap.size, 4, none⟩) hlt1).trans u4⟩
    refine tkA 16 (i := 12) (oi := ⟨some 27, _, _, _, _, _⟩) rfl hHeld ?_
    try simp only [Act.put, pZa, pZb, pZc]
    refine wpAnyL_last (i := 13) (o := ⟨none, _, _, _, _, _⟩) (by kernel_rfl) rfl (by kernel_rfl) (fun K hK => ?_)
    go_simp
    go_wp2_with fail
    refine hK.out _ _ ?_
    clear hK K
    try simp only [Act.put, pZa, pZb, pZc]
    refine wpAnyL_done (by kernel_rfl) ?_ _
    refine NoPanic.normal ?_
    have hBw3 : Below w.heap.size w w2 := hB4.trans (hBw.mono hB4.size)
    have KT5 := KT.set 3 (.slice A26 L.length c26)
    have hne : a2.heap.size ≠ w.heap.size := by omega
    have KR5 := KR.other (g' := w.heap.size) hne 3 (.slice A26 L.length c26)
    have ho5 := own_setT (j := 3) (u := (.slice A26 L.length c26)) H26.out KT (by decide)
    obtain ⟨w5, hw5⟩ : ∃ w5, w2.setCell ⟨w.heap.size, 3, none⟩ (.slice A26 L.length c26) = w5 := ⟨_, rfl⟩
    rw [hw5] at KT5 KR5 ho5
    have hB5 : Below w.heap.size w w5 := by
      rw [← hw5]
      exact hBw3.setCell (p := ⟨w.heap.size, 3, none⟩) (Nat.le_refl _) _
    have hlen5 := HLEN.out
    have hL := HL.out
    have HG5 := mid_good HG.out hB5 ho5 (by rw [hlen5]; exact hl) (fun y hy => by
      rw [← hL] at hy
      rcases List.mem_append.1 hy with h | h
      · exact HG.out.gsets_.el y (List.mem_of_mem_take h)
      · rcases List.mem_cons.1 h with rfl | h
        · exact HS.out
        · exact HG.out.gsets_.el y (List.mem_of_mem_drop h))
    have HCP := Lib.hid (copy_any _ w5 HG5)
    have hpl : ({ (⟨xn, xq, xt, ⟨A, l, c⟩, xg, xs, xl⟩ : MTenant) with sets_ := ⟨A26, L, c26⟩ } : MTenant).plain = withP (⟨xn, xq, xt, ⟨A, l, c⟩, xg, xs, xl⟩ : MTenant).plain q.plain := by
      unfold withP
      show (⟨xn, xq, xt, L.map MSet.plain, xg.l, xs.l.map MStage.plain, xl.l.map MEntry.plain⟩ : PTenant) = ⟨xn, xq, xt, insS q.plain (l.map MSet.plain), xg.l, xs.l.map MStage.plain, xl.l.map MEntry.plain⟩
      rw [HINS.out, hL]
    have HPL := Lib.hid hpl
    have HGG := Lib.hid HG5
    have hs5 := hB5.size
    have hlr := KR5.lt
    have HWW := Lib.hid hw5
    simp only [List.set_cons_zero, List.set_cons_succ] at KT5
    clear hpl HG5 hw5 ho5 hL hlen5 HCC HR4 H26
    obtain ⟨p0, p1, p2, p3, p4, p5, p6⟩ := KT5.all7
    try rw [HWW.out]
    go_wp2_with fail
    refine HCP.out.mono ?_
    rintro e w6 ⟨y, rfl, ho6, hp6, hB6⟩
    have K6 := KR5.of hB6
    have hX6 := hB5.trans (hB6.mono hs5)
    obtain ⟨zr0, zr1, zr2, zr3, zr4, zr5, zr6⟩ := K6.all7
    obtain ⟨zrf0, zrf1, zrf2, zrf3, zrf4, zrf5, zrf6⟩ := K6.fz7
    go_wp2
    generalize hwE : World.setCell _ ⟨a2.heap.size, 6, none⟩ _ = wE
    obtain ⟨KE, SE, ZE, BE⟩ := store7 K6 hwE
    obtain ⟨ze0, ze1, ze2, ze3, ze4, ze5, ze6⟩ := KE.all7
    refine bodyPost_ret (v := .agg #[.string y.name_, .int .i64 y.quota_, .int .i64 y.next_, .slice y.sets_.A y.sets_.l.length y.sets_.c, .slice y.grants_.A y.grants_.l.length y.grants_.c, .slice y.stages_.A y.stages_.l.length y.stages_.c, .slice y.log_.A y.log_.l.length y.log_.c]) (by simp [results, Tryz.results23, go_sem, ze0, ze1, ze2, ze3, ze4, ze5, ze6]) rfl ?_
    exact ⟨y, rfl, (ho6.store hlr SE).base hs5, MTenant.Good.of_own HGG.out hp6 (ho6.store hlr SE), hp6.trans HPL.out, BE _ _ hX6 (by omega)⟩
  · skip
    rw [hF] at HI'
    clear hF
    go_enter Tryz.func23, Tryz.ntmps23
    go_upto_region 1 with fail
    rw [HW1.out, HW2.out, HW3.out]
    try rw [hX2]
    try rw [hX3]
    go_wp2_with fail
    refine HI'.out.mono ?_
    rintro e w3 ⟨rfl, hV⟩
    have K1 := k1.of hV
    have K2 := k2.of hV
    have K3 := k3.of hV
    have hB4 := hB3.trans (hV.mono hs3)
    have HR4 := Lib.hid (HR.out.below hV)
    clear HI'
    obtain ⟨t0, t1, t2, t3, t4, t5, t6⟩ := K1.all7
    obtain ⟨u0, u1, u2, u3, u4⟩ := K2.all5
    go_upto_region 4 with fail
    have hlo := fun W => run_lo A l.length c l.length (by omega) W
    have hhi := fun W => run_hi A l.length c l.length (by omega) W
    have hlt0 := K1.lt
    have hlt1 := K2.lt
    have tf3 := K1.frozen 3
    have hb3 : w.heap.size < a3.heap.size := by omega
    have hjt : (l.take l.length).length = l.length := by rw [List.length_take]; omega
    have hjd : (l.drop l.length).length = 0 := by simp
    have HCC := Lib.hid (fun (W : World) (hW : Below w3.heap.size w3 W) (g g2 : Nat) (hg : Blk W g 22 [.slice (cutA A c 0) l.length c, .slice (some ⟨g2, 0, none⟩) 1 1, .slice (cutA A c l.length) 0 (c - l.length)]) (hg2 : Blk W g2 49 q.cells) =>
      concat_any (some ⟨g, 0, none⟩) 3 [⟨cutA A c 0, l.take l.length, c⟩, ⟨some ⟨g2, 0, none⟩, [q], 1⟩, ⟨cutA A c l.length, l.drop l.length, c - l.length⟩] W
        (by
          simp only [Sl.val, List.map_cons, List.map_nil, hjt, hjd, List.length_singleton]
          intro _
          exact ⟨g, 0, rfl, hg.lt, fun k u hk => by rw [Nat.zero_add, hg.cell k]; exact hk⟩)
        (by
          intro y hy
          simp only [List.mem_cons, List.not_mem_nil, or_false] at hy
          rcases hy with rfl | rfl | rfl
          · exact ⟨cutS_take (HR4.out.below hW) l.length, fun e => by have := cutS_none (j := 0) hnil e; simpa using this⟩
          · refine ⟨fun _ => ⟨g2, 0, rfl, hg2.lt, fun k u hk => ?_⟩, fun e => by cases e⟩
            rw [Nat.zero_add, hg2.cell k]
            simpa using hk
          · exact ⟨cutS_drop (HR4.out.below hW) hcap l.length, cutS_none hnil⟩)
        (by simp) (by unfold lenS; simp only [List.map_cons, List.map_nil, hjt, hjd, List.length_singleton, List.sum_cons, List.sum_nil]; omega))
    obtain ⟨L, hL⟩ : ∃ L, l.take l.length ++ q :: l.drop l.length = L := ⟨_, rfl⟩
    have hlen5 : L.length = l.length + 1 := by rw [← hL, List.length_append, List.length_cons, hjt, hjd] <;> omega
    have hfl : ∀ g2 : Nat, [(⟨cutA A c 0, l.take l.length, c⟩ : Sl MSet), ⟨some ⟨g2, 0, none⟩, [q], 1⟩, ⟨cutA A c l.length, l.drop l.length, c - l.length⟩].flatMap Sl.l = L := fun g2 => by
      rw [← hL]
      simp
    have HFL := Lib.hid hfl
    have HL := Lib.hid hL
    have HLEN := Lib.hid hlen5
    clear hL hfl hlen5
    refine wp_region_noPanic ?_
    refine wp_region_last 13 (fun W => W.cell? ⟨w.heap.size, 3, none⟩ = some (.slice A l.length c) ∧ W.frozen? ⟨w.heap.size, 3, none⟩ = false ∧ W.cell? ⟨a1.heap.size, 0, none⟩ = some (.string q.path_) ∧ W.cell? ⟨a1.heap.size, 1, none⟩ = some (.string q.origin_) ∧ W.cell? ⟨a1.heap.size, 2, none⟩ = some (.slice q.body_.A q.body_.l.length q.body_.c) ∧ W.cell? ⟨a1.heap.size, 3, none⟩ = some (.slice q.snaps_.A q.snaps_.l.length q.snaps_.c) ∧ W.cell? ⟨a1.heap.size, 4, none⟩ = some (.slice q.own_.A q.own_.l.length q.own_.c)) (by kernel_rfl) ⟨t3, tf3, u0, u1, u2, u3, u4⟩ (fun hHeld => ?_)
    refine tkA 16 (i := 0) (oi := ⟨some 15, _, _, _, _, _⟩) rfl hHeld ?_
    try simp only [Act.put, pZa, pZb, pZc]
    refine tkA 16 (i := 1) (oi := ⟨some 16, _, _, _, _, _⟩) rfl hHeld ?_
    try simp only [Act.put, pZa, pZb, pZc]
    refine tkA 16 (i := 2) (oi := ⟨some 17, _, _, _, _, _⟩) rfl hHeld ?_
    try simp only [Act.put, pZa, pZb, pZc]
    refine tkA 16 (i := 4) (oi := ⟨some 19, _, _, _, _, _⟩) rfl hHeld ?_
    try simp only [Act.put, pZa, pZb, pZc]
    refine tkA 16 (i := 6) (oi := ⟨some 21, _, _, _, _, _⟩) rfl hHeld ?_
    try simp only [Act.put, pZa, pZb, pZc]
    refine tkA 16 (i := 7) (oi := ⟨some 22, _, _, _, _, _⟩) rfl hHeld ?_
    try simp only [Act.put, pZa, pZb, pZc]
    refine tkA 16 (i := 8) (oi := ⟨some 23, _, _, _, _, _⟩) rfl hHeld ?_
    try simp only [Act.put, pZa, pZb, pZc]
    clear hHeld
    refine wpAnyL_facts 16 5 2 [(3, 18), (5, 20), (9, 24), (10, 25), (11, 26)] (fun s v w => match s with
      | 18 => v = .slice (cutA A c 0) l.length c
      | 20 => ∃ g, v = .slice (some ⟨g, 0, none⟩) 1 1 ∧ Blk w g 49 q.cells
      | 24 => v = .slice (cutA A c l.length) 0 (c - l.length)
      | 25 => ∃ g g2, v = .slice (some ⟨g, 0, none⟩) 3 3 ∧ Blk w g 22 [.slice (cutA A c 0) l.length c, .slice (some ⟨g2, 0, none⟩) 1 1, .slice (cutA A c l.length) 0 (c - l.length)] ∧ Blk w g2 49 q.cells
      | 26 => w.ownsRow w3.heap.size 49 5 v L.length (L.flatMap MSet.cells)
      | _ => True) (fun w w' => Below w.heap.size w w') (by kernel_rfl) (by kernel_rfl) bZh ⟨?_, ?_, ?_, ?_, ?_, trivial⟩ (fun w' hB => ⟨(hB.cell (p := ⟨w.heap.size, 3, none⟩) hlt0).trans t3, (K1.drew.below hB hlt0).frozen 3, (hB.cell (p := ⟨a1.heap.size, 0, none⟩) hlt1).trans u0, (hB.cell (p := ⟨a1.heap.size, 1, none⟩) hlt1).trans u1, (hB.cell (p := ⟨a1.heap.size, 2, none⟩) hlt1).trans u2, (hB.cell (p := ⟨a1.heap.size, 3, none⟩) hlt1).trans u3, (hB.cell (p := ⟨a1.heap.size, 4, none⟩) hlt1).trans u4⟩) ⟨?_, ?_, ?_, ?_, ?_, trivial⟩ ?_
    focus
      intro v w w' h hB
      exact h
    focus
      intro v w w' h hB
      exact (by obtain ⟨g, e, hb⟩ := h; exact ⟨g, e, hb.below hB hb.lt⟩)
    focus
      intro v w w' h hB
      exact h
    focus
      intro v w w' h hB
      exact (by obtain ⟨g, g2, e, hb, hb2⟩ := h; exact ⟨g, g2, e, hb.below hB hb.lt, hb2.below hB hb2.lt⟩)
    focus
      intro v w w' h hB
      exact (ownBelow h hB (Nat.le_refl _))
    focus
      intro vs w2 hBf hFf o ho K hK
      obtain rfl : (⟨some 18, _, _, _, _, _⟩ : Oper) = o := Option.some.inj ho
      clear ho
      (try simp only [fillL, pZd, pZe, Act.put, pZa, pZb, pZc] at hK ⊢)
      go_simp
      refine hK.out _ _ ⟨rfl, Below.refl _ _⟩
    focus
      intro vs w2 hBf hFf o ho K hK
      obtain rfl : (⟨some 20, _, _, _, _, _⟩ : Oper) = o := Option.some.inj ho
      clear ho
      (try simp only [fillL, pZd, pZe, Act.put, pZa, pZb, pZc] at hK ⊢)
      go_simp
      refine hK.out _ _ ⟨⟨w2.heap.size, rfl, Blk.new w2 _ _⟩, (Below.refl _ w2).alloc (Nat.le_refl _) _⟩
    focus
      intro vs w2 hBf hFf o ho K hK
      obtain rfl : (⟨some 24, _, _, _, _, _⟩ : Oper) = o := Option.some.inj ho
      clear ho
      (try simp only [fillL, pZd, pZe, Act.put, pZa, pZb, pZc] at hK ⊢)
      go_simp
      refine hK.out _ _ ⟨rfl, Below.refl _ _⟩
    focus
      intro vs w2 hBf hFf o ho K hK
      obtain rfl : (⟨some 25, _, _, _, _, _⟩ : Oper) = o := Option.some.inj ho
      clear ho
      (try simp only [fillL, pZd, pZe, Act.put, pZa, pZb, pZc] at hK ⊢)
      obtain ⟨g20, e20, hb20⟩ := (hFf (5, 20) (by simp) (by kernel_rfl))
      have e18 := (hFf (3, 18) (by simp) (by kernel_rfl))
      have e24 := (hFf (9, 24) (by simp) (by kernel_rfl))
      simp only [] at e18 e24
      simp only [e18, e20, e24] at hK ⊢
      go_simp
      refine hK.out _ _ ⟨⟨w2.heap.size, g20, rfl, Blk.new w2 _ _, hb20.below ((Below.refl _ w2).alloc (Nat.le_refl _) _) hb20.lt⟩, (Below.refl _ w2).alloc (Nat.le_refl _) _⟩
    focus
      intro vs w2 hBf hFf o ho K hK
      obtain rfl : (⟨some 26, _, _, _, _, _⟩ : Oper) = o := Option.some.inj ho
      clear ho
      (try simp only [fillL, pZd, pZe, Act.put, pZa, pZb, pZc] at hK ⊢)
      obtain ⟨g25, g20, e25, hb25, hb20⟩ := (hFf (10, 25) (by simp) (by kernel_rfl))
      simp only [e25] at hK ⊢
      go_simp
      refine (HCC.out _ ((Below.refl w3.heap.size w3).drew.trans hBf) g25 g20 hb25 hb20).mono ?_
      rintro e w4 ⟨v4, rfl, ho4, hB4⟩
      rw [HFL.out g20] at ho4
      exact hK.out _ _ ⟨ownBase ho4 ((Below.refl w3.heap.size w3).drew.trans hBf).size, hB4⟩
    intro vs w2 hBf hFf
    (try simp only [fillL, pZd, pZe, Act.put, pZa, pZb, pZc])
    have h26 := (hFf (11, 26) (by simp))
    simp only [] at h26
    obtain ⟨A26, c26, e26, _, _, _, _⟩ := ownAny h26
    rw [e26] at h26
    simp only [e26]
    have hBw : Below w3.heap.size w3 w2 := (Below.refl w3.heap.size w3).drew.trans hBf
    have H26 := Lib.hid h26
    have KT := K1.of hBw
    have KR := K3.of hBw
    clear h26
    have hHeld : (fun W => W.cell? ⟨w.heap.size, 3, none⟩ = some (.slice A l.length c) ∧ W.frozen? ⟨w.heap.size, 3, none⟩ = false ∧ W.cell? ⟨a1.heap.size, 0, none⟩ = some (.string q.path_) ∧ W.cell? ⟨a1.heap.size, 1, none⟩ = some (.string q.origin_) ∧ W.cell? ⟨a1.heap.size, 2, none⟩ = some (.slice q.body_.A q.body_.l.length q.body_.c) ∧ W.cell? ⟨a1.heap.size, 3, none⟩ = some (.slice q.snaps_.A q.snaps_.l.length q.snaps_.c) ∧ W.cell? ⟨a1.heap.size, 4, none⟩ = some (.slice q.own_.A q.own_.l.length q.own_.c)) w2 := ⟨(hBf.cell (p := ⟨w.heap.size, 3, none⟩) hlt0).trans t3, (K1.drew.below hBf hlt0).frozen 3, (hBf.cell (p := ⟨a1.heap.size, 0, none⟩) hlt1).trans u0, (hBf.cell (p := ⟨a1.heap.size, 1, none⟩) hlt1).trans u1, (hBf.cell (p := ⟨a1.heap.size, 2, none⟩) hlt1).trans u2, (hBf.cell (p := ⟨a1.heap.size, 3, none⟩) hlt1).trans u3, (hBf.cell (p := ⟨a1.heap.size, 4, none⟩) hlt1).trans u4⟩
    refine tkA 16 (i := 12) (oi := ⟨some 27, _, _, _, _, _⟩) rfl hHeld ?_
    try simp only [Act.put, pZa, pZb, pZc]
    refine wpAnyL_last (i := 13) (o := ⟨none, _, _, _, _, _⟩) (by kernel_rfl) rfl (by kernel_rfl) (fun K hK => ?_)
    go_simp
    go_wp2_with fail
    refine hK.out _ _ ?_
    clear hK K
    try simp only [Act.put, pZa, pZb, pZc]
    refine wpAnyL_done (by kernel_rfl) ?_ _
    refine NoPanic.normal ?_
    have hBw3 : Below w.heap.size w w2 := hB4.trans (hBw.mono hB4.size)
    have KT5 := KT.set 3 (.slice A26 L.length c26)
    have hne : a2.heap.size ≠ w.heap.size := by omega
    have KR5 := KR.other (g' := w.heap.size) hne 3 (.slice A26 L.length c26)
    have ho5 := own_setT (j := 3) (u := (.slice A26 L.length c26)) H26.out KT (by decide)
    obtain ⟨w5, hw5⟩ : ∃ w5, w2.setCell ⟨w.heap.size, 3, none⟩ (.slice A26 L.length c26) = w5 := ⟨_, rfl⟩
    rw [hw5] at KT5 KR5 ho5
    have hB5 : Below w.heap.size w w5 := by
      rw [← hw5]
      exact hBw3.setCell (p := ⟨w.heap.size, 3, none⟩) (Nat.le_refl _) _
    have hlen5 := HLEN.out
    have hL := HL.out
    have HG5 := mid_good HG.out hB5 ho5 (by rw [hlen5]; exact hl) (fun y hy => by
      rw [← hL] at hy
      rcases List.mem_append.1 hy with h | h
      · exact HG.out.gsets_.el y (List.mem_of_mem_take h)
      · rcases List.mem_cons.1 h with rfl | h
        · exact HS.out
        · exact HG.out.gsets_.el y (List.mem_of_mem_drop h))
    have HCP := Lib.hid (copy_any _ w5 HG5)
    have hpl : ({ (⟨xn, xq, xt, ⟨A, l, c⟩, xg, xs, xl⟩ : MTenant) with sets_ := ⟨A26, L, c26⟩ } : MTenant).plain = withP (⟨xn, xq, xt, ⟨A, l, c⟩, xg, xs, xl⟩ : MTenant).plain q.plain := by
      unfold withP
      show (⟨xn, xq, xt, L.map MSet.plain, xg.l, xs.l.map MStage.plain, xl.l.map MEntry.plain⟩ : PTenant) = ⟨xn, xq, xt, insS q.plain (l.map MSet.plain), xg.l, xs.l.map MStage.plain, xl.l.map MEntry.plain⟩
      rw [HINS.out, hL]
    have HPL := Lib.hid hpl
    have HGG := Lib.hid HG5
    have hs5 := hB5.size
    have hlr := KR5.lt
    have HWW := Lib.hid hw5
    simp only [List.set_cons_zero, List.set_cons_succ] at KT5
    clear hpl HG5 hw5 ho5 hL hlen5 HCC HR4 H26
    obtain ⟨p0, p1, p2, p3, p4, p5, p6⟩ := KT5.all7
    try rw [HWW.out]
    go_wp2_with fail
    refine HCP.out.mono ?_
    rintro e w6 ⟨y, rfl, ho6, hp6, hB6⟩
    have K6 := KR5.of hB6
    have hX6 := hB5.trans (hB6.mono hs5)
    obtain ⟨zr0, zr1, zr2, zr3, zr4, zr5, zr6⟩ := K6.all7
    obtain ⟨zrf0, zrf1, zrf2, zrf3, zrf4, zrf5, zrf6⟩ := K6.fz7
    go_wp2
    generalize hwE : World.setCell _ ⟨a2.heap.size, 6, none⟩ _ = wE
    obtain ⟨KE, SE, ZE, BE⟩ := store7 K6 hwE
    obtain ⟨ze0, ze1, ze2, ze3, ze4, ze5, ze6⟩ := KE.all7
    refine bodyPost_ret (v := .agg #[.string y.name_, .int .i64 y.quota_, .int .i64 y.next_, .slice y.sets_.A y.sets_.l.length y.sets_.c, .slice y.grants_.A y.grants_.l.length y.grants_.c, .slice y.stages_.A y.stages_.l.length y.stages_.c, .slice y.log_.A y.log_.l.length y.log_.c]) (by simp [results, Tryz.results23, go_sem, ze0, ze1, ze2, ze3, ze4, ze5, ze6]) rfl ?_
    exact ⟨y, rfl, (ho6.store hlr SE).base hs5, MTenant.Good.of_own HGG.out hp6 (ho6.store hlr SE), hp6.trans HPL.out, BE _ _ hX6 (by omega)⟩
theorem insS_snoc {s y : PSet} : ∀ {l : List PSet}, (∃ x ∈ l, ltTx x.path_ s.path_ = false) → insS s (l ++ [y]) = insS s l ++ [y]
  | [], h => by obtain ⟨x, hx, _⟩ := h; cases hx
  | a :: l, h => by
    unfold insS
    rcases ha : ltTx a.path_ s.path_ with _ | _
    · simp [List.takeWhile_cons, List.dropWhile_cons, ha]
    · have h2 : ∃ x ∈ l, ltTx x.path_ s.path_ = false := by
        obtain ⟨x, hx, hf⟩ := h
        rcases List.mem_cons.1 hx with rfl | hx
        · rw [ha] at hf
          cases hf
        · exact ⟨x, hx, hf⟩
      have ih := insS_snoc (s := s) (y := y) h2
      unfold insS at ih
      rw [List.cons_append, List.takeWhile_cons, List.dropWhile_cons, List.takeWhile_cons, List.dropWhile_cons, if_pos ha, if_pos ha, if_pos ha, if_pos ha, List.cons_append, ih]
      rfl
theorem insS_all {s : PSet} {l : List PSet} (h : ∀ x ∈ l, ltTx x.path_ s.path_ = true) : insS s l = l ++ [s] := by
  rw [insS_at (j := l.length) (fun x hx => h x (List.mem_of_mem_take hx)) (fun x hx => by
    have := (List.getElem?_eq_some_iff.1 hx).1
    omega) (Nat.le_refl _), List.take_length, List.drop_length]
theorem insS_here {s y : PSet} {l : List PSet} (h : ∀ x ∈ l, ltTx x.path_ s.path_ = true) (hy : ltTx y.path_ s.path_ = false) : insS s (l ++ [y]) = l ++ [s] ++ [y] := by
  rw [insS_at (j := l.length) (fun x hx => h x (by simpa using hx)) (fun x hx => by
    simp at hx
    rw [← hx]
    exact hy) (by simp)]
  simp
def putB (q : MSet) (l : List MSet) : Bool := l.any fun y => !(ltTx y.path_ q.path_)
def putL (q : MSet) (l : List MSet) : List PSet := if putB q l = true then insS q.plain (l.map MSet.plain) else l.map MSet.plain
theorem putB_no {q : MSet} {l : List MSet} (h : putB q l = false) : ∀ x ∈ l.map MSet.plain, ltTx x.path_ q.plain.path_ = true := by
  intro x hx
  obtain ⟨y, hy, rfl⟩ := List.mem_map.1 hx
  unfold putB at h
  rw [List.any_eq_false] at h
  have := h y hy
  show ltTx y.path_ q.path_ = true
  simpa using this
theorem putL_yes {q y : MSet} {l : List MSet} (h : putB q l = true) : putB q (l ++ [y]) = true ∧ putL q (l ++ [y]) = putL q l ++ [y.plain] := by
  have h1 : putB q (l ++ [y]) = true := by unfold putB at h ⊢; rw [List.any_append, h, Bool.true_or]
  refine ⟨h1, ?_⟩
  unfold putL
  rw [if_pos h1, if_pos h, List.map_append]
  refine insS_snoc ?_
  unfold putB at h
  obtain ⟨x, hx, hf⟩ := List.any_eq_true.1 h
  exact ⟨x.plain, List.mem_map.2 ⟨x, hx, rfl⟩, by show ltTx x.path_ q.path_ = false; simpa using hf⟩
theorem putL_on {q y : MSet} {l : List MSet} (h : putB q l = false) (hy : ltTx y.path_ q.path_ = true) : putB q (l ++ [y]) = false ∧ putL q (l ++ [y]) = putL q l ++ [y.plain] := by
  have h1 : putB q (l ++ [y]) = false := by unfold putB at h ⊢; rw [List.any_append, h]; simp [hy]
  refine ⟨h1, ?_⟩
  unfold putL
  rw [if_neg (by rw [h1]; decide), if_neg (by rw [h]; decide), List.map_append]
  rfl
theorem putL_here {q y : MSet} {l : List MSet} (h : putB q l = false) (hy : ltTx y.path_ q.path_ = false) : putB q (l ++ [y]) = true ∧ putL q (l ++ [y]) = putL q l ++ [q.plain] ++ [y.plain] := by
  have h1 : putB q (l ++ [y]) = true := by unfold putB at h ⊢; rw [List.any_append, h]; simp [hy]
  refine ⟨h1, ?_⟩
  unfold putL
  rw [if_pos h1, if_neg (by rw [h]; decide), List.map_append]
  exact insS_here (putB_no h) hy
theorem putL_end {q : MSet} {l : List MSet} : insS q.plain (l.map MSet.plain) = if putB q l = true then putL q l else putL q l ++ [q.plain] := by
  unfold putL
  rcases h : putB q l with _ | _
  · rw [if_neg (by decide), if_neg (by decide)]
    exact insS_all (putB_no h)
  · rw [if_pos rfl, if_pos rfl]
theorem Oth.more {C : Nat} {Z W W' : World} (h : Oth C Z W) (hB : Below Z.heap.size W W') : Oth C Z W' := ⟨hB.os.trans h.os, hB.tape.trans h.tape, hB.output.trans h.output, Nat.le_trans h.size hB.size, fun k hk hc => (hB.block k hk).trans (h.block k hk hc)⟩
theorem Oth.keeps {C : Nat} {Z W : World} (h : Oth C Z W) {cs : List Value} (hb : Blk Z C 27 cs) : Keeps 27 Z W := fun b cur e' hbb hne => h.block b (Array.getElem?_eq_some_iff.1 hbb).1 (by
  rintro rfl
  unfold Blk at hb
  rw [hbb] at hb
  injection hb with hb
  injection hb with _ h6 _
  exact hne h6)
theorem keeps_store {W W' : World} {R : Nat} {cs : List Value} (hb : Blk W R 27 cs) (hs : ∀ b, b ≠ R → W'.heap[b]? = W.heap[b]?) : Keeps 27 W W' := fun b cur e' hbb hne => hs b (by
  rintro rfl
  unfold Blk at hb
  rw [hbb] at hb
  injection hb with hb
  injection hb with _ h6 _
  exact hne h6)
set_option maxHeartbeats 4000000 in
theorem refWith_at (x : MTenant) (q : MSet) (n0 : Nat) (w : World) (hn0 : n0 ≤ w.heap.size) (hx : x.Good w) (hq : q.Good w) (hqo : OwnSe n0 w q) (hl : (x.sets_.l.length + 1) * 104 ≤ 140737488351232) :
    Calls Tryz.prog 22 #[.agg x.cells.toArray, .agg q.cells.toArray] w fun e w' => ∃ y : MTenant, e = .returned (.agg y.cells.toArray) ∧ OwnTe n0 w' y ∧ y.Good w' ∧ y.plain = withP x.plain q.plain ∧ Below w.heap.size w w' := by
  obtain ⟨i0, hi, hz0, hz1, hz2⟩ := infoParts infoSe7
  obtain ⟨a1, hw1⟩ : ∃ a1, w.alloc (.cells #[.string x.name_, .int .i64 x.quota_, .int .i64 x.next_, .slice x.sets_.A x.sets_.l.length x.sets_.c, .slice x.grants_.A x.grants_.l.length x.grants_.c, .slice x.stages_.A x.stages_.l.length x.stages_.c, .slice x.log_.A x.log_.l.length x.log_.c] 27) = a1 := ⟨_, rfl⟩
  have b1 : Below w.heap.size w a1 := hw1 ▸ (Below.refl _ w).alloc (Nat.le_refl _) _
  have k1 : Blk a1 w.heap.size 27 [.string x.name_, .int .i64 x.quota_, .int .i64 x.next_, .slice x.sets_.A x.sets_.l.length x.sets_.c, .slice x.grants_.A x.grants_.l.length x.grants_.c, .slice x.stages_.A x.stages_.l.length x.stages_.c, .slice x.log_.A x.log_.l.length x.log_.c] := hw1 ▸ Blk.new w _ _
  obtain ⟨a2, hw2⟩ : ∃ a2, a1.alloc (.cells #[.string q.path_, .string q.origin_, .slice q.body_.A q.body_.l.length q.body_.c, .slice q.snaps_.A q.snaps_.l.length q.snaps_.c, .slice q.own_.A q.own_.l.length q.own_.c] 49) = a2 := ⟨_, rfl⟩
  have b2 : Below a1.heap.size a1 a2 := hw2 ▸ (Below.refl _ a1).alloc (Nat.le_refl _) _
  have k2 : Blk a2 a1.heap.size 49 [.string q.path_, .string q.origin_, .slice q.body_.A q.body_.l.length q.body_.c, .slice q.snaps_.A q.snaps_.l.length q.snaps_.c, .slice q.own_.A q.own_.l.length q.own_.c] := hw2 ▸ Blk.new a1 _ _
  have hX2 : w.heap.size + 1 = a1.heap.size := by rw [← hw1, World.size_alloc]
  obtain ⟨a3, hw3⟩ : ∃ a3, a2.alloc (.cells #[.string ⟨#[]⟩, .int .i64 0, .int .i64 0, .slice none 0 0, .slice none 0 0, .slice none 0 0, .slice none 0 0] 27) = a3 := ⟨_, rfl⟩
  have b3 : Below a2.heap.size a2 a3 := hw3 ▸ (Below.refl _ a2).alloc (Nat.le_refl _) _
  have k3 : Blk a3 a2.heap.size 27 [.string ⟨#[]⟩, .int .i64 0, .int .i64 0, .slice none 0 0, .slice none 0 0, .slice none 0 0, .slice none 0 0] := hw3 ▸ Blk.new a2 _ _
  have hX3 : a1.heap.size + 1 = a2.heap.size := by rw [← hw2, World.size_alloc]
  have hB1 : Below w.heap.size w a1 := b1
  have hB2 : Below w.heap.size w a2 := hB1.trans (b2.mono hB1.size)
  have hB3 : Below w.heap.size w a3 := hB2.trans (b3.mono hB2.size)
  have k1 := k1.of b2
  have k1 := k1.of b3
  have k2 := k2.of b3
  have hs3 := hB3.size
  have hs1 := hB1.size
  have ht1 : a1.heap.size ≤ a2.heap.size := b2.size
  have hs2 := hB2.size
  have ht2 : a2.heap.size ≤ a3.heap.size := b3.size
  have HW1 := Lib.hid hw1
  have HW2 := Lib.hid hw2
  have HW3 := Lib.hid hw3
  clear hw1 b1 hw2 b2 hw3 b3
  obtain ⟨qq0, qq1, qq2, qq3, qq4, qq5, qq6⟩ := k1.all7
  obtain ⟨r0, r1, r2, r3, r4⟩ := k2.all5
  have hgx := hx.below hB3
  have HC1 := Lib.hid (refOwnT_any x a3 hgx)
  have HGX := Lib.hid hgx
  have HQ0 := Lib.hid hq
  have HQO := Lib.hid hqo
  clear hx hgx hq hqo
  go_enter Tryz.func22, Tryz.ntmps22
  go_upto_region 1 with fail
  rw [HW1.out, HW2.out, HW3.out]
  try rw [hX2]
  try rw [hX3]
  go_wp2_with fail
  refine HC1.out.mono ?_
  rintro e w3 ⟨y1, rfl, ho1, hp1, hV⟩
  have K1 := k1.of hV
  have K2 := k2.of hV
  have K3 := k3.of hV
  have hlk3 := k3.lt
  have hs33 := hV.size
  have hB33 := hB3.trans (hV.mono hs3)
  obtain ⟨w4, hw4⟩ : ∃ w4, w3.alloc (.cells #[.string y1.name_, .int .i64 y1.quota_, .int .i64 y1.next_, .slice y1.sets_.A y1.sets_.l.length y1.sets_.c, .slice y1.grants_.A y1.grants_.l.length y1.grants_.c, .slice y1.stages_.A y1.stages_.l.length y1.stages_.c, .slice y1.log_.A y1.log_.l.length y1.log_.c] 27) = w4 := ⟨_, rfl⟩
  have hV4 : Below w3.heap.size w3 w4 := hw4 ▸ (Below.refl _ w3).alloc (Nat.le_refl _) _
  have kR4 : Blk w4 w3.heap.size 27 [.string y1.name_, .int .i64 y1.quota_, .int .i64 y1.next_, .slice y1.sets_.A y1.sets_.l.length y1.sets_.c, .slice y1.grants_.A y1.grants_.l.length y1.grants_.c, .slice y1.stages_.A y1.stages_.l.length y1.stages_.c, .slice y1.log_.A y1.log_.l.length y1.log_.c] := hw4 ▸ Blk.new w3 _ _
  have K1 := K1.of hV4
  have K2 := K2.of hV4
  have K3 := K3.of hV4
  have hs34 := hV4.size
  have ho4 := ho1.below hV4
  have hR4 := kR4.lt
  obtain ⟨w5, hw5⟩ : ∃ w5, w4.setCell ⟨w3.heap.size, 3, none⟩ (.slice none 0 0) = w5 := ⟨_, rfl⟩
  have kR5 := kR4.set 3 (.slice none 0 0)
  have hne1 : w.heap.size ≠ w3.heap.size := by omega
  have hne2 : a1.heap.size ≠ w3.heap.size := by omega
  have hne3 : a2.heap.size ≠ w3.heap.size := by omega
  have K1 := K1.other (g' := w3.heap.size) hne1 3 (.slice none 0 0)
  have K2 := K2.other (g' := w3.heap.size) hne2 3 (.slice none 0 0)
  have K3 := K3.other (g' := w3.heap.size) hne3 3 (.slice none 0 0)
  have ho5 := ho4.setBox kR4 3 (.slice none 0 0)
  have hV5 : Below w3.heap.size w3 w5 := by
    rw [← hw5]
    exact hV4.setCell (p := ⟨w3.heap.size, 3, none⟩) (Nat.le_refl _) _
  rw [hw5] at kR5 K1 K2 K3 ho5
  simp only [List.set_cons_zero, List.set_cons_succ] at kR5
  have hs45 : w4.heap.size = w5.heap.size := by rw [← hw5]; simp
  have hB5 := hB33.trans (hV5.mono hB33.size)
  have hG5 : x.Good w5 := HGX.out.below (hV.trans (hV5.mono hs33))
  have HC2 := Lib.hid (refOwnT_any x w5 hG5)
  obtain ⟨t0, t1, t2, t3, t4, t5, t6⟩ := K1.all7
  obtain ⟨c0, c1, c2, c3, c4, c5, c6⟩ := kR4.all7
  obtain ⟨cf0, cf1, cf2, cf3, cf4, cf5, cf6⟩ := kR4.fz7
  have HW4 := Lib.hid hw4
  have HW5 := Lib.hid hw5
  clear hw4 hw5 HC1 ho4
  go_upto_region 2 with fail
  rw [HW4.out]
  go_upto_region 4 with fail
  rw [HW5.out]
  go_wp2_with fail
  refine HC2.out.mono ?_
  rintro e w6 ⟨y2, rfl, ho2, hp2, hV6⟩
  have hs56 := hV6.size
  obtain ⟨Z, hZ⟩ : ∃ Z, w6.alloc (.cells #[.string y2.name_, .int .i64 y2.quota_, .int .i64 y2.next_, .slice y2.sets_.A y2.sets_.l.length y2.sets_.c, .slice y2.grants_.A y2.grants_.l.length y2.grants_.c, .slice y2.stages_.A y2.stages_.l.length y2.stages_.c, .slice y2.log_.A y2.log_.l.length y2.log_.c] 27) = Z := ⟨_, rfl⟩
  have hV7 : Below w6.heap.size w6 Z := hZ ▸ (Below.refl _ w6).alloc (Nat.le_refl _) _
  have k7 : Blk Z w6.heap.size 27 [.string y2.name_, .int .i64 y2.quota_, .int .i64 y2.next_, .slice y2.sets_.A y2.sets_.l.length y2.sets_.c, .slice y2.grants_.A y2.grants_.l.length y2.grants_.c, .slice y2.stages_.A y2.stages_.l.length y2.stages_.c, .slice y2.log_.A y2.log_.l.length y2.log_.c] := hZ ▸ Blk.new w6 _ _
  have hs67 := hV7.size
  have hV57 := hV6.trans (hV7.mono hs56)
  have kR := kR5.of hV57
  have K2 := K2.of hV57
  have K3 := K3.of hV57
  have ho1 := ho5.below hV57
  have ho2 := ho2.below hV7
  have hBZ := hB5.trans (hV57.mono hB5.size)
  have hG1 : y1.Good Z := MTenant.Good.of_own HGX.out hp1 ho1
  have hG2 : y2.Good Z := MTenant.Good.of_own HGX.out hp2 ho2
  have hlen2 : y2.sets_.l.length = x.sets_.l.length := by
    have := congrArg (fun t => t.sets_.length) hp2
    simpa [MTenant.plain] using this
  rw [← hlen2] at hl
  clear hlen2
  have hrR := kR.lt
  have hr7 := k7.lt
  have hr3 := K3.lt
  have hr2 := K2.lt
  have hn7 : w6.heap.size ≠ w3.heap.size := by omega
  have hn2 : a1.heap.size ≠ w3.heap.size := by omega
  have hn3 : a2.heap.size ≠ w3.heap.size := by omega
  have HRD : Hid (∀ W, Oth w3.heap.size Z W → Rd W y2.sets_.A (y2.sets_.l.flatMap MSet.cells)) := Lib.hid fun W hW => by
    have h1 := hW.own ho2.sets fun b hb e => own_not ho2.sets kR (by decide) (by rw [hb, e])
    obtain ⟨A, c, hv, _, _, hrd, _⟩ := ownAny h1
    injection hv with v1 v2 v3
    rw [v1]
    exact hrd.1
  have HK7 := Lib.hid k7
  have HK2 := Lib.hid K2
  have HK3 := Lib.hid K3
  have HKR := Lib.hid kR
  have HO1 := Lib.hid ho1
  have HO2 := Lib.hid ho2
  have HG2 := Lib.hid hG2
  have HG1 := Lib.hid hG1
  have HP1 := Lib.hid hp1
  have HP2 := Lib.hid hp2
  have HBZ := Lib.hid hBZ
  have hsZ := hBZ.size
  have HZ := Lib.hid hZ
  clear hZ kR K2 K3 ho1 ho2 hG1 hG2 hp1 hp2 k7 HC2 ho5 kR4 kR5 K1 hG5 k1 k2 k3 hi hz0 hz1 hz2 hV hV4 hV5 hV6 hV7 hV57 hB1 hB2 hB3 hB33 hB5 HGX
  clear t0 t1 t2 t3 t4 t5 t6 c0 c1 c2 c3 c4 c5 c6 cf0 cf1 cf2 cf3 cf4 cf5 cf6 qq0 qq1 qq2 qq3 qq4 qq5 qq6 r0 r1 r2 r3 r4
  go_upto_region 6 with fail
  try rw [HZ.out]
  go_loopw [6, 8] (fun f i W => ∃ (k : Nat) (b : Bool) (Av : Option Addr) (cv : Nat) (o : List MSet), k ≤ y2.sets_.l.length ∧ i = .int .i64 k ∧ f = .bool b ∧ o.length = k + b.toNat ∧ Hid (o.map MSet.plain = putL q (y2.sets_.l.take k)) ∧ Hid (b = putB q (y2.sets_.l.take k)) ∧ Hid (∀ y ∈ o, y = q ∨ y ∈ y2.sets_.l) ∧ Hid (Blk W w3.heap.size 27 [.string y1.name_, .int .i64 y1.quota_, .int .i64 y1.next_, .slice Av o.length cv, .slice y1.grants_.A y1.grants_.l.length y1.grants_.c, .slice y1.stages_.A y1.stages_.l.length y1.stages_.c, .slice y1.log_.A y1.log_.l.length y1.log_.c]) ∧ Hid (W.ownsRow Z.heap.size 49 5 (.slice Av o.length cv) o.length (o.flatMap MSet.cells)) ∧ Hid (Oth w3.heap.size Z W)) (fun _ i _ => y2.sets_.l.length - (intOf i).toNat)
  case atStart => exact ⟨0, false, none, 0, [], Nat.zero_le _, rfl, rfl, rfl, Lib.hid (by simp [putL, putB]), Lib.hid (by simp [putB]), Lib.hid (fun y hy => by cases hy), HKR, Lib.hid (ownNone _ _ _ _), Lib.hid (Oth.refl _ _)⟩
  case round =>
    obtain ⟨k, b, Av, cv, o, hk, rfl, rfl, hol, HL, HB, HE, HK, HS, HO⟩ := hrel
    have HOL := Lib.hid hol
    have hob : o.length ≤ k + 1 := by rw [hol]; cases b <;> simp
    clear hol
    have K7 := HO.out.blk HK7.out hn7
    have K2 := HO.out.blk HK2.out hn2
    obtain ⟨t0, t1, t2, t3, t4, t5, t6⟩ := HK.out.all7
    obtain ⟨tf0, tf1, tf2, tf3, tf4, tf5, tf6⟩ := HK.out.fz7
    obtain ⟨s0, s1, s2, s3, s4, s5, s6⟩ := K7.all7
    obtain ⟨u0, u1, u2, u3, u4⟩ := K2.all5
    by_cases hlt : k < y2.sets_.l.length
    · obtain ⟨y, hy⟩ : ∃ y, y2.sets_.l[k]? = some y := ⟨_, qZa hlt⟩
      obtain ⟨bb, off, hA, hbz, _⟩ := Rd.elem (n := 5) (fun _ => rfl) (by omega) (HRD.out Z (Oth.refl _ _)) hy
      obtain ⟨bb2, off2, hA2, hbb, hc⟩ := Rd.elem (n := 5) (fun _ => rfl) (by omega) (HRD.out wr HO.out) hy
      rw [hA] at hA2
      injection hA2 with hA2
      injection hA2 with e1 e2
      subst e1 e2
      have hym := List.mem_of_getElem? hy
      have htk : y2.sets_.l.take (k + 1) = y2.sets_.l.take k ++ [y] := by rw [List.take_add_one, hy]; rfl
      rw [hA] at s3
      have c0 : wr.cell? ⟨bb, off + k * 5, none⟩ = some (.string y.path_) := hc 0 _ rfl
      have c1 : wr.cell? ⟨bb, off + k * 5 + 1, none⟩ = some (.string y.origin_) := hc 1 _ rfl
      have c2 : wr.cell? ⟨bb, off + k * 5 + 2, none⟩ = some (.slice y.body_.A y.body_.l.length y.body_.c) := hc 2 _ rfl
      have c3 : wr.cell? ⟨bb, off + k * 5 + 3, none⟩ = some (.slice y.snaps_.A y.snaps_.l.length y.snaps_.c) := hc 3 _ rfl
      have c4 : wr.cell? ⟨bb, off + k * 5 + 4, none⟩ = some (.slice y.own_.A y.own_.l.length y.own_.c) := hc 4 _ rfl
      have hZW := HO.out.size
      have HTK := Lib.hid htk
      have HA := Lib.hid hA
      have HY := Lib.hid hy
      clear hc hy hA htk
      obtain ⟨kb, hkb⟩ : ∃ kb, Op.bytesLess y.path_.toList q.path_.toList = kb := ⟨_, rfl⟩
      have hlt2 : ltTx y.path_ q.path_ = kb := hkb
      have hbb2 : ∀ W', Below wr.heap.size wr W' → True := fun _ _ => trivial
      clear hbb2
      rcases b with _ | _
      · rcases kb with _ | _
        · skip
          go_upto_region 9 with (go_big_quiet (fail))
          generalize hv0 : World.drewN wr _ = v0
          have hBv : Below wr.heap.size wr v0 := hv0 ▸ belowDrewN wr _ _
          have hbbv0 : bb < v0.heap.size := Nat.lt_of_lt_of_le hbb hBv.size
          have HKv := Lib.hid (HK.out.of hBv)
          have HSv := Lib.hid (ownBelow HS.out hBv (Nat.le_refl _))
          have HOv := Lib.hid (HO.out.trans (Oth.of hBv))
          have K7v := K7.of hBv
          have K2v := K2.of hBv
          obtain ⟨p0, p1, p2, p3, p4, p5, p6⟩ := HKv.out.all7
          obtain ⟨pf0, pf1, pf2, pf3, pf4, pf5, pf6⟩ := HKv.out.fz7
          obtain ⟨z0, z1, z2, z3, z4, z5, z6⟩ := K7v.all7
          obtain ⟨m0, m1, m2, m3, m4⟩ := K2v.all5
          rw [HA.out] at z3
          have d0 := (hBv.cell (p := ⟨bb, off + k * 5, none⟩) hbb).trans c0
          have d1 := (hBv.cell (p := ⟨bb, off + k * 5 + 1, none⟩) hbb).trans c1
          have d2 := (hBv.cell (p := ⟨bb, off + k * 5 + 2, none⟩) hbb).trans c2
          have d3 := (hBv.cell (p := ⟨bb, off + k * 5 + 3, none⟩) hbb).trans c3
          have d4 := (hBv.cell (p := ⟨bb, off + k * 5 + 4, none⟩) hbb).trans c4
          clear t0 t1 t2 t3 t4 t5 t6 tf0 tf1 tf2 tf3 tf4 tf5 tf6 s0 s1 s2 s3 s4 s5 s6 u0 u1 u2 u3 u4 c0 c1 c2 c3 c4 K7 K2 hBv hv0
          go_wp2_with (at_builtin; refine wpAppendKN rfl rfl Tryz.underlying22 MSet.cells (fun _ => rfl) (by decide) oneSe infoSe7 rfl (Below.refl Z.heap.size v0) HOv.out.size HSv.out q rfl rfl rfl (by unfold maxLen; omega) (by omega) ?_; intro g9 c9 v9 HO9 HB9 HK9; have HKq := Lib.hid (HKv.out.keep HK9.out (by decide)); clear p0 p1 p2 p3 p4 p5 p6 pf0 pf1 pf2 pf3 pf4 pf5 pf6; have e3 := HKq.out.cell 3; have ef3 := HKq.out.frozen 3; simp only [List.getElem?_cons_zero, List.getElem?_cons_succ, List.set_cons_zero, List.set_cons_succ] at e3)
          have HKt := Lib.hid (HKq.out.set 3 (.slice (some ⟨g9, 0, none⟩) (o.length + 1) c9))
          have HSt := Lib.hid (own_setT (j := 3) (u := .slice (some ⟨g9, 0, none⟩) (o.length + 1) c9) HO9.out HKq.out (by decide))
          have HOt := Lib.hid ((HOv.out.more HB9.out).trans (Oth.set w3.heap.size 3 v9 (.slice (some ⟨g9, 0, none⟩) (o.length + 1) c9)))
          generalize hv10 : World.setCell v9 _ _ = v10 at *
          have K7t := HOt.out.blk HK7.out hn7
          obtain ⟨bb2, off2, hA2, hbbv10, hct⟩ := Rd.elem (n := 5) (fun _ => rfl) (by omega) (HRD.out v10 HOt.out) HY.out
          rw [HA.out] at hA2
          injection hA2 with hA2
          injection hA2 with e1 e2
          subst e1 e2
          obtain ⟨o1, ho1⟩ : ∃ o1, o ++ [q] = o1 := ⟨_, rfl⟩
          have hln : o.length + 1 = o1.length := by rw [← ho1]; simp
          have HST : Hid (v10.ownsRow Z.heap.size 49 5 (.slice (some ⟨g9, 0, none⟩) o1.length c9) o1.length (o1.flatMap MSet.cells)) := Lib.hid (by have := HSt.out; rw [ho1] at this; rw [hln] at this; exact this)
          have HKT := HKt
          rw [hln] at HKT
          have hob1 : o1.length ≤ k + 1 := by
            have h9 := HOL.out
            simp only [Bool.toNat_false] at h9
            omega
          have HO1 := Lib.hid ho1
          have HLN1 := Lib.hid hln
          clear d0 d1 d2 d3 d4 z0 z1 z2 z3 z4 z5 z6 m0 m1 m2 m3 m4 e3 ef3 HSt hln ho1 HKt
          simp only [List.set_cons_zero, List.set_cons_succ] at HKT
          obtain ⟨p0, p1, p2, p3, p4, p5, p6⟩ := HKT.out.all7
          obtain ⟨pf0, pf1, pf2, pf3, pf4, pf5, pf6⟩ := HKT.out.fz7
          obtain ⟨z0, z1, z2, z3, z4, z5, z6⟩ := K7t.all7
          rw [HA.out] at z3
          have d0 : v10.cell? ⟨bb, off + k * 5, none⟩ = some (.string y.path_) := hct 0 _ rfl
          have d1 : v10.cell? ⟨bb, off + k * 5 + 1, none⟩ = some (.string y.origin_) := hct 1 _ rfl
          have d2 : v10.cell? ⟨bb, off + k * 5 + 2, none⟩ = some (.slice y.body_.A y.body_.l.length y.body_.c) := hct 2 _ rfl
          have d3 : v10.cell? ⟨bb, off + k * 5 + 3, none⟩ = some (.slice y.snaps_.A y.snaps_.l.length y.snaps_.c) := hct 3 _ rfl
          have d4 : v10.cell? ⟨bb, off + k * 5 + 4, none⟩ = some (.slice y.own_.A y.own_.l.length y.own_.c) := hct 4 _ rfl
          clear hct
          have hlR := HKT.out.lt
          have hl7 : w6.heap.size < v10.heap.size := by have := HOt.out.size; omega
          have hlb : bb < v10.heap.size := hbbv10
          obtain ⟨i0, hi, hz0, hz1, hz2⟩ := infoParts infoSe7
          refine wp_region_noPanic ?_
          refine wp_region_last 10 (fun W => W.cell? ⟨w3.heap.size, 3, none⟩ = some (.slice (some ⟨g9, 0, none⟩) o1.length c9) ∧ W.frozen? ⟨w3.heap.size, 3, none⟩ = false ∧ W.cell? ⟨w6.heap.size, 3, none⟩ = some (.slice (some ⟨bb, off, none⟩) y2.sets_.l.length y2.sets_.c) ∧ W.cell? ⟨bb, off + k * 5, none⟩ = some (.string y.path_) ∧ W.cell? ⟨bb, off + k * 5 + 1, none⟩ = some (.string y.origin_) ∧ W.cell? ⟨bb, off + k * 5 + 2, none⟩ = some (.slice y.body_.A y.body_.l.length y.body_.c) ∧ W.cell? ⟨bb, off + k * 5 + 3, none⟩ = some (.slice y.snaps_.A y.snaps_.l.length y.snaps_.c) ∧ W.cell? ⟨bb, off + k * 5 + 4, none⟩ = some (.slice y.own_.A y.own_.l.length y.own_.c)) (by kernel_rfl) ⟨p3, pf3, z3, d0, d1, d2, d3, d4⟩ (fun hHeld => ?_)
          refine tkA 16 (i := 0) (oi := ⟨some 40, _, _, _, _, _⟩) rfl hHeld ?_
          try simp only [Act.put, pZa, pZb, pZc]
          refine tkA 16 (i := 1) (oi := ⟨some 41, _, _, _, _, _⟩) rfl hHeld ?_
          try simp only [Act.put, pZa, pZb, pZc]
          refine tkA 16 (i := 2) (oi := ⟨some 42, _, _, _, _, _⟩) rfl hHeld ?_
          try simp only [Act.put, pZa, pZb, pZc]
          refine tkA 16 (i := 3) (oi := ⟨some 43, _, _, _, _, _⟩) rfl hHeld ?_
          try simp only [Act.put, pZa, pZb, pZc]
          refine tkA 16 (i := 4) (oi := ⟨some 44, _, _, _, _, _⟩) rfl hHeld ?_
          try simp only [Act.put, pZa, pZb, pZc]
          refine tkA 16 (i := 5) (oi := ⟨some 45, _, _, _, _, _⟩) rfl hHeld ?_
          try simp only [Act.put, pZa, pZb, pZc]
          refine tkA 16 (i := 6) (oi := ⟨some 46, _, _, _, _, _⟩) rfl hHeld ?_
          try simp only [Act.put, pZa, pZb, pZc]
          clear hHeld
          refine wpAnyL_facts 16 1 3 [(7, 47)] (fun s v w => match s with
            | 47 => ∃ g, v = .slice (some ⟨g, 0, none⟩) 1 1 ∧ Blk w g 49 y.cells
            | _ => True) (fun w w' => Below w.heap.size w w') (by kernel_rfl) (by kernel_rfl) bZh ⟨?_, trivial⟩ (fun w' hB => ⟨(hB.cell (p := ⟨w3.heap.size, 3, none⟩) hlR).trans p3, (HKT.out.drew.below hB hlR).frozen 3, (hB.cell (p := ⟨w6.heap.size, 3, none⟩) hl7).trans z3, (hB.cell (p := ⟨bb, off + k * 5, none⟩) hlb).trans d0, (hB.cell (p := ⟨bb, off + k * 5 + 1, none⟩) hlb).trans d1, (hB.cell (p := ⟨bb, off + k * 5 + 2, none⟩) hlb).trans d2, (hB.cell (p := ⟨bb, off + k * 5 + 3, none⟩) hlb).trans d3, (hB.cell (p := ⟨bb, off + k * 5 + 4, none⟩) hlb).trans d4⟩) ⟨?_, trivial⟩ ?_
          focus
            intro v w w' h hB
            exact (by obtain ⟨g, e, hb⟩ := h; exact ⟨g, e, hb.below hB hb.lt⟩)
          focus
            intro vs w2 hBf hFf o ho K hK
            obtain rfl : (⟨some 47, _, _, _, _, _⟩ : Oper) = o := Option.some.inj ho
            clear ho
            (try simp only [fillL, pZd, pZe, Act.put, pZa, pZb, pZc] at hK ⊢)
            go_simp
            refine hK.out _ _ ⟨⟨w2.heap.size, rfl, Blk.new w2 _ _⟩, (Below.refl _ w2).alloc (Nat.le_refl _) _⟩
          intro vs w2 hBf hFf
          (try simp only [fillL, pZd, pZe, Act.put, pZa, pZb, pZc])
          obtain ⟨g47, e47, hb47⟩ := (hFf (7, 47) (by simp))
          simp only [e47]
          have hBw : Below v10.heap.size v10 w2 := (Below.refl v10.heap.size v10).drew.trans hBf
          have HS2 := Lib.hid (ownBelow HST.out hBw (Nat.le_refl _))
          have HO2 := Lib.hid (HOt.out.trans (Oth.of hBw))
          have HK2 := Lib.hid (HKT.out.of hBw)
          have hszz : Z.heap.size ≤ w2.heap.size := HO2.out.size
          have hHeld : (fun W => W.cell? ⟨w3.heap.size, 3, none⟩ = some (.slice (some ⟨g9, 0, none⟩) o1.length c9) ∧ W.frozen? ⟨w3.heap.size, 3, none⟩ = false ∧ W.cell? ⟨w6.heap.size, 3, none⟩ = some (.slice (some ⟨bb, off, none⟩) y2.sets_.l.length y2.sets_.c) ∧ W.cell? ⟨bb, off + k * 5, none⟩ = some (.string y.path_) ∧ W.cell? ⟨bb, off + k * 5 + 1, none⟩ = some (.string y.origin_) ∧ W.cell? ⟨bb, off + k * 5 + 2, none⟩ = some (.slice y.body_.A y.body_.l.length y.body_.c) ∧ W.cell? ⟨bb, off + k * 5 + 3, none⟩ = some (.slice y.snaps_.A y.snaps_.l.length y.snaps_.c) ∧ W.cell? ⟨bb, off + k * 5 + 4, none⟩ = some (.slice y.own_.A y.own_.l.length y.own_.c)) w2 := ⟨(hBf.cell (p := ⟨w3.heap.size, 3, none⟩) hlR).trans p3, (HKT.out.drew.below hBf hlR).frozen 3, (hBf.cell (p := ⟨w6.heap.size, 3, none⟩) hl7).trans z3, (hBf.cell (p := ⟨bb, off + k * 5, none⟩) hlb).trans d0, (hBf.cell (p := ⟨bb, off + k * 5 + 1, none⟩) hlb).trans d1, (hBf.cell (p := ⟨bb, off + k * 5 + 2, none⟩) hlb).trans d2, (hBf.cell (p := ⟨bb, off + k * 5 + 3, none⟩) hlb).trans d3, (hBf.cell (p := ⟨bb, off + k * 5 + 4, none⟩) hlb).trans d4⟩
          refine wpAnyL_one (i := 8) (o := ⟨some 48, _, _, _, _, _⟩) (by kernel_rfl) rfl (fun K hK => ?_)
          clear hHeld
          refine step_append_lies (o := ⟨some 48, _, _, _, _, _⟩) _ (by rfl) _ _ 22 (by rfl) Z.heap.size 49 i0 (.agg #[.string ByteArray.empty, .string ByteArray.empty, .slice none 0 0, .slice none 0 0, .slice none 0 0]) 5 104 Tryz.underlying22 hi hz0 hz1 hz2 rfl (by omega) (.slice (some ⟨g9, 0, none⟩) o1.length c9) o1.length (o1.flatMap MSet.cells) (by rfl) HS2.out ⟨g47, 0, none⟩ 1 1 y.cells (by rfl) rfl (fun j u hu => by rw [add_plain, Nat.zero_add]; exact (hb47.cell j).trans hu) (by simp [Value.oneCell']) (by omega) (by unfold maxLen; omega) (by omega) hszz _ rfl ?_
          intro g6 c6 x6 ho6 hg6 _ _
          have hB6 : Below Z.heap.size w2 x6 := (Below.refl Z.heap.size w2).grown hg6 hszz (fun j e => (HS2.out.lt j e).1)
          have hk6 := HK2.out.below hB6 hrR
          have o3' := hk6.cell 3
          have fo3' := hk6.frozen 3
          simp only [gZa, gZb] at o3'
          have HKB := Lib.hid hk6
          have HO6 := Lib.hid ho6
          have HOO := Lib.hid (HO2.out.more hB6)
          have kk7 := (hB6.cell (p := ⟨w6.heap.size, 3, none⟩) hr7).trans ((hBw.cell (p := ⟨w6.heap.size, 3, none⟩) hl7).trans z3)
          have kc0 := (hB6.cell (p := ⟨bb, off + k * 5, none⟩) hbz).trans ((hBw.cell (p := ⟨bb, off + k * 5, none⟩) hlb).trans d0)
          have kc1 := (hB6.cell (p := ⟨bb, off + k * 5 + 1, none⟩) hbz).trans ((hBw.cell (p := ⟨bb, off + k * 5 + 1, none⟩) hlb).trans d1)
          have kc2 := (hB6.cell (p := ⟨bb, off + k * 5 + 2, none⟩) hbz).trans ((hBw.cell (p := ⟨bb, off + k * 5 + 2, none⟩) hlb).trans d2)
          have kc3 := (hB6.cell (p := ⟨bb, off + k * 5 + 3, none⟩) hbz).trans ((hBw.cell (p := ⟨bb, off + k * 5 + 3, none⟩) hlb).trans d3)
          have kc4 := (hB6.cell (p := ⟨bb, off + k * 5 + 4, none⟩) hbz).trans ((hBw.cell (p := ⟨bb, off + k * 5 + 4, none⟩) hlb).trans d4)
          have HOW := Lib.hid ((HOt.out.trans (Oth.of hBw)).more hB6)
          clear ho6 hg6 hk6 hB6
          refine hK.out _ _ ⟨o3', fo3', kk7, kc0, kc1, kc2, kc3, kc4⟩ (fun hHeld => ?_)
          clear hK K
          try simp only [Act.put, pZa, pZb, pZc]
          refine tkA 16 (i := 9) (oi := ⟨some 49, _, _, _, _, _⟩) rfl hHeld ?_
          try simp only [Act.put, pZa, pZb, pZc]
          refine wpAnyL_last (i := 10) (o := ⟨none, _, _, _, _, _⟩) (by kernel_rfl) rfl (by kernel_rfl) (fun K hK => ?_)
          go_simp
          go_wp2_with fail
          refine hK.out _ _ ?_
          clear hK K
          try simp only [Act.put, pZa, pZb, pZc]
          refine wpAnyL_done (by kernel_rfl) ?_ _
          refine NoPanic.normal ?_
          have HK8 := Lib.hid (HKB.out.set 3 (.slice (some ⟨g6, 0, none⟩) (o1.length + 1) c6))
          have HS8 := Lib.hid (own_setT (j := 3) (u := .slice (some ⟨g6, 0, none⟩) (o1.length + 1) c6) HO6.out HKB.out (by decide))
          have HO8 := Lib.hid (HOW.out.trans (Oth.set w3.heap.size 3 x6 (.slice (some ⟨g6, 0, none⟩) (o1.length + 1) c6)))
          obtain ⟨x8, hx8⟩ : ∃ x8, x6.setCell ⟨w3.heap.size, 3, none⟩ (.slice (some ⟨g6, 0, none⟩) (o1.length + 1) c6) = x8 := ⟨_, rfl⟩
          rw [hx8] at HK8 HS8 HO8
          have HX8 := Lib.hid hx8
          obtain ⟨f1, f2⟩ := putL_here (q := q) (y := y) (HB.out.symm) hlt2
          have HLN : Hid ((o1 ++ [y]).map MSet.plain = putL q (y2.sets_.l.take (k + 1))) := Lib.hid (by rw [HTK.out, f2, ← HO1.out, List.map_append, List.map_append, HL.out]; rfl)
          have HBN : Hid (true = putB q (y2.sets_.l.take (k + 1))) := Lib.hid (by rw [HTK.out, f1])
          have HEN : Hid (∀ s ∈ o1 ++ [y], s = q ∨ s ∈ y2.sets_.l) := Lib.hid fun s hs => by
            rcases List.mem_append.1 hs with h | h
            · rw [← HO1.out] at h
              rcases List.mem_append.1 h with h | h
              · exact HE.out s h
              · rw [List.mem_singleton] at h
                exact .inl h
            · rw [List.mem_singleton] at h
              exact .inr (h ▸ hym)
          have HLEN : Hid (o1.length + 1 = k + 1 + Bool.toNat true) := Lib.hid (by rw [← HLN1.out, HOL.out]; simp only [Bool.toNat_true, Bool.toNat_false]; try omega)
          clear hx8
          try rw [HX8.out]
          go_wp2
          go_roundw
          case rel =>
            refine ⟨k + 1, true, some ⟨g6, 0, none⟩, c6, o1 ++ [y], by omega, by go_num, rfl, ?_, HLN, HBN, HEN, ?_, ?_, HO8⟩
            · rw [List.length_append, List.length_singleton, HLEN.out]
              try omega
            · have h9 := HK8.out
              simp only [List.set_cons_zero, List.set_cons_succ] at h9
              rw [List.length_append, List.length_singleton]
              exact Lib.hid h9
            · have h9 := HS8.out
              rw [List.length_append, List.length_singleton, List.flatMap_append, List.flatMap_cons, List.flatMap_nil, List.append_nil]
              exact Lib.hid h9
          case measure => simp [intOf]; omega
        · skip
          go_upto_region 11 with (go_big_quiet (fail))
          generalize hv0 : World.drewN wr _ = v0
          have hBv : Below wr.heap.size wr v0 := hv0 ▸ belowDrewN wr _ _
          have hbbv0 : bb < v0.heap.size := Nat.lt_of_lt_of_le hbb hBv.size
          have HKv := Lib.hid (HK.out.of hBv)
          have HSv := Lib.hid (ownBelow HS.out hBv (Nat.le_refl _))
          have HOv := Lib.hid (HO.out.trans (Oth.of hBv))
          have K7v := K7.of hBv
          have K2v := K2.of hBv
          obtain ⟨p0, p1, p2, p3, p4, p5, p6⟩ := HKv.out.all7
          obtain ⟨pf0, pf1, pf2, pf3, pf4, pf5, pf6⟩ := HKv.out.fz7
          obtain ⟨z0, z1, z2, z3, z4, z5, z6⟩ := K7v.all7
          obtain ⟨m0, m1, m2, m3, m4⟩ := K2v.all5
          rw [HA.out] at z3
          have d0 := (hBv.cell (p := ⟨bb, off + k * 5, none⟩) hbb).trans c0
          have d1 := (hBv.cell (p := ⟨bb, off + k * 5 + 1, none⟩) hbb).trans c1
          have d2 := (hBv.cell (p := ⟨bb, off + k * 5 + 2, none⟩) hbb).trans c2
          have d3 := (hBv.cell (p := ⟨bb, off + k * 5 + 3, none⟩) hbb).trans c3
          have d4 := (hBv.cell (p := ⟨bb, off + k * 5 + 4, none⟩) hbb).trans c4
          clear t0 t1 t2 t3 t4 t5 t6 tf0 tf1 tf2 tf3 tf4 tf5 tf6 s0 s1 s2 s3 s4 s5 s6 u0 u1 u2 u3 u4 c0 c1 c2 c3 c4 K7 K2 hBv hv0
          have hlR := HKv.out.lt
          have hl7 : w6.heap.size < v0.heap.size := by have := HOv.out.size; omega
          have hlb : bb < v0.heap.size := hbbv0
          obtain ⟨i0, hi, hz0, hz1, hz2⟩ := infoParts infoSe7
          refine wp_region_noPanic ?_
          refine wp_region_last 10 (fun W => W.cell? ⟨w3.heap.size, 3, none⟩ = some (.slice Av o.length cv) ∧ W.frozen? ⟨w3.heap.size, 3, none⟩ = false ∧ W.cell? ⟨w6.heap.size, 3, none⟩ = some (.slice (some ⟨bb, off, none⟩) y2.sets_.l.length y2.sets_.c) ∧ W.cell? ⟨bb, off + k * 5, none⟩ = some (.string y.path_) ∧ W.cell? ⟨bb, off + k * 5 + 1, none⟩ = some (.string y.origin_) ∧ W.cell? ⟨bb, off + k * 5 + 2, none⟩ = some (.slice y.body_.A y.body_.l.length y.body_.c) ∧ W.cell? ⟨bb, off + k * 5 + 3, none⟩ = some (.slice y.snaps_.A y.snaps_.l.length y.snaps_.c) ∧ W.cell? ⟨bb, off + k * 5 + 4, none⟩ = some (.slice y.own_.A y.own_.l.length y.own_.c)) (by kernel_rfl) ⟨p3, pf3, z3, d0, d1, d2, d3, d4⟩ (fun hHeld => ?_)
          refine tkA 16 (i := 0) (oi := ⟨some 40, _, _, _, _, _⟩) rfl hHeld ?_
          try simp only [Act.put, pZa, pZb, pZc]
          refine tkA 16 (i := 1) (oi := ⟨some 41, _, _, _, _, _⟩) rfl hHeld ?_
          try simp only [Act.put, pZa, pZb, pZc]
          refine tkA 16 (i := 2) (oi := ⟨some 42, _, _, _, _, _⟩) rfl hHeld ?_
          try simp only [Act.put, pZa, pZb, pZc]
          refine tkA 16 (i := 3) (oi := ⟨some 43, _, _, _, _, _⟩) rfl hHeld ?_
          try simp only [Act.put, pZa, pZb, pZc]
          refine tkA 16 (i := 4) (oi := ⟨some 44, _, _, _, _, _⟩) rfl hHeld ?_
          try simp only [Act.put, pZa, pZb, pZc]
          refine tkA 16 (i := 5) (oi := ⟨some 45, _, _, _, _, _⟩) rfl hHeld ?_
          try simp only [Act.put, pZa, pZb, pZc]
          refine tkA 16 (i := 6) (oi := ⟨some 46, _, _, _, _, _⟩) rfl hHeld ?_
          try simp only [Act.put, pZa, pZb, pZc]
          clear hHeld
          refine wpAnyL_facts 16 1 3 [(7, 47)] (fun s v w => match s with
            | 47 => ∃ g, v = .slice (some ⟨g, 0, none⟩) 1 1 ∧ Blk w g 49 y.cells
            | _ => True) (fun w w' => Below w.heap.size w w') (by kernel_rfl) (by kernel_rfl) bZh ⟨?_, trivial⟩ (fun w' hB => ⟨(hB.cell (p := ⟨w3.heap.size, 3, none⟩) hlR).trans p3, (HKv.out.drew.below hB hlR).frozen 3, (hB.cell (p := ⟨w6.heap.size, 3, none⟩) hl7).trans z3, (hB.cell (p := ⟨bb, off + k * 5, none⟩) hlb).trans d0, (hB.cell (p := ⟨bb, off + k * 5 + 1, none⟩) hlb).trans d1, (hB.cell (p := ⟨bb, off + k * 5 + 2, none⟩) hlb).trans d2, (hB.cell (p := ⟨bb, off + k * 5 + 3, none⟩) hlb).trans d3, (hB.cell (p := ⟨bb, off + k * 5 + 4, none⟩) hlb).trans d4⟩) ⟨?_, trivial⟩ ?_
          focus
            intro v w w' h hB
            exact (by obtain ⟨g, e, hb⟩ := h; exact ⟨g, e, hb.below hB hb.lt⟩)
          focus
            intro vs w2 hBf hFf o ho K hK
            obtain rfl : (⟨some 47, _, _, _, _, _⟩ : Oper) = o := Option.some.inj ho
            clear ho
            (try simp only [fillL, pZd, pZe, Act.put, pZa, pZb, pZc] at hK ⊢)
            go_simp
            refine hK.out _ _ ⟨⟨w2.heap.size, rfl, Blk.new w2 _ _⟩, (Below.refl _ w2).alloc (Nat.le_refl _) _⟩
          intro vs w2 hBf hFf
          (try simp only [fillL, pZd, pZe, Act.put, pZa, pZb, pZc])
          obtain ⟨g47, e47, hb47⟩ := (hFf (7, 47) (by simp))
          simp only [e47]
          have hBw : Below v0.heap.size v0 w2 := (Below.refl v0.heap.size v0).drew.trans hBf
          have HS2 := Lib.hid (ownBelow HSv.out hBw (Nat.le_refl _))
          have HO2 := Lib.hid (HOv.out.trans (Oth.of hBw))
          have HK2 := Lib.hid (HKv.out.of hBw)
          have hszz : Z.heap.size ≤ w2.heap.size := HO2.out.size
          have hHeld : (fun W => W.cell? ⟨w3.heap.size, 3, none⟩ = some (.slice Av o.length cv) ∧ W.frozen? ⟨w3.heap.size, 3, none⟩ = false ∧ W.cell? ⟨w6.heap.size, 3, none⟩ = some (.slice (some ⟨bb, off, none⟩) y2.sets_.l.length y2.sets_.c) ∧ W.cell? ⟨bb, off + k * 5, none⟩ = some (.string y.path_) ∧ W.cell? ⟨bb, off + k * 5 + 1, none⟩ = some (.string y.origin_) ∧ W.cell? ⟨bb, off + k * 5 + 2, none⟩ = some (.slice y.body_.A y.body_.l.length y.body_.c) ∧ W.cell? ⟨bb, off + k * 5 + 3, none⟩ = some (.slice y.snaps_.A y.snaps_.l.length y.snaps_.c) ∧ W.cell? ⟨bb, off + k * 5 + 4, none⟩ = some (.slice y.own_.A y.own_.l.length y.own_.c)) w2 := ⟨(hBf.cell (p := ⟨w3.heap.size, 3, none⟩) hlR).trans p3, (HKv.out.drew.below hBf hlR).frozen 3, (hBf.cell (p := ⟨w6.heap.size, 3, none⟩) hl7).trans z3, (hBf.cell (p := ⟨bb, off + k * 5, none⟩) hlb).trans d0, (hBf.cell (p := ⟨bb, off + k * 5 + 1, none⟩) hlb).trans d1, (hBf.cell (p := ⟨bb, off + k * 5 + 2, none⟩) hlb).trans d2, (hBf.cell (p := ⟨bb, off + k * 5 + 3, none⟩) hlb).trans d3, (hBf.cell (p := ⟨bb, off + k * 5 + 4, none⟩) hlb).trans d4⟩
          refine wpAnyL_one (i := 8) (o := ⟨some 48, _, _, _, _, _⟩) (by kernel_rfl) rfl (fun K hK => ?_)
          clear hHeld
          refine step_append_lies (o := ⟨some 48, _, _, _, _, _⟩) _ (by rfl) _ _ 22 (by rfl) Z.heap.size 49 i0 (.agg #[.string ByteArray.empty, .string ByteArray.empty, .slice none 0 0, .slice none 0 0, .slice none 0 0]) 5 104 Tryz.underlying22 hi hz0 hz1 hz2 rfl (by omega) (.slice Av o.length cv) o.length (o.flatMap MSet.cells) (by rfl) HS2.out ⟨g47, 0, none⟩ 1 1 y.cells (by rfl) rfl (fun j u hu => by rw [add_plain, Nat.zero_add]; exact (hb47.cell j).trans hu) (by simp [Value.oneCell']) (by omega) (by unfold maxLen; omega) (by omega) hszz _ rfl ?_
          intro g6 c6 x6 ho6 hg6 _ _
          have hB6 : Below Z.heap.size w2 x6 := (Below.refl Z.heap.size w2).grown hg6 hszz (fun j e => (HS2.out.lt j e).1)
          have hk6 := HK2.out.below hB6 hrR
          have o3' := hk6.cell 3
          have fo3' := hk6.frozen 3
          simp only [gZa, gZb] at o3'
          have HKB := Lib.hid hk6
          have HO6 := Lib.hid ho6
          have HOO := Lib.hid (HO2.out.more hB6)
          have kk7 := (hB6.cell (p := ⟨w6.heap.size, 3, none⟩) hr7).trans ((hBw.cell (p := ⟨w6.heap.size, 3, none⟩) hl7).trans z3)
          have kc0 := (hB6.cell (p := ⟨bb, off + k * 5, none⟩) hbz).trans ((hBw.cell (p := ⟨bb, off + k * 5, none⟩) hlb).trans d0)
          have kc1 := (hB6.cell (p := ⟨bb, off + k * 5 + 1, none⟩) hbz).trans ((hBw.cell (p := ⟨bb, off + k * 5 + 1, none⟩) hlb).trans d1)
          have kc2 := (hB6.cell (p := ⟨bb, off + k * 5 + 2, none⟩) hbz).trans ((hBw.cell (p := ⟨bb, off + k * 5 + 2, none⟩) hlb).trans d2)
          have kc3 := (hB6.cell (p := ⟨bb, off + k * 5 + 3, none⟩) hbz).trans ((hBw.cell (p := ⟨bb, off + k * 5 + 3, none⟩) hlb).trans d3)
          have kc4 := (hB6.cell (p := ⟨bb, off + k * 5 + 4, none⟩) hbz).trans ((hBw.cell (p := ⟨bb, off + k * 5 + 4, none⟩) hlb).trans d4)
          have HOW := Lib.hid ((HOv.out.trans (Oth.of hBw)).more hB6)
          clear ho6 hg6 hk6 hB6
          refine hK.out _ _ ⟨o3', fo3', kk7, kc0, kc1, kc2, kc3, kc4⟩ (fun hHeld => ?_)
          clear hK K
          try simp only [Act.put, pZa, pZb, pZc]
          refine tkA 16 (i := 9) (oi := ⟨some 49, _, _, _, _, _⟩) rfl hHeld ?_
          try simp only [Act.put, pZa, pZb, pZc]
          refine wpAnyL_last (i := 10) (o := ⟨none, _, _, _, _, _⟩) (by kernel_rfl) rfl (by kernel_rfl) (fun K hK => ?_)
          go_simp
          go_wp2_with fail
          refine hK.out _ _ ?_
          clear hK K
          try simp only [Act.put, pZa, pZb, pZc]
          refine wpAnyL_done (by kernel_rfl) ?_ _
          refine NoPanic.normal ?_
          have HK8 := Lib.hid (HKB.out.set 3 (.slice (some ⟨g6, 0, none⟩) (o.length + 1) c6))
          have HS8 := Lib.hid (own_setT (j := 3) (u := .slice (some ⟨g6, 0, none⟩) (o.length + 1) c6) HO6.out HKB.out (by decide))
          have HO8 := Lib.hid (HOW.out.trans (Oth.set w3.heap.size 3 x6 (.slice (some ⟨g6, 0, none⟩) (o.length + 1) c6)))
          obtain ⟨x8, hx8⟩ : ∃ x8, x6.setCell ⟨w3.heap.size, 3, none⟩ (.slice (some ⟨g6, 0, none⟩) (o.length + 1) c6) = x8 := ⟨_, rfl⟩
          rw [hx8] at HK8 HS8 HO8
          have HX8 := Lib.hid hx8
          obtain ⟨f1, f2⟩ := putL_on (q := q) (y := y) (HB.out.symm) hlt2
          have HLN : Hid ((o ++ [y]).map MSet.plain = putL q (y2.sets_.l.take (k + 1))) := Lib.hid (by rw [HTK.out, f2, List.map_append, HL.out]; rfl)
          have HBN : Hid (false = putB q (y2.sets_.l.take (k + 1))) := Lib.hid (by rw [HTK.out, f1])
          have HEN : Hid (∀ s ∈ o ++ [y], s = q ∨ s ∈ y2.sets_.l) := Lib.hid fun s hs => by
            rcases List.mem_append.1 hs with h | h
            · exact HE.out s h
            · rw [List.mem_singleton] at h
              exact .inr (h ▸ hym)
          have HLEN : Hid (o.length + 1 = k + 1 + Bool.toNat false) := Lib.hid (by rw [HOL.out]; simp only [Bool.toNat_true, Bool.toNat_false]; try omega)
          clear hx8
          try rw [HX8.out]
          go_wp2
          go_roundw
          case rel =>
            refine ⟨k + 1, false, some ⟨g6, 0, none⟩, c6, o ++ [y], by omega, by go_num, rfl, ?_, HLN, HBN, HEN, ?_, ?_, HO8⟩
            · rw [List.length_append, List.length_singleton, HLEN.out]
              try omega
            · have h9 := HK8.out
              simp only [List.set_cons_zero, List.set_cons_succ] at h9
              rw [List.length_append, List.length_singleton]
              exact Lib.hid h9
            · have h9 := HS8.out
              rw [List.length_append, List.length_singleton, List.flatMap_append, List.flatMap_cons, List.flatMap_nil, List.append_nil]
              exact Lib.hid h9
          case measure => simp [intOf]; omega
      · skip
        go_upto_region 11 with (go_big_quiet (fail))
        generalize hv0 : World.drewN wr _ = v0
        have hBv : Below wr.heap.size wr v0 := hv0 ▸ belowDrewN wr _ _
        have hbbv0 : bb < v0.heap.size := Nat.lt_of_lt_of_le hbb hBv.size
        have HKv := Lib.hid (HK.out.of hBv)
        have HSv := Lib.hid (ownBelow HS.out hBv (Nat.le_refl _))
        have HOv := Lib.hid (HO.out.trans (Oth.of hBv))
        have K7v := K7.of hBv
        have K2v := K2.of hBv
        obtain ⟨p0, p1, p2, p3, p4, p5, p6⟩ := HKv.out.all7
        obtain ⟨pf0, pf1, pf2, pf3, pf4, pf5, pf6⟩ := HKv.out.fz7
        obtain ⟨z0, z1, z2, z3, z4, z5, z6⟩ := K7v.all7
        obtain ⟨m0, m1, m2, m3, m4⟩ := K2v.all5
        rw [HA.out] at z3
        have d0 := (hBv.cell (p := ⟨bb, off + k * 5, none⟩) hbb).trans c0
        have d1 := (hBv.cell (p := ⟨bb, off + k * 5 + 1, none⟩) hbb).trans c1
        have d2 := (hBv.cell (p := ⟨bb, off + k * 5 + 2, none⟩) hbb).trans c2
        have d3 := (hBv.cell (p := ⟨bb, off + k * 5 + 3, none⟩) hbb).trans c3
        have d4 := (hBv.cell (p := ⟨bb, off + k * 5 + 4, none⟩) hbb).trans c4
        clear t0 t1 t2 t3 t4 t5 t6 tf0 tf1 tf2 tf3 tf4 tf5 tf6 s0 s1 s2 s3 s4 s5 s6 u0 u1 u2 u3 u4 c0 c1 c2 c3 c4 K7 K2 hBv hv0
        have hlR := HKv.out.lt
        have hl7 : w6.heap.size < v0.heap.size := by have := HOv.out.size; omega
        have hlb : bb < v0.heap.size := hbbv0
        obtain ⟨i0, hi, hz0, hz1, hz2⟩ := infoParts infoSe7
        refine wp_region_noPanic ?_
        refine wp_region_last 10 (fun W => W.cell? ⟨w3.heap.size, 3, none⟩ = some (.slice Av o.length cv) ∧ W.frozen? ⟨w3.heap.size, 3, none⟩ = false ∧ W.cell? ⟨w6.heap.size, 3, none⟩ = some (.slice (some ⟨bb, off, none⟩) y2.sets_.l.length y2.sets_.c) ∧ W.cell? ⟨bb, off + k * 5, none⟩ = some (.string y.path_) ∧ W.cell? ⟨bb, off + k * 5 + 1, none⟩ = some (.string y.origin_) ∧ W.cell? ⟨bb, off + k * 5 + 2, none⟩ = some (.slice y.body_.A y.body_.l.length y.body_.c) ∧ W.cell? ⟨bb, off + k * 5 + 3, none⟩ = some (.slice y.snaps_.A y.snaps_.l.length y.snaps_.c) ∧ W.cell? ⟨bb, off + k * 5 + 4, none⟩ = some (.slice y.own_.A y.own_.l.length y.own_.c)) (by kernel_rfl) ⟨p3, pf3, z3, d0, d1, d2, d3, d4⟩ (fun hHeld => ?_)
        refine tkA 16 (i := 0) (oi := ⟨some 40, _, _, _, _, _⟩) rfl hHeld ?_
        try simp only [Act.put, pZa, pZb, pZc]
        refine tkA 16 (i := 1) (oi := ⟨some 41, _, _, _, _, _⟩) rfl hHeld ?_
        try simp only [Act.put, pZa, pZb, pZc]
        refine tkA 16 (i := 2) (oi := ⟨some 42, _, _, _, _, _⟩) rfl hHeld ?_
        try simp only [Act.put, pZa, pZb, pZc]
        refine tkA 16 (i := 3) (oi := ⟨some 43, _, _, _, _, _⟩) rfl hHeld ?_
        try simp only [Act.put, pZa, pZb, pZc]
        refine tkA 16 (i := 4) (oi := ⟨some 44, _, _, _, _, _⟩) rfl hHeld ?_
        try simp only [Act.put, pZa, pZb, pZc]
        refine tkA 16 (i := 5) (oi := ⟨some 45, _, _, _, _, _⟩) rfl hHeld ?_
        try simp only [Act.put, pZa, pZb, pZc]
        refine tkA 16 (i := 6) (oi := ⟨some 46, _, _, _, _, _⟩) rfl hHeld ?_
        try simp only [Act.put, pZa, pZb, pZc]
        clear hHeld
        refine wpAnyL_facts 16 1 3 [(7, 47)] (fun s v w => match s with
          | 47 => ∃ g, v = .slice (some ⟨g, 0, none⟩) 1 1 ∧ Blk w g 49 y.cells
          | _ => True) (fun w w' => Below w.heap.size w w') (by kernel_rfl) (by kernel_rfl) bZh ⟨?_, trivial⟩ (fun w' hB => ⟨(hB.cell (p := ⟨w3.heap.size, 3, none⟩) hlR).trans p3, (HKv.out.drew.below hB hlR).frozen 3, (hB.cell (p := ⟨w6.heap.size, 3, none⟩) hl7).trans z3, (hB.cell (p := ⟨bb, off + k * 5, none⟩) hlb).trans d0, (hB.cell (p := ⟨bb, off + k * 5 + 1, none⟩) hlb).trans d1, (hB.cell (p := ⟨bb, off + k * 5 + 2, none⟩) hlb).trans d2, (hB.cell (p := ⟨bb, off + k * 5 + 3, none⟩) hlb).trans d3, (hB.cell (p := ⟨bb, off + k * 5 + 4, none⟩) hlb).trans d4⟩) ⟨?_, trivial⟩ ?_
        focus
          intro v w w' h hB
          exact (by obtain ⟨g, e, hb⟩ := h; exact ⟨g, e, hb.below hB hb.lt⟩)
        focus
          intro vs w2 hBf hFf o ho K hK
          obtain rfl : (⟨some 47, _, _, _, _, _⟩ : Oper) = o := Option.some.inj ho
          clear ho
          (try simp only [fillL, pZd, pZe, Act.put, pZa, pZb, pZc] at hK ⊢)
          go_simp
          refine hK.out _ _ ⟨⟨w2.heap.size, rfl, Blk.new w2 _ _⟩, (Below.refl _ w2).alloc (Nat.le_refl _) _⟩
        intro vs w2 hBf hFf
        (try simp only [fillL, pZd, pZe, Act.put, pZa, pZb, pZc])
        obtain ⟨g47, e47, hb47⟩ := (hFf (7, 47) (by simp))
        simp only [e47]
        have hBw : Below v0.heap.size v0 w2 := (Below.refl v0.heap.size v0).drew.trans hBf
        have HS2 := Lib.hid (ownBelow HSv.out hBw (Nat.le_refl _))
        have HO2 := Lib.hid (HOv.out.trans (Oth.of hBw))
        have HK2 := Lib.hid (HKv.out.of hBw)
        have hszz : Z.heap.size ≤ w2.heap.size := HO2.out.size
        have hHeld : (fun W => W.cell? ⟨w3.heap.size, 3, none⟩ = some (.slice Av o.length cv) ∧ W.frozen? ⟨w3.heap.size, 3, none⟩ = false ∧ W.cell? ⟨w6.heap.size, 3, none⟩ = some (.slice (some ⟨bb, off, none⟩) y2.sets_.l.length y2.sets_.c) ∧ W.cell? ⟨bb, off + k * 5, none⟩ = some (.string y.path_) ∧ W.cell? ⟨bb, off + k * 5 + 1, none⟩ = some (.string y.origin_) ∧ W.cell? ⟨bb, off + k * 5 + 2, none⟩ = some (.slice y.body_.A y.body_.l.length y.body_.c) ∧ W.cell? ⟨bb, off + k * 5 + 3, none⟩ = some (.slice y.snaps_.A y.snaps_.l.length y.snaps_.c) ∧ W.cell? ⟨bb, off + k * 5 + 4, none⟩ = some (.slice y.own_.A y.own_.l.length y.own_.c)) w2 := ⟨(hBf.cell (p := ⟨w3.heap.size, 3, none⟩) hlR).trans p3, (HKv.out.drew.below hBf hlR).frozen 3, (hBf.cell (p := ⟨w6.heap.size, 3, none⟩) hl7).trans z3, (hBf.cell (p := ⟨bb, off + k * 5, none⟩) hlb).trans d0, (hBf.cell (p := ⟨bb, off + k * 5 + 1, none⟩) hlb).trans d1, (hBf.cell (p := ⟨bb, off + k * 5 + 2, none⟩) hlb).trans d2, (hBf.cell (p := ⟨bb, off + k * 5 + 3, none⟩) hlb).trans d3, (hBf.cell (p := ⟨bb, off + k * 5 + 4, none⟩) hlb).trans d4⟩
        refine wpAnyL_one (i := 8) (o := ⟨some 48, _, _, _, _, _⟩) (by kernel_rfl) rfl (fun K hK => ?_)
        clear hHeld
        refine step_append_lies (o := ⟨some 48, _, _, _, _, _⟩) _ (by rfl) _ _ 22 (by rfl) Z.heap.size 49 i0 (.agg #[.string ByteArray.empty, .string ByteArray.empty, .slice none 0 0, .slice none 0 0, .slice none 0 0]) 5 104 Tryz.underlying22 hi hz0 hz1 hz2 rfl (by omega) (.slice Av o.length cv) o.length (o.flatMap MSet.cells) (by rfl) HS2.out ⟨g47, 0, none⟩ 1 1 y.cells (by rfl) rfl (fun j u hu => by rw [add_plain, Nat.zero_add]; exact (hb47.cell j).trans hu) (by simp [Value.oneCell']) (by omega) (by unfold maxLen; omega) (by omega) hszz _ rfl ?_
        intro g6 c6 x6 ho6 hg6 _ _
        have hB6 : Below Z.heap.size w2 x6 := (Below.refl Z.heap.size w2).grown hg6 hszz (fun j e => (HS2.out.lt j e).1)
        have hk6 := HK2.out.below hB6 hrR
        have o3' := hk6.cell 3
        have fo3' := hk6.frozen 3
        simp only [gZa, gZb] at o3'
        have HKB := Lib.hid hk6
        have HO6 := Lib.hid ho6
        have HOO := Lib.hid (HO2.out.more hB6)
        have kk7 := (hB6.cell (p := ⟨w6.heap.size, 3, none⟩) hr7).trans ((hBw.cell (p := ⟨w6.heap.size, 3, none⟩) hl7).trans z3)
        have kc0 := (hB6.cell (p := ⟨bb, off + k * 5, none⟩) hbz).trans ((hBw.cell (p := ⟨bb, off + k * 5, none⟩) hlb).trans d0)
        have kc1 := (hB6.cell (p := ⟨bb, off + k * 5 + 1, none⟩) hbz).trans ((hBw.cell (p := ⟨bb, off + k * 5 + 1, none⟩) hlb).trans d1)
        have kc2 := (hB6.cell (p := ⟨bb, off + k * 5 + 2, none⟩) hbz).trans ((hBw.cell (p := ⟨bb, off + k * 5 + 2, none⟩) hlb).trans d2)
        have kc3 := (hB6.cell (p := ⟨bb, off + k * 5 + 3, none⟩) hbz).trans ((hBw.cell (p := ⟨bb, off + k * 5 + 3, none⟩) hlb).trans d3)
        have kc4 := (hB6.cell (p := ⟨bb, off + k * 5 + 4, none⟩) hbz).trans ((hBw.cell (p := ⟨bb, off + k * 5 + 4, none⟩) hlb).trans d4)
        have HOW := Lib.hid ((HOv.out.trans (Oth.of hBw)).more hB6)
        clear ho6 hg6 hk6 hB6
        refine hK.out _ _ ⟨o3', fo3', kk7, kc0, kc1, kc2, kc3, kc4⟩ (fun hHeld => ?_)
        clear hK K
        try simp only [Act.put, pZa, pZb, pZc]
        refine tkA 16 (i := 9) (oi := ⟨some 49, _, _, _, _, _⟩) rfl hHeld ?_
        try simp only [Act.put, pZa, pZb, pZc]
        refine wpAnyL_last (i := 10) (o := ⟨none, _, _, _, _, _⟩) (by kernel_rfl) rfl (by kernel_rfl) (fun K hK => ?_)
        go_simp
        go_wp2_with fail
        refine hK.out _ _ ?_
        clear hK K
        try simp only [Act.put, pZa, pZb, pZc]
        refine wpAnyL_done (by kernel_rfl) ?_ _
        refine NoPanic.normal ?_
        have HK8 := Lib.hid (HKB.out.set 3 (.slice (some ⟨g6, 0, none⟩) (o.length + 1) c6))
        have HS8 := Lib.hid (own_setT (j := 3) (u := .slice (some ⟨g6, 0, none⟩) (o.length + 1) c6) HO6.out HKB.out (by decide))
        have HO8 := Lib.hid (HOW.out.trans (Oth.set w3.heap.size 3 x6 (.slice (some ⟨g6, 0, none⟩) (o.length + 1) c6)))
        obtain ⟨x8, hx8⟩ : ∃ x8, x6.setCell ⟨w3.heap.size, 3, none⟩ (.slice (some ⟨g6, 0, none⟩) (o.length + 1) c6) = x8 := ⟨_, rfl⟩
        rw [hx8] at HK8 HS8 HO8
        have HX8 := Lib.hid hx8
        obtain ⟨f1, f2⟩ := putL_yes (q := q) (y := y) (HB.out.symm)
        have HLN : Hid ((o ++ [y]).map MSet.plain = putL q (y2.sets_.l.take (k + 1))) := Lib.hid (by rw [HTK.out, f2, List.map_append, HL.out]; rfl)
        have HBN : Hid (true = putB q (y2.sets_.l.take (k + 1))) := Lib.hid (by rw [HTK.out, f1])
        have HEN : Hid (∀ s ∈ o ++ [y], s = q ∨ s ∈ y2.sets_.l) := Lib.hid fun s hs => by
          rcases List.mem_append.1 hs with h | h
          · exact HE.out s h
          · rw [List.mem_singleton] at h
            exact .inr (h ▸ hym)
        have HLEN : Hid (o.length + 1 = k + 1 + Bool.toNat true) := Lib.hid (by rw [HOL.out]; simp only [Bool.toNat_true, Bool.toNat_false]; try omega)
        clear hx8
        try rw [HX8.out]
        go_wp2
        go_roundw
        case rel =>
          refine ⟨k + 1, true, some ⟨g6, 0, none⟩, c6, o ++ [y], by omega, by go_num, rfl, ?_, HLN, HBN, HEN, ?_, ?_, HO8⟩
          · rw [List.length_append, List.length_singleton, HLEN.out]
            try omega
          · have h9 := HK8.out
            simp only [List.set_cons_zero, List.set_cons_succ] at h9
            rw [List.length_append, List.length_singleton]
            exact Lib.hid h9
          · have h9 := HS8.out
            rw [List.length_append, List.length_singleton, List.flatMap_append, List.flatMap_cons, List.flatMap_nil, List.append_nil]
            exact Lib.hid h9
        case measure => simp [intOf]; omega
    · obtain rfl : k = y2.sets_.l.length := by omega
      rw [List.take_length] at HL HB
      have hend := putL_end (q := q) (l := y2.sets_.l)
      rcases b with _ | _
      · skip
        rw [if_neg (by rw [← HB.out]; decide)] at hend
        have HEND := Lib.hid hend
        have hol0 : o.length = y2.sets_.l.length := by
          have h9 := HOL.out
          simpa using h9
        have HOL0 := Lib.hid hol0
        clear hend hol0
        go_upto_region 14 with (at_builtin; refine wpAppendKN rfl rfl Tryz.underlying22 MSet.cells (fun _ => rfl) (by decide) oneSe infoSe7 rfl (Below.refl Z.heap.size wr) HO.out.size HS.out q rfl rfl rfl (by unfold maxLen; omega) (by omega) ?_; intro g9 c9 v9 HO9 HB9 HK9; have HKq := Lib.hid (HK.out.keep HK9.out (by decide)); clear t0 t1 t2 t3 t4 t5 t6 tf0 tf1 tf2 tf3 tf4 tf5 tf6; have e3 := HKq.out.cell 3; have ef3 := HKq.out.frozen 3; simp only [List.getElem?_cons_zero, List.getElem?_cons_succ, List.set_cons_zero, List.set_cons_succ] at e3)
        have HKt := Lib.hid (HKq.out.set 3 (.slice (some ⟨g9, 0, none⟩) (o.length + 1) c9))
        have HSt := Lib.hid (own_setT (j := 3) (u := .slice (some ⟨g9, 0, none⟩) (o.length + 1) c9) HO9.out HKq.out (by decide))
        have HOt := Lib.hid ((HO.out.more HB9.out).trans (Oth.set w3.heap.size 3 v9 (.slice (some ⟨g9, 0, none⟩) (o.length + 1) c9)))
        generalize hv10 : World.setCell v9 _ _ = v10 at *
        obtain ⟨o1, ho1⟩ : ∃ o1, o ++ [q] = o1 := ⟨_, rfl⟩
        have hln : o.length + 1 = o1.length := by rw [← ho1]; simp
        have HST : Hid (v10.ownsRow Z.heap.size 49 5 (.slice (some ⟨g9, 0, none⟩) o1.length c9) o1.length (o1.flatMap MSet.cells)) := Lib.hid (by have := HSt.out; rw [ho1] at this; rw [hln] at this; exact this)
        have HKT := HKt
        rw [hln] at HKT
        have hend1 : insS q.plain (y2.sets_.l.map MSet.plain) = o1.map MSet.plain := by rw [HEND.out, ← HL.out, ← ho1, List.map_append]; rfl
        have hmem1 : ∀ s ∈ o1, s = q ∨ s ∈ y2.sets_.l := fun s hs => by
          rw [← ho1] at hs
          rcases List.mem_append.1 hs with h | h
          · exact HE.out s h
          · rw [List.mem_singleton] at h
            exact .inl h
        have hlen1 : o1.length * 104 ≤ 140737488351232 := by rw [← hln, HOL0.out]; exact hl
        have HEN1 := Lib.hid hend1
        have HME1 := Lib.hid hmem1
        have HLE1 := Lib.hid hlen1
        clear HSt HKt e3 ef3 hend1 hmem1 hlen1 ho1 hln
        simp only [List.set_cons_zero, List.set_cons_succ] at HKT
        have K3r := HOt.out.blk HK3.out hn3
        obtain ⟨p0, p1, p2, p3, p4, p5, p6⟩ := HKT.out.all7
        obtain ⟨zr0, zr1, zr2, zr3, zr4, zr5, zr6⟩ := K3r.all7
        obtain ⟨zrf0, zrf1, zrf2, zrf3, zrf4, zrf5, zrf6⟩ := K3r.fz7
        go_wp2
        generalize hwE : World.setCell _ ⟨a2.heap.size, 6, none⟩ _ = wE
        obtain ⟨KE, SE, ZE, BE⟩ := store7 K3r hwE
        obtain ⟨ze0, ze1, ze2, ze3, ze4, ze5, ze6⟩ := KE.all7
        refine bodyPost_ret (v := .agg #[.string y1.name_, .int .i64 y1.quota_, .int .i64 y1.next_, .slice (some ⟨g9, 0, none⟩) o1.length c9, .slice y1.grants_.A y1.grants_.l.length y1.grants_.c, .slice y1.stages_.A y1.stages_.l.length y1.stages_.c, .slice y1.log_.A y1.log_.l.length y1.log_.c]) (by simp [results, Tryz.results22, go_sem, ze0, ze1, ze2, ze3, ze4, ze5, ze6]) rfl ?_
        have hkW : Keeps 27 v10 wE := keeps_store K3r SE
        have hkZ := (HOt.out.keeps HKR.out).trans hkW
        have hO1 := HO1.out.keep hkZ (by decide) (by decide) (by decide) (by decide) (by decide) (by decide) (by decide) (by decide)
        have hG1 : y1.Good wE := MTenant.Good.of_own HG1.out rfl hO1
        have hO2 := HO2.out.keep hkZ (by decide) (by decide) (by decide) (by decide) (by decide) (by decide) (by decide) (by decide)
        have hG2 : y2.Good wE := MTenant.Good.of_own HG2.out rfl hO2
        have hBn : Below w.heap.size w wE := BE _ _ (HBZ.out.trans (HOt.out.below (by omega) hsZ)) (by omega)
        have hqn : q.Good wE := HQ0.out.below hBn
        have hS := own_keeps HST.out (by decide) hkW
        have hmg := mid_good hG1 (Below.refl _ _) hS (HLE1.out) (fun s hs => by
          rcases HME1.out s hs with rfl | h
          · exact hqn
          · exact hG2.gsets_.el s h)
        have e2 : x.plain.sets_ = y2.sets_.l.map MSet.plain := by rw [← HP2.out]; rfl
        have hOT : OwnTe n0 wE ({ y1 with sets_ := ⟨(some ⟨g9, 0, none⟩), o1, c9⟩ } : MTenant) := ⟨ownBase hS (by omega), ownBase hO1.grants (by omega), ownBase hO1.stages (by omega), ownBase hO1.log (by omega), fun s hs => by
          rcases HME1.out s hs with rfl | h
          · exact HQO.out.below hBn
          · exact (hO2.eset s h).base (by omega), fun s hs => (hO1.estage s hs).base (by omega)⟩
        exact ⟨_, rfl, hOT, hmg, by
          unfold withP
          rw [e2, HEN1.out, ← HP1.out]
          rfl, hBn⟩
      · skip
        rw [if_pos HB.out.symm, ← HL.out] at hend
        have HEN1 := Lib.hid hend
        have hlen1 : o.length * 104 ≤ 140737488351232 := by
          have h9 := HOL.out
          rw [h9]
          exact hl
        have HLE1 := Lib.hid hlen1
        clear hend hlen1
        have K3r := HO.out.blk HK3.out hn3
        obtain ⟨zr0, zr1, zr2, zr3, zr4, zr5, zr6⟩ := K3r.all7
        obtain ⟨zrf0, zrf1, zrf2, zrf3, zrf4, zrf5, zrf6⟩ := K3r.fz7
        go_wp2
        generalize hwE : World.setCell _ ⟨a2.heap.size, 6, none⟩ _ = wE
        obtain ⟨KE, SE, ZE, BE⟩ := store7 K3r hwE
        obtain ⟨ze0, ze1, ze2, ze3, ze4, ze5, ze6⟩ := KE.all7
        refine bodyPost_ret (v := .agg #[.string y1.name_, .int .i64 y1.quota_, .int .i64 y1.next_, .slice Av o.length cv, .slice y1.grants_.A y1.grants_.l.length y1.grants_.c, .slice y1.stages_.A y1.stages_.l.length y1.stages_.c, .slice y1.log_.A y1.log_.l.length y1.log_.c]) (by simp [results, Tryz.results22, go_sem, ze0, ze1, ze2, ze3, ze4, ze5, ze6]) rfl ?_
        have hkW : Keeps 27 wr wE := keeps_store K3r SE
        have hkZ := (HO.out.keeps HKR.out).trans hkW
        have hO1 := HO1.out.keep hkZ (by decide) (by decide) (by decide) (by decide) (by decide) (by decide) (by decide) (by decide)
        have hG1 : y1.Good wE := MTenant.Good.of_own HG1.out rfl hO1
        have hO2 := HO2.out.keep hkZ (by decide) (by decide) (by decide) (by decide) (by decide) (by decide) (by decide) (by decide)
        have hG2 : y2.Good wE := MTenant.Good.of_own HG2.out rfl hO2
        have hBn : Below w.heap.size w wE := BE _ _ (HBZ.out.trans (HO.out.below (by omega) hsZ)) (by omega)
        have hqn : q.Good wE := HQ0.out.below hBn
        have hS := own_keeps HS.out (by decide) hkW
        have hmg := mid_good hG1 (Below.refl _ _) hS (HLE1.out) (fun s hs => by
          rcases HE.out s hs with rfl | h
          · exact hqn
          · exact hG2.gsets_.el s h)
        have e2 : x.plain.sets_ = y2.sets_.l.map MSet.plain := by rw [← HP2.out]; rfl
        have hOT : OwnTe n0 wE ({ y1 with sets_ := ⟨Av, o, cv⟩ } : MTenant) := ⟨ownBase hS (by omega), ownBase hO1.grants (by omega), ownBase hO1.stages (by omega), ownBase hO1.log (by omega), fun s hs => by
          rcases HE.out s hs with rfl | h
          · exact HQO.out.below hBn
          · exact (hO2.eset s h).base (by omega), fun s hs => (hO1.estage s hs).base (by omega)⟩
        exact ⟨_, rfl, hOT, hmg, by
          unfold withP
          rw [e2, HEN1.out, ← HP1.out]
          rfl, hBn⟩
theorem refWith_any (x : MTenant) (q : MSet) (w : World) (hx : x.Good w) (hq : q.Good w) (hqo : ∀ (n : Nat) (W : World), OwnSe n W q) (hl : (x.sets_.l.length + 1) * 104 ≤ 140737488351232) :
    Calls Tryz.prog 22 #[.agg x.cells.toArray, .agg q.cells.toArray] w fun e w' => ∃ y : MTenant, e = .returned (.agg y.cells.toArray) ∧ OwnTe w.heap.size w' y ∧ y.Good w' ∧ y.plain = withP x.plain q.plain ∧ Below w.heap.size w w' := refWith_at x q w.heap.size w (Nat.le_refl _) hx hq (hqo _ _) hl
end Go.Proofs.YtoabkbnhdekbdaaGreat
