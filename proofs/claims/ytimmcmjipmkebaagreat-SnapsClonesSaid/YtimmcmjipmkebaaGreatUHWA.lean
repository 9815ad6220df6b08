/-
  shape: With. Conditions: the tenant and the set are as they come in.
-/
import Derived.Test.YtimmcmjipmkebaaGreatUHCC
import Derived.Test.YtimmcmjipmkebaaGreatUHLB
import Derived.Test.YtimmcmjipmkebaaGreatUTCU
import Derived.Test.YtimmcmjipmkebaaGreatUTMB
import Derived.Test.YtimmcmjipmkebaaGreatUTMG
import Derived.Test.YtimmcmjipmkebaaGreatUTNP
import Derived.Test.YtimmcmjipmkebaaGreatUUSF
import Derived.Test.YtimmcmjipmkebaaGreatUEVStage
namespace Go.Proofs.YtimmcmjipmkebaaGreat
open Go.ChangeShapes Go.WideShapes Go.ChangeAt Go.RowKit
set_option maxRecDepth 100000
set_option linter.unusedSimpArgs false
theorem with1_any (B0 : Nat) (s x : MSet) (w : World) (hb : Blk w B0 52 s.cells) :
    Calls Tryz.prog 116 #[.agg x.cells.toArray, .pointer (some ⟨B0, 0, none⟩)] w fun e w' => e = .returned (.bool (!(ltTx x.path_ s.path_))) ∧ Below w.heap.size w w' := by
  have hB0 : Below w.heap.size w (w.alloc (.cells x.cells.toArray 52)) := (Below.refl _ w).alloc (Nat.le_refl _) _
  have h0 := hb.cell 0
  simp only [List.getElem?_cons_zero] at h0
  have hl := hb.lt
  have hg : (!(ltTx x.path_ s.path_)) = !(Op.bytesLess x.path_.toList s.path_.toList) := by
    rfl
  rw [hg]
  go_enter Tryz.func116, Tryz.ntmps116
  go_wp2
  go_ret
  exact ⟨by rfl, hB0⟩
theorem with_ways (s : MSet) (l : List MSet) : ∃ j : Nat, j ≤ l.length ∧ insS s.plain (l.map MSet.plain) = (l.take j ++ s :: l.drop j).map MSet.plain ∧ ((findI (fun y : MSet => !(ltTx y.path_ s.path_)) l = j ∧ j < l.length) ∨ (findI (fun y : MSet => !(ltTx y.path_ s.path_)) l = -1 ∧ j = l.length)) := by
  rcases findI_ways (fun y : MSet => !(ltTx y.path_ s.path_)) l with ⟨h1, h2⟩ | ⟨j, x, h1, h2, h3, h4⟩
  · refine ⟨l.length, Nat.le_refl _, ?_, .inr ⟨h1, rfl⟩⟩
    rw [insS_at (j := l.length)]
    · rw [show l.length = (l.map MSet.plain).length by simp, List.take_length, List.drop_length]
      simp
    · intro x hx
      obtain ⟨y, hy, rfl⟩ := List.mem_map.1 (List.mem_of_mem_take hx)
      have := h2 y hy
      show ltTx y.path_ s.path_ = true
      simpa using this
    · intro x hx
      have := (List.getElem?_eq_some_iff.1 hx).1
      simp at this
    · simp
  · have hj := (List.getElem?_eq_some_iff.1 h2).1
    refine ⟨j, by omega, ?_, .inl ⟨h1, hj⟩⟩
    rw [insS_at (j := j)]
    · simp [List.map_take, List.map_drop]
    · intro y hy
      rw [← List.map_take] at hy
      obtain ⟨z, hz, rfl⟩ := List.mem_map.1 hy
      have := h4 z hz
      show ltTx z.path_ s.path_ = true
      simpa using this
    · intro y hy
      rw [List.getElem?_map, h2] at hy
      simp at hy
      subst hy
      show ltTx x.path_ s.path_ = false
      simpa using h3
    · simp; omega
theorem mid_good {W W' : World} {x : MTenant} (h : x.Good W) (hB : Below W.heap.size W W') {n c : Nat} {A : Option Addr} {l : List MSet} (ho : W'.ownsRow n 52 5 (.slice A l.length c) l.length (l.flatMap MSet.cells)) (hl : l.length * 104 ≤ 140737488351232) (hg : ∀ s ∈ l, s.Good W) : ({ x with sets_ := ⟨A, l, c⟩ } : MTenant).Good W' := by
  obtain ⟨A2, c2, hv, hcap, hnil, hrd, _⟩ := ownAny ho
  injection hv with v1 v2 v3
  have h2 := h.below hB
  exact ⟨h2.gname_, h2.gquota_, h2.gnext_, ⟨by rw [v1]; exact hrd.1, fun s hs => (hg s hs).below hB, by rw [v3]; exact hcap, by rw [v1, v3]; exact hnil, hl⟩, h2.ggrants_, h2.gstages_, h2.glog_⟩
set_option maxHeartbeats 4000000 in
theorem with_any (x : MTenant) (q : MSet) (w : World) (hx : x.Good w) (hs : q.Good w) (hl : (x.sets_.l.length + 1) * 104 ≤ 140737488351232) :
    Calls Tryz.prog 60 #[.agg x.cells.toArray, .agg q.cells.toArray] w fun e w' => ∃ y : MTenant, e = .returned (.agg y.cells.toArray) ∧ OwnTe w.heap.size w' y ∧ y.Good w' ∧ y.plain = withP x.plain q.plain ∧ Below w.heap.size w w' := by
  obtain ⟨j, hj, hins, hw0⟩ := with_ways q x.sets_.l
  obtain ⟨xn, xq, xt, ⟨A, l, c⟩, xg, xs, xl⟩ := x
  dsimp only at hj hins hw0 hl
  obtain ⟨a1, hw1⟩ : ∃ a1, w.alloc (.cells #[.string xn, .int .i64 xq, .int .i64 xt, .slice A l.length c, .slice xg.A xg.l.length xg.c, .slice xs.A xs.l.length xs.c, .slice xl.A xl.l.length xl.c] 27) = a1 := ⟨_, rfl⟩
  have b1 : Below w.heap.size w a1 := hw1 ▸ (Below.refl _ w).alloc (Nat.le_refl _) _
  have k1 : Blk a1 w.heap.size 27 [.string xn, .int .i64 xq, .int .i64 xt, .slice A l.length c, .slice xg.A xg.l.length xg.c, .slice xs.A xs.l.length xs.c, .slice xl.A xl.l.length xl.c] := hw1 ▸ Blk.new w _ _
  obtain ⟨a2, hw2⟩ : ∃ a2, a1.alloc (.cells #[.string q.path_, .string q.origin_, .slice q.body_.A q.body_.l.length q.body_.c, .slice q.snaps_.A q.snaps_.l.length q.snaps_.c, .slice q.own_.A q.own_.l.length q.own_.c] 52) = a2 := ⟨_, rfl⟩
  have b2 : Below a1.heap.size a1 a2 := hw2 ▸ (Below.refl _ a1).alloc (Nat.le_refl _) _
  have k2 : Blk a2 a1.heap.size 52 [.string q.path_, .string q.origin_, .slice q.body_.A q.body_.l.length q.body_.c, .slice q.snaps_.A q.snaps_.l.length q.snaps_.c, .slice q.own_.A q.own_.l.length q.own_.c] := hw2 ▸ Blk.new a1 _ _
  have hX2 : w.heap.size + 1 = a1.heap.size := by rw [← hw1, World.size_alloc]
  obtain ⟨a3, hw3⟩ : ∃ a3, a2.alloc (.cells #[.string ⟨#[]⟩, .int .i64 0, .int .i64 0, .slice none 0 0, .slice none 0 0, .slice none 0 0, .slice none 0 0] 27) = a3 := ⟨_, rfl⟩
  have b3 : Below a2.heap.size a2 a3 := hw3 ▸ (Below.refl _ a2).alloc (Nat.le_refl _) _
  have k3 : Blk a3 a2.heap.size 27 [.string ⟨#[]⟩, .int .i64 0, .int .i64 0, .slice none 0 0, .slice none 0 0, .slice none 0 0, .slice none 0 0] := hw3 ▸ Blk.new a2 _ _
  have hX3 : a1.heap.size + 1 = a2.heap.size := by rw [← hw2, World.size_alloc]
  have hB1 : Below w.heap.size w a1 := b1
  have hB2 : Below w.heap.size w a2 := hB1.trans (b2.mono hB1.size)
  have hB3 : Below w.heap.size w a3 := hB2.trans (b3.mono hB2.size)
  have k1 := k1.of b2
  have k1 := k1.of b3
  have k2 := k2.of b3
  have hs3 := hB3.size
  have hs1 := hB1.size
  have ht1 : a1.heap.size ≤ a2.heap.size := b2.size
  have hs2 := hB2.size
  have ht2 : a2.heap.size ≤ a3.heap.size := b3.size
  have HW1 := Lib.hid hw1
  have HW2 := Lib.hid hw2
  have HW3 := Lib.hid hw3
  clear hw1 b1 hw2 b2 hw3 b3
  have hr := hx.gsets_.rd
  have hnil := hx.gsets_.nil
  have hcap := hx.gsets_.cap
  have hlen := hx.gsets_.len
  dsimp only at hr hnil hcap hlen
  have HI := indexMem Tryz.indexSet 5 Tryz.isAgg52 Tryz.sizeOf52 MSet.cells (fun _ => rfl) (by omega) (fun y : MSet => !(ltTx y.path_ q.path_)) 116 #[.pointer (some ⟨a1.heap.size, 0, none⟩)] (enters_of Tryz.func116 (by kernel_rfl) rfl) A c l.length l rfl a3
    (fun W y _ hB => with1_any a1.heap.size q y W (k2.of hB)) (by omega) (hr.below hB3)
  change Calls _ 114 _ _ _ at HI
  have HI' := Lib.hid HI
  have HR := Lib.hid (hr.below hB3)
  have HG := Lib.hid hx
  have HS := Lib.hid hs
  have HINS := Lib.hid hins
  clear HI hr hx hs hins
  obtain ⟨qq0, qq1, qq2, qq3, qq4, qq5, qq6⟩ := k1.all7
  obtain ⟨r0, r1, r2, r3, r4⟩ := k2.all5
  rcases hw0 with ⟨hF, hjl⟩ | ⟨hF, rfl⟩
  · skip
    rw [hF] at HI'
    clear hF
    go_enter Tryz.func60, Tryz.ntmps60
    go_upto_region 1 with fail
    rw [HW1.out, HW2.out, HW3.out]
    try rw [hX2]
    try rw [hX3]
    go_wp2_with fail
    refine HI'.out.mono ?_
    rintro e w3 ⟨rfl, hV⟩
    have K1 := k1.of hV
    have K2 := k2.of hV
    have K3 := k3.of hV
    have hB4 := hB3.trans (hV.mono hs3)
    have HR4 := Lib.hid (HR.out.below hV)
    clear HI'
    obtain ⟨t0, t1, t2, t3, t4, t5, t6⟩ := K1.all7
    obtain ⟨u0, u1, u2, u3, u4⟩ := K2.all5
    go_upto_region 4 with fail
    have hlo := fun W => run_lo A l.length c j (by omega) W
    have hhi := fun W => run_hi A l.length c j (by omega) W
    have hlt0 := K1.lt
    have hlt1 := K2.lt
    have tf3 := K1.frozen 3
    have hb3 : w.heap.size < a3.heap.size := by omega
    have hjt : (l.take j).length = j := by rw [List.length_take]; omega
    have hjd : (l.drop j).length = (l.length - j) := by simp
    have HCC := Lib.hid (fun (W : World) (hW : Below w3.heap.size w3 W) (g g2 : Nat) (hg : Blk W g 22 [.slice (cutA A c 0) j c, .slice (some ⟨g2, 0, none⟩) 1 1, .slice (cutA A c j) (l.length - j) (c - j)]) (hg2 : Blk W g2 52 q.cells) =>
      concat_any (some ⟨g, 0, none⟩) 3 [⟨cutA A c 0, l.take j, c⟩, ⟨some ⟨g2, 0, none⟩, [q], 1⟩, ⟨cutA A c j, l.drop j, c - j⟩] W
        (by
          simp only [Sl.val, List.map_cons, List.map_nil, hjt, hjd, List.length_singleton]
          intro _
          exact ⟨g, 0, rfl, hg.lt, fun k u hk => by rw [Nat.zero_add, hg.cell k]; exact hk⟩)
        (by
          intro y hy
          simp only [List.mem_cons, List.not_mem_nil, or_false] at hy
          rcases hy with rfl | rfl | rfl
          · exact ⟨cutS_take (HR4.out.below hW) j, fun e => by have := cutS_none (j := 0) hnil e; simpa using this⟩
          · refine ⟨fun _ => ⟨g2, 0, rfl, hg2.lt, fun k u hk => ?_⟩, fun e => by cases e⟩
            rw [Nat.zero_add, hg2.cell k]
            simpa using hk
          · exact ⟨cutS_drop (HR4.out.below hW) hcap j, cutS_none hnil⟩)
        (by simp) (by unfold lenS; simp only [List.map_cons, List.map_nil, hjt, hjd, List.length_singleton, List.sum_cons, List.sum_nil]; omega))
    obtain ⟨L, hL⟩ : ∃ L, l.take j ++ q :: l.drop j = L := ⟨_, rfl⟩
    have hlen5 : L.length = l.length + 1 := by rw [← hL, List.length_append, List.length_cons, hjt, hjd] <;> omega
    have hfl : ∀ g2 : Nat, [(⟨cutA A c 0, l.take j, c⟩ : Sl MSet), ⟨some ⟨g2, 0, none⟩, [q], 1⟩, ⟨cutA A c j, l.drop j, c - j⟩].flatMap Sl.l = L := fun g2 => by
      rw [← hL]
      simp
    have HFL := Lib.hid hfl
    have HL := Lib.hid hL
    have HLEN := Lib.hid hlen5
    clear hL hfl hlen5
    refine wp_region_noPanic ?_
    refine wp_region_last 13 (fun W => W.cell? ⟨w.heap.size, 3, none⟩ = some (.slice A l.length c) ∧ W.frozen? ⟨w.heap.size, 3, none⟩ = false ∧ W.cell? ⟨a1.heap.size, 0, none⟩ = some (.string q.path_) ∧ W.cell? ⟨a1.heap.size, 1, none⟩ = some (.string q.origin_) ∧ W.cell? ⟨a1.heap.size, 2, none⟩ = some (.slice q.body_.A q.body_.l.length q.body_.c) ∧ W.cell? ⟨a1.heap.size, 3, none⟩ = some (.slice q.snaps_.A q.snaps_.l.length q.snaps_.c) ∧ W.cell? ⟨a1.heap.size, 4, none⟩ = some (.slice q.own_.A q.own_.l.length q.own_.c)) (by kernel_rfl) ⟨t3, tf3, u0, u1, u2, u3, u4⟩ (fun hHeld => ?_)
    refine tkA 16 (i := 0) (oi := ⟨some 15, _, _, _, _, _⟩) rfl hHeld ?_
    try simp only [Act.put, pZa, pZb, pZc]
    refine tkA 16 (i := 1) (oi := ⟨some 16, _, _, _, _, _⟩) rfl hHeld ?_
    try simp only [Act.put, pZa, pZb, pZc]
    refine tkA 16 (i := 2) (oi := ⟨some 17, _, _, _, _, _⟩) rfl hHeld ?_
    try simp only [Act.put, pZa, pZb, pZc]
    refine tkA 16 (i := 4) (oi := ⟨some 19, _, _, _, _, _⟩) rfl hHeld ?_
    try simp only [Act.put, pZa, pZb, pZc]
    refine tkA 16 (i := 6) (oi := ⟨some 21, _, _, _, _, _⟩) rfl hHeld ?_
    try simp only [Act.put, pZa, pZb, pZc]
    refine tkA 16 (i := 7) (oi := ⟨some 22, _, _, _, _, _⟩) rfl hHeld ?_
    try simp only [Act.put, pZa, pZb, pZc]
    refine tkA 16 (i := 8) (oi := ⟨some 23, _, _, _, _, _⟩) rfl hHeld ?_
    try simp only [Act.put, pZa, pZb, pZc]
    clear hHeld
    refine wpAnyL_facts 16 5 2 [(3, 18), (5, 20), (9, 24), (10, 25), (11, 26)] (fun s v w => match s with
      | 18 => v = .slice (cutA A c 0) j c
      | 20 => ∃ g, v = .slice (some ⟨g, 0, none⟩) 1 1 ∧ Blk w g 52 q.cells
      | 24 => v = .slice (cutA A c j) (l.length - j) (c - j)
      | 25 => ∃ g g2, v = .slice (some ⟨g, 0, none⟩) 3 3 ∧ Blk w g 22 [.slice (cutA A c 0) j c, .slice (some ⟨g2, 0, none⟩) 1 1, .slice (cutA A c j) (l.length - j) (c - j)] ∧ Blk w g2 52 q.cells
      | 26 => w.ownsRow w3.heap.size 52 5 v L.length (L.flatMap MSet.cells)
      | _ => True) (fun w w' => Below w.heap.size w w') (by kernel_rfl) (by kernel_rfl) bZh ⟨?_, ?_, ?_, ?_, ?_, trivial⟩ (fun w' hB => ⟨(hB.cell (p := ⟨w.heap.size, 3, none⟩) hlt0).trans t3, (K1.drew.below hB hlt0).frozen 3, (hB.cell (p := ⟨a1.heap.size, 0, none⟩) hlt1).trans u0, (hB.cell (p := ⟨a1.heap.size, 1, none⟩) hlt1).trans u1, (hB.cell (p := ⟨a1.heap.size, 2, none⟩) hlt1).trans u2, (hB.cell (p := ⟨a1.heap.size, 3, none⟩) hlt1).trans u3, (hB.cell (p := ⟨a1.heap.size, 4, none⟩) hlt1).trans u4⟩) ⟨?_, ?_, ?_, ?_, ?_, trivial⟩ ?_
    focus
      intro v w w' h hB
      exact h
    focus
      intro v w w' h hB
      exact (by obtain ⟨g, e, hb⟩ := h; exact ⟨g, e, hb.below hB hb.lt⟩)
    focus
      intro v w w' h hB
      exact h
    focus
      intro v w w' h hB
      exact (by obtain ⟨g, g2, e, hb, hb2⟩ := h; exact ⟨g, g2, e, hb.below hB hb.lt, hb2.below hB hb2.lt⟩)
    focus
      intro v w w' h hB
      exact (ownBelow h hB (Nat.le_refl _))
    focus
      intro vs w2 hBf hFf o ho K hK
      obtain rfl : (⟨some 18, _, _, _, _, _⟩ : Oper) = o := Option.some.inj ho
      clear ho
      (try simp only [fillL, pZd, pZe, Act.put, pZa, pZb, pZc] at hK ⊢)
      go_simp
      refine hK.out _ _ ⟨rfl, Below.refl _ _⟩
    focus
      intro vs w2 hBf hFf o ho K hK
      obtain rfl : (⟨some 20, _, _, _, _, _⟩ : Oper) = o := Option.some.inj ho
      clear ho
      (try simp only [fillL, pZd, pZe, Act.put, pZa, pZb, pZc] at hK ⊢)
      go_simp
      refine hK.out _ _ ⟨⟨w2.heap.size, rfl, Blk.new w2 _ _⟩, (Below.refl _ w2).alloc (Nat.le_refl _) _⟩
    focus
      intro vs w2 hBf hFf o ho K hK
      obtain rfl : (⟨some 24, _, _, _, _, _⟩ : Oper) = o := Option.some.inj ho
      clear ho
      (try simp only [fillL, pZd, pZe, Act.put, pZa, pZb, pZc] at hK ⊢)
      go_simp
      refine hK.out _ _ ⟨rfl, Below.refl _ _⟩
    focus
      intro vs w2 hBf hFf o ho K hK
      obtain rfl : (⟨some 25, _, _, _, _, _⟩ : Oper) = o := Option.some.inj ho
      clear ho
      (try simp only [fillL, pZd, pZe, Act.put, pZa, pZb, pZc] at hK ⊢)
      obtain ⟨g20, e20, hb20⟩ := (hFf (5, 20) (by simp) (by kernel_rfl))
      have e18 := (hFf (3, 18) (by simp) (by kernel_rfl))
      have e24 := (hFf (9, 24) (by simp) (by kernel_rfl))
      simp only [] at e18 e24
      simp only [e18, e20, e24] at hK ⊢
      go_simp
      refine hK.out _ _ ⟨⟨w2.heap.size, g20, rfl, Blk.new w2 _ _, hb20.below ((Below.refl _ w2).alloc (Nat.le_refl _) _) hb20.lt⟩, (Below.refl _ w2).alloc (Nat.le_refl _) _⟩
    focus
      intro vs w2 hBf hFf o ho K hK
      obtain rfl : (⟨some 26, _, _, _, _, _⟩ : Oper) = o := Option.some.inj ho
      clear ho
      (try simp only [fillL, pZd, pZe, Act.put, pZa, pZb, pZc] at hK ⊢)
      obtain ⟨g25, g20, e25, hb25, hb20⟩ := (hFf (10, 25) (by simp) (by kernel_rfl))
      simp only [e25] at hK ⊢
      go_simp
      refine (HCC.out _ ((Below.refl w3.heap.size w3).drew.trans hBf) g25 g20 hb25 hb20).mono ?_
      rintro e w4 ⟨v4, rfl, ho4, hB4⟩
      rw [HFL.out g20] at ho4
      exact hK.out _ _ ⟨ownBase ho4 ((Below.refl w3.heap.size w3).drew.trans hBf).size, hB4⟩
    intro vs w2 hBf hFf
    (try simp only [fillL, pZd, pZe, Act.put, pZa, pZb, pZc])
    have h26 := (hFf (11, 26) (by simp))
    simp only [] at h26
    obtain ⟨A26, c26, e26, _, _, _, _⟩ := ownAny h26
    rw [e26] at h26
    simp only [e26]
    have hBw : Below w3.heap.size w3 w2 := (Below.refl w3.heap.size w3).drew.trans hBf
    have H26 := Lib.hid h26
    have KT := K1.of hBw
    have KR := K3.of hBw
    clear h26
    have hHeld : (fun W => W.cell? ⟨w.heap.size, 3, none⟩ = some (.slice A l.length c) ∧ W.frozen? ⟨w.heap.size, 3, none⟩ = false ∧ W.cell? ⟨a1.heap.size, 0, none⟩ = some (.string q.path_) ∧ W.cell? ⟨a1.heap.size, 1, none⟩ = some (.string q.origin_) ∧ W.cell? ⟨a1.heap.size, 2, none⟩ = some (.slice q.body_.A q.body_.l.length q.body_.c) ∧ W.cell? ⟨a1.heap.size, 3, none⟩ = some (.slice q.snaps_.A q.snaps_.l.length q.snaps_.c) ∧ W.cell? ⟨a1.heap.size, 4, none⟩ = some (.slice q.own_.A q.own_.l.length q.own_.c)) w2 := ⟨(hBf.cell (p := ⟨w.heap.size, 3, none⟩) hlt0).trans t3, (K1.drew.below hBf hlt0).frozen 3, (hBf.cell (p := ⟨a1.heap.size, 0, none⟩) hlt1).trans u0, (hBf.cell (p := ⟨a1.heap.size, 1, none⟩) hlt1).trans u1, (hBf.cell (p := ⟨a1.heap.size, 2, none⟩) hlt1).trans u2, (hBf.cell (p := ⟨a1.heap.size, 3, none⟩) hlt1).trans u3, (hBf.cell (p := ⟨a1.heap.size, 4, none⟩) hlt1).trans u4⟩
    refine tkA 16 (i := 12) (oi := ⟨some 27, _, _, _, _, _⟩) rfl hHeld ?_
    try simp only [Act.put, pZa, pZb, pZc]
    refine wpAnyL_last (i := 13) (o := ⟨none, _, _, _, _, _⟩) (by kernel_rfl) rfl (by kernel_rfl) (fun K hK => ?_)
    go_simp
    go_wp2_with fail
    refine hK.out _ _ ?_
    clear hK K
    try simp only [Act.put, pZa, pZb, pZc]
    refine wpAnyL_done (by kernel_rfl) ?_ _
    refine NoPanic.normal ?_
    have hBw3 : Below w.heap.size w w2 := hB4.trans (hBw.mono hB4.size)
    have KT5 := KT.set 3 (.slice A26 L.length c26)
    have hne : a2.heap.size ≠ w.heap.size := by omega
    have KR5 := KR.other (g' := w.heap.size) hne 3 (.slice A26 L.length c26)
    have ho5 := own_setT (j := 3) (u := (.slice A26 L.length c26)) H26.out KT (by decide)
    obtain ⟨w5, hw5⟩ : ∃ w5, w2.setCell ⟨w.heap.size, 3, none⟩ (.slice A26 L.length c26) = w5 := ⟨_, rfl⟩
    rw [hw5] at KT5 KR5 ho5
    have hB5 : Below w.heap.size w w5 := by
      rw [← hw5]
      exact hBw3.setCell (p := ⟨w.heap.size, 3, none⟩) (Nat.le_refl _) _
    have hlen5 := HLEN.out
    have hL := HL.out
    have HG5 := mid_good HG.out hB5 ho5 (by rw [hlen5]; exact hl) (fun y hy => by
      rw [← hL] at hy
      rcases List.mem_append.1 hy with h | h
      · exact HG.out.gsets_.el y (List.mem_of_mem_take h)
      · rcases List.mem_cons.1 h with rfl | h
        · exact HS.out
        · exact HG.out.gsets_.el y (List.mem_of_mem_drop h))
    have HCP := Lib.hid (copy_any _ w5 HG5)
    have hpl : ({ (⟨xn, xq, xt, ⟨A, l, c⟩, xg, xs, xl⟩ : MTenant) with sets_ := ⟨A26, L, c26⟩ } : MTenant).plain = withP (⟨xn, xq, xt, ⟨A, l, c⟩, xg, xs, xl⟩ : MTenant).plain q.plain := by
      unfold withP
      show (⟨xn, xq, xt, L.map MSet.plain, xg.l, xs.l.map MStage.plain, xl.l.map MEntry.plain⟩ : PTenant) = ⟨xn, xq, xt, insS q.plain (l.map MSet.plain), xg.l, xs.l.map MStage.plain, xl.l.map MEntry.plain⟩
      rw [HINS.out, hL]
    have HPL := Lib.hid hpl
    have HGG := Lib.hid HG5
    have hs5 := hB5.size
    have hlr := KR5.lt
    have HWW := Lib.hid hw5
    simp only [List.set_cons_zero, List.set_cons_succ] at KT5
    clear hpl HG5 hw5 ho5 hL hlen5 HCC HR4 H26
    obtain ⟨p0, p1, p2, p3, p4, p5, p6⟩ := KT5.all7
    try rw [HWW.out]
    go_wp2_with fail
    refine HCP.out.mono ?_
    rintro e w6 ⟨y, rfl, ho6, hp6, hB6⟩
    have K6 := KR5.of hB6
    have hX6 := hB5.trans (hB6.mono hs5)
    obtain ⟨zr0, zr1, zr2, zr3, zr4, zr5, zr6⟩ := K6.all7
    obtain ⟨zrf0, zrf1, zrf2, zrf3, zrf4, zrf5, zrf6⟩ := K6.fz7
    go_wp2
    generalize hwE : World.setCell _ ⟨a2.heap.size, 6, none⟩ _ = wE
    obtain ⟨KE, SE, ZE, BE⟩ := store7 K6 hwE
    obtain ⟨ze0, ze1, ze2, ze3, ze4, ze5, ze6⟩ := KE.all7
    refine bodyPost_ret (v := .agg #[.string y.name_, .int .i64 y.quota_, .int .i64 y.next_, .slice y.sets_.A y.sets_.l.length y.sets_.c, .slice y.grants_.A y.grants_.l.length y.grants_.c, .slice y.stages_.A y.stages_.l.length y.stages_.c, .slice y.log_.A y.log_.l.length y.log_.c]) (by simp [results, Tryz.results60, go_sem, ze0, ze1, ze2, ze3, ze4, ze5, ze6]) rfl ?_
    exact ⟨y, rfl, (ho6.store hlr SE).base hs5, MTenant.Good.of_own HGG.out hp6 (ho6.store hlr SE), hp6.trans HPL.out, BE _ _ hX6 (by omega)⟩
  · skip
    rw [hF] at HI'
    clear hF
    go_enter Tryz.func60, Tryz.ntmps60
    go_upto_region 1 with fail
    rw [HW1.out, HW2.out, HW3.out]
    try rw [hX2]
    try rw [hX3]
    go_wp2_with fail
    refine HI'.out.mono ?_
    rintro e w3 ⟨rfl, hV⟩
    have K1 := k1.of hV
    have K2 := k2.of hV
    have K3 := k3.of hV
    have hB4 := hB3.trans (hV.mono hs3)
    have HR4 := Lib.hid (HR.out.below hV)
    clear HI'
    obtain ⟨t0, t1, t2, t3, t4, t5, t6⟩ := K1.all7
    obtain ⟨u0, u1, u2, u3, u4⟩ := K2.all5
    go_upto_region 4 with fail
    have hlo := fun W => run_lo A l.length c l.length (by omega) W
    have hhi := fun W => run_hi A l.length c l.length (by omega) W
    have hlt0 := K1.lt
    have hlt1 := K2.lt
    have tf3 := K1.frozen 3
    have hb3 : w.heap.size < a3.heap.size := by omega
    have hjt : (l.take l.length).length = l.length := by rw [List.length_take]; omega
    have hjd : (l.drop l.length).length = 0 := by simp
    have HCC := Lib.hid (fun (W : World) (hW : Below w3.heap.size w3 W) (g g2 : Nat) (hg : Blk W g 22 [.slice (cutA A c 0) l.length c, .slice (some ⟨g2, 0, none⟩) 1 1, .slice (cutA A c l.length) 0 (c - l.length)]) (hg2 : Blk W g2 52 q.cells) =>
      concat_any (some ⟨g, 0, none⟩) 3 [⟨cutA A c 0, l.take l.length, c⟩, ⟨some ⟨g2, 0, none⟩, [q], 1⟩, ⟨cutA A c l.length, l.drop l.length, c - l.length⟩] W
        (by
          simp only [Sl.val, List.map_cons, List.map_nil, hjt, hjd, List.length_singleton]
          intro _
          exact ⟨g, 0, rfl, hg.lt, fun k u hk => by rw [Nat.zero_add, hg.cell k]; exact hk⟩)
        (by
          intro y hy
          simp only [List.mem_cons, List.not_mem_nil, or_false] at hy
          rcases hy with rfl | rfl | rfl
          · exact ⟨cutS_take (HR4.out.below hW) l.length, fun e => by have := cutS_none (j := 0) hnil e; simpa using this⟩
          · refine ⟨fun _ => ⟨g2, 0, rfl, hg2.lt, fun k u hk => ?_⟩, fun e => by cases e⟩
            rw [Nat.zero_add, hg2.cell k]
            simpa using hk
          · exact ⟨cutS_drop (HR4.out.below hW) hcap l.length, cutS_none hnil⟩)
        (by simp) (by unfold lenS; simp only [List.map_cons, List.map_nil, hjt, hjd, List.length_singleton, List.sum_cons, List.sum_nil]; omega))
    obtain ⟨L, hL⟩ : ∃ L, l.take l.length ++ q :: l.drop l.length = L := ⟨_, rfl⟩
    have hlen5 : L.length = l.length + 1 := by rw [← hL, List.length_append, List.length_cons, hjt, hjd] <;> omega
    have hfl : ∀ g2 : Nat, [(⟨cutA A c 0, l.take l.length, c⟩ : Sl MSet), ⟨some ⟨g2, 0, none⟩, [q], 1⟩, ⟨cutA A c l.length, l.drop l.length, c - l.length⟩].flatMap Sl.l = L := fun g2 => by
      rw [← hL]
      simp
    have HFL := Lib.hid hfl
    have HL := Lib.hid hL
    have HLEN := Lib.hid hlen5
    clear hL hfl hlen5
    refine wp_region_noPanic ?_
    refine wp_region_last 13 (fun W => W.cell? ⟨w.heap.size, 3, none⟩ = some (.slice A l.length c) ∧ W.frozen? ⟨w.heap.size, 3, none⟩ = false ∧ W.cell? ⟨a1.heap.size, 0, none⟩ = some (.string q.path_) ∧ W.cell? ⟨a1.heap.size, 1, none⟩ = some (.string q.origin_) ∧ W.cell? ⟨a1.heap.size, 2, none⟩ = some (.slice q.body_.A q.body_.l.length q.body_.c) ∧ W.cell? ⟨a1.heap.size, 3, none⟩ = some (.slice q.snaps_.A q.snaps_.l.length q.snaps_.c) ∧ W.cell? ⟨a1.heap.size, 4, none⟩ = some (.slice q.own_.A q.own_.l.length q.own_.c)) (by kernel_rfl) ⟨t3, tf3, u0, u1, u2, u3, u4⟩ (fun hHeld => ?_)
    refine tkA 16 (i := 0) (oi := ⟨some 15, _, _, _, _, _⟩) rfl hHeld ?_
    try simp only [Act.put, pZa, pZb, pZc]
    refine tkA 16 (i := 1) (oi := ⟨some 16, _, _, _, _, _⟩) rfl hHeld ?_
    try simp only [Act.put, pZa, pZb, pZc]
    refine tkA 16 (i := 2) (oi := ⟨some 17, _, _, _, _, _⟩) rfl hHeld ?_
    try simp only [Act.put, pZa, pZb, pZc]
    refine tkA 16 (i := 4) (oi := ⟨some 19, _, _, _, _, _⟩) rfl hHeld ?_
    try simp only [Act.put, pZa, pZb, pZc]
    refine tkA 16 (i := 6) (oi := ⟨some 21, _, _, _, _, _⟩) rfl hHeld ?_
    try simp only [Act.put, pZa, pZb, pZc]
    refine tkA 16 (i := 7) (oi := ⟨some 22, _, _, _, _, _⟩) rfl hHeld ?_
    try simp only [Act.put, pZa, pZb, pZc]
    refine tkA 16 (i := 8) (oi := ⟨some 23, _, _, _, _, _⟩) rfl hHeld ?_
    try simp only [Act.put, pZa, pZb, pZc]
    clear hHeld
    refine wpAnyL_facts 16 5 2 [(3, 18), (5, 20), (9, 24), (10, 25), (11, 26)] (fun s v w => match s with
      | 18 => v = .slice (cutA A c 0) l.length c
      | 20 => ∃ g, v = .slice (some ⟨g, 0, none⟩) 1 1 ∧ Blk w g 52 q.cells
      | 24 => v = .slice (cutA A c l.length) 0 (c - l.length)
      | 25 => ∃ g g2, v = .slice (some ⟨g, 0, none⟩) 3 3 ∧ Blk w g 22 [.slice (cutA A c 0) l.length c, .slice (some ⟨g2, 0, none⟩) 1 1, .slice (cutA A c l.length) 0 (c - l.length)] ∧ Blk w g2 52 q.cells
      | 26 => w.ownsRow w3.heap.size 52 5 v L.length (L.flatMap MSet.cells)
      | _ => True) (fun w w' => Below w.heap.size w w') (by kernel_rfl) (by kernel_rfl) bZh ⟨?_, ?_, ?_, ?_, ?_, trivial⟩ (fun w' hB => ⟨(hB.cell (p := ⟨w.heap.size, 3, none⟩) hlt0).trans t3, (K1.drew.below hB hlt0).frozen 3, (hB.cell (p := ⟨a1.heap.size, 0, none⟩) hlt1).trans u0, (hB.cell (p := ⟨a1.heap.size, 1, none⟩) hlt1).trans u1, (hB.cell (p := ⟨a1.heap.size, 2, none⟩) hlt1).trans u2, (hB.cell (p := ⟨a1.heap.size, 3, none⟩) hlt1).trans u3, (hB.cell (p := ⟨a1.heap.size, 4, none⟩) hlt1).trans u4⟩) ⟨?_, ?_, ?_, ?_, ?_, trivial⟩ ?_
    focus
      intro v w w' h hB
      exact h
    focus
      intro v w w' h hB
      exact (by obtain ⟨g, e, hb⟩ := h; exact ⟨g, e, hb.below hB hb.lt⟩)
    focus
      intro v w w' h hB
      exact h
    focus
      intro v w w' h hB
      exact (by obtain ⟨g, g2, e, hb, hb2⟩ := h; exact ⟨g, g2, e, hb.below hB hb.lt, hb2.below hB hb2.lt⟩)
    focus
      intro v w w' h hB
      exact (ownBelow h hB (Nat.le_refl _))
    focus
      intro vs w2 hBf hFf o ho K hK
      obtain rfl : (⟨some 18, _, _, _, _, _⟩ : Oper) = o := Option.some.inj ho
      clear ho
      (try simp only [fillL, pZd, pZe, Act.put, pZa, pZb, pZc] at hK ⊢)
      go_simp
      refine hK.out _ _ ⟨rfl, Below.refl _ _⟩
    focus
      intro vs w2 hBf hFf o ho K hK
      obtain rfl : (⟨some 20, _, _, _, _, _⟩ : Oper) = o := Option.some.inj ho
      clear ho
      (try simp only [fillL, pZd, pZe, Act.put, pZa, pZb, pZc] at hK ⊢)
      go_simp
      refine hK.out _ _ ⟨⟨w2.heap.size, rfl, Blk.new w2 _ _⟩, (Below.refl _ w2).alloc (Nat.le_refl _) _⟩
    focus
      intro vs w2 hBf hFf o ho K hK
      obtain rfl : (⟨some 24, _, _, _, _, _⟩ : Oper) = o := Option.some.inj ho
      clear ho
      (try simp only [fillL, pZd, pZe, Act.put, pZa, pZb, pZc] at hK ⊢)
      go_simp
      refine hK.out _ _ ⟨rfl, Below.refl _ _⟩
    focus
      intro vs w2 hBf hFf o ho K hK
      obtain rfl : (⟨some 25, _, _, _, _, _⟩ : Oper) = o := Option.some.inj ho
      clear ho
      (try simp only [fillL, pZd, pZe, Act.put, pZa, pZb, pZc] at hK ⊢)
      obtain ⟨g20, e20, hb20⟩ := (hFf (5, 20) (by simp) (by kernel_rfl))
      have e18 := (hFf (3, 18) (by simp) (by kernel_rfl))
      have e24 := (hFf (9, 24) (by simp) (by kernel_rfl))
      simp only [] at e18 e24
      simp only [e18, e20, e24] at hK ⊢
      go_simp
      refine hK.out _ _ ⟨⟨w2.heap.size, g20, rfl, Blk.new w2 _ _, hb20.below ((Below.refl _ w2).alloc (Nat.le_refl _) _) hb20.lt⟩, (Below.refl _ w2).alloc (Nat.le_refl _) _⟩
    focus
      intro vs w2 hBf hFf o ho K hK
      obtain rfl : (⟨some 26, _, _, _, _, _⟩ : Oper) = o := Option.some.inj ho
      clear ho
      (try simp only [fillL, pZd, pZe, Act.put, pZa, pZb, pZc] at hK ⊢)
      obtain ⟨g25, g20, e25, hb25, hb20⟩ := (hFf (10, 25) (by simp) (by kernel_rfl))
      simp only [e25] at hK ⊢
      go_simp
      refine (HCC.out _ ((Below.refl w3.heap.size w3).drew.trans hBf) g25 g20 hb25 hb20).mono ?_
      rintro e w4 ⟨v4, rfl, ho4, hB4⟩
      rw [HFL.out g20] at ho4
      exact hK.out _ _ ⟨ownBase ho4 ((Below.refl w3.heap.size w3).drew.trans hBf).size, hB4⟩
    intro vs w2 hBf hFf
    (try simp only [fillL, pZd, pZe, Act.put, pZa, pZb, pZc])
    have h26 := (hFf (11, 26) (by simp))
    simp only [] at h26
    obtain ⟨A26, c26, e26, _, _, _, _⟩ := ownAny h26
    rw [e26] at h26
    simp only [e26]
    have hBw : Below w3.heap.size w3 w2 := (Below.refl w3.heap.size w3).drew.trans hBf
    have H26 := Lib.hid h26
    have KT := K1.of hBw
    have KR := K3.of hBw
    clear h26
    have hHeld : (fun W => W.cell? ⟨w.heap.size, 3, none⟩ = some (.slice A l.length c) ∧ W.frozen? ⟨w.heap.size, 3, none⟩ = false ∧ W.cell? ⟨a1.heap.size, 0, none⟩ = some (.string q.path_) ∧ W.cell? ⟨a1.heap.size, 1, none⟩ = some (.string q.origin_) ∧ W.cell? ⟨a1.heap.size, 2, none⟩ = some (.slice q.body_.A q.body_.l.length q.body_.c) ∧ W.cell? ⟨a1.heap.size, 3, none⟩ = some (.slice q.snaps_.A q.snaps_.l.length q.snaps_.c) ∧ W.cell? ⟨a1.heap.size, 4, none⟩ = some (.slice q.own_.A q.own_.l.length q.own_.c)) w2 := ⟨(hBf.cell (p := ⟨w.heap.size, 3, none⟩) hlt0).trans t3, (K1.drew.below hBf hlt0).frozen 3, (hBf.cell (p := ⟨a1.heap.size, 0, none⟩) hlt1).trans u0, (hBf.cell (p := ⟨a1.heap.size, 1, none⟩) hlt1).trans u1, (hBf.cell (p := ⟨a1.heap.size, 2, none⟩) hlt1).trans u2, (hBf.cell (p := ⟨a1.heap.size, 3, none⟩) hlt1).trans u3, (hBf.cell (p := ⟨a1.heap.size, 4, none⟩) hlt1).trans u4⟩
    refine tkA 16 (i := 12) (oi := ⟨some 27, _, _, _, _, _⟩) rfl hHeld ?_
    try simp only [Act.put, pZa, pZb, pZc]
    refine wpAnyL_last (i := 13) (o := ⟨none, _, _, _, _, _⟩) (by kernel_rfl) rfl (by kernel_rfl) (fun K hK => ?_)
    go_simp
    go_wp2_with fail
    refine hK.out _ _ ?_
    clear hK K
    try simp only [Act.put, pZa, pZb, pZc]
    refine wpAnyL_done (by kernel_rfl) ?_ _
    refine NoPanic.normal ?_
    have hBw3 : Below w.heap.size w w2 := hB4.trans (hBw.mono hB4.size)
    have KT5 := KT.set 3 (.slice A26 L.length c26)
    have hne : a2.heap.size ≠ w.heap.size := by omega
    have KR5 := KR.other (g' := w.heap.size) hne 3 (.slice A26 L.length c26)
    have ho5 := own_setT (j := 3) (u := (.slice A26 L.length c26)) H26.out KT (by decide)
    obtain ⟨w5, hw5⟩ : ∃ w5, w2.setCell ⟨w.heap.size, 3, none⟩ (.slice A26 L.length c26) = w5 := ⟨_, rfl⟩
    rw [hw5] at KT5 KR5 ho5
    have hB5 : Below w.heap.size w w5 := by
      rw [← hw5]
      exact hBw3.setCell (p := ⟨w.heap.size, 3, none⟩) (Nat.le_refl _) _
    have hlen5 := HLEN.out
    have hL := HL.out
    have HG5 := mid_good HG.out hB5 ho5 (by rw [hlen5]; exact hl) (fun y hy => by
      rw [← hL] at hy
      rcases List.mem_append.1 hy with h | h
      · exact HG.out.gsets_.el y (List.mem_of_mem_take h)
      · rcases List.mem_cons.1 h with rfl | h
        · exact HS.out
        · exact HG.out.gsets_.el y (List.mem_of_mem_drop h))
    have HCP := Lib.hid (copy_any _ w5 HG5)
    have hpl : ({ (⟨xn, xq, xt, ⟨A, l, c⟩, xg, xs, xl⟩ : MTenant) with sets_ := ⟨A26, L, c26⟩ } : MTenant).plain = withP (⟨xn, xq, xt, ⟨A, l, c⟩, xg, xs, xl⟩ : MTenant).plain q.plain := by
      unfold withP
      show (⟨xn, xq, xt, L.map MSet.plain, xg.l, xs.l.map MStage.plain, xl.l.map MEntry.plain⟩ : PTenant) = ⟨xn, xq, xt, insS q.plain (l.map MSet.plain), xg.l, xs.l.map MStage.plain, xl.l.map MEntry.plain⟩
      rw [HINS.out, hL]
    have HPL := Lib.hid hpl
    have HGG := Lib.hid HG5
    have hs5 := hB5.size
    have hlr := KR5.lt
    have HWW := Lib.hid hw5
    simp only [List.set_cons_zero, List.set_cons_succ] at KT5
    clear hpl HG5 hw5 ho5 hL hlen5 HCC HR4 H26
    obtain ⟨p0, p1, p2, p3, p4, p5, p6⟩ := KT5.all7
    try rw [HWW.out]
    go_wp2_with fail
    refine HCP.out.mono ?_
    rintro e w6 ⟨y, rfl, ho6, hp6, hB6⟩
    have K6 := KR5.of hB6
    have hX6 := hB5.trans (hB6.mono hs5)
    obtain ⟨zr0, zr1, zr2, zr3, zr4, zr5, zr6⟩ := K6.all7
    obtain ⟨zrf0, zrf1, zrf2, zrf3, zrf4, zrf5, zrf6⟩ := K6.fz7
    go_wp2
    generalize hwE : World.setCell _ ⟨a2.heap.size, 6, none⟩ _ = wE
    obtain ⟨KE, SE, ZE, BE⟩ := store7 K6 hwE
    obtain ⟨ze0, ze1, ze2, ze3, ze4, ze5, ze6⟩ := KE.all7
    refine bodyPost_ret (v := .agg #[.string y.name_, .int .i64 y.quota_, .int .i64 y.next_, .slice y.sets_.A y.sets_.l.length y.sets_.c, .slice y.grants_.A y.grants_.l.length y.grants_.c, .slice y.stages_.A y.stages_.l.length y.stages_.c, .slice y.log_.A y.log_.l.length y.log_.c]) (by simp [results, Tryz.results60, go_sem, ze0, ze1, ze2, ze3, ze4, ze5, ze6]) rfl ?_
    exact ⟨y, rfl, (ho6.store hlr SE).base hs5, MTenant.Good.of_own HGG.out hp6 (ho6.store hlr SE), hp6.trans HPL.out, BE _ _ hX6 (by omega)⟩
theorem Oth.more {C : Nat} {Z W W' : World} (h : Oth C Z W) (hB : Below Z.heap.size W W') : Oth C Z W' := ⟨hB.os.trans h.os, hB.tape.trans h.tape, hB.output.trans h.output, Nat.le_trans h.size hB.size, fun k hk hc => (hB.block k hk).trans (h.block k hk hc)⟩
theorem Oth.keeps {C : Nat} {Z W : World} (h : Oth C Z W) {cs : List Value} (hb : Blk Z C 27 cs) : Keeps 27 Z W := fun b cur e' hbb hne => h.block b (Array.getElem?_eq_some_iff.1 hbb).1 (by
  rintro rfl
  unfold Blk at hb
  rw [hbb] at hb
  injection hb with hb
  injection hb with _ h6 _
  exact hne h6)
end Go.Proofs.YtimmcmjipmkebaaGreat
