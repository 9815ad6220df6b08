/-
  UsageSnaps' walk. Conditions: the set and the name are as they come in.
-/
import Derived.Test.YtnoidcelinaenaaUSW
import Derived.Test.YtnoidcelinaenaaUSQ
import Derived.Test.YtnoidcelinaenaaUSU
import Derived.Test.YtnoidcelinaenaaAE
import Derived.Test.YtnoidcelinaenaaKP
namespace Go.Proofs.Ytnoidcelinaenaa
open Go.ChangeShapes Go.WideShapes Go.ChangeAt Go.RowKit
set_option maxRecDepth 100000
set_option linter.unusedSimpArgs false

theorem i64w (a : Int) : IntKind.i64.wrap a = wrap64 a := by
  simp [IntKind.wrap, IntKind.bits, IntKind.signed, wrap64]
  split <;> omega
set_option maxRecDepth 100000 in
theorem infoSn15 : (Try.prog.info? 42).map (fun i => (i.zero, i.size, i.bytes)) = some (some (.agg #[.string ByteArray.empty, .int .i64 0, .slice none 0 0, .slice none 0 0, .slice none 0 0]), 5, 96) := by kernel_rfl

/-- A snapshot of a set, of that name. -/
def snapN (s : MSet) (name : ByteArray) : MSnap := ⟨name, 0, s.body_, ⟨none, [], 0⟩, ⟨none, [], 0⟩⟩
/-- The set with it. -/
def withN (s : MSet) (name : ByteArray) (A : Option Addr) (c : Nat) : MSet := ⟨s.path_, s.origin_, s.body_, ⟨A, s.snaps_.l ++ [snapN s name], c⟩, s.own_⟩
theorem withN_line (s : MSet) (name : ByteArray) (A : Option Addr) (c : Nat) : lineM (withN s name A c) = lineM s ++ [s.body_] := by
  unfold lineM withN
  simp [snapN]
theorem withN_c (s : MSet) (name : ByteArray) (A : Option Addr) (c : Nat) : setC (withN s name A c) = setC s + (1 + s.body_.l.length) := by
  unfold setC chgL
  rw [withN_line, List.map_append, chg_append]
  simp [chg]
theorem withN_chg (s : MSet) (name : ByteArray) (A : Option Addr) (c : Nat) : chgS (withN s name A c) = 0 := by
  have h1 : (withN s name A c).snaps_.l.length = s.snaps_.l.length + 1 := by simp [withN]
  have h2 := line_last s
  have h3 := line_last (withN s name A c)
  rw [h1] at h3
  have h4 : (lineM (withN s name A c))[s.snaps_.l.length]? = some s.body_ := by
    rw [withN_line, List.getElem?_append_left (by rw [lineM_length]; omega)]
    exact h2
  unfold chgS
  rw [h1]
  unfold onlyL
  rw [List.getElem?_map (i := s.snaps_.l.length + 1), h3]
  simp only [prevM, List.getElem?_map, h4]
  refine cntB_all fun b hb => ?_
  have : memB s.body_.l b = true := by rw [memB_iff]; exact hb
  simp [hitB, this]

set_option maxHeartbeats 8000000 in
theorem snaps_walk (q : MSet) (name : ByteArray) (w : World) (hs : q.Good w) :
    Calls Try.prog 4 #[.agg q.cells.toArray, .string name] w fun e w' => e = .returned (.bool true) ∧ Below w.heap.size w w' := by
  obtain ⟨w1, hw1⟩ : ∃ w1, w.alloc (.cells #[.string q.path_, .string q.origin_, .slice q.body_.A q.body_.l.length q.body_.c, .slice q.snaps_.A q.snaps_.l.length q.snaps_.c, .slice q.own_.A q.own_.l.length q.own_.c] 32) = w1 := ⟨_, rfl⟩
  have hB1 : Below w.heap.size w w1 := hw1 ▸ (Below.refl _ w).alloc (Nat.le_refl _) _
  have k1 : Blk w1 w.heap.size 32 q.cells := hw1 ▸ Blk.new w _ _
  obtain ⟨i0, hi, hz0, hz1, hz2⟩ := infoParts infoSn15
  have hsu := SetU.of hs
  have hnn := hsu.nn
  have hsl := hs.gsnaps_.len
  have hnil := hs.gsnaps_.nil
  have HS := Lib.hid (fun W (hW : Below w1.heap.size w1 W) => (hsu.below hB1).below hW)
  have HAL := Lib.hid alive15_any
  have HK := Lib.hid k1
  have HW1 := Lib.hid hw1
  have HB := Lib.hid hB1
  clear hw1 k1 hB1 hsu hs
  go_enter Try.func4, Try.ntmps4
  go_wp2_with (rw [HW1.out])
  refine (HAL.out _).mono ?_
  rintro e w2 ⟨rfl, hB2⟩
  have k2 := HK.out.below hB2 HK.out.lt
  have z0 := k2.cell 0
  have z1 := k2.cell 1
  have z2 := k2.cell 2
  have z3 := k2.cell 3
  have z4 := k2.cell 4
  simp only [List.getElem?_cons_zero, List.getElem?_cons_succ] at z0 z1 z2 z3 z4
  have HC := Lib.hid (set_any15 q w2 (HS.out w2 hB2))
  have HB2 := Lib.hid hB2
  clear k2 hB2
  go_wp2_with fail
  refine HC.out.mono ?_
  rintro e w3 ⟨rfl, hB3⟩
  have hB13 := HB2.out.trans (hB3.mono HB2.out.size)
  have k3 := HK.out.below hB13 HK.out.lt
  have z0 := k3.cell 0
  have z1 := k3.cell 1
  have z2 := k3.cell 2
  have z3 := k3.cell 3
  have z4 := k3.cell 4
  simp only [List.getElem?_cons_zero, List.getElem?_cons_succ] at z0 z1 z2 z3 z4
  obtain ⟨O, hO⟩ : ∃ O, w3.heap.size = O := ⟨_, rfl⟩
  obtain ⟨w4, hw4⟩ : ∃ w4, w3.alloc (.cells #[.string q.path_, .string q.origin_, .slice q.body_.A q.body_.l.length q.body_.c, .slice q.snaps_.A q.snaps_.l.length q.snaps_.c, .slice q.own_.A q.own_.l.length q.own_.c] 32) = w4 := ⟨_, rfl⟩
  have hB4 : Below w3.heap.size w3 w4 := hw4 ▸ (Below.refl _ w3).alloc (Nat.le_refl _) _
  have kO : Blk w4 O 32 q.cells := by rw [← hO]; exact hw4 ▸ Blk.new w3 _ _
  have hB14 := hB13.trans (hB4.mono hB13.size)
  have hs13 := hB13.size
  have k4 := HK.out.below hB14 HK.out.lt
  have hlB : w.heap.size < w4.heap.size := k4.lt
  have hlO : O < w4.heap.size := kO.lt
  have hBO : w.heap.size ≠ O := by
    have := HK.out.lt
    have := hB13.size
    omega
  have e2 := k4.cell 2
  have e3 := k4.cell 3
  have o3 := kO.cell 3
  have fo3 := kO.frozen 3
  simp only [List.getElem?_cons_zero, List.getElem?_cons_succ] at e2 e3 o3
  have HW4 := Lib.hid hw4
  have HK4 := Lib.hid k4
  have HKO := Lib.hid kO
  have HB14 := Lib.hid hB14
  clear HC hB3 hB13 k3 hw4 hB4 kO hB14 k4
  go_wp2_with (rw [HW4.out])
  refine wp_region_noPanic ?_
  refine wp_region_last 11 (fun W => W.cell? ⟨w.heap.size, 3, none⟩ = some (.slice q.snaps_.A q.snaps_.l.length q.snaps_.c) ∧ W.cell? ⟨w.heap.size, 2, none⟩ = some (.slice q.body_.A q.body_.l.length q.body_.c) ∧ W.cell? ⟨O, 3, none⟩ = some (.slice q.snaps_.A q.snaps_.l.length q.snaps_.c) ∧ W.frozen? ⟨O, 3, none⟩ = false) (by kernel_rfl) ⟨e3, e2, o3, fo3⟩ (fun hHeld => ?_)
  refine wpAnyL_take 16 (i := 1) (oi := ⟨some 13, _, _, _, _, _⟩) (v := ?_) rfl (by kernel_rfl) (by kernel_rfl) (by kernel_rfl) (by kernel_rfl) (by kernel_rfl) (by kernel_rfl) (by kernel_rfl) (fun _ _ _ h => h) (Or.inl ⟨by rfl, ?_⟩) hHeld ?_
  rotate_left
  focus (intro w hSw; (try dsimp only at hSw); go_simp; try (with_reducible rfl))
  try simp only [Act.put, List.setIfInBounds_toArray, List.set_cons_zero, List.set_cons_succ]
  refine wpAnyL_take 16 (i := 2) (oi := ⟨some 14, _, _, _, _, _⟩) (v := ?_) rfl (by kernel_rfl) (by kernel_rfl) (by kernel_rfl) (by kernel_rfl) (by kernel_rfl) (by kernel_rfl) (by kernel_rfl) (fun _ _ _ h => h) (Or.inl ⟨by rfl, ?_⟩) hHeld ?_
  rotate_left
  focus (intro w hSw; (try dsimp only at hSw); go_simp; try (with_reducible rfl))
  try simp only [Act.put, List.setIfInBounds_toArray, List.set_cons_zero, List.set_cons_succ]
  refine wpAnyL_take 16 (i := 4) (oi := ⟨some 16, _, _, _, _, _⟩) (v := ?_) rfl (by kernel_rfl) (by kernel_rfl) (by kernel_rfl) (by kernel_rfl) (by kernel_rfl) (by kernel_rfl) (by kernel_rfl) (fun _ _ _ h => h) (Or.inl ⟨by rfl, ?_⟩) hHeld ?_
  rotate_left
  focus (intro w hSw; (try dsimp only at hSw); go_simp; try (with_reducible rfl))
  try simp only [Act.put, List.setIfInBounds_toArray, List.set_cons_zero, List.set_cons_succ]
  refine wpAnyL_take 16 (i := 5) (oi := ⟨some 17, _, _, _, _, _⟩) (v := ?_) rfl (by kernel_rfl) (by kernel_rfl) (by kernel_rfl) (by kernel_rfl) (by kernel_rfl) (by kernel_rfl) (by kernel_rfl) (fun _ _ _ h => h) (Or.inl ⟨by rfl, ?_⟩) hHeld ?_
  rotate_left
  focus (intro w hSw; (try dsimp only at hSw); go_simp; try (with_reducible rfl))
  try simp only [Act.put, List.setIfInBounds_toArray, List.set_cons_zero, List.set_cons_succ]
  refine wpAnyL_take 16 (i := 6) (oi := ⟨some 18, _, _, _, _, _⟩) (v := ?_) rfl (by kernel_rfl) (by kernel_rfl) (by kernel_rfl) (by kernel_rfl) (by kernel_rfl) (by kernel_rfl) (by kernel_rfl) (fun _ _ _ h => h) (Or.inl ⟨by rfl, ?_⟩) hHeld ?_
  rotate_left
  focus (intro w hSw; (try dsimp only at hSw); go_simp; try (with_reducible rfl))
  try simp only [Act.put, List.setIfInBounds_toArray, List.set_cons_zero, List.set_cons_succ]
  refine wpAnyL_take 16 (i := 7) (oi := ⟨some 19, _, _, _, _, _⟩) (v := ?_) rfl (by kernel_rfl) (by kernel_rfl) (by kernel_rfl) (by kernel_rfl) (by kernel_rfl) (by kernel_rfl) (by kernel_rfl) (fun _ _ _ h => h) (Or.inl ⟨by rfl, ?_⟩) hHeld ?_
  rotate_left
  focus (intro w hSw; (try dsimp only at hSw); go_simp; try (with_reducible rfl))
  try simp only [Act.put, List.setIfInBounds_toArray, List.set_cons_zero, List.set_cons_succ]
  clear hHeld
  refine wpAnyL_facts 16 3 3 [(0, 12), (3, 15), (8, 20)] (fun s v w => match s with
    | 12 => ∃ g, v = .slice (some ⟨g, 0, none⟩) 0 0 ∧ Blk w g 42 [] ∧ w4.heap.size ≤ g
    | 15 => w.ownsRow w4.heap.size 42 5 v q.snaps_.l.length (q.snaps_.l.flatMap MSnap.cells)
    | 20 => ∃ g, v = .slice (some ⟨g, 0, none⟩) 1 1 ∧ Blk w g 42 (snapN q name).cells
    | _ => True) (fun w w' => Below w.heap.size w w') (by kernel_rfl) (by kernel_rfl) (fun w w' h h' => h.trans (h'.mono h.size)) ⟨?_, ?_, ?_, trivial⟩ (fun w' hB => ⟨(hB.cell (p := ⟨w.heap.size, 3, none⟩) hlB).trans e3, (hB.cell (p := ⟨w.heap.size, 2, none⟩) hlB).trans e2, (hB.cell (p := ⟨O, 3, none⟩) hlO).trans o3, (HKO.out.drew.below hB hlO).frozen 3⟩) ⟨?_, ?_, ?_, trivial⟩ ?_
  focus
    intro v w w' h hB
    exact (by obtain ⟨g, e, hb, hl⟩ := h; exact ⟨g, e, hb.below hB hb.lt, hl⟩)
  focus
    intro v w w' h hB
    exact (ownBelow h hB (Nat.le_refl _))
  focus
    intro v w w' h hB
    exact (by obtain ⟨g, e, hb⟩ := h; exact ⟨g, e, hb.below hB hb.lt⟩)
  focus
    intro vs w2 hBf hFf o ho K hK
    obtain rfl : (⟨some 12, _, _, _, _, _⟩ : Oper) = o := Option.some.inj ho
    clear ho
    (try simp only [fillL, List.foldl_cons, List.foldl_nil, Act.put, List.setIfInBounds_toArray, List.set_cons_zero, List.set_cons_succ] at hK ⊢)
    go_simp
    refine hK.out _ _ ⟨⟨w2.heap.size, rfl, Blk.new w2 [] _, hBf.size⟩, (Below.refl _ w2).alloc (Nat.le_refl _) _⟩
  focus
    intro vs w2 hBf hFf o ho K hK
    obtain rfl : (⟨some 15, _, _, _, _, _⟩ : Oper) = o := Option.some.inj ho
    clear ho
    (try simp only [fillL, List.foldl_cons, List.foldl_nil, Act.put, List.setIfInBounds_toArray, List.set_cons_zero, List.set_cons_succ] at hK ⊢)
    obtain ⟨g, e12, hg, hlg⟩ := (hFf (0, 12) (by simp) (by kernel_rfl))
    simp only [e12] at hK ⊢
    rw [if_pos (by rfl)]
    refine wp_append_empty _ _ 29 (by rfl) w4.heap.size 42 i0 (.agg #[.string ByteArray.empty, .int .i64 0, .slice none 0 0, .slice none 0 0, .slice none 0 0]) 5 96 Try.underlying29 hi hz0 hz1 hz2 rfl (by omega) g hg hlg (by rfl) q.snaps_.A q.snaps_.l.length q.snaps_.c (q.snaps_.l.flatMap MSnap.cells) (by rfl) (flat_len (n := 5) (fun _ => rfl) q.snaps_.l) ((HS.out _ (HB14.out.trans (((Below.refl w4.heap.size w4).drew.trans hBf).mono HB14.out.size))).sn) (by unfold maxLen; omega) (by omega) hBf.size ?_
    intro v' w' ho hB'
    exact hK.out _ _ ⟨ho, hB'⟩
  focus
    intro vs w2 hBf hFf o ho K hK
    obtain rfl : (⟨some 20, _, _, _, _, _⟩ : Oper) = o := Option.some.inj ho
    clear ho
    (try simp only [fillL, List.foldl_cons, List.foldl_nil, Act.put, List.setIfInBounds_toArray, List.set_cons_zero, List.set_cons_succ] at hK ⊢)
    go_simp
    refine hK.out _ _ ⟨⟨w2.heap.size, rfl, Blk.new w2 _ _⟩, (Below.refl _ w2).alloc (Nat.le_refl _) _⟩
  intro vs w2 hBf hFf
  (try simp only [fillL, List.foldl_cons, List.foldl_nil, Act.put, List.setIfInBounds_toArray, List.set_cons_zero, List.set_cons_succ])
  obtain ⟨g12, e12, _, _⟩ := (hFf (0, 12) (by simp))
  have h15 := (hFf (3, 15) (by simp))
  obtain ⟨g20, e20, hb20⟩ := (hFf (8, 20) (by simp))
  simp only [] at h15
  obtain ⟨A15, c15, e15, _, _, _, _⟩ := ownAny h15
  rw [e15] at h15
  simp only [e12, e15, e20]
  have hBw : Below w4.heap.size w4 w2 := (Below.refl w4.heap.size w4).drew.trans hBf
  have hk2 := HK4.out.below hBw hlB
  have hO2 := HKO.out.below hBw hlO
  have HH15 := Lib.hid h15
  have hHeld : (fun W => W.cell? ⟨w.heap.size, 3, none⟩ = some (.slice q.snaps_.A q.snaps_.l.length q.snaps_.c) ∧ W.cell? ⟨w.heap.size, 2, none⟩ = some (.slice q.body_.A q.body_.l.length q.body_.c) ∧ W.cell? ⟨O, 3, none⟩ = some (.slice q.snaps_.A q.snaps_.l.length q.snaps_.c) ∧ W.frozen? ⟨O, 3, none⟩ = false) w2 := ⟨(hBf.cell (p := ⟨w.heap.size, 3, none⟩) hlB).trans e3, (hBf.cell (p := ⟨w.heap.size, 2, none⟩) hlB).trans e2, (hBf.cell (p := ⟨O, 3, none⟩) hlO).trans o3, (HKO.out.drew.below hBf hlO).frozen 3⟩
  refine wpAnyL_one (i := 9) (o := ⟨some 21, _, _, _, _, _⟩) (by kernel_rfl) rfl (fun K hK => ?_)
  clear hHeld
  refine step_append_lies (o := ⟨some 21, _, _, _, _, _⟩) _ (by rfl) _ _ 29 (by rfl) w4.heap.size 42 i0 (.agg #[.string ByteArray.empty, .int .i64 0, .slice none 0 0, .slice none 0 0, .slice none 0 0]) 5 96 Try.underlying29 hi hz0 hz1 hz2 rfl (by omega) (.slice A15 q.snaps_.l.length c15) q.snaps_.l.length (q.snaps_.l.flatMap MSnap.cells) (by rfl) HH15.out ⟨g20, 0, none⟩ 1 1 (snapN q name).cells (by rfl) rfl (fun j u hu => by rw [add_plain, Nat.zero_add]; exact (hb20.cell j).trans hu) (by simp [Value.oneCell', snapN]) (by omega) (by unfold maxLen; omega) (by omega) hBw.size _ rfl ?_
  intro g6 c6 x6 ho6 hg6 _ _
  have hk6 : Blk x6 w.heap.size 32 q.cells := (hg6.block _ hk2.lt (fun e => own_not HH15.out hk2 (by decide) e.symm)).trans hk2
  have hO6 : Blk x6 O 32 q.cells := (hg6.block _ hO2.lt (fun e => own_not HH15.out hO2 (by decide) e.symm)).trans hO2
  have hB6 : Below w4.heap.size w4 x6 := hBw.grown hg6 hBw.size (fun j e => (HH15.out.lt j e).1)
  have e3' := hk6.cell 3
  have e2' := hk6.cell 2
  have o3' := hO6.cell 3
  have fo3' := hO6.frozen 3
  simp only [List.getElem?_cons_zero, List.getElem?_cons_succ] at e3' e2' o3'
  have HO6 := Lib.hid ho6
  have HOB := Lib.hid hO6
  have HKB := Lib.hid hk6
  have HB6 := Lib.hid hB6
  clear ho6 hg6 hk6 hO6 hB6
  refine hK.out _ _ ⟨e3', e2', o3', fo3'⟩ (fun hHeld => ?_)
  clear hK K
  try simp only [Act.put, List.setIfInBounds_toArray, List.set_cons_zero, List.set_cons_succ]
  refine wpAnyL_take 16 (i := 10) (oi := ⟨some 22, _, _, _, _, _⟩) (v := ?_) rfl (by kernel_rfl) (by kernel_rfl) (by kernel_rfl) (by kernel_rfl) (by kernel_rfl) (by kernel_rfl) (by kernel_rfl) (fun _ _ _ h => h) (Or.inl ⟨by rfl, ?_⟩) hHeld ?_
  rotate_left
  focus (intro w hSw; (try dsimp only at hSw); go_simp; try (with_reducible rfl))
  try simp only [Act.put, List.setIfInBounds_toArray, List.set_cons_zero, List.set_cons_succ]
  refine wpAnyL_last (i := 11) (o := ⟨none, _, _, _, _, _⟩) (by kernel_rfl) rfl (by kernel_rfl) (fun K hK => ?_)
  go_simp
  go_wp2_with fail
  refine hK.out _ _ ?_
  clear hK K
  try simp only [Act.put, List.setIfInBounds_toArray, List.set_cons_zero, List.set_cons_succ]
  refine wpAnyL_done (by kernel_rfl) ?_ _
  refine NoPanic.normal ?_
  have hBO4 := HB14.out.size
  have kO7 := HOB.out.set 3 (.slice (some ⟨g6, 0, none⟩) (q.snaps_.l.length + 1) c6)
  have kB7 := HKB.out.other (g' := O) hBO 3 (.slice (some ⟨g6, 0, none⟩) (q.snaps_.l.length + 1) c6)
  have ho7 := own_setT (j := 3) (u := .slice (some ⟨g6, 0, none⟩) (q.snaps_.l.length + 1) c6) HO6.out HOB.out (by decide)
  obtain ⟨w7, hw7⟩ : ∃ w7, x6.setCell ⟨O, 3, none⟩ (.slice (some ⟨g6, 0, none⟩) (q.snaps_.l.length + 1) c6) = w7 := ⟨_, rfl⟩
  rw [hw7] at kO7 kB7 ho7
  have hB17 : Below w1.heap.size w1 w7 := by
    rw [← hw7]
    exact (HB14.out.trans (HB6.out.mono hBO4)).setCell (p := ⟨O, 3, none⟩) (by rw [← hO]; exact hs13) _
  have hBz7 := HB.out.trans (hB17.mono HB.out.size)
  obtain ⟨Y, hY⟩ : ∃ Y, withN q name (some ⟨g6, 0, none⟩) c6 = Y := ⟨_, rfl⟩
  have hYc : Y.cells.toArray = #[.string q.path_, .string q.origin_, .slice q.body_.A q.body_.l.length q.body_.c, .slice (some ⟨g6, 0, none⟩) (q.snaps_.l.length + 1) c6, .slice q.own_.A q.own_.l.length q.own_.c] := by
    rw [← hY]
    simp [withN]
  have hYU : SetU w7 Y := by
    rw [← hY]
    refine ⟨?_, by simp [withN]; omega, fun l hl => ?_⟩
    · have h1 := (RdN.of_own ho7).1
      have h2 : (q.snaps_.l ++ [snapN q name]).flatMap MSnap.cells = q.snaps_.l.flatMap MSnap.cells ++ (snapN q name).cells := by simp
      show Rd w7 (some ⟨g6, 0, none⟩) ((q.snaps_.l ++ [snapN q name]).flatMap MSnap.cells)
      rw [h2]
      exact h1
    · rw [withN_line] at hl
      have hl' : l ∈ lineM q := by
        rcases List.mem_append.1 hl with h | h
        · exact h
        · simp at h
          subst h
          simp [lineM]
      exact (HS.out w7 hB17).bo l hl'
  have HCH : Hid (∀ W, Below w7.heap.size w7 W → Calls Try.prog 14 #[.agg #[.string q.path_, .string q.origin_, .slice q.body_.A q.body_.l.length q.body_.c, .slice (some ⟨g6, 0, none⟩) (q.snaps_.l.length + 1) c6, .slice q.own_.A q.own_.l.length q.own_.c]] W fun e w' => e = .returned (.int .i64 0) ∧ Below W.heap.size W w') := Lib.hid fun W hW => by
    have := changed_any15 Y W (hYU.below hW)
    rw [hYc] at this
    rwa [← hY, withN_chg] at this
  have HST : Hid (∀ W, Below w7.heap.size w7 W → Calls Try.prog 9 #[.agg #[.string q.path_, .string q.origin_, .slice q.body_.A q.body_.l.length q.body_.c, .slice (some ⟨g6, 0, none⟩) (q.snaps_.l.length + 1) c6, .slice q.own_.A q.own_.l.length q.own_.c]] W fun e w' => e = .returned (.int .i64 (wrap64 (setC Y))) ∧ Below W.heap.size W w') := Lib.hid fun W hW => by
    have := set_any15 Y W (hYU.below hW)
    rwa [hYc] at this
  have hadd : IntKind.i64.wrap (IntKind.i64.wrap (wrap64 (setC q) + 1) + (q.body_.l.length : Int)) = wrap64 (setC Y) := by
    rw [i64w, i64w, w64_add, Int.add_assoc, w64_add, ← hY, withN_c]
    congr 1
  generalize wrap64 (setC Y) = X at *
  generalize wrap64 (setC q) = W0 at *
  obtain ⟨V0, hV0⟩ : ∃ V0, IntKind.i64.wrap (W0 + 1) = V0 := ⟨_, rfl⟩
  rw [hV0] at hadd
  have HSS : Hid (∀ W, Below w7.heap.size w7 W → W.cell? ⟨O, 0, none⟩ = some (.string q.path_) ∧ W.cell? ⟨O, 1, none⟩ = some (.string q.origin_) ∧ W.cell? ⟨O, 2, none⟩ = some (.slice q.body_.A q.body_.l.length q.body_.c) ∧ W.cell? ⟨O, 3, none⟩ = some (.slice (some ⟨g6, 0, none⟩) (q.snaps_.l.length + 1) c6) ∧ W.cell? ⟨O, 4, none⟩ = some (.slice q.own_.A q.own_.l.length q.own_.c) ∧ W.cell? ⟨w.heap.size, 2, none⟩ = some (.slice q.body_.A q.body_.l.length q.body_.c)) := Lib.hid fun W hW => by
    have a := kO7.below hW kO7.lt
    have b := kB7.below hW kB7.lt
    exact ⟨a.cell 0, a.cell 1, a.cell 2, a.cell 3, a.cell 4, b.cell 2⟩
  have HW7 := Lib.hid hw7
  have hX0 : Below w7.heap.size w7 w7.drew := (Below.refl _ _).drew
  clear kO7 kB7 ho7 hw7 hYU hYc hY hO e3 e2 o3 fo3 hi hz0 hz1 hz2 HO6 HOB HKB HB6 HK4 HKO HB14 HK HAL HS
  go_wp2_with (rw [HW7.out])
  refine wp_region_noPanic ?_
  refine wp_region_last 12 (fun W => W.cell? ⟨O, 0, none⟩ = some (.string q.path_) ∧ W.cell? ⟨O, 1, none⟩ = some (.string q.origin_) ∧ W.cell? ⟨O, 2, none⟩ = some (.slice q.body_.A q.body_.l.length q.body_.c) ∧ W.cell? ⟨O, 3, none⟩ = some (.slice (some ⟨g6, 0, none⟩) (q.snaps_.l.length + 1) c6) ∧ W.cell? ⟨O, 4, none⟩ = some (.slice q.own_.A q.own_.l.length q.own_.c) ∧ W.cell? ⟨w.heap.size, 2, none⟩ = some (.slice q.body_.A q.body_.l.length q.body_.c)) (by kernel_rfl) (HSS.out _ hX0) (fun hHeld => ?_)
  refine wpAnyL_take 12 (i := 0) (oi := ⟨some 23, _, _, _, _, _⟩) (v := ?_) rfl (by kernel_rfl) (by kernel_rfl) (by kernel_rfl) (by kernel_rfl) (by kernel_rfl) (by kernel_rfl) (by kernel_rfl) (fun _ _ _ h => h) (Or.inl ⟨by rfl, ?_⟩) hHeld ?_
  rotate_left
  focus (intro w hSw; (try dsimp only at hSw); go_simp; try (with_reducible rfl))
  try simp only [Act.put, List.setIfInBounds_toArray, List.set_cons_zero, List.set_cons_succ]
  refine wpAnyL_one (i := 1) (o := ⟨some 24, _, _, _, _, _⟩) (by kernel_rfl) rfl (fun K hK => ?_)
  clear hHeld
  go_simp
  refine (HCH.out _ hX0).mono ?_
  rintro e w8 ⟨rfl, hB8⟩
  have hX8 := hX0.trans (hB8.mono hX0.size)
  go_wp2_with fail
  refine hK.out _ _ (HSS.out _ hX8) (fun hHeld => ?_)
  clear hK K
  try simp only [Act.put, List.setIfInBounds_toArray, List.set_cons_zero, List.set_cons_succ]
  refine wpAnyL_take 12 (i := 2) (oi := ⟨some 25, _, _, _, _, _⟩) (v := ?_) rfl (by kernel_rfl) (by kernel_rfl) (by kernel_rfl) (by kernel_rfl) (by kernel_rfl) (by kernel_rfl) (by kernel_rfl) (fun _ _ _ h => h) (Or.inl ⟨by rfl, ?_⟩) hHeld ?_
  rotate_left
  focus (intro w hSw; (try dsimp only at hSw); go_simp; try (with_reducible rfl))
  try simp only [Act.put, List.setIfInBounds_toArray, List.set_cons_zero, List.set_cons_succ]
  refine wpAnyL_take 12 (i := 3) (oi := ⟨some 26, _, _, _, _, _⟩) (v := ?_) rfl (by kernel_rfl) (by kernel_rfl) (by kernel_rfl) (by kernel_rfl) (by kernel_rfl) (by kernel_rfl) (by kernel_rfl) (fun _ _ _ h => h) (Or.inl ⟨by rfl, ?_⟩) hHeld ?_
  rotate_left
  focus (intro w hSw; (try dsimp only at hSw); go_simp; try (with_reducible rfl))
  try simp only [Act.put, List.setIfInBounds_toArray, List.set_cons_zero, List.set_cons_succ]
  refine wpAnyL_take 12 (i := 4) (oi := ⟨some 27, _, _, _, _, _⟩) (v := ?_) rfl (by kernel_rfl) (by kernel_rfl) (by kernel_rfl) (by kernel_rfl) (by kernel_rfl) (by kernel_rfl) (by kernel_rfl) (fun _ _ _ h => h) (Or.inl ⟨by rfl, ?_⟩) hHeld ?_
  rotate_left
  focus (intro w hSw; (try dsimp only at hSw); go_simp; try (with_reducible rfl))
  try simp only [Act.put, List.setIfInBounds_toArray, List.set_cons_zero, List.set_cons_succ]
  refine wpAnyL_take 12 (i := 6) (oi := ⟨some 29, _, _, _, _, _⟩) (v := ?_) rfl (by kernel_rfl) (by kernel_rfl) (by kernel_rfl) (by kernel_rfl) (by kernel_rfl) (by kernel_rfl) (by kernel_rfl) (fun _ _ _ h => h) (Or.inl ⟨by rfl, ?_⟩) hHeld ?_
  rotate_left
  focus (intro w hSw; (try dsimp only at hSw); go_simp; try (with_reducible rfl))
  try simp only [Act.put, List.setIfInBounds_toArray, List.set_cons_zero, List.set_cons_succ]
  refine wpAnyL_take 12 (i := 7) (oi := ⟨some 30, _, _, _, _, _⟩) (v := ?_) rfl (by kernel_rfl) (by kernel_rfl) (by kernel_rfl) (by kernel_rfl) (by kernel_rfl) (by kernel_rfl) (by kernel_rfl) (fun _ _ _ h => h) (Or.inl ⟨by rfl, ?_⟩) hHeld ?_
  rotate_left
  focus (intro w hSw; (try dsimp only at hSw); go_simp; try (with_reducible rfl))
  try simp only [Act.put, List.setIfInBounds_toArray, List.set_cons_zero, List.set_cons_succ]
  refine wpAnyL_take 12 (i := 8) (oi := ⟨some 31, _, _, _, _, _⟩) (v := ?_) rfl (by kernel_rfl) (by kernel_rfl) (by kernel_rfl) (by kernel_rfl) (by kernel_rfl) (by kernel_rfl) (by kernel_rfl) (fun _ _ _ h => h) (Or.inl ⟨by rfl, ?_⟩) hHeld ?_
  rotate_left
  focus (intro w hSw; (try dsimp only at hSw); go_simp; try (with_reducible rfl))
  try simp only [Act.put, List.setIfInBounds_toArray, List.set_cons_zero, List.set_cons_succ]
  refine wpAnyL_take 12 (i := 9) (oi := ⟨some 32, _, _, _, _, _⟩) (v := ?_) rfl (by kernel_rfl) (by kernel_rfl) (by kernel_rfl) (by kernel_rfl) (by kernel_rfl) (by kernel_rfl) (by kernel_rfl) (fun _ _ _ h => h) (Or.inl ⟨by rfl, ?_⟩) hHeld ?_
  rotate_left
  focus (intro w hSw; (try dsimp only at hSw); go_simp; try (with_reducible rfl))
  try simp only [Act.put, List.setIfInBounds_toArray, List.set_cons_zero, List.set_cons_succ]
  refine wpAnyL_take 12 (i := 10) (oi := ⟨some 33, _, _, _, _, _⟩) (v := ?_) rfl (by kernel_rfl) (by kernel_rfl) (by kernel_rfl) (by kernel_rfl) (by kernel_rfl) (by kernel_rfl) (by kernel_rfl) (fun _ _ _ h => h) (Or.inl ⟨by rfl, ?_⟩) hHeld ?_
  rotate_left
  focus (intro w hSw; (try dsimp only at hSw); go_simp; try (with_reducible rfl))
  try simp only [Act.put, List.setIfInBounds_toArray, List.set_cons_zero, List.set_cons_succ]
  refine wpAnyL_take 12 (i := 11) (oi := ⟨some 34, _, _, _, _, _⟩) (v := ?_) rfl (by kernel_rfl) (by kernel_rfl) (by kernel_rfl) (by kernel_rfl) (by kernel_rfl) (by kernel_rfl) (by kernel_rfl) (fun _ _ _ h => h) (Or.inl ⟨by rfl, ?_⟩) hHeld ?_
  rotate_left
  focus (intro w hSw; (try dsimp only at hSw); go_simp; try (with_reducible rfl))
  try simp only [Act.put, List.setIfInBounds_toArray, List.set_cons_zero, List.set_cons_succ]
  refine wpAnyL_one (i := 5) (o := ⟨some 28, _, _, _, _, _⟩) (by kernel_rfl) rfl (fun K hK => ?_)
  clear hHeld
  go_simp
  refine (HST.out _ hX8).mono ?_
  rintro e w9 ⟨rfl, hB9⟩
  have hX9 := hX8.trans (hB9.mono hX8.size)
  go_wp2_with fail
  refine hK.out _ _ (HSS.out _ hX9) (fun hHeld => ?_)
  clear hK K
  try simp only [Act.put, List.setIfInBounds_toArray, List.set_cons_zero, List.set_cons_succ]
  refine wpAnyL_last (i := 12) (o := ⟨some 35, _, _, _, _, _⟩) (by kernel_rfl) rfl (by kernel_rfl) (fun K hK => ?_)
  clear hHeld
  go_simp
  refine hK.out _ _ ?_
  clear hK K
  try simp only [Act.put, List.setIfInBounds_toArray, List.set_cons_zero, List.set_cons_succ]
  refine wpAnyL_takeW (i := 13) (oi := ⟨some 36, _, _, _, _, _⟩) (v := ?_) rfl (by kernel_rfl) (by kernel_rfl) (by kernel_rfl) (by kernel_rfl) (fun _ _ _ h => h) (Or.inl ⟨by rfl, ?_⟩) (.inl (by kernel_rfl)) ?_
  rotate_left
  focus (intro w hSw; (try dsimp only at hSw); go_simp; try (with_reducible rfl))
  try simp only [Act.put, List.setIfInBounds_toArray, List.set_cons_zero, List.set_cons_succ]
  refine wpAnyL_takeW (i := 14) (oi := ⟨some 4, _, _, _, _, _⟩) (v := ?_) rfl (by kernel_rfl) (by kernel_rfl) (by kernel_rfl) (by kernel_rfl) (fun _ _ _ h => h) (Or.inl ⟨by rfl, ?_⟩) (.inl (by kernel_rfl)) ?_
  rotate_left
  focus (intro w hSw; (try dsimp only at hSw); go_simp; try (with_reducible rfl))
  try simp only [Act.put, List.setIfInBounds_toArray, List.set_cons_zero, List.set_cons_succ]
  refine wpAnyL_done (by kernel_rfl) ?_ _
  refine NoPanic.normal ?_
  go_wp2
  go_ret
  exact ⟨rfl, hBz7.trans (hX9.mono hBz7.size)⟩

end Go.Proofs.Ytnoidcelinaenaa
