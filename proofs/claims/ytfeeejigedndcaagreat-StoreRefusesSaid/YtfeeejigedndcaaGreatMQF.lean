/-
  A plan: acts that are put down one behind the other. flush, uberblock, does. Conditions: at most 2^40 acts.
-/
import Derived.Test.YtfeeejigedndcaaGreatMQE
import Derived.Test.YtfeeejigedndcaaGreatMDVG
import Derived.Test.YtfeeejigedndcaaGreatMGB
import Derived.Deep.AppendLies
namespace Go.Proofs.YtfeeejigedndcaaGreat
open Go.ChangeShapes Go.WideShapes Go.ChangeAt Go.RowKit
set_option maxRecDepth 100000

/-- Only blocks of a plan turn, and what is new. -/
structure Only (X : Nat) (T : TypeId) (W W' : World) : Prop where
  below : Below X W W'
  other : ∀ (k : Nat) cur t z, W.heap[k]? = some (.cells cur t z) → t ≠ T → t ≠ 82 → W'.heap[k]? = W.heap[k]?
theorem Only.refl (X : Nat) (T : TypeId) (W : World) : Only X T W W := ⟨Below.refl _ _, fun _ _ _ _ _ _ _ => rfl⟩
theorem Only.trans {X : Nat} {T : TypeId} {A B C : World} (h : Only X T A B) (k : Only X T B C) : Only X T A C :=
  ⟨h.below.trans k.below, fun i cur t z hi h1 h2 => by
    have e := h.other i cur t z hi h1 h2
    exact (k.other i cur t z (e.trans hi) h1 h2).trans e⟩
theorem Only.of_below {X : Nat} {T : TypeId} {W W' : World} (h : Below W.heap.size W W') (hX : X ≤ W.heap.size) : Only X T W W' :=
  ⟨h.mono hX, fun k _ _ _ hk _ _ => h.block k (Array.getElem?_eq_some_iff.1 hk).1⟩
theorem Only.blk {X : Nat} {T : TypeId} {W W' : World} (h : Only X T W W') {g : Nat} {t : TypeId} {vs : List Value} (hb : Blk W g t vs) (h1 : t ≠ T) (h2 : t ≠ 82) : Blk W' g t vs := (h.other g _ t _ hb h1 h2).trans hb
theorem Only.own {X : Nat} {T : TypeId} {W W' : World} (h : Only X T W W') {base size k : Nat} {e : TypeId} {v : Value} {xs : List Value} (ho : W.ownsRow base e size v k xs) (h1 : e ≠ T) (h2 : e ≠ 82) : W'.ownsRow base e size v k xs :=
  own_stay ho fun b hb => by
    rcases ho.2 with ⟨rfl, _⟩ | ⟨g, cap, cur, rfl, _, hg, _⟩
    · cases hb
    · simp only [Value.ownBlock, Option.some.injEq] at hb
      subst hb
      exact h.other g _ _ _ hg h1 h2
theorem Only.size {X : Nat} {T : TypeId} {W W' : World} (h : Only X T W W') : W.heap.size ≤ W'.heap.size := h.below.size

/-- A plan in cell j of block X. -/
structure Pl (X j : Nat) (T : TypeId) (vs : List Value) (v : Value) (W : World) (l : List Ac) : Prop where
  blk : Blk W X T vs
  at_ : vs[j]? = some v
  row : W.ownsRow X 82 3 v l.length (acCells l)
  data : ∀ a ∈ l, W.ownsRow X 5 1 a.p.val a.p.zs.length (ocl a.p.zs)
theorem own_below3 {W W' : World} {base base' k size : Nat} {e : TypeId} {v : Value} {xs : List Value} (h : W.ownsRow base e size v k xs) (hb : Below W.heap.size W W') (hs : base' ≤ base) : W'.ownsRow base' e size v k xs :=
  own_base (own_stay h fun b hb' => hb.block b (h.lt b hb').2) hs
theorem Pl.below {X j : Nat} {T : TypeId} {vs : List Value} {v : Value} {W W' : World} {l : List Ac} (h : Pl X j T vs v W l) (hB : Below W.heap.size W W') : Pl X j T vs v W' l :=
  ⟨h.blk.below hB h.blk.lt, h.at_, own_below3 h.row hB (Nat.le_refl _), fun a ha => own_below3 (h.data a ha) hB (Nat.le_refl _)⟩
theorem set_at_self {vs : List Value} {j : Nat} {v v' : Value} (h : vs[j]? = some v) : (vs.set j v')[j]? = some v' := by
  have hj := (List.getElem?_eq_some_iff.1 h).1
  rw [List.getElem?_set_self hj]
theorem Pl.step {X j : Nat} {T : TypeId} {vs : List Value} {v v' : Value} {W w1 w3 : World} {l : List Ac} {a : Ac} (h : Pl X j T vs v W l) (hT : T ≠ 82) (hT8 : T ≠ 5) (hB1 : Below W.heap.size W w1)
    (hd : w1.ownsRow X 5 1 a.p.val a.p.zs.length (ocl a.p.zs))
    (hown : w3.ownsRow X 82 3 v' (l.length + 1) (acCells l ++ [.bool a.fl, .int .i64 a.at_, a.p.val])) (hgrow : (w1.alloc (.cells #[.bool a.fl, .int .i64 a.at_, a.p.val] 82)).grownBy w3 v.ownBlock) :
    Pl X j T (vs.set j v') v' (w3.setCell ⟨X, j, none⟩ v') (l ++ [a]) ∧ Only X T W (w3.setCell ⟨X, j, none⟩ v') := by
  have hXl := h.blk.lt
  have hB2 : Below W.heap.size W (w1.alloc (.cells #[.bool a.fl, .int .i64 a.at_, a.p.val] 82)) := hB1.alloc hB1.size _
  have h2 := h.below hB2
  have hd2 := own_below3 hd ((Below.refl _ w1).alloc (Nat.le_refl _) (.cells #[.bool a.fl, .int .i64 a.at_, a.p.val] 82)) (Nat.le_refl X)
  generalize w1.alloc (.cells #[.bool a.fl, .int .i64 a.at_, a.p.val] 82) = w2 at *
  have hnX := blk_apart h2.blk h2.row hT
  have k3 : ∀ b, b < w2.heap.size → v.ownBlock ≠ some b → w3.heap[b]? = w2.heap[b]? := fun b hb hne => hgrow.block b hb (fun e => hne e.symm)
  have hX3 : Blk w3 X T vs := (k3 X h2.blk.lt hnX).trans h2.blk
  have hnX3 := blk_apart hX3 hown hT
  have k4 : ∀ b, b ≠ X → (w3.setCell ⟨X, j, none⟩ v').heap[b]? = w3.heap[b]? := fun b hb => by
    simp only [World.setCell, Array.getElem?_modify]
    rw [if_neg (by simpa using Ne.symm hb)]
  have data4 : ∀ (zs : List Int) (p : Value) (n : Nat), w2.ownsRow X 5 1 p n (ocl zs) → (w3.setCell ⟨X, j, none⟩ v').ownsRow X 5 1 p n (ocl zs) := fun zs p n hh => by
    refine own_stay hh fun b hb => ?_
    have hbl := hh.lt b hb
    have e1 : b ≠ X := fun e => blk_apart h2.blk hh hT8 (e ▸ hb)
    exact (k4 b e1).trans (k3 b hbl.2 (fun e => own_apart hh h2.row (by decide) b hb e))
  refine ⟨⟨?_, set_at_self h.at_, ?_, ?_⟩, ⟨?_, ?_⟩⟩
  · exact hX3.set j v'
  · rw [List.length_append, acCells_snoc]
    exact own_stay hown fun b hb => k4 b (fun e => hnX3 (e ▸ hb))
  · intro y hy
    rcases List.mem_append.1 hy with hy | hy
    · exact data4 _ _ _ (h2.data y hy)
    · simp at hy
      subst hy
      exact data4 _ _ _ hd2
  · exact (((hB2.mono (Nat.le_of_lt hXl)).grown hgrow (Nat.le_of_lt h2.blk.lt) (fun k e => (h2.row.lt k e).1))).setCell (p := ⟨X, j, none⟩) (Nat.le_refl _) _
  · intro k cur t z hk h1 h3
    have hkl := (Array.getElem?_eq_some_iff.1 hk).1
    have e2 := hB2.block k hkl
    have e1 : k ≠ X := fun e => by
      subst e
      have := h.blk.symm.trans hk
      simp at this
      exact h1 this.2.1.symm
    refine (k4 k e1).trans ((k3 k (Nat.lt_of_lt_of_le hkl hB2.size) (fun e => ?_)).trans e2)
    rcases h2.row.2 with ⟨rfl, _⟩ | ⟨g, cap, cur', rfl, _, hg, _⟩
    · cases e
    · simp only [Value.ownBlock, Option.some.injEq] at e
      subst e
      have := hg.symm.trans (e2.trans hk)
      simp at this
      exact h3 this.2.1.symm

theorem Pl.box3 {X j : Nat} {T : TypeId} {vs : List Value} {v : Value} {W w1 w3 : World} {l : List Ac} {cs : Array Value} (h : Pl X j T vs v W l) (hT : T ≠ 82) (hB1 : Below W.heap.size W w1)
    (hgrow : (w1.alloc (.cells cs 82)).grownBy w3 v.ownBlock) : w3.frozen? ⟨X, j, none⟩ = false ∧ w3.cell? ⟨X, j, none⟩ = some v ∧ w3.cell? ⟨X, j, none⟩ = some v := by
  have hB2 : Below W.heap.size W (w1.alloc (.cells cs 82)) := hB1.alloc hB1.size _
  have h2 := h.below hB2
  have hX3 : Blk w3 X T vs := (hgrow.block X h2.blk.lt (fun e => blk_apart h2.blk h2.row hT e.symm)).trans h2.blk
  exact ⟨hX3.frozen j, (hX3.cell j).trans h.at_, (hX3.cell j).trans h.at_⟩

theorem infoAct : (Tryz.prog.info? 82).map (fun i => (i.zero, i.size, i.bytes)) = some (some (.agg #[.bool false, .int .i64 0, .slice none 0 0]), 3, 40) := by kernel_rfl

/-- A flush, as an act. -/
abbrev flushAc : Ac := ⟨true, 0, ⟨none, [], 0⟩⟩
theorem flush_any (X j : Nat) (T : TypeId) (hT : T ≠ 82) (hT8 : T ≠ 5) (vs : List Value) (v : Value) (l : List Ac) (hl : l.length ≤ 1099511627776) (w : World) (h : Pl X j T vs v w l) :
    Calls Tryz.prog 55 #[.pointer (some ⟨X, j, none⟩)] w fun e w' => ∃ v', e = .returned (.tuple #[]) ∧ Pl X j T (vs.set j v') v' w' (l ++ [flushAc]) ∧ Only X T w w' := by
  obtain ⟨i0, hi, hz0, hz1, hz2⟩ := dinfo_parts infoAct
  have H := Lib.hid h
  have hcv : w.cell? ⟨X, j, none⟩ = some v := (h.blk.cell j).trans h.at_
  have hlt := h.blk.lt
  clear h
  go_enter Tryz.func55, Tryz.ntmps55
  go_wp2_with (at_builtin; refine wpList_append_own _ (by rfl) _ _ 37 (by rfl) X 82 i0 (.agg #[.bool false, .int .i64 0, .slice none 0 0]) 3 40 Tryz.underlying37 hi hz0 hz1 hz2 rfl (by omega) v l.length (acCells l) (by rfl) (own_below3 H.out.row ((Below.refl _ _).alloc (Nat.le_refl _) _) (Nat.le_refl _)) ⟨w.heap.size, 0, none⟩ 1 1 [.bool true, .int .i64 0, .slice none 0 0] (by rfl) rfl (news_new _ _ _) (by simp [Value.oneCell']) (by unfold maxLen; omega) (by omega) (by simp; omega) ?_; intro v' w3 hown hgrow _; obtain ⟨g', cap', rfl, _, _⟩ := hown.form (by omega); obtain ⟨hf3, hc3, _⟩ := H.out.box3 hT (Below.refl _ _) hgrow)
  go_end0
  obtain ⟨h1, h2⟩ := H.out.step (a := flushAc) hT hT8 (Below.refl _ _) (own_none _ _ _) hown hgrow
  exact ⟨_, rfl, h1, h2⟩


theorem blk3 {W : World} {g : Nat} {T : TypeId} {a b c : Value} (k : Blk W g T [a, b, c]) : W.cell? ⟨g, 0, none⟩ = some a ∧ W.cell? ⟨g, 1, none⟩ = some b ∧ W.cell? ⟨g, 2, none⟩ = some c := ⟨k.cell 0, k.cell 1, k.cell 2⟩

set_option maxHeartbeats 1000000 in
theorem uberblock_any (u : Ub) (hu : u.ok = true) (X j : Nat) (T : TypeId) (hT : T ≠ 82) (hT8 : T ≠ 5) (vs : List Value) (v : Value) (l : List Ac) (hl : l.length ≤ 1099511627776) (w : World) (h : Pl X j T vs v w l) :
    Calls Tryz.prog 56 #[.pointer (some ⟨X, j, none⟩), u.val] w fun e w' => ∃ v' p, e = .returned (.tuple #[]) ∧ p.zs = u.octs ∧ Pl X j T (vs.set j v') v' w' (l ++ [⟨false, u.t % 2, p⟩]) ∧ Only X T w w' := by
  obtain ⟨i0, hi, hz0, hz1, hz2⟩ := dinfo_parts infoAct
  have HE := Lib.hid (encode_ok u hu)
  have HSL := Lib.hid (slot_any u)
  obtain ⟨t, f, o⟩ := u
  dsimp only [Ub.val] at *
  obtain ⟨w1, hw1⟩ : ∃ w1, w.alloc (.cells #[.int .i64 t, .int .i64 f, .int .i64 o] 29) = w1 := ⟨_, rfl⟩
  have hB1 : Below w.heap.size w w1 := hw1 ▸ (Below.refl _ w).alloc (Nat.le_refl _) _
  have ku : Blk w1 w.heap.size 29 [.int .i64 t, .int .i64 f, .int .i64 o] := hw1 ▸ Blk.new w _ _
  have H := Lib.hid h
  have HKU := Lib.hid ku
  have HW1 := Lib.hid hw1
  obtain ⟨hu0, hu1, hu2⟩ := blk3 ku
  have hlt := h.blk.lt
  clear h ku hw1
  go_enter Tryz.func56, Tryz.ntmps56
  go_wp2_with fail
  rw [HW1.out]
  refine (HE.out w1).mono ?_
  rintro e w2 ⟨d, rfl, hown2, hB2⟩
  obtain ⟨A2, c2, rfl, _, _, _, _⟩ := own_any hown2
  have hB02 : Below w.heap.size w w2 := hB1.trans (hB2.mono hB1.size)
  have HO2 := Lib.hid hown2
  have hlt2 : X < w2.heap.size := Nat.lt_of_lt_of_le hlt hB02.size
  have hgl : w.heap.size < w1.heap.size := HKU.out.lt
  clear hown2
  go_wp2_with fail
  refine (must_ok w2).mono ?_
  rintro e w2' ⟨rfl, rfl⟩
  have hS0 : Hid (∀ W, Below w2.heap.size w2 W → W.cell? ⟨X, j, none⟩ = some v ∧ W.cell? ⟨w.heap.size, 0, none⟩ = some (.int .i64 t) ∧ W.cell? ⟨w.heap.size, 1, none⟩ = some (.int .i64 f) ∧ W.cell? ⟨w.heap.size, 2, none⟩ = some (.int .i64 o)) := Lib.hid fun W hB => by
    have hB0 := hB02.trans (hB.mono hB02.size)
    have hb := H.out.below hB0
    obtain ⟨e0, e1, e2⟩ := blk3 (HKU.out.below (hB2.trans (hB.mono hB2.size)) hgl)
    exact ⟨(hb.blk.cell j).trans hb.at_, e0, e1, e2⟩
  go_wp2
  refine wp_region_noPanic ?_
  refine wp_region_last 13 (fun W => W.cell? ⟨X, j, none⟩ = some v ∧ W.cell? ⟨w.heap.size, 0, none⟩ = some (.int .i64 t) ∧ W.cell? ⟨w.heap.size, 1, none⟩ = some (.int .i64 f) ∧ W.cell? ⟨w.heap.size, 2, none⟩ = some (.int .i64 o)) (by kernel_rfl) (hS0.out _ (Below.refl _ _).drew) (fun hHeld => ?_)
  refine wpAnyL_take 12 (i := 0) (oi := ⟨some 13, _, _, _, _, _⟩) (v := ?_) rfl (by kernel_rfl) (by kernel_rfl) (by kernel_rfl) (by kernel_rfl) (by kernel_rfl) (by kernel_rfl) (by kernel_rfl) (fun _ _ _ h => h) (Or.inl ⟨by rfl, ?_⟩) hHeld ?_
  rotate_left
  focus (intro w hSw; (try dsimp only at hSw); go_simp; try (with_reducible rfl))
  try simp only [Act.put, List.setIfInBounds_toArray, List.set_cons_zero, List.set_cons_succ]
  refine wpAnyL_take 12 (i := 1) (oi := ⟨some 14, _, _, _, _, _⟩) (v := ?_) rfl (by kernel_rfl) (by kernel_rfl) (by kernel_rfl) (by kernel_rfl) (by kernel_rfl) (by kernel_rfl) (by kernel_rfl) (fun _ _ _ h => h) (Or.inl ⟨by rfl, ?_⟩) hHeld ?_
  rotate_left
  focus (intro w hSw; (try dsimp only at hSw); go_simp; try (with_reducible rfl))
  try simp only [Act.put, List.setIfInBounds_toArray, List.set_cons_zero, List.set_cons_succ]
  refine wpAnyL_take 12 (i := 2) (oi := ⟨some 15, _, _, _, _, _⟩) (v := ?_) rfl (by kernel_rfl) (by kernel_rfl) (by kernel_rfl) (by kernel_rfl) (by kernel_rfl) (by kernel_rfl) (by kernel_rfl) (fun _ _ _ h => h) (Or.inl ⟨by rfl, ?_⟩) hHeld ?_
  rotate_left
  focus (intro w hSw; (try dsimp only at hSw); go_simp; try (with_reducible rfl))
  try simp only [Act.put, List.setIfInBounds_toArray, List.set_cons_zero, List.set_cons_succ]
  refine wpAnyL_take 12 (i := 3) (oi := ⟨some 16, _, _, _, _, _⟩) (v := ?_) rfl (by kernel_rfl) (by kernel_rfl) (by kernel_rfl) (by kernel_rfl) (by kernel_rfl) (by kernel_rfl) (by kernel_rfl) (fun _ _ _ h => h) (Or.inl ⟨by rfl, ?_⟩) hHeld ?_
  rotate_left
  focus (intro w hSw; (try dsimp only at hSw); go_simp; try (with_reducible rfl))
  try simp only [Act.put, List.setIfInBounds_toArray, List.set_cons_zero, List.set_cons_succ]
  refine wpAnyL_take 12 (i := 4) (oi := ⟨some 17, _, _, _, _, _⟩) (v := ?_) rfl (by kernel_rfl) (by kernel_rfl) (by kernel_rfl) (by kernel_rfl) (by kernel_rfl) (by kernel_rfl) (by kernel_rfl) (fun _ _ _ h => h) (Or.inl ⟨by rfl, ?_⟩) hHeld ?_
  rotate_left
  focus (intro w hSw; (try dsimp only at hSw); go_simp; try (with_reducible rfl))
  try simp only [Act.put, List.setIfInBounds_toArray, List.set_cons_zero, List.set_cons_succ]
  refine wpAnyL_take 12 (i := 5) (oi := ⟨some 18, _, _, _, _, _⟩) (v := ?_) rfl (by kernel_rfl) (by kernel_rfl) (by kernel_rfl) (by kernel_rfl) (by kernel_rfl) (by kernel_rfl) (by kernel_rfl) (fun _ _ _ h => h) (Or.inl ⟨by rfl, ?_⟩) hHeld ?_
  rotate_left
  focus (intro w hSw; (try dsimp only at hSw); go_simp; try (with_reducible rfl))
  try simp only [Act.put, List.setIfInBounds_toArray, List.set_cons_zero, List.set_cons_succ]
  refine wpAnyL_take 12 (i := 7) (oi := ⟨some 20, _, _, _, _, _⟩) (v := ?_) rfl (by kernel_rfl) (by kernel_rfl) (by kernel_rfl) (by kernel_rfl) (by kernel_rfl) (by kernel_rfl) (by kernel_rfl) (fun _ _ _ h => h) (Or.inl ⟨by rfl, ?_⟩) hHeld ?_
  rotate_left
  focus (intro w hSw; (try dsimp only at hSw); go_simp; try (with_reducible rfl))
  try simp only [Act.put, List.setIfInBounds_toArray, List.set_cons_zero, List.set_cons_succ]
  refine wpAnyL_one (i := 6) (o := ⟨some 19, _, _, _, _, _⟩) (by kernel_rfl) rfl (fun K hK => ?_)
  clear hHeld
  go_simp
  go_at_call 83
  refine (HSL.out _).mono ?_
  rintro e w3 ⟨rfl, hB3⟩
  have hB23 : Below w2.heap.size w2 w3 := (Below.refl _ _).drew.trans hB3
  have hB03 : Below w.heap.size w w3 := hB02.trans (hB23.mono hB02.size)
  have hs3 := hB23.size
  go_wp2_with fail
  refine hK.out _ _ (hS0.out _ hB23) (fun hHeld => ?_)
  clear hK K
  try simp only [Act.put, List.setIfInBounds_toArray, List.set_cons_zero, List.set_cons_succ]
  refine wpAnyL_take 12 (i := 8) (oi := ⟨some 21, _, _, _, _, _⟩) (v := ?_) rfl (by kernel_rfl) (by kernel_rfl) (by kernel_rfl) (by kernel_rfl) (by kernel_rfl) (by kernel_rfl) (by kernel_rfl) (fun _ _ _ h => h) (Or.inl ⟨by rfl, ?_⟩) hHeld ?_
  rotate_left
  focus (intro w hSw; (try dsimp only at hSw); go_simp; try (with_reducible rfl))
  try simp only [Act.put, List.setIfInBounds_toArray, List.set_cons_zero, List.set_cons_succ]
  refine wpAnyL_one (i := 9) (o := ⟨some 22, _, _, _, _, _⟩) (by kernel_rfl) rfl (fun K hK => ?_)
  clear hHeld
  go_simp
  have hS4 := hS0.out _ (hB23.alloc hB23.size (.cells #[.bool false, .int .i64 (t % 2), .slice A2 64 c2] 82))
  go_wp2_with fail
  refine hK.out _ _ hS4 (fun hHeld => ?_)
  clear hK K
  try simp only [Act.put, List.setIfInBounds_toArray, List.set_cons_zero, List.set_cons_succ]
  refine wpAnyL_one (i := 10) (o := ⟨some 23, _, _, _, _, _⟩) (by kernel_rfl) rfl (fun K hK => ?_)
  clear hHeld
  refine step_append_lies (o := ⟨some 23, _, _, _, _, _⟩) _ (by rfl) _ _ 37 (by rfl) X 82 i0 (.agg #[.bool false, .int .i64 0, .slice none 0 0]) 3 40 Tryz.underlying37 hi hz0 hz1 hz2 rfl (by omega) v l.length (acCells l) (by rfl) (own_below3 H.out.row (hB03.alloc hB03.size _) (Nat.le_refl _)) ⟨w3.heap.size, 0, none⟩ 1 1 [.bool false, .int .i64 (t % 2), .slice A2 64 c2] (by rfl) rfl (news_new _ _ _) (by simp [Value.oneCell']) (by omega) (by unfold maxLen; omega) (by omega) (by simp; omega) _ rfl ?_
  intro g6 c6 w6 ho6 hg6 hg6' hl6
  obtain ⟨hf6, hc6, _⟩ := H.out.box3 hT hB03 hg6
  have hk6 : Blk w6 w.heap.size 29 [.int .i64 t, .int .i64 f, .int .i64 o] := (hg6.block w.heap.size (by have := hB03.size; simp; omega) (fun e => by have := (H.out.row.lt _ e.symm).2; omega)).trans ((HKU.out.below (hB2.trans (hB23.mono hB2.size)) hgl).alloc _)
  have hS6 : w6.cell? ⟨X, j, none⟩ = some v ∧ w6.cell? ⟨w.heap.size, 0, none⟩ = some (.int .i64 t) ∧ w6.cell? ⟨w.heap.size, 1, none⟩ = some (.int .i64 f) ∧ w6.cell? ⟨w.heap.size, 2, none⟩ = some (.int .i64 o) := ⟨hc6, blk3 hk6⟩
  have HO6 := Lib.hid ho6
  have HG6 := Lib.hid hg6
  clear ho6 hg6
  refine hK.out _ _ hS6 (fun hHeld => ?_)
  clear hK K
  try simp only [Act.put, List.setIfInBounds_toArray, List.set_cons_zero, List.set_cons_succ]
  refine wpAnyL_take 12 (i := 11) (oi := ⟨some 24, _, _, _, _, _⟩) (v := ?_) rfl (by kernel_rfl) (by kernel_rfl) (by kernel_rfl) (by kernel_rfl) (by kernel_rfl) (by kernel_rfl) (by kernel_rfl) (fun _ _ _ h => h) (Or.inl ⟨by rfl, ?_⟩) hHeld ?_
  rotate_left
  focus (intro w hSw; (try dsimp only at hSw); go_simp; try (with_reducible rfl))
  try simp only [Act.put, List.setIfInBounds_toArray, List.set_cons_zero, List.set_cons_succ]
  refine wpAnyL_take 12 (i := 12) (oi := ⟨some 25, _, _, _, _, _⟩) (v := ?_) rfl (by kernel_rfl) (by kernel_rfl) (by kernel_rfl) (by kernel_rfl) (by kernel_rfl) (by kernel_rfl) (by kernel_rfl) (fun _ _ _ h => h) (Or.inl ⟨by rfl, ?_⟩) hHeld ?_
  rotate_left
  focus (intro w hSw; (try dsimp only at hSw); go_simp; try (with_reducible rfl))
  try simp only [Act.put, List.setIfInBounds_toArray, List.set_cons_zero, List.set_cons_succ]
  refine wpAnyL_last (i := 13) (o := ⟨none, _, _, _, _, _⟩) (by kernel_rfl) rfl (by kernel_rfl) (fun K hK => ?_)
  clear hHeld
  go_simp
  go_wp2_with fail
  refine hK.out _ _ ?_
  clear hK K
  try simp only [Act.put, List.setIfInBounds_toArray, List.set_cons_zero, List.set_cons_succ]
  refine wpAnyL_done (by kernel_rfl) ?_ _
  refine NoPanic.normal ?_
  go_end0
  have hp := H.out.step (a := ⟨false, t % 2, ⟨A2, (Ub.mk t f o).octs, c2⟩⟩) (v' := .slice (some ⟨g6, 0, none⟩) (l.length + 1) c6) (w3 := w6) hT hT8 hB03
  simp only [Pt.val, Ub.octs_length] at hp
  obtain ⟨h1, h2⟩ := hp (own_below3 HO2.out hB23 (by omega)) HO6.out HG6.out
  exact ⟨_, ⟨A2, (Ub.mk t f o).octs, c2⟩, rfl, rfl, h1, h2⟩

end Go.Proofs.YtfeeejigedndcaaGreat
