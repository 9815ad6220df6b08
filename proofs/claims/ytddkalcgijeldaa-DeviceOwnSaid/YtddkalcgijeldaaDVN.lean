/-
  Read answers a sector as it would be if all that waits were done. Conditions: its lengths are a machine's.
-/
import Derived.Test.YtddkalcgijeldaaDVK
namespace Go.Proofs.Ytddkalcgijeldaa
open Go.ChangeShapes Go.WideShapes Go.ChangeAt Go.RowKit Go.Shelf
attribute [local go_sem] Oper.semAt_some

/-- What was found last. -/
def found (p : Pt) (l : List Wt) : Pt := l.foldl (fun _ x => x.p) p
theorem found_snoc (p : Pt) (l : List Wt) (x : Wt) : found p (l ++ [x]) = x.p := by simp [found]
theorem found_app (p : Pt) (l m : List Wt) : found p (l ++ m) = found (found p l) m := by simp [found]
theorem found_is (p : Pt) (S : List (List Int)) (n : Nat) (at_ : Int) (hat : at_ = n) (hS : S[n]? = some p.zs) (ws : List Wt) (hw : ∀ x ∈ ws, 0 ≤ x.at_) :
    (applyW S (ws.map Wt.st))[n]? = some (found p (sel (fun _ x => decide (x.at_ = at_)) 0 ws)).zs := by
  revert hw
  refine snoc_rec (p := fun (ws : List Wt) => (∀ x ∈ ws, 0 ≤ x.at_) → (applyW S (ws.map Wt.st))[n]? = some (found p (sel (fun _ x => decide (x.at_ = at_)) 0 ws)).zs) ?_ ?_ ws
  · intro _
    simpa [applyW, sel, found] using hS
  · intro l x ih hw
    have ih := ih fun y hy => hw y (by simp [hy])
    have hlt : n < (applyW S (l.map Wt.st)).length := (List.getElem?_eq_some_iff.1 ih).1
    rw [List.map_append, List.map_singleton, applyW_snoc, sel_snoc, List.getElem?_set]
    have hx := hw x (by simp)
    by_cases h : x.at_ = at_
    · rw [if_pos (by show x.at_.toNat = n; omega), if_pos (by show x.at_.toNat < _; rw [show x.at_.toNat = n by omega]; exact hlt), if_pos (by simp [h]), found_snoc]
      rfl
    · rw [if_neg (by show ¬ x.at_.toNat = n; omega), if_neg (by simp [h]), List.append_nil]
      exact ih
theorem found_mem (p : Pt) (l : List Wt) : found p l = p ∨ ∃ x ∈ l, found p l = x.p := by
  refine snoc_rec (p := fun (l : List Wt) => found p l = p ∨ ∃ x ∈ l, found p l = x.p) ?_ ?_ l
  · exact .inl rfl
  · intro l x _
    exact .inr ⟨x, by simp, found_snoc _ _ _⟩

/-- A sector, as it would be. -/
def readS (S : DS) (n : Nat) : List Int := (applyW S.secs S.waits)[n]?.getD []

/-- Octets, and an error. -/
abbrev ansO (v : Value) (e : Int) : Value := .tuple #[v, .int .i64 e]

set_option maxHeartbeats 1000000 in
set_option maxRecDepth 100000 in
theorem read_no (D : Dv) (hf : D.Fits) (hok : ¬ D.st.ok) (at_ : Int) (w : World) (hD : D.Lies 0 w) :
    Calls Try.prog 17 #[D.val, .int .i64 at_] w fun e w' => e = .returned (ansO (.slice none 0 0) 9) ∧ Below w.heap.size w w' := by
  have HC := Lib.hid (fun w h1 h2 => check_no D hf hok w h1 h2)
  have HD := Lib.hid hD
  clear hD hok hf
  go_enter Try.func17, Try.ntmps17
  go_wp2_with fail
  have hB0 : Below w.heap.size w ((w.alloc (.cells #[.slice D.A D.ps.length D.c, .slice D.B D.ws.length D.d] 29)).alloc (.cells #[.int .i64 at_] 3)) := ((Below.refl _ w).alloc (Nat.le_refl _) _).alloc (by simp) _
  refine (HC.out _ (HD.out.below hB0).reads.1 (HD.out.below hB0).reads.2).mono ?_
  rintro e w1 ⟨rfl, hB1⟩
  have hB01 : Below w.heap.size w w1 := hB0.trans (hB1.mono hB0.size)
  go_wp2
  go_ret2
  exact ⟨rfl, hB01⟩

set_option maxHeartbeats 1000000 in
set_option maxRecDepth 100000 in
theorem read_range (D : Dv) (hf : D.Fits) (hok : D.st.ok) (at_ : Int) (hat : ¬ (0 ≤ at_ ∧ at_ < D.ps.length)) (w : World) (hD : D.Lies 0 w) :
    Calls Try.prog 17 #[D.val, .int .i64 at_] w fun e w' => e = .returned (ansO (.slice none 0 0) 4) ∧ Below w.heap.size w w' := by
  have HC := Lib.hid (fun w h1 h2 => check_ok D hf hok w h1 h2)
  have HD := Lib.hid hD
  have HS := Lib.hid (hasSector_any D.A D.ps.length D.c D.B D.ws.length D.d at_)
  rw [decide_eq_false hat] at HS
  clear hD hok hf hat
  go_enter Try.func17, Try.ntmps17
  go_wp2_with fail
  obtain ⟨W0, hW0⟩ : ∃ W0, ((w.alloc (.cells #[.slice D.A D.ps.length D.c, .slice D.B D.ws.length D.d] 29)).alloc (.cells #[.int .i64 at_] 3)) = W0 := ⟨_, rfl⟩
  rw [hW0]
  have hB0 : Below w.heap.size w W0 := by rw [← hW0]; exact allocs_below [([.slice D.A D.ps.length D.c, .slice D.B D.ws.length D.d], 29), ([.int .i64 at_], 3)] w
  have k0 : Blk W0 w.heap.size 29 [.slice D.A D.ps.length D.c, .slice D.B D.ws.length D.d] := by rw [← hW0]; exact allocs_blk [([.slice D.A D.ps.length D.c, .slice D.B D.ws.length D.d], 29), ([.int .i64 at_], 3)] w 0 rfl
  have k1 : Blk W0 (w.heap.size + 1) 3 [.int .i64 at_] := by rw [← hW0]; exact allocs_blk [([.slice D.A D.ps.length D.c, .slice D.B D.ws.length D.d], 29), ([.int .i64 at_], 3)] w 1 rfl
  refine (HC.out _ (HD.out.below hB0).reads.1 (HD.out.below hB0).reads.2).mono ?_
  rintro e w1 ⟨rfl, hB1⟩
  have hB01 : Below w.heap.size w w1 := hB0.trans (hB1.mono hB0.size)
  have k0 := k0.below hB1 k0.lt
  have k1 := k1.below hB1 k1.lt
  have h0 := k0.cell 0
  have h1 := k0.cell 1
  have h2 := k1.cell 0
  simp only [List.getElem?_cons_zero, List.getElem?_cons_succ] at h0 h1 h2
  clear k0 k1 hW0 hB0 hB1
  go_wp2_with (refine (HS.out _).mono ?_; rintro e w2 ⟨rfl, hB2⟩)
  go_ret2
  exact ⟨rfl, hB01.trans (hB2.mono hB01.size)⟩

theorem Out.set {lo hi n : Nat} (W : World) (g o : Nat) (u : Value) (h1 : lo ≤ g) (h2 : g < hi) : Out lo hi n W (W.setCell ⟨g, o, none⟩ u) := ⟨rfl, rfl, rfl, by simp, fun k _ hk => heap_setCell_other _ _ k _ (show k ≠ g by omega)⟩
/-- Between two rounds of Read's loop. -/
def RI (w1 : World) (X : Nat) (p0 : Pt) {ws : List Wt} (pre : List (WX ws)) (W : World) : Prop :=
  Out X (X + 1) w1.heap.size w1 W ∧ Blk W X 34 [(found p0 (wvals pre)).val]
theorem rI_own {w1 : World} {X B : Nat} {p0 : Pt} {ws : List Wt} (hB : w1.heap.size ≤ B) (hX : X < w1.heap.size) : OwnFrom B (fun (pre : List (WX ws)) W => RI w1 X p0 pre W) := fun s W W' row h hg hr => by
  refine ⟨Out.ownFrom (β := Unit) (Nat.le_refl _) hB () W W' row h.1 hg hr, (hg.block X h.2.lt (fun e => ?_)).trans h.2⟩
  have := (hr X e.symm).1
  omega

set_option maxRecDepth 100000 in
set_option maxHeartbeats 2000000 in
theorem read_in (D : Dv) (hf : D.Fits) (hok : D.st.ok) (n : Nat) (hn : n < D.ps.length) (w : World) (hD : D.Lies 0 w) :
    CallsIn Fence.wide 4 Try.prog 17 #[D.val, .int .i64 n] w fun e w' => ∃ g cap, e = .returned (ansO (.slice (some ⟨g, 0, none⟩) 64 cap) 0) ∧
      w'.ownsRow w.heap.size 5 1 (.slice (some ⟨g, 0, none⟩) 64 cap) 64 (ocl (readS D.st n)) ∧ Below w.heap.size w w' := by
  have HC := Lib.hid (fun w h1 h2 => check_ok D hf hok w h1 h2)
  have HS := Lib.hid (hasSector_any D.A D.ps.length D.c D.B D.ws.length D.d n)
  rw [decide_eq_true (show 0 ≤ (n : Int) ∧ (n : Int) < D.ps.length by omega)] at HS
  obtain ⟨hk0, hk1, h64, hw⟩ := (Dv.ok_iff _).1 hok
  have hw64 : ∀ x ∈ D.ws, 0 ≤ x.at_ ∧ x.p.zs.length = 64 := fun x hx => by
    have := hw x hx
    unfold wrtE at this
    split at this
    · rename_i h1
      split at this
      · exact ⟨h1.1, by assumption⟩
      · omega
    · omega
  obtain ⟨p0, hp0⟩ : ∃ p0, D.ps[n]? = some p0 := ⟨_, List.getElem?_eq_getElem hn⟩
  have hres := found_is p0 (D.ps.map (·.zs)) n n rfl (by rw [List.getElem?_map, hp0]; rfl) D.ws (fun x hx => (hw64 x hx).1)
  have hrs : readS D.st n = (found p0 (sel (fun _ x => decide (x.at_ = n)) 0 D.ws)).zs := by
    show (applyW (D.ps.map (·.zs)) (D.ws.map Wt.st))[n]?.getD [] = _
    rw [hres]
    rfl
  have hm := hf.m
  have h640 := h64 p0 (List.mem_of_getElem? hp0)
  obtain ⟨A, ps, c, B, ws, d⟩ := D
  dsimp only at HC HS hw64 hp0 hrs hm hn h640 hk0 hk1 ⊢
  have HD := Lib.hid hD
  have HW64 := Lib.hid hw64
  obtain ⟨q, hq⟩ : ∃ q, found p0 (sel (fun _ x => decide (x.at_ = (n : Int))) 0 ws) = q := ⟨_, rfl⟩
  rw [hq] at hrs
  rw [hrs]
  have HQ := Lib.hid hq
  have HP0 := Lib.hid hp0
  have hmem0 := List.mem_of_getElem? hp0
  clear hD hok hf hw hw64 hres hrs h64 hp0 hq
  refine callsIn_of_wp_marks Try.func17 rfl trivial ?_ rfl
  simp only [Try.ntmps17, List.size_toArray, List.length_cons, List.length_nil, Nat.reduceAdd, Nat.reduceSub, Array.replicate_succ, Array.replicate_zero, List.push_toArray, List.append_toArray, List.nil_append, List.cons_append]
  gi_wp2_with fail
  obtain ⟨W0, hW0⟩ : ∃ W0, ((w.alloc (.cells #[.slice A ps.length c, .slice B ws.length d] 29)).alloc (.cells #[.int .i64 n] 3)) = W0 := ⟨_, rfl⟩
  rw [hW0]
  have hB0 : Below w.heap.size w W0 := by rw [← hW0]; exact allocs_below [([.slice A ps.length c, .slice B ws.length d], 29), ([.int .i64 n], 3)] w
  have k0 : Blk W0 w.heap.size 29 [.slice A ps.length c, .slice B ws.length d] := by rw [← hW0]; exact allocs_blk [([.slice A ps.length c, .slice B ws.length d], 29), ([.int .i64 n], 3)] w 0 rfl
  have k1 : Blk W0 (w.heap.size + 1) 3 [.int .i64 n] := by rw [← hW0]; exact allocs_blk [([.slice A ps.length c, .slice B ws.length d], 29), ([.int .i64 n], 3)] w 1 rfl
  have hs0 : W0.heap.size = w.heap.size + 2 := by rw [← hW0]; simp
  refine ⟨trivial, (callsIn_wide.2 (HC.out _ (HD.out.below hB0).reads.1 (HD.out.below hB0).reads.2)).mono ?_⟩
  rintro e w1 ⟨rfl, hB1⟩
  have hB01 : Below w.heap.size w w1 := hB0.trans (hB1.mono hB0.size)
  have k0 := k0.below hB1 k0.lt
  have k1 := k1.below hB1 k1.lt
  have h0 := k0.cell 0
  have h1 := k0.cell 1
  have h2 := k1.cell 0
  simp only [List.getElem?_cons_zero, List.getElem?_cons_succ] at h0 h1 h2
  have K0 := Lib.hid k0
  have K1 := Lib.hid k1
  have hs1 := hB1.size
  clear k0 k1 hW0 hB0 hB1
  gi_wp2_with fail
  refine ⟨trivial, (callsIn_wide.2 (HS.out w1)).mono ?_⟩
  rintro e w2 ⟨rfl, hB2⟩
  have hB02 : Below w.heap.size w w2 := hB01.trans (hB2.mono hB01.size)
  have hs2 := hB2.size
  have k0 := K0.out.below hB2 (by omega)
  have k1 := K1.out.below hB2 (by omega)
  have h0 := k0.cell 0
  have h1 := k0.cell 1
  have h2 := k1.cell 0
  obtain ⟨b, off, hAA, hb, hcp⟩ := (HD.out.below hB02).secs.1.pt HP0.out
  simp only [List.getElem?_cons_zero, List.getElem?_cons_succ] at h0 h1 h2
  dsimp only at hAA
  subst hAA
  simp only [Pt.val, h640] at hcp
  have K0 := Lib.hid k0
  have K1 := Lib.hid k1
  have hlt0 : w.heap.size < w2.heap.size := by omega
  have hlt1 : w.heap.size + 1 < w2.heap.size := by omega
  clear k0 k1 hB01 hB2
  gi_wp2_with (refine ⟨trivial, ?_⟩; gi_at_call 35; refine (waiting_in 3 _ _ _ _ _ _ _ ⟨_, _, rfl⟩ _).mono ?_; rintro e w' ⟨rfl, rfl⟩)
  obtain ⟨w3, hw3⟩ : ∃ w3, (((w2.alloc (.cells #[.slice p0.A 64 p0.c] 34)).alloc (.cells #[.slice (some ⟨b, off, none⟩) ps.length c, .slice B ws.length d] 29)).alloc (.cells #[.func (.func 36) #[] #[.pointer (some ⟨w.heap.size + 1, 0, none⟩)]] 64)) = w3 := ⟨_, rfl⟩
  rw [hw3]
  have hB3 : Below w2.heap.size w2 w3 := by rw [← hw3]; exact allocs_below [([.slice p0.A 64 p0.c], 34), ([.slice (some ⟨b, off, none⟩) ps.length c, .slice B ws.length d], 29), ([.func (.func 36) #[] #[.pointer (some ⟨w.heap.size + 1, 0, none⟩)]], 64)] w2
  have kX : Blk w3 w2.heap.size 34 [.slice p0.A 64 p0.c] := by rw [← hw3]; exact allocs_blk [([.slice p0.A 64 p0.c], 34), ([.slice (some ⟨b, off, none⟩) ps.length c, .slice B ws.length d], 29), ([.func (.func 36) #[] #[.pointer (some ⟨w.heap.size + 1, 0, none⟩)]], 64)] w2 0 rfl
  have kD : Blk w3 (w2.heap.size + 1) 29 [.slice (some ⟨b, off, none⟩) ps.length c, .slice B ws.length d] := by rw [← hw3]; exact allocs_blk [([.slice p0.A 64 p0.c], 34), ([.slice (some ⟨b, off, none⟩) ps.length c, .slice B ws.length d], 29), ([.func (.func 36) #[] #[.pointer (some ⟨w.heap.size + 1, 0, none⟩)]], 64)] w2 1 rfl
  have kF : Blk w3 (w2.heap.size + 1 + 1) 64 [.func (.func 36) #[] #[.pointer (some ⟨w.heap.size + 1, 0, none⟩)]] := by rw [← hw3]; exact allocs_blk [([.slice p0.A 64 p0.c], 34), ([.slice (some ⟨b, off, none⟩) ps.length c, .slice B ws.length d], 29), ([.func (.func 36) #[] #[.pointer (some ⟨w.heap.size + 1, 0, none⟩)]], 64)] w2 2 rfl
  have hs3 : w3.heap.size = w2.heap.size + 3 := by rw [← hw3]; simp
  have hB03 : Below w.heap.size w w3 := hB02.trans (hB3.mono hB02.size)
  have k1 := K1.out.below hB3 hlt1
  obtain ⟨b', off', hA', hbo, hcs⟩ : ∃ b' off', (ws ≠ [] → B = some ⟨b', off', none⟩) ∧ (b' < w2.heap.size ∨ w2.heap.size + 1 ≤ b') ∧ ∀ j x, ws[j]? = some x → w3.cell? ⟨b', off' + j * 2, none⟩ = some (.int .i64 x.at_) ∧ w3.cell? ⟨b', off' + j * 2 + 1, none⟩ = some x.p.val := by
    by_cases he : ws = []
    · subst he
      exact ⟨0, 0, fun h => absurd rfl h, .inl (by omega), fun j x hx => by simp at hx⟩
    · have hf := (HD.out.below hB02).waits.1
      obtain ⟨b', off', e, hb, hc⟩ := hf (by intro h; have := congrArg List.length h; rw [wtCells_length] at this; exact he (List.eq_nil_of_length_eq_zero (by simp only [List.length_nil] at this; omega)))
      refine ⟨b', off', fun _ => e, .inl hb, fun j x hx => ?_⟩
      obtain ⟨e1, e2⟩ := wtCells_at ws j x hx
      exact ⟨(hB3.cell (p := ⟨b', _, none⟩) hb).trans (hc _ _ e1), (hB3.cell (p := ⟨b', _, none⟩) hb).trans (hc _ _ e2)⟩
  have HD3 := Lib.hid (HD.out.below hB03)
  have K13 := Lib.hid k1
  have KX := Lib.hid kX
  clear hw3 hcp h0 h1 h2 k1
  refine wpIn_rangeFunc_ownH rfl (by omega) (gf := 42) (lb := #[.pointer (some ⟨w2.heap.size + 1, 0, none⟩), .pointer (some ⟨w2.heap.size + 1 + 1, 0, none⟩)]) rfl trivial (enters_of Try.func42 (by kernel_rfl) rfl)
    (waiting_stops 3 (w2.heap.size + 1) (w2.heap.size + 1 + 1) 36 b' off' d w2.heap.size (w2.heap.size + 1) #[.pointer (some ⟨w.heap.size + 1, 0, none⟩)] (enters_of Try.func36 (by kernel_rfl) rfl) B ws hm hA' hbo (.inr (by omega)) (fun _ x => decide (x.at_ = n))
      (fun W => W.cell? ⟨w.heap.size + 1, 0, none⟩ = some (.int .i64 n)) (fun W W' h hk => hk _ _ _ (.inl hlt1) h) (fun W h k x _ => read1_any (w.heap.size + 1) n k x W h) w3 (kD.cell 1) (kF.cell 0) (K13.out.cell 0) hcs)
    KeepsOut.trans (fun W l o o' _ h hc _ => KeepsOut.putObj W l o o' h hc) (Below.refl _ _) (fun _ => rfl)
    (fun pre W => RI w3 w2.heap.size p0 pre W)
    (fun _ _ _ => False)
    (rI_own (Nat.le_refl _) (by omega))
    (fun _ _ _ _ _ hs _ _ => hs)
    ⟨Out.refl _ _ _ _, by show Blk _ _ _ [p0.val]; rw [Pt.val, h640]; exact KX.out⟩
    (fun x a' W => ∃ g, w3.heap.size ≤ g ∧ a' = { tmps := #[.agg #[.slice (some ⟨b, off, none⟩) ps.length c, .slice B ws.length d], .int .i64 n, .pointer (some ⟨w.heap.size, 0, none⟩), .pointer (some ⟨w.heap.size + 1, 0, none⟩), .slice none 0 0, .int .i64 0, .int .i64 0, .pointer (some ⟨w2.heap.size, 0, none⟩), .pointer (some ⟨g, 0, none⟩),
      .agg #[.slice (some ⟨b, off, none⟩) ps.length c, .slice B ws.length d], .int .i64 0, .int .i64 0, .bool false, undef, .agg #[.slice (some ⟨b, off, none⟩) ps.length c, .slice B ws.length d], .int .i64 n, .bool true, .bool false, .pointer (some ⟨w.heap.size, 0, none⟩), .slice (some ⟨b, off, none⟩) ps.length c, .int .i64 n, .pointer (some ⟨b, off + n, none⟩), .slice p0.A 64 p0.c,
      .agg #[.slice (some ⟨b, off, none⟩) ps.length c, .slice B ws.length d], .func (.func 36) #[] #[.pointer (some ⟨w.heap.size + 1, 0, none⟩)], .func (.func 42) #[] #[.pointer (some ⟨w2.heap.size + 1, 0, none⟩), .pointer (some ⟨w2.heap.size + 1 + 1, 0, none⟩)], x.1.val, undef, undef, undef, undef], defers := [] }
      ∧ Blk W g 45 [.int .i64 x.1.at_, x.1.p.val])
    ?hAx ?assign ?body ?done ?stop
  case hAx =>
    rintro x a' s W W' row ⟨g, hg1, ha, hk⟩ hg hr
    refine ⟨g, hg1, ha, (hg.block g hk.lt (fun e => ?_)).trans hk⟩
    obtain ⟨_, o, ho, hc⟩ := hr g e.symm
    rw [show W.heap[g]? = _ from hk] at ho
    cases ho
    cases hc
  case assign =>
    rintro l pre x W K' hI hK
    have hsz := hI.1.size
    have hk := Blk.new W [.int .i64 x.1.at_, x.1.p.val] 45
    have HK := Lib.hid hk
    clear hk
    gi_wp2
    exact hK _ _ ((KeepsOthers.alloc _ _).from _) (KeepsOut.below ((Below.refl _ W).alloc (Nat.le_refl _) _)) ((rI_own (Nat.le_refl _) (by omega)).alloc _ hI) ⟨W.heap.size, hsz, rfl, HK.out⟩
  case body =>
    rintro l pre ⟨⟨at_, p⟩, hmem⟩ a' W _ _ ⟨hO, hbx⟩ ⟨g, hg, rfl, hk⟩ hpl
    have hc1 := hk.cell 1
    have hx0 := hbx.cell 0
    have hxf := hbx.frozen 0
    simp only [List.getElem?_cons_zero, List.getElem?_cons_succ] at hc1 hx0
    have HO := Lib.hid hO
    have HBX := Lib.hid hbx
    clear hO hbx hk
    gi_wp2
    have hw := Out.set (lo := w2.heap.size) (hi := w2.heap.size + 1) (n := W.heap.size) W w2.heap.size 0 (.slice p.A p.zs.length p.c) (Nat.le_refl _) (Nat.lt_succ_self _)
    refine ⟨hw.keepsFrom (by omega), hw.keeps, HO.out.trans (Out.set W w2.heap.size 0 _ (Nat.le_refl _) (Nat.lt_succ_self _)), ?_⟩
    rw [wvals_snoc, found_snoc]
    exact HBX.out.set 0 p.val
  case done =>
    rintro D' ys W hD' hS ⟨hO, hbx⟩ hK
    have hq := HQ.out
    rw [hS, hq] at hbx
    have hq64 : q.zs.length = 64 ∧ Rd w q.A (ocl q.zs) := by
      rcases found_mem p0 (sel (fun _ x => decide (x.at_ = (n : Int))) 0 ws) with h | ⟨x, hx, h⟩
      · rw [hq] at h
        rw [h]
        exact ⟨h640, (HD.out.sec p0 hmem0).1⟩
      · rw [hq] at h
        have hx' : x ∈ ws := by
          rw [← hS] at hx
          obtain ⟨y, _, rfl⟩ := List.mem_map.1 hx
          exact y.2
        rw [h]
        exact ⟨(HW64.out x hx').2, (HD.out.wait x hx').1⟩
    obtain ⟨hq64, hqr⟩ := hq64
    have hBW : Below w.heap.size w W := hB03.trans (hO.below (by omega) (by omega))
    have hx0 := hbx.cell 0
    simp only [List.getElem?_cons_zero, Pt.val, hq64] at hx0
    have HCL := Lib.hid (clone_any q.A 64 q.c q.zs hq64 (by omega) (by omega) W (hqr.below hBW))
    clear hq hqr hS hbx kD kF
    gi_wp2_with (refine ⟨trivial, ?_⟩; gi_at_call 37; refine (callsIn_wide.2 HCL.out).mono ?_; rintro e w5 ⟨g, cap, rfl, hown, hB5⟩)
    have hK' : w5.heap[D']? = some (.deferred (some [])) := (hB5.block _ (Array.getElem?_eq_some_iff.1 hK).1).trans hK
    have hB05 : Below w.heap.size w w5 := hBW.trans (hB5.mono hBW.size)
    have hgl := hown.lt g rfl
    refine ⟨by simp, .inl ⟨_, _, rfl, run_takeDeferred hK', ?_⟩⟩
    refine ⟨ansO (.slice (some ⟨g, 0, none⟩) 64 cap) 0, ?_, g, cap, rfl, own_stay (own_base hown hBW.size) fun b hb => ?_, hB05.trans (belowK_b (w := w) (Nat.le_refl _) w5 D' _ _ (by omega) hK' rfl rfl)⟩
    · simp [results, Try.results17, go_sem]
    · have h2 : g = b := by simpa [Value.ownBlock] using hb
      subst h2
      refine World.putObj_heap_other (fun e => ?_)
      have := (Array.getElem?_eq_some_iff.1 hK).1
      omega
  case stop =>
    rintro D c pre W _ _ h _
    exact h.elim

end Go.Proofs.Ytddkalcgijeldaa
