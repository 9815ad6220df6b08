/-
  settle does those of the writes that wait which are wanted, on sectors of the call's own. Conditions: the device may be.
-/
import Derived.Test.YtddkalcgijeldaaDVE
import Derived.Test.YtddkalcgijeldaaDVF
import Derived.Laws.CopyOwn
namespace Go.Proofs.Ytddkalcgijeldaa
open Go.ChangeShapes Go.WideShapes Go.ChangeAt Go.RowKit Go.Shelf
attribute [local go_sem] Oper.semAt_some

/-- Below block n all blocks are as they were, but those from lo to below hi. -/
structure Out (lo hi n : Nat) (w w' : World) : Prop where
  os : w'.os = w.os
  tape : w'.tape = w.tape
  output : w'.output = w.output
  size : w.heap.size ≤ w'.heap.size
  block : ∀ k, k < n → k < lo ∨ hi ≤ k → w'.heap[k]? = w.heap[k]?
theorem Out.of_below {lo hi n : Nat} {w w' : World} (h : Below n w w') : Out lo hi n w w' := ⟨h.os, h.tape, h.output, h.size, fun k hk _ => h.block k hk⟩
theorem Out.refl (lo hi n : Nat) (w : World) : Out lo hi n w w := .of_below (Below.refl _ _)
theorem Out.trans {lo hi n : Nat} {a b c : World} (h : Out lo hi n a b) (k : Out lo hi n b c) : Out lo hi n a c :=
  ⟨k.os.trans h.os, k.tape.trans h.tape, k.output.trans h.output, Nat.le_trans h.size k.size, fun i hi ho => (k.block i hi ho).trans (h.block i hi ho)⟩
theorem Out.mono {lo hi n lo' hi' n' : Nat} {w w' : World} (h : Out lo hi n w w') (hl : lo' ≤ lo) (hh : hi ≤ hi') (hn : n' ≤ n) : Out lo' hi' n' w w' := ⟨h.os, h.tape, h.output, h.size, fun k hk ho => h.block k (by omega) (by omega)⟩
theorem Out.below {lo hi n m : Nat} {w w' : World} (h : Out lo hi n w w') (h1 : m ≤ n) (h2 : m ≤ lo) : Below m w w' := ⟨h.os, h.tape, h.output, h.size, fun k hk => h.block k (by omega) (.inl (by omega))⟩
theorem Out.ownFrom {β : Type} {lo hi n B : Nat} {w : World} (hn : n ≤ w.heap.size) (hB : n ≤ B) : OwnFrom B (fun (_ : β) W => Out lo hi n w W) := fun s W W' row h hg hr =>
  h.trans ⟨hg.os, hg.tape, hg.output, hg.size, fun k hk _ => hg.block k (by have := h.size; omega) (fun e => by have := (hr k e.symm).1; omega)⟩
theorem Out.keeps {lo hi : Nat} {w w' : World} (h : Out lo hi w.heap.size w w') : KeepsOut lo hi w w' := fun b o _ hb hv =>
  (World.cell?_of_block (h.block b (World.block_lt_of_cell? w ⟨b, o, none⟩ hv) hb)).trans hv
theorem Out.keepsFrom {lo hi B : Nat} {w w' : World} (h : Out lo hi w.heap.size w w') (hB : hi ≤ B) : KeepsFrom B w w' := ⟨h.size, fun k o h1 h2 _ => (h.block k (Array.getElem?_eq_some_iff.1 h2).1 (.inr (by omega))).trans h2⟩

/-- copy over the whole of a row of the call's own. -/
theorem step_copy_over {P : Program} {ops : Array Oper} {o : Oper} {a : Act} {w : World} {K : Act → World → Prop} {Q : Exit → Act → World → Prop} {E : Prop} (hgd : o.guard = none) (d s : Operand) (dT sT : TypeId)
    (ho : o.op = .call { callee := .builtin .copy, args := #[d, s], argTypes := #[dT, sT] }) (elem : TypeId) (hu : P.underlying dT = some (.slice elem)) (hsz : (P.info? elem).map (·.size) = some 1)
    (base g n cap : Nat) (xs : List Value) (hown : w.ownsRow base elem 1 (.slice (some ⟨g, 0, none⟩) n cap) n xs) (ad : Addr) (sCap : Nat) (hd : a.eval d = .slice (some ⟨g, 0, none⟩) n cap) (hs : a.eval s = .slice (some ad) n sCap)
    (cs : List Value) (hn : cs.length = n) (hsrc : ∀ j v, cs[j]? = some v → w.cell? (ad.add j) = some v) (h1 : ∀ v ∈ cs, v.oneCell' = true)
    (h : ∀ w', w'.ownsRow base elem 1 (.slice (some ⟨g, 0, none⟩) n cap) n cs → (∀ m, Out g (g + 1) m w w') → K (a.put o.dst (goInt cs.length)) w') :
    if Region.wanted o (yielded ops a.tmps) = true then Oper.wp P o a w K Q else E := by
  have hw : Region.wanted o (yielded ops a.tmps) = true := by simp [Region.wanted, hgd]
  rw [if_pos hw]
  rcases hown.2 with ⟨hv, _⟩ | ⟨g', cap', cur, hv, hb, hg, hc1, hc2, hc3, hc4⟩
  · cases hv
  · injection hv with e1 e2 e3
    injection e1 with e1
    injection e1 with e1
    subst e1
    subst e3
    have hrun := run_copy_row (P := P) w dT sT o.type elem g 0 n cap ad n sCap cur elem cs hu hsz hg (by simpa using hn) hsrc (by omega) h1
    unfold Oper.wp
    simp [execOp, ho, resolve, invoke, builtin, hd, hs, hrun, Result.andThen]
    refine h _ ⟨by simp [hn], .inr ⟨g, cap, _, rfl, hb, setRow_heap w g _ _ elem _ hg, hc1, hc2, ?_, ?_⟩⟩ (fun m => ⟨rfl, rfl, rfl, by simp [World.setRow], fun k _ hk => setRow_other w g k _ (by omega)⟩)
    · simp at hc3 ⊢
      omega
    · simp only [Nat.mul_one]
      rw [List.take_append_of_le_length (by omega), List.take_of_length_le (by omega)]

theorem set_at {α : Type} {xs : List α} {k j : Nat} {y p : α} (h : (xs.set k y)[j]? = some p) : (j = k ∧ p = y) ∨ (j ≠ k ∧ xs[j]? = some p) := by
  rw [List.getElem?_set] at h
  split at h
  · rename_i e
    split at h
    · exact .inl ⟨e.symm, by injection h with h; exact h.symm⟩
    · cases h
  · rename_i e
    exact .inr ⟨fun e' => e e'.symm, h⟩
/-- One sector is another one. -/
theorem Secs.upd {lo hi : Nat} {W W' : World} {qs : List Pt} {k g : Nat} {q : Pt} {zs : List Int} (h : Secs lo hi W qs) (hq : qs[k]? = some q) (hA : q.A = some ⟨g, 0, none⟩) (hg : g < hi) (hn : zs.length = q.zs.length)
    (hrow : W'.ownsRow lo 5 1 (.slice q.A q.zs.length q.c) q.zs.length (ocl zs)) (hs : ∀ b, lo ≤ b → b < hi → b ≠ g → W'.heap[b]? = W.heap[b]?) : Secs lo hi W' (qs.set k ⟨q.A, zs, q.c⟩) := by
  refine ⟨fun j p hp => ?_, fun i j p p' hp hp' hij => ?_⟩
  · rcases set_at hp with ⟨rfl, rfl⟩ | ⟨hj, hp⟩
    · refine ⟨g, hA, hg, ?_⟩
      simp only [Pt.val, hn]
      exact hrow
    · obtain ⟨g', e, hg', ho⟩ := h.own j p hp
      refine ⟨g', e, hg', own_stay ho fun b hb => ?_⟩
      have hb' : g' = b := by
        rw [Pt.val, e] at hb
        simpa [Value.ownBlock] using hb
      subst hb'
      refine hs _ (ho.lt _ hb).1 hg' (fun e' => h.apart j k p q hp hq hj ?_)
      rw [e, hA, e']
  · rcases set_at hp with ⟨rfl, rfl⟩ | ⟨hi', hp2⟩ <;> rcases set_at hp' with ⟨rfl, rfl⟩ | ⟨hj', hp3⟩
    · exact absurd rfl hij
    · exact (h.apart _ _ q p' hq hp3 hij : q.A ≠ p'.A)
    · exact (h.apart _ _ p q hp2 hq hij : p.A ≠ q.A)
    · exact h.apart _ _ _ _ hp2 hp3 hij
theorem Secs.ownFrom {β : Nat → Prop} {lo hi B : Nat} {W W' : World} {qs : List Pt} {row : Option Nat} (hB : hi ≤ B) (h : Secs lo hi W qs) (hr0 : hi ≤ W.heap.size) (hg : W.grownBy W' row) (hr : ∀ r, row = some r → B ≤ r ∧ β r) : Secs lo hi W' qs :=
  h.stay fun k _ h2 => hg.block k (by omega) (fun e => by have := (hr k e.symm).1; omega)

theorem applyW_at (S : List (List Int)) (l : List (Int × List Int)) (x : Int × List Int) (k : Nat) (h : x.1 = k) : applyW S (l ++ [x]) = (applyW S l).set k x.2 := by
  rw [applyW_snoc, h, Int.toNat_natCast]
theorem map_set_zs (qs : List Pt) (k : Nat) (p : Pt) : (qs.set k p).map (·.zs) = (qs.map (·.zs)).set k p.zs := by simp [List.map_set]
theorem ptCells_set {qs : List Pt} {k : Nat} {q : Pt} (hq : qs[k]? = some q) (zs : List Int) (hn : zs.length = q.zs.length) : ptCells (qs.set k ⟨q.A, zs, q.c⟩) = ptCells qs := by
  unfold ptCells
  rw [List.map_set]
  simp only [Pt.val, hn]
  refine List.ext_getElem? fun i => ?_
  rw [List.getElem?_set]
  split
  · rename_i h
    subst h
    rw [List.getElem?_map, hq]
    have := (List.getElem?_eq_some_iff.1 hq).1
    simp [this]
  · rfl

theorem dsize8 : (Try.prog.info? 5).map (·.size) = some 1 := by kernel_rfl
/-- Between two rounds. -/
def SI (w1 : World) (lo hi : Nat) (ps : List Pt) {ws : List Wt} (pre : List (WX ws)) (W : World) : Prop :=
  Out lo hi w1.heap.size w1 W ∧ ∃ qs : List Pt, ptCells qs = ptCells ps ∧ Secs lo hi W qs ∧ qs.map (·.zs) = applyW (ps.map (·.zs)) ((wvals pre).map Wt.st)
theorem sI_own {w1 : World} {lo hi B : Nat} {ps : List Pt} {ws : List Wt} (hB : w1.heap.size ≤ B) (hh : hi ≤ w1.heap.size) : OwnFrom B (fun (pre : List (WX ws)) W => SI w1 lo hi ps pre W) := fun s W W' row h hg hr => by
  obtain ⟨h1, qs, h2, h3, h4⟩ := h
  exact ⟨Out.ownFrom (β := Unit) (Nat.le_refl _) hB () W W' row h1 hg hr, qs, h2, Secs.ownFrom (Nat.le_trans hh hB) h3 (Nat.le_trans hh h1.size) hg hr, h4⟩

set_option maxRecDepth 100000 in
set_option maxHeartbeats 2000000 in
theorem settle_in (D : Dv) (base lo hi gw : Nat) (lb : Array Value) (eg : Enters Try.prog gw) (K : Nat → Wt → Bool) (Cap : World → Prop) (hcap : ∀ W W', Cap W → KeepsOut lo hi W W' → Cap W') (w : World)
    (hO : D.Own base lo hi w) (hok : D.st.ok) (hm : D.ws.length ≤ 4398046511104)
    (hwant : ∀ W, Cap W → ∀ k x, D.ws[k]? = some x → Calls Try.prog gw (#[.int .i64 k, x.val] ++ lb) W fun e W' => e = .returned (.bool (K k x)) ∧ Below W.heap.size W W') (hCap : Cap w) :
    CallsIn Fence.wide 4 Try.prog 30 #[D.val, .func (.func gw) #[] lb] w fun e W' => ∃ qs : List Pt, e = .returned (dval D.A D.ps.length D.c none 0 0) ∧ ptCells qs = ptCells D.ps ∧
      qs.map (·.zs) = applyW (D.ps.map (·.zs)) ((sel K 0 D.ws).map Wt.st) ∧ Secs lo hi W' qs ∧ Out lo hi w.heap.size w W' := by
  obtain ⟨A, ps, c, B, ws, d⟩ := D
  obtain ⟨⟨G, hA, hG, harr⟩, hbl, hlh, hsecs, hrow, hwait, hroom⟩ := hO
  obtain ⟨hn0, hn1, h64, hw⟩ := (Dv.ok_iff _).1 hok
  dsimp only at hA harr hsecs hrow hwait hwant hm hn0 hn1 h64 hw ⊢
  have hw64 : ∀ x ∈ ws, 0 ≤ x.at_ ∧ x.at_ < ps.length ∧ x.p.zs.length = 64 := fun x hx => by
    have := hw x hx
    unfold wrtE at this
    split at this
    · rename_i h1
      split at this
      · exact ⟨h1.1, h1.2, by assumption⟩
      · omega
    · omega
  subst hA
  have HARR := Lib.hid harr
  have HSEC := Lib.hid hsecs
  have HROW := Lib.hid hrow
  have HWAIT := Lib.hid hwait
  have H64 := Lib.hid h64
  have HW64 := Lib.hid hw64
  have HWANT := Lib.hid hwant
  have hGw := (harr.lt G rfl)
  clear hok harr hsecs hrow hwait h64 hw64 hw hwant
  refine callsIn_of_wp_marks Try.func30 rfl trivial ?_ rfl
  simp only [Try.ntmps30, List.size_toArray, List.length_cons, List.length_nil, Nat.reduceAdd, Nat.reduceSub, Array.replicate_succ, Array.replicate_zero, List.push_toArray, List.append_toArray, List.nil_append, List.cons_append]
  gi_wp2_with (refine ⟨trivial, ?_⟩; gi_at_call 35; refine (waiting_in 3 _ _ _ _ _ _ _ ⟨_, _, rfl⟩ _).mono ?_; rintro e w' ⟨rfl, rfl⟩)
  obtain ⟨w1, hw1⟩ : ∃ w1, ((((w.alloc (.cells #[.slice (some ⟨G, 0, none⟩) ps.length c, .slice B ws.length d] 29)).alloc (.cells #[.slice none 0 0, .slice none 0 0] 29)).alloc (.cells #[.slice (some ⟨G, 0, none⟩) ps.length c, .slice B ws.length d] 29)).alloc (.cells #[.func (.func gw) #[] lb] 64)) = w1 := ⟨_, rfl⟩
  rw [hw1]
  have hs1 : w1.heap.size = w.heap.size + 1 + 1 + 1 + 1 := by rw [← hw1]; simp
  have hB1 : Below w.heap.size w w1 := hw1 ▸ ((((Below.refl _ w).alloc (Nat.le_refl _) _).alloc (by simp) _).alloc (by simp; omega) _).alloc (by simp; omega) _
  have k0 : Blk w1 w.heap.size 29 [.slice (some ⟨G, 0, none⟩) ps.length c, .slice B ws.length d] := hw1 ▸ ((((Blk.new w [.slice (some ⟨G, 0, none⟩) ps.length c, .slice B ws.length d] 29).alloc _).alloc _).alloc _)
  have k1 : Blk w1 (w.heap.size + 1) 29 [.slice none 0 0, .slice none 0 0] := by
    have := Blk.new (w.alloc (.cells #[.slice (some ⟨G, 0, none⟩) ps.length c, .slice B ws.length d] 29)) [.slice none 0 0, .slice none 0 0] 29
    rw [World.size_alloc] at this
    exact hw1 ▸ (this.alloc _).alloc _
  have k2 : Blk w1 (w.heap.size + 1 + 1) 29 [.slice (some ⟨G, 0, none⟩) ps.length c, .slice B ws.length d] := by
    have := Blk.new ((w.alloc (.cells #[.slice (some ⟨G, 0, none⟩) ps.length c, .slice B ws.length d] 29)).alloc (.cells #[.slice none 0 0, .slice none 0 0] 29)) [.slice (some ⟨G, 0, none⟩) ps.length c, .slice B ws.length d] 29
    rw [World.size_alloc, World.size_alloc] at this
    exact hw1 ▸ this.alloc _
  have k3 : Blk w1 (w.heap.size + 1 + 1 + 1) 64 [.func (.func gw) #[] lb] := by
    have := Blk.new (((w.alloc (.cells #[.slice (some ⟨G, 0, none⟩) ps.length c, .slice B ws.length d] 29)).alloc (.cells #[.slice none 0 0, .slice none 0 0] 29)).alloc (.cells #[.slice (some ⟨G, 0, none⟩) ps.length c, .slice B ws.length d] 29)) [.func (.func gw) #[] lb] 64
    rw [World.size_alloc, World.size_alloc, World.size_alloc] at this
    exact hw1 ▸ this
  have hC1 : Cap w1 := hcap _ _ hCap (KeepsOut.below hB1)
  obtain ⟨b, off, hA', hbo, hcs⟩ : ∃ b off, (ws ≠ [] → B = some ⟨b, off, none⟩) ∧ (b < lo ∨ hi ≤ b) ∧ ∀ j x, ws[j]? = some x → w1.cell? ⟨b, off + j * 2, none⟩ = some (.int .i64 x.at_) ∧ w1.cell? ⟨b, off + j * 2 + 1, none⟩ = some x.p.val := by
    by_cases he : ws = []
    · subst he
      exact ⟨hi, 0, fun h => absurd rfl h, .inr (Nat.le_refl _), fun j x hx => by simp at hx⟩
    · have hf := RdF.of_own HROW.out
      obtain ⟨b, off, e, hb, hc⟩ := hf.1 (by intro h; have := congrArg List.length h; rw [wtCells_length] at this; exact he (List.eq_nil_of_length_eq_zero (by simp only [List.length_nil] at this; omega)))
      refine ⟨b, off, fun _ => e, .inr (hf.2 _ e (by intro h; have := congrArg List.length h; rw [wtCells_length] at this; exact he (List.eq_nil_of_length_eq_zero (by simp only [List.length_nil] at this; omega)))), fun j x hx => ?_⟩
      obtain ⟨e1, e2⟩ := wtCells_at ws j x hx
      exact ⟨(hB1.cell (p := ⟨b, _, none⟩) hb).trans (hc _ _ e1), (hB1.cell (p := ⟨b, _, none⟩) hb).trans (hc _ _ e2)⟩
  have HARR1 := Lib.hid (own_stay HARR.out (fun b hb => hB1.block b (HARR.out.lt b hb).2))
  have HSEC1 := Lib.hid (HSEC.out.stay (W' := w1) (fun k _ h => hB1.block k (by omega)))
  have HWAIT1 := Lib.hid (fun x hx => own_stay (HWAIT.out x hx) (fun b hb => hB1.block b ((HWAIT.out x hx).lt b hb).2))
  refine wpIn_rangeFunc_ownH rfl (by omega) (gf := 42) (lb := #[.pointer (some ⟨w.heap.size + 1 + 1, 0, none⟩), .pointer (some ⟨w.heap.size + 1 + 1 + 1, 0, none⟩)]) rfl trivial (enters_of Try.func42 (by kernel_rfl) rfl)
    (waiting_stops 3 (w.heap.size + 1 + 1) (w.heap.size + 1 + 1 + 1) gw b off d lo hi lb eg B ws hm hA' hbo (.inr (by omega)) K Cap hcap HWANT.out w1 (k2.cell 1) (k3.cell 0) hC1 hcs)
    KeepsOut.trans (fun W l o o' _ h hc _ => KeepsOut.putObj W l o o' h hc) (Below.refl _ _) (fun _ => rfl)
    (fun pre W => SI w1 lo hi ps pre W)
    (fun _ _ _ => False)
    (sI_own (Nat.le_refl _) (by omega))
    (fun _ _ _ _ _ hs _ _ => hs)
    ⟨Out.refl _ _ _ _, ps, rfl, HSEC1.out, rfl⟩
    (fun x a' W => ∃ g, w1.heap.size ≤ g ∧ a' = { tmps := #[.agg #[.slice (some ⟨G, 0, none⟩) ps.length c, .slice B ws.length d], .func (.func gw) #[] lb, .pointer (some ⟨w.heap.size, 0, none⟩), undef, .pointer (some ⟨w.heap.size + 1, 0, none⟩), .pointer (some ⟨g, 0, none⟩),
      .agg #[.slice (some ⟨G, 0, none⟩) ps.length c, .slice B ws.length d], .func (.func gw) #[] lb, .func (.func 42) #[] #[.pointer (some ⟨w.heap.size + 1 + 1, 0, none⟩), .pointer (some ⟨w.heap.size + 1 + 1 + 1, 0, none⟩)], x.1.val, undef, undef, undef, undef, undef, undef, undef, undef, undef, undef, undef, undef], defers := [] }
      ∧ Blk W g 45 [.int .i64 x.1.at_, x.1.p.val])
    ?hAx ?assign ?body ?done ?stop
  case hAx =>
    rintro x a' s W W' row ⟨g, hg1, ha, hk⟩ hg hr
    refine ⟨g, hg1, ha, (hg.block g hk.lt (fun e => ?_)).trans hk⟩
    obtain ⟨_, o, ho, hc⟩ := hr g e.symm
    rw [show W.heap[g]? = _ from hk] at ho
    cases ho
    cases hc
  case assign =>
    rintro l pre x W K' hI hK
    have hsz := hI.1.size
    have hk := Blk.new W [.int .i64 x.1.at_, x.1.p.val] 45
    have HK := Lib.hid hk
    clear hk
    gi_wp2
    exact hK _ _ ((KeepsOthers.alloc _ _).from _) (KeepsOut.below ((Below.refl _ W).alloc (Nat.le_refl _) _)) ((sI_own (Nat.le_refl _) (by omega)).alloc _ hI) ⟨W.heap.size, hsz, rfl, HK.out⟩
  case body =>
    rintro l pre ⟨⟨at_, p⟩, hmem⟩ a' W _ _ ⟨hO, qs, hqp, hqs, hqz⟩ ⟨g, hg, rfl, hk⟩ hpl
    obtain ⟨hat0, hat1, hpl64⟩ := HW64.out _ hmem
    dsimp only at hat0 hat1 hpl64
    obtain ⟨k, rfl⟩ := Int.eq_ofNat_of_zero_le hat0
    have hkl : k < ps.length := by omega
    have hql : qs.length = ps.length := by rw [← ptCells_length qs, hqp, ptCells_length]
    obtain ⟨q, hq⟩ : ∃ q, qs[k]? = some q := ⟨_, List.getElem?_eq_getElem (by omega)⟩
    obtain ⟨gk, hqA, hgk, hqo⟩ := hqs.own k q hq
    have hq64 : q.zs.length = 64 := by
      obtain ⟨p0, hp0⟩ : ∃ p0, ps[k]? = some p0 := ⟨_, List.getElem?_eq_getElem hkl⟩
      have e1 := ptCells_at hq
      rw [hqp, ptCells_at hp0] at e1
      have := H64.out p0 (List.mem_of_getElem? hp0)
      injection e1 with e1
      injection e1 with _ e2 _
      omega
    have hgk0 : lo ≤ gk := (hqo.lt gk (by rw [Pt.val, hqA]; rfl)).1
    have ho1 : W.ownsRow base 34 1 (.slice (some ⟨G, 0, none⟩) ps.length c) ps.length (ptCells ps) := own_stay HARR1.out fun b hb => by
      have hb2 := (HARR1.out.lt b hb)
      have h2 : G = b := by simpa [Value.ownBlock] using hb
      subst h2
      exact hO.block _ (by omega) (.inl hG)
    have hcG : W.cell? ⟨G, 0 + k, none⟩ = some (.slice q.A 64 q.c) := by
      have := ho1.cells (g := G) rfl k q.val (by rw [← hqp]; exact ptCells_at hq)
      rw [add_plain] at this
      rw [this, Pt.val, hq64]
    rw [Nat.zero_add] at hcG
    have kb : Blk W w.heap.size 29 [.slice (some ⟨G, 0, none⟩) ps.length c, .slice B ws.length d] := (hO.block _ (by omega) (.inr (by omega))).trans k0
    have hS0 := kb.cell 0
    have hS1 := hk.cell 0
    have hS2 := hk.cell 1
    simp only [List.getElem?_cons_zero, List.getElem?_cons_succ, Pt.val, hpl64] at hS0 hS1 hS2
    have hpx := HWAIT1.out _ hmem
    have hpr : Rd W p.A (ocl p.zs) := (RdF.of_own (own_stay hpx fun b hb => hO.block b (hpx.lt b hb).2 (.inr (hpx.lt b hb).1))).1
    obtain ⟨b2, off2, hpA, hb2, hpc⟩ := hpr (by intro h; have := congrArg List.length h; rw [ocl_length, hpl64] at this; simp at this)

    rw [hqA] at hcG
    rw [hpA] at hS2
    have HQS := Lib.hid hqs
    have HQP := Lib.hid hqp
    have HQZ := Lib.hid hqz
    have HQ := Lib.hid hq
    have HQO := Lib.hid hqo
    have HPC := Lib.hid hpc
    have HOO := Lib.hid hO
    clear hqs hqp hqz hq hqo hpc ho1 kb hpr hpx hO
    gi_wp2
    refine wpIn_region_last 8 (fun W' => W'.cell? ⟨w.heap.size, 0, none⟩ = some (.slice (some ⟨G, 0, none⟩) ps.length c) ∧ W'.cell? ⟨g, 0, none⟩ = some (.int .i64 k) ∧ W'.cell? ⟨g, 1, none⟩ = some (.slice (some ⟨b2, off2, none⟩) 64 p.c) ∧ W'.cell? ⟨G, k, none⟩ = some (.slice (some ⟨gk, 0, none⟩) 64 q.c)) (by kernel_rfl) (by kernel_rfl) ⟨hS0, hS1, hS2, hcG⟩ (fun hHeld => ?_)
    refine wpAnyL_take 12 (i := 0) (oi := ⟨some 10, _, _, _, _, _⟩) (v := ?_) rfl (by kernel_rfl) (by kernel_rfl) (by kernel_rfl) (by kernel_rfl) (by kernel_rfl) (by kernel_rfl) (by kernel_rfl) (fun _ _ _ h => h) (Or.inl ⟨by rfl, ?_⟩) hHeld ?_
    rotate_left
    focus (intro w hSw; (try dsimp only at hSw); go_simp; try (with_reducible rfl))
    try simp only [Act.put, List.setIfInBounds_toArray, List.set_cons_zero, List.set_cons_succ]
    refine wpAnyL_take 12 (i := 1) (oi := ⟨some 11, _, _, _, _, _⟩) (v := ?_) rfl (by kernel_rfl) (by kernel_rfl) (by kernel_rfl) (by kernel_rfl) (by kernel_rfl) (by kernel_rfl) (by kernel_rfl) (fun _ _ _ h => h) (Or.inl ⟨by rfl, ?_⟩) hHeld ?_
    rotate_left
    focus (intro w hSw; (try dsimp only at hSw); go_simp; try (with_reducible rfl))
    try simp only [Act.put, List.setIfInBounds_toArray, List.set_cons_zero, List.set_cons_succ]
    refine wpAnyL_take 12 (i := 2) (oi := ⟨some 12, _, _, _, _, _⟩) (v := ?_) rfl (by kernel_rfl) (by kernel_rfl) (by kernel_rfl) (by kernel_rfl) (by kernel_rfl) (by kernel_rfl) (by kernel_rfl) (fun _ _ _ h => h) (Or.inl ⟨by rfl, ?_⟩) hHeld ?_
    rotate_left
    focus (intro w hSw; (try dsimp only at hSw); go_simp; try (with_reducible rfl))
    try simp only [Act.put, List.setIfInBounds_toArray, List.set_cons_zero, List.set_cons_succ]
    refine wpAnyL_take 12 (i := 3) (oi := ⟨some 13, _, _, _, _, _⟩) (v := ?_) rfl (by kernel_rfl) (by kernel_rfl) (by kernel_rfl) (by kernel_rfl) (by kernel_rfl) (by kernel_rfl) (by kernel_rfl) (fun _ _ _ h => h) (Or.inl ⟨by rfl, ?_⟩) hHeld ?_
    rotate_left
    focus (intro w hSw; (try dsimp only at hSw); go_simp; try (with_reducible rfl))
    try simp only [Act.put, List.setIfInBounds_toArray, List.set_cons_zero, List.set_cons_succ]
    refine wpAnyL_take 12 (i := 4) (oi := ⟨some 14, _, _, _, _, _⟩) (v := ?_) rfl (by kernel_rfl) (by kernel_rfl) (by kernel_rfl) (by kernel_rfl) (by kernel_rfl) (by kernel_rfl) (by kernel_rfl) (fun _ _ _ h => h) (Or.inl ⟨by rfl, ?_⟩) hHeld ?_
    rotate_left
    focus (intro w hSw; (try dsimp only at hSw); go_simp; try (with_reducible rfl))
    try simp only [Act.put, List.setIfInBounds_toArray, List.set_cons_zero, List.set_cons_succ]
    refine wpAnyL_take 12 (i := 5) (oi := ⟨some 15, _, _, _, _, _⟩) (v := ?_) rfl (by kernel_rfl) (by kernel_rfl) (by kernel_rfl) (by kernel_rfl) (by kernel_rfl) (by kernel_rfl) (by kernel_rfl) (fun _ _ _ h => h) (Or.inl ⟨by rfl, ?_⟩) hHeld ?_
    rotate_left
    focus (intro w hSw; (try dsimp only at hSw); go_simp; try (with_reducible rfl))
    try simp only [Act.put, List.setIfInBounds_toArray, List.set_cons_zero, List.set_cons_succ]
    refine wpAnyL_take 12 (i := 6) (oi := ⟨some 16, _, _, _, _, _⟩) (v := ?_) rfl (by kernel_rfl) (by kernel_rfl) (by kernel_rfl) (by kernel_rfl) (by kernel_rfl) (by kernel_rfl) (by kernel_rfl) (fun _ _ _ h => h) (Or.inl ⟨by rfl, ?_⟩) hHeld ?_
    rotate_left
    focus (intro w hSw; (try dsimp only at hSw); go_simp; try (with_reducible rfl))
    try simp only [Act.put, List.setIfInBounds_toArray, List.set_cons_zero, List.set_cons_succ]
    refine wpAnyL_take 12 (i := 7) (oi := ⟨some 17, _, _, _, _, _⟩) (v := ?_) rfl (by kernel_rfl) (by kernel_rfl) (by kernel_rfl) (by kernel_rfl) (by kernel_rfl) (by kernel_rfl) (by kernel_rfl) (fun _ _ _ h => h) (Or.inl ⟨by rfl, ?_⟩) hHeld ?_
    rotate_left
    focus (intro w hSw; (try dsimp only at hSw); go_simp; try (with_reducible rfl))
    try simp only [Act.put, List.setIfInBounds_toArray, List.set_cons_zero, List.set_cons_succ]
    refine wpAnyL_last (i := 8) (o := ⟨some 18, _, _, _, _, _⟩) (by kernel_rfl) rfl (by kernel_rfl) (fun K hK => ?_)
    clear hHeld
    refine step_copy_over (o := ⟨some 18, _, _, _, _, _⟩) rfl _ _ 34 34 rfl 5 Try.underlying34 dsize8 lo gk 64 q.c (ocl q.zs) (by have := HQO.out; rw [Pt.val, hqA, hq64] at this; exact this) ⟨b2, off2, none⟩ p.c rfl rfl (ocl p.zs) (by rw [ocl_length, hpl64]) (fun j v hj => by rw [add_plain]; exact HPC.out j v hj) (ocl_one _) ?_
    intro W3 ho3 hO3
    refine hK.out _ _ ?_
    clear hK K
    try simp only [Act.put, List.setIfInBounds_toArray, List.set_cons_zero, List.set_cons_succ]
    refine wpAnyL_done (by kernel_rfl) ?_ _
    have hO4 : ∀ m, Out gk (gk + 1) m W W3 := fun m => (Out.of_below (Below.refl _ W).drew).trans (hO3 m)
    have hO5 : ∀ m, Out lo hi m W W3 := fun m => (hO4 m).mono hgk0 hgk (Nat.le_refl _)
    refine ⟨(hO5 _).keepsFrom (by omega), (hO5 _).keeps, HOO.out.trans (hO5 _), qs.set k ⟨q.A, p.zs, q.c⟩, ?_, ?_, ?_⟩
    · rw [ptCells_set HQ.out p.zs (by omega), HQP.out]
    · refine HQS.out.upd HQ.out hqA hgk (by omega) ?_ (fun b _ _ hne => (hO4 W.heap.size).block b (by have := HOO.out.size; omega) (by omega))
      rw [hqA, hq64]
      exact ho3
    · rw [map_set_zs, HQZ.out, wvals_snoc, List.map_append]
      exact (applyW_at _ _ ((k : Int), p.zs) k rfl).symm
  case done =>
    rintro D ys W hD hS ⟨hO, qs, hqp, hqs, hqz⟩ hK
    have c0 : Blk W w.heap.size 29 [.slice (some ⟨G, 0, none⟩) ps.length c, .slice B ws.length d] := (hO.block _ (by omega) (.inr (by omega))).trans k0
    have c1 : Blk W (w.heap.size + 1) 29 [.slice none 0 0, .slice none 0 0] := (hO.block _ (by omega) (.inr (by omega))).trans k1
    have hc0 := c0.cell 0
    have hc1 := c1.cell 0
    have hc2 := c1.cell 1
    have hf1 := c1.frozen 0
    have hf2 := c1.frozen 1
    simp only [List.getElem?_cons_zero, List.getElem?_cons_succ] at hc0 hc1 hc2
    rw [hS] at hqz
    have HQZ := Lib.hid hqz
    have HQP := Lib.hid hqp
    have HQS := Lib.hid hqs
    have HOO := Lib.hid hO
    clear hqz hqp hqs hO c0 k0 k1 k2 k3 hS
    gi_wp2
    have d2 : Blk ((W.setCell ⟨w.heap.size + 1, 0, none⟩ (.slice (some ⟨G, 0, none⟩) ps.length c)).setCell ⟨w.heap.size + 1, 1, none⟩ (.slice none 0 0)) (w.heap.size + 1) 29 [.slice (some ⟨G, 0, none⟩) ps.length c, .slice none 0 0] := (c1.set 0 (.slice (some ⟨G, 0, none⟩) ps.length c)).set 1 (.slice none 0 0)
    have hst : ∀ b, b ≠ w.heap.size + 1 → ((W.setCell ⟨w.heap.size + 1, 0, none⟩ (.slice (some ⟨G, 0, none⟩) ps.length c)).setCell ⟨w.heap.size + 1, 1, none⟩ (.slice none 0 0)).heap[b]? = W.heap[b]? := fun b hb => (heap_setCell_other _ _ b _ hb).trans (heap_setCell_other _ _ b _ hb)
    have hBW : Below w.heap.size W ((W.setCell ⟨w.heap.size + 1, 0, none⟩ (.slice (some ⟨G, 0, none⟩) ps.length c)).setCell ⟨w.heap.size + 1, 1, none⟩ (.slice none 0 0)) := ((Below.refl _ W).setCell (p := ⟨w.heap.size + 1, 0, none⟩) (Nat.le_succ _) _).setCell (p := ⟨w.heap.size + 1, 1, none⟩) (Nat.le_succ _) _
    have hK' := (hst D (by omega)).trans hK
    generalize (W.setCell ⟨w.heap.size + 1, 0, none⟩ (.slice (some ⟨G, 0, none⟩) ps.length c)).setCell ⟨w.heap.size + 1, 1, none⟩ (.slice none 0 0) = W2 at *
    refine ⟨by simp, .inl ⟨_, _, rfl, run_takeDeferred hK', ?_⟩⟩
    have hpo : ∀ b, b ≠ D → (W2.putObj D (.deferred none)).heap[b]? = W2.heap[b]? := fun b hb => World.putObj_heap_other hb
    have d3 : Blk (W2.putObj D (.deferred none)) (w.heap.size + 1) 29 [.slice (some ⟨G, 0, none⟩) ps.length c, .slice none 0 0] := (hpo _ (by omega)).trans d2
    have hc5 := d3.cell 0
    have hc6 := d3.cell 1
    simp only [List.getElem?_cons_zero, List.getElem?_cons_succ] at hc5 hc6
    refine ⟨dval (some ⟨G, 0, none⟩) ps.length c none 0 0, ?_, rfl, qs, HQP.out, HQZ.out, HQS.out.stay fun k _ h2 => (hpo k (by omega)).trans (hst k (by omega)), ?_⟩
    · simp [results, Try.results30, go_sem, hc5, hc6]
    · refine (((Out.of_below hB1).trans (HOO.out.mono (Nat.le_refl _) (Nat.le_refl _) (by omega))).trans (Out.of_below hBW)).trans (Out.of_below ?_)
      exact (belowK_b (w := w) (Nat.le_refl _) W2 D _ _ (by omega) hK' rfl rfl)
  case stop =>
    rintro D c pre W _ _ h _
    exact h.elim

end Go.Proofs.Ytddkalcgijeldaa
