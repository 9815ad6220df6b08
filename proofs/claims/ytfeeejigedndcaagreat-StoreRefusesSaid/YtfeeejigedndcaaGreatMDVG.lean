/-
  settle does those of the writes that wait which are wanted, on sectors of the call's own. Conditions: the device may be.
-/
import Derived.Test.YtfeeejigedndcaaGreatMDVE
import Derived.Test.YtfeeejigedndcaaGreatMDVF
import Derived.Test.YtfeeejigedndcaaGreatMDVA
import Derived.Laws.CopyOwn
namespace Go.Proofs.YtfeeejigedndcaaGreat
open Go.ChangeShapes Go.WideShapes Go.ChangeAt Go.RowKit Go.Shelf
set_option maxRecDepth 100000
attribute [local go_sem] Oper.semAt_some

/-- Below block n all blocks are as they were, but those from lo to below hi. -/
structure Out (lo hi n : Nat) (w w' : World) : Prop where
  os : w'.os = w.os
  tape : w'.tape = w.tape
  output : w'.output = w.output
  size : w.heap.size ≤ w'.heap.size
  block : ∀ k, k < n → k < lo ∨ hi ≤ k → w'.heap[k]? = w.heap[k]?
theorem Out.of_below {lo hi n : Nat} {w w' : World} (h : Below n w w') : Out lo hi n w w' := ⟨h.os, h.tape, h.output, h.size, fun k hk _ => h.block k hk⟩
theorem Out.refl (lo hi n : Nat) (w : World) : Out lo hi n w w := .of_below (Below.refl _ _)
theorem Out.trans {lo hi n : Nat} {a b c : World} (h : Out lo hi n a b) (k : Out lo hi n b c) : Out lo hi n a c :=
  ⟨k.os.trans h.os, k.tape.trans h.tape, k.output.trans h.output, Nat.le_trans h.size k.size, fun i hi ho => (k.block i hi ho).trans (h.block i hi ho)⟩
theorem Out.mono {lo hi n lo' hi' n' : Nat} {w w' : World} (h : Out lo hi n w w') (hl : lo' ≤ lo) (hh : hi ≤ hi') (hn : n' ≤ n) : Out lo' hi' n' w w' := ⟨h.os, h.tape, h.output, h.size, fun k hk ho => h.block k (by omega) (by omega)⟩
theorem Out.below {lo hi n m : Nat} {w w' : World} (h : Out lo hi n w w') (h1 : m ≤ n) (h2 : m ≤ lo) : Below m w w' := ⟨h.os, h.tape, h.output, h.size, fun k hk => h.block k (by omega) (.inl (by omega))⟩
theorem Out.ownFrom {β : Type} {lo hi n B : Nat} {w : World} (hn : n ≤ w.heap.size) (hB : n ≤ B) : OwnFrom B (fun (_ : β) W => Out lo hi n w W) := fun s W W' row h hg hr =>
  h.trans ⟨hg.os, hg.tape, hg.output, hg.size, fun k hk _ => hg.block k (by have := h.size; omega) (fun e => by have := (hr k e.symm).1; omega)⟩
theorem Out.keeps {lo hi : Nat} {w w' : World} (h : Out lo hi w.heap.size w w') : KeepsOut lo hi w w' := fun b o _ hb hv =>
  (World.cell?_of_block (h.block b (World.block_lt_of_cell? w ⟨b, o, none⟩ hv) hb)).trans hv
theorem Out.keepsFrom {lo hi B : Nat} {w w' : World} (h : Out lo hi w.heap.size w w') (hB : hi ≤ B) : KeepsFrom B w w' := ⟨h.size, fun k o h1 h2 _ => (h.block k (Array.getElem?_eq_some_iff.1 h2).1 (.inr (by omega))).trans h2⟩

/-- copy over the whole of a row of the call's own. -/
theorem step_copy_over {P : Program} {ops : Array Oper} {o : Oper} {a : Act} {w : World} {K : Act → World → Prop} {Q : Exit → Act → World → Prop} {E : Prop} (hgd : o.guard = none) (d s : Operand) (dT sT : TypeId)
    (ho : o.op = .call { callee := .builtin .copy, args := #[d, s], argTypes := #[dT, sT] }) (elem : TypeId) (hu : P.underlying dT = some (.slice elem)) (hsz : (P.info? elem).map (·.size) = some 1)
    (base g n cap : Nat) (xs : List Value) (hown : w.ownsRow base elem 1 (.slice (some ⟨g, 0, none⟩) n cap) n xs) (ad : Addr) (sCap : Nat) (hd : a.eval d = .slice (some ⟨g, 0, none⟩) n cap) (hs : a.eval s = .slice (some ad) n sCap)
    (cs : List Value) (hn : cs.length = n) (hsrc : ∀ j v, cs[j]? = some v → w.cell? (ad.add j) = some v) (h1 : ∀ v ∈ cs, v.oneCell' = true)
    (h : ∀ w', w'.ownsRow base elem 1 (.slice (some ⟨g, 0, none⟩) n cap) n cs → (∀ m, Out g (g + 1) m w w') → K (a.put o.dst (goInt cs.length)) w') :
    if Region.wanted o (yielded ops a.tmps) = true then Oper.wp P o a w K Q else E := by
  have hw : Region.wanted o (yielded ops a.tmps) = true := by simp [Region.wanted, hgd]
  rw [if_pos hw]
  rcases hown.2 with ⟨hv, _⟩ | ⟨g', cap', cur, hv, hb, hg, hc1, hc2, hc3, hc4⟩
  · cases hv
  · injection hv with e1 e2 e3
    injection e1 with e1
    injection e1 with e1
    subst e1
    subst e3
    have hrun := run_copy_row (P := P) w dT sT o.type elem g 0 n cap ad n sCap cur elem cs hu hsz hg (by simpa using hn) hsrc (by omega) h1
    unfold Oper.wp
    simp [execOp, ho, resolve, invoke, builtin, hd, hs, hrun, Result.andThen]
    refine h _ ⟨by simp [hn], .inr ⟨g, cap, _, rfl, hb, setRow_heap w g _ _ elem _ hg, hc1, hc2, ?_, ?_⟩⟩ (fun m => ⟨rfl, rfl, rfl, by simp [World.setRow], fun k _ hk => setRow_other w g k _ (by omega)⟩)
    · simp at hc3 ⊢
      omega
    · simp only [Nat.mul_one]
      rw [List.take_append_of_le_length (by omega), List.take_of_length_le (by omega)]

theorem set_at {α : Type} {xs : List α} {k j : Nat} {y p : α} (h : (xs.set k y)[j]? = some p) : (j = k ∧ p = y) ∨ (j ≠ k ∧ xs[j]? = some p) := by
  rw [List.getElem?_set] at h
  split at h
  · rename_i e
    split at h
    · exact .inl ⟨e.symm, by injection h with h; exact h.symm⟩
    · cases h
  · rename_i e
    exact .inr ⟨fun e' => e e'.symm, h⟩
/-- One sector is another one. -/
theorem Secs.upd {lo hi : Nat} {W W' : World} {qs : List Pt} {k g : Nat} {q : Pt} {zs : List Int} (h : Secs lo hi W qs) (hq : qs[k]? = some q) (hA : q.A = some ⟨g, 0, none⟩) (hg : g < hi) (hn : zs.length = q.zs.length)
    (hrow : W'.ownsRow lo 5 1 (.slice q.A q.zs.length q.c) q.zs.length (ocl zs)) (hs : ∀ b, lo ≤ b → b < hi → b ≠ g → W'.heap[b]? = W.heap[b]?) : Secs lo hi W' (qs.set k ⟨q.A, zs, q.c⟩) := by
  refine ⟨fun j p hp => ?_, fun i j p p' hp hp' hij => ?_⟩
  · rcases set_at hp with ⟨rfl, rfl⟩ | ⟨hj, hp⟩
    · refine ⟨g, hA, hg, ?_⟩
      simp only [Pt.val, hn]
      exact hrow
    · obtain ⟨g', e, hg', ho⟩ := h.own j p hp
      refine ⟨g', e, hg', own_stay ho fun b hb => ?_⟩
      have hb' : g' = b := by
        rw [Pt.val, e] at hb
        simpa [Value.ownBlock] using hb
      subst hb'
      refine hs _ (ho.lt _ hb).1 hg' (fun e' => h.apart j k p q hp hq hj ?_)
      rw [e, hA, e']
  · rcases set_at hp with ⟨rfl, rfl⟩ | ⟨hi', hp2⟩ <;> rcases set_at hp' with ⟨rfl, rfl⟩ | ⟨hj', hp3⟩
    · exact absurd rfl hij
    · exact (h.apart _ _ q p' hq hp3 hij : q.A ≠ p'.A)
    · exact (h.apart _ _ p q hp2 hq hij : p.A ≠ q.A)
    · exact h.apart _ _ _ _ hp2 hp3 hij
theorem Secs.ownFrom {β : Nat → Prop} {lo hi B : Nat} {W W' : World} {qs : List Pt} {row : Option Nat} (hB : hi ≤ B) (h : Secs lo hi W qs) (hr0 : hi ≤ W.heap.size) (hg : W.grownBy W' row) (hr : ∀ r, row = some r → B ≤ r ∧ β r) : Secs lo hi W' qs :=
  h.stay fun k _ h2 => hg.block k (by omega) (fun e => by have := (hr k e.symm).1; omega)

theorem applyW_at (S : List (List Int)) (l : List (Int × List Int)) (x : Int × List Int) (k : Nat) (h : x.1 = k) : applyW S (l ++ [x]) = (applyW S l).set k x.2 := by
  rw [applyW_snoc, h, Int.toNat_natCast]
theorem map_set_zs (qs : List Pt) (k : Nat) (p : Pt) : (qs.set k p).map (·.zs) = (qs.map (·.zs)).set k p.zs := by simp [List.map_set]
theorem ptCells_set {qs : List Pt} {k : Nat} {q : Pt} (hq : qs[k]? = some q) (zs : List Int) (hn : zs.length = q.zs.length) : ptCells (qs.set k ⟨q.A, zs, q.c⟩) = ptCells qs := by
  unfold ptCells
  rw [List.map_set]
  simp only [Pt.val, hn]
  refine List.ext_getElem? fun i => ?_
  rw [List.getElem?_set]
  split
  · rename_i h
    subst h
    rw [List.getElem?_map, hq]
    have := (List.getElem?_eq_some_iff.1 hq).1
    simp [this]
  · rfl

theorem dsize8 : (Tryz.prog.info? 5).map (·.size) = some 1 := by kernel_rfl
/-- Between two rounds. -/
def SI (w1 : World) (lo hi : Nat) (ps : List Pt) {ws : List Wt} (pre : List (WX ws)) (W : World) : Prop :=
  Out lo hi w1.heap.size w1 W ∧ ∃ qs : List Pt, ptCells qs = ptCells ps ∧ Secs lo hi W qs ∧ qs.map (·.zs) = applyW (ps.map (·.zs)) ((wvals pre).map Wt.st)
theorem sI_own {w1 : World} {lo hi B : Nat} {ps : List Pt} {ws : List Wt} (hB : w1.heap.size ≤ B) (hh : hi ≤ w1.heap.size) : OwnFrom B (fun (pre : List (WX ws)) W => SI w1 lo hi ps pre W) := fun s W W' row h hg hr => by
  obtain ⟨h1, qs, h2, h3, h4⟩ := h
  exact ⟨Out.ownFrom (β := Unit) (Nat.le_refl _) hB () W W' row h1 hg hr, qs, h2, Secs.ownFrom (Nat.le_trans hh hB) h3 (Nat.le_trans hh h1.size) hg hr, h4⟩

set_option maxRecDepth 100000 in
set_option maxHeartbeats 2000000 in
theorem settle_in (D : Dv) (base lo hi gw : Nat) (lb : Array Value) (eg : Enters Tryz.prog gw) (K : Nat → Wt → Bool) (Cap : World → Prop) (hcap : ∀ W W', Cap W → KeepsOut lo hi W W' → Cap W') (w : World)
    (hO : D.Own base lo hi w) (hok : D.st.ok) (hm : D.ws.length ≤ 4398046511104)
    (hwant : ∀ W, Cap W → ∀ k x, D.ws[k]? = some x → Calls Tryz.prog gw (#[.int .i64 k, x.val] ++ lb) W fun e W' => e = .returned (.bool (K k x)) ∧ Below W.heap.size W W') (hCap : Cap w) :
    CallsIn Fence.wide 4 Tryz.prog 36 #[D.val, .func (.func gw) #[] lb] w fun e W' => ∃ qs : List Pt, e = .returned (dval D.A D.ps.length D.c none 0 0) ∧ ptCells qs = ptCells D.ps ∧
      qs.map (·.zs) = applyW (D.ps.map (·.zs)) ((sel K 0 D.ws).map Wt.st) ∧ Secs lo hi W' qs ∧ Out lo hi w.heap.size w W' := by
  obtain ⟨A, ps, c, B, ws, d⟩ := D
  obtain ⟨⟨G, hA, hG, harr⟩, hbl, hlh, hsecs, hrow, hwait, hroom⟩ := hO
  obtain ⟨hn0, hn1, h64, hw⟩ := (Dv.ok_iff _).1 hok
  dsimp only at hA harr hsecs hrow hwait hwant hm hn0 hn1 h64 hw ⊢
  have hw64 : ∀ x ∈ ws, 0 ≤ x.at_ ∧ x.at_ < ps.length ∧ x.p.zs.length = 64 := fun x hx => by
    have := hw x hx
    unfold wrtE at this
    split at this
    · rename_i h1
      split at this
      · exact ⟨h1.1, h1.2, by assumption⟩
      · omega
    · omega
  subst hA
  have HARR := Lib.hid harr
  have HSEC := Lib.hid hsecs
  have HROW := Lib.hid hrow
  have HWAIT := Lib.hid hwait
  have H64 := Lib.hid h64
  have HW64 := Lib.hid hw64
  have HWANT := Lib.hid hwant
  have hGw := (harr.lt G rfl)
  clear hok harr hsecs hrow hwait h64 hw64 hw hwant
  refine callsIn_of_wp_marks Tryz.func36 rfl trivial ?_ rfl
  simp only [Tryz.ntmps36, List.size_toArray, List.length_cons, List.length_nil, Nat.reduceAdd, Nat.reduceSub, Array.replicate_succ, Array.replicate_zero, List.push_toArray, List.append_toArray, List.nil_append, List.cons_append]
  gi_wp2_with (refine ⟨trivial, ?_⟩; gi_at_call 70; refine (waiting_in 3 _ _ _ _ _ _ _ ⟨_, _, rfl⟩ _).mono ?_; rintro e w' ⟨rfl, rfl⟩)
  obtain ⟨w1, hw1⟩ : ∃ w1, ((((w.alloc (.cells #[.slice (some ⟨G, 0, none⟩) ps.length c, .slice B ws.length d] 27)).alloc (.cells #[.slice none 0 0, .slice none 0 0] 27)).alloc (.cells #[.slice (some ⟨G, 0, none⟩) ps.length c, .slice B ws.length d] 27)).alloc (.cells #[.func (.func gw) #[] lb] 88)) = w1 := ⟨_, rfl⟩
  rw [hw1]
  have hs1 : w1.heap.size = w.heap.size + 1 + 1 + 1 + 1 := by rw [← hw1]; simp
  have hB1 : Below w.heap.size w w1 := hw1 ▸ ((((Below.refl _ w).alloc (Nat.le_refl _) _).alloc (by simp) _).alloc (by simp; omega) _).alloc (by simp; omega) _
  have k0 : Blk w1 w.heap.size 27 [.slice (some ⟨G, 0, none⟩) ps.length c, .slice B ws.length d] := hw1 ▸ ((((Blk.new w [.slice (some ⟨G, 0, none⟩) ps.length c, .slice B ws.length d] 27).alloc _).alloc _).alloc _)
  have k1 : Blk w1 (w.heap.size + 1) 27 [.slice none 0 0, .slice none 0 0] := by
    have := Blk.new (w.alloc (.cells #[.slice (some ⟨G, 0, none⟩) ps.length c, .slice B ws.length d] 27)) [.slice none 0 0, .slice none 0 0] 27
    rw [World.size_alloc] at this
    exact hw1 ▸ (this.alloc _).alloc _
  have k2 : Blk w1 (w.heap.size + 1 + 1) 27 [.slice (some ⟨G, 0, none⟩) ps.length c, .slice B ws.length d] := by
    have := Blk.new ((w.alloc (.cells #[.slice (some ⟨G, 0, none⟩) ps.length c, .slice B ws.length d] 27)).alloc (.cells #[.slice none 0 0, .slice none 0 0] 27)) [.slice (some ⟨G, 0, none⟩) ps.length c, .slice B ws.length d] 27
    rw [World.size_alloc, World.size_alloc] at this
    exact hw1 ▸ this.alloc _
  have k3 : Blk w1 (w.heap.size + 1 + 1 + 1) 88 [.func (.func gw) #[] lb] := by
    have := Blk.new (((w.alloc (.cells #[.slice (some ⟨G, 0, none⟩) ps.length c, .slice B ws.length d] 27)).alloc (.cells #[.slice none 0 0, .slice none 0 0] 27)).alloc (.cells #[.slice (some ⟨G, 0, none⟩) ps.length c, .slice B ws.length d] 27)) [.func (.func gw) #[] lb] 88
    rw [World.size_alloc, World.size_alloc, World.size_alloc] at this
    exact hw1 ▸ this
  have hC1 : Cap w1 := hcap _ _ hCap (KeepsOut.below hB1)
  obtain ⟨b, off, hA', hbo, hcs⟩ : ∃ b off, (ws ≠ [] → B = some ⟨b, off, none⟩) ∧ (b < lo ∨ hi ≤ b) ∧ ∀ j x, ws[j]? = some x → w1.cell? ⟨b, off + j * 2, none⟩ = some (.int .i64 x.at_) ∧ w1.cell? ⟨b, off + j * 2 + 1, none⟩ = some x.p.val := by
    by_cases he : ws = []
    · subst he
      exact ⟨hi, 0, fun h => absurd rfl h, .inr (Nat.le_refl _), fun j x hx => by simp at hx⟩
    · have hf := RdF.of_own HROW.out
      obtain ⟨b, off, e, hb, hc⟩ := hf.1 (by intro h; have := congrArg List.length h; rw [wtCells_length] at this; exact he (List.eq_nil_of_length_eq_zero (by simp only [List.length_nil] at this; omega)))
      refine ⟨b, off, fun _ => e, .inr (hf.2 _ e (by intro h; have := congrArg List.length h; rw [wtCells_length] at this; exact he (List.eq_nil_of_length_eq_zero (by simp only [List.length_nil] at this; omega)))), fun j x hx => ?_⟩
      obtain ⟨e1, e2⟩ := wtCells_at ws j x hx
      exact ⟨(hB1.cell (p := ⟨b, _, none⟩) hb).trans (hc _ _ e1), (hB1.cell (p := ⟨b, _, none⟩) hb).trans (hc _ _ e2)⟩
  have HARR1 := Lib.hid (own_stay HARR.out (fun b hb => hB1.block b (HARR.out.lt b hb).2))
  have HSEC1 := Lib.hid (HSEC.out.stay (W' := w1) (fun k _ h => hB1.block k (by omega)))
  have HWAIT1 := Lib.hid (fun x hx => own_stay (HWAIT.out x hx) (fun b hb => hB1.block b ((HWAIT.out x hx).lt b hb).2))
  refine wpIn_rangeFunc_ownH rfl (by omega) (gf := 94) (lb := #[.pointer (some ⟨w.heap.size + 1 + 1, 0, none⟩), .pointer (some ⟨w.heap.size + 1 + 1 + 1, 0, none⟩)]) rfl trivial (enters_of Tryz.func94 (by kernel_rfl) rfl)
    (waiting_stops 3 (w.heap.size + 1 + 1) (w.heap.size + 1 + 1 + 1) gw b off d lo hi lb eg B ws hm hA' hbo (.inr (by omega)) K Cap hcap HWANT.out w1 (k2.cell 1) (k3.cell 0) hC1 hcs)
    KeepsOut.trans (fun W l o o' _ h hc _ => KeepsOut.putObj W l o o' h hc) (Below.refl _ _) (fun _ => rfl)
    (fun pre W => SI w1 lo hi ps pre W)
    (fun _ _ _ => False)
    (sI_own (Nat.le_refl _) (by omega))
    (fun _ _ _ _ _ hs _ _ => hs)
    ⟨Out.refl _ _ _ _, ps, rfl, HSEC1.out, rfl⟩
    (fun x a' W => ∃ g, w1.heap.size ≤ g ∧ a' = { tmps := #[.agg #[.slice (some ⟨G, 0, none⟩) ps.length c, .slice B ws.length d], .func (.func gw) #[] lb, .pointer (some ⟨w.heap.size, 0, none⟩), undef, .pointer (some ⟨w.heap.size + 1, 0, none⟩), .pointer (some ⟨g, 0, none⟩),
      .agg #[.slice (some ⟨G, 0, none⟩) ps.length c, .slice B ws.length d], .func (.func gw) #[] lb, .func (.func 94) #[] #[.pointer (some ⟨w.heap.size + 1 + 1, 0, none⟩), .pointer (some ⟨w.heap.size + 1 + 1 + 1, 0, none⟩)], x.1.val, undef, undef, undef, undef, undef, undef, undef, undef, undef, undef, undef, undef], defers := [] }
      ∧ Blk W g 87 [.int .i64 x.1.at_, x.1.p.val])
    ?hAx ?assign ?body ?done ?stop
  case hAx =>
    rintro x a' s W W' row ⟨g, hg1, ha, hk⟩ hg hr
    refine ⟨g, hg1, ha, (hg.block g hk.lt (fun e => ?_)).trans hk⟩
    obtain ⟨_, o, ho, hc⟩ := hr g e.symm
    rw [show W.heap[g]? = _ from hk] at ho
    cases ho
    cases hc
  case assign =>
    rintro l pre x W K' hI hK
    have hsz := hI.1.size
    have hk := Blk.new W [.int .i64 x.1.at_, x.1.p.val] 87
    have HK := Lib.hid hk
    clear hk
    gi_wp2
    exact hK _ _ ((KeepsOthers.alloc _ _).from _) (KeepsOut.below ((Below.refl _ W).alloc (Nat.le_refl _) _)) ((sI_own (Nat.le_refl _) (by omega)).alloc _ hI) ⟨W.heap.size, hsz, rfl, HK.out⟩
  case body =>
    rintro l pre ⟨⟨at_, p⟩, hmem⟩ a' W _ _ ⟨hO, qs, hqp, hqs, hqz⟩ ⟨g, hg, rfl, hk⟩ hpl
    obtain ⟨hat0, hat1, hpl64⟩ := HW64.out _ hmem
    dsimp only at hat0 hat1 hpl64
    obtain ⟨k, rfl⟩ := Int.eq_ofNat_of_zero_le hat0
    have hkl : k < ps.length := by omega
    have hql : qs.length = ps.length := by rw [← ptCells_length qs, hqp, ptCells_length]
    obtain ⟨q, hq⟩ : ∃ q, qs[k]? = some q := ⟨_, List.getElem?_eq_getElem (by omega)⟩
    obtain ⟨gk, hqA, hgk, hqo⟩ := hqs.own k q hq
    have hq64 : q.zs.length = 64 := by
      obtain ⟨p0, hp0⟩ : ∃ p0, ps[k]? = some p0 := ⟨_, List.getElem?_eq_getElem hkl⟩
      have e1 := ptCells_at hq
      rw [hqp, ptCells_at hp0] at e1
      have := H64.out p0 (List.mem_of_getElem? hp0)
      injection e1 with e1
      injection e1 with _ e2 _
      omega
    have hgk0 : lo ≤ gk := (hqo.lt gk (by rw [Pt.val, hqA]; rfl)).1
    have ho1 : W.ownsRow base 46 1 (.slice (some ⟨G, 0, none⟩) ps.length c) ps.length (ptCells ps) := own_stay HARR1.out fun b hb => by
      have hb2 := (HARR1.out.lt b hb)
      have h2 : G = b := by simpa [Value.ownBlock] using hb
      subst h2
      exact hO.block _ (by omega) (.inl hG)
    have hcG : W.cell? ⟨G, 0 + k, none⟩ = some (.slice q.A 64 q.c) := by
      have := ho1.cells (g := G) rfl k q.val (by rw [← hqp]; exact ptCells_at hq)
      rw [add_plain] at this
      rw [this, Pt.val, hq64]
    rw [Nat.zero_add] at hcG
    have kb : Blk W w.heap.size 27 [.slice (some ⟨G, 0, none⟩) ps.length c, .slice B ws.length d] := (hO.block _ (by omega) (.inr (by omega))).trans k0
    have hS0 := kb.cell 0
    have hS1 := hk.cell 0
    have hS2 := hk.cell 1
    simp only [List.getElem?_cons_zero, List.getElem?_cons_succ, Pt.val, hpl64] at hS0 hS1 hS2
    have hpx := HWAIT1.out _ hmem
    have hpr : Rd W p.A (ocl p.zs) := (RdF.of_own (own_stay hpx fun b hb => hO.block b (hpx.lt b hb).2 (.inr (hpx.lt b hb).1))).1
    obtain ⟨b2, off2, hpA, hb2, hpc⟩ := hpr (by intro h; have := congrArg List.length h; rw [ocl_length, hpl64] at this; simp at this)

    rw [hqA] at hcG
    rw [hpA] at hS2
    have HQS := Lib.hid hqs
    have HQP := Lib.hid hqp
    have HQZ := Lib.hid hqz
    have HQ := Lib.hid hq
    have HQO := Lib.hid hqo
    have HPC := Lib.hid hpc
    have HOO := Lib.hid hO
    clear hqs hqp hqz hq hqo hpc ho1 kb hpr hpx hO
    gi_wp2
    refine wpIn_region_last 8 (fun W' => W'.cell? ⟨w.heap.size, 0, none⟩ = some (.slice (some ⟨G, 0, none⟩) ps.length c) ∧ W'.cell? ⟨g, 0, none⟩ = some (.int .i64 k) ∧ W'.cell? ⟨g, 1, none⟩ = some (.slice (some ⟨b2, off2, none⟩) 64 p.c) ∧ W'.cell? ⟨G, k, none⟩ = some (.slice (some ⟨gk, 0, none⟩) 64 q.c)) (by kernel_rfl) (by kernel_rfl) ⟨hS0, hS1, hS2, hcG⟩ (fun hHeld => ?_)
    refine wpAnyL_take 12 (i := 0) (oi := ⟨some 10, _, _, _, _, _⟩) (v := ?_) rfl (by kernel_rfl) (by kernel_rfl) (by kernel_rfl) (by kernel_rfl) (by kernel_rfl) (by kernel_rfl) (by kernel_rfl) (fun _ _ _ h => h) (Or.inl ⟨by rfl, ?_⟩) hHeld ?_
    rotate_left
    focus (intro w hSw; (try dsimp only at hSw); go_simp; try (with_reducible rfl))
    try simp only [Act.put, List.setIfInBounds_toArray, List.set_cons_zero, List.set_cons_succ]
    refine wpAnyL_take 12 (i := 1) (oi := ⟨some 11, _, _, _, _, _⟩) (v := ?_) rfl (by kernel_rfl) (by kernel_rfl) (by kernel_rfl) (by kernel_rfl) (by kernel_rfl) (by kernel_rfl) (by kernel_rfl) (fun _ _ _ h => h) (Or.inl ⟨by rfl, ?_⟩) hHeld ?_
    rotate_left
    focus (intro w hSw; (try dsimp only at hSw); go_simp; try (with_reducible rfl))
    try simp only [Act.put, List.setIfInBounds_toArray, List.set_cons_zero, List.set_cons_succ]
    refine wpAnyL_take 12 (i := 2) (oi := ⟨some 12, _, _, _, _, _⟩) (v := ?_) rfl (by kernel_rfl) (by kernel_rfl) (by kernel_rfl) (by kernel_rfl) (by kernel_rfl) (by kernel_rfl) (by kernel_rfl) (fun _ _ _ h => h) (Or.inl ⟨by rfl, ?_⟩) hHeld ?_
    rotate_left
    focus (intro w hSw; (try dsimp only at hSw); go_simp; try (with_reducible rfl))
    try simp only [Act.put, List.setIfInBounds_toArray, List.set_cons_zero, List.set_cons_succ]
    refine wpAnyL_take 12 (i := 3) (oi := ⟨some 13, _, _, _, _, _⟩) (v := ?_) rfl (by kernel_rfl) (by kernel_rfl) (by kernel_rfl) (by kernel_rfl) (by kernel_rfl) (by kernel_rfl) (by kernel_rfl) (fun _ _ _ h => h) (Or.inl ⟨by rfl, ?_⟩) hHeld ?_
    rotate_left
    focus (intro w hSw; (try dsimp only at hSw); go_simp; try (with_reducible rfl))
    try simp only [Act.put, List.setIfInBounds_toArray, List.set_cons_zero, List.set_cons_succ]
    refine wpAnyL_take 12 (i := 4) (oi := ⟨some 14, _, _, _, _, _⟩) (v := ?_) rfl (by kernel_rfl) (by kernel_rfl) (by kernel_rfl) (by kernel_rfl) (by kernel_rfl) (by kernel_rfl) (by kernel_rfl) (fun _ _ _ h => h) (Or.inl ⟨by rfl, ?_⟩) hHeld ?_
    rotate_left
    focus (intro w hSw; (try dsimp only at hSw); go_simp; try (with_reducible rfl))
    try simp only [Act.put, List.setIfInBounds_toArray, List.set_cons_zero, List.set_cons_succ]
    refine wpAnyL_take 12 (i := 5) (oi := ⟨some 15, _, _, _, _, _⟩) (v := ?_) rfl (by kernel_rfl) (by kernel_rfl) (by kernel_rfl) (by kernel_rfl) (by kernel_rfl) (by kernel_rfl) (by kernel_rfl) (fun _ _ _ h => h) (Or.inl ⟨by rfl, ?_⟩) hHeld ?_
    rotate_left
    focus (intro w hSw; (try dsimp only at hSw); go_simp; try (with_reducible rfl))
    try simp only [Act.put, List.setIfInBounds_toArray, List.set_cons_zero, List.set_cons_succ]
    refine wpAnyL_take 12 (i := 6) (oi := ⟨some 16, _, _, _, _, _⟩) (v := ?_) rfl (by kernel_rfl) (by kernel_rfl) (by kernel_rfl) (by kernel_rfl) (by kernel_rfl) (by kernel_rfl) (by kernel_rfl) (fun _ _ _ h => h) (Or.inl ⟨by rfl, ?_⟩) hHeld ?_
    rotate_left
    focus (intro w hSw; (try dsimp only at hSw); go_simp; try (with_reducible rfl))
    try simp only [Act.put, List.setIfInBounds_toArray, List.set_cons_zero, List.set_cons_succ]
    refine wpAnyL_take 12 (i := 7) (oi := ⟨some 17, _, _, _, _, _⟩) (v := ?_) rfl (by kernel_rfl) (by kernel_rfl) (by kernel_rfl) (by kernel_rfl) (by kernel_rfl) (by kernel_rfl) (by kernel_rfl) (fun _ _ _ h => h) (Or.inl ⟨by rfl, ?_⟩) hHeld ?_
    rotate_left
    focus (intro w hSw; (try dsimp only at hSw); go_simp; try (with_reducible rfl))
    try simp only [Act.put, List.setIfInBounds_toArray, List.set_cons_zero, List.set_cons_succ]
    refine wpAnyL_last (i := 8) (o := ⟨some 18, _, _, _, _, _⟩) (by kernel_rfl) rfl (by kernel_rfl) (fun K hK => ?_)
    clear hHeld
    refine step_copy_over (o := ⟨some 18, _, _, _, _, _⟩) rfl _ _ 46 46 rfl 5 Tryz.underlying46 dsize8 lo gk 64 q.c (ocl q.zs) (by have := HQO.out; rw [Pt.val, hqA, hq64] at this; exact this) ⟨b2, off2, none⟩ p.c rfl rfl (ocl p.zs) (by rw [ocl_length, hpl64]) (fun j v hj => by rw [add_plain]; exact HPC.out j v hj) (ocl_one _) ?_
    intro W3 ho3 hO3
    refine hK.out _ _ ?_
    clear hK K
    try simp only [Act.put, List.setIfInBounds_toArray, List.set_cons_zero, List.set_cons_succ]
    refine wpAnyL_done (by kernel_rfl) ?_ _
    have hO4 : ∀ m, Out gk (gk + 1) m W W3 := fun m => (Out.of_below (Below.refl _ W).drew).trans (hO3 m)
    have hO5 : ∀ m, Out lo hi m W W3 := fun m => (hO4 m).mono hgk0 hgk (Nat.le_refl _)
    refine ⟨(hO5 _).keepsFrom (by omega), (hO5 _).keeps, HOO.out.trans (hO5 _), qs.set k ⟨q.A, p.zs, q.c⟩, ?_, ?_, ?_⟩
    · rw [ptCells_set HQ.out p.zs (by omega), HQP.out]
    · refine HQS.out.upd HQ.out hqA hgk (by omega) ?_ (fun b _ _ hne => (hO4 W.heap.size).block b (by have := HOO.out.size; omega) (by omega))
      rw [hqA, hq64]
      exact ho3
    · rw [map_set_zs, HQZ.out, wvals_snoc, List.map_append]
      exact (applyW_at _ _ ((k : Int), p.zs) k rfl).symm
  case done =>
    rintro D ys W hD hS ⟨hO, qs, hqp, hqs, hqz⟩ hK
    have c0 : Blk W w.heap.size 27 [.slice (some ⟨G, 0, none⟩) ps.length c, .slice B ws.length d] := (hO.block _ (by omega) (.inr (by omega))).trans k0
    have c1 : Blk W (w.heap.size + 1) 27 [.slice none 0 0, .slice none 0 0] := (hO.block _ (by omega) (.inr (by omega))).trans k1
    have hc0 := c0.cell 0
    have hc1 := c1.cell 0
    have hc2 := c1.cell 1
    have hf1 := c1.frozen 0
    have hf2 := c1.frozen 1
    simp only [List.getElem?_cons_zero, List.getElem?_cons_succ] at hc0 hc1 hc2
    rw [hS] at hqz
    have HQZ := Lib.hid hqz
    have HQP := Lib.hid hqp
    have HQS := Lib.hid hqs
    have HOO := Lib.hid hO
    clear hqz hqp hqs hO c0 k0 k1 k2 k3 hS
    gi_wp2
    have d2 : Blk ((W.setCell ⟨w.heap.size + 1, 0, none⟩ (.slice (some ⟨G, 0, none⟩) ps.length c)).setCell ⟨w.heap.size + 1, 1, none⟩ (.slice none 0 0)) (w.heap.size + 1) 27 [.slice (some ⟨G, 0, none⟩) ps.length c, .slice none 0 0] := (c1.set 0 (.slice (some ⟨G, 0, none⟩) ps.length c)).set 1 (.slice none 0 0)
    have hst : ∀ b, b ≠ w.heap.size + 1 → ((W.setCell ⟨w.heap.size + 1, 0, none⟩ (.slice (some ⟨G, 0, none⟩) ps.length c)).setCell ⟨w.heap.size + 1, 1, none⟩ (.slice none 0 0)).heap[b]? = W.heap[b]? := fun b hb => (heap_setCell_other _ _ b _ hb).trans (heap_setCell_other _ _ b _ hb)
    have hBW : Below w.heap.size W ((W.setCell ⟨w.heap.size + 1, 0, none⟩ (.slice (some ⟨G, 0, none⟩) ps.length c)).setCell ⟨w.heap.size + 1, 1, none⟩ (.slice none 0 0)) := ((Below.refl _ W).setCell (p := ⟨w.heap.size + 1, 0, none⟩) (Nat.le_succ _) _).setCell (p := ⟨w.heap.size + 1, 1, none⟩) (Nat.le_succ _) _
    have hK' := (hst D (by omega)).trans hK
    generalize (W.setCell ⟨w.heap.size + 1, 0, none⟩ (.slice (some ⟨G, 0, none⟩) ps.length c)).setCell ⟨w.heap.size + 1, 1, none⟩ (.slice none 0 0) = W2 at *
    refine ⟨by simp, .inl ⟨_, _, rfl, run_takeDeferred hK', ?_⟩⟩
    have hpo : ∀ b, b ≠ D → (W2.putObj D (.deferred none)).heap[b]? = W2.heap[b]? := fun b hb => World.putObj_heap_other hb
    have d3 : Blk (W2.putObj D (.deferred none)) (w.heap.size + 1) 27 [.slice (some ⟨G, 0, none⟩) ps.length c, .slice none 0 0] := (hpo _ (by omega)).trans d2
    have hc5 := d3.cell 0
    have hc6 := d3.cell 1
    simp only [List.getElem?_cons_zero, List.getElem?_cons_succ] at hc5 hc6
    refine ⟨dval (some ⟨G, 0, none⟩) ps.length c none 0 0, ?_, rfl, qs, HQP.out, HQZ.out, HQS.out.stay fun k _ h2 => (hpo k (by omega)).trans (hst k (by omega)), ?_⟩
    · simp [results, Tryz.results36, go_sem, hc5, hc6]
    · refine (((Out.of_below hB1).trans (HOO.out.mono (Nat.le_refl _) (Nat.le_refl _) (by omega))).trans (Out.of_below hBW)).trans (Out.of_below ?_)
      exact (belowK_b (w := w) (Nat.le_refl _) W2 D _ _ (by omega) hK' rfl rfl)
  case stop =>
    rintro D c pre W _ _ h _
    exact h.elim

end Go.Proofs.YtfeeejigedndcaaGreat

namespace Go.Proofs.YtfeeejigedndcaaGreat
open Go.ChangeShapes Go.WideShapes Go.ChangeAt Go.RowKit Go.Shelf
set_option maxRecDepth 100000

theorem do1_any (k : Int) (x : Wt) (w : World) :
    Calls Tryz.prog 37 #[.int .i64 k, x.val] w fun e w' => e = .returned (.bool true) ∧ Below w.heap.size w w' := by
  have hB0 : Below w.heap.size w (w.alloc (.cells #[.int .i64 x.at_, .slice x.p.A x.p.zs.length x.p.c] 87)) := (Below.refl _ w).alloc (Nat.le_refl _) _
  go_enter Tryz.func37, Tryz.ntmps37
  go_wp2
  go_ret
  exact ⟨rfl, hB0⟩

/-- Is place k kept? -/
def keptB (bs : List Bool) (k : Nat) : Bool := bs[k]?.getD false
def bcl (bs : List Bool) : List Value := bs.map Value.bool
theorem bcl_at {bs : List Bool} {k : Nat} {b : Bool} (h : bs[k]? = some b) : (bcl bs)[k]? = some (.bool b) := by simp [bcl, h]

theorem crash1_any (Bk : Nat) (A : Option Addr) (bs : List Bool) (c : Nat) (k : Nat) (x : Wt) (w : World) (h0 : w.cell? ⟨Bk, 0, none⟩ = some (.slice A bs.length c)) (hr : Rd w A (bcl bs)) :
    Calls Tryz.prog 39 #[.int .i64 k, x.val, .pointer (some ⟨Bk, 0, none⟩)] w fun e w' => e = .returned (.bool (keptB bs k)) ∧ Below w.heap.size w w' := by
  have hB0 : Below w.heap.size w (w.alloc (.cells #[.int .i64 x.at_, .slice x.p.A x.p.zs.length x.p.c] 87)) := (Below.refl _ w).alloc (Nat.le_refl _) _
  have hbl := World.block_lt_of_cell? w ⟨Bk, 0, none⟩ h0
  by_cases hlt : k < bs.length
  · obtain ⟨b, hb⟩ : ∃ b, bs[k]? = some b := ⟨_, List.getElem?_eq_getElem hlt⟩
    have he : keptB bs k = b := by simp [keptB, hb]
    have hcb := bcl_at hb
    obtain ⟨b1, off, rfl, hb1, hc⟩ := hr (by intro h; rw [h] at hcb; simp at hcb)
    have hc1 := hc _ _ hcb
    rw [he]
    clear he hcb hb hc hr
    go_enter Tryz.func39, Tryz.ntmps39
    go_wp2
    go_ret
    exact ⟨rfl, hB0⟩
  · have he : keptB bs k = false := by simp [keptB, List.getElem?_eq_none (Nat.le_of_not_lt hlt)]
    rw [he]
    clear he hr
    go_enter Tryz.func39, Tryz.ntmps39
    go_wp2
    go_ret
    exact ⟨rfl, hB0⟩

theorem sel_all : ∀ (ws : List Wt) (k : Nat), sel (fun _ _ => true) k ws = ws
  | [], _ => rfl
  | x :: xs, k => by simp [sel, sel_all xs]

theorem Dv.Own.settled {base lo hi : Nat} {w W' : World} {D : Dv} (hO : D.Own base lo hi w) {qs : List Pt} (hq : ptCells qs = ptCells D.ps) (hs : Secs lo hi W' qs) (hw : Out lo hi w.heap.size w W') : Dv.Own base lo hi W' ⟨D.A, qs, D.c, none, [], 0⟩ := by
  obtain ⟨⟨G, hA, hG, harr⟩, hbl, hlh, hsecs, hrow, hwait, hroom⟩ := hO
  have hl : qs.length = D.ps.length := by rw [← ptCells_length qs, hq, ptCells_length]
  refine ⟨⟨G, hA, hG, ?_⟩, hbl, hlh, hs, ⟨rfl, .inl ⟨rfl, rfl⟩⟩, fun x hx => by simp at hx, Nat.le_trans hroom hw.size⟩
  show W'.ownsRow base _ 1 (.slice D.A qs.length D.c) qs.length (ptCells qs)
  rw [hl, hq]
  exact own_stay harr fun b hb => by
    have h2 := harr.lt b hb
    have h3 : G = b := by rw [hA] at hb; simpa [Value.ownBlock] using hb
    exact hw.block b h2.2 (.inl (by omega))

/-- What settle answers where all is done. -/
theorem settle_all (D : Dv) (base lo hi : Nat) (w : World) (hO : D.Own base lo hi w) (hok : D.st.ok) (hm : D.ws.length ≤ 4398046511104) :
    Calls Tryz.prog 36 #[D.val, .func (.func 37) #[] #[]] w fun e W' => ∃ E : Dv, e = .returned E.val ∧ E.st = ⟨applyW D.st.secs D.st.waits, []⟩ ∧ E.Own base lo hi W' ∧ Out lo hi w.heap.size w W' := by
  have h := callsIn_wide.1 (settle_in D base lo hi 37 #[] (enters_of Tryz.func37 (by kernel_rfl) rfl) (fun _ _ => true) (fun _ => True) (fun _ _ _ _ => trivial) w hO hok hm
    (fun W _ k x _ => do1_any k x W) trivial)
  refine h.mono ?_
  rintro e W' ⟨qs, rfl, h1, h2, h3, h4⟩
  have hl : qs.length = D.ps.length := by rw [← ptCells_length qs, h1, ptCells_length]
  refine ⟨⟨D.A, qs, D.c, none, [], 0⟩, by simp only [Dv.val, hl, List.length_nil], ?_, hO.settled h1 h3 h4, h4⟩
  rw [sel_all] at h2
  simp only [Dv.st, h2, List.map_nil]

/-- Those that are kept. -/
def keptL {α : Type} (bs : List Bool) : Nat → List α → List α
  | _, [] => []
  | k, x :: xs => if keptB bs k then x :: keptL bs (k + 1) xs else keptL bs (k + 1) xs
theorem sel_kept (bs : List Bool) : ∀ (ws : List Wt) (k : Nat), (sel (fun k _ => keptB bs k) k ws).map Wt.st = keptL bs k (ws.map Wt.st)
  | [], _ => rfl
  | x :: xs, k => by
    have ih := sel_kept bs xs (k + 1)
    simp only [sel, keptL, List.map_cons]
    split
    · simp [ih]
    · exact ih

/-- What settle answers where those are done that are kept. -/
theorem settle_kept (D : Dv) (base lo hi : Nat) (w : World) (hO : D.Own base lo hi w) (hok : D.st.ok) (hm : D.ws.length ≤ 4398046511104) (Bk : Nat) (A : Option Addr) (bs : List Bool) (c : Nat) (hBk : Bk < lo) (h0 : w.cell? ⟨Bk, 0, none⟩ = some (.slice A bs.length c)) (hr : Rd w A (bcl bs)) (hA : bcl bs ≠ [] → ∀ a, A = some a → a.block < lo) :
    Calls Tryz.prog 36 #[D.val, .func (.func 39) #[] #[.pointer (some ⟨Bk, 0, none⟩)]] w fun e W' => ∃ E : Dv, e = .returned E.val ∧ E.st = ⟨applyW D.st.secs (keptL bs 0 D.st.waits), []⟩ ∧ E.Own base lo hi W' ∧ Out lo hi w.heap.size w W' := by
  have h := callsIn_wide.1 (settle_in D base lo hi 39 #[.pointer (some ⟨Bk, 0, none⟩)] (enters_of Tryz.func39 (by kernel_rfl) rfl) (fun k _ => keptB bs k)
    (fun W => W.cell? ⟨Bk, 0, none⟩ = some (.slice A bs.length c) ∧ Rd W A (bcl bs))
    (fun W W' hW hk => by
      obtain ⟨h1, h2⟩ := hW
      refine ⟨hk _ _ _ (.inl hBk) h1, fun hv => ?_⟩
      obtain ⟨b, off, e, hb, hc⟩ := h2 hv
      obtain ⟨u, hu⟩ : ∃ u, (bcl bs)[0]? = some u := ⟨_, List.getElem?_eq_getElem (List.length_pos_iff.2 hv)⟩
      exact ⟨b, off, e, World.block_lt_of_cell? W' ⟨b, _, none⟩ (hk _ _ _ (.inl (hA hv _ e)) (hc 0 u hu)), fun j u hu => hk _ _ _ (.inl (hA hv _ e)) (hc j u hu)⟩)
    w hO hok hm (fun W hW k x _ => crash1_any Bk A bs c k x W hW.1 hW.2) ⟨h0, hr⟩)
  refine h.mono ?_
  rintro e W' ⟨qs, rfl, h1, h2, h3, h4⟩
  have hl : qs.length = D.ps.length := by rw [← ptCells_length qs, h1, ptCells_length]
  refine ⟨⟨D.A, qs, D.c, none, [], 0⟩, by simp only [Dv.val, hl, List.length_nil], ?_, hO.settled h1 h3 h4, h4⟩
  rw [sel_kept] at h2
  simp only [Dv.st, h2, List.map_nil]

end Go.Proofs.YtfeeejigedndcaaGreat

namespace Go.Proofs.YtfeeejigedndcaaGreat
open Go.ChangeShapes Go.WideShapes Go.ChangeAt Go.RowKit Go.Shelf
set_option maxRecDepth 100000

theorem Dv.Lies.reads {n : Nat} {W : World} {D : Dv} (h : D.Lies n W) : Rd W D.A (ptCells D.ps) ∧ Rd W D.B (wtCells D.ws) := ⟨h.secs.1, h.waits.1⟩

set_option maxHeartbeats 1000000 in
set_option maxRecDepth 100000 in
theorem crash_no (D : Dv) (hf : D.Fits) (hok : ¬ D.st.ok) (KA : Option Addr) (kn kc : Nat) (w : World) (hD : D.Lies 0 w) :
    Calls Tryz.prog 19 #[D.val, .slice KA kn kc] w fun e w' => e = .returned (ansD noD 9) ∧ Below w.heap.size w w' := by
  have HC := Lib.hid (fun w h1 h2 => check_no D hf hok w h1 h2)
  have HD := Lib.hid hD
  clear hD hok hf
  go_enter Tryz.func19, Tryz.ntmps19
  go_wp2_with fail
  obtain ⟨W0, hW0⟩ : ∃ W0, (((w.alloc (.cells #[.slice D.A D.ps.length D.c, .slice D.B D.ws.length D.d] 27)).alloc (.cells #[.slice KA kn kc] 51)).alloc (.cells #[.slice none 0 0, .slice none 0 0] 27)) = W0 := ⟨_, rfl⟩
  rw [hW0]
  have hB0 : Below w.heap.size w W0 := by rw [← hW0]; exact allocs_below [([.slice D.A D.ps.length D.c, .slice D.B D.ws.length D.d], 27), ([.slice KA kn kc], 51), ([.slice none 0 0, .slice none 0 0], 27)] w
  have k2 : Blk W0 (w.heap.size + 2) 27 [.slice none 0 0, .slice none 0 0] := by rw [← hW0]; exact allocs_blk [([.slice D.A D.ps.length D.c, .slice D.B D.ws.length D.d], 27), ([.slice KA kn kc], 51), ([.slice none 0 0, .slice none 0 0], 27)] w 2 rfl
  refine (HC.out W0 (HD.out.below hB0).reads.1 (HD.out.below hB0).reads.2).mono ?_
  rintro e w1 ⟨rfl, hB1⟩
  have k2 := k2.below hB1 k2.lt
  have hc0 := k2.cell 0
  have hc1 := k2.cell 1
  have hf0 := k2.frozen 0
  have hf1 := k2.frozen 1
  simp only [List.getElem?_cons_zero, List.getElem?_cons_succ] at hc0 hc1
  have hB01 : Below w.heap.size w w1 := hB0.trans (hB1.mono hB0.size)
  clear k2 hW0 hB0 hB1
  go_wp2
  refine bodyPost_ret (v := ansD noD 9) ?_ rfl ?_
  · simp [results, Tryz.results19, go_sem, hc0, hc1]
  · exact ⟨rfl, (hB01.setCell (p := ⟨w.heap.size + 2, 0, none⟩) (by show w.heap.size ≤ w.heap.size + 2; omega) _).setCell (p := ⟨w.heap.size + 2, 1, none⟩) (by show w.heap.size ≤ w.heap.size + 2; omega) _⟩

set_option maxHeartbeats 1000000 in
set_option maxRecDepth 100000 in
theorem crash_ok (D : Dv) (hf : D.Fits) (hok : D.st.ok) (KA : Option Addr) (bs : List Bool) (kc : Nat) (w : World) (hD : D.Lies 0 w) (hk : Rd w KA (bcl bs)) :
    Calls Tryz.prog 19 #[D.val, .slice KA bs.length kc] w fun e w' => ∃ E : Dv, e = .returned (ansD E.val 0) ∧ E.st = ⟨applyW D.st.secs (keptL bs 0 D.st.waits), []⟩ ∧ E.Lies w.heap.size w' ∧ Below w.heap.size w w' := by
  have HC := Lib.hid (fun w h1 h2 => check_ok D hf hok w h1 h2)
  have HCL := Lib.hid (fun w h => clone_dev D hok hf w h)
  have HD := Lib.hid hD
  have HK := Lib.hid hk
  have HOK := Lib.hid hok
  have hm := hf.m
  clear hD hok hf hk
  go_enter Tryz.func19, Tryz.ntmps19
  go_wp2_with fail
  obtain ⟨W0, hW0⟩ : ∃ W0, (((w.alloc (.cells #[.slice D.A D.ps.length D.c, .slice D.B D.ws.length D.d] 27)).alloc (.cells #[.slice KA bs.length kc] 51)).alloc (.cells #[.slice none 0 0, .slice none 0 0] 27)) = W0 := ⟨_, rfl⟩
  rw [hW0]
  have hB0 : Below w.heap.size w W0 := by rw [← hW0]; exact allocs_below [([.slice D.A D.ps.length D.c, .slice D.B D.ws.length D.d], 27), ([.slice KA bs.length kc], 51), ([.slice none 0 0, .slice none 0 0], 27)] w
  have k0 : Blk W0 w.heap.size 27 [.slice D.A D.ps.length D.c, .slice D.B D.ws.length D.d] := by rw [← hW0]; exact allocs_blk [([.slice D.A D.ps.length D.c, .slice D.B D.ws.length D.d], 27), ([.slice KA bs.length kc], 51), ([.slice none 0 0, .slice none 0 0], 27)] w 0 rfl
  have k1 : Blk W0 (w.heap.size + 1) 51 [.slice KA bs.length kc] := by rw [← hW0]; exact allocs_blk [([.slice D.A D.ps.length D.c, .slice D.B D.ws.length D.d], 27), ([.slice KA bs.length kc], 51), ([.slice none 0 0, .slice none 0 0], 27)] w 1 rfl
  have k2 : Blk W0 (w.heap.size + 2) 27 [.slice none 0 0, .slice none 0 0] := by rw [← hW0]; exact allocs_blk [([.slice D.A D.ps.length D.c, .slice D.B D.ws.length D.d], 27), ([.slice KA bs.length kc], 51), ([.slice none 0 0, .slice none 0 0], 27)] w 2 rfl
  refine (HC.out W0 (HD.out.below hB0).reads.1 (HD.out.below hB0).reads.2).mono ?_
  rintro e w1 ⟨rfl, hB1⟩
  have hB01 : Below w.heap.size w w1 := hB0.trans (hB1.mono hB0.size)
  have hlt2 := k2.lt
  have k0 := k0.below hB1 k0.lt
  have k1 := k1.below hB1 k1.lt
  have k2 := k2.below hB1 k2.lt
  have hs1 := hB1.size
  have hc0 := k0.cell 0
  have hc1 := k0.cell 1
  simp only [List.getElem?_cons_zero, List.getElem?_cons_succ] at hc0 hc1
  have K1 := Lib.hid k1
  have K2 := Lib.hid k2
  clear k0 k1 k2 hW0 hB1
  go_wp2_with fail
  refine (HCL.out w1 (HD.out.below hB01)).mono ?_
  rintro e w2 ⟨E, lo, hi, rfl, hst, hO, hB2⟩
  have hHB2 := Lib.hid hB2
  have hlo : w1.heap.size ≤ lo := hO.base
  have hok2 : E.st.ok := by rw [hst]; exact HOK.out
  have hml : E.ws.length ≤ 4398046511104 := by
    have := congrArg (fun s : DS => s.waits.length) hst
    simp only [Dv.st, List.length_map] at this
    omega
  have hkr : Rd w2 KA (bcl bs) := (HK.out.below hB01).below (hB2.mono (Nat.le_refl _))
  have HST := Lib.hid hst
  have HO := Lib.hid hO
  have HSE := Lib.hid (settle_kept E w1.heap.size lo hi w2 hO hok2 hml (w.heap.size + 1) KA bs kc (by omega) ((K1.out.below hB2 (by omega)).cell 0) hkr (fun hv a e => by
    obtain ⟨b, off, e', hb, _⟩ := HK.out hv
    rw [e] at e'
    injection e' with e'
    subst e'
    have := hB01.size
    show b < lo
    omega))
  clear hst hO hB2 hkr
  go_wp2_with fail
  refine HSE.out.mono ?_
  rintro e w3 ⟨F, rfl, hst3, hO3, hw3⟩
  have HST3 := Lib.hid hst3
  have HO3 := Lib.hid hO3
  have k2 : Blk w3 (w.heap.size + 2) 27 [.slice none 0 0, .slice none 0 0] := (hw3.block _ (by have := hHB2.out.size; omega) (.inl (by omega))).trans (K2.out.below hHB2.out (by omega))
  have hB3 : Below w.heap.size w w3 := (hB01.trans (hHB2.out.mono hB01.size)).trans (hw3.below (by have := hHB2.out.size; have := hB01.size; omega) (by have := hB01.size; omega))
  have hc0 := k2.cell 0
  have hc1 := k2.cell 1
  have hf0 := k2.frozen 0
  have hf1 := k2.frozen 1
  simp only [List.getElem?_cons_zero, List.getElem?_cons_succ] at hc0 hc1
  clear hst3 hO3 k2
  go_wp2
  refine bodyPost_ret (v := ansD F.val 0) ?_ rfl ?_
  · simp [results, Tryz.results19, go_sem, hc0, hc1]
  · have hst' : ∀ (u v : Value) (b : Nat), b ≠ w.heap.size + 2 → ((w3.setCell ⟨w.heap.size + 2, 0, none⟩ u).setCell ⟨w.heap.size + 2, 1, none⟩ v).heap[b]? = w3.heap[b]? := fun u v b hb => (heap_setCell_other _ _ b _ hb).trans (heap_setCell_other _ _ b _ hb)
    refine ⟨F, rfl, ?_, ?_, (hB3.setCell (p := ⟨w.heap.size + 2, 0, none⟩) (by show w.heap.size ≤ w.heap.size + 2; omega) _).setCell (p := ⟨w.heap.size + 2, 1, none⟩) (by show w.heap.size ≤ w.heap.size + 2; omega) _⟩
    · rw [HST3.out, HST.out]
    · have := HO3.out.lies.stays (W' := (w3.setCell ⟨w.heap.size + 2, 0, none⟩ (.slice F.A F.ps.length F.c)).setCell ⟨w.heap.size + 2, 1, none⟩ (.slice F.B F.ws.length F.d)) (by simp) (fun k h1 _ => hst' _ _ _ (by omega))
      exact this.mono (by have := hB01.size; omega)

end Go.Proofs.YtfeeejigedndcaaGreat

namespace Go.Proofs.YtfeeejigedndcaaGreat
open Go.ChangeShapes Go.WideShapes Go.ChangeAt Go.RowKit Go.Shelf
set_option maxRecDepth 100000

def Ac.st (x : Ac) : Bool × Int × List Int := (x.fl, x.at_, x.p.zs)
/-- An act, done. -/
def doA (S : DS) (a : Bool × Int × List Int) : DS := if a.1 then ⟨applyW S.secs S.waits, []⟩ else ⟨S.secs, S.waits ++ [(a.2.1, a.2.2)]⟩
def doL (S : DS) (l : List (Bool × Int × List Int)) : DS := l.foldl doA S
theorem doL_snoc (S : DS) (l : List (Bool × Int × List Int)) (a : Bool × Int × List Int) : doL S (l ++ [a]) = doA (doL S l) a := by simp [doL]
/-- The first error. -/
def actsE (n : Nat) : List Ac → Int
  | [] => 0
  | x :: xs => if actE n x.fl x.at_ x.p.zs.length = 0 then actsE n xs else actE n x.fl x.at_ x.p.zs.length
theorem actsE_zero {n : Nat} {l : List Ac} (h : actsE n l = 0) : ∀ x ∈ l, actE n x.fl x.at_ x.p.zs.length = 0 := by
  induction l with
  | nil => intro x hx; simp at hx
  | cons y ys ih =>
    intro x hx
    simp only [actsE] at h
    split at h
    · rename_i h0
      rcases List.mem_cons.1 hx with rfl | hx
      · exact h0
      · exact ih h x hx
    · rename_i h0
      exact absurd h h0
theorem actsE_none {n : Nat} {l : List Ac} (h : ∀ x ∈ l, actE n x.fl x.at_ x.p.zs.length = 0) : actsE n l = 0 := by
  induction l with
  | nil => rfl
  | cons y ys ih =>
    simp only [actsE]
    rw [if_pos (h y (by simp))]
    exact ih fun z hz => h z (by simp [hz])
theorem actsE_at {n : Nat} {l : List Ac} {k : Nat} {x : Ac} (hx : l[k]? = some x) (h : ∀ y ∈ l.take k, actE n y.fl y.at_ y.p.zs.length = 0) (h0 : actE n x.fl x.at_ x.p.zs.length ≠ 0) : actsE n l = actE n x.fl x.at_ x.p.zs.length := by
  induction l generalizing k with
  | nil => simp at hx
  | cons y ys ih =>
    rcases k with _ | k
    · simp at hx
      subst hx
      simp only [actsE, if_neg h0]
    · simp only [actsE]
      rw [if_pos (h y (by simp))]
      exact ih (by simpa using hx) (fun z hz => h z (by simp [hz]))

/-- Acts in memory. -/
structure Acts (W : World) (A : Option Addr) (l : List Ac) : Prop where
  arr : Rd W A (acCells l)
  data : ∀ x ∈ l, Rd W x.p.A (ocl x.p.zs)
  len : ∀ x ∈ l, x.p.zs.length ≤ 140737488351232
  n : l.length ≤ 4398046511104
theorem Acts.below {W W' : World} {A : Option Addr} {l : List Ac} (h : Acts W A l) (hb : Below W.heap.size W W') : Acts W' A l := ⟨h.arr.below hb, fun x hx => (h.data x hx).below hb, h.len, h.n⟩

set_option maxHeartbeats 1000000 in
set_option maxRecDepth 100000 in
theorem do_no (D : Dv) (hf : D.Fits) (hok : ¬ D.st.ok) (La : Option Addr) (ln lc : Nat) (w : World) (hD : D.Lies 0 w) :
    Calls Tryz.prog 18 #[D.val, .slice La ln lc] w fun e w' => e = .returned (ansD noD 9) ∧ Below w.heap.size w w' := by
  have HC := Lib.hid (fun w h1 h2 => check_no D hf hok w h1 h2)
  have HD := Lib.hid hD
  clear hD hok hf
  go_enter Tryz.func18, Tryz.ntmps18
  go_wp2_with fail
  obtain ⟨W0, hW0⟩ : ∃ W0, ((w.alloc (.cells #[.slice D.A D.ps.length D.c, .slice D.B D.ws.length D.d] 27)).alloc (.cells #[.slice none 0 0, .slice none 0 0] 27)) = W0 := ⟨_, rfl⟩
  rw [hW0]
  have hB0 : Below w.heap.size w W0 := by rw [← hW0]; exact allocs_below [([.slice D.A D.ps.length D.c, .slice D.B D.ws.length D.d], 27), ([.slice none 0 0, .slice none 0 0], 27)] w
  have k2 : Blk W0 (w.heap.size + 1) 27 [.slice none 0 0, .slice none 0 0] := by rw [← hW0]; exact allocs_blk [([.slice D.A D.ps.length D.c, .slice D.B D.ws.length D.d], 27), ([.slice none 0 0, .slice none 0 0], 27)] w 1 rfl
  refine (HC.out W0 (HD.out.below hB0).reads.1 (HD.out.below hB0).reads.2).mono ?_
  rintro e w1 ⟨rfl, hB1⟩
  have k2 := k2.below hB1 k2.lt
  have hc0 := k2.cell 0
  have hc1 := k2.cell 1
  have hf0 := k2.frozen 0
  have hf1 := k2.frozen 1
  simp only [List.getElem?_cons_zero, List.getElem?_cons_succ] at hc0 hc1
  have hB01 : Below w.heap.size w w1 := hB0.trans (hB1.mono hB0.size)
  clear k2 hW0 hB0 hB1
  go_wp2
  refine bodyPost_ret (v := ansD noD 9) ?_ rfl ?_
  · simp [results, Tryz.results18, go_sem, hc0, hc1]
  · exact ⟨rfl, (hB01.setCell (p := ⟨w.heap.size + 1, 0, none⟩) (Nat.le_succ _) _).setCell (p := ⟨w.heap.size + 1, 1, none⟩) (Nat.le_succ _) _⟩

set_option maxHeartbeats 1000000 in
set_option maxRecDepth 100000 in
theorem do_err (D : Dv) (hf : D.Fits) (hok : D.st.ok) (La : Option Addr) (l : List Ac) (lc : Nat) (he : actsE D.ps.length l ≠ 0) (w : World) (hD : D.Lies 0 w) (hl : Acts w La l) :
    Calls Tryz.prog 18 #[D.val, .slice La l.length lc] w fun e w' => e = .returned (ansD noD (actsE D.ps.length l)) ∧ Below w.heap.size w w' := by
  have HC := Lib.hid (fun w h1 h2 => check_ok D hf hok w h1 h2)
  have HD := Lib.hid hD
  have HL := Lib.hid hl
  have HE := Lib.hid he
  have hln := hl.n
  clear hD hok hf hl he
  go_enter Tryz.func18, Tryz.ntmps18
  go_wp2_with fail
  obtain ⟨W0, hW0⟩ : ∃ W0, ((w.alloc (.cells #[.slice D.A D.ps.length D.c, .slice D.B D.ws.length D.d] 27)).alloc (.cells #[.slice none 0 0, .slice none 0 0] 27)) = W0 := ⟨_, rfl⟩
  rw [hW0]
  have hB0 : Below w.heap.size w W0 := by rw [← hW0]; exact allocs_below [([.slice D.A D.ps.length D.c, .slice D.B D.ws.length D.d], 27), ([.slice none 0 0, .slice none 0 0], 27)] w
  have k1 : Blk W0 w.heap.size 27 [.slice D.A D.ps.length D.c, .slice D.B D.ws.length D.d] := by rw [← hW0]; exact allocs_blk [([.slice D.A D.ps.length D.c, .slice D.B D.ws.length D.d], 27), ([.slice none 0 0, .slice none 0 0], 27)] w 0 rfl
  have k2 : Blk W0 (w.heap.size + 1) 27 [.slice none 0 0, .slice none 0 0] := by rw [← hW0]; exact allocs_blk [([.slice D.A D.ps.length D.c, .slice D.B D.ws.length D.d], 27), ([.slice none 0 0, .slice none 0 0], 27)] w 1 rfl
  refine (HC.out W0 (HD.out.below hB0).reads.1 (HD.out.below hB0).reads.2).mono ?_
  rintro e w1 ⟨rfl, hB1⟩
  have K1 := Lib.hid (k1.below hB1 k1.lt)
  have K2 := Lib.hid (k2.below hB1 k2.lt)
  have hlt2 := K2.out.lt
  have hB01 : Below w.heap.size w w1 := hB0.trans (hB1.mono hB0.size)
  clear k1 k2 hW0 hB0 hB1
  go_wp2
  go_loopw [21] (fun i wr => ∃ k : Nat, k ≤ l.length ∧ i = .int .i64 k ∧ Hid (∀ x ∈ l.take k, actE D.ps.length x.fl x.at_ x.p.zs.length = 0) ∧ Below w1.heap.size w1 wr) (fun i _ => l.length - (intOf i).toNat)
  case atStart =>
    exact ⟨0, Nat.zero_le _, rfl, fun p hp => by simp at hp, Below.refl _ _⟩
  case round =>
    obtain ⟨k, hk, rfl, HZ, hB⟩ := hrel
    by_cases hlt : k < l.length
    · obtain ⟨x, hx⟩ : ∃ x, l[k]? = some x := ⟨_, List.getElem?_eq_getElem hlt⟩
      have hBw : Below w.heap.size w wr := hB01.trans (hB.mono hB01.size)
      obtain ⟨b, off, rfl, hb, hc0, hc1, hc2⟩ := (HL.out.below hBw).arr.ac hx
      have hmem := List.mem_of_getElem? hx
      have hxl := HL.out.len x hmem
      have htk : l.take (k + 1) = l.take k ++ [x] := by
        rw [List.take_succ_eq_append_getElem hlt]
        rw [List.getElem?_eq_getElem hlt] at hx
        injection hx with hx
        rw [hx]
      have HTK := Lib.hid htk
      have HX := Lib.hid hx
      have HA := Lib.hid (fun w => checkAct_any D.A D.ps.length D.c D.B D.ws.length D.d x.fl x.at_ x.p.A x.p.zs.length x.p.c (by omega) w)
      obtain ⟨r, hr⟩ : ∃ r, actE D.ps.length x.fl x.at_ x.p.zs.length = r := ⟨_, rfl⟩
      rw [hr] at HA
      have HR := Lib.hid hr
      have kd := K1.out.below hB (by omega)
      have hd0 := kd.cell 0
      have hd1 := kd.cell 1
      simp only [List.getElem?_cons_zero, List.getElem?_cons_succ] at hd0 hd1
      have hsz := hB.size
      have hsz2 : w.heap.size < wr.heap.size := by omega
      have kr := K2.out.below hB (by omega)
      have HKR := Lib.hid kr
      clear htk hx hr kd kr
      by_cases h0 : r = 0
      · subst h0
        go_wp2_with (refine (HA.out _).mono ?_; rintro e w2 ⟨rfl, hB2⟩)
        go_roundw
        case rel =>
          refine ⟨k + 1, by omega, by go_num, ?_, ?_⟩
          · intro q hq
            rw [HTK.out] at hq
            simp at hq
            rcases hq with hq | rfl
            · exact HZ.out q hq
            · exact HR.out
          · exact (hB.alloc (by first | omega | (simp; omega)) _).trans (hB2.mono (by first | omega | (simp; omega)))
        case measure => simp [intOf]; omega
      · have hr0 : (r == 0) = false := beq_eq_false_iff_ne.2 h0
        have hee : actsE D.ps.length l = r := by
          rw [actsE_at HX.out HZ.out (by rw [HR.out]; exact h0)]
          exact HR.out
        have HEE := Lib.hid hee
        clear hee
        go_wp2_with (refine (HA.out _).mono ?_; rintro e w2 ⟨rfl, hB2⟩; have k3 := (HKR.out.alloc (.cells #[.bool x.fl, .int .i64 x.at_, .slice x.p.A x.p.zs.length x.p.c] 82)).below hB2 (by simp; omega); have e0 := k3.cell 0; have e1 := k3.cell 1; have f0 := k3.frozen 0; have f1 := k3.frozen 1; simp only [List.getElem?_cons_zero, List.getElem?_cons_succ] at e0 e1)
        refine bodyPost_ret (v := ansD noD r) ?_ rfl ?_
        · simp [results, Tryz.results18, go_sem, e0, e1]
        · have hBf : Below w.heap.size w w2 := (hBw.alloc hBw.size _).trans (hB2.mono (by have := hBw.size; simp; omega))
          exact ⟨by rw [HEE.out], (hBf.setCell (p := ⟨w.heap.size + 1, 0, none⟩) (Nat.le_succ _) _).setCell (p := ⟨w.heap.size + 1, 1, none⟩) (Nat.le_succ _) _⟩
    · obtain rfl : k = l.length := by omega
      have hz := HZ.out
      rw [List.take_length] at hz
      exact (HE.out (actsE_none hz)).elim

end Go.Proofs.YtfeeejigedndcaaGreat

namespace Go.Proofs.YtfeeejigedndcaaGreat
open Go.ChangeShapes Go.WideShapes Go.ChangeAt Go.RowKit Go.Shelf
set_option maxRecDepth 100000

theorem Dv.Own.stays {base lo hi : Nat} {W W' : World} {D : Dv} (h : D.Own base lo hi W) (hs : W.heap.size ≤ W'.heap.size)
    (hk : ∀ b, b < W.heap.size → (Value.slice D.B D.ws.length D.d).ownBlock = some b ∨ b < hi ∨ (∃ x ∈ D.ws, x.p.val.ownBlock = some b) → W'.heap[b]? = W.heap[b]?) : D.Own base lo hi W' := by
  obtain ⟨⟨G, hA, hG, harr⟩, hbl, hlh, hsecs, hrow, hwait, hroom⟩ := h
  refine ⟨⟨G, hA, hG, own_stay harr fun b hb => ?_⟩, hbl, hlh, hsecs.stay fun k h1 h2 => hk k (by omega) (.inr (.inl h2)), own_stay hrow fun b hb => hk b (hrow.lt b hb).2 (.inl hb), fun x hx => own_stay (hwait x hx) fun b hb => hk b ((hwait x hx).lt b hb).2 (.inr (.inr ⟨x, hx, hb⟩)), Nat.le_trans hroom hs⟩
  have h2 := harr.lt b hb
  have h3 : G = b := by rw [hA] at hb; simpa [Value.ownBlock] using hb
  exact hk b h2.2 (.inr (.inl (by omega)))
theorem Dv.Own.below {base lo hi : Nat} {W W' : World} {D : Dv} (h : D.Own base lo hi W) (hb : Below W.heap.size W W') : D.Own base lo hi W' := h.stays hb.size fun b h1 _ => hb.block b h1
theorem Dv.Own.setBox {base lo hi : Nat} {W : World} {D : Dv} (h : D.Own base lo hi W) {X : Nat} {vs : List Value} (hX : Blk W X 27 vs) (hh : hi ≤ X) (j : Nat) (u : Value) : D.Own base lo hi (W.setCell ⟨X, j, none⟩ u) := by
  refine h.stays (by simp) fun b h1 h2 => heap_setCell_other _ _ b _ ?_
  rintro rfl
  rcases h2 with h2 | h2 | ⟨x, hx, h2⟩
  · exact blk_apart hX h.row (by decide) h2
  · omega
  · exact blk_apart hX (h.wait x hx) (by decide) h2

/-- One more write waits. -/
theorem Dv.Own.push {base lo hi : Nat} {W W' : World} {D : Dv} (h : D.Own base lo hi W) {X : Nat} {vs : List Value} (hX : Blk W X 27 vs) (hh : hi ≤ X) (y : Wt) (g3 c3 : Nat)
    (hrow : W'.ownsRow hi 87 2 (.slice (some ⟨g3, 0, none⟩) (D.ws.length + 1) c3) (D.ws.length + 1) (wtCells D.ws ++ [.int .i64 y.at_, y.p.val])) (hy : W'.ownsRow hi 5 1 y.p.val y.p.zs.length (ocl y.p.zs)) (hs : W.heap.size ≤ W'.heap.size)
    (hk : ∀ b, b < W.heap.size → (Value.slice D.B D.ws.length D.d).ownBlock ≠ some b → b ≠ X → W'.heap[b]? = W.heap[b]?) : Dv.Own base lo hi W' ⟨D.A, D.ps, D.c, some ⟨g3, 0, none⟩, D.ws ++ [y], c3⟩ := by
  obtain ⟨⟨G, hA, hG, harr⟩, hbl, hlh, hsecs, hrow0, hwait, hroom⟩ := h
  have hj := fun b hb => (hrow0.lt b hb).1
  refine ⟨⟨G, hA, hG, own_stay harr fun b hb => ?_⟩, hbl, hlh, hsecs.stay fun k h1 h2 => hk k (by omega) (fun e => by have := hj _ e; omega) (by omega), ?_, fun x hx => ?_, Nat.le_trans hroom hs⟩
  · have h2 := harr.lt b hb
    have h3 : G = b := by rw [hA] at hb; simpa [Value.ownBlock] using hb
    exact hk b h2.2 (fun e => by have := hj _ e; omega) (by omega)
  · rw [wtCells_snoc, show (D.ws ++ [y]).length = D.ws.length + 1 by simp]
    exact hrow
  · simp at hx
    rcases hx with hx | rfl
    · have hq := hwait x hx
      exact own_stay hq fun b hb => hk b (hq.lt b hb).2 (own_apart hq hrow0 (by decide) b hb) (fun e => blk_apart hX hq (by decide) (by rw [hb, e]))
    · exact hy
theorem snoc_rec {α : Type} {p : List α → Prop} (h0 : p []) (h1 : ∀ l a, p l → p (l ++ [a])) (l : List α) : p l := by
  have key : ∀ m : List α, p m.reverse := by
    intro m
    induction m with
    | nil => exact h0
    | cons x xs ih => rw [List.reverse_cons]; exact h1 _ _ ih
  have := key l.reverse
  rwa [List.reverse_reverse] at this
theorem doA_ok {S : DS} (h : S.ok) {a : Bool × Int × List Int} (ha : a.1 = true ∨ (0 ≤ a.2.1 ∧ a.2.1 < S.secs.length ∧ a.2.2.length = 64)) : (doA S a).ok ∧ (doA S a).secs.length = S.secs.length := by
  obtain ⟨h1, h2, h3, h4⟩ := h
  unfold doA
  split
  · refine ⟨⟨by rw [applyW_length]; exact h1, by rw [applyW_length]; exact h2, ?_, fun x hx => by simp at hx⟩, applyW_length _ _⟩
    have key : ∀ (l : List (Int × List Int)) (T : List (List Int)), (∀ x ∈ l, x.2.length = 64) → (∀ s ∈ T, s.length = 64) → ∀ s ∈ applyW T l, s.length = 64 := by
      intro l
      induction l with
      | nil => intro T _ hT s hs; exact hT s hs
      | cons y ys ih =>
        intro T hy hT s hs
        refine ih (T.set y.1.toNat y.2) (fun x hx => hy x (by simp [hx])) (fun t ht => ?_) s hs
        rcases List.mem_or_eq_of_mem_set ht with ht | rfl
        · exact hT t ht
        · exact hy y (by simp)
    exact key _ _ (fun x hx => (h4 x hx).2.2) h3
  · rename_i hf
    refine ⟨⟨h1, h2, h3, fun x hx => ?_⟩, rfl⟩
    simp at hx
    rcases hx with hx | rfl
    · exact h4 x hx
    · rcases ha with ha | ha
      · exact absurd ha hf
      · exact ha
theorem doL_ok {S : DS} (h : S.ok) {l : List (Bool × Int × List Int)} (hl : ∀ a ∈ l, a.1 = true ∨ (0 ≤ a.2.1 ∧ a.2.1 < S.secs.length ∧ a.2.2.length = 64)) : (doL S l).ok ∧ (doL S l).secs.length = S.secs.length := by
  revert hl
  refine snoc_rec (p := fun (l : List (Bool × Int × List Int)) => (∀ a ∈ l, a.1 = true ∨ (0 ≤ a.2.1 ∧ a.2.1 < S.secs.length ∧ a.2.2.length = 64)) → (doL S l).ok ∧ (doL S l).secs.length = S.secs.length) ?_ ?_ l
  · exact fun _ => ⟨h, rfl⟩
  · intro l a ih hl
    obtain ⟨i1, i2⟩ := ih fun x hx => hl x (by simp [hx])
    rw [doL_snoc]
    have := doA_ok i1 (a := a) (by rw [i2]; exact hl a (by simp))
    exact ⟨this.1, this.2.trans i2⟩
theorem doL_waits (S : DS) (l : List (Bool × Int × List Int)) : (doL S l).waits.length ≤ S.waits.length + l.length := by
  refine snoc_rec (p := fun (l : List (Bool × Int × List Int)) => (doL S l).waits.length ≤ S.waits.length + l.length) ?_ ?_ l
  · simp [doL]
  · intro l a ih
    rw [doL_snoc]
    unfold doA
    split <;> simp <;> omega
theorem act_fine {n : Nat} {x : Ac} (h : actE n x.fl x.at_ x.p.zs.length = 0) : x.st.1 = true ∨ (0 ≤ x.st.2.1 ∧ x.st.2.1 < n ∧ x.st.2.2.length = 64) := by
  unfold actE wrtE at h
  unfold Ac.st
  split at h
  · exact .inl (by assumption)
  · refine .inr ?_
    split at h
    · rename_i h1
      split at h
      · exact ⟨h1.1, h1.2, by assumption⟩
      · omega
    · omega

/-- Cells of blocks below n stay. -/
theorem held3_at {W W' : World} {g g' n i j j' : Nat} {a b c : Value} (hg : g < n) (hg' : g' < n) (h0 : W.cell? ⟨g, i, none⟩ = some a) (h1 : W.cell? ⟨g', j, none⟩ = some b) (h2 : W.cell? ⟨g', j', none⟩ = some c) (hB : Below n W W') :
    W'.cell? ⟨g, i, none⟩ = some a ∧ W'.cell? ⟨g', j, none⟩ = some b ∧ W'.cell? ⟨g', j', none⟩ = some c :=
  ⟨(hB.cell (p := ⟨g, i, none⟩) hg).trans h0, (hB.cell (p := ⟨g', j, none⟩) hg').trans h1, (hB.cell (p := ⟨g', j', none⟩) hg').trans h2⟩

/-- Its slices' capacities are as they should be. -/
structure Dv.Caps (D : Dv) : Prop where
  n : D.ps.length ≤ D.c
  nil : D.A = none → D.c = 0
  sec : ∀ p ∈ D.ps, p.zs.length ≤ p.c ∧ (p.A = none → p.c = 0)
theorem row_cap {w : World} {base : Nat} {e : TypeId} {size n c : Nat} {A : Option Addr} {vs : List Value} (h : w.ownsRow base e size (.slice A n c) n vs) : n ≤ c ∧ (A = none → c = 0) := by
  rcases h.2 with ⟨hv, h0⟩ | ⟨g, cap, cur, hv, _, _, hn, _⟩
  · injection hv with h1 h2 h3
    exact ⟨by omega, fun _ => h3⟩
  · injection hv with h1 h2 h3
    exact ⟨by omega, fun e => by rw [h1] at e; cases e⟩
theorem Dv.Own.caps {base lo hi : Nat} {W : World} {D : Dv} (h : D.Own base lo hi W) : D.Caps := by
  obtain ⟨G, hA, hG, ho⟩ := h.arr
  refine ⟨(row_cap ho).1, (row_cap ho).2, fun p hp => ?_⟩
  obtain ⟨k, hk⟩ := List.getElem?_of_mem hp
  obtain ⟨g, _, _, hr⟩ := h.secs.own k p hk
  exact row_cap hr

set_option maxHeartbeats 4000000 in
set_option maxRecDepth 100000 in
theorem do_okc (D : Dv) (hf : D.Fits) (hok : D.st.ok) (La : Option Addr) (l : List Ac) (lc : Nat) (he : actsE D.ps.length l = 0) (hm : D.ws.length + l.length ≤ 4398046511104) (w : World) (hD : D.Lies 0 w) (hl : Acts w La l) :
    Calls Tryz.prog 18 #[D.val, .slice La l.length lc] w fun e w' => ∃ E : Dv, e = .returned (ansD E.val 0) ∧ E.st = doL D.st (l.map Ac.st) ∧ E.Lies w.heap.size w' ∧ Below w.heap.size w w' ∧ E.Caps := by
  obtain ⟨i0, hi, hz0, hz1, hz2⟩ := dinfo_parts dinfoW
  have hfine : ∀ a ∈ l.map Ac.st, a.1 = true ∨ (0 ≤ a.2.1 ∧ a.2.1 < D.st.secs.length ∧ a.2.2.length = 64) := fun a ha => by
    obtain ⟨x, hx, rfl⟩ := List.mem_map.1 ha
    have := act_fine (actsE_zero he x hx)
    simpa [Dv.st] using this
  have HFINE := Lib.hid hfine
  have HC := Lib.hid (fun w h1 h2 => check_ok D hf hok w h1 h2)
  have HCL := Lib.hid (fun w h => clone_dev D hok hf w h)
  have HD := Lib.hid hD
  have HL := Lib.hid hl
  have HZ := Lib.hid (actsE_zero he)
  have HOK := Lib.hid hok
  have hln := hl.n
  clear hD hok hf hl he hfine
  go_enter Tryz.func18, Tryz.ntmps18
  go_wp2_with fail
  obtain ⟨W0, hW0⟩ : ∃ W0, ((w.alloc (.cells #[.slice D.A D.ps.length D.c, .slice D.B D.ws.length D.d] 27)).alloc (.cells #[.slice none 0 0, .slice none 0 0] 27)) = W0 := ⟨_, rfl⟩
  rw [hW0]
  have hB0 : Below w.heap.size w W0 := by rw [← hW0]; exact allocs_below [([.slice D.A D.ps.length D.c, .slice D.B D.ws.length D.d], 27), ([.slice none 0 0, .slice none 0 0], 27)] w
  have k1 : Blk W0 w.heap.size 27 [.slice D.A D.ps.length D.c, .slice D.B D.ws.length D.d] := by rw [← hW0]; exact allocs_blk [([.slice D.A D.ps.length D.c, .slice D.B D.ws.length D.d], 27), ([.slice none 0 0, .slice none 0 0], 27)] w 0 rfl
  have k2 : Blk W0 (w.heap.size + 1) 27 [.slice none 0 0, .slice none 0 0] := by rw [← hW0]; exact allocs_blk [([.slice D.A D.ps.length D.c, .slice D.B D.ws.length D.d], 27), ([.slice none 0 0, .slice none 0 0], 27)] w 1 rfl
  refine (HC.out W0 (HD.out.below hB0).reads.1 (HD.out.below hB0).reads.2).mono ?_
  rintro e w1 ⟨rfl, hB1⟩
  have K1 := Lib.hid (k1.below hB1 k1.lt)
  have K2 := Lib.hid (k2.below hB1 k2.lt)
  have hlt2 := K2.out.lt
  have hB01 : Below w.heap.size w w1 := hB0.trans (hB1.mono hB0.size)
  clear k1 k2 hW0 hB0 hB1
  go_wp2
  go_loopw [21] (fun i wr => ∃ k : Nat, k ≤ l.length ∧ i = .int .i64 k ∧ Below w1.heap.size w1 wr) (fun i _ => l.length - (intOf i).toNat)
  case atStart =>
    exact ⟨0, Nat.zero_le _, rfl, Below.refl _ _⟩
  case round =>
    obtain ⟨k, hk, rfl, hB⟩ := hrel
    have hBw : Below w.heap.size w wr := hB01.trans (hB.mono hB01.size)
    have hsz := hB.size
    have hsz2 : w.heap.size < wr.heap.size := by omega
    have kd := K1.out.below hB (by omega)
    have hd0 := kd.cell 0
    have hd1 := kd.cell 1
    simp only [List.getElem?_cons_zero, List.getElem?_cons_succ] at hd0 hd1
    by_cases hlt : k < l.length
    · obtain ⟨x, hx⟩ : ∃ x, l[k]? = some x := ⟨_, List.getElem?_eq_getElem hlt⟩
      obtain ⟨b, off, rfl, hb, hc0, hc1, hc2⟩ := (HL.out.below hBw).arr.ac hx
      have hmem := List.mem_of_getElem? hx
      have hxl := HL.out.len x hmem
      have HA := Lib.hid (fun w => checkAct_any D.A D.ps.length D.c D.B D.ws.length D.d x.fl x.at_ x.p.A x.p.zs.length x.p.c (by omega) w)
      rw [HZ.out x hmem] at HA
      clear hx kd
      go_wp2_with (refine (HA.out _).mono ?_; rintro e w2 ⟨rfl, hB2⟩)
      go_roundw
      case rel => exact ⟨k + 1, by omega, by go_num, (hB.alloc (by first | omega | (simp; omega)) _).trans (hB2.mono (by first | omega | (simp; omega)))⟩
      case measure => simp [intOf]; omega
    · obtain rfl : k = l.length := by omega
      have kr := K2.out.below hB (by omega)
      have HKR := Lib.hid kr
      have HBW := Lib.hid hBw
      clear kr kd K1 K2 HC hB01
      go_wp2_with fail
      refine (HCL.out wr (HD.out.below hBw)).mono ?_
      rintro e w2 ⟨E, lo, hi0, rfl, hst, hO, hB2⟩
      have hlo : wr.heap.size ≤ lo := hO.base
      have hhi := hO.lohi
      have hroom := hO.room
      have HO := Lib.hid hO
      have HST := Lib.hid hst
      have HB2 := Lib.hid hB2
      clear hO hst hB2 hBw HCL
      go_wp2
      have kX : Blk (w2.alloc (.cells #[.slice E.A E.ps.length E.c, .slice E.B E.ws.length E.d] 27)) w2.heap.size 27 [.slice E.A E.ps.length E.c, .slice E.B E.ws.length E.d] := Blk.new w2 _ _
      have kR : Blk (w2.alloc (.cells #[.slice E.A E.ps.length E.c, .slice E.B E.ws.length E.d] 27)) (w.heap.size + 1) 27 [.slice none 0 0, .slice none 0 0] := (HKR.out.below HB2.out (by omega)).alloc _
      have hBX : Below w.heap.size w (w2.alloc (.cells #[.slice E.A E.ps.length E.c, .slice E.B E.ws.length E.d] 27)) := (HBW.out.trans (HB2.out.mono HBW.out.size)).alloc (by have := HBW.out.size; omega) _
      have hOX := HO.out.below ((Below.refl _ w2).alloc (Nat.le_refl _) (.cells #[.slice E.A E.ps.length E.c, .slice E.B E.ws.length E.d] 27))
      have HKX := Lib.hid kX
      have HKRX := Lib.hid kR
      have HBX := Lib.hid hBX
      have HOX := Lib.hid hOX
      obtain ⟨X, hX⟩ : ∃ X, w2.heap.size = X := ⟨_, rfl⟩
      obtain ⟨n0, hn0⟩ : ∃ n0, wr.heap.size = n0 := ⟨_, rfl⟩
      clear kX kR hBX hOX HO HKR HBW
      rw [hX] at HKX hroom ⊢
      rw [hn0] at HOX hlo hsz hsz2
      go_loopw [37] (fun i W => ∃ (k : Nat) (F : Dv), k ≤ l.length ∧ i = .int .i64 k ∧ Hid (F.Own n0 lo hi0 W) ∧ Hid (F.st = doL D.st ((l.take k).map Ac.st)) ∧ Hid (Blk W X 27 [.slice F.A F.ps.length F.c, .slice F.B F.ws.length F.d])
        ∧ Hid (Blk W (w.heap.size + 1) 27 [.slice none 0 0, .slice none 0 0]) ∧ Hid (Below w.heap.size w W) ∧ X < W.heap.size) (fun i _ => l.length - (intOf i).toNat)
      case atStart =>
        exact ⟨0, E, Nat.zero_le _, rfl, HOX.out, HST.out, HKX.out, HKRX.out, HBX.out, by simp; omega⟩
      case round =>
        clear HKX HKRX HBX HOX HST HB2 hX hn0 hd0 hd1 hB
        obtain ⟨k, F, hk2, rfl, HO, HST, HKX, HKR, HBW, hXl⟩ := hrel
        obtain ⟨hok2, hsl⟩ := doL_ok HOK.out (l := (l.take k).map Ac.st) (fun a ha => HFINE.out a (by
          obtain ⟨x, hx, rfl⟩ := List.mem_map.1 ha
          exact List.mem_map.2 ⟨x, List.mem_of_mem_take hx, rfl⟩))
        have hwl := doL_waits D.st ((l.take k).map Ac.st)
        rw [← HST.out] at hok2 hsl hwl
        simp only [Dv.st, List.length_map, List.length_take] at hsl hwl
        have hFm : F.ws.length ≤ 4398046511104 := by omega
        have HOK2 := Lib.hid hok2
        have HSL := Lib.hid hsl
        have HWL := Lib.hid hwl
        clear hsl hwl
        have kx := HKX.out
        have hX0 := kx.cell 0
        have hX1 := kx.cell 1
        have fX0 := kx.frozen 0
        have fX1 := kx.frozen 1
        simp only [List.getElem?_cons_zero, List.getElem?_cons_succ] at hX0 hX1
        clear kx hok2
        by_cases hlt2 : k < l.length
        · obtain ⟨x, hx⟩ : ∃ x, l[k]? = some x := ⟨_, List.getElem?_eq_getElem hlt2⟩
          obtain ⟨b, off, hLA, hb, hc0, hc1, hc2⟩ := (HL.out.below HBW.out).arr.ac hx
          have hmem := List.mem_of_getElem? hx
          have hxl := HL.out.len x hmem
          have htk : l.take (k + 1) = l.take k ++ [x] := by
            rw [List.take_succ_eq_append_getElem hlt2]
            rw [List.getElem?_eq_getElem hlt2] at hx
            injection hx with hx
            rw [hx]
          have hst1 : doL D.st ((l.take (k + 1)).map Ac.st) = doA F.st x.st := by rw [htk, List.map_append, List.map_singleton, doL_snoc, HST.out]
          have HST1 := Lib.hid hst1
          have HX := Lib.hid (HL.out.data x hmem)
          have hfx := act_fine (HZ.out x hmem)
          subst hLA
          clear htk hst1 hx
          cases hfl : x.fl
          · have hst2 : doA F.st x.st = ⟨F.st.secs, F.st.waits ++ [(x.at_, x.p.zs)]⟩ := by simp [doA, Ac.st, hfl]
            have HST2 := Lib.hid hst2
            have hpl : x.p.zs.length = 64 := by
              rcases hfx with h | h
              · simp [Ac.st, hfl] at h
              · exact h.2.2
            rw [hfl] at hc0
            have HCW := Lib.hid (fun w h => cloneWrite_any x.at_ x.p.A x.p.zs.length x.p.c x.p.zs rfl (by omega) (by omega) w h)
            rw [hpl] at HCW
            simp only [Pt.val, hpl] at hc2
            have HPR : Hid (Rd wr x.p.A (ocl x.p.zs)) := HX.out.below HBW.out
            clear hst2 hfx hfl
            go_wp2_with fail
            obtain ⟨w1', hw1⟩ : ∃ w1', wr.alloc (.cells #[.bool false, .int .i64 x.at_, .slice x.p.A 64 x.p.c] 82) = w1' := ⟨_, rfl⟩
            have hB10 : Below wr.heap.size wr w1' := hw1 ▸ (Below.refl _ wr).alloc (Nat.le_refl _) _
            have hsz1 : wr.heap.size < w1'.heap.size := by rw [← hw1]; simp
            have kx : Blk w1' wr.heap.size 82 [.bool false, .int .i64 x.at_, .slice x.p.A 64 x.p.c] := hw1 ▸ Blk.new wr _ _
            rw [hw1]
            have ko := HKX.out.below hB10 hXl
            have ha1 := kx.cell 1
            have ha2 := kx.cell 2
            have hd1 := ko.cell 1
            simp only [List.getElem?_cons_zero, List.getElem?_cons_succ] at ha1 ha2 hd1
            have hBr : Below w1'.heap.size w1' w1' := Below.refl _ _
            have hXl1 := ko.lt
            have HKO1 := Lib.hid ko
            have HROW := Lib.hid HO.out.row
            have hj : ∀ j, (Value.slice F.B F.ws.length F.d).ownBlock = some j → hi0 ≤ j ∧ j < wr.heap.size := fun j e => HROW.out.lt j e
            have hjX := blk_apart HKX.out HROW.out (by decide)
            have HJX := Lib.hid hjX
            clear hw1 kx ko hjX hX0 hX1 fX0 fX1 hc0 hc1 hc2
            refine wp_region_noPanic ?_
            refine wp_region_last 11 (fun w' => w'.cell? ⟨X, 1, none⟩ = some (.slice F.B F.ws.length F.d) ∧ w'.cell? ⟨wr.heap.size, 1, none⟩ = some (.int .i64 x.at_) ∧ w'.cell? ⟨wr.heap.size, 2, none⟩ = some (.slice x.p.A 64 x.p.c)) (by kernel_rfl) (held3_at hXl1 hsz1 hd1 ha1 ha2 hBr.drew) (fun hHeld => ?_)
            refine wpAnyL_take 12 (i := 0) (oi := ⟨some 45, _, _, _, _, _⟩) (v := ?_) rfl (by kernel_rfl) (by kernel_rfl) (by kernel_rfl) (by kernel_rfl) (by kernel_rfl) (by kernel_rfl) (by kernel_rfl) (fun _ _ _ h => h) (Or.inl ⟨by rfl, ?_⟩) hHeld ?_
            rotate_left
            focus (intro w hSw; (try dsimp only at hSw); go_simp; try (with_reducible rfl))
            try simp only [Act.put, List.setIfInBounds_toArray, List.set_cons_zero, List.set_cons_succ]
            refine wpAnyL_take 12 (i := 1) (oi := ⟨some 46, _, _, _, _, _⟩) (v := ?_) rfl (by kernel_rfl) (by kernel_rfl) (by kernel_rfl) (by kernel_rfl) (by kernel_rfl) (by kernel_rfl) (by kernel_rfl) (fun _ _ _ h => h) (Or.inl ⟨by rfl, ?_⟩) hHeld ?_
            rotate_left
            focus (intro w hSw; (try dsimp only at hSw); go_simp; try (with_reducible rfl))
            try simp only [Act.put, List.setIfInBounds_toArray, List.set_cons_zero, List.set_cons_succ]
            refine wpAnyL_take 12 (i := 2) (oi := ⟨some 47, _, _, _, _, _⟩) (v := ?_) rfl (by kernel_rfl) (by kernel_rfl) (by kernel_rfl) (by kernel_rfl) (by kernel_rfl) (by kernel_rfl) (by kernel_rfl) (fun _ _ _ h => h) (Or.inl ⟨by rfl, ?_⟩) hHeld ?_
            rotate_left
            focus (intro w hSw; (try dsimp only at hSw); go_simp; try (with_reducible rfl))
            try simp only [Act.put, List.setIfInBounds_toArray, List.set_cons_zero, List.set_cons_succ]
            refine wpAnyL_take 12 (i := 3) (oi := ⟨some 48, _, _, _, _, _⟩) (v := ?_) rfl (by kernel_rfl) (by kernel_rfl) (by kernel_rfl) (by kernel_rfl) (by kernel_rfl) (by kernel_rfl) (by kernel_rfl) (fun _ _ _ h => h) (Or.inl ⟨by rfl, ?_⟩) hHeld ?_
            rotate_left
            focus (intro w hSw; (try dsimp only at hSw); go_simp; try (with_reducible rfl))
            try simp only [Act.put, List.setIfInBounds_toArray, List.set_cons_zero, List.set_cons_succ]
            refine wpAnyL_take 12 (i := 4) (oi := ⟨some 49, _, _, _, _, _⟩) (v := ?_) rfl (by kernel_rfl) (by kernel_rfl) (by kernel_rfl) (by kernel_rfl) (by kernel_rfl) (by kernel_rfl) (by kernel_rfl) (fun _ _ _ h => h) (Or.inl ⟨by rfl, ?_⟩) hHeld ?_
            rotate_left
            focus (intro w hSw; (try dsimp only at hSw); go_simp; try (with_reducible rfl))
            try simp only [Act.put, List.setIfInBounds_toArray, List.set_cons_zero, List.set_cons_succ]
            refine wpAnyL_take 12 (i := 5) (oi := ⟨some 50, _, _, _, _, _⟩) (v := ?_) rfl (by kernel_rfl) (by kernel_rfl) (by kernel_rfl) (by kernel_rfl) (by kernel_rfl) (by kernel_rfl) (by kernel_rfl) (fun _ _ _ h => h) (Or.inl ⟨by rfl, ?_⟩) hHeld ?_
            rotate_left
            focus (intro w hSw; (try dsimp only at hSw); go_simp; try (with_reducible rfl))
            try simp only [Act.put, List.setIfInBounds_toArray, List.set_cons_zero, List.set_cons_succ]
            refine wpAnyL_take 12 (i := 6) (oi := ⟨some 51, _, _, _, _, _⟩) (v := ?_) rfl (by kernel_rfl) (by kernel_rfl) (by kernel_rfl) (by kernel_rfl) (by kernel_rfl) (by kernel_rfl) (by kernel_rfl) (fun _ _ _ h => h) (Or.inl ⟨by rfl, ?_⟩) hHeld ?_
            rotate_left
            focus (intro w hSw; (try dsimp only at hSw); go_simp; try (with_reducible rfl))
            try simp only [Act.put, List.setIfInBounds_toArray, List.set_cons_zero, List.set_cons_succ]
            refine wpAnyL_one (i := 7) (o := ⟨some 52, _, _, _, _, _⟩) (by kernel_rfl) rfl (fun K hK => ?_)
            clear hHeld
            go_simp
            go_at_call 38
            refine (HCW.out _ (Rd.below (Rd.below HPR.out hB10) hBr.drew)).mono ?_
            rintro e w2 ⟨g, cap, rfl, hown, hB1⟩
            have hBw2 : Below w1'.heap.size w1' w2 := hBr.drew.trans hB1
            have hs2 := hBw2.size
            have HN := Lib.hid hown
            have HY2 := Lib.hid (own_stay HROW.out (fun b hb => (hBw2.block b (by have := (HROW.out.lt b hb).2; omega)).trans (hB10.block b (HROW.out.lt b hb).2)))
            clear hown hB1
            go_wp2_with fail
            refine hK.out _ _ (held3_at hXl1 hsz1 hd1 ha1 ha2 hBw2) (fun hHeld => ?_)
            clear hK K
            try simp only [Act.put, List.setIfInBounds_toArray, List.set_cons_zero, List.set_cons_succ]
            refine wpAnyL_one (i := 8) (o := ⟨some 53, _, _, _, _, _⟩) (by kernel_rfl) rfl (fun K hK => ?_)
            clear hHeld
            go_simp
            go_wp2_with fail
            refine hK.out _ _ (held3_at hXl1 hsz1 hd1 ha1 ha2 (by (repeat (first | with_reducible exact Below.refl _ _ | with_reducible assumption | with_reducible refine Below.drew ?_ | with_reducible refine Below.alloc ?_ ?_ _ | with_reducible refine Below.setCell ?_ ?_ _ | (focus omega) | (focus (simp; done)) | (focus (simp; omega)))))) (fun hHeld => ?_)
            clear hK K
            try simp only [Act.put, List.setIfInBounds_toArray, List.set_cons_zero, List.set_cons_succ]
            refine wpAnyL_one (i := 9) (o := ⟨some 54, _, _, _, _, _⟩) (by kernel_rfl) rfl (fun K hK => ?_)
            clear hHeld
            refine step_append_lies (o := ⟨some 54, _, _, _, _, _⟩) _ (by rfl) _ _ _ (by rfl) hi0 87 i0 (.agg #[.int .i64 0, .slice none 0 0]) 2 32 Tryz.underlying25 hi hz0 hz1 hz2 rfl (by omega) (.slice F.B F.ws.length F.d) F.ws.length _ (by rfl) (own_stay HY2.out (fun b hb => Below.heap_alloc _ _ b (HY2.out.lt b hb).2)) ⟨w2.heap.size, 0, none⟩ 1 1 [.int .i64 x.at_, .slice (some ⟨g, 0, none⟩) 64 cap] (by rfl) rfl (news_new _ _ _) (by simp [Value.oneCell']) (by omega) (by unfold maxLen; omega) (by have := HWL.out; omega) (by simp; omega) _ rfl ?_
            intro g3 c3 w3 ho3 hg3 hg3' hl3
            have hk3 : ∀ b, b < w2.heap.size → (Value.slice F.B F.ws.length F.d).ownBlock ≠ some b → w3.heap[b]? = w2.heap[b]? := (fun b hb hne => (hg3.block b (by simp; omega) (fun e => hne e.symm)).trans (Below.heap_alloc _ _ b hb))
            have ko3 : Blk w3 X 27 [.slice F.A F.ps.length F.c, .slice F.B F.ws.length F.d] := ((hk3 _ (by omega) HJX.out).trans (HKO1.out.below hBw2 hXl1))
            have hS3 : w3.cell? ⟨X, 1, none⟩ = some (.slice F.B F.ws.length F.d) ∧ w3.cell? ⟨wr.heap.size, 1, none⟩ = some (.int .i64 x.at_) ∧ w3.cell? ⟨wr.heap.size, 2, none⟩ = some (.slice x.p.A 64 x.p.c) := ⟨ko3.cell 1, (World.cell?_of_block (hk3 wr.heap.size (by omega) (fun e => by have := hj _ e; omega))).trans ((hBw2.cell (p := ⟨wr.heap.size, 1, none⟩) hsz1).trans ha1), (World.cell?_of_block (hk3 wr.heap.size (by omega) (fun e => by have := hj _ e; omega))).trans ((hBw2.cell (p := ⟨wr.heap.size, 2, none⟩) hsz1).trans ha2)⟩
            have hf3 := ko3.frozen 1
            have hd3 := hS3.1
            have HKO3 := Lib.hid ko3
            have HO3 := Lib.hid ho3
            have HK3 := Lib.hid hk3
            have hsg3 := hg3.size
            have HG3 := Lib.hid hg3
            clear hg3 ho3 hk3 ko3
            refine hK.out _ _ hS3 (fun hHeld => ?_)
            clear hK K
            try simp only [Act.put, List.setIfInBounds_toArray, List.set_cons_zero, List.set_cons_succ]
            refine wpAnyL_take 12 (i := 10) (oi := ⟨some 55, _, _, _, _, _⟩) (v := ?_) rfl (by kernel_rfl) (by kernel_rfl) (by kernel_rfl) (by kernel_rfl) (by kernel_rfl) (by kernel_rfl) (by kernel_rfl) (fun _ _ _ h => h) (Or.inl ⟨by rfl, ?_⟩) hHeld ?_
            rotate_left
            focus (intro w hSw; (try dsimp only at hSw); go_simp; try (with_reducible rfl))
            try simp only [Act.put, List.setIfInBounds_toArray, List.set_cons_zero, List.set_cons_succ]
            refine wpAnyL_last (i := 11) (o := ⟨none, _, _, _, _, _⟩) (by kernel_rfl) rfl (by kernel_rfl) (fun K hK => ?_)
            clear hHeld
            go_simp
            go_wp2_with fail
            refine hK.out _ _ ?_
            clear hK K
            try simp only [Act.put, List.setIfInBounds_toArray, List.set_cons_zero, List.set_cons_succ]
            refine wpAnyL_done (by kernel_rfl) ?_ _
            refine NoPanic.normal ?_
            go_wp2
            go_roundw
            case rel =>
              have hkk : ∀ (u : Value) (b : Nat), b < wr.heap.size → (Value.slice F.B F.ws.length F.d).ownBlock ≠ some b → b ≠ X → (w3.setCell ⟨X, 1, none⟩ u).heap[b]? = wr.heap[b]? := fun u b h1 h2 h3 =>
                (heap_setCell_other _ _ b _ h3).trans ((HK3.out b (by omega) h2).trans ((hBw2.block b (by omega)).trans (hB10.block b h1)))
              have hg := HN.out.lt g rfl
              simp only [World.size_drew] at hg
              have hy : w2.ownsRow hi0 5 1 (.slice (some ⟨g, 0, none⟩) 64 cap) 64 (ocl x.p.zs) := own_base HN.out (by simp; omega)
              have hsw : wr.heap.size ≤ w3.heap.size := by simp at hsg3; omega
              refine ⟨k + 1, ⟨F.A, F.ps, F.c, some ⟨g3, 0, none⟩, F.ws ++ [⟨x.at_, ⟨some ⟨g, 0, none⟩, x.p.zs, cap⟩⟩], c3⟩, by omega, by go_num, ?_, ?_, ?_, ?_, ?_, by simp; omega⟩
              · refine HO.out.push HKX.out hroom _ g3 c3 ?_ ?_ (by simp; omega) (fun b h1 h2 h3 => hkk _ b h1 h2 h3)
                · simp only [Pt.val, hpl]
                  exact own_set HO3.out X 1 _ (fun b hb e => blk_apart HKO3.out HO3.out (by decide) (by rw [hb, e]))
                · simp only [Pt.val, hpl]
                  exact own_stay hy fun b hb => by
                    have h2 : g = b := by simpa [Value.ownBlock] using hb
                    subst h2
                    exact (heap_setCell_other _ _ _ _ (show g ≠ X by omega)).trans (HK3.out g hg.2 (fun e => by have := hj _ e; omega))
              · show _ = _
                rw [HST1.out, HST2.out]
                simp [Dv.st, Wt.st]
              · have := HKO3.out.set 1 (.slice (some ⟨g3, 0, none⟩) (F.ws.length + 1) c3)
                refine Lib.hid ?_
                simpa using this
              · exact (hkk _ _ (by omega) (fun e => by have := hj _ e; omega) (by omega)).trans HKR.out
              · have hb1 : Below w.heap.size w w2 := (HBW.out.trans (hB10.mono (by omega))).trans (hBw2.mono (by omega))
                exact ((hb1.alloc (by omega) _).grown HG3.out (by simp; omega) (fun j e => by have := hj j e; omega)).setCell (p := ⟨X, 1, none⟩) (by show w.heap.size ≤ X; omega) _
            case measure => simp [intOf]; omega
          · have hst2 : doA F.st x.st = ⟨applyW F.st.secs F.st.waits, []⟩ := by simp [doA, Ac.st, hfl]
            have HST2 := Lib.hid hst2
            rw [hfl] at hc0
            have HSE := Lib.hid (fun W h => settle_all F n0 lo hi0 W h HOK2.out hFm)
            clear hst2 hfx hfl
            go_wp2_with fail
            have hB0 : Below wr.heap.size wr (wr.alloc (.cells #[.bool true, .int .i64 x.at_, .slice x.p.A x.p.zs.length x.p.c] 82)) := (Below.refl _ wr).alloc (Nat.le_refl _) _
            refine (HSE.out _ (HO.out.below hB0)).mono ?_
            rintro e w3 ⟨G, rfl, hstG, hOG, hw3⟩
            have hsz3 := hw3.size
            simp only [World.size_alloc] at hsz3
            have kx3 : Blk w3 X 27 [.slice F.A F.ps.length F.c, .slice F.B F.ws.length F.d] := (hw3.block X (by simp; omega) (.inr hroom)).trans (HKX.out.alloc _)
            have kr3 : Blk w3 (w.heap.size + 1) 27 [.slice none 0 0, .slice none 0 0] := (hw3.block _ (by simp; omega) (.inl (by omega))).trans (HKR.out.alloc _)
            have hB3 : Below w.heap.size w w3 := (HBW.out.alloc (by omega) _).trans (hw3.below (by simp; omega) (by omega))
            have g0 := kx3.frozen 0
            have g1 := kx3.frozen 1
            have x0 := kx3.cell 0
            have x1 := kx3.cell 1
            simp only [List.getElem?_cons_zero, List.getElem?_cons_succ] at x0 x1
            have HSG := Lib.hid hstG
            have HOG := Lib.hid hOG
            have HK3 := Lib.hid kx3
            have HR3 := Lib.hid kr3
            have HB3 := Lib.hid hB3
            clear hstG hOG kx3 kr3 hB3 hX0 hX1 fX0 fX1 hc0 hc1 hc2 hB0
            go_wp2
            go_roundw
            case rel =>
              have hO1 := HOG.out.setBox HK3.out hroom 0 (.slice G.A G.ps.length G.c)
              have hO2 := hO1.setBox (HK3.out.set 0 (.slice G.A G.ps.length G.c)) hroom 1 (.slice G.B G.ws.length G.d)
              refine ⟨k + 1, G, by omega, by go_num, hO2, ?_, (HK3.out.set 0 _).set 1 _, (HR3.out.other (by omega) _ _).other (by omega) _ _, (HB3.out.setCell (p := ⟨X, 0, none⟩) (by show w.heap.size ≤ X; omega) _).setCell (p := ⟨X, 1, none⟩) (by show w.heap.size ≤ X; omega) _, by simp; omega⟩
              show _ = _
              rw [HSG.out, HST1.out, HST2.out]
            case measure => simp [intOf]; omega
        · obtain rfl : k = l.length := by omega
          have hr0 := HKR.out.cell 0
          have hr1 := HKR.out.cell 1
          have fr0 := HKR.out.frozen 0
          have fr1 := HKR.out.frozen 1
          simp only [List.getElem?_cons_zero, List.getElem?_cons_succ] at hr0 hr1
          have hst := HST.out
          rw [List.take_length] at hst
          have HSTF := Lib.hid hst
          clear hst HST
          go_wp2
          refine bodyPost_ret (v := ansD F.val 0) ?_ rfl ?_
          · simp [results, Tryz.results18, go_sem, hr0, hr1]
          · have hst' : ∀ (u v : Value) (b : Nat), b ≠ w.heap.size + 1 → ((wr.setCell ⟨w.heap.size + 1, 0, none⟩ u).setCell ⟨w.heap.size + 1, 1, none⟩ v).heap[b]? = wr.heap[b]? := fun u v b hb => (heap_setCell_other _ _ b _ hb).trans (heap_setCell_other _ _ b _ hb)
            refine ⟨F, rfl, HSTF.out, ?_, (HBW.out.setCell (p := ⟨w.heap.size + 1, 0, none⟩) (Nat.le_succ _) _).setCell (p := ⟨w.heap.size + 1, 1, none⟩) (Nat.le_succ _) _, HO.out.caps⟩
            have := HO.out.lies.stays (W' := (wr.setCell ⟨w.heap.size + 1, 0, none⟩ (.slice F.A F.ps.length F.c)).setCell ⟨w.heap.size + 1, 1, none⟩ (.slice F.B F.ws.length F.d)) (by simp) (fun k h1 _ => hst' _ _ _ (by omega))
            exact this.mono (by omega)

theorem do_ok (D : Dv) (hf : D.Fits) (hok : D.st.ok) (La : Option Addr) (l : List Ac) (lc : Nat) (he : actsE D.ps.length l = 0) (hm : D.ws.length + l.length ≤ 4398046511104) (w : World) (hD : D.Lies 0 w) (hl : Acts w La l) :
    Calls Tryz.prog 18 #[D.val, .slice La l.length lc] w fun e w' => ∃ E : Dv, e = .returned (ansD E.val 0) ∧ E.st = doL D.st (l.map Ac.st) ∧ E.Lies w.heap.size w' ∧ Below w.heap.size w w' :=
  (do_okc D hf hok La l lc he hm w hD hl).mono fun _ _ ⟨E, h1, h2, h3, h4, _⟩ => ⟨E, h1, h2, h3, h4⟩

end Go.Proofs.YtfeeejigedndcaaGreat
