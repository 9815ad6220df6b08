/-
  What is read off a device on which a store stands: an object. Conditions: its pages stand, and none was met.
-/
import Derived.Test.YtfeeejigedndcaaGreatMYF
import Derived.Test.YtfeeejigedndcaaGreatMQS
import Derived.Test.YtfeeejigedndcaaGreatMQA
import Derived.LoopTactic
import Derived.BigQuiet
namespace Go.Proofs.YtfeeejigedndcaaGreat
open Go.ChangeShapes Go.WideShapes Go.ChangeAt Go.RowKit Go.Maps
set_option maxRecDepth 100000

/-- In sector k stands a page of these octets, with this next. -/
def PgAt (D : Dv) (k : Nat) (b : List Int) (nx : Int) : Prop := 2 ≤ k ∧ ∃ p, D.ps[k]? = some p ∧ p.zs.length ≤ p.c ∧ p.zs.length = 64 ∧ Octs p.zs ∧ pgAns p.zs = (b, nx, 0)
theorem page_at (m X mb : Nat) (D : Dv) (S : List Int) (k : Nat) (b : List Int) (nx : Int) (hp : PgAt D k b nx) (h8 : D.ps.length ≤ 8192) (hS : (k : Int) ∉ S) (hn : S.length ≤ 8192)
    (w : World) (h : RdAt m X mb D S w) :
    Calls Tryz.prog 86 #[.pointer (some ⟨X, 0, none⟩), .int .i64 k] w fun e w' => ∃ A c, e = .returned (.tuple #[.slice A b.length c, .int .i64 nx]) ∧ w'.ownsRow w.heap.size 5 1 (.slice A b.length c) b.length (octCells b) ∧ RdAt m X mb D (S ++ [(k : Int)]) w' ∧ Out mb (mb + 1) w.heap.size w w' := by
  obtain ⟨h2, p, hp, hc, hz, ho, hpg⟩ := hp
  exact page_ok m X mb D S k p hp h2 h8 hS hn hc hz ho b nx hpg w h

theorem take_piece (zs : List Int) (k : Nat) : zs.take (52 * k) ++ piece zs k = zs.take (52 * (k + 1)) := by
  unfold piece
  rw [Nat.mul_succ, List.take_add]
theorem rd_strs {w : World} {b off : Nat} {vs : List Value} (h : Rd w (some ⟨b, off, none⟩) vs) {k : Nat} {v : Value} (hv : vs[k]? = some v) : b < w.heap.size ∧ w.cell? ⟨b, off + k, none⟩ = some v := by
  obtain ⟨b', o', e, hb, hc⟩ := h (by rintro rfl; simp at hv)
  injection e with e
  injection e with e1 e2 _
  subst e1 e2
  exact ⟨hb, hc k v hv⟩

abbrev OTY : TypeId := 58
theorem nodup_take {S ns : List Int} {k : Nat} {z : Int} (h : (S ++ ns).Nodup) (hz : ns[k]? = some z) : z ∉ S ++ ns.take k ∧ ns.take (k + 1) = ns.take k ++ [z] := by
  have e : S ++ ns = (S ++ ns.take k) ++ (z :: ns.drop (k + 1)) := by rw [List.append_assoc, ← drop_at ns hz, List.take_append_drop]
  refine ⟨fun hm => ?_, ?_⟩
  · rw [e] at h
    exact (List.nodup_append.1 h).2.2 z hm z (by simp) rfl
  · rw [List.take_add_one, hz]
    rfl
/-- What holds between two rounds. -/
structure ObJ (w : World) (X m mb Y n1 : Nat) (D : Dv) (S : List Int) (key : ByteArray) (zs ns : List Int) (B : Option Addr) (d : Nat) (k : Nat) (A : Option Addr) (c : Nat) (W : World) : Prop where
  box : Blk W Y OTY [.string key, .slice A (zs.take (52 * k)).length c, .slice B ns.length d]
  data : W.ownsRow n1 5 1 (.slice A (zs.take (52 * k)).length c) (zs.take (52 * k)).length (octCells (zs.take (52 * k)))
  row : W.ownsRow n1 3 1 (.slice B ns.length d) ns.length (ints ns)
  rd : RdAt m X mb D (S ++ ns.take k) W
  out : Out mb (mb + 1) w.heap.size w W
  res : Blk W w.heap.size OTY [.string ⟨#[]⟩, .slice none 0 0, .slice none 0 0]
theorem ObJ.step {w : World} {X m mb Y n1 : Nat} {D : Dv} {S : List Int} {key : ByteArray} {zs ns : List Int} {B : Option Addr} {d k : Nat} {A A' : Option Addr} {c c' : Nat} {W W1 w6 : World} (h : ObJ w X m mb Y n1 D S key zs ns B d k A c W)
    (hm : mb < w.heap.size) (hn : w.heap.size < n1) (hY : n1 ≤ Y) (hX : X < w.heap.size) (hO : Out mb (mb + 1) W.heap.size W W1) (hR : RdAt m X mb D (S ++ ns.take (k + 1)) W1)
    (hown : w6.ownsRow n1 5 1 (.slice A' (zs.take (52 * (k + 1))).length c') (zs.take (52 * (k + 1))).length (octCells (zs.take (52 * (k + 1))))) (hgrow : W1.grownBy w6 (Value.slice A (zs.take (52 * k)).length c).ownBlock) :
    ObJ w X m mb Y n1 D S key zs ns B d (k + 1) A' c' (w6.setCell ⟨Y, 1, none⟩ (.slice A' (zs.take (52 * (k + 1))).length c')) := by
  have hYl := h.box.lt
  have hOs := hO.size
  have hWs := h.out.size
  have hb1 : Blk W1 Y OTY [.string key, .slice A (zs.take (52 * k)).length c, .slice B ns.length d] := (hO.block Y hYl (.inr (by omega))).trans h.box
  have hst : ∀ {base size k : Nat} {e : TypeId} {v : Value} {xs : List Value}, n1 ≤ base → W.ownsRow base e size v k xs → W1.ownsRow base e size v k xs := fun hb ho => own_stay ho fun b hb' => hO.block b (ho.lt b hb').2 (.inr (by have := (ho.lt b hb').1; omega))
  have hd1 := hst (Nat.le_refl _) h.data
  have hr1 := hst (Nat.le_refl _) h.row
  have hb6 : Blk w6 Y OTY [.string key, .slice A (zs.take (52 * k)).length c, .slice B ns.length d] := (hgrow.block Y hb1.lt (fun e => blk_apart hb1 hd1 (by decide) e.symm)).trans hb1
  have hr6 : w6.ownsRow n1 3 1 (.slice B ns.length d) ns.length (ints ns) := own_stay hr1 fun b hb => hgrow.block b (hr1.lt b hb).2 (fun e => own_apart hr1 hd1 (by decide) b hb e.symm)
  have hset : ∀ b, b ≠ Y → (w6.setCell ⟨Y, 1, none⟩ (.slice A' (zs.take (52 * (k + 1))).length c')).heap[b]? = w6.heap[b]? := fun b hb => by
    simp only [World.setCell, Array.getElem?_modify]
    rw [if_neg (Ne.symm hb)]
  have hlo : ∀ b, b < n1 → b < W1.heap.size → (w6.setCell ⟨Y, 1, none⟩ (.slice A' (zs.take (52 * (k + 1))).length c')).heap[b]? = W1.heap[b]? := fun b hb hl =>
    (hset b (by omega)).trans (hgrow.block b hl (fun e => by have := (hd1.lt b e.symm).1; omega))
  have hsz := (grownBy_setCell' w6 Y (.slice A' (zs.take (52 * (k + 1))).length c')).size
  have hgs := hgrow.size
  have hXm := hR.mX
  refine ⟨hb6.set 1 _, own_stay hown fun b hb => hset b fun e => ?_, own_stay hr6 fun b hb => hset b fun e => ?_, hR.keep (hlo X (by omega) hR.blk.lt) (hlo mb (by omega) hR.mlt) (fun b hb o v hv => ?_), h.out.trans ⟨?_, ?_, ?_, ?_, fun b hb ho => ?_⟩, ?_⟩
  · subst e
    exact blk_apart hb6 hown (by decide) hb
  · subst e
    exact blk_apart hb6 hr6 (by decide) hb
  · have hl := World.block_lt_of_cell? W1 ⟨b, o, none⟩ hv
    exact (World.cell?_of_block (hlo b (by omega) hl)).trans hv
  · exact hgrow.os.trans hO.os
  · exact hgrow.tape.trans hO.tape
  · exact hgrow.output.trans hO.output
  · simp at hsz ⊢
    omega
  · exact (hlo b (by omega) (by omega)).trans (hO.block b (by omega) ho)
  · exact (hlo _ hn (by omega)).trans ((hO.block _ (by omega) (.inr (by omega))).trans h.res)

set_option maxHeartbeats 2000000 in
theorem objectS_ok (m X mb : Nat) (D : Dv) (S : List Int) (key : ByteArray) (zs ns : List Int) (tb tf tc : Nat) (hzl : zs.length ≤ 65536) (hns : ns.length = cntN zs.length)
    (hpg : ∀ j, j < ns.length → ∃ k : Nat, ns[j]? = some (k : Int) ∧ PgAt D k (piece zs j) 0) (h8 : D.ps.length ≤ 8192) (hnd : (S ++ ns).Nodup) (hcn : (S ++ ns).length ≤ 8192) (_htc : 3 ≤ tc)
    (w : World) (h : RdAt m X mb D S w) (hT : Rd w (some ⟨tb, tf, none⟩) ([key, numT zs.length, numsT ns].map Value.string)) :
    Calls Tryz.prog 63 #[.pointer (some ⟨X, 0, none⟩), .slice (some ⟨tb, tf, none⟩) 3 tc] w fun e w' => ∃ A c B d, e = .returned (obval key A zs.length c B ns.length d) ∧ w'.ownsRow w.heap.size 5 1 (.slice A zs.length c) zs.length (octCells zs) ∧ w'.ownsRow w.heap.size 3 1 (.slice B ns.length d) ns.length (ints ns) ∧ RdAt m X mb D (S ++ ns) w' ∧ Out mb (mb + 1) w.heap.size w w' := by
  obtain ⟨i0, hi, hz0, hz1, hz2⟩ := info_parts info5
  obtain ⟨htb, t0⟩ := rd_strs hT (k := 0) rfl
  rw [Nat.add_zero] at t0
  have t1 := (rd_strs hT (k := 1) rfl).2
  have t2 := (rd_strs hT (k := 2) rfl).2
  have hnz : ∀ z ∈ ns, 0 ≤ z ∧ z ≤ 4611686018427387903 := fun z hz => by
    obtain ⟨j, hj, e⟩ := List.getElem_of_mem hz
    obtain ⟨k, hk, _, p, hp, _⟩ := hpg j hj
    rw [List.getElem?_eq_getElem hj, e] at hk
    injection hk with hk
    have := (List.getElem?_eq_some_iff.1 hp).1
    omega
  have hnl : ns.length ≤ 1261 := by unfold cntN at hns; omega
  have HN := Lib.hid fun W => numbersS_ok ns (by omega) hnz W
  have HSZ : Hid ((numsT ns).size = 8 * ns.length) := numsT_size ns
  have HNUM := Lib.hid fun W => numberS_ok (numT zs.length) zs.length (by rw [numT_size]; omega) ((numT_back zs.length (by omega) (by omega)).1 (by omega)) W
  have HCNT : Hid (∀ w, Calls Tryz.prog 42 #[.int .i64 (zs.length : Int)] w fun e w' => e = .returned (.int .i64 (ns.length : Nat)) ∧ w' = w) := Lib.hid fun w => (count_any (zs.length : Int) (by omega) w).mono fun _ _ h => ⟨by rw [hns, ← cntI_nat]; exact h.1, h.2.symm⟩
  have H := Lib.hid h
  have HPG := Lib.hid hpg
  have HNS := Lib.hid hns
  have HND := Lib.hid hnd
  have HCN := Lib.hid hcn
  clear h hpg hnd hT hnz hns hcn
  obtain ⟨wd, ht⟩ : ∃ t, numT zs.length = t := ⟨_, rfl⟩
  obtain ⟨nd, hnt⟩ : ∃ t, numsT ns = t := ⟨_, rfl⟩
  rw [ht] at t1 HNUM
  rw [hnt] at t2 HN HSZ
  clear ht hnt
  go_enter Tryz.func63, Tryz.ntmps63
  go_wp2_with fail
  obtain ⟨w1, hw1⟩ : ∃ w1, w.alloc (.cells #[.string ⟨#[]⟩, .slice none 0 0, .slice none 0 0] OTY) = w1 := ⟨_, rfl⟩
  rw [hw1]
  have hB1 : Below w.heap.size w w1 := hw1 ▸ (Below.refl _ w).alloc (Nat.le_refl _) _
  have kr : Blk w1 w.heap.size OTY [.string ⟨#[]⟩, .slice none 0 0, .slice none 0 0] := hw1 ▸ Blk.new w [.string ⟨#[]⟩, .slice none 0 0, .slice none 0 0] OTY
  have H1 := Lib.hid (H.out.below hB1)
  have hml := H.out.mlt
  have hXl := H.out.blk.lt
  have hs1 : w.heap.size < w1.heap.size := kr.lt
  obtain ⟨n1, hn1⟩ : ∃ n, w1.heap.size = n := ⟨_, rfl⟩
  have hS0 : Hid (∀ W', Below w1.heap.size w1 W' → W'.cell? ⟨tb, tf, none⟩ = some (.string key) ∧ W'.cell? ⟨tb, tf + 2, none⟩ = some (.string nd)) := Lib.hid fun W' hB =>
    ⟨(hB.cell (p := ⟨tb, tf, none⟩) (Nat.lt_trans htb hs1)).trans ((hB1.cell (p := ⟨tb, tf, none⟩) htb).trans t0), (hB.cell (p := ⟨tb, tf + 2, none⟩) (Nat.lt_trans htb hs1)).trans ((hB1.cell (p := ⟨tb, tf + 2, none⟩) htb).trans t2)⟩
  have t11 := (hB1.cell (p := ⟨tb, tf + 1, none⟩) htb).trans t1
  clear t0 t1 t2 hw1 H
  refine wp_region_noPanic ?_
  refine wp_region_last 9 (fun W' => W'.cell? ⟨tb, tf, none⟩ = some (.string key) ∧ W'.cell? ⟨tb, tf + 2, none⟩ = some (.string nd)) (by kernel_rfl) (hS0.out _ (Below.refl _ _).drew) (fun hHeld => ?_)
  refine wpAnyL_take 16 (i := 0) (oi := ⟨some 11, _, _, _, _, _⟩) (v := ?_) rfl (by kernel_rfl) (by kernel_rfl) (by kernel_rfl) (by kernel_rfl) (by kernel_rfl) (by kernel_rfl) (by kernel_rfl) (fun _ _ _ h => h) (Or.inl ⟨by rfl, ?_⟩) hHeld ?_
  rotate_left
  focus (intro w hSw; (try dsimp only at hSw); go_simp; try (with_reducible rfl))
  try simp only [Act.put, List.setIfInBounds_toArray, List.set_cons_zero, List.set_cons_succ]
  refine wpAnyL_take 16 (i := 1) (oi := ⟨some 12, _, _, _, _, _⟩) (v := ?_) rfl (by kernel_rfl) (by kernel_rfl) (by kernel_rfl) (by kernel_rfl) (by kernel_rfl) (by kernel_rfl) (by kernel_rfl) (fun _ _ _ h => h) (Or.inl ⟨by rfl, ?_⟩) hHeld ?_
  rotate_left
  focus (intro w hSw; (try dsimp only at hSw); go_simp; try (with_reducible rfl))
  try simp only [Act.put, List.setIfInBounds_toArray, List.set_cons_zero, List.set_cons_succ]
  refine wpAnyL_take 16 (i := 2) (oi := ⟨some 13, _, _, _, _, _⟩) (v := ?_) rfl (by kernel_rfl) (by kernel_rfl) (by kernel_rfl) (by kernel_rfl) (by kernel_rfl) (by kernel_rfl) (by kernel_rfl) (fun _ _ _ h => h) (Or.inl ⟨by rfl, ?_⟩) hHeld ?_
  rotate_left
  focus (intro w hSw; (try dsimp only at hSw); go_simp; try (with_reducible rfl))
  try simp only [Act.put, List.setIfInBounds_toArray, List.set_cons_zero, List.set_cons_succ]
  refine wpAnyL_take 16 (i := 3) (oi := ⟨some 14, _, _, _, _, _⟩) (v := ?_) rfl (by kernel_rfl) (by kernel_rfl) (by kernel_rfl) (by kernel_rfl) (by kernel_rfl) (by kernel_rfl) (by kernel_rfl) (fun _ _ _ h => h) (Or.inl ⟨by rfl, ?_⟩) hHeld ?_
  rotate_left
  focus (intro w hSw; (try dsimp only at hSw); go_simp; try (with_reducible rfl))
  try simp only [Act.put, List.setIfInBounds_toArray, List.set_cons_zero, List.set_cons_succ]
  refine wpAnyL_take 16 (i := 4) (oi := ⟨some 15, _, _, _, _, _⟩) (v := ?_) rfl (by kernel_rfl) (by kernel_rfl) (by kernel_rfl) (by kernel_rfl) (by kernel_rfl) (by kernel_rfl) (by kernel_rfl) (fun _ _ _ h => h) (Or.inl ⟨by rfl, ?_⟩) hHeld ?_
  rotate_left
  focus (intro w hSw; (try dsimp only at hSw); go_simp; try (with_reducible rfl))
  try simp only [Act.put, List.setIfInBounds_toArray, List.set_cons_zero, List.set_cons_succ]
  refine wpAnyL_take 16 (i := 5) (oi := ⟨some 16, _, _, _, _, _⟩) (v := ?_) rfl (by kernel_rfl) (by kernel_rfl) (by kernel_rfl) (by kernel_rfl) (by kernel_rfl) (by kernel_rfl) (by kernel_rfl) (fun _ _ _ h => h) (Or.inl ⟨by rfl, ?_⟩) hHeld ?_
  rotate_left
  focus (intro w hSw; (try dsimp only at hSw); go_simp; try (with_reducible rfl))
  try simp only [Act.put, List.setIfInBounds_toArray, List.set_cons_zero, List.set_cons_succ]
  clear hHeld
  refine wpAnyL_facts 16 3 1 [(6, 17), (7, 18), (8, 5)] (fun s v w => match s with
    | 17 => ∃ B e, v = .slice B ns.length e ∧ w.ownsRow n1 3 1 (.slice B ns.length e) ns.length (ints ns)
    | 18 => ∃ B e, v = obval key none 0 0 B ns.length e ∧ w.ownsRow n1 3 1 (.slice B ns.length e) ns.length (ints ns)
    | 5 => ∃ Y, v = .pointer (some ⟨Y, 0, none⟩) ∧ n1 ≤ Y ∧ Blk w Y OTY [.string ByteArray.empty, .slice none 0 0, .slice none 0 0]
    | _ => True) (fun w w' => Below w.heap.size w w') (by kernel_rfl) (by kernel_rfl) (fun w w' h h' => h.trans (h'.mono h.size)) ⟨?_, ?_, ?_, trivial⟩ (fun W h => hS0.out W ((Below.refl _ _).drew.trans h)) ⟨?_, ?_, ?_, trivial⟩ ?_
  focus
    intro v w w' h hB
    exact (by obtain ⟨B, e, e1, ho⟩ := h; exact ⟨B, e, e1, own_below ho hB (Nat.le_refl _)⟩)
  focus
    intro v w w' h hB
    exact (by obtain ⟨B, e, e1, ho⟩ := h; exact ⟨B, e, e1, own_below ho hB (Nat.le_refl _)⟩)
  focus
    intro v w w' h hB
    exact (by obtain ⟨Y, e, hY, hb⟩ := h; exact ⟨Y, e, hY, hb.below hB hb.lt⟩)
  focus
    intro vs w2 hBf hFf o ho K hK
    obtain rfl : (⟨some 17, _, _, _, _, _⟩ : Oper) = o := Option.some.inj ho
    clear ho
    (try simp only [fillL, List.foldl_cons, List.foldl_nil, Act.put, List.setIfInBounds_toArray, List.set_cons_zero, List.set_cons_succ] at hK ⊢)
    go_simp
    refine (HN.out w2).mono ?_
    rintro e w3 ⟨v, rfl, ho, hB3⟩
    obtain ⟨B, d, rfl, _, _, _, _⟩ := own_any ho
    refine hK.out _ _ ⟨⟨B, d, rfl, own_base ho (by have := hBf.size; simp at this; omega)⟩, hB3⟩
  focus
    intro vs w2 hBf hFf o ho K hK
    obtain rfl : (⟨some 18, _, _, _, _, _⟩ : Oper) = o := Option.some.inj ho
    clear ho
    (try simp only [fillL, List.foldl_cons, List.foldl_nil, Act.put, List.setIfInBounds_toArray, List.set_cons_zero, List.set_cons_succ] at hK ⊢)
    obtain ⟨B, d, e17, ho⟩ := (hFf (6, 17) (by simp) (by kernel_rfl))
    simp only [e17] at hK ⊢
    go_simp
    refine hK.out _ _ ⟨⟨B, d, rfl, ho⟩, Below.refl _ _⟩
  focus
    intro vs w2 hBf hFf o ho K hK
    obtain rfl : (⟨some 5, _, _, _, _, _⟩ : Oper) = o := Option.some.inj ho
    clear ho
    (try simp only [fillL, List.foldl_cons, List.foldl_nil, Act.put, List.setIfInBounds_toArray, List.set_cons_zero, List.set_cons_succ] at hK ⊢)
    go_simp
    refine hK.out _ _ ⟨⟨_, rfl, by have := hBf.size; simp at this; omega, Blk.new w2 [.string ByteArray.empty, .slice none 0 0, .slice none 0 0] OTY⟩, (Below.refl _ _).alloc (Nat.le_refl _) _⟩
  intro vs w2 hBf hFf
  (try simp only [fillL, List.foldl_cons, List.foldl_nil, Act.put, List.setIfInBounds_toArray, List.set_cons_zero, List.set_cons_succ])
  obtain ⟨B, d, e18, ho⟩ := (hFf (7, 18) (by simp))
  obtain ⟨Y, e5, hY, hKY⟩ := (hFf (8, 5) (by simp))
  simp only [e18, e5]
  have x0 := hKY.cell 0
  have x1 := hKY.cell 1
  have x2 := hKY.cell 2
  have q0 := hKY.frozen 0
  have q1 := hKY.frozen 1
  have q2 := hKY.frozen 2
  simp only [List.getElem?_cons_zero, List.getElem?_cons_succ] at x0 x1 x2
  refine wpAnyL_last (i := 9) (o := ⟨none, _, _, _, _, _⟩) (by kernel_rfl) rfl (by kernel_rfl) (fun K hK => ?_)
  go_simp
  refine hK.out _ _ ?_
  clear hK K
  try simp only [Act.put, List.setIfInBounds_toArray, List.set_cons_zero, List.set_cons_succ]
  refine wpAnyL_done (by kernel_rfl) ?_ _
  refine NoPanic.normal ?_
  obtain ⟨w3, hw3⟩ : ∃ w3, ((w2.setCell ⟨Y, 0, none⟩ (.string key)).setCell ⟨Y, 1, none⟩ (.slice none 0 0)).setCell ⟨Y, 2, none⟩ (.slice B ns.length d) = w3 := ⟨_, rfl⟩
  rw [hw3]
  have k3 : Blk w3 Y OTY [.string key, .slice none 0 0, .slice B ns.length d] := hw3 ▸ ((hKY.set 0 (.string key)).set 1 (.slice none 0 0)).set 2 (.slice B ns.length d)
  have hB13 : Below w1.heap.size w1 w3 := hw3 ▸ ((((Below.refl w1.heap.size w1).drew.trans hBf).setCell (p := ⟨Y, 0, none⟩) (by simp; omega) _).setCell (p := ⟨Y, 1, none⟩) (by simp; omega) _).setCell (p := ⟨Y, 2, none⟩) (by simp; omega) _
  have t3 := (hB13.cell (p := ⟨tb, tf + 1, none⟩) (Nat.lt_trans htb hs1)).trans t11
  have ho3 : w3.ownsRow n1 3 1 (.slice B ns.length d) ns.length (ints ns) := own_stay ho fun b hb => by
    have hby : Y ≠ b := fun e => by
      subst e
      exact blk_apart hKY ho (by decide) hb
    rw [← hw3]
    simp only [World.setCell, Array.getElem?_modify]
    simp [hby]
  have HB13 := Lib.hid hB13
  have H3 := Lib.hid (H1.out.below hB13)
  have hs3 := hB13.size
  have HK3 := Lib.hid k3
  have HO3 := Lib.hid ho3
  clear x0 x1 x2 q0 q1 q2 hw3 ho3 hKY ho hFf e18 e5 hBf hS0 t11 k3 hB13 H1 HN
  go_wp2_with fail
  refine (HNUM.out w3).mono ?_
  rintro e w4 ⟨rfl, hB4⟩
  have k4 := HK3.out.below hB4 HK3.out.lt
  have x2 := k4.cell 2
  simp only [List.getElem?_cons_zero, List.getElem?_cons_succ] at x2
  have hs4 := hB4.size
  go_wp2_with fail
  go_big_quiet ((go_at_call 42; exact Calls.quiet_of_same (HCNT.out _)))
  go_wp2_with fail
  have HJ0 : Hid (ObJ w X m mb Y n1 D S key zs ns B d 0 none 0 (w4.drewN nq)) := Lib.hid ⟨k4.below (below_drewN _ _ _) k4.lt, by rw [Nat.mul_zero]; exact own_none _ _ _, own_below (own_below HO3.out hB4 (Nat.le_refl _)) (below_drewN _ _ _) (Nat.le_refl _), by rw [List.take_zero, List.append_nil]; exact (H3.out.below hB4).below (below_drewN _ _ _), Out.of_below ((hB1.trans ((HB13.out.trans (hB4.mono hs3)).mono hB1.size)).trans (below_drewN _ _ _)), kr.below ((HB13.out.trans (hB4.mono hs3)).trans (below_drewN _ _ _)) kr.lt⟩
  clear k4 x2 hB4 kr t3 HB13 H3 HK3 HO3 HNUM HCNT HSZ
  go_loopw [33] (fun i wr => ∃ k A c, k ≤ ns.length ∧ i = .int .i64 k ∧ Hid (ObJ w X m mb Y n1 D S key zs ns B d k A c wr)) (fun i _ => ns.length - (intOf i).toNat)
  case atStart => exact ⟨0, none, 0, Nat.zero_le _, rfl, HJ0⟩
  case round =>
    obtain ⟨k, A, c, hk, rfl, HJ⟩ := hrel
    clear HJ0
    by_cases hlt : k < ns.length
    · obtain ⟨kk, hkk, hpga⟩ := HPG.out k hlt
      have hrI : RdI wr B ns := RdI.of_row HJ.out.row
      obtain ⟨rb, ro, z, rfl, hrb, hrz, hz⟩ := hrI.at_ hlt
      have hzk : z = kk := by
        have := hz.out
        rw [hkk] at this
        injection this with this
        exact this.symm
      subst hzk
      obtain ⟨hnot, htk⟩ := nodup_take HND.out hkk
      have hlS : (S ++ ns.take k).length ≤ 8192 := by
        have h1 := HCN.out
        rw [List.length_append] at h1 ⊢
        rw [List.length_take]
        omega
      have HPAGE := Lib.hid (page_at m X mb D (S ++ ns.take k) kk (piece zs k) 0 hpga h8 hnot hlS wr HJ.out.rd)
      rw [List.append_assoc, ← htk] at HPAGE
      have h52 : 52 * k < zs.length := by have := HNS.out; unfold cntN at this; omega
      have hlen : (zs.take (52 * k)).length = 52 * k := by rw [List.length_take]; omega
      have hpl := piece_length zs k
      have HTK := Lib.hid (take_piece zs k)
      have hwb := HJ.out.out.size
      have hYl := HJ.out.box.lt
      have hn1w : n1 ≤ wr.heap.size := by omega
      clear hrI hz hkk hpga hnot htk hlS
      go_wp2_with fail
      refine HPAGE.out.mono ?_
      rintro e w5 ⟨A5, c5, rfl, hown5, hR5, hO5⟩
      have k5 : Blk w5 Y OTY [.string key, .slice A (zs.take (52 * k)).length c, .slice (some ⟨rb, ro, none⟩) ns.length d] := (hO5.block Y hYl (.inr (by omega))).trans HJ.out.box
      have hd5 : w5.ownsRow n1 5 1 (.slice A (zs.take (52 * k)).length c) (zs.take (52 * k)).length (octCells (zs.take (52 * k))) := own_stay HJ.out.data fun b hb' => hO5.block b (HJ.out.data.lt b hb').2 (.inr (by have := (HJ.out.data.lt b hb').1; omega))
      obtain ⟨hcc5, hRd5⟩ := RdF.of_own hown5
      have hA5 : A5 = none → c5 = 0 := fun e => by
        obtain ⟨A9, c9, e9, _, h9, _⟩ := own_any hown5
        injection e9 with e1 _ e2
        subst e1 e2
        exact h9 e
      have hs5 := hO5.size
      have y1 := k5.cell 1
      simp only [List.getElem?_cons_zero, List.getElem?_cons_succ] at y1
      have HR5 := Lib.hid hR5
      have HO5 := Lib.hid hO5
      have HD5 := Lib.hid hd5
      have HK5 := Lib.hid k5
      have HRD5 := Lib.hid hcc5
      clear hown5 hR5 hO5 hd5 k5 hcc5 hRd5 HPAGE
      rw [hlen] at y1
      obtain ⟨pl, hple⟩ : ∃ n, (piece zs k).length = n := ⟨_, rfl⟩
      rw [hple] at hpl ⊢
      have h9 : wrap64 ((zs.length : Int) - ((52 * k : Nat) : Int)) = (zs.length : Int) - ((52 * k : Nat) : Int) := IntWalk.wrap64_in _ (by omega)
      have hmin : min (52 : Int) ((zs.length : Int) - 52 * (k : Int)) = (pl : Int) := by omega
      have hpl5 : pl ≤ 52 := by omega
      have hcp : (octCells (piece zs k)).length = pl := by rw [octCells_length, hple]
      have HCP := Lib.hid hcp
      have HLEN := Lib.hid hlen
      clear hpl hcp hlen
      have HD6 : Hid (w5.ownsRow n1 5 1 (.slice A (52 * k) c) (52 * k) (octCells (zs.take (52 * k)))) := by
        have := HD5.out
        rw [HLEN.out] at this
        exact this
      go_wp2_with (at_builtin; refine wpList_append_rd_wide (by rfl) _ _ 46 (by rfl) n1 5 i0 (.int .u8 0) 1 Tryz.underlying46 hi hz0 hz1 hz2 rfl (.slice A (52 * k) c) (52 * k) (octCells (zs.take (52 * k))) (by rfl) HD6.out A5 pl c5 (octCells (piece zs k)) (by rfl) HCP.out HRD5.out hA5 (octCells_one _) (by unfold maxLen; omega) (by omega) (Nat.le_trans hn1w hs5) ?_; intro v6 w6 hown6 hgrow6; obtain ⟨A6, c6, rfl, _, _, _, _⟩ := own_any hown6; have k6 : Blk w6 Y OTY [.string key, .slice A (zs.take (52 * k)).length c, .slice (some ⟨rb, ro, none⟩) ns.length d] := (hgrow6.block Y HK5.out.lt (fun e => blk_apart HK5.out HD6.out (by decide) e.symm)).trans HK5.out; have z1 := k6.cell 1; have f1 := k6.frozen 1; have HO6 := Lib.hid hown6; have HG6 := Lib.hid hgrow6; clear hown6 hgrow6 k6)
      have htl : (zs.take (52 * (k + 1))).length = 52 * k + pl := by rw [← HTK.out, List.length_append, HLEN.out, hple]
      have hcl : octCells (zs.take (52 * k)) ++ octCells (piece zs k) = octCells (zs.take (52 * (k + 1))) := by rw [← HTK.out]; simp [octCells]
      have hown := HO6.out
      rw [hcl, ← htl] at hown
      have hgrow := HG6.out
      rw [← HLEN.out] at hgrow
      have hst := Lib.hid (ObJ.step HJ.out hml (by omega) hY hXl HO5.out HR5.out hown hgrow)
      rw [htl] at hst
      clear hown hgrow hcl htl HO6 HG6 HD6 HD5 HK5
      go_wp2_with fail
      go_round
      case rel => exact ⟨k + 1, A6, c6, by omega, by go_num, hst⟩
      case measure => simp [intOf]; omega
    · obtain rfl : k = ns.length := by omega
      have hx := HJ.out
      have htk : zs.take (52 * ns.length) = zs := List.take_of_length_le (by have := HNS.out; unfold cntN at this; omega)
      have hnk : ns.take ns.length = ns := List.take_length
      obtain ⟨h1, h2, h3, h4, h5, h6⟩ := hx
      rw [htk] at h1 h2
      rw [hnk] at h4
      have y0 := h1.cell 0
      have y1 := h1.cell 1
      have y2 := h1.cell 2
      have z0 := h6.cell 0
      have z1 := h6.cell 1
      have z2 := h6.cell 2
      have f0 := h6.frozen 0
      have f1 := h6.frozen 1
      have f2 := h6.frozen 2
      simp only [List.getElem?_cons_zero, List.getElem?_cons_succ] at y0 y1 y2 z0 z1 z2
      have H2 := Lib.hid h2
      have H3 := Lib.hid h3
      have H4 := Lib.hid h4
      have H5 := Lib.hid h5
      have H6 := Lib.hid h6
      clear h1 h2 h3 h4 h5 h6 HJ
      go_wp2
      refine bodyPost_ret (v := obval key A zs.length c B ns.length d) (by simp [results, Tryz.results63, go_sem, z0, z1, z2]) rfl ?_
      obtain ⟨wf, hwf⟩ : ∃ wf, ((wr.setCell ⟨w.heap.size, 0, none⟩ (.string key)).setCell ⟨w.heap.size, 1, none⟩ (.slice A zs.length c)).setCell ⟨w.heap.size, 2, none⟩ (.slice B ns.length d) = wf := ⟨_, rfl⟩
      rw [hwf]
      have hBf : Below w.heap.size wr wf := hwf ▸ (((Below.refl _ wr).setCell (p := ⟨w.heap.size, 0, none⟩) (Nat.le_refl _) _).setCell (p := ⟨w.heap.size, 1, none⟩) (Nat.le_refl _) _).setCell (p := ⟨w.heap.size, 2, none⟩) (Nat.le_refl _) _
      have hoth : ∀ b, b ≠ w.heap.size → wf.heap[b]? = wr.heap[b]? := fun b hb => by
        rw [← hwf]
        simp only [World.setCell, Array.getElem?_modify]
        simp [Ne.symm hb]
      have hst : ∀ {size k : Nat} {e : TypeId} {v : Value} {xs : List Value}, wr.ownsRow n1 e size v k xs → wf.ownsRow w.heap.size e size v k xs := fun ho => own_base (own_stay ho fun b hb => hoth b (by have := (ho.lt b hb).1; omega)) (by omega)
      have hmX := H4.out.mX
      exact ⟨A, c, B, d, rfl, hst H2.out, hst H3.out, H4.out.keep (hoth _ (by omega)) (hoth _ (by omega)) (fun b hb o v hv => (World.cell?_of_block (hoth b (by omega))).trans hv), H5.out.trans (Out.of_below hBf)⟩

end Go.Proofs.YtfeeejigedndcaaGreat
