/-
  newWriter: a writer that writes on no sector of the store's. Conditions: the store may be.
-/
import Derived.Test.YtfeeejigedndcaaGreatMQG
import Derived.Test.YtfeeejigedndcaaGreatMSM
import Derived.StringKeys
namespace Go.Proofs.YtfeeejigedndcaaGreat
open Go.ChangeShapes Go.WideShapes Go.ChangeAt Go.RowKit Go.Maps
set_option maxRecDepth 100000

/-- A datum that is a map of values. -/
abbrev Dv2 := DataW Value
/-- Any value reads as itself. -/
def heldR (v : Value) : Option (DataW Value × List MemPlace) := some (.held v, [])
theorem keyedS : Keyed Tryz.prog 9 := string_keyed Tryz.underlying9
theorem key_str {s : ByteArray} (h : s.size ≤ maxLen) : keyOf Tryz.prog 9 (.string s) = some (.string s.data.toList) := WideMaps.keyOf_string_mk Tryz.underlying9 h
abbrev ob0 : Value := obval ⟨#[]⟩ none 0 0 none 0 0
/-- The map has these objects by their keys. -/
def MapIs (D : Dv2) (os : List Ob) : Prop := IsMap D ∧ (∀ k : ByteArray, Maps.has D (.string k.data.toList) = true ↔ ∃ o ∈ os, o.key = k) ∧ (∀ o ∈ os, D.atKey (.string o.key.data.toList) (.held ob0) = .held o.val) ∧ ∀ k : ByteArray, (∀ o ∈ os, o.key ≠ k) → D.atKey (.string k.data.toList) (.held ob0) = .held ob0
theorem ba_inj {a b : ByteArray} (h : a.data.toList = b.data.toList) : a = b := by
  obtain ⟨⟨a⟩⟩ := a
  obtain ⟨⟨b⟩⟩ := b
  simp at h
  rw [h]
theorem MapIs.empty : MapIs (.map []) [] := ⟨isMap_empty, fun k => by simp [Maps.has], (fun o ho => nomatch ho), fun k _ => rfl⟩
theorem MapIs.put {D : Dv2} {os : List Ob} (h : MapIs D os) (x : Ob) (hx : ∀ o ∈ os, o.key ≠ x.key) : MapIs (D.put (.string x.key.data.toList) (.held x.val)) (os ++ [x]) := by
  refine ⟨h.1.put _ _, fun k => ?_, fun o ho => ?_, fun k hk => ?_⟩
  · by_cases e : k = x.key
    · subst e
      rw [has_put_same h.1 (show WideAt.IsKeyLit (.string x.key.data.toList) from trivial)]
      simp
    · rw [has_put_other (by intro h'; injection h' with h'; exact e (ba_inj h')), h.2.1 k]
      constructor
      · rintro ⟨o, ho, hk⟩
        exact ⟨o, by simp [ho], hk⟩
      · rintro ⟨o, ho, hk⟩
        rcases List.mem_append.1 ho with ho | ho
        · exact ⟨o, ho, hk⟩
        · simp at ho
          subst ho
          exact absurd hk.symm e
  · rcases List.mem_append.1 ho with ho | ho
    · rw [atKey_put_other (by intro h'; injection h' with h'; exact hx o ho (ba_inj h'))]
      exact h.2.2.1 o ho
    · simp at ho
      subst ho
      exact atKey_put_same h.1 (show WideAt.IsKeyLit (.string o.key.data.toList) from trivial) _ _
  · have hkx := hk x (by simp)
    rw [atKey_put_other (by intro h'; injection h' with h'; exact hkx (ba_inj h').symm)]
    exact h.2.2.2 k fun o ho => hk o (by simp [ho])
/-- What the map tells of a key. -/
theorem map_look {w : World} {mb n : Nat} {D : Dv2} {os : List Ob} (h : w.ownsMap Tryz.prog 9 heldR mb n D) (hM : MapIs D os) {k : ByteArray} (hk : k.size ≤ maxLen) :
    ∃ v hs, (Instr.lookup 109 (.map (some mb)) (.string k) true).run Tryz.prog w = .ok (.tuple #[v, .bool hs]) w ∧ ((hs = true ∧ ∃ o ∈ os, o.key = k ∧ v = o.val) ∨ (hs = false ∧ (∀ o ∈ os, o.key ≠ k) ∧ v = ob0)) := by
  have hz : (zeroValue 58).run Tryz.prog w = .ok ob0 w := by kernel_rfl
  obtain ⟨v, ps, hrun, hv⟩ := h.look_ok keyedS Tryz.underlying109 hz (zd := .held ob0) (zp := []) rfl (key_str hk)
  have hv' : DataW.held v = D.atKey (.string k.data.toList) (.held ob0) := by
    have := congrArg (Option.map Prod.fst) hv
    simpa [heldR] using this
  refine ⟨v, _, hrun, ?_⟩
  rcases hb : Maps.has D (.string k.data.toList) with _ | _
  · have hno : ∀ o ∈ os, o.key ≠ k := fun o ho e => by
      have := (hM.2.1 k).2 ⟨o, ho, e⟩
      rw [hb] at this
      cases this
    refine .inr ⟨rfl, hno, ?_⟩
    rw [hM.2.2.2 k hno] at hv'
    injection hv'
  · obtain ⟨o, ho, e⟩ := (hM.2.1 k).1 hb
    refine .inl ⟨rfl, o, ho, e, ?_⟩
    subst e
    rw [hM.2.2.1 o ho] at hv'
    injection hv'
theorem own_map_block {w w' : World} {k : TypeId} {b n : Nat} {D : Dv2} (h : w.ownsMap Tryz.prog k heldR b n D) (e : w'.heap[b]? = w.heap[b]?) : w'.ownsMap Tryz.prog k heldR b n D := by
  obtain ⟨es, clock, hb, r⟩ := h
  exact ⟨es, clock, e.trans hb, r⟩
theorem RdU.belowX {X : Nat} {w w' : World} {A : Option Addr} {vs : List Value} (h : RdU X w A vs) (hB : Below X w w') : RdU X w' A vs := fun hv => by
  obtain ⟨b, off, e, hb, hc⟩ := h hv
  exact ⟨b, off, e, hb, fun j u hu => (hB.cell (p := ⟨b, off + j, none⟩) hb).trans (hc j u hu)⟩
theorem RdU.mono {m m' : Nat} {w : World} {A : Option Addr} {vs : List Value} (h : RdU m w A vs) (hm : m ≤ m') : RdU m' w A vs := fun hv => by
  obtain ⟨b, off, e, hb, hc⟩ := h hv
  exact ⟨b, off, e, by omega, hc⟩

/-- A writer at X. -/
structure WrAt (base X : Nat) (W : World) (F : Option Addr) (fr : List Int) (d mb n : Nat) (D : Dv2) (os : List Ob) (v : Value) (l : List Ac) : Prop where
  pl : Pl X 1 WT [.slice F fr.length d, v, .map (some mb)] v W l
  free : RdU X W F (ints fr)
  fd : fr.length ≤ d
  fn : F = none → d = 0
  mlt : mb < X
  mp : W.ownsMap Tryz.prog 9 heldR mb n D
  mis : MapIs D os
  bX : base ≤ X

theorem own_none' (w : World) (base size : Nat) (t : TypeId) : w.ownsRow base t size (.slice none 0 0) 0 [] := ⟨by simp, .inl ⟨rfl, rfl⟩⟩

set_option maxHeartbeats 1000000 in
theorem newWriter_any (s : St) (hf : s.Fits) (hch : chk s.dev.ps.length (flatNs s.os ++ s.is) = 0) (htot : (flatNs s.os ++ s.is).length ≤ 17592186044416) (hks : s.os.Pairwise fun a b => a.key ≠ b.key) (w : World) (hL : s.Lies 0 w) :
    Calls Tryz.prog 52 #[s.val] w fun e w' => ∃ X F d mb n D, e = .returned (.pointer (some ⟨X, 0, none⟩)) ∧ WrAt w.heap.size X w' F (freeL s.dev.ps.length (flatNs s.os ++ s.is)) d mb n D s.os (.slice none 0 0) [] ∧ Below w.heap.size w w' := by
  have HKS := Lib.hid hks
  have HF := Lib.hid hf
  have HL := Lib.hid hL
  have hn := hf.n
  have hn2 := hf.ix
  clear hf hL hks
  obtain ⟨⟨A, ps, c, B, ws, d⟩, ⟨t, f, o⟩, O, os, oc, I, is, ic⟩ := s
  dsimp only [St.val] at *
  obtain ⟨w1, hw1⟩ : ∃ w1, w.alloc (.cells #[.slice A ps.length c, .slice B ws.length d, .int .i64 t, .int .i64 f, .int .i64 o, .slice O os.length oc, .slice I is.length ic] 32) = w1 := ⟨_, rfl⟩
  have kx : Blk w1 w.heap.size 32 [.slice A ps.length c, .slice B ws.length d, .int .i64 t, .int .i64 f, .int .i64 o, .slice O os.length oc, .slice I is.length ic] := hw1 ▸ Blk.new w _ _
  have hB1 : Below w.heap.size w w1 := hw1 ▸ (Below.refl _ w).alloc (Nat.le_refl _) _
  have HL1 := Lib.hid (HL.out.below hB1)
  have HK := Lib.hid kx
  have HW1 := Lib.hid hw1
  have hlt1 := kx.lt
  have hil : is.length ≤ 17592186044416 := by omega
  have hnl : ∀ o ∈ os, o.ns.length ≤ 17592186044416 := fun o ho => (HF.out.os o ho).n
  have HCL : Hid (∀ W, Below w1.heap.size w1 W → ∀ W', W' = W.alloc (.cells #[.slice A ps.length c, .slice B ws.length d, .int .i64 t, .int .i64 f, .int .i64 o, .slice O os.length oc, .slice I is.length ic] 32) → Calls Tryz.prog 44 #[.func (.func 67) #[] #[.pointer (some ⟨W.heap.size, 0, none⟩)]] W' fun e w' => ∃ v, e = .returned v ∧ w'.ownsRow W'.heap.size 3 1 v (flatNs os ++ is).length (ints (flatNs os ++ is)) ∧ Below W'.heap.size W' w') := Lib.hid fun W hB W' hW' => by
    have hk : Blk W' W.heap.size 32 [.slice A ps.length c, .slice B ws.length d, .int .i64 t, .int .i64 f, .int .i64 o, .slice O os.length oc, .slice I is.length ic] := hW' ▸ Blk.new W _ _
    obtain ⟨_, _, _, _, _, h5, h6⟩ := blk7 hk
    have hL' := (HL1.out.below hB).below (W' := W') (hW' ▸ (Below.refl _ W).alloc (Nat.le_refl _) _)
    have hsz : W.heap.size < W'.heap.size := hk.lt
    exact collect_any W'.heap.size W.heap.size O os oc I is ic hn hnl hil (by omega) W' (Nat.le_refl _) ⟨hsz, h5, h6, RdU.of hL'.arr.1 (Nat.le_refl _), fun o ho => RdU.of (hL'.at_ o ho).1 (Nat.le_refl _), RdU.of hL'.ix.1 (Nat.le_refl _)⟩
  have HTOT := Lib.hid htot
  have hS0 : Hid (∀ W, Below w1.heap.size w1 W → W.cell? ⟨w.heap.size, 0, none⟩ = some (.slice A ps.length c) ∧ W.cell? ⟨w.heap.size, 1, none⟩ = some (.slice B ws.length d) ∧ W.cell? ⟨w.heap.size, 2, none⟩ = some (.int .i64 t) ∧ W.cell? ⟨w.heap.size, 3, none⟩ = some (.int .i64 f) ∧ W.cell? ⟨w.heap.size, 4, none⟩ = some (.int .i64 o) ∧ W.cell? ⟨w.heap.size, 5, none⟩ = some (.slice O os.length oc) ∧ W.cell? ⟨w.heap.size, 6, none⟩ = some (.slice I is.length ic)) := Lib.hid fun W hB => blk7 (HK.out.below hB HK.out.lt)
  obtain ⟨fr, hfr⟩ : ∃ fr, freeL ps.length (flatNs os ++ is) = fr := ⟨_, rfl⟩
  have HFREE : Hid (∀ W A7 c7, RdI W A7 (flatNs os ++ is) → Calls Tryz.prog 74 #[.int .i64 ps.length, .slice A7 (flatNs os ++ is).length c7] W fun e w' => ∃ (B : Option Addr) (d : Nat), e = .returned (ansI B fr.length d 0) ∧ fr.length ≤ d ∧ Hid (B = none → d = 0) ∧ Hid (RdI w' B fr) ∧ Below W.heap.size W w') := Lib.hid fun W A7 c7 hr => by
    have := free_ok (ps.length : Int) A7 c7 (flatNs os ++ is) HTOT.out hch W hr
    rw [hfr] at this
    exact this
  rw [hfr]
  have HFR := Lib.hid hfr
  clear kx hw1 hch htot hnl hil hfr
  have hmm : ∀ (n : Int) (w : World), (Instr.makeMap 109 (some (.int .i64 n))).run Tryz.prog w = .ok (.map (some w.heap.size)) (w.alloc (.map #[] 0)) := fun _ _ => by kernel_rfl
  go_enter Tryz.func52, Tryz.ntmps52
  go_upto_region 1 with fail
  rw [HW1.out]
  have hBd : Below w1.heap.size w1 w1.drew := (Below.refl _ _).drew
  refine wp_region_noPanic ?_
  refine wp_region_last 7 (fun W => W.cell? ⟨w.heap.size, 0, none⟩ = some (.slice A ps.length c) ∧ W.cell? ⟨w.heap.size, 1, none⟩ = some (.slice B ws.length d) ∧ W.cell? ⟨w.heap.size, 2, none⟩ = some (.int .i64 t) ∧ W.cell? ⟨w.heap.size, 3, none⟩ = some (.int .i64 f) ∧ W.cell? ⟨w.heap.size, 4, none⟩ = some (.int .i64 o) ∧ W.cell? ⟨w.heap.size, 5, none⟩ = some (.slice O os.length oc) ∧ W.cell? ⟨w.heap.size, 6, none⟩ = some (.slice I is.length ic)) (by kernel_rfl) (hS0.out _ hBd) (fun hHeld => ?_)
  refine wpAnyL_take 12 (i := 0) (oi := ⟨some 9, _, _, _, _, _⟩) (v := ?_) rfl (by kernel_rfl) (by kernel_rfl) (by kernel_rfl) (by kernel_rfl) (by kernel_rfl) (by kernel_rfl) (by kernel_rfl) (fun _ _ _ h => h) (Or.inl ⟨by rfl, ?_⟩) hHeld ?_
  rotate_left
  focus (intro w hSw; (try dsimp only at hSw); go_simp; try (with_reducible rfl))
  try simp only [Act.put, List.setIfInBounds_toArray, List.set_cons_zero, List.set_cons_succ]
  refine wpAnyL_take 12 (i := 1) (oi := ⟨some 10, _, _, _, _, _⟩) (v := ?_) rfl (by kernel_rfl) (by kernel_rfl) (by kernel_rfl) (by kernel_rfl) (by kernel_rfl) (by kernel_rfl) (by kernel_rfl) (fun _ _ _ h => h) (Or.inl ⟨by rfl, ?_⟩) hHeld ?_
  rotate_left
  focus (intro w hSw; (try dsimp only at hSw); go_simp; try (with_reducible rfl))
  try simp only [Act.put, List.setIfInBounds_toArray, List.set_cons_zero, List.set_cons_succ]
  refine wpAnyL_take 12 (i := 2) (oi := ⟨some 11, _, _, _, _, _⟩) (v := ?_) rfl (by kernel_rfl) (by kernel_rfl) (by kernel_rfl) (by kernel_rfl) (by kernel_rfl) (by kernel_rfl) (by kernel_rfl) (fun _ _ _ h => h) (Or.inl ⟨by rfl, ?_⟩) hHeld ?_
  rotate_left
  focus (intro w hSw; (try dsimp only at hSw); go_simp; try (with_reducible rfl))
  try simp only [Act.put, List.setIfInBounds_toArray, List.set_cons_zero, List.set_cons_succ]
  refine wpAnyL_take 12 (i := 3) (oi := ⟨some 12, _, _, _, _, _⟩) (v := ?_) rfl (by kernel_rfl) (by kernel_rfl) (by kernel_rfl) (by kernel_rfl) (by kernel_rfl) (by kernel_rfl) (by kernel_rfl) (fun _ _ _ h => h) (Or.inl ⟨by rfl, ?_⟩) hHeld ?_
  rotate_left
  focus (intro w hSw; (try dsimp only at hSw); go_simp; try (with_reducible rfl))
  try simp only [Act.put, List.setIfInBounds_toArray, List.set_cons_zero, List.set_cons_succ]
  refine wpAnyL_take 12 (i := 4) (oi := ⟨some 13, _, _, _, _, _⟩) (v := ?_) rfl (by kernel_rfl) (by kernel_rfl) (by kernel_rfl) (by kernel_rfl) (by kernel_rfl) (by kernel_rfl) (by kernel_rfl) (fun _ _ _ h => h) (Or.inl ⟨by rfl, ?_⟩) hHeld ?_
  rotate_left
  focus (intro w hSw; (try dsimp only at hSw); go_simp; try (with_reducible rfl))
  try simp only [Act.put, List.setIfInBounds_toArray, List.set_cons_zero, List.set_cons_succ]
  refine wpAnyL_one (i := 5) (o := ⟨some 14, _, _, _, _, _⟩) (by kernel_rfl) rfl (fun K hK => ?_)
  clear hHeld
  go_simp
  go_at_call 32
  refine (sectors_any _ _ _ _ _ _ _ _ _ _ _ _ _ _ _ _).mono ?_
  rintro e w6 ⟨rfl, hw6⟩
  have hB6 : Below w1.drew.heap.size w1.drew w6 := hw6 ▸ (Below.refl _ _).alloc (Nat.le_refl _) _
  have hB26 := hBd.trans (hB6.mono hBd.size)
  have HCL6 := Lib.hid (HCL.out _ hBd _ hw6)
  clear hw6
  go_wp2_with fail
  refine hK.out _ _ (hS0.out _ hB26) (fun hHeld => ?_)
  clear hK K
  try simp only [Act.put, List.setIfInBounds_toArray, List.set_cons_zero, List.set_cons_succ]
  refine wpAnyL_one (i := 6) (o := ⟨some 15, _, _, _, _, _⟩) (by kernel_rfl) rfl (fun K hK => ?_)
  clear hHeld
  go_simp
  go_at_call 44
  refine HCL6.out.mono ?_
  rintro e w7 ⟨v, rfl, hown7, hB7⟩
  have hB27 := hB26.trans (hB7.mono hB26.size)
  have HO7 := Lib.hid hown7
  clear hown7
  go_wp2_with fail
  refine hK.out _ _ (hS0.out _ hB27) (fun hHeld => ?_)
  clear hK K
  try simp only [Act.put, List.setIfInBounds_toArray, List.set_cons_zero, List.set_cons_succ]
  refine wpAnyL_last (i := 7) (o := ⟨some 16, _, _, _, _, _⟩) (by kernel_rfl) rfl (by kernel_rfl) (fun K hK => ?_)
  clear hHeld
  go_simp
  go_at_call 74
  obtain ⟨A7, c7, rfl, _, _, hr7, _⟩ := own_any HO7.out
  refine (HFREE.out w7 A7 c7 hr7.1).mono ?_
  rintro e w8 ⟨F, dF, rfl, hFd, hFn, hFr, hB8⟩
  have hB28 := hB27.trans (hB8.mono hB27.size)
  clear hr7
  go_wp2_with fail
  refine hK.out _ _ ?_
  clear hK K
  try simp only [Act.put, List.setIfInBounds_toArray, List.set_cons_zero, List.set_cons_succ]
  refine wpAnyL_takeW (i := 8) (oi := ⟨some 8, _, _, _, _, _⟩) (v := ?_) rfl (by kernel_rfl) (by kernel_rfl) (by kernel_rfl) (by kernel_rfl) (fun _ _ _ h => h) (Or.inl ⟨by rfl, ?_⟩) (.inl (by kernel_rfl)) ?_
  rotate_left
  focus (intro w hSw; (try dsimp only at hSw); go_simp; try (with_reducible rfl))
  try simp only [Act.put, List.setIfInBounds_toArray, List.set_cons_zero, List.set_cons_succ]
  refine wpAnyL_takeW (i := 9) (oi := ⟨some 17, _, _, _, _, _⟩) (v := ?_) rfl (by kernel_rfl) (by kernel_rfl) (by kernel_rfl) (by kernel_rfl) (fun _ _ _ h => h) (Or.inl ⟨by rfl, ?_⟩) (.inl (by kernel_rfl)) ?_
  rotate_left
  focus (intro w hSw; (try dsimp only at hSw); go_simp; try (with_reducible rfl))
  try simp only [Act.put, List.setIfInBounds_toArray, List.set_cons_zero, List.set_cons_succ]
  refine wpAnyL_takeW (i := 10) (oi := ⟨some 18, _, _, _, _, _⟩) (v := ?_) rfl (by kernel_rfl) (by kernel_rfl) (by kernel_rfl) (by kernel_rfl) (fun _ _ _ h => h) (Or.inl ⟨by rfl, ?_⟩) (.inl (by kernel_rfl)) ?_
  rotate_left
  focus (intro w hSw; (try dsimp only at hSw); go_simp; try (with_reducible rfl))
  try simp only [Act.put, List.setIfInBounds_toArray, List.set_cons_zero, List.set_cons_succ]
  refine wpAnyL_takeW (i := 11) (oi := ⟨some 3, _, _, _, _, _⟩) (v := ?_) rfl (by kernel_rfl) (by kernel_rfl) (by kernel_rfl) (by kernel_rfl) (fun _ _ _ h => h) (Or.inl ⟨by rfl, ?_⟩) (.inl (by kernel_rfl)) ?_
  rotate_left
  focus (intro w hSw; (try dsimp only at hSw); go_simp; try (with_reducible rfl))
  try simp only [Act.put, List.setIfInBounds_toArray, List.set_cons_zero, List.set_cons_succ]
  refine wpAnyL_takeW (i := 12) (oi := ⟨some 4, _, _, _, _, _⟩) (v := ?_) rfl (by kernel_rfl) (by kernel_rfl) (by kernel_rfl) (by kernel_rfl) (fun _ _ _ h => h) (Or.inl ⟨by rfl, ?_⟩) (.inl (by kernel_rfl)) ?_
  rotate_left
  focus (intro w hSw; (try dsimp only at hSw); go_simp; try (with_reducible rfl))
  try simp only [Act.put, List.setIfInBounds_toArray, List.set_cons_zero, List.set_cons_succ]
  refine wpAnyL_done (by kernel_rfl) ?_ _
  refine NoPanic.normal ?_
  have hB18 : Below w.heap.size w w8 := hB1.trans (hB28.mono hB1.size)
  have hB8s := hB18.size
  go_wp2_with fail
  refine (must_ok w8).mono ?_
  rintro e w8' ⟨rfl, rfl⟩
  obtain ⟨hc0, hc1, hc2, hc3, hc4, hc5, hc6⟩ := hS0.out w8 hB28
  have hB9 : Below w1.heap.size w1 (w8.alloc (.map #[] 0)) := hB28.alloc hB28.size _
  obtain ⟨hd0, hd1, hd2, hd3, hd4, hd5, hd6⟩ := hS0.out _ hB9
  go_wp2
  have hmap0 : (w8.alloc (.map #[] 0)).ownsMap Tryz.prog 9 heldR w8.heap.size 0 (.map []) := World.ownsMap_made w8 _ _ _
  clear hd0 hd1 hd2 hd3 hd4 hd5 hd6
  go_loopw [28] (fun i W => ∃ k D, k ≤ os.length ∧ i = .int .i64 k ∧ Hid (W.ownsMap Tryz.prog 9 heldR w8.heap.size k D) ∧ Hid (MapIs D (os.take k)) ∧ Hid (Below w8.heap.size w8 W)) (fun i _ => os.length - (intOf i).toNat)
  case atStart => exact ⟨0, _, Nat.zero_le _, rfl, Lib.hid hmap0, Lib.hid (by simpa using MapIs.empty), Lib.hid ((Below.refl _ _).alloc (Nat.le_refl _) _)⟩
  case round =>
    obtain ⟨k, D, hk, rfl, HM, HI, HB⟩ := hrel
    have hB2k : Below w1.heap.size w1 wr := hB28.trans (HB.out.mono hB28.size)
    obtain ⟨hc0, hc1, hc2, hc3, hc4, hc5, hc6⟩ := hS0.out wr hB2k
    by_cases hlt : k < os.length
    · obtain ⟨x, hx⟩ : ∃ x, os[k]? = some x := ⟨_, List.getElem?_eq_getElem hlt⟩
      obtain ⟨b, off, rfl, hb, hk0, hk1, hk2⟩ := (HL1.out.arr.below hB2k).1.ob hx
      have hxk : x.key.size ≤ maxLen := (HF.out.os x (List.mem_of_getElem? hx)).k
      have HPUT : Hid (MapIs (D.put (.string x.key.data.toList) (.held x.val)) (os.take (k + 1))) := Lib.hid (by
        rw [List.take_add_one, hx]
        refine HI.out.put x fun o ho => ?_
        obtain ⟨j, hj, rfl⟩ := List.getElem_of_mem ho
        have hjk : j < k := by simp at hj; omega
        have := (List.pairwise_iff_getElem.1 HKS.out) j k (by omega) hlt hjk
        rw [List.getElem_take]
        have e : os[k] = x := by rw [List.getElem?_eq_getElem hlt] at hx; injection hx
        rw [e] at this
        exact this)
      have HMA := Lib.hid (HM.out.alloc (.cells #[.string x.key, x.d.val, .slice x.B x.ns.length x.e] 58))
      have HKEY : Hid (keyOf Tryz.prog 9 (.string x.key) = some (.string x.key.data.toList)) := Lib.hid (key_str hxk)
      have HBA : Hid (Below w8.heap.size w8 (wr.alloc (.cells #[.string x.key, x.d.val, .slice x.B x.ns.length x.e] 58))) := Lib.hid (HB.out.alloc HB.out.size _)
      have hkl : k < maxLen := by unfold maxLen; omega
      clear hx HI
      obtain ⟨key, ⟨dA, dz, dc⟩, oB, ns, oe⟩ := x
      dsimp only at *
      go_wp2_with (at_mapUpdate; refine wpList_mapUpdate_own _ rfl _ _ _ 109 rfl 9 58 keyedS Tryz.underlying109 heldR w8.heap.size k D rfl HMA.out hkl _ _ _ rfl rfl HKEY.out (.held (obval key dA dz.length dc oB ns.length oe)) [] rfl ?_; intro w10 hown10 hgrow10)
      have HB10 : Hid (Below w8.heap.size w8 w10) := Lib.hid (HBA.out.grown hgrow10 HBA.out.size (fun j e => by cases e; exact Nat.le_refl _))
      have HO10 := Lib.hid hown10
      clear hown10 hgrow10
      go_round
      case rel => exact ⟨k + 1, _, by omega, by go_num, HO10, HPUT, HB10⟩
      case measure => simp [intOf]; omega
    · obtain rfl : k = os.length := by omega
      have HI' : Hid (MapIs D os) := Lib.hid (by simpa using HI.out)
      have hBw : Below w.heap.size w wr := hB18.trans (HB.out.mono hB8s)
      have HBX : Hid (Below wr.heap.size wr (wr.alloc (.cells #[.slice F fr.length dF, .slice none 0 0, .map (some w8.heap.size)] 111))) := Lib.hid ((Below.refl _ _).alloc (Nat.le_refl _) _)
      have HBXw : Hid (Below w.heap.size w (wr.alloc (.cells #[.slice F fr.length dF, .slice none 0 0, .map (some w8.heap.size)] 111))) := Lib.hid (hBw.alloc hBw.size _)
      have hfree : RdU wr.heap.size wr F (ints fr) := RdU.of (RdI.below hFr.out HB.out) (Nat.le_refl _)
      have HFE := Lib.hid (hfree.belowX HBX.out)
      clear HI hfree
      go_wp2
      go_ret
      refine ⟨wr.heap.size, F, dF, w8.heap.size, os.length, D, rfl, ⟨⟨Blk.new wr [.slice F fr.length dF, .slice none 0 0, .map (some w8.heap.size)] _, rfl, own_none' _ _ _ _, fun a ha => by cases ha⟩, HFE.out, hFd, hFn.out, HM.out.lt, HM.out.alloc _, HI'.out, hBw.size⟩, HBXw.out⟩

end Go.Proofs.YtfeeejigedndcaaGreat
