/-
  does: the device behind a plan. Conditions: the device may be and the acts are right for it.
-/
import Derived.Test.YtfeeejigedndcaaGreatMQF
import Derived.Test.YtfeeejigedndcaaGreatMRL
import Derived.Test.YtfeeejigedndcaaGreatMQC
import Derived.Test.YtfeeejigedndcaaGreatMGB
import Derived.Deep.DeepCutAuto
namespace Go.Proofs.YtfeeejigedndcaaGreat
open Go.ChangeShapes Go.WideShapes Go.ChangeAt Go.RowKit
set_option maxRecDepth 100000

theorem blk2 {W : World} {g : Nat} {T : TypeId} {a b : Value} (k : Blk W g T [a, b]) : W.cell? ⟨g, 0, none⟩ = some a ∧ W.cell? ⟨g, 1, none⟩ = some b := ⟨k.cell 0, k.cell 1⟩

set_option maxHeartbeats 1000000 in
theorem does_any (D : Dv) (hf : D.Fits) (hok : D.st.ok) (X j : Nat) (T : TypeId) (_hT : T ≠ 82) (vs : List Value) (v : Value) (l : List Ac) (hl : l.length ≤ 1099511627776) (he : actsE D.ps.length l = 0) (hm : D.ws = []) (hlen : ∀ x ∈ l, x.p.zs.length ≤ 140737488351232)
    (w : World) (h : Pl X j T vs v w l) (hD : D.Lies 0 w) :
    Calls Tryz.prog 57 #[.pointer (some ⟨X, j, none⟩), D.val] w fun e w' => ∃ E : Dv, e = .returned E.val ∧ E.st = doL D.st (l.map Ac.st) ∧ E.Lies w.heap.size w' ∧ Below w.heap.size w w' ∧ E.Caps := by
  obtain ⟨A, lc, hv, hlc, hnil, hrd, _⟩ := own_any h.row
  have HDO : Hid (∀ W, Below w.heap.size w W → Calls Tryz.prog 18 #[D.val, .slice A l.length lc] W fun e w' => ∃ E : Dv, e = .returned (ansD E.val 0) ∧ E.st = doL D.st (l.map Ac.st) ∧ E.Lies W.heap.size w' ∧ Below W.heap.size W w' ∧ E.Caps) := Lib.hid fun W hB =>
    do_okc D hf hok A l lc he (by rw [hm]; simp; omega) W (hD.below hB) ⟨(hrd.below hB).1, fun x hx => by
      obtain ⟨A', c', hv', _, _, hrd', _⟩ := own_any (h.data x hx)
      have e : x.p.A = A' := by injection hv'
      subst e
      exact (hrd'.below hB).1, hlen, by omega⟩
  have H := Lib.hid h
  have hlt := h.blk.lt
  subst hv
  clear h hrd hf hok he hlen hD hm
  obtain ⟨dA, ps, c, B, ws, d⟩ := D
  dsimp only [Dv.val, dval] at *
  obtain ⟨w1, hw1⟩ : ∃ w1, (w.alloc (.cells #[.slice dA ps.length c, .slice B ws.length d] 27)).alloc (.cells #[.slice none 0 0, .slice none 0 0] 27) = w1 := ⟨_, rfl⟩
  have hB1 : Below w.heap.size w w1 := hw1 ▸ ((Below.refl _ w).alloc (Nat.le_refl _) _).alloc (by simp) _
  have ku : Blk w1 w.heap.size 27 [.slice dA ps.length c, .slice B ws.length d] := hw1 ▸ (Blk.new w [.slice dA ps.length c, .slice B ws.length d] _).alloc _
  have kr : Blk w1 (w.heap.size + 1) 27 [.slice none 0 0, .slice none 0 0] := by
    have := Blk.new (w.alloc (.cells #[.slice dA ps.length c, .slice B ws.length d] 27)) [.slice none 0 0, .slice none 0 0] 27
    rw [World.size_alloc] at this
    exact hw1 ▸ this
  have HKU := Lib.hid ku
  have HKR := Lib.hid kr
  have HW1 := Lib.hid hw1
  have hs1 := kr.lt
  clear ku hw1 kr
  have hS0 : Hid (∀ W, Below w1.heap.size w1 W → W.cell? ⟨X, j, none⟩ = some (.slice A l.length lc) ∧ W.cell? ⟨w.heap.size, 0, none⟩ = some (.slice dA ps.length c) ∧ W.cell? ⟨w.heap.size, 1, none⟩ = some (.slice B ws.length d)) := Lib.hid fun W hB => by
    have hb := H.out.below (hB1.trans (hB.mono hB1.size))
    obtain ⟨e0, e1⟩ := blk2 (HKU.out.below hB HKU.out.lt)
    exact ⟨(hb.blk.cell j).trans hb.at_, e0, e1⟩
  go_enter Tryz.func57, Tryz.ntmps57
  go_upto_region 1 with fail
  rw [HW1.out]
  go_cut [5, 6] (fun p e wx => ∃ (E : Dv) (Y : Nat), p = .pointer (some ⟨Y, 0, none⟩) ∧ e = .int .i64 0 ∧ E.st = doL (Dv.mk dA ps c B ws d).st (l.map Ac.st) ∧ Hid (E.Lies w1.heap.size wx) ∧ Hid (Blk wx Y 27 [.slice E.A E.ps.length E.c, .slice E.B E.ws.length E.d]) ∧ w1.heap.size ≤ Y ∧ Below w1.heap.size w1 wx ∧ E.Caps)
  case first =>
    have hBd : Below w1.heap.size w1 w1.drew := (Below.refl _ _).drew
    refine wp_region_noPanic ?_
    refine wp_region_last 10 (fun W => W.cell? ⟨X, j, none⟩ = some (.slice A l.length lc) ∧ W.cell? ⟨w.heap.size, 0, none⟩ = some (.slice dA ps.length c) ∧ W.cell? ⟨w.heap.size, 1, none⟩ = some (.slice B ws.length d)) (by kernel_rfl) (hS0.out _ (Below.refl _ _).drew) (fun hHeld => ?_)
    refine wpAnyL_take 12 (i := 0) (oi := ⟨some 8, _, _, _, _, _⟩) (v := ?_) rfl (by kernel_rfl) (by kernel_rfl) (by kernel_rfl) (by kernel_rfl) (by kernel_rfl) (by kernel_rfl) (by kernel_rfl) (fun _ _ _ h => h) (Or.inl ⟨by rfl, ?_⟩) hHeld ?_
    rotate_left
    focus (intro w hSw; (try dsimp only at hSw); go_simp; try (with_reducible rfl))
    try simp only [Act.put, List.setIfInBounds_toArray, List.set_cons_zero, List.set_cons_succ]
    refine wpAnyL_take 12 (i := 1) (oi := ⟨some 9, _, _, _, _, _⟩) (v := ?_) rfl (by kernel_rfl) (by kernel_rfl) (by kernel_rfl) (by kernel_rfl) (by kernel_rfl) (by kernel_rfl) (by kernel_rfl) (fun _ _ _ h => h) (Or.inl ⟨by rfl, ?_⟩) hHeld ?_
    rotate_left
    focus (intro w hSw; (try dsimp only at hSw); go_simp; try (with_reducible rfl))
    try simp only [Act.put, List.setIfInBounds_toArray, List.set_cons_zero, List.set_cons_succ]
    refine wpAnyL_take 12 (i := 2) (oi := ⟨some 10, _, _, _, _, _⟩) (v := ?_) rfl (by kernel_rfl) (by kernel_rfl) (by kernel_rfl) (by kernel_rfl) (by kernel_rfl) (by kernel_rfl) (by kernel_rfl) (fun _ _ _ h => h) (Or.inl ⟨by rfl, ?_⟩) hHeld ?_
    rotate_left
    focus (intro w hSw; (try dsimp only at hSw); go_simp; try (with_reducible rfl))
    try simp only [Act.put, List.setIfInBounds_toArray, List.set_cons_zero, List.set_cons_succ]
    refine wpAnyL_take 12 (i := 3) (oi := ⟨some 11, _, _, _, _, _⟩) (v := ?_) rfl (by kernel_rfl) (by kernel_rfl) (by kernel_rfl) (by kernel_rfl) (by kernel_rfl) (by kernel_rfl) (by kernel_rfl) (fun _ _ _ h => h) (Or.inl ⟨by rfl, ?_⟩) hHeld ?_
    rotate_left
    focus (intro w hSw; (try dsimp only at hSw); go_simp; try (with_reducible rfl))
    try simp only [Act.put, List.setIfInBounds_toArray, List.set_cons_zero, List.set_cons_succ]
    refine wpAnyL_take 12 (i := 4) (oi := ⟨some 12, _, _, _, _, _⟩) (v := ?_) rfl (by kernel_rfl) (by kernel_rfl) (by kernel_rfl) (by kernel_rfl) (by kernel_rfl) (by kernel_rfl) (by kernel_rfl) (fun _ _ _ h => h) (Or.inl ⟨by rfl, ?_⟩) hHeld ?_
    rotate_left
    focus (intro w hSw; (try dsimp only at hSw); go_simp; try (with_reducible rfl))
    try simp only [Act.put, List.setIfInBounds_toArray, List.set_cons_zero, List.set_cons_succ]
    refine wpAnyL_two (i := 5) (k := 9) (o := ⟨some 13, _, _, _, _, _⟩) (p := ⟨some 5, _, _, _, _, _⟩) (by kernel_rfl) rfl rfl (fun K hK => ?_) (fun K hK => ?_)
    focus
      clear hHeld
      go_simp
      refine (HDO.out _ (hB1.trans (hBd.mono hB1.size))).mono ?_
      rintro e w3 ⟨E, rfl, hE, hL, hB3, hCp⟩
      have hB13 : Below w1.heap.size w1 w3 := hBd.trans hB3
      go_wp2_with fail
      refine hK.out _ _ (hS0.out _ hB13) (fun hHeld => ?_)
      clear hK K
      try simp only [Act.put, List.setIfInBounds_toArray, List.set_cons_zero, List.set_cons_succ]
      refine wpAnyL_take 12 (i := 6) (oi := ⟨some 7, _, _, _, _, _⟩) (v := ?_) rfl (by kernel_rfl) (by kernel_rfl) (by kernel_rfl) (by kernel_rfl) (by kernel_rfl) (by kernel_rfl) (by kernel_rfl) (fun _ _ _ h => h) (Or.inl ⟨by rfl, ?_⟩) hHeld ?_
      rotate_left
      focus (intro w hSw; (try dsimp only at hSw); go_simp; try (with_reducible rfl))
      try simp only [Act.put, List.setIfInBounds_toArray, List.set_cons_zero, List.set_cons_succ]
      refine wpAnyL_take 12 (i := 7) (oi := ⟨some 14, _, _, _, _, _⟩) (v := ?_) rfl (by kernel_rfl) (by kernel_rfl) (by kernel_rfl) (by kernel_rfl) (by kernel_rfl) (by kernel_rfl) (by kernel_rfl) (fun _ _ _ h => h) (Or.inl ⟨by rfl, ?_⟩) hHeld ?_
      rotate_left
      focus (intro w hSw; (try dsimp only at hSw); go_simp; try (with_reducible rfl))
      try simp only [Act.put, List.setIfInBounds_toArray, List.set_cons_zero, List.set_cons_succ]
      refine wpAnyL_takeW (i := 8) (oi := ⟨some 15, _, _, _, _, _⟩) (v := ?_) rfl (by kernel_rfl) (by kernel_rfl) (by kernel_rfl) (by kernel_rfl) (fun _ _ _ h => h) (Or.inl ⟨by rfl, ?_⟩) (.inr hHeld) ?_
      rotate_left
      focus (intro w hSw; (try dsimp only at hSw); go_simp; try (with_reducible rfl))
      try simp only [Act.put, List.setIfInBounds_toArray, List.set_cons_zero, List.set_cons_succ]
      refine wpAnyL_one (i := 9) (o := ⟨some 5, _, _, _, _, _⟩) (by kernel_rfl) rfl (fun K hK => ?_)
      clear hHeld
      go_simp
      have kY := Blk.new w3 [.slice none 0 0, .slice none 0 0] 27
      have hL4 : E.Lies w1.heap.size (w3.alloc (.cells #[.slice none 0 0, .slice none 0 0] 27)) := hL.below ((Below.refl _ _).alloc (Nat.le_refl _) _)
      have hB4 : Below w1.heap.size w1 (w3.alloc (.cells #[.slice none 0 0, .slice none 0 0] 27)) := hB13.alloc hB13.size _
      have hY : w1.heap.size ≤ w3.heap.size := hB13.size
      go_wp2_with fail
      refine hK.out _ _ (hS0.out _ hB4) (fun hHeld => ?_)
      clear hK K
      try simp only [Act.put, List.setIfInBounds_toArray, List.set_cons_zero, List.set_cons_succ]
      refine wpAnyL_last (i := 10) (o := ⟨none, _, _, _, _, _⟩) (by kernel_rfl) rfl (by kernel_rfl) (fun K hK => ?_)
      clear hHeld
      go_simp
      go_wp2_with fail
      refine hK.out _ _ ?_
      clear hK K
      try simp only [Act.put, List.setIfInBounds_toArray, List.set_cons_zero, List.set_cons_succ]
      refine wpAnyL_takeW (i := 11) (oi := ⟨some 6, _, _, _, _, _⟩) (v := ?_) rfl (by kernel_rfl) (by kernel_rfl) (by kernel_rfl) (by kernel_rfl) (fun _ _ _ h => h) (Or.inl ⟨by rfl, ?_⟩) (.inl (by kernel_rfl)) ?_
      rotate_left
      focus (intro w hSw; (try dsimp only at hSw); go_simp; try (with_reducible rfl))
      try simp only [Act.put, List.setIfInBounds_toArray, List.set_cons_zero, List.set_cons_succ]
      refine wpAnyL_done (by kernel_rfl) ?_ _
      refine NoPanic.normal ?_
    rotate_left
    focus
      clear hHeld
      go_simp
      have kY : Blk (w1.drew.alloc (.cells #[.slice none 0 0, .slice none 0 0] 27)) w1.heap.size 27 [.slice none 0 0, .slice none 0 0] := Blk.new w1.drew [.slice none 0 0, .slice none 0 0] 27
      have hB3 : Below w1.heap.size w1 (w1.drew.alloc (.cells #[.slice none 0 0, .slice none 0 0] 27)) := hBd.alloc hBd.size _
      go_wp2_with fail
      refine hK.out _ _ (hS0.out _ hB3) (fun hHeld => ?_)
      clear hK K
      try simp only [Act.put, List.setIfInBounds_toArray, List.set_cons_zero, List.set_cons_succ]
      refine wpAnyL_one (i := 5) (o := ⟨some 13, _, _, _, _, _⟩) (by kernel_rfl) rfl (fun K hK => ?_)
      clear hHeld
      go_simp
      refine (HDO.out _ (hB1.trans (hB3.mono hB1.size))).mono ?_
      rintro e w3 ⟨E, rfl, hE, hL, hB4, hCp⟩
      have hB13 : Below w1.heap.size w1 w3 := hB3.trans (hB4.mono hB3.size)
      have kY3 := kY.below hB4 kY.lt
      have y0 := kY3.cell 0
      have y1 := kY3.cell 1
      have q0 := kY3.frozen 0
      have q1 := kY3.frozen 1
      simp only [List.getElem?_cons_zero, List.getElem?_cons_succ] at y0 y1
      go_wp2_with fail
      refine hK.out _ _ (hS0.out _ hB13) (fun hHeld => ?_)
      clear hK K
      try simp only [Act.put, List.setIfInBounds_toArray, List.set_cons_zero, List.set_cons_succ]
      refine wpAnyL_take 12 (i := 6) (oi := ⟨some 7, _, _, _, _, _⟩) (v := ?_) rfl (by kernel_rfl) (by kernel_rfl) (by kernel_rfl) (by kernel_rfl) (by kernel_rfl) (by kernel_rfl) (by kernel_rfl) (fun _ _ _ h => h) (Or.inl ⟨by rfl, ?_⟩) hHeld ?_
      rotate_left
      focus (intro w hSw; (try dsimp only at hSw); go_simp; try (with_reducible rfl))
      try simp only [Act.put, List.setIfInBounds_toArray, List.set_cons_zero, List.set_cons_succ]
      refine wpAnyL_take 12 (i := 7) (oi := ⟨some 14, _, _, _, _, _⟩) (v := ?_) rfl (by kernel_rfl) (by kernel_rfl) (by kernel_rfl) (by kernel_rfl) (by kernel_rfl) (by kernel_rfl) (by kernel_rfl) (fun _ _ _ h => h) (Or.inl ⟨by rfl, ?_⟩) hHeld ?_
      rotate_left
      focus (intro w hSw; (try dsimp only at hSw); go_simp; try (with_reducible rfl))
      try simp only [Act.put, List.setIfInBounds_toArray, List.set_cons_zero, List.set_cons_succ]
      refine wpAnyL_takeW (i := 8) (oi := ⟨some 15, _, _, _, _, _⟩) (v := ?_) rfl (by kernel_rfl) (by kernel_rfl) (by kernel_rfl) (by kernel_rfl) (fun _ _ _ h => h) (Or.inl ⟨by rfl, ?_⟩) (.inr hHeld) ?_
      rotate_left
      focus (intro w hSw; (try dsimp only at hSw); go_simp; try (with_reducible rfl))
      try simp only [Act.put, List.setIfInBounds_toArray, List.set_cons_zero, List.set_cons_succ]
      refine wpAnyL_last (i := 10) (o := ⟨none, _, _, _, _, _⟩) (by kernel_rfl) rfl (by kernel_rfl) (fun K hK => ?_)
      clear hHeld
      go_simp
      go_wp2_with fail
      refine hK.out _ _ ?_
      clear hK K
      try simp only [Act.put, List.setIfInBounds_toArray, List.set_cons_zero, List.set_cons_succ]
      refine wpAnyL_takeW (i := 11) (oi := ⟨some 6, _, _, _, _, _⟩) (v := ?_) rfl (by kernel_rfl) (by kernel_rfl) (by kernel_rfl) (by kernel_rfl) (fun _ _ _ h => h) (Or.inl ⟨by rfl, ?_⟩) (.inl (by kernel_rfl)) ?_
      rotate_left
      focus (intro w hSw; (try dsimp only at hSw); go_simp; try (with_reducible rfl))
      try simp only [Act.put, List.setIfInBounds_toArray, List.set_cons_zero, List.set_cons_succ]
      refine wpAnyL_done (by kernel_rfl) ?_ _
      refine NoPanic.normal ?_
    rotate_left
    all_goals (go_wp2_with fail; go_meet)
    · exact ⟨E, _, rfl, rfl, hE, Lib.hid ((hL.below ((Below.refl _ _).alloc (Nat.le_refl _) _)).mono (Nat.le_refl _)), Lib.hid (Blk.new w3 [.slice E.A E.ps.length E.c, .slice E.B E.ws.length E.d] _), hY, hB13.alloc hB13.size _, hCp⟩
    · have hst : ∀ k, w1.heap.size + 1 ≤ k → ((w3.setCell ⟨w1.heap.size, 0, none⟩ (.slice E.A E.ps.length E.c)).setCell ⟨w1.heap.size, 1, none⟩ (.slice E.B E.ws.length E.d)).heap[k]? = w3.heap[k]? := fun k hk => by
        simp only [World.setCell, Array.getElem?_modify]
        rw [if_neg (by omega), if_neg (by omega)]
      refine ⟨E, _, rfl, rfl, hE, Lib.hid (Dv.Lies.mono (n := w1.heap.size + 1) ?_ (Nat.le_succ _)), Lib.hid ((kY3.set 0 _).set 1 _), Nat.le_refl _, (hB13.setCell (p := ⟨w1.heap.size, 0, none⟩) (Nat.le_refl _) _).setCell (p := ⟨w1.heap.size, 1, none⟩) (Nat.le_refl _) _, hCp⟩
      have hL' : E.Lies (w1.heap.size + 1) w3 := by rw [World.size_alloc] at hL; exact hL
      exact hL'.stays (by simp) fun k h1 _ => hst k h1
  case rest =>
    obtain ⟨E, Y, rfl, rfl, hE, HL, HY, hYs, hB, hCp⟩ := hcut
    have kr := HKR.out.below hB hs1
    obtain ⟨y0, y1⟩ := blk2 HY.out
    obtain ⟨r0, r1⟩ := blk2 kr
    have r2 := kr.frozen 0
    have r3 := kr.frozen 1
    have HKR2 := Lib.hid kr
    clear kr
    go_wp2_with fail
    refine (must_ok wc).mono ?_
    rintro e wc' ⟨rfl, rfl⟩
    go_wp2
    have kf := (HKR2.out.set 0 (.slice E.A E.ps.length E.c)).set 1 (.slice E.B E.ws.length E.d)
    obtain ⟨d0, d1⟩ := blk2 kf
    refine bodyPost_ret (v := dval E.A E.ps.length E.c E.B E.ws.length E.d) (by simp [results, Tryz.results57, go_sem, d0, d1]) rfl ⟨E, rfl, hE, ?_, ?_, hCp⟩
    · refine Dv.Lies.mono (n := w1.heap.size) ?_ hB1.size
      refine HL.out.stays (by simp) fun k h1 h2 => ?_
      simp only [World.setCell, Array.getElem?_modify]
      rw [if_neg (by omega), if_neg (by omega)]
    · exact ((hB1.trans (hB.mono hB1.size)).setCell (p := ⟨w.heap.size + 1, 0, none⟩) (by simp) _).setCell (p := ⟨w.heap.size + 1, 1, none⟩) (by simp) _

end Go.Proofs.YtfeeejigedndcaaGreat

namespace Go.Proofs.YtfeeejigedndcaaGreat
open Go.ChangeShapes Go.WideShapes Go.ChangeAt Go.RowKit Go.Shelf
set_option maxRecDepth 100000
attribute [local go_sem] Oper.semAt_some

theorem Pl.cells {X j : Nat} {T : TypeId} {vs : List Value} {v : Value} {W W' : World} {l : List Ac} (h : Pl X j T vs v W l) (hk : ∀ (k : Nat) cur t z, W.heap[k]? = some (.cells cur t z) → W'.heap[k]? = W.heap[k]?) : Pl X j T vs v W' l := by
  have ho : ∀ {base size k : Nat} {e : TypeId} {v : Value} {xs : List Value}, W.ownsRow base e size v k xs → W'.ownsRow base e size v k xs := fun ho => own_stay ho fun b hb => by
    rcases ho.2 with ⟨rfl, _⟩ | ⟨g, cap, cur, rfl, _, hg, _⟩
    · cases hb
    · simp only [Value.ownBlock, Option.some.injEq] at hb
      subst hb
      exact hk g _ _ _ hg
  exact ⟨(hk X _ _ _ h.blk).trans h.blk, h.at_, ho h.row, fun a ha => ho (h.data a ha)⟩
theorem Only.grown {X : Nat} {T : TypeId} {W W' : World} {row : Option Nat} (hg : W.grownBy W' row) (hr : ∀ r, row = some r → X ≤ r ∧ ∃ o : Obj, W.heap[r]? = some o ∧ o.isCells = false) : (∀ (k : Nat) cur t z, W.heap[k]? = some (.cells cur t z) → W'.heap[k]? = W.heap[k]?) ∧ (X ≤ W.heap.size → Only X T W W') := by
  have hk : ∀ (k : Nat) cur t z, W.heap[k]? = some (.cells cur t z) → W'.heap[k]? = W.heap[k]? := fun k cur t z hk => hg.block k (Array.getElem?_eq_some_iff.1 hk).1 (fun e => by
    obtain ⟨_, o, ho, hc⟩ := hr k e.symm
    rw [hk] at ho
    cases ho
    cases hc)
  exact ⟨hk, fun hX => ⟨(Below.refl _ _).grown hg hX (fun k e => (hr k e).1), fun k cur t z h _ _ => hk k cur t z h⟩⟩
theorem Pl.others {X j : Nat} {T : TypeId} {vs : List Value} {v v' : Value} {W w1 w3 : World} {l : List Ac} {cs : Array Value} (h : Pl X j T vs v W l) (hB1 : Below W.heap.size W w1)
    (hgrow : (w1.alloc (.cells cs 82)).grownBy w3 v.ownBlock) : KeepsOthers W (w3.setCell ⟨X, j, none⟩ v') := by
  have hB2 : Below W.heap.size W (w1.alloc (.cells cs 82)) := hB1.alloc hB1.size _
  have h2 := h.below hB2
  have k1 : KeepsOthers W (w1.alloc (.cells cs 82)) := ⟨hB2.size, fun k o hk _ => (hB2.block k (Array.getElem?_eq_some_iff.1 hk).1).trans hk⟩
  refine (k1.trans (KeepsOthers.of_grownBy hgrow ?_)).trans (KeepsOthers.setCell _ _ _)
  intro j o hj ho'
  rcases h2.row.2 with ⟨rfl, _⟩ | ⟨g, cap, cur, rfl, _, hh, _⟩
  · cases hj
  · simp [Value.ownBlock] at hj
    subst hj
    rw [hh] at ho'
    cases ho'
    rfl

theorem Pl.only3 {X j : Nat} {T : TypeId} {vs : List Value} {v : Value} {W w1 w3 : World} {l : List Ac} {cs : Array Value} (h : Pl X j T vs v W l) (hB1 : Below W.heap.size W w1)
    (hgrow : (w1.alloc (.cells cs 82)).grownBy w3 v.ownBlock) : Only X T W w3 ∧ ∀ {g : Nat} {t : TypeId} {us : List Value}, Blk W g t us → t ≠ 82 → Blk w3 g t us := by
  have hB2 : Below W.heap.size W (w1.alloc (.cells cs 82)) := hB1.alloc hB1.size _
  have h2 := h.below hB2
  have hXl := h.blk.lt
  generalize w1.alloc (.cells cs 82) = w2 at *
  refine ⟨⟨((hB2.mono (Nat.le_of_lt hXl)).grown hgrow (Nat.le_of_lt h2.blk.lt) (fun k e => (h2.row.lt k e).1)), fun k cur t z hk h1 h3 => ?_⟩, fun {g t us} hb ht => ?_⟩
  · have hkl := (Array.getElem?_eq_some_iff.1 hk).1
    have e2 := hB2.block k hkl
    refine (hgrow.block k (Nat.lt_of_lt_of_le hkl hB2.size) (fun e => ?_)).trans e2
    rcases h2.row.2 with ⟨rfl, _⟩ | ⟨g, cap, cur', rfl, _, hg, _⟩
    · cases e
    · simp only [Value.ownBlock, Option.some.injEq] at e
      subst e
      have := hg.symm.trans (e2.trans hk)
      simp at this
      exact h3 this.2.1.symm
  · have hb2 := hb.below hB2 hb.lt
    exact (hgrow.block g hb2.lt (fun e => blk_apart hb2 h2.row ht e.symm)).trans hb2

/-- The write of a page. -/
def wact (zs ats nxs : List Int) (i : Nat) : Bool × Int × List Int := (false, ats.getD i 0, pgO (piece zs i) (nxs.getD i 0))
/-- The write of a piece that comes at a place. -/
def wact2 (zs ats nxs : List Int) (p : Nat × Nat) : Bool × Int × List Int := (false, ats.getD p.2 0, pgO (piece zs p.1) (nxs.getD p.2 0))
def wacts (zs ats nxs : List Int) (is : List Nat) : List (Bool × Int × List Int) := is.zipIdx.map (wact2 zs ats nxs)
theorem wacts_snoc (zs ats nxs : List Int) (is : List Nat) (i : Nat) : wacts zs ats nxs (is ++ [i]) = wacts zs ats nxs is ++ [wact2 zs ats nxs (i, is.length)] := by simp [wacts, List.zipIdx_append]
theorem wacts_range (zs ats nxs : List Int) : ∀ n, wacts zs ats nxs (List.range n) = (List.range n).map (wact zs ats nxs)
  | 0 => rfl
  | n + 1 => by rw [List.range_succ, wacts_snoc, wacts_range zs ats nxs n, List.map_append, List.length_range]; rfl
abbrev WT : TypeId := 111
/-- What holds between two rounds. -/
structure WJ (w : World) (X : Nat) (vs : List Value) (l : List Ac) (sv av nv : Value) (zs ats nxs : List Int) {N : Nat} (pre : List (CX N)) (W : World) (v : Value) (new : List Ac) : Prop where
  pl : Pl X 1 WT (vs.set 1 v) v W (l ++ new)
  st : new.map Ac.st = wacts zs ats nxs (cvals pre)
  only : Only X WT w W
  b0 : Blk W w.heap.size 150 [.pointer (some ⟨X, 1, none⟩)]
  b1 : Blk W (w.heap.size + 1) 30 [av]
  b2 : Blk W (w.heap.size + 2) 30 [nv]
  b3 : Blk W (w.heap.size + 3) 3 [.int .i64 pre.length]
  b4 : Blk W (w.heap.size + 4) 46 [sv]
  b5 : Blk W (w.heap.size + 5) 3 [.int .i64 (52 : Nat)]

theorem WJ.cells {w : World} {X : Nat} {vs : List Value} {l : List Ac} {sv av nv : Value} {zs ats nxs : List Int} {N : Nat} {pre : List (CX N)} {W W' : World} {v : Value} {new : List Ac} (h : WJ w X vs l sv av nv zs ats nxs pre W v new)
    (hk : ∀ (k : Nat) cur t z, W.heap[k]? = some (.cells cur t z) → W'.heap[k]? = W.heap[k]?) (ho : Only X WT W W') : WJ w X vs l sv av nv zs ats nxs pre W' v new :=
  ⟨h.pl.cells hk, h.st, h.only.trans ho, (hk _ _ _ _ h.b0).trans h.b0, (hk _ _ _ _ h.b1).trans h.b1, (hk _ _ _ _ h.b2).trans h.b2, (hk _ _ _ _ h.b3).trans h.b3, (hk _ _ _ _ h.b4).trans h.b4, (hk _ _ _ _ h.b5).trans h.b5⟩

theorem wJ_own (w : World) (X : Nat) (vs : List Value) (l : List Ac) (sv av nv : Value) (zs ats nxs : List Int) {N L : Nat} (hL : X ≤ L) : OwnFrom L (fun (pre : List (CX N)) W => ∃ v new, WJ w X vs l sv av nv zs ats nxs pre W v new) := by
  rintro s W W' row ⟨v, new, h⟩ hg hr
  obtain ⟨hk, ho⟩ := Only.grown (X := X) (T := WT) hg (fun r e => ⟨Nat.le_trans hL (hr r e).1, (hr r e).2⟩)
  exact ⟨v, new, h.cells hk (ho (Nat.le_of_lt h.pl.blk.lt))⟩

/-- A round. -/
theorem WJ.step {w : World} {X : Nat} {vs : List Value} {l : List Ac} {sv av nv : Value} {zs ats nxs : List Int} {N : Nat} {pre : List (CX N)} {x : CX N} {W w1 w3 : World} {v v' : Value} {new : List Ac} {L : Nat} {A : Option Addr} {c : Nat} (h : WJ w X vs l sv av nv zs ats nxs pre W v new) (hX : X < w.heap.size)
    (hB1 : Below W.heap.size W w1) (hd : w1.ownsRow W.heap.size 5 1 (.slice A 64 c) 64 (octCells (pgO (piece zs x.1) (nxs.getD pre.length 0)))) (hlen : (pgO (piece zs x.1) (nxs.getD pre.length 0)).length = 64)
    (hown : w3.ownsRow X 82 3 v' ((l ++ new).length + 1) (acCells (l ++ new) ++ [.bool false, .int .i64 (ats.getD pre.length 0), .slice A 64 c])) (hgrow : (w1.alloc (.cells #[.bool false, .int .i64 (ats.getD pre.length 0), .slice A 64 c] 82)).grownBy w3 v.ownBlock) (W4 : World) (hW4 : W4 = (w3.setCell ⟨X, 1, none⟩ v').setCell ⟨w.heap.size + 3, 0, none⟩ (.int .i64 (pre.length + 1 : Nat))) :
    KeepsFrom L W W4 ∧ KeepsTwo (w.heap.size + 4) (w.heap.size + 5) W W4 ∧ ∃ v new, WJ w X vs l sv av nv zs ats nxs (pre ++ [x]) W4 v new := by
  have hws := h.only.size
  have hp := h.pl.step (a := ⟨false, ats.getD pre.length 0, ⟨A, pgO (piece zs x.1) (nxs.getD pre.length 0), c⟩⟩) (w3 := w3) (v' := v') (by decide) (by decide) hB1
  simp only [Pt.val, hlen] at hp
  have hd' : w1.ownsRow X 5 1 (.slice A 64 c) 64 (ocl (pgO (piece zs x.1) (nxs.getD pre.length 0))) := own_base hd (Nat.le_trans (Nat.le_of_lt hX) hws)
  obtain ⟨hp1, hp2⟩ := hp hd' hown hgrow
  have hoth : KeepsOthers W W4 := hW4 ▸ (h.pl.others (v' := v') hB1 hgrow).trans (KeepsOthers.setCell _ _ _)
  have k4 : ∀ b, b ≠ w.heap.size + 3 → W4.heap[b]? = (w3.setCell ⟨X, 1, none⟩ v').heap[b]? := fun b hb => by
    rw [hW4]
    simp only [World.setCell, Array.getElem?_modify]
    rw [if_neg (by simpa using Ne.symm hb)]
  generalize hW3 : w3.setCell ⟨X, 1, none⟩ v' = W3 at *
  have n0 := hp2.blk h.b0 (by decide) (by decide)
  have n1 := hp2.blk h.b1 (by decide) (by decide)
  have n2 := hp2.blk h.b2 (by decide) (by decide)
  have n3 := hp2.blk h.b3 (by decide) (by decide)
  have n4 := hp2.blk h.b4 (by decide) (by decide)
  have n5 := hp2.blk h.b5 (by decide) (by decide)
  have m4 : Blk W4 (w.heap.size + 4) 46 [sv] := (k4 _ (by omega)).trans n4
  have m5 : Blk W4 (w.heap.size + 5) 3 [.int .i64 (52 : Nat)] := (k4 _ (by omega)).trans n5
  refine ⟨hoth.from L, ⟨fun o u hu => ?_, fun o u hu => ?_⟩, v', new ++ [⟨false, ats.getD pre.length 0, ⟨A, pgO (piece zs x.1) (nxs.getD pre.length 0), c⟩⟩], ?_⟩
  · exact (m4.cell o).trans ((h.b4.cell o).symm.trans hu)
  · exact (m5.cell o).trans ((h.b5.cell o).symm.trans hu)
  · have hstay : ∀ {base size k : Nat} {e : TypeId} {v : Value} {xs : List Value}, W3.ownsRow base e size v k xs → e ≠ 3 → W4.ownsRow base e size v k xs := fun ho he => own_stay ho fun b hb => k4 b fun e => by
      subst e
      exact blk_apart n3 ho (Ne.symm he) hb
    have hP : Pl X 1 WT (vs.set 1 v') v' W4 (l ++ (new ++ [⟨false, ats.getD pre.length 0, ⟨A, pgO (piece zs x.1) (nxs.getD pre.length 0), c⟩⟩])) := by
      have e1 : (vs.set 1 v).set 1 v' = vs.set 1 v' := by simp
      rw [e1, List.append_assoc] at hp1
      exact ⟨(k4 X (by omega)).trans hp1.blk, hp1.at_, hstay hp1.row (by decide), fun a ha => hstay (hp1.data a ha) (by decide)⟩
    refine ⟨hP, ?_, ?_, (k4 _ (by omega)).trans n0, (k4 _ (by omega)).trans n1, (k4 _ (by omega)).trans n2, ?_, m4, m5⟩
    · rw [List.map_append, h.st, cvals_snoc, wacts_snoc, cvals_length]
      rfl
    · have ho := h.only.trans hp2
      refine ⟨?_, fun k cur t z hk h1 h2 => ?_⟩
      · rw [hW4]
        exact ho.below.setCell (p := ⟨w.heap.size + 3, 0, none⟩) (by simp; omega) _
      · have hkl := (Array.getElem?_eq_some_iff.1 hk).1
        exact (k4 k (by omega)).trans (ho.other k cur t z hk h1 h2)
    · rw [List.length_append]
      rw [hW4]
      exact n3.set 0 _

end Go.Proofs.YtfeeejigedndcaaGreat

namespace Go.Proofs.YtfeeejigedndcaaGreat
open Go.ChangeShapes Go.WideShapes Go.ChangeAt Go.RowKit Go.Shelf
set_option maxRecDepth 100000
attribute [local go_sem] Oper.semAt_some

set_option maxHeartbeats 2000000 in
theorem write_any_in (X : Nat) (vs : List Value) (v : Value) (l : List Ac) (hll : l.length ≤ 1000000000) (s : Slc) (hsl : s.zs.length ≤ 1000000000) (hsc : s.zs.length ≤ s.c) (hso : Octs s.zs) (Aa An : Option Addr) (ac nc : Nat) (ats nxs : List Int) (hal : ats.length = cntN s.zs.length) (hnl : nxs.length = cntN s.zs.length) (hnx : ∀ z ∈ nxs, 0 ≤ z ∧ z < 8192)
    (w : World) (h : Pl X 1 WT vs v w l) (hsr : ∀ W, Only X WT w W → RdB W s.A s.zs) (har : ∀ W, Only X WT w W → RdI W Aa ats) (hnr : ∀ W, Only X WT w W → RdI W An nxs) :
    Calls Tryz.prog 79 #[.pointer (some ⟨X, 1, none⟩), s.val, .slice Aa ats.length ac, .slice An nxs.length nc] w fun e w' => e = .returned (.tuple #[]) ∧ ∃ v' new, Pl X 1 WT (vs.set 1 v') v' w' (l ++ new) ∧ new.map Ac.st = (List.range (cntN s.zs.length)).map (wact s.zs ats nxs) ∧ Only X WT w w' := by
  obtain ⟨i0, hi, hz0, hz1, hz2⟩ := dinfo_parts infoAct
  have hX := h.blk.lt
  obtain ⟨A, zs, c⟩ := s
  dsimp only at hsl hsc hso hal hnl hsr ⊢
  obtain ⟨b, off, hA⟩ : ∃ b off, 0 < zs.length → A = some ⟨b, off, none⟩ := by
    by_cases h0 : 0 < zs.length
    · obtain ⟨b, off, e, hb, _⟩ := RdB.cell (hsr w (Only.refl _ _ _)) (k := 0) h0
      exact ⟨b, off, fun _ => e⟩
    · exact ⟨0, 0, fun h' => absurd h' h0⟩
  have hcN : cntM 52 zs.length = cntN zs.length := rfl
  have HEN : Hid (∀ i k W, Only X WT w W → i < cntN zs.length → k < cntN zs.length → Calls Tryz.prog 98 #[.slice (some ⟨b, off + 52 * i, none⟩) (min 52 (zs.length - 52 * i)) (min 52 (zs.length - 52 * i)), .int .i64 (nxs.getD k 0)] W fun e w' => ∃ A c, e = .returned (.tuple #[.slice A 64 c, .int .i64 0]) ∧ w'.ownsRow W.heap.size 5 1 (.slice A 64 c) 64 (octCells (pgO (piece zs i) (nxs.getD k 0))) ∧ Below W.heap.size W w') := by
    intro i k W hB hi hk
    have h52 : 52 * i < zs.length := by unfold cntN at hi; omega
    obtain rfl := hA (by omega)
    have hx : 0 ≤ nxs.getD k 0 ∧ nxs.getD k 0 < 8192 := by
      have hil : k < nxs.length := by omega
      have e : nxs.getD k 0 = nxs[k] := by simp [List.getD, List.getElem?_eq_getElem hil]
      rw [e]
      exact hnx _ (List.getElem_mem _)
    have := pageEncode_ok ⟨some ⟨b, off + 52 * i, none⟩, piece zs i, min 52 (zs.length - 52 * i)⟩ (nxs.getD k 0) (pgE_ok.2 ⟨piece_le zs i, hx.1, hx.2⟩) W ⟨by show (piece zs i).length ≤ _; rw [piece_length]; exact Nat.le_refl _, by show (piece zs i).length ≤ maxLen; rw [piece_length]; unfold maxLen; omega, piece_octs hso i, rd_mid (hsr W hB) (52 * i) 52⟩
    unfold Slc.val at this
    dsimp only at this
    rw [piece_length] at this
    refine this.mono ?_
    rintro e w' ⟨v, rfl, hown, hB'⟩
    obtain ⟨A', c', rfl, _, _, _, _⟩ := own_any hown
    exact ⟨A', c', rfl, hown, hB'⟩
  have HSR := Lib.hid hsr
  have HAR := Lib.hid har
  have HNR := Lib.hid hnr
  have HNX := Lib.hid hnx
  have HSO := Lib.hid hso
  have hcNb : (cntN zs.length : Int) ≤ 20000000 := by unfold cntN; omega
  have hHA := Lib.hid hA
  -- the boxes
  obtain ⟨w4, hw4⟩ : ∃ w4, (((w.alloc (.cells #[.pointer (some ⟨X, 1, none⟩)] 150)).alloc (.cells #[.slice Aa ats.length ac] 30)).alloc (.cells #[.slice An nxs.length nc] 30)).alloc (.cells #[.int .i64 0] 3) = w4 := ⟨_, rfl⟩
  obtain ⟨w6, hw6⟩ : ∃ w6, (w4.alloc (.cells #[.slice A zs.length c] 46)).alloc (.cells #[.int .i64 (52 : Nat)] 3) = w6 := ⟨_, rfl⟩
  have e6 : w6 = allocs w [([.pointer (some ⟨X, 1, none⟩)], 150), ([.slice Aa ats.length ac], 30), ([.slice An nxs.length nc], 30), ([.int .i64 0], 3), ([.slice A zs.length c], 46), ([.int .i64 (52 : Nat)], 3)] := by rw [← hw6, ← hw4]; rfl
  have hs4 : w4.heap.size = w.heap.size + 4 := by rw [← hw4]; simp [World.size_alloc]
  have hs6 : w6.heap.size = w.heap.size + 6 := by rw [e6, allocs_size]; rfl
  have hB6 : Below w.heap.size w w6 := by rw [e6]; exact allocs_below _ _
  have k0 : Blk w6 w.heap.size 150 [.pointer (some ⟨X, 1, none⟩)] := by rw [e6]; exact allocs_blk _ w 0 rfl
  have k1 : Blk w6 (w.heap.size + 1) 30 [.slice Aa ats.length ac] := by rw [e6]; exact allocs_blk _ w 1 rfl
  have k2 : Blk w6 (w.heap.size + 2) 30 [.slice An nxs.length nc] := by rw [e6]; exact allocs_blk _ w 2 rfl
  have k3 : Blk w6 (w.heap.size + 3) 3 [.int .i64 0] := by rw [e6]; exact allocs_blk _ w 3 rfl
  have k4 : Blk w6 (w.heap.size + 4) 46 [.slice A zs.length c] := by rw [e6]; exact allocs_blk _ w 4 rfl
  have k5 : Blk w6 (w.heap.size + 5) 3 [.int .i64 (52 : Nat)] := by rw [e6]; exact allocs_blk _ w 5 rfl
  have hJ0 : Hid (∃ v new, WJ w X vs l (.slice A zs.length c) (.slice Aa ats.length ac) (.slice An nxs.length nc) zs ats nxs ([] : List (CX (cntM 52 zs.length))) w6 v new) := by
    have hp := h.below hB6
    refine ⟨v, [], ⟨?_, rfl, Only.of_below hB6 (Nat.le_of_lt hX), k0, k1, k2, k3, k4, k5⟩⟩
    have e : vs.set 1 v = vs := by
      refine List.ext_getElem? fun i => ?_
      rw [List.getElem?_set]
      split
      · rename_i hi1
        subst hi1
        rw [h.at_]
        simp [(List.getElem?_eq_some_iff.1 h.at_).1]
      · rfl
    rw [e, List.append_nil]
    exact hp
  have c4 := k4.cell 0
  have c5 := k5.cell 0
  simp only [List.getElem?_cons_zero] at c4 c5
  have HAL := Lib.hid hal
  have HNL := Lib.hid hnl
  have HCN := Lib.hid hcN
  have HW4 := Lib.hid hw4
  have HW6 := Lib.hid hw6
  clear h hsr har hnr hnx hso hA e6 k0 k1 k2 k3 k4 k5 hw4 hw6 hal hnl hcN
  refine (callsIn_wide (n := 4)).1 ?_
  refine callsIn_of_wp_marks Tryz.func79 rfl trivial ?_ rfl
  simp only [Tryz.ntmps79, List.size_toArray, List.length_cons, List.length_nil, Nat.reduceAdd, Nat.reduceSub, Array.replicate_succ, Array.replicate_zero, List.push_toArray, List.append_toArray, List.nil_append, List.cons_append]
  gi_wp2_with fail
  refine ⟨trivial, ?_⟩
  rw [HW4.out]
  refine (chunkB_in 3 A zs.length c 52 (by omega) (by omega) w4).mono ?_
  rintro e w6' ⟨rfl, rfl⟩
  rw [HW6.out]
  rw [hs4]
  gi_wp2
  refine wpIn_rangeFunc_ownG rfl (by omega) (gf := 116) (lb := #[.pointer (some ⟨w.heap.size + 4, 0, none⟩), .pointer (some ⟨w.heap.size + 4 + 1, 0, none⟩)]) rfl trivial (enters_of Tryz.func116 (by kernel_rfl) rfl)
    (chunkB_stops 3 (w.heap.size + 4) (w.heap.size + 5) b off c zs.length 52 (by omega) (by omega) (by omega) hsc A hHA.out w6 (by omega) (by omega) c4 c5)
    KeepsTwo.trans (fun W l o o' _ h hc _ => KeepsTwo.putObj W l o o' h hc) (Below.refl _ _) (fun _ => rfl)
    (fun pre W => ∃ v new, WJ w X vs l (.slice A zs.length c) (.slice Aa ats.length ac) (.slice An nxs.length nc) zs ats nxs pre W v new)
    (fun _ _ _ => False)
    ?own
    (fun _ _ _ _ _ hs _ _ => hs)
    ?start
    (fun x => { tmps := #[.pointer (some ⟨X, 1, none⟩), .slice A zs.length c, .slice Aa ats.length ac, .slice An nxs.length nc, .pointer (some ⟨w.heap.size, 0, none⟩), undef, .pointer (some ⟨w.heap.size + 1, 0, none⟩), .pointer (some ⟨w.heap.size + 1 + 1, 0, none⟩), .pointer (some ⟨w.heap.size + 1 + 1 + 1, 0, none⟩),
      .slice (some ⟨b, off + 52 * x.1, none⟩) (min 52 (zs.length - 52 * x.1)) (min 52 (zs.length - 52 * x.1)), undef, undef, .slice A zs.length c,
      .func (.func 116) #[] #[.pointer (some ⟨w.heap.size + 4, 0, none⟩), .pointer (some ⟨w.heap.size + 4 + 1, 0, none⟩)], .slice (some ⟨b, off + 52 * x.1, none⟩) (min 52 (zs.length - 52 * x.1)) (min 52 (zs.length - 52 * x.1)), undef, undef, undef, undef, undef, undef, undef, undef, undef, undef, undef, undef, undef, undef, undef, undef, undef, undef, undef, undef, undef, undef, undef, undef, undef, undef, undef, undef], defers := [] }) ?assign ?body ?done ?stop
  case own =>
    rintro s W W' row ⟨v, new, h⟩ hg hr
    obtain ⟨hk, ho⟩ := Only.grown (X := X) (T := WT) hg (fun r e => ⟨by have := (hr r e).1; omega, (hr r e).2⟩)
    exact ⟨v, new, h.cells hk (ho (Nat.le_of_lt h.pl.blk.lt))⟩
  case start =>
    obtain ⟨v, new, h⟩ := hJ0.out
    exact ⟨v, new, h⟩
  case assign =>
    intro l x W K hK
    gi_wp2
    exact hK
  case body =>
    rintro lp pre ⟨i, hi'⟩ W ⟨v, new, hJ⟩ hpn
    obtain rfl := hHA.out (by unfold cntM at hi'; omega)
    have hpl := hJ.pl
    have hon := hJ.only
    have hws := hon.size
    obtain ⟨k, hk⟩ : ∃ k, pre.length = k := ⟨_, rfl⟩
    have hkn : k < cntN zs.length := by rw [← hk, ← HCN.out]; exact hpn
    have hin : i < cntN zs.length := by rw [← HCN.out]; exact hi'
    obtain ⟨na, no, z, hNe, hnb, hnz, hzx⟩ := (HNR.out W hon).at_ (k := k) (by rw [HNL.out]; exact hkn)
    obtain ⟨aa, ao, y, hAe, hab, haz, hyx⟩ := (HAR.out W hon).at_ (k := k) (by rw [HAL.out]; exact hkn)
    have hzg : nxs.getD k 0 = z := by simp [List.getD, hzx.out]
    have hyg : ats.getD k 0 = y := by simp [List.getD, hyx.out]
    have b0 := hJ.b0.cell 0
    have b1 := hJ.b1.cell 0
    have b2 := hJ.b2.cell 0
    have b3 := hJ.b3.cell 0
    simp only [List.getElem?_cons_zero] at b0 b1 b2 b3
    have b2' : W.cell? ⟨w.heap.size + 1 + 1, 0, none⟩ = some (.slice An nxs.length nc) := b2
    have b3' : W.cell? ⟨w.heap.size + 1 + 1 + 1, 0, none⟩ = some (.int .i64 k) := by rw [← hk]; exact b3
    have hEn := HEN.out i k W hon hin hkn
    rw [hzg] at hEn
    have HE := Lib.hid hEn
    subst hNe hAe
    have hnl' : (k : Int) < nxs.length := by rw [HNL.out]; omega
    have hal' : (k : Int) < ats.length := by rw [HAL.out]; omega
    have HJ := Lib.hid hJ
    have HHK := Lib.hid hk
    have hXl := hpl.blk.lt
    have hdr := hJ.b3.lt
    have HZG := Lib.hid hzg
    have HYG := Lib.hid hyg
    clear hJ hpl hEn b2 b3 hk hzg hyg hzx hyx
    gi_wp2_with fail
    refine ⟨trivial, ?_⟩
    refine (callsIn_wide.2 HE.out).mono ?_
    rintro e w1 ⟨A1, c1, rfl, hown1, hB1⟩
    have HO1 := Lib.hid hown1
    have hs1 := hB1.size
    clear hown1
    gi_wp2_with fail
    refine ⟨trivial, ?_⟩
    refine (callsIn_wide.2 (must_ok w1)).mono ?_
    rintro e w1' ⟨rfl, rfl⟩
    have hS0 : Hid (∀ W', Below W.heap.size W W' → W'.cell? ⟨w.heap.size, 0, none⟩ = some (.pointer (some ⟨X, 1, none⟩)) ∧ W'.cell? ⟨X, 1, none⟩ = some v ∧ W'.cell? ⟨w.heap.size + 1, 0, none⟩ = some (.slice (some ⟨aa, ao, none⟩) ats.length ac) ∧ W'.cell? ⟨w.heap.size + 1 + 1 + 1, 0, none⟩ = some (.int .i64 k) ∧ W'.cell? ⟨aa, ao + k, none⟩ = some (.int .i64 y)) := Lib.hid fun W' hB => by
      have h := HJ.out.pl.below hB
      refine ⟨(hB.cell (p := ⟨w.heap.size, 0, none⟩) HJ.out.b0.lt).trans b0, (h.blk.cell 1).trans h.at_, (hB.cell (p := ⟨w.heap.size + 1, 0, none⟩) HJ.out.b1.lt).trans b1, (hB.cell (p := ⟨w.heap.size + 1 + 1 + 1, 0, none⟩) HJ.out.b3.lt).trans b3', (hB.cell (p := ⟨aa, ao + k, none⟩) hab).trans haz⟩
    gi_wp2_with fail
    have hlw : (l ++ new).length ≤ 1000000000 + 20000000 := by
      have h1 := congrArg List.length HJ.out.st
      simp only [List.length_map, wacts, List.length_zipIdx, cvals_length] at h1
      have h2 : pre.length < cntN zs.length := by have := HCN.out; omega
      rw [List.length_append]
      omega
    have hBd : Below W.heap.size W w1.drew := hB1.drew
    refine wpIn_region_last 15 (fun W' => W'.cell? ⟨w.heap.size, 0, none⟩ = some (.pointer (some ⟨X, 1, none⟩)) ∧ W'.cell? ⟨X, 1, none⟩ = some v ∧ W'.cell? ⟨w.heap.size + 1, 0, none⟩ = some (.slice (some ⟨aa, ao, none⟩) ats.length ac) ∧ W'.cell? ⟨w.heap.size + 1 + 1 + 1, 0, none⟩ = some (.int .i64 k) ∧ W'.cell? ⟨aa, ao + k, none⟩ = some (.int .i64 y)) (by kernel_rfl) (by kernel_rfl) (hS0.out _ hBd) (fun hHeld => ?_)
    refine wpAnyL_take 12 (i := 0) (oi := ⟨some 26, _, _, _, _, _⟩) (v := ?_) rfl (by kernel_rfl) (by kernel_rfl) (by kernel_rfl) (by kernel_rfl) (by kernel_rfl) (by kernel_rfl) (by kernel_rfl) (fun _ _ _ h => h) (Or.inl ⟨by rfl, ?_⟩) hHeld ?_
    rotate_left
    focus (intro w hSw; (try dsimp only at hSw); go_simp; try (with_reducible rfl))
    try simp only [Act.put, List.setIfInBounds_toArray, List.set_cons_zero, List.set_cons_succ]
    refine wpAnyL_take 12 (i := 1) (oi := ⟨some 27, _, _, _, _, _⟩) (v := ?_) rfl (by kernel_rfl) (by kernel_rfl) (by kernel_rfl) (by kernel_rfl) (by kernel_rfl) (by kernel_rfl) (by kernel_rfl) (fun _ _ _ h => h) (Or.inl ⟨by rfl, ?_⟩) hHeld ?_
    rotate_left
    focus (intro w hSw; (try dsimp only at hSw); go_simp; try (with_reducible rfl))
    try simp only [Act.put, List.setIfInBounds_toArray, List.set_cons_zero, List.set_cons_succ]
    refine wpAnyL_take 12 (i := 2) (oi := ⟨some 28, _, _, _, _, _⟩) (v := ?_) rfl (by kernel_rfl) (by kernel_rfl) (by kernel_rfl) (by kernel_rfl) (by kernel_rfl) (by kernel_rfl) (by kernel_rfl) (fun _ _ _ h => h) (Or.inl ⟨by rfl, ?_⟩) hHeld ?_
    rotate_left
    focus (intro w hSw; (try dsimp only at hSw); go_simp; try (with_reducible rfl))
    try simp only [Act.put, List.setIfInBounds_toArray, List.set_cons_zero, List.set_cons_succ]
    refine wpAnyL_take 12 (i := 3) (oi := ⟨some 29, _, _, _, _, _⟩) (v := ?_) rfl (by kernel_rfl) (by kernel_rfl) (by kernel_rfl) (by kernel_rfl) (by kernel_rfl) (by kernel_rfl) (by kernel_rfl) (fun _ _ _ h => h) (Or.inl ⟨by rfl, ?_⟩) hHeld ?_
    rotate_left
    focus (intro w hSw; (try dsimp only at hSw); go_simp; try (with_reducible rfl))
    try simp only [Act.put, List.setIfInBounds_toArray, List.set_cons_zero, List.set_cons_succ]
    refine wpAnyL_take 12 (i := 4) (oi := ⟨some 30, _, _, _, _, _⟩) (v := ?_) rfl (by kernel_rfl) (by kernel_rfl) (by kernel_rfl) (by kernel_rfl) (by kernel_rfl) (by kernel_rfl) (by kernel_rfl) (fun _ _ _ h => h) (Or.inl ⟨by rfl, ?_⟩) hHeld ?_
    rotate_left
    focus (intro w hSw; (try dsimp only at hSw); go_simp; try (with_reducible rfl))
    try simp only [Act.put, List.setIfInBounds_toArray, List.set_cons_zero, List.set_cons_succ]
    refine wpAnyL_take 12 (i := 5) (oi := ⟨some 31, _, _, _, _, _⟩) (v := ?_) rfl (by kernel_rfl) (by kernel_rfl) (by kernel_rfl) (by kernel_rfl) (by kernel_rfl) (by kernel_rfl) (by kernel_rfl) (fun _ _ _ h => h) (Or.inl ⟨by rfl, ?_⟩) hHeld ?_
    rotate_left
    focus (intro w hSw; (try dsimp only at hSw); go_simp; try (with_reducible rfl))
    try simp only [Act.put, List.setIfInBounds_toArray, List.set_cons_zero, List.set_cons_succ]
    refine wpAnyL_take 12 (i := 6) (oi := ⟨some 32, _, _, _, _, _⟩) (v := ?_) rfl (by kernel_rfl) (by kernel_rfl) (by kernel_rfl) (by kernel_rfl) (by kernel_rfl) (by kernel_rfl) (by kernel_rfl) (fun _ _ _ h => h) (Or.inl ⟨by rfl, ?_⟩) hHeld ?_
    rotate_left
    focus (intro w hSw; (try dsimp only at hSw); go_simp; try (with_reducible rfl))
    try simp only [Act.put, List.setIfInBounds_toArray, List.set_cons_zero, List.set_cons_succ]
    refine wpAnyL_take 12 (i := 7) (oi := ⟨some 33, _, _, _, _, _⟩) (v := ?_) rfl (by kernel_rfl) (by kernel_rfl) (by kernel_rfl) (by kernel_rfl) (by kernel_rfl) (by kernel_rfl) (by kernel_rfl) (fun _ _ _ h => h) (Or.inl ⟨by rfl, ?_⟩) hHeld ?_
    rotate_left
    focus (intro w hSw; (try dsimp only at hSw); go_simp; try (with_reducible rfl))
    try simp only [Act.put, List.setIfInBounds_toArray, List.set_cons_zero, List.set_cons_succ]
    refine wpAnyL_take 12 (i := 8) (oi := ⟨some 34, _, _, _, _, _⟩) (v := ?_) rfl (by kernel_rfl) (by kernel_rfl) (by kernel_rfl) (by kernel_rfl) (by kernel_rfl) (by kernel_rfl) (by kernel_rfl) (fun _ _ _ h => h) (Or.inl ⟨by rfl, ?_⟩) hHeld ?_
    rotate_left
    focus (intro w hSw; (try dsimp only at hSw); go_simp; try (with_reducible rfl))
    try simp only [Act.put, List.setIfInBounds_toArray, List.set_cons_zero, List.set_cons_succ]
    refine wpAnyL_take 12 (i := 9) (oi := ⟨some 35, _, _, _, _, _⟩) (v := ?_) rfl (by kernel_rfl) (by kernel_rfl) (by kernel_rfl) (by kernel_rfl) (by kernel_rfl) (by kernel_rfl) (by kernel_rfl) (fun _ _ _ h => h) (Or.inl ⟨by rfl, ?_⟩) hHeld ?_
    rotate_left
    focus (intro w hSw; (try dsimp only at hSw); go_simp; try (with_reducible rfl))
    try simp only [Act.put, List.setIfInBounds_toArray, List.set_cons_zero, List.set_cons_succ]
    refine wpAnyL_take 12 (i := 10) (oi := ⟨some 36, _, _, _, _, _⟩) (v := ?_) rfl (by kernel_rfl) (by kernel_rfl) (by kernel_rfl) (by kernel_rfl) (by kernel_rfl) (by kernel_rfl) (by kernel_rfl) (fun _ _ _ h => h) (Or.inl ⟨by rfl, ?_⟩) hHeld ?_
    rotate_left
    focus (intro w hSw; (try dsimp only at hSw); go_simp; try (with_reducible rfl))
    try simp only [Act.put, List.setIfInBounds_toArray, List.set_cons_zero, List.set_cons_succ]
    refine wpAnyL_one (i := 11) (o := ⟨some 37, _, _, _, _, _⟩) (by kernel_rfl) rfl (fun K hK => ?_)
    clear hHeld
    go_simp
    have hB2 : Below W.heap.size W (w1.drew.alloc (.cells #[.bool false, .int .i64 y, .slice A1 64 c1] 82)) := hBd.alloc (by simpa using hs1) _
    go_wp2_with fail
    refine hK.out _ _ (hS0.out _ hB2) (fun hHeld => ?_)
    clear hK K
    try simp only [Act.put, List.setIfInBounds_toArray, List.set_cons_zero, List.set_cons_succ]
    refine wpAnyL_one (i := 12) (o := ⟨some 38, _, _, _, _, _⟩) (by kernel_rfl) rfl (fun K hK => ?_)
    clear hHeld
    refine step_append_lies (o := ⟨some 38, _, _, _, _, _⟩) _ (by rfl) _ _ 37 (by rfl) X 82 i0 (.agg #[.bool false, .int .i64 0, .slice none 0 0]) 3 40 Tryz.underlying37 hi hz0 hz1 hz2 rfl (by omega) v (l ++ new).length (acCells (l ++ new)) (by rfl) (own_below3 HJ.out.pl.row hB2 (Nat.le_refl _)) ⟨w1.drew.heap.size, 0, none⟩ 1 1 [.bool false, .int .i64 y, .slice A1 64 c1] (by rfl) rfl (news_new _ _ _) (by simp [Value.oneCell']) (by omega) (by unfold maxLen; omega) (by omega) (by simp; omega) _ rfl ?_
    intro g6 c6 x6 ho6 hg6 hg6' hl6
    obtain ⟨hf6, hc6, _⟩ := HJ.out.pl.box3 (by decide) hBd hg6
    obtain ⟨ho36, hk6⟩ := HJ.out.pl.only3 hBd hg6
    have n3 := hk6 HJ.out.b3 (by decide)
    have q0 : x6.cell? ⟨w.heap.size, 0, none⟩ = some (.pointer (some ⟨X, 1, none⟩)) := (hk6 HJ.out.b0 (by decide)).cell 0
    have q1 : x6.cell? ⟨w.heap.size + 1, 0, none⟩ = some (.slice (some ⟨aa, ao, none⟩) ats.length ac) := (hk6 HJ.out.b1 (by decide)).cell 0
    have q3 : x6.cell? ⟨w.heap.size + 1 + 1 + 1, 0, none⟩ = some (.int .i64 k) := by rw [← HHK.out]; exact n3.cell 0
    have qf : x6.frozen? ⟨w.heap.size + 1 + 1 + 1, 0, none⟩ = false := n3.frozen 0
    obtain ⟨a', o', y', he', _, hc', hy'⟩ := (HAR.out x6 (hon.trans ho36)).at_ (k := k) (by rw [HAL.out]; exact hkn)
    have hyy : y' = y := by have h9 := hy'.out; have h8 := HYG.out; simp [List.getD, h9] at h8; exact h8
    injection he' with he'
    injection he' with he1 he2 _
    subst he1 he2 hyy
    have hS6 : x6.cell? ⟨w.heap.size, 0, none⟩ = some (.pointer (some ⟨X, 1, none⟩)) ∧ x6.cell? ⟨X, 1, none⟩ = some v ∧ x6.cell? ⟨w.heap.size + 1, 0, none⟩ = some (.slice (some ⟨aa, ao, none⟩) ats.length ac) ∧ x6.cell? ⟨w.heap.size + 1 + 1 + 1, 0, none⟩ = some (.int .i64 k) ∧ x6.cell? ⟨aa, ao + k, none⟩ = some (.int .i64 y') := ⟨q0, hc6, q1, q3, hc'⟩
    have HO6 := Lib.hid ho6
    have HG6 := Lib.hid hg6
    clear ho6 hg6
    refine hK.out _ _ hS6 (fun hHeld => ?_)
    clear hK K
    try simp only [Act.put, List.setIfInBounds_toArray, List.set_cons_zero, List.set_cons_succ]
    refine wpAnyL_take 12 (i := 13) (oi := ⟨some 39, _, _, _, _, _⟩) (v := ?_) rfl (by kernel_rfl) (by kernel_rfl) (by kernel_rfl) (by kernel_rfl) (by kernel_rfl) (by kernel_rfl) (by kernel_rfl) (fun _ _ _ h => h) (Or.inl ⟨by rfl, ?_⟩) hHeld ?_
    rotate_left
    focus (intro w hSw; (try dsimp only at hSw); go_simp; try (with_reducible rfl))
    try simp only [Act.put, List.setIfInBounds_toArray, List.set_cons_zero, List.set_cons_succ]
    refine wpAnyL_take 12 (i := 14) (oi := ⟨some 40, _, _, _, _, _⟩) (v := ?_) rfl (by kernel_rfl) (by kernel_rfl) (by kernel_rfl) (by kernel_rfl) (by kernel_rfl) (by kernel_rfl) (by kernel_rfl) (fun _ _ _ h => h) (Or.inl ⟨by rfl, ?_⟩) hHeld ?_
    rotate_left
    focus (intro w hSw; (try dsimp only at hSw); go_simp; try (with_reducible rfl))
    try simp only [Act.put, List.setIfInBounds_toArray, List.set_cons_zero, List.set_cons_succ]
    refine wpAnyL_last (i := 15) (o := ⟨none, _, _, _, _, _⟩) (by kernel_rfl) rfl (by kernel_rfl) (fun K hK => ?_)
    clear hHeld
    go_simp
    go_wp2_with fail
    refine hK.out _ _ ?_
    clear hK K
    try simp only [Act.put, List.setIfInBounds_toArray, List.set_cons_zero, List.set_cons_succ]
    refine wpAnyL_done (by kernel_rfl) ?_ _
    gi_wp2_with fail
    have hky : ats.getD pre.length 0 = y' := by rw [HHK.out]; exact HYG.out
    have hkz : nxs.getD pre.length 0 = z := by rw [HHK.out]; exact HZG.out
    have hwk : wrap64 ((k : Int) + 1) = (k : Int) + 1 := IntWalk.wrap64_in _ (by omega)
    have hst := WJ.step (L := w6.heap.size) (A := A1) (c := c1) (x := ⟨i, hi'⟩) (w1 := w1.drew) (w3 := x6) (v' := .slice (some ⟨g6, 0, none⟩) ((l ++ new).length + 1) c6) HJ.out hX hBd
    rw [hky, hkz] at hst
    have hzr : 0 ≤ z ∧ z < 8192 := by
      have hkl : k < nxs.length := by rw [HNL.out]; exact hkn
      have e : z = nxs[k] := by rw [← HZG.out]; simp [List.getD, List.getElem?_eq_getElem hkl]
      rw [e]
      exact HNX.out _ (List.getElem_mem _)
    refine hst (own_below3 HO1.out (Below.refl _ _).drew (Nat.le_refl _)) (pgO_length _ (piece_le zs i)) HO6.out HG6.out _ ?_
    rw [HHK.out, List.length_append]
    push_cast
    rfl
  case done =>
    rintro D ys W hD hS ⟨v', new, hJ⟩ hK
    have HJ := Lib.hid hJ
    have HS := Lib.hid hS
    clear hJ hS
    gi_wp2
    refine ⟨by simp, .inl ⟨_, _, rfl, run_takeDeferred hK, ?_⟩⟩
    obtain ⟨g1, g2⟩ : (∀ (k : Nat) cur t z, W.heap[k]? = some (.cells cur t z) → (W.putObj D (.deferred none)).heap[k]? = W.heap[k]?) ∧ (X ≤ W.heap.size → Only X WT W (W.putObj D (.deferred none))) := Only.grown (row := some D) (grownBy_putObj' W D _) (fun r e => by cases e; exact ⟨by omega, _, hK, rfl⟩)
    have hf := HJ.out.cells g1 (g2 (Nat.le_of_lt HJ.out.pl.blk.lt))
    refine ⟨_, results_none rfl _ _ _, rfl, v', new, hf.pl, ?_, hf.only⟩
    rw [hf.st, HS.out, wacts_range, HCN.out]
  case stop =>
    rintro D c pre W _ _ h _
    exact h.elim

end Go.Proofs.YtfeeejigedndcaaGreat

namespace Go.Proofs.YtfeeejigedndcaaGreat
open Go.ChangeShapes Go.WideShapes Go.ChangeAt Go.RowKit
set_option maxRecDepth 100000

/-- A cell of the plan's block that is not the plan turns. -/
theorem Pl.setOther {X j i : Nat} {T : TypeId} {vs : List Value} {v y : Value} {W : World} {l : List Ac} (h : Pl X j T vs v W l) (hij : i ≠ j) (hT : T ≠ 82) (hT8 : T ≠ 5) : Pl X j T (vs.set i y) v (W.setCell ⟨X, i, none⟩ y) l ∧ Only X T W (W.setCell ⟨X, i, none⟩ y) := by
  have k4 : ∀ b, b ≠ X → (W.setCell ⟨X, i, none⟩ y).heap[b]? = W.heap[b]? := fun b hb => by
    simp only [World.setCell, Array.getElem?_modify]
    rw [if_neg (by simpa using Ne.symm hb)]
  refine ⟨⟨h.blk.set i y, ?_, own_stay h.row fun b hb => k4 b fun e => blk_apart h.blk h.row hT (e ▸ hb), fun a ha => own_stay (h.data a ha) fun b hb => k4 b fun e => blk_apart h.blk (h.data a ha) hT8 (e ▸ hb)⟩, ⟨(Below.refl _ _).setCell (p := ⟨X, i, none⟩) (Nat.le_refl _) _, fun k cur t z hk h1 _ => k4 k fun e => ?_⟩⟩
  · rw [List.getElem?_set_ne hij]
    exact h.at_
  · subst e
    have := h.blk.symm.trans hk
    simp at this
    exact h1 this.2.1.symm

theorem take_no (X : Nat) (vs : List Value) (v : Value) (l : List Ac) (F : Option Addr) (fn fc n : Nat) (hfn : fn < n) (_hn : n ≤ 1099511627776) (w : World) (h : Pl X 1 WT vs v w l) (h0 : vs[0]? = some (.slice F fn fc)) :
    Calls Tryz.prog 78 #[.pointer (some ⟨X, 0, none⟩), .int .i64 n] w fun e w' => e = flt 17 ∧ w = w' := by
  have hc : w.cell? ⟨X, 0, none⟩ = some (.slice F fn fc) := (h.blk.cell 0).trans h0
  have hi : (fn : Int) < n := by omega
  clear h
  go_enter Tryz.func78, Tryz.ntmps78
  go_wp2_with (go_at_call 51; refine (fail_any 17 _).mono ?_; rintro e w1 ⟨rfl, rfl⟩)
  exact ⟨rfl, rfl, rfl⟩

theorem rdI_dropAdd {W : World} {F : Option Addr} {fr : List Int} (h : RdI W F fr) (n : Nat) : RdI W (F.map fun a => a.add n) (fr.drop n) := fun hne => by
  have hne' : fr.map (Value.int .i64) ≠ [] := by
    intro e
    have := congrArg List.length e
    simp at this
    subst this
    simp at hne
  obtain ⟨b, off, rfl, hb, hc⟩ := h hne'
  refine ⟨b, off + n, by simp [Addr.add], hb, fun j u hu => ?_⟩
  rw [Nat.add_assoc]
  refine hc (n + j) u ?_
  rw [← hu, List.getElem?_map, List.getElem?_map, List.getElem?_drop]

/-- What take leaves. -/
def TakeOk (X : Nat) (vs : List Value) (v : Value) (l : List Ac) (F : Option Addr) (fr : List Int) (n : Nat) (w w' : World) (A : Option Addr) (c : Nat) : Prop :=
  ∃ F' d, n ≤ c ∧ (A = none → c = 0) ∧ w'.ownsRow w.heap.size 3 1 (.slice A n c) n (ints (fr.take n)) ∧
    Pl X 1 WT (vs.set 0 (.slice F' (fr.drop n).length d)) v w' l ∧ (fr.drop n).length ≤ d ∧ (F' = none → d = 0) ∧ (∀ W, RdI W F fr → RdI W F' (fr.drop n)) ∧ (∀ a, F' = some a → ∃ b, F = some b ∧ a.block = b.block) ∧ Only X WT w w'

theorem take_ok2 (X : Nat) (vs : List Value) (v : Value) (l : List Ac) (F : Option Addr) (fr : List Int) (fc n : Nat) (hfn : n ≤ fr.length) (hfl : fr.length ≤ 1048576) (hfc : fr.length ≤ fc) (hnil : F = none → fc = 0) (w : World) (h : Pl X 1 WT vs v w l) (h0 : vs[0]? = some (.slice F fr.length fc)) (hfr : RdI w F fr) :
    Calls Tryz.prog 78 #[.pointer (some ⟨X, 0, none⟩), .int .i64 n] w fun e w' => ∃ A c, e = .returned (.slice A n c) ∧ TakeOk X vs v l F fr n w w' A c := by
  have hc : w.cell? ⟨X, 0, none⟩ = some (.slice F fr.length fc) := (h.blk.cell 0).trans h0
  have hX := h.blk.lt
  obtain ⟨f, hf⟩ : ∃ f, fr.length = f := ⟨_, rfl⟩
  have hdl : (fr.drop n).length = f - n := by rw [List.length_drop, hf]
  have htl : (fr.take n).length = n := by rw [List.length_take]; omega
  have HCP : Hid (∀ A c, (A = none → c = 0) → RdI w A (fr.take n) → Calls Tryz.prog 77 #[.slice A n c] w fun e w' => ∃ v, e = .returned v ∧ w'.ownsRow w.heap.size 3 1 v n ((fr.take n).map (Value.int .i64)) ∧ Below w.heap.size w w') := Lib.hid fun A c hA hr => copyI_any A n c (fr.take n) htl hA (by omega) w hr
  have H := Lib.hid h
  have HFR := Lib.hid hfr
  have HDL := Lib.hid hdl
  rw [hf] at hc hfn hfl hfc h0
  have hi : ¬ (f : Int) < n := by omega
  have h0n : (0 : Int) ≤ n := by omega
  have hnf : (n : Int) ≤ f := by omega
  have hnc : (n : Int) ≤ fc := by omega
  have hfci : (f : Int) ≤ fc := by omega
  clear h hfr hdl htl
  go_enter Tryz.func78, Tryz.ntmps78
  go_wp2_with fail
  refine (HCP.out F fc hnil (RdI.take HFR.out n)).mono ?_
  rintro e w1 ⟨u, rfl, hown, hB⟩
  obtain ⟨A, c, rfl, hnc2, hA, _, _⟩ := own_any hown
  have hP1 := H.out.below hB
  have hc1 : w1.cell? ⟨X, 0, none⟩ = some (.slice F f fc) := (hP1.blk.cell 0).trans h0
  have hz1 := hP1.blk.frozen 0
  have HP1 := Lib.hid hP1
  have HO := Lib.hid hown
  clear hP1 hown
  by_cases hfe : fc = n
  · subst hfe
    obtain rfl : f = fc := by omega
    have he : fr.drop f = [] := List.drop_eq_nil_of_le (by omega)
    go_wp2
    go_ret
    obtain ⟨p1, p2⟩ := HP1.out.setOther (i := 0) (y := .slice F (f - f) 0) (by decide) (by decide) (by decide)
    refine ⟨A, c, rfl, F, 0, hnc2, hA, own_stay HO.out ?_, ?_, by rw [he]; simp, fun _ => rfl, fun W _ => by rw [he]; exact RdI.nil _ _, fun a h => ⟨a, h, rfl⟩, (Only.of_below hB (Nat.le_of_lt hX)).trans ?_⟩
    · intro b hb
      have := (HO.out.lt b hb).1
      simp only [World.setCell, Array.getElem?_modify]
      rw [if_neg (by omega)]
    · rw [HDL.out]
      simpa using p1
    · simpa using p2
  · go_wp2
    go_ret
    obtain ⟨p1, p2⟩ := HP1.out.setOther (i := 0) (y := .slice (F.map fun a => a.add n) (f - n) (fc - n)) (by decide) (by decide) (by decide)
    refine ⟨A, c, rfl, F.map fun a => a.add n, fc - n, hnc2, hA, own_stay HO.out ?_, ?_, by rw [HDL.out]; omega, ?_, fun W hr => rdI_dropAdd hr n, ?_, (Only.of_below hB (Nat.le_of_lt hX)).trans p2⟩
    · intro b hb
      have := (HO.out.lt b hb).1
      simp only [World.setCell, Array.getElem?_modify]
      rw [if_neg (by omega)]
    · rw [HDL.out]
      exact p1
    · intro hF
      rcases F with _ | a
      · have := hnil rfl
        omega
      · cases hF
    · intro a h
      rcases F with _ | b
      · cases h
      · injection h with h
        subst h
        exact ⟨b, rfl, by simp only [Addr.add]; split <;> rfl⟩

end Go.Proofs.YtfeeejigedndcaaGreat

namespace Go.Proofs.YtfeeejigedndcaaGreat
open Go.ChangeShapes Go.WideShapes Go.ChangeAt Go.RowKit
set_option maxRecDepth 100000

/-- A step as a value: a store and acts. -/
abbrev stepval (D : Dv) (t f o : Int) (O : Option Addr) (k e : Nat) (I : Option Addr) (j g : Nat) (A : Option Addr) (m c : Nat) : Value := .agg #[.slice D.A D.ps.length D.c, .slice D.B D.ws.length D.d, .int .i64 t, .int .i64 f, .int .i64 o, .slice O k e, .slice I j g, .slice A m c]

abbrev PT : TypeId := 108
theorem blk8 {W : World} {g : Nat} {T : TypeId} {a b c d e f h i : Value} (k : Blk W g T [a, b, c, d, e, f, h, i]) : W.cell? ⟨g, 0, none⟩ = some a ∧ W.cell? ⟨g, 1, none⟩ = some b ∧ W.cell? ⟨g, 2, none⟩ = some c ∧ W.cell? ⟨g, 3, none⟩ = some d ∧ W.cell? ⟨g, 4, none⟩ = some e ∧ W.cell? ⟨g, 5, none⟩ = some f ∧ W.cell? ⟨g, 6, none⟩ = some h ∧ W.cell? ⟨g, 7, none⟩ = some i :=
  ⟨k.cell 0, k.cell 1, k.cell 2, k.cell 3, k.cell 4, k.cell 5, k.cell 6, k.cell 7⟩
/-- A box of eight, laid anew. -/
def set8 (W : World) (R : Nat) (a b c d e f g h : Value) : World := (((((((W.setCell ⟨R, 0, none⟩ a).setCell ⟨R, 1, none⟩ b).setCell ⟨R, 2, none⟩ c).setCell ⟨R, 3, none⟩ d).setCell ⟨R, 4, none⟩ e).setCell ⟨R, 5, none⟩ f).setCell ⟨R, 6, none⟩ g).setCell ⟨R, 7, none⟩ h
theorem set8_blk {W : World} {R : Nat} {T : TypeId} {a b c d e f g h a' b' c' d' e' f' g' h' : Value} (k : Blk W R T [a, b, c, d, e, f, g, h]) : Blk (set8 W R a' b' c' d' e' f' g' h') R T [a', b', c', d', e', f', g', h'] := by
  unfold set8
  exact (((((((k.set 0 a').set 1 b').set 2 c').set 3 d').set 4 e').set 5 f').set 6 g').set 7 h'
theorem set8_heap (W : World) (R : Nat) (a b c d e f g h : Value) : ∀ k, k ≠ R → (set8 W R a b c d e f g h).heap[k]? = W.heap[k]? := fun k hk => by
  simp only [set8, World.setCell, Array.getElem?_modify]
  repeat rw [if_neg (Ne.symm hk)]
theorem set8_size (W : World) (R : Nat) (a b c d e f g h : Value) : (set8 W R a b c d e f g h).heap.size = W.heap.size := by simp [set8]
theorem set8_below (W : World) (n R : Nat) (a b c d e f g h : Value) (hn : n ≤ R) : Below n W (set8 W R a b c d e f g h) := by
  unfold set8
  exact ((((((((Below.refl n W).setCell (p := ⟨R, 0, none⟩) hn _).setCell (p := ⟨R, 1, none⟩) hn _).setCell (p := ⟨R, 2, none⟩) hn _).setCell (p := ⟨R, 3, none⟩) hn _).setCell (p := ⟨R, 4, none⟩) hn _).setCell (p := ⟨R, 5, none⟩) hn _).setCell (p := ⟨R, 6, none⟩) hn _).setCell (p := ⟨R, 7, none⟩) hn _
/-- A device of zeros. -/
theorem new_facts {D : Dv} {n : Nat} (h2 : 2 ≤ n) (h3 : n ≤ 8192) (h : D.st = ⟨List.replicate n z64, []⟩) : D.Fits ∧ D.st.ok ∧ D.ps.length = n ∧ D.ws = [] := by
  have e1 : D.ps.map (·.zs) = List.replicate n z64 := congrArg DS.secs h
  have e2 : D.ws.map Wt.st = [] := congrArg DS.waits h
  have hws : D.ws = [] := by simpa using e2
  have hn : D.ps.length = n := by have := congrArg List.length e1; simpa using this
  have hz : ∀ p ∈ D.ps, p.zs.length = 64 := fun p hp => by
    have : p.zs ∈ List.replicate n z64 := e1 ▸ List.mem_map.2 ⟨p, hp, rfl⟩
    rw [(List.mem_replicate.1 this).2]
    exact z64_length
  refine ⟨⟨by omega, by rw [hws]; simp, fun p hp => by rw [hz p hp]; omega, fun x hx => by rw [hws] at hx; cases hx⟩, ?_, hn, hws⟩
  rw [h]
  refine ⟨by simp; omega, by simp; omega, fun s hs => by rw [(List.mem_replicate.1 hs).2]; exact z64_length, fun x hx => by cases hx⟩

set_option maxHeartbeats 2000000 in
theorem format_ok (n : Nat) (h2 : 2 ≤ n) (h3 : n ≤ 8192) (w : World) :
    Calls Tryz.prog 47 #[.int .i64 n] w fun e w' => ∃ (E : Dv) (A : Option Addr) (c : Nat) (l : List Ac), e = .returned (stepval E 2 0 0 none 0 0 none 0 0 A l.length c) ∧ l.map Ac.st = [(false, 1, (Ub.mk 1 0 0).octs), (false, 0, (Ub.mk 2 0 0).octs), (true, 0, [])] ∧ E.st = doL ⟨List.replicate n z64, []⟩ (l.map Ac.st) ∧ E.Lies w.heap.size w' ∧ Below w.heap.size w w' := by
  have HN := Lib.hid (fun w => new_ok n h2 h3 w)
  go_enter Tryz.func47, Tryz.ntmps47
  have kr : Blk (w.alloc (.cells #[.slice none 0 0, .slice none 0 0, .int .i64 0, .int .i64 0, .int .i64 0, .slice none 0 0, .slice none 0 0, .slice none 0 0] 65)) w.heap.size 65 [.slice none 0 0, .slice none 0 0, .int .i64 0, .int .i64 0, .int .i64 0, .slice none 0 0, .slice none 0 0, .slice none 0 0] := Blk.new w _ _
  have hB1 : Below w.heap.size w (w.alloc (.cells #[.slice none 0 0, .slice none 0 0, .int .i64 0, .int .i64 0, .int .i64 0, .slice none 0 0, .slice none 0 0, .slice none 0 0] 65)) := (Below.refl _ w).alloc (Nat.le_refl _) _
  go_wp2_with fail
  generalize w.alloc (.cells #[.slice none 0 0, .slice none 0 0, .int .i64 0, .int .i64 0, .int .i64 0, .slice none 0 0, .slice none 0 0, .slice none 0 0] 65) = w1 at *
  have HKR := Lib.hid kr
  have hr1 := kr.lt
  clear kr
  refine (HN.out w1).mono ?_
  rintro e w2 ⟨D, rfl, hDst, hDL, hB2⟩
  obtain ⟨hDf, hDok, hDn, hDw⟩ := new_facts h2 h3 hDst
  have HDL := Lib.hid hDL
  have HDST := Lib.hid hDst
  have HDE := Lib.hid (And.intro hDf (And.intro hDok (And.intro hDn hDw)))
  clear hDL hDst hDf hDok hDn hDw
  have hB12 := hB2
  have hs2 := hB2.size
  obtain ⟨DA, ps, dc, DB, ws, dd⟩ := D
  dsimp only [Dv.val, dval] at *
  go_wp2_with fail
  obtain ⟨w3, hw3⟩ : ∃ w3, w2.alloc (.cells #[.slice DA ps.length dc, .slice DB ws.length dd] 27) = w3 := ⟨_, rfl⟩
  have kd : Blk w3 w2.heap.size 27 [.slice DA ps.length dc, .slice DB ws.length dd] := hw3 ▸ Blk.new w2 _ _
  have hB23 : Below w2.heap.size w2 w3 := hw3 ▸ (Below.refl _ _).alloc (Nat.le_refl _) _
  have hd3 := kd.lt
  rw [hw3]
  refine (must_ok w3).mono ?_
  rintro e w3' ⟨rfl, rfl⟩
  have HKD := Lib.hid kd
  clear kd hw3
  go_wp2_with fail
  obtain ⟨w5, hw5⟩ : ∃ w5, (w3.alloc (.cells #[.int .i64 2, .int .i64 0, .int .i64 0] 29)).alloc (.cells #[.slice none 0 0] 108) = w5 := ⟨_, rfl⟩
  have e5 : w5 = allocs w3 [([.int .i64 2, .int .i64 0, .int .i64 0], 29), ([.slice none 0 0], 108)] := by rw [← hw5]; rfl
  have hB35 : Below w3.heap.size w3 w5 := by rw [e5]; exact allocs_below _ _
  have ku : Blk w5 w3.heap.size 29 [.int .i64 2, .int .i64 0, .int .i64 0] := by rw [e5]; exact allocs_blk _ w3 0 rfl
  have kp : Blk w5 (w3.heap.size + 1) 108 [.slice none 0 0] := by rw [e5]; exact allocs_blk _ w3 1 rfl
  have hP5 : Pl (w3.heap.size + 1) 0 PT [.slice none 0 0] (.slice none 0 0) w5 [] := ⟨kp, rfl, ⟨by simp [acCells], .inl ⟨rfl, rfl⟩⟩, fun a ha => by cases ha⟩
  rw [hw5]
  have HKU := Lib.hid ku
  have hp5 := kp.lt
  clear hw5 e5 ku kp
  refine (uberblock_any ⟨1, 0, 0⟩ (by decide) (w3.heap.size + 1) 0 PT (by decide) (by decide) _ _ [] (by simp) w5 hP5).mono ?_
  rintro e w6 ⟨v6, p6, rfl, hz6, hP6, ho6⟩
  have ku6 := ho6.blk HKU.out (by decide) (by decide)
  obtain ⟨u0, u1, u2⟩ := blk3 ku6
  have HKU6 := Lib.hid ku6
  clear ku6
  go_wp2_with fail
  refine (uberblock_any ⟨2, 0, 0⟩ (by decide) (w3.heap.size + 1) 0 PT (by decide) (by decide) _ _ _ (by simp) w6 hP6).mono ?_
  rintro e w7 ⟨v7, p7, rfl, hz7, hP7, ho7⟩
  have ku7 := ho7.blk HKU6.out (by decide) (by decide)
  have HKU7 := Lib.hid ku7
  clear ku7
  go_wp2_with fail
  refine (flush_any (w3.heap.size + 1) 0 PT (by decide) (by decide) _ _ _ (by simp) w7 hP7).mono ?_
  rintro e w8 ⟨v8, rfl, hP8, ho8⟩
  have ho58 := (ho6.trans ho7).trans ho8
  have hB38 : Below w3.heap.size w3 w8 := hB35.trans (ho58.below.mono (Nat.le_succ _))
  have hB28 : Below w2.heap.size w2 w8 := hB23.trans (hB38.mono hB23.size)
  have hB18 : Below w1.heap.size w1 w8 := hB2.trans (hB28.mono hs2)
  have hB08 : Below w.heap.size w w8 := hB1.trans (hB18.mono (by omega))
  have hst8 : ([] ++ [⟨false, (1 : Int) % 2, p6⟩] ++ [⟨false, (2 : Int) % 2, p7⟩] ++ [flushAc] : List Ac).map Ac.st = [(false, 1, (Ub.mk 1 0 0).octs), (false, 0, (Ub.mk 2 0 0).octs), (true, 0, [])] := by
    simp [Ac.st, hz6, hz7, flushAc]
  have hlen8 : ∀ x ∈ ([] ++ [⟨false, (1 : Int) % 2, p6⟩] ++ [⟨false, (2 : Int) % 2, p7⟩] ++ [flushAc] : List Ac), x.p.zs.length ≤ 64 ∧ actE n x.fl x.at_ x.p.zs.length = 0 := by
    intro x hx
    simp only [List.nil_append, List.cons_append, List.mem_cons, List.not_mem_nil, or_false] at hx
    rcases hx with rfl | rfl | rfl
    · dsimp only; rw [hz6, Ub.octs_length]; exact ⟨Nat.le_refl _, by simp [actE, wrtE]; omega⟩
    · dsimp only; rw [hz7, Ub.octs_length]; exact ⟨Nat.le_refl _, by simp [actE, wrtE]; omega⟩
    · simp [actE]
  have hll8 : ([] ++ [⟨false, (1 : Int) % 2, p6⟩] ++ [⟨false, (2 : Int) % 2, p7⟩] ++ [flushAc] : List Ac).length = 3 := rfl
  generalize ([] ++ [⟨false, (1 : Int) % 2, p6⟩] ++ [⟨false, (2 : Int) % 2, p7⟩] ++ [flushAc] : List Ac) = l at *
  have kd8 := HKD.out.below hB38 hd3
  have kr8 := HKR.out.below hB18 hr1
  have ku8 := ho8.blk HKU7.out (by decide) (by decide)
  obtain ⟨hf, hok, hpn, hw0⟩ := HDE.out
  have hP8' := Lib.hid hP8
  have HDO : Hid (∀ W, Below w8.heap.size w8 W → Calls Tryz.prog 57 #[.pointer (some ⟨w3.heap.size + 1, 0, none⟩), .agg #[.slice DA ps.length dc, .slice DB ws.length dd]] W fun e w' => ∃ E : Dv, e = .returned E.val ∧ E.st = doL (Dv.mk DA ps dc DB ws dd).st (l.map Ac.st) ∧ E.Lies W.heap.size w' ∧ Below W.heap.size W w') := Lib.hid fun W hB =>
    (does_any ⟨DA, ps, dc, DB, ws, dd⟩ hf hok (w3.heap.size + 1) 0 PT (by decide) _ v8 l (by omega) (actsE_none fun x hx => by rw [show (Dv.mk DA ps dc DB ws dd).ps.length = n from hpn]; exact (hlen8 x hx).2) hw0 (fun x hx => by have := (hlen8 x hx).1; omega) W (hP8'.out.below hB) ((HDL.out.below (hB28.trans (hB.mono hB28.size))).mono (Nat.zero_le _))).mono fun _ _ ⟨E, h1, h2, h3, h4, _⟩ => ⟨E, h1, h2, h3, h4⟩
  have HS8 : Hid (∀ W, Below w8.heap.size w8 W → (W.cell? ⟨w2.heap.size, 0, none⟩ = some (.slice DA ps.length dc) ∧ W.cell? ⟨w2.heap.size, 1, none⟩ = some (.slice DB ws.length dd)) ∧ (W.cell? ⟨w3.heap.size, 0, none⟩ = some (.int .i64 2) ∧ W.cell? ⟨w3.heap.size, 1, none⟩ = some (.int .i64 0) ∧ W.cell? ⟨w3.heap.size, 2, none⟩ = some (.int .i64 0)) ∧ W.cell? ⟨w3.heap.size + 1, 0, none⟩ = some v8) := Lib.hid fun W hB =>
    ⟨blk2 (kd8.below hB kd8.lt), blk3 (ku8.below hB ku8.lt), ((hP8'.out.below hB).blk.cell 0).trans (hP8'.out.below hB).at_⟩
  obtain ⟨A8, c8, rfl, _, _, _, _⟩ := own_any hP8'.out.row
  have HKR8 := Lib.hid kr8
  have HST := Lib.hid hst8
  clear kd8 kr8 ku8 hP5 hP6 hP7 hP8 ho6 ho7 ho8 hst8 hlen8 u0 u1 u2 hf hok hpn hw0 hll8
  go_wp2_with fail
  have hBd8 : Below w8.heap.size w8 w8.drew := (Below.refl _ _).drew
  refine wp_region_noPanic ?_
  refine wp_region_last 7 (fun W => (W.cell? ⟨w2.heap.size, 0, none⟩ = some (.slice DA ps.length dc) ∧ W.cell? ⟨w2.heap.size, 1, none⟩ = some (.slice DB ws.length dd)) ∧ (W.cell? ⟨w3.heap.size, 0, none⟩ = some (.int .i64 2) ∧ W.cell? ⟨w3.heap.size, 1, none⟩ = some (.int .i64 0) ∧ W.cell? ⟨w3.heap.size, 2, none⟩ = some (.int .i64 0)) ∧ W.cell? ⟨w3.heap.size + 1, 0, none⟩ = some (.slice A8 l.length c8)) (by kernel_rfl) (HS8.out _ hBd8) (fun hHeld => ?_)
  refine wpAnyL_take 12 (i := 0) (oi := ⟨some 20, _, _, _, _, _⟩) (v := ?_) rfl (by kernel_rfl) (by kernel_rfl) (by kernel_rfl) (by kernel_rfl) (by kernel_rfl) (by kernel_rfl) (by kernel_rfl) (fun _ _ _ h => h) (Or.inl ⟨by rfl, ?_⟩) hHeld ?_
  rotate_left
  focus (intro w hSw; (try dsimp only at hSw); go_simp; try (with_reducible rfl))
  try simp only [Act.put, List.setIfInBounds_toArray, List.set_cons_zero, List.set_cons_succ]
  refine wpAnyL_take 12 (i := 2) (oi := ⟨some 22, _, _, _, _, _⟩) (v := ?_) rfl (by kernel_rfl) (by kernel_rfl) (by kernel_rfl) (by kernel_rfl) (by kernel_rfl) (by kernel_rfl) (by kernel_rfl) (fun _ _ _ h => h) (Or.inl ⟨by rfl, ?_⟩) hHeld ?_
  rotate_left
  focus (intro w hSw; (try dsimp only at hSw); go_simp; try (with_reducible rfl))
  try simp only [Act.put, List.setIfInBounds_toArray, List.set_cons_zero, List.set_cons_succ]
  refine wpAnyL_take 12 (i := 4) (oi := ⟨some 24, _, _, _, _, _⟩) (v := ?_) rfl (by kernel_rfl) (by kernel_rfl) (by kernel_rfl) (by kernel_rfl) (by kernel_rfl) (by kernel_rfl) (by kernel_rfl) (fun _ _ _ h => h) (Or.inl ⟨by rfl, ?_⟩) hHeld ?_
  rotate_left
  focus (intro w hSw; (try dsimp only at hSw); go_simp; try (with_reducible rfl))
  try simp only [Act.put, List.setIfInBounds_toArray, List.set_cons_zero, List.set_cons_succ]
  refine wpAnyL_take 12 (i := 5) (oi := ⟨some 25, _, _, _, _, _⟩) (v := ?_) rfl (by kernel_rfl) (by kernel_rfl) (by kernel_rfl) (by kernel_rfl) (by kernel_rfl) (by kernel_rfl) (by kernel_rfl) (fun _ _ _ h => h) (Or.inl ⟨by rfl, ?_⟩) hHeld ?_
  rotate_left
  focus (intro w hSw; (try dsimp only at hSw); go_simp; try (with_reducible rfl))
  try simp only [Act.put, List.setIfInBounds_toArray, List.set_cons_zero, List.set_cons_succ]
  refine wpAnyL_one (i := 1) (o := ⟨some 21, _, _, _, _, _⟩) (by kernel_rfl) rfl (fun K hK => ?_)
  clear hHeld
  go_simp
  refine (HDO.out _ hBd8).mono ?_
  rintro e w9 ⟨E, rfl, hE, hEL, hB9⟩
  have hB89 : Below w8.heap.size w8 w9 := hBd8.trans hB9
  have kr9 := HKR8.out.below hB89 HKR8.out.lt
  obtain ⟨r0, r1, r2, r3, r4, r5, r6, r7⟩ := blk8 kr9
  have f0 := kr9.frozen 0
  have f1 := kr9.frozen 1
  have f2 := kr9.frozen 2
  have f3 := kr9.frozen 3
  have f4 := kr9.frozen 4
  have f5 := kr9.frozen 5
  have f6 := kr9.frozen 6
  have f7 := kr9.frozen 7
  go_wp2_with fail
  refine hK.out _ _ (HS8.out _ hB89) (fun hHeld => ?_)
  clear hK K
  try simp only [Act.put, List.setIfInBounds_toArray, List.set_cons_zero, List.set_cons_succ]
  refine wpAnyL_take 12 (i := 3) (oi := ⟨some 23, _, _, _, _, _⟩) (v := ?_) rfl (by kernel_rfl) (by kernel_rfl) (by kernel_rfl) (by kernel_rfl) (by kernel_rfl) (by kernel_rfl) (by kernel_rfl) (fun _ _ _ h => h) (Or.inl ⟨by rfl, ?_⟩) hHeld ?_
  rotate_left
  focus (intro w hSw; (try dsimp only at hSw); go_simp; try (with_reducible rfl))
  try simp only [Act.put, List.setIfInBounds_toArray, List.set_cons_zero, List.set_cons_succ]
  refine wpAnyL_take 12 (i := 6) (oi := ⟨some 26, _, _, _, _, _⟩) (v := ?_) rfl (by kernel_rfl) (by kernel_rfl) (by kernel_rfl) (by kernel_rfl) (by kernel_rfl) (by kernel_rfl) (by kernel_rfl) (fun _ _ _ h => h) (Or.inl ⟨by rfl, ?_⟩) hHeld ?_
  rotate_left
  focus (intro w hSw; (try dsimp only at hSw); go_simp; try (with_reducible rfl))
  try simp only [Act.put, List.setIfInBounds_toArray, List.set_cons_zero, List.set_cons_succ]
  refine wpAnyL_last (i := 7) (o := ⟨none, _, _, _, _, _⟩) (by kernel_rfl) rfl (by kernel_rfl) (fun K hK => ?_)
  clear hHeld
  go_simp
  go_wp2_with fail
  refine hK.out _ _ ?_
  clear hK K
  try simp only [Act.put, List.setIfInBounds_toArray, List.set_cons_zero, List.set_cons_succ]
  refine wpAnyL_done (by kernel_rfl) ?_ _
  refine NoPanic.normal ?_
  have HE := Lib.hid hE
  have HEL := Lib.hid hEL
  have HK9 := Lib.hid kr9
  clear hE hEL kr9
  obtain ⟨W9, hW9⟩ : ∃ W9, set8 w9 w.heap.size (.slice E.A E.ps.length E.c) (.slice E.B E.ws.length E.d) (.int .i64 2) (.int .i64 0) (.int .i64 0) (.slice none 0 0) (.slice none 0 0) (.slice A8 l.length c8) = W9 := ⟨_, rfl⟩
  have k9 : Blk W9 w.heap.size 65 [.slice E.A E.ps.length E.c, .slice E.B E.ws.length E.d, .int .i64 2, .int .i64 0, .int .i64 0, .slice none 0 0, .slice none 0 0, .slice A8 l.length c8] := hW9 ▸ set8_blk HK9.out
  have hh9 : ∀ k, k ≠ w.heap.size → W9.heap[k]? = w9.heap[k]? := hW9 ▸ set8_heap w9 w.heap.size (.slice E.A E.ps.length E.c) (.slice E.B E.ws.length E.d) (.int .i64 2) (.int .i64 0) (.int .i64 0) (.slice none 0 0) (.slice none 0 0) (.slice A8 l.length c8)
  have hsz9 : W9.heap.size = w9.heap.size := hW9 ▸ set8_size w9 w.heap.size (.slice E.A E.ps.length E.c) (.slice E.B E.ws.length E.d) (.int .i64 2) (.int .i64 0) (.int .i64 0) (.slice none 0 0) (.slice none 0 0) (.slice A8 l.length c8)
  have hB99 : Below w.heap.size w9 W9 := hW9 ▸ set8_below w9 w.heap.size w.heap.size (.slice E.A E.ps.length E.c) (.slice E.B E.ws.length E.d) (.int .i64 2) (.int .i64 0) (.int .i64 0) (.slice none 0 0) (.slice none 0 0) (.slice A8 l.length c8) (Nat.le_refl _)
  dsimp only [set8] at hW9
  have HW9 := Lib.hid hW9
  clear hW9
  go_wp2
  rw [HW9.out]
  obtain ⟨d0, d1, d2, d3, d4, d5, d6, d7⟩ := blk8 k9
  have hBF := (hB08.trans (hB89.mono hB08.size)).trans hB99
  have hs8 := hB18.size
  refine bodyPost_ret (v := stepval E 2 0 0 none 0 0 none 0 0 A8 l.length c8) ?_ rfl ⟨E, A8, c8, l, rfl, HST.out, ?_, ?_, hBF⟩
  · clear hBF hB99 hh9 hsz9
    simp [results, Tryz.results47, go_sem, d0, d1, d2, d3, d4, d5, d6, d7]
  · rw [HE.out, HDST.out]
  · refine Dv.Lies.mono (n := w8.heap.size) ?_ hB08.size
    exact Dv.Lies.stays HEL.out (by rw [hsz9]; exact Nat.le_refl _) fun k h1 h2 => hh9 k (by have h9 : w8.heap.size ≤ k := h1; omega)

end Go.Proofs.YtfeeejigedndcaaGreat
