/-
  bytes.Clone and cloneWrite answer copies in new memory. Conditions: from 1 to 2^47 octets.
-/
import Derived.Test.YtddkalcgijeldaaDVM
import Derived.Deep.RegionHeld3
import Derived.WalkSpells
namespace Go.Proofs.Ytddkalcgijeldaa
open Go.ChangeShapes Go.WideShapes Go.ChangeAt Go.RowKit

theorem dinfo8 : (Try.prog.info? 5).map (fun i => (i.zero, i.size, i.bytes)) = some (some (.int .u8 0), 1, 1) := by kernel_rfl
theorem dinfo_parts {P : Program} {t : TypeId} {z : Option Value} {a b : Nat} (h : (P.info? t).map (fun i => (i.zero, i.size, i.bytes)) = some (z, a, b)) : ∃ i, P.info? t = some i ∧ i.zero = z ∧ i.size = a ∧ i.bytes = b := by
  rcases hi : P.info? t with _ | i
  · rw [hi] at h; cases h
  · rw [hi] at h
    simp at h
    exact ⟨i, rfl, h.1, h.2.1, h.2.2⟩
theorem own_bare {w : World} {base : Nat} {e : TypeId} {size : Nat} {v : Value} {n : Nat} {xs : List Value} (h : w.ownsRow base e size v (0 + n) ([] ++ xs)) : w.ownsRow base e size v n xs := by
  rw [Nat.zero_add, List.nil_append] at h
  exact h

set_option maxHeartbeats 400000 in
theorem clone_any (A : Option Addr) (n c : Nat) (zs : List Int) (hn : zs.length = n) (h0 : 0 < n) (hl : n ≤ 140737488351232) (w : World) (hr : Rd w A (ocl zs)) :
    Calls Try.prog 37 #[.slice A n c] w fun e w' => ∃ g cap, e = .returned (.slice (some ⟨g, 0, none⟩) n cap) ∧ w'.ownsRow w.heap.size 5 1 (.slice (some ⟨g, 0, none⟩) n cap) n (ocl zs) ∧ Below w.heap.size w w' := by
  obtain ⟨i0, hi, hz0, hz1, hz2⟩ := dinfo_parts dinfo8
  have q22 : ∀ (w : World) (a : Option Addr) (n c n' c' : Nat), (binOp .eql 34 (.slice a n c) (.slice none n' c')).run Try.prog w = .ok (.bool a.isNone) w := fun w a n c n' c' => Lib.run_eql_slice_nil w _ _ a n c n' c' Try.underlying34
  obtain ⟨b, off, hA, hb, hc⟩ := hr (by intro h; have := congrArg List.length h; rw [ocl_length] at this; rw [this] at hn; simp at hn; omega)
  have HR := Lib.hid hr
  have HN := Lib.hid hn
  clear hr hc hn
  subst hA
  have hno : (w.alloc (.cells #[] 5)).ownsRow w.heap.size 5 1 (.slice (some ⟨w.heap.size, 0, none⟩) 0 0) 0 [] := ⟨rfl, .inr ⟨_, _, #[], rfl, Nat.le_refl _, heap_alloc_new w _, Nat.le_refl _, by simp, rfl, rfl⟩⟩
  have HNO := Lib.hid hno
  have hB0 : Below w.heap.size w (w.alloc (.cells #[] 5)) := (Below.refl _ w).alloc (Nat.le_refl _) _
  have H1 := Lib.hid (ocl_one zs)
  clear hno
  go_enter Try.func37, Try.ntmps37
  go_wp2_with (at_builtin; refine wpList_append_rd (o := ⟨some 7, _, _, _, _, _⟩) rfl _ _ 34 rfl w.heap.size 5 i0 (.int .u8 0) 1 Try.underlying34 hi hz0 hz1 hz2 rfl (.slice (some ⟨w.heap.size, 0, none⟩) 0 0) 0 [] rfl HNO.out (some ⟨b, off, none⟩) n c (ocl zs) rfl (by rw [ocl_length]; exact HN.out) (Rd.below HR.out hB0) (fun e => by cases e) H1.out (by unfold maxLen; omega) (by omega) (by simp) ?_; intro v2 w2 hown2 hgrow2)
  obtain ⟨g, cap, hv, hg, hlt⟩ := (own_bare hown2).form h0
  subst hv
  have HO := Lib.hid (own_bare hown2)
  clear hown2
  go_wp2
  go_ret
  exact ⟨g, cap, rfl, HO.out, hB0.grown hgrow2 hB0.size (fun j e => by simp [Value.ownBlock] at e; omega)⟩

/-- A row stays behind a store elsewhere. -/
theorem own_set {W : World} {base size k : Nat} {e : TypeId} {v : Value} {xs : List Value} (h : W.ownsRow base e size v k xs) (g o : Nat) (u : Value) (hg : ∀ b, v.ownBlock = some b → b ≠ g) : (W.setCell ⟨g, o, none⟩ u).ownsRow base e size v k xs := by
  rcases h with ⟨h1, h2 | ⟨b, cap, cur, rfl, hb, hh, h3⟩⟩
  · exact ⟨h1, .inl h2⟩
  · exact ⟨h1, .inr ⟨b, cap, cur, rfl, hb, (heap_setCell_other W ⟨g, o, none⟩ b u (hg b rfl)).trans hh, h3⟩⟩
theorem own_base {W : World} {base base' size k : Nat} {e : TypeId} {v : Value} {xs : List Value} (h : W.ownsRow base e size v k xs) (hb : base' ≤ base) : W.ownsRow base' e size v k xs := by
  rcases h with ⟨h1, h2 | ⟨b, cap, cur, rfl, h4, hh, h3⟩⟩
  · exact ⟨h1, .inl h2⟩
  · exact ⟨h1, .inr ⟨b, cap, cur, rfl, Nat.le_trans hb h4, hh, h3⟩⟩

/-- Two cells of a block, and what lay, stay. -/
theorem held2 {W W' : World} {g n : Nat} {a b : Value} (hg : g < n) (h0 : W.cell? ⟨g, 0, none⟩ = some a) (h1 : W.cell? ⟨g, 1, none⟩ = some b) (hB : Below n W W') :
    W'.cell? ⟨g, 0, none⟩ = some a ∧ W'.cell? ⟨g, 1, none⟩ = some b ∧ Below n W W' :=
  ⟨(hB.cell (p := ⟨g, 0, none⟩) hg).trans h0, (hB.cell (p := ⟨g, 1, none⟩) hg).trans h1, hB⟩

set_option maxHeartbeats 1000000 in
theorem cloneWrite_any (at_ : Int) (A : Option Addr) (n c : Nat) (zs : List Int) (hn : zs.length = n) (h0 : 0 < n) (hl : n ≤ 140737488351232) (w : World) (hr : Rd w A (ocl zs)) :
    Calls Try.prog 32 #[wval at_ A n c] w fun e w' => ∃ g cap, e = .returned (wval at_ (some ⟨g, 0, none⟩) n cap) ∧ w'.ownsRow w.heap.size 5 1 (.slice (some ⟨g, 0, none⟩) n cap) n (ocl zs) ∧ Below w.heap.size w w' := by
  have HC := Lib.hid (fun w h => clone_any A n c zs hn h0 hl w h)
  have HR := Lib.hid hr
  clear hr hn
  go_enter Try.func32, Try.ntmps32
  go_wp2_with fail
  obtain ⟨w0, hw0⟩ : ∃ w0, (w.alloc (.cells #[.int .i64 at_, .slice A n c] 45)).alloc (.cells #[.int .i64 0, .slice none 0 0] 45) = w0 := ⟨_, rfl⟩
  have hB0 : Below w.heap.size w w0 := hw0 ▸ ((Below.refl _ w).alloc (Nat.le_refl _) _).alloc (by simp) _
  have kb : Blk w0 w.heap.size 45 [.int .i64 at_, .slice A n c] := hw0 ▸ (Blk.new w [.int .i64 at_, .slice A n c] 45).alloc _
  have kc : Blk w0 (w.heap.size + 1) 45 [.int .i64 0, .slice none 0 0] := by
    have := Blk.new (w.alloc (.cells #[.int .i64 at_, .slice A n c] 45)) [.int .i64 0, .slice none 0 0] 45
    rw [World.size_alloc] at this
    exact hw0 ▸ this
  rw [hw0]
  have hc0 := kb.cell 0
  have hc1 := kb.cell 1
  have hbl := kb.lt
  simp only [List.getElem?_cons_zero, List.getElem?_cons_succ] at hc0 hc1
  have hBr : Below w0.heap.size w0 w0 := Below.refl _ _
  have hBs : Below (w.heap.size + 1) w0 w0 := Below.refl _ _
  have HKC := Lib.hid kc
  clear hw0 kb kc
  go_region_held3 (fun w' => w'.cell? ⟨w.heap.size, 0, none⟩ = some (.int .i64 at_) ∧ w'.cell? ⟨w.heap.size, 1, none⟩ = some (.slice A n c) ∧ Below (w.heap.size + 1) w0 w')
    (first | exact held2 (Nat.lt_succ_self _) hc0 hc1 (by (repeat (first | with_reducible exact Below.refl _ _ | with_reducible assumption | with_reducible refine Below.drew ?_ | with_reducible refine Below.alloc ?_ ?_ _ | with_reducible refine Below.setCell ?_ ?_ _ | (focus omega) | (focus (simp; done)) | (focus (simp; omega))))))
    (first | (go_at_call 37; ((with_reducible refine (HC.out _ (Rd.below (Rd.below HR.out hB0) hBr.drew)).mono ?_); rintro e w1 ⟨g, cap, rfl, hown, hB1⟩; have hBw0 : Below w0.heap.size w0 w1 := hBr.drew.trans hB1; have hBw1 : Below (w.heap.size + 1) w0 w1 := hBw0.mono hbl; have hs1 := hBw1.size; have HO := Lib.hid hown; have kc1 := HKC.out.below hBw0 HKC.out.lt; have d0 := kc1.cell 0; have d1 := kc1.cell 1; have f0 := kc1.frozen 0; have f1 := kc1.frozen 1; clear hown hB1 kc1)))
  go_wp2
  simp only [List.getElem?_cons_zero, List.getElem?_cons_succ] at d0 d1
  have hgb := (HO.out.lt g rfl).1
  refine bodyPost_ret (v := wval at_ (some ⟨g, 0, none⟩) n cap) (by simp [results, Try.results32, go_sem, d0, d1]) rfl ⟨g, cap, rfl, ?_, ?_⟩
  · refine own_set (own_set (own_base HO.out hB0.size) _ _ _ ?_) _ _ _ ?_
    all_goals
      intro b hb
      simp [Value.ownBlock] at hb
      simp at hgb
      have := HKC.out.lt
      omega
  · exact (((hB0.trans (hBw1.mono (by omega))).setCell (p := ⟨w.heap.size + 1, 0, none⟩) (Nat.le_succ _) _).setCell (p := ⟨w.heap.size + 1, 1, none⟩) (Nat.le_succ _) _)

end Go.Proofs.Ytddkalcgijeldaa
