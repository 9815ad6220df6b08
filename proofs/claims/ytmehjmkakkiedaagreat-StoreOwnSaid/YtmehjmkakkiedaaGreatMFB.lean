/-
  Words answers the words of octets. Conditions: at most 2^47 - 4096 octets.
-/
import Derived.Test.YtmehjmkakkiedaaGreatMFA
import Derived.LoopTactic
namespace Go.Proofs.YtmehjmkakkiedaaGreat
open Go.ChangeShapes Go.WideShapes Go.ChangeAt Go.RowKit
set_option maxRecDepth 100000

theorem info34 : (Tryz.prog.info? 169).map (fun i => (i.zero, i.size, i.bytes)) = some (some (.int .u32 0), 1, 4) := by kernel_rfl

theorem firstWord_at (A : Option Addr) (n c : Nat) (zs : List Int) (hn : zs.length = n) (ho : Octs zs) (w : World) (hr : RdB w A zs) :
    Calls Tryz.prog 138 #[.slice A n c] w fun e w' => e = .returned (.int .u32 (word zs)) ∧ Below w.heap.size w w' := by
  subst hn
  exact firstWord_any A c zs ho w hr

theorem rdB_drop {w : World} {b off : Nat} {zs : List Int} (h : RdB w (some ⟨b, off, none⟩) zs) (n : Nat) : RdB w (some ⟨b, off + n, none⟩) (zs.drop n) := fun hne => by
  obtain ⟨b', off', e, hb, hc⟩ := h (by intro e; rw [List.map_eq_nil_iff] at e; subst e; simp at hne)
  injection e with e
  injection e with e1 e2
  subst e1 e2
  refine ⟨b, off + n, rfl, hb, fun j u hu => ?_⟩
  rw [Nat.add_assoc]
  refine hc (n + j) u ?_
  rw [List.getElem?_map, List.getElem?_drop] at hu
  rw [List.getElem?_map]
  exact hu

theorem cell_one_new (w : World) (x : Value) (t : TypeId) : ∀ j u, [x][j]? = some u → (w.alloc (.cells #[x] t)).cell? ((⟨w.heap.size, 0, none⟩ : Addr).add j) = some u := by
  intro j u h
  rw [add_plain, cell_of_row (w.alloc (.cells #[x] t)) w.heap.size (0 + j) #[x] t (0, 0) (heap_alloc_new w _)]
  rw [Nat.zero_add]
  simpa using h

/-- The words, as cells. -/
def wcells (xs : List Int) : List Value := xs.map (Value.int .u32)

set_option maxHeartbeats 400000 in
theorem words_any (A : Option Addr) (c : Nat) (zs : List Int) (hl : zs.length ≤ 140737488351232) (hcap : zs.length ≤ c) (ho : Octs zs) (w : World) (hr : RdB w A zs) :
    Calls Tryz.prog 133 #[.slice A zs.length c] w fun e w' => e = .returned (.slice (some ⟨w.heap.size, 0, none⟩) (words zs).length (words zs).length) ∧ Rd w' (some ⟨w.heap.size, 0, none⟩) (wcells (words zs)) ∧ Below w.heap.size w w' := by
  obtain ⟨i0, hi, hz0, hz1, hz2⟩ := info_parts info34
  obtain ⟨m, hm⟩ : ∃ m, (words zs).length = m := ⟨_, rfl⟩
  have hm1 : zs.length ≤ 4 * m := by rw [words_length] at hm; omega
  have hm2 : 4 * m < zs.length + 4 := by rw [words_length] at hm; omega
  rw [hm]
  have HM := Lib.hid hm
  have HR := Lib.hid hr
  clear hm hr
  go_enter Tryz.func133, Tryz.ntmps133
  go_wp2_with (at_make; refine wpList_make_own _ rfl _ _ 167 rfl w.heap.size 169 i0 (.int .u32 0) 1 Tryz.underlying167 hi hz0 hz1 .i64 .i64 _ m rfl rfl (by omega) (by rw [hz2]; omega) (by unfold maxLen; omega) (Nat.le_refl _) ?_; intro w0 hown0 hgrow0)
  go_loopw [3, 4] (fun v i wr => ∃ k : Nat, k ≤ m ∧ i = .int .i64 (4 * k) ∧ v = .slice (some ⟨w.heap.size, 0, none⟩) k m ∧ wr.ownsRow w.heap.size 169 1 (.slice (some ⟨w.heap.size, 0, none⟩) k m) k (wcells ((words zs).take k)) ∧ Below w.heap.size w wr) (fun _ i _ => 4 * m - (intOf i).toNat)
  case atStart =>
    exact ⟨0, Nat.zero_le _, rfl, rfl, hown0, (Below.refl _ w).grown hgrow0 (Nat.le_refl _) (fun _ h => by cases h)⟩
  case round =>
    obtain ⟨k, hk, rfl, rfl, hown, hB⟩ := hrel
    by_cases hlt : 4 * k < zs.length
    · obtain ⟨b, off, rfl, hb, _⟩ := HR.out.cell hlt
      have hr1 := (rdB_drop HR.out (4 * k)).below hB
      have HR1 := Lib.hid hr1
      have hd : decide (c < 4 * k) = false := by simp; omega
      have hne : c ≠ 4 * k := by omega
      clear hr1
      have hkm : k < m := by omega
      have hs := words_snoc zs k (by have := HM.out; rw [words_length] at this; omega)
      have hws : wcells ((words zs).take k) ++ [.int .u32 (word (zs.drop (4 * k)))] = wcells ((words zs).take (k + 1)) := by
        rw [hs]
        simp [wcells]
      have HWS := Lib.hid hws
      clear hs hws
      go_wp2_with fail
      refine (firstWord_at _ _ _ (zs.drop (4 * k)) (by simp) (ho.drop _) _ HR1.out).mono ?_
      rintro e w1 ⟨rfl, hB1⟩
      have hown1 : w1.ownsRow w.heap.size 169 1 (.slice (some ⟨w.heap.size, 0, none⟩) k m) k (wcells ((words zs).take k)) := own_below hown hB1 (Nat.le_refl _)
      have hBw : Below w.heap.size w w1 := hB.trans (hB1.mono hB.size)
      generalize word (zs.drop (4 * k)) = x at *
      generalize wcells ((words zs).take k) = cs at *
      go_wp2_with (at_builtin; refine wpList_append_fits _ rfl _ _ 167 rfl w.heap.size 169 i0 1 Tryz.underlying167 hi hz1 w.heap.size k m cs rfl (by exact hown1.alloc _) ⟨w1.heap.size, 0, none⟩ 1 1 [.int .u32 x] rfl rfl (by exact cell_one_new _ _ _) (by simp [Value.oneCell']) (by omega) ?_; intro w2 hown2 hgrow2)
      have hB2 : Below w.heap.size w w2 := (hBw.alloc hBw.size _).grown hgrow2 (by have := hBw.size; simp; omega) (fun j e => by cases e; exact Nat.le_refl _)
      clear hgrow2
      rw [HWS.out] at hown2
      go_roundw
      case rel => exact ⟨k + 1, by omega, congrArg (Value.int .i64) (by omega), rfl, hown2, hB2⟩
      case measure => simp [intOf]; omega
    · have hke : k = m := by omega
      subst hke
      go_wp2
      go_ret
      refine ⟨rfl, ?_, hB⟩
      have := Rd.of_own hown
      rw [← HM.out, List.take_length] at this
      exact this

end Go.Proofs.YtmehjmkakkiedaaGreat

namespace Go.Proofs.YtmehjmkakkiedaaGreat
open Go.ChangeShapes Go.WideShapes Go.ChangeAt Go.RowKit
set_option maxRecDepth 100000

/-- A sum's cells. -/
def scells (s : S4) : List Value := [.int .u64 s.A, .int .u64 s.B, .int .u64 s.C, .int .u64 s.D]

theorem wcells_at (xs : List Int) (k : Nat) (h : k < xs.length) : (wcells xs)[k]? = some (.int .u32 xs[k]) := by
  simp [wcells, List.getElem?_map, List.getElem?_eq_getElem h]

theorem feed_take (s : S4) (xs : List Int) (k : Nat) (h : k < xs.length) : feedS s (xs.take (k + 1)) = stepS (feedS s (xs.take k)) xs[k] := by
  rw [List.take_succ_eq_append_getElem h, feedS_snoc]

theorem scells_step (s : S4) (x : Int) : ((((scells s).set 0 (.int .u64 (sA s x))).set 1 (.int .u64 (sB s x))).set 2 (.int .u64 (sC s x))).set 3 (.int .u64 (sD s x)) = scells (stepS s x) := rfl

set_option maxHeartbeats 400000 in
theorem feed_any (s : S4) (A : Option Addr) (c : Nat) (zs : List Int) (hl : zs.length ≤ 140737488351232) (hcap : zs.length ≤ c) (ho : Octs zs) (w : World) (hr : RdB w A zs) :
    Calls Tryz.prog 124 #[s.val, .slice A zs.length c] w fun e w' => e = .returned (feedS s (words zs)).val ∧ Below w.heap.size w w' := by
  have HR := Lib.hid hr
  clear hr
  have hw2 := fun k h => words_bd ho k h
  have HW2 := Lib.hid hw2
  clear hw2
  have hml : (words zs).length ≤ 35184372087809 := by rw [words_length]; omega
  obtain ⟨xs, hxs⟩ : ∃ xs, words zs = xs := ⟨_, rfl⟩
  have HW1 : ∀ w, RdB w A zs → Calls Tryz.prog 133 #[.slice A zs.length c] w fun e w' => e = .returned (.slice (some ⟨w.heap.size, 0, none⟩) xs.length xs.length) ∧ Rd w' (some ⟨w.heap.size, 0, none⟩) (wcells xs) ∧ Below w.heap.size w w' := fun w h => by
    rw [← hxs]
    exact words_any A c zs hl hcap ho w h
  have HW := Lib.hid HW1
  rw [hxs] at HW2 hml ⊢
  clear HW1 hxs
  go_enter Tryz.func124, Tryz.ntmps124
  go_wp2_with fail
  have hB0 : Below w.heap.size w ((w.alloc (.cells #[.int .u64 s.A, .int .u64 s.B, .int .u64 s.C, .int .u64 s.D] 129)).alloc (.cells #[.int .u64 0, .int .u64 0, .int .u64 0, .int .u64 0] 129)) := ((Below.refl _ w).alloc (Nat.le_refl _) _).alloc (by simp) _
  refine (HW.out _ (HR.out.below hB0)).mono ?_
  rintro e w1 ⟨rfl, hR1, hB1⟩
  have k0 : Blk w1 w.heap.size 129 (scells s) := (((Blk.new w (scells s) 129).alloc _).below hB1 (by simp; omega))
  have k1 : Blk w1 (w.heap.size + 1) 129 (scells ⟨0, 0, 0, 0⟩) := by
    have := (Blk.new (w.alloc (.cells (scells s).toArray 129)) (scells ⟨0, 0, 0, 0⟩) 129)
    rw [World.size_alloc] at this
    exact this.below hB1 (by simp)
  have hB2 : Below w.heap.size w w1 := hB0.trans (hB1.mono (by simp; omega))
  simp only [World.size_alloc] at hR1
  clear hB0 hB1 HR HW
  go_wp2
  go_loopw [10] (fun i wr => ∃ k : Nat, k ≤ xs.length ∧ i = .int .i64 k ∧ Blk wr w.heap.size 129 (scells (feedS s (xs.take k))) ∧ Blk wr (w.heap.size + 1) 129 (scells ⟨0, 0, 0, 0⟩) ∧ Rd wr (some ⟨w.heap.size + 1 + 1, 0, none⟩) (wcells xs) ∧ Below w.heap.size w wr) (fun i _ => xs.length - (intOf i).toNat)
  case atStart =>
    exact ⟨0, Nat.zero_le _, rfl, k0, k1, hR1, hB2⟩
  case round =>
    clear k0 k1 hR1 hB2
    obtain ⟨k, hk, rfl, k0, k1, hR, hB⟩ := hrel
    by_cases hlt : k < xs.length
    · obtain ⟨hx0, hx1⟩ := HW2.out k hlt
      obtain ⟨b, off, e, hb, hc⟩ := hR (by intro h; have := congrArg List.length h; simp [wcells] at this; subst this; simp at hlt)
      injection e with e
      injection e with e1 e2
      subst e1 e2
      have hcx := hc k _ (wcells_at xs k hlt)
      rw [Nat.zero_add] at hcx
      have hft := feed_take s xs k hlt
      have HFT := Lib.hid hft
      have HK0 := Lib.hid k0
      have HK1 := Lib.hid k1
      have HRR := Lib.hid hR
      have c0 := k0.cell 0
      have c1 := k0.cell 1
      have c2 := k0.cell 2
      have c3 := k0.cell 3
      have f0 := k0.frozen 0
      have f1 := k0.frozen 1
      have f2 := k0.frozen 2
      have f3 := k0.frozen 3
      clear hft k0 k1 hR hc
      generalize xs[k] = x at *
      generalize feedS s (xs.take k) = t at *
      simp only [scells, List.getElem?_cons_zero, List.getElem?_cons_succ] at c0 c1 c2 c3
      go_wp2
      go_roundw
      case rel =>
        refine ⟨k + 1, by omega, by go_num, ?_, (((HK1.out.other (by omega) _ _).other (by omega) _ _).other (by omega) _ _).other (by omega) _ _, (((HRR.out.other (by omega) _ _).other (by omega) _ _).other (by omega) _ _).other (by omega) _ _, (((hB.setCell (p := ⟨w.heap.size, 0, none⟩) (Nat.le_refl _) _).setCell (p := ⟨w.heap.size, 1, none⟩) (Nat.le_refl _) _).setCell (p := ⟨w.heap.size, 2, none⟩) (Nat.le_refl _) _).setCell (p := ⟨w.heap.size, 3, none⟩) (Nat.le_refl _) _⟩
        rw [HFT.out, ← scells_step]
        exact (((HK0.out.set 0 _).set 1 _).set 2 _).set 3 _
      case measure => simp [intOf]; omega
    · have hke : k = xs.length := by omega
      subst hke
      rw [List.take_length] at k0
      obtain ⟨t, ht⟩ : ∃ t, feedS s xs = t := ⟨_, rfl⟩
      rw [ht] at k0
      have HT := Lib.hid ht
      clear ht
      have c0 := k0.cell 0
      have c1 := k0.cell 1
      have c2 := k0.cell 2
      have c3 := k0.cell 3
      have d0 := k1.cell 0
      have d1 := k1.cell 1
      have d2 := k1.cell 2
      have d3 := k1.cell 3
      have f0 := k1.frozen 0
      have f1 := k1.frozen 1
      have f2 := k1.frozen 2
      have f3 := k1.frozen 3
      simp only [scells, List.getElem?_cons_zero, List.getElem?_cons_succ] at c0 c1 c2 c3 d0 d1 d2 d3
      have HK0 := Lib.hid k0
      have HK1 := Lib.hid k1
      clear k0 k1 hR
      go_wp2
      refine bodyPost_ret (v := t.val) (by simp [results, Tryz.results124, go_sem, d0, d1, d2, d3]) rfl ⟨by rw [HT.out], (((hB.setCell (p := ⟨w.heap.size + 1, 0, none⟩) (Nat.le_succ _) _).setCell (p := ⟨w.heap.size + 1, 1, none⟩) (Nat.le_succ _) _).setCell (p := ⟨w.heap.size + 1, 2, none⟩) (Nat.le_succ _) _).setCell (p := ⟨w.heap.size + 1, 3, none⟩) (Nat.le_succ _) _⟩

end Go.Proofs.YtmehjmkakkiedaaGreat

namespace Go.Proofs.YtmehjmkakkiedaaGreat
open Go.ChangeShapes Go.WideShapes Go.ChangeAt Go.RowKit
set_option maxRecDepth 100000

/-- The sum of nothing. -/
def zeroS : S4 := ⟨0, 0, 0, 0⟩

theorem feed_at (s : S4) (A : Option Addr) (n c : Nat) (zs : List Int) (hn : zs.length = n) (hl : n ≤ 140737488351232) (hcap : n ≤ c) (ho : Octs zs) (w : World) (hr : RdB w A zs) :
    Calls Tryz.prog 124 #[s.val, .slice A n c] w fun e w' => e = .returned (feedS s (words zs)).val ∧ Below w.heap.size w w' := by
  subst hn
  exact feed_any s A c zs hl hcap ho w hr

set_option maxHeartbeats 400000 in
theorem of_any (A : Option Addr) (n c : Nat) (zs : List Int) (hn : zs.length = n) (hl : n ≤ 140737488351232) (hcap : n ≤ c) (ho : Octs zs) (w : World) (hr : RdB w A zs) :
    Calls Tryz.prog 106 #[.slice A n c] w fun e w' => e = .returned (feedS zeroS (words zs)).val ∧ Below w.heap.size w w' := by
  have HR := Lib.hid hr
  have HN := Lib.hid hn
  clear hr hn
  obtain ⟨t, ht⟩ : ∃ t, feedS zeroS (words zs) = t := ⟨_, rfl⟩
  have HF1 : ∀ w, RdB w A zs → Calls Tryz.prog 124 #[.agg #[.int .u64 0, .int .u64 0, .int .u64 0, .int .u64 0], .slice A n c] w fun e w' => e = .returned t.val ∧ Below w.heap.size w w' := fun w h => by
    rw [← ht]
    exact feed_at zeroS A n c zs HN.out hl hcap ho w h
  have HF := Lib.hid HF1
  rw [ht]
  clear HF1 ht
  go_enter Tryz.func106, Tryz.ntmps106
  go_wp2_with fail
  have hB0 : Below w.heap.size w (w.alloc (.cells #[.int .u64 0, .int .u64 0, .int .u64 0, .int .u64 0] 129)) := (Below.refl _ w).alloc (Nat.le_refl _) _
  refine (HF.out _ (HR.out.below hB0)).mono ?_
  rintro e w1 ⟨rfl, hB1⟩
  have k1 : Blk w1 w.heap.size 129 (scells zeroS) := (Blk.new w (scells zeroS) 129).below hB1 (by simp)
  have hB : Below w.heap.size w w1 := hB0.trans (hB1.mono (by simp))
  have d0 := k1.cell 0
  have d1 := k1.cell 1
  have d2 := k1.cell 2
  have d3 := k1.cell 3
  have f0 := k1.frozen 0
  have f1 := k1.frozen 1
  have f2 := k1.frozen 2
  have f3 := k1.frozen 3
  simp only [scells, zeroS, List.getElem?_cons_zero, List.getElem?_cons_succ] at d0 d1 d2 d3
  clear k1 hB0 hB1 HF HR HN
  go_wp2
  refine bodyPost_ret (v := t.val) (by simp [results, Tryz.results106, go_sem, d0, d1, d2, d3]) rfl ⟨rfl, (((hB.setCell (p := ⟨w.heap.size, 0, none⟩) (Nat.le_refl _) _).setCell (p := ⟨w.heap.size, 1, none⟩) (Nat.le_refl _) _).setCell (p := ⟨w.heap.size, 2, none⟩) (Nat.le_refl _) _).setCell (p := ⟨w.heap.size, 3, none⟩) (Nat.le_refl _) _⟩

/-- Octets, as cells. -/
def octCells (zs : List Int) : List Value := zs.map (Value.int .u8)
theorem octCells_length (zs : List Int) : (octCells zs).length = zs.length := by simp [octCells]
theorem octCells_one (zs : List Int) : ∀ u ∈ octCells zs, u.oneCell' = true := fun u hu => by
  obtain ⟨z, _, rfl⟩ := List.mem_map.1 hu
  rfl

theorem own_plain {w : World} {base : Nat} {e : TypeId} {v : Value} {n : Nat} {xs : List Value} (h : w.ownsRow base e 1 v (0 + n) ([] ++ xs)) : w.ownsRow base e 1 v n xs := by
  rw [Nat.zero_add, List.nil_append] at h
  exact h

/-- The cells of a sum, and what lay, stay. -/
theorem held4 {W W' : World} {g : Nat} {a b c d : Value} (hg : g < W.heap.size) (h0 : W.cell? ⟨g, 0, none⟩ = some a) (h1 : W.cell? ⟨g, 1, none⟩ = some b) (h2 : W.cell? ⟨g, 2, none⟩ = some c) (h3 : W.cell? ⟨g, 3, none⟩ = some d) (hB : Below W.heap.size W W') :
    W'.cell? ⟨g, 0, none⟩ = some a ∧ W'.cell? ⟨g, 1, none⟩ = some b ∧ W'.cell? ⟨g, 2, none⟩ = some c ∧ W'.cell? ⟨g, 3, none⟩ = some d ∧ Below W.heap.size W W' :=
  ⟨(hB.cell (p := ⟨g, 0, none⟩) hg).trans h0, (hB.cell (p := ⟨g, 1, none⟩) hg).trans h1, (hB.cell (p := ⟨g, 2, none⟩) hg).trans h2, (hB.cell (p := ⟨g, 3, none⟩) hg).trans h3, hB⟩

end Go.Proofs.YtmehjmkakkiedaaGreat
