/-
  Of answers the sum of octets. Conditions: at most 2^47 - 4096 octets.
-/
import Derived.Test.YthelklgpabjfkaaFC
namespace Go.Proofs.Ythelklgpabjfkaa
open Go.ChangeShapes Go.WideShapes Go.ChangeAt Go.RowKit

/-- The sum of nothing. -/
def zeroS : S4 := ⟨0, 0, 0, 0⟩

theorem feed_at (s : S4) (A : Option Addr) (n c : Nat) (zs : List Int) (hn : zs.length = n) (hl : n ≤ 140737488351232) (hcap : n ≤ c) (ho : Octs zs) (w : World) (hr : RdB w A zs) :
    Calls Try.prog 30 #[s.val, .slice A n c] w fun e w' => e = .returned (feedS s (words zs)).val ∧ Below w.heap.size w w' := by
  subst hn
  exact feed_any s A c zs hl hcap ho w hr

set_option maxHeartbeats 400000 in
theorem of_any (A : Option Addr) (n c : Nat) (zs : List Int) (hn : zs.length = n) (hl : n ≤ 140737488351232) (hcap : n ≤ c) (ho : Octs zs) (w : World) (hr : RdB w A zs) :
    Calls Try.prog 20 #[.slice A n c] w fun e w' => e = .returned (feedS zeroS (words zs)).val ∧ Below w.heap.size w w' := by
  have HR := Lib.hid hr
  have HN := Lib.hid hn
  clear hr hn
  obtain ⟨t, ht⟩ : ∃ t, feedS zeroS (words zs) = t := ⟨_, rfl⟩
  have HF1 : ∀ w, RdB w A zs → Calls Try.prog 30 #[.agg #[.int .u64 0, .int .u64 0, .int .u64 0, .int .u64 0], .slice A n c] w fun e w' => e = .returned t.val ∧ Below w.heap.size w w' := fun w h => by
    rw [← ht]
    exact feed_at zeroS A n c zs HN.out hl hcap ho w h
  have HF := Lib.hid HF1
  rw [ht]
  clear HF1 ht
  go_enter Try.func20, Try.ntmps20
  go_wp2_with fail
  have hB0 : Below w.heap.size w (w.alloc (.cells #[.int .u64 0, .int .u64 0, .int .u64 0, .int .u64 0] 47)) := (Below.refl _ w).alloc (Nat.le_refl _) _
  refine (HF.out _ (HR.out.below hB0)).mono ?_
  rintro e w1 ⟨rfl, hB1⟩
  have k1 : Blk w1 w.heap.size 47 (scells zeroS) := (Blk.new w (scells zeroS) 47).below hB1 (by simp)
  have hB : Below w.heap.size w w1 := hB0.trans (hB1.mono (by simp))
  have d0 := k1.cell 0
  have d1 := k1.cell 1
  have d2 := k1.cell 2
  have d3 := k1.cell 3
  have f0 := k1.frozen 0
  have f1 := k1.frozen 1
  have f2 := k1.frozen 2
  have f3 := k1.frozen 3
  simp only [scells, zeroS, List.getElem?_cons_zero, List.getElem?_cons_succ] at d0 d1 d2 d3
  clear k1 hB0 hB1 HF HR HN
  go_wp2
  refine bodyPost_ret (v := t.val) (by simp [results, Try.results20, go_sem, d0, d1, d2, d3]) rfl ⟨rfl, (((hB.setCell (p := ⟨w.heap.size, 0, none⟩) (Nat.le_refl _) _).setCell (p := ⟨w.heap.size, 1, none⟩) (Nat.le_refl _) _).setCell (p := ⟨w.heap.size, 2, none⟩) (Nat.le_refl _) _).setCell (p := ⟨w.heap.size, 3, none⟩) (Nat.le_refl _) _⟩

/-- Octets, as cells. -/
def octCells (zs : List Int) : List Value := zs.map (Value.int .u8)
theorem octCells_length (zs : List Int) : (octCells zs).length = zs.length := by simp [octCells]
theorem octCells_one (zs : List Int) : ∀ u ∈ octCells zs, u.oneCell' = true := fun u hu => by
  obtain ⟨z, _, rfl⟩ := List.mem_map.1 hu
  rfl

theorem own_plain {w : World} {base : Nat} {e : TypeId} {v : Value} {n : Nat} {xs : List Value} (h : w.ownsRow base e 1 v (0 + n) ([] ++ xs)) : w.ownsRow base e 1 v n xs := by
  rw [Nat.zero_add, List.nil_append] at h
  exact h

/-- The cells of a sum, and what lay, stay. -/
theorem held4 {W W' : World} {g : Nat} {a b c d : Value} (hg : g < W.heap.size) (h0 : W.cell? ⟨g, 0, none⟩ = some a) (h1 : W.cell? ⟨g, 1, none⟩ = some b) (h2 : W.cell? ⟨g, 2, none⟩ = some c) (h3 : W.cell? ⟨g, 3, none⟩ = some d) (hB : Below W.heap.size W W') :
    W'.cell? ⟨g, 0, none⟩ = some a ∧ W'.cell? ⟨g, 1, none⟩ = some b ∧ W'.cell? ⟨g, 2, none⟩ = some c ∧ W'.cell? ⟨g, 3, none⟩ = some d ∧ Below W.heap.size W W' :=
  ⟨(hB.cell (p := ⟨g, 0, none⟩) hg).trans h0, (hB.cell (p := ⟨g, 1, none⟩) hg).trans h1, (hB.cell (p := ⟨g, 2, none⟩) hg).trans h2, (hB.cell (p := ⟨g, 3, none⟩) hg).trans h3, hB⟩

end Go.Proofs.Ythelklgpabjfkaa
