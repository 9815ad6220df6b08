/-
  The reference's Feed answers the sum behind the words of octets. Conditions: at most 2^47 - 4096 octets.
-/
import Derived.Test.YtmehjmkakkiedaaGreatMFV
import Derived.Test.YtmehjmkakkiedaaGreatMFM
import Derived.RegionTactic
namespace Go.Proofs.YtmehjmkakkiedaaGreat
open Go.ChangeShapes Go.WideShapes Go.ChangeAt Go.RowKit
set_option maxRecDepth 100000

theorem own_slice' {w : World} {base : Nat} {e : TypeId} {v : Value} {n : Nat} {xs : List Value} (h : w.ownsRow base e 1 v n xs) : ∃ A c, v = .slice A n c ∧ n ≤ c ∧ Rd w A xs ∧ (∀ a, A = some a → base ≤ a.block) := by
  rcases h.2 with ⟨rfl, rfl⟩ | ⟨g, cap, cur, rfl, hb, _, hc, _⟩
  · exact ⟨none, 0, rfl, Nat.le_refl _, Rd.of_own h, fun a e => by cases e⟩
  · exact ⟨_, cap, rfl, hc, Rd.of_own h, fun a e => by injection e with e; subst e; exact hb⟩
theorem Rd.drew' {w : World} {A : Option Addr} {vs : List Value} (h : Rd w A vs) : Rd w.drew A vs := h.below (Below.refl _ w).drew
theorem Rd.other' {w : World} {A : Option Addr} {vs : List Value} {base : Nat} (h : Rd w A vs) (hA : ∀ a, A = some a → base ≤ a.block) {g' : Nat} (hg : g' < base) (j : Nat) (u : Value) : Rd (w.setCell ⟨g', j, none⟩ u) A vs := by
  rcases A with _ | ⟨b, off, sp⟩
  · intro hv
    obtain ⟨_, _, e, _⟩ := h hv
    cases e
  · intro hv
    obtain ⟨b', off', e, _, _⟩ := h hv
    injection e with e
    injection e with e1 e2 e3
    subst e1 e2 e3
    have := hA _ rfl
    exact h.other (by simp at this; omega) j u hv

set_option maxHeartbeats 1000000 in
theorem refFeed_any (s : S4) (A : Option Addr) (c : Nat) (zs : List Int) (hl : zs.length ≤ 140737488351232) (ho : Octs zs) (w : World) (hr : RdB w A zs) :
    Calls Tryz.prog 66 #[s.val, .slice A zs.length c] w fun e w' => e = .returned (feedS s (words zs)).val ∧ Below w.heap.size w w' := by
  have HR := Lib.hid hr
  clear hr
  have hw2 := fun k h => words_bd ho k h
  have HW2 := Lib.hid hw2
  clear hw2
  have hml : (words zs).length ≤ 35184372087809 := by rw [words_length]; omega
  obtain ⟨xs, hxs⟩ : ∃ xs, words zs = xs := ⟨_, rfl⟩
  have HW1 : ∀ w, RdB w A zs → Calls Tryz.prog 92 #[.slice A zs.length c] w fun e w' => ∃ v, e = .returned v ∧ w'.ownsRow w.heap.size 169 1 v xs.length (wcells xs) ∧ Below w.heap.size w w' := fun w h => by
    rw [← hxs]
    exact refWords_any A c zs hl ho w h
  have HW := Lib.hid HW1
  rw [hxs] at HW2 hml ⊢
  clear HW1 hxs
  go_enter Tryz.func66, Tryz.ntmps66
  go_wp2_with fail
  have hB0 : Below w.heap.size w ((w.alloc (.cells #[.int .u64 s.A, .int .u64 s.B, .int .u64 s.C, .int .u64 s.D] 129)).alloc (.cells #[.int .u64 0, .int .u64 0, .int .u64 0, .int .u64 0] 129)) := ((Below.refl _ w).alloc (Nat.le_refl _) _).alloc (by simp) _
  refine (HW.out _ (HR.out.below hB0)).mono ?_
  rintro e w1 ⟨v1, rfl, hown1, hB1⟩
  obtain ⟨A1, c1, rfl, hc1, hR1, hA1⟩ := own_slice' hown1
  have k0 : Blk w1 w.heap.size 129 (scells s) := (((Blk.new w (scells s) 129).alloc _).below hB1 (by simp; omega))
  have k1 : Blk w1 (w.heap.size + 1) 129 (scells ⟨0, 0, 0, 0⟩) := by
    have := (Blk.new (w.alloc (.cells (scells s).toArray 129)) (scells ⟨0, 0, 0, 0⟩) 129)
    rw [World.size_alloc] at this
    exact this.below hB1 (by simp)
  have hB2 : Below w.heap.size w w1 := hB0.trans (hB1.mono (by simp; omega))
  simp only [World.size_alloc] at hA1
  have HA1 := Lib.hid hA1
  clear hB0 hB1 HR HW hown1 hA1
  go_wp2
  go_loopw [6] (fun i wr => ∃ k : Nat, k ≤ xs.length ∧ i = .int .i64 k ∧ Blk wr w.heap.size 129 (scells (feedS s (xs.take k))) ∧ Blk wr (w.heap.size + 1) 129 (scells ⟨0, 0, 0, 0⟩) ∧ Rd wr A1 (wcells xs) ∧ Below w.heap.size w wr) (fun i _ => xs.length - (intOf i).toNat)
  case atStart =>
    exact ⟨0, Nat.zero_le _, rfl, k0, k1, hR1, hB2⟩
  case round =>
    clear k0 k1 hR1 hB2
    obtain ⟨k, hk, rfl, k0, k1, hR, hB⟩ := hrel
    by_cases hlt : k < xs.length
    · obtain ⟨hx0, hx1⟩ := HW2.out k hlt
      obtain ⟨b, off, e, hb, hc⟩ := hR (by intro h; have := congrArg List.length h; simp [wcells] at this; subst this; simp at hlt)
      have HRR := Lib.hid hR
      subst e
      have hcx := hc k _ (wcells_at xs k hlt)
      have hft := feed_take s xs k hlt
      have HFT := Lib.hid hft
      have HK0 := Lib.hid k0
      have HK1 := Lib.hid k1
      have c0 := k0.cell 0
      have c1' := k0.cell 1
      have c2 := k0.cell 2
      have c3 := k0.cell 3
      have f0 := k0.frozen 0
      have f1 := k0.frozen 1
      have f2 := k0.frozen 2
      have f3 := k0.frozen 3
      clear hft k0 k1 hR hc
      generalize xs[k] = x at *
      generalize feedS s (xs.take k) = t at *
      simp only [scells, List.getElem?_cons_zero, List.getElem?_cons_succ] at c0 c1' c2 c3
      go_wp2
      go_region
      go_wp2
      go_roundw
      case rel =>
        refine ⟨k + 1, by omega, by go_num, ?_, ?_, ?_, ?_⟩
        · rw [HFT.out, ← scells_step]
          exact (((HK0.out.set 0 _).set 1 _).set 2 _).set 3 _
        · exact (((HK1.out.other (by omega) _ _).other (by omega) _ _).other (by omega) _ _).other (by omega) _ _
        · exact Rd.drew' ((((HRR.out.other' HA1.out (by omega) _ _).other' HA1.out (by omega) _ _).other' HA1.out (by omega) _ _).other' HA1.out (by omega) _ _)
        · exact ((((hB.setCell (p := ⟨w.heap.size, 0, none⟩) (Nat.le_refl _) _).setCell (p := ⟨w.heap.size, 1, none⟩) (Nat.le_refl _) _).setCell (p := ⟨w.heap.size, 2, none⟩) (Nat.le_refl _) _).setCell (p := ⟨w.heap.size, 3, none⟩) (Nat.le_refl _) _).drew
      case measure => simp [intOf]; omega
    · have hke : k = xs.length := by omega
      subst hke
      rw [List.take_length] at k0
      obtain ⟨t, ht⟩ : ∃ t, feedS s xs = t := ⟨_, rfl⟩
      rw [ht] at k0
      have HT := Lib.hid ht
      clear ht
      have c0 := k0.cell 0
      have c1' := k0.cell 1
      have c2 := k0.cell 2
      have c3 := k0.cell 3
      have d0 := k1.cell 0
      have d1 := k1.cell 1
      have d2 := k1.cell 2
      have d3 := k1.cell 3
      have f0 := k1.frozen 0
      have f1 := k1.frozen 1
      have f2 := k1.frozen 2
      have f3 := k1.frozen 3
      simp only [scells, List.getElem?_cons_zero, List.getElem?_cons_succ] at c0 c1' c2 c3 d0 d1 d2 d3
      clear k0 k1 hR
      go_wp2
      refine bodyPost_ret (v := t.val) (by simp [results, Tryz.results66, go_sem, d0, d1, d2, d3]) rfl ⟨by rw [HT.out], (((hB.setCell (p := ⟨w.heap.size + 1, 0, none⟩) (Nat.le_succ _) _).setCell (p := ⟨w.heap.size + 1, 1, none⟩) (Nat.le_succ _) _).setCell (p := ⟨w.heap.size + 1, 2, none⟩) (Nat.le_succ _) _).setCell (p := ⟨w.heap.size + 1, 3, none⟩) (Nat.le_succ _) _⟩

end Go.Proofs.YtmehjmkakkiedaaGreat
