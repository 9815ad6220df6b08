/-
  Feed answers the sum behind the words of octets; Of, of zero. Conditions: at most 2^47 - 4096 octets.
-/
import Derived.Test.YthelklgpabjfkaaFB
namespace Go.Proofs.Ythelklgpabjfkaa
open Go.ChangeShapes Go.WideShapes Go.ChangeAt Go.RowKit

/-- A sum's cells. -/
def scells (s : S4) : List Value := [.int .u64 s.A, .int .u64 s.B, .int .u64 s.C, .int .u64 s.D]

theorem wcells_at (xs : List Int) (k : Nat) (h : k < xs.length) : (wcells xs)[k]? = some (.int .u32 xs[k]) := by
  simp [wcells, List.getElem?_map, List.getElem?_eq_getElem h]

theorem feed_take (s : S4) (xs : List Int) (k : Nat) (h : k < xs.length) : feedS s (xs.take (k + 1)) = stepS (feedS s (xs.take k)) xs[k] := by
  rw [List.take_succ_eq_append_getElem h, feedS_snoc]

theorem scells_step (s : S4) (x : Int) : ((((scells s).set 0 (.int .u64 (sA s x))).set 1 (.int .u64 (sB s x))).set 2 (.int .u64 (sC s x))).set 3 (.int .u64 (sD s x)) = scells (stepS s x) := rfl

set_option maxHeartbeats 400000 in
theorem feed_any (s : S4) (A : Option Addr) (c : Nat) (zs : List Int) (hl : zs.length ≤ 140737488351232) (hcap : zs.length ≤ c) (ho : Octs zs) (w : World) (hr : RdB w A zs) :
    Calls Try.prog 30 #[s.val, .slice A zs.length c] w fun e w' => e = .returned (feedS s (words zs)).val ∧ Below w.heap.size w w' := by
  have HR := Lib.hid hr
  clear hr
  have hw2 := fun k h => words_bd ho k h
  have HW2 := Lib.hid hw2
  clear hw2
  have hml : (words zs).length ≤ 35184372087809 := by rw [words_length]; omega
  obtain ⟨xs, hxs⟩ : ∃ xs, words zs = xs := ⟨_, rfl⟩
  have HW1 : ∀ w, RdB w A zs → Calls Try.prog 36 #[.slice A zs.length c] w fun e w' => e = .returned (.slice (some ⟨w.heap.size, 0, none⟩) xs.length xs.length) ∧ Rd w' (some ⟨w.heap.size, 0, none⟩) (wcells xs) ∧ Below w.heap.size w w' := fun w h => by
    rw [← hxs]
    exact words_any A c zs hl hcap ho w h
  have HW := Lib.hid HW1
  rw [hxs] at HW2 hml ⊢
  clear HW1 hxs
  go_enter Try.func30, Try.ntmps30
  go_wp2_with fail
  have hB0 : Below w.heap.size w ((w.alloc (.cells #[.int .u64 s.A, .int .u64 s.B, .int .u64 s.C, .int .u64 s.D] 47)).alloc (.cells #[.int .u64 0, .int .u64 0, .int .u64 0, .int .u64 0] 47)) := ((Below.refl _ w).alloc (Nat.le_refl _) _).alloc (by simp) _
  refine (HW.out _ (HR.out.below hB0)).mono ?_
  rintro e w1 ⟨rfl, hR1, hB1⟩
  have k0 : Blk w1 w.heap.size 47 (scells s) := (((Blk.new w (scells s) 47).alloc _).below hB1 (by simp; omega))
  have k1 : Blk w1 (w.heap.size + 1) 47 (scells ⟨0, 0, 0, 0⟩) := by
    have := (Blk.new (w.alloc (.cells (scells s).toArray 47)) (scells ⟨0, 0, 0, 0⟩) 47)
    rw [World.size_alloc] at this
    exact this.below hB1 (by simp)
  have hB2 : Below w.heap.size w w1 := hB0.trans (hB1.mono (by simp; omega))
  simp only [World.size_alloc] at hR1
  clear hB0 hB1 HR HW
  go_wp2
  go_loopw [10] (fun i wr => ∃ k : Nat, k ≤ xs.length ∧ i = .int .i64 k ∧ Blk wr w.heap.size 47 (scells (feedS s (xs.take k))) ∧ Blk wr (w.heap.size + 1) 47 (scells ⟨0, 0, 0, 0⟩) ∧ Rd wr (some ⟨w.heap.size + 1 + 1, 0, none⟩) (wcells xs) ∧ Below w.heap.size w wr) (fun i _ => xs.length - (intOf i).toNat)
  case atStart =>
    exact ⟨0, Nat.zero_le _, rfl, k0, k1, hR1, hB2⟩
  case round =>
    clear k0 k1 hR1 hB2
    obtain ⟨k, hk, rfl, k0, k1, hR, hB⟩ := hrel
    by_cases hlt : k < xs.length
    · obtain ⟨hx0, hx1⟩ := HW2.out k hlt
      obtain ⟨b, off, e, hb, hc⟩ := hR (by intro h; have := congrArg List.length h; simp [wcells] at this; subst this; simp at hlt)
      injection e with e
      injection e with e1 e2
      subst e1 e2
      have hcx := hc k _ (wcells_at xs k hlt)
      rw [Nat.zero_add] at hcx
      have hft := feed_take s xs k hlt
      have HFT := Lib.hid hft
      have HK0 := Lib.hid k0
      have HK1 := Lib.hid k1
      have HRR := Lib.hid hR
      have c0 := k0.cell 0
      have c1 := k0.cell 1
      have c2 := k0.cell 2
      have c3 := k0.cell 3
      have f0 := k0.frozen 0
      have f1 := k0.frozen 1
      have f2 := k0.frozen 2
      have f3 := k0.frozen 3
      clear hft k0 k1 hR hc
      generalize xs[k] = x at *
      generalize feedS s (xs.take k) = t at *
      simp only [scells, List.getElem?_cons_zero, List.getElem?_cons_succ] at c0 c1 c2 c3
      go_wp2
      go_roundw
      case rel =>
        refine ⟨k + 1, by omega, by go_num, ?_, (((HK1.out.other (by omega) _ _).other (by omega) _ _).other (by omega) _ _).other (by omega) _ _, (((HRR.out.other (by omega) _ _).other (by omega) _ _).other (by omega) _ _).other (by omega) _ _, (((hB.setCell (p := ⟨w.heap.size, 0, none⟩) (Nat.le_refl _) _).setCell (p := ⟨w.heap.size, 1, none⟩) (Nat.le_refl _) _).setCell (p := ⟨w.heap.size, 2, none⟩) (Nat.le_refl _) _).setCell (p := ⟨w.heap.size, 3, none⟩) (Nat.le_refl _) _⟩
        rw [HFT.out, ← scells_step]
        exact (((HK0.out.set 0 _).set 1 _).set 2 _).set 3 _
      case measure => simp [intOf]; omega
    · have hke : k = xs.length := by omega
      subst hke
      rw [List.take_length] at k0
      obtain ⟨t, ht⟩ : ∃ t, feedS s xs = t := ⟨_, rfl⟩
      rw [ht] at k0
      have HT := Lib.hid ht
      clear ht
      have c0 := k0.cell 0
      have c1 := k0.cell 1
      have c2 := k0.cell 2
      have c3 := k0.cell 3
      have d0 := k1.cell 0
      have d1 := k1.cell 1
      have d2 := k1.cell 2
      have d3 := k1.cell 3
      have f0 := k1.frozen 0
      have f1 := k1.frozen 1
      have f2 := k1.frozen 2
      have f3 := k1.frozen 3
      simp only [scells, List.getElem?_cons_zero, List.getElem?_cons_succ] at c0 c1 c2 c3 d0 d1 d2 d3
      have HK0 := Lib.hid k0
      have HK1 := Lib.hid k1
      clear k0 k1 hR
      go_wp2
      refine bodyPost_ret (v := t.val) (by simp [results, Try.results30, go_sem, d0, d1, d2, d3]) rfl ⟨by rw [HT.out], (((hB.setCell (p := ⟨w.heap.size + 1, 0, none⟩) (Nat.le_succ _) _).setCell (p := ⟨w.heap.size + 1, 1, none⟩) (Nat.le_succ _) _).setCell (p := ⟨w.heap.size + 1, 2, none⟩) (Nat.le_succ _) _).setCell (p := ⟨w.heap.size + 1, 3, none⟩) (Nat.le_succ _) _⟩

end Go.Proofs.Ythelklgpabjfkaa
