/-
  Crash answers the device behind a loss of all that waits but what is kept. Conditions: its lengths are a machine's.
-/
import Derived.Test.YtddkalcgijeldaaDVH
import Derived.Test.YtddkalcgijeldaaDVB
namespace Go.Proofs.Ytddkalcgijeldaa
open Go.ChangeShapes Go.WideShapes Go.ChangeAt Go.RowKit Go.Shelf

theorem Dv.Lies.reads {n : Nat} {W : World} {D : Dv} (h : D.Lies n W) : Rd W D.A (ptCells D.ps) ∧ Rd W D.B (wtCells D.ws) := ⟨h.secs.1, h.waits.1⟩

set_option maxHeartbeats 1000000 in
set_option maxRecDepth 100000 in
theorem crash_no (D : Dv) (hf : D.Fits) (hok : ¬ D.st.ok) (KA : Option Addr) (kn kc : Nat) (w : World) (hD : D.Lies 0 w) :
    Calls Try.prog 16 #[D.val, .slice KA kn kc] w fun e w' => e = .returned (ansD noD 9) ∧ Below w.heap.size w w' := by
  have HC := Lib.hid (fun w h1 h2 => check_no D hf hok w h1 h2)
  have HD := Lib.hid hD
  clear hD hok hf
  go_enter Try.func16, Try.ntmps16
  go_wp2_with fail
  obtain ⟨W0, hW0⟩ : ∃ W0, (((w.alloc (.cells #[.slice D.A D.ps.length D.c, .slice D.B D.ws.length D.d] 29)).alloc (.cells #[.slice KA kn kc] 23)).alloc (.cells #[.slice none 0 0, .slice none 0 0] 29)) = W0 := ⟨_, rfl⟩
  rw [hW0]
  have hB0 : Below w.heap.size w W0 := by rw [← hW0]; exact allocs_below [([.slice D.A D.ps.length D.c, .slice D.B D.ws.length D.d], 29), ([.slice KA kn kc], 23), ([.slice none 0 0, .slice none 0 0], 29)] w
  have k2 : Blk W0 (w.heap.size + 2) 29 [.slice none 0 0, .slice none 0 0] := by rw [← hW0]; exact allocs_blk [([.slice D.A D.ps.length D.c, .slice D.B D.ws.length D.d], 29), ([.slice KA kn kc], 23), ([.slice none 0 0, .slice none 0 0], 29)] w 2 rfl
  refine (HC.out W0 (HD.out.below hB0).reads.1 (HD.out.below hB0).reads.2).mono ?_
  rintro e w1 ⟨rfl, hB1⟩
  have k2 := k2.below hB1 k2.lt
  have hc0 := k2.cell 0
  have hc1 := k2.cell 1
  have hf0 := k2.frozen 0
  have hf1 := k2.frozen 1
  simp only [List.getElem?_cons_zero, List.getElem?_cons_succ] at hc0 hc1
  have hB01 : Below w.heap.size w w1 := hB0.trans (hB1.mono hB0.size)
  clear k2 hW0 hB0 hB1
  go_wp2
  refine bodyPost_ret (v := ansD noD 9) ?_ rfl ?_
  · simp [results, Try.results16, go_sem, hc0, hc1]
  · exact ⟨rfl, (hB01.setCell (p := ⟨w.heap.size + 2, 0, none⟩) (by show w.heap.size ≤ w.heap.size + 2; omega) _).setCell (p := ⟨w.heap.size + 2, 1, none⟩) (by show w.heap.size ≤ w.heap.size + 2; omega) _⟩

set_option maxHeartbeats 1000000 in
set_option maxRecDepth 100000 in
theorem crash_ok (D : Dv) (hf : D.Fits) (hok : D.st.ok) (KA : Option Addr) (bs : List Bool) (kc : Nat) (w : World) (hD : D.Lies 0 w) (hk : Rd w KA (bcl bs)) :
    Calls Try.prog 16 #[D.val, .slice KA bs.length kc] w fun e w' => ∃ E : Dv, e = .returned (ansD E.val 0) ∧ E.st = ⟨applyW D.st.secs (keptL bs 0 D.st.waits), []⟩ ∧ E.Lies w.heap.size w' ∧ Below w.heap.size w w' := by
  have HC := Lib.hid (fun w h1 h2 => check_ok D hf hok w h1 h2)
  have HCL := Lib.hid (fun w h => clone_dev D hok hf w h)
  have HD := Lib.hid hD
  have HK := Lib.hid hk
  have HOK := Lib.hid hok
  have hm := hf.m
  clear hD hok hf hk
  go_enter Try.func16, Try.ntmps16
  go_wp2_with fail
  obtain ⟨W0, hW0⟩ : ∃ W0, (((w.alloc (.cells #[.slice D.A D.ps.length D.c, .slice D.B D.ws.length D.d] 29)).alloc (.cells #[.slice KA bs.length kc] 23)).alloc (.cells #[.slice none 0 0, .slice none 0 0] 29)) = W0 := ⟨_, rfl⟩
  rw [hW0]
  have hB0 : Below w.heap.size w W0 := by rw [← hW0]; exact allocs_below [([.slice D.A D.ps.length D.c, .slice D.B D.ws.length D.d], 29), ([.slice KA bs.length kc], 23), ([.slice none 0 0, .slice none 0 0], 29)] w
  have k0 : Blk W0 w.heap.size 29 [.slice D.A D.ps.length D.c, .slice D.B D.ws.length D.d] := by rw [← hW0]; exact allocs_blk [([.slice D.A D.ps.length D.c, .slice D.B D.ws.length D.d], 29), ([.slice KA bs.length kc], 23), ([.slice none 0 0, .slice none 0 0], 29)] w 0 rfl
  have k1 : Blk W0 (w.heap.size + 1) 23 [.slice KA bs.length kc] := by rw [← hW0]; exact allocs_blk [([.slice D.A D.ps.length D.c, .slice D.B D.ws.length D.d], 29), ([.slice KA bs.length kc], 23), ([.slice none 0 0, .slice none 0 0], 29)] w 1 rfl
  have k2 : Blk W0 (w.heap.size + 2) 29 [.slice none 0 0, .slice none 0 0] := by rw [← hW0]; exact allocs_blk [([.slice D.A D.ps.length D.c, .slice D.B D.ws.length D.d], 29), ([.slice KA bs.length kc], 23), ([.slice none 0 0, .slice none 0 0], 29)] w 2 rfl
  refine (HC.out W0 (HD.out.below hB0).reads.1 (HD.out.below hB0).reads.2).mono ?_
  rintro e w1 ⟨rfl, hB1⟩
  have hB01 : Below w.heap.size w w1 := hB0.trans (hB1.mono hB0.size)
  have hlt2 := k2.lt
  have k0 := k0.below hB1 k0.lt
  have k1 := k1.below hB1 k1.lt
  have k2 := k2.below hB1 k2.lt
  have hs1 := hB1.size
  have hc0 := k0.cell 0
  have hc1 := k0.cell 1
  simp only [List.getElem?_cons_zero, List.getElem?_cons_succ] at hc0 hc1
  have K1 := Lib.hid k1
  have K2 := Lib.hid k2
  clear k0 k1 k2 hW0 hB1
  go_wp2_with fail
  refine (HCL.out w1 (HD.out.below hB01)).mono ?_
  rintro e w2 ⟨E, lo, hi, rfl, hst, hO, hB2⟩
  have hHB2 := Lib.hid hB2
  have hlo : w1.heap.size ≤ lo := hO.base
  have hok2 : E.st.ok := by rw [hst]; exact HOK.out
  have hml : E.ws.length ≤ 4398046511104 := by
    have := congrArg (fun s : DS => s.waits.length) hst
    simp only [Dv.st, List.length_map] at this
    omega
  have hkr : Rd w2 KA (bcl bs) := (HK.out.below hB01).below (hB2.mono (Nat.le_refl _))
  have HST := Lib.hid hst
  have HO := Lib.hid hO
  have HSE := Lib.hid (settle_kept E w1.heap.size lo hi w2 hO hok2 hml (w.heap.size + 1) KA bs kc (by omega) ((K1.out.below hB2 (by omega)).cell 0) hkr (fun hv a e => by
    obtain ⟨b, off, e', hb, _⟩ := HK.out hv
    rw [e] at e'
    injection e' with e'
    subst e'
    have := hB01.size
    show b < lo
    omega))
  clear hst hO hB2 hkr
  go_wp2_with fail
  refine HSE.out.mono ?_
  rintro e w3 ⟨F, rfl, hst3, hO3, hw3⟩
  have HST3 := Lib.hid hst3
  have HO3 := Lib.hid hO3
  have k2 : Blk w3 (w.heap.size + 2) 29 [.slice none 0 0, .slice none 0 0] := (hw3.block _ (by have := hHB2.out.size; omega) (.inl (by omega))).trans (K2.out.below hHB2.out (by omega))
  have hB3 : Below w.heap.size w w3 := (hB01.trans (hHB2.out.mono hB01.size)).trans (hw3.below (by have := hHB2.out.size; have := hB01.size; omega) (by have := hB01.size; omega))
  have hc0 := k2.cell 0
  have hc1 := k2.cell 1
  have hf0 := k2.frozen 0
  have hf1 := k2.frozen 1
  simp only [List.getElem?_cons_zero, List.getElem?_cons_succ] at hc0 hc1
  clear hst3 hO3 k2
  go_wp2
  refine bodyPost_ret (v := ansD F.val 0) ?_ rfl ?_
  · simp [results, Try.results16, go_sem, hc0, hc1]
  · have hst' : ∀ (u v : Value) (b : Nat), b ≠ w.heap.size + 2 → ((w3.setCell ⟨w.heap.size + 2, 0, none⟩ u).setCell ⟨w.heap.size + 2, 1, none⟩ v).heap[b]? = w3.heap[b]? := fun u v b hb => (heap_setCell_other _ _ b _ hb).trans (heap_setCell_other _ _ b _ hb)
    refine ⟨F, rfl, ?_, ?_, (hB3.setCell (p := ⟨w.heap.size + 2, 0, none⟩) (by show w.heap.size ≤ w.heap.size + 2; omega) _).setCell (p := ⟨w.heap.size + 2, 1, none⟩) (by show w.heap.size ≤ w.heap.size + 2; omega) _⟩
    · rw [HST3.out, HST.out]
    · have := HO3.out.lies.stays (W' := (w3.setCell ⟨w.heap.size + 2, 0, none⟩ (.slice F.A F.ps.length F.c)).setCell ⟨w.heap.size + 2, 1, none⟩ (.slice F.B F.ws.length F.d)) (by simp) (fun k h1 _ => hst' _ _ _ (by omega))
      exact this.mono (by have := hB01.size; omega)

end Go.Proofs.Ytddkalcgijeldaa
