/-
  The reference's ReadSum reads 32 octets as a sum; of fewer it is ErrShort, of more ErrLong. No conditions but the lengths.
-/
import Derived.Test.YthchpjfnbcjjbaaFV
import Derived.Test.YthchpjfnbcjjbaaFT
import Derived.BigRegion
namespace Go.Proofs.Ythchpjfnbcjjbaa
open Go.ChangeShapes Go.WideShapes Go.ChangeAt Go.RowKit

/-- The four numbers behind k octets. -/
def nums (zs : List Int) (k : Nat) : List Value := [.int .u64 (wp zs 0 (min k 8)), .int .u64 (wp zs 8 (min (k - 8) 8)), .int .u64 (wp zs 16 (min (k - 16) 8)), .int .u64 (wp zs 24 (min (k - 24) 8))]
theorem nums_at (zs : List Int) (k a j : Nat) (ha : a < 4) (hj : j < 8) (hk : k = 8 * a + j) : (nums zs k)[a]? = some (.int .u64 (wp zs (8 * a) j)) := by
  have h : a = 0 ∨ a = 1 ∨ a = 2 ∨ a = 3 := by omega
  rcases h with rfl | rfl | rfl | rfl
  · simp only [nums, List.getElem?_cons_zero]
    rw [show min k 8 = j by omega]
  · simp only [nums, List.getElem?_cons_zero, List.getElem?_cons_succ]
    rw [show min (k - 8) 8 = j by omega]
  · simp only [nums, List.getElem?_cons_zero, List.getElem?_cons_succ]
    rw [show min (k - 16) 8 = j by omega]
  · simp only [nums, List.getElem?_cons_zero, List.getElem?_cons_succ]
    rw [show min (k - 24) 8 = j by omega]
theorem nums_set (zs : List Int) (k a j : Nat) (ha : a < 4) (hj : j < 8) (hk : k = 8 * a + j) : (nums zs k).set a (.int .u64 (wp zs (8 * a) j * 256 + oct zs k)) = nums zs (k + 1) := by
  have e : wp zs (8 * a) j * 256 + oct zs k = wp zs (8 * a) (j + 1) := by rw [wp_in, hk]
  rw [e]
  have h : a = 0 ∨ a = 1 ∨ a = 2 ∨ a = 3 := by omega
  rcases h with rfl | rfl | rfl | rfl
  · simp only [nums, List.set_cons_zero]
    rw [show min (k + 1) 8 = j + 1 by omega, show min (k + 1 - 8) 8 = min (k - 8) 8 by omega, show min (k + 1 - 16) 8 = min (k - 16) 8 by omega, show min (k + 1 - 24) 8 = min (k - 24) 8 by omega]
  · simp only [nums, List.set_cons_zero, List.set_cons_succ]
    rw [show min (k + 1) 8 = min k 8 by omega, show min (k + 1 - 8) 8 = j + 1 by omega, show min (k + 1 - 16) 8 = min (k - 16) 8 by omega, show min (k + 1 - 24) 8 = min (k - 24) 8 by omega]
  · simp only [nums, List.set_cons_zero, List.set_cons_succ]
    rw [show min (k + 1) 8 = min k 8 by omega, show min (k + 1 - 8) 8 = min (k - 8) 8 by omega, show min (k + 1 - 16) 8 = j + 1 by omega, show min (k + 1 - 24) 8 = min (k - 24) 8 by omega]
  · simp only [nums, List.set_cons_zero, List.set_cons_succ]
    rw [show min (k + 1) 8 = min k 8 by omega, show min (k + 1 - 8) 8 = min (k - 8) 8 by omega, show min (k + 1 - 16) 8 = min (k - 16) 8 by omega, show min (k + 1 - 24) 8 = j + 1 by omega]

theorem words_oct (zs : List Int) (h : zs.length = 32) (k : Nat) (hk : k < 8) : oct (words zs) k = word (zs.drop (4 * k)) := by
  rw [oct, words_at zs k (by omega)]
  rfl
theorem nums_all (zs : List Int) (h : zs.length = 32) : nums zs 32 = scells (sumW (words zs)) := by
  simp only [nums, scells, sumW]
  rw [words_oct zs h 0 (by omega), words_oct zs h 1 (by omega), words_oct zs h 2 (by omega), words_oct zs h 3 (by omega), words_oct zs h 4 (by omega), words_oct zs h 5 (by omega), words_oct zs h 6 (by omega), words_oct zs h 7 (by omega)]
  rw [show min 32 8 = 8 by omega, show min (32 - 8) 8 = 8 by omega, show min (32 - 16) 8 = 8 by omega, show min (32 - 24) 8 = 8 by omega, wp8, wp8, wp8, wp8]

set_option maxHeartbeats 2000000 in
theorem readSum_ok (A : Option Addr) (c : Nat) (zs : List Int) (h32 : zs.length = 32) (ho : Octs zs) (w : World) (hr : RdB w A zs) :
    Calls Try.prog 8 #[.slice A 32 c] w fun e w' => e = .returned (readR (sumW (words zs)) 0) ∧ Below w.heap.size w w' := by
  have HR := Lib.hid hr
  have H32 := Lib.hid h32
  clear hr h32
  go_enter Try.func8, Try.ntmps8
  go_wp2
  go_loopw [5] (fun i wr => ∃ k : Nat, k ≤ 32 ∧ i = .int .i64 k ∧ Blk wr (w.heap.size + 1) 44 (nums zs k) ∧ Blk wr w.heap.size 24 (scells zeroS) ∧ Below w.heap.size w wr) (fun i _ => 32 - (intOf i).toNat)
  case atStart =>
    refine ⟨0, by omega, rfl, ?_, ?_, ?_⟩
    · have := Blk.new (w.alloc (.cells (scells zeroS).toArray 24)) (nums zs 0) 44
      rw [World.size_alloc] at this
      exact this
    · exact (Blk.new w (scells zeroS) 24).alloc _
    · exact ((Below.refl _ w).alloc (Nat.le_refl _) _).alloc (by simp) _
  case round =>
    obtain ⟨k, hk, rfl, k1, k0, hB⟩ := hrel
    by_cases hlt : k < 32
    · obtain ⟨b, off, rfl, hb, hc0⟩ := HR.out.cell (k := k) (by rw [H32.out]; exact hlt)
      have hc : wr.cell? ⟨b, off + k, none⟩ = some (.int .u8 (oct zs k)) := (hB.cell (p := ⟨b, off + k, none⟩) hb).trans hc0
      have hz := oct_bd ho k
      obtain ⟨a, j, ha, hj, hkk⟩ : ∃ a j : Nat, a < 4 ∧ j < 8 ∧ k = 8 * a + j := ⟨k / 8, k % 8, by omega, by omega, by omega⟩
      have hx := (k1.cell a).trans (nums_at zs k a j ha hj hkk)
      have hst := k1.set a (.int .u64 (wp zs (8 * a) j * 256 + oct zs k))
      rw [nums_set zs k a j ha hj hkk] at hst
      have hf := k1.frozen a
      have hxb := wp_bd8 ho (8 * a) j hj
      have hkt := k0.other (g' := w.heap.size + 1) (by omega) a (.int .u64 (wp zs (8 * a) j * 256 + oct zs k))
      have HST := Lib.hid hst
      have HKT := Lib.hid hkt
      generalize oct zs k = z at *
      generalize wp zs (8 * a) j = x at *
      have hd : (k : Int) / 8 = a := by omega
      have hd1 : (0 : Int) ≤ a := by omega
      have hd2 : (a : Int) < 4 := by omega
      have hk0 : (0 : Int) ≤ k := by omega
      have hk1 : (k : Int) < 32 := by omega
      have hne : b ≠ w.heap.size + 1 := by omega
      clear hst hkt k0 k1 hc0 hkk
      generalize hW : wr = W at *
      clear hW
      go_wp2
      go_region
      go_wp2
      go_roundw
      case rel => exact ⟨k + 1, by omega, by go_num, HST.out.drew, HKT.out.drew, (hB.setCell (p := ⟨w.heap.size + 1, a, none⟩) (Nat.le_succ _) _).drew⟩
      case measure => simp [intOf]; omega
    · have hke : k = 32 := by omega
      subst hke
      rw [nums_all zs H32.out] at k1
      obtain ⟨t, ht⟩ : ∃ t, sumW (words zs) = t := ⟨_, rfl⟩
      rw [ht] at k1
      have HT := Lib.hid ht
      clear ht
      have c0 := k1.cell 0
      have c1 := k1.cell 1
      have c2 := k1.cell 2
      have c3 := k1.cell 3
      have d0 := k0.cell 0
      have d1 := k0.cell 1
      have d2 := k0.cell 2
      have d3 := k0.cell 3
      have f0 := k0.frozen 0
      have f1 := k0.frozen 1
      have f2 := k0.frozen 2
      have f3 := k0.frozen 3
      simp only [scells, zeroS, List.getElem?_cons_zero, List.getElem?_cons_succ] at c0 c1 c2 c3 d0 d1 d2 d3
      clear k0 k1 HR
      go_wp2
      refine bodyPost_ret (v := readR t 0) (by simp [results, Try.results8, go_sem, d0, d1, d2, d3, readR]) rfl ⟨by rw [HT.out], (((hB.setCell (p := ⟨w.heap.size, 0, none⟩) (Nat.le_refl _) _).setCell (p := ⟨w.heap.size, 1, none⟩) (Nat.le_refl _) _).setCell (p := ⟨w.heap.size, 2, none⟩) (Nat.le_refl _) _).setCell (p := ⟨w.heap.size, 3, none⟩) (Nat.le_refl _) _⟩

set_option maxHeartbeats 400000 in
theorem readSum_short (A : Option Addr) (k c : Nat) (hk : k < 32) (w : World) :
    Calls Try.prog 8 #[.slice A k c] w fun e w' => e = .returned (readR zeroS 8) ∧ Below w.heap.size w w' := by
  go_enter Try.func8, Try.ntmps8
  go_wp2
  refine bodyPost_ret (v := readR zeroS 8) (by simp [results, Try.results8, go_sem, readR, zeroS]) rfl ⟨rfl, ?_⟩
  (repeat (first | with_reducible exact Below.refl _ _ | with_reducible assumption | with_reducible refine Below.drew ?_ | with_reducible refine Below.alloc ?_ ?_ _ | with_reducible refine Below.setCell ?_ ?_ _ | (focus omega) | (focus (simp; done)) | (focus (simp; omega))))

set_option maxHeartbeats 400000 in
theorem readSum_long (A : Option Addr) (k c : Nat) (hk : 32 < k) (hl : k ≤ 140737488351232) (w : World) :
    Calls Try.prog 8 #[.slice A k c] w fun e w' => e = .returned (readR zeroS 5) ∧ Below w.heap.size w w' := by
  go_enter Try.func8, Try.ntmps8
  go_wp2
  refine bodyPost_ret (v := readR zeroS 5) (by simp [results, Try.results8, go_sem, readR, zeroS]) rfl ⟨rfl, ?_⟩
  (repeat (first | with_reducible exact Below.refl _ _ | with_reducible assumption | with_reducible refine Below.drew ?_ | with_reducible refine Below.alloc ?_ ?_ _ | with_reducible refine Below.setCell ?_ ?_ _ | (focus omega) | (focus (simp; done)) | (focus (simp; omega))))

/-- Both read one and the same. -/
theorem reads_same (A : Option Addr) (c : Nat) (zs : List Int) (hl : zs.length ≤ 140737488351232) (hcap : zs.length ≤ c) (ho : Octs zs) : ∃ (r : S4) (er : Int), ∀ w, RdB w A zs →
    (Calls Try.prog 7 #[.slice A zs.length c] w fun e w' => e = .returned (readR r er) ∧ Below w.heap.size w w') ∧
    (Calls Try.prog 8 #[.slice A zs.length c] w fun e w' => e = .returned (readR r er) ∧ Below w.heap.size w w') := by
  by_cases h1 : zs.length < 32
  · exact ⟨zeroS, 8, fun w _ => ⟨read_short A _ c h1 w, readSum_short A _ c h1 w⟩⟩
  · by_cases h2 : 32 < zs.length
    · exact ⟨zeroS, 5, fun w _ => ⟨read_long A _ c h2 hl w, readSum_long A _ c h2 hl w⟩⟩
    · have h3 : zs.length = 32 := by omega
      refine ⟨sumW (words zs), 0, fun w hr => ?_⟩
      rw [h3]
      exact ⟨read_ok A c zs h3 (by omega) ho w hr, readSum_ok A c zs h3 ho w hr⟩

end Go.Proofs.Ythchpjfnbcjjbaa
