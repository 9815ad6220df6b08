/-
  Read of a sum's octets is the sum; of fewer octets than 32 it is ErrShort, of more ErrLong. No conditions but the lengths.
-/
import Derived.Test.YthchpjfnbcjjbaaFR
import Derived.StillTailTactics
namespace Go.Proofs.Ythchpjfnbcjjbaa
open Go.ChangeShapes Go.WideShapes Go.ChangeAt Go.RowKit

theorem or_part (h l : Int) (h0 : 0 ≤ h ∧ h < 4294967296) (l0 : 0 ≤ l ∧ l < 4294967296) : bits BinOp.or IntKind.u64 (h * 4294967296) l = h * 4294967296 + l := by
  obtain ⟨a, rfl⟩ := Int.eq_ofNat_of_zero_le h0.1
  obtain ⟨b, rfl⟩ := Int.eq_ofNat_of_zero_le l0.1
  rw [show ((a : Int) * 4294967296) = ((a * 4294967296 : Nat) : Int) by omega, u64_or_nat (a * 4294967296) b (by omega) (by omega), or_low2 b a 32 4294967296 (by decide) (by omega)]
  omega

set_option maxHeartbeats 400000 in
theorem part_any (h l : Int) (h0 : 0 ≤ h ∧ h < 4294967296) (l0 : 0 ≤ l ∧ l < 4294967296) (w : World) :
    Calls Try.prog 18 #[.int .u32 h, .int .u32 l] w fun e w' => e = .returned (.int .u64 (h * 4294967296 + l)) ∧ w = w' := by
  have ho := or_part h l h0 l0
  have HO := Lib.hid ho
  clear ho
  go_enter Try.func18, Try.ntmps18
  go_wp2
  go_ret
  refine ⟨?_, rfl⟩
  rw [← HO.out]
  rfl

/-- What eight words make. -/
def sumW (xs : List Int) : S4 := ⟨oct xs 0 * 4294967296 + oct xs 1, oct xs 2 * 4294967296 + oct xs 3, oct xs 4 * 4294967296 + oct xs 5, oct xs 6 * 4294967296 + oct xs 7⟩

/-- What Read answers. -/
def readR (s : S4) (e : Int) : Value := .tuple #[s.val, .int .i64 e]

set_option maxHeartbeats 1000000 in
theorem read_ok (A : Option Addr) (c : Nat) (zs : List Int) (h32 : zs.length = 32) (hcap : 32 ≤ c) (ho : Octs zs) (w : World) (hr : RdB w A zs) :
    Calls Try.prog 7 #[.slice A 32 c] w fun e w' => e = .returned (readR (sumW (words zs)) 0) ∧ Below w.heap.size w w' := by
  have HR := Lib.hid hr
  have hwb := fun k h => words_bd ho k h
  have hw8 : (words zs).length = 8 := by rw [words_length, h32]
  obtain ⟨xs, hxs⟩ : ∃ xs, words zs = xs := ⟨_, rfl⟩
  have hf : ∀ w, RdB w A zs → Calls Try.prog 9 #[.slice A 32 c] w fun e w' => e = .returned (.slice (some ⟨w.heap.size, 0, none⟩) 8 8) ∧ Rd w' (some ⟨w.heap.size, 0, none⟩) (wcells xs) ∧ Below w.heap.size w w' := fun w h => by
    have := words_any A c zs (by omega) (by omega) ho w h
    rw [hw8, hxs, h32] at this
    exact this
  rw [hxs] at hwb hw8 ⊢
  have HF := Lib.hid hf
  clear hf hxs hr h32
  go_enter Try.func7, Try.ntmps7
  go_wp2_with fail
  have hB0 : Below w.heap.size w (w.alloc (.cells #[.int .u64 0, .int .u64 0, .int .u64 0, .int .u64 0] 24)) := (Below.refl _ w).alloc (Nat.le_refl _) _
  refine (HF.out _ (HR.out.below hB0)).mono ?_
  rintro e w1 ⟨rfl, hR1, hB1⟩
  have k1 : Blk w1 w.heap.size 24 (scells zeroS) := (Blk.new w (scells zeroS) 24).below hB1 (by simp)
  have hB : Below w.heap.size w w1 := hB0.trans (hB1.mono (by simp))
  simp only [World.size_alloc] at hR1
  obtain ⟨b, off, eA, hb, hcl⟩ := hR1 (by intro h; have := congrArg List.length h; simp [wcells] at this; subst this; simp at hw8)
  injection eA with eA
  injection eA with e1 e2
  subst e1 e2
  have hx : ∀ j, j < 8 → w1.cell? ⟨w.heap.size + 1, j, none⟩ = some (.int .u32 (oct xs j)) ∧ 0 ≤ oct xs j ∧ oct xs j < 4294967296 := fun j hj => by
    have hj' : j < xs.length := by omega
    have h := hcl j _ (wcells_at xs j hj')
    rw [Nat.zero_add] at h
    have e : oct xs j = xs[j] := by simp [oct, List.getElem?_eq_getElem hj']
    rw [e]
    exact ⟨h, hwb j hj'⟩
  obtain ⟨x0, y0⟩ := hx 0 (by omega)
  obtain ⟨x1, y1⟩ := hx 1 (by omega)
  obtain ⟨x2, y2⟩ := hx 2 (by omega)
  obtain ⟨x3, y3⟩ := hx 3 (by omega)
  obtain ⟨x4, y4⟩ := hx 4 (by omega)
  obtain ⟨x5, y5⟩ := hx 5 (by omega)
  obtain ⟨x6, y6⟩ := hx 6 (by omega)
  obtain ⟨x7, y7⟩ := hx 7 (by omega)
  have hsm : sumW xs = ⟨oct xs 0 * 4294967296 + oct xs 1, oct xs 2 * 4294967296 + oct xs 3, oct xs 4 * 4294967296 + oct xs 5, oct xs 6 * 4294967296 + oct xs 7⟩ := rfl
  generalize oct xs 0 = o0 at *
  generalize oct xs 1 = o1 at *
  generalize oct xs 2 = o2 at *
  generalize oct xs 3 = o3 at *
  generalize oct xs 4 = o4 at *
  generalize oct xs 5 = o5 at *
  generalize oct xs 6 = o6 at *
  generalize oct xs 7 = o7 at *
  have HSM := Lib.hid hsm
  have d0 := k1.cell 0
  have d1 := k1.cell 1
  have d2 := k1.cell 2
  have d3 := k1.cell 3
  have f0 := k1.frozen 0
  have f1 := k1.frozen 1
  have f2 := k1.frozen 2
  have f3 := k1.frozen 3
  simp only [scells, zeroS, List.getElem?_cons_zero, List.getElem?_cons_succ] at d0 d1 d2 d3
  clear hsm hx hcl hwb hw8 k1 hB0 hB1 HR HF hR1
  go_wp2_with fail
  go_region_held3 (fun w' => w'.cell? ⟨w.heap.size + 1, 0, none⟩ = some (.int .u32 o0) ∧ w'.cell? ⟨w.heap.size + 1, 1, none⟩ = some (.int .u32 o1) ∧ w'.cell? ⟨w.heap.size + 1, 2, none⟩ = some (.int .u32 o2) ∧ w'.cell? ⟨w.heap.size + 1, 3, none⟩ = some (.int .u32 o3) ∧ w'.cell? ⟨w.heap.size + 1, 4, none⟩ = some (.int .u32 o4) ∧ w'.cell? ⟨w.heap.size + 1, 5, none⟩ = some (.int .u32 o5) ∧ w'.cell? ⟨w.heap.size + 1, 6, none⟩ = some (.int .u32 o6) ∧ w'.cell? ⟨w.heap.size + 1, 7, none⟩ = some (.int .u32 o7))
    (first | exact ⟨x0, x1, x2, x3, x4, x5, x6, x7⟩ | go_keep)
    (first
      | (go_at_call 18; ((with_reducible refine (part_any _ _ ?_ ?_ _).mono ?_); (focus assumption); (focus assumption); rintro e w' ⟨rfl, rfl⟩)))
  go_wp2
  refine bodyPost_ret (v := readR ⟨o0 * 4294967296 + o1, o2 * 4294967296 + o3, o4 * 4294967296 + o5, o6 * 4294967296 + o7⟩ 0) (by simp [results, Try.results7, go_sem, d0, d1, d2, d3, readR]) rfl
    ⟨by rw [HSM.out], ((((hB.setCell (p := ⟨w.heap.size, 0, none⟩) (Nat.le_refl _) _).setCell (p := ⟨w.heap.size, 1, none⟩) (Nat.le_refl _) _).setCell (p := ⟨w.heap.size, 2, none⟩) (Nat.le_refl _) _).setCell (p := ⟨w.heap.size, 3, none⟩) (Nat.le_refl _) _).drew⟩

set_option maxHeartbeats 400000 in
theorem read_short (A : Option Addr) (k c : Nat) (hk : k < 32) (w : World) :
    Calls Try.prog 7 #[.slice A k c] w fun e w' => e = .returned (readR zeroS 8) ∧ Below w.heap.size w w' := by
  go_enter Try.func7, Try.ntmps7
  go_wp2
  refine bodyPost_ret (v := readR zeroS 8) (by simp [results, Try.results7, go_sem, readR, zeroS]) rfl ⟨rfl, ?_⟩
  (repeat (first | with_reducible exact Below.refl _ _ | with_reducible assumption | with_reducible refine Below.drew ?_ | with_reducible refine Below.alloc ?_ ?_ _ | with_reducible refine Below.setCell ?_ ?_ _ | (focus omega) | (focus (simp; done)) | (focus (simp; omega))))

set_option maxHeartbeats 400000 in
theorem read_long (A : Option Addr) (k c : Nat) (hk : 32 < k) (hl : k ≤ 140737488351232) (w : World) :
    Calls Try.prog 7 #[.slice A k c] w fun e w' => e = .returned (readR zeroS 5) ∧ Below w.heap.size w w' := by
  go_enter Try.func7, Try.ntmps7
  go_wp2
  refine bodyPost_ret (v := readR zeroS 5) (by simp [results, Try.results7, go_sem, readR, zeroS]) rfl ⟨rfl, ?_⟩
  (repeat (first | with_reducible exact Below.refl _ _ | with_reducible assumption | with_reducible refine Below.drew ?_ | with_reducible refine Below.alloc ?_ ?_ _ | with_reducible refine Below.setCell ?_ ?_ _ | (focus omega) | (focus (simp; done)) | (focus (simp; omega))))

end Go.Proofs.Ythchpjfnbcjjbaa
