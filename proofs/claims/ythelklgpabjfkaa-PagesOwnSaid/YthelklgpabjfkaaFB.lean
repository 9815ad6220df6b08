/-
  Words answers the words of octets. Conditions: at most 2^47 - 4096 octets.
-/
import Derived.Test.YthelklgpabjfkaaFA
import Derived.LoopTactic
namespace Go.Proofs.Ythelklgpabjfkaa
open Go.ChangeShapes Go.WideShapes Go.ChangeAt Go.RowKit

theorem info34 : (Try.prog.info? 64).map (fun i => (i.zero, i.size, i.bytes)) = some (some (.int .u32 0), 1, 4) := by kernel_rfl

theorem firstWord_at (A : Option Addr) (n c : Nat) (zs : List Int) (hn : zs.length = n) (ho : Octs zs) (w : World) (hr : RdB w A zs) :
    Calls Try.prog 37 #[.slice A n c] w fun e w' => e = .returned (.int .u32 (word zs)) ∧ Below w.heap.size w w' := by
  subst hn
  exact firstWord_any A c zs ho w hr

theorem rdB_drop {w : World} {b off : Nat} {zs : List Int} (h : RdB w (some ⟨b, off, none⟩) zs) (n : Nat) : RdB w (some ⟨b, off + n, none⟩) (zs.drop n) := fun hne => by
  obtain ⟨b', off', e, hb, hc⟩ := h (by intro e; rw [List.map_eq_nil_iff] at e; subst e; simp at hne)
  injection e with e
  injection e with e1 e2
  subst e1 e2
  refine ⟨b, off + n, rfl, hb, fun j u hu => ?_⟩
  rw [Nat.add_assoc]
  refine hc (n + j) u ?_
  rw [List.getElem?_map, List.getElem?_drop] at hu
  rw [List.getElem?_map]
  exact hu

theorem cell_one_new (w : World) (x : Value) (t : TypeId) : ∀ j u, [x][j]? = some u → (w.alloc (.cells #[x] t)).cell? ((⟨w.heap.size, 0, none⟩ : Addr).add j) = some u := by
  intro j u h
  rw [add_plain, cell_of_row (w.alloc (.cells #[x] t)) w.heap.size (0 + j) #[x] t (0, 0) (heap_alloc_new w _)]
  rw [Nat.zero_add]
  simpa using h

/-- The words, as cells. -/
def wcells (xs : List Int) : List Value := xs.map (Value.int .u32)

set_option maxHeartbeats 400000 in
theorem words_any (A : Option Addr) (c : Nat) (zs : List Int) (hl : zs.length ≤ 140737488351232) (hcap : zs.length ≤ c) (ho : Octs zs) (w : World) (hr : RdB w A zs) :
    Calls Try.prog 36 #[.slice A zs.length c] w fun e w' => e = .returned (.slice (some ⟨w.heap.size, 0, none⟩) (words zs).length (words zs).length) ∧ Rd w' (some ⟨w.heap.size, 0, none⟩) (wcells (words zs)) ∧ Below w.heap.size w w' := by
  obtain ⟨i0, hi, hz0, hz1, hz2⟩ := info_parts info34
  obtain ⟨m, hm⟩ : ∃ m, (words zs).length = m := ⟨_, rfl⟩
  have hm1 : zs.length ≤ 4 * m := by rw [words_length] at hm; omega
  have hm2 : 4 * m < zs.length + 4 := by rw [words_length] at hm; omega
  rw [hm]
  have HM := Lib.hid hm
  have HR := Lib.hid hr
  clear hm hr
  go_enter Try.func36, Try.ntmps36
  go_wp2_with (at_make; refine wpList_make_own _ rfl _ _ 62 rfl w.heap.size 64 i0 (.int .u32 0) 1 Try.underlying62 hi hz0 hz1 .i64 .i64 _ m rfl rfl (by omega) (by rw [hz2]; omega) (by unfold maxLen; omega) (Nat.le_refl _) ?_; intro w0 hown0 hgrow0)
  go_loopw [3, 4] (fun v i wr => ∃ k : Nat, k ≤ m ∧ i = .int .i64 (4 * k) ∧ v = .slice (some ⟨w.heap.size, 0, none⟩) k m ∧ wr.ownsRow w.heap.size 64 1 (.slice (some ⟨w.heap.size, 0, none⟩) k m) k (wcells ((words zs).take k)) ∧ Below w.heap.size w wr) (fun _ i _ => 4 * m - (intOf i).toNat)
  case atStart =>
    exact ⟨0, Nat.zero_le _, rfl, rfl, hown0, (Below.refl _ w).grown hgrow0 (Nat.le_refl _) (fun _ h => by cases h)⟩
  case round =>
    obtain ⟨k, hk, rfl, rfl, hown, hB⟩ := hrel
    by_cases hlt : 4 * k < zs.length
    · obtain ⟨b, off, rfl, hb, _⟩ := HR.out.cell hlt
      have hr1 := (rdB_drop HR.out (4 * k)).below hB
      have HR1 := Lib.hid hr1
      have hd : decide (c < 4 * k) = false := by simp; omega
      have hne : c ≠ 4 * k := by omega
      clear hr1
      have hkm : k < m := by omega
      have hs := words_snoc zs k (by have := HM.out; rw [words_length] at this; omega)
      have hws : wcells ((words zs).take k) ++ [.int .u32 (word (zs.drop (4 * k)))] = wcells ((words zs).take (k + 1)) := by
        rw [hs]
        simp [wcells]
      have HWS := Lib.hid hws
      clear hs hws
      go_wp2_with fail
      refine (firstWord_at _ _ _ (zs.drop (4 * k)) (by simp) (ho.drop _) _ HR1.out).mono ?_
      rintro e w1 ⟨rfl, hB1⟩
      have hown1 : w1.ownsRow w.heap.size 64 1 (.slice (some ⟨w.heap.size, 0, none⟩) k m) k (wcells ((words zs).take k)) := own_below hown hB1 (Nat.le_refl _)
      have hBw : Below w.heap.size w w1 := hB.trans (hB1.mono hB.size)
      generalize word (zs.drop (4 * k)) = x at *
      generalize wcells ((words zs).take k) = cs at *
      go_wp2_with (at_builtin; refine wpList_append_fits _ rfl _ _ 62 rfl w.heap.size 64 i0 1 Try.underlying62 hi hz1 w.heap.size k m cs rfl (by exact hown1.alloc _) ⟨w1.heap.size, 0, none⟩ 1 1 [.int .u32 x] rfl rfl (by exact cell_one_new _ _ _) (by simp [Value.oneCell']) (by omega) ?_; intro w2 hown2 hgrow2)
      have hB2 : Below w.heap.size w w2 := (hBw.alloc hBw.size _).grown hgrow2 (by have := hBw.size; simp; omega) (fun j e => by cases e; exact Nat.le_refl _)
      clear hgrow2
      rw [HWS.out] at hown2
      go_roundw
      case rel => exact ⟨k + 1, by omega, congrArg (Value.int .i64) (by omega), rfl, hown2, hB2⟩
      case measure => simp [intOf]; omega
    · have hke : k = m := by omega
      subst hke
      go_wp2
      go_ret
      refine ⟨rfl, ?_, hB⟩
      have := Rd.of_own hown
      rw [← HM.out, List.take_length] at this
      exact this

end Go.Proofs.Ythelklgpabjfkaa
