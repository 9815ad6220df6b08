/-
  slices.Grow at none, slices.Concat of lists of sets. Conditions: together they are no longer than what came in.
-/
import Derived.Test.YtimmcmjipmkebaaGreatUGRX
import Derived.Test.YtimmcmjipmkebaaGreatUTCU
import Derived.Lib.AppendZeros
namespace Go.Proofs.YtimmcmjipmkebaaGreat
open Go.ChangeShapes Go.WideShapes Go.ChangeAt Go.RowKit
set_option maxRecDepth 100000
set_option linter.unusedSimpArgs false
theorem infoSe7 : (Tryz.prog.info? 52).map (fun i => (i.zero, i.size, i.bytes)) = some (some (.agg #[.string ByteArray.empty, .string ByteArray.empty, .slice none 0 0, .slice none 0 0, .slice none 0 0]), 5, 104) := by kernel_rfl
theorem grow_any (n : Nat) (hn : n * 104 ≤ 140737488355328) (w : World) :
    Calls Tryz.prog 137 #[.slice none 0 0, .int .i64 n] w fun e w' => ∃ v, e = .returned v ∧ w'.ownsRow w.heap.size 52 5 v 0 [] ∧ Below w.heap.size w w' := by
  rcases Nat.eq_zero_or_pos n with rfl | hp
  · go_enter Tryz.func137, Tryz.ntmps137
    go_wp2
    go_ret
    exact ⟨_, rfl, ownNone _ _ _ _, Below.refl _ _⟩
  · obtain ⟨i0, hi, hz0, hz1, hz2⟩ := infoParts infoSe7
    have HR := Lib.hid fun ty => Lib.run_append_nil_zeros (P := Tryz.prog) w 22 3 ty 52 i0 _ .i64 .i64 Tryz.underlying22 Tryz.underlying3 hi hz0 n hp (by rw [hz1]; decide) (by omega) (by rw [hz2]; omega)
    obtain ⟨cp, hcp⟩ : ∃ cp, grownCap w n 0 52 = cp := ⟨_, rfl⟩
    have hge : n ≤ cp := hcp ▸ grownCap_ge w n 0 _
    have hle : cp ≤ maxLen := hcp ▸ grownCap_le_maxLen w n 0 _ (by unfold maxLen; omega)
    have hO := World.ownsRow_made (base := w.heap.size) (e := 52) (size := 5) w.drew (Builtin.zeroCells (Value.agg #[.string ByteArray.empty, .string ByteArray.empty, .slice none 0 0, .slice none 0 0, .slice none 0 0]).cells n ++ Builtin.zeroCells (Value.agg #[.string ByteArray.empty, .string ByteArray.empty, .slice none 0 0, .slice none 0 0, .slice none 0 0]).cells (cp - n)) cp (Nat.le_refl _) hle (by
      rw [Array.size_append, size_zeroCells, size_zeroCells]
      show n * 5 + (cp - n) * 5 = cp * 5
      omega)
    have HO := Lib.hid hO
    simp only [hcp] at HR
    clear hO hcp hi hz0 hz1 hz2
    go_enter Tryz.func137, Tryz.ntmps137
    go_wp2_with (first | (at_builtin; refine Lib.wpList_append_run _ rfl _ _ _ _ rfl _ _ rfl rfl _ _ (HR.out _) ?_) | fail)
    go_ret
    exact ⟨_, rfl, HO.out, ((belowDrewN w 1 _).alloc (Nat.le_refl _) _)⟩
theorem rdS_at {α : Type} {w : World} {A : Option Addr} {l : List (Sl α)} (h : Rd w A (l.map Sl.val)) {k : Nat} {x : Sl α} (hk : l[k]? = some x) : ∃ b off, A = some ⟨b, off, none⟩ ∧ b < w.heap.size ∧ w.cell? ⟨b, off + k, none⟩ = some (.slice x.A x.l.length x.c) := by
  have h1 : (l.map Sl.val)[k]? = some (.slice x.A x.l.length x.c) := by rw [List.getElem?_map, hk]; rfl
  obtain ⟨b, off, e, hb, hc⟩ := h (by intro h0; rw [h0] at h1; simp at h1)
  exact ⟨b, off, e, hb, hc _ _ h1⟩
def lenS (ls : List (Sl MSet)) : Nat := (ls.map fun s => s.l.length).sum
theorem lenS_take {ls : List (Sl MSet)} {k : Nat} {s : Sl MSet} (h : ls[k]? = some s) : lenS (ls.take (k + 1)) = lenS (ls.take k) + s.l.length ∧ lenS (ls.take (k + 1)) ≤ lenS ls := by
  have h1 : ls.take (k + 1) = ls.take k ++ [s] := by rw [List.take_add_one, h]; rfl
  refine ⟨by unfold lenS; rw [h1]; simp, ?_⟩
  unfold lenS
  conv => rhs; rw [← List.take_append_drop (k + 1) ls]
  rw [List.map_append, List.sum_append_nat]
  omega
theorem lenS_flat (ls : List (Sl MSet)) : (ls.flatMap Sl.l).length = lenS ls := by
  unfold lenS
  rw [List.length_flatMap]
set_option maxHeartbeats 1000000 in
theorem concat_any (S : Option Addr) (c : Nat) (ls : List (Sl MSet)) (w : World) (hr : Rd w S (ls.map Sl.val)) (hrs : ∀ s ∈ ls, Rd w s.A (s.l.flatMap MSet.cells) ∧ (s.A = none → s.c = 0)) (hm : ls.length ≤ 3) (hsum : lenS ls * 104 ≤ 140737488355328) :
    Calls Tryz.prog 85 #[.slice S ls.length c] w fun e w' => ∃ v, e = .returned v ∧ w'.ownsRow w.heap.size 52 5 v (ls.flatMap Sl.l).length ((ls.flatMap Sl.l).flatMap MSet.cells) ∧ Below w.heap.size w w' := by
  obtain ⟨i0, hi, hz0, hz1, hz2⟩ := infoParts infoSe7
  have HR := Lib.hid hr
  have HE := Lib.hid hrs
  clear hr hrs
  go_enter Tryz.func85, Tryz.ntmps85
  go_wp2
  go_loopw [3, 11] (fun v i W => ∃ k : Nat, k ≤ ls.length ∧ i = .int .i64 k ∧ v = .int .i64 (lenS (ls.take k) : Nat) ∧ w = W) (fun _ i _ => ls.length - (intOf i).toNat)
  case atStart => exact ⟨0, Nat.zero_le _, rfl, rfl, rfl⟩
  case round =>
    obtain ⟨k, hk, rfl, rfl, rfl⟩ := hrel
    by_cases hlt : k < ls.length
    · obtain ⟨s, hs⟩ : ∃ s, ls[k]? = some s := ⟨_, qZa hlt⟩
      obtain ⟨b, off, rfl, hb, hc⟩ := rdS_at HR.out hs
      obtain ⟨h1, h2⟩ := lenS_take hs
      have HK : Hid (lenS (ls.take (k + 1)) = lenS (ls.take k) + s.l.length) := Lib.hid h1
      rw [h1] at h2
      generalize hN : lenS (ls.take k) = N at *
      clear hs h1
      go_wp2
      go_roundw
      case rel => exact ⟨k + 1, by omega, by go_num, by rw [HK.out]; go_num, trivial⟩
      case measure => simp [intOf]; omega
    · obtain rfl : k = ls.length := by omega
      rw [List.take_length]
      have HG := Lib.hid (grow_any (lenS ls) hsum w)
      go_wp2_with fail
      refine HG.out.mono ?_
      rintro e w1 ⟨v1, rfl, ho1, hB1⟩
      have HO1 : Hid (w1.ownsRow w.heap.size 52 5 v1 ((ls.take 0).flatMap Sl.l).length (((ls.take 0).flatMap Sl.l).flatMap MSet.cells)) := Lib.hid (by simpa using ho1)
      clear HG ho1
      go_wp2
      go_loopw [6, 27] (fun v i W => ∃ k : Nat, k ≤ ls.length ∧ i = .int .i64 k ∧ Hid (W.ownsRow w.heap.size 52 5 v ((ls.take k).flatMap Sl.l).length (((ls.take k).flatMap Sl.l).flatMap MSet.cells)) ∧ Below w.heap.size w W) (fun _ i _ => ls.length - (intOf i).toNat)
      case atStart => exact ⟨0, Nat.zero_le _, rfl, HO1, hB1⟩
      case round =>
        obtain ⟨k, hk, rfl, HO, hB⟩ := hrel
        by_cases hlt : k < ls.length
        · obtain ⟨s, hs⟩ : ∃ s, ls[k]? = some s := ⟨_, qZa hlt⟩
          obtain ⟨b, off, rfl, hb, hc0⟩ := rdS_at HR.out hs
          have hc := (hB.cell (p := ⟨b, off + k, none⟩) hb).trans hc0
          obtain ⟨hr, hn⟩ := HE.out s (List.mem_of_getElem? hs)
          have HRR := Lib.hid (hr.below hB)
          obtain ⟨h1, h2⟩ := lenS_take hs
          have h3 : (ls.take (k + 1)).flatMap Sl.l = (ls.take k).flatMap Sl.l ++ s.l := by rw [List.take_add_one, hs]; simp
          have HF := Lib.hid h3
          have hN : ((ls.take k).flatMap Sl.l).length + s.l.length ≤ lenS ls := by rw [lenS_flat]; omega
          have hsz := hB.size
          clear hs h1 h2 h3 hc0 hr
          go_wp2_with (first
            | (at_builtin; refine wpList_append_rdS rfl _ _ 22 rfl w.heap.size 52 i0 _ 5 104 Tryz.underlying22 hi hz0 hz1 hz2 rfl (by decide) _ _ _ rfl HO.out s.A s.l.length s.c (s.l.flatMap MSet.cells) rfl (flat_len (cells := MSet.cells) (n := 5) (fun _ => rfl) s.l) HRR.out hn (fun u hu => by obtain ⟨y, _, hu⟩ := List.mem_flatMap.1 hu; exact oneSe y u hu) (by unfold maxLen; omega) (by omega) hsz ?_
               intro v7 w7 ho7 hg7
               have HO7 : Hid (w7.ownsRow w.heap.size 52 5 v7 ((ls.take (k + 1)).flatMap Sl.l).length (((ls.take (k + 1)).flatMap Sl.l).flatMap MSet.cells)) := Lib.hid (by rw [HF.out, List.length_append, List.flatMap_append]; exact ho7)
               have HB7 := Lib.hid (hB.grown hg7 hsz (fun j e => (HO.out.lt j e).1))
               clear ho7 hg7 HF)
            | fail)
          go_roundw
          case rel => exact ⟨k + 1, by omega, by go_num, HO7, HB7.out⟩
          case measure => simp [intOf]; omega
        · obtain rfl : k = ls.length := by omega
          rw [List.take_length] at HO
          go_wp2
          go_ret
          exact ⟨_, rfl, HO.out, hB⟩
def cutA (A : Option Addr) (m l : Nat) : Option Addr := if m = l then A else A.map (·.add (l * 5))
theorem run_lo (A : Option Addr) (n c j : Nat) (hj : j ≤ c) (W : World) : (Instr.sliceAt 22 (.slice A n c) none (some (.int .i64 j)) none).run Tryz.prog W = .ok (.slice (cutA A c 0) j c) W := by
  simp [Instr.sliceAt, Instr.slice, Instr.sliceBounds, Instr.sliceBound, run_underlying Tryz.underlying22, asIntOf, cutA]
  intro h
  omega
theorem run_hi (A : Option Addr) (n c j : Nat) (hj : j ≤ n) (W : World) : (Instr.sliceAt 22 (.slice A n c) (some (.int .i64 j)) none none).run Tryz.prog W = .ok (.slice (cutA A c j) (n - j) (c - j)) W := by
  simp [Instr.sliceAt, Instr.slice, Instr.sliceBounds, Instr.sliceBound, run_underlying Tryz.underlying22, asIntOf, cutA]
  intro h
  omega
theorem cutS_none {A : Option Addr} {c j : Nat} (h : A = none → c = 0) : cutA A c j = none → c - j = 0 := by
  unfold cutA
  intro e
  split at e
  · have := h e
    omega
  · rcases A with _ | a
    · have := h rfl
      omega
    · cases e
theorem cutS_take {W : World} {A : Option Addr} {l : List MSet} {c : Nat} (h : Rd W A (l.flatMap MSet.cells)) (j : Nat) : Rd W (cutA A c 0) ((l.take j).flatMap MSet.cells) := by
  intro hne
  have h0 : l.flatMap MSet.cells ≠ [] := by
    intro e
    apply hne
    have h1 : l = [] := by
      rcases l with _ | ⟨x, l⟩
      · rfl
      · simp [MSet.cells] at e
    rw [h1]
    simp
  obtain ⟨b, off, e, hb, hc⟩ := h h0
  refine ⟨b, off, ?_, hb, fun k u hk => hc k u ?_⟩
  · unfold cutA
    rw [e]
    split
    · rfl
    · simp [Addr.add]
  · rw [← List.take_append_drop j l, List.flatMap_append]
    have := (List.getElem?_eq_some_iff.1 hk).1
    rw [List.getElem?_append_left this]
    exact hk
theorem cutS_drop {W : World} {A : Option Addr} {l : List MSet} {c : Nat} (h : Rd W A (l.flatMap MSet.cells)) (hc : l.length ≤ c) (j : Nat) : Rd W (cutA A c j) ((l.drop j).flatMap MSet.cells) := by
  intro hne
  have hj : j < l.length := by
    rcases Nat.lt_or_ge j l.length with h1 | h1
    · exact h1
    · rw [List.drop_eq_nil_of_le h1] at hne
      simp at hne
  have h0 : l.flatMap MSet.cells ≠ [] := by
    rcases l with _ | ⟨x, l⟩
    · simp at hj
    · simp [MSet.cells]
  obtain ⟨b, off, e, hb, hcc⟩ := h h0
  refine ⟨b, off + j * 5, ?_, hb, fun k u hk => ?_⟩
  · unfold cutA
    rw [e, if_neg (by omega)]
    simp [Addr.add]
  · have h2 := hcc (j * 5 + k) u (by
      rw [← List.take_append_drop j l, List.flatMap_append]
      have hl : ((l.take j).flatMap MSet.cells).length = j * 5 := by
        rw [flat_len (cells := MSet.cells) (n := 5) (fun _ => rfl), List.length_take, Nat.min_eq_left (by omega)]
      rw [List.getElem?_append_right (by omega), hl, Nat.add_sub_cancel_left]
      exact hk)
    rw [← h2, Nat.add_assoc]
end Go.Proofs.YtimmcmjipmkebaaGreat
