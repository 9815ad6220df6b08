/-
  SpaceUnion's walk. Conditions: at most 2^40 numbers in each list, each a machine's.
-/
import Derived.Test.YtddkalcgijeldaaSH
namespace Go.Proofs.Ytddkalcgijeldaa
open Go.ChangeShapes Go.WideShapes Go.ChangeAt Go.RowKit Go.Maps

theorem union_two (A B : Option Addr) (c d : Nat) (zs ys : List Int) (w : World) (n t : Nat) (hn : w.heap.size = n) (hl : zs.length + ys.length ≤ 17592186044416) (hz : Ints zs) (hy : Ints ys) (hA : RdI w A zs) (hB : RdI w B ys) :
    Calls Try.prog 26 #[.slice (some ⟨n, 0, none⟩) 2 2] (w.alloc (.cells #[.slice A zs.length c, .slice B ys.length d] t)) fun e w' => ∃ (C : Option Addr) (q : Nat) (L : List Int), e = .returned (.slice C L.length q) ∧ Hid (Rise L ∧ (∀ x, x ∈ L ↔ x ∈ zs ∨ x ∈ ys)) ∧ L.length ≤ 17592186044416 ∧ Hid (RdI w' C L) ∧ Below n w w' := by
  subst hn
  have hb0 : Below w.heap.size w (w.alloc (.cells #[.slice A zs.length c, .slice B ys.length d] t)) := (Below.refl _ _).alloc (Nat.le_refl _) _
  have hR : RdL (w.alloc (.cells #[.slice A zs.length c, .slice B ys.length d] t)) (some ⟨w.heap.size, 0, none⟩) [⟨A, zs, c⟩, ⟨B, ys, d⟩] :=
    ⟨fun _ => ⟨w.heap.size, 0, rfl, by simp, fun j u hu => by
        rw [cell_of_row (w.alloc (.cells #[.slice A zs.length c, .slice B ys.length d] t)) w.heap.size (0 + j) #[.slice A zs.length c, .slice B ys.length d] t (0, 0) (heap_alloc_new w _), Nat.zero_add]
        simpa [Li.val] using hu⟩,
      fun l hl => by
        rcases List.mem_cons.1 hl with rfl | hl
        · exact RdI.below hA hb0
        · obtain rfl : l = ⟨B, ys, d⟩ := by simpa using hl
          exact RdI.below hB hb0,
      fun l hl => by
        rcases List.mem_cons.1 hl with rfl | hl
        · exact hz
        · obtain rfl : l = ⟨B, ys, d⟩ := by simpa using hl
          exact hy,
      by simpa [flat] using hl, by simp⟩
  refine (union_any (some ⟨w.heap.size, 0, none⟩) 2 [⟨A, zs, c⟩, ⟨B, ys, d⟩] _ hR).mono ?_
  rintro e w' ⟨C, q, L, rfl, HL, hq, HC, hb⟩
  obtain ⟨h1, h2, h3⟩ := HL.out
  exact ⟨C, q, L, rfl, Lib.hid ⟨h1, fun x => by rw [h2 x]; simp [flat]⟩, Nat.le_trans h3 (by simpa [flat] using hl), HC, hb0.trans (hb.mono (by simp))⟩

theorem rise_at {L : List Int} (h : Rise L) {j : Nat} {x y : Int} (hx : L[j]? = some x) (hy : L[j + 1]? = some y) : x < y := by
  obtain ⟨h1, e1⟩ := List.getElem?_eq_some_iff.1 hx
  obtain ⟨h2, e2⟩ := List.getElem?_eq_some_iff.1 hy
  have := List.pairwise_iff_getElem.1 h j (j + 1) h1 h2 (by omega)
  rw [e1, e2] at this
  exact this

theorem below_dn (w : World) (n m : Nat) : Below m w (w.drewN n) := ⟨rfl, rfl, rfl, Nat.le_refl _, fun _ _ => rfl⟩

theorem hasq_yes {A : Option Addr} {c : Nat} {zs : List Int} {x : Int} {w : World} (hl : zs.length ≤ 17592186044416) (hx : x ∈ zs) (hr : RdI w A zs) (n : Nat) :
    Calls Try.prog 27 #[.slice A zs.length c, .int .i64 x] (w.drewN n) fun e w' => e = .returned (.bool true) ∧ w' = w.drewN n :=
  (has_yes A c zs x hl hx _ (RdI.below hr (below_dn w n _))).mono fun _ _ h => ⟨h.1, h.2.symm⟩
theorem hasq_no {A : Option Addr} {c : Nat} {zs : List Int} {x : Int} {w : World} (hl : zs.length ≤ 17592186044416) (hx : x ∉ zs) (hr : RdI w A zs) (n : Nat) :
    Calls Try.prog 27 #[.slice A zs.length c, .int .i64 x] (w.drewN n) fun e w' => e = .returned (.bool false) ∧ w' = w.drewN n :=
  (has_no A c zs x hl hx _ (RdI.below hr (below_dn w n _))).mono fun _ _ h => ⟨h.1, h.2.symm⟩

set_option maxRecDepth 100000 in
set_option maxHeartbeats 2000000 in
theorem union_walk (A B : Option Addr) (c d : Nat) (zs ys : List Int) (hl1 : zs.length ≤ 1099511627776) (hl2 : ys.length ≤ 1099511627776) (hz : Ints zs) (hy : Ints ys) (w : World) (hA : RdI w A zs) (hB : RdI w B ys) :
    Calls Try.prog 8 #[.slice A zs.length c, .slice B ys.length d] w fun e w' => e = .returned (.bool true) ∧ Below w.heap.size w w' := by
  have HU := Lib.hid (fun n t hn => union_two A B c d zs ys w n t hn (by omega) hz hy hA hB)
  have HA := Lib.hid hA
  have HB := Lib.hid hB
  clear hA hB hz hy
  go_enter Try.func8, Try.ntmps8
  go_wp2_with fail
  refine (HU.out _ _ rfl).mono ?_
  rintro e w1 ⟨C, q, L, rfl, HL, hL, HC, hB1⟩
  have HA1 := Lib.hid (RdI.below HA.out hB1)
  have HB1 := Lib.hid (RdI.below HB.out hB1)
  clear HA HB
  go_wp2
  go_loopw [6] (fun i wr => ∃ j : Nat, j ≤ L.length ∧ i = .int .i64 j ∧ Below w1.heap.size w1 wr) (fun i _ => L.length - (intOf i).toNat)
  case atStart => exact ⟨0, Nat.zero_le _, rfl, Below.refl _ _⟩
  case round =>
    obtain ⟨j, hj, rfl, hBr⟩ := hrel
    have HCr := Lib.hid (RdI.below HC.out hBr)
    have HAr := Lib.hid (RdI.below HA1.out hBr)
    have HBr := Lib.hid (RdI.below HB1.out hBr)
    by_cases hlt : j < L.length
    · obtain ⟨b, off, x, rfl, hb, hc, HX⟩ := RdI.at_ HCr.out hlt
      have hx := (HL.out.2 x).1 (List.mem_of_getElem? HX.out)
      have hpre : (decide (0 < j) = false) ∨ ∃ (i : Nat) (y : Int), decide (0 < j) = true ∧ IntKind.i64.wrap ((j : Int) - 1) = (i : Int) ∧ i < L.length ∧ wr.cell? ⟨b, off + i, none⟩ = some (.int .i64 y) ∧ decide (x ≤ y) = false := by
        rcases j with _ | i
        · exact .inl rfl
        · obtain ⟨b', off', y, e2, _, hc', HY⟩ := RdI.at_ HCr.out (show i < L.length by omega)
          injection e2 with e2
          injection e2 with e2 e3
          subst e2 e3
          have hyx := rise_at HL.out.1 HY.out HX.out
          exact .inr ⟨i, y, by simp, by rw [IntWalk.i64_in _ (by omega)]; omega, by omega, hc', decide_eq_false (by omega)⟩
      have hin : (x ∈ zs) ∨ (x ∉ zs ∧ x ∈ ys) := by
        by_cases h : x ∈ zs
        · exact .inl h
        · exact .inr ⟨h, hx.resolve_left h⟩
      clear hx
      rcases hin with h | ⟨h, h'⟩
      · have HHa := Lib.hid (fun n => hasq_yes (c := c) (by omega) h HAr.out n)
        clear h
        rcases hpre with hd | ⟨i, y, hd, hw, hi, hc', hyx⟩
        all_goals
          go_wp2
          go_big_quiet ((go_at_call 27; exact Calls.quiet_of_same (HHa.out _)))
          go_wp2
          go_roundw
          case rel => exact ⟨j + 1, by omega, by go_num, hBr.trans (below_dn _ _ _)⟩
          case measure => simp [intOf]; omega
      · have HHa := Lib.hid (fun n => hasq_no (c := c) (by omega) h HAr.out n)
        have HHb := Lib.hid (fun n => hasq_yes (c := d) (by omega) h' HBr.out n)
        clear h h'
        rcases hpre with hd | ⟨i, y, hd, hw, hi, hc', hyx⟩
        all_goals
          go_wp2
          go_big_quiet ((first | (go_at_call 27; with_reducible exact Calls.quiet_of_same (HHa.out _)) | (go_at_call 27; with_reducible exact Calls.quiet_of_same (HHb.out _))))
          go_wp2
          go_roundw
          case rel => exact ⟨j + 1, by omega, by go_num, hBr.trans (below_dn _ _ _)⟩
          case measure => simp [intOf]; omega
    · have hmem1 := Lib.hid (fun x (h : x ∈ zs) => (HL.out.2 x).2 (.inl h))
      have hmem2 := Lib.hid (fun x (h : x ∈ ys) => (HL.out.2 x).2 (.inr h))
      have hBw : Below w.heap.size w wr := hB1.trans (hBr.mono hB1.size)
      go_wp2
      go_loop [7] (fun i => ∃ k : Nat, k ≤ zs.length ∧ i = .int .i64 k) (fun i => zs.length - (intOf i).toNat)
      case atStart => exact ⟨0, Nat.zero_le _, rfl⟩
      case round =>
        obtain ⟨k, hk, rfl⟩ := hrel
        by_cases hlt : k < zs.length
        · obtain ⟨b, off, x, rfl, hb, hc, HX⟩ := RdI.at_ HAr.out hlt
          have HH := Lib.hid (has_yes C q L x (by omega) (hmem1.out x (List.mem_of_getElem? HX.out)) wr HCr.out)
          go_wp2_with (go_at_call 27; refine HH.out.mono ?_; rintro e w' ⟨rfl, rfl⟩)
          go_round
          case rel => exact ⟨k + 1, by omega, by go_num⟩
          case measure => simp [intOf]; omega
        · go_wp2
          go_loop [8] (fun i => ∃ k : Nat, k ≤ ys.length ∧ i = .int .i64 k) (fun i => ys.length - (intOf i).toNat)
          case atStart => exact ⟨0, Nat.zero_le _, rfl⟩
          case round =>
            obtain ⟨k, hk, rfl⟩ := hrel
            by_cases hlt : k < ys.length
            · obtain ⟨b, off, x, rfl, hb, hc, HX⟩ := RdI.at_ HBr.out hlt
              have HH := Lib.hid (has_yes C q L x (by omega) (hmem2.out x (List.mem_of_getElem? HX.out)) wr HCr.out)
              go_wp2_with (go_at_call 27; refine HH.out.mono ?_; rintro e w' ⟨rfl, rfl⟩)
              go_round
              case rel => exact ⟨k + 1, by omega, by go_num⟩
              case measure => simp [intOf]; omega
            · go_wp2_with (go_at_call 25; refine (alive7 _).mono ?_; rintro e w6 ⟨rfl, hb6⟩)
              go_ret
              exact ⟨rfl, hBw.trans (hb6.mono hBw.size)⟩

end Go.Proofs.Ytddkalcgijeldaa
