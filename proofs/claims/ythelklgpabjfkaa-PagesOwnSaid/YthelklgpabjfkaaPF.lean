/-
  parts of pages hands out the pieces in their order, whatever the loop over it does, as long as it keeps the box of the octets. Conditions: at most 2^47 octets.
-/
import Derived.Test.YthelklgpabjfkaaPB
import Derived.Test.YthelklgpabjfkaaKB
namespace Go.Proofs.Ythelklgpabjfkaa
open Go.ChangeShapes Go.WideShapes Go.ChangeAt Go.RowKit Go.Shelf
attribute [local go_sem] Oper.semAt_some

/-- One of the places. -/
abbrev IX (N : Nat) := { i : Nat // i < N }
def ivals {N : Nat} (xs : List (IX N)) : List Nat := xs.map Subtype.val
theorem ivals_snoc {N : Nat} (xs : List (IX N)) (x : IX N) : ivals (xs ++ [x]) = ivals xs ++ [x.1] := by simp [ivals, List.map_append]
theorem ivals_length {N : Nat} (xs : List (IX N)) : (ivals xs).length = xs.length := by simp [ivals]
/-- A piece as a slice. -/
abbrev ixEnc (b off L c : Nat) {N : Nat} (x : IX N) : Array Value := #[.slice (some ⟨b, off + 52 * x.1, none⟩) (min 52 (L - 52 * x.1)) (c - 52 * x.1)]

set_option maxRecDepth 100000 in
set_option maxHeartbeats 1000000 in
theorem pparts1_in (n l Bn b off c L : Nat) (hL : L ≤ 140737488351232) (hc : L ≤ c) (A : Option Addr) (hA : 0 < L → A = some ⟨b, off, none⟩) (J Jx : List (IX (cntN L)) → World → Prop)
    (hY : ∀ pre x W, J pre W → pre.length < cntN L → YieldAt Fence.wide (n - 1) Try.prog l (ixEnc b off L c x) W fun e W' =>
      (e = .returned (.bool true) ∧ J (pre ++ [x]) W' ∧ KeepsBlk Bn W W') ∨ (e = .returned (.bool false) ∧ Jx (pre ++ [x]) W'))
    (W : World) (hc0 : W.cell? ⟨Bn, 0, none⟩ = some (.slice A L c)) (h0 : J [] W) :
    CallsIn Fence.wide n Try.prog 34 #[.func (.yield l) #[] #[], .pointer (some ⟨Bn, 0, none⟩)] W fun e W' => (∃ v, e = .returned v) ∧
      ((∃ ys : List (IX (cntN L)), ivals ys = List.range (cntN L) ∧ J ys W') ∨ (∃ pre : List (IX (cntN L)), True ∧ Jx pre W')) := by
  refine callsIn_of_wp Try.func34 rfl trivial ?_ rfl
  simp only [Try.ntmps34, List.size_toArray, List.length_cons, List.length_nil, Nat.reduceAdd, Nat.reduceSub, Array.replicate_succ, Array.replicate_zero, List.push_toArray, List.append_toArray, List.nil_append, List.cons_append]
  gi_wp2
  gi_loopw [3] (fun i wr => ∃ (k : Nat) (pre : List (IX (cntN L))), k ≤ cntN L ∧ i = .int .i64 (52 * (k : Int)) ∧ ivals pre = List.range k ∧ wr.cell? ⟨Bn, 0, none⟩ = some (.slice A L c) ∧ J pre wr)
    (fun i _ => 52 * cntN L - (intOf i).toNat)
  case atStart =>
    exact ⟨0, [], Nat.zero_le _, rfl, rfl, hc0, h0⟩
  case round =>
    obtain ⟨k, pre, hk, rfl, hpre, hc', hJk⟩ := hrel
    by_cases hlt : k < cntN L
    · have h52 : 52 * k < L := by unfold cntN at hlt; omega
      have hAA := hA (by omega)
      subst hAA
      have HPRE := Lib.hid hpre
      have hprel : pre.length = k := by
        have := congrArg List.length hpre
        rw [ivals_length, List.length_range] at this
        exact this
      obtain ⟨fn, tmps, assign, body, hy, hR⟩ := hY pre ⟨k, hlt⟩ wr hJk (by omega)
      dsimp only [ixEnc] at hy
      have h1 : wrap64 (52 * (k : Int) + 52) = 52 * (k : Int) + 52 := IntWalk.wrap64_in _ (by omega)
      have h2 : (52 * (k : Int)) < L := by omega
      have HR := Lib.hid hR
      have hcell := hc'
      clear hpre hc0 hA hR
      by_cases h3 : 52 * (k : Int) + 52 ≤ L
      · rw [show min 52 (L - 52 * k) = 52 by omega] at hy
        have h4 : (52 * (k : Int) + 52).toNat = 52 * k + 52 := by omega
        have h5 : 52 * k + 52 - 52 * k = 52 := by omega
        gi_wp2
        refine ⟨fun h => (by cases h), HR.out.mono ?_⟩
        rintro e W3 (⟨rfl, hJ3, hk3⟩ | ⟨rfl, hJx3⟩)
        · have hc3 := hk3 0 _ hcell
          clear hy HR hcell hc'
          gi_wp2
          go_roundw
          case rel =>
            refine ⟨k + 1, pre ++ [⟨k, hlt⟩], by omega, by go_num, ?_, hc3, hJ3⟩
            rw [ivals_snoc, HPRE.out, List.range_succ]
          case measure => simp [intOf]; omega
        · clear hy HR
          gi_wp2
          refine bodyPost_ret (results_none rfl _ _ _) rfl ?_
          exact ⟨⟨_, rfl⟩, .inr ⟨_, trivial, hJx3⟩⟩
      · rw [show min 52 (L - 52 * k) = L - 52 * k by omega] at hy
        gi_wp2
        refine ⟨fun h => (by cases h), HR.out.mono ?_⟩
        rintro e W3 (⟨rfl, hJ3, hk3⟩ | ⟨rfl, hJx3⟩)
        · have hc3 := hk3 0 _ hcell
          clear hy HR hcell hc'
          gi_wp2
          go_roundw
          case rel =>
            refine ⟨k + 1, pre ++ [⟨k, hlt⟩], by omega, by go_num, ?_, hc3, hJ3⟩
            rw [ivals_snoc, HPRE.out, List.range_succ]
          case measure => simp [intOf]; omega
        · clear hy HR
          gi_wp2
          refine bodyPost_ret (results_none rfl _ _ _) rfl ?_
          exact ⟨⟨_, rfl⟩, .inr ⟨_, trivial, hJx3⟩⟩
    · obtain rfl : k = cntN L := by omega
      have HPRE := Lib.hid hpre
      have h2 : ¬ (52 * (cntN L : Int)) < L := by unfold cntN; omega
      clear hpre hc0 hA
      gi_wp2
      go_end0
      exact ⟨⟨_, rfl⟩, .inl ⟨pre, HPRE.out, hJk⟩⟩

set_option maxHeartbeats 1000000 in
theorem pparts_in (n : Nat) (v : Value) (hv : ∃ A k c, v = .slice A k c) (w : World) :
    CallsIn Fence.wide n Try.prog 28 #[v] w fun e w' => e = .returned (.func (.func 34) #[] #[.pointer (some ⟨w.heap.size, 0, none⟩)]) ∧ w' = w.alloc (.cells #[v] 22) := by
  obtain ⟨A, k, c, rfl⟩ := hv
  refine callsIn_of_wp Try.func28 rfl trivial ?_ rfl
  simp only [Try.ntmps28, List.size_toArray, List.length_cons, List.length_nil, Nat.reduceAdd, Nat.reduceSub, Array.replicate_succ, Array.replicate_zero, List.push_toArray, List.append_toArray, List.nil_append, List.cons_append]
  gi_wp2
  go_ret
  exact ⟨rfl, rfl⟩

theorem pparts_stops (n : Nat) (Bn b off c L : Nat) (hL : L ≤ 140737488351232) (hc : L ≤ c) (A : Option Addr) (hA : 0 < L → A = some ⟨b, off, none⟩) (w : World) (hBn : Bn < w.heap.size) (hcell : w.cell? ⟨Bn, 0, none⟩ = some (.slice A L c)) :
    SeqStopsK Fence.wide n Try.prog 34 #[.pointer (some ⟨Bn, 0, none⟩)] (ixEnc b off L c) (KeepsBlk Bn) (fun ys : List (IX (cntN L)) => ivals ys = List.range (cntN L)) (fun _ => True) (cntN L) w := fun l J Jx W hW _ _ hY h0 =>
  pparts1_in n l Bn b off c L hL hc A hA J Jx hY W ((hW.cell (p := ⟨Bn, 0, none⟩) hBn).trans hcell) h0

end Go.Proofs.Ythelklgpabjfkaa
