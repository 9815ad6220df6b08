/-
  Which numbers stand in lists: met. Conditions: at most 2^44 numbers in all, each a machine's.
-/
import Derived.Test.YtddkalcgijeldaaSC
namespace Go.Proofs.Ytddkalcgijeldaa
open Go.ChangeShapes Go.WideShapes Go.ChangeAt Go.RowKit Go.Maps

/-- A list of numbers that came in. -/
structure Li where
  A : Option Addr
  zs : List Int
  c : Nat

def Li.val (l : Li) : Value := .slice l.A l.zs.length l.c

/-- All numbers of the lists. -/
def flat (ls : List Li) : List Int := (ls.map Li.zs).flatten

/-- Lists that read so. -/
structure RdL (w : World) (A : Option Addr) (ls : List Li) : Prop where
  row : Rd w A (ls.map Li.val)
  each : ∀ l ∈ ls, RdI w l.A l.zs
  ints : ∀ l ∈ ls, Ints l.zs
  few : (flat ls).length ≤ 17592186044416
  many : ls.length ≤ 17592186044416

theorem RdL.below {w w' : World} {A : Option Addr} {ls : List Li} (h : RdL w A ls) (hb : Below w.heap.size w w') : RdL w' A ls :=
  ⟨Rd.below h.row hb, fun l hl => RdI.below (h.each l hl) hb, h.ints, h.few, h.many⟩

theorem flat_take {ls : List Li} {k : Nat} {l : Li} (h : ls[k]? = some l) : flat (ls.take (k + 1)) = flat (ls.take k) ++ l.zs := by
  unfold flat
  rw [List.take_add_one, h]
  simp
theorem flat_le (ls : List Li) (k : Nat) : (flat (ls.take k)).length ≤ (flat ls).length := by
  have h : flat ls = flat (ls.take k) ++ flat (ls.drop k) := by
    unfold flat
    rw [← List.flatten_append, ← List.map_append, List.take_append_drop]
  rw [h]
  simp

theorem RdL.at_ {w : World} {A : Option Addr} {ls : List Li} (h : RdL w A ls) {k : Nat} (hk : k < ls.length) :
    ∃ (b off : Nat) (l : Li), A = some ⟨b, off, none⟩ ∧ b < w.heap.size ∧ w.cell? ⟨b, off + k, none⟩ = some (.slice l.A l.zs.length l.c) ∧ Hid (RdI w l.A l.zs) ∧ Hid (Ints l.zs) ∧ Hid (flat (ls.take (k + 1)) = flat (ls.take k) ++ l.zs) ∧ (flat (ls.take k)).length + l.zs.length ≤ 17592186044416 := by
  obtain ⟨b, off, e, hb, hc⟩ := h.row (by intro h0; have := congrArg List.length h0; simp at this; subst this; simp at hk)
  have hl : ls[k]? = some ls[k] := List.getElem?_eq_getElem hk
  have hf := flat_take hl
  have h1 := flat_le ls (k + 1)
  rw [hf, List.length_append] at h1
  exact ⟨b, off, ls[k], e, hb, hc k _ (by simp [List.getElem?_map, hl, Li.val]), Lib.hid (h.each _ (List.getElem_mem hk)), Lib.hid (h.ints _ (List.getElem_mem hk)), Lib.hid hf, Nat.le_trans h1 h.few⟩

set_option maxRecDepth 100000 in
set_option maxHeartbeats 1000000 in
theorem met_any (A : Option Addr) (c : Nat) (ls : List Li) (w : World) (hr : RdL w A ls) :
    Calls Try.prog 41 #[.slice A ls.length c] w fun e w' => ∃ (n : Nat) (D : Dz), e = .returned (.map (some w.heap.size)) ∧ Hid (OwnS w' w.heap.size n D) ∧ Hid (SetIs D (flat ls)) ∧ Below w.heap.size w w' := by
  have hmany := hr.many
  have HR := Lib.hid hr
  clear hr
  have hmm := @run_makeMap Try.prog
  go_enter Try.func41, Try.ntmps41
  go_wp2
  go_loopw [11] (fun i wr => ∃ (k n : Nat) (D : Dz), k ≤ ls.length ∧ i = .int .i64 k ∧ n ≤ (flat (ls.take k)).length ∧ Hid (OwnS wr w.heap.size n D) ∧ Hid (SetIs D (flat (ls.take k))) ∧ Below w.heap.size w wr) (fun i _ => ls.length - (intOf i).toNat)
  case atStart => exact ⟨0, 0, .map [], Nat.zero_le _, rfl, Nat.zero_le _, Lib.hid (World.ownsMap_made _ _ _ _), Lib.hid (by simpa [flat] using SetIs.empty), (Below.refl _ _).alloc (Nat.le_refl _) _⟩
  case round =>
    obtain ⟨k, n, D, hk, rfl, hn, HO, HS, hB⟩ := hrel
    by_cases hlt : k < ls.length
    · obtain ⟨b, off, l, rfl, hb, hc0, HL, HI, HF, hfew⟩ := HR.out.at_ hlt
      have hc := (hB.cell (p := ⟨b, off + k, none⟩) hb).trans hc0
      clear hc0
      generalize flat (ls.take k) = S at *
      obtain ⟨B, zs, d⟩ := l
      dsimp only at hc HL HI HF hfew
      go_wp2
      go_loopw [17] (fun i wr' => ∃ (j m : Nat) (D' : Dz), j ≤ zs.length ∧ i = .int .i64 j ∧ m ≤ S.length + j ∧ Hid (OwnS wr' w.heap.size m D') ∧ Hid (SetIs D' (S ++ zs.take j)) ∧ Below w.heap.size w wr') (fun i _ => zs.length - (intOf i).toNat)
      case atStart => exact ⟨0, n, D, Nat.zero_le _, rfl, by omega, HO, Lib.hid (by simpa using HS.out), hB⟩
      case round =>
        obtain ⟨j, m, D', hj, rfl, hm, HO', HS', hB'⟩ := hrel
        by_cases hlt' : j < zs.length
        · obtain ⟨b', off', z, rfl, hb', hc', HZ⟩ := RdI.at_ (RdI.below HL.out hB') hlt'
          have hz := HI.out z (List.mem_of_getElem? HZ.out)
          go_wp2_with (at_mapUpdate; refine wpList_mapUpdate_own _ rfl _ _ _ 72 rfl 3 73 keyed Try.underlying72 (unitElem (H := Unit)) w.heap.size m D' rfl HO'.out (by unfold maxLen; omega) _ _ _ rfl rfl (key_int hz) (.agg []) [] unitElem_mk ?_; intro w1 hown1 hgrow1)
          go_roundw
          case rel =>
            refine ⟨j + 1, m + 1, _, by omega, by go_num, by omega, Lib.hid hown1, Lib.hid ?_, hB'.grown hgrow1 hB'.size (fun i hi => by cases hi; exact Nat.le_refl _)⟩
            rw [List.take_add_one, HZ.out, Option.toList_some, ← List.append_assoc]
            exact HS'.out.put z _
          case measure => simp [intOf]; omega
        · obtain rfl : j = zs.length := by omega
          rw [List.take_length] at HS'
          go_wp2
          go_roundw
          case rel => exact ⟨k + 1, m, D', by omega, by go_num, by rw [HF.out, List.length_append]; omega, HO', Lib.hid (by rw [HF.out]; exact HS'.out), hB'⟩
          case measure => simp [intOf]; omega
    · go_wp2
      go_ret
      exact ⟨n, D, rfl, HO, Lib.hid (by have := HS.out; rwa [List.take_of_length_le (by omega)] at this), hB⟩

end Go.Proofs.Ytddkalcgijeldaa
