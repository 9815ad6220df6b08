/-
  What the page's Free answers. Conditions: at most 2^44 numbers in all, each a machine's.
-/
import Derived.Test.YtddkalcgijeldaaSF
namespace Go.Proofs.Ytddkalcgijeldaa
open Go.ChangeShapes Go.WideShapes Go.ChangeAt Go.RowKit Go.Maps

theorem infoI : (Try.prog.info? 3).map (fun i => (i.zero, i.size, i.bytes)) = some (some (.int .i64 0), 1, 8) := by kernel_rfl

theorem sown_slice {w : World} {base : Nat} {e : TypeId} {v : Value} {n : Nat} {xs : List Value} (h : w.ownsRow base e 1 v n xs) : ∃ A c, v = .slice A n c ∧ n ≤ c ∧ Rd w A xs := by
  rcases Nat.eq_zero_or_pos n with h0 | h0
  · subst h0
    rcases h.2 with ⟨rfl, _⟩ | ⟨g, cap, cur, rfl, _⟩
    · exact ⟨none, 0, rfl, Nat.le_refl _, Rd.of_own h⟩
    · exact ⟨some ⟨g, 0, none⟩, cap, rfl, Nat.zero_le _, Rd.of_own h⟩
  · obtain ⟨g, cap, rfl, hbase, hlt⟩ := h.form h0
    refine ⟨some ⟨g, 0, none⟩, cap, rfl, ?_, Rd.of_own h⟩
    rcases h.2 with ⟨_, hz⟩ | ⟨_, cap', _, e, _, _, _, h, _⟩
    · omega
    · injection e with _ _ e
      subst e
      omega

theorem rfree_no (t : Int) (A : Option Addr) (c : Nat) (zs : List Int) (hl : zs.length ≤ 17592186044416) (hcap : zs.length ≤ c) (hn : chk t zs ≠ 0) (w : World) (hr : RdI w A zs) :
    Calls Try.prog 20 #[.int .i64 t, .slice A zs.length c] w fun e w' => e = .returned (ansI none 0 0 (chk t zs)) ∧ Below w.heap.size w w' := by
  have HC := Lib.hid (rchk_any t A c zs hl hcap w hr)
  generalize chk t zs = r at *
  have hr1 : (r == 0) = false := by simpa using hn
  have hr2 : (r != 0) = true := by simpa using hn
  go_enter Try.func20, Try.ntmps20
  go_wp2_with (go_at_call 40; refine HC.out.mono ?_; rintro e w1 ⟨rfl, hB⟩)
  go_ret2
  exact ⟨rfl, hB⟩

/-- The free ones among the first k. -/
def fk (t : Int) (zs : List Int) (k : Nat) : List Int := ((upto t).take k).filter fun z => !zs.contains z
theorem fk_length (t : Int) (zs : List Int) (k : Nat) : (fk t zs k).length ≤ k := by
  have := List.length_filter_le (fun z => !zs.contains z) ((upto t).take k)
  have h2 : ((upto t).take k).length ≤ k := List.length_take_le _ _
  unfold fk; omega
theorem fk_in {t : Int} {zs : List Int} {k : Nat} (h : (k : Int) + 2 < t) (hm : (k : Int) + 2 ∈ zs) : fk t zs (k + 1) = fk t zs k := by
  unfold fk
  rw [upto_take_succ h, List.filter_append]
  simp [hm]
theorem fk_out {t : Int} {zs : List Int} {k : Nat} (h : (k : Int) + 2 < t) (hm : (k : Int) + 2 ∉ zs) : fk t zs (k + 1) = fk t zs k ++ [(k : Int) + 2] := by
  unfold fk
  rw [upto_take_succ h, List.filter_append]
  simp [hm]
theorem fk_all {t : Int} {zs : List Int} {k : Nat} (h : ¬ (k : Int) + 2 < t) : fk t zs k = freeL t zs := by
  unfold fk freeL
  rw [List.take_of_length_le (by rw [length_upto]; omega)]

set_option maxRecDepth 100000 in
set_option maxHeartbeats 1000000 in
theorem rfree_ok (t : Int) (A : Option Addr) (c : Nat) (zs : List Int) (hl : zs.length ≤ 17592186044416) (hcap : zs.length ≤ c) (hn : chk t zs = 0) (w : World) (hr : RdI w A zs) :
    Calls Try.prog 20 #[.int .i64 t, .slice A zs.length c] w fun e w' => ∃ (B : Option Addr) (d : Nat), e = .returned (ansI B (freeL t zs).length d 0) ∧ (freeL t zs).length ≤ d ∧ Hid (RdI w' B (freeL t zs)) ∧ Below w.heap.size w w' := by
  have HC := Lib.hid (hn ▸ rchk_any t A c zs hl hcap w hr)
  obtain ⟨⟨h1, h2⟩, hin, _⟩ := chk_ok.1 hn
  have HR := Lib.hid hr
  obtain ⟨i0, hi, hz0, hz1, hz2⟩ := info_parts infoI
  clear hn hr hin
  go_enter Try.func20, Try.ntmps20
  go_wp2_with (go_at_call 40; refine HC.out.mono ?_; rintro e w1 ⟨rfl, hB1⟩)
  go_loopw [7, 8] (fun v i wr => ∃ k : Nat, (k : Int) + 2 ≤ t ∧ i = .int .i64 ((k : Int) + 2) ∧ Hid (wr.ownsRow w.heap.size 3 1 v (fk t zs k).length ((fk t zs k).map (Value.int .i64))) ∧ Below w.heap.size w wr) (fun _ i _ => (t - intOf i).toNat)
  case atStart => exact ⟨0, by omega, rfl, Lib.hid (by simpa [fk] using World.ownsRow_nil _ _ _ _), hB1⟩
  case round =>
    obtain ⟨k, hk, rfl, HO, hB⟩ := hrel
    by_cases hlt : (k : Int) + 2 < t
    · have hfl := fk_length t zs k
      by_cases hm : (k : Int) + 2 ∈ zs
      · have HF := Lib.hid (fk_in hlt hm)
        have HH := Lib.hid (has_yes A c zs ((k : Int) + 2) hl hm wr (RdI.below HR.out hB))
        clear hm
        go_wp2_with (go_at_call 27; refine HH.out.mono ?_; rintro e w2 ⟨rfl, rfl⟩)
        go_roundw
        case rel => exact ⟨k + 1, by omega, by go_num, by rw [HF.out]; exact HO, hB⟩
        case measure => simp [intOf]; omega
      · have HF := Lib.hid (fk_out hlt hm)
        have HH := Lib.hid (has_no A c zs ((k : Int) + 2) hl hm wr (RdI.below HR.out hB))
        clear hm
        generalize fk t zs k = L at *
        go_wp2_with (first
          | (go_at_call 27; refine HH.out.mono ?_; rintro e w2 ⟨rfl, rfl⟩)
          | (at_builtin; refine wpList_append_own _ rfl _ _ 49 rfl w.heap.size 3 i0 (.int .i64 0) 1 8 Try.underlying49 hi hz0 hz1 hz2 rfl (by decide) _ L.length (L.map (Value.int .i64)) rfl (by exact HO.out.alloc _) ⟨wr.heap.size, 0, none⟩ 1 1 [.int .i64 ((k : Int) + 2)] rfl rfl (by exact cell_one_new _ _ _) (by simp [Value.oneCell']) (by unfold maxLen; omega) (by omega) (by have := hB.size; simp; omega) ?_; intro v4 w4 hown4 hgrow4 _))
        have hB4 : Below w.heap.size w w4 := (hB.alloc hB.size _).grown hgrow4 (by have := hB.size; simp; omega) (fun j e => (HO.out.lt j e).1)
        go_roundw
        case rel =>
          refine ⟨k + 1, by omega, by go_num, ?_, hB4⟩
          rw [HF.out]
          simpa using Lib.hid hown4
        case measure => simp [intOf]; omega
    · rw [fk_all hlt] at HO
      obtain ⟨B, d, rfl, hd, hR⟩ := sown_slice HO.out
      have HX := Lib.hid hR
      clear hR HO
      go_wp2
      go_ret2
      exact ⟨B, d, rfl, hd, HX, hB⟩

end Go.Proofs.Ytddkalcgijeldaa
