/-
  Slices of texts that read as lists. No conditions.
-/
import Derived.Test.YtmehjmkakkiedaaGreatMTM
import Derived.Test.YtmehjmkakkiedaaGreatMZ
import Derived.SliceStrings
import Derived.LoopTactic
import Derived.Lib.Hide
import Derived.IntWalk
import Derived.RegionTactic
namespace Go.Proofs.YtmehjmkakkiedaaGreat
open Go.ChangeShapes Go.WideShapes Go.ChangeAt Go.RowKit
set_option maxRecDepth 100000

/-- The slice whose array begins at A reads as these texts. -/
def RdS (w : World) (A : Option Addr) (ss : List ByteArray) : Prop := Rd w A (ss.map Value.string)

theorem RdS.nil (w : World) (A : Option Addr) : RdS w A [] := fun h => absurd rfl h
theorem RdS.below {w w' : World} {A : Option Addr} {ss : List ByteArray} (h : RdS w A ss) (hb : Below w.heap.size w w') : RdS w' A ss := Rd.below h hb

/-- The text at k, under a name of its own. -/
theorem RdS.at_ {w : World} {A : Option Addr} {ss : List ByteArray} (h : RdS w A ss) {k : Nat} (hk : k < ss.length) :
    ∃ b off s, A = some ⟨b, off, none⟩ ∧ b < w.heap.size ∧ w.cell? ⟨b, off + k, none⟩ = some (.string s) ∧ RowKit.Hid (ss[k]? = some s) := by
  obtain ⟨b, off, e, hb, hc⟩ := h (by intro h0; have := congrArg List.length h0; simp at this; subst this; simp at hk)
  exact ⟨b, off, ss[k], e, hb, hc k _ (by simp [List.getElem?_map, List.getElem?_eq_getElem hk]), Lib.hid (List.getElem?_eq_getElem hk)⟩

theorem text_at {ss : List ByteArray} {j : Nat} {v : Value} (h : (ss.map Value.string)[j]? = some v) : v = .string (ss.getD j ByteArray.empty) := by
  rw [List.getElem?_map] at h
  rcases hz : ss[j]? with _ | z
  · rw [hz] at h; cases h
  · rw [hz] at h
    simp at h
    subst h
    simp [List.getD, hz]

theorem texts_at {w : World} {a : Addr} {ss : List ByteArray} (h : ∀ i, i < ss.length → w.cell? (a.add i) = some (.string (ss.getD i ByteArray.empty))) (hp : 0 < ss.length) :
    ∃ b off, a = ⟨b, off, none⟩ ∧ ∀ i, i < ss.length → w.cell? ⟨b, off + i, none⟩ = some (.string (ss.getD i ByteArray.empty)) := by
  obtain ⟨b, off, spot⟩ := a
  have hspot : spot = none := by simpa [Addr.add] using World.cell?_spot (h 0 hp)
  subst hspot
  exact ⟨b, off, rfl, fun j hj => by rw [← add_plain]; exact h j hj⟩

/-- A slice of texts that came in. -/
theorem open_texts {H : Type} {enc : TypeId × Value → H} {P : Program} {W : World} {t e : TypeId} {r : Reach} {b0 : Nat} {v : Value} {d : DataW H} {ps : List MemPlace} {N : Nat}
    (ht : P.underlying t = some (.slice e)) (he : P.underlying e = some .string) (hc : P.cellsOf e = 1) (hval : Value.okWide P W r b0 t v)
    (hd : DataW.Trod enc P W 0 (fun _ => true) true t v d ps) (hlt : ∀ x ∈ ps, x.block < W.heap.size)
    (hsz : ∀ elems spare, d = .slice elems spare → elems.length + spare.length ≤ N) :
    ∃ A c ss, v = .slice A ss.length c ∧ ss.length ≤ c ∧ (∀ s ∈ ss, s.size ≤ maxLen) ∧ ss.length ≤ N ∧ RdS W A ss := by
  obtain ⟨a0, len, cap, rfl⟩ := okWide_slice ht hval
  obtain ⟨fuel, hf⟩ := hd
  rcases open_strings ht he hc hf with ⟨hcs, hx⟩ | ⟨a, len', cap', ss, hcs, _, hl, hm, hz, hx, hcell, hwz⟩
  · simp [Value.cells] at hcs
    obtain ⟨rfl, rfl, rfl⟩ := hcs
    exact ⟨none, 0, [], rfl, Nat.le_refl _, fun _ h => (by cases h), by simp, RdS.nil _ _⟩
  · simp [Value.cells] at hcs
    obtain ⟨rfl, rfl, rfl⟩ := hcs
    simp only [Prod.mk.injEq] at hx
    obtain ⟨rfl, rfl⟩ := hx
    simp only [if_true] at hz
    have hbd := hsz _ _ rfl
    simp only [strs, List.length_map, List.length_take, List.length_drop] at hbd
    have hlen : (ss.take len).length = len := by simp; omega
    refine ⟨some a, cap, ss.take len, by rw [hlen], by omega, ?_, by omega, ?_⟩
    · intro s hs
      exact hwz s (List.mem_of_mem_take hs)
    · intro hne
      have hpos : 0 < ss.length := by
        rcases ss with _ | ⟨z, ss⟩
        · simp at hne
        · simp
      have hlpos : 0 < len := by
        rcases Nat.eq_zero_or_pos len with h0 | h0
        · subst h0; simp at hne
        · exact h0
      obtain ⟨b, off, rfl, hcell'⟩ := texts_at hcell hpos
      refine ⟨b, off, rfl, hlt (.cell b off) (MemPlace.mem_row.2 ⟨0, by omega, by simp⟩), fun j u hu => ?_⟩
      have hj : j < len := by
        have := (List.getElem?_eq_some_iff.1 hu).1
        simp at this
        omega
      rw [text_at hu, hcell' j (by omega)]
      simp [List.getD, hj]

/-- Where an argument's bytes are bounded by the form's own reach. -/
theorem sized_texts {H : Type} {P : Program} {ts : List TypeId} {ds : List (DataW H)} (h : (DataW.weightsEach P ts ds).all (· ≤ reachBytes) = true) {j : Nat} {t e : TypeId} {elems spare : List (DataW H)} (ht : ts[j]? = some t) (hd : ds[j]? = some (.slice elems spare))
    (hu : P.underlying t = some (.slice e)) (hb : P.bytesOf e = 16) : elems.length + spare.length ≤ 8796093022208 := by
  have := sized_slice h ht hd hu
  rw [hb] at this
  have h2 : (elems.length + spare.length) * 16 ≤ 140737488351232 := this
  omega

end Go.Proofs.YtmehjmkakkiedaaGreat

namespace Go.Proofs.YtmehjmkakkiedaaGreat
open Go.ChangeShapes Go.WideShapes Go.ChangeAt Go.RowKit
set_option maxRecDepth 100000

/-- Octets and what is told of them. -/
def ansB (A : Option Addr) (n c : Nat) (e : Int) : Value := .tuple #[.slice A n c, .int .i64 e]

theorem write_many (A : Option Addr) (c n : Nat) (h : 1024 < n) (hn : n ≤ 8796093022208) (w : World) :
    Calls Tryz.prog 102 #[.slice A n c] w fun e w' => e = .returned (ansB none 0 0 3) ∧ w = w' := by
  go_enter Tryz.func102, Tryz.ntmps102
  go_wp2
  go_ret2
  exact ⟨rfl, rfl⟩

theorem all_before {ss : List ByteArray} (hf : fit ss = false) (h : ∀ (j : Nat) (s : ByteArray), ss[j]? = some s → s.size ≤ 65536) : False := by
  have : fit ss = true := List.all_eq_true.2 fun s hs => by
    obtain ⟨j, hj⟩ := List.getElem?_of_mem hs
    simpa using h j s hj
  rw [hf] at this
  cases this

theorem body_take_le {ss : List ByteArray} (hf : ∀ (j : Nat) (s : ByteArray), ss[j]? = some s → s.size ≤ 65536) (k : Nat) : (body (ss.take k)).length ≤ 65539 * k := by
  have hft : fit (ss.take k) = true := List.all_eq_true.2 fun s hs => by
    obtain ⟨j, hj⟩ := List.getElem?_of_mem (List.mem_of_mem_take hs)
    simpa using hf j s hj
  have h1 := body_le _ hft
  have h2 : (ss.take k).length ≤ k := by simp; omega
  have h3 := Nat.mul_le_mul_left 65539 h2
  omega

set_option maxHeartbeats 1000000 in
theorem write_long (A : Option Addr) (c : Nat) (ss : List ByteArray) (h : ss.length ≤ 1024) (hf : fit ss = false) (hm : ∀ s ∈ ss, s.size ≤ maxLen) (w : World) (hr : RdS w A ss) :
    Calls Tryz.prog 102 #[.slice A ss.length c] w fun e w' => e = .returned (ansB none 0 0 5) ∧ w = w' := by
  have HR := Lib.hid hr
  have HF := Lib.hid hf
  have HM := Lib.hid hm
  clear hr hf hm
  go_enter Tryz.func102, Tryz.ntmps102
  go_wp2
  go_loop [4, 15] (fun t i => ∃ k n : Nat, k ≤ ss.length ∧ i = .int .i64 k ∧ t = .int .i64 n ∧ n ≤ 2 + 65539 * k ∧ Hid (∀ (j : Nat) (s : ByteArray), j < k → ss[j]? = some s → s.size ≤ 65536)) (fun _ i => ss.length - (intOf i).toNat)
  case atStart => exact ⟨0, 2, Nat.zero_le _, rfl, rfl, by omega, Lib.hid fun j s hj => by omega⟩
  case round =>
    obtain ⟨k, n, hk, rfl, rfl, hn, hall⟩ := hrel
    by_cases hlt : k < ss.length
    · obtain ⟨b, off, s, rfl, hb, hc, hs⟩ := HR.out.at_ hlt
      have hsm : s.size ≤ 9223372036854775807 := HM.out s (List.mem_of_getElem? hs.out)
      by_cases hsz : s.size ≤ 65536
      · go_wp2
        go_round
        case rel =>
          refine ⟨k + 1, n + (3 + s.size), by omega, by go_num, by go_num, by omega, Lib.hid fun j t hj ht => ?_⟩
          rcases Nat.lt_or_ge j k with h1 | h1
          · exact hall.out j t h1 ht
          · obtain rfl : j = k := by omega
            have := hs.out.symm.trans ht
            injection this with this
            subst this
            exact hsz
        case measure => simp [intOf]; omega
      · go_wp2
        go_ret2
        exact ⟨rfl, rfl⟩
    · exact (all_before HF.out fun j s hs => hall.out j s (by have := (List.getElem?_eq_some_iff.1 hs).1; omega) hs).elim

/-- What is written behind k texts. -/
def wk (ss : List ByteArray) (k : Nat) : List Int := put ss.length 2 ++ body (ss.take k)
theorem wk_zero (ss : List ByteArray) : wk ss 0 = put ss.length 2 := by simp [wk, body]
theorem wk_all (ss : List ByteArray) : wk ss ss.length = wr ss := by simp [wk, wr]
theorem wk_succ (ss : List ByteArray) (k : Nat) (s : ByteArray) (h : ss[k]? = some s) : wk ss (k + 1) = wk ss k ++ put s.size 3 ++ txo s := by
  simp [wk, body_take ss k s h, part1]
theorem wk_le {ss : List ByteArray} (hf : fit ss = true) (k : Nat) (hk : k ≤ ss.length) (hl : ss.length ≤ 1024) : (wk ss k).length ≤ 67111938 := by
  have := body_take_le (fun j s h => fit_at hf h) k (ss := ss)
  simp only [wk, List.length_append, put_length]
  omega

theorem rd_some {w : World} {A : Option Addr} {n : Int} {m : Nat} (h : RdB w A (put n m)) (hm : 0 < m) : A ≠ none := by
  rintro rfl
  obtain ⟨b, off, e, _⟩ := h (by intro e; have := congrArg List.length e; simp [put_length] at this; omega)
  cases e

theorem one_cell (zs : List Int) : ∀ u ∈ zs.map (Value.int .u8), u.oneCell' = true := by
  intro u hu
  obtain ⟨z, _, rfl⟩ := List.mem_map.1 hu
  rfl

set_option maxHeartbeats 2000000 in
theorem write_fits_own (A : Option Addr) (c : Nat) (ss : List ByteArray) (h : ss.length ≤ 1024) (hf : fit ss = true) (w : World) (hr : RdS w A ss) :
    Calls Tryz.prog 102 #[.slice A ss.length c] w fun e w' => ∃ B d, e = .returned (ansB B (wr ss).length d 0) ∧ w'.ownsRow w.heap.size 5 1 (.slice B (wr ss).length d) (wr ss).length ((wr ss).map (Value.int .u8)) ∧ RdB w' B (wr ss) ∧ (wr ss).length ≤ d ∧ (B = none → d = 0) ∧ Below w.heap.size w w' := by
  obtain ⟨i0, hi, hz0, hz1, hz2⟩ := info_parts info5
  have HR := Lib.hid hr
  have HF := Lib.hid hf
  clear hr hf
  go_enter Tryz.func102, Tryz.ntmps102
  go_wp2
  go_loop [4, 15] (fun t i => ∃ k n : Nat, k ≤ ss.length ∧ i = .int .i64 k ∧ t = .int .i64 n ∧ n ≤ 2 + 65539 * k) (fun _ i => ss.length - (intOf i).toNat)
  case atStart => exact ⟨0, 2, Nat.zero_le _, rfl, rfl, by omega⟩
  case round =>
    obtain ⟨k, n, hk, rfl, rfl, hn⟩ := hrel
    by_cases hlt : k < ss.length
    · obtain ⟨b, off, s, rfl, hb, hc, hs⟩ := HR.out.at_ hlt
      have hsz := fit_at HF.out hs.out
      go_wp2
      go_round
      case rel => exact ⟨k + 1, n + (3 + s.size), by omega, by go_num, by go_num, by omega⟩
      case measure => simp [intOf]; omega
    · go_wp2_with (at_make; refine wpList_make_own _ rfl _ _ 46 rfl w.heap.size 5 i0 (.int .u8 0) 1 Tryz.underlying46 hi hz0 hz1 .i64 .i64 _ n rfl rfl (by omega) (by rw [hz2]; omega) (by unfold maxLen; omega) (Nat.le_refl _) ?_; intro w0 hown0 hgrow0)
      have hB0 : Below w.heap.size w w0 := (Below.refl _ w).grown hgrow0 (Nat.le_refl _) (fun _ h => by cases h)
      clear hgrow0
      refine (put_any ss.length 2 (by omega) w0).mono ?_
      rintro e w1 ⟨A1, c1, rfl, hr1, hc1, hB1⟩
      have hown1 := own_below hown0 hB1 (Nat.le_refl _)
      have hB01 : Below w.heap.size w w1 := hB0.trans (hB1.mono hB0.size)
      have hA1 := rd_some hr1 (by omega)
      have HO1 := Lib.hid hown1
      have HR1 := Lib.hid hr1
      clear hown0 hB1 hr1 hown1
      go_wp2_with (at_builtin; refine wpList_append_rd rfl _ _ 46 rfl w.heap.size 5 i0 (.int .u8 0) 1 Tryz.underlying46 hi hz0 hz1 hz2 rfl _ 0 [] rfl HO1.out A1 2 c1 _ rfl (by rw [List.length_map, put_length]) HR1.out (fun e => absurd e hA1) (one_cell _) (by unfold maxLen; omega) (by omega) hB01.size ?_; intro v2 w2 hown2 hgrow2)
      have hB2 : Below w.heap.size w w2 := hB01.grown hgrow2 hB01.size (fun j e => (HO1.out.lt j e).1)
      clear hgrow2 HR1 hA1
      go_loopw [7, 37] (fun v i wr => ∃ k : Nat, k ≤ ss.length ∧ i = .int .i64 k ∧ wr.ownsRow w.heap.size 5 1 v (wk ss k).length ((wk ss k).map (Value.int .u8)) ∧ Below w.heap.size w wr) (fun _ i _ => ss.length - (intOf i).toNat)
      case atStart =>
        refine ⟨0, Nat.zero_le _, rfl, ?_, hB2⟩
        rw [wk_zero, put_length]
        exact hown2
      case round =>
        clear hown2 HO1 hB2
        obtain ⟨k2, hk2, rfl, hown, hB⟩ := hrel
        by_cases hlt2 : k2 < ss.length
        · obtain ⟨b, off, s, rfl, hb, hc0, hs⟩ := HR.out.at_ hlt2
          have hsz := fit_at HF.out hs.out
          have hc : wr.cell? ⟨b, off + k2, none⟩ = some (.string s) := (hB.cell (p := ⟨b, off + k2, none⟩) hb).trans hc0
          have hle := wk_le HF.out k2 hk2 h
          have hws := wk_succ ss k2 s hs.out
          have HWS := Lib.hid hws
          have HOW := Lib.hid hown
          clear hc0 hws hown
          generalize wk ss k2 = zk at *
          go_wp2_with fail
          refine (put_any s.size 3 (by omega) wr).mono ?_
          rintro e w3 ⟨A3, c3, rfl, hr3, hc3, hB3⟩
          have hown3 := own_below HOW.out hB3 (Nat.le_refl _)
          have hB03 : Below w.heap.size w w3 := hB.trans (hB3.mono hB.size)
          have hA3 := rd_some hr3 (by omega)
          have HO3 := Lib.hid hown3
          have HR3 := Lib.hid hr3
          clear hr3 hown3 HOW hB3
          go_wp2_with (first
            | (at_builtin; refine wpList_append_rd rfl _ _ 46 rfl w.heap.size 5 i0 (.int .u8 0) 1 Tryz.underlying46 hi hz0 hz1 hz2 rfl _ zk.length _ rfl HO3.out A3 3 c3 _ rfl (by rw [List.length_map, put_length]) HR3.out (fun e => absurd e hA3) (one_cell _) (by unfold maxLen; omega) (by omega) hB03.size ?_; intro v4 w4 hown4 hgrow4; have hB4 : Below w.heap.size w w4 := hB03.grown hgrow4 hB03.size (fun j e => (HO3.out.lt j e).1); have HO4 := Lib.hid hown4; clear hown4 hgrow4)
            | (at_builtin; refine Lib.wpList_append_own_string _ rfl _ _ 46 9 rfl w.heap.size 5 i0 Tryz.underlying46 Tryz.underlying9 hi hz0 hz1 hz2 _ (zk.length + 3) _ rfl HO4.out s rfl (by unfold maxLen; omega) (by omega) hB4.size ?_; intro v5 w5 hown5 hgrow5 _; have hB5 : Below w.heap.size w w5 := hB4.grown hgrow5 hB4.size (fun j e => (HO4.out.lt j e).1); have HO5 := Lib.hid hown5; clear hown5 hgrow5))
          go_roundw
          case rel =>
            refine ⟨k2 + 1, by omega, by go_num, ?_, hB5⟩
            have := HO5.out
            rw [txo_cells] at this
            rw [HWS.out]
            simp only [List.map_append, List.length_append, put_length, txo_length]
            exact this
          case measure => simp [intOf]; omega
        · obtain rfl : k2 = ss.length := by omega
          rw [wk_all] at hown
          obtain ⟨B, d, rfl, hd, hrB⟩ := own_slice hown
          have hnil : B = none → d = 0 := by
            rintro rfl
            rcases hown.2 with ⟨e, _⟩ | ⟨g, cap, cur, e, _⟩
            · injection e
            · injection e with e
              cases e
          have HRB := Lib.hid hrB
          have HOWN := Lib.hid hown
          have HN := Lib.hid hnil
          clear hown hrB hnil
          go_wp2
          go_ret2
          exact ⟨B, d, rfl, HOWN.out, HRB.out, hd, HN.out, hB⟩

theorem write_fits (A : Option Addr) (c : Nat) (ss : List ByteArray) (h : ss.length ≤ 1024) (hf : fit ss = true) (w : World) (hr : RdS w A ss) :
    Calls Tryz.prog 102 #[.slice A ss.length c] w fun e w' => ∃ B d, e = .returned (ansB B (wr ss).length d 0) ∧ RdB w' B (wr ss) ∧ (wr ss).length ≤ d ∧ (B = none → d = 0) ∧ Below w.heap.size w w' := by
  refine (write_fits_own A c ss h hf w hr).mono ?_
  rintro e w' ⟨B, d, rfl, _, h1, h2, h3, h4⟩
  exact ⟨B, d, rfl, h1, h2, h3, h4⟩

/-- What Write answers. -/
theorem write_any (A : Option Addr) (c : Nat) (ss : List ByteArray) (hl : ss.length ≤ 8796093022208) (hm : ∀ s ∈ ss, s.size ≤ maxLen) (w : World) (hr : RdS w A ss) :
    Calls Tryz.prog 102 #[.slice A ss.length c] w fun e w' => ∃ B d, e = .returned (ansB B (wrB ss).length d (wrE ss)) ∧ RdB w' B (wrB ss) ∧ (wrB ss).length ≤ d ∧ (B = none → d = 0) ∧ Below w.heap.size w w' := by
  by_cases h : ss.length ≤ 1024
  · rcases hf : fit ss with _ | _
    · have hE : wrE ss = 5 := by simp [wrE, hf]; omega
      have hB : wrB ss = [] := by simp [wrB, hE]
      rw [hE, hB]
      refine (write_long A c ss h hf hm w hr).mono ?_
      rintro e w' ⟨rfl, rfl⟩
      exact ⟨none, 0, rfl, RdB.nil _ _, Nat.le_refl _, fun _ => rfl, Below.refl _ _⟩
    · have hE : wrE ss = 0 := wrE_ok.2 ⟨h, hf⟩
      have hB : wrB ss = wr ss := by simp [wrB, hE]
      rw [hE, hB]
      exact write_fits A c ss h hf w hr
  · have hE : wrE ss = 3 := by simp [wrE]; omega
    have hB : wrB ss = [] := by simp [wrB, hE]
    rw [hE, hB]
    refine (write_many A c ss.length (by omega) hl w).mono ?_
    rintro e w' ⟨rfl, rfl⟩
    exact ⟨none, 0, rfl, RdB.nil _ _, Nat.le_refl _, fun _ => rfl, Below.refl _ _⟩

end Go.Proofs.YtmehjmkakkiedaaGreat
