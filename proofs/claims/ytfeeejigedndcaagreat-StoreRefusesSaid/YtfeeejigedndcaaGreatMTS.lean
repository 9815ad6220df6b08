/-
  Slices of texts that read as lists. No conditions.
-/
import Derived.Test.YtfeeejigedndcaaGreatMW
import Derived.Test.YtfeeejigedndcaaGreatMZ
import Derived.Test.YtfeeejigedndcaaGreatMTM
import Derived.SliceStrings
import Derived.LoopTactic
import Derived.Lib.Hide
import Derived.IntWalk
import Derived.RegionTactic
import Derived.Deep.RegionWith
import Derived.WalkSpells
import Derived.Lib.ConvBytes
namespace Go.Proofs.YtfeeejigedndcaaGreat
open Go.ChangeShapes Go.WideShapes Go.ChangeAt Go.RowKit
set_option maxRecDepth 100000

/-- The slice whose array begins at A reads as these texts. -/
def RdS (w : World) (A : Option Addr) (ss : List ByteArray) : Prop := Rd w A (ss.map Value.string)

theorem RdS.nil (w : World) (A : Option Addr) : RdS w A [] := fun h => absurd rfl h
theorem RdS.below {w w' : World} {A : Option Addr} {ss : List ByteArray} (h : RdS w A ss) (hb : Below w.heap.size w w') : RdS w' A ss := Rd.below h hb

/-- The text at k, under a name of its own. -/
theorem RdS.at_ {w : World} {A : Option Addr} {ss : List ByteArray} (h : RdS w A ss) {k : Nat} (hk : k < ss.length) :
    ∃ b off s, A = some ⟨b, off, none⟩ ∧ b < w.heap.size ∧ w.cell? ⟨b, off + k, none⟩ = some (.string s) ∧ RowKit.Hid (ss[k]? = some s) := by
  obtain ⟨b, off, e, hb, hc⟩ := h (by intro h0; have := congrArg List.length h0; simp at this; subst this; simp at hk)
  exact ⟨b, off, ss[k], e, hb, hc k _ (by simp [List.getElem?_map, List.getElem?_eq_getElem hk]), Lib.hid (List.getElem?_eq_getElem hk)⟩

theorem text_at {ss : List ByteArray} {j : Nat} {v : Value} (h : (ss.map Value.string)[j]? = some v) : v = .string (ss.getD j ByteArray.empty) := by
  rw [List.getElem?_map] at h
  rcases hz : ss[j]? with _ | z
  · rw [hz] at h; cases h
  · rw [hz] at h
    simp at h
    subst h
    simp [List.getD, hz]

theorem texts_at {w : World} {a : Addr} {ss : List ByteArray} (h : ∀ i, i < ss.length → w.cell? (a.add i) = some (.string (ss.getD i ByteArray.empty))) (hp : 0 < ss.length) :
    ∃ b off, a = ⟨b, off, none⟩ ∧ ∀ i, i < ss.length → w.cell? ⟨b, off + i, none⟩ = some (.string (ss.getD i ByteArray.empty)) := by
  obtain ⟨b, off, spot⟩ := a
  have hspot : spot = none := by simpa [Addr.add] using World.cell?_spot (h 0 hp)
  subst hspot
  exact ⟨b, off, rfl, fun j hj => by rw [← add_plain]; exact h j hj⟩

/-- A slice of texts that came in. -/
theorem open_texts {H : Type} {enc : TypeId × Value → H} {P : Program} {W : World} {t e : TypeId} {r : Reach} {b0 : Nat} {v : Value} {d : DataW H} {ps : List MemPlace} {N : Nat}
    (ht : P.underlying t = some (.slice e)) (he : P.underlying e = some .string) (hc : P.cellsOf e = 1) (hval : Value.okWide P W r b0 t v)
    (hd : DataW.Trod enc P W 0 (fun _ => true) true t v d ps) (hlt : ∀ x ∈ ps, x.block < W.heap.size)
    (hsz : ∀ elems spare, d = .slice elems spare → elems.length + spare.length ≤ N) :
    ∃ A c ss, v = .slice A ss.length c ∧ ss.length ≤ c ∧ (∀ s ∈ ss, s.size ≤ maxLen) ∧ ss.length ≤ N ∧ RdS W A ss := by
  obtain ⟨a0, len, cap, rfl⟩ := okWide_slice ht hval
  obtain ⟨fuel, hf⟩ := hd
  rcases open_strings ht he hc hf with ⟨hcs, hx⟩ | ⟨a, len', cap', ss, hcs, _, hl, hm, hz, hx, hcell, hwz⟩
  · simp [Value.cells] at hcs
    obtain ⟨rfl, rfl, rfl⟩ := hcs
    exact ⟨none, 0, [], rfl, Nat.le_refl _, fun _ h => (by cases h), by simp, RdS.nil _ _⟩
  · simp [Value.cells] at hcs
    obtain ⟨rfl, rfl, rfl⟩ := hcs
    simp only [Prod.mk.injEq] at hx
    obtain ⟨rfl, rfl⟩ := hx
    simp only [if_true] at hz
    have hbd := hsz _ _ rfl
    simp only [strs, List.length_map, List.length_take, List.length_drop] at hbd
    have hlen : (ss.take len).length = len := by simp; omega
    refine ⟨some a, cap, ss.take len, by rw [hlen], by omega, ?_, by omega, ?_⟩
    · intro s hs
      exact hwz s (List.mem_of_mem_take hs)
    · intro hne
      have hpos : 0 < ss.length := by
        rcases ss with _ | ⟨z, ss⟩
        · simp at hne
        · simp
      have hlpos : 0 < len := by
        rcases Nat.eq_zero_or_pos len with h0 | h0
        · subst h0; simp at hne
        · exact h0
      obtain ⟨b, off, rfl, hcell'⟩ := texts_at hcell hpos
      refine ⟨b, off, rfl, hlt (.cell b off) (MemPlace.mem_row.2 ⟨0, by omega, by simp⟩), fun j u hu => ?_⟩
      have hj : j < len := by
        have := (List.getElem?_eq_some_iff.1 hu).1
        simp at this
        omega
      rw [text_at hu, hcell' j (by omega)]
      simp [List.getD, hj]

/-- Where an argument's bytes are bounded by the form's own reach. -/
theorem sized_texts {H : Type} {P : Program} {ts : List TypeId} {ds : List (DataW H)} (h : (DataW.weightsEach P ts ds).all (· ≤ reachBytes) = true) {j : Nat} {t e : TypeId} {elems spare : List (DataW H)} (ht : ts[j]? = some t) (hd : ds[j]? = some (.slice elems spare))
    (hu : P.underlying t = some (.slice e)) (hb : P.bytesOf e = 16) : elems.length + spare.length ≤ 8796093022208 := by
  have := sized_slice h ht hd hu
  rw [hb] at this
  have h2 : (elems.length + spare.length) * 16 ≤ 140737488351232 := this
  omega

end Go.Proofs.YtfeeejigedndcaaGreat

namespace Go.Proofs.YtfeeejigedndcaaGreat
open Go.ChangeShapes Go.WideShapes Go.ChangeAt Go.RowKit
set_option maxRecDepth 100000

/-- Octets and what is told of them. -/
def ansB (A : Option Addr) (n c : Nat) (e : Int) : Value := .tuple #[.slice A n c, .int .i64 e]

theorem write_many (A : Option Addr) (c n : Nat) (h : 1024 < n) (hn : n ≤ 8796093022208) (w : World) :
    Calls Tryz.prog 102 #[.slice A n c] w fun e w' => e = .returned (ansB none 0 0 3) ∧ w = w' := by
  go_enter Tryz.func102, Tryz.ntmps102
  go_wp2
  go_ret2
  exact ⟨rfl, rfl⟩

theorem all_before {ss : List ByteArray} (hf : fit ss = false) (h : ∀ (j : Nat) (s : ByteArray), ss[j]? = some s → s.size ≤ 65536) : False := by
  have : fit ss = true := List.all_eq_true.2 fun s hs => by
    obtain ⟨j, hj⟩ := List.getElem?_of_mem hs
    simpa using h j s hj
  rw [hf] at this
  cases this

theorem body_take_le {ss : List ByteArray} (hf : ∀ (j : Nat) (s : ByteArray), ss[j]? = some s → s.size ≤ 65536) (k : Nat) : (body (ss.take k)).length ≤ 65539 * k := by
  have hft : fit (ss.take k) = true := List.all_eq_true.2 fun s hs => by
    obtain ⟨j, hj⟩ := List.getElem?_of_mem (List.mem_of_mem_take hs)
    simpa using hf j s hj
  have h1 := body_le _ hft
  have h2 : (ss.take k).length ≤ k := by simp; omega
  have h3 := Nat.mul_le_mul_left 65539 h2
  omega

set_option maxHeartbeats 1000000 in
theorem write_long (A : Option Addr) (c : Nat) (ss : List ByteArray) (h : ss.length ≤ 1024) (hf : fit ss = false) (hm : ∀ s ∈ ss, s.size ≤ maxLen) (w : World) (hr : RdS w A ss) :
    Calls Tryz.prog 102 #[.slice A ss.length c] w fun e w' => e = .returned (ansB none 0 0 5) ∧ w = w' := by
  have HR := Lib.hid hr
  have HF := Lib.hid hf
  have HM := Lib.hid hm
  clear hr hf hm
  go_enter Tryz.func102, Tryz.ntmps102
  go_wp2
  go_loop [4, 15] (fun t i => ∃ k n : Nat, k ≤ ss.length ∧ i = .int .i64 k ∧ t = .int .i64 n ∧ n ≤ 2 + 65539 * k ∧ Hid (∀ (j : Nat) (s : ByteArray), j < k → ss[j]? = some s → s.size ≤ 65536)) (fun _ i => ss.length - (intOf i).toNat)
  case atStart => exact ⟨0, 2, Nat.zero_le _, rfl, rfl, by omega, Lib.hid fun j s hj => by omega⟩
  case round =>
    obtain ⟨k, n, hk, rfl, rfl, hn, hall⟩ := hrel
    by_cases hlt : k < ss.length
    · obtain ⟨b, off, s, rfl, hb, hc, hs⟩ := HR.out.at_ hlt
      have hsm : s.size ≤ 9223372036854775807 := HM.out s (List.mem_of_getElem? hs.out)
      by_cases hsz : s.size ≤ 65536
      · go_wp2
        go_round
        case rel =>
          refine ⟨k + 1, n + (3 + s.size), by omega, by go_num, by go_num, by omega, Lib.hid fun j t hj ht => ?_⟩
          rcases Nat.lt_or_ge j k with h1 | h1
          · exact hall.out j t h1 ht
          · obtain rfl : j = k := by omega
            have := hs.out.symm.trans ht
            injection this with this
            subst this
            exact hsz
        case measure => simp [intOf]; omega
      · go_wp2
        go_ret2
        exact ⟨rfl, rfl⟩
    · exact (all_before HF.out fun j s hs => hall.out j s (by have := (List.getElem?_eq_some_iff.1 hs).1; omega) hs).elim

/-- What is written behind k texts. -/
def wk (ss : List ByteArray) (k : Nat) : List Int := put ss.length 2 ++ body (ss.take k)
theorem wk_zero (ss : List ByteArray) : wk ss 0 = put ss.length 2 := by simp [wk, body]
theorem wk_all (ss : List ByteArray) : wk ss ss.length = wr ss := by simp [wk, wr]
theorem wk_succ (ss : List ByteArray) (k : Nat) (s : ByteArray) (h : ss[k]? = some s) : wk ss (k + 1) = wk ss k ++ put s.size 3 ++ txo s := by
  simp [wk, body_take ss k s h, part1]
theorem wk_le {ss : List ByteArray} (hf : fit ss = true) (k : Nat) (hk : k ≤ ss.length) (hl : ss.length ≤ 1024) : (wk ss k).length ≤ 67111938 := by
  have := body_take_le (fun j s h => fit_at hf h) k (ss := ss)
  simp only [wk, List.length_append, put_length]
  omega

theorem rd_some {w : World} {A : Option Addr} {n : Int} {m : Nat} (h : RdB w A (put n m)) (hm : 0 < m) : A ≠ none := by
  rintro rfl
  obtain ⟨b, off, e, _⟩ := h (by intro e; have := congrArg List.length e; simp [put_length] at this; omega)
  cases e

theorem one_cell (zs : List Int) : ∀ u ∈ zs.map (Value.int .u8), u.oneCell' = true := by
  intro u hu
  obtain ⟨z, _, rfl⟩ := List.mem_map.1 hu
  rfl

set_option maxHeartbeats 2000000 in
theorem write_fits_own (A : Option Addr) (c : Nat) (ss : List ByteArray) (h : ss.length ≤ 1024) (hf : fit ss = true) (w : World) (hr : RdS w A ss) :
    Calls Tryz.prog 102 #[.slice A ss.length c] w fun e w' => ∃ B d, e = .returned (ansB B (wr ss).length d 0) ∧ w'.ownsRow w.heap.size 5 1 (.slice B (wr ss).length d) (wr ss).length ((wr ss).map (Value.int .u8)) ∧ RdB w' B (wr ss) ∧ (wr ss).length ≤ d ∧ (B = none → d = 0) ∧ Below w.heap.size w w' := by
  obtain ⟨i0, hi, hz0, hz1, hz2⟩ := info_parts info5
  have HR := Lib.hid hr
  have HF := Lib.hid hf
  clear hr hf
  go_enter Tryz.func102, Tryz.ntmps102
  go_wp2
  go_loop [4, 15] (fun t i => ∃ k n : Nat, k ≤ ss.length ∧ i = .int .i64 k ∧ t = .int .i64 n ∧ n ≤ 2 + 65539 * k) (fun _ i => ss.length - (intOf i).toNat)
  case atStart => exact ⟨0, 2, Nat.zero_le _, rfl, rfl, by omega⟩
  case round =>
    obtain ⟨k, n, hk, rfl, rfl, hn⟩ := hrel
    by_cases hlt : k < ss.length
    · obtain ⟨b, off, s, rfl, hb, hc, hs⟩ := HR.out.at_ hlt
      have hsz := fit_at HF.out hs.out
      go_wp2
      go_round
      case rel => exact ⟨k + 1, n + (3 + s.size), by omega, by go_num, by go_num, by omega⟩
      case measure => simp [intOf]; omega
    · go_wp2_with (at_make; refine wpList_make_own _ rfl _ _ 46 rfl w.heap.size 5 i0 (.int .u8 0) 1 Tryz.underlying46 hi hz0 hz1 .i64 .i64 _ n rfl rfl (by omega) (by rw [hz2]; omega) (by unfold maxLen; omega) (Nat.le_refl _) ?_; intro w0 hown0 hgrow0)
      have hB0 : Below w.heap.size w w0 := (Below.refl _ w).grown hgrow0 (Nat.le_refl _) (fun _ h => by cases h)
      clear hgrow0
      refine (put_any ss.length 2 (by omega) w0).mono ?_
      rintro e w1 ⟨A1, c1, rfl, hr1, hc1, hB1⟩
      have hown1 := own_below hown0 hB1 (Nat.le_refl _)
      have hB01 : Below w.heap.size w w1 := hB0.trans (hB1.mono hB0.size)
      have hA1 := rd_some hr1 (by omega)
      have HO1 := Lib.hid hown1
      have HR1 := Lib.hid hr1
      clear hown0 hB1 hr1 hown1
      go_wp2_with (at_builtin; refine wpList_append_rd rfl _ _ 46 rfl w.heap.size 5 i0 (.int .u8 0) 1 Tryz.underlying46 hi hz0 hz1 hz2 rfl _ 0 [] rfl HO1.out A1 2 c1 _ rfl (by rw [List.length_map, put_length]) HR1.out (fun e => absurd e hA1) (one_cell _) (by unfold maxLen; omega) (by omega) hB01.size ?_; intro v2 w2 hown2 hgrow2)
      have hB2 : Below w.heap.size w w2 := hB01.grown hgrow2 hB01.size (fun j e => (HO1.out.lt j e).1)
      clear hgrow2 HR1 hA1
      go_loopw [7, 37] (fun v i wr => ∃ k : Nat, k ≤ ss.length ∧ i = .int .i64 k ∧ wr.ownsRow w.heap.size 5 1 v (wk ss k).length ((wk ss k).map (Value.int .u8)) ∧ Below w.heap.size w wr) (fun _ i _ => ss.length - (intOf i).toNat)
      case atStart =>
        refine ⟨0, Nat.zero_le _, rfl, ?_, hB2⟩
        rw [wk_zero, put_length]
        exact hown2
      case round =>
        clear hown2 HO1 hB2
        obtain ⟨k2, hk2, rfl, hown, hB⟩ := hrel
        by_cases hlt2 : k2 < ss.length
        · obtain ⟨b, off, s, rfl, hb, hc0, hs⟩ := HR.out.at_ hlt2
          have hsz := fit_at HF.out hs.out
          have hc : wr.cell? ⟨b, off + k2, none⟩ = some (.string s) := (hB.cell (p := ⟨b, off + k2, none⟩) hb).trans hc0
          have hle := wk_le HF.out k2 hk2 h
          have hws := wk_succ ss k2 s hs.out
          have HWS := Lib.hid hws
          have HOW := Lib.hid hown
          clear hc0 hws hown
          generalize wk ss k2 = zk at *
          go_wp2_with fail
          refine (put_any s.size 3 (by omega) wr).mono ?_
          rintro e w3 ⟨A3, c3, rfl, hr3, hc3, hB3⟩
          have hown3 := own_below HOW.out hB3 (Nat.le_refl _)
          have hB03 : Below w.heap.size w w3 := hB.trans (hB3.mono hB.size)
          have hA3 := rd_some hr3 (by omega)
          have HO3 := Lib.hid hown3
          have HR3 := Lib.hid hr3
          clear hr3 hown3 HOW hB3
          go_wp2_with (first
            | (at_builtin; refine wpList_append_rd rfl _ _ 46 rfl w.heap.size 5 i0 (.int .u8 0) 1 Tryz.underlying46 hi hz0 hz1 hz2 rfl _ zk.length _ rfl HO3.out A3 3 c3 _ rfl (by rw [List.length_map, put_length]) HR3.out (fun e => absurd e hA3) (one_cell _) (by unfold maxLen; omega) (by omega) hB03.size ?_; intro v4 w4 hown4 hgrow4; have hB4 : Below w.heap.size w w4 := hB03.grown hgrow4 hB03.size (fun j e => (HO3.out.lt j e).1); have HO4 := Lib.hid hown4; clear hown4 hgrow4)
            | (at_builtin; refine Lib.wpList_append_own_string _ rfl _ _ 46 9 rfl w.heap.size 5 i0 Tryz.underlying46 Tryz.underlying9 hi hz0 hz1 hz2 _ (zk.length + 3) _ rfl HO4.out s rfl (by unfold maxLen; omega) (by omega) hB4.size ?_; intro v5 w5 hown5 hgrow5 _; have hB5 : Below w.heap.size w w5 := hB4.grown hgrow5 hB4.size (fun j e => (HO4.out.lt j e).1); have HO5 := Lib.hid hown5; clear hown5 hgrow5))
          go_roundw
          case rel =>
            refine ⟨k2 + 1, by omega, by go_num, ?_, hB5⟩
            have := HO5.out
            rw [txo_cells] at this
            rw [HWS.out]
            simp only [List.map_append, List.length_append, put_length, txo_length]
            exact this
          case measure => simp [intOf]; omega
        · obtain rfl : k2 = ss.length := by omega
          rw [wk_all] at hown
          obtain ⟨B, d, rfl, hd, hrB⟩ := own_slice hown
          have hnil : B = none → d = 0 := by
            rintro rfl
            rcases hown.2 with ⟨e, _⟩ | ⟨g, cap, cur, e, _⟩
            · injection e
            · injection e with e
              cases e
          have HRB := Lib.hid hrB
          have HOWN := Lib.hid hown
          have HN := Lib.hid hnil
          clear hown hrB hnil
          go_wp2
          go_ret2
          exact ⟨B, d, rfl, HOWN.out, HRB.out, hd, HN.out, hB⟩

theorem write_fits (A : Option Addr) (c : Nat) (ss : List ByteArray) (h : ss.length ≤ 1024) (hf : fit ss = true) (w : World) (hr : RdS w A ss) :
    Calls Tryz.prog 102 #[.slice A ss.length c] w fun e w' => ∃ B d, e = .returned (ansB B (wr ss).length d 0) ∧ RdB w' B (wr ss) ∧ (wr ss).length ≤ d ∧ (B = none → d = 0) ∧ Below w.heap.size w w' := by
  refine (write_fits_own A c ss h hf w hr).mono ?_
  rintro e w' ⟨B, d, rfl, _, h1, h2, h3, h4⟩
  exact ⟨B, d, rfl, h1, h2, h3, h4⟩

/-- What Write answers. -/
theorem write_any (A : Option Addr) (c : Nat) (ss : List ByteArray) (hl : ss.length ≤ 8796093022208) (hm : ∀ s ∈ ss, s.size ≤ maxLen) (w : World) (hr : RdS w A ss) :
    Calls Tryz.prog 102 #[.slice A ss.length c] w fun e w' => ∃ B d, e = .returned (ansB B (wrB ss).length d (wrE ss)) ∧ RdB w' B (wrB ss) ∧ (wrB ss).length ≤ d ∧ (B = none → d = 0) ∧ Below w.heap.size w w' := by
  by_cases h : ss.length ≤ 1024
  · rcases hf : fit ss with _ | _
    · have hE : wrE ss = 5 := by simp [wrE, hf]; omega
      have hB : wrB ss = [] := by simp [wrB, hE]
      rw [hE, hB]
      refine (write_long A c ss h hf hm w hr).mono ?_
      rintro e w' ⟨rfl, rfl⟩
      exact ⟨none, 0, rfl, RdB.nil _ _, Nat.le_refl _, fun _ => rfl, Below.refl _ _⟩
    · have hE : wrE ss = 0 := wrE_ok.2 ⟨h, hf⟩
      have hB : wrB ss = wr ss := by simp [wrB, hE]
      rw [hE, hB]
      exact write_fits A c ss h hf w hr
  · have hE : wrE ss = 3 := by simp [wrE]; omega
    have hB : wrB ss = [] := by simp [wrB, hE]
    rw [hE, hB]
    refine (write_many A c ss.length (by omega) hl w).mono ?_
    rintro e w' ⟨rfl, rfl⟩
    exact ⟨none, 0, rfl, RdB.nil _ _, Nat.le_refl _, fun _ => rfl, Below.refl _ _⟩

end Go.Proofs.YtfeeejigedndcaaGreat

namespace Go.Proofs.YtfeeejigedndcaaGreat
open Go.ChangeShapes Go.WideShapes Go.ChangeAt Go.RowKit
set_option maxRecDepth 100000

/-- A number, octets, and what is told. -/
def ansF (n : Int) (A : Option Addr) (k c : Nat) (e : Int) : Value := .tuple #[.int .i64 n, .slice A k c, .int .i64 e]
/-- A text, octets, and what is told. -/
def ansT (s : ByteArray) (A : Option Addr) (k c : Nat) (e : Int) : Value := .tuple #[.string s, .slice A k c, .int .i64 e]

theorem first_short (A : Option Addr) (k c m : Nat) (h : k < m) (w : World) :
    Calls Tryz.prog 111 #[.slice A k c, .int .i64 m] w fun e w' => e = .returned (ansF 0 none 0 0 8) ∧ w = w' := by
  go_enter Tryz.func111, Tryz.ntmps111
  go_wp2
  go_ret3
  exact ⟨rfl, rfl⟩

set_option maxHeartbeats 1000000 in
theorem first_ok (A : Option Addr) (c m : Nat) (zs : List Int) (h1 : 1 ≤ m) (h3 : m ≤ 3) (hm : m ≤ zs.length) (hc : zs.length ≤ c) (ho : Octs zs) (w : World) (hr : RdB w A zs) :
    Calls Tryz.prog 111 #[.slice A zs.length c, .int .i64 m] w fun e w' => ∃ B, e = .returned (ansF (val (zs.take m)) B (zs.length - m) (c - m) 0) ∧ (∀ W, RdB W A zs → RdB W B (zs.drop m)) ∧ Below w.heap.size w w' := by
  have hk : (zs.take m).length = m := by simp; omega
  have hv := val_bound (zs.take m) (ho.tk m)
  have hv2 : val (zs.take m) ≤ 4611686018427387903 := by
    have h := hv.2
    rw [hk] at h
    have : (256 : Nat) ^ m ≤ 256 ^ 3 := Nat.pow_le_pow_right (by omega) h3
    have h7 : (256 : Nat) ^ 3 = 16777216 := by decide
    omega
  have hn := number_ok A c (zs.take m) (by omega) (by omega) (ho.tk m) w (rd_take hr m) hv2
  rw [hk] at hn
  have HN := Lib.hid hn
  have hr2 := fun W (h : RdB W A zs) => rd_drop h m c hc
  obtain ⟨A2, hA2⟩ : ∃ A2, (if c = m then A else Option.map (fun x => x.add m) A) = A2 := ⟨_, rfl⟩
  rw [hA2] at hr2
  have HR2 := Lib.hid hr2
  have hmc : m ≤ c := by omega
  have hnd : decide (c < m) = false := by simp; omega
  generalize val (zs.take m) = n at *
  clear hn hr hr2 hk hv
  go_enter Tryz.func111, Tryz.ntmps111
  go_wp2_with (refine HN.out.mono ?_; rintro e w' ⟨rfl, rfl⟩)
  go_region
  go_wp2
  go_ret3
  exact ⟨A2, rfl, HR2.out, (Below.refl _ w).drew⟩

theorem text_short (A : Option Addr) (k c : Nat) (h : k < 3) (w : World) :
    Calls Tryz.prog 112 #[.slice A k c] w fun e w' => e = .returned (ansT ByteArray.empty none 0 0 8) ∧ w = w' := by
  go_enter Tryz.func112, Tryz.ntmps112
  go_wp2_with (refine (first_short A k c 3 h _).mono ?_; rintro e w' ⟨rfl, rfl⟩; unfold ansF)
  go_ret3
  exact ⟨rfl, rfl⟩

set_option maxHeartbeats 1000000 in
theorem text_long (A : Option Addr) (c : Nat) (zs : List Int) (hm : 3 ≤ zs.length) (hc : zs.length ≤ c) (ho : Octs zs) (hv : 65536 < val (zs.take 3)) (w : World) (hr : RdB w A zs) :
    Calls Tryz.prog 112 #[.slice A zs.length c] w fun e w' => e = .returned (ansT ByteArray.empty none 0 0 5) ∧ Below w.heap.size w w' := by
  have hf := first_ok A c 3 zs (by omega) (by omega) hm hc ho w hr
  have HF := Lib.hid hf
  clear hf hr
  generalize val (zs.take 3) = n at *
  go_enter Tryz.func112, Tryz.ntmps112
  go_wp2_with (refine HF.out.mono ?_; rintro e w' ⟨B, rfl, hr, hB⟩; unfold ansF)
  go_ret3
  exact ⟨rfl, hB⟩

set_option maxHeartbeats 1000000 in
theorem text_ends (A : Option Addr) (c : Nat) (zs : List Int) (hm : 3 ≤ zs.length) (hc : zs.length ≤ c) (ho : Octs zs) (hv : val (zs.take 3) ≤ 65536) (hk : ((zs.drop 3).length : Int) < val (zs.take 3)) (w : World) (hr : RdB w A zs) :
    Calls Tryz.prog 112 #[.slice A zs.length c] w fun e w' => e = .returned (ansT ByteArray.empty none 0 0 8) ∧ Below w.heap.size w w' := by
  have hf := first_ok A c 3 zs (by omega) (by omega) hm hc ho w hr
  have HF := Lib.hid hf
  rw [List.length_drop] at hk
  clear hf hr
  generalize val (zs.take 3) = n at *
  go_enter Tryz.func112, Tryz.ntmps112
  go_wp2_with (refine HF.out.mono ?_; rintro e w' ⟨B, rfl, hr, hB⟩; unfold ansF)
  go_ret3
  exact ⟨rfl, hB⟩

set_option maxHeartbeats 1000000 in
theorem text_ok (A : Option Addr) (c k : Nat) (zs : List Int) (hm : 3 ≤ zs.length) (hc : zs.length ≤ c) (hl : zs.length ≤ 4611686018427387904) (ho : Octs zs) (hv : val (zs.take 3) = k) (hk1 : k ≤ 65536) (hk : k ≤ (zs.drop 3).length) (w : World) (hr : RdB w A zs) :
    Calls Tryz.prog 112 #[.slice A zs.length c] w fun e w' => ∃ B, e = .returned (ansT (strOfNums ((zs.drop 3).take k)) B ((zs.drop 3).drop k).length (c - 3 - k) 0) ∧ (∀ W, RdB W A zs → RdB W B ((zs.drop 3).drop k)) ∧ Below w.heap.size w w' := by
  have hf := first_ok A c 3 zs (by omega) (by omega) hm hc ho w hr
  rw [hv] at hf
  have HF := Lib.hid hf
  have hd3 : (zs.drop 3).length = zs.length - 3 := by simp
  have hdk : ((zs.drop 3).drop k).length = zs.length - 3 - k := by simp; omega
  rw [hdk]
  rw [hd3] at hk
  obtain ⟨s, hs⟩ : ∃ s, strOfNums ((zs.drop 3).take k) = s := ⟨_, rfl⟩
  rw [hs]
  have HS := Lib.hid hs
  obtain ⟨rest, hrest⟩ : ∃ rest, (zs.drop 3).drop k = rest := ⟨_, rfl⟩
  rw [hrest]
  have HREST := Lib.hid hrest
  have HRA := Lib.hid hr
  clear hf hr hv hs hrest
  go_enter Tryz.func112, Tryz.ntmps112
  go_wp2_with fail
  refine HF.out.mono ?_
  rintro e w1 ⟨B, rfl, hr, hB⟩
  unfold ansF
  have hr1 := rd_take (Rd.below (hr w HRA.out) hB) k
  have hr2 := fun W (h : RdB W A zs) => rd_drop (hr W h) k (c - 3) (by omega)
  obtain ⟨B2, hB2⟩ : ∃ B2, (if c - 3 = k then B else Option.map (fun x => x.add k) B) = B2 := ⟨_, rfl⟩
  rw [hB2] at hr2
  have hcv := run_string_rd (P := Tryz.prog) w1.drew 46 5 9 Tryz.underlying46 Tryz.underlying5 Tryz.underlying9 _ _ (c - 3) (hr1.below (Below.refl _ w1).drew)
  rw [show ((zs.drop 3).take k).length = k by simp; omega] at hcv
  have HR2 := Lib.hid hr2
  have hkc : k ≤ c - 3 := by omega
  have hnd : decide (c - 3 < k) = false := by simp; omega
  clear hr1 hr2 hr hd3
  rw [HS.out] at hcv
  rw [HREST.out] at HR2
  go_wp2_with fail
  go_region
  go_wp2
  go_ret3
  exact ⟨B2, rfl, HR2.out, hB.drew⟩

/-- What text answers. -/
theorem text_any (A : Option Addr) (c : Nat) (zs : List Int) (hc : zs.length ≤ c) (hl : zs.length ≤ 4611686018427387904) (ho : Octs zs) (w : World) (hr : RdB w A zs) :
    Calls Tryz.prog 112 #[.slice A zs.length c] w fun e w' => ∃ B d, e = .returned (ansT (rd1 zs).2.1 B (rd1 zs).2.2.length d (rd1 zs).1) ∧ (∀ W, RdB W A zs → RdB W B (rd1 zs).2.2) ∧ (rd1 zs).2.2.length ≤ d ∧ Below w.heap.size w w' := by
  by_cases h1 : zs.length < 3
  · have e1 : rd1 zs = (8, ByteArray.empty, []) := by unfold rd1; rw [if_pos h1]
    rw [e1]
    refine (text_short A zs.length c h1 w).mono ?_
    rintro e w' ⟨rfl, rfl⟩
    exact ⟨none, 0, rfl, fun _ _ => RdB.nil _ _, Nat.le_refl _, Below.refl _ _⟩
  · by_cases h2 : 65536 < val (zs.take 3)
    · have e1 : rd1 zs = (5, ByteArray.empty, []) := by unfold rd1; rw [if_neg h1, if_pos h2]
      rw [e1]
      refine (text_long A c zs (by omega) hc ho h2 w hr).mono ?_
      rintro e w' ⟨rfl, hB⟩
      exact ⟨none, 0, rfl, fun _ _ => RdB.nil _ _, Nat.le_refl _, hB⟩
    · by_cases h3 : ((zs.drop 3).length : Int) < val (zs.take 3)
      · have e1 : rd1 zs = (8, ByteArray.empty, []) := by unfold rd1; rw [if_neg h1, if_neg h2, if_pos h3]
        rw [e1]
        refine (text_ends A c zs (by omega) hc ho (by omega) h3 w hr).mono ?_
        rintro e w' ⟨rfl, hB⟩
        exact ⟨none, 0, rfl, fun _ _ => RdB.nil _ _, Nat.le_refl _, hB⟩
      · have e1 : rd1 zs = (0, strOfNums ((zs.drop 3).take (val (zs.take 3)).toNat), (zs.drop 3).drop (val (zs.take 3)).toNat) := by unfold rd1; rw [if_neg h1, if_neg h2, if_neg h3]
        rw [e1]
        have hb := val3_bd (zs.take 3) (by simp; omega) (ho.tk 3)
        refine (text_ok A c (val (zs.take 3)).toNat zs (by omega) hc hl ho (by omega) (by omega) (by omega) w hr).mono ?_
        rintro e w' ⟨B, rfl, hr', hB⟩
        refine ⟨B, _, rfl, hr', ?_, hB⟩
        simp only [List.length_drop]
        omega

end Go.Proofs.YtfeeejigedndcaaGreat

namespace Go.Proofs.YtfeeejigedndcaaGreat
open Go.ChangeShapes Go.WideShapes Go.ChangeAt Go.RowKit
set_option maxRecDepth 100000

/-- Texts and what is told of them. -/
def ansS (A : Option Addr) (n c : Nat) (e : Int) : Value := .tuple #[.slice A n c, .int .i64 e]

theorem infoS : (Tryz.prog.info? 9).map (fun i => (i.zero, i.size, i.bytes)) = some (some (.string ByteArray.empty), 1, 16) := by kernel_rfl

theorem one_cellS (ss : List ByteArray) : ∀ u ∈ ss.map Value.string, u.oneCell' = true := by
  intro u hu
  obtain ⟨z, _, rfl⟩ := List.mem_map.1 hu
  rfl

theorem read_short (A : Option Addr) (k c : Nat) (h : k < 2) (w : World) :
    Calls Tryz.prog 88 #[.slice A k c] w fun e w' => e = .returned (ansS none 0 0 8) ∧ w = w' := by
  go_enter Tryz.func88, Tryz.ntmps88
  go_wp2_with (refine (first_short A k c 2 h _).mono ?_; rintro e w' ⟨rfl, rfl⟩; unfold ansF)
  go_ret2
  exact ⟨rfl, rfl⟩

set_option maxHeartbeats 1000000 in
theorem read_many (A : Option Addr) (c : Nat) (zs : List Int) (hm : 2 ≤ zs.length) (hc : zs.length ≤ c) (ho : Octs zs) (hv : 1024 < val (zs.take 2)) (w : World) (hr : RdB w A zs) :
    Calls Tryz.prog 88 #[.slice A zs.length c] w fun e w' => e = .returned (ansS none 0 0 3) ∧ Below w.heap.size w w' := by
  have hf := first_ok A c 2 zs (by omega) (by omega) hm hc ho w hr
  have HF := Lib.hid hf
  clear hf hr
  generalize val (zs.take 2) = n at *
  go_enter Tryz.func88, Tryz.ntmps88
  go_wp2_with (refine HF.out.mono ?_; rintro e w' ⟨B, rfl, hr, hB⟩; unfold ansF)
  go_ret2
  exact ⟨rfl, hB⟩

theorem rdL_go {n k : Nat} (h : k < n) {zs : List Int} {acc : List ByteArray} {R : Int × List ByteArray} (hR : rdL (n - k) zs acc = R) {e : Int} {s : ByteArray} {r : List Int} (h1 : rd1 zs = (e, s, r)) :
    (e = 0 → rdL (n - (k + 1)) r (acc ++ [s]) = R) ∧ (e ≠ 0 → R = (e, [])) := by
  rw [show n - k = (n - (k + 1)) + 1 by omega] at hR
  simp only [rdL, h1] at hR
  constructor
  · intro h0
    rw [if_pos h0] at hR
    exact hR
  · intro h0
    rw [if_neg h0] at hR
    exact hR.symm

theorem rd1_rest (zs : List Int) (ho : Octs zs) : Octs (rd1 zs).2.2 ∧ (rd1 zs).2.2.length ≤ zs.length := by
  unfold rd1
  split
  · exact ⟨fun _ h => (by cases h), Nat.zero_le _⟩
  split
  · exact ⟨fun _ h => (by cases h), Nat.zero_le _⟩
  split
  · exact ⟨fun _ h => (by cases h), Nat.zero_le _⟩
  · refine ⟨(ho.dp 3).dp _, ?_⟩
    simp only [List.length_drop]
    omega

theorem ownS0 (w : World) (base : Nat) (e : TypeId) : w.ownsRow base e 1 (.slice none 0 0) 0 [] := ⟨rfl, .inl ⟨rfl, rfl⟩⟩
set_option maxHeartbeats 2000000 in
theorem read_loop (A : Option Addr) (c n : Nat) (zs : List Int) (hm : 2 ≤ zs.length) (hc : zs.length ≤ c) (hl : zs.length ≤ 4611686018427387904) (ho : Octs zs) (hv : val (zs.take 2) = n) (hn : n ≤ 1024) (R : Int × List ByteArray) (hR : rdL n (zs.drop 2) [] = R) (w : World) (hr : RdB w A zs) :
    Calls Tryz.prog 88 #[.slice A zs.length c] w fun e w' => ∃ B d, e = .returned (ansS B R.2.length d R.1) ∧ w'.ownsRow w.heap.size 9 1 (.slice B R.2.length d) R.2.length (R.2.map Value.string) ∧ Below w.heap.size w w' := by
  obtain ⟨i0, hi, hz0, hz1, hz2⟩ := info_parts infoS
  have hf := first_ok A c 2 zs (by omega) (by omega) hm hc ho w hr
  rw [hv] at hf
  have HF := Lib.hid hf
  have HR := Lib.hid hR
  have HO := Lib.hid (ho.dp 2)
  have hdl : (zs.drop 2).length = zs.length - 2 := by simp
  have HDL := Lib.hid hdl
  have HRA := Lib.hid hr
  clear hf hr hv hR ho hdl
  generalize zs.drop 2 = z0 at *
  go_enter Tryz.func88, Tryz.ntmps88
  go_wp2_with fail
  refine HF.out.mono ?_
  rintro e w1 ⟨B, rfl, hr, hB⟩
  unfold ansF
  have HR1 := Lib.hid (hr w HRA.out)
  clear hr
  go_wp2_with (at_make; refine wpList_make_own _ rfl _ _ 123 rfl w.heap.size 9 i0 (.string ByteArray.empty) 1 Tryz.underlying123 hi hz0 hz1 .i64 .i64 _ n rfl rfl (by omega) (by rw [hz2]; omega) (by unfold maxLen; omega) hB.size ?_; intro w2 hown2 hgrow2)
  have hB2 : Below w.heap.size w w2 := hB.grown hgrow2 hB.size (fun _ h => by cases h)
  clear hgrow2
  go_loopw [5, 7, 23] (fun rv v i wr => ∃ (k : Nat) (B : Option Addr) (d : Nat) (rest : List Int) (acc : List ByteArray), k ≤ n ∧ i = .int .i64 k ∧ rv = .slice B rest.length d ∧ rest.length ≤ d ∧ rest.length ≤ zs.length ∧ Hid (RdB w B rest) ∧ Hid (Octs rest) ∧ acc.length = k ∧ Hid (wr.ownsRow w.heap.size 9 1 v k (acc.map Value.string)) ∧ Hid (rdL (n - k) rest acc = R) ∧ Below w.heap.size w wr) (fun _ _ i _ => n - (intOf i).toNat)
  case atStart =>
    exact ⟨0, B, c - 2, z0, [], Nat.zero_le _, rfl, by rw [HDL.out], by have := HDL.out; omega, by have := HDL.out; omega, HR1, HO, rfl, Lib.hid hown2, HR, hB2⟩
  case round =>
    clear HR1 hown2 hB2 HDL HO HF HR hB
    obtain ⟨k, B, d, rest, acc, hk, rfl, rfl, hd, hrl, hrd, hoc, hacc, hown, hR, hBw⟩ := hrel
    by_cases hlt : k < n
    · have ht := text_any B d rest hd (by omega) hoc.out wr (Rd.below hrd.out hBw)
      have hrr := rd1_rest rest hoc.out
      rcases h1 : rd1 rest with ⟨e, s, r⟩
      rw [h1] at ht hrr
      have HT := Lib.hid ht
      have HG := Lib.hid (rdL_go hlt hR.out h1)
      have HOR := Lib.hid hrr.1
      have hrr2 : r.length ≤ rest.length := hrr.2
      clear ht h1 hrr hoc hR
      go_wp2_with fail
      refine HT.out.mono ?_
      rintro e' w3 ⟨B3, d3, rfl, hr3, hd3, hB3⟩
      have hd3' : r.length ≤ d3 := hd3
      have HR3 : Hid (RdB w B3 r) := Lib.hid (hr3 w hrd.out)
      have hB03 : Below w.heap.size w w3 := hBw.trans (hB3.mono hBw.size)
      have HOW := Lib.hid (own_below hown.out hB3 (Nat.le_refl _))
      clear hr3 hB3 hown HT hd3
      unfold ansT
      dsimp only
      by_cases he : e = 0
      · subst he
        have hRn := HG.out.1 rfl
        have HRN := Lib.hid hRn
        clear hRn HG
        go_wp2_with (at_builtin; refine wpList_append_own _ rfl _ _ 123 rfl w.heap.size 9 i0 (.string ByteArray.empty) 1 16 Tryz.underlying123 hi hz0 hz1 hz2 rfl (by decide) _ k (acc.map Value.string) rfl (by exact HOW.out.alloc _) ⟨w3.heap.size, 0, none⟩ 1 1 [.string s] rfl rfl (by exact cell_one_new _ _ _) (by simp [Value.oneCell']) (by unfold maxLen; omega) (by omega) (by have := hB03.size; simp; omega) ?_; intro v4 w4 hown4 hgrow4 _)
        have hB4 : Below w.heap.size w w4 := (hB03.alloc hB03.size _).grown hgrow4 (by have := hB03.size; simp; omega) (fun j e => (HOW.out.lt j e).1)
        have HO4 := Lib.hid hown4
        clear hgrow4 hown4
        go_roundw
        case rel =>
          refine ⟨k + 1, B3, d3, r, acc ++ [s], by omega, by go_num, rfl, hd3', by omega, HR3, HOR, by simp [hacc], ?_, HRN, hB4⟩
          have := HO4.out
          rw [List.map_append]
          exact Lib.hid this
        case measure => simp [intOf]; omega
      · have g : (e == 0) = false := beq_eq_false_iff_ne.2 he
        have hRn := HG.out.2 he
        have HRN := Lib.hid hRn
        clear hRn HG
        go_wp2
        go_ret2
        exact ⟨none, 0, by rw [HRN.out]; rfl, by rw [HRN.out]; exact ownS0 _ _ _, hB03⟩
    · obtain rfl : k = n := by omega
      have hR0 := hR.out
      rw [Nat.sub_self] at hR0
      by_cases h0 : rest.length = 0
      · have hRn : R = (0, acc) := by
          rw [← hR0]
          simp only [rdL]
          rw [if_pos h0]
        obtain ⟨B4, d4, rfl, hd4, hr4⟩ := own_slice hown.out
        have HR4 := Lib.hid hown.out
        have HRN := Lib.hid hRn
        clear hRn hR0 hR hown hr4
        go_wp2
        go_ret2
        exact ⟨B4, d4, by rw [HRN.out, ← hacc]; rfl, by rw [HRN.out]; show wr.ownsRow _ _ _ (.slice B4 acc.length d4) acc.length _; rw [hacc]; exact HR4.out, hBw⟩
      · have hRn : R = (9, []) := by
          rw [← hR0]
          simp only [rdL]
          rw [if_neg h0]
        have HRN := Lib.hid hRn
        clear hRn hR0 hR hown
        have hpos : 0 < rest.length := by omega
        go_wp2
        go_ret2
        exact ⟨none, 0, by rw [HRN.out]; rfl, by rw [HRN.out]; exact ownS0 _ _ _, hBw⟩

/-- What Read answers. -/
theorem read_own (A : Option Addr) (c : Nat) (zs : List Int) (hc : zs.length ≤ c) (hl : zs.length ≤ 4611686018427387904) (ho : Octs zs) (w : World) (hr : RdB w A zs) :
    Calls Tryz.prog 88 #[.slice A zs.length c] w fun e w' => ∃ B d, e = .returned (ansS B (rd zs).2.length d (rd zs).1) ∧ w'.ownsRow w.heap.size 9 1 (.slice B (rd zs).2.length d) (rd zs).2.length ((rd zs).2.map Value.string) ∧ Below w.heap.size w w' := by
  by_cases h1 : zs.length < 2
  · have e1 : rd zs = (8, []) := by unfold rd; rw [if_pos h1]
    rw [e1]
    refine (read_short A zs.length c h1 w).mono ?_
    rintro e w' ⟨rfl, rfl⟩
    exact ⟨none, 0, rfl, ownS0 _ _ _, Below.refl _ _⟩
  · by_cases h2 : 1024 < val (zs.take 2)
    · have e1 : rd zs = (3, []) := by unfold rd; rw [if_neg h1, if_pos h2]
      rw [e1]
      refine (read_many A c zs (by omega) hc ho h2 w hr).mono ?_
      rintro e w' ⟨rfl, hB⟩
      exact ⟨none, 0, rfl, ownS0 _ _ _, hB⟩
    · have e1 : rd zs = rdL (val (zs.take 2)).toNat (zs.drop 2) [] := by unfold rd; rw [if_neg h1, if_neg h2]
      have hb := val2_bd (zs.take 2) (by simp; omega) (ho.tk 2)
      exact read_loop A c (val (zs.take 2)).toNat zs (by omega) hc hl ho (by omega) (by omega) (rd zs) e1.symm w hr

theorem read_any (A : Option Addr) (c : Nat) (zs : List Int) (hc : zs.length ≤ c) (hl : zs.length ≤ 4611686018427387904) (ho : Octs zs) (w : World) (hr : RdB w A zs) :
    Calls Tryz.prog 88 #[.slice A zs.length c] w fun e w' => ∃ B d, e = .returned (ansS B (rd zs).2.length d (rd zs).1) ∧ RdS w' B (rd zs).2 ∧ Below w.heap.size w w' := by
  refine (read_own A c zs hc hl ho w hr).mono ?_
  rintro e w' ⟨B, d, rfl, ho, hB⟩
  obtain ⟨B4, d4, e4, _, hr4⟩ := own_slice ho
  injection e4 with e1 _ _
  subst e1
  exact ⟨B, d, rfl, hr4, hB⟩

end Go.Proofs.YtfeeejigedndcaaGreat

namespace Go.Proofs.YtfeeejigedndcaaGreat
open Go.ChangeShapes Go.WideShapes Go.ChangeAt Go.RowKit
set_option maxRecDepth 100000

/-- A text's new octets read so. -/
theorem rd_bytes (w : World) (e : TypeId) (s : ByteArray) : RdB (Lib.bytesWorld w e s) (some ⟨w.heap.size, 0, none⟩) (txo s) := fun _ => by
  refine ⟨w.heap.size, 0, rfl, by rw [Lib.bytesWorld_size]; omega, fun j u hu => ?_⟩
  have hj : j < s.size := by
    have := (List.getElem?_eq_some_iff.1 hu).1
    rw [List.length_map, txo_length] at this
    exact this
  rw [Nat.zero_add, Lib.bytesWorld_cell w e s j hj]
  have hd : j < s.data.toList.length := by
    rw [Array.length_toList]
    exact hj
  rw [List.getElem?_map, txo, List.getElem?_map, List.getElem?_eq_getElem hd] at hu
  simp only [Option.map_some, Option.some.injEq] at hu
  rw [← hu]
  simp [List.getD, List.getElem?_eq_getElem hd]
theorem below_bytes (w : World) (e : TypeId) (s : ByteArray) : Below w.heap.size w (Lib.bytesWorld w e s) :=
  ⟨rfl, rfl, rfl, by rw [Lib.bytesWorld_size]; omega, fun k hk => Lib.bytesWorld_at_old w e s k hk⟩

/-- What Number answers: the number, and what is told. -/
def numR (s : ByteArray) : Int × Int := if s.size < 8 then (0, 8) else if 8 < s.size then (0, 5) else if 4611686018427387903 < val (txo s) then (0, 4) else (val (txo s), 0)

theorem number_short (s : ByteArray) (h : s.size < 8) (w : World) :
    Calls Tryz.prog 113 #[.string s] w fun e w' => e = .returned (ansN 0 8) ∧ w = w' := by
  go_enter Tryz.func113, Tryz.ntmps113
  go_wp2
  go_ret2
  exact ⟨rfl, rfl⟩
theorem number_long (s : ByteArray) (h : 8 < s.size) (hm : s.size ≤ 9223372036854775807) (w : World) :
    Calls Tryz.prog 113 #[.string s] w fun e w' => e = .returned (ansN 0 5) ∧ w = w' := by
  go_enter Tryz.func113, Tryz.ntmps113
  go_wp2
  go_ret2
  exact ⟨rfl, rfl⟩

set_option maxHeartbeats 1000000 in
theorem number_eight (s : ByteArray) (h : s.size = 8) (w : World) :
    Calls Tryz.prog 113 #[.string s] w fun e w' => e = .returned (ansN (numR s).1 (numR s).2) ∧ Below w.heap.size w w' := by
  have hl : (txo s).length = 8 := by rw [txo_length, h]
  have hcv := Lib.run_convert_string_bytes (P := Tryz.prog) w 9 46 5 s Tryz.underlying9 Tryz.underlying46 Tryz.underlying5
  rw [h] at hcv
  generalize grownCap w 8 0 5 = cap at *
  have hrb := rd_bytes w 5 s
  have hbb := below_bytes w 5 s
  generalize Lib.bytesWorld w 5 s = w1 at *
  have hn : Calls Tryz.prog 127 #[.slice (some ⟨w.heap.size, 0, none⟩) 8 cap] w1 fun e w' => e = .returned (ansN (numR s).1 (numR s).2) ∧ w1 = w' := by
    by_cases hv : 4611686018427387903 < val (txo s)
    · have e1 : numR s = (0, 4) := by unfold numR; rw [if_neg (by omega), if_neg (by omega), if_pos hv]
      have := number_big (some ⟨w.heap.size, 0, none⟩) cap (txo s) (by omega) (by omega) (txo_octs s) w1 hrb hv
      rw [hl] at this
      rw [e1]
      exact this
    · have e1 : numR s = (val (txo s), 0) := by unfold numR; rw [if_neg (by omega), if_neg (by omega), if_neg hv]
      have := number_ok (some ⟨w.heap.size, 0, none⟩) cap (txo s) (by omega) (by omega) (txo_octs s) w1 hrb (by omega)
      rw [hl] at this
      rw [e1]
      exact this
  have HN := Lib.hid hn
  clear hn hrb hl
  generalize (numR s).1 = a at *
  generalize (numR s).2 = b at *
  go_enter Tryz.func113, Tryz.ntmps113
  go_wp2_with (refine HN.out.mono ?_; rintro e w' ⟨rfl, rfl⟩; unfold ansN)
  go_ret2
  exact ⟨rfl, hbb⟩

/-- What Number answers. -/
theorem number_any (s : ByteArray) (hm : s.size ≤ 9223372036854775807) (w : World) :
    Calls Tryz.prog 113 #[.string s] w fun e w' => e = .returned (ansN (numR s).1 (numR s).2) ∧ Below w.heap.size w w' := by
  by_cases h1 : s.size < 8
  · have e1 : numR s = (0, 8) := by unfold numR; rw [if_pos h1]
    rw [e1]
    exact (number_short s h1 w).mono fun e w' ⟨he, hw⟩ => ⟨he, hw ▸ Below.refl _ _⟩
  · by_cases h2 : 8 < s.size
    · have e1 : numR s = (0, 5) := by unfold numR; rw [if_neg h1, if_pos h2]
      rw [e1]
      exact (number_long s h2 hm w).mono fun e w' ⟨he, hw⟩ => ⟨he, hw ▸ Below.refl _ _⟩
    · exact number_eight s (by omega) w

/-- A number as a text. -/
def numT (n : Int) : ByteArray := strOfNums (put n 8)
theorem numT_size (n : Int) : (numT n).size = 8 := by rw [numT, strOfNums_size, put_length]
theorem numT_back (n : Int) (h0 : -9223372036854775808 ≤ n) (h1 : n ≤ 9223372036854775807) :
    (0 ≤ n ∧ n ≤ 4611686018427387903 → numR (numT n) = (n, 0)) ∧ (¬ (0 ≤ n ∧ n ≤ 4611686018427387903) → numR (numT n) = (0, 4)) := by
  have hv : val (txo (numT n)) = n % 18446744073709551616 := by rw [numT, txo_str _ (put_octs _ _), val_put8]
  unfold numR
  rw [hv, numT_size, if_neg (by omega), if_neg (by omega)]
  constructor
  · intro h
    rw [if_neg (by omega)]
    rw [show n % 18446744073709551616 = n by omega]
  · intro h
    rw [if_pos (by omega)]

set_option maxHeartbeats 1000000 in
theorem numbers_any (A : Option Addr) (c : Nat) (ns : List Int) (hl : ns.length ≤ 1048576) (w : World) (hr : RdI w A ns) :
    Calls Tryz.prog 100 #[.slice A ns.length c] w fun e w' => ∃ v, e = .returned v ∧ w'.ownsRow w.heap.size 9 1 v ns.length ((ns.map numT).map Value.string) ∧ Below w.heap.size w w' := by
  obtain ⟨i0, hi, hz0, hz1, hz2⟩ := info_parts infoS
  have HR := Lib.hid hr
  clear hr
  go_enter Tryz.func100, Tryz.ntmps100
  go_wp2_with (at_make; refine wpList_make_own _ rfl _ _ 123 rfl w.heap.size 9 i0 (.string ByteArray.empty) 1 Tryz.underlying123 hi hz0 hz1 .i64 .i64 _ ns.length rfl rfl (by omega) (by rw [hz2]; omega) (by unfold maxLen; omega) (Nat.le_refl _) ?_; intro w2 hown2 hgrow2)
  have hB2 : Below w.heap.size w w2 := (Below.refl _ w).grown hgrow2 (Nat.le_refl _) (fun _ h => by cases h)
  clear hgrow2
  go_loopw [3, 11] (fun v i wr => ∃ k : Nat, k ≤ ns.length ∧ i = .int .i64 k ∧ Hid (wr.ownsRow w.heap.size 9 1 v k (((ns.take k).map numT).map Value.string)) ∧ Below w.heap.size w wr) (fun _ i _ => ns.length - (intOf i).toNat)
  case atStart => exact ⟨0, Nat.zero_le _, rfl, Lib.hid hown2, hB2⟩
  case round =>
    clear hown2 hB2
    obtain ⟨k, hk, rfl, hown, hB⟩ := hrel
    by_cases hlt : k < ns.length
    · obtain ⟨b, off, z, rfl, hb, hc0, hz⟩ := HR.out.at_ hlt
      have hc : wr.cell? ⟨b, off + k, none⟩ = some (.int .i64 z) := (hB.cell (p := ⟨b, off + k, none⟩) hb).trans hc0
      have hs : ((ns.take (k + 1)).map numT).map Value.string = ((ns.take k).map numT).map Value.string ++ [.string (numT z)] := by
        obtain ⟨h1, h2⟩ := List.getElem?_eq_some_iff.1 hz.out
        rw [List.take_succ_eq_append_getElem h1, h2]
        simp
      have HS := Lib.hid hs
      clear hc0 hs
      generalize ((ns.take k).map numT).map Value.string = cs at *
      go_wp2_with fail
      refine (put_any z 8 (by omega) wr).mono ?_
      rintro e w3 ⟨B3, d3, rfl, hr3, hd3, hB3⟩
      have hcv := run_string_rd (P := Tryz.prog) w3 46 5 9 Tryz.underlying46 Tryz.underlying5 Tryz.underlying9 _ _ d3 hr3
      rw [put_length, show strOfNums (put z 8) = numT z from rfl] at hcv
      have HOW := Lib.hid (own_below hown.out hB3 (Nat.le_refl _))
      have hB03 : Below w.heap.size w w3 := hB.trans (hB3.mono hB.size)
      clear hr3 hB3 hown
      generalize numT z = s at *
      go_wp2_with (at_builtin; refine wpList_append_own _ rfl _ _ 123 rfl w.heap.size 9 i0 (.string ByteArray.empty) 1 16 Tryz.underlying123 hi hz0 hz1 hz2 rfl (by decide) _ k cs rfl (by exact HOW.out.alloc _) ⟨w3.heap.size, 0, none⟩ 1 1 [.string s] rfl rfl (by exact cell_one_new _ _ _) (by simp [Value.oneCell']) (by unfold maxLen; omega) (by omega) (by have := hB03.size; simp; omega) ?_; intro v4 w4 hown4 hgrow4 _)
      have hB4 : Below w.heap.size w w4 := (hB03.alloc hB03.size _).grown hgrow4 (by have := hB03.size; simp; omega) (fun j e => (HOW.out.lt j e).1)
      have HO4 := Lib.hid hown4
      clear hgrow4 hown4
      go_roundw
      case rel =>
        refine ⟨k + 1, by omega, by go_num, ?_, hB4⟩
        rw [HS.out]
        exact HO4
      case measure => simp [intOf]; omega
    · obtain rfl : k = ns.length := by omega
      rw [List.take_length] at hown
      go_wp2
      go_ret
      exact ⟨_, rfl, hown.out, hB⟩

end Go.Proofs.YtfeeejigedndcaaGreat
