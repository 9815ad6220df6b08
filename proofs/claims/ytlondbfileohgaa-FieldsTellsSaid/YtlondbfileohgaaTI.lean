/-
  The reference's Write: what it answers. Conditions: at most 2^43 texts, each of a length that an int holds.
-/
import Derived.Test.YtlondbfileohgaaTH
import Derived.Deep.RegionHeld3
namespace Go.Proofs.Ytlondbfileohgaa
open Go.ChangeShapes Go.WideShapes Go.ChangeAt Go.RowKit

/-- append of a text to octets of the call's own, in a region that draws its order. -/
theorem step_append_text {P : Program} {ops : Array Oper} {o : Oper} {a : Act} {w : World} {K : Act → World → Prop} {Q : Exit → Act → World → Prop} {E : Prop} (hgd : o.guard = none) (sl x : Operand) (t u : TypeId)
    (ho : o.op = .call { callee := .builtin .append, args := #[sl, x], argTypes := #[t, u] })
    (base : Nat) (e : TypeId) (i : TypeInfo) (ht : P.underlying t = some (.slice e)) (hu : P.underlying u = some .string) (hi : P.info? e = some i) (hz : i.zero = some (.int .u8 0))
    (hsize : i.size = 1) (hby : i.bytes = 1)
    (v : Value) (n : Nat) (xs : List Value) (hs : a.eval sl = v) (hown : w.ownsRow base e 1 v n xs) (s : ByteArray) (hx : a.eval x = .string s)
    (hn : 0 < n) (h63 : n + s.size ≤ maxLen) (hbytes : n + s.size ≤ 140737488355328) (hbase : base ≤ w.heap.size)
    (h : ∀ g cap w', w'.ownsRow base e 1 (.slice (some ⟨g, 0, none⟩) (n + s.size) cap) (n + s.size) (xs ++ Lib.strCells s) → w.grownBy w' v.ownBlock → K (a.put o.dst (.slice (some ⟨g, 0, none⟩) (n + s.size) cap)) w') :
    if Region.wanted o (yielded ops a.tmps) = true then Oper.wp P o a w K Q else E := by
  have hw : Region.wanted o (yielded ops a.tmps) = true := by simp [Region.wanted, hgd]
  rw [if_pos hw]
  obtain ⟨v', w', hr, h2, h3, _⟩ := Lib.run_append_own_string (P := P) w base t u o.type e i ht hu hi hz hsize hby v n xs hown s h63 hbytes hbase
  obtain ⟨g, cap, rfl, _, _⟩ := h2.form (by omega)
  unfold Oper.wp execOp
  simp only [ho, resolve, invoke, builtin, Sem.run_bind, Sem.run_pure, Result.andThen_ok, List.map_toArray, List.map_cons, List.map_nil, hs, hx, hr]
  exact h g cap w' h2 h3

theorem held1 {W w' : World} {b o : Nat} {v : Value} (hb : b < W.heap.size) (hc : W.cell? ⟨b, o, none⟩ = some v) (h : Below W.heap.size W w') : w'.cell? ⟨b, o, none⟩ = some v ∧ Below W.heap.size W w' :=
  ⟨(h.cell (p := ⟨b, o, none⟩) hb).trans hc, h⟩

theorem refPut3_at (n : Int) (w : World) :
    Calls Try.prog 19 #[.int .i64 n, .int .i64 3] w fun e w' => ∃ g c, e = .returned (.slice (some ⟨g, 0, none⟩) 3 c) ∧ (∀ j u, ((put n 3).map (Value.int .u8))[j]? = some u → w'.cell? ((⟨g, 0, none⟩ : Addr).add j) = some u) ∧ Below w.heap.size w w' := by
  refine (refPut_any n 3 (by omega) w).mono ?_
  rintro e w' ⟨v, rfl, hown, hB⟩
  obtain ⟨g, c, rfl, _, _⟩ := hown.form (by omega)
  exact ⟨g, c, rfl, fun j u hu => hown.cells (g := g) rfl j u hu, hB⟩

theorem refWrite_many (A : Option Addr) (c n : Nat) (h : 1024 < n) (hn : n ≤ 8796093022208) (w : World) :
    Calls Try.prog 8 #[.slice A n c] w fun e w' => e = .returned (ansB none 0 0 3) ∧ w = w' := by
  go_enter Try.func8, Try.ntmps8
  go_wp2
  go_ret2
  exact ⟨rfl, rfl⟩

set_option maxHeartbeats 1000000 in
theorem refWrite_long (A : Option Addr) (c : Nat) (ss : List ByteArray) (h : ss.length ≤ 1024) (hf : fit ss = false) (hm : ∀ s ∈ ss, s.size ≤ maxLen) (w : World) (hr : RdS w A ss) :
    Calls Try.prog 8 #[.slice A ss.length c] w fun e w' => e = .returned (ansB none 0 0 5) ∧ w = w' := by
  have HR := Lib.hid hr
  have HF := Lib.hid hf
  have HM := Lib.hid hm
  clear hr hf hm
  go_enter Try.func8, Try.ntmps8
  go_wp2
  go_loop [4] (fun i => ∃ k : Nat, k ≤ ss.length ∧ i = .int .i64 k ∧ Hid (∀ (j : Nat) (s : ByteArray), j < k → ss[j]? = some s → s.size ≤ 65536)) (fun i => ss.length - (intOf i).toNat)
  case atStart => exact ⟨0, Nat.zero_le _, rfl, Lib.hid fun j s hj => by omega⟩
  case round =>
    obtain ⟨k, hk, rfl, hall⟩ := hrel
    by_cases hlt : k < ss.length
    · obtain ⟨b, off, s, rfl, hb, hc, hs⟩ := HR.out.at_ hlt
      have hsm : s.size ≤ 9223372036854775807 := HM.out s (List.mem_of_getElem? hs.out)
      by_cases hsz : s.size ≤ 65536
      · go_wp2
        go_round
        case rel =>
          refine ⟨k + 1, by omega, by go_num, Lib.hid fun j t hj ht => ?_⟩
          rcases Nat.lt_or_ge j k with h1 | h1
          · exact hall.out j t h1 ht
          · obtain rfl : j = k := by omega
            have := hs.out.symm.trans ht
            injection this with this
            subst this
            exact hsz
        case measure => simp [intOf]; omega
      · go_wp2
        go_ret2
        exact ⟨rfl, rfl⟩
    · exact (all_before HF.out fun j s hs => hall.out j s (by have := (List.getElem?_eq_some_iff.1 hs).1; omega) hs).elim

set_option maxHeartbeats 2000000 in
theorem refWrite_fits (A : Option Addr) (c : Nat) (ss : List ByteArray) (h : ss.length ≤ 1024) (hf : fit ss = true) (w : World) (hr : RdS w A ss) :
    Calls Try.prog 8 #[.slice A ss.length c] w fun e w' => ∃ B d, e = .returned (ansB B (wr ss).length d 0) ∧ RdB w' B (wr ss) ∧ (wr ss).length ≤ d ∧ Below w.heap.size w w' := by
  obtain ⟨i0, hi, hz0, hz1, hz2⟩ := info_parts info5
  have HR := Lib.hid hr
  have HF := Lib.hid hf
  clear hr hf
  go_enter Try.func8, Try.ntmps8
  go_wp2
  go_loop [4] (fun i => ∃ k : Nat, k ≤ ss.length ∧ i = .int .i64 k) (fun i => ss.length - (intOf i).toNat)
  case atStart => exact ⟨0, Nat.zero_le _, rfl⟩
  case round =>
    obtain ⟨k, hk, rfl⟩ := hrel
    by_cases hlt : k < ss.length
    · obtain ⟨b, off, s, rfl, hb, hc, hs⟩ := HR.out.at_ hlt
      have hsz := fit_at HF.out hs.out
      go_wp2
      go_round
      case rel => exact ⟨k + 1, by omega, by go_num⟩
      case measure => simp [intOf]; omega
    · go_wp2_with fail
      refine (refPut_any ss.length 2 (by omega) w).mono ?_
      rintro e w1 ⟨v1, rfl, hown1, hB1⟩
      go_wp2
      go_loopw [5, 6] (fun v i wr => ∃ k : Nat, k ≤ ss.length ∧ i = .int .i64 k ∧ Hid (wr.ownsRow w.heap.size 5 1 v (wk ss k).length ((wk ss k).map (Value.int .u8))) ∧ Below w.heap.size w wr) (fun _ i _ => ss.length - (intOf i).toNat)
      case atStart =>
        refine ⟨0, Nat.zero_le _, rfl, ?_, hB1⟩
        rw [wk_zero, put_length]
        exact Lib.hid hown1
      case round =>
        clear hown1 hB1
        obtain ⟨k2, hk2, rfl, HO, hB⟩ := hrel
        by_cases hlt2 : k2 < ss.length
        · obtain ⟨b, off, s, rfl, hb, hc0, hs⟩ := HR.out.at_ hlt2
          have hsz := fit_at HF.out hs.out
          have hc : wr.cell? ⟨b, off + k2, none⟩ = some (.string s) := (hB.cell (p := ⟨b, off + k2, none⟩) hb).trans hc0
          have hle := wk_le HF.out k2 hk2 h
          have hpos : 0 < (wk ss k2).length := by simp [wk, put_length]; omega
          have hws := wk_succ ss k2 s hs.out
          have HWS := Lib.hid hws
          have HP := Lib.hid (refPut3_at s.size)
          clear hws
          generalize wk ss k2 = zk at *
          obtain ⟨g, cap, rfl, hg, hlg⟩ := HO.out.form hpos
          have hk2i : (k2 : Int) < (ss.length : Int) := by omega
          go_wp2_with fail
          go_region_held3 (fun w' => w'.cell? ⟨b, off + k2, none⟩ = some (.string s) ∧ Below w.heap.size w w')
            (first | exact held1 hb hc0 (by first | with_reducible assumption | with_reducible exact Below.drew ‹_›))
            (first
              | (go_at_call 19; ((with_reducible refine (HP.out _).mono ?_); rintro e w3 ⟨g3, c3, rfl, hn3, hB3⟩; have hBw3 : Below w.heap.size w w3 := hB.drew.trans (hB3.mono (by simpa using hB.size)); have HO3 := Lib.hid (own_below (own_below HO.out (Below.refl _ wr).drew (Nat.le_refl _)) hB3 (Nat.le_refl _)); have HN3 := Lib.hid hn3; clear hn3 hB3))
              | ((refine step_append_lies (o := ⟨some 38, _, _, _, _, _⟩) _ (by rfl) _ _ _ (by rfl) w.heap.size 5 i0 (.int .u8 0) 1 1 Try.underlying23 hi hz0 hz1 hz2 rfl (by omega) (.slice (some ⟨g, 0, none⟩) zk.length cap) zk.length _ (by rfl) HO3.out ⟨g3, 0, none⟩ 3 c3 _ (by rfl) (by rw [List.length_map, put_length]) HN3.out (one_cell _) (by omega) (by unfold maxLen; omega) (by omega) hBw3.size _ rfl ?_); intro g4 c4 w4 ho4 hg4 _ _; have hBw4 : Below w.heap.size w w4 := hBw3.grown hg4 hBw3.size (fun j e => (HO3.out.lt j e).1); have HO4 := Lib.hid ho4; clear ho4 hg4)
              | ((refine step_append_text (o := ⟨some 43, _, _, _, _, _⟩) (by rfl) _ _ _ _ (by rfl) w.heap.size 5 i0 Try.underlying23 Try.underlying9 hi hz0 hz1 hz2 (.slice (some ⟨g4, 0, none⟩) (zk.length + 3) c4) (zk.length + 3) _ (by rfl) HO4.out s (by rfl) (by omega) (by unfold maxLen; omega) (by omega) hBw4.size ?_); intro g5 c5 w5 ho5 hg5; have hBw5 : Below w.heap.size w w5 := hBw4.grown hg5 hBw4.size (fun j e => (HO4.out.lt j e).1); have HO5 := Lib.hid ho5; clear ho5 hg5))
          go_wp2
          go_roundw
          case rel =>
            refine ⟨k2 + 1, by omega, by go_num, ?_, hBw5⟩
            have := HO5.out
            rw [txo_cells] at this
            rw [HWS.out]
            simp only [List.map_append, List.length_append, put_length, txo_length]
            exact Lib.hid this
          case measure => simp [intOf]; omega
        · obtain rfl : k2 = ss.length := by omega
          rw [wk_all] at HO
          obtain ⟨B, d, rfl, hd, hrB⟩ := own_slice HO.out
          have HRB := Lib.hid (show RdB wr B _ from hrB)
          clear HO hrB
          go_wp2
          go_ret2
          exact ⟨B, d, rfl, HRB.out, hd, hB⟩

/-- What the reference's Write answers. -/
theorem refWrite_any (A : Option Addr) (c : Nat) (ss : List ByteArray) (hl : ss.length ≤ 8796093022208) (hm : ∀ s ∈ ss, s.size ≤ maxLen) (w : World) (hr : RdS w A ss) :
    Calls Try.prog 8 #[.slice A ss.length c] w fun e w' => ∃ B d, e = .returned (ansB B (wrB ss).length d (wrE ss)) ∧ RdB w' B (wrB ss) ∧ Below w.heap.size w w' := by
  by_cases h : ss.length ≤ 1024
  · rcases hf : fit ss with _ | _
    · have hE : wrE ss = 5 := by simp [wrE, hf]; omega
      have hB : wrB ss = [] := by simp [wrB, hE]
      rw [hE, hB]
      refine (refWrite_long A c ss h hf hm w hr).mono ?_
      rintro e w' ⟨rfl, rfl⟩
      exact ⟨none, 0, rfl, RdB.nil _ _, Below.refl _ _⟩
    · have hE : wrE ss = 0 := wrE_ok.2 ⟨h, hf⟩
      have hB : wrB ss = wr ss := by simp [wrB, hE]
      rw [hE, hB]
      refine (refWrite_fits A c ss h hf w hr).mono ?_
      rintro e w' ⟨B, d, rfl, hr', _, hB'⟩
      exact ⟨B, d, rfl, hr', hB'⟩
  · have hE : wrE ss = 3 := by simp [wrE]; omega
    have hB : wrB ss = [] := by simp [wrB, hE]
    rw [hE, hB]
    refine (refWrite_many A c ss.length (by omega) hl w).mono ?_
    rintro e w' ⟨rfl, rfl⟩
    exact ⟨none, 0, rfl, RdB.nil _ _, Below.refl _ _⟩

end Go.Proofs.Ytlondbfileohgaa
