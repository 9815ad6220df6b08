/-
  pairs hands out a text's digits two by two, whatever the loop over it does, as long as it keeps the text. Conditions: the text is made of pairs of digits.
-/
import Derived.Test.YtedhahonanfnaaaD
import Derived.Test.YtedhahonanfnaaaKB
namespace Go.Proofs.Ytedhahonanfnaaa
open Go.ChangeShapes Go.WideShapes Go.ChangeAt Go.RowKit Go.Shelf
set_option maxRecDepth 100000
attribute [local go_sem] Oper.semAt_some

/-- s[i], of a string of octets. -/
theorem run_str_at {P : Program} (t : TypeId) (ht : P.underlying t = some .string) (cs : List Int) (ho : Octs cs) (i : Int) (h0 : 0 ≤ i) (h1 : i < cs.length) (w : World) :
    (Instr.index t (.string (strOfNums cs)) (.int .i64 i)).run P w = .ok (.int .u8 (cs[i.toNat]?.getD 0)) w := by
  obtain ⟨n, rfl⟩ := Int.eq_ofNat_of_zero_le h0
  have hn : n < cs.length := by omega
  have hs : n < (strOfNums cs).size := by rw [strOfNums_size]; exact hn
  have hz := ho cs[n] (List.getElem_mem hn)
  simp [go_sem, ht, hs]
  have e : (strOfNums cs)[n] = UInt8.ofNat (cs[n].toNat) := by
    show (strOfNums cs).data[n] = _
    simp [strOfNums]
  rw [e, List.getElem?_eq_getElem hn]
  simp
  omega

/-- Is it a digit? -/
def Dg (c : Int) : Prop := 48 ≤ c ∧ c ≤ 57 ∨ 97 ≤ c ∧ c ≤ 102

/-- Two digits. -/
abbrev DP := { p : Int × Int // Dg p.1 ∧ Dg p.2 }
abbrev dpEnc (p : DP) : Array Value := #[.int .u8 p.1.1, .int .u8 p.1.2]

/-- The digits one behind the other. -/
def flat (xs : List DP) : List Int := xs.flatMap fun p => [p.1.1, p.1.2]
theorem flat_length (xs : List DP) : (flat xs).length = 2 * xs.length := by
  induction xs with
  | nil => rfl
  | cons z zs ih => simp only [flat, List.flatMap_cons, List.length_append, List.length_cons, List.length_nil] at ih ⊢; omega
theorem flat_at : ∀ (xs : List DP) (k : Nat) (h : k < xs.length), (flat xs)[2 * k]?.getD 0 = xs[k].1.1 ∧ (flat xs)[2 * k + 1]?.getD 0 = xs[k].1.2
  | x :: xs, 0, _ => by simp [flat]
  | x :: xs, k + 1, h => by
    have := flat_at xs k (by simpa using h)
    simp only [flat, List.flatMap_cons] at this ⊢
    rw [show 2 * (k + 1) = 2 * k + 1 + 1 by omega]
    simpa using this
theorem flat_octs (xs : List DP) : Octs (flat xs) := by
  intro z hz
  simp only [flat, List.mem_flatMap] at hz
  obtain ⟨p, _, hp⟩ := hz
  have h1 := p.2.1
  have h2 := p.2.2
  unfold Dg at h1 h2
  simp at hp
  rcases hp with rfl | rfl <;> omega

set_option maxRecDepth 100000 in
set_option maxHeartbeats 1000000 in
theorem pairs1_in (n l Bn B₀ : Nat) (xs : List DP) (hxl : 2 * xs.length ≤ 281474976702464) (J Jx : List DP → World → Prop) (hJ : AbidesFrom B₀ J)
    (hY : ∀ pre x W, J pre W → pre.length < xs.length → YieldAt Fence.wide (n - 1) Try.prog l (dpEnc x) W fun e W' =>
      (e = .returned (.bool true) ∧ J (pre ++ [x]) W' ∧ KeepsBlk Bn W W') ∨ (e = .returned (.bool false) ∧ Jx (pre ++ [x]) W'))
    (W : World) (hc0 : W.cell? ⟨Bn, 0, none⟩ = some (.string (strOfNums (flat xs)))) (h0 : J [] W) :
    CallsIn Fence.wide n Try.prog 17 #[.func (.yield l) #[] #[], .pointer (some ⟨Bn, 0, none⟩)] W fun e W' => (∃ v, e = .returned v) ∧
      ((∃ ys, ys = xs ∧ J ys W') ∨ (∃ pre, pre <+: xs ∧ Jx pre W')) := by
  refine callsIn_of_wp Try.func17 rfl trivial ?_ rfl
  simp only [Try.ntmps17, List.size_toArray, List.length_cons, List.length_nil, Nat.reduceAdd, Nat.reduceSub, Array.replicate_succ, Array.replicate_zero, List.push_toArray, List.append_toArray, List.nil_append, List.cons_append]
  gi_wp2
  gi_loopw [3] (fun i wr => ∃ k : Nat, k ≤ xs.length ∧ i = .int .i64 (2 * k) ∧ wr.cell? ⟨Bn, 0, none⟩ = some (.string (strOfNums (flat xs))) ∧ J (xs.take k) wr)
    (fun i _ => 2 * xs.length - (intOf i).toNat)
  case atStart =>
    exact ⟨0, Nat.zero_le _, rfl, hc0, h0⟩
  case round =>
    obtain ⟨k, hk, rfl, hc, hJk⟩ := hrel
    have hsz : (strOfNums (flat xs)).size = 2 * xs.length := by rw [strOfNums_size, flat_length]
    by_cases hlt : k < xs.length
    · obtain ⟨x, hx⟩ : ∃ x, xs[k] = x := ⟨_, rfl⟩
      have hfl := flat_at xs k hlt
      rw [hx] at hfl
      have ixa : ∀ w, (Instr.index 9 (.string (strOfNums (flat xs))) (.int .i64 (2 * (k : Int)))).run Try.prog w = .ok (.int .u8 x.1.1) w := fun w => by
        rw [run_str_at 9 Try.underlying9 (flat xs) (flat_octs xs) (2 * (k : Int)) (by omega) (by rw [flat_length]; omega) w, show (2 * (k : Int)).toNat = 2 * k by omega, hfl.1]
      have ixb : ∀ w, (Instr.index 9 (.string (strOfNums (flat xs))) (.int .i64 (2 * (k : Int) + 1))).run Try.prog w = .ok (.int .u8 x.1.2) w := fun w => by
        rw [run_str_at 9 Try.underlying9 (flat xs) (flat_octs xs) (2 * (k : Int) + 1) (by omega) (by rw [flat_length]; omega) w, show (2 * (k : Int) + 1).toNat = 2 * k + 1 by omega, hfl.2]
      have HX := Lib.hid hx
      clear hx hfl
      have hJd : J (xs.take k) wr.drew := hJ _ _ _ none hJk ⟨rfl, rfl, rfl, Nat.le_refl _, fun _ _ _ => rfl⟩ (fun _ e => by cases e)
      obtain ⟨fn, tmps, assign, body, hy, hR⟩ := hY (xs.take k) x wr.drew hJd (by simp; omega)
      dsimp only [dpEnc] at hy
      gi_wp2
      have hsum : IntKind.i64.wrap (2 * (k : Int) + 1) = 2 * (k : Int) + 1 := IntWalk.i64_in _ (by omega)
      gi_region_with (refine ⟨fun h => (by cases h), hR.mono ?_⟩; rintro e W3 hW3; obtain ⟨bv, rfl, hbv⟩ := yield_bool hW3; clear hW3)
      all_goals
        clear hy hR ixa ixb hsum hsz
        cases bv
        · have hjx := hbv.out.2 rfl
          gi_wp2
          refine bodyPost_ret (results_none rfl _ _ _) rfl ?_
          refine ⟨⟨_, rfl⟩, .inr ⟨xs.take k ++ [x], ?_, hjx⟩⟩
          rw [← HX.out, ← List.take_succ_eq_append_getElem hlt]
          exact List.take_prefix _ _
        · obtain ⟨hj, hb⟩ := hbv.out.1 rfl
          have hc3 : W3.cell? ⟨Bn, 0, none⟩ = some (.string (strOfNums (flat xs))) := hb 0 _ hc
          rw [← HX.out, ← List.take_succ_eq_append_getElem hlt] at hj
          gi_wp2
          go_roundw
          case rel => exact ⟨k + 1, by omega, congrArg (Value.int .i64) (by omega), hc3, hj⟩
          case measure => simp [intOf]; omega
    · obtain rfl : k = xs.length := by omega
      rw [List.take_length] at hJk
      gi_wp2
      go_end0
      exact ⟨⟨_, rfl⟩, .inl ⟨xs, rfl, hJk⟩⟩

set_option maxHeartbeats 1000000 in
theorem pairs_in (n : Nat) (s : ByteArray) (w : World) :
    CallsIn Fence.wide n Try.prog 14 #[.string s] w fun e w' => e = .returned (.func (.func 17) #[] #[.pointer (some ⟨w.heap.size, 0, none⟩)]) ∧ w' = w.alloc (.cells #[.string s] 9) := by
  refine callsIn_of_wp Try.func14 rfl trivial ?_ rfl
  simp only [Try.ntmps14, List.size_toArray, List.length_cons, List.length_nil, Nat.reduceAdd, Nat.reduceSub, Array.replicate_succ, Array.replicate_zero, List.push_toArray, List.append_toArray, List.nil_append, List.cons_append]
  gi_wp2
  go_ret
  exact ⟨rfl, rfl⟩

theorem pairs_stops (n : Nat) (Bn : Nat) (xs : List DP) (hxl : 2 * xs.length ≤ 281474976702464) (w : World) (hBn : Bn < w.heap.size)
    (hc : w.cell? ⟨Bn, 0, none⟩ = some (.string (strOfNums (flat xs)))) :
    SeqStopsK Fence.wide n Try.prog 17 #[.pointer (some ⟨Bn, 0, none⟩)] dpEnc (KeepsBlk Bn) (fun ys => ys = xs) (fun pre => pre <+: xs) xs.length w := fun l J Jx W hW hJ _ hY h0 =>
  pairs1_in n l Bn _ xs hxl J Jx hJ hY W ((hW.cell (p := ⟨Bn, 0, none⟩) hBn).trans hc) h0

end Go.Proofs.Ytedhahonanfnaaa
