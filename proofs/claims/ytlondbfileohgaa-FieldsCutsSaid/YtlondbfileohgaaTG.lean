/-
  FieldsCuts returns true. Conditions: what the form's reach gives of lengths.
-/
import Derived.Test.YtlondbfileohgaaTF
import Derived.Deep.DeepAppendWide
namespace Go.Proofs.Ytlondbfileohgaa
open Go.ChangeShapes Go.WideShapes Go.ChangeAt Go.RowKit

theorem place (a : Int) (n : Nat) (h0 : 0 < n) (h1 : (n : Int) ≤ 35184372087808) : ∃ q : Nat, q < n ∧ (wrap64 (a.tmod n + n)).tmod n = q := by
  have t1 : a.tmod n < n := Int.tmod_lt_of_pos a (by omega)
  have t2 : -(n : Int) < a.tmod n := by
    have := Int.tmod_lt_of_pos (-a) (b := n) (by omega)
    rw [Int.neg_tmod] at this
    omega
  have e : wrap64 (a.tmod n + n) = a.tmod n + n := IntWalk.wrap64_in _ (by omega)
  rw [e]
  have t3 : (a.tmod n + n).tmod n < n := Int.tmod_lt_of_pos _ (by omega)
  have t4 : 0 ≤ (a.tmod n + n).tmod n := Int.tmod_nonneg _ (by omega)
  exact ⟨((a.tmod n + n).tmod n).toNat, by omega, by omega⟩

/-- append(v, x...) where v is the call's own and x reads as cells of one, nil or not; above 2^47 bytes too. -/
theorem wpList_append_rd_wide {P : Program} {w : World} {ops : Array Oper} {rest : List Oper} {o : Oper} {a : Act} {Q : Exit → Act → World → Prop} (hgd : o.guard = none) (s x : Operand) (t : TypeId)
    (ho : o.op = .call { callee := .builtin .append, args := #[s, x], argTypes := #[t, t] })
    (base : Nat) (e : TypeId) (i : TypeInfo) (z : Value) (bytes : Nat) (ht : P.underlying t = some (.slice e)) (hi : P.info? e = some i) (hz : i.zero = some z) (hsize : i.size = 1) (hby : i.bytes = bytes) (hzs : z.cells.size = 1)
    (v : Value) (n : Nat) (xs : List Value) (hs : a.eval s = v) (hown : w.ownsRow base e 1 v n xs)
    (A : Option Addr) (m c : Nat) (news : List Value) (hx : a.eval x = .slice A m c) (hl : news.length = m) (hr : Rd w A news) (hnil : A = none → c = 0) (h1 : ∀ u ∈ news, u.oneCell' = true)
    (h63 : n + m ≤ maxLen) (hbytes : ((n + m) + (n + m) / 4 + 192) * bytes ≤ 281474976710656) (hbase : base ≤ w.heap.size)
    (h : ∀ v' w', w'.ownsRow base e 1 v' (n + m) (xs ++ news) → w.grownBy w' v.ownBlock → wpList P ops Q rest (a.put o.dst v') w') : wpList P ops Q (o :: rest) a w := by
  rcases A with _ | ad
  · have hz : news = [] := by
      rcases news with _ | ⟨u, us⟩
      · rfl
      · obtain ⟨b, off, e, _⟩ := hr (by simp)
        cases e
    subst hz
    obtain rfl : m = 0 := by simpa using hl.symm
    have := hnil rfl
    subst this
    refine wpList_append_own_none hgd s x t ho base e i 1 ht hi v n xs hs hown hx (h v w ?_ (World.grownBy.refl w _))
    simpa using hown
  · refine wpList_append_own_wide w hgd s x t ho base e i z 1 bytes ht hi hz hsize hby hzs (by decide) v n xs hs hown ad m c news hx (by omega) ?_ h1 h63 hbytes hbase (fun v' w' a b _ => h v' w' a b)
    intro j u hu
    obtain ⟨b, off, e, _, hc⟩ := hr (by rintro rfl; simp at hu)
    injection e with e
    subst e
    rw [add_plain]
    exact hc j u hu

set_option maxHeartbeats 2000000 in
theorem cuts_walk (A : Option Addr) (c : Nat) (ss : List ByteArray) (hl : ss.length ≤ 8796093022208) (hm : ∀ s ∈ ss, s.size ≤ maxLen) (at_ : Int) (D : Option Addr) (d : Nat) (zs : List Int) (hz : zs.length ≤ 140737488351232) (hnil : D = none → d = 0) (ho : Octs zs) (w : World) (hA : RdS w A ss) (hD : RdB w D zs) :
    Calls Try.prog 5 #[.slice A ss.length c, .int .i64 at_, .slice D zs.length d] w fun e w' => e = .returned (.bool true) ∧ Below w.heap.size w w' := by
  obtain ⟨i0, hi, hz0, hz1, hz2⟩ := info_parts info5
  have HAL := Lib.hid alive_any
  have HA := Lib.hid hA
  have HD := Lib.hid hD
  have HW := Lib.hid fun w h => write_any A c ss hl hm w h
  by_cases he : wrE ss = 0
  · have hle : 2 ≤ (wr ss).length ∧ (wr ss).length ≤ 67111938 := by
      have h1 := wk_le (wrE_ok.1 he).2 ss.length (Nat.le_refl _) (wrE_ok.1 he).1
      rw [wk_all] at h1
      have h2 := wr_length ss
      omega
    obtain ⟨q, hq, hqe⟩ := place at_ (wr ss).length (by omega) (by omega)
    have hcut : ∀ (B : Option Addr) (d : Nat) (w : World), (wr ss).length ≤ d → RdB w B (wr ss) → Calls Try.prog 9 #[.slice B q d] w fun e w' => ∃ B' d', e = .returned (ansS B' 0 d' 8) ∧ Below w.heap.size w w' := fun B d w hd hr => by
      have := read_any B d ((wr ss).take q) (by simp; omega) (by simp; omega) ((wr_octs ss).tk q) w (rd_take hr q)
      rw [rd_cut ss he q hq, show ((wr ss).take q).length = q by simp; omega] at this
      refine this.mono ?_
      rintro e w' ⟨B', d', rfl, _, hB⟩
      exact ⟨B', d', rfl, hB⟩
    have hall : ∀ (B : Option Addr) (d : Nat) (w : World), (wr ss).length + zs.length ≤ d → RdB w B (wr ss ++ zs) → Calls Try.prog 9 #[.slice B ((wr ss).length + zs.length) d] w fun e w' => ∃ B' k d', e = .returned (ansS B' k d' (if zs.length = 0 then 0 else 9)) ∧ Below w.heap.size w w' := fun B d w hd hr => by
      have := read_any B d (wr ss ++ zs) (by simp; omega) (by simp; omega) ((wr_octs ss).app ho) w hr
      rw [rd_wr ss he zs, List.length_append] at this
      refine this.mono ?_
      rintro e w' ⟨B', d', rfl, _, hB⟩
      refine ⟨B', (if zs.length = 0 then ((0 : Int), ss) else (9, [])).2.length, d', ?_, hB⟩
      split <;> rfl
    have hwb : wrB ss = wr ss := by simp [wrB, he]
    rw [hwb, he] at HW
    have HCUT := Lib.hid hcut
    have HALL := Lib.hid hall
    have HNIL := Lib.hid hnil
    clear hcut hall hnil hA hD hm hwb he ho
    generalize wr ss = zw at *
    obtain ⟨hle1, hle2⟩ := hle
    have hnz : ((zw.length : Int) == 0) = false := beq_eq_false_iff_ne.2 (by omega)
    go_enter Try.func5, Try.ntmps5
    go_wp2_with fail
    refine (HAL.out _).mono ?_
    rintro e w1 ⟨rfl, hB1⟩
    go_wp2_with fail
    refine (HW.out w1 (HA.out.below hB1)).mono ?_
    rintro e w2 ⟨B2, d2, rfl, hr2, hd2, hn2, hBw2⟩
    have hB2 : Below w.heap.size w w2 := hB1.trans (hBw2.mono hB1.size)
    have HR2 := Lib.hid hr2
    clear hr2 hBw2 hB1 HW HAL HA
    unfold ansB
    have hq2 : q ≤ d2 := by omega
    go_wp2_with (refine (num_any _ _).mono ?_; rintro e w' ⟨rfl, rfl⟩)
    refine (HCUT.out B2 d2 w2 hd2 HR2.out).mono ?_
    rintro e w3 ⟨B3, d3, rfl, hBw3⟩
    have hB3 : Below w.heap.size w w3 := hB2.trans (hBw3.mono hB2.size)
    have HR3 := Lib.hid (HR2.out.below hBw3)
    have HD3 := Lib.hid (RdB.below HD.out hB3)
    have hno : w3.ownsRow w3.heap.size 5 1 (.slice none 0 0) 0 [] := ⟨rfl, .inl ⟨rfl, rfl⟩⟩
    have HNO := Lib.hid hno
    clear hBw3 hB2 HCUT HR2 hno hqe
    unfold ansS
    go_wp2_with (first
      | (at_builtin; refine wpList_append_rd (o := ⟨some 46, _, _, _, _, _⟩) rfl _ _ 23 rfl w3.heap.size 5 i0 (.int .u8 0) 1 Try.underlying23 hi hz0 hz1 hz2 rfl (.slice none 0 0) 0 [] rfl HNO.out B2 zw.length d2 _ rfl (List.length_map _) HR3.out hn2 (one_cell _) (by unfold maxLen; omega) (by omega) (Nat.le_refl _) ?_; intro v4 w4 hown4 hgrow4; have hB4 : Below w3.heap.size w3 w4 := (Below.refl _ w3).grown hgrow4 (Nat.le_refl _) (fun _ h => by cases h); have HO4 := Lib.hid hown4; have HD4 := Lib.hid (RdB.below HD3.out hB4); clear hown4 hgrow4)
      | (at_builtin; refine wpList_append_rd_wide (o := ⟨some 48, _, _, _, _, _⟩) rfl _ _ 23 rfl w3.heap.size 5 i0 (.int .u8 0) 1 Try.underlying23 hi hz0 hz1 hz2 rfl _ (0 + zw.length) _ rfl HO4.out D zs.length d _ rfl (List.length_map _) HD4.out HNIL.out (one_cell _) (by unfold maxLen; omega) (by omega) hB4.size ?_; intro v5 w5 hown5 hgrow5; have hB5 : Below w3.heap.size w3 w5 := hB4.grown hgrow5 hB4.size (fun j e => (HO4.out.lt j e).1); have HO5 := Lib.hid hown5; clear hown5 hgrow5))
    obtain ⟨B5, d5, rfl, hd5, hr5⟩ := own_slice HO5.out
    have hr5' : RdB w5 B5 (zw ++ zs) := by
      have := hr5
      simp only [List.nil_append, ← List.map_append] at this
      exact this
    rw [Nat.zero_add] at hd5
    simp only [Nat.zero_add]
    refine (HALL.out B5 d5 w5 hd5 hr5').mono ?_
    rintro e w6 ⟨B6, k6, d6, rfl, hBw6⟩
    have hB6 : Below w.heap.size w w6 := (hB3.trans (hB5.mono hB3.size)).trans (hBw6.mono (by have := hB3.size; have := hB5.size; omega))
    clear hBw6 hB5 hB3 hB4 HALL HO5 HO4 HNO HD HD3 HD4 HR3 hr5 hr5' hd5
    unfold ansS
    by_cases h0 : zs.length = 0
    · rw [if_pos h0]
      rw [h0]
      go_wp2_with (refine (num_any _ _).mono ?_; rintro e w' ⟨rfl, rfl⟩)
      go_ret
      exact ⟨rfl, hB6⟩
    · rw [if_neg h0]
      have g0 : ((zs.length : Int) == 0) = false := beq_eq_false_iff_ne.2 (by omega)
      go_wp2_with (refine (num_any _ _).mono ?_; rintro e w' ⟨rfl, rfl⟩)
      go_ret
      exact ⟨rfl, hB6⟩
  · have hwb : wrB ss = [] := by simp [wrB, he]
    rw [hwb] at HW
    generalize wrE ss = ew at *
    have ge : (ew == 0) = false := beq_eq_false_iff_ne.2 he
    clear hnil hA hD hm hwb ho
    go_enter Try.func5, Try.ntmps5
    go_wp2_with fail
    refine (HAL.out _).mono ?_
    rintro e w1 ⟨rfl, hB1⟩
    go_wp2_with fail
    refine (HW.out w1 (HA.out.below hB1)).mono ?_
    rintro e w2 ⟨B2, d2, rfl, _, _, _, hBw2⟩
    have hB2 : Below w.heap.size w w2 := hB1.trans (hBw2.mono hB1.size)
    unfold ansB
    go_wp2_with (refine (num_any _ _).mono ?_; rintro e w' ⟨rfl, rfl⟩)
    go_ret
    exact ⟨rfl, hB2⟩

end Go.Proofs.Ytlondbfileohgaa
