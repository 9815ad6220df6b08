/-
  SpaceTaken's walk. Conditions: at most 2^44 numbers, each a machine's.
-/
import Derived.Test.YtddkalcgijeldaaSI
import Derived.Laws.AppendOwnNone
namespace Go.Proofs.Ytddkalcgijeldaa
open Go.ChangeShapes Go.WideShapes Go.ChangeAt Go.RowKit Go.Maps

/-- append(v, x...) where v is the call's own and x reads as numbers, nil or not. -/
theorem wpList_append_num {P : Program} {w : World} {ops : Array Oper} {rest : List Oper} {o : Oper} {a : Act} {Q : Exit → Act → World → Prop} (hgd : o.guard = none) (s x : Operand) (t : TypeId)
    (ho : o.op = .call { callee := .builtin .append, args := #[s, x], argTypes := #[t, t] })
    (base : Nat) (e : TypeId) (i : TypeInfo) (z : Value) (ht : P.underlying t = some (.slice e)) (hi : P.info? e = some i) (hz : i.zero = some z) (hsize : i.size = 1) (hby : i.bytes = 8) (hzs : z.cells.size = 1)
    (v : Value) (n : Nat) (xs : List Value) (hs : a.eval s = v) (hown : w.ownsRow base e 1 v n xs)
    (A : Option Addr) (m c : Nat) (news : List Int) (hx : a.eval x = .slice A m c) (hl : news.length = m) (hr : RdI w A news) (hnil : A = none → c = 0)
    (hb : n + m ≤ 1099511627776) (hbase : base ≤ w.heap.size)
    (h : ∀ v' w', w'.ownsRow base e 1 v' (n + m) (xs ++ news.map (Value.int .i64)) → w.grownBy w' v.ownBlock → wpList P ops Q rest (a.put o.dst v') w') : wpList P ops Q (o :: rest) a w := by
  rcases A with _ | ad
  · have hz : news = [] := by
      rcases news with _ | ⟨u, us⟩
      · rfl
      · obtain ⟨b, off, e, _⟩ := hr (by simp)
        cases e
    subst hz
    obtain rfl : m = 0 := by simpa using hl.symm
    have := hnil rfl
    subst this
    refine wpList_append_own_none hgd s x t ho base e i 1 ht hi v n xs hs hown hx (h v w ?_ (World.grownBy.refl w _))
    simpa using hown
  · refine wpList_append_own w hgd s x t ho base e i z 1 8 ht hi hz hsize hby hzs (by decide) v n xs hs hown ad m c (news.map (Value.int .i64)) hx (by simp; omega) ?_ (by simp [Value.oneCell']) (by unfold maxLen; omega) (by omega) hbase (fun v' w' a b _ => h v' w' a b)
    intro j u hu
    obtain ⟨b, off, e, _, hc⟩ := hr (by intro e; rw [e] at hu; simp at hu)
    injection e with e
    subst e
    rw [add_plain]
    exact hc j u hu

/-- Where Take refuses. -/
theorem taken_no (t : Int) (A : Option Addr) (c : Nat) (zs : List Int) (n m : Int) (hl : zs.length ≤ 17592186044416) (h0 : tk t zs n ≠ 0) (w : World) (hr : RdI w A zs) :
    Calls Try.prog 9 #[.int .i64 t, .slice A zs.length c, .int .i64 n, .int .i64 m] w fun e w' => e = .returned (.bool true) ∧ Below w.heap.size w w' := by
  have H1 := Lib.hid (fun W (h : RdI W A zs) => take_no t A c zs n hl h0 W h)
  have HR := Lib.hid hr
  clear hr
  generalize tk t zs n = r at *
  have hr1 : (r == 0) = false := by simpa using h0
  have hr2 : (r != 0) = true := by simpa using h0
  go_enter Try.func9, Try.ntmps9
  go_wp2_with fail
  refine (alive7 w).mono ?_
  rintro e w1 ⟨rfl, hB1⟩
  go_wp2_with fail
  refine (H1.out w1 (RdI.below HR.out hB1)).mono ?_
  rintro e w2 ⟨rfl, hb2⟩
  go_wp2_with (go_at_call 23; refine (num7_any _ _).mono ?_; rintro e w' ⟨rfl, rfl⟩)
  go_ret
  exact ⟨rfl, hB1.trans (hb2.mono hB1.size)⟩

/-- The numbers of a row of the call's own. -/
theorem own_numbers {w : World} {base : Nat} {e : TypeId} {v : Value} {n : Nat} {zs : List Int} (h : w.ownsRow base e 1 v n (zs.map (Value.int .i64))) : ∃ A c, v = .slice A zs.length c ∧ RdI w A zs := by
  have hl : zs.length = n := by have := h.1; simpa using this
  subst hl
  obtain ⟨A, c, rfl, _, hr⟩ := sown_slice h
  exact ⟨A, c, rfl, hr⟩

theorem tk_iff {t : Int} {zs : List Int} (h : chk t zs = 0) (m : Int) : tk t zs m = 0 ↔ 0 ≤ m ∧ m ≤ t - 2 - zs.length := by
  obtain ⟨h1, h2, h3⟩ := chk_ok.1 h
  have := length_free h2 h3
  rw [tk_ok]
  constructor
  · rintro ⟨_, h5, h6⟩; omega
  · rintro ⟨h5, h6⟩; exact ⟨h, by omega, by omega⟩

/-- What the law needs of the first Take, and of what is used then. -/
structure Took (t : Int) (zs L al : List Int) (k N : Nat) : Prop where
  lo : 2 ≤ t
  hi : t ≤ 8192
  most : zs.length + k ≤ 8190
  num : zs.length + k = N
  len : al.length = N
  took : L.length = k
  all : al = zs ++ L
  ok : chk t al = 0

theorem took_of {t : Int} {zs : List Int} {k : Nat} (h0 : tk t zs k = 0) : Took t zs ((freeL t zs).take k) (zs ++ (freeL t zs).take k) k (zs.length + k) := by
  obtain ⟨hchk, _, hk0⟩ := tk_ok.1 h0
  obtain ⟨⟨ht1, ht2⟩, hin, hnd⟩ := chk_ok.1 hchk
  have hlf := length_free hin hnd
  exact ⟨ht1, ht2, by omega, rfl, by simp; omega, by simp; omega, rfl, chk_ok.2 ⟨⟨ht1, ht2⟩, in_taken hin k, nodup_taken hnd k⟩⟩

theorem check_len {t : Int} {al : List Int} {N : Nat} (hE : al.length = N) (hN : N ≤ 8190) (hA : chk t al = 0) (C : Option Addr) (q : Nat) (W : World) (hr : RdI W C al) :
    Calls Try.prog 24 #[.int .i64 t, .slice C N q] W fun e w' => e = .returned (.int .i64 0) ∧ Below W.heap.size W w' := by
  subst hE
  exact hA ▸ check_any t C q al (by omega) W hr

theorem take_len_ok {t : Int} {al : List Int} {N m : Nat} (hE : al.length = N) (hN : N ≤ 8190) (h : tk t al m = 0) (C : Option Addr) (q : Nat) (W : World) (hr : RdI W C al) :
    Calls Try.prog 21 #[.int .i64 t, .slice C N q, .int .i64 m] W fun e w' => ∃ (B : Option Addr) (d : Nat), e = .returned (ansI B m d 0) ∧ Hid (RdI w' B ((freeL t al).take m)) ∧ Below W.heap.size W w' := by
  subst hE
  refine (take_ok t C q al m (by omega) h W hr).mono ?_
  rintro e w' ⟨B, d, rfl, _, _, hR, hB⟩
  exact ⟨B, d, rfl, hR, hB⟩

theorem take_len_no {t : Int} {al : List Int} {N : Nat} {m : Int} (hE : al.length = N) (hN : N ≤ 8190) (h : tk t al m ≠ 0) (C : Option Addr) (q : Nat) (W : World) (hr : RdI W C al) :
    Calls Try.prog 21 #[.int .i64 t, .slice C N q, .int .i64 m] W fun e w' => e = .returned (ansI none 0 0 (tk t al m)) ∧ Below W.heap.size W w' := by
  subst hE
  exact take_no t C q al m (by omega) h W hr

theorem has_len_no {al : List Int} {N : Nat} (hE : al.length = N) (hN : N ≤ 8190) (C : Option Addr) (q : Nat) (x : Int) (hx : x ∉ al) (W : World) (hr : RdI W C al) :
    Calls Try.prog 27 #[.slice C N q, .int .i64 x] W fun e w' => e = .returned (.bool false) ∧ W = w' := by
  subst hE
  exact has_no C q al x (by omega) hx W hr

set_option maxRecDepth 100000 in
set_option maxHeartbeats 2000000 in
theorem taken_yes (t : Int) (A : Option Addr) (c : Nat) (zs L al : List Int) (k N m : Nat) (hl : zs.length ≤ 17592186044416) (hnil : A = none → c = 0) (h0 : tk t zs k = 0) (hL : (freeL t zs).take k = L) (T : Took t zs L al k N) (hm : tk t al m = 0) (w : World) (hr : RdI w A zs) :
    Calls Try.prog 9 #[.int .i64 t, .slice A zs.length c, .int .i64 k, .int .i64 m] w fun e w' => e = .returned (.bool true) ∧ Below w.heap.size w w' := by
  have ht1 := T.lo
  have ht2 := T.hi
  have hle := T.most
  have hN8 : N ≤ 8190 := by have := T.num; omega
  obtain ⟨i0, hi, hz0, hz1, hz2⟩ := info_parts infoI
  have H1 := Lib.hid (fun W (h : RdI W A zs) => hL ▸ take_ok t A c zs k hl h0 W h)
  have HC := Lib.hid (check_len T.len hN8 T.ok)
  have HK := Lib.hid (take_len_ok T.len hN8 hm)
  have HH := Lib.hid (has_len_no T.len hN8)
  have hm0 := (tk_iff T.ok m).1 hm
  rw [T.len] at hm0
  obtain ⟨hm1, hm2⟩ := hm0
  have hbl : ((freeL t al).take m).length = m := by have := (tk_ok.1 hm).2.2; simp; omega
  have HB := Lib.hid (fun x (hx : x ∈ (freeL t al).take m) => (mem_free.1 (List.mem_of_mem_take hx)).2)
  have HBL := Lib.hid hbl
  have HR := Lib.hid hr
  have HN := Lib.hid hnil
  have HT := Lib.hid T
  clear hr hnil h0 hL T hm hbl
  generalize (freeL t al).take m = bs at *
  go_enter Try.func9, Try.ntmps9
  go_wp2_with fail
  refine (alive7 w).mono ?_
  rintro e w1 ⟨rfl, hB1⟩
  go_wp2_with fail
  refine (H1.out w1 (RdI.below HR.out hB1)).mono ?_
  rintro e w2 ⟨B, d, rfl, hd, HD0, HL, hb2⟩
  have hB2 : Below w.heap.size w w2 := hB1.trans (hb2.mono hB1.size)
  clear hB1 hb2 H1
  go_wp2_with (first
    | (go_at_call 23; refine (num7_any _ _).mono ?_; rintro e w' ⟨rfl, rfl⟩)
    | (at_builtin; refine wpList_append_num (o := ⟨some 32, _, _, _, _, _⟩) rfl _ _ 49 rfl w.heap.size 3 i0 (.int .i64 0) Try.underlying49 hi hz0 hz1 hz2 rfl (.slice none 0 0) 0 [] rfl (World.ownsRow_nil _ _ _ _) A zs.length c zs rfl rfl (RdI.below HR.out hB2) HN.out (by omega) hB2.size ?_; intro v3 w3 ho3 hg3; have hb3 : Below w2.heap.size w2 w3 := (Below.refl _ _).grown hg3 (Nat.le_refl _) (fun _ h => by cases h); have HO3 : Hid (w3.ownsRow w.heap.size 3 1 v3 zs.length (zs.map (Value.int .i64))) := Lib.hid (by simpa using ho3); have hB3 : Below w.heap.size w w3 := hB2.trans (hb3.mono hB2.size); have HL3 := Lib.hid (RdI.below HL.out hb3); clear ho3 hg3 hb3 hB2 HL)
    | (at_builtin; refine wpList_append_num (o := ⟨some 34, _, _, _, _, _⟩) rfl _ _ 49 rfl w.heap.size 3 i0 (.int .i64 0) Try.underlying49 hi hz0 hz1 hz2 rfl v3 zs.length _ rfl HO3.out B k d L rfl HT.out.took HL3.out HD0.out (by omega) hB3.size ?_; intro v4 w4 ho4 hg4; have hB4 : Below w.heap.size w w4 := hB3.grown hg4 hB3.size (fun j e => (HO3.out.lt j e).1); rw [← List.map_append, ← HT.out.all, HT.out.num] at ho4; obtain ⟨C, q, hv4, hR4⟩ := own_numbers ho4; rw [HT.out.len] at hv4; subst hv4; have HR4 := Lib.hid hR4; clear ho4 hg4 hB3 hR4 HL3))
  refine (HK.out _ _ w4 HR4.out).mono ?_
  rintro e w5 ⟨D, q5, rfl, HD5, hb5⟩
  have HR5 := Lib.hid (RdI.below HR4.out hb5)
  have hB5 : Below w.heap.size w w5 := hB4.trans (hb5.mono hB4.size)
  clear hB4 hb5 HR4
  go_wp2
  go_loop [14] (fun i => ∃ j : Nat, j ≤ m ∧ i = .int .i64 j) (fun i => m - (intOf i).toNat)
  case atStart => exact ⟨0, Nat.zero_le _, rfl⟩
  case round =>
    obtain ⟨j, hj, rfl⟩ := hrel
    by_cases hlt : j < m
    · obtain ⟨b, off, z, rfl, hb, hc, HZ⟩ := RdI.at_ HD5.out (by rw [HBL.out]; exact hlt)
      have hz := Lib.hid (HB.out z (List.mem_of_getElem? HZ.out))
      go_wp2_with (go_at_call 27; refine (HH.out _ _ z hz.out w5 HR5.out).mono ?_; rintro e w' ⟨rfl, rfl⟩)
      go_round
      case rel => exact ⟨j + 1, by omega, by go_num⟩
      case measure => simp [intOf]; omega
    · go_wp2_with (first
        | (go_at_call 24; refine (HC.out _ _ w5 HR5.out).mono ?_; rintro e w6 ⟨rfl, hb6⟩; have hB6 : Below w.heap.size w w6 := hB5.trans (hb6.mono hB5.size); clear hB5 hb6)
        | (go_at_call 23; refine (num7_any _ _).mono ?_; rintro e w' ⟨rfl, rfl⟩))
      go_ret
      exact ⟨rfl, hB6⟩

set_option maxRecDepth 100000 in
set_option maxHeartbeats 2000000 in
theorem taken_nay (t : Int) (A : Option Addr) (c : Nat) (zs L al : List Int) (k N : Nat) (m : Int) (hl : zs.length ≤ 17592186044416) (hnil : A = none → c = 0) (h0 : tk t zs k = 0) (hL : (freeL t zs).take k = L) (T : Took t zs L al k N) (hm : tk t al m ≠ 0) (w : World) (hr : RdI w A zs) :
    Calls Try.prog 9 #[.int .i64 t, .slice A zs.length c, .int .i64 k, .int .i64 m] w fun e w' => e = .returned (.bool true) ∧ Below w.heap.size w w' := by
  have ht1 := T.lo
  have ht2 := T.hi
  have hle := T.most
  have hN8 : N ≤ 8190 := by have := T.num; omega
  obtain ⟨i0, hi, hz0, hz1, hz2⟩ := info_parts infoI
  have H1 := Lib.hid (fun W (h : RdI W A zs) => hL ▸ take_ok t A c zs k hl h0 W h)
  have HC := Lib.hid (check_len T.len hN8 T.ok)
  have HK := Lib.hid (take_len_no T.len hN8 hm)
  have HH := Lib.hid (has_len_no T.len hN8)
  have hm0 : ¬ (0 ≤ m ∧ m ≤ t - 2 - N) := fun h => hm ((tk_iff T.ok m).2 (by rw [T.len]; exact h))
  have HR := Lib.hid hr
  have HN := Lib.hid hnil
  have HT := Lib.hid T
  clear hr hnil h0 hL T
  generalize tk t al m = r at *
  have hr1 : (r == 0) = false := by simpa using hm
  have hr2 : (r != 0) = true := by simpa using hm
  have hcase : m < 0 ∨ (0 ≤ m ∧ decide (m ≤ t - 2 - (N : Int)) = false) := by
    by_cases h : m < 0
    · exact .inl h
    · exact .inr ⟨by omega, decide_eq_false fun h' => hm0 ⟨by omega, h'⟩⟩
  clear hm0
  rcases hcase with hm1 | ⟨hm1, hm2⟩
  all_goals
    go_enter Try.func9, Try.ntmps9
    go_wp2_with fail
    refine (alive7 w).mono ?_
    rintro e w1 ⟨rfl, hB1⟩
    go_wp2_with fail
    refine (H1.out w1 (RdI.below HR.out hB1)).mono ?_
    rintro e w2 ⟨B, d, rfl, hd, HD0, HL, hb2⟩
    have hB2 : Below w.heap.size w w2 := hB1.trans (hb2.mono hB1.size)
    clear hB1 hb2 H1
    go_wp2_with (first
      | (go_at_call 23; refine (num7_any _ _).mono ?_; rintro e w' ⟨rfl, rfl⟩)
      | (at_builtin; refine wpList_append_num (o := ⟨some 32, _, _, _, _, _⟩) rfl _ _ 49 rfl w.heap.size 3 i0 (.int .i64 0) Try.underlying49 hi hz0 hz1 hz2 rfl (.slice none 0 0) 0 [] rfl (World.ownsRow_nil _ _ _ _) A zs.length c zs rfl rfl (RdI.below HR.out hB2) HN.out (by omega) hB2.size ?_; intro v3 w3 ho3 hg3; have hb3 : Below w2.heap.size w2 w3 := (Below.refl _ _).grown hg3 (Nat.le_refl _) (fun _ h => by cases h); have HO3 : Hid (w3.ownsRow w.heap.size 3 1 v3 zs.length (zs.map (Value.int .i64))) := Lib.hid (by simpa using ho3); have hB3 : Below w.heap.size w w3 := hB2.trans (hb3.mono hB2.size); have HL3 := Lib.hid (RdI.below HL.out hb3); clear ho3 hg3 hb3 hB2 HL)
      | (at_builtin; refine wpList_append_num (o := ⟨some 34, _, _, _, _, _⟩) rfl _ _ 49 rfl w.heap.size 3 i0 (.int .i64 0) Try.underlying49 hi hz0 hz1 hz2 rfl v3 zs.length _ rfl HO3.out B k d L rfl HT.out.took HL3.out HD0.out (by omega) hB3.size ?_; intro v4 w4 ho4 hg4; have hB4 : Below w.heap.size w w4 := hB3.grown hg4 hB3.size (fun j e => (HO3.out.lt j e).1); rw [← List.map_append, ← HT.out.all, HT.out.num] at ho4; obtain ⟨C, q, hv4, hR4⟩ := own_numbers ho4; rw [HT.out.len] at hv4; subst hv4; have HR4 := Lib.hid hR4; clear ho4 hg4 hB3 hR4 HL3))
    refine (HK.out _ _ w4 HR4.out).mono ?_
    rintro e w5 ⟨rfl, hb5⟩
    have HR5 := Lib.hid (RdI.below HR4.out hb5)
    have hB5 : Below w.heap.size w w5 := hB4.trans (hb5.mono hB4.size)
    clear hB4 hb5 HR4
    go_wp2
    refine wp_loop_rounds 1 ?_
    rw [rounds_succ]
    go_wp2_with (first
      | (go_at_call 24; refine (HC.out _ _ w5 HR5.out).mono ?_; rintro e w6 ⟨rfl, hb6⟩; have hB6 : Below w.heap.size w w6 := hB5.trans (hb6.mono hB5.size); clear hB5 hb6)
      | (go_at_call 23; refine (num7_any _ _).mono ?_; rintro e w' ⟨rfl, rfl⟩))
    go_ret
    exact ⟨rfl, hB6⟩

theorem taken_walk (t : Int) (A : Option Addr) (c : Nat) (zs : List Int) (n m : Int) (hl : zs.length ≤ 17592186044416) (hnil : A = none → c = 0) (w : World) (hr : RdI w A zs) :
    Calls Try.prog 9 #[.int .i64 t, .slice A zs.length c, .int .i64 n, .int .i64 m] w fun e w' => e = .returned (.bool true) ∧ Below w.heap.size w w' := by
  by_cases h : tk t zs n = 0
  · obtain ⟨_, hn, _⟩ := tk_ok.1 h
    obtain ⟨k, rfl⟩ := Int.eq_ofNat_of_zero_le hn
    have T := took_of h
    by_cases hm : tk t (zs ++ (freeL t zs).take k) m = 0
    · obtain ⟨_, hm0, _⟩ := tk_ok.1 hm
      obtain ⟨j, rfl⟩ := Int.eq_ofNat_of_zero_le hm0
      exact taken_yes t A c zs _ _ k _ j hl hnil h rfl T hm w hr
    · exact taken_nay t A c zs _ _ k _ m hl hnil h rfl T hm w hr
  · exact taken_no t A c zs n m hl h w hr

end Go.Proofs.Ytddkalcgijeldaa
