/-
  The reference's Text; Read of props. Conditions: the lists are as they come in.
-/
import Derived.Test.YteaohmlbddgfgaaEI
namespace Go.Proofs.Yteaohmlbddgfgaa
open Go.ChangeShapes Go.WideShapes Go.ChangeAt Go.RowKit
set_option maxRecDepth 100000

set_option maxHeartbeats 1000000 in
theorem refText_any (A : Option Addr) (c n : Nat) (l : List Pr) (hn : l.length = n) (hl : n ≤ 4398046511103) (w : World) (hr : Rd w A (prs l)) :
    Calls Try.prog 19 #[.slice A n c] w fun e w' => ∃ v, e = .returned v ∧ ownT w' w.heap.size v (textP l) ∧ Below w.heap.size w w' := by
  subst hn
  obtain ⟨i0, hi, hz0, hz1, hz2⟩ := infoParts infoSt
  go_enter Try.func19, Try.ntmps19
  go_wp2
  go_loopw [3, 4] (fun v j W => ∃ k : Nat, k ≤ l.length ∧ j = .int .i64 k ∧ Hid (ownT W w.heap.size v (textP (l.take k))) ∧ Below w.heap.size w W) (fun _ j _ => l.length - (intOf j).toNat)
  case atStart => exact ⟨0, Nat.zero_le _, rfl, Lib.hid (ownNone _ _ _ _), Below.refl _ _⟩
  case round =>
    obtain ⟨k, hk, rfl, HO, hB⟩ := hrel
    obtain ⟨Av, cv, hv, _, _, _, _⟩ := ownAny HO.out
    subst hv
    by_cases hlt : k < l.length
    · obtain ⟨x, hx⟩ : ∃ x, l[k]? = some x := ⟨l[k], List.getElem?_eq_getElem hlt⟩
      obtain ⟨b, off, rfl, hb, hc0, hc1⟩ := (Rd.below hr hB).pr hx
      have HTK := Lib.hid (textP_snoc hx)
      have htl : (textP (l.take k)).length = 2 * k := by rw [textP_len, List.length_take]; omega
      have htl2 : (textP (l.take k)).length ≤ 8796093022206 := by omega
      have hlk : (k : Int) < l.length := by omega
      have hs0 := hB.size
      have hS0 : Hid (∀ W', Below wr.heap.size wr W' → W'.cell? ⟨b, off + k * 2, none⟩ = some (.string x.1) ∧ W'.cell? ⟨b, off + k * 2 + 1, none⟩ = some (.string x.2)) := Lib.hid fun W' hB' => ⟨(hB'.cell (p := ⟨b, off + k * 2, none⟩) hb).trans hc0, (hB'.cell (p := ⟨b, off + k * 2 + 1, none⟩) hb).trans hc1⟩
      have hBd : Below wr.heap.size wr wr.drew := (Below.refl _ _).drew
      clear hx htl
      generalize textP (l.take k) = tk at *
      go_wp2_with fail
      refine wp_region_noPanic ?_
      refine wp_region_last 12 (fun W' => W'.cell? ⟨b, off + k * 2, none⟩ = some (.string x.1) ∧ W'.cell? ⟨b, off + k * 2 + 1, none⟩ = some (.string x.2)) (by kernel_rfl) (hS0.out _ hBd) (fun hHeld => ?_)
      refine wpAnyL_take 12 (i := 0) (oi := ⟨some 11, _, _, _, _, _⟩) (v := ?_) rfl (by kernel_rfl) (by kernel_rfl) (by kernel_rfl) (by kernel_rfl) (by kernel_rfl) (by kernel_rfl) (by kernel_rfl) (fun _ _ _ h => h) (Or.inl ⟨by rfl, ?_⟩) hHeld ?_
      rotate_left
      focus (intro w hSw; (try dsimp only at hSw); go_simp; try (with_reducible rfl))
      try simp only [Act.put, List.setIfInBounds_toArray, List.set_cons_zero, List.set_cons_succ]
      refine wpAnyL_take 12 (i := 1) (oi := ⟨some 12, _, _, _, _, _⟩) (v := ?_) rfl (by kernel_rfl) (by kernel_rfl) (by kernel_rfl) (by kernel_rfl) (by kernel_rfl) (by kernel_rfl) (by kernel_rfl) (fun _ _ _ h => h) (Or.inl ⟨by rfl, ?_⟩) hHeld ?_
      rotate_left
      focus (intro w hSw; (try dsimp only at hSw); go_simp; try (with_reducible rfl))
      try simp only [Act.put, List.setIfInBounds_toArray, List.set_cons_zero, List.set_cons_succ]
      refine wpAnyL_take 12 (i := 2) (oi := ⟨some 13, _, _, _, _, _⟩) (v := ?_) rfl (by kernel_rfl) (by kernel_rfl) (by kernel_rfl) (by kernel_rfl) (by kernel_rfl) (by kernel_rfl) (by kernel_rfl) (fun _ _ _ h => h) (Or.inl ⟨by rfl, ?_⟩) hHeld ?_
      rotate_left
      focus (intro w hSw; (try dsimp only at hSw); go_simp; try (with_reducible rfl))
      try simp only [Act.put, List.setIfInBounds_toArray, List.set_cons_zero, List.set_cons_succ]
      refine wpAnyL_take 12 (i := 3) (oi := ⟨some 14, _, _, _, _, _⟩) (v := ?_) rfl (by kernel_rfl) (by kernel_rfl) (by kernel_rfl) (by kernel_rfl) (by kernel_rfl) (by kernel_rfl) (by kernel_rfl) (fun _ _ _ h => h) (Or.inl ⟨by rfl, ?_⟩) hHeld ?_
      rotate_left
      focus (intro w hSw; (try dsimp only at hSw); go_simp; try (with_reducible rfl))
      try simp only [Act.put, List.setIfInBounds_toArray, List.set_cons_zero, List.set_cons_succ]
      refine wpAnyL_take 12 (i := 4) (oi := ⟨some 15, _, _, _, _, _⟩) (v := ?_) rfl (by kernel_rfl) (by kernel_rfl) (by kernel_rfl) (by kernel_rfl) (by kernel_rfl) (by kernel_rfl) (by kernel_rfl) (fun _ _ _ h => h) (Or.inl ⟨by rfl, ?_⟩) hHeld ?_
      rotate_left
      focus (intro w hSw; (try dsimp only at hSw); go_simp; try (with_reducible rfl))
      try simp only [Act.put, List.setIfInBounds_toArray, List.set_cons_zero, List.set_cons_succ]
      refine wpAnyL_take 12 (i := 5) (oi := ⟨some 16, _, _, _, _, _⟩) (v := ?_) rfl (by kernel_rfl) (by kernel_rfl) (by kernel_rfl) (by kernel_rfl) (by kernel_rfl) (by kernel_rfl) (by kernel_rfl) (fun _ _ _ h => h) (Or.inl ⟨by rfl, ?_⟩) hHeld ?_
      rotate_left
      focus (intro w hSw; (try dsimp only at hSw); go_simp; try (with_reducible rfl))
      try simp only [Act.put, List.setIfInBounds_toArray, List.set_cons_zero, List.set_cons_succ]
      refine wpAnyL_take 12 (i := 6) (oi := ⟨some 17, _, _, _, _, _⟩) (v := ?_) rfl (by kernel_rfl) (by kernel_rfl) (by kernel_rfl) (by kernel_rfl) (by kernel_rfl) (by kernel_rfl) (by kernel_rfl) (fun _ _ _ h => h) (Or.inl ⟨by rfl, ?_⟩) hHeld ?_
      rotate_left
      focus (intro w hSw; (try dsimp only at hSw); go_simp; try (with_reducible rfl))
      try simp only [Act.put, List.setIfInBounds_toArray, List.set_cons_zero, List.set_cons_succ]
      refine wpAnyL_take 12 (i := 7) (oi := ⟨some 18, _, _, _, _, _⟩) (v := ?_) rfl (by kernel_rfl) (by kernel_rfl) (by kernel_rfl) (by kernel_rfl) (by kernel_rfl) (by kernel_rfl) (by kernel_rfl) (fun _ _ _ h => h) (Or.inl ⟨by rfl, ?_⟩) hHeld ?_
      rotate_left
      focus (intro w hSw; (try dsimp only at hSw); go_simp; try (with_reducible rfl))
      try simp only [Act.put, List.setIfInBounds_toArray, List.set_cons_zero, List.set_cons_succ]
      refine wpAnyL_take 12 (i := 8) (oi := ⟨some 19, _, _, _, _, _⟩) (v := ?_) rfl (by kernel_rfl) (by kernel_rfl) (by kernel_rfl) (by kernel_rfl) (by kernel_rfl) (by kernel_rfl) (by kernel_rfl) (fun _ _ _ h => h) (Or.inl ⟨by rfl, ?_⟩) hHeld ?_
      rotate_left
      focus (intro w hSw; (try dsimp only at hSw); go_simp; try (with_reducible rfl))
      try simp only [Act.put, List.setIfInBounds_toArray, List.set_cons_zero, List.set_cons_succ]
      refine wpAnyL_take 12 (i := 9) (oi := ⟨some 20, _, _, _, _, _⟩) (v := ?_) rfl (by kernel_rfl) (by kernel_rfl) (by kernel_rfl) (by kernel_rfl) (by kernel_rfl) (by kernel_rfl) (by kernel_rfl) (fun _ _ _ h => h) (Or.inl ⟨by rfl, ?_⟩) hHeld ?_
      rotate_left
      focus (intro w hSw; (try dsimp only at hSw); go_simp; try (with_reducible rfl))
      try simp only [Act.put, List.setIfInBounds_toArray, List.set_cons_zero, List.set_cons_succ]
      refine wpAnyL_take 12 (i := 10) (oi := ⟨some 21, _, _, _, _, _⟩) (v := ?_) rfl (by kernel_rfl) (by kernel_rfl) (by kernel_rfl) (by kernel_rfl) (by kernel_rfl) (by kernel_rfl) (by kernel_rfl) (fun _ _ _ h => h) (Or.inl ⟨by rfl, ?_⟩) hHeld ?_
      rotate_left
      focus (intro w hSw; (try dsimp only at hSw); go_simp; try (with_reducible rfl))
      try simp only [Act.put, List.setIfInBounds_toArray, List.set_cons_zero, List.set_cons_succ]
      refine wpAnyL_one (i := 11) (o := ⟨some 22, _, _, _, _, _⟩) (by kernel_rfl) rfl (fun K hK => ?_)
      clear hHeld
      go_simp
      have hB4 : Below wr.heap.size wr (wr.drew.alloc (.cells #[.string x.1, .string x.2] 9)) := hBd.alloc hBd.size _
      go_wp2_with fail
      refine hK.out _ _ (hS0.out _ hB4) (fun hHeld => ?_)
      clear hK K
      try simp only [Act.put, List.setIfInBounds_toArray, List.set_cons_zero, List.set_cons_succ]
      refine wpAnyL_last (i := 12) (o := ⟨some 23, _, _, _, _, _⟩) (by kernel_rfl) rfl (by kernel_rfl) (fun K hK => ?_)
      clear hHeld
      refine step_append_lies (o := ⟨some 23, _, _, _, _, _⟩) _ (by rfl) _ _ 37 (by rfl) w.heap.size 9 i0 (.string ByteArray.empty) 1 16 Try.underlying37 hi hz0 hz1 hz2 rfl (by omega) (.slice Av tk.length cv) tk.length (tk.map Value.string) (by rfl) (ownBelow HO.out hB4 (Nat.le_refl _)) ⟨wr.heap.size, 0, none⟩ 2 2 [.string x.1, .string x.2] (by rfl) rfl (newsNew wr.drew _ _) (by simp [Value.oneCell']) (by omega) (by unfold maxLen; omega) (by omega) (by simp; omega) _ rfl ?_
      intro g6 c6 x6 ho6 hg6 hg6' hl6
      have HB6 : Hid (Below w.heap.size w x6) := Lib.hid ((hB.trans (hB4.mono hs0)).grown hg6 (by simp; omega) (fun j e => (HO.out.lt j e).1))
      have HO6 : Hid (ownT x6 w.heap.size (.slice (some ⟨g6, 0, none⟩) (tk.length + 2) c6) (textP (l.take (k + 1)))) := Lib.hid (by rw [HTK.out]; unfold ownT; rw [List.length_append, List.map_append]; exact ho6)
      clear ho6 hg6
      refine hK.out _ _ ?_
      clear hK K
      try simp only [Act.put, List.setIfInBounds_toArray, List.set_cons_zero, List.set_cons_succ]
      refine wpAnyL_takeW (i := 13) (oi := ⟨some 3, _, _, _, _, _⟩) (v := ?_) rfl (by kernel_rfl) (by kernel_rfl) (by kernel_rfl) (by kernel_rfl) (fun _ _ _ h => h) (Or.inl ⟨by rfl, ?_⟩) (.inl (by kernel_rfl)) ?_
      rotate_left
      focus (intro w hSw; (try dsimp only at hSw); go_simp; try (with_reducible rfl))
      try simp only [Act.put, List.setIfInBounds_toArray, List.set_cons_zero, List.set_cons_succ]
      refine wpAnyL_done (by kernel_rfl) ?_ _
      refine NoPanic.normal ?_
      go_wp2_with fail
      go_roundw
      case rel => exact ⟨k + 1, by omega, by go_num, HO6, HB6.out⟩
      case measure => simp [intOf]; omega
    · obtain rfl : k = l.length := by omega
      have HO' : Hid (ownT wr w.heap.size (.slice Av (textP (l.take l.length)).length cv) (textP l)) := Lib.hid (by have := HO.out; rw [List.take_length] at this ⊢; exact this)
      clear HO
      go_wp2
      go_ret
      exact ⟨_, rfl, HO'.out, hB⟩

/-- Pairs of texts. -/
def pairsT : List ByteArray → List Pr
  | [] => []
  | [_] => []
  | a :: b :: l => (a, b) :: pairsT l
theorem readP_even : ∀ {s : List ByteArray}, s.length % 2 = 0 → readP s = some (pairsT s)
  | [], _ => rfl
  | [_], h => by simp at h
  | a :: b :: l, h => by
    have h2 : l.length % 2 = 0 := by simp only [List.length_cons] at h; omega
    show (readP l).map _ = _
    rw [readP_even h2]
    rfl
theorem pairsT_len : ∀ s : List ByteArray, (pairsT s).length = s.length / 2
  | [] => rfl
  | [_] => by simp [pairsT]
  | a :: b :: l => by
    show (pairsT l).length + 1 = (l.length + 2) / 2
    rw [pairsT_len l]
    omega
theorem pairsT_at : ∀ {s : List ByteArray} {k : Nat} {a b : ByteArray}, s[2 * k]? = some a → s[2 * k + 1]? = some b → (pairsT s)[k]? = some (a, b)
  | [], k, a, b, h, _ => by simp at h
  | [x], k, a, b, h, h2 => by
    rcases k with _ | k
    · simp at h2
    · simp at h2
  | x :: y :: l, k, a, b, h, h2 => by
    rcases k with _ | k
    · simp at h h2
      rw [h, h2]
      rfl
    · have e1 : l[2 * k]? = some a := by
        have : 2 * (k + 1) = (2 * k + 1) + 1 := by omega
        rw [this] at h
        simpa using h
      have e2 : l[2 * k + 1]? = some b := by
        have : 2 * (k + 1) + 1 = ((2 * k + 1) + 1) + 1 := by omega
        rw [this] at h2
        simpa using h2
      exact pairsT_at (s := l) e1 e2
/-- What Read answers. -/
def readE (s : List ByteArray) : Int := if s.length % 2 ≠ 0 then 8 else if okP (pairsT s) = false then 9 else 0
def readR (s : List ByteArray) : List Pr := if readE s = 0 then pairsT s else []
theorem overOne {l : List Pr} : overE [l] = (if okP l = false then 9 else 0) ∧ (okP l = true → overR [l] = l) ∧ (okP l = false → overR [l] = []) := by
  rcases h : okP l with _ | _
  · have : overE [l] = 9 := by unfold overE; rw [if_pos (by simp [h])]
    exact ⟨by rw [this]; simp, (fun e => nomatch e), fun _ => by unfold overR; rw [if_neg (by rw [this]; omega)]⟩
  · have hL : overL [l] = l := overP_nil (okP_rise h)
    have : overE [l] = 0 := by
      unfold overE
      rw [if_neg (by simp [h]), hL, if_neg (by have := okP_len h; omega)]
    exact ⟨by rw [this]; simp, fun _ => by unfold overR; rw [if_pos this, hL], (fun e => nomatch e)⟩

theorem SlsP.row {W : World} {ls : List (Sl Pr)} (each : ∀ s ∈ ls, Rd W s.A (prs s.l) ∧ s.l.length ≤ 4398046511103 ∧ ∀ x ∈ s.l, x.1.size ≤ 140737488351232 ∧ x.2.size ≤ 140737488351232) (t : TypeId) : SlsP (W.alloc (.cells (ls.map fun s => s.val).toArray t)) (some ⟨W.heap.size, 0, none⟩) ls := by
  have k1 := Blk.new W (ls.map fun s => s.val) t
  have hB : Below W.heap.size W (W.alloc (.cells (ls.map fun s => s.val).toArray t)) := (Below.refl _ W).alloc (Nat.le_refl _) _
  refine ⟨fun _ => ⟨W.heap.size, 0, rfl, k1.lt, fun j u hu => ?_⟩, fun s hs => ⟨(each s hs).1.below hB, (each s hs).2⟩⟩
  rw [Nat.zero_add, k1.cell j]
  exact hu
theorem over_row (ls : List (Sl Pr)) (n : Nat) (hn : ls.length = n) (hl : n ≤ 4398046511103) (W : World) (each : ∀ s ∈ ls, Rd W s.A (prs s.l) ∧ s.l.length ≤ 4398046511103 ∧ ∀ x ∈ s.l, x.1.size ≤ 140737488351232 ∧ x.2.size ≤ 140737488351232) (t : TypeId) :
    Calls Try.prog 22 #[.slice (some ⟨W.heap.size, 0, none⟩) n n] (W.alloc (.cells (ls.map fun s => s.val).toArray t)) fun e w' => ∃ v, e = .returned (ansP v (overE (ls.map (·.l)))) ∧ ownP w' W.heap.size v (overR (ls.map (·.l))) ∧ Below W.heap.size W w' := by
  have hB : Below W.heap.size W (W.alloc (.cells (ls.map fun s => s.val).toArray t)) := (Below.refl _ W).alloc (Nat.le_refl _) _
  refine (over_any _ n n ls hn hl _ (SlsP.row each t)).mono ?_
  rintro e w' ⟨v, rfl, hv, hB2⟩
  exact ⟨v, rfl, ownBase hv hB.size, hB.trans (hB2.mono hB.size)⟩
theorem refOver_row (ls : List (Sl Pr)) (n : Nat) (hn : ls.length = n) (hl : n ≤ 1073741824) (W : World) (each : ∀ s ∈ ls, Rd W s.A (prs s.l) ∧ s.l.length ≤ 4398046511103 ∧ ∀ x ∈ s.l, x.1.size ≤ 140737488351232 ∧ x.2.size ≤ 140737488351232) (t : TypeId) :
    Calls Try.prog 23 #[.slice (some ⟨W.heap.size, 0, none⟩) n n] (W.alloc (.cells (ls.map fun s => s.val).toArray t)) fun e w' => ∃ v, e = .returned (ansP v (overE (ls.map (·.l)))) ∧ ownP w' W.heap.size v (overR (ls.map (·.l))) ∧ Below W.heap.size W w' := by
  have hB : Below W.heap.size W (W.alloc (.cells (ls.map fun s => s.val).toArray t)) := (Below.refl _ W).alloc (Nat.le_refl _) _
  refine (refOver_any _ n n ls hn hl _ (SlsP.row each t)).mono ?_
  rintro e w' ⟨v, rfl, hv, hB2⟩
  exact ⟨v, rfl, ownBase hv hB.size, hB.trans (hB2.mono hB.size)⟩
theorem pairsT_mem : ∀ {s : List ByteArray} {p : Pr}, p ∈ pairsT s → p.1 ∈ s ∧ p.2 ∈ s
  | [], p, h => by simp [pairsT] at h
  | [_], p, h => by simp [pairsT] at h
  | a :: b :: l, p, h => by
    rcases List.mem_cons.1 h with rfl | h
    · simp
    · have := pairsT_mem (s := l) h
      simp [this.1, this.2]

set_option maxHeartbeats 2000000 in
theorem readT_any (A : Option Addr) (c n : Nat) (s : List ByteArray) (hn : s.length = n) (hl : n ≤ 8796093022208) (hf : ∀ x ∈ s, x.size ≤ 140737488351232) (w : World) (hr : RdS w A s) :
    Calls Try.prog 24 #[.slice A n c] w fun e w' => ∃ v, e = .returned (ansP v (readE s)) ∧ ownP w' w.heap.size v (readR s) ∧ Below w.heap.size w w' := by
  subst hn
  obtain ⟨E, hE⟩ : ∃ E, readE s = E := ⟨_, rfl⟩
  obtain ⟨U, hU⟩ : ∃ U, readR s = U := ⟨_, rfl⟩
  have HU : Hid (U = if E = 0 then pairsT s else []) := Lib.hid (by rw [← hU, ← hE]; rfl)
  have HR := Lib.hid hr
  have HF := Lib.hid hf
  rw [hE, hU]
  unfold readE at hE
  obtain ⟨i0, hi, hz0, hz1, hz2⟩ := infoParts infoPr
  have htm : ((s.length : Int)).tmod 2 = ((s.length % 2 : Nat) : Int) := by rw [Int.tmod_eq_emod_of_nonneg (by omega)]; omega
  have htd : ((s.length : Int)).tdiv 2 = ((s.length / 2 : Nat) : Int) := by rw [Int.tdiv_eq_ediv_of_nonneg (by omega)]; omega
  have hwd : wrap64 ((s.length / 2 : Nat) : Int) = ((s.length / 2 : Nat) : Int) := IntWalk.wrap64_in _ (by omega)
  clear hr hf hU
  by_cases hodd : s.length % 2 = 0
  · rw [if_neg (fun h => h hodd)] at hE
    rw [hodd] at htm
    have hpl := pairsT_len s
    by_cases h8 : 8 < s.length / 2
    · have HE0 : Hid (E = 9) := Lib.hid (by rw [← hE, if_pos (by rw [okP_from, decide_eq_false (by omega), Bool.false_and])])
      have HU0 : Hid (U = []) := Lib.hid (by rw [HU.out, if_neg (by rw [HE0.out]; omega)])
      clear hE hodd hpl
      generalize s.length / 2 = h2 at *
      go_enter Try.func24, Try.ntmps24
      go_wp2
      go_ret2
      rw [HE0.out, HU0.out]
      exact ⟨_, rfl, ownNone _ _ _ _, Below.refl _ _⟩
    · have hmax : s.length ≤ 17 := by omega
      have h8' : ¬ (8 : Int) < ((s.length / 2 : Nat) : Int) := by omega
      have HOD := Lib.hid hodd
      have HPL := Lib.hid hpl
      have HEE := Lib.hid hE
      clear hE hodd hpl h8
      generalize hh : s.length / 2 = h2 at htd hwd h8' HPL
      have HH := Lib.hid hh
      clear hh
      go_enter Try.func24, Try.ntmps24
      go_wp2
      go_loopw [4, 5] (fun v j W => ∃ k : Nat, 2 * k ≤ s.length ∧ j = .int .i64 ((2 * k : Nat) : Int) ∧ Hid (ownP W w.heap.size v ((pairsT s).take k)) ∧ Below w.heap.size w W) (fun _ j _ => s.length - (intOf j).toNat)
      case atStart => exact ⟨0, by omega, rfl, Lib.hid (ownNone _ _ _ _), Below.refl _ _⟩
      case round =>
        obtain ⟨k, hk, rfl, HO, hB⟩ := hrel
        obtain ⟨Av, cv, hv, _, _, _, _⟩ := ownAny HO.out
        subst hv
        have hs0 := hB.size
        by_cases hlt : 2 * k < s.length
        · have hlt2 : 2 * k + 1 < s.length := by have := HOD.out; omega
          obtain ⟨b, off, x1, rfl, hb, hc0, hx1⟩ := (HR.out.below hB).at_ hlt
          obtain ⟨b', off', x2, e', hb', hc1, hx2⟩ := (HR.out.below hB).at_ hlt2
          injection e' with e'
          injection e' with e1 e2 _
          subst e1 e2
          have HTK : Hid ((pairsT s).take (k + 1) = (pairsT s).take k ++ [(x1, x2)]) := Lib.hid (by rw [List.take_add_one, pairsT_at hx1.out hx2.out]; rfl)
          have hlk : ((2 * k : Nat) : Int) < s.length := by omega
          have htk : ((pairsT s).take k).length ≤ 17 := by rw [List.length_take, HPL.out]; have := hmax; omega
          obtain ⟨j, hj⟩ : ∃ j, 2 * k = j := ⟨_, rfl⟩
          rw [hj] at hlk hc0 hc1 hlt hlt2 ⊢
          have HJ := Lib.hid hj
          obtain ⟨m, hm⟩ : ∃ m, j + 1 = m := ⟨_, rfl⟩
          rw [hm] at hc1 hlt2
          have hj1 : wrap64 ((j : Int) + 1) = (m : Int) := by rw [show (j : Int) + 1 = (m : Int) by omega]; exact IntWalk.wrap64_in _ (by omega)
          have hj1b : IntKind.i64.wrap ((j : Int) + 1) = (m : Int) := by rw [show (j : Int) + 1 = (m : Int) by omega]; exact IntWalk.i64_in _ (by omega)
          have hmk : (m : Int) < s.length := by omega
          have HM := Lib.hid hm
          clear hm
          have hS0 : Hid (∀ W', Below wr.heap.size wr W' → W'.cell? ⟨b, off + j, none⟩ = some (.string x1) ∧ W'.cell? ⟨b, off + m, none⟩ = some (.string x2)) := Lib.hid fun W' hB' => ⟨(hB'.cell (p := ⟨b, off + j, none⟩) hb).trans hc0, (hB'.cell (p := ⟨b, off + m, none⟩) hb).trans hc1⟩
          have hBd : Below wr.heap.size wr wr.drew := (Below.refl _ _).drew
          clear hj hx1 hx2
          generalize (pairsT s).take k = tk at *
          go_wp2_with fail
          refine wp_region_noPanic ?_
          refine wp_region_last 12 (fun W' => W'.cell? ⟨b, off + j, none⟩ = some (.string x1) ∧ W'.cell? ⟨b, off + m, none⟩ = some (.string x2)) (by kernel_rfl) (hS0.out _ hBd) (fun hHeld => ?_)
          refine wpAnyL_take 12 (i := 0) (oi := ⟨some 20, _, _, _, _, _⟩) (v := ?_) rfl (by kernel_rfl) (by kernel_rfl) (by kernel_rfl) (by kernel_rfl) (by kernel_rfl) (by kernel_rfl) (by kernel_rfl) (fun _ _ _ h => h) (Or.inl ⟨by rfl, ?_⟩) hHeld ?_
          rotate_left
          focus (intro w hSw; (try dsimp only at hSw); go_simp; try (with_reducible rfl))
          try simp only [Act.put, List.setIfInBounds_toArray, List.set_cons_zero, List.set_cons_succ]
          refine wpAnyL_take 12 (i := 1) (oi := ⟨some 21, _, _, _, _, _⟩) (v := ?_) rfl (by kernel_rfl) (by kernel_rfl) (by kernel_rfl) (by kernel_rfl) (by kernel_rfl) (by kernel_rfl) (by kernel_rfl) (fun _ _ _ h => h) (Or.inl ⟨by rfl, ?_⟩) hHeld ?_
          rotate_left
          focus (intro w hSw; (try dsimp only at hSw); go_simp; try (with_reducible rfl))
          try simp only [Act.put, List.setIfInBounds_toArray, List.set_cons_zero, List.set_cons_succ]
          refine wpAnyL_take 12 (i := 2) (oi := ⟨some 22, _, _, _, _, _⟩) (v := ?_) rfl (by kernel_rfl) (by kernel_rfl) (by kernel_rfl) (by kernel_rfl) (by kernel_rfl) (by kernel_rfl) (by kernel_rfl) (fun _ _ _ h => h) (Or.inl ⟨by rfl, ?_⟩) hHeld ?_
          rotate_left
          focus (intro w hSw; (try dsimp only at hSw); go_simp; try (with_reducible rfl))
          try simp only [Act.put, List.setIfInBounds_toArray, List.set_cons_zero, List.set_cons_succ]
          refine wpAnyL_take 12 (i := 3) (oi := ⟨some 23, _, _, _, _, _⟩) (v := ?_) rfl (by kernel_rfl) (by kernel_rfl) (by kernel_rfl) (by kernel_rfl) (by kernel_rfl) (by kernel_rfl) (by kernel_rfl) (fun _ _ _ h => h) (Or.inl ⟨by rfl, ?_⟩) hHeld ?_
          rotate_left
          focus (intro w hSw; (try dsimp only at hSw); go_simp; try (with_reducible rfl))
          try simp only [Act.put, List.setIfInBounds_toArray, List.set_cons_zero, List.set_cons_succ]
          refine wpAnyL_take 12 (i := 4) (oi := ⟨some 24, _, _, _, _, _⟩) (v := ?_) rfl (by kernel_rfl) (by kernel_rfl) (by kernel_rfl) (by kernel_rfl) (by kernel_rfl) (by kernel_rfl) (by kernel_rfl) (fun _ _ _ h => h) (Or.inl ⟨by rfl, ?_⟩) hHeld ?_
          rotate_left
          focus (intro w hSw; (try dsimp only at hSw); go_simp; try (with_reducible rfl))
          try simp only [Act.put, List.setIfInBounds_toArray, List.set_cons_zero, List.set_cons_succ]
          refine wpAnyL_take 12 (i := 5) (oi := ⟨some 25, _, _, _, _, _⟩) (v := ?_) rfl (by kernel_rfl) (by kernel_rfl) (by kernel_rfl) (by kernel_rfl) (by kernel_rfl) (by kernel_rfl) (by kernel_rfl) (fun _ _ _ h => h) (Or.inl ⟨by rfl, ?_⟩) hHeld ?_
          rotate_left
          focus (intro w hSw; (try dsimp only at hSw); go_simp; try (with_reducible rfl))
          try simp only [Act.put, List.setIfInBounds_toArray, List.set_cons_zero, List.set_cons_succ]
          refine wpAnyL_take 12 (i := 6) (oi := ⟨some 26, _, _, _, _, _⟩) (v := ?_) rfl (by kernel_rfl) (by kernel_rfl) (by kernel_rfl) (by kernel_rfl) (by kernel_rfl) (by kernel_rfl) (by kernel_rfl) (fun _ _ _ h => h) (Or.inl ⟨by rfl, ?_⟩) hHeld ?_
          rotate_left
          focus (intro w hSw; (try dsimp only at hSw); go_simp; try (with_reducible rfl))
          try simp only [Act.put, List.setIfInBounds_toArray, List.set_cons_zero, List.set_cons_succ]
          refine wpAnyL_take 12 (i := 7) (oi := ⟨some 27, _, _, _, _, _⟩) (v := ?_) rfl (by kernel_rfl) (by kernel_rfl) (by kernel_rfl) (by kernel_rfl) (by kernel_rfl) (by kernel_rfl) (by kernel_rfl) (fun _ _ _ h => h) (Or.inl ⟨by rfl, ?_⟩) hHeld ?_
          rotate_left
          focus (intro w hSw; (try dsimp only at hSw); go_simp; try (with_reducible rfl))
          try simp only [Act.put, List.setIfInBounds_toArray, List.set_cons_zero, List.set_cons_succ]
          refine wpAnyL_take 12 (i := 8) (oi := ⟨some 28, _, _, _, _, _⟩) (v := ?_) rfl (by kernel_rfl) (by kernel_rfl) (by kernel_rfl) (by kernel_rfl) (by kernel_rfl) (by kernel_rfl) (by kernel_rfl) (fun _ _ _ h => h) (Or.inl ⟨by rfl, ?_⟩) hHeld ?_
          rotate_left
          focus (intro w hSw; (try dsimp only at hSw); go_simp; try (with_reducible rfl))
          try simp only [Act.put, List.setIfInBounds_toArray, List.set_cons_zero, List.set_cons_succ]
          refine wpAnyL_take 12 (i := 9) (oi := ⟨some 29, _, _, _, _, _⟩) (v := ?_) rfl (by kernel_rfl) (by kernel_rfl) (by kernel_rfl) (by kernel_rfl) (by kernel_rfl) (by kernel_rfl) (by kernel_rfl) (fun _ _ _ h => h) (Or.inl ⟨by rfl, ?_⟩) hHeld ?_
          rotate_left
          focus (intro w hSw; (try dsimp only at hSw); go_simp; try (with_reducible rfl))
          try simp only [Act.put, List.setIfInBounds_toArray, List.set_cons_zero, List.set_cons_succ]
          refine wpAnyL_take 12 (i := 10) (oi := ⟨some 30, _, _, _, _, _⟩) (v := ?_) rfl (by kernel_rfl) (by kernel_rfl) (by kernel_rfl) (by kernel_rfl) (by kernel_rfl) (by kernel_rfl) (by kernel_rfl) (fun _ _ _ h => h) (Or.inl ⟨by rfl, ?_⟩) hHeld ?_
          rotate_left
          focus (intro w hSw; (try dsimp only at hSw); go_simp; try (with_reducible rfl))
          try simp only [Act.put, List.setIfInBounds_toArray, List.set_cons_zero, List.set_cons_succ]
          refine wpAnyL_one (i := 11) (o := ⟨some 31, _, _, _, _, _⟩) (by kernel_rfl) rfl (fun K hK => ?_)
          clear hHeld
          go_simp
          have hB4 : Below wr.heap.size wr (wr.drew.alloc (.cells #[.string x1, .string x2] 50)) := hBd.alloc hBd.size _
          go_wp2_with fail
          refine hK.out _ _ (hS0.out _ hB4) (fun hHeld => ?_)
          clear hK K
          try simp only [Act.put, List.setIfInBounds_toArray, List.set_cons_zero, List.set_cons_succ]
          refine wpAnyL_last (i := 12) (o := ⟨some 32, _, _, _, _, _⟩) (by kernel_rfl) rfl (by kernel_rfl) (fun K hK => ?_)
          clear hHeld
          refine step_append_lies (o := ⟨some 32, _, _, _, _, _⟩) _ (by rfl) _ _ 22 (by rfl) w.heap.size 50 i0 (.agg #[.string ByteArray.empty, .string ByteArray.empty]) 2 32 Try.underlying22 hi hz0 hz1 hz2 rfl (by omega) (.slice Av tk.length cv) tk.length (prs tk) (by rfl) (ownBelow HO.out hB4 (Nat.le_refl _)) ⟨wr.heap.size, 0, none⟩ 1 1 [.string x1, .string x2] (by rfl) rfl (newsNew wr.drew _ _) (by simp [Value.oneCell']) (by omega) (by unfold maxLen; omega) (by omega) (by simp; omega) _ rfl ?_
          intro g6 c6 x6 ho6 hg6 hg6' hl6
          have HB6 : Hid (Below w.heap.size w x6) := Lib.hid ((hB.trans (hB4.mono hs0)).grown hg6 (by simp; omega) (fun j e => (HO.out.lt j e).1))
          have HO6 : Hid (ownP x6 w.heap.size (.slice (some ⟨g6, 0, none⟩) (tk.length + 1) c6) ((pairsT s).take (k + 1))) := Lib.hid (by rw [HTK.out]; exact ownP_snoc (x := (x1, x2)) ho6)
          clear ho6 hg6
          refine hK.out _ _ ?_
          clear hK K
          try simp only [Act.put, List.setIfInBounds_toArray, List.set_cons_zero, List.set_cons_succ]
          refine wpAnyL_takeW (i := 13) (oi := ⟨some 4, _, _, _, _, _⟩) (v := ?_) rfl (by kernel_rfl) (by kernel_rfl) (by kernel_rfl) (by kernel_rfl) (fun _ _ _ h => h) (Or.inl ⟨by rfl, ?_⟩) (.inl (by kernel_rfl)) ?_
          rotate_left
          focus (intro w hSw; (try dsimp only at hSw); go_simp; try (with_reducible rfl))
          try simp only [Act.put, List.setIfInBounds_toArray, List.set_cons_zero, List.set_cons_succ]
          refine wpAnyL_done (by kernel_rfl) ?_ _
          refine NoPanic.normal ?_
          go_wp2_with fail
          go_roundw
          case rel =>
            clear hj1 hj1b
            have hj := HJ.out
            have hm := HM.out
            exact ⟨k + 1, by omega, by rw [show (j : Int) + 2 = ((2 * (k + 1) : Nat) : Int) by omega], HO6, HB6.out⟩
          case measure =>
            clear hj1 hj1b
            have hj := HJ.out
            simp [intOf]
            omega
        · have htl : (pairsT s).take k = pairsT s := List.take_of_length_le (by rw [HPL.out]; have := HOD.out; have := HH.out; omega)
          rw [htl] at HO ⊢
          obtain ⟨h1, h2', h3⟩ := overOne (l := pairsT s)
          have HES : Hid (overE [pairsT s] = E ∧ overR [pairsT s] = U) := Lib.hid (by
            rw [h1, HEE.out]
            refine ⟨rfl, ?_⟩
            rw [HU.out]
            rcases hok : okP (pairsT s) with _ | _
            · rw [h3 hok, if_neg (by rw [← HEE.out, if_pos hok]; omega)]
            · rw [h2' hok, if_pos (by rw [← HEE.out, if_neg (by rw [hok]; exact Bool.noConfusion)])])
          have HPM : Hid (∀ x ∈ pairsT s, x.1.size ≤ 140737488351232 ∧ x.2.size ≤ 140737488351232) := Lib.hid fun x hx => ⟨HF.out _ (pairsT_mem hx).1, HF.out _ (pairsT_mem hx).2⟩
          have hpl : (pairsT s).length ≤ 17 := by rw [HPL.out]; have := HH.out; omega
          clear htl h1 h2' h3 HEE HU
          generalize pairsT s = ps at *
          obtain ⟨A9, c9, e9, hc9, hn9, hr9, _⟩ := ownAny HO.out
          have HOV := Lib.hid (over_row [⟨Av, ps, cv⟩] 1 rfl (by omega) wr (fun x hx => by
            simp at hx
            subst hx
            injection e9 with e9 _ _
            subst e9
            exact ⟨hr9.1, by dsimp only; omega, HPM.out⟩) 22)
          clear e9 hr9 hc9 hn9
          go_wp2_with fail
          refine HOV.out.mono ?_
          rintro e w2 ⟨v, rfl, hv, hB2⟩
          have hv' : ownP w2 wr.heap.size v U := by rw [← HES.out.2]; exact hv
          have HV := Lib.hid hv'
          have hEE : overE (List.map (fun x => x.l) [(⟨Av, ps, cv⟩ : Sl Pr)]) = E := HES.out.1
          rw [hEE]
          clear hv hv' hEE
          go_wp2
          go_ret2
          exact ⟨_, rfl, ownBase HV.out hs0, hB.trans (hB2.mono hs0)⟩
  · have HE0 : Hid (E = 8) := Lib.hid (by rw [← hE, if_pos hodd])
    have HU0 : Hid (U = []) := Lib.hid (by rw [HU.out, if_neg (by rw [HE0.out]; omega)])
    have h1 : s.length % 2 = 1 := by omega
    rw [h1] at htm
    clear hE hodd htd h1 hwd
    go_enter Try.func24, Try.ntmps24
    go_wp2
    go_ret2
    rw [HE0.out, HU0.out]
    exact ⟨_, rfl, ownNone _ _ _ _, Below.refl _ _⟩

end Go.Proofs.Yteaohmlbddgfgaa
