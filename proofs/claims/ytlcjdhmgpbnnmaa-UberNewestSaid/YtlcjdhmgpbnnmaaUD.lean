/-
  Decode of uber. Conditions: the slice is one that may be.
-/
import Derived.Test.YtlcjdhmgpbnnmaaUB
import Derived.Lib.AppendStr
namespace Go.Proofs.Ytlcjdhmgpbnnmaa
open Go.ChangeShapes Go.WideShapes Go.ChangeAt Go.RowKit

theorem str_inj {a b : List Int} (ha : Octs a) (hb : Octs b) (h : strOfNums a = strOfNums b) : a = b := by
  have h1 : (strOfNums a).data.toList = (strOfNums b).data.toList := by rw [h]
  simp only [strOfNums] at h1
  have h2 : ∀ l : List Int, Octs l → (l.map fun z => UInt8.ofNat z.toNat).map (fun x => (x.toNat : Int)) = l := fun l hl => by
    rw [List.map_map]
    conv => rhs; rw [← List.map_id l]
    refine List.map_congr_left fun z hz => ?_
    obtain ⟨h0, h1⟩ := hl z hz
    have : z.toNat % 256 = z.toNat := by omega
    simp only [Function.comp, UInt8.toNat_ofNat', id]
    rw [this]
    omega
  rw [← h2 a ha, ← h2 b hb]
  simpa using congrArg (List.map fun x : UInt8 => (x.toNat : Int)) h1
theorem str_beq {a b : List Int} (ha : Octs a) (hb : Octs b) : ((strOfNums a).toList == (strOfNums b).toList) = decide (a = b) := by
  rw [ByteArray.toList_eq, ByteArray.toList_eq, Bool.eq_iff_iff]
  simp only [beq_iff_eq, decide_eq_true_eq]
  exact ⟨fun h => str_inj ha hb (by
    have : (strOfNums a).data = (strOfNums b).data := Array.ext' h
    generalize strOfNums a = x at *
    generalize strOfNums b = y at *
    obtain ⟨x⟩ := x
    obtain ⟨y⟩ := y
    exact congrArg _ this), fun h => by rw [h]⟩

set_option maxHeartbeats 400000 in
theorem equal_any (A : Option Addr) (n c : Nat) (xs : List Int) (hn : xs.length = n) (ho : Octs xs) (B : Option Addr) (m d : Nat) (ys : List Int) (hm : ys.length = m) (hp : Octs ys) (w : World) (hr : RdB w A xs) (hs : RdB w B ys) :
    Calls Try.prog 24 #[.slice A n c, .slice B m d] w fun e w' => e = .returned (.bool (decide (xs = ys))) ∧ w = w' := by
  have hb := str_beq ho hp
  have HB := Lib.hid hb
  have hcv := run_string_rd (P := Try.prog) w 24 5 9 Try.underlying24 Try.underlying5 Try.underlying9 A xs c hr
  have hcw := run_string_rd (P := Try.prog) w 24 5 9 Try.underlying24 Try.underlying5 Try.underlying9 B ys d hs
  rw [hn] at hcv
  rw [hm] at hcw
  clear hb hn hm ho hp hr hs
  generalize decide (xs = ys) = bb at *
  generalize strOfNums xs = s1 at *
  generalize strOfNums ys = s2 at *
  go_enter Try.func24, Try.ntmps24
  go_wp2
  go_ret
  exact ⟨by rw [← HB.out]; rfl, rfl⟩

theorem numO_four {zs : List Int} (h : Octs zs) (hl : zs.length ≤ 4) : (numO zs).1 = val zs := by
  have h1 := (val_bound zs h).2
  have h2 : (256 : Nat) ^ zs.length ≤ 256 ^ 4 := Nat.pow_le_pow_right (by decide) hl
  have h3 : val zs < 4294967296 := by
    have : ((256 ^ zs.length : Nat) : Int) ≤ ((256 ^ 4 : Nat) : Int) := Int.ofNat_le.2 h2
    have e : ((256 ^ 4 : Nat) : Int) = 4294967296 := by decide
    omega
  unfold numO
  rw [if_neg (by omega)]
theorem numO_no {zs : List Int} (h : (numO zs).2 ≠ 0) : (numO zs).1 = 0 := by
  unfold numO at h ⊢
  split at h
  · rename_i hc; rw [if_pos hc]
  · exact absurd rfl h
/-- What a sector tells, in another way. -/
theorem ubOf_if {zs : List Int} (hl : zs.length = 64) : ubOf zs = if (ubRead zs).ok = true ∧ zs = (ubRead zs).octs then (ubRead zs, 0) else (ub0, 21) := by
  unfold ubOf
  by_cases h : (ubRead zs).ok = true ∧ zs = (ubRead zs).octs
  · have h2 : (numO ((zs.drop 4).take 8)).2 = 0 := by
      by_cases h0 : (numO ((zs.drop 4).take 8)).2 = 0
      · exact h0
      · have := (Ub.ok_iff.1 h.1).1
        have h1 : (ubRead zs).t = 0 := numO_no h0
        omega
    rw [if_pos h, if_pos ⟨hl, h2, h.1, h.2.symm⟩]
  · rw [if_neg h, if_neg fun hh => h ⟨hh.2.2.1, hh.2.2.2.symm⟩]

abbrev ansU (x : Ub × Int) : Value := .tuple #[x.1.val, .int .i64 x.2]

theorem rd_mid {w : World} {b off : Nat} {zs : List Int} (h : RdB w (some ⟨b, off, none⟩) zs) (k m : Nat) : RdB w (some ⟨b, off + k, none⟩) ((zs.drop k).take m) := fun hne => by
  obtain ⟨b', o', e, hb, hc⟩ := h (by rintro h0; apply hne; simp at h0; simp [h0])
  injection e with e
  injection e with e1 e2
  subst e1 e2
  refine ⟨b, off + k, rfl, hb, fun j u hu => ?_⟩
  rw [Nat.add_assoc]
  refine hc (k + j) u ?_
  rw [List.getElem?_map] at hu ⊢
  rcases hx : ((zs.drop k).take m)[j]? with _ | z
  · rw [hx] at hu; cases hu
  · rw [hx] at hu
    have h2 : (zs.drop k)[j]? = some z := by
      rw [List.getElem?_take] at hx
      split at hx
      · exact hx
      · cases hx
    rw [List.getElem?_drop] at h2
    rw [h2]
    exact hu

set_option maxHeartbeats 2000000 in
set_option maxRecDepth 100000 in
theorem decode_any (A : Option Addr) (n c : Nat) (zs : List Int) (hn : zs.length = n) (hc : n ≤ c) (hl : n ≤ maxLen) (ho : Octs zs) (w : World) (hr : RdB w A zs) :
    Calls Try.prog 9 #[.slice A n c] w fun e w' => e = .returned (ansU (ubOf zs)) ∧ Below w.heap.size w w' := by
  unfold maxLen at hl
  by_cases h64 : n = 64
  · subst h64
    have hi := ubOf_if hn
    have hz := ho
    obtain ⟨b, off, rfl, hb, _⟩ := RdB.cell hr (k := 0) (by omega)
    have N1 := Lib.hid (number8_any (some ⟨b, off + 4, none⟩) 8 (c - 4) ((zs.drop 4).take 8) (by simp; omega) (by omega) (by omega) ((ho.dp 4).tk 8))
    have N2 := Lib.hid (number8_any (some ⟨b, off + 12, none⟩) 4 (c - 12) ((zs.drop 12).take 4) (by simp; omega) (by omega) (by omega) ((ho.dp 12).tk 4))
    have N3 := Lib.hid (number8_any (some ⟨b, off + 16, none⟩) 4 (c - 16) ((zs.drop 16).take 4) (by simp; omega) (by omega) (by omega) ((ho.dp 16).tk 4))
    rw [numO_four ((ho.dp 12).tk 4) (by simp; omega)] at N2
    rw [numO_four ((ho.dp 16).tk 4) (by simp; omega)] at N3
    have R1 := Lib.hid fun (W : World) h => rd_mid (w := W) (zs := zs) (b := b) (off := off) h 4 8
    have R2 := Lib.hid fun (W : World) h => rd_mid (w := W) (zs := zs) (b := b) (off := off) h 12 4
    have R3 := Lib.hid fun (W : World) h => rd_mid (w := W) (zs := zs) (b := b) (off := off) h 16 4
    generalize hx1 : (zs.drop 4).take 8 = x1 at N1 R1
    generalize hx2 : (zs.drop 12).take 4 = x2 at N2 R2
    generalize hx3 : (zs.drop 16).take 4 = x3 at N3 R3
    have hu : ubRead zs = ⟨(numO x1).1, val x2, val x3⟩ := by unfold ubRead; rw [hx1, hx2, hx3]
    clear hx1 hx2 hx3
    rw [hu] at hi
    generalize (numO x1).1 = t at *
    generalize val x2 = f at *
    generalize val x3 = o at *
    have EQ := Lib.hid fun B d (ys : List Int) (hm : ys.length = 64) (hp : Octs ys) => equal_any (some ⟨b, off, none⟩) 64 c zs hn ho B 64 d ys hm hp
    have HZ := Lib.hid ho
    have HN := Lib.hid hn
    have HI := Lib.hid hi
    have HR := Lib.hid hr
    generalize ubOf zs = r at HI ⊢
    have hu0 : Hid (ubRead zs = ⟨t, f, o⟩) := hu
    clear hi hu hz hr hn ho
    have c1 : (12 : Int) ≤ c := by omega
    have c2 : (16 : Int) ≤ c := by omega
    have c3 : (20 : Int) ≤ c := by omega
    have c4 : ¬ c = 4 := by omega
    have c5 : ¬ c = 12 := by omega
    have c6 : ¬ c = 16 := by omega
    go_enter Try.func9, Try.ntmps9
    go_wp2_with fail
    obtain ⟨w1, hw1⟩ : ∃ w1, w.alloc (.cells #[.int .i64 0, .int .i64 0, .int .i64 0] 23) = w1 := ⟨_, rfl⟩
    have hB1 : Below w.heap.size w w1 := hw1 ▸ (Below.refl _ w).alloc (Nat.le_refl _) _
    have kr : Blk w1 w.heap.size 23 ub0.cells := hw1 ▸ Blk.new w ub0.cells 23
    rw [hw1]
    have HKR := Lib.hid kr
    have HR1 := Lib.hid (HR.out.below hB1)
    have hlt1 := kr.lt
    clear hw1 kr
    refine wp_region_noPanic ?_
    refine wp_region_last 11 (fun _ => True) (by kernel_rfl) trivial (fun hHeld => ?_)
    refine wpAnyL_take 16 (i := 0) (oi := ⟨some 11, _, _, _, _, _⟩) (v := ?_) rfl (by kernel_rfl) (by kernel_rfl) (by kernel_rfl) (by kernel_rfl) (by kernel_rfl) (by kernel_rfl) (by kernel_rfl) (fun _ _ _ h => h) (Or.inl ⟨by rfl, ?_⟩) hHeld ?_
    rotate_left
    focus (intro w hSw; (try dsimp only at hSw); go_simp; try (with_reducible rfl))
    try simp only [Act.put, List.setIfInBounds_toArray, List.set_cons_zero, List.set_cons_succ]
    refine wpAnyL_take 16 (i := 1) (oi := ⟨some 12, _, _, _, _, _⟩) (v := ?_) rfl (by kernel_rfl) (by kernel_rfl) (by kernel_rfl) (by kernel_rfl) (by kernel_rfl) (by kernel_rfl) (by kernel_rfl) (fun _ _ _ h => h) (Or.inl ⟨by rfl, ?_⟩) hHeld ?_
    rotate_left
    focus (intro w hSw; (try dsimp only at hSw); go_simp; try (with_reducible rfl))
    try simp only [Act.put, List.setIfInBounds_toArray, List.set_cons_zero, List.set_cons_succ]
    refine wpAnyL_take 16 (i := 3) (oi := ⟨some 14, _, _, _, _, _⟩) (v := ?_) rfl (by kernel_rfl) (by kernel_rfl) (by kernel_rfl) (by kernel_rfl) (by kernel_rfl) (by kernel_rfl) (by kernel_rfl) (fun _ _ _ h => h) (Or.inl ⟨by rfl, ?_⟩) hHeld ?_
    rotate_left
    focus (intro w hSw; (try dsimp only at hSw); go_simp; try (with_reducible rfl))
    try simp only [Act.put, List.setIfInBounds_toArray, List.set_cons_zero, List.set_cons_succ]
    refine wpAnyL_take 16 (i := 4) (oi := ⟨some 15, _, _, _, _, _⟩) (v := ?_) rfl (by kernel_rfl) (by kernel_rfl) (by kernel_rfl) (by kernel_rfl) (by kernel_rfl) (by kernel_rfl) (by kernel_rfl) (fun _ _ _ h => h) (Or.inl ⟨by rfl, ?_⟩) hHeld ?_
    rotate_left
    focus (intro w hSw; (try dsimp only at hSw); go_simp; try (with_reducible rfl))
    try simp only [Act.put, List.setIfInBounds_toArray, List.set_cons_zero, List.set_cons_succ]
    refine wpAnyL_take 16 (i := 6) (oi := ⟨some 17, _, _, _, _, _⟩) (v := ?_) rfl (by kernel_rfl) (by kernel_rfl) (by kernel_rfl) (by kernel_rfl) (by kernel_rfl) (by kernel_rfl) (by kernel_rfl) (fun _ _ _ h => h) (Or.inl ⟨by rfl, ?_⟩) hHeld ?_
    rotate_left
    focus (intro w hSw; (try dsimp only at hSw); go_simp; try (with_reducible rfl))
    try simp only [Act.put, List.setIfInBounds_toArray, List.set_cons_zero, List.set_cons_succ]
    refine wpAnyL_take 16 (i := 7) (oi := ⟨some 18, _, _, _, _, _⟩) (v := ?_) rfl (by kernel_rfl) (by kernel_rfl) (by kernel_rfl) (by kernel_rfl) (by kernel_rfl) (by kernel_rfl) (by kernel_rfl) (fun _ _ _ h => h) (Or.inl ⟨by rfl, ?_⟩) hHeld ?_
    rotate_left
    focus (intro w hSw; (try dsimp only at hSw); go_simp; try (with_reducible rfl))
    try simp only [Act.put, List.setIfInBounds_toArray, List.set_cons_zero, List.set_cons_succ]
    clear hHeld
    refine wpAnyL_facts 16 5 1 [(2, 13), (5, 16), (8, 19), (9, 20), (10, 4)] (fun s v w => match s with
      | 13 => v = .int .i64 t
      | 16 => v = .int .i64 f
      | 19 => v = .int .i64 o
      | 20 => v = .agg #[.int .i64 t, .int .i64 f, .int .i64 o]
      | 4 => ∃ X, v = .pointer (some ⟨X, 0, none⟩) ∧ w1.heap.size ≤ X ∧ Blk w X 23 ub0.cells
      | _ => True) (fun w w' => Below w.heap.size w w') (by kernel_rfl) (by kernel_rfl) (fun w w' h h' => h.trans (h'.mono h.size)) ⟨?_, ?_, ?_, ?_, ?_, trivial⟩ (fun _ _ => trivial) ⟨?_, ?_, ?_, ?_, ?_, trivial⟩ ?_
    focus
      intro v w w' h hB
      exact h
    focus
      intro v w w' h hB
      exact h
    focus
      intro v w w' h hB
      exact h
    focus
      intro v w w' h hB
      exact h
    focus
      intro v w w' h hB
      exact (by obtain ⟨X, e, hX, hb⟩ := h; exact ⟨X, e, hX, hb.below hB hb.lt⟩)
    focus
      intro vs w2 hBf hFf o ho K hK
      obtain rfl : (⟨some 13, _, _, _, _, _⟩ : Oper) = o := Option.some.inj ho
      clear ho
      (try simp only [fillL, List.foldl_cons, List.foldl_nil, Act.put, List.setIfInBounds_toArray, List.set_cons_zero, List.set_cons_succ] at hK ⊢)
      go_simp
      refine (N1.out w2 (R1.out w2 (RdB.below HR1.out ((Below.refl _ _).drew.trans hBf)))).mono ?_
      rintro e w3 ⟨rfl, rfl⟩
      refine hK.out _ _ ⟨rfl, Below.refl _ _⟩
    focus
      intro vs w2 hBf hFf o ho K hK
      obtain rfl : (⟨some 16, _, _, _, _, _⟩ : Oper) = o := Option.some.inj ho
      clear ho
      (try simp only [fillL, List.foldl_cons, List.foldl_nil, Act.put, List.setIfInBounds_toArray, List.set_cons_zero, List.set_cons_succ] at hK ⊢)
      go_simp
      refine (N2.out w2 (R2.out w2 (RdB.below HR1.out ((Below.refl _ _).drew.trans hBf)))).mono ?_
      rintro e w3 ⟨rfl, rfl⟩
      refine hK.out _ _ ⟨rfl, Below.refl _ _⟩
    focus
      intro vs w2 hBf hFf o ho K hK
      obtain rfl : (⟨some 19, _, _, _, _, _⟩ : Oper) = o := Option.some.inj ho
      clear ho
      (try simp only [fillL, List.foldl_cons, List.foldl_nil, Act.put, List.setIfInBounds_toArray, List.set_cons_zero, List.set_cons_succ] at hK ⊢)
      go_simp
      refine (N3.out w2 (R3.out w2 (RdB.below HR1.out ((Below.refl _ _).drew.trans hBf)))).mono ?_
      rintro e w3 ⟨rfl, rfl⟩
      refine hK.out _ _ ⟨rfl, Below.refl _ _⟩
    focus
      intro vs w2 hBf hFf o ho K hK
      obtain rfl : (⟨some 20, _, _, _, _, _⟩ : Oper) = o := Option.some.inj ho
      clear ho
      (try simp only [fillL, List.foldl_cons, List.foldl_nil, Act.put, List.setIfInBounds_toArray, List.set_cons_zero, List.set_cons_succ] at hK ⊢)
      have e1 : vs 13 = .int .i64 t := (hFf (2, 13) (by simp) (by kernel_rfl))
      have e2 : vs 16 = .int .i64 f := (hFf (5, 16) (by simp) (by kernel_rfl))
      have e3 : vs 19 = .int .i64 o := (hFf (8, 19) (by simp) (by kernel_rfl))
      simp only [e1, e2, e3] at hK ⊢
      go_simp
      refine hK.out _ _ ⟨rfl, Below.refl _ _⟩
    focus
      intro vs w2 hBf hFf o ho K hK
      obtain rfl : (⟨some 4, _, _, _, _, _⟩ : Oper) = o := Option.some.inj ho
      clear ho
      (try simp only [fillL, List.foldl_cons, List.foldl_nil, Act.put, List.setIfInBounds_toArray, List.set_cons_zero, List.set_cons_succ] at hK ⊢)
      go_simp
      refine hK.out _ _ ⟨⟨_, rfl, hBf.size, Blk.new w2 ub0.cells 23⟩, (Below.refl _ _).alloc (Nat.le_refl _) _⟩
    intro vs w2 hBf hFf
    (try simp only [fillL, List.foldl_cons, List.foldl_nil, Act.put, List.setIfInBounds_toArray, List.set_cons_zero, List.set_cons_succ])
    have e1 : vs 20 = .agg #[.int .i64 t, .int .i64 f, .int .i64 o] := (hFf (9, 20) (by simp))
    obtain ⟨X, e4, hX, hKX⟩ := (hFf (10, 4) (by simp))
    simp only [e1, e4]
    have x0 := hKX.cell 0
    have x1 := hKX.cell 1
    have x2 := hKX.cell 2
    have q0 := hKX.frozen 0
    have q1 := hKX.frozen 1
    have q2 := hKX.frozen 2
    simp only [Ub.cells, ub0, List.getElem?_cons_zero, List.getElem?_cons_succ] at x0 x1 x2
    refine wpAnyL_last (i := 11) (o := ⟨none, _, _, _, _, _⟩) (by kernel_rfl) rfl (by kernel_rfl) (fun K hK => ?_)
    go_simp
    refine hK.out _ _ ?_
    clear hK K
    try simp only [Act.put, List.setIfInBounds_toArray, List.set_cons_zero, List.set_cons_succ]
    refine wpAnyL_done (by kernel_rfl) ?_ _
    refine NoPanic.normal ?_
    go_wp2_with fail
    obtain ⟨w3, hw3⟩ : ∃ w3, ((w2.setCell ⟨X, 0, none⟩ (.int .i64 t)).setCell ⟨X, 1, none⟩ (.int .i64 f)).setCell ⟨X, 2, none⟩ (.int .i64 o) = w3 := ⟨_, rfl⟩
    have kx : Blk w3 X 23 [.int .i64 t, .int .i64 f, .int .i64 o] := hw3 ▸ ((hKX.set 0 (.int .i64 t)).set 1 (.int .i64 f)).set 2 (.int .i64 o)
    have hB13 : Below w1.heap.size w1 w3 := hw3 ▸ ((((Below.refl w1.heap.size w1).drew.trans hBf).setCell (p := ⟨X, 0, none⟩) hX _).setCell (p := ⟨X, 1, none⟩) hX _).setCell (p := ⟨X, 2, none⟩) hX _
    rw [hw3]
    have hB3 : Below w.heap.size w w3 := hB1.trans (hB13.mono hB1.size)
    have HKX3 := Lib.hid kx
    have HKR3 := Lib.hid (HKR.out.below hB13 hlt1)
    have HRZ3 := Lib.hid (HR.out.below hB3)
    have hne : w.heap.size < X := Nat.lt_of_lt_of_le hlt1 hX
    clear x0 x1 x2 q0 q1 q2
    clear hw3 kx hKX hFf e1 e4 hBf HKR N1 N2 N3 R1 R2 R3
    by_cases hok : (Ub.mk t f o).ok = true
    · refine (encode_ok ⟨t, f, o⟩ hok w3).mono ?_
      rintro e w4 ⟨v, rfl, hown, hB4⟩
      obtain ⟨B, d, rfl, hd, hrv⟩ := own_slice hown
      have HKX4 := HKX3.out.below hB4 HKX3.out.lt
      have HKR4 := HKR3.out.below hB4 HKR3.out.lt
      have HRZ4 := Lib.hid (HRZ3.out.below hB4)
      have hB04 : Below w.heap.size w w4 := hB3.trans (hB4.mono hB3.size)
      have HEQ := Lib.hid (EQ.out B d (Ub.mk t f o).octs (Ub.octs_length _) (Ub.octs_octs _) w4 HRZ4.out hrv)
      have hi := HI.out
      simp only [hok, true_and] at hi
      have x0 := HKX4.cell 0
      have x1 := HKX4.cell 1
      have x2 := HKX4.cell 2
      have z0 := HKR4.cell 0
      have z1 := HKR4.cell 1
      have z2 := HKR4.cell 2
      have y0 := HKR4.frozen 0
      have y1 := HKR4.frozen 1
      have y2 := HKR4.frozen 2
      simp only [Ub.cells, ub0, List.getElem?_cons_zero, List.getElem?_cons_succ] at x0 x1 x2 z0 z1 z2
      have hlt4 := HKR4.lt
      clear hown hd hrv HI EQ HKX3 HKR3 HRZ3 HKX4
      by_cases he : zs = (Ub.mk t f o).octs
      · rw [if_pos he] at hi
        rw [decide_eq_true he] at HEQ
        subst hi
        clear he
        go_wp2_with (refine HEQ.out.mono ?_; rintro e w5 ⟨rfl, rfl⟩)
        refine bodyPost_ret (v := ansU (⟨t, f, o⟩, 0)) (by simp [results, Try.results9, go_sem, z0, z1, z2]) rfl ⟨rfl, ?_⟩
        exact ((hB04.setCell (p := ⟨w.heap.size, 0, none⟩) (Nat.le_refl _) _).setCell (p := ⟨w.heap.size, 1, none⟩) (Nat.le_refl _) _).setCell (p := ⟨w.heap.size, 2, none⟩) (Nat.le_refl _) _
      · rw [if_neg he] at hi
        rw [decide_eq_false he] at HEQ
        subst hi
        clear he
        go_wp2_with (refine HEQ.out.mono ?_; rintro e w5 ⟨rfl, rfl⟩)
        refine bodyPost_ret (v := ansU (ub0, 21)) (by simp [results, Try.results9, go_sem, z0, z1, z2, ub0]) rfl ⟨rfl, ?_⟩
        exact ((hB04.setCell (p := ⟨w.heap.size, 0, none⟩) (Nat.le_refl _) _).setCell (p := ⟨w.heap.size, 1, none⟩) (Nat.le_refl _) _).setCell (p := ⟨w.heap.size, 2, none⟩) (Nat.le_refl _) _
    · refine (encode_no ⟨t, f, o⟩ (by simpa using hok) w3).mono ?_
      rintro e w4 ⟨rfl, hB4⟩
      have HKR4 := HKR3.out.below hB4 HKR3.out.lt
      have hB04 : Below w.heap.size w w4 := hB3.trans (hB4.mono hB3.size)
      have hi := HI.out
      rw [if_neg fun h => hok h.1] at hi
      subst hi
      have z0 := HKR4.cell 0
      have z1 := HKR4.cell 1
      have z2 := HKR4.cell 2
      have y0 := HKR4.frozen 0
      have y1 := HKR4.frozen 1
      have y2 := HKR4.frozen 2
      simp only [Ub.cells, ub0, List.getElem?_cons_zero, List.getElem?_cons_succ] at z0 z1 z2
      clear HI EQ HKX3 HKR3 HRZ3
      go_wp2_with fail
      refine bodyPost_ret (v := ansU (ub0, 21)) (by simp [results, Try.results9, go_sem, z0, z1, z2, ub0]) rfl ⟨rfl, ?_⟩
      exact ((hB04.setCell (p := ⟨w.heap.size, 0, none⟩) (Nat.le_refl _) _).setCell (p := ⟨w.heap.size, 1, none⟩) (Nat.le_refl _) _).setCell (p := ⟨w.heap.size, 2, none⟩) (Nat.le_refl _) _
  · have hr0 : ubOf zs = (ub0, 21) := by unfold ubOf; rw [if_neg fun h => h64 (hn ▸ h.1)]
    rw [hr0]
    clear hr0 hr ho hn
    have hne : ((n : Int) == 64) = false := beq_eq_false_iff_ne.2 (by omega)
    go_enter Try.func9, Try.ntmps9
    go_wp2
    refine bodyPost_ret (v := ansU (ub0, 21)) (by simp [results, Try.results9, go_sem, ub0]) rfl ⟨rfl, ?_⟩
    exact (Below.refl _ w).alloc (Nat.le_refl _) _

end Go.Proofs.Ytlcjdhmgpbnnmaa
