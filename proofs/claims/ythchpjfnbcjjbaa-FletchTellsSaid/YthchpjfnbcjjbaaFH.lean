/-
  FletchTells returns true. Conditions: at most 2^47 - 4096 octets; the sum's numbers are from 0 to 2^64 - 1.
-/
import Derived.Test.YthchpjfnbcjjbaaFX
import Derived.Test.YthchpjfnbcjjbaaFE
import Derived.Test.YthchpjfnbcjjbaaFG
import Derived.Deep.RegionHeld3
namespace Go.Proofs.Ythchpjfnbcjjbaa
open Go.ChangeShapes Go.WideShapes Go.ChangeAt Go.RowKit

/-- Both make one and the same row of words. -/
theorem words_same (A : Option Addr) (c : Nat) (zs : List Int) (hl : zs.length ≤ 140737488351232) (hcap : zs.length ≤ c) (ho : Octs zs) (xs : List Int) (hx : words zs = xs) (w : World) (hr : RdB w A zs) :
    (Calls Try.prog 9 #[.slice A zs.length c] w fun e w' => ∃ A' c', e = .returned (.slice A' xs.length c') ∧ Rd w' A' (wcells xs) ∧ Below w.heap.size w w') ∧
    (Calls Try.prog 10 #[.slice A zs.length c] w fun e w' => ∃ A' c', e = .returned (.slice A' xs.length c') ∧ Rd w' A' (wcells xs) ∧ Below w.heap.size w w') := by
  subst hx
  constructor
  · refine (words_any A c zs hl hcap ho w hr).mono ?_
    rintro e w' ⟨rfl, h1, h2⟩
    exact ⟨_, _, rfl, h1, h2⟩
  · refine (refWords_any A c zs hl ho w hr).mono ?_
    rintro e w' ⟨v, rfl, h1, h2⟩
    obtain ⟨A', c', rfl, _, h3⟩ := own_slice h1
    exact ⟨A', c', rfl, h3, h2⟩

set_option maxHeartbeats 2000000 in
theorem tells_walk (s : S4) (hs : s.ok) (A : Option Addr) (c : Nat) (zs : List Int) (ho : Octs zs) (hl : zs.length ≤ 140737488351232) (hcap : zs.length ≤ c) (w : World) (hr : RdB w A zs) :
    Calls Try.prog 3 #[s.val, .slice A zs.length c] w fun e w' => e = .returned (.bool true) ∧ Below w.heap.size w w' := by
  obtain ⟨r, er, hrd⟩ := reads_same A c zs hl hcap ho
  obtain ⟨xs, hxs⟩ : ∃ xs, words zs = xs := ⟨_, rfl⟩
  have hwd := words_same A c zs hl hcap ho xs hxs
  have hml : xs.length ≤ 35184372087809 := by rw [← hxs, words_length]; omega
  have HRD := Lib.hid hrd
  have HWD := Lib.hid hwd
  have HXS := Lib.hid hxs
  have HR := Lib.hid hr
  clear hrd hwd hxs hr
  go_enter Try.func3, Try.ntmps3
  go_wp2_with fail
  have hB0 : Below w.heap.size w (w.alloc (.cells #[.int .u64 s.A, .int .u64 s.B, .int .u64 s.C, .int .u64 s.D] 24)) := (Below.refl _ w).alloc (Nat.le_refl _) _
  refine (HRD.out _ (HR.out.below hB0)).1.mono ?_
  rintro e w1 ⟨rfl, hB1⟩
  have kb1 : Blk w1 w.heap.size 24 (scells s) := (Blk.new w (scells s) 24).below hB1 (by simp)
  have hBw1 : Below w.heap.size w w1 := hB0.trans (hB1.mono (by simp))
  have hz1 := kb1.lt
  have KB1 := Lib.hid kb1
  clear hB0 hB1 kb1
  unfold readR
  go_wp2_with fail
  have hB1a : Below w.heap.size w (w1.alloc (.cells #[.int .u64 r.A, .int .u64 r.B, .int .u64 r.C, .int .u64 r.D] 24)) := hBw1.alloc hBw1.size _
  refine (HRD.out _ (HR.out.below hB1a)).2.mono ?_
  rintro e w2 ⟨rfl, hB2⟩
  have kb2 : Blk w2 w.heap.size 24 (scells s) := (KB1.out.alloc _).below hB2 (by simp; omega)
  have kx2 : Blk w2 w1.heap.size 24 (scells r) := (Blk.new w1 (scells r) 24).below hB2 (by simp)
  have hBw2 : Below w.heap.size w w2 := hB1a.trans (hB2.mono (by have := hBw1.size; simp; omega))
  have hz2 := kx2.lt
  have KB2 := Lib.hid kb2
  have KX2 := Lib.hid kx2
  clear hB1a hB2 kb2 kx2 KB1
  unfold readR
  go_wp2_with fail
  have hB2a : Below w.heap.size w (w2.alloc (.cells #[.int .u64 r.A, .int .u64 r.B, .int .u64 r.C, .int .u64 r.D] 24)) := hBw2.alloc hBw2.size _
  refine (HWD.out _ (HR.out.below hB2a)).1.mono ?_
  rintro e w3 ⟨A3, c3, rfl, hR3, hB3⟩
  have kb3 : Blk w3 w.heap.size 24 (scells s) := (KB2.out.alloc _).below hB3 (by have := KB2.out.lt; simp; omega)
  have kx3 : Blk w3 w1.heap.size 24 (scells r) := (KX2.out.alloc _).below hB3 (by simp; omega)
  have ky3 : Blk w3 w2.heap.size 24 (scells r) := (Blk.new w2 (scells r) 24).below hB3 (by simp)
  have hBw3 : Below w.heap.size w w3 := hB2a.trans (hB3.mono (by have := hBw2.size; simp; omega))
  have hz3 := ky3.lt
  have KB3 := Lib.hid kb3
  have KX3 := Lib.hid kx3
  have KY3 := Lib.hid ky3
  have HR3 := Lib.hid hR3
  clear hB2a hB3 kb3 kx3 ky3 KB2 KX2 hR3
  go_wp2_with fail
  refine (HWD.out _ (HR.out.below hBw3)).2.mono ?_
  rintro e w4 ⟨A4, c4, rfl, hR4, hB4⟩
  have kb4 := KB3.out.below hB4 KB3.out.lt
  have kx4 := KX3.out.below hB4 KX3.out.lt
  have ky4 := KY3.out.below hB4 KY3.out.lt
  have hR34 := HR3.out.below hB4
  have hBw4 : Below w.heap.size w w4 := hBw3.trans (hB4.mono hBw3.size)
  have x0 := kx4.cell 0
  have x1 := kx4.cell 1
  have x2 := kx4.cell 2
  have x3 := kx4.cell 3
  have y0 := ky4.cell 0
  have y1 := ky4.cell 1
  have y2 := ky4.cell 2
  have y3 := ky4.cell 3
  simp only [scells, List.getElem?_cons_zero, List.getElem?_cons_succ] at x0 x1 x2 x3 y0 y1 y2 y3
  have KB4 := Lib.hid kb4
  have HR34 := Lib.hid hR34
  have HR4 := Lib.hid hR4
  clear hB4 kb4 kx4 ky4 KB3 KX3 KY3 HR3 hR34 hR4
  go_wp2_with (first
    | (go_at_call 11; refine (num_any _ _).mono ?_; rintro e w' ⟨rfl, rfl⟩))
  go_loopw [11] (fun i wr => ∃ k : Nat, k ≤ xs.length ∧ i = .int .i64 k ∧ Below w4.heap.size w4 wr) (fun i _ => xs.length - (intOf i).toNat)
  case atStart => exact ⟨0, Nat.zero_le _, rfl, Below.refl _ _⟩
  case round =>
    obtain ⟨k, hk, rfl, hBr⟩ := hrel
    by_cases hlt : k < xs.length
    · obtain ⟨b3, o3, rfl, hb3, hc3⟩ := HR34.out (by intro h; have := congrArg List.length h; simp [wcells] at this; subst this; simp at hlt)
      obtain ⟨b4, o4, rfl, hb4, hc4⟩ := HR4.out (by intro h; have := congrArg List.length h; simp [wcells] at this; subst this; simp at hlt)
      have e3 := (hBr.cell (p := ⟨b3, o3 + k, none⟩) hb3).trans (hc3 k _ (wcells_at xs k hlt))
      have e4 := (hBr.cell (p := ⟨b4, o4 + k, none⟩) hb4).trans (hc4 k _ (wcells_at xs k hlt))
      have hk0 : (0 : Int) ≤ k := by omega
      have hk1 : (k : Int) < xs.length := by omega
      generalize xs[k] = x at *
      clear hc3 hc4 x0 x1 x2 x3 y0 y1 y2 y3
      go_wp2
      go_region
      go_wp2
      go_roundw
      case rel => exact ⟨k + 1, by omega, by go_num, hBr.drew⟩
      case measure => simp [intOf]; omega
    · have hke : k = xs.length := by omega
      subst hke
      have kb := KB4.out.below hBr KB4.out.lt
      have hBwr : Below w.heap.size w wr := hBw4.trans (hBr.mono hBw4.size)
      have hrr := HR.out.below hBwr
      have hc0 := kb.cell 0
      have hc1 := kb.cell 1
      have hc2 := kb.cell 2
      have hc3 := kb.cell 3
      have hbl := kb.lt
      simp only [scells, List.getElem?_cons_zero, List.getElem?_cons_succ] at hc0 hc1 hc2 hc3
      obtain ⟨t1, ht1⟩ : ∃ t1, feedS s xs = t1 := ⟨_, rfl⟩
      obtain ⟨t2, ht2⟩ : ∃ t2, feedS zeroS xs = t2 := ⟨_, rfl⟩
      obtain ⟨st, hst⟩ : ∃ st, strOfNums (sumOcts s) = st := ⟨_, rfl⟩
      have f1 : ∀ W, Below wr.heap.size wr W → Calls Try.prog 12 #[s.val, .slice A zs.length c] W fun e w' => e = .returned t1.val ∧ Below W.heap.size W w' := fun W hW => by
        rw [← ht1, ← HXS.out]
        exact feed_any s A c zs hl hcap ho W (hrr.below hW)
      have f2 : ∀ W, Below wr.heap.size wr W → Calls Try.prog 13 #[s.val, .slice A zs.length c] W fun e w' => e = .returned t1.val ∧ Below W.heap.size W w' := fun W hW => by
        rw [← ht1, ← HXS.out]
        exact refFeed_any s A c zs hl ho W (hrr.below hW)
      have f3 : ∀ W, Below wr.heap.size wr W → Calls Try.prog 14 #[.slice A zs.length c] W fun e w' => e = .returned t2.val ∧ Below W.heap.size W w' := fun W hW => by
        rw [← ht2, ← HXS.out]
        exact of_any A zs.length c zs rfl hl hcap ho W (hrr.below hW)
      have f4 : ∀ W, Below wr.heap.size wr W → Calls Try.prog 13 #[.agg #[.int .u64 0, .int .u64 0, .int .u64 0, .int .u64 0], .slice A zs.length c] W fun e w' => e = .returned t2.val ∧ Below W.heap.size W w' := fun W hW => by
        rw [← ht2, ← HXS.out]
        exact refFeed_any zeroS A c zs hl ho W (hrr.below hW)
      have f5 : ∀ W, Below wr.heap.size wr W → Calls Try.prog 15 #[s.val] W fun e w' => ∃ A c, e = .returned (.slice A 32 c) ∧ RdB w' A (sumOcts s) ∧ Below W.heap.size W w' := fun W _ =>
        (octets_any s hs W).mono fun e w' ⟨A, c, h1, h2, _, h3⟩ => ⟨A, c, h1, h2, h3⟩
      have f6 : ∀ W, Below wr.heap.size wr W → Calls Try.prog 16 #[s.val] W fun e w' => ∃ A c, e = .returned (.slice A 32 c) ∧ RdB w' A (sumOcts s) ∧ Below W.heap.size W w' := fun W _ => sumOctets_any s W
      have f7 : ∀ W, Below wr.heap.size wr W → Calls Try.prog 17 #[] W fun e w' => e = .returned (.bool true) ∧ Below W.heap.size W w' := fun W _ => alive_any W
      have cv : ∀ (W : World) (A : Option Addr) (c : Nat), RdB W A (sumOcts s) → (convert 25 9 (.slice A 32 c)).run Try.prog W = .ok (.string st) W := fun W A c h => by
        have := run_string_rd (P := Try.prog) W 25 5 9 Try.underlying25 Try.underlying5 Try.underlying9 A (sumOcts s) c h
        rw [sumOcts_length, hst] at this
        exact this
      have F1 := Lib.hid f1
      have F2 := Lib.hid f2
      have F3 := Lib.hid f3
      have F4 := Lib.hid f4
      have F5 := Lib.hid f5
      have F6 := Lib.hid f6
      have F7 := Lib.hid f7
      have CV := Lib.hid cv
      have hBd : Below wr.heap.size wr wr.drew := (Below.refl _ _).drew
      clear f1 f2 f3 f4 f5 f6 f7 cv ht1 ht2 hst kb hrr hBr KB4 HR34 HR4 HRD HWD HXS HR x0 x1 x2 x3 y0 y1 y2 y3
      go_wp2_with fail
      refine wp_region_noPanic ?_
      refine wp_region_held_drew (S := (fun w' => w'.cell? ⟨w.heap.size, 0, none⟩ = some (.int .u64 s.A) ∧ w'.cell? ⟨w.heap.size, 1, none⟩ = some (.int .u64 s.B) ∧ w'.cell? ⟨w.heap.size, 2, none⟩ = some (.int .u64 s.C) ∧ w'.cell? ⟨w.heap.size, 3, none⟩ = some (.int .u64 s.D) ∧ Below wr.heap.size wr w')) (by kernel_rfl) (held4 hbl hc0 hc1 hc2 hc3 hBd) (fun hHeld => ?_)
      refine wpAnyH_take (i := 0) (oi := ⟨some 57, _, _, _, _, _⟩) (v := ?_) rfl (by kernel_rfl) (by kernel_rfl) (by kernel_rfl) (fun _ _ _ h => h) (Or.inl ⟨by rfl, ?_⟩) hHeld ?_
      rotate_left
      focus (intro w hSw; (try dsimp only at hSw); go_simp; try (with_reducible rfl))
      try simp only [Act.put, List.setIfInBounds_toArray, List.set_cons_zero, List.set_cons_succ]
      refine wpAnyH_take (i := 1) (oi := ⟨some 58, _, _, _, _, _⟩) (v := ?_) rfl (by kernel_rfl) (by kernel_rfl) (by kernel_rfl) (fun _ _ _ h => h) (Or.inl ⟨by rfl, ?_⟩) hHeld ?_
      rotate_left
      focus (intro w hSw; (try dsimp only at hSw); go_simp; try (with_reducible rfl))
      try simp only [Act.put, List.setIfInBounds_toArray, List.set_cons_zero, List.set_cons_succ]
      refine wpAnyH_take (i := 3) (oi := ⟨some 60, _, _, _, _, _⟩) (v := ?_) rfl (by kernel_rfl) (by kernel_rfl) (by kernel_rfl) (fun _ _ _ h => h) (Or.inl ⟨by rfl, ?_⟩) hHeld ?_
      rotate_left
      focus (intro w hSw; (try dsimp only at hSw); go_simp; try (with_reducible rfl))
      try simp only [Act.put, List.setIfInBounds_toArray, List.set_cons_zero, List.set_cons_succ]
      refine wpAnyH_take (i := 4) (oi := ⟨some 61, _, _, _, _, _⟩) (v := ?_) rfl (by kernel_rfl) (by kernel_rfl) (by kernel_rfl) (fun _ _ _ h => h) (Or.inl ⟨by rfl, ?_⟩) hHeld ?_
      rotate_left
      focus (intro w hSw; (try dsimp only at hSw); go_simp; try (with_reducible rfl))
      try simp only [Act.put, List.setIfInBounds_toArray, List.set_cons_zero, List.set_cons_succ]
      refine wpAnyH_ready (rs := [2]) (by kernel_rfl) (by simp) ?_
      clear hHeld
      refine AllReadyH.cons (o := ⟨some 59, _, _, _, _, _⟩) rfl (fun K hK => ?_) AllReadyH.nil
      go_simp
      go_at_call 12
      refine (F1.out _ hBd).mono ?_
      rintro e w5 ⟨rfl, hB5⟩
      have hBw5 : Below wr.heap.size wr w5 := Below.trans hBd (hB5.mono hBd.size)
      clear hB5
      go_wp2_with fail
      refine hK.out _ _ (held4 hbl hc0 hc1 hc2 hc3 hBw5) (fun hHeld => ?_)
      clear hK K
      try simp only [Act.put, List.setIfInBounds_toArray, List.set_cons_zero, List.set_cons_succ]
      refine wpAnyH_ready (rs := [5]) (by kernel_rfl) (by simp) ?_
      clear hHeld
      refine AllReadyH.cons (o := ⟨some 62, _, _, _, _, _⟩) rfl (fun K hK => ?_) AllReadyH.nil
      go_simp
      go_at_call 13
      refine (F2.out _ hBw5).mono ?_
      rintro e w6 ⟨rfl, hB6⟩
      have hBw6 : Below wr.heap.size wr w6 := Below.trans hBw5 (hB6.mono hBw5.size)
      clear hB6
      go_wp2_with fail
      refine hK.out _ _ (held4 hbl hc0 hc1 hc2 hc3 hBw6) (fun hHeld => ?_)
      clear hK K
      try simp only [Act.put, List.setIfInBounds_toArray, List.set_cons_zero, List.set_cons_succ]
      refine wpAnyH_take (i := 6) (oi := ⟨some 63, _, _, _, _, _⟩) (v := ?_) rfl (by kernel_rfl) (by kernel_rfl) (by kernel_rfl) (fun _ _ _ h => h) (Or.inl ⟨by rfl, ?_⟩) hHeld ?_
      rotate_left
      focus (intro w hSw; (try dsimp only at hSw); go_simp; try (with_reducible rfl))
      try simp only [Act.put, List.setIfInBounds_toArray, List.set_cons_zero, List.set_cons_succ]
      refine wpAnyH_take (i := 7) (oi := ⟨some 64, _, _, _, _, _⟩) (v := ?_) rfl (by kernel_rfl) (by kernel_rfl) (by kernel_rfl) (fun _ _ _ h => h) (Or.inl ⟨by rfl, ?_⟩) hHeld ?_
      rotate_left
      focus (intro w hSw; (try dsimp only at hSw); go_simp; try (with_reducible rfl))
      try simp only [Act.put, List.setIfInBounds_toArray, List.set_cons_zero, List.set_cons_succ]
      refine wpAnyH_take (i := 8) (oi := ⟨some 65, _, _, _, _, _⟩) (v := ?_) rfl (by kernel_rfl) (by kernel_rfl) (by kernel_rfl) (fun _ _ _ h => h) (Or.inl ⟨by rfl, ?_⟩) hHeld ?_
      rotate_left
      focus (intro w hSw; (try dsimp only at hSw); go_simp; try (with_reducible rfl))
      try simp only [Act.put, List.setIfInBounds_toArray, List.set_cons_zero, List.set_cons_succ]
      refine wpAnyH_take (i := 10) (oi := ⟨some 67, _, _, _, _, _⟩) (v := ?_) rfl (by kernel_rfl) (by kernel_rfl) (by kernel_rfl) (fun _ _ _ h => h) (Or.inl ⟨by rfl, ?_⟩) hHeld ?_
      rotate_left
      focus (intro w hSw; (try dsimp only at hSw); go_simp; try (with_reducible rfl))
      try simp only [Act.put, List.setIfInBounds_toArray, List.set_cons_zero, List.set_cons_succ]
      refine wpAnyH_take (i := 11) (oi := ⟨some 68, _, _, _, _, _⟩) (v := ?_) rfl (by kernel_rfl) (by kernel_rfl) (by kernel_rfl) (fun _ _ _ h => h) (Or.inl ⟨by rfl, ?_⟩) hHeld ?_
      rotate_left
      focus (intro w hSw; (try dsimp only at hSw); go_simp; try (with_reducible rfl))
      try simp only [Act.put, List.setIfInBounds_toArray, List.set_cons_zero, List.set_cons_succ]
      refine wpAnyH_ready (rs := [9]) (by kernel_rfl) (by simp) ?_
      clear hHeld
      refine AllReadyH.cons (o := ⟨some 66, _, _, _, _, _⟩) rfl (fun K hK => ?_) AllReadyH.nil
      go_simp
      go_at_call 14
      refine (F3.out _ hBw6).mono ?_
      rintro e w7 ⟨rfl, hB7⟩
      have hBw7 : Below wr.heap.size wr w7 := Below.trans hBw6 (hB7.mono hBw6.size)
      clear hB7
      go_wp2_with fail
      refine hK.out _ _ (held4 hbl hc0 hc1 hc2 hc3 hBw7) (fun hHeld => ?_)
      clear hK K
      try simp only [Act.put, List.setIfInBounds_toArray, List.set_cons_zero, List.set_cons_succ]
      refine wpAnyH_ready (rs := [12]) (by kernel_rfl) (by simp) ?_
      clear hHeld
      refine AllReadyH.cons (o := ⟨some 69, _, _, _, _, _⟩) rfl (fun K hK => ?_) AllReadyH.nil
      go_simp
      go_at_call 13
      refine (F4.out _ hBw7).mono ?_
      rintro e w8 ⟨rfl, hB8⟩
      have hBw8 : Below wr.heap.size wr w8 := Below.trans hBw7 (hB8.mono hBw7.size)
      clear hB8
      go_wp2_with fail
      refine hK.out _ _ (held4 hbl hc0 hc1 hc2 hc3 hBw8) (fun hHeld => ?_)
      clear hK K
      try simp only [Act.put, List.setIfInBounds_toArray, List.set_cons_zero, List.set_cons_succ]
      refine wpAnyH_take (i := 13) (oi := ⟨some 70, _, _, _, _, _⟩) (v := ?_) rfl (by kernel_rfl) (by kernel_rfl) (by kernel_rfl) (fun _ _ _ h => h) (Or.inl ⟨by rfl, ?_⟩) hHeld ?_
      rotate_left
      focus (intro w hSw; (try dsimp only at hSw); go_simp; try (with_reducible rfl))
      try simp only [Act.put, List.setIfInBounds_toArray, List.set_cons_zero, List.set_cons_succ]
      refine wpAnyH_take (i := 14) (oi := ⟨some 71, _, _, _, _, _⟩) (v := ?_) rfl (by kernel_rfl) (by kernel_rfl) (by kernel_rfl) (fun _ _ _ h => h) (Or.inl ⟨by rfl, ?_⟩) hHeld ?_
      rotate_left
      focus (intro w hSw; (try dsimp only at hSw); go_simp; try (with_reducible rfl))
      try simp only [Act.put, List.setIfInBounds_toArray, List.set_cons_zero, List.set_cons_succ]
      refine wpAnyH_take (i := 15) (oi := ⟨some 72, _, _, _, _, _⟩) (v := ?_) rfl (by kernel_rfl) (by kernel_rfl) (by kernel_rfl) (fun _ _ _ h => h) (Or.inl ⟨by rfl, ?_⟩) hHeld ?_
      rotate_left
      focus (intro w hSw; (try dsimp only at hSw); go_simp; try (with_reducible rfl))
      try simp only [Act.put, List.setIfInBounds_toArray, List.set_cons_zero, List.set_cons_succ]
      refine wpAnyH_take (i := 16) (oi := ⟨some 73, _, _, _, _, _⟩) (v := ?_) rfl (by kernel_rfl) (by kernel_rfl) (by kernel_rfl) (fun _ _ _ h => h) (Or.inl ⟨by rfl, ?_⟩) hHeld ?_
      rotate_left
      focus (intro w hSw; (try dsimp only at hSw); go_simp; try (with_reducible rfl))
      try simp only [Act.put, List.setIfInBounds_toArray, List.set_cons_zero, List.set_cons_succ]
      refine wpAnyH_take (i := 19) (oi := ⟨some 76, _, _, _, _, _⟩) (v := ?_) rfl (by kernel_rfl) (by kernel_rfl) (by kernel_rfl) (fun _ _ _ h => h) (Or.inl ⟨by rfl, ?_⟩) hHeld ?_
      rotate_left
      focus (intro w hSw; (try dsimp only at hSw); go_simp; try (with_reducible rfl))
      try simp only [Act.put, List.setIfInBounds_toArray, List.set_cons_zero, List.set_cons_succ]
      refine wpAnyH_ready (rs := [17]) (by kernel_rfl) (by simp) ?_
      clear hHeld
      refine AllReadyH.cons (o := ⟨some 74, _, _, _, _, _⟩) rfl (fun K hK => ?_) AllReadyH.nil
      go_simp
      go_at_call 15
      refine (F5.out _ hBw8).mono ?_
      rintro e w9 ⟨A9, c9, rfl, hr9, hB9⟩
      have hBw9 : Below wr.heap.size wr w9 := Below.trans hBw8 (hB9.mono hBw8.size)
      have HR9 := Lib.hid hr9
      clear hr9
      clear hB9
      go_wp2_with fail
      refine hK.out _ _ (held4 hbl hc0 hc1 hc2 hc3 hBw9) (fun hHeld => ?_)
      clear hK K
      try simp only [Act.put, List.setIfInBounds_toArray, List.set_cons_zero, List.set_cons_succ]
      refine wpAnyH_ready (rs := [18, 20]) (by kernel_rfl) (by simp) ?_
      clear hHeld
      refine AllReadyH.cons rfl (fun K hK => ?_) (AllReadyH.cons rfl (fun K hK => ?_) AllReadyH.nil)
      · have hcv := CV.out w9 A9 c9 HR9.out
        go_simp
        refine hK.out _ _ (held4 hbl hc0 hc1 hc2 hc3 hBw9) (fun hHeld => ?_)
        clear hK K
        try simp only [Act.put, List.setIfInBounds_toArray, List.set_cons_zero, List.set_cons_succ]
        clear hcv
        refine wpAnyH_ready (rs := [20]) (by kernel_rfl) (by simp) ?_
        clear hHeld
        refine AllReadyH.cons (o := ⟨some 77, _, _, _, _, _⟩) rfl (fun K hK => ?_) AllReadyH.nil
        go_simp
        go_at_call 16
        refine (F6.out _ hBw9).mono ?_
        rintro e w10 ⟨A10, c10, rfl, hr10, hB10⟩
        have hBw10 : Below wr.heap.size wr w10 := Below.trans hBw9 (hB10.mono hBw9.size)
        have HR9' := Lib.hid (RdB.below HR9.out hB10)
        have HR10 := Lib.hid hr10
        clear hr10
        clear hB10
        go_wp2_with fail
        refine hK.out _ _ (held4 hbl hc0 hc1 hc2 hc3 hBw10) (fun hHeld => ?_)
        clear hK K
        try simp only [Act.put, List.setIfInBounds_toArray, List.set_cons_zero, List.set_cons_succ]
        have hcv := CV.out w10 A10 c10 HR10.out
        refine wpAnyH_ready (rs := [21]) (by kernel_rfl) (by simp) ?_
        clear hHeld
        refine AllReadyH.cons (o := ⟨some 78, _, _, _, _, _⟩) rfl (fun K hK => ?_) AllReadyH.nil
        go_simp
        refine hK.out _ _ (held4 hbl hc0 hc1 hc2 hc3 hBw10) (fun hHeld => ?_)
        clear hK K
        try simp only [Act.put, List.setIfInBounds_toArray, List.set_cons_zero, List.set_cons_succ]
        clear hcv
        refine wpAnyH_take (i := 22) (oi := ⟨some 79, _, _, _, _, _⟩) (v := ?_) rfl (by kernel_rfl) (by kernel_rfl) (by kernel_rfl) (fun _ _ _ h => h) (Or.inl ⟨by rfl, ?_⟩) hHeld ?_
        rotate_left
        focus (intro w hSw; (try dsimp only at hSw); go_simp; try (with_reducible rfl))
        try simp only [Act.put, List.setIfInBounds_toArray, List.set_cons_zero, List.set_cons_succ]
        refine wpAnyH_take (i := 23) (oi := ⟨some 80, _, _, _, _, _⟩) (v := ?_) rfl (by kernel_rfl) (by kernel_rfl) (by kernel_rfl) (fun _ _ _ h => h) (Or.inl ⟨by rfl, ?_⟩) hHeld ?_
        rotate_left
        focus (intro w hSw; (try dsimp only at hSw); go_simp; try (with_reducible rfl))
        try simp only [Act.put, List.setIfInBounds_toArray, List.set_cons_zero, List.set_cons_succ]
        refine wpAnyH_take (i := 24) (oi := ⟨some 81, _, _, _, _, _⟩) (v := ?_) rfl (by kernel_rfl) (by kernel_rfl) (by kernel_rfl) (fun _ _ _ h => h) (Or.inl ⟨by rfl, ?_⟩) hHeld ?_
        rotate_left
        focus (intro w hSw; (try dsimp only at hSw); go_simp; try (with_reducible rfl))
        try simp only [Act.put, List.setIfInBounds_toArray, List.set_cons_zero, List.set_cons_succ]
        refine wpAnyH_ready (rs := [25]) (by kernel_rfl) (by simp) ?_
        clear hHeld
        refine AllReadyH.cons (o := ⟨some 82, _, _, _, _, _⟩) rfl (fun K hK => ?_) AllReadyH.nil
        go_simp
        go_at_call 17
        refine (F7.out _ hBw10).mono ?_
        rintro e w11 ⟨rfl, hB11⟩
        have hBw11 : Below wr.heap.size wr w11 := Below.trans hBw10 (hB11.mono hBw10.size)
        clear hB11
        go_wp2_with fail
        refine hK.out _ _ (held4 hbl hc0 hc1 hc2 hc3 hBw11) (fun hHeld => ?_)
        clear hK K
        try simp only [Act.put, List.setIfInBounds_toArray, List.set_cons_zero, List.set_cons_succ]
        refine wpAnyH_take (i := 26) (oi := ⟨some 83, _, _, _, _, _⟩) (v := ?_) rfl (by kernel_rfl) (by kernel_rfl) (by kernel_rfl) (fun _ _ _ h => h) (Or.inl ⟨by rfl, ?_⟩) hHeld ?_
        rotate_left
        focus (intro w hSw; (try dsimp only at hSw); go_simp; try (with_reducible rfl))
        try simp only [Act.put, List.setIfInBounds_toArray, List.set_cons_zero, List.set_cons_succ]
        refine wpAnyH_take (i := 27) (oi := ⟨some 4, _, _, _, _, _⟩) (v := ?_) rfl (by kernel_rfl) (by kernel_rfl) (by kernel_rfl) (fun _ _ _ h => h) (Or.inl ⟨by rfl, ?_⟩) hHeld ?_
        rotate_left
        focus (intro w hSw; (try dsimp only at hSw); go_simp; try (with_reducible rfl))
        try simp only [Act.put, List.setIfInBounds_toArray, List.set_cons_zero, List.set_cons_succ]
        refine wpAnyH_done (by kernel_rfl) ?_ _
        refine NoPanic.normal ?_
        go_wp2
        go_ret
        exact ⟨rfl, hBwr.trans (hBw11.mono hBwr.size)⟩
      · go_simp
        go_at_call 16
        refine (F6.out _ hBw9).mono ?_
        rintro e w10 ⟨A10, c10, rfl, hr10, hB10⟩
        have hBw10 : Below wr.heap.size wr w10 := Below.trans hBw9 (hB10.mono hBw9.size)
        have HR9' := Lib.hid (RdB.below HR9.out hB10)
        have HR10 := Lib.hid hr10
        clear hr10
        clear hB10
        go_wp2_with fail
        refine hK.out _ _ (held4 hbl hc0 hc1 hc2 hc3 hBw10) (fun hHeld => ?_)
        clear hK K
        try simp only [Act.put, List.setIfInBounds_toArray, List.set_cons_zero, List.set_cons_succ]
        refine wpAnyH_ready (rs := [18, 21]) (by kernel_rfl) (by simp) ?_
        clear hHeld
        have hcv := CV.out w10 A9 c9 HR9'.out
        have hcw := CV.out w10 A10 c10 HR10.out
        refine AllReadyH.cons rfl (fun K hK => ?_) (AllReadyH.cons rfl (fun K hK => ?_) AllReadyH.nil)
        · go_simp
          refine hK.out _ _ (held4 hbl hc0 hc1 hc2 hc3 hBw10) (fun hHeld => ?_)
          clear hK K
          try simp only [Act.put, List.setIfInBounds_toArray, List.set_cons_zero, List.set_cons_succ]
          refine wpAnyH_ready (rs := [21]) (by kernel_rfl) (by simp) ?_
          clear hHeld
          refine AllReadyH.cons (o := ⟨some 78, _, _, _, _, _⟩) rfl (fun K hK => ?_) AllReadyH.nil
          go_simp
          refine hK.out _ _ (held4 hbl hc0 hc1 hc2 hc3 hBw10) (fun hHeld => ?_)
          clear hK K
          try simp only [Act.put, List.setIfInBounds_toArray, List.set_cons_zero, List.set_cons_succ]
          clear hcv hcw
          refine wpAnyH_take (i := 22) (oi := ⟨some 79, _, _, _, _, _⟩) (v := ?_) rfl (by kernel_rfl) (by kernel_rfl) (by kernel_rfl) (fun _ _ _ h => h) (Or.inl ⟨by rfl, ?_⟩) hHeld ?_
          rotate_left
          focus (intro w hSw; (try dsimp only at hSw); go_simp; try (with_reducible rfl))
          try simp only [Act.put, List.setIfInBounds_toArray, List.set_cons_zero, List.set_cons_succ]
          refine wpAnyH_take (i := 23) (oi := ⟨some 80, _, _, _, _, _⟩) (v := ?_) rfl (by kernel_rfl) (by kernel_rfl) (by kernel_rfl) (fun _ _ _ h => h) (Or.inl ⟨by rfl, ?_⟩) hHeld ?_
          rotate_left
          focus (intro w hSw; (try dsimp only at hSw); go_simp; try (with_reducible rfl))
          try simp only [Act.put, List.setIfInBounds_toArray, List.set_cons_zero, List.set_cons_succ]
          refine wpAnyH_take (i := 24) (oi := ⟨some 81, _, _, _, _, _⟩) (v := ?_) rfl (by kernel_rfl) (by kernel_rfl) (by kernel_rfl) (fun _ _ _ h => h) (Or.inl ⟨by rfl, ?_⟩) hHeld ?_
          rotate_left
          focus (intro w hSw; (try dsimp only at hSw); go_simp; try (with_reducible rfl))
          try simp only [Act.put, List.setIfInBounds_toArray, List.set_cons_zero, List.set_cons_succ]
          refine wpAnyH_ready (rs := [25]) (by kernel_rfl) (by simp) ?_
          clear hHeld
          refine AllReadyH.cons (o := ⟨some 82, _, _, _, _, _⟩) rfl (fun K hK => ?_) AllReadyH.nil
          go_simp
          go_at_call 17
          refine (F7.out _ hBw10).mono ?_
          rintro e w11 ⟨rfl, hB11⟩
          have hBw11 : Below wr.heap.size wr w11 := Below.trans hBw10 (hB11.mono hBw10.size)
          clear hB11
          go_wp2_with fail
          refine hK.out _ _ (held4 hbl hc0 hc1 hc2 hc3 hBw11) (fun hHeld => ?_)
          clear hK K
          try simp only [Act.put, List.setIfInBounds_toArray, List.set_cons_zero, List.set_cons_succ]
          refine wpAnyH_take (i := 26) (oi := ⟨some 83, _, _, _, _, _⟩) (v := ?_) rfl (by kernel_rfl) (by kernel_rfl) (by kernel_rfl) (fun _ _ _ h => h) (Or.inl ⟨by rfl, ?_⟩) hHeld ?_
          rotate_left
          focus (intro w hSw; (try dsimp only at hSw); go_simp; try (with_reducible rfl))
          try simp only [Act.put, List.setIfInBounds_toArray, List.set_cons_zero, List.set_cons_succ]
          refine wpAnyH_take (i := 27) (oi := ⟨some 4, _, _, _, _, _⟩) (v := ?_) rfl (by kernel_rfl) (by kernel_rfl) (by kernel_rfl) (fun _ _ _ h => h) (Or.inl ⟨by rfl, ?_⟩) hHeld ?_
          rotate_left
          focus (intro w hSw; (try dsimp only at hSw); go_simp; try (with_reducible rfl))
          try simp only [Act.put, List.setIfInBounds_toArray, List.set_cons_zero, List.set_cons_succ]
          refine wpAnyH_done (by kernel_rfl) ?_ _
          refine NoPanic.normal ?_
          go_wp2
          go_ret
          exact ⟨rfl, hBwr.trans (hBw11.mono hBwr.size)⟩
        · go_simp
          refine hK.out _ _ (held4 hbl hc0 hc1 hc2 hc3 hBw10) (fun hHeld => ?_)
          clear hK K
          try simp only [Act.put, List.setIfInBounds_toArray, List.set_cons_zero, List.set_cons_succ]
          refine wpAnyH_ready (rs := [18]) (by kernel_rfl) (by simp) ?_
          clear hHeld
          refine AllReadyH.cons (o := ⟨some 75, _, _, _, _, _⟩) rfl (fun K hK => ?_) AllReadyH.nil
          go_simp
          refine hK.out _ _ (held4 hbl hc0 hc1 hc2 hc3 hBw10) (fun hHeld => ?_)
          clear hK K
          try simp only [Act.put, List.setIfInBounds_toArray, List.set_cons_zero, List.set_cons_succ]
          clear hcv hcw
          refine wpAnyH_take (i := 22) (oi := ⟨some 79, _, _, _, _, _⟩) (v := ?_) rfl (by kernel_rfl) (by kernel_rfl) (by kernel_rfl) (fun _ _ _ h => h) (Or.inl ⟨by rfl, ?_⟩) hHeld ?_
          rotate_left
          focus (intro w hSw; (try dsimp only at hSw); go_simp; try (with_reducible rfl))
          try simp only [Act.put, List.setIfInBounds_toArray, List.set_cons_zero, List.set_cons_succ]
          refine wpAnyH_take (i := 23) (oi := ⟨some 80, _, _, _, _, _⟩) (v := ?_) rfl (by kernel_rfl) (by kernel_rfl) (by kernel_rfl) (fun _ _ _ h => h) (Or.inl ⟨by rfl, ?_⟩) hHeld ?_
          rotate_left
          focus (intro w hSw; (try dsimp only at hSw); go_simp; try (with_reducible rfl))
          try simp only [Act.put, List.setIfInBounds_toArray, List.set_cons_zero, List.set_cons_succ]
          refine wpAnyH_take (i := 24) (oi := ⟨some 81, _, _, _, _, _⟩) (v := ?_) rfl (by kernel_rfl) (by kernel_rfl) (by kernel_rfl) (fun _ _ _ h => h) (Or.inl ⟨by rfl, ?_⟩) hHeld ?_
          rotate_left
          focus (intro w hSw; (try dsimp only at hSw); go_simp; try (with_reducible rfl))
          try simp only [Act.put, List.setIfInBounds_toArray, List.set_cons_zero, List.set_cons_succ]
          refine wpAnyH_ready (rs := [25]) (by kernel_rfl) (by simp) ?_
          clear hHeld
          refine AllReadyH.cons (o := ⟨some 82, _, _, _, _, _⟩) rfl (fun K hK => ?_) AllReadyH.nil
          go_simp
          go_at_call 17
          refine (F7.out _ hBw10).mono ?_
          rintro e w11 ⟨rfl, hB11⟩
          have hBw11 : Below wr.heap.size wr w11 := Below.trans hBw10 (hB11.mono hBw10.size)
          clear hB11
          go_wp2_with fail
          refine hK.out _ _ (held4 hbl hc0 hc1 hc2 hc3 hBw11) (fun hHeld => ?_)
          clear hK K
          try simp only [Act.put, List.setIfInBounds_toArray, List.set_cons_zero, List.set_cons_succ]
          refine wpAnyH_take (i := 26) (oi := ⟨some 83, _, _, _, _, _⟩) (v := ?_) rfl (by kernel_rfl) (by kernel_rfl) (by kernel_rfl) (fun _ _ _ h => h) (Or.inl ⟨by rfl, ?_⟩) hHeld ?_
          rotate_left
          focus (intro w hSw; (try dsimp only at hSw); go_simp; try (with_reducible rfl))
          try simp only [Act.put, List.setIfInBounds_toArray, List.set_cons_zero, List.set_cons_succ]
          refine wpAnyH_take (i := 27) (oi := ⟨some 4, _, _, _, _, _⟩) (v := ?_) rfl (by kernel_rfl) (by kernel_rfl) (by kernel_rfl) (fun _ _ _ h => h) (Or.inl ⟨by rfl, ?_⟩) hHeld ?_
          rotate_left
          focus (intro w hSw; (try dsimp only at hSw); go_simp; try (with_reducible rfl))
          try simp only [Act.put, List.setIfInBounds_toArray, List.set_cons_zero, List.set_cons_succ]
          refine wpAnyH_done (by kernel_rfl) ?_ _
          refine NoPanic.normal ?_
          go_wp2
          go_ret
          exact ⟨rfl, hBwr.trans (hBw11.mono hBwr.size)⟩

end Go.Proofs.Ythchpjfnbcjjbaa
