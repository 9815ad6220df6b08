/-
  usage: each, whatever it hands the contents to; a charge. Conditions: the lists are as they come in.
-/
import Derived.Test.YtnoidcelinaenaaUSM
import Derived.Test.YtnoidcelinaenaaSL
import Derived.Test.YtnoidcelinaenaaAP
import Derived.Test.YtnoidcelinaenaaRF
import Derived.LoopTactic
import Derived.BigQuiet
import Derived.Laws.Cover1
import Derived.Laws.StructEq
import Derived.Deep.QuietTactic
import Derived.Deep.DeepCutAuto
namespace Go.Proofs.Ytnoidcelinaenaa
open Go.ChangeShapes Go.WideShapes Go.ChangeAt Go.RowKit
set_option maxRecDepth 100000

/-- All stays but one block. -/
structure Oth (C : Nat) (W W' : World) : Prop where
  os : W'.os = W.os
  tape : W'.tape = W.tape
  output : W'.output = W.output
  size : W.heap.size ≤ W'.heap.size
  block : ∀ k, k < W.heap.size → k ≠ C → W'.heap[k]? = W.heap[k]?
theorem Oth.refl (C : Nat) (W : World) : Oth C W W := ⟨rfl, rfl, rfl, Nat.le_refl _, fun _ _ _ => rfl⟩
theorem Oth.trans {C : Nat} {X Y Z : World} (h : Oth C X Y) (k : Oth C Y Z) : Oth C X Z :=
  ⟨k.os.trans h.os, k.tape.trans h.tape, k.output.trans h.output, Nat.le_trans h.size k.size, fun i hi hc => (k.block i (Nat.lt_of_lt_of_le hi h.size) hc).trans (h.block i hi hc)⟩
theorem Oth.of {C : Nat} {W W' : World} (h : Below W.heap.size W W') : Oth C W W' := ⟨h.os, h.tape, h.output, h.size, fun k hk _ => h.block k hk⟩
theorem Oth.set (C j : Nat) (W : World) (v : Value) : Oth C W (W.setCell ⟨C, j, none⟩ v) :=
  ⟨rfl, rfl, rfl, by simp, fun k _ hc => Below.heap_setCell W ⟨C, j, none⟩ v k (fun e => hc e)⟩
theorem Oth.below {C B : Nat} {W W' : World} (h : Oth C W W') (hB : B ≤ C) (hw : B ≤ W.heap.size) : Below B W W' := ⟨h.os, h.tape, h.output, h.size, fun k hk => h.block k (by omega) (by omega)⟩
theorem Oth.blk {C g : Nat} {T : TypeId} {vs : List Value} {W W' : World} (h : Oth C W W') (hb : Blk W g T vs) (hg : g ≠ C) : Blk W' g T vs := (h.block g hb.lt hg).trans hb
theorem Oth.own {C base size k : Nat} {e : TypeId} {v : Value} {xs : List Value} {W W' : World} (h : Oth C W W') (ho : W.ownsRow base e size v k xs) (hne : ∀ b, v.ownBlock = some b → b ≠ C) : W'.ownsRow base e size v k xs :=
  ownStay ho fun b hb => h.block b (ho.lt b hb).2 (hne b hb)

/-- A list, as a cell. -/
abbrev slC (s : Sl Bk) : List Value := [s.val]
theorem slC_one (s : Sl Bk) : ∀ u ∈ slC s, u.oneCell' = true := fun u hu => by
  simp only [List.mem_cons, List.not_mem_nil, or_false] at hu
  subst hu
  rfl
set_option maxRecDepth 100000 in
theorem infoLB : (Try.prog.info? 28).map (fun i => (i.zero, i.size, i.bytes)) = some (some (.slice none 0 0), 1, 24) := by kernel_rfl

set_option maxHeartbeats 1000000 in
theorem each_inv (g : Nat) (eg : Enters Try.prog g) (p : Value) (A : Option Addr) (c : Nat) (L : List (Sl Bk)) (hl : L.length ≤ 8796093022208) (Inv : Nat → World → Prop) (w : World) (h0 : Inv 0 w)
    (hr : ∀ k W, k < L.length → Inv k W → Rd W A (L.flatMap slC))
    (hs : ∀ k x W, L[k]? = some x → Inv k W → Calls Try.prog g #[p, x.val] W fun e W' => e = .returned (.tuple #[]) ∧ Inv (k + 1) W') :
    Calls Try.prog 18 #[.func (.func g) #[p] #[], .slice A L.length c] w fun e w' => e = .returned (.tuple #[]) ∧ Inv L.length w' := by
  have eg' : ∀ args w, (callFunc g args).run Try.prog w = .ok (.enter g args) w := eg
  have HR := Lib.hid hr
  have HS := Lib.hid hs
  have H0 := Lib.hid h0
  clear hr hs h0
  go_enter Try.func18, Try.ntmps18
  go_wp2
  go_loopw [8] (fun i W => ∃ k : Nat, k ≤ L.length ∧ i = .int .i64 k ∧ Hid (Inv k W)) (fun i _ => L.length - (intOf i).toNat)
  case atStart => exact ⟨0, Nat.zero_le _, rfl, H0⟩
  case round =>
    obtain ⟨k, hk, rfl, HI⟩ := hrel
    by_cases hlt : k < L.length
    · obtain ⟨x, hx⟩ : ∃ x, L[k]? = some x := ⟨_, List.getElem?_eq_getElem hlt⟩
      obtain ⟨b, off, rfl, hb, hc⟩ := Rd.elem (cells := slC) (n := 1) (fun _ => rfl) (by decide) (HR.out k wr hlt HI.out) hx
      have hc0 := hc 0 _ rfl
      rw [Nat.add_zero, Nat.mul_one] at hc0
      have HC := Lib.hid (HS.out k x wr hx HI.out)
      clear hc HI hx
      go_wp2_with fail
      refine HC.out.mono ?_
      rintro e w1 ⟨rfl, hI1⟩
      have HI1 := Lib.hid hI1
      clear hI1 HC
      go_wp2
      go_roundw
      case rel => exact ⟨k + 1, by omega, by go_num, HI1⟩
      case measure => simp [intOf]; omega
    · obtain rfl : k = L.length := by omega
      go_wp2
      go_end0
      exact ⟨rfl, HI.out⟩

theorem each_none (g : Nat) (eg : Enters Try.prog g) (p : Value) (A : Option Addr) (c : Nat) (w : World) :
    Calls Try.prog 18 #[.func (.func g) #[p] #[], .slice A 0 c] w fun e w' => e = .returned (.tuple #[]) ∧ w' = w :=
  each_inv g eg p A c [] (by decide) (fun _ W => W = w) w rfl (fun k W hk => by simp at hk) (fun k x W hx => by simp at hx)

theorem each_one (g : Nat) (eg : Enters Try.prog g) (p : Value) (A : Option Addr) (c : Nat) (x : Sl Bk) (Q : World → Prop) (w : World) (hr : Rd w A (slC x))
    (hs : Calls Try.prog g #[p, x.val] w fun e W' => e = .returned (.tuple #[]) ∧ Q W') :
    Calls Try.prog 18 #[.func (.func g) #[p] #[], .slice A 1 c] w fun e w' => e = .returned (.tuple #[]) ∧ Q w' :=
  each_inv g eg p A c [x] (by simp) (fun k W => if k = 0 then W = w else Q W) w (by rw [if_pos rfl])
    (fun k W hk hI => by
      have : k = 0 := by simp at hk; exact hk
      subst this
      rw [if_pos rfl] at hI
      subst hI
      simpa using hr)
    (fun k y W hx hI => by
      have : k = 0 := by
        rcases k with _ | k
        · rfl
        · simp at hx
      subst this
      rw [if_pos rfl] at hI
      subst hI
      simp only [List.getElem?_cons_zero, Option.some.injEq] at hx
      subst hx
      simpa using hs)

theorem body_any (A : Option Addr) (c n : Nat) (hn : n ≤ 8796093022208) (w : World) :
    Calls Try.prog 11 #[.slice A n c] w fun e w' => e = .returned (.int .i64 (1 + (n : Int))) ∧ w' = w := by
  have h1 : wrap64 (1 + (n : Int)) = 1 + (n : Int) := IntWalk.wrap64_in _ (by omega)
  go_enter Try.func11, Try.ntmps11
  go_wp2
  go_ret
  exact ⟨rfl, rfl⟩

theorem add_any (B : Nat) (s n : Int) (w : World) (hc : w.cell? ⟨B, 0, none⟩ = some (.int .i64 s)) (hf : w.frozen? ⟨B, 0, none⟩ = false) :
    Calls Try.prog 25 #[.pointer (some ⟨B, 0, none⟩), .int .i64 n] w fun e w' => e = .returned (.tuple #[]) ∧ w' = w.setCell ⟨B, 0, none⟩ (.int .i64 (wrap64 (s + n))) := by
  go_enter Try.func25, Try.ntmps25
  go_wp2
  go_end0
  exact ⟨rfl, rfl⟩

theorem chargeTake_any (C : Nat) (s : Int) (A : Option Addr) (c n : Nat) (hn : n ≤ 8796093022208) (w : World) (h : Blk w C 49 [.int .i64 s]) :
    Calls Try.prog 19 #[.pointer (some ⟨C, 0, none⟩), .slice A n c] w fun e w' => e = .returned (.tuple #[]) ∧ Blk w' C 49 [.int .i64 (wrap64 (s + (1 + (n : Int))))] ∧ Oth C w w' := by
  have HB := Lib.hid (body_any A c n hn)
  have HA := Lib.hid (fun W hc hf => add_any C s (1 + (n : Int)) W hc hf)
  have HK := Lib.hid h
  have c0 := h.cell 0
  have f0 := h.frozen 0
  simp only [List.getElem?_cons_zero] at c0
  clear h
  go_enter Try.func19, Try.ntmps19
  refine wp_region_noPanic ?_
  refine wp_region_last 5 (fun W => W.cell? ⟨C, 0, none⟩ = some (.int .i64 s) ∧ W.frozen? ⟨C, 0, none⟩ = false) (by kernel_rfl) ⟨c0, f0⟩ (fun hHeld => ?_)
  refine wpAnyL_take 12 (i := 0) (oi := ⟨some 4, _, _, _, _, _⟩) (v := ?_) rfl (by kernel_rfl) (by kernel_rfl) (by kernel_rfl) (by kernel_rfl) (by kernel_rfl) (by kernel_rfl) (by kernel_rfl) (fun _ _ _ h => h) (Or.inl ⟨by rfl, ?_⟩) hHeld ?_
  rotate_left
  focus (intro w hSw; (try dsimp only at hSw); go_simp; try (with_reducible rfl))
  try simp only [Act.put, List.setIfInBounds_toArray, List.set_cons_zero, List.set_cons_succ]
  refine wpAnyL_take 12 (i := 1) (oi := ⟨some 5, _, _, _, _, _⟩) (v := ?_) rfl (by kernel_rfl) (by kernel_rfl) (by kernel_rfl) (by kernel_rfl) (by kernel_rfl) (by kernel_rfl) (by kernel_rfl) (fun _ _ _ h => h) (Or.inl ⟨by rfl, ?_⟩) hHeld ?_
  rotate_left
  focus (intro w hSw; (try dsimp only at hSw); go_simp; try (with_reducible rfl))
  try simp only [Act.put, List.setIfInBounds_toArray, List.set_cons_zero, List.set_cons_succ]
  refine wpAnyL_take 12 (i := 2) (oi := ⟨some 6, _, _, _, _, _⟩) (v := ?_) rfl (by kernel_rfl) (by kernel_rfl) (by kernel_rfl) (by kernel_rfl) (by kernel_rfl) (by kernel_rfl) (by kernel_rfl) (fun _ _ _ h => h) (Or.inl ⟨by rfl, ?_⟩) hHeld ?_
  rotate_left
  focus (intro w hSw; (try dsimp only at hSw); go_simp; try (with_reducible rfl))
  try simp only [Act.put, List.setIfInBounds_toArray, List.set_cons_zero, List.set_cons_succ]
  refine wpAnyL_take 12 (i := 3) (oi := ⟨some 7, _, _, _, _, _⟩) (v := ?_) rfl (by kernel_rfl) (by kernel_rfl) (by kernel_rfl) (by kernel_rfl) (by kernel_rfl) (by kernel_rfl) (by kernel_rfl) (fun _ _ _ h => h) (Or.inl ⟨by rfl, ?_⟩) hHeld ?_
  rotate_left
  focus (intro w hSw; (try dsimp only at hSw); go_simp; try (with_reducible rfl))
  try simp only [Act.put, List.setIfInBounds_toArray, List.set_cons_zero, List.set_cons_succ]
  refine wpAnyL_one (i := 4) (o := ⟨some 8, _, _, _, _, _⟩) (by kernel_rfl) rfl (fun K hK => ?_)
  clear hHeld
  go_simp
  refine (HB.out _).mono ?_
  rintro e w5 ⟨rfl, rfl⟩
  go_wp2_with fail
  refine hK.out _ _ ⟨c0, f0⟩ (fun hHeld => ?_)
  clear hK K
  try simp only [Act.put, List.setIfInBounds_toArray, List.set_cons_zero, List.set_cons_succ]
  refine wpAnyL_last (i := 5) (o := ⟨some 9, _, _, _, _, _⟩) (by kernel_rfl) rfl (by kernel_rfl) (fun K hK => ?_)
  clear hHeld
  go_simp
  refine (HA.out w.drew c0 f0).mono ?_
  rintro e w5 ⟨rfl, rfl⟩
  go_wp2_with fail
  refine hK.out _ _ ?_
  clear hK K
  try simp only [Act.put, List.setIfInBounds_toArray, List.set_cons_zero, List.set_cons_succ]
  refine wpAnyL_done (by kernel_rfl) ?_ _
  refine NoPanic.normal ?_
  go_wp2
  go_end0
  refine ⟨rfl, HK.out.drew.set 0 _, ?_⟩
  exact (Oth.of (Below.refl w.heap.size w).drew).trans (Oth.set _ _ _ _)

end Go.Proofs.Ytnoidcelinaenaa
