/-
  FletchBack returns true. Conditions: the sum's numbers are from 0 to 2^64 - 1.
-/
import Derived.Test.YthchpjfnbcjjbaaFT
namespace Go.Proofs.Ythchpjfnbcjjbaa
open Go.ChangeShapes Go.WideShapes Go.ChangeAt Go.RowKit

theorem words_put (n : Int) : words (put n 8) = [n / 4294967296 % 4294967296, n % 4294967296] := by
  have h : put n 8 = [n / 72057594037927936 % 256, n / 281474976710656 % 256, n / 1099511627776 % 256, n / 4294967296 % 256, n / 16777216 % 256, n / 65536 % 256, n / 256 % 256, n / 1 % 256] := rfl
  have h2 : words (put n 8) = [word (put n 8), word ((put n 8).drop 4)] := by
    unfold words
    rw [put_length]
    rfl
  rw [h2, h]
  simp only [word, oct, List.drop_succ_cons, List.drop_zero, List.getElem?_cons_zero, List.getElem?_cons_succ, Option.getD_some, List.cons.injEq, and_true]
  omega

theorem sum_back (s : S4) (h : s.ok) : sumW (words (sumOcts s)) = s := by
  obtain ⟨a, b, c, d⟩ := s
  unfold sumOcts
  rw [words_append _ _ 2 (put_length _ _), words_append _ _ 2 (put_length _ _), words_append _ _ 2 (put_length _ _), words_put, words_put, words_put, words_put]
  simp only [S4.ok] at h
  simp only [sumW, oct, List.cons_append, List.nil_append, List.getElem?_cons_zero, List.getElem?_cons_succ, Option.getD_some, S4.mk.injEq]
  omega

set_option maxHeartbeats 1000000 in
theorem back_walk (s : S4) (hs : s.ok) (w : World) :
    Calls Try.prog 4 #[s.val] w fun e w' => e = .returned (.bool true) ∧ Below w.heap.size w w' := by
  have hrd : ∀ (A : Option Addr) (c : Nat) (w : World), 32 ≤ c → RdB w A (sumOcts s) → Calls Try.prog 7 #[.slice A 32 c] w fun e w' => e = .returned (readR s 0) ∧ Below w.heap.size w w' := fun A c w hc hr => by
    have := read_ok A c (sumOcts s) (sumOcts_length s) hc (sumOcts_octs s) w hr
    rw [sum_back s hs] at this
    exact this
  have HRD := Lib.hid hrd
  have hoc := octets_any s hs
  have HOC := Lib.hid hoc
  clear hrd hoc
  go_enter Try.func4, Try.ntmps4
  go_wp2_with fail
  have hB0 : Below w.heap.size w (w.alloc (.cells #[.int .u64 s.A, .int .u64 s.B, .int .u64 s.C, .int .u64 s.D] 24)) := (Below.refl _ w).alloc (Nat.le_refl _) _
  refine (HOC.out _).mono ?_
  rintro e w1 ⟨A, c, rfl, hr, hc, hB1⟩
  have k0 : Blk w1 w.heap.size 24 (scells s) := (Blk.new w (scells s) 24).below hB1 (by simp)
  have hB01 : Below w.heap.size w w1 := hB0.trans (hB1.mono (by simp))
  have HR := Lib.hid hr
  have HK0 := Lib.hid k0
  clear hr k0 hB0 hB1
  go_wp2_with fail
  refine (HRD.out A c w1 hc HR.out).mono ?_
  rintro e w2 ⟨rfl, hB2⟩
  have k2 := HK0.out.below hB2 HK0.out.lt
  have hlt := HK0.out.lt
  have hs2 := hB2.size
  have hB02 : Below w.heap.size w w2 := hB01.trans (hB2.mono hB01.size)
  have c0 := k2.cell 0
  have c1 := k2.cell 1
  have c2 := k2.cell 2
  have c3 := k2.cell 3
  simp only [scells, List.getElem?_cons_zero, List.getElem?_cons_succ] at c0 c1 c2 c3
  have hne : w.heap.size < w2.heap.size := by omega
  clear k2 HK0 HR hB2
  unfold readR
  go_wp2_with (first
    | (go_at_call 11; refine (num_any _ _).mono ?_; rintro e w' ⟨rfl, rfl⟩)
    | (go_at_call 17; refine (alive_any _).mono ?_; rintro e w3 ⟨rfl, hB3⟩))
  go_ret
  refine ⟨rfl, Below.trans ?_ (hB3.mono ?_)⟩
  · (repeat (first | with_reducible exact Below.refl _ _ | with_reducible assumption | with_reducible refine Below.drew ?_ | with_reducible refine Below.alloc ?_ ?_ _ | with_reducible refine Below.setCell ?_ ?_ _ | (focus omega) | (focus (simp; done)) | (focus (simp; omega))))
  · first | omega | (simp; omega)

end Go.Proofs.Ythchpjfnbcjjbaa
