/-
  blocks: Octets, and the reference's. Conditions: the lists are as they come in.
-/
import Derived.Test.YtkebgfpghjgghaaBLH
import Derived.Test.YtkebgfpghjgghaaTM
import Derived.Test.YtkebgfpghjgghaaRP
namespace Go.Proofs.Ytkebgfpghjgghaa
open Go.ChangeShapes Go.WideShapes Go.ChangeAt Go.RowKit
set_option maxRecDepth 100000

/-- A content's octets. -/
def octK (l : List Bk) : List Int := l.flatMap fun x => put x.1 2 ++ txo x.2
theorem octK_take (l : List Bk) (k : Nat) (x : Bk) (h : l[k]? = some x) : octK (l.take (k + 1)) = octK (l.take k) ++ put x.1 2 ++ txo x.2 := by
  rw [List.take_add_one, h]
  simp [octK, List.append_assoc]
theorem octK_length (l : List Bk) (h : ∀ x ∈ l, x.2.size = 16) : (octK l).length = 18 * l.length := by
  induction l with
  | nil => rfl
  | cons x r ih =>
    have := h x (by simp)
    have := ih fun y hy => h y (by simp [hy])
    simp only [octK, List.flatMap_cons, List.length_append, List.length_cons, put_length, txo_length] at this ⊢
    omega
theorem rdSome {w : World} {A : Option Addr} {n : Int} {m : Nat} (h : RdB w A (put n m)) (hm : 0 < m) : A ≠ none := by
  rintro rfl
  obtain ⟨b, off, e, _⟩ := h (by intro e; have := congrArg List.length e; simp [put_length] at this; omega)
  cases e
theorem oneCell (zs : List Int) : ∀ u ∈ zs.map (Value.int .u8), u.oneCell' = true := by
  intro u hu
  obtain ⟨z, _, rfl⟩ := List.mem_map.1 hu
  rfl
def octR (l : List Bk) : List Int := if okK l then octK l else []

set_option maxHeartbeats 2000000 in
theorem blkOctets_any (A : Option Addr) (c n : Nat) (l : List Bk) (hn : l.length = n) (hl : n ≤ 5864062014805) (hf : ∀ x ∈ l, x.2.size ≤ 140737488351232) (w : World) (hr : Rd w A (bks l)) :
    Calls Try.prog 14 #[.slice A n c] w fun e w' => ∃ v, e = .returned (ansK v (chkK l)) ∧ w'.ownsRow w.heap.size 5 1 v (octR l).length ((octR l).map (Value.int .u8)) ∧ Below w.heap.size w w' := by
  subst hn
  obtain ⟨i0, hi, hz0, hz1, hz2⟩ := info_parts info5
  have HC := Lib.hid (blkCheck_any A c l.length l rfl (by omega) hf w hr)
  by_cases hok : okK l = true
  · have hc0 : chkK l = 0 := by unfold chkK; rw [if_pos hok]
    have hOR : octR l = octK l := by unfold octR; rw [if_pos hok]
    have hln := okK_len hok
    have h16 := fun x hx => (okK_mem hok x hx).2.2
    rw [hc0, hOR]
    rw [hc0] at HC
    clear hc0 hOR hf
    go_enter Try.func14, Try.ntmps14
    go_wp2_with fail
    refine HC.out.mono ?_
    rintro e w2 ⟨rfl, hB2⟩
    clear HC
    go_wp2
    go_loopw [5, 15] (fun v i W => ∃ k : Nat, k ≤ l.length ∧ i = .int .i64 k ∧ Hid (W.ownsRow w.heap.size 5 1 v (octK (l.take k)).length ((octK (l.take k)).map (Value.int .u8))) ∧ Below w.heap.size w W) (fun _ i _ => l.length - (intOf i).toNat)
    case atStart => exact ⟨0, Nat.zero_le _, rfl, Lib.hid ⟨rfl, .inl ⟨rfl, rfl⟩⟩, hB2⟩
    case round =>
      obtain ⟨k, hk, rfl, HO, hB⟩ := hrel
      obtain ⟨Av, cv, hv, _, _⟩ := own_slice HO.out
      subst hv
      by_cases hlt : k < l.length
      · obtain ⟨x, hx⟩ : ∃ x, l[k]? = some x := ⟨l[k], List.getElem?_eq_getElem hlt⟩
        obtain ⟨b, off, rfl, hb, hc0, hc1⟩ := (Rd.below hr hB).bk hx
        have hsz : x.2.size = 16 := h16 x (List.mem_of_getElem? hx)
        have HWS := Lib.hid (octK_take l k x hx)
        have hle : (octK (l.take k)).length ≤ 18432 := by
          rw [octK_length _ (fun y hy => h16 y (List.mem_of_mem_take hy)), List.length_take]
          omega
        obtain ⟨w1, hw1⟩ : ∃ w1, wr.alloc (.cells #[.int .i64 x.1, .string x.2] 58) = w1 := ⟨_, rfl⟩
        have hB1 : Below wr.heap.size wr w1 := hw1 ▸ (Below.refl _ wr).alloc (Nat.le_refl _) _
        have k1 : Blk w1 wr.heap.size 58 [.int .i64 x.1, .string x.2] := hw1 ▸ Blk.new wr _ _
        have x0 := k1.cell 0
        simp only [List.getElem?_cons_zero] at x0
        have HW := Lib.hid hw1
        have HK := Lib.hid k1
        have HO1 := Lib.hid (own_below HO.out hB1 (Nat.le_refl _))
        have hB01 := hB.trans (hB1.mono hB.size)
        clear hx hw1 k1 HO h16
        generalize octK (l.take k) = zk at *
        go_wp2_with fail
        rw [HW.out]
        refine (put_any x.1 2 (by omega) w1).mono ?_
        rintro e w3 ⟨A3, c3, rfl, hr3, hc3, hB3⟩
        have HO3 := Lib.hid (own_below HO1.out hB3 (Nat.le_refl _))
        have hB03 : Below w.heap.size w w3 := hB01.trans (hB3.mono hB01.size)
        have hA3 := rdSome hr3 (by omega)
        have K3 := Lib.hid (HK.out.below hB3 HK.out.lt)
        have hs1 := hB1.size
        have hs03 := hB.size
        have HR3 := Lib.hid hr3
        clear hr3 HO1 HK x0 HW hc0 hc1
        go_wp2_with (first
          | (at_builtin; refine wpList_append_rd rfl _ _ 23 rfl w.heap.size 5 i0 (.int .u8 0) 1 Try.underlying23 hi hz0 hz1 hz2 rfl (.slice Av zk.length cv) zk.length (zk.map (Value.int .u8)) rfl HO3.out A3 2 c3 _ rfl (by rw [List.length_map, put_length]) HR3.out (fun e => absurd e hA3) (oneCell _) (by unfold maxLen; omega) (by omega) hB03.size ?_; intro v4 w4 hown4 hgrow4; have hB4 : Below w.heap.size w w4 := hB03.grown hgrow4 hB03.size (fun j e => (HO3.out.lt j e).1); have K4 := (Blk.cell ((hgrow4.block wr.heap.size K3.out.lt (fun e => blk_apart K3.out HO3.out (by decide) e.symm)).trans K3.out : Blk w4 wr.heap.size 58 _) 1); simp only [List.getElem?_cons_zero, List.getElem?_cons_succ] at K4; obtain ⟨A4, c4, rfl, _, _⟩ := own_slice hown4; have HO4 := Lib.hid hown4; clear hown4 hgrow4)
          | (at_builtin; refine Lib.wpList_append_own_string _ rfl _ _ 23 9 rfl w.heap.size 5 i0 Try.underlying23 Try.underlying9 hi hz0 hz1 hz2 (.slice A4 (zk.length + 2) c4) (zk.length + 2) _ rfl HO4.out x.2 rfl (by unfold maxLen; omega) (by omega) hB4.size ?_; intro v5 w5 hown5 hgrow5 _; have hB5 : Below w.heap.size w w5 := hB4.grown hgrow5 hB4.size (fun j e => (HO4.out.lt j e).1); have HO5 := Lib.hid hown5; clear hown5 hgrow5))
        go_roundw
        case rel =>
          refine ⟨k + 1, by omega, by go_num, Lib.hid ?_, hB5⟩
          have := HO5.out
          rw [txo_cells] at this
          rw [HWS.out]
          simp only [List.map_append, List.length_append, put_length, txo_length]
          exact this
        case measure => simp [intOf]; omega
      · obtain rfl : k = l.length := by omega
        have HO' : Hid (wr.ownsRow w.heap.size 5 1 (.slice Av (octK (l.take l.length)).length cv) (octK l).length ((octK l).map (Value.int .u8))) := Lib.hid (by have := HO.out; rw [List.take_length] at this ⊢; exact this)
        clear HO
        go_wp2
        go_ret2
        exact ⟨_, rfl, HO'.out, hB⟩
  · have hc0 : chkK l = 9 := by unfold chkK; rw [if_neg hok]
    have hOR : octR l = [] := by unfold octR; rw [if_neg hok]
    rw [hc0, hOR]
    rw [hc0] at HC
    clear hc0 hOR hf
    go_enter Try.func14, Try.ntmps14
    go_wp2_with fail
    refine HC.out.mono ?_
    rintro e w2 ⟨rfl, hB2⟩
    go_wp2
    go_ret2
    exact ⟨_, rfl, ⟨rfl, .inl ⟨rfl, rfl⟩⟩, hB2⟩

end Go.Proofs.Ytkebgfpghjgghaa
