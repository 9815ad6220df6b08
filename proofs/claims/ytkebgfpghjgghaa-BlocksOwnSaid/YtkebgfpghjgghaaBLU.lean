/-
  BlocksOwn's walk. No conditions.
-/
import Derived.Test.YtkebgfpghjgghaaBLP
namespace Go.Proofs.Ytkebgfpghjgghaa
open Go.ChangeShapes Go.WideShapes Go.ChangeAt Go.RowKit
set_option maxRecDepth 100000

set_option maxRecDepth 100000 in
set_option maxHeartbeats 4000000 in
theorem owns11_walk (A : Option Addr) (c : Nat) (l : List Bk) (i : Int) (d : ByteArray) (hd : d.size ≤ 140737488351232) (w : World) (h : Came w A c l) :
    Calls Try.prog 7 #[.slice A l.length c, .int .i64 i, .string d] w fun e w' => e = .returned (.bool true) ∧ Below w.heap.size w w' := by
  have H := Lib.hid h
  have hln := h.len
  clear h
  have hP1 := putR_ok l i d
  obtain ⟨P1, p1⟩ : ∃ P, putR l i d = P := ⟨_, rfl⟩
  obtain ⟨E1, e1⟩ : ∃ E, putE l i d.size = E := ⟨_, rfl⟩
  rw [p1] at hP1
  have F0 := Lib.hid (fun W (hW : Below w.heap.size w W) => refOwn_any A c l.length l rfl H.out.by24 H.out.nil W (H.out.below hW).rd)
  have F1 := Lib.hid (fun W B e (h : Came W B e l) => blkPut_any B e l.length l rfl h.len h.sz i d hd W h.rd)
  have F2 := Lib.hid (fun W (hW : Below w.heap.size w W) => (H.out.below hW).refPut i d hd)
  have HP1 := Lib.hid hP1
  rw [p1, e1] at F1 F2
  clear hP1 p1 e1
  have AL := Lib.hid (alive11_any w)
  go_enter Try.func7, Try.ntmps7
  go_wp2_with fail
  refine AL.out.mono ?_
  rintro e w0 ⟨rfl, B0⟩
  go_wp2_with fail
  refine (F0.out w0 B0).mono ?_
  rintro e w1 ⟨v7, rfl, ho7, B1⟩
  obtain ⟨g, hg⟩ : ∃ g, 0 < l.length → ∃ cap, v7 = .slice (some ⟨g, 0, none⟩) l.length cap ∧ w0.heap.size ≤ g ∧ g < w1.heap.size := by
    by_cases h0 : 0 < l.length
    · obtain ⟨g, cap, h1, h2, h3⟩ := ho7.form h0
      exact ⟨g, fun _ => ⟨cap, h1, h2, h3⟩⟩
    · exact ⟨0, fun h => absurd h h0⟩
  obtain ⟨A7, c7, rfl, q7, n7, r7, _⟩ := ownAny ho7
  have HG : Hid (0 < l.length → A7 = some ⟨g, 0, none⟩ ∧ w0.heap.size ≤ g ∧ g < w1.heap.size) := Lib.hid fun h => by
    obtain ⟨cap, e, h1, h2⟩ := hg h
    injection e with e1 e2 e3
    exact ⟨e1, h1, h2⟩
  have B01 := B0.trans (B1.mono B0.size)
  have X7 : Hid (Came w1 A7 c7 l) := Lib.hid ⟨q7, n7, r7.1, H.out.sz, H.out.len, H.out.by24⟩
  have HO7 := Lib.hid (ownBase (base' := w.heap.size) ho7 B0.size)
  clear ho7 hg r7 q7 n7
  go_wp2_with fail
  refine (F1.out w1 A7 c7 X7.out).mono ?_
  rintro e w2 ⟨v8, rfl, ho8, B2⟩
  obtain ⟨A8, c8, rfl, q8, n8, r8, _⟩ := ownAny ho8
  have B02 := B01.trans (B2.mono B01.size)
  have R8 := Lib.hid r8
  clear ho8 r8
  have S1 := Lib.hid ((X7.out.below B2).refSame (H.out.below B02))
  rw [decide_eq_true rfl] at S1
  go_wp2_with fail
  refine S1.out.mono ?_
  rintro e w3 ⟨rfl, B3⟩
  have B23 := B2.trans (B3.mono B2.size)
  have B03 := B02.trans (B3.mono B02.size)
  have HO73 := Lib.hid (ownBelow HO7.out B23 (Nat.le_refl _))
  have R83 := Lib.hid (R8.out.below B3)
  have hs12 := B2.size
  have hs23 := B3.size
  have hs0 := B0.size
  have hs01 := B1.size
  clear S1 F0 F1
  go_wp2
  go_loopw [11] (fun j W => ∃ (k : Nat) (xs : List Value), k ≤ l.length ∧ j = .int .i64 k ∧ Hid (W.ownsRow w.heap.size 58 2 (.slice A7 l.length c7) l.length xs) ∧ Hid (∀ q, (0 < l.length → q ≠ g) → W.heap[q]? = w3.heap[q]?) ∧ W.heap.size = w3.heap.size ∧ Below w.heap.size w W) (fun j _ => l.length - (intOf j).toNat)
  case atStart => exact ⟨0, bks l, Nat.zero_le _, rfl, HO73, Lib.hid fun _ _ => rfl, rfl, B03⟩
  case round =>
    obtain ⟨k, xs, hk, rfl, HO, HK, hsz, hB⟩ := hrel
    by_cases hlt : k < l.length
    · obtain ⟨rfl, hg1, hg2⟩ := HG.out (by omega)
      have hxl : xs.length = l.length * 2 := HO.out.1
      have x0 := HO.out.cellAt (k * 2) (by omega)
      have x1 := HO.out.cellAt (k * 2 + 1) (by omega)
      rw [List.getElem?_eq_getElem (by omega)] at x0 x1
      have f0 := HO.out.frozenAt (k * 2)
      have f1 := HO.out.frozenAt (k * 2 + 1)
      have HO' := Lib.hid ((HO.out.stored (k * 2) (.int .i64 77)).1.stored (k * 2 + 1) (.string ByteArray.empty)).1
      have HK' : Hid (∀ q, (0 < l.length → q ≠ g) → ((wr.setCell ⟨g, k * 2, none⟩ (.int .i64 77)).setCell ⟨g, k * 2 + 1, none⟩ (.string ByteArray.empty)).heap[q]? = w3.heap[q]?) := Lib.hid fun q hq => by
        rw [heap_setCell_other _ _ q _ (show q ≠ g from hq (by omega)), heap_setCell_other _ _ q _ (show q ≠ g from hq (by omega))]
        exact HK.out q hq
      have hB' : Below w.heap.size w ((wr.setCell ⟨g, k * 2, none⟩ (.int .i64 77)).setCell ⟨g, k * 2 + 1, none⟩ (.string ByteArray.empty)) := (hB.setCell (p := ⟨g, k * 2, none⟩) (by show w.heap.size ≤ g; omega) _).setCell (p := ⟨g, k * 2 + 1, none⟩) (by show w.heap.size ≤ g; omega) _
      clear HO HK
      go_wp2
      go_round
      case rel => exact ⟨k + 1, _, by omega, by go_num, HO', HK', by simpa using hsz, hB'⟩
      case measure => simp [intOf]; omega
    · obtain rfl : k = l.length := by omega
      have R8W : Hid (Rd wr A8 (bks P1)) := Lib.hid (by
        refine (R83.out.stays (w' := wr) (by omega) fun q hq hq2 => HK.out q fun h0 e => ?_).1
        subst e
        obtain ⟨_, _, h⟩ := HG.out h0
        omega)
      have X8 := Lib.hid (Came.of_ok HP1.out q8 n8 R8W.out)
      clear HO HK
      go_wp2_with fail
      refine (F2.out wr hB).mono ?_
      rintro e w4 ⟨A9, c9, rfl, q9, n9, r9, B4⟩
      have X9 := Lib.hid (Came.of_ok HP1.out q9 n9 r9)
      go_wp2_with fail
      refine (num11_any E1 w4).mono ?_
      rintro e w4' ⟨rfl, rfl⟩
      have S2 := Lib.hid ((X8.out.below B4).refSame X9.out)
      rw [decide_eq_true rfl] at S2
      clear r9 q9 n9
      go_wp2_with fail
      refine S2.out.mono ?_
      rintro e w5 ⟨rfl, B5⟩
      go_wp2
      go_ret
      exact ⟨rfl, (hB.trans (B4.mono hB.size)).trans (B5.mono (hB.trans (B4.mono hB.size)).size)⟩

end Go.Proofs.Ytkebgfpghjgghaa
