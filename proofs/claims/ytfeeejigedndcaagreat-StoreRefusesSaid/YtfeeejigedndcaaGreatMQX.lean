/-
  Get: a copy of the first object's data by a key. Conditions: the lists are as they come in.
-/
import Derived.Test.YtfeeejigedndcaaGreatMQE
import Derived.Lib.Bytealg
import Derived.Deep.DeepCutAuto
namespace Go.Proofs.YtfeeejigedndcaaGreat
open Go.ChangeShapes Go.WideShapes Go.ChangeAt Go.RowKit
set_option maxRecDepth 100000

theorem str_eq {a b : ByteArray} : (a.toList == b.toList) = true ↔ a = b := by
  rw [beq_iff_eq, Lib.toList_data, Lib.toList_data]
  constructor
  · intro h
    obtain ⟨⟨a⟩⟩ := a
    obtain ⟨⟨b⟩⟩ := b
    simp at h
    rw [h]
  · rintro rfl; rfl

/-- The first object by a key. -/
def findO (os : List Ob) (k : ByteArray) : Option Ob := os.find? fun o => decide (o.key = k)

set_option maxHeartbeats 1000000 in
theorem get_any (s : St) (hf : s.Fits) (k : ByteArray) (w : World) (hL : s.Lies 0 w) :
    Calls Tryz.prog 22 #[s.val, .string k] w fun e w' => Below w.heap.size w w' ∧ ((∃ o v, findO s.os k = some o ∧ e = .returned (.tuple #[v, .bool true]) ∧ w'.ownsRow w.heap.size 5 1 v o.d.zs.length (octCells o.d.zs)) ∨ (findO s.os k = none ∧ e = .returned (.tuple #[.slice none 0 0, .bool false]))) := by
  obtain ⟨R, hR⟩ : ∃ R, findO s.os k = R := ⟨_, rfl⟩
  rw [hR]
  have HF := Lib.hid hf
  have HL := Lib.hid hL
  have HR := Lib.hid hR
  have hn := hf.n
  clear hf hL hR
  obtain ⟨⟨A, ps, c, B, ws, d⟩, ⟨t, f, o⟩, O, os, oc, I, is, ic⟩ := s
  dsimp only [St.val] at *
  obtain ⟨w1, hw1⟩ : ∃ w1, w.alloc (.cells #[.slice A ps.length c, .slice B ws.length d, .int .i64 t, .int .i64 f, .int .i64 o, .slice O os.length oc, .slice I is.length ic] 32) = w1 := ⟨_, rfl⟩
  have kx : Blk w1 w.heap.size 32 [.slice A ps.length c, .slice B ws.length d, .int .i64 t, .int .i64 f, .int .i64 o, .slice O os.length oc, .slice I is.length ic] := hw1 ▸ Blk.new w _ _
  have hB1 : Below w.heap.size w w1 := hw1 ▸ (Below.refl _ w).alloc (Nat.le_refl _) _
  have HL1 := Lib.hid (HL.out.below hB1)
  have hc5 := kx.cell 5
  simp only [List.getElem?_cons_zero, List.getElem?_cons_succ] at hc5
  have HW1 := Lib.hid hw1
  clear kx hw1
  go_enter Tryz.func22, Tryz.ntmps22
  go_upto_region 1 with fail
  rw [HW1.out]
  go_wp2
  go_loopw [11] (fun i W => ∃ j : Nat, j ≤ os.length ∧ i = .int .i64 j ∧ Hid (findO (os.drop j) k = R) ∧ Below w1.heap.size w1 W) (fun i _ => os.length - (intOf i).toNat)
  case atStart => exact ⟨0, Nat.zero_le _, rfl, Lib.hid (by simpa using HR.out), Below.refl _ _⟩
  case round =>
    obtain ⟨j, hj, rfl, HD, hB⟩ := hrel
    have hB0 : Below w.heap.size w wr := hB1.trans (hB.mono hB1.size)
    by_cases hlt : j < os.length
    · obtain ⟨x, hx⟩ : ∃ x, os[j]? = some x := ⟨_, List.getElem?_eq_getElem hlt⟩
      obtain ⟨b, off, rfl, hb, hk0, hk1, hk2⟩ := (HL1.out.arr.below hB).1.ob hx
      have hmem := List.mem_of_getElem? hx
      have hxf := HF.out.os x hmem
      have hxd := hxf.d
      have hxn := hxf.dn
      have HDR : Hid (os.drop j = x :: os.drop (j + 1)) := Lib.hid (dropA _ hx)
      have hrd : RdB w x.d.A x.d.zs := (HL.out.data x hmem).1
      have hB5 : Below w1.heap.size w1 (wr.alloc (.cells #[.string x.key, x.d.val, .slice x.B x.ns.length x.e] 58)) := hB.alloc hB.size _
      have hB05 : Below w.heap.size w (wr.alloc (.cells #[.string x.key, x.d.val, .slice x.B x.ns.length x.e] 58)) := hB0.alloc hB0.size _
      by_cases hcmp : (x.key.toList == k.toList) = true
      · have HRX : Hid (R = some x) := Lib.hid (by
          rw [← HD.out, HDR.out]
          unfold findO
          rw [List.find?_cons_of_pos (by simpa using str_eq.1 hcmp)])
        have HCP := Lib.hid (copyB_any x.d.A x.d.zs.length x.d.c x.d.zs rfl hxn (by omega) _ (hrd.below hB05))
        have hs5 := hB05.size
        clear HD HDR hx hxf hmem hrd
        obtain ⟨key, ⟨dA, dz, dc⟩, oB, ns, oe⟩ := x
        dsimp only at *
        go_wp2_with fail
        refine HCP.out.mono ?_
        rintro e w6 ⟨v, rfl, hown, hB6⟩
        have HO := Lib.hid hown
        have hB06 := hB05.trans (hB6.mono hs5)
        clear hown
        go_wp2
        go_ret2
        exact ⟨hB06, .inl ⟨_, v, HRX.out, rfl, own_base HO.out hs5⟩⟩
      · have HRX : Hid (findO (os.drop (j + 1)) k = R) := Lib.hid (by
          rw [← HD.out, HDR.out]
          unfold findO
          rw [List.find?_cons_of_neg (by simpa using fun h => hcmp (str_eq.2 h))])
        clear HD HDR hx hxf hrd
        go_wp2
        go_round
        case rel => exact ⟨j + 1, by omega, by go_num, HRX, by first | exact hB5 | trivial⟩
        case measure => simp [intOf]; omega
    · obtain rfl : j = os.length := by omega
      have HRN : Hid (R = none) := Lib.hid (by
        rw [← HD.out, List.drop_length]
        rfl)
      clear HD
      go_wp2
      go_ret2
      exact ⟨hB0, .inr ⟨HRN.out, rfl⟩⟩

end Go.Proofs.YtfeeejigedndcaaGreat
