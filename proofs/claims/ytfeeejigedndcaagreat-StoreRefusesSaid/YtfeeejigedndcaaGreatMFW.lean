/-
  A sum's octets: plain words. No conditions.
-/
import Derived.Test.YtfeeejigedndcaaGreatMFM
import Derived.Test.YtfeeejigedndcaaGreatMI
import Derived.Deep.RegionHeld3
namespace Go.Proofs.YtfeeejigedndcaaGreat
open Go.ChangeShapes Go.WideShapes Go.ChangeAt Go.RowKit
set_option maxRecDepth 100000

theorem put_wrap (n : Int) (h0 : 0 ≤ n) (h1 : n < 18446744073709551616) : put (wrap64 n) 8 = put n 8 := by
  have hw : wrap64 n = n ∨ wrap64 n = n - 18446744073709551616 := by
    unfold wrap64
    omega
  rcases hw with hw | hw
  · rw [hw]
  · rw [hw]
    simp only [put, List.range, List.range.loop, List.map_cons, List.map_nil]
    simp only [List.cons.injEq, and_true]
    refine ⟨?_, ?_, ?_, ?_, ?_, ?_, ?_, ?_⟩ <;> omega

/-- A sum's octets. -/
def sumOcts (s : S4) : List Int := put s.A 8 ++ (put s.B 8 ++ (put s.C 8 ++ put s.D 8))
theorem sumOcts_length (s : S4) : (sumOcts s).length = 32 := by simp [sumOcts, put_length]
theorem sumOcts_octs (s : S4) : Octs (sumOcts s) := (put_octs _ _).append ((put_octs _ _).append ((put_octs _ _).append (put_octs _ _)))

end Go.Proofs.YtfeeejigedndcaaGreat

namespace Go.Proofs.YtfeeejigedndcaaGreat
open Go.ChangeShapes Go.WideShapes Go.ChangeAt Go.RowKit
set_option maxRecDepth 100000

set_option maxHeartbeats 400000 in
theorem partOctets_any (n : Int) (h0 : 0 ≤ n) (h1 : n < 18446744073709551616) (w : World) :
    Calls Tryz.prog 123 #[.int .u64 n] w fun e w' => ∃ A c, e = .returned (.slice A 8 c) ∧ RdB w' A (put n 8) ∧ 8 ≤ c ∧ Below w.heap.size w w' := by
  have hp := put_wrap n h0 h1
  have HP := Lib.hid hp
  clear hp
  go_enter Tryz.func123, Tryz.ntmps123
  go_wp2_with fail
  have hc := put_any (wrap64 n) 8 (by omega) w
  rw [HP.out] at hc
  refine hc.mono ?_
  rintro e w1 ⟨A, c, rfl, hr, h8, hB⟩
  clear hc
  have HR := Lib.hid hr
  clear hr
  go_wp2
  go_ret
  exact ⟨A, c, rfl, HR.out, h8, hB⟩

theorem join4 (A B C D : Option Addr) (za zb zc zd : List Int) (la : za.length = 8) (lb : zb.length = 8) (lc : zc.length = 8) (ld : zd.length = 8) (ca cb cc cd g : Nat) (w : World)
    (ha : w.cell? ⟨g, 0, none⟩ = some (.slice A 8 ca)) (hb : w.cell? ⟨g, 1, none⟩ = some (.slice B 8 cb)) (hc : w.cell? ⟨g, 2, none⟩ = some (.slice C 8 cc)) (hd : w.cell? ⟨g, 3, none⟩ = some (.slice D 8 cd))
    (ra : RdB w A za) (rb : RdB w B zb) (rc : RdB w C zc) (rd : RdB w D zd) :
    Calls Tryz.prog 103 #[.slice (some ⟨g, 0, none⟩) 4 4] w fun e w' => ∃ v, e = .returned v ∧ w'.ownsRow w.heap.size 5 1 v 32 (octCells (za ++ (zb ++ (zc ++ zd)))) ∧ Below w.heap.size w w' := by
  have hcat : cat [⟨A, za, ca⟩, ⟨B, zb, cb⟩, ⟨C, zc, cc⟩, ⟨D, zd, cd⟩] = za ++ (zb ++ (zc ++ zd)) := by simp [cat]
  have := callsIn_wide.1 (join_in (some ⟨g, 0, none⟩) 4 [⟨A, za, ca⟩, ⟨B, zb, cb⟩, ⟨C, zc, cc⟩, ⟨D, zd, cd⟩] (by simp) w (fun _ => ⟨g, 0, rfl, ?_, fun j u hu => ?_⟩) (fun p hp => ?_))
  · rw [hcat] at this
    rw [show (za ++ (zb ++ (zc ++ zd))).length = 32 by simp [la, lb, lc, ld]] at this
    exact this
  · rcases Nat.lt_or_ge g w.heap.size with h | h
    · exact h
    · simp [World.cell?, Array.getElem?_eq_none h] at ha
  · rcases j with _ | _ | _ | _ | j
    · simp at hu
      subst hu
      show w.cell? ⟨g, 0, none⟩ = some (.slice A za.length ca)
      rw [la]
      exact ha
    · simp at hu
      subst hu
      show w.cell? ⟨g, 1, none⟩ = some (.slice B zb.length cb)
      rw [lb]
      exact hb
    · simp at hu
      subst hu
      show w.cell? ⟨g, 2, none⟩ = some (.slice C zc.length cc)
      rw [lc]
      exact hc
    · simp at hu
      subst hu
      show w.cell? ⟨g, 3, none⟩ = some (.slice D zd.length cd)
      rw [ld]
      exact hd
    · simp at hu
  · simp at hp
    rcases hp with rfl | rfl | rfl | rfl
    · exact ⟨ra, by simp [la]⟩
    · exact ⟨rb, by simp [lb]⟩
    · exact ⟨rc, by simp [lc]⟩
    · exact ⟨rd, by simp [ld]⟩

set_option maxHeartbeats 1000000 in
theorem octets_any (s : S4) (hs : s.ok) (w : World) :
    Calls Tryz.prog 105 #[s.val] w fun e w' => ∃ A c, e = .returned (.slice A 32 c) ∧ RdB w' A (sumOcts s) ∧ 32 ≤ c ∧ Below w.heap.size w w' := by
  obtain ⟨⟨a0, a1⟩, ⟨b0, b1⟩, ⟨c0, c1⟩, ⟨d0, d1⟩⟩ := hs
  have pA := partOctets_any s.A a0 a1
  have pB := partOctets_any s.B b0 b1
  have pC := partOctets_any s.C c0 c1
  have pD := partOctets_any s.D d0 d1
  have PA := Lib.hid pA
  have PB := Lib.hid pB
  have PC := Lib.hid pC
  have PD := Lib.hid pD
  clear pA pB pC pD a0 a1 b0 b1 c0 c1 d0 d1
  go_enter Tryz.func105, Tryz.ntmps105
  go_wp2_with fail
  obtain ⟨w0, hw0⟩ : ∃ w0, w.alloc (.cells #[.int .u64 s.A, .int .u64 s.B, .int .u64 s.C, .int .u64 s.D] 129) = w0 := ⟨_, rfl⟩
  have hB0 : Below w.heap.size w w0 := hw0 ▸ (Below.refl _ w).alloc (Nat.le_refl _) _
  have kb : Blk w0 w.heap.size 129 (scells s) := hw0 ▸ Blk.new w (scells s) 129
  rw [hw0]
  have hc0 := kb.cell 0
  have hc1 := kb.cell 1
  have hc2 := kb.cell 2
  have hc3 := kb.cell 3
  have hbl := kb.lt
  simp only [scells, List.getElem?_cons_zero, List.getElem?_cons_succ] at hc0 hc1 hc2 hc3
  have hBr : Below w0.heap.size w0 w0 := Below.refl _ _
  clear hw0 kb
  go_region_held3 (fun w' => w'.cell? ⟨w.heap.size, 0, none⟩ = some (.int .u64 s.A) ∧ w'.cell? ⟨w.heap.size, 1, none⟩ = some (.int .u64 s.B) ∧ w'.cell? ⟨w.heap.size, 2, none⟩ = some (.int .u64 s.C) ∧ w'.cell? ⟨w.heap.size, 3, none⟩ = some (.int .u64 s.D) ∧ Below w0.heap.size w0 w')
    (first | exact held4 hbl hc0 hc1 hc2 hc3 (by (repeat (first | with_reducible exact Below.refl _ _ | with_reducible assumption | with_reducible refine Below.drew ?_ | with_reducible refine Below.alloc ?_ ?_ _ | with_reducible refine Below.setCell ?_ ?_ _ | (focus omega) | (focus (simp; done)) | (focus (simp; omega))))))
    (first
      | (go_at_call_of 123 (Value.int .u64 s.A); ((with_reducible refine (PA.out _).mono ?_); rintro e w1 ⟨A1, n1, rfl, hr1, hn1, hB1⟩; have HB1 := Lib.hid hB1; have hBw1 : Below w0.heap.size w0 w1 := hBr.drew.trans hB1; have hs1 := hBw1.size; have HR1 := Lib.hid hr1; clear hr1 hB1))
      | (go_at_call_of 123 (Value.int .u64 s.B); ((with_reducible refine (PB.out _).mono ?_); rintro e w2 ⟨A2, n2, rfl, hr2, hn2, hB2⟩; have HB2 := Lib.hid hB2; have hBw2 : Below w0.heap.size w0 w2 := hBw1.trans (hB2.mono hBw1.size); have hs2 := hBw2.size; have HR2 := Lib.hid hr2; clear hr2 hB2))
      | (go_at_call_of 123 (Value.int .u64 s.C); ((with_reducible refine (PC.out _).mono ?_); rintro e w3 ⟨A3, n3, rfl, hr3, hn3, hB3⟩; have HB3 := Lib.hid hB3; have hBw3 : Below w0.heap.size w0 w3 := hBw2.trans (hB3.mono hBw2.size); have hs3 := hBw3.size; have HR3 := Lib.hid hr3; clear hr3 hB3))
      | (go_at_call_of 123 (Value.int .u64 s.D); ((with_reducible refine (PD.out _).mono ?_); rintro e w4 ⟨A4, n4, rfl, hr4, hn4, hB4⟩; have HB4 := Lib.hid hB4; have hBw4 : Below w0.heap.size w0 w4 := hBw3.trans (hB4.mono hBw3.size); have hs4 := hBw4.size; have HR4 := Lib.hid hr4; clear hr4 hB4))
      | (go_at_call 103; ((with_reducible refine (join4 A1 A2 A3 A4 (put s.A 8) (put s.B 8) (put s.C 8) (put s.D 8) (put_length _ _) (put_length _ _) (put_length _ _) (put_length _ _) n1 n2 n3 n4 w4.heap.size _ ?_ ?_ ?_ ?_ ?_ ?_ ?_ ?_).mono ?_); (focus (go_simp; done)); (focus (go_simp; done)); (focus (go_simp; done)); (focus (go_simp; done)); (focus exact RdB.below (RdB.below (RdB.below (RdB.below HR1.out HB2.out) HB3.out) HB4.out) ((Below.refl _ _).alloc (Nat.le_refl _) _)); (focus exact RdB.below (RdB.below (RdB.below HR2.out HB3.out) HB4.out) ((Below.refl _ _).alloc (Nat.le_refl _) _)); (focus exact RdB.below (RdB.below HR3.out HB4.out) ((Below.refl _ _).alloc (Nat.le_refl _) _)); (focus exact RdB.below HR4.out ((Below.refl _ _).alloc (Nat.le_refl _) _)); rintro e w5 ⟨v5, rfl, hown5, hB5⟩; have hBw5 : Below w0.heap.size w0 w5 := (hBw4.alloc hs4 _).trans (hB5.mono (by simp; omega)); have HO5 := Lib.hid hown5; clear hown5 hB5)))
  obtain ⟨A5, c5, rfl, hc5, hr5⟩ := own_slice HO5.out
  have HR5 := Lib.hid hr5
  clear hr5 HO5
  go_wp2
  go_ret
  exact ⟨A5, c5, rfl, HR5.out, hc5, hB0.trans (hBw5.mono hB0.size)⟩

end Go.Proofs.YtfeeejigedndcaaGreat
