/-
  A sum's octets: plain words. No conditions.
-/
import Derived.Test.YtmehjmkakkiedaaGreatMFM
import Derived.Test.YtmehjmkakkiedaaGreatMI
import Derived.Deep.RegionHeld3
namespace Go.Proofs.YtmehjmkakkiedaaGreat
open Go.ChangeShapes Go.WideShapes Go.ChangeAt Go.RowKit
set_option maxRecDepth 100000

theorem put_wrap (n : Int) (h0 : 0 ≤ n) (h1 : n < 18446744073709551616) : put (wrap64 n) 8 = put n 8 := by
  have hw : wrap64 n = n ∨ wrap64 n = n - 18446744073709551616 := by
    unfold wrap64
    omega
  rcases hw with hw | hw
  · rw [hw]
  · rw [hw]
    simp only [put, List.range, List.range.loop, List.map_cons, List.map_nil]
    simp only [List.cons.injEq, and_true]
    refine ⟨?_, ?_, ?_, ?_, ?_, ?_, ?_, ?_⟩ <;> omega

/-- A sum's octets. -/
def sumOcts (s : S4) : List Int := put s.A 8 ++ (put s.B 8 ++ (put s.C 8 ++ put s.D 8))
theorem sumOcts_length (s : S4) : (sumOcts s).length = 32 := by simp [sumOcts, put_length]
theorem sumOcts_octs (s : S4) : Octs (sumOcts s) := (put_octs _ _).append ((put_octs _ _).append ((put_octs _ _).append (put_octs _ _)))

end Go.Proofs.YtmehjmkakkiedaaGreat

namespace Go.Proofs.YtmehjmkakkiedaaGreat
open Go.ChangeShapes Go.WideShapes Go.ChangeAt Go.RowKit
set_option maxRecDepth 100000

set_option maxHeartbeats 400000 in
theorem partOctets_any (n : Int) (h0 : 0 ≤ n) (h1 : n < 18446744073709551616) (w : World) :
    Calls Tryz.prog 123 #[.int .u64 n] w fun e w' => ∃ A c, e = .returned (.slice A 8 c) ∧ RdB w' A (put n 8) ∧ 8 ≤ c ∧ Below w.heap.size w w' := by
  have hp := put_wrap n h0 h1
  have HP := Lib.hid hp
  clear hp
  go_enter Tryz.func123, Tryz.ntmps123
  go_wp2_with fail
  have hc := put_any (wrap64 n) 8 (by omega) w
  rw [HP.out] at hc
  refine hc.mono ?_
  rintro e w1 ⟨A, c, rfl, hr, h8, hB⟩
  clear hc
  have HR := Lib.hid hr
  clear hr
  go_wp2
  go_ret
  exact ⟨A, c, rfl, HR.out, h8, hB⟩

theorem join4 (A B C D : Option Addr) (za zb zc zd : List Int) (la : za.length = 8) (lb : zb.length = 8) (lc : zc.length = 8) (ld : zd.length = 8) (ca cb cc cd g : Nat) (w : World)
    (ha : w.cell? ⟨g, 0, none⟩ = some (.slice A 8 ca)) (hb : w.cell? ⟨g, 1, none⟩ = some (.slice B 8 cb)) (hc : w.cell? ⟨g, 2, none⟩ = some (.slice C 8 cc)) (hd : w.cell? ⟨g, 3, none⟩ = some (.slice D 8 cd))
    (ra : RdB w A za) (rb : RdB w B zb) (rc : RdB w C zc) (rd : RdB w D zd) :
    Calls Tryz.prog 103 #[.slice (some ⟨g, 0, none⟩) 4 4] w fun e w' => ∃ v, e = .returned v ∧ w'.ownsRow w.heap.size 5 1 v 32 (octCells (za ++ (zb ++ (zc ++ zd)))) ∧ Below w.heap.size w w' := by
  have hcat : cat [⟨A, za, ca⟩, ⟨B, zb, cb⟩, ⟨C, zc, cc⟩, ⟨D, zd, cd⟩] = za ++ (zb ++ (zc ++ zd)) := by simp [cat]
  have := callsIn_wide.1 (join_in (some ⟨g, 0, none⟩) 4 [⟨A, za, ca⟩, ⟨B, zb, cb⟩, ⟨C, zc, cc⟩, ⟨D, zd, cd⟩] (by simp) w (fun _ => ⟨g, 0, rfl, ?_, fun j u hu => ?_⟩) (fun p hp => ?_))
  · rw [hcat] at this
    rw [show (za ++ (zb ++ (zc ++ zd))).length = 32 by simp [la, lb, lc, ld]] at this
    exact this
  · rcases Nat.lt_or_ge g w.heap.size with h | h
    · exact h
    · simp [World.cell?, Array.getElem?_eq_none h] at ha
  · rcases j with _ | _ | _ | _ | j
    · simp at hu
      subst hu
      show w.cell? ⟨g, 0, none⟩ = some (.slice A za.length ca)
      rw [la]
      exact ha
    · simp at hu
      subst hu
      show w.cell? ⟨g, 1, none⟩ = some (.slice B zb.length cb)
      rw [lb]
      exact hb
    · simp at hu
      subst hu
      show w.cell? ⟨g, 2, none⟩ = some (.slice C zc.length cc)
      rw [lc]
      exact hc
    · simp at hu
      subst hu
      show w.cell? ⟨g, 3, none⟩ = some (.slice D zd.length cd)
      rw [ld]
      exact hd
    · simp at hu
  · simp at hp
    rcases hp with rfl | rfl | rfl | rfl
    · exact ⟨ra, by simp [la]⟩
    · exact ⟨rb, by simp [lb]⟩
    · exact ⟨rc, by simp [lc]⟩
    · exact ⟨rd, by simp [ld]⟩

set_option maxHeartbeats 1000000 in
theorem octets_any (s : S4) (hs : s.ok) (w : World) :
    Calls Tryz.prog 105 #[s.val] w fun e w' => ∃ A c, e = .returned (.slice A 32 c) ∧ RdB w' A (sumOcts s) ∧ 32 ≤ c ∧ Below w.heap.size w w' := by
  obtain ⟨⟨a0, a1⟩, ⟨b0, b1⟩, ⟨c0, c1⟩, ⟨d0, d1⟩⟩ := hs
  have pA := partOctets_any s.A a0 a1
  have pB := partOctets_any s.B b0 b1
  have pC := partOctets_any s.C c0 c1
  have pD := partOctets_any s.D d0 d1
  have PA := Lib.hid pA
  have PB := Lib.hid pB
  have PC := Lib.hid pC
  have PD := Lib.hid pD
  clear pA pB pC pD a0 a1 b0 b1 c0 c1 d0 d1
  go_enter Tryz.func105, Tryz.ntmps105
  go_wp2_with fail
  obtain ⟨w0, hw0⟩ : ∃ w0, w.alloc (.cells #[.int .u64 s.A, .int .u64 s.B, .int .u64 s.C, .int .u64 s.D] 129) = w0 := ⟨_, rfl⟩
  have hB0 : Below w.heap.size w w0 := hw0 ▸ (Below.refl _ w).alloc (Nat.le_refl _) _
  have kb : Blk w0 w.heap.size 129 (scells s) := hw0 ▸ Blk.new w (scells s) 129
  rw [hw0]
  have hc0 := kb.cell 0
  have hc1 := kb.cell 1
  have hc2 := kb.cell 2
  have hc3 := kb.cell 3
  have hbl := kb.lt
  simp only [scells, List.getElem?_cons_zero, List.getElem?_cons_succ] at hc0 hc1 hc2 hc3
  have hBr : Below w0.heap.size w0 w0 := Below.refl _ _
  clear hw0 kb
  go_region_held3 (fun w' => w'.cell? ⟨w.heap.size, 0, none⟩ = some (.int .u64 s.A) ∧ w'.cell? ⟨w.heap.size, 1, none⟩ = some (.int .u64 s.B) ∧ w'.cell? ⟨w.heap.size, 2, none⟩ = some (.int .u64 s.C) ∧ w'.cell? ⟨w.heap.size, 3, none⟩ = some (.int .u64 s.D) ∧ Below w0.heap.size w0 w')
    (first | exact held4 hbl hc0 hc1 hc2 hc3 (by (repeat (first | with_reducible exact Below.refl _ _ | with_reducible assumption | with_reducible refine Below.drew ?_ | with_reducible refine Below.alloc ?_ ?_ _ | with_reducible refine Below.setCell ?_ ?_ _ | (focus omega) | (focus (simp; done)) | (focus (simp; omega))))))
    (first
      | (go_at_call_of 123 (Value.int .u64 s.A); ((with_reducible refine (PA.out _).mono ?_); rintro e w1 ⟨A1, n1, rfl, hr1, hn1, hB1⟩; have HB1 := Lib.hid hB1; have hBw1 : Below w0.heap.size w0 w1 := hBr.drew.trans hB1; have hs1 := hBw1.size; have HR1 := Lib.hid hr1; clear hr1 hB1))
      | (go_at_call_of 123 (Value.int .u64 s.B); ((with_reducible refine (PB.out _).mono ?_); rintro e w2 ⟨A2, n2, rfl, hr2, hn2, hB2⟩; have HB2 := Lib.hid hB2; have hBw2 : Below w0.heap.size w0 w2 := hBw1.trans (hB2.mono hBw1.size); have hs2 := hBw2.size; have HR2 := Lib.hid hr2; clear hr2 hB2))
      | (go_at_call_of 123 (Value.int .u64 s.C); ((with_reducible refine (PC.out _).mono ?_); rintro e w3 ⟨A3, n3, rfl, hr3, hn3, hB3⟩; have HB3 := Lib.hid hB3; have hBw3 : Below w0.heap.size w0 w3 := hBw2.trans (hB3.mono hBw2.size); have hs3 := hBw3.size; have HR3 := Lib.hid hr3; clear hr3 hB3))
      | (go_at_call_of 123 (Value.int .u64 s.D); ((with_reducible refine (PD.out _).mono ?_); rintro e w4 ⟨A4, n4, rfl, hr4, hn4, hB4⟩; have HB4 := Lib.hid hB4; have hBw4 : Below w0.heap.size w0 w4 := hBw3.trans (hB4.mono hBw3.size); have hs4 := hBw4.size; have HR4 := Lib.hid hr4; clear hr4 hB4))
      | (go_at_call 103; ((with_reducible refine (join4 A1 A2 A3 A4 (put s.A 8) (put s.B 8) (put s.C 8) (put s.D 8) (put_length _ _) (put_length _ _) (put_length _ _) (put_length _ _) n1 n2 n3 n4 w4.heap.size _ ?_ ?_ ?_ ?_ ?_ ?_ ?_ ?_).mono ?_); (focus (go_simp; done)); (focus (go_simp; done)); (focus (go_simp; done)); (focus (go_simp; done)); (focus exact RdB.below (RdB.below (RdB.below (RdB.below HR1.out HB2.out) HB3.out) HB4.out) ((Below.refl _ _).alloc (Nat.le_refl _) _)); (focus exact RdB.below (RdB.below (RdB.below HR2.out HB3.out) HB4.out) ((Below.refl _ _).alloc (Nat.le_refl _) _)); (focus exact RdB.below (RdB.below HR3.out HB4.out) ((Below.refl _ _).alloc (Nat.le_refl _) _)); (focus exact RdB.below HR4.out ((Below.refl _ _).alloc (Nat.le_refl _) _)); rintro e w5 ⟨v5, rfl, hown5, hB5⟩; have hBw5 : Below w0.heap.size w0 w5 := (hBw4.alloc hs4 _).trans (hB5.mono (by simp; omega)); have HO5 := Lib.hid hown5; clear hown5 hB5)))
  obtain ⟨A5, c5, rfl, hc5, hr5⟩ := own_slice HO5.out
  have HR5 := Lib.hid hr5
  clear hr5 HO5
  go_wp2
  go_ret
  exact ⟨A5, c5, rfl, HR5.out, hc5, hB0.trans (hBw5.mono hB0.size)⟩

end Go.Proofs.YtmehjmkakkiedaaGreat

namespace Go.Proofs.YtmehjmkakkiedaaGreat
open Go.ChangeShapes Go.WideShapes Go.ChangeAt Go.RowKit
set_option maxRecDepth 100000

theorem put_take (n : Int) (k : Nat) (hk : k < 8) : octCells ((put n 8).take k) ++ [.int .u8 (n / 2 ^ (8 * (7 - k)) % 256)] = octCells ((put n 8).take (k + 1)) := by
  have hl : k < (put n 8).length := by rw [put_length]; exact hk
  rw [List.take_succ_eq_append_getElem hl]
  have e : (put n 8)[k] = n / 2 ^ (8 * (7 - k)) % 256 := by
    simp only [put, List.getElem_map, List.getElem_range]
    have h : k = 0 ∨ k = 1 ∨ k = 2 ∨ k = 3 ∨ k = 4 ∨ k = 5 ∨ k = 6 ∨ k = 7 := by omega
    rcases h with rfl | rfl | rfl | rfl | rfl | rfl | rfl | rfl <;> rfl
  rw [e]
  simp [octCells]

set_option maxHeartbeats 1000000 in
theorem eight_any (n : Int) (w : World) :
    Calls Tryz.prog 91 #[.int .u64 n] w fun e w' => ∃ v, e = .returned v ∧ w'.ownsRow w.heap.size 5 1 v 8 (octCells (put n 8)) ∧ Below w.heap.size w w' := by
  obtain ⟨i0, hi, hz0, hz1, hz2⟩ := info_parts info5
  go_enter Tryz.func91, Tryz.ntmps91
  go_wp2
  go_loopw [3, 4] (fun v i wr => ∃ k : Nat, k ≤ 8 ∧ i = .int .i64 (7 - k) ∧ wr.ownsRow w.heap.size 5 1 v k (octCells ((put n 8).take k)) ∧ Below w.heap.size w wr) (fun _ i _ => (intOf i + 1).toNat)
  case atStart => exact ⟨0, by omega, congrArg (Value.int .i64) (by omega), ⟨rfl, .inl ⟨rfl, rfl⟩⟩, Below.refl _ w⟩
  case round =>
    obtain ⟨k, hk, rfl, hown, hB⟩ := hrel
    by_cases hlt : k < 8
    · have hp := put_take n k hlt
      have HP := Lib.hid hp
      have HO := Lib.hid hown
      clear hp hown
      generalize octCells ((put n 8).take k) = cs at *
      go_wp2_with (at_builtin; refine wpList_append_own _ rfl _ _ 46 rfl w.heap.size 5 i0 (.int .u8 0) 1 1 Tryz.underlying46 hi hz0 hz1 hz2 rfl (by decide) _ k cs rfl (by exact HO.out.alloc _) ⟨wr.heap.size, 0, none⟩ 1 1 [.int .u8 (n / 2 ^ (8 * (7 - k)) % 256)] rfl rfl (by exact cell_one_new _ _ _) (by simp [Value.oneCell']) (by unfold maxLen; omega) (by omega) (by have := hB.size; simp; omega) ?_; intro v2 w2 hown2 hgrow2 _)
      have hB2 : Below w.heap.size w w2 := (hB.alloc hB.size _).grown hgrow2 (by have := hB.size; simp; omega) (fun j e => (HO.out.lt j e).1)
      clear hgrow2
      rw [HP.out] at hown2
      go_roundw
      case rel => exact ⟨k + 1, by omega, congrArg (Value.int .i64) (by omega), hown2, hB2⟩
      case measure => simp [intOf]; omega
    · obtain rfl : k = 8 := by omega
      have HO := Lib.hid hown
      clear hown
      go_wp2
      go_ret
      refine ⟨_, rfl, ?_, hB⟩
      have := HO.out
      rw [List.take_of_length_le (by rw [put_length]; omega)] at this
      exact this

theorem eight_at (n : Int) (w0 W : World) (hW : Below w0.heap.size w0 W) :
    Calls Tryz.prog 91 #[.int .u64 n] W fun e w' => ∃ g c, e = .returned (.slice (some ⟨g, 0, none⟩) 8 c) ∧ w'.ownsRow w0.heap.size 5 1 (.slice (some ⟨g, 0, none⟩) 8 c) 8 (octCells (put n 8)) ∧ w0.heap.size ≤ g ∧ W.heap.size ≤ g ∧ g < w'.heap.size ∧ Below W.heap.size W w' := by
  refine (eight_any n W).mono ?_
  rintro e w' ⟨v, rfl, hown, hB⟩
  obtain ⟨g, c, rfl, hg, hlt⟩ := hown.form (by omega)
  exact ⟨g, c, rfl, own_below hown (Below.refl _ _) hW.size, Nat.le_trans hW.size hg, hg, hlt, hB⟩

theorem own_kept {W W' : World} {base g g' n c : Nat} {e : TypeId} {xs : List Value} (h : W.ownsRow base e 1 (.slice (some ⟨g, 0, none⟩) n c) n xs) (hg : W.grownBy W' (some g')) (hne : g ≠ g') : W'.ownsRow base e 1 (.slice (some ⟨g, 0, none⟩) n c) n xs :=
  h.kept hg (.inr (by simp [Value.ownBlock]; omega))
theorem own_news {W : World} {base g n c : Nat} {e : TypeId} {xs : List Value} (h : W.ownsRow base e 1 (.slice (some ⟨g, 0, none⟩) n c) n xs) : ∀ j u, xs[j]? = some u → W.cell? ((⟨g, 0, none⟩ : Addr).add j) = some u :=
  fun j u hu => h.cells (g := g) rfl j u hu
theorem grown_of {W W' : World} {g n c : Nat} (h : W.grownBy W' (Value.slice (some ⟨g, 0, none⟩) n c).ownBlock) : W.grownBy W' (some g) := h
theorem own_ge {W : World} {base g n c : Nat} {e : TypeId} {xs : List Value} (h : W.ownsRow base e 1 (.slice (some ⟨g, 0, none⟩) n c) n xs) : base ≤ g := (h.lt g rfl).1

set_option maxHeartbeats 4000000 in
theorem sumOctets_cap (s : S4) (w : World) :
    Calls Tryz.prog 65 #[s.val] w fun e w' => ∃ A c, e = .returned (.slice A 32 c) ∧ 32 ≤ c ∧ RdB w' A (sumOcts s) ∧ Below w.heap.size w w' := by
  obtain ⟨i0, hi, hz0, hz1, hz2⟩ := info_parts info5
  go_enter Tryz.func65, Tryz.ntmps65
  go_wp2_with fail
  obtain ⟨w0, hw0⟩ : ∃ w0, w.alloc (.cells #[.int .u64 s.A, .int .u64 s.B, .int .u64 s.C, .int .u64 s.D] 129) = w0 := ⟨_, rfl⟩
  have hB0 : Below w.heap.size w w0 := hw0 ▸ (Below.refl _ w).alloc (Nat.le_refl _) _
  have kb : Blk w0 w.heap.size 129 (scells s) := hw0 ▸ Blk.new w (scells s) 129
  rw [hw0]
  have hc0 := kb.cell 0
  have hc1 := kb.cell 1
  have hc2 := kb.cell 2
  have hc3 := kb.cell 3
  have hbl := kb.lt
  simp only [scells, List.getElem?_cons_zero, List.getElem?_cons_succ] at hc0 hc1 hc2 hc3
  have EA := Lib.hid (eight_at s.A w0)
  have EB := Lib.hid (eight_at s.B w0)
  have EC := Lib.hid (eight_at s.C w0)
  have ED := Lib.hid (eight_at s.D w0)
  clear hw0 kb
  go_region_held3 (fun w' => w'.cell? ⟨w.heap.size, 0, none⟩ = some (.int .u64 s.A) ∧ w'.cell? ⟨w.heap.size, 1, none⟩ = some (.int .u64 s.B) ∧ w'.cell? ⟨w.heap.size, 2, none⟩ = some (.int .u64 s.C) ∧ w'.cell? ⟨w.heap.size, 3, none⟩ = some (.int .u64 s.D) ∧ Below w0.heap.size w0 w')
    (first | exact held4 hbl hc0 hc1 hc2 hc3 (by (repeat (first | with_reducible exact Below.refl _ _ | with_reducible assumption | with_reducible refine Below.drew ?_ | with_reducible refine Below.alloc ?_ ?_ _ | with_reducible refine Below.setCell ?_ ?_ _ | (focus omega) | (focus (simp; done)) | (focus (simp; omega))))))
    (first
      | (go_at_call_of 91 (Value.int .u64 s.A); ((with_reducible refine (EA.out _ ?_).mono ?_); (focus ((repeat (first | with_reducible exact Below.refl _ _ | with_reducible assumption | with_reducible refine Below.drew ?_ | with_reducible refine Below.alloc ?_ ?_ _ | with_reducible refine Below.setCell ?_ ?_ _ | (focus omega) | (focus (simp; done)) | (focus (simp; omega)))); done)); rintro e wA ⟨gA, cA, rfl, hoA, qA, lA, uA, hBA⟩; have hBwA : Below w0.heap.size w0 wA := (by refine Below.trans ?_ (hBA.mono ?_); (focus ((repeat (first | with_reducible exact Below.refl _ _ | with_reducible assumption | with_reducible refine Below.drew ?_ | with_reducible refine Below.alloc ?_ ?_ _ | with_reducible refine Below.setCell ?_ ?_ _ | (focus omega) | (focus (simp; done)) | (focus (simp; omega)))); done)); (focus (first | omega | (simp; done) | (simp; omega)))); have hsA := hBwA.size; have HOA := Lib.hid hoA; have HBA := Lib.hid hBA; clear hoA hBA; (try simp at lA)))
      | (go_at_call_of 91 (Value.int .u64 s.B); ((with_reducible refine (EB.out _ ?_).mono ?_); (focus ((repeat (first | with_reducible exact Below.refl _ _ | with_reducible assumption | with_reducible refine Below.drew ?_ | with_reducible refine Below.alloc ?_ ?_ _ | with_reducible refine Below.setCell ?_ ?_ _ | (focus omega) | (focus (simp; done)) | (focus (simp; omega)))); done)); rintro e wB ⟨gB, cB, rfl, hoB, qB, lB, uB, hBB⟩; have hBwB : Below w0.heap.size w0 wB := (by refine Below.trans ?_ (hBB.mono ?_); (focus ((repeat (first | with_reducible exact Below.refl _ _ | with_reducible assumption | with_reducible refine Below.drew ?_ | with_reducible refine Below.alloc ?_ ?_ _ | with_reducible refine Below.setCell ?_ ?_ _ | (focus omega) | (focus (simp; done)) | (focus (simp; omega)))); done)); (focus (first | omega | (simp; done) | (simp; omega)))); have hsB := hBwB.size; have HOB := Lib.hid hoB; have HBB := Lib.hid hBB; clear hoB hBB; (try simp at lB)))
      | (go_at_call_of 91 (Value.int .u64 s.C); ((with_reducible refine (EC.out _ ?_).mono ?_); (focus ((repeat (first | with_reducible exact Below.refl _ _ | with_reducible assumption | with_reducible refine Below.drew ?_ | with_reducible refine Below.alloc ?_ ?_ _ | with_reducible refine Below.setCell ?_ ?_ _ | (focus omega) | (focus (simp; done)) | (focus (simp; omega)))); done)); rintro e wC ⟨gC, cC, rfl, hoC, qC, lC, uC, hBC⟩; have hBwC : Below w0.heap.size w0 wC := (by refine Below.trans ?_ (hBC.mono ?_); (focus ((repeat (first | with_reducible exact Below.refl _ _ | with_reducible assumption | with_reducible refine Below.drew ?_ | with_reducible refine Below.alloc ?_ ?_ _ | with_reducible refine Below.setCell ?_ ?_ _ | (focus omega) | (focus (simp; done)) | (focus (simp; omega)))); done)); (focus (first | omega | (simp; done) | (simp; omega)))); have hsC := hBwC.size; have HOC := Lib.hid hoC; have HBC := Lib.hid hBC; clear hoC hBC; (try simp at lC)))
      | (go_at_call_of 91 (Value.int .u64 s.D); ((with_reducible refine (ED.out _ ?_).mono ?_); (focus ((repeat (first | with_reducible exact Below.refl _ _ | with_reducible assumption | with_reducible refine Below.drew ?_ | with_reducible refine Below.alloc ?_ ?_ _ | with_reducible refine Below.setCell ?_ ?_ _ | (focus omega) | (focus (simp; done)) | (focus (simp; omega)))); done)); rintro e wD ⟨gD, cD, rfl, hoD, qD, lD, uD, hBD⟩; have hBwD : Below w0.heap.size w0 wD := (by refine Below.trans ?_ (hBD.mono ?_); (focus ((repeat (first | with_reducible exact Below.refl _ _ | with_reducible assumption | with_reducible refine Below.drew ?_ | with_reducible refine Below.alloc ?_ ?_ _ | with_reducible refine Below.setCell ?_ ?_ _ | (focus omega) | (focus (simp; done)) | (focus (simp; omega)))); done)); (focus (first | omega | (simp; done) | (simp; omega)))); have hsD := hBwD.size; have HOD := Lib.hid hoD; have HBD := Lib.hid hBD; clear hoD hBD; (try simp at lD)))
      | ((refine step_append_lies (o := ⟨some 9, _, _, _, _, _⟩) _ (by rfl) _ _ _ (by rfl) w0.heap.size 5 i0 (.int .u8 0) 1 1 Tryz.underlying46 hi hz0 hz1 hz2 rfl (by omega) (.slice (some ⟨gA, 0, none⟩) 8 cA) 8 (octCells (put s.A 8)) (by rfl) ?_ ⟨gB, 0, none⟩ 8 cB (octCells (put s.B 8)) (by rfl) (by rw [octCells_length, put_length]) ?_ (octCells_one _) (by omega) (by unfold maxLen; omega) (by omega) ?_ _ rfl ?_); (focus ((repeat (first | with_reducible exact HOA.out | with_reducible exact HOB.out | with_reducible exact HOC.out | with_reducible exact HOD.out | with_reducible exact HO1.out | with_reducible exact HO2.out | with_reducible refine own_below ?_ HBA.out (Nat.le_refl _) | with_reducible refine own_below ?_ HBB.out (Nat.le_refl _) | with_reducible refine own_below ?_ HBC.out (Nat.le_refl _) | with_reducible refine own_below ?_ HBD.out (Nat.le_refl _) | (with_reducible refine own_kept ?_ HG1.out ?_; rotate_left; (focus (first | omega | (simp; done) | (simp; omega)))) | (with_reducible refine own_kept ?_ HG2.out ?_; rotate_left; (focus (first | omega | (simp; done) | (simp; omega)))) | (with_reducible refine own_kept ?_ HG3.out ?_; rotate_left; (focus (first | omega | (simp; done) | (simp; omega)))))); done)); (focus (refine own_news (base := w0.heap.size) (n := 8) (c := cB) (e := 5) ?_; (repeat (first | with_reducible exact HOA.out | with_reducible exact HOB.out | with_reducible exact HOC.out | with_reducible exact HOD.out | with_reducible exact HO1.out | with_reducible exact HO2.out | with_reducible refine own_below ?_ HBA.out (Nat.le_refl _) | with_reducible refine own_below ?_ HBB.out (Nat.le_refl _) | with_reducible refine own_below ?_ HBC.out (Nat.le_refl _) | with_reducible refine own_below ?_ HBD.out (Nat.le_refl _) | (with_reducible refine own_kept ?_ HG1.out ?_; rotate_left; (focus (first | omega | (simp; done) | (simp; omega)))) | (with_reducible refine own_kept ?_ HG2.out ?_; rotate_left; (focus (first | omega | (simp; done) | (simp; omega)))) | (with_reducible refine own_kept ?_ HG3.out ?_; rotate_left; (focus (first | omega | (simp; done) | (simp; omega)))))); done)); (focus (first | omega | (simp; done) | (simp; omega))); intro g1 c1 y1 ho1 hg1 ha1 hl1; have hBy1 : Below w0.heap.size w0 y1 := (by refine Below.grown ?_ hg1 ?_ ?_; (focus ((repeat (first | with_reducible exact Below.refl _ _ | with_reducible assumption | with_reducible refine Below.drew ?_ | with_reducible refine Below.alloc ?_ ?_ _ | with_reducible refine Below.setCell ?_ ?_ _ | (focus omega) | (focus (simp; done)) | (focus (simp; omega)))); done)); (focus (first | omega | (simp; done) | (simp; omega))); (focus (intro j e; simp [Value.ownBlock] at e; omega))); have ht1 := hg1.size; have hb1 := own_ge ho1; have HO1 := Lib.hid ho1; have HG1 := Lib.hid (grown_of hg1); clear ho1 hg1; simp only [Value.ownBlock, Option.some.injEq] at ha1)
      | ((refine step_append_lies (o := ⟨some 13, _, _, _, _, _⟩) _ (by rfl) _ _ _ (by rfl) w0.heap.size 5 i0 (.int .u8 0) 1 1 Tryz.underlying46 hi hz0 hz1 hz2 rfl (by omega) (.slice (some ⟨g1, 0, none⟩) (8 + 8) c1) (8 + 8) (octCells (put s.A 8) ++ octCells (put s.B 8)) (by rfl) ?_ ⟨gC, 0, none⟩ 8 cC (octCells (put s.C 8)) (by rfl) (by rw [octCells_length, put_length]) ?_ (octCells_one _) (by omega) (by unfold maxLen; omega) (by omega) ?_ _ rfl ?_); (focus ((repeat (first | with_reducible exact HOA.out | with_reducible exact HOB.out | with_reducible exact HOC.out | with_reducible exact HOD.out | with_reducible exact HO1.out | with_reducible exact HO2.out | with_reducible refine own_below ?_ HBA.out (Nat.le_refl _) | with_reducible refine own_below ?_ HBB.out (Nat.le_refl _) | with_reducible refine own_below ?_ HBC.out (Nat.le_refl _) | with_reducible refine own_below ?_ HBD.out (Nat.le_refl _) | (with_reducible refine own_kept ?_ HG1.out ?_; rotate_left; (focus (first | omega | (simp; done) | (simp; omega)))) | (with_reducible refine own_kept ?_ HG2.out ?_; rotate_left; (focus (first | omega | (simp; done) | (simp; omega)))) | (with_reducible refine own_kept ?_ HG3.out ?_; rotate_left; (focus (first | omega | (simp; done) | (simp; omega)))))); done)); (focus (refine own_news (base := w0.heap.size) (n := 8) (c := cC) (e := 5) ?_; (repeat (first | with_reducible exact HOA.out | with_reducible exact HOB.out | with_reducible exact HOC.out | with_reducible exact HOD.out | with_reducible exact HO1.out | with_reducible exact HO2.out | with_reducible refine own_below ?_ HBA.out (Nat.le_refl _) | with_reducible refine own_below ?_ HBB.out (Nat.le_refl _) | with_reducible refine own_below ?_ HBC.out (Nat.le_refl _) | with_reducible refine own_below ?_ HBD.out (Nat.le_refl _) | (with_reducible refine own_kept ?_ HG1.out ?_; rotate_left; (focus (first | omega | (simp; done) | (simp; omega)))) | (with_reducible refine own_kept ?_ HG2.out ?_; rotate_left; (focus (first | omega | (simp; done) | (simp; omega)))) | (with_reducible refine own_kept ?_ HG3.out ?_; rotate_left; (focus (first | omega | (simp; done) | (simp; omega)))))); done)); (focus (first | omega | (simp; done) | (simp; omega))); intro g2 c2 y2 ho2 hg2 ha2 hl2; have hBy2 : Below w0.heap.size w0 y2 := (by refine Below.grown ?_ hg2 ?_ ?_; (focus ((repeat (first | with_reducible exact Below.refl _ _ | with_reducible assumption | with_reducible refine Below.drew ?_ | with_reducible refine Below.alloc ?_ ?_ _ | with_reducible refine Below.setCell ?_ ?_ _ | (focus omega) | (focus (simp; done)) | (focus (simp; omega)))); done)); (focus (first | omega | (simp; done) | (simp; omega))); (focus (intro j e; simp [Value.ownBlock] at e; omega))); have ht2 := hg2.size; have hb2 := own_ge ho2; have HO2 := Lib.hid ho2; have HG2 := Lib.hid (grown_of hg2); clear ho2 hg2; simp only [Value.ownBlock, Option.some.injEq] at ha2)
      | ((refine step_append_lies (o := ⟨some 17, _, _, _, _, _⟩) _ (by rfl) _ _ _ (by rfl) w0.heap.size 5 i0 (.int .u8 0) 1 1 Tryz.underlying46 hi hz0 hz1 hz2 rfl (by omega) (.slice (some ⟨g2, 0, none⟩) (8 + 8 + 8) c2) (8 + 8 + 8) (octCells (put s.A 8) ++ octCells (put s.B 8) ++ octCells (put s.C 8)) (by rfl) ?_ ⟨gD, 0, none⟩ 8 cD (octCells (put s.D 8)) (by rfl) (by rw [octCells_length, put_length]) ?_ (octCells_one _) (by omega) (by unfold maxLen; omega) (by omega) ?_ _ rfl ?_); (focus ((repeat (first | with_reducible exact HOA.out | with_reducible exact HOB.out | with_reducible exact HOC.out | with_reducible exact HOD.out | with_reducible exact HO1.out | with_reducible exact HO2.out | with_reducible refine own_below ?_ HBA.out (Nat.le_refl _) | with_reducible refine own_below ?_ HBB.out (Nat.le_refl _) | with_reducible refine own_below ?_ HBC.out (Nat.le_refl _) | with_reducible refine own_below ?_ HBD.out (Nat.le_refl _) | (with_reducible refine own_kept ?_ HG1.out ?_; rotate_left; (focus (first | omega | (simp; done) | (simp; omega)))) | (with_reducible refine own_kept ?_ HG2.out ?_; rotate_left; (focus (first | omega | (simp; done) | (simp; omega)))) | (with_reducible refine own_kept ?_ HG3.out ?_; rotate_left; (focus (first | omega | (simp; done) | (simp; omega)))))); done)); (focus (refine own_news (base := w0.heap.size) (n := 8) (c := cD) (e := 5) ?_; (repeat (first | with_reducible exact HOA.out | with_reducible exact HOB.out | with_reducible exact HOC.out | with_reducible exact HOD.out | with_reducible exact HO1.out | with_reducible exact HO2.out | with_reducible refine own_below ?_ HBA.out (Nat.le_refl _) | with_reducible refine own_below ?_ HBB.out (Nat.le_refl _) | with_reducible refine own_below ?_ HBC.out (Nat.le_refl _) | with_reducible refine own_below ?_ HBD.out (Nat.le_refl _) | (with_reducible refine own_kept ?_ HG1.out ?_; rotate_left; (focus (first | omega | (simp; done) | (simp; omega)))) | (with_reducible refine own_kept ?_ HG2.out ?_; rotate_left; (focus (first | omega | (simp; done) | (simp; omega)))) | (with_reducible refine own_kept ?_ HG3.out ?_; rotate_left; (focus (first | omega | (simp; done) | (simp; omega)))))); done)); (focus (first | omega | (simp; done) | (simp; omega))); intro g3 c3 y3 ho3 hg3 ha3 hl3; have hBy3 : Below w0.heap.size w0 y3 := (by refine Below.grown ?_ hg3 ?_ ?_; (focus ((repeat (first | with_reducible exact Below.refl _ _ | with_reducible assumption | with_reducible refine Below.drew ?_ | with_reducible refine Below.alloc ?_ ?_ _ | with_reducible refine Below.setCell ?_ ?_ _ | (focus omega) | (focus (simp; done)) | (focus (simp; omega)))); done)); (focus (first | omega | (simp; done) | (simp; omega))); (focus (intro j e; simp [Value.ownBlock] at e; omega))); have ht3 := hg3.size; have hb3 := own_ge ho3; have HO3 := Lib.hid ho3; have HG3 := Lib.hid (grown_of hg3); clear ho3 hg3; simp only [Value.ownBlock, Option.some.injEq] at ha3))
  have hcap3 : 32 ≤ c3 := by
    obtain ⟨A', c', e, hc', _⟩ := own_slice HO3.out
    injection e with _ _ e
    omega
  have hr3 : RdB y3 (some ⟨g3, 0, none⟩) (sumOcts s) := by
    have := Rd.of_own HO3.out
    rw [show octCells (put s.A 8) ++ octCells (put s.B 8) ++ octCells (put s.C 8) ++ octCells (put s.D 8) = octCells (sumOcts s) by simp [octCells, sumOcts]] at this
    exact this
  have HR3 := Lib.hid hr3
  clear hr3 HO1 HO2 HO3 HG1 HG2 HG3 HOA HOB HOC HOD HBA HBB HBC HBD EA EB EC ED ha1 ha2 ha3
  go_wp2
  go_ret
  exact ⟨_, _, rfl, hcap3, HR3.out, hB0.trans (hBy3.mono hB0.size)⟩

theorem sumOctets_any (s : S4) (w : World) :
    Calls Tryz.prog 65 #[s.val] w fun e w' => ∃ A c, e = .returned (.slice A 32 c) ∧ RdB w' A (sumOcts s) ∧ Below w.heap.size w w' :=
  (sumOctets_cap s w).mono fun _ _ ⟨A, c, e, _, hr, hB⟩ => ⟨A, c, e, hr, hB⟩

end Go.Proofs.YtmehjmkakkiedaaGreat
