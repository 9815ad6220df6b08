/-
 snaps: Clone. Conditions: the tenant is as it comes in.
-/
import Derived.Test.YtimmcmjipmkebaaGreatVHLP
import Derived.Test.YtimmcmjipmkebaaGreatVHCR
import Derived.Lib.AppendZeros
namespace Go.Proofs.YtimmcmjipmkebaaGreat
open Go.ChangeShapes Go.WideShapes Go.ChangeAt Go.RowKit
set_option maxRecDepth 100000
set_option linter.unusedSimpArgs false
theorem join_at (p n : ByteArray) : p ++ ⟨#[64]⟩ ++ n = atT p n := by
 have hb : bs (p ++ ⟨#[64]⟩ ++ n) = bs p ++ 64 :: bs n := by
  have h1 : (p ++ ⟨#[64]⟩ ++ n).data = (p ++ ⟨#[64]⟩).data ++ n.data := ByteArray.data_append
  have h2 : (p ++ (⟨#[64]⟩ : ByteArray)).data = p.data ++ (⟨#[64]⟩ : ByteArray).data := ByteArray.data_append
  unfold bs
  rw [h1, h2]
  simp
 unfold atT
 rw [← hb, ofL_bs]
theorem join17_any (s n : ByteArray) (hs : s.size ≤ 140737488351232) (hn : n.size ≤ 140737488351232) (w : World) :
 Calls Tryz.prog 59 #[.string s, .string n] w fun e w' => e = .returned (.string (s ++ ⟨#[64]⟩ ++ n)) ∧ w = w' := by
 go_enter Tryz.func59, Tryz.ntmps59
 go_wp2
 go_ret
 exact ⟨rfl, rfl⟩
def heldL (s : MSet) (l : List Mna) : List ByteArray := (l.filter fun y => decide (0 < y.u_.l.length)).map fun y => atT s.l_ y.x_
def allL (l : List MSet) : List ByteArray := l.flatMap fun s => heldL s s.n_.l
def totL (l : List MSet) : Nat := (l.map fun s => s.n_.l.length).sum
theorem heldL_len (s : MSet) (l : List Mna) : (heldL s l).length ≤ l.length := by
 unfold heldL
 rw [List.length_map]
 exact List.length_filter_le _ _
theorem allL_len : ∀ l : List MSet, (allL l).length ≤ totL l
 | [] => Nat.le_refl _
 | s :: l => by
  have h1 := allL_len l
  have h2 := heldL_len s s.n_.l
  unfold allL totL at *
  simp only [List.flatMap_cons, List.length_append, List.map_cons, List.sum_cons]
  omega
theorem allL_take {l : List MSet} {k : Nat} {s : MSet} (h : l[k]? = some s) : allL (l.take (k + 1)) = allL (l.take k) ++ heldL s s.n_.l := by
 unfold allL
 rw [List.take_add_one, h]
 simp
theorem heldL_take {s : MSet} {l : List Mna} {k : Nat} {y : Mna} (h : l[k]? = some y) : heldL s (l.take (k + 1)) = heldL s (l.take k) ++ (if 0 < y.u_.l.length then [atT s.l_ y.x_] else []) := by
 unfold heldL
 rw [List.take_add_one, h]
 simp only [Option.toList, List.filter_append, List.map_append]
 congr 1
 by_cases h9 : 0 < y.u_.l.length
 · rw [if_pos h9, List.filter_cons_of_pos (by simpa using h9)]
   rfl
 · rw [if_neg h9, List.filter_cons_of_neg (by simpa using h9)]
   rfl
theorem totL_part {l : List MSet} {k : Nat} {s : MSet} (h : l[k]? = some s) (m : Nat) (hm : m ≤ s.n_.l.length) : (allL (l.take k) ++ heldL s (s.n_.l.take m)).length ≤ totL l := by
 have h1 := allL_len (l.take k)
 have h2 := heldL_len s (s.n_.l.take m)
 have h3 : totL (l.take k) + s.n_.l.length ≤ totL l := by
  obtain ⟨hk, he⟩ := List.getElem?_eq_some_iff.1 h
  have h4 : l = l.take k ++ s :: l.drop (k + 1) := by
   rw [← he, List.getElem_cons_drop, List.take_append_drop]
  have h5 : totL l = totL (l.take k) + (s.n_.l.length + totL (l.drop (k + 1))) := by
   conv => lhs; rw [h4]
   unfold totL
   rw [List.map_append, List.sum_append, List.map_cons, List.sum_cons]
  omega
 rw [List.length_append]
 rw [List.length_take] at h2
 omega
set_option maxHeartbeats 4000000 in
theorem all18_any (x : MT_) (ht : totL x.y_.l ≤ 8796093022206) (w : World) (hx : x.Good w) :
 Calls Tryz.prog 34 #[.agg x.cells.toArray] w fun e w' => ∃ v, e = .returned v ∧ ownT w' w.heap.size v (allL x.y_.l) ∧ Below w.heap.size w w' := by
 obtain ⟨a1, hw1⟩ : ∃ a1, w.alloc (.cells #[.string x.x_, .int .i64 x.r_, .int .i64 x.v_, .slice x.y_.A x.y_.l.length x.y_.c, .slice x.g_.A x.g_.l.length x.g_.c, .slice x.t_.A x.t_.l.length x.t_.c, .slice x.h_.A x.h_.l.length x.h_.c] 27) = a1 := ⟨_, rfl⟩
 have b1 : Below w.heap.size w a1 := hw1 ▸ (Below.refl _ w).alloc (Nat.le_refl _) _
 have k1 : Blk a1 w.heap.size 27 [.string x.x_, .int .i64 x.r_, .int .i64 x.v_, .slice x.y_.A x.y_.l.length x.y_.c, .slice x.g_.A x.g_.l.length x.g_.c, .slice x.t_.A x.t_.l.length x.t_.c, .slice x.h_.A x.h_.l.length x.h_.c] := hw1 ▸ Blk.new w _ _
 have hB1 : Below w.heap.size w a1 := b1
 have hs1 := hB1.size
 have HW1 := zI hw1
 clear hw1 b1
 have HG := zI hx
 have HI := zI (fun y W => isHeld18_any y W)
 have HT := zI ht
 have hlk1 := k1.lt
 have hsl := HG.out.w_.len
 have HK1 := zI k1
 obtain ⟨q0, q1, q2, q3, q4, q5, q6⟩ := k1.all7
 clear hx ht
 go_enter Tryz.func34, Tryz.ntmps34
 go_upto_region 1 with fail
 rw [HW1.out]
 go_wp2
 go_loopw [3, 11] (fun v i W => ∃ k : Nat, k ≤ x.y_.l.length ∧ i = .int .i64 k ∧ Hid (ownT W w.heap.size v (allL (x.y_.l.take k))) ∧ Hid (Blk W w.heap.size 27 [.string x.x_, .int .i64 x.r_, .int .i64 x.v_, .slice x.y_.A x.y_.l.length x.y_.c, .slice x.g_.A x.g_.l.length x.g_.c, .slice x.t_.A x.t_.l.length x.t_.c, .slice x.h_.A x.h_.l.length x.h_.c]) ∧ Below w.heap.size w W) (fun _ i _ => x.y_.l.length - (intOf i).toNat)
 case atStart => exact ⟨0, Nat.zero_le _, rfl, zI (by simpa [allL, ownT] using ownNone _ _ _ _), HK1, hB1⟩
 case round =>
  obtain ⟨wo, rfl⟩ : ∃ wo, wo = wr := ⟨_, rfl⟩
  obtain ⟨k, hk, rfl, HO, HKT, hB⟩ := hrel
  have hsB := hB.size
  by_cases hlt : k < x.y_.l.length
  · obtain ⟨s, hs⟩ : ∃ s, x.y_.l[k]? = some s := ⟨_, qZa hlt⟩
    obtain ⟨b, off, hA, hb, hc⟩ := Rd.elem (n := 5) (fun _ => rfl) (by omega) (HG.out.below hB).w_.rd hs
    have c0 : wo.cell? ⟨b, off + k * 5, none⟩ = some (.string s.l_) := hc 0 _ rfl
    have c1 : wo.cell? ⟨b, off + k * 5 + 1, none⟩ = some (.string s.m_) := hc 1 _ rfl
    have c2 : wo.cell? ⟨b, off + k * 5 + 2, none⟩ = some (.slice s.p_.A s.p_.l.length s.p_.c) := hc 2 _ rfl
    have c3 : wo.cell? ⟨b, off + k * 5 + 3, none⟩ = some (.slice s.n_.A s.n_.l.length s.n_.c) := hc 3 _ rfl
    have c4 : wo.cell? ⟨b, off + k * 5 + 4, none⟩ = some (.slice s.j_.A s.j_.l.length s.j_.c) := hc 4 _ rfl
    obtain ⟨w1, hw1⟩ : ∃ w1, wo.alloc (.cells #[.string s.l_, .string s.m_, .slice s.p_.A s.p_.l.length s.p_.c, .slice s.n_.A s.n_.l.length s.n_.c, .slice s.j_.A s.j_.l.length s.j_.c] 52) = w1 := ⟨_, rfl⟩
    have hB1' : Below wo.heap.size wo w1 := hw1 ▸ (Below.refl _ wo).alloc (Nat.le_refl _) _
    have kb : Blk w1 wo.heap.size 52 [.string s.l_, .string s.m_, .slice s.p_.A s.p_.l.length s.p_.c, .slice s.n_.A s.n_.l.length s.n_.c, .slice s.j_.A s.j_.l.length s.j_.c] := hw1 ▸ Blk.new wo _ _
    have HS := zI hs
    have HKB := zI kb
    have HB1 := zI hB1'
    have HW := zI hw1
    have HKT1 := zI (HKT.out.of hB1')
    have HO1 := zI (zgQ HO.out hB1' (Nat.le_refl _))
    have hsq := ((HG.out.w_.el s (mG hs)).f_).len
    have hsx := hB1'.size
    obtain ⟨d0, d1, d2, d3, d4⟩ := kb.all5
    have HA := zI hA
    rw [hA]
    clear hs hw1 hB1' kb hc hA
    go_upto_region 5 with fail
    rw [HW.out]
    go_wp2
    go_loopw [3, 18] (fun v i W => ∃ m : Nat, m ≤ s.n_.l.length ∧ i = .int .i64 m ∧ Hid (ownT W w.heap.size v (allL (x.y_.l.take k) ++ heldL s (s.n_.l.take m))) ∧ Hid (Blk W w.heap.size 27 [.string x.x_, .int .i64 x.r_, .int .i64 x.v_, .slice x.y_.A x.y_.l.length x.y_.c, .slice x.g_.A x.g_.l.length x.g_.c, .slice x.t_.A x.t_.l.length x.t_.c, .slice x.h_.A x.h_.l.length x.h_.c]) ∧ Hid (Blk W wo.heap.size 52 [.string s.l_, .string s.m_, .slice s.p_.A s.p_.l.length s.p_.c, .slice s.n_.A s.n_.l.length s.n_.c, .slice s.j_.A s.j_.l.length s.j_.c]) ∧ Below w.heap.size w W) (fun _ i _ => s.n_.l.length - (intOf i).toNat)
    case atStart => exact ⟨0, Nat.zero_le _, rfl, zI (by simpa [heldL] using HO1.out), HKT1, HKB, hB.trans (HB1.out.mono hsB)⟩
    case round =>
     obtain ⟨wi, rfl⟩ : ∃ wi, wi = wr := ⟨_, rfl⟩
     obtain ⟨m, hm, rfl, HO2, HKT2, HKB2, hBa⟩ := hrel
     have hs2 := hBa.size
     have kb := HKB2.out
     obtain ⟨e0, e1, e2, e3, e4⟩ := kb.all5
     by_cases hlm : m < s.n_.l.length
     · obtain ⟨y, hy⟩ : ∃ y, s.n_.l[m]? = some y := ⟨_, qZa hlm⟩
       obtain ⟨b2, off2, hA2, hb2, hc2⟩ := Rd.elem (n := 5) (fun _ => rfl) (by omega) ((HG.out.below hBa).w_.el s (mG HS.out)).f_.rd hy
       have f0 : wi.cell? ⟨b2, off2 + m * 5, none⟩ = some (.string y.x_) := hc2 0 _ rfl
       have f1 : wi.cell? ⟨b2, off2 + m * 5 + 1, none⟩ = some (.int .i64 y.z_) := hc2 1 _ rfl
       have f2 : wi.cell? ⟨b2, off2 + m * 5 + 2, none⟩ = some (.slice y.p_.A y.p_.l.length y.p_.c) := hc2 2 _ rfl
       have f3 : wi.cell? ⟨b2, off2 + m * 5 + 3, none⟩ = some (.slice y.u_.A y.u_.l.length y.u_.c) := hc2 3 _ rfl
       have f4 : wi.cell? ⟨b2, off2 + m * 5 + 4, none⟩ = some (.slice y.j_.A y.j_.l.length y.j_.c) := hc2 4 _ rfl
       obtain ⟨w3, hw3⟩ : ∃ w3, wi.alloc (.cells #[.string y.x_, .int .i64 y.z_, .slice y.p_.A y.p_.l.length y.p_.c, .slice y.u_.A y.u_.l.length y.u_.c, .slice y.j_.A y.j_.l.length y.j_.c] 49) = w3 := ⟨_, rfl⟩
       have hB3 : Below wi.heap.size wi w3 := hw3 ▸ (Below.refl _ wi).alloc (Nat.le_refl _) _
       have ky : Blk w3 wi.heap.size 49 [.string y.x_, .int .i64 y.z_, .slice y.p_.A y.p_.l.length y.p_.c, .slice y.u_.A y.u_.l.length y.u_.c, .slice y.j_.A y.j_.l.length y.j_.c] := hw3 ▸ Blk.new wi _ _
       have HW3 := zI hw3
       have HY := zI hy
       have HO3 := zI (zgQ HO2.out hB3 (Nat.le_refl _))
       have ks3 := kb.of hB3
       have HTK := zI (heldL_take (s := s) hy)
       have htp := totL_part HS.out m hm
       have HTP := zI htp
       have hlw := HKB2.out.lt
       have hkt3 := HKT2.out.of hB3
       obtain ⟨g0, g1, g2, g3, g4⟩ := ky.all5
       obtain ⟨h0, h1, h2, h3, h4⟩ := ks3.all5
       have HA2 := zI hA2
       rw [hA2]
       clear hy hw3 hc2 hA2 htp e0 e1 e2 e3 e4
       go_upto_region 8 with fail
       rw [HW3.out]
       go_wp2_with fail
       refine (HI.out y w3).mono ?_
       rintro e w4 ⟨rfl, hV4⟩
       have ks4 := ks3.of hV4
       have ky4 := ky.of hV4
       have hB34 := hB3.trans (hV4.mono hB3.size)
       have HKT4 := zI (hkt3.of hV4)
       have HKB4 := zI ks4
       have HO4 := zI (zgQ HO3.out hV4 (Nat.le_refl _))
       clear g0 g1 g2 g3 g4 h0 h1 h2 h3 h4
       obtain ⟨g0, g1, g2, g3, g4⟩ := ky4.all5
       obtain ⟨h0, h1, h2, h3, h4⟩ := ks4.all5
       by_cases hz : 0 < y.u_.l.length
       · have hz' : decide (0 < y.u_.l.length) = true := decide_eq_true hz
         rw [hz']
         have HTK' : Hid (allL (x.y_.l.take k) ++ heldL s (s.n_.l.take (m + 1)) = (allL (x.y_.l.take k) ++ heldL s (s.n_.l.take m)) ++ [atT s.l_ y.x_]) := zI (by rw [HTK.out, if_pos hz, List.append_assoc])
         have HJ := zI (fun W => join17_any s.l_ y.x_ (HG.out.w_.el s (mG HS.out)).C_ (((HG.out.w_.el s (mG HS.out)).f_.el y (mG HY.out)).L_) W)
         rw [join_at] at HJ
         obtain ⟨Q, hQ⟩ : ∃ Q, allL (x.y_.l.take k) ++ heldL s (s.n_.l.take m) = Q := ⟨_, rfl⟩
         rw [hQ] at HO4 HTK' HTP
         obtain ⟨Av, cv, hv, _, _, _, _⟩ := ownAny HO4.out
         subst hv
         have hXw : Below w.heap.size w w4 := hBa.trans (hB34.mono hBa.size)
         have hszw := hXw.size
         clear hz hz' hQ
         go_wp2_with fail
         refine (HJ.out w4).mono ?_
         rintro e w5 ⟨rfl, rfl⟩
         go_wp2_with (at_builtin; refine wpAppendK rfl rfl Tryz.underlying46 (fun s => [Value.string s]) (fun _ => rfl) (by decide) (fun y u hu => by rw [List.mem_singleton] at hu; subst hu; rfl) infoSt rfl hXw hszw (by rw [flatT]; exact HO4.out) (atT s.l_ y.x_) rfl rfl (by have h1 := HTP.out; have h2 := HT.out; unfold maxLen; omega) (by have h1 := HTP.out; have h2 := HT.out; omega) ?_; intro g6 c6 x6 HO6 HB6 HK6)
         go_roundw
         case rel => exact ⟨m + 1, by omega, by go_num, zI (by rw [HTK'.out]; have h9 := HO6.out; rw [flatT] at h9; simpa [ownT] using h9), zI (HKT4.out.keep HK6.out (by decide)), zI (HA2.out ▸ HKB4.out.keep HK6.out (by decide)), HB6.out⟩
         case measure => simp [intOf]; omega
       · have hz' : decide (0 < y.u_.l.length) = false := decide_eq_false hz
         rw [hz']
         have HTK' : Hid (heldL s (s.n_.l.take (m + 1)) = heldL s (s.n_.l.take m)) := zI (by rw [HTK.out, if_neg hz, List.append_nil])
         clear hz hz'
         go_wp2
         go_roundw
         case rel => exact ⟨m + 1, by omega, by go_num, zI (by rw [HTK'.out]; exact HO4.out), HKT4, HA2.out ▸ HKB4, hBa.trans (hB34.mono hBa.size)⟩
         case measure => simp [intOf]; omega
     · obtain rfl : m = s.n_.l.length := by omega
       have HO9 : Hid (ownT wi w.heap.size u3 (allL (x.y_.l.take (k + 1)))) := zI (by rw [allL_take HS.out]; have h9 := HO2.out; rwa [List.take_length] at h9)
       go_wp2
       go_roundw
       case rel => exact ⟨k + 1, by omega, by go_num, HO9, HA.out ▸ HKT2, hBa⟩
       case measure => simp [intOf]; omega
  · obtain rfl : k = x.y_.l.length := by omega
    have HO9 := HO.out
    rw [List.take_length] at HO9
    have HO9 := zI HO9
    go_wp2
    go_ret
    exact ⟨_, rfl, HO9.out, hB⟩
end Go.Proofs.YtimmcmjipmkebaaGreat
