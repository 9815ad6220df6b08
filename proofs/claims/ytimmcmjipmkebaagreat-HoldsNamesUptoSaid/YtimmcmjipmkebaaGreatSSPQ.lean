/-
  snaps: Clone. Conditions: the tenant is as it comes in.
-/
import Derived.Test.YtimmcmjipmkebaaGreatSHLP
import Derived.Test.YtimmcmjipmkebaaGreatSHLB
import Derived.Test.YtimmcmjipmkebaaGreatSTCU
import Derived.Test.YtimmcmjipmkebaaGreatSTMB
import Derived.Test.YtimmcmjipmkebaaGreatSGRX
import Derived.Test.YtimmcmjipmkebaaGreatSTMG
import Derived.Test.YtimmcmjipmkebaaGreatSTNP
import Derived.Test.YtimmcmjipmkebaaGreatSHCR
import Derived.Test.YtimmcmjipmkebaaGreatSSL
import Derived.Lib.AppendZeros
namespace Go.Proofs.YtimmcmjipmkebaaGreat
open Go.ChangeShapes Go.WideShapes Go.ChangeAt Go.RowKit
set_option maxRecDepth 100000
set_option linter.unusedSimpArgs false
theorem join_at (p n : ByteArray) : p ++ ⟨#[64]⟩ ++ n = atT p n := by
  have hb : bs (p ++ ⟨#[64]⟩ ++ n) = bs p ++ 64 :: bs n := by
    have h1 : (p ++ ⟨#[64]⟩ ++ n).data = (p ++ ⟨#[64]⟩).data ++ n.data := ByteArray.data_append
    have h2 : (p ++ (⟨#[64]⟩ : ByteArray)).data = p.data ++ (⟨#[64]⟩ : ByteArray).data := ByteArray.data_append
    unfold bs
    rw [h1, h2]
    simp
  unfold atT
  rw [← hb, ofL_bs]
theorem join17_any (s n : ByteArray) (hs : s.size ≤ 140737488351232) (hn : n.size ≤ 140737488351232) (w : World) :
    Calls Tryz.prog 59 #[.string s, .string n] w fun e w' => e = .returned (.string (s ++ ⟨#[64]⟩ ++ n)) ∧ w = w' := by
  go_enter Tryz.func59, Tryz.ntmps59
  go_wp2
  go_ret
  exact ⟨rfl, rfl⟩
def heldL (s : MSet) (l : List MSnap) : List ByteArray := (l.filter fun y => decide (0 < y.tags_.l.length)).map fun y => atT s.path_ y.name_
def allL (l : List MSet) : List ByteArray := l.flatMap fun s => heldL s s.snaps_.l
def totL (l : List MSet) : Nat := (l.map fun s => s.snaps_.l.length).sum
theorem heldL_len (s : MSet) (l : List MSnap) : (heldL s l).length ≤ l.length := by
  unfold heldL
  rw [List.length_map]
  exact List.length_filter_le _ _
theorem allL_len : ∀ l : List MSet, (allL l).length ≤ totL l
  | [] => Nat.le_refl _
  | s :: l => by
    have h1 := allL_len l
    have h2 := heldL_len s s.snaps_.l
    unfold allL totL at *
    simp only [List.flatMap_cons, List.length_append, List.map_cons, List.sum_cons]
    omega
theorem allL_take {l : List MSet} {k : Nat} {s : MSet} (h : l[k]? = some s) : allL (l.take (k + 1)) = allL (l.take k) ++ heldL s s.snaps_.l := by
  unfold allL
  rw [List.take_add_one, h]
  simp
theorem heldL_take {s : MSet} {l : List MSnap} {k : Nat} {y : MSnap} (h : l[k]? = some y) : heldL s (l.take (k + 1)) = heldL s (l.take k) ++ (if 0 < y.tags_.l.length then [atT s.path_ y.name_] else []) := by
  unfold heldL
  rw [List.take_add_one, h]
  simp only [Option.toList, List.filter_append, List.map_append]
  congr 1
  by_cases h9 : 0 < y.tags_.l.length
  · rw [if_pos h9, List.filter_cons_of_pos (by simpa using h9)]
    rfl
  · rw [if_neg h9, List.filter_cons_of_neg (by simpa using h9)]
    rfl
theorem totL_part {l : List MSet} {k : Nat} {s : MSet} (h : l[k]? = some s) (m : Nat) (hm : m ≤ s.snaps_.l.length) : (allL (l.take k) ++ heldL s (s.snaps_.l.take m)).length ≤ totL l := by
  have h1 := allL_len (l.take k)
  have h2 := heldL_len s (s.snaps_.l.take m)
  have h3 : totL (l.take k) + s.snaps_.l.length ≤ totL l := by
    obtain ⟨hk, he⟩ := List.getElem?_eq_some_iff.1 h
    have h4 : l = l.take k ++ s :: l.drop (k + 1) := by
      rw [← he, List.getElem_cons_drop, List.take_append_drop]
    have h5 : totL l = totL (l.take k) + (s.snaps_.l.length + totL (l.drop (k + 1))) := by
      conv => lhs; rw [h4]
      unfold totL
      rw [List.map_append, List.sum_append, List.map_cons, List.sum_cons]
    omega
  rw [List.length_append]
  rw [List.length_take] at h2
  omega
set_option maxHeartbeats 4000000 in
theorem all18_any (x : MTenant) (ht : totL x.sets_.l ≤ 8796093022206) (w : World) (hx : x.Good w) :
    Calls Tryz.prog 34 #[.agg x.cells.toArray] w fun e w' => ∃ v, e = .returned v ∧ ownT w' w.heap.size v (allL x.sets_.l) ∧ Below w.heap.size w w' := by
  obtain ⟨a1, hw1⟩ : ∃ a1, w.alloc (.cells #[.string x.name_, .int .i64 x.quota_, .int .i64 x.next_, .slice x.sets_.A x.sets_.l.length x.sets_.c, .slice x.grants_.A x.grants_.l.length x.grants_.c, .slice x.stages_.A x.stages_.l.length x.stages_.c, .slice x.log_.A x.log_.l.length x.log_.c] 27) = a1 := ⟨_, rfl⟩
  have b1 : Below w.heap.size w a1 := hw1 ▸ (Below.refl _ w).alloc (Nat.le_refl _) _
  have k1 : Blk a1 w.heap.size 27 [.string x.name_, .int .i64 x.quota_, .int .i64 x.next_, .slice x.sets_.A x.sets_.l.length x.sets_.c, .slice x.grants_.A x.grants_.l.length x.grants_.c, .slice x.stages_.A x.stages_.l.length x.stages_.c, .slice x.log_.A x.log_.l.length x.log_.c] := hw1 ▸ Blk.new w _ _
  have hB1 : Below w.heap.size w a1 := b1
  have hs1 := hB1.size
  have HW1 := Lib.hid hw1
  clear hw1 b1
  have HG := Lib.hid hx
  have HI := Lib.hid (fun y W => isHeld18_any y W)
  have HT := Lib.hid ht
  have hlk1 := k1.lt
  have hsl := HG.out.gsets_.len
  have HK1 := Lib.hid k1
  obtain ⟨q0, q1, q2, q3, q4, q5, q6⟩ := k1.all7
  clear hx ht
  go_enter Tryz.func34, Tryz.ntmps34
  go_upto_region 1 with fail
  rw [HW1.out]
  go_wp2
  go_loopw [3, 11] (fun v i W => ∃ k : Nat, k ≤ x.sets_.l.length ∧ i = .int .i64 k ∧ Hid (ownT W w.heap.size v (allL (x.sets_.l.take k))) ∧ Hid (Blk W w.heap.size 27 [.string x.name_, .int .i64 x.quota_, .int .i64 x.next_, .slice x.sets_.A x.sets_.l.length x.sets_.c, .slice x.grants_.A x.grants_.l.length x.grants_.c, .slice x.stages_.A x.stages_.l.length x.stages_.c, .slice x.log_.A x.log_.l.length x.log_.c]) ∧ Below w.heap.size w W) (fun _ i _ => x.sets_.l.length - (intOf i).toNat)
  case atStart => exact ⟨0, Nat.zero_le _, rfl, Lib.hid (by simpa [allL, ownT] using ownNone _ _ _ _), HK1, hB1⟩
  case round =>
    obtain ⟨wo, rfl⟩ : ∃ wo, wo = wr := ⟨_, rfl⟩
    obtain ⟨k, hk, rfl, HO, HKT, hB⟩ := hrel
    have hsB := hB.size
    by_cases hlt : k < x.sets_.l.length
    · obtain ⟨s, hs⟩ : ∃ s, x.sets_.l[k]? = some s := ⟨_, qZa hlt⟩
      obtain ⟨b, off, hA, hb, hc⟩ := Rd.elem (n := 5) (fun _ => rfl) (by omega) (HG.out.below hB).gsets_.rd hs
      have c0 : wo.cell? ⟨b, off + k * 5, none⟩ = some (.string s.path_) := hc 0 _ rfl
      have c1 : wo.cell? ⟨b, off + k * 5 + 1, none⟩ = some (.string s.origin_) := hc 1 _ rfl
      have c2 : wo.cell? ⟨b, off + k * 5 + 2, none⟩ = some (.slice s.body_.A s.body_.l.length s.body_.c) := hc 2 _ rfl
      have c3 : wo.cell? ⟨b, off + k * 5 + 3, none⟩ = some (.slice s.snaps_.A s.snaps_.l.length s.snaps_.c) := hc 3 _ rfl
      have c4 : wo.cell? ⟨b, off + k * 5 + 4, none⟩ = some (.slice s.own_.A s.own_.l.length s.own_.c) := hc 4 _ rfl
      obtain ⟨w1, hw1⟩ : ∃ w1, wo.alloc (.cells #[.string s.path_, .string s.origin_, .slice s.body_.A s.body_.l.length s.body_.c, .slice s.snaps_.A s.snaps_.l.length s.snaps_.c, .slice s.own_.A s.own_.l.length s.own_.c] 52) = w1 := ⟨_, rfl⟩
      have hB1' : Below wo.heap.size wo w1 := hw1 ▸ (Below.refl _ wo).alloc (Nat.le_refl _) _
      have kb : Blk w1 wo.heap.size 52 [.string s.path_, .string s.origin_, .slice s.body_.A s.body_.l.length s.body_.c, .slice s.snaps_.A s.snaps_.l.length s.snaps_.c, .slice s.own_.A s.own_.l.length s.own_.c] := hw1 ▸ Blk.new wo _ _
      have HS := Lib.hid hs
      have HKB := Lib.hid kb
      have HB1 := Lib.hid hB1'
      have HW := Lib.hid hw1
      have HKT1 := Lib.hid (HKT.out.of hB1')
      have HO1 := Lib.hid (ownBelow HO.out hB1' (Nat.le_refl _))
      have hsq := ((HG.out.gsets_.el s (List.mem_of_getElem? hs)).gsnaps_).len
      have hsx := hB1'.size
      obtain ⟨d0, d1, d2, d3, d4⟩ := kb.all5
      have HA := Lib.hid hA
      rw [hA]
      clear hs hw1 hB1' kb hc hA
      go_upto_region 5 with fail
      rw [HW.out]
      go_wp2
      go_loopw [3, 18] (fun v i W => ∃ m : Nat, m ≤ s.snaps_.l.length ∧ i = .int .i64 m ∧ Hid (ownT W w.heap.size v (allL (x.sets_.l.take k) ++ heldL s (s.snaps_.l.take m))) ∧ Hid (Blk W w.heap.size 27 [.string x.name_, .int .i64 x.quota_, .int .i64 x.next_, .slice x.sets_.A x.sets_.l.length x.sets_.c, .slice x.grants_.A x.grants_.l.length x.grants_.c, .slice x.stages_.A x.stages_.l.length x.stages_.c, .slice x.log_.A x.log_.l.length x.log_.c]) ∧ Hid (Blk W wo.heap.size 52 [.string s.path_, .string s.origin_, .slice s.body_.A s.body_.l.length s.body_.c, .slice s.snaps_.A s.snaps_.l.length s.snaps_.c, .slice s.own_.A s.own_.l.length s.own_.c]) ∧ Below w.heap.size w W) (fun _ i _ => s.snaps_.l.length - (intOf i).toNat)
      case atStart => exact ⟨0, Nat.zero_le _, rfl, Lib.hid (by simpa [heldL] using HO1.out), HKT1, HKB, hB.trans (HB1.out.mono hsB)⟩
      case round =>
        obtain ⟨wi, rfl⟩ : ∃ wi, wi = wr := ⟨_, rfl⟩
        obtain ⟨m, hm, rfl, HO2, HKT2, HKB2, hBa⟩ := hrel
        have hs2 := hBa.size
        have kb := HKB2.out
        obtain ⟨e0, e1, e2, e3, e4⟩ := kb.all5
        by_cases hlm : m < s.snaps_.l.length
        · obtain ⟨y, hy⟩ : ∃ y, s.snaps_.l[m]? = some y := ⟨_, qZa hlm⟩
          obtain ⟨b2, off2, hA2, hb2, hc2⟩ := Rd.elem (n := 5) (fun _ => rfl) (by omega) ((HG.out.below hBa).gsets_.el s (List.mem_of_getElem? HS.out)).gsnaps_.rd hy
          have f0 : wi.cell? ⟨b2, off2 + m * 5, none⟩ = some (.string y.name_) := hc2 0 _ rfl
          have f1 : wi.cell? ⟨b2, off2 + m * 5 + 1, none⟩ = some (.int .i64 y.guid_) := hc2 1 _ rfl
          have f2 : wi.cell? ⟨b2, off2 + m * 5 + 2, none⟩ = some (.slice y.body_.A y.body_.l.length y.body_.c) := hc2 2 _ rfl
          have f3 : wi.cell? ⟨b2, off2 + m * 5 + 3, none⟩ = some (.slice y.tags_.A y.tags_.l.length y.tags_.c) := hc2 3 _ rfl
          have f4 : wi.cell? ⟨b2, off2 + m * 5 + 4, none⟩ = some (.slice y.own_.A y.own_.l.length y.own_.c) := hc2 4 _ rfl
          obtain ⟨w3, hw3⟩ : ∃ w3, wi.alloc (.cells #[.string y.name_, .int .i64 y.guid_, .slice y.body_.A y.body_.l.length y.body_.c, .slice y.tags_.A y.tags_.l.length y.tags_.c, .slice y.own_.A y.own_.l.length y.own_.c] 49) = w3 := ⟨_, rfl⟩
          have hB3 : Below wi.heap.size wi w3 := hw3 ▸ (Below.refl _ wi).alloc (Nat.le_refl _) _
          have ky : Blk w3 wi.heap.size 49 [.string y.name_, .int .i64 y.guid_, .slice y.body_.A y.body_.l.length y.body_.c, .slice y.tags_.A y.tags_.l.length y.tags_.c, .slice y.own_.A y.own_.l.length y.own_.c] := hw3 ▸ Blk.new wi _ _
          have HW3 := Lib.hid hw3
          have HY := Lib.hid hy
          have HO3 := Lib.hid (ownBelow HO2.out hB3 (Nat.le_refl _))
          have ks3 := kb.of hB3
          have HTK := Lib.hid (heldL_take (s := s) hy)
          have htp := totL_part HS.out m hm
          have HTP := Lib.hid htp
          have hlw := HKB2.out.lt
          have hkt3 := HKT2.out.of hB3
          obtain ⟨g0, g1, g2, g3, g4⟩ := ky.all5
          obtain ⟨h0, h1, h2, h3, h4⟩ := ks3.all5
          have HA2 := Lib.hid hA2
          rw [hA2]
          clear hy hw3 hc2 hA2 htp e0 e1 e2 e3 e4
          go_upto_region 8 with fail
          rw [HW3.out]
          go_wp2_with fail
          refine (HI.out y w3).mono ?_
          rintro e w4 ⟨rfl, hV4⟩
          have ks4 := ks3.of hV4
          have ky4 := ky.of hV4
          have hB34 := hB3.trans (hV4.mono hB3.size)
          have HKT4 := Lib.hid (hkt3.of hV4)
          have HKB4 := Lib.hid ks4
          have HO4 := Lib.hid (ownBelow HO3.out hV4 (Nat.le_refl _))
          clear g0 g1 g2 g3 g4 h0 h1 h2 h3 h4
          obtain ⟨g0, g1, g2, g3, g4⟩ := ky4.all5
          obtain ⟨h0, h1, h2, h3, h4⟩ := ks4.all5
          by_cases hz : 0 < y.tags_.l.length
          · have hz' : decide (0 < y.tags_.l.length) = true := decide_eq_true hz
            rw [hz']
            have HTK' : Hid (allL (x.sets_.l.take k) ++ heldL s (s.snaps_.l.take (m + 1)) = (allL (x.sets_.l.take k) ++ heldL s (s.snaps_.l.take m)) ++ [atT s.path_ y.name_]) := Lib.hid (by rw [HTK.out, if_pos hz, List.append_assoc])
            have HJ := Lib.hid (fun W => join17_any s.path_ y.name_ (HG.out.gsets_.el s (List.mem_of_getElem? HS.out)).gpath_ (((HG.out.gsets_.el s (List.mem_of_getElem? HS.out)).gsnaps_.el y (List.mem_of_getElem? HY.out)).gname_) W)
            rw [join_at] at HJ
            obtain ⟨Q, hQ⟩ : ∃ Q, allL (x.sets_.l.take k) ++ heldL s (s.snaps_.l.take m) = Q := ⟨_, rfl⟩
            rw [hQ] at HO4 HTK' HTP
            obtain ⟨Av, cv, hv, _, _, _, _⟩ := ownAny HO4.out
            subst hv
            have hXw : Below w.heap.size w w4 := hBa.trans (hB34.mono hBa.size)
            have hszw := hXw.size
            clear hz hz' hQ
            go_wp2_with fail
            refine (HJ.out w4).mono ?_
            rintro e w5 ⟨rfl, rfl⟩
            go_wp2_with (at_builtin; refine wpAppendK rfl rfl Tryz.underlying46 (fun s => [Value.string s]) (fun _ => rfl) (by decide) (fun y u hu => by rw [List.mem_singleton] at hu; subst hu; rfl) infoSt rfl hXw hszw (by rw [flatT]; exact HO4.out) (atT s.path_ y.name_) rfl rfl (by have h1 := HTP.out; have h2 := HT.out; unfold maxLen; omega) (by have h1 := HTP.out; have h2 := HT.out; omega) ?_; intro g6 c6 x6 HO6 HB6 HK6)
            go_roundw
            case rel => exact ⟨m + 1, by omega, by go_num, Lib.hid (by rw [HTK'.out]; have h9 := HO6.out; rw [flatT] at h9; simpa [ownT] using h9), Lib.hid (HKT4.out.keep HK6.out (by decide)), Lib.hid (HA2.out ▸ HKB4.out.keep HK6.out (by decide)), HB6.out⟩
            case measure => simp [intOf]; omega
          · have hz' : decide (0 < y.tags_.l.length) = false := decide_eq_false hz
            rw [hz']
            have HTK' : Hid (heldL s (s.snaps_.l.take (m + 1)) = heldL s (s.snaps_.l.take m)) := Lib.hid (by rw [HTK.out, if_neg hz, List.append_nil])
            clear hz hz'
            go_wp2
            go_roundw
            case rel => exact ⟨m + 1, by omega, by go_num, Lib.hid (by rw [HTK'.out]; exact HO4.out), HKT4, HA2.out ▸ HKB4, hBa.trans (hB34.mono hBa.size)⟩
            case measure => simp [intOf]; omega
        · obtain rfl : m = s.snaps_.l.length := by omega
          have HO9 : Hid (ownT wi w.heap.size u3 (allL (x.sets_.l.take (k + 1)))) := Lib.hid (by rw [allL_take HS.out]; have h9 := HO2.out; rwa [List.take_length] at h9)
          go_wp2
          go_roundw
          case rel => exact ⟨k + 1, by omega, by go_num, HO9, HA.out ▸ HKT2, hBa⟩
          case measure => simp [intOf]; omega
    · obtain rfl : k = x.sets_.l.length := by omega
      have HO9 := HO.out
      rw [List.take_length] at HO9
      have HO9 := Lib.hid HO9
      go_wp2
      go_ret
      exact ⟨_, rfl, HO9.out, hB⟩
end Go.Proofs.YtimmcmjipmkebaaGreat
