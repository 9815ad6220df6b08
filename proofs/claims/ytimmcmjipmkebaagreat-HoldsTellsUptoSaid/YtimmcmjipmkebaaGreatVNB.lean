/-
 Cut at one octet, and Path: what they answer. Conditions: the text's length is one that a text may have.
-/
import Derived.Test.YtimmcmjipmkebaaGreatVENN
import Derived.Shelf.RegionOpenPlain
import Derived.Deep.Draws
import Derived.IntWalk
namespace Go.Proofs.YtimmcmjipmkebaaGreat
open Go.ChangeShapes Go.WideShapes Go.ChangeAt Go.RowKit Go.Shelf
set_option maxRecDepth 100000
theorem index_none (s : ByteArray) (c : UInt8) (h : c ∉ bs s) (w : World) :
 Calls Tryz.prog 199 #[.string s, .string ⟨#[c]⟩] w fun e w' => e = .returned (.int .i64 (-1)) ∧ w = w' :=
 (Tryz.stringslite_Index_one s c w).mono fun _ _ ⟨he, hw⟩ => ⟨by rw [he, show Lib.indexByte s.data.toList c = -1 from index_not h], hw.symm⟩
theorem index_some (s : ByteArray) (c : UInt8) (p r : List UInt8) (hs : bs s = p ++ c :: r) (h : c ∉ p) (w : World) :
 Calls Tryz.prog 199 #[.string s, .string ⟨#[c]⟩] w fun e w' => e = .returned (.int .i64 p.length) ∧ w = w' :=
 (Tryz.stringslite_Index_one s c w).mono fun _ _ ⟨he, hw⟩ => ⟨by rw [he, show s.data.toList = _ from hs, index_at r h], hw.symm⟩
theorem cut_none1 (s : ByteArray) (c : UInt8) (h : c ∉ bs s) (w : World) :
 Calls Tryz.prog 187 #[.string s, .string ⟨#[c]⟩] w fun e w' => e = .returned (.tuple #[.string s, .string ByteArray.empty, .bool false]) ∧ w = w' := by
 go_enter Tryz.func187, Tryz.ntmps187
 go_wp2_with (refine (index_none _ _ h _).mono ?_; rintro e w' ⟨rfl, rfl⟩)
 go_ret3
 exact ⟨rfl, rfl⟩
theorem cut_none (s : ByteArray) (c : UInt8) (h : c ∉ bs s) (w : World) :
 Calls Tryz.prog 153 #[.string s, .string ⟨#[c]⟩] w fun e w' => e = .returned (.tuple #[.string s, .string ByteArray.empty, .bool false]) ∧ w = w' := by
 go_enter Tryz.func153, Tryz.ntmps153
 go_wp2_with (refine (cut_none1 _ _ h _).mono ?_; rintro e w' ⟨rfl, rfl⟩)
 go_ret3
 exact ⟨rfl, rfl⟩
theorem extract_head {s : ByteArray} {c : UInt8} {p r : List UInt8} (hs : bs s = p ++ c :: r) : s.extract 0 p.length = ofL p := by
 rw [Lib.extract_eq, show s.data.toList = _ from hs]
 simp [ofL]
theorem extract_tail {s : ByteArray} {c : UInt8} {p r : List UInt8} (hs : bs s = p ++ c :: r) : s.extract (p.length + 1) s.size = ofL r := by
 have hl : s.size = p.length + (r.length + 1) := by rw [← zgX, hs]; simp
 rw [Lib.extract_eq, show s.data.toList = _ from hs, hl]
 rw [show p.length + (r.length + 1) - (p.length + 1) = r.length by omega, List.drop_append, List.drop_of_length_le (by omega : p.length ≤ p.length + 1), show p.length + 1 - p.length = 1 by omega]
 simp [ofL]
theorem cut_some1 (s : ByteArray) (c : UInt8) (p r : List UInt8) (hs : bs s = p ++ c :: r) (h : c ∉ p) (hz : s.size ≤ 9223372036854775807) (w : World) :
 Calls Tryz.prog 187 #[.string s, .string ⟨#[c]⟩] w fun e w' => e = .returned (.tuple #[.string (ofL p), .string (ofL r), .bool true]) ∧ w' = w.drew := by
 have hl : p.length + 1 ≤ s.size := by rw [← zgX, hs]; simp
 have H1 := zI (extract_head hs)
 have H2 := zI (extract_tail hs)
 have HS := zI hs
 clear hs
 go_enter Tryz.func187, Tryz.ntmps187
 go_wp2_with (refine (index_some _ _ p r HS.out h _).mono ?_; rintro e w' ⟨rfl, rfl⟩)
 have c1 : (0 : Int) ≤ ↑p.length := by omega
 have c2 : (↑p.length : Int) ≤ ↑s.size := by omega
 have c3 : (0 : Int) ≤ ↑p.length + 1 := by omega
 have c4 : (↑p.length + 1 : Int) ≤ ↑s.size := by omega
 have c5 : (↑p.length + 1 : Int).toNat = p.length + 1 := by omega
 have c6 : IntKind.i64.wrap (↑p.length + 1) = ↑p.length + 1 := IntWalk.i64_in _ (by omega)
 go_region
 all_goals clear c6
 all_goals (try go_wp2)
 all_goals go_ret3
 all_goals exact ⟨by rw [← H1.out, ← H2.out]; rfl, rfl⟩
theorem cut_some (s : ByteArray) (c : UInt8) (p r : List UInt8) (hs : bs s = p ++ c :: r) (h : c ∉ p) (hz : s.size ≤ 9223372036854775807) (w : World) :
 Calls Tryz.prog 153 #[.string s, .string ⟨#[c]⟩] w fun e w' => e = .returned (.tuple #[.string (ofL p), .string (ofL r), .bool true]) ∧ w' = w.drew := by
 have HS := zI hs
 clear hs
 go_enter Tryz.func153, Tryz.ntmps153
 go_wp2_with (refine (cut_some1 _ _ p r HS.out h hz _).mono ?_; rintro e w' ⟨rfl, rfl⟩)
 go_ret3
 exact ⟨rfl, rfl⟩
theorem part_any (b d : Nat) (s : ByteArray) (hd : d ≤ 4) (w : World) (_hb : b < w.heap.size) (hc : w.cell? ⟨b, 0, none⟩ = some (.int .i64 d)) (hf : w.frozen? ⟨b, 0, none⟩ = false) :
 Calls Tryz.prog 94 #[.string s, .pointer (some ⟨b, 0, none⟩)] w fun e w' => e = .returned (.bool (decide (d < 4) && zaQ (bs s))) ∧ w' = w.setCell ⟨b, 0, none⟩ (.int .i64 ((d + 1 : Nat) : Int)) := by
 have h4 : (d : Int) ≤ 4 := by omega
 by_cases h3 : d < 4
 · go_enter Tryz.func94, Tryz.ntmps94
   go_wp2_with (refine (name_any _ _).mono ?_; rintro e w' ⟨rfl, rfl⟩)
   go_ret
   exact ⟨zaZ (by simp [h3]), rfl⟩
 · go_enter Tryz.func94, Tryz.ntmps94
   go_wp2
   go_ret
   exact ⟨zaZ (by simp), rfl⟩
theorem part_is (v : Bool) (b d : Nat) (s : ByteArray) (hd : d ≤ 4) (hv : (decide (d < 4) && zaQ (bs s)) = v) (w : World) (hb : b < w.heap.size) (hc : w.cell? ⟨b, 0, none⟩ = some (.int .i64 d)) (hf : w.frozen? ⟨b, 0, none⟩ = false) :
 Calls Tryz.prog 94 #[.string s, .pointer (some ⟨b, 0, none⟩)] w fun e w' => e = .returned (.bool v) ∧ w' = w.setCell ⟨b, 0, none⟩ (.int .i64 ((d + 1 : Nat) : Int)) := by
 rw [← hv]
 exact part_any b d s hd w hb hc hf
def PartRel (b : Nat) (s0 : ByteArray) (w : World) (v m : Value) (wr : World) : Prop :=
 ∃ (d : Nat) (s : ByteArray) (mo : Bool), d ≤ 4 ∧ s.size ≤ 9223372036854775807 ∧ v = .string s ∧ m = .bool mo ∧ wr.cell? ⟨b, 0, none⟩ = some (.int .i64 d) ∧ wr.frozen? ⟨b, 0, none⟩ = false ∧ b < wr.heap.size ∧ Below b w wr ∧ (if mo then pathB (4 - d) (bs s) else true) = pathB 4 (bs s0)
def partLeft : Value → Value → Nat
 | .string s, .bool true => s.size + 1
 | _, _ => 0
theorem path_hit {d : Nat} {p r : List UInt8} (h47 : 47 ∉ p) (hv : (decide (d < 4) && zaQ p) = true) : pathB (4 - d) (p ++ 47 :: r) = pathB (4 - (d + 1)) r ∧ d < 4 := by
 simp only [Bool.and_eq_true, decide_eq_true_eq] at hv
 refine ⟨?_, hv.1⟩
 rw [show 4 - d = (4 - (d + 1)) + 1 by omega, pathB, cut1_at r h47, hv.2]
 rfl
theorem path_end {d : Nat} {p : List UInt8} (h47 : 47 ∉ p) (hv : (decide (d < 4) && zaQ p) = true) : pathB (4 - d) p = true ∧ d < 4 := by
 simp only [Bool.and_eq_true, decide_eq_true_eq] at hv
 refine ⟨?_, hv.1⟩
 rw [show 4 - d = (4 - (d + 1)) + 1 by omega, pathB, cut1_not h47, hv.2]
 rfl
theorem path_miss {d : Nat} {p r : List UInt8} (h47 : 47 ∉ p) (hd : d ≤ 4) (hv : (decide (d < 4) && zaQ p) = false) : pathB (4 - d) (p ++ 47 :: r) = false ∧ pathB (4 - d) p = false := by
 by_cases h : d < 4
 · simp only [h, decide_true, Bool.true_and] at hv
   rw [show 4 - d = (4 - (d + 1)) + 1 by omega, pathB, pathB, cut1_at r h47, cut1_not h47, hv]
   exact ⟨rfl, rfl⟩
 · obtain rfl : d = 4 := by omega
   exact ⟨rfl, rfl⟩
theorem parts_any (b : Nat) (s0 : ByteArray) (hz : s0.size ≤ 9223372036854775807) (w : World) (hb : b < w.heap.size) (hc : w.cell? ⟨b, 0, none⟩ = some (.int .i64 0)) (hf : w.frozen? ⟨b, 0, none⟩ = false) :
 Calls Tryz.prog 93 #[.string s0, .func (.func 94) #[] #[.pointer (some ⟨b, 0, none⟩)]] w fun e w' => e = .returned (.bool (pathB 4 (bs s0))) ∧ Below b w w' := by
 go_enter Tryz.func93, Tryz.ntmps93
 go_wp2
 go_loopw [0, 5] (fun v m wr => PartRel b s0 w v m wr) (fun v m _ => partLeft v m)
 case atStart => exact ⟨0, s0, true, by omega, hz, rfl, rfl, hc, hf, hb, Below.refl _ _, rfl⟩
 case round =>
  clear hc hf hb hz
  obtain ⟨d, s, mo, hd, hz, rfl, rfl, hc, hf, hb, hB, hp⟩ := hrel
  have HP := zI hp
  clear hp
  rcases mo with _ | _
  · go_wp2
    go_ret
    exact ⟨zaZ HP.out, hB⟩
  · by_cases hm : (47 : UInt8) ∈ bs s
    · obtain ⟨p, r, hs, h47⟩ := split_mem hm
      have HS := zI hs
      have hsz : r.length < s.size := by rw [← zgX, hs]; simp; omega
      clear hs hm
      have hc1 : wr.drew.cell? ⟨b, 0, none⟩ = some (.int .i64 d) := hc
      rcases hv : (decide (d < 4) && zaQ (bs (ofL p))) with _ | _
      · have HV := zI hv
        clear hv
        go_wp2_with (first | (refine (cut_some _ _ p r HS.out h47 hz _).mono ?_; rintro e w' ⟨rfl, rfl⟩) | (refine (part_is false b d (ofL p) hd HV.out wr.drew hb hc1 hf).mono ?_; rintro e w' ⟨rfl, rfl⟩))
        go_ret
        exact ⟨zaZ (by rw [← HP.out]; show false = pathB (4 - d) (bs s); rw [HS.out]; exact (path_miss h47 hd (by rw [← HV.out, bs_ofL])).1.symm), (hB.drew).setCell (Nat.le_refl _) _⟩
      · have HV := zI hv
        clear hv
        go_wp2_with (first | (refine (cut_some _ _ p r HS.out h47 hz _).mono ?_; rintro e w' ⟨rfl, rfl⟩) | (refine (part_is true b d (ofL p) hd HV.out wr.drew hb hc1 hf).mono ?_; rintro e w' ⟨rfl, rfl⟩))
        have hk := path_hit (r := r) h47 (by rw [← HV.out, bs_ofL])
        go_roundw
        case rel =>
         refine ⟨d + 1, ofL r, true, by omega, by rw [ofL_size]; omega, rfl, rfl, ?_, ?_, ?_, (hB.drew).setCell (Nat.le_refl _) _, ?_⟩
         · exact World.cell?_setCell_same wr ⟨b, 0, none⟩ _ hc
         · exact (World.frozen?_setCell wr ⟨b, 0, none⟩ ⟨b, 0, none⟩ _).trans hf
         · show b < (wr.setCell _ _).heap.size
           simpa using hb
         · show pathB (4 - (d + 1)) (bs (ofL r)) = _
           rw [bs_ofL, ← hk.1, ← HS.out]
           exact HP.out
        case measure => simp [partLeft, ofL_size]; omega
    · rcases hv : (decide (d < 4) && zaQ (bs s)) with _ | _
      · have HV := zI hv
        clear hv
        go_wp2_with (first | (refine (cut_none _ _ hm _).mono ?_; rintro e w' ⟨rfl, rfl⟩) | (refine (part_is false b d s hd HV.out wr hb hc hf).mono ?_; rintro e w' ⟨rfl, rfl⟩))
        go_ret
        exact ⟨zaZ (by rw [← HP.out]; show false = pathB (4 - d) (bs s); exact (path_miss (r := []) hm hd HV.out).2.symm), hB.setCell (Nat.le_refl _) _⟩
      · have HV := zI hv
        clear hv
        go_wp2_with (first | (refine (cut_none _ _ hm _).mono ?_; rintro e w' ⟨rfl, rfl⟩) | (refine (part_is true b d s hd HV.out wr hb hc hf).mono ?_; rintro e w' ⟨rfl, rfl⟩))
        have hk := path_end hm HV.out
        go_roundw
        case rel =>
         refine ⟨d + 1, ByteArray.empty, false, by omega, by simp, rfl, rfl, ?_, ?_, ?_, hB.setCell (Nat.le_refl _) _, ?_⟩
         · exact World.cell?_setCell_same wr ⟨b, 0, none⟩ _ hc
         · exact (World.frozen?_setCell wr ⟨b, 0, none⟩ ⟨b, 0, none⟩ _).trans hf
         · show b < (wr.setCell _ _).heap.size
           simpa using hb
         · exact hk.1.symm.trans HP.out
        case measure => simp [partLeft]
theorem path_any (s : ByteArray) (hz : s.size ≤ 9223372036854775807) (w : World) :
 Calls Tryz.prog 44 #[.string s] w fun e w' => e = .returned (.bool (zeX (bs s))) ∧ Below w.heap.size w w' := by
 have hmf : ∀ (fn : Fn) (first cap : Array Value) (w : World), (Instr.makeFunc fn first cap).run Tryz.prog w = .ok (.func fn first cap) w := fun _ _ _ _ => rfl
 by_cases h : s = ByteArray.empty
 · subst h
   go_enter Tryz.func44, Tryz.ntmps44
   go_wp2
   go_ret
   exact ⟨rfl, Below.refl _ _⟩
 · have he : (bs s).isEmpty = false := by
    rcases hb : bs s with _ | ⟨z, l⟩
    · exact absurd (bs_inj (t := ByteArray.empty) hb) h
    · rfl
   have HN : Hid (zeX (bs s) = pathB 4 (bs s)) := by
    show zeX (bs s) = pathB 4 (bs s)
    simp [zeX, he]
   have he2 : s.toList.isEmpty = false := by rw [Lib.toList_data]; exact he
   clear he h
   have hc : (w.alloc (.cells #[.int .i64 0] 3)).cell? ⟨w.heap.size, 0, none⟩ = some (.int .i64 0) := by rw [World.cell?_alloc_at _ _ _ _ rfl]; rfl
   have hf : (w.alloc (.cells #[.int .i64 0] 3)).frozen? ⟨w.heap.size, 0, none⟩ = false := World.frozen?_alloc_at _ _ _ _ (by simp)
   have HC := zI hc
   have HF := zI hf
   clear hc hf
   go_enter Tryz.func44, Tryz.ntmps44
   go_wp2_with (refine (parts_any w.heap.size s hz (w.alloc (.cells #[.int .i64 0] 3)) (by simp) HC.out HF.out).mono ?_; rintro e w' ⟨rfl, hB⟩)
   go_ret
   exact ⟨zaZ HN.out.symm, ((Below.refl _ w).alloc (Nat.le_refl _) _).trans hB⟩
end Go.Proofs.YtimmcmjipmkebaaGreat
