/-
  num, alive of the law of pages; PagesTells' walk. Conditions: the slices are ones that may be; the number is one.
-/
import Derived.Test.YthelklgpabjfkaaPE
import Derived.Test.YthelklgpabjfkaaPG
import Derived.Test.YthelklgpabjfkaaPH
namespace Go.Proofs.Ythelklgpabjfkaa
open Go.ChangeShapes Go.WideShapes Go.ChangeAt Go.RowKit

theorem num_any (n : Int) (w : World) :
    Calls Try.prog 13 #[.int .i64 n] w fun e w' => e = .returned (.int .i64 n) ∧ w = w' := by
  go_enter Try.func13, Try.ntmps13
  go_wp2
  go_ret
  exact ⟨rfl, rfl⟩

/-- What Encode lays. -/
def pgEnc (b : List Int) (next : Int) : List Int := if pgE b.length next = 0 then pgO b next else []
theorem pgEnc_octs {b : List Int} (next : Int) (h : Octs b) : Octs (pgEnc b next) := by
  unfold pgEnc
  split
  · exact pgO_octs next h
  · intro z hz; simp at hz
theorem pgEnc_le (b : List Int) (next : Int) : (pgEnc b next).length ≤ 64 := by
  unfold pgEnc
  split
  · rename_i h
    rw [pgO_length next (pgE_ok.1 h).1]
    exact Nat.le_refl _
  · simp
theorem pageEncode_uni (s : Slc) (next : Int) (w : World) (hs : s.ok w) :
    Calls Try.prog 7 #[s.val, .int .i64 next] w fun e w' => ∃ v, e = .returned (.tuple #[v, .int .i64 (pgE s.zs.length next)]) ∧ w'.ownsRow w.heap.size 5 1 v (pgEnc s.zs next).length (octCells (pgEnc s.zs next)) ∧ Below w.heap.size w w' := by
  by_cases h : pgE s.zs.length next = 0
  · have he : pgEnc s.zs next = pgO s.zs next := by unfold pgEnc; rw [if_pos h]
    rw [he, h, pgO_length next (pgE_ok.1 h).1]
    exact pageEncode_ok s next h w hs
  · have he : pgEnc s.zs next = [] := by unfold pgEnc; rw [if_neg h]
    rw [he]
    refine (pageEncode_no s next h w hs).mono ?_
    rintro e w' ⟨rfl, rfl⟩
    exact ⟨_, rfl, own_none _ _ _, Below.refl _ _⟩
theorem refPage_uni (s : Slc) (next : Int) (hnil : s.A = none → s.c = 0) (w : World) (hs : s.ok w) :
    Calls Try.prog 8 #[s.val, .int .i64 next] w fun e w' => ∃ A c, e = .returned (.tuple #[.slice A (pgEnc s.zs next).length c, .int .i64 (pgE s.zs.length next)]) ∧ RdB w' A (pgEnc s.zs next) ∧ Below w.heap.size w w' := by
  by_cases h : pgE s.zs.length next = 0
  · have he : pgEnc s.zs next = pgO s.zs next := by unfold pgEnc; rw [if_pos h]
    rw [he, h, pgO_length next (pgE_ok.1 h).1]
    refine (refPage_ok s next h hnil w hs).mono ?_
    rintro e w' ⟨A, c, rfl, _, hr, hB⟩
    exact ⟨A, c, rfl, hr, hB⟩
  · have he : pgEnc s.zs next = [] := by unfold pgEnc; rw [if_neg h]
    rw [he]
    refine (refPage_no s next h w hs).mono ?_
    rintro e w' ⟨rfl, rfl⟩
    exact ⟨none, 0, rfl, RdB.nil _ _, Below.refl _ _⟩
/-- What came out of a call, as a slice that may be. -/
theorem Slc.of_own {w : World} {base n : Nat} {v : Value} {zs : List Int} (h : w.ownsRow base 5 1 v n (octCells zs)) (hn : zs.length = n) (ho : Octs zs) (hl : n ≤ maxLen) : ∃ s : Slc, v = s.val ∧ s.zs = zs ∧ s.ok w ∧ (s.A = none → s.c = 0) := by
  obtain ⟨A, c, rfl, hc, hr⟩ := own_slice h
  subst hn
  refine ⟨⟨A, zs, c⟩, rfl, rfl, ⟨hc, hl, ho, hr⟩, fun hA => ?_⟩
  dsimp only at hA ⊢
  subst hA
  rcases h.2 with ⟨h', _⟩ | ⟨g, cap, cur, h', _⟩
  · injection h'
  · cases h'

set_option maxHeartbeats 400000 in
theorem alive_any (w : World) : Calls Try.prog 14 #[] w fun e w' => e = .returned (.bool true) ∧ Below w.heap.size w w' := by
  have h1 := count_any 53 (by omega) w
  rw [show cntI 53 = 2 from rfl] at h1
  have HC := Lib.hid h1
  have hm := makeZ 53 53 rfl (by omega) w
  have hB0 : Below w.heap.size w (w.alloc (.cells ((List.replicate 53 (0 : Int)).map (Value.int .u8)).toArray 5)) := (Below.refl _ w).alloc (Nat.le_refl _) _
  have h2 := cut_any ⟨some ⟨w.heap.size, 0, none⟩, List.replicate 53 0, 53⟩ (w.alloc (.cells ((List.replicate 53 (0 : Int)).map (Value.int .u8)).toArray 5))
    ⟨by simp, by unfold maxLen; simp, (fun z hz => by rw [(List.mem_replicate.1 hz).2]; omega), RdB.of_blk (Blk.new w ((List.replicate 53 (0 : Int)).map (Value.int .u8)) 5)⟩ (by simp)
  unfold Slc.val at h2
  simp only [List.length_replicate] at h2
  rw [show cntN 53 = 2 from rfl] at h2
  rw [← zeros_are] at h2 hm hB0
  obtain ⟨w0, hw0⟩ : ∃ w0, w.alloc (.cells (Array.replicate 53 (Value.int .u8 0)) 5) = w0 := ⟨_, rfl⟩
  rw [hw0] at h2 hm hB0
  have HT := Lib.hid h2
  clear h1 h2 hw0
  go_enter Try.func14, Try.ntmps14
  go_wp2_with (first
    | (go_at_call 11; refine HC.out.mono ?_; rintro e w1 ⟨rfl, rfl⟩)
    | (go_at_call 15; refine HT.out.mono ?_; rintro e w2 ⟨v, qs, rfl, hown, _, hB2⟩; obtain ⟨A, c, rfl, _, _⟩ := own_slice hown; clear hown))
  go_ret
  exact ⟨rfl, hB0.trans (hB2.mono hB0.size)⟩

set_option maxHeartbeats 2000000 in
set_option maxRecDepth 100000 in
theorem tells_walk (n : Int) (hn : n ≤ 9223372036854775807) (s : Slc) (next : Int) (t : Slc) (w : World) (hs : s.ok w) (hnil : s.A = none → s.c = 0) (ht : t.ok w) :
    Calls Try.prog 3 #[.int .i64 n, s.val, .int .i64 next, t.val] w fun e w' => e = .returned (.bool true) ∧ Below w.heap.size w w' := by
  have HE := Lib.hid (fun w h => pageEncode_uni s next w h)
  have HE' := Lib.hid (fun w h => refPage_uni s next hnil w h)
  have HD := Lib.hid (fun w h => pageDecode_any t w h)
  have HD' := Lib.hid (fun w h => refUnpage_any t w h)
  have HC := Lib.hid (count_any n hn)
  have HC' := Lib.hid (refCount_any n hn)
  have HS := Lib.hid hs
  have HT := Lib.hid ht
  generalize cntI n = k at *
  generalize pgEnc s.zs next = ze at *
  generalize pgE s.zs.length next = ee at *
  generalize pgAns t.zs = aa at *
  obtain ⟨zd, nd, ed⟩ := aa
  dsimp only at HD HD'
  clear hs ht hnil
  go_enter Try.func3, Try.ntmps3
  go_wp2_with fail
  refine (HE.out w HS.out).mono ?_
  rintro e w1 ⟨v1, rfl, hown1, hB1⟩
  obtain ⟨A1, c1, rfl, _, hr1⟩ := own_slice hown1
  clear hown1
  go_wp2_with fail
  refine (HE'.out w1 (HS.out.below hB1)).mono ?_
  rintro e w2 ⟨A2, c2, rfl, hr2, hB2⟩
  have hB02 : Below w.heap.size w w2 := hB1.trans (hB2.mono hB1.size)
  have hr12 := hr1.below hB2
  clear hr1 hB1 hB2
  go_wp2_with fail
  refine (HD.out w2 (HT.out.below hB02)).mono ?_
  rintro e w3 ⟨v3, rfl, hown3, hB3⟩
  obtain ⟨A3, c3, rfl, _, hr3⟩ := own_slice hown3
  have hB03 : Below w.heap.size w w3 := hB02.trans (hB3.mono hB02.size)
  have hr13 := hr12.below hB3
  have hr23 := hr2.below hB3
  clear hown3 hr12 hr2 hB02 hB3
  go_wp2_with fail
  refine (HD'.out w3 (HT.out.below hB03)).mono ?_
  rintro e w4 ⟨v4, rfl, hown4, hB4⟩
  obtain ⟨A4, c4, rfl, _, hr4⟩ := own_slice hown4
  have hB04 : Below w.heap.size w w4 := hB03.trans (hB4.mono hB03.size)
  have hq1 := run_string_rd (P := Try.prog) w4 22 5 9 Try.underlying22 Try.underlying5 Try.underlying9 A1 ze c1 (hr13.below hB4)
  have hq2 := run_string_rd (P := Try.prog) w4 22 5 9 Try.underlying22 Try.underlying5 Try.underlying9 A2 ze c2 (hr23.below hB4)
  have hq3 := run_string_rd (P := Try.prog) w4 22 5 9 Try.underlying22 Try.underlying5 Try.underlying9 A3 zd c3 (hr3.below hB4)
  have hq4 := run_string_rd (P := Try.prog) w4 22 5 9 Try.underlying22 Try.underlying5 Try.underlying9 A4 zd c4 hr4
  clear hr13 hr23 hr3 hown4 hr4 hB4 hB03 HE HE' HD HD' HS HT
  generalize strOfNums ze = se at *
  generalize ze.length = ne at *
  generalize strOfNums zd = sd at *
  generalize zd.length = nd' at *
  go_wp2_with (first
    | (go_at_call 11; refine (HC.out w4).mono ?_; rintro e w' ⟨rfl, rfl⟩)
    | (go_at_call 12; refine (HC'.out w4).mono ?_; rintro e w' ⟨rfl, rfl⟩)
    | (go_at_call 13; refine (num_any _ _).mono ?_; rintro e w' ⟨rfl, rfl⟩)
    | (go_at_call 14; refine (alive_any w4).mono ?_; rintro e w5 ⟨rfl, hB5⟩))
  go_ret
  exact ⟨rfl, hB04.trans (hB5.mono hB04.size)⟩

end Go.Proofs.Ythelklgpabjfkaa
