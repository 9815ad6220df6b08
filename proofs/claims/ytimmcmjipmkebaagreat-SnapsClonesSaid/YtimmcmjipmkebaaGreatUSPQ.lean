/-
  snaps: Clone. Conditions: the tenant is as it comes in.
-/
import Derived.Test.YtimmcmjipmkebaaGreatUHLP
import Derived.Test.YtimmcmjipmkebaaGreatUHWA
import Derived.Test.YtimmcmjipmkebaaGreatUHCR
namespace Go.Proofs.YtimmcmjipmkebaaGreat
open Go.ChangeShapes Go.WideShapes Go.ChangeAt Go.RowKit
set_option maxRecDepth 100000
set_option linter.unusedSimpArgs false
theorem join_at (p n : ByteArray) : p ++ ⟨#[64]⟩ ++ n = atT p n := by
  have hb : bs (p ++ ⟨#[64]⟩ ++ n) = bs p ++ 64 :: bs n := by
    have h1 : (p ++ ⟨#[64]⟩ ++ n).data = (p ++ ⟨#[64]⟩).data ++ n.data := ByteArray.data_append
    have h2 : (p ++ (⟨#[64]⟩ : ByteArray)).data = p.data ++ (⟨#[64]⟩ : ByteArray).data := ByteArray.data_append
    unfold bs
    rw [h1, h2]
    simp
  unfold atT
  rw [← hb, ofL_bs]
theorem join17_any (s n : ByteArray) (hs : s.size ≤ 140737488351232) (hn : n.size ≤ 140737488351232) (w : World) :
    Calls Tryz.prog 59 #[.string s, .string n] w fun e w' => e = .returned (.string (s ++ ⟨#[64]⟩ ++ n)) ∧ w = w' := by
  go_enter Tryz.func59, Tryz.ntmps59
  go_wp2
  go_ret
  exact ⟨rfl, rfl⟩
theorem clone_ok17 {t : PTenant} {p n tt o : ByteArray} {s : PSet} {y : PSnap} (hsp : splitP o = some (p, n)) (he' : cloneE t p n tt = 0) (hs : setAt t p = some s) (hy : snapOf s n = some y) : okT (withP t (cloneS tt o y)) = true := by
  unfold cloneE at he'
  by_cases hf : foundE t p n (isPath (bs tt)) true = 0
  · rw [if_neg (fun k => k hf)] at he'
    obtain ⟨h1, h2, h3, h4, s1, hs1, h5⟩ := found_ways hf
    rw [hs] at hs1
    injection hs1 with hs1
    subst hs1
    obtain ⟨r1, r2, r3⟩ := room_ways he'
    obtain ⟨hym, hyn⟩ := snapOf_some hy
    obtain ⟨_, hl, h0, hg⟩ := okT_parts.1 h1
    obtain ⟨g1, _⟩ := (goodL_iff ltPath_trans).1 hg
    obtain ⟨hsm, hsp'⟩ := setAt_some hs
    obtain ⟨b1, b2, b3, b4⟩ := setB_parts (g1 s hsm)
    have hyb := (snapsB_parts.1 b3).1.1 y hym
    unfold snapB at hyb
    simp only [Bool.and_eq_true] at hyb
    have hok : setB t (cloneS tt o y) = true := by
      have hn := new_ok h4 r2 r1 h0
      refine setB_to hn rfl hyb.2.2.2.1 hyb.2.2.2.2 rfl (fun q z hz => ⟨z, hz⟩) ?_
      unfold origB
      rw [Bool.or_eq_true]
      right
      show (match splitP o with | none => false | some (q, m) => decide (q ≠ tt) && match setAt t q with | none => false | some x => hasSnap x m) = true
      rw [hsp]
      dsimp only
      rw [hs, Bool.and_eq_true, decide_eq_true_eq]
      refine ⟨?_, h5 rfl⟩
      rintro rfl
      rw [hasSet_iff.2 ⟨s, hs⟩] at r1
      cases r1
    exact with_ok h1 (by omega) (hasSet_no.1 r1) hok
  · rw [if_pos hf] at he'
    exact absurd he' hf
theorem find_neg (x : MTenant) (p : ByteArray) : (findM x p < 0) ↔ hasSet x.plain p = false := by
  rw [hasSet_find, decide_eq_false_iff_not]
  omega
theorem find_pos (x : MTenant) (p : ByteArray) : (0 ≤ findM x p) ↔ hasSet x.plain p = true := by
  rw [hasSet_find, decide_eq_true_eq]
theorem cloneE_is (x : MTenant) (p n tt : ByteArray) : orL [okE x, whenI 31 ([!isPath (bs p), !isName (bs n), !isPath (bs tt)].any id), whenI 71 ([decide (atN x p n < 0)].any id), whenI 6 ([decide (0 ≤ findM x tt)].any id), whenI 71 ([!(upP tt).isSome, decide (findM x ((upP tt).getD ByteArray.empty) < 0)].any id), whenI 3 ([decide ((32 : Int) ≤ (x.sets_.l.length : Int))].any id)] = cloneE x.plain p n tt := by
  unfold cloneE
  by_cases hf : foundE x.plain p n (isPath (bs tt)) true = 0
  · obtain ⟨h1, h2, h3, h4, j, s, k, y, a, b, b2, c, d, _⟩ := found_zero hf
    have h8 : ¬ (k : Int) < 0 := by omega
    have hle : x.sets_.l.length ≤ 32 := by
      have h9 := (okT_parts.1 h1).2.1
      rwa [show x.plain.sets_ = x.sets_.l.map MSet.plain from rfl, List.length_map] at h9
    have h10 : ((32 : Int) ≤ (x.sets_.l.length : Int)) ↔ (x.plain.sets_.length = 32) := by
      rw [show x.plain.sets_ = x.sets_.l.map MSet.plain from rfl, List.length_map]
      omega
    have hr := (okT_parts.1 h1).2.2.1
    rw [hf, if_neg (fun h => h rfl), d]
    simp only [h10, find_neg, find_pos]
    unfold roomE whenI okE
    rw [h1, h2, h3, h4]
    rcases hA : hasSet x.plain tt with _ | _
    · rcases hu : upP tt with _ | u
      · have := (upP_none h4).1 hu
        rw [this, hr] at hA
        cases hA
      · rcases hB : hasSet x.plain u with _ | _
        · simp [orL_cons, orL_nil, h8, hB]
        · by_cases hC : x.plain.sets_.length = 32 <;> simp [orL_cons, orL_nil, h8, hB, hC]
    · simp [orL_cons, orL_nil, h8]
  · rw [if_pos hf, foundE_is]
    rw [foundE_is] at hf
    unfold whenI okE at *
    rcases h1 : okT x.plain with _ | _
    · simp [orL_cons, orL_nil]
    · rcases h2 : isPath (bs p) with _ | _
      · simp [orL_cons, orL_nil]
      · rcases h3 : isName (bs n) with _ | _
        · simp [orL_cons, orL_nil]
        · rcases h4 : isPath (bs tt) with _ | _
          · simp [orL_cons, orL_nil]
          · rcases place_ways17 x p n with ⟨a, b, c, d, e⟩ | ⟨j, s, a, b, b2, c, d, d2, e, f, _⟩ | ⟨j, s, k, y, a, b, b2, c, d, d3, d4, d2, e, f, _⟩
            · rw [a, c]; simp [orL_cons, orL_nil]
            · have h7 : ¬ (j : Int) < 0 := by omega
              rw [a, d]; simp [orL_cons, orL_nil, h7]
            · have h7 : ¬ (j : Int) < 0 := by omega
              have h8 : ¬ (k : Int) < 0 := by omega
              rw [h1, h2, h3, h4, a, d] at hf
              exact absurd (by simp [orL_cons, orL_nil, h7, h8]) hf
set_option maxHeartbeats 8000000 in
theorem clone_any (x : MTenant) (p n tt : ByteArray) (hp : p.size ≤ 140737488351232) (ht : tt.size ≤ 140737488351232) (w : World) (hx : x.Good w) :
    Calls Tryz.prog 18 #[.agg x.cells.toArray, .string p, .string n, .string tt] w fun e w' => AnsT w (cloneP x.plain p n tt (atT p n)) e w' := by
  obtain ⟨a1, hw1⟩ : ∃ a1, w.alloc (.cells #[.string x.name_, .int .i64 x.quota_, .int .i64 x.next_, .slice x.sets_.A x.sets_.l.length x.sets_.c, .slice x.grants_.A x.grants_.l.length x.grants_.c, .slice x.stages_.A x.stages_.l.length x.stages_.c, .slice x.log_.A x.log_.l.length x.log_.c] 27) = a1 := ⟨_, rfl⟩
  have b1 : Below w.heap.size w a1 := hw1 ▸ (Below.refl _ w).alloc (Nat.le_refl _) _
  have k1 : Blk a1 w.heap.size 27 [.string x.name_, .int .i64 x.quota_, .int .i64 x.next_, .slice x.sets_.A x.sets_.l.length x.sets_.c, .slice x.grants_.A x.grants_.l.length x.grants_.c, .slice x.stages_.A x.stages_.l.length x.stages_.c, .slice x.log_.A x.log_.l.length x.log_.c] := hw1 ▸ Blk.new w _ _
  obtain ⟨a2, hw2⟩ : ∃ a2, a1.alloc (.cells #[.string ⟨#[]⟩, .int .i64 0, .int .i64 0, .slice none 0 0, .slice none 0 0, .slice none 0 0, .slice none 0 0] 27) = a2 := ⟨_, rfl⟩
  have b2 : Below a1.heap.size a1 a2 := hw2 ▸ (Below.refl _ a1).alloc (Nat.le_refl _) _
  have k2 : Blk a2 a1.heap.size 27 [.string ⟨#[]⟩, .int .i64 0, .int .i64 0, .slice none 0 0, .slice none 0 0, .slice none 0 0, .slice none 0 0] := hw2 ▸ Blk.new a1 _ _
  have hX2 : w.heap.size + 1 = a1.heap.size := by rw [← hw1, World.size_alloc]
  have hB1 : Below w.heap.size w a1 := b1
  have hB2 : Below w.heap.size w a2 := hB1.trans (b2.mono hB1.size)
  have k1 := k1.of b2
  have hs2 := hB2.size
  have hs1 := hB1.size
  have ht1 : a1.heap.size ≤ a2.heap.size := b2.size
  have HW1 := Lib.hid hw1
  have HW2 := Lib.hid hw2
  clear hw1 b1 hw2 b2
  have hx2 := hx.below hB2
  have HXW := Lib.hid hx
  have HFD := Lib.hid (find17_any x p n a2 hx2)
  have HCK : Hid (∀ W, Below a2.heap.size a2 W → Calls Tryz.prog 42 #[.agg x.cells.toArray] W fun e w' => e = .returned (.int .i64 (okE x)) ∧ Below W.heap.size W w') := Lib.hid fun W hW => check_any14 x W (hx2.below hW)
  have HPT := Lib.hid (fun W => path_any p (Nat.le_trans hp (by decide)) W)
  have HNM := Lib.hid (fun W => name_any n W)
  have hlk1 := k1.lt
  have hlk2 := k2.lt
  have HG := Lib.hid hx2
  have hos := cloneE_is x p n tt
  obtain ⟨TB, hTB⟩ : ∃ TB, isPath (bs tt) = TB := ⟨_, rfl⟩
  obtain ⟨F2, hF2⟩ : ∃ F2, findM x tt = F2 := ⟨_, rfl⟩
  obtain ⟨BI, hBI⟩ : ∃ BI, (upP tt).isSome = BI := ⟨_, rfl⟩
  obtain ⟨UU, hUU⟩ : ∃ UU, (upP tt).getD ByteArray.empty = UU := ⟨_, rfl⟩
  rw [hUU] at hos
  obtain ⟨F3, hF3⟩ : ∃ F3, findM x UU = F3 := ⟨_, rfl⟩
  have HP2 : Hid (∀ W, Calls Tryz.prog 44 #[.string tt] W fun e w' => e = .returned (.bool TB) ∧ Below W.heap.size W w') := Lib.hid fun W => by
    have h9 := path_any tt (Nat.le_trans ht (by decide)) W
    rwa [hTB] at h9
  have HPR2 : Hid (∀ W, Calls Tryz.prog 57 #[.string tt] W fun e w' => e = .returned (.tuple #[.string UU, .bool BI]) ∧ Below W.heap.size W w') := Lib.hid fun W => by
    have h9 := parent_any tt (Nat.le_trans ht (by decide)) W
    have h8 : parV tt = .tuple #[.string UU, .bool BI] := by
      rw [← hUU, ← hBI]
      unfold parV
      rcases upP tt with _ | u <;> rfl
    rwa [h8] at h9
  have HF2 : Hid (∀ W, Below a2.heap.size a2 W → Calls Tryz.prog 58 #[.agg x.cells.toArray, .string tt] W fun e w' => e = .returned (.int .i64 F2) ∧ Below W.heap.size W w') := Lib.hid fun W hW => by
    have h9 := find_any x tt W (hx2.below hW)
    rwa [hF2] at h9
  have HF3 : Hid (∀ W, Below a2.heap.size a2 W → Calls Tryz.prog 58 #[.agg x.cells.toArray, .string UU] W fun e w' => e = .returned (.int .i64 F3) ∧ Below W.heap.size W w') := Lib.hid fun W hW => by
    have h9 := find_any x UU W (hx2.below hW)
    rwa [hF3] at h9
  obtain ⟨I, hI⟩ : ∃ I, findM x p = I := ⟨_, rfl⟩
  obtain ⟨O, hO⟩ : ∃ O, atN x p n = O := ⟨_, rfl⟩
  obtain ⟨S, hS⟩ : ∃ S, atS x p = S := ⟨_, rfl⟩
  obtain ⟨Y, hY⟩ : ∃ Y, atY x p n = Y := ⟨_, rfl⟩
  obtain ⟨OK, hOK⟩ : ∃ OK, okE x = OK := ⟨_, rfl⟩
  obtain ⟨PB, hPB⟩ : ∃ PB, isPath (bs p) = PB := ⟨_, rfl⟩
  obtain ⟨NB, hNB⟩ : ∃ NB, isName (bs n) = NB := ⟨_, rfl⟩
  have HGS : Hid (S.Good a2) := Lib.hid (hS ▸ atS_good hx2)
  have hsl := HGS.out.gsnaps_.len
  rw [hO, hOK, hPB, hNB, hTB, hF2, hBI, hF3] at hos
  rw [hI, hO, hS, hY] at HFD
  rw [hPB] at HPT
  rw [hNB] at HNM
  rw [hOK] at HCK
  have HII := Lib.hid hI
  have HOO := Lib.hid hO
  have HSS := Lib.hid hS
  have HYY := Lib.hid hY
  obtain ⟨R, hR⟩ : ∃ R, cloneP x.plain p n tt (atT p n) = R := ⟨_, rfl⟩
  rw [hR]
  have HPR := Lib.hid hR
  obtain ⟨E, hE⟩ : ∃ E, cloneE x.plain p n tt = E := ⟨_, rfl⟩
  rw [hE] at hos
  obtain ⟨W36, hW36⟩ : ∃ W, whenI 31 ([!PB, !NB, !TB].any id) = W := ⟨_, rfl⟩
  obtain ⟨W41, hW41⟩ : ∃ W, whenI 71 ([decide (O < 0)].any id) = W := ⟨_, rfl⟩
  obtain ⟨W47, hW47⟩ : ∃ W, whenI 6 ([decide (0 ≤ F2)].any id) = W := ⟨_, rfl⟩
  obtain ⟨W55, hW55⟩ : ∃ W, whenI 71 ([!BI, decide (F3 < 0)].any id) = W := ⟨_, rfl⟩
  obtain ⟨W61, hW61⟩ : ∃ W, whenI 3 ([decide ((32 : Int) ≤ (x.sets_.l.length : Int))].any id) = W := ⟨_, rfl⟩
  rw [hW36, hW41, hW47, hW55, hW61] at hos
  have HWW36 := Lib.hid hW36
  have HWW41 := Lib.hid hW41
  have HWW47 := Lib.hid hW47
  have HWW55 := Lib.hid hW55
  have HWW61 := Lib.hid hW61
  clear hW36 hW41 hW47 hW55 hW61
  have HOS := Lib.hid hos
  have HE := Lib.hid hE
  clear hI hO hS hY hOK hPB hNB hos hE hx hx2 hR
  obtain ⟨q0, q1, q2, q3, q4, q5, q6⟩ := k1.all7
  go_enter Tryz.func18, Tryz.ntmps18
  go_upto_region 1 with fail
  rw [HW1.out, HW2.out]
  try rw [hX2]
  go_wp2_with fail
  refine HFD.out.mono ?_
  rintro e w3 ⟨rfl, hV⟩
  have K1 := k1.of hV
  have K2 := k2.of hV
  have hs3 := hV.size
  obtain ⟨w4, hw4⟩ : ∃ w4, w3.alloc (.cells #[.int .i64 I, .int .i64 O, .string S.path_, .string S.origin_, .slice S.body_.A S.body_.l.length S.body_.c, .slice S.snaps_.A S.snaps_.l.length S.snaps_.c, .slice S.own_.A S.own_.l.length S.own_.c, .string Y.name_, .int .i64 Y.guid_, .slice Y.body_.A Y.body_.l.length Y.body_.c, .slice Y.tags_.A Y.tags_.l.length Y.tags_.c, .slice Y.own_.A Y.own_.l.length Y.own_.c] 67) = w4 := ⟨_, rfl⟩
  have hV4 : Below w3.heap.size w3 w4 := hw4 ▸ (Below.refl _ w3).alloc (Nat.le_refl _) _
  have kP : Blk w4 w3.heap.size 67 [.int .i64 I, .int .i64 O, .string S.path_, .string S.origin_, .slice S.body_.A S.body_.l.length S.body_.c, .slice S.snaps_.A S.snaps_.l.length S.snaps_.c, .slice S.own_.A S.own_.l.length S.own_.c, .string Y.name_, .int .i64 Y.guid_, .slice Y.body_.A Y.body_.l.length Y.body_.c, .slice Y.tags_.A Y.tags_.l.length Y.tags_.c, .slice Y.own_.A Y.own_.l.length Y.own_.c] := hw4 ▸ Blk.new w3 _ _
  have K1 := K1.of hV4
  have K2 := K2.of hV4
  have hV25 := hV.trans (hV4.mono hs3)
  have hs25 := hV25.size
  have hlT := K1.lt
  have hlP := kP.lt
  have HW4 := Lib.hid hw4
  clear hw4 q0 q1 q2 q3 q4 q5 q6
  clear hTB hF2 hBI hUU hF3
  obtain ⟨t0, t1, t2, t3, t4, t5, t6⟩ := K1.all7
  obtain ⟨c0, c1, c2, c3, c4, c5, c6, c7, c8, c9, c10, c11⟩ := kP.all12
  go_upto_region 2 with fail
  rw [HW4.out]
  go_wp2_with fail
  refine (HPR2.out _).mono ?_
  rintro e w5 ⟨rfl, hV5⟩
  have K1 := K1.of hV5
  have K2 := K2.of hV5
  have kP := kP.of hV5
  have hV25 := hV25.trans (hV5.mono hs25)
  have hs25 := hV25.size
  have hlT := K1.lt
  have hlP := kP.lt
  clear t0 t1 t2 t3 t4 t5 t6 c0 c1 c2 c3 c4 c5 c6 c7 c8 c9 c10 c11
  go_upto_region 3 with fail
  obtain ⟨t0, t1, t2, t3, t4, t5, t6⟩ := K1.all7
  obtain ⟨c0, c1, c2, c3, c4, c5, c6, c7, c8, c9, c10, c11⟩ := kP.all12
  refine wp_region_noPanic ?_
  refine wp_region_last 40 (fun W => W.cell? ⟨w.heap.size, 0, none⟩ = some (.string x.name_) ∧ W.cell? ⟨w.heap.size, 1, none⟩ = some (.int .i64 x.quota_) ∧ W.cell? ⟨w.heap.size, 2, none⟩ = some (.int .i64 x.next_) ∧ W.cell? ⟨w.heap.size, 3, none⟩ = some (.slice x.sets_.A x.sets_.l.length x.sets_.c) ∧ W.cell? ⟨w.heap.size, 4, none⟩ = some (.slice x.grants_.A x.grants_.l.length x.grants_.c) ∧ W.cell? ⟨w.heap.size, 5, none⟩ = some (.slice x.stages_.A x.stages_.l.length x.stages_.c) ∧ W.cell? ⟨w.heap.size, 6, none⟩ = some (.slice x.log_.A x.log_.l.length x.log_.c) ∧ W.cell? ⟨w3.heap.size, 0, none⟩ = some (.int .i64 I) ∧ W.cell? ⟨w3.heap.size, 1, none⟩ = some (.int .i64 O) ∧ W.cell? ⟨w3.heap.size, 2, none⟩ = some (.string S.path_) ∧ W.cell? ⟨w3.heap.size, 3, none⟩ = some (.string S.origin_) ∧ W.cell? ⟨w3.heap.size, 4, none⟩ = some (.slice S.body_.A S.body_.l.length S.body_.c) ∧ W.cell? ⟨w3.heap.size, 5, none⟩ = some (.slice S.snaps_.A S.snaps_.l.length S.snaps_.c) ∧ W.cell? ⟨w3.heap.size, 6, none⟩ = some (.slice S.own_.A S.own_.l.length S.own_.c) ∧ W.cell? ⟨w3.heap.size, 7, none⟩ = some (.string Y.name_) ∧ W.cell? ⟨w3.heap.size, 8, none⟩ = some (.int .i64 Y.guid_) ∧ W.cell? ⟨w3.heap.size, 9, none⟩ = some (.slice Y.body_.A Y.body_.l.length Y.body_.c) ∧ W.cell? ⟨w3.heap.size, 10, none⟩ = some (.slice Y.tags_.A Y.tags_.l.length Y.tags_.c) ∧ W.cell? ⟨w3.heap.size, 11, none⟩ = some (.slice Y.own_.A Y.own_.l.length Y.own_.c)) (by kernel_rfl) ⟨t0, t1, t2, t3, t4, t5, t6, c0, c1, c2, c3, c4, c5, c6, c7, c8, c9, c10, c11⟩ (fun hHeld => ?_)
  refine tkA 16 (i := 0) (oi := ⟨some 24, _, _, _, _, _⟩) rfl hHeld ?_
  try simp only [Act.put, pZa, pZb, pZc]
  refine tkA 16 (i := 2) (oi := ⟨some 26, _, _, _, _, _⟩) rfl hHeld ?_
  try simp only [Act.put, pZa, pZb, pZc]
  refine tkA 16 (i := 5) (oi := ⟨some 29, _, _, _, _, _⟩) rfl hHeld ?_
  try simp only [Act.put, pZa, pZb, pZc]
  refine tkA 16 (i := 8) (oi := ⟨some 32, _, _, _, _, _⟩) rfl hHeld ?_
  try simp only [Act.put, pZa, pZb, pZc]
  refine tkA 16 (i := 13) (oi := ⟨some 37, _, _, _, _, _⟩) rfl hHeld ?_
  try simp only [Act.put, pZa, pZb, pZc]
  refine tkA 16 (i := 14) (oi := ⟨some 38, _, _, _, _, _⟩) rfl hHeld ?_
  try simp only [Act.put, pZa, pZb, pZc]
  refine tkA 16 (i := 15) (oi := ⟨some 39, _, _, _, _, _⟩) rfl hHeld ?_
  try simp only [Act.put, pZa, pZb, pZc]
  refine tkA 16 (i := 18) (oi := ⟨some 42, _, _, _, _, _⟩) rfl hHeld ?_
  try simp only [Act.put, pZa, pZb, pZc]
  refine tkA 16 (i := 19) (oi := ⟨some 43, _, _, _, _, _⟩) rfl hHeld ?_
  try simp only [Act.put, pZa, pZb, pZc]
  refine tkA 16 (i := 24) (oi := ⟨some 48, _, _, _, _, _⟩) rfl hHeld ?_
  try simp only [Act.put, pZa, pZb, pZc]
  refine tkA 16 (i := 25) (oi := ⟨some 49, _, _, _, _, _⟩) rfl hHeld ?_
  try simp only [Act.put, pZa, pZb, pZc]
  refine tkA 16 (i := 26) (oi := ⟨some 50, _, _, _, _, _⟩) rfl hHeld ?_
  try simp only [Act.put, pZa, pZb, pZc]
  refine tkA 16 (i := 27) (oi := ⟨some 51, _, _, _, _, _⟩) rfl hHeld ?_
  try simp only [Act.put, pZa, pZb, pZc]
  refine tkA 16 (i := 32) (oi := ⟨some 56, _, _, _, _, _⟩) rfl hHeld ?_
  try simp only [Act.put, pZa, pZb, pZc]
  refine tkA 16 (i := 33) (oi := ⟨some 57, _, _, _, _, _⟩) rfl hHeld ?_
  try simp only [Act.put, pZa, pZb, pZc]
  refine tkA 16 (i := 34) (oi := ⟨some 58, _, _, _, _, _⟩) rfl hHeld ?_
  try simp only [Act.put, pZa, pZb, pZc]
  refine tkA 16 (i := 35) (oi := ⟨some 59, _, _, _, _, _⟩) rfl hHeld ?_
  try simp only [Act.put, pZa, pZb, pZc]
  clear hHeld
  refine wpAnyL_facts 16 23 1 [(1, 25), (3, 27), (4, 28), (6, 30), (7, 31), (9, 33), (10, 34), (11, 35), (12, 36), (16, 40), (17, 41), (20, 44), (21, 45), (22, 46), (23, 47), (28, 52), (29, 53), (30, 54), (31, 55), (36, 60), (37, 61), (38, 62), (39, 63)] (fun s v w => match s with
    | 25 => v = .int .i64 OK
    | 27 => v = .bool PB
    | 28 => v = .bool (!PB)
    | 30 => v = .bool NB
    | 31 => v = .bool (!NB)
    | 33 => v = .bool TB
    | 34 => v = .bool (!TB)
    | 35 => ∃ g, v = .slice (some ⟨g, 0, none⟩) 3 3 ∧ Blk w g 4 [.bool (!PB), .bool (!NB), .bool (!TB)]
    | 36 => v = .int .i64 W36
    | 40 => ∃ g, v = .slice (some ⟨g, 0, none⟩) 1 1 ∧ Blk w g 4 [.bool (decide (O < 0))]
    | 41 => v = .int .i64 W41
    | 44 => v = .int .i64 F2
    | 45 => v = .bool (decide (0 ≤ F2))
    | 46 => ∃ g, v = .slice (some ⟨g, 0, none⟩) 1 1 ∧ Blk w g 4 [.bool (decide (0 ≤ F2))]
    | 47 => v = .int .i64 W47
    | 52 => v = .int .i64 F3
    | 53 => v = .bool (decide (F3 < 0))
    | 54 => ∃ g, v = .slice (some ⟨g, 0, none⟩) 2 2 ∧ Blk w g 4 [.bool (!BI), .bool (decide (F3 < 0))]
    | 55 => v = .int .i64 W55
    | 60 => ∃ g, v = .slice (some ⟨g, 0, none⟩) 1 1 ∧ Blk w g 4 [.bool (decide ((32 : Int) ≤ (x.sets_.l.length : Int)))]
    | 61 => v = .int .i64 W61
    | 62 => ∃ g, v = .slice (some ⟨g, 0, none⟩) 6 6 ∧ Blk w g 28 [.int .i64 (OK), .int .i64 (W36), .int .i64 (W41), .int .i64 (W47), .int .i64 (W55), .int .i64 (W61)]
    | 63 => v = .int .i64 E
    | _ => True) (fun w w' => Below w.heap.size w w') (by kernel_rfl) (by kernel_rfl) bZh ⟨?_, ?_, ?_, ?_, ?_, ?_, ?_, ?_, ?_, ?_, ?_, ?_, ?_, ?_, ?_, ?_, ?_, ?_, ?_, ?_, ?_, ?_, ?_, trivial⟩ (fun w' hB => ⟨(hB.cell (p := ⟨w.heap.size, 0, none⟩) hlT).trans t0, (hB.cell (p := ⟨w.heap.size, 1, none⟩) hlT).trans t1, (hB.cell (p := ⟨w.heap.size, 2, none⟩) hlT).trans t2, (hB.cell (p := ⟨w.heap.size, 3, none⟩) hlT).trans t3, (hB.cell (p := ⟨w.heap.size, 4, none⟩) hlT).trans t4, (hB.cell (p := ⟨w.heap.size, 5, none⟩) hlT).trans t5, (hB.cell (p := ⟨w.heap.size, 6, none⟩) hlT).trans t6, (hB.cell (p := ⟨w3.heap.size, 0, none⟩) hlP).trans c0, (hB.cell (p := ⟨w3.heap.size, 1, none⟩) hlP).trans c1, (hB.cell (p := ⟨w3.heap.size, 2, none⟩) hlP).trans c2, (hB.cell (p := ⟨w3.heap.size, 3, none⟩) hlP).trans c3, (hB.cell (p := ⟨w3.heap.size, 4, none⟩) hlP).trans c4, (hB.cell (p := ⟨w3.heap.size, 5, none⟩) hlP).trans c5, (hB.cell (p := ⟨w3.heap.size, 6, none⟩) hlP).trans c6, (hB.cell (p := ⟨w3.heap.size, 7, none⟩) hlP).trans c7, (hB.cell (p := ⟨w3.heap.size, 8, none⟩) hlP).trans c8, (hB.cell (p := ⟨w3.heap.size, 9, none⟩) hlP).trans c9, (hB.cell (p := ⟨w3.heap.size, 10, none⟩) hlP).trans c10, (hB.cell (p := ⟨w3.heap.size, 11, none⟩) hlP).trans c11⟩) ⟨?_, ?_, ?_, ?_, ?_, ?_, ?_, ?_, ?_, ?_, ?_, ?_, ?_, ?_, ?_, ?_, ?_, ?_, ?_, ?_, ?_, ?_, ?_, trivial⟩ ?_
  focus
    intro v w w' h hB
    exact h
  focus
    intro v w w' h hB
    exact h
  focus
    intro v w w' h hB
    exact h
  focus
    intro v w w' h hB
    exact h
  focus
    intro v w w' h hB
    exact h
  focus
    intro v w w' h hB
    exact h
  focus
    intro v w w' h hB
    exact h
  focus
    intro v w w' h hB
    exact (by obtain ⟨g, e, hb⟩ := h; exact ⟨g, e, hb.below hB hb.lt⟩)
  focus
    intro v w w' h hB
    exact h
  focus
    intro v w w' h hB
    exact (by obtain ⟨g, e, hb⟩ := h; exact ⟨g, e, hb.below hB hb.lt⟩)
  focus
    intro v w w' h hB
    exact h
  focus
    intro v w w' h hB
    exact h
  focus
    intro v w w' h hB
    exact h
  focus
    intro v w w' h hB
    exact (by obtain ⟨g, e, hb⟩ := h; exact ⟨g, e, hb.below hB hb.lt⟩)
  focus
    intro v w w' h hB
    exact h
  focus
    intro v w w' h hB
    exact h
  focus
    intro v w w' h hB
    exact h
  focus
    intro v w w' h hB
    exact (by obtain ⟨g, e, hb⟩ := h; exact ⟨g, e, hb.below hB hb.lt⟩)
  focus
    intro v w w' h hB
    exact h
  focus
    intro v w w' h hB
    exact (by obtain ⟨g, e, hb⟩ := h; exact ⟨g, e, hb.below hB hb.lt⟩)
  focus
    intro v w w' h hB
    exact h
  focus
    intro v w w' h hB
    exact (by obtain ⟨g, e, hb⟩ := h; exact ⟨g, e, hb.below hB hb.lt⟩)
  focus
    intro v w w' h hB
    exact h
  focus
    intro vs w2 hBf hFf o ho K hK
    obtain rfl : (⟨some 25, _, _, _, _, _⟩ : Oper) = o := Option.some.inj ho
    clear ho
    (try simp only [fillL, pZd, pZe, Act.put, pZa, pZb, pZc] at hK ⊢)
    have WB : Below w5.heap.size w5 w2 := (Below.refl w5.heap.size w5).drew.trans hBf
    go_simp
    refine (HCK.out w2 (hV25.trans (WB.mono hs25))).mono ?_
    rintro e w4 ⟨rfl, hB4⟩
    exact hK.out _ _ ⟨rfl, hB4⟩
  focus
    intro vs w2 hBf hFf o ho K hK
    obtain rfl : (⟨some 27, _, _, _, _, _⟩ : Oper) = o := Option.some.inj ho
    clear ho
    (try simp only [fillL, pZd, pZe, Act.put, pZa, pZb, pZc] at hK ⊢)
    have WB : Below w5.heap.size w5 w2 := (Below.refl w5.heap.size w5).drew.trans hBf
    go_simp
    refine (HPT.out w2).mono ?_
    rintro e w4 ⟨rfl, hB4⟩
    exact hK.out _ _ ⟨rfl, hB4⟩
  focus
    intro vs w2 hBf hFf o ho K hK
    obtain rfl : (⟨some 28, _, _, _, _, _⟩ : Oper) = o := Option.some.inj ho
    clear ho
    (try simp only [fillL, pZd, pZe, Act.put, pZa, pZb, pZc] at hK ⊢)
    have e27 := (hFf (3, 27) (by simp) (by kernel_rfl))
    simp only [] at e27
    simp only [e27] at hK ⊢
    go_simp
    exact hK.out _ _ ⟨rfl, Below.refl _ _⟩
  focus
    intro vs w2 hBf hFf o ho K hK
    obtain rfl : (⟨some 30, _, _, _, _, _⟩ : Oper) = o := Option.some.inj ho
    clear ho
    (try simp only [fillL, pZd, pZe, Act.put, pZa, pZb, pZc] at hK ⊢)
    go_simp
    refine (HNM.out w2).mono ?_
    rintro e w4 ⟨rfl, rfl⟩
    exact hK.out _ _ ⟨rfl, Below.refl _ _⟩
  focus
    intro vs w2 hBf hFf o ho K hK
    obtain rfl : (⟨some 31, _, _, _, _, _⟩ : Oper) = o := Option.some.inj ho
    clear ho
    (try simp only [fillL, pZd, pZe, Act.put, pZa, pZb, pZc] at hK ⊢)
    have e30 := (hFf (6, 30) (by simp) (by kernel_rfl))
    simp only [] at e30
    simp only [e30] at hK ⊢
    go_simp
    exact hK.out _ _ ⟨rfl, Below.refl _ _⟩
  focus
    intro vs w2 hBf hFf o ho K hK
    obtain rfl : (⟨some 33, _, _, _, _, _⟩ : Oper) = o := Option.some.inj ho
    clear ho
    (try simp only [fillL, pZd, pZe, Act.put, pZa, pZb, pZc] at hK ⊢)
    have WB : Below w5.heap.size w5 w2 := (Below.refl w5.heap.size w5).drew.trans hBf
    go_simp
    refine (HP2.out w2).mono ?_
    rintro e w4 ⟨rfl, hB4⟩
    exact hK.out _ _ ⟨rfl, hB4⟩
  focus
    intro vs w2 hBf hFf o ho K hK
    obtain rfl : (⟨some 34, _, _, _, _, _⟩ : Oper) = o := Option.some.inj ho
    clear ho
    (try simp only [fillL, pZd, pZe, Act.put, pZa, pZb, pZc] at hK ⊢)
    have e33 := (hFf (9, 33) (by simp) (by kernel_rfl))
    simp only [] at e33
    simp only [e33] at hK ⊢
    go_simp
    exact hK.out _ _ ⟨rfl, Below.refl _ _⟩
  focus
    intro vs w2 hBf hFf o ho K hK
    obtain rfl : (⟨some 35, _, _, _, _, _⟩ : Oper) = o := Option.some.inj ho
    clear ho
    (try simp only [fillL, pZd, pZe, Act.put, pZa, pZb, pZc] at hK ⊢)
    have e28 := (hFf (4, 28) (by simp) (by kernel_rfl))
    simp only [] at e28
    simp only [e28] at hK ⊢
    have e31 := (hFf (7, 31) (by simp) (by kernel_rfl))
    simp only [] at e31
    simp only [e31] at hK ⊢
    have e34 := (hFf (10, 34) (by simp) (by kernel_rfl))
    simp only [] at e34
    simp only [e34] at hK ⊢
    go_simp
    refine hK.out _ _ ⟨⟨w2.heap.size, rfl, Blk.new w2 _ _⟩, (Below.refl _ w2).alloc (Nat.le_refl _) _⟩
  focus
    intro vs w2 hBf hFf o ho K hK
    obtain rfl : (⟨some 36, _, _, _, _, _⟩ : Oper) = o := Option.some.inj ho
    clear ho
    (try simp only [fillL, pZd, pZe, Act.put, pZa, pZb, pZc] at hK ⊢)
    obtain ⟨g9, e9, hb9⟩ := (hFf (11, 35) (by simp) (by kernel_rfl))
    simp only [e9] at hK ⊢
    go_simp
    refine (when_any 31 [!PB, !NB, !TB] 3 rfl (by simp) g9 w2 (blB (l := [!PB, !NB, !TB]) hb9)).mono ?_
    rintro e w4 ⟨rfl, rfl⟩
    exact hK.out _ _ ⟨by rw [HWW36.out], Below.refl _ _⟩
  focus
    intro vs w2 hBf hFf o ho K hK
    obtain rfl : (⟨some 40, _, _, _, _, _⟩ : Oper) = o := Option.some.inj ho
    clear ho
    (try simp only [fillL, pZd, pZe, Act.put, pZa, pZb, pZc] at hK ⊢)
    go_simp
    refine hK.out _ _ ⟨⟨w2.heap.size, rfl, Blk.new w2 _ _⟩, (Below.refl _ w2).alloc (Nat.le_refl _) _⟩
  focus
    intro vs w2 hBf hFf o ho K hK
    obtain rfl : (⟨some 41, _, _, _, _, _⟩ : Oper) = o := Option.some.inj ho
    clear ho
    (try simp only [fillL, pZd, pZe, Act.put, pZa, pZb, pZc] at hK ⊢)
    obtain ⟨g9, e9, hb9⟩ := (hFf (16, 40) (by simp) (by kernel_rfl))
    simp only [e9] at hK ⊢
    go_simp
    refine (when_any 71 [decide (O < 0)] 1 rfl (by simp) g9 w2 (blB (l := [decide (O < 0)]) hb9)).mono ?_
    rintro e w4 ⟨rfl, rfl⟩
    exact hK.out _ _ ⟨by rw [HWW41.out], Below.refl _ _⟩
  focus
    intro vs w2 hBf hFf o ho K hK
    obtain rfl : (⟨some 44, _, _, _, _, _⟩ : Oper) = o := Option.some.inj ho
    clear ho
    (try simp only [fillL, pZd, pZe, Act.put, pZa, pZb, pZc] at hK ⊢)
    have WB : Below w5.heap.size w5 w2 := (Below.refl w5.heap.size w5).drew.trans hBf
    go_simp
    refine (HF2.out w2 (hV25.trans (WB.mono hs25))).mono ?_
    rintro e w4 ⟨rfl, hB4⟩
    exact hK.out _ _ ⟨rfl, hB4⟩
  focus
    intro vs w2 hBf hFf o ho K hK
    obtain rfl : (⟨some 45, _, _, _, _, _⟩ : Oper) = o := Option.some.inj ho
    clear ho
    (try simp only [fillL, pZd, pZe, Act.put, pZa, pZb, pZc] at hK ⊢)
    have e44 := (hFf (20, 44) (by simp) (by kernel_rfl))
    simp only [] at e44
    simp only [e44] at hK ⊢
    go_simp
    exact hK.out _ _ ⟨rfl, Below.refl _ _⟩
  focus
    intro vs w2 hBf hFf o ho K hK
    obtain rfl : (⟨some 46, _, _, _, _, _⟩ : Oper) = o := Option.some.inj ho
    clear ho
    (try simp only [fillL, pZd, pZe, Act.put, pZa, pZb, pZc] at hK ⊢)
    have e45 := (hFf (21, 45) (by simp) (by kernel_rfl))
    simp only [] at e45
    simp only [e45] at hK ⊢
    go_simp
    refine hK.out _ _ ⟨⟨w2.heap.size, rfl, Blk.new w2 _ _⟩, (Below.refl _ w2).alloc (Nat.le_refl _) _⟩
  focus
    intro vs w2 hBf hFf o ho K hK
    obtain rfl : (⟨some 47, _, _, _, _, _⟩ : Oper) = o := Option.some.inj ho
    clear ho
    (try simp only [fillL, pZd, pZe, Act.put, pZa, pZb, pZc] at hK ⊢)
    obtain ⟨g9, e9, hb9⟩ := (hFf (22, 46) (by simp) (by kernel_rfl))
    simp only [e9] at hK ⊢
    go_simp
    refine (when_any 6 [decide (0 ≤ F2)] 1 rfl (by simp) g9 w2 (blB (l := [decide (0 ≤ F2)]) hb9)).mono ?_
    rintro e w4 ⟨rfl, rfl⟩
    exact hK.out _ _ ⟨by rw [HWW47.out], Below.refl _ _⟩
  focus
    intro vs w2 hBf hFf o ho K hK
    obtain rfl : (⟨some 52, _, _, _, _, _⟩ : Oper) = o := Option.some.inj ho
    clear ho
    (try simp only [fillL, pZd, pZe, Act.put, pZa, pZb, pZc] at hK ⊢)
    have WB : Below w5.heap.size w5 w2 := (Below.refl w5.heap.size w5).drew.trans hBf
    go_simp
    refine (HF3.out w2 (hV25.trans (WB.mono hs25))).mono ?_
    rintro e w4 ⟨rfl, hB4⟩
    exact hK.out _ _ ⟨rfl, hB4⟩
  focus
    intro vs w2 hBf hFf o ho K hK
    obtain rfl : (⟨some 53, _, _, _, _, _⟩ : Oper) = o := Option.some.inj ho
    clear ho
    (try simp only [fillL, pZd, pZe, Act.put, pZa, pZb, pZc] at hK ⊢)
    have e52 := (hFf (28, 52) (by simp) (by kernel_rfl))
    simp only [] at e52
    simp only [e52] at hK ⊢
    go_simp
    exact hK.out _ _ ⟨rfl, Below.refl _ _⟩
  focus
    intro vs w2 hBf hFf o ho K hK
    obtain rfl : (⟨some 54, _, _, _, _, _⟩ : Oper) = o := Option.some.inj ho
    clear ho
    (try simp only [fillL, pZd, pZe, Act.put, pZa, pZb, pZc] at hK ⊢)
    have e53 := (hFf (29, 53) (by simp) (by kernel_rfl))
    simp only [] at e53
    simp only [e53] at hK ⊢
    go_simp
    refine hK.out _ _ ⟨⟨w2.heap.size, rfl, Blk.new w2 _ _⟩, (Below.refl _ w2).alloc (Nat.le_refl _) _⟩
  focus
    intro vs w2 hBf hFf o ho K hK
    obtain rfl : (⟨some 55, _, _, _, _, _⟩ : Oper) = o := Option.some.inj ho
    clear ho
    (try simp only [fillL, pZd, pZe, Act.put, pZa, pZb, pZc] at hK ⊢)
    obtain ⟨g9, e9, hb9⟩ := (hFf (30, 54) (by simp) (by kernel_rfl))
    simp only [e9] at hK ⊢
    go_simp
    refine (when_any 71 [!BI, decide (F3 < 0)] 2 rfl (by simp) g9 w2 (blB (l := [!BI, decide (F3 < 0)]) hb9)).mono ?_
    rintro e w4 ⟨rfl, rfl⟩
    exact hK.out _ _ ⟨by rw [HWW55.out], Below.refl _ _⟩
  focus
    intro vs w2 hBf hFf o ho K hK
    obtain rfl : (⟨some 60, _, _, _, _, _⟩ : Oper) = o := Option.some.inj ho
    clear ho
    (try simp only [fillL, pZd, pZe, Act.put, pZa, pZb, pZc] at hK ⊢)
    go_simp
    refine hK.out _ _ ⟨⟨w2.heap.size, rfl, Blk.new w2 _ _⟩, (Below.refl _ w2).alloc (Nat.le_refl _) _⟩
  focus
    intro vs w2 hBf hFf o ho K hK
    obtain rfl : (⟨some 61, _, _, _, _, _⟩ : Oper) = o := Option.some.inj ho
    clear ho
    (try simp only [fillL, pZd, pZe, Act.put, pZa, pZb, pZc] at hK ⊢)
    obtain ⟨g9, e9, hb9⟩ := (hFf (36, 60) (by simp) (by kernel_rfl))
    simp only [e9] at hK ⊢
    go_simp
    refine (when_any 3 [decide ((32 : Int) ≤ (x.sets_.l.length : Int))] 1 rfl (by simp) g9 w2 (blB (l := [decide ((32 : Int) ≤ (x.sets_.l.length : Int))]) hb9)).mono ?_
    rintro e w4 ⟨rfl, rfl⟩
    exact hK.out _ _ ⟨by rw [HWW61.out], Below.refl _ _⟩
  focus
    intro vs w2 hBf hFf o ho K hK
    obtain rfl : (⟨some 62, _, _, _, _, _⟩ : Oper) = o := Option.some.inj ho
    clear ho
    (try simp only [fillL, pZd, pZe, Act.put, pZa, pZb, pZc] at hK ⊢)
    have e25 := (hFf (1, 25) (by simp) (by kernel_rfl))
    simp only [] at e25
    simp only [e25] at hK ⊢
    have e36 := (hFf (12, 36) (by simp) (by kernel_rfl))
    simp only [] at e36
    simp only [e36] at hK ⊢
    have e41 := (hFf (17, 41) (by simp) (by kernel_rfl))
    simp only [] at e41
    simp only [e41] at hK ⊢
    have e47 := (hFf (23, 47) (by simp) (by kernel_rfl))
    simp only [] at e47
    simp only [e47] at hK ⊢
    have e55 := (hFf (31, 55) (by simp) (by kernel_rfl))
    simp only [] at e55
    simp only [e55] at hK ⊢
    have e61 := (hFf (37, 61) (by simp) (by kernel_rfl))
    simp only [] at e61
    simp only [e61] at hK ⊢
    go_simp
    refine hK.out _ _ ⟨⟨w2.heap.size, rfl, Blk.new w2 _ _⟩, (Below.refl _ w2).alloc (Nat.le_refl _) _⟩
  focus
    intro vs w2 hBf hFf o ho K hK
    obtain rfl : (⟨some 63, _, _, _, _, _⟩ : Oper) = o := Option.some.inj ho
    clear ho
    (try simp only [fillL, pZd, pZe, Act.put, pZa, pZb, pZc] at hK ⊢)
    obtain ⟨g9, e9, hb9⟩ := (hFf (38, 62) (by simp) (by kernel_rfl))
    simp only [e9] at hK ⊢
    go_simp
    refine (cmpOrL_any [OK, W36, W41, W47, W55, W61] 6 rfl (by simp) g9 w2 (blI (l := [OK, W36, W41, W47, W55, W61]) hb9)).mono ?_
    rintro e w4 ⟨rfl, rfl⟩
    exact hK.out _ _ ⟨by rw [HOS.out], Below.refl _ _⟩
  intro vs w2 hBf hFf
  (try simp only [fillL, pZd, pZe, Act.put, pZa, pZb, pZc])
  have h9 := (hFf (39, 63) (by simp))
  simp only [] at h9
  simp only [h9]
  have hBw : Below w5.heap.size w5 w2 := (Below.refl w5.heap.size w5).drew.trans hBf
  refine wpAnyL_last (i := 40) (o := ⟨some 13, _, _, _, _, _⟩) (by kernel_rfl) rfl (by kernel_rfl) (fun K hK => ?_)
  go_simp
  refine hK.out _ _ ?_
  clear hK K
  try simp only [Act.put, pZa, pZb, pZc]
  refine wpAnyL_done (by kernel_rfl) ?_ _
  refine NoPanic.normal ?_
  obtain ⟨v8, hv8⟩ : ∃ v, v = w2 := ⟨_, rfl⟩
  subst hv8
  have K1 := K1.of hBw
  have K2 := K2.of hBw
  have kP := kP.of hBw
  have hV2w := hV25.trans (hBw.mono hs25)
  have hB0w := hB2.trans (hV2w.mono hs2)
  have hs2w := hV2w.size
  have hs0w := hB0w.size
  clear h9 hFf hBf t0 t1 t2 t3 t4 t5 t6 c0 c1 c2 c3 c4 c5 c6 c7 c8 c9 c10 c11 HCK HPT HNM
  by_cases hz : E = 0
  · subst hz
    have hf : foundE x.plain p n (isPath (bs tt)) true = 0 := by
      have h9 := HE.out
      unfold cloneE at h9
      by_cases h8 : foundE x.plain p n (isPath (bs tt)) true = 0
      · exact h8
      · rw [if_pos h8] at h9
        exact absurd h9 h8
    obtain ⟨hok, hip, hin, _, j, s, k, y0, hIj, hj, hsp, hSs, hOk, hk, hyn0, hYs, hsa, hhs, hso, hsm, htk⟩ := found_zero hf
    rw [HII.out] at hIj
    rw [HSS.out] at hSs
    rw [HOO.out] at hOk
    rw [HYY.out] at hYs
    subst hIj hOk
    obtain rfl : s = S := hSs.symm
    obtain rfl : y0 = Y := hYs.symm
    have hjl : j < x.sets_.l.length := (List.getElem?_eq_some_iff.1 hj).1
    have hkl : k < s.snaps_.l.length := (List.getElem?_eq_some_iff.1 hk).1
    have h17 := (snaps_ok17 hok hj).2
    have hRP : R = settledP (withP x.plain (cloneS tt (atT p n) y0.plain)) := by
      rw [← HPR.out]
      unfold cloneP
      rw [if_neg (fun h => h HE.out), hsa]
      dsimp only
      rw [hso]
    have hoT : okT (withP x.plain (cloneS tt (atT p n) y0.plain)) = true := clone_ok17 (splitP_join hip hin) HE.out hsa hso
    have hSU : settleU (withP x.plain (cloneS tt (atT p n) y0.plain)) = R := by
      unfold settleU
      rw [if_pos hoT, setl_ok hoT, hRP]
    have hle : x.sets_.l.length ≤ 32 := by
      have h9 := (okT_parts.1 hok).2.1
      rwa [show x.plain.sets_ = x.sets_.l.map MSet.plain from rfl, List.length_map] at h9
    have hjs : (atT p n).size ≤ 140737488351232 := by
      have h1 := path_len hip
      have h2 := user_len hin
      unfold atT
      rw [ofL_size, List.length_append, List.length_cons, bs_length, bs_length]
      omega
    have HSU := Lib.hid hSU
    have HJ := Lib.hid hj
    have HK := Lib.hid hk
    have HJN : Hid (∀ W, Calls Tryz.prog 59 #[.string p, .string n] W fun e w' => e = .returned (.string (atT p n)) ∧ W = w') := Lib.hid fun W => by
      have h9 := join17_any p n hp (by have := user_len hin; omega) W
      rwa [join_at] at h9
    obtain ⟨JJ, hJJ⟩ : ∃ JJ, atT p n = JJ := ⟨_, rfl⟩
    rw [hJJ] at HJN HSU hjs
    clear hf hok hip hin hj hsp hSs hk hyn0 hYs hsa hhs hso hsm htk hRP hoT hSU HE HOS hJJ
    obtain ⟨d0, d1, d2, d3, d4, d5, d6⟩ := K1.all7
    obtain ⟨c0, c1, c2, c3, c4, c5, c6, c7, c8, c9, c10, c11⟩ := kP.all12
    go_upto_region 6 with fail
    have hlP8 := kP.lt
    have HKP := Lib.hid kP
    refine wp_region_noPanic ?_
    refine wp_region_last 12 (fun W => W.cell? ⟨w3.heap.size, 9, none⟩ = some (.slice y0.body_.A y0.body_.l.length y0.body_.c) ∧ W.cell? ⟨w3.heap.size, 11, none⟩ = some (.slice y0.own_.A y0.own_.l.length y0.own_.c)) (by kernel_rfl) ⟨c9, c11⟩ (fun hHeld => ?_)
    refine tkA 16 (i := 0) (oi := ⟨some 68, _, _, _, _, _⟩) rfl hHeld ?_
    try simp only [Act.put, pZa, pZb, pZc]
    refine tkA 16 (i := 1) (oi := ⟨some 69, _, _, _, _, _⟩) rfl hHeld ?_
    try simp only [Act.put, pZa, pZb, pZc]
    refine tkA 16 (i := 2) (oi := ⟨some 70, _, _, _, _, _⟩) rfl hHeld ?_
    try simp only [Act.put, pZa, pZb, pZc]
    refine tkA 16 (i := 4) (oi := ⟨some 72, _, _, _, _, _⟩) rfl hHeld ?_
    try simp only [Act.put, pZa, pZb, pZc]
    refine tkA 16 (i := 5) (oi := ⟨some 73, _, _, _, _, _⟩) rfl hHeld ?_
    try simp only [Act.put, pZa, pZb, pZc]
    refine tkA 16 (i := 6) (oi := ⟨some 74, _, _, _, _, _⟩) rfl hHeld ?_
    try simp only [Act.put, pZa, pZb, pZc]
    refine tkA 16 (i := 7) (oi := ⟨some 75, _, _, _, _, _⟩) rfl hHeld ?_
    try simp only [Act.put, pZa, pZb, pZc]
    refine tkA 16 (i := 8) (oi := ⟨some 76, _, _, _, _, _⟩) rfl hHeld ?_
    try simp only [Act.put, pZa, pZb, pZc]
    refine tkA 16 (i := 9) (oi := ⟨some 77, _, _, _, _, _⟩) rfl hHeld ?_
    try simp only [Act.put, pZa, pZb, pZc]
    clear hHeld
    refine wpAnyL_facts 16 3 1 [(3, 71), (10, 78), (11, 14)] (fun s v w => match s with
      | 71 => v = .string JJ
      | 78 => v = .agg #[.string tt, .string JJ, .slice y0.body_.A y0.body_.l.length y0.body_.c, .slice none 0 0, .slice y0.own_.A y0.own_.l.length y0.own_.c]
      | 14 => ∃ g, v = .pointer (some ⟨g, 0, none⟩) ∧ Blk w g 52 [.string ⟨#[]⟩, .string ⟨#[]⟩, .slice none 0 0, .slice none 0 0, .slice none 0 0] ∧ v8.heap.size ≤ g
      | _ => True) (fun w w' => Below w.heap.size w w') (by kernel_rfl) (by kernel_rfl) bZh ⟨?_, ?_, ?_, trivial⟩ (fun w' hB => ⟨(hB.cell (p := ⟨w3.heap.size, 9, none⟩) hlP8).trans c9, (hB.cell (p := ⟨w3.heap.size, 11, none⟩) hlP8).trans c11⟩) ⟨?_, ?_, ?_, trivial⟩ ?_
    focus
      intro v w w' h hB
      exact h
    focus
      intro v w w' h hB
      exact h
    focus
      intro v w w' h hB
      exact (by obtain ⟨g, e, hb, hl⟩ := h; exact ⟨g, e, hb.below hB hb.lt, hl⟩)
    focus
      intro vs w2 hBf hFf o ho K hK
      obtain rfl : (⟨some 71, _, _, _, _, _⟩ : Oper) = o := Option.some.inj ho
      clear ho
      (try simp only [fillL, pZd, pZe, Act.put, pZa, pZb, pZc] at hK ⊢)
      go_simp
      refine (HJN.out w2).mono ?_
      rintro e w4' ⟨rfl, rfl⟩
      exact hK.out _ _ ⟨rfl, Below.refl _ _⟩
    focus
      intro vs w2 hBf hFf o ho K hK
      obtain rfl : (⟨some 78, _, _, _, _, _⟩ : Oper) = o := Option.some.inj ho
      clear ho
      (try simp only [fillL, pZd, pZe, Act.put, pZa, pZb, pZc] at hK ⊢)
      have e71 := (hFf (3, 71) (by simp) (by kernel_rfl))
      simp only [] at e71
      simp only [e71] at hK ⊢
      go_simp
      exact hK.out _ _ ⟨rfl, Below.refl _ _⟩
    focus
      intro vs w2 hBf hFf o ho K hK
      obtain rfl : (⟨some 14, _, _, _, _, _⟩ : Oper) = o := Option.some.inj ho
      clear ho
      (try simp only [fillL, pZd, pZe, Act.put, pZa, pZb, pZc] at hK ⊢)
      go_simp
      refine hK.out _ _ ⟨⟨w2.heap.size, rfl, Blk.new w2 _ _, ((Below.refl v8.heap.size v8).drew.trans hBf).size⟩, (Below.refl _ w2).alloc (Nat.le_refl _) _⟩
    intro vs w2 hBf hFf
    (try simp only [fillL, pZd, pZe, Act.put, pZa, pZb, pZc])
    have e71 := (hFf (3, 71) (by simp))
    have e78 := (hFf (10, 78) (by simp))
    simp only [] at e71 e78
    obtain ⟨g14, e14, hb14, hl14⟩ := (hFf (11, 14) (by simp))
    simp only [e71, e78, e14]
    have hBs : Below v8.heap.size v8 w2 := (Below.refl v8.heap.size v8).drew.trans hBf
    have HB14 := Lib.hid hb14
    have z0 := hb14.cell 0
    have z1 := hb14.cell 1
    have z2 := hb14.cell 2
    have z3 := hb14.cell 3
    have z4 := hb14.cell 4
    have zf0 := hb14.frozen 0
    have zf1 := hb14.frozen 1
    have zf2 := hb14.frozen 2
    have zf3 := hb14.frozen 3
    have zf4 := hb14.frozen 4
    simp only [gZa, gZb] at z0 z1 z2 z3 z4
    have hHeld : (fun W => W.cell? ⟨w3.heap.size, 9, none⟩ = some (.slice y0.body_.A y0.body_.l.length y0.body_.c) ∧ W.cell? ⟨w3.heap.size, 11, none⟩ = some (.slice y0.own_.A y0.own_.l.length y0.own_.c)) w2 := ⟨(hBf.cell (p := ⟨w3.heap.size, 9, none⟩) hlP8).trans c9, (hBf.cell (p := ⟨w3.heap.size, 11, none⟩) hlP8).trans c11⟩
    refine wpAnyL_last (i := 12) (o := ⟨none, _, _, _, _, _⟩) (by kernel_rfl) rfl (by kernel_rfl) (fun K hK => ?_)
    go_simp
    go_wp2_with fail
    refine hK.out _ _ ?_
    clear hK K
    try simp only [Act.put, pZa, pZb, pZc]
    refine wpAnyL_done (by kernel_rfl) ?_ _
    refine NoPanic.normal ?_
    generalize hw7 : World.setCell _ ⟨g14, 4, none⟩ _ = w7
    obtain ⟨kS, SS, ZS, BS⟩ := storeRow [(0, .string tt), (1, .string JJ), (2, .slice y0.body_.A y0.body_.l.length y0.body_.c), (3, .slice none 0 0), (4, .slice y0.own_.A y0.own_.l.length y0.own_.c)] HB14.out hw7
    simp only [List.foldl_cons, List.foldl_nil, List.set_cons_zero, List.set_cons_succ] at kS
    have hBS : Below v8.heap.size v8 w7 := BS _ _ hBs hl14
    have K1 := K1.of hBS
    have K2 := K2.of hBS
    have hV7 := hV2w.trans (hBS.mono hs2w)
    have hX7 := hB2.trans (hV7.mono hs2)
    have hs7 := hX7.size
    have hl7 := K2.lt
    have hx7 := HG.out.below hV7
    have hyG := (hx7.gsets_.el s (List.mem_of_getElem? HJ.out)).gsnaps_.el y0 (List.mem_of_getElem? HK.out)
    have hqG : (⟨tt, JJ, y0.body_, ⟨none, [], 0⟩, y0.own_⟩ : MSet).Good w7 := ⟨ht, hjs, hyG.gbody_, slNone _ _ _ _, hyG.gown_⟩
    have HWT := Lib.hid (with_any x (⟨tt, JJ, y0.body_, ⟨none, [], 0⟩, y0.own_⟩ : MSet) w7 hx7 hqG (by omega))
    have HST : Hid (∀ (y : MTenant) W, y.Good W → y.plain = withP x.plain (⟨tt, JJ, y0.body_, ⟨none, [], 0⟩, y0.own_⟩ : MSet).plain → Calls Tryz.prog 47 #[.agg y.cells.toArray] W fun e w' => AnsT W R e w') := Lib.hid fun y W hW hy => by
      have h9 := settle_any y W hW
      rw [hy] at h9
      have h8 := HSU.out
      rw [← h8]
      exact h9
    clear hx7 hyG hqG hw7 z0 z1 z2 z3 z4 zf0 zf1 zf2 zf3 zf4 d0 d1 d2 d3 d4 d5 d6 c0 c1 c2 c3 c4 c5 c6 c7 c8 c9 c10 c11
    obtain ⟨u0, u1, u2, u3, u4, u5, u6⟩ := K1.all7
    obtain ⟨v0, v1, v2, v3, v4⟩ := kS.all5
    go_wp2_with fail
    refine HWT.out.mono ?_
    rintro e x8 ⟨y, rfl, hoy, hgy, hpy, hV8⟩
    have HST9 := Lib.hid (HST.out y x8 hgy hpy)
    go_wp2_with fail
    refine HST9.out.mono ?_
    rintro e x9 ⟨z, rfl, hoz, hgz, hpz, hV9⟩
    have hX8 := hX7.trans (hV8.mono hs7)
    have hs8 := hX8.size
    have hl8 : a1.heap.size < x8.heap.size := Nat.lt_of_lt_of_le hl7 hV8.size
    have KR9 := (K2.of hV8).of hV9
    have hX9 := hX8.trans (hV9.mono hs8)
    have HGZ := Lib.hid hgz
    have HPZ := Lib.hid hpz
    have HOZ := Lib.hid hoz
    clear hgz hpz hoz u0 u1 u2 u3 u4 u5 u6 v0 v1 v2 v3 v4
    obtain ⟨zr0, zr1, zr2, zr3, zr4, zr5, zr6⟩ := KR9.all7
    obtain ⟨zrf0, zrf1, zrf2, zrf3, zrf4, zrf5, zrf6⟩ := KR9.fz7
    go_wp2
    generalize hwE9 : World.setCell _ ⟨a1.heap.size, 6, none⟩ _ = wZ
    obtain ⟨KE9, SE9, ZE9, BE9⟩ := store7 KR9 hwE9
    obtain ⟨ze0, ze1, ze2, ze3, ze4, ze5, ze6⟩ := KE9.all7
    refine bodyPost_ret (v := .tuple #[.agg #[.string z.name_, .int .i64 z.quota_, .int .i64 z.next_, .slice z.sets_.A z.sets_.l.length z.sets_.c, .slice z.grants_.A z.grants_.l.length z.grants_.c, .slice z.stages_.A z.stages_.l.length z.stages_.c, .slice z.log_.A z.log_.l.length z.log_.c], .int .i64 (R.2)]) (by simp [results, Tryz.results18, go_sem, ze0, ze1, ze2, ze3, ze4, ze5, ze6]) rfl ?_
    exact ⟨z, rfl, (HOZ.out.store hl8 SE9).base hs8, MTenant.Good.of_own HGZ.out rfl (HOZ.out.store hl8 SE9), HPZ.out, BE9 _ _ hX9 hs1⟩
  · have hq : (E == 0) = false := beq_eq_false_iff_ne.2 hz
    obtain rfl : R = (noT, E) := by
      rw [← HPR.out]
      unfold cloneP
      rw [HE.out, if_pos hz]
    clear hz HE HOS HPR
    obtain ⟨zr0, zr1, zr2, zr3, zr4, zr5, zr6⟩ := K2.all7
    obtain ⟨zrf0, zrf1, zrf2, zrf3, zrf4, zrf5, zrf6⟩ := K2.fz7
    go_wp2
    generalize hwE9 : World.setCell _ ⟨a1.heap.size, 6, none⟩ _ = wZ
    obtain ⟨KE9, SE9, ZE9, BE9⟩ := store7 K2 hwE9
    obtain ⟨ze0, ze1, ze2, ze3, ze4, ze5, ze6⟩ := KE9.all7
    refine bodyPost_ret (v := .tuple #[.agg #[.string ⟨#[]⟩, .int .i64 0, .int .i64 0, .slice none 0 0, .slice none 0 0, .slice none 0 0, .slice none 0 0], .int .i64 (E)]) (by simp [results, Tryz.results18, go_sem, ze0, ze1, ze2, ze3, ze4, ze5, ze6]) rfl ?_
    exact ansT_no (BE9 _ _ hB0w hs1)
end Go.Proofs.YtimmcmjipmkebaaGreat
