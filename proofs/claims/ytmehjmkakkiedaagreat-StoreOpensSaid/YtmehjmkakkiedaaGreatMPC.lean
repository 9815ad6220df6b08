/-
  Page of the reference. Conditions: the slice is one that may be.
-/
import Derived.Test.YtmehjmkakkiedaaGreatMGB
import Derived.Test.YtmehjmkakkiedaaGreatMGC
import Derived.Deep.RegionLawGrows
namespace Go.Proofs.YtmehjmkakkiedaaGreat
open Go.ChangeShapes Go.WideShapes Go.ChangeAt Go.RowKit
set_option maxRecDepth 100000

set_option maxHeartbeats 4000000 in
set_option maxRecDepth 100000 in
theorem refPage_ok (s : Slc) (next : Int) (hp : pgE s.zs.length next = 0) (hnil : s.A = none → s.c = 0) (w : World) (hs : s.ok w) :
    Calls Tryz.prog 31 #[s.val, .int .i64 next] w fun e w' => ∃ A c, e = .returned (.tuple #[.slice A 64 c, .int .i64 0]) ∧ 64 ≤ c ∧ RdB w' A (pgO s.zs next) ∧ Below w.heap.size w w' := by
  obtain ⟨i0, hi, hz0, hz1, hz2⟩ := info_parts info5
  obtain ⟨A, zs, c⟩ := s
  obtain ⟨hc, hl, ho, hr⟩ := hs
  dsimp only at hp hc hl ho hr hnil
  unfold Slc.val
  dsimp only
  obtain ⟨h1, h2, h3⟩ := pgE_ok.1 hp
  obtain ⟨n, hn⟩ : ∃ n, zs.length = n := ⟨_, rfl⟩
  have HL := Lib.hid (pgHead_length (b := zs) next h1)
  have HOL := Lib.hid (pgO_length (b := zs) next h1)
  have HHO := Lib.hid (pgHead_octs next ho)
  have HHE : Hid (pgHead zs next = put (n : Int) 2 ++ (put next 2 ++ (zs ++ List.replicate (52 - n) 0))) := by subst hn; rfl
  have HOO : Hid (pgO zs next = pgHead zs next ++ put (feedS zeroS (words (pgHead zs next))).A 8) := rfl
  rw [hn] at hc hl h1 ⊢
  obtain ⟨ss, hss⟩ : ∃ ss, feedS zeroS (words (pgHead zs next)) = ss := ⟨_, rfl⟩
  have HSS := Lib.hid hss
  rw [hss] at HOO
  generalize pgO zs next = zo at HOO HOL ⊢
  generalize pgHead zs next = zh at HOO HHE HHO HL HSS hss
  clear hss
  have PT := Lib.hid (refPut_any (n : Int) 2 (by omega))
  have PF := Lib.hid (refPut_any next 2 (by omega))
  have HN := Lib.hid hn
  have HR := Lib.hid hr
  have HNI := Lib.hid hnil
  clear hnil hr hn hp ho hl
  have h4 : (n : Int) ≤ 52 := by omega
  go_enter Tryz.func31, Tryz.ntmps31
  go_wp2_with fail
  refine (PT.out w).mono ?_
  rintro e w1 ⟨v1, rfl, hown1, hB1⟩
  obtain ⟨g1, c1, rfl, hg1, hlt1⟩ := hown1.form (by omega)
  have HO1 : Hid (w1.ownsRow w.heap.size 5 1 (.slice (some ⟨g1, 0, none⟩) 2 c1) 2 (octCells (put (n : Int) 2))) := hown1
  clear hown1
  go_wp2_with fail
  refine (PF.out w1).mono ?_
  rintro e w2 ⟨v2, rfl, hown2, hB2⟩
  obtain ⟨A2, c2, rfl, _, hr2⟩ := own_slice hown2
  have HR2 := Lib.hid hr2
  have HO12 := Lib.hid (own_below HO1.out hB2 (Nat.le_refl _))
  have hB02 : Below w.heap.size w w2 := hB1.trans (hB2.mono hB1.size)
  have hs2 := hB02.size
  have hA2 : A2 = none → c2 = 0 := fun h => by
    subst h
    obtain ⟨b, off, e, _⟩ := HR2.out (by simp [put])
    cases e
  clear hown2 hr2 HO1 PT PF
  have hz4 : octCells (put (n : Int) 2) ++ octCells (put next 2) ++ octCells zs = octCells (zh.take (4 + n)) := by
    rw [HHE.out, ← List.append_assoc, ← List.append_assoc, List.take_left' (by simp [put_length, HN.out]; omega)]
    simp [octCells]
  have hzk : ∀ k, 4 + n ≤ k → k < 56 → octCells (zh.take k) ++ [.int .u8 0] = octCells (zh.take (k + 1)) := fun k h1 h2 => by
    have hk : k < zh.length := by rw [HL.out]; exact h2
    rw [List.take_succ_eq_append_getElem hk]
    have : zh[k] = 0 := by
      have h3 : zh[k]? = some 0 := by
        rw [HHE.out, ← List.append_assoc, ← List.append_assoc, List.getElem?_append_right (by simp [put_length, HN.out]; omega)]
        rw [List.getElem?_replicate, if_pos (by simp [put_length, HN.out]; omega)]
      rw [List.getElem?_eq_getElem hk] at h3
      injection h3
    rw [this]
    simp [octCells]
  have HZ4 := Lib.hid hz4
  have HZK := Lib.hid hzk
  have HRW : Hid (RdB w A zs) := HR
  have hlz : (octCells zs).length = n := by rw [octCells_length, HN.out]
  have hlf : (octCells (put next 2)).length = 2 := by rw [octCells_length, put_length]
  have HR2' : Hid (RdB w2 A2 (put next 2)) := HR2
  clear HHE hz4 hzk
  generalize octCells (put (n : Int) 2) = ct at *
  obtain ⟨cf, hcf⟩ : ∃ cf, octCells (put next 2) = cf := ⟨_, rfl⟩
  have HRF : Hid (Rd w2 A2 cf) := hcf ▸ HR2
  have hcf1 : ∀ u ∈ cf, u.oneCell' = true := hcf ▸ octCells_one _
  obtain ⟨cz, hcz⟩ : ∃ cz, octCells zs = cz := ⟨_, rfl⟩
  have HRZ : Hid (Rd w A cz) := hcz ▸ HRW
  have hcz1 : ∀ u ∈ cz, u.oneCell' = true := hcz ▸ octCells_one _
  rw [hcf] at HZ4 hlf
  rw [hcz] at HZ4 hlz
  have HF1 := Lib.hid hcf1
  have HZ1 := Lib.hid hcz1
  clear HR2 HR2' HRW hcf hcz hcf1 hcz1 HR
  go_wp2_with (first
    | (at_builtin; refine wpList_append_rd (o := ⟨some 22, _, _, _, _, _⟩) (by rfl) _ _ 46 (by rfl) w.heap.size 5 i0 (.int .u8 0) 1 Tryz.underlying46 hi hz0 hz1 hz2 rfl (.slice (some ⟨g1, 0, none⟩) 2 c1) 2 ct (by rfl) HO12.out A2 2 c2 cf (by rfl) hlf HRF.out hA2 HF1.out (by unfold maxLen; omega) (by omega) hs2 ?_; intro v3 w3 hown3 hgrow3; obtain ⟨g3, c3, rfl, hg3, hlt3⟩ := hown3.form (by omega); have hB03 : Below w.heap.size w w3 := hB02.grown hgrow3 hs2 (fun j e => by simp [Value.ownBlock] at e; omega); have hs3 := hB03.size; have HO3 := Lib.hid hown3; have HG3 := Lib.hid hgrow3; clear hown3 hgrow3 HO12)
    | (at_builtin; refine wpList_append_rd (o := ⟨some 24, _, _, _, _, _⟩) (by rfl) _ _ 46 (by rfl) w.heap.size 5 i0 (.int .u8 0) 1 Tryz.underlying46 hi hz0 hz1 hz2 rfl (.slice (some ⟨g3, 0, none⟩) (2 + 2) c3) (2 + 2) (ct ++ cf) (by rfl) HO3.out A n c cz (by rfl) hlz ?_ HNI.out HZ1.out (by unfold maxLen; omega) (by omega) hs3 ?_; (focus (exact Rd.below HRZ.out hB03)); intro v4 w4 hown4 hgrow4))
  have hB04 : Below w.heap.size w w4 := hB03.grown hgrow4 hs3 (fun j e => by simp [Value.ownBlock] at e; omega)
  rw [HZ4.out] at hown4
  obtain ⟨g4, c4, rfl, hg4, hlt4⟩ := hown4.form (by omega)
  rw [show 2 + 2 + n = 4 + n by omega] at hown4 ⊢
  have HO4 := Lib.hid hown4
  clear hown4 hgrow4 HO3 HG3 HZ4 HRZ HRF hlf hlz
  go_wp2_with fail
  go_loopw [6] (fun v wr => ∃ k : Nat, 4 + n ≤ k ∧ k ≤ 56 ∧ slen v = k ∧ Hid (wr.ownsRow w.heap.size 5 1 v k (octCells (zh.take k))) ∧ Below w.heap.size w wr) (fun v _ => 56 - slen v)
  case atStart => exact ⟨4 + n, by omega, by omega, rfl, HO4, hB04⟩
  case round =>
    obtain ⟨k, hk0, hk, hsl, HO, hB⟩ := hrel
    obtain ⟨A, c, rfl, hkc, hrd⟩ := own_slice HO.out
    by_cases hlt : k < 56
    · have HP := Lib.hid (HZK.out k hk0 hlt)
      have hs := hB.size
      clear hrd hsl
      generalize octCells (zh.take k) = cs at *
      go_wp2_with (at_builtin; refine wpList_append_own _ rfl _ _ 46 rfl w.heap.size 5 i0 (.int .u8 0) 1 1 Tryz.underlying46 hi hz0 hz1 hz2 rfl (by decide) _ k cs rfl (by exact HO.out.alloc _) ⟨wr.heap.size, 0, none⟩ 1 1 [.int .u8 0] rfl rfl (by exact cell_one_new _ _ _) (by simp [Value.oneCell']) (by unfold maxLen; omega) (by omega) (by simp; omega) ?_; intro v2 w3 hown2 hgrow2 _)
      have hB2 : Below w.heap.size w w3 := (hB.alloc hB.size _).grown hgrow2 (by simp; omega) (fun j e => (HO.out.lt j e).1)
      clear hgrow2
      rw [HP.out] at hown2
      obtain ⟨A2, c2', rfl, _, _⟩ := own_slice hown2
      go_roundw
      case rel => exact ⟨k + 1, by omega, by omega, rfl, Lib.hid hown2, hB2⟩
      case measure => simp [slen]; try omega
    · obtain rfl : k = 56 := by omega
      have hd := HO.out
      rw [List.take_of_length_le (by rw [HL.out]; omega)] at hd hrd
      have HD := Lib.hid hd
      have HR := Lib.hid hrd
      clear hd hrd HO hsl
      go_wp2_with fail
      have hfe : Calls Tryz.prog 66 #[zeroS.val, .slice A 56 c] wr fun e w' => e = .returned ss.val ∧ Below wr.heap.size wr w' := by
        rw [← HSS.out]
        have := refFeed_any zeroS A c zh (by rw [HL.out]; omega) HHO.out wr HR.out
        rw [HL.out] at this
        exact this
      refine hfe.mono ?_
      rintro e w4 ⟨rfl, hB4⟩
      have HD4 := Lib.hid (own_below HD.out hB4 (Nat.le_refl _))
      have hBw4 : Below w.heap.size w w4 := hB.trans (hB4.mono hB.size)
      clear hfe HD HR hB4
      go_wp2_with fail
      refine (sumOctets_cap ss w4).mono ?_
      rintro e w5 ⟨A5, c5, rfl, hc5, hr5, hB5⟩
      have HD5 := Lib.hid (own_below HD4.out hB5 (Nat.le_refl _))
      have hBw5 : Below w.heap.size w w5 := hBw4.trans (hB5.mono hBw4.size)
      have hs5 := hBw5.size
      obtain ⟨b5, o5, rfl, hb5, _⟩ := RdB.cell hr5 (k := 0) (by rw [sumOcts_length]; omega)
      have hr8 := RdB.take hr5 8
      have he8 : (sumOcts ss).take 8 = put ss.A 8 := by unfold sumOcts; exact List.take_left' (put_length _ _)
      rw [he8] at hr8
      have HR5 := Lib.hid hr8
      clear HD4 hB5 hr5 hr8 he8
      go_wp2_with (at_builtin; refine wpList_append_rd (by rfl) _ _ 46 (by rfl) w.heap.size 5 i0 (.int .u8 0) 1 Tryz.underlying46 hi hz0 hz1 hz2 rfl (.slice A 56 c) 56 (octCells zh) (by rfl) HD5.out (some ⟨b5, o5, none⟩) 8 _ (octCells (put ss.A 8)) (by rfl) (by rw [octCells_length, put_length]) HR5.out (fun h => by cases h) (octCells_one _) (by unfold maxLen; omega) (by omega) hs5 ?_; intro v6 w6 hown6 hgrow6)
      have hB6 : Below w.heap.size w w6 := hBw5.grown hgrow6 hs5 (fun j e => (HD5.out.lt j e).1)
      have hz64 : octCells zh ++ octCells (put ss.A 8) = octCells zo := by rw [HOO.out]; simp [octCells]
      rw [hz64] at hown6
      obtain ⟨A6, c6, rfl, hc6, hr6⟩ := own_slice hown6
      have HR6 := Lib.hid hr6
      clear hown6 hgrow6 hr6 HR5 HD5
      go_wp2
      go_ret2
      exact ⟨A6, c6, rfl, hc6, HR6.out, hB6⟩

set_option maxHeartbeats 1000000 in
theorem refPage_no (s : Slc) (next : Int) (hp : pgE s.zs.length next ≠ 0) (w : World) (hs : s.ok w) :
    Calls Tryz.prog 31 #[s.val, .int .i64 next] w fun e w' => e = .returned (.tuple #[.slice none 0 0, .int .i64 (pgE s.zs.length next)]) ∧ w = w' := by
  obtain ⟨A, zs, c⟩ := s
  obtain ⟨hc, hl, _, _⟩ := hs
  unfold maxLen at hl
  dsimp only at hp hc hl ⊢
  unfold Slc.val
  dsimp only
  unfold pgE at hp ⊢
  generalize zs.length = n at *
  by_cases h1 : 52 < n
  · rw [if_pos h1]
    clear hp
    go_enter Tryz.func31, Tryz.ntmps31
    go_wp2
    go_ret2
    exact ⟨rfl, rfl⟩
  · rw [if_neg h1] at hp ⊢
    by_cases h2 : next < 0 ∨ 8192 ≤ next
    · rw [if_pos h2]
      clear hp
      have h3 : ¬ (52 : Int) < n := by omega
      by_cases h4 : next < 0
      · go_enter Tryz.func31, Tryz.ntmps31
        go_wp2
        go_ret2
        exact ⟨rfl, rfl⟩
      · have h5 : 8192 ≤ next := by omega
        go_enter Tryz.func31, Tryz.ntmps31
        go_wp2
        go_ret2
        exact ⟨rfl, rfl⟩
    · rw [if_neg h2] at hp
      exact absurd rfl hp

end Go.Proofs.YtmehjmkakkiedaaGreat
