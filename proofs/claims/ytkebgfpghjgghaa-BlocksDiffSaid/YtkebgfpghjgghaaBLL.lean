/-
  The reference's Read. Conditions: at most 2^47 octets.
-/
import Derived.Test.YtkebgfpghjgghaaBLK
namespace Go.Proofs.Ytkebgfpghjgghaa
open Go.ChangeShapes Go.WideShapes Go.ChangeAt Go.RowKit
set_option maxRecDepth 100000

theorem refNumber2 (A : Option Addr) (c : Nat) (zs : List Int) (h : zs.length = 2) (ho : Octs zs) (w : World) (hr : RdB w A zs) :
    Calls Try.prog 37 #[.slice A 2 c] w fun e w' => e = .returned (.tuple #[.int .i64 (val zs), .int .i64 0]) ∧ w = w' := by
  have h1 := refNumber_any A c zs (by omega) (by omega) ho w hr
  have h2 : numO zs = (val zs, 0) := by unfold numO; rw [if_neg (by have := val_two zs ho h; omega)]
  rw [h, h2] at h1
  exact h1

set_option maxHeartbeats 2000000 in
theorem refRead_blk (A : Option Addr) (c n : Nat) (zs : List Int) (hn : zs.length = n) (hl : n ≤ 140737488351232) (hc : n ≤ c) (ho : Octs zs) (w : World) (hr : RdB w A zs) :
    Calls Try.prog 16 #[.slice A n c] w fun e w' => ∃ v, e = .returned (ansK v (readE zs)) ∧ ownK w' w.heap.size v (readR zs) ∧ Below w.heap.size w w' := by
  obtain ⟨i0, hi, hz0, hz1, hz2⟩ := infoParts infoBk
  by_cases hmod : zs.length % 18 = 0
  · obtain ⟨m, hm⟩ : ∃ m, zs.length / 18 = m := ⟨_, rfl⟩
    have hnm : n = 18 * m := by omega
    have hlK := rdK_length zs
    rw [hm] at hlK
    have hE : readE zs = chkK (rdK zs) := by unfold readE; rw [if_pos hmod]
    obtain ⟨R, hRe⟩ : ∃ R, readE zs = R := ⟨_, rfl⟩
    obtain ⟨O, hO⟩ : ∃ O, readR zs = O := ⟨_, rfl⟩
    rw [hRe, hO]
    have hOR : O = if R = 0 then rdK zs else [] := by rw [← hO, readR, hRe]
    rw [hRe] at hE
    have HE := Lib.hid hE
    have HOR := Lib.hid hOR
    subst hnm
    have hsz : ∀ x ∈ rdK zs, x.2.size ≤ 140737488351232 := fun x hx => by
      obtain ⟨i, _, rfl⟩ := List.mem_map.1 hx
      show (strOfNums _).size ≤ _
      rw [strOf_size, List.length_take]
      omega
    have HSZ := Lib.hid hsz
    have HR := Lib.hid hr
    have ht1 : ((18 * m : Nat) : Int).tmod 18 = 0 := by rw [Int.tmod_eq_emod_of_nonneg (by omega)]; omega
    clear hRe hO hE hOR hsz hmod hr
    go_enter Try.func16, Try.ntmps16
    go_wp2
    clear ht1
    go_loopw [4, 5] (fun u v W => ∃ k : Nat, k ≤ m ∧ v = .int .i64 ((18 * k : Nat) : Int) ∧ Hid (ownK W w.heap.size u ((rdK zs).take k)) ∧ Below w.heap.size w W) (fun _ v _ => 18 * m - (intOf v).toNat)
    case atStart => exact ⟨0, Nat.zero_le _, rfl, Lib.hid (ownNone _ _ _ _), Below.refl _ _⟩
    case round =>
      obtain ⟨k, hk, rfl, HO, hB⟩ := hrel
      obtain ⟨Av, cv, hv, _, _, _, _⟩ := ownAny HO.out
      subst hv
      have hlk : ((rdK zs).take k).length = k := by rw [List.length_take]; omega
      rw [hlk] at HO ⊢
      have HO' : Hid (wr.ownsRow w.heap.size 58 2 (.slice Av k cv) k (bks ((rdK zs).take k))) := Lib.hid (by have := HO.out; unfold ownK at this; rw [hlk] at this; exact this)
      by_cases hlt : k < m
      · obtain ⟨b, off, rfl, hb, _⟩ := RdB.cell HR.out (k := 0) (by omega)
        have hr2 := rd_take (rd_drop HR.out (18 * k) c (by omega)) 2
        rw [if_neg (by omega), Option.map_some, add_plain] at hr2
        have hr2 := RdB.below hr2 hB
        have HN := Lib.hid (fun c' => refNumber2 (some ⟨b, off + 18 * k, none⟩) c' _ (by rw [List.length_take, List.length_drop]; omega) (octs_tk (octs_dp ho _) _) wr hr2)
        have hr16 := rd_take (rd_drop HR.out (18 * k + 2) c (by omega)) 16
        rw [if_neg (by omega), Option.map_some, add_plain] at hr16
        have hr16 := RdB.below hr16 hB
        have hcv := fun (c'' : Nat) => run_string_at wr (some ⟨b, off + (18 * k + 2), none⟩) 16 _ c'' (by rw [List.length_take, List.length_drop]; omega) hr16
        have HT := Lib.hid (rdK_take zs k (by omega))
        obtain ⟨X, hX⟩ : ∃ X, val ((zs.drop (18 * k)).take 2) = X := ⟨_, rfl⟩
        obtain ⟨S, hS⟩ : ∃ S, strOfNums ((zs.drop (18 * k + 2)).take 16) = S := ⟨_, rfl⟩
        have hXS : bkAt zs k = (X, S) := by rw [bkAt, hX, hS]
        rw [hX] at HN
        rw [hS] at hcv
        rw [hXS] at HT
        have hBs := hB.size
        have hi2 : wrap64 (((18 * k : Nat) : Int) + 2) = ((18 * k + 2 : Nat) : Int) := (IntWalk.wrap64_in _ (by omega)).trans (by omega)
        have hi18 : wrap64 (((18 * k : Nat) : Int) + 18) = ((18 * k + 18 : Nat) : Int) := (IntWalk.wrap64_in _ (by omega)).trans (by omega)
        clear hX hS hXS hr2 hr16 HO
        generalize hq : 18 * k = q at *
        go_wp2_with fail
        refine (HN.out _).mono ?_
        rintro e w1 ⟨rfl, rfl⟩
        clear HN
        go_wp2_with (first
          | (at_builtin; refine wpList_append_own_wide _ rfl _ _ 22 rfl w.heap.size 58 i0 (.agg #[.int .i64 0, .string ByteArray.empty]) 2 24 Try.underlying22 hi hz0 hz1 hz2 rfl (by decide) (.slice Av k cv) k (bks ((rdK zs).take k)) rfl (ownBelow HO'.out ((Below.refl _ _).alloc (Nat.le_refl _) _) (Nat.le_refl _)) ⟨wr.heap.size, 0, none⟩ 1 1 [.int .i64 X, .string S] rfl rfl (newsNew _ _ _) (by simp [Value.oneCell']) (by unfold maxLen; omega) (by omega) (by simp; omega) ?_
             intro v6 x6 ho6 hg6 _
             have HB6 : Hid (Below w.heap.size w x6) := Lib.hid ((hB.alloc hBs _).grown hg6 (by simp; omega) (fun j e => (HO'.out.lt j e).1))
             have HO6 := Lib.hid ho6
             clear ho6 hg6))
        go_roundw
        case rel => exact ⟨k + 1, by omega, by go_num, Lib.hid (by rw [HT.out]; unfold ownK; rw [bks_snoc, List.length_append, hlk]; exact HO6.out), HB6.out⟩
        case measure => simp [intOf]; omega
      · obtain rfl : k = m := by omega
        have hT : (rdK zs).take k = rdK zs := List.take_of_length_le (by omega)
        rw [hT] at HO'
        have HC' := Lib.hid (refCheck_any Av cv k (rdK zs) hlK (by omega) HSZ.out wr (RdN.of_own HO'.out).1)
        rw [← HE.out] at HC'
        have hBs := hB.size
        by_cases hR0 : R = 0
        · subst hR0
          have HO9 := HOR.out
          rw [if_pos rfl] at HO9
          subst HO9
          go_wp2_with fail
          refine HC'.out.mono ?_
          rintro e w3 ⟨rfl, hB3⟩
          have HO3 := Lib.hid (ownBelow HO'.out hB3 (Nat.le_refl _))
          go_wp2
          go_ret2
          exact ⟨_, rfl, by unfold ownK; rw [hlK]; exact HO3.out, hB.trans (hB3.mono hBs)⟩
        · have HO9 := HOR.out
          rw [if_neg hR0] at HO9
          subst HO9
          obtain rfl : R = 9 := by have := HE.out; unfold chkK at this; split at this <;> omega
          go_wp2_with fail
          refine HC'.out.mono ?_
          rintro e w3 ⟨rfl, hB3⟩
          go_wp2
          go_ret2
          exact ⟨_, rfl, ownNone _ _ _ _, hB.trans (hB3.mono hBs)⟩
  · have hE : readE zs = 8 := by unfold readE; rw [if_neg hmod]
    have hR : readR zs = [] := by unfold readR; rw [if_neg (by rw [hE]; omega)]
    rw [hE, hR]
    have ht1 : (n : Int).tmod 18 = (n : Int) % 18 := Int.tmod_eq_emod_of_nonneg (by omega)
    have h1 : ((n : Int) % 18 == 0) = false := beq_eq_false_iff_ne.2 (by omega)
    clear hE hR
    go_enter Try.func16, Try.ntmps16
    go_wp2
    go_ret2
    exact ⟨_, rfl, ownNone _ _ _ _, Below.refl _ _⟩

end Go.Proofs.Ytkebgfpghjgghaa
