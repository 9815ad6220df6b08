/-
  blocks: Read. Conditions: at most 2^47 octets.
-/
import Derived.Test.YtkebgfpghjgghaaBLJ
namespace Go.Proofs.Ytkebgfpghjgghaa
open Go.ChangeShapes Go.WideShapes Go.ChangeAt Go.RowKit
set_option maxRecDepth 100000

/-- A slice's length. -/
def slenK : Value → Nat
  | .slice _ n _ => n
  | _ => 0
/-- Octets as blocks. -/
def bkAt (zs : List Int) (i : Nat) : Bk := (val ((zs.drop (18 * i)).take 2), strOfNums ((zs.drop (18 * i + 2)).take 16))
def rdK (zs : List Int) : List Bk := (List.range (zs.length / 18)).map (bkAt zs)
def readE (zs : List Int) : Int := if zs.length % 18 = 0 then chkK (rdK zs) else 8
def readR (zs : List Int) : List Bk := if readE zs = 0 then rdK zs else []
theorem rdK_length (zs : List Int) : (rdK zs).length = zs.length / 18 := by simp [rdK]
theorem rdK_take (zs : List Int) (k : Nat) (h : k < zs.length / 18) : (rdK zs).take (k + 1) = (rdK zs).take k ++ [bkAt zs k] := by
  have : (rdK zs)[k]? = some (bkAt zs k) := by simp [rdK, h]
  rw [List.take_add_one, this]
  rfl
theorem strOf_size (zs : List Int) : (strOfNums zs).size = zs.length := by simp [strOfNums, ByteArray.size]
theorem octs_tk {zs : List Int} (h : Octs zs) (k : Nat) : Octs (zs.take k) := fun z hz => h z (List.mem_of_mem_take hz)
theorem octs_dp {zs : List Int} (h : Octs zs) (k : Nat) : Octs (zs.drop k) := fun z hz => h z (List.mem_of_mem_drop hz)
theorem val_two (zs : List Int) (ho : Octs zs) (h : zs.length = 2) : 0 ≤ val zs ∧ val zs < 65536 := by
  have := val_bound zs ho
  rw [h] at this
  simpa using this
theorem number2 (A : Option Addr) (c : Nat) (zs : List Int) (h : zs.length = 2) (ho : Octs zs) (w : World) (hr : RdB w A zs) :
    Calls Try.prog 36 #[.slice A 2 c] w fun e w' => e = .returned (.tuple #[.int .i64 (val zs), .int .i64 0]) ∧ w = w' := by
  have := number_ok A c zs (by omega) (by omega) ho w hr (by have := val_two zs ho h; omega)
  rw [h] at this
  exact this
theorem run_string_at (w : World) (A : Option Addr) (n : Nat) (zs : List Int) (c : Nat) (hn : zs.length = n) (h : RdB w A zs) : (convert 23 9 (.slice A n c)).run Try.prog w = .ok (.string (strOfNums zs)) w := by
  subst hn
  exact run_string_rd w _ _ _ Try.underlying23 Try.underlying5 Try.underlying9 A zs c h

set_option maxHeartbeats 2000000 in
theorem blkRead_any (A : Option Addr) (c n : Nat) (zs : List Int) (hn : zs.length = n) (hl : n ≤ 140737488351232) (hc : n ≤ c) (ho : Octs zs) (w : World) (hr : RdB w A zs) :
    Calls Try.prog 15 #[.slice A n c] w fun e w' => ∃ v, e = .returned (ansK v (readE zs)) ∧ ownK w' w.heap.size v (readR zs) ∧ Below w.heap.size w w' := by
  obtain ⟨i0, hi, hz0, hz1, hz2⟩ := infoParts infoBk
  by_cases hmod : zs.length % 18 = 0
  · by_cases hmany : 1024 < zs.length / 18
    · have hE : readE zs = 9 := by
        unfold readE
        rw [if_pos hmod, chkK, if_neg (fun h => by have := okK_len h; rw [rdK_length] at this; omega)]
      have hR : readR zs = [] := by unfold readR; rw [if_neg (by rw [hE]; omega)]
      rw [hE, hR]
      have h1 : ((n : Int) % 18 == 0) = true := beq_iff_eq.2 (by omega)
      have h2 : (1024 : Int) < (n : Int) / 18 := by omega
      have ht1 : (n : Int).tmod 18 = 0 := by rw [Int.tmod_eq_emod_of_nonneg (by omega)]; omega
      have ht2 : (n : Int).tdiv 18 = (n : Int) / 18 := Int.tdiv_eq_ediv_of_nonneg (by omega)
      clear hE hR
      go_enter Try.func15, Try.ntmps15
      go_wp2
      go_ret2
      exact ⟨_, rfl, ownNone _ _ _ _, Below.refl _ _⟩
    · obtain ⟨m, hm⟩ : ∃ m, zs.length / 18 = m := ⟨_, rfl⟩
      have hnm : n = 18 * m := by omega
      have hm24 : m ≤ 1024 := by omega
      have hlK := rdK_length zs
      rw [hm] at hlK
      have hE : readE zs = chkK (rdK zs) := by unfold readE; rw [if_pos hmod]
      obtain ⟨R, hRe⟩ : ∃ R, readE zs = R := ⟨_, rfl⟩
      obtain ⟨O, hO⟩ : ∃ O, readR zs = O := ⟨_, rfl⟩
      rw [hRe, hO]
      have hOR : O = if R = 0 then rdK zs else [] := by rw [← hO, readR, hRe]
      rw [hRe] at hE
      have HE := Lib.hid hE
      have HOR := Lib.hid hOR
      subst hnm
      have hsz : ∀ x ∈ rdK zs, x.2.size ≤ 140737488351232 := fun x hx => by
        obtain ⟨i, _, rfl⟩ := List.mem_map.1 hx
        show (strOfNums _).size ≤ _
        rw [strOf_size, List.length_take]
        omega
      have HSZ := Lib.hid hsz
      have ht1 : ((18 * m : Nat) : Int).tmod 18 = 0 := by rw [Int.tmod_eq_emod_of_nonneg (by omega)]; omega
      have ht2 : ((18 * m : Nat) : Int).tdiv 18 = m := by rw [Int.tdiv_eq_ediv_of_nonneg (by omega)]; omega
      clear hRe hO hE hOR hsz hmany hmod
      go_enter Try.func15, Try.ntmps15
      go_wp2
      go_loopw [0, 4] (fun v u W => ∃ (k n' c' : Nat) (A' : Option Addr), n' + 18 * k = 18 * m ∧ v = .slice A' n' c' ∧ n' ≤ c' ∧ Hid (RdB w A' (zs.drop (18 * k))) ∧ Hid (ownK W w.heap.size u ((rdK zs).take k)) ∧ Below w.heap.size w W) (fun v _ _ => slenK v)
      case atStart => exact ⟨0, 18 * m, c, A, by omega, rfl, hc, Lib.hid hr, Lib.hid (ownNone _ _ _ _), Below.refl _ _⟩
      case round =>
        obtain ⟨k, n', c', A', hk, rfl, hc', HRB, HO, hB⟩ := hrel
        obtain ⟨Av, cv, hv, _, _, _, _⟩ := ownAny HO.out
        subst hv
        have hlk : ((rdK zs).take k).length = k := by rw [List.length_take]; omega
        have hdl : (zs.drop (18 * k)).length = n' := by rw [List.length_drop]; omega
        rw [hlk] at HO ⊢
        have HO' : Hid (wr.ownsRow w.heap.size 58 2 (.slice Av k cv) k (bks ((rdK zs).take k))) := Lib.hid (by have := HO.out; unfold ownK at this; rw [hlk] at this; exact this)
        by_cases hlt : 0 < n'
        · have hkm : k < m := by omega
          obtain ⟨b, off, rfl, hb, _⟩ := RdB.cell HRB.out (k := 0) (by omega)
          have h18 : 18 ≤ n' := by omega
          have hr2 : RdB wr (some ⟨b, off, none⟩) ((zs.drop (18 * k)).take 2) := (rd_take HRB.out 2).below hB
          have HN := Lib.hid (number2 (some ⟨b, off, none⟩) c' _ (by rw [List.length_take]; omega) (octs_tk (octs_dp ho _) _) wr hr2)
          have hr16 := rd_take (rd_drop HRB.out 2 c' (by omega)) 16
          rw [if_neg (by omega), Option.map_some, add_plain, List.drop_drop] at hr16
          have hr16 := RdB.below hr16 hB
          have hcv := fun (c'' : Nat) => run_string_at wr (some ⟨b, off + 2, none⟩) 16 _ c'' (by rw [List.length_take, List.length_drop]; omega) hr16
          have HT := Lib.hid (rdK_take zs k (by omega))
          have HR' := Lib.hid (rd_drop HRB.out 18 c' (by omega))
          obtain ⟨X, hX⟩ : ∃ X, val ((zs.drop (18 * k)).take 2) = X := ⟨_, rfl⟩
          obtain ⟨S, hS⟩ : ∃ S, strOfNums ((zs.drop (18 * k + 2)).take 16) = S := ⟨_, rfl⟩
          have hXS : bkAt zs k = (X, S) := by rw [bkAt, hX, hS]
          rw [hX] at HN
          rw [hS] at hcv
          rw [hXS] at HT
          have hBs := hB.size
          clear hX hS hXS hr2 hr16 hr HO ht1 ht2
          go_wp2_with fail
          refine HN.out.mono ?_
          rintro e w1 ⟨rfl, rfl⟩
          clear HN
          go_wp2_with (first
            | (at_builtin; refine wpList_append_lies _ rfl _ _ 22 rfl w.heap.size 58 i0 (.agg #[.int .i64 0, .string ByteArray.empty]) 2 24 Try.underlying22 hi hz0 hz1 hz2 rfl (by decide) (.slice Av k cv) k (bks ((rdK zs).take k)) rfl (ownBelow HO'.out ((Below.refl _ _).alloc (Nat.le_refl _) _) (Nat.le_refl _)) ⟨wr.heap.size, 0, none⟩ 1 1 [.int .i64 X, .string S] rfl rfl (newsNew _ _ _) (by simp [Value.oneCell']) (by omega) (by unfold maxLen; omega) (by omega) (by simp; omega) _ rfl ?_
               intro g6 c6 x6 ho6 hg6 _ _
               have HB6 : Hid (Below w.heap.size w x6) := Lib.hid ((hB.alloc hBs _).grown hg6 (by simp; omega) (fun j e => (HO'.out.lt j e).1))
               have HO6 := Lib.hid ho6
               clear ho6 hg6))
          all_goals
            go_roundw
            case rel => exact ⟨k + 1, n' - 18, c' - 18, _, by omega, rfl, by omega, Lib.hid (by have := HR'.out; rw [List.drop_drop] at this; exact this), Lib.hid (by rw [HT.out]; unfold ownK; rw [bks_snoc, List.length_append, hlk]; exact HO6.out), HB6.out⟩
            case measure => simp [slenK]; omega
        · obtain rfl : n' = 0 := by omega
          obtain rfl : k = m := by omega
          have HC := Lib.hid (fun (hr : Rd wr Av (bks (rdK zs))) => blkCheck_any Av cv k (rdK zs) hlK (by omega) HSZ.out wr hr)
          have hT : (rdK zs).take k = rdK zs := List.take_of_length_le (by omega)
          rw [hT] at HO'
          have HC' := Lib.hid (HC.out (RdN.of_own HO'.out).1)
          rw [← HE.out] at HC'
          have hBs := hB.size
          by_cases hR0 : R = 0
          · subst hR0
            have HO9 := HOR.out
            rw [if_pos rfl] at HO9
            subst HO9
            go_wp2_with fail
            refine HC'.out.mono ?_
            rintro e w3 ⟨rfl, hB3⟩
            have HO3 := Lib.hid (ownBelow HO'.out hB3 (Nat.le_refl _))
            go_wp2
            go_ret2
            exact ⟨_, rfl, by unfold ownK; rw [hlK]; exact HO3.out, hB.trans (hB3.mono hBs)⟩
          · have HO9 := HOR.out
            rw [if_neg hR0] at HO9
            subst HO9
            have hb0 : (R == 0) = false := beq_eq_false_iff_ne.2 hR0
            go_wp2_with fail
            refine HC'.out.mono ?_
            rintro e w3 ⟨rfl, hB3⟩
            go_wp2
            go_ret2
            exact ⟨_, rfl, ownNone _ _ _ _, hB.trans (hB3.mono hBs)⟩
  · have hE : readE zs = 8 := by unfold readE; rw [if_neg hmod]
    have hR : readR zs = [] := by unfold readR; rw [if_neg (by rw [hE]; omega)]
    rw [hE, hR]
    have ht1 : (n : Int).tmod 18 = (n : Int) % 18 := Int.tmod_eq_emod_of_nonneg (by omega)
    have h1 : ((n : Int) % 18 == 0) = false := beq_eq_false_iff_ne.2 (by omega)
    clear hE hR
    go_enter Try.func15, Try.ntmps15
    go_wp2
    go_ret2
    exact ⟨_, rfl, ownNone _ _ _ _, Below.refl _ _⟩

end Go.Proofs.Ytkebgfpghjgghaa
