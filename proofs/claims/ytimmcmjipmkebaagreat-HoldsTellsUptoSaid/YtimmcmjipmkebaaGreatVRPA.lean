/-
 The reference's Parts and Path. Conditions: the text has at most 2^42 octets.
-/
import Derived.Test.YtimmcmjipmkebaaGreatVENN
namespace Go.Proofs.YtimmcmjipmkebaaGreat
set_option maxHeartbeats 1000000
open Go.ChangeShapes Go.WideShapes Go.ChangeAt Go.RowKit
set_option maxRecDepth 100000
def partsB (c : UInt8) : List UInt8 → List UInt8 → List (List UInt8)
 | cur, [] => [cur]
 | cur, x :: l => if x = c then cur :: partsB c [] l else partsB c (cur ++ [x]) l
theorem partsB_len (c : UInt8) : ∀ (l cur : List UInt8), (partsB c cur l).length ≤ l.length + 1
 | [], cur => by simp [partsB]
 | x :: l, cur => by
  unfold partsB
  split
  · have := partsB_len c l []
    simp only [List.length_cons]
    omega
  · have := partsB_len c l (cur ++ [x])
    simp only [List.length_cons]
    omega
theorem partsB_not {c : UInt8} : ∀ {l cur : List UInt8}, c ∉ l → partsB c cur l = [cur ++ l]
 | [], cur, _ => by simp [partsB]
 | x :: l, cur, h => by
  unfold partsB
  rw [if_neg (fun e => h (by simp [e])), partsB_not (fun hc => h (by simp [hc]))]
  simp
theorem partsB_at {c : UInt8} (r : List UInt8) : ∀ {p cur : List UInt8}, c ∉ p → partsB c cur (p ++ c :: r) = (cur ++ p) :: partsB c [] r
 | [], cur, _ => by simp [partsB]
 | x :: p, cur, h => by
  rw [List.cons_append, partsB, if_neg (fun e => h (by simp [e])), partsB_at r (fun hc => h (by simp [hc]))]
  simp
theorem partsB_mem {c : UInt8} : ∀ {l cur : List UInt8} {x : List UInt8}, x ∈ partsB c cur l → x.length ≤ cur.length + l.length
 | [], cur, x, h => by
  simp [partsB] at h
  subst h
  simp
 | y :: l, cur, x, h => by
  unfold partsB at h
  split at h
  · rcases List.mem_cons.1 h with rfl | h
    · omega
    · have := partsB_mem h
      simp only [List.length_cons, List.length_nil] at this ⊢
      omega
  · have := partsB_mem h
    simp only [List.length_append, List.length_cons, List.length_nil] at this ⊢
    omega
theorem pathB_parts : ∀ (n : Nat) (l : List UInt8), pathB n l = (decide ((partsB 47 [] l).length ≤ n) && (partsB 47 [] l).all zaQ)
 | 0, l => by
  have : (partsB 47 [] l) ≠ [] := by
   rcases l with _ | ⟨x, l⟩
   · simp [partsB]
   · by_cases h : (47 : UInt8) ∈ x :: l
     · obtain ⟨p, r, e, hp⟩ := split_mem h
       rw [e, partsB_at r hp]
       simp
     · rw [partsB_not h]
       simp
  have h2 : ¬ (partsB 47 [] l).length ≤ 0 := fun h => this (List.eq_nil_of_length_eq_zero (by omega))
  rw [decide_eq_false h2, Bool.false_and]
  rfl
 | n + 1, l => by
  by_cases h : (47 : UInt8) ∈ l
  · obtain ⟨p, r, rfl, hp⟩ := split_mem h
    rw [partsB_at r hp, pathB, cut1_at r hp, List.nil_append]
    show (zaQ p && _) = _
    rw [List.all_cons, List.length_cons, show decide ((partsB 47 [] r).length + 1 ≤ n + 1) = decide ((partsB 47 [] r).length ≤ n) from by simp]
    have := pathB_parts n r
    cases zaQ p <;> simp [this]
  · rw [partsB_not h, pathB, cut1_not h]
    show (zaQ l && _) = _
    simp
def partsS (s : ByteArray) : List ByteArray := (partsB 47 [] (bs s)).map ofL
theorem bs_extract (s : ByteArray) (i j : Nat) : bs (s.extract i j) = ((bs s).drop i).take (j - i) := by
 unfold bs
 rw [Lib.extract_eq]
 try simp [List.drop_take]
theorem refParts_any (s : ByteArray) (hs : s.size ≤ 4398046511104) (w : World) :
 Calls Tryz.prog 117 #[.string s, .int .u8 47] w fun e w' => ∃ v, e = .returned v ∧ ownT w' w.heap.size v (partsS s) ∧ Below w.heap.size w w' := by
 go_enter Tryz.func117, Tryz.ntmps117
 go_wp2
 go_loopw [5, 6, 7] (fun v fr i W => ∃ (k m : Nat) (o : List ByteArray), k ≤ s.size ∧ m ≤ k ∧ i = .int .i64 k ∧ fr = .int .i64 m ∧ o.length ≤ m ∧ Hid (partsS s = o ++ (partsB 47 (((bs s).drop m).take (k - m)) ((bs s).drop k)).map ofL) ∧ Hid (ownT W w.heap.size v o) ∧ Below w.heap.size w W) (fun _ _ i _ => s.size - (intOf i).toNat)
 case atStart => exact ⟨0, 0, [], by omega, by omega, rfl, rfl, by simp, zI rfl, zI (ownNone _ _ _ _), Below.refl _ _⟩
 case round =>
  obtain ⟨k, m, o, hk, hm, rfl, rfl, hol, HP, HO, hB⟩ := hrel
  obtain ⟨Av, cv, hv, _, _, _, _⟩ := ownAny HO.out
  subst hv
  have hBs := hB.size
  by_cases hlt : k < s.size
  · have hat : (bs s).drop k = s[k] :: (bs s).drop (k + 1) := bs_at s k hlt
    by_cases h47 : s[k] = 47
    · have hd : ((s[k].toNat : Int) == 47) = true := by rw [h47]; rfl
      have HP1 : Hid (partsS s = (o ++ [s.extract m k]) ++ (partsB 47 (((bs s).drop (k + 1)).take (k + 1 - (k + 1))) ((bs s).drop (k + 1))).map ofL) := zI (by
       rw [HP.out, hat, partsB, if_pos h47, Nat.sub_self, List.take_zero, List.map_cons, ← bs_extract, ofL_bs]
       simp)
      have holm : o.length < 8796093022207 := by omega
      clear HP hat h47
      go_wp2_with (at_builtin; refine wpAppT rfl rfl hB hBs HO.out rfl (s.extract m k) rfl rfl holm ?_; intro g6 c6 x6 HO6 HB6)
      go_roundw
      case rel => exact ⟨k + 1, k + 1, o ++ [s.extract m k], by omega, by omega, by go_num, by go_num, by simp; omega, HP1, zI (by simpa using HO6.out), HB6.out⟩
      case measure => simp [intOf]; omega
    · have hd : ((s[k].toNat : Int) == 47) = false := by
       rw [beq_eq_false_iff_ne]
       intro e
       exact h47 (UInt8.toNat_inj.1 (by show s[k].toNat = 47; omega))
      have HP1 : Hid (partsS s = o ++ (partsB 47 (((bs s).drop m).take (k + 1 - m)) ((bs s).drop (k + 1))).map ofL) := zI (by
       rw [HP.out, hat, partsB, if_neg h47]
       congr 3
       rw [show k + 1 - m = (k - m) + 1 by omega, List.take_add_one, List.getElem?_drop, show m + (k - m) = k by omega]
       have : (bs s)[k]? = some s[k] := by
        rw [qZa (by rw [zgX]; exact hlt)]
        rfl
       rw [this]
       rfl)
      clear HP hat h47
      go_wp2
      go_roundw
      case rel => exact ⟨k + 1, m, o, by omega, by omega, by go_num, rfl, hol, HP1, HO, hB⟩
      case measure => simp [intOf]; omega
  · have hke : k = s.size := by omega
    have HP1 : Hid (partsS s = o ++ [s.extract m s.size]) := zI (by
     rw [HP.out, hke, List.drop_eq_nil_of_le (i := s.size) (by rw [zgX]; omega), partsB, ← bs_extract]
     simp [ofL_bs])
    have holm : o.length < 8796093022207 := by omega
    have hms : m ≤ s.size := by omega
    clear HP hke
    go_wp2_with (at_builtin; refine wpAppT rfl rfl hB hBs HO.out rfl (s.extract m s.size) rfl rfl holm ?_; intro g6 c6 x6 HO6 HB6)
    go_ret
    refine ⟨_, rfl, ?_, HB6.out⟩
    rw [HP1.out]
    simpa using HO6.out
theorem rdT_at {w : World} {A : Option Addr} {l : List ByteArray} (h : Rd w A (l.map Value.string)) {k : Nat} {x : ByteArray} (hk : l[k]? = some x) : ∃ b off, A = some ⟨b, off, none⟩ ∧ b < w.heap.size ∧ w.cell? ⟨b, off + k, none⟩ = some (.string x) := by
 have h1 : (l.map Value.string)[k]? = some (.string x) := by rw [List.getElem?_map, hk]; rfl
 obtain ⟨b, off, e, hb, hc⟩ := h (by intro h0; rw [h0] at h1; simp at h1)
 exact ⟨b, off, e, hb, hc _ _ h1⟩
theorem refPath_any (s : ByteArray) (hs : s.size ≤ 4398046511104) (w : World) :
 Calls Tryz.prog 61 #[.string s] w fun e w' => e = .returned (.bool (zeX (bs s))) ∧ Below w.heap.size w w' := by
 by_cases he : s = ByteArray.empty
 · subst he
   go_enter Tryz.func61, Tryz.ntmps61
   go_wp2
   go_ret
   exact ⟨rfl, Below.refl _ _⟩
 · have hb : (bs s).isEmpty = false := by
    rcases hb : bs s with _ | ⟨z, t⟩
    · exact absurd (bs_inj (t := ByteArray.empty) hb) he
    · rfl
   have he3 : s.toList.isEmpty = false := by rw [Lib.toList_data]; exact hb
   have HPP := zI (refParts_any s hs w)
   obtain ⟨R, hR⟩ : ∃ R, zeX (bs s) = R := ⟨_, rfl⟩
   have hall : (partsB 47 [] (bs s)).all zaQ = (partsS s).all fun x => zaQ (bs x) := by
    rw [partsS, List.all_map]
    congr 1
    try (funext x; simp [bs_ofL])
   have HR : Hid (R = (decide ((partsS s).length ≤ 4) && (partsS s).all fun x => zaQ (bs x))) := zI (by
    rw [← hR, zeX, hb, Bool.false_or, pathB_parts, hall, partsS, List.length_map])
   have hlen : (partsS s).length ≤ 4398046511105 := by
    rw [partsS, List.length_map]
    have := partsB_len 47 (bs s) []
    rw [zgX] at this
    omega
   have hmem : ∀ x ∈ partsS s, x.size ≤ 140737488355328 := fun x hx => by
    obtain ⟨y, hy, rfl⟩ := List.mem_map.1 hx
    have := partsB_mem hy
    rw [zgX] at this
    rw [ofL_size]
    simp at this
    omega
   rw [hR]
   generalize partsS s = l at *
   clear hR hb hall he
   go_enter Tryz.func61, Tryz.ntmps61
   go_wp2_with fail
   refine HPP.out.mono ?_
   rintro e w1 ⟨v, rfl, ho, hB1⟩
   obtain ⟨A, c, rfl, _, _, hrn, _⟩ := ownAny ho
   have hr := hrn.1
   clear ho hrn HPP
   go_wp2
   go_loopw [4] (fun i W => ∃ k : Nat, k ≤ l.length ∧ i = .int .i64 k ∧ Hid ((l.take k).all (fun x => zaQ (bs x)) = true) ∧ w1 = W) (fun i _ => l.length - (intOf i).toNat)
   case atStart => exact ⟨0, Nat.zero_le _, rfl, zI (by simp), rfl⟩
   case round =>
    obtain ⟨k, hk, rfl, HA, rfl⟩ := hrel
    by_cases hlt : k < l.length
    · obtain ⟨x, hx⟩ : ∃ x, l[k]? = some x := ⟨l[k], qZa hlt⟩
      obtain ⟨b, off, rfl, hbk, hc⟩ := rdT_at hr hx
      have HN := zI (refName_any x (hmem x (mG hx)) w1)
      have HT : Hid ((l.take (k + 1)).all (fun x => zaQ (bs x)) = zaQ (bs x)) := zI (by
       rw [List.take_add_one, hx, List.all_append, HA.out]
       simp)
      rcases hn : zaQ (bs x) with _ | _
      · rw [hn] at HN HT
        have HR1 : Hid (R = false) := zI (by
         rw [HR.out]
         have : l.all (fun x => zaQ (bs x)) = false := by
          rw [← List.take_append_drop (k + 1) l, List.all_append, HT.out, Bool.false_and]
         rw [this, Bool.and_false])
        clear HR HA HT hx hn
        go_wp2_with fail
        refine HN.out.mono ?_
        rintro e w2 ⟨rfl, rfl⟩
        go_wp2
        go_ret
        exact ⟨ret_boolE HR1.out.symm, hB1⟩
      · rw [hn] at HN HT
        clear HA hx hn
        go_wp2_with fail
        refine HN.out.mono ?_
        rintro e w2 ⟨rfl, rfl⟩
        go_wp2
        go_roundw
        case rel => exact ⟨k + 1, by omega, by go_num, HT, by trivial⟩
        case measure => simp [intOf]; omega
    · have HR1 : Hid (R = decide (l.length ≤ 4)) := zI (by
       have := HA.out
       rw [List.take_of_length_le (by omega)] at this
       rw [HR.out, this, Bool.and_true])
      clear HR HA
      go_wp2
      go_ret
      exact ⟨ret_boolE (by rw [HR1.out, Bool.eq_iff_iff]; simp; try omega), hB1⟩
end Go.Proofs.YtimmcmjipmkebaaGreat
