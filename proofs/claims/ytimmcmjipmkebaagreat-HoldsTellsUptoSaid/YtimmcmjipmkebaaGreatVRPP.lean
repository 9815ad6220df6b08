/-
 The reference's Parent and Split. Conditions: texts of at most 2^42 octets.
-/
import Derived.Test.YtimmcmjipmkebaaGreatVRPA
import Derived.Test.YtimmcmjipmkebaaGreatVTNP
import Derived.BigQuiet
namespace Go.Proofs.YtimmcmjipmkebaaGreat
set_option maxHeartbeats 1000000
open Go.ChangeShapes Go.WideShapes Go.ChangeAt Go.RowKit
set_option maxRecDepth 100000
theorem aboveL_at {l : List UInt8} {k : Nat} (hk : l[k]? = some 47) (h : (47 : UInt8) ∉ l.drop (k + 1)) : aboveL l = l.take k := by
 obtain ⟨hlt, he⟩ := List.getElem?_eq_some_iff.1 hk
 have e : l = l.take k ++ 47 :: l.drop (k + 1) := by
  rw [← he, ← List.drop_eq_getElem_cons hlt, List.take_append_drop]
 have := aboveL_up (a := l.take k) h
 rw [← e] at this
 exact this
theorem refParent_any (s : ByteArray) (hs : s.size ≤ 4398046511104) (w : World) :
 Calls Tryz.prog 118 #[.string s] w fun e w' => e = .returned (parV s) ∧ Below w.heap.size w w' := by
 by_cases he : s = ByteArray.empty
 · subst he
   have : parV ByteArray.empty = .tuple #[.string ByteArray.empty, .bool false] := by unfold parV; rw [(upP_none (by decide)).2 rfl]
   rw [this]
   go_enter Tryz.func118, Tryz.ntmps118
   go_wp2
   go_ret2
   exact ⟨rfl, Below.refl _ _⟩
 · have hb : (bs s).isEmpty = false := by
    rcases hb : bs s with _ | ⟨z, t⟩
    · exact absurd (bs_inj (t := ByteArray.empty) hb) he
    · rfl
   have he3 : s.toList.isEmpty = false := by rw [Lib.toList_data]; exact hb
   have HPP := zI (refPath_any s hs)
   rcases h : zeX (bs s) with _ | _
   · have : parV s = .tuple #[.string ByteArray.empty, .bool false] := by unfold parV; rw [upP_off h]
     rw [this]
     rw [h] at HPP
     clear h he hb
     go_enter Tryz.func118, Tryz.ntmps118
     go_wp2_with fail
     refine (HPP.out _).mono ?_
     rintro e w2 ⟨rfl, hB⟩
     go_wp2
     go_ret2
     exact ⟨rfl, hB⟩
   · have hv : parV s = .tuple #[.string (ofL (aboveL (bs s))), .bool true] := by unfold parV; rw [upP_some h he]
     obtain ⟨R, hR⟩ : ∃ R, ofL (aboveL (bs s)) = R := ⟨_, rfl⟩
     rw [hR] at hv
     rw [hv]
     rw [h] at HPP
     have HR := zI hR
     clear h he hb hv hR
     go_enter Tryz.func118, Tryz.ntmps118
     go_wp2_with fail
     refine (HPP.out _).mono ?_
     rintro e w2 ⟨rfl, hB⟩
     go_wp2
     go_loopw [4] (fun i W => ∃ k : Nat, k ≤ s.size ∧ i = .int .i64 ((k : Int) - 1) ∧ Hid ((47 : UInt8) ∉ (bs s).drop k) ∧ Below w.heap.size w W) (fun i _ => (intOf i + 1).toNat)
     case atStart => exact ⟨s.size, Nat.le_refl _, by go_num, zI (by rw [List.drop_eq_nil_of_le (by rw [zgX]; omega)]; simp), hB⟩
     case round =>
      obtain ⟨k, hk, rfl, HD, hB⟩ := hrel
      rcases k with _ | k
      · obtain rfl : R = ByteArray.empty := by
         rw [← HR.out, aboveL_top (by simpa using HD.out)]
         rfl
        have hn : ¬ (0 : Int) ≤ ((0 : Nat) : Int) - 1 := by omega
        clear HD HR
        go_wp2
        go_ret2
        exact ⟨rfl, hB⟩
      · have hlt : k < s.size := by omega
        have hat : (bs s).drop k = s[k] :: (bs s).drop (k + 1) := bs_at s k hlt
        have hn : (0 : Int) ≤ ((k + 1 : Nat) : Int) - 1 := by omega
        have hki : (((k + 1 : Nat) : Int) - 1) = (k : Int) := by omega
        rw [hki] at hn ⊢
        by_cases h47 : s[k] = 47
        · have hd : ((s[k].toNat : Int) == 47) = true := by rw [h47]; rfl
          obtain rfl : R = s.extract 0 k := by
           rw [← HR.out]
           have h2 : (bs s)[k]? = some 47 := by
            rw [qZa (by rw [zgX]; exact hlt), ← h47]
            rfl
           rw [aboveL_at h2 HD.out]
           refine bs_inj ?_
           rw [bs_ofL, bs_extract]
           simp
          clear HD hat h47 HR
          go_wp2
          go_ret2
          exact ⟨rfl, hB⟩
        · have hd : ((s[k].toNat : Int) == 47) = false := by
           rw [beq_eq_false_iff_ne]
           intro e
           exact h47 (UInt8.toNat_inj.1 (by show s[k].toNat = 47; omega))
          have HD' : Hid ((47 : UInt8) ∉ (bs s).drop k) := zI (by
           rw [hat]
           intro hm
           rcases List.mem_cons.1 hm with h | h
           · exact h47 h.symm
           · exact HD.out h)
          clear HD hat h47
          go_wp2
          go_roundw
          case rel => exact ⟨k, by omega, by go_num, HD', hB⟩
          case measure => simp [intOf]
theorem idxOf_first {l : List UInt8} {k : Nat} (hk : l[k]? = some 64) (h : (64 : UInt8) ∉ l.take k) : l.idxOf? 64 = some k := by
 obtain ⟨hlt, he⟩ := List.getElem?_eq_some_iff.1 hk
 have e : l = l.take k ++ 64 :: l.drop (k + 1) := by
  rw [← he, ← List.drop_eq_getElem_cons hlt, List.take_append_drop]
 have key : ∀ (a b : List UInt8), (64 : UInt8) ∉ a → (a ++ 64 :: b).idxOf? 64 = some a.length := by
  intro a
  induction a with
  | nil => intro b _; simp [List.idxOf?_cons]
  | cons x a ih =>
   intro b hn
   have hx : (x == 64) = false := beq_eq_false_iff_ne.2 fun e => hn (by simp [e])
   rw [List.cons_append, List.idxOf?_cons, hx]
   rw [if_neg Bool.false_ne_true, ih b (fun e => hn (by simp [e]))]
   rfl
 have := key _ (l.drop (k + 1)) h
 rw [← e] at this
 rw [this, List.length_take]
 congr 1
 omega
theorem refSplit_any (s : ByteArray) (hs : s.size ≤ 4398046511104) (w : World) :
 Calls Tryz.prog 38 #[.string s] w fun e w' => e = .returned (splV s) ∧ Below w.heap.size w w' := by
 obtain ⟨R, hR⟩ : ∃ R, splV s = R := ⟨_, rfl⟩
 have HR := zI hR
 rw [hR]
 clear hR
 go_enter Tryz.func38, Tryz.ntmps38
 go_wp2
 go_loopw [5] (fun i W => ∃ k : Nat, k ≤ s.size ∧ i = .int .i64 k ∧ Hid ((64 : UInt8) ∉ (bs s).take k) ∧ Below w.heap.size w W) (fun i _ => s.size - (intOf i).toNat)
 case atStart => exact ⟨0, Nat.zero_le _, rfl, zI (by simp), Below.refl _ _⟩
 case round =>
  obtain ⟨k, hk, rfl, HD, hB⟩ := hrel
  by_cases hlt : k < s.size
  · have hg : (bs s)[k]? = some s[k] := by
     rw [qZa (by rw [zgX]; exact hlt)]
     rfl
    by_cases h64 : s[k] = 64
    · have hd : ((s[k].toNat : Int) == 64) = true := by rw [h64]; rfl
      rw [h64] at hg
      have hi := idxOf_first hg HD.out
      have hz1 : (s.extract 0 k).size ≤ 4398046511104 := by simp; omega
      have e1 : bs (s.extract 0 k) = (bs s).take k := by rw [bs_extract]; simp
      have e2 : bs (s.extract (k + 1) s.size) = (bs s).drop (k + 1) := by
       rw [bs_extract, List.take_of_length_le]
       rw [List.length_drop, zgX]
       exact Nat.le_refl _
      have e3 : s.extract 0 k = ofL ((bs s).take k) := by rw [← e1, ofL_bs]
      have e4 : s.extract (k + 1) s.size = ofL ((bs s).drop (k + 1)) := by rw [← e2, ofL_bs]
      have HP := zI (refPath_any (s.extract 0 k) hz1)
      have HN := zI (refName_any (s.extract (k + 1) s.size) (by simp; omega))
      rw [e1] at HP
      rw [e2] at HN
      rcases hp : zeX ((bs s).take k) with _ | _
      · obtain rfl : R = .tuple #[.string ByteArray.empty, .string ByteArray.empty, .int .i64 31] := by
         rw [← HR.out]
         simp [splV, splitP, hi, hp]
        rw [hp] at HP
        clear HD hg hi h64 HR HN hp e1 e2 e3 e4
        go_wp2_with fail
        refine (HP.out _).mono ?_
        rintro e w2 ⟨rfl, hB2⟩
        go_wp2
        go_ret3
        exact ⟨rfl, hB.trans (hB2.mono hB.size)⟩
      · rw [hp] at HP
        rcases hn : zaQ ((bs s).drop (k + 1)) with _ | _
        · obtain rfl : R = .tuple #[.string ByteArray.empty, .string ByteArray.empty, .int .i64 31] := by
           rw [← HR.out]
           simp [splV, splitP, hi, hp, hn]
          rw [hn] at HN
          clear HD hg hi h64 HR hp hn e1 e2 e3 e4
          go_wp2_with fail
          refine (HP.out _).mono ?_
          rintro e w2 ⟨rfl, hB2⟩
          go_wp2_with fail
          refine (HN.out _).mono ?_
          rintro e w3 ⟨rfl, rfl⟩
          go_wp2
          go_ret3
          exact ⟨rfl, hB.trans (hB2.mono hB.size)⟩
        · obtain rfl : R = .tuple #[.string (s.extract 0 k), .string (s.extract (k + 1) s.size), .int .i64 0] := by
           rw [← HR.out, e3, e4]
           simp [splV, splitP, hi, hp, hn]
          rw [hn] at HN
          clear HD hg hi h64 HR hp hn e1 e2 e3 e4
          go_wp2_with fail
          refine (HP.out _).mono ?_
          rintro e w2 ⟨rfl, hB2⟩
          go_wp2_with fail
          refine (HN.out _).mono ?_
          rintro e w3 ⟨rfl, rfl⟩
          go_wp2_with fail
          go_big_quiet (fail)
          go_wp2
          go_ret3
          exact ⟨rfl, (hB.trans (hB2.mono hB.size)).trans (zaX _ _ _)⟩
    · have hd : ((s[k].toNat : Int) == 64) = false := by
       rw [beq_eq_false_iff_ne]
       intro e
       exact h64 (UInt8.toNat_inj.1 (by show s[k].toNat = 64; omega))
      have HD' : Hid ((64 : UInt8) ∉ (bs s).take (k + 1)) := zI (by
       rw [List.take_add_one, hg]
       intro hm
       rcases List.mem_append.1 hm with h | h
       · exact HD.out h
       · simp at h
         exact h64 h.symm)
      clear HD hg h64
      go_wp2
      go_roundw
      case rel => exact ⟨k + 1, by omega, by go_num, HD', hB⟩
      case measure => simp [intOf]; omega
  · obtain rfl : R = .tuple #[.string ByteArray.empty, .string ByteArray.empty, .int .i64 31] := by
     have : (64 : UInt8) ∉ bs s := by
      have := HD.out
      rwa [List.take_of_length_le (by rw [zgX]; omega)] at this
     rw [← HR.out]
     simp [splV, splitP, List.idxOf?_eq_none_iff.2 this]
    clear HD HR
    go_wp2
    go_ret3
    exact ⟨rfl, hB⟩
end Go.Proofs.YtimmcmjipmkebaaGreat
