/-
 The reference's Props. Conditions: the list is as it comes in.
-/
import Derived.Test.YtimmcmjipmkebaaGreatVENN
import Derived.Test.YtimmcmjipmkebaaGreatVRSM
import Derived.BigQuiet
import Derived.Deep.QuietTactic
namespace Go.Proofs.YtimmcmjipmkebaaGreat
open Go.ChangeShapes Go.WideShapes Go.ChangeAt Go.RowKit
set_option maxRecDepth 100000
theorem nameQ (s : ByteArray) (hs : s.size ≤ 140737488355328) (w : World) (n : Nat) :
 Calls Tryz.prog 66 #[.string s] (w.drewN n) fun e w' => e = .returned (.bool (zaQ (bs s))) ∧ w' = w.drewN n :=
 (refName_any s hs _).mono fun _ _ h => ⟨h.1, h.2.symm⟩
theorem valueQ (s : ByteArray) (hs : s.size ≤ 140737488355328) (w : World) (n : Nat) :
 Calls Tryz.prog 164 #[.string s] (w.drewN n) fun e w' => e = .returned (.bool (valOk s)) ∧ w' = w.drewN n :=
 (refValue_any s hs _).mono fun _ _ h => ⟨h.1, h.2.symm⟩
set_option maxHeartbeats 4000000 in
theorem refProps_any (A : Option Addr) (c n : Nat) (l : List Pr) (hn : l.length = n) (hl : n ≤ 4398046511104) (hf : ∀ x ∈ l, x.1.size ≤ 140737488351232 ∧ x.2.size ≤ 140737488351232) (w : World) (hr : Rd w A (prs l)) :
 Calls Tryz.prog 124 #[.slice A n c] w fun e w' => e = .returned (.int .i64 (chkP l)) ∧ Below w.heap.size w w' := by
 subst hn
 obtain ⟨R, hR⟩ : ∃ R, chkP l = R := ⟨_, rfl⟩
 have HRO : Hid (R = if l.length ≤ 8 ∧ okFP ByteArray.empty l = true then 0 else 9) := zI (by
  rw [← hR, chkP, okP_from]
  by_cases h : l.length ≤ 8
  · rw [decide_eq_true h, Bool.true_and]; simp [h]
  · rw [decide_eq_false h, Bool.false_and]; simp [h])
 rw [hR]
 clear hR
 go_enter Tryz.func124, Tryz.ntmps124
 go_wp2
 go_loopw [3] (fun j W => ∃ (k : Nat) (s : ByteArray), k ≤ l.length ∧ j = .int .i64 k ∧ Hid (okFP s (l.drop k) = okFP ByteArray.empty l) ∧ Hid ((k = 0 ∧ s = ByteArray.empty) ∨ ∃ j y, k = j + 1 ∧ l[j]? = some y ∧ s = y.1) ∧ Below w.heap.size w W) (fun j _ => l.length - (intOf j).toNat)
 case atStart => exact ⟨0, ByteArray.empty, Nat.zero_le _, rfl, zI rfl, zI (.inl ⟨rfl, rfl⟩), Below.refl _ _⟩
 case round =>
  obtain ⟨k, s, hk, rfl, HD, HP, hB⟩ := hrel
  by_cases hlt : k < l.length
  · obtain ⟨x, hx⟩ : ∃ x, l[k]? = some x := ⟨l[k], qZa hlt⟩
    obtain ⟨b, off, rfl, hb, hc0, hc1⟩ := (Rd.below hr hB).pr hx
    obtain ⟨hk1, hk2⟩ := hf x (mG hx)
    have HDR : Hid (okFP ByteArray.empty l = (zaQ (bs x.1) && (Op.bytesLess s.toList x.1.toList && (valOk x.2 && okFP x.1 (l.drop (k + 1)))))) := zI (by
     rw [← HD.out]
     obtain ⟨h, e⟩ := List.getElem?_eq_some_iff.1 hx
     rw [List.drop_eq_getElem_cons h, e]
     rfl)
    have HX := zI hx
    clear hx HD
    obtain ⟨x1, x2⟩ := x
    dsimp only at *
    have HNx := zI (nameQ x1 (by omega) wr)
    have HVx := zI (valueQ x2 (by omega) wr)
    have hlk : (k : Int) < l.length := by omega
    rcases hnm : zaQ (bs x1) with _ | _
    · have HR : Hid (R = 9) := zI (by rw [HRO.out, HDR.out, hnm]; simp)
      rw [hnm] at HNx
      clear hnm HDR HP hk
      go_wp2_with fail
      go_big_quiet ((go_at_call 66; exact Calls.quiet_of_same (HNx.out _)))
      go_wp2
      go_ret
      rw [HR.out]
      exact ⟨rfl, hB.trans (zaX _ _ _)⟩
    · rw [hnm] at HNx
      rcases hv : valOk x2 with _ | _
      · have HR : Hid (R = 9) := zI (by rw [HRO.out, HDR.out, hnm, hv]; simp)
        rw [hv] at HVx
        clear hnm HDR HP hk hv
        go_wp2_with fail
        go_big_quiet ((first | (go_at_call 66; with_reducible exact Calls.quiet_of_same (HNx.out _)) | (go_at_call 164; with_reducible exact Calls.quiet_of_same (HVx.out _))))
        go_wp2
        go_ret
        rw [HR.out]
        exact ⟨rfl, hB.trans (zaX _ _ _)⟩
      · rw [hv] at HVx
        have hway : (k = 0 ∧ decide (0 < k) = false ∧ Hid (Op.bytesLess s.toList x1.toList = true)) ∨ ∃ (i : Nat) (y1 : ByteArray), decide (0 < k) = true ∧ IntKind.i64.wrap ((k : Int) - 1) = (i : Int) ∧ i < l.length ∧ wr.cell? ⟨b, off + i * 2, none⟩ = some (.string y1) ∧ Hid (s = y1) := by
         rcases HP.out with ⟨rfl, rfl⟩ | ⟨j, y, rfl, hy, rfl⟩
         · exact .inl ⟨rfl, rfl, zI (name_pos hnm)⟩
         · obtain ⟨b', off', e', _, hd0, _⟩ := (Rd.below hr hB).pr hy
           injection e' with e'
           injection e' with e1 e2 _
           subst e1 e2
           exact .inr ⟨j, y.1, decide_eq_true (by omega), by rw [show (((j + 1 : Nat) : Int) - 1) = (j : Int) by omega]; exact IntWalk.i64_in _ (by omega), by omega, hd0, zI rfl⟩
        clear HP
        rcases hway with ⟨hk0, hj0, HL⟩ | ⟨i, y1, hj0, hw, hi, hd0, HS⟩
        · have HD' : Hid (okFP x1 (l.drop (k + 1)) = okFP ByteArray.empty l) := zI (by rw [HDR.out, hnm, HL.out, hv]; rfl)
          clear hnm HDR hv hk0
          go_wp2_with fail
          go_big_quiet ((first | (go_at_call 66; with_reducible exact Calls.quiet_of_same (HNx.out _)) | (go_at_call 164; with_reducible exact Calls.quiet_of_same (HVx.out _))))
          go_wp2
          go_roundw
          case rel => exact ⟨k + 1, x1, by omega, by go_num, HD', zI (.inr ⟨k, (x1, x2), rfl, HX.out, rfl⟩), hB.trans (zaX _ _ _)⟩
          case measure => simp [intOf]; omega
        · rcases hle : Op.bytesLess y1.toList x1.toList with _ | _
          · have HR : Hid (R = 9) := zI (by rw [HRO.out, HDR.out, HS.out, hnm, hle]; simp)
            have hle2 : (Op.bytesLess x1.toList y1.toList || x1.toList == y1.toList) = true := by
             rw [← Bool.not_eq_false]
             intro h
             have : ltK y1 x1 := ltK_iff.2 h
             unfold ltK at this
             rw [hle] at this
             cases this
            clear hnm HDR hk hv hle HS
            go_wp2_with fail
            go_big_quiet ((first | (go_at_call 66; with_reducible exact Calls.quiet_of_same (HNx.out _)) | (go_at_call 164; with_reducible exact Calls.quiet_of_same (HVx.out _))))
            go_wp2
            go_ret
            rw [HR.out]
            exact ⟨rfl, hB.trans (zaX _ _ _)⟩
          · have hle2 : (Op.bytesLess x1.toList y1.toList || x1.toList == y1.toList) = false := ltK_iff.1 hle
            have HD' : Hid (okFP x1 (l.drop (k + 1)) = okFP ByteArray.empty l) := zI (by rw [HDR.out, HS.out, hnm, hle, hv]; rfl)
            clear hnm HDR hv hle HS
            go_wp2_with fail
            go_big_quiet ((first | (go_at_call 66; with_reducible exact Calls.quiet_of_same (HNx.out _)) | (go_at_call 164; with_reducible exact Calls.quiet_of_same (HVx.out _))))
            go_wp2
            go_roundw
            case rel => exact ⟨k + 1, x1, by omega, by go_num, HD', zI (.inr ⟨k, (x1, x2), rfl, HX.out, rfl⟩), hB.trans (zaX _ _ _)⟩
            case measure => simp [intOf]; omega
  · have HE : Hid (okFP ByteArray.empty l = true) := zI (by rw [← HD.out, List.drop_eq_nil_of_le (by omega)]; rfl)
    clear HD HP
    by_cases h8 : 8 < l.length
    · have HR : Hid (R = 9) := zI (by rw [HRO.out, if_neg (by omega)])
      go_wp2
      go_ret
      rw [HR.out]
      exact ⟨rfl, hB⟩
    · have HR : Hid (R = 0) := zI (by rw [HRO.out, if_pos ⟨by omega, HE.out⟩])
      go_wp2
      go_ret
      rw [HR.out]
      exact ⟨rfl, hB⟩
set_option maxHeartbeats 4000000
set_option linter.unusedSimpArgs false
set_option linter.unusedVariables false
def Dr (w w' : World) : Prop := ∃ m, w' = w.drewN m
theorem Dr.refl (w : World) : Dr w w := ⟨0, rfl⟩
theorem Dr.drewN (w : World) (n : Nat) : Dr w (w.drewN n) := ⟨n, rfl⟩
theorem Dr.trans {w w' w'' : World} (h : Dr w w') (h' : Dr w' w'') : Dr w w'' := by
 obtain ⟨m, rfl⟩ := h
 obtain ⟨n, rfl⟩ := h'
 exact ⟨m + n, by rw [World.drewN_drewN]⟩
theorem Dr.below {w w' : World} (h : Dr w w') : Below w.heap.size w w' := by
 obtain ⟨m, rfl⟩ := h
 exact zaX _ _ _
theorem refPropsD (A : Option Addr) (c n : Nat) (l : List Pr) (hn : l.length = n) (hl : n ≤ 4398046511104) (hf : ∀ x ∈ l, x.1.size ≤ 140737488351232 ∧ x.2.size ≤ 140737488351232) (w : World) (hr : Rd w A (prs l)) :
 Calls Tryz.prog 124 #[.slice A n c] w fun e w' => e = .returned (.int .i64 (chkP l)) ∧ Dr w w' := by
 subst hn
 obtain ⟨R, hR⟩ : ∃ R, chkP l = R := ⟨_, rfl⟩
 have HRO : Hid (R = if l.length ≤ 8 ∧ okFP ByteArray.empty l = true then 0 else 9) := zI (by
  rw [← hR, chkP, okP_from]
  by_cases h : l.length ≤ 8
  · rw [decide_eq_true h, Bool.true_and]; simp [h]
  · rw [decide_eq_false h, Bool.false_and]; simp [h])
 rw [hR]
 clear hR
 go_enter Tryz.func124, Tryz.ntmps124
 go_wp2
 go_loopw [3] (fun j W => ∃ (k : Nat) (s : ByteArray), k ≤ l.length ∧ j = .int .i64 k ∧ Hid (okFP s (l.drop k) = okFP ByteArray.empty l) ∧ Hid ((k = 0 ∧ s = ByteArray.empty) ∨ ∃ j y, k = j + 1 ∧ l[j]? = some y ∧ s = y.1) ∧ Dr w W) (fun j _ => l.length - (intOf j).toNat)
 case atStart => exact ⟨0, ByteArray.empty, Nat.zero_le _, rfl, zI rfl, zI (.inl ⟨rfl, rfl⟩), Dr.refl _⟩
 case round =>
  obtain ⟨k, s, hk, rfl, HD, HP, hB⟩ := hrel
  by_cases hlt : k < l.length
  · obtain ⟨x, hx⟩ : ∃ x, l[k]? = some x := ⟨l[k], qZa hlt⟩
    obtain ⟨b, off, rfl, hb, hc0, hc1⟩ := (Rd.below hr hB.below).pr hx
    obtain ⟨hk1, hk2⟩ := hf x (mG hx)
    have HDR : Hid (okFP ByteArray.empty l = (zaQ (bs x.1) && (Op.bytesLess s.toList x.1.toList && (valOk x.2 && okFP x.1 (l.drop (k + 1)))))) := zI (by
     rw [← HD.out]
     obtain ⟨h, e⟩ := List.getElem?_eq_some_iff.1 hx
     rw [List.drop_eq_getElem_cons h, e]
     rfl)
    have HX := zI hx
    clear hx HD
    obtain ⟨x1, x2⟩ := x
    dsimp only at *
    have HNx := zI (nameQ x1 (by omega) wr)
    have HVx := zI (valueQ x2 (by omega) wr)
    have hlk : (k : Int) < l.length := by omega
    rcases hnm : zaQ (bs x1) with _ | _
    · have HR : Hid (R = 9) := zI (by rw [HRO.out, HDR.out, hnm]; simp)
      rw [hnm] at HNx
      clear hnm HDR HP hk
      go_wp2_with fail
      go_big_quiet ((go_at_call 66; exact Calls.quiet_of_same (HNx.out _)))
      go_wp2
      go_ret
      rw [HR.out]
      exact ⟨rfl, hB.trans (Dr.drewN _ _)⟩
    · rw [hnm] at HNx
      rcases hv : valOk x2 with _ | _
      · have HR : Hid (R = 9) := zI (by rw [HRO.out, HDR.out, hnm, hv]; simp)
        rw [hv] at HVx
        clear hnm HDR HP hk hv
        go_wp2_with fail
        go_big_quiet ((first | (go_at_call 66; with_reducible exact Calls.quiet_of_same (HNx.out _)) | (go_at_call 164; with_reducible exact Calls.quiet_of_same (HVx.out _))))
        go_wp2
        go_ret
        rw [HR.out]
        exact ⟨rfl, hB.trans (Dr.drewN _ _)⟩
      · rw [hv] at HVx
        have hway : (k = 0 ∧ decide (0 < k) = false ∧ Hid (Op.bytesLess s.toList x1.toList = true)) ∨ ∃ (i : Nat) (y1 : ByteArray), decide (0 < k) = true ∧ IntKind.i64.wrap ((k : Int) - 1) = (i : Int) ∧ i < l.length ∧ wr.cell? ⟨b, off + i * 2, none⟩ = some (.string y1) ∧ Hid (s = y1) := by
         rcases HP.out with ⟨rfl, rfl⟩ | ⟨j, y, rfl, hy, rfl⟩
         · exact .inl ⟨rfl, rfl, zI (name_pos hnm)⟩
         · obtain ⟨b', off', e', _, hd0, _⟩ := (Rd.below hr hB.below).pr hy
           injection e' with e'
           injection e' with e1 e2 _
           subst e1 e2
           exact .inr ⟨j, y.1, decide_eq_true (by omega), by rw [show (((j + 1 : Nat) : Int) - 1) = (j : Int) by omega]; exact IntWalk.i64_in _ (by omega), by omega, hd0, zI rfl⟩
        clear HP
        rcases hway with ⟨hk0, hj0, HL⟩ | ⟨i, y1, hj0, hw, hi, hd0, HS⟩
        · have HD' : Hid (okFP x1 (l.drop (k + 1)) = okFP ByteArray.empty l) := zI (by rw [HDR.out, hnm, HL.out, hv]; rfl)
          clear hnm HDR hv hk0
          go_wp2_with fail
          go_big_quiet ((first | (go_at_call 66; with_reducible exact Calls.quiet_of_same (HNx.out _)) | (go_at_call 164; with_reducible exact Calls.quiet_of_same (HVx.out _))))
          go_wp2
          go_roundw
          case rel => exact ⟨k + 1, x1, by omega, by go_num, HD', zI (.inr ⟨k, (x1, x2), rfl, HX.out, rfl⟩), hB.trans (Dr.drewN _ _)⟩
          case measure => simp [intOf]; omega
        · rcases hle : Op.bytesLess y1.toList x1.toList with _ | _
          · have HR : Hid (R = 9) := zI (by rw [HRO.out, HDR.out, HS.out, hnm, hle]; simp)
            have hle2 : (Op.bytesLess x1.toList y1.toList || x1.toList == y1.toList) = true := by
             rw [← Bool.not_eq_false]
             intro h
             have : ltK y1 x1 := ltK_iff.2 h
             unfold ltK at this
             rw [hle] at this
             cases this
            clear hnm HDR hk hv hle HS
            go_wp2_with fail
            go_big_quiet ((first | (go_at_call 66; with_reducible exact Calls.quiet_of_same (HNx.out _)) | (go_at_call 164; with_reducible exact Calls.quiet_of_same (HVx.out _))))
            go_wp2
            go_ret
            rw [HR.out]
            exact ⟨rfl, hB.trans (Dr.drewN _ _)⟩
          · have hle2 : (Op.bytesLess x1.toList y1.toList || x1.toList == y1.toList) = false := ltK_iff.1 hle
            have HD' : Hid (okFP x1 (l.drop (k + 1)) = okFP ByteArray.empty l) := zI (by rw [HDR.out, HS.out, hnm, hle, hv]; rfl)
            clear hnm HDR hv hle HS
            go_wp2_with fail
            go_big_quiet ((first | (go_at_call 66; with_reducible exact Calls.quiet_of_same (HNx.out _)) | (go_at_call 164; with_reducible exact Calls.quiet_of_same (HVx.out _))))
            go_wp2
            go_roundw
            case rel => exact ⟨k + 1, x1, by omega, by go_num, HD', zI (.inr ⟨k, (x1, x2), rfl, HX.out, rfl⟩), hB.trans (Dr.drewN _ _)⟩
            case measure => simp [intOf]; omega
  · have HE : Hid (okFP ByteArray.empty l = true) := zI (by rw [← HD.out, List.drop_eq_nil_of_le (by omega)]; rfl)
    clear HD HP
    by_cases h8 : 8 < l.length
    · have HR : Hid (R = 9) := zI (by rw [HRO.out, if_neg (by omega)])
      go_wp2
      go_ret
      rw [HR.out]
      exact ⟨rfl, hB⟩
    · have HR : Hid (R = 0) := zI (by rw [HRO.out, if_pos ⟨by omega, HE.out⟩])
      go_wp2
      go_ret
      rw [HR.out]
      exact ⟨rfl, hB⟩
theorem refCheckD (A : Option Addr) (c n : Nat) (l : List Bk) (hn : l.length = n) (hl : n ≤ 8796093022208) (hf : ∀ x ∈ l, x.2.size ≤ 140737488351232) (w : World) (hr : Rd w A (bks l)) :
 Calls Tryz.prog 123 #[.slice A n c] w fun e w' => e = .returned (.int .i64 (chkK l)) ∧ Dr w w' := by
 subst hn
 obtain ⟨R, hR⟩ : ∃ R, chkK l = R := ⟨_, rfl⟩
 rw [hR]
 go_enter Tryz.func123, Tryz.ntmps123
 go_wp2
 go_loopw [3] (fun i W => ∃ (k : Nat) (n : Int), k ≤ l.length ∧ 0 ≤ n ∧ i = .int .i64 k ∧ Hid (okF n (l.drop k) = okK l) ∧ Hid (k = 0 ∧ n = 0 ∨ ∃ (j : Nat) (y : Bk), k = j + 1 ∧ l[j]? = some y ∧ n = y.1 + 1) ∧ Dr w W) (fun i _ => l.length - (intOf i).toNat)
 case atStart => exact ⟨0, 0, Nat.zero_le _, Int.le_refl _, rfl, zI rfl, zI (.inl ⟨rfl, rfl⟩), Dr.refl _⟩
 case round =>
  obtain ⟨k, n, hk, hn0, rfl, HD, HN, hB⟩ := hrel
  by_cases hlt : k < l.length
  · obtain ⟨x, hx⟩ : ∃ x, l[k]? = some x := ⟨l[k], qZa hlt⟩
    obtain ⟨b, off, rfl, hb, hc0, hc1⟩ := (Rd.below hr hB.below).bk hx
    have hdr : l.drop k = x :: l.drop (k + 1) := dropB _ hx
    have hks : x.2.size ≤ 140737488351232 := hf x (mG hx)
    rw [hdr] at HD
    have hBd : ∀ n, Dr w (wr.drewN n) := fun n => hB.trans (Dr.drewN _ _)
    by_cases h1 : x.1 < 0
    · have HR : Hid (R = 9) := by
       have := HD.out
       rw [okF, decide_eq_false (show ¬ n ≤ x.1 by omega)] at this
       simp only [Bool.false_and] at this
       exact zI (by rw [← hR, chkK, ← this]; rfl)
      clear HD hR hdr hf HN hx
      go_wp2_with (go_quiet (fail))
      go_ret
      rw [HR.out]
      exact ⟨rfl, hBd _⟩
    · by_cases h2 : 1024 ≤ x.1
      · have HR : Hid (R = 9) := by
         have := HD.out
         rw [okF, decide_eq_false (show ¬ x.1 < 1024 by omega)] at this
         simp only [Bool.false_and, Bool.and_false] at this
         exact zI (by rw [← hR, chkK, ← this]; rfl)
        clear HD hR hdr hf HN hx
        go_wp2_with (go_quiet (fail))
        go_ret
        rw [HR.out]
        exact ⟨rfl, hBd _⟩
      · by_cases h3 : x.2.size = 16
        · have g3 : ((x.2.size : Int) == 16) = true := beq_iff_eq.2 (by omega)
          rcases HN.out with ⟨rfl, rfl⟩ | ⟨j, y, rfl, hy, rfl⟩
          · have HD' : Hid (okF (x.1 + 1) (l.drop (0 + 1)) = okK l) := by
             have := HD.out
             rw [okF, decide_eq_true (show 0 ≤ x.1 by omega), decide_eq_true (show x.1 < 1024 by omega), decide_eq_true h3] at this
             exact zI (by simpa using this)
            have HX := zI hx
            simp only [Nat.zero_mul, Nat.add_zero, Nat.zero_add] at hc0 hc1
            clear HD hdr hf HN hx
            go_wp2_with (go_quiet (fail))
            go_round
            case rel => exact ⟨1, x.1 + 1, by omega, by omega, by go_num, HD', zI (.inr ⟨0, x, rfl, HX.out, rfl⟩), hBd _⟩
            case measure => simp [intOf]; omega
          · obtain ⟨b', off', e', _, hd0, _⟩ := (Rd.below hr hB.below).bk hy
            injection e' with e'
            injection e' with e1 e2 _
            subst e1 e2
            have hwj : wrap64 (((j + 1 : Nat) : Int) - 1) = (j : Int) := by
             rw [show (((j + 1 : Nat) : Int) - 1) = (j : Int) by omega]
             exact IntWalk.wrap64_in _ (by omega)
            have hj0 : ¬ (((j + 1 : Nat) : Int)) ≤ 0 := by omega
            have hjl : (j : Int) < l.length := by omega
            by_cases h4 : x.1 ≤ y.1
            · have HR : Hid (R = 9) := by
               have := HD.out
               rw [okF, decide_eq_false (show ¬ y.1 + 1 ≤ x.1 by omega)] at this
               simp only [Bool.false_and] at this
               exact zI (by rw [← hR, chkK, ← this]; rfl)
              clear HD hR hdr hf HN hx hy
              go_wp2_with (go_quiet (fail))
              go_ret
              rw [HR.out]
              exact ⟨rfl, hBd _⟩
            · have HD' : Hid (okF (x.1 + 1) (l.drop (j + 1 + 1)) = okK l) := by
               have := HD.out
               rw [okF, decide_eq_true (show y.1 + 1 ≤ x.1 by omega), decide_eq_true (show x.1 < 1024 by omega), decide_eq_true h3] at this
               exact zI (by simpa using this)
              have HX := zI hx
              clear HD hdr hf HN hx hy
              go_wp2_with (go_quiet (fail))
              go_round
              case rel => exact ⟨j + 1 + 1, x.1 + 1, by omega, by omega, by go_num, HD', zI (.inr ⟨j + 1, x, rfl, HX.out, rfl⟩), hBd _⟩
              case measure => simp [intOf]; omega
        · have HR : Hid (R = 9) := by
           have := HD.out
           rw [okF, decide_eq_false h3] at this
           simp only [Bool.false_and, Bool.and_false] at this
           exact zI (by rw [← hR, chkK, ← this]; rfl)
          have g3 : ((x.2.size : Int) == 16) = false := beq_eq_false_iff_ne.2 (by omega)
          have g4 : ((x.2.size : Int) != 16) = true := by rw [bne, g3]; rfl
          have g5 : (x.2.size == 16) = false := beq_eq_false_iff_ne.2 h3
          clear HD hR hdr hf HN hx
          go_wp2_with (go_quiet (fail))
          go_ret
          rw [HR.out]
          exact ⟨rfl, hBd _⟩
  · have HR : Hid (R = 0) := by
     have := HD.out
     rw [List.drop_eq_nil_of_le (by omega), okF] at this
     exact zI (by rw [← hR, chkK, ← this]; rfl)
    clear HD HN
    go_wp2
    go_ret
    rw [HR.out]
    exact ⟨rfl, by first | exact hB | assumption⟩
end Go.Proofs.YtimmcmjipmkebaaGreat
