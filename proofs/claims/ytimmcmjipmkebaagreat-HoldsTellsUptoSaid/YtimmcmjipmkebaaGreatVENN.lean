/-
 The reference's names. No conditions but on the text's length.
-/
import Derived.Test.YtimmcmjipmkebaaGreatVEM
import Derived.Test.YtimmcmjipmkebaaGreatShelf
import Derived.Lib.Hide
import Derived.Test.YtimmcmjipmkebaaGreatLayH
import Derived.Lib.ConvBytes
import Derived.BigQuiet
namespace Go.Proofs.YtimmcmjipmkebaaGreat
open Go.ChangeShapes Go.WideShapes Go.ChangeAt Go.RowKit
set_option maxRecDepth 100000
theorem ret_boolE {a b : Bool} (h : a = b) : Ending.returned (.bool a) = .returned (.bool b) := by rw [h]
theorem okc_intE (c : UInt8) : okc c = (decide (97 ≤ (c.toNat : Int)) && decide ((c.toNat : Int) ≤ 122) || decide (48 ≤ (c.toNat : Int)) && decide ((c.toNat : Int) ≤ 57) || decide ((c.toNat : Int) = 45) || decide ((c.toNat : Int) = 95)) := by
 revert c
 refine fun c => (by decide +kernel : ∀ c : Fin 256, okc ⟨⟨c⟩⟩ = (decide (97 ≤ (((⟨⟨c⟩⟩ : UInt8).toNat : Nat) : Int)) && decide ((((⟨⟨c⟩⟩ : UInt8).toNat : Nat) : Int) ≤ 122) || decide (48 ≤ (((⟨⟨c⟩⟩ : UInt8).toNat : Nat) : Int)) && decide ((((⟨⟨c⟩⟩ : UInt8).toNat : Nat) : Int) ≤ 57) || decide ((((⟨⟨c⟩⟩ : UInt8).toNat : Nat) : Int) = 45) || decide ((((⟨⟨c⟩⟩ : UInt8).toNat : Nat) : Int) = 95))) c.toFin
theorem refLetter_any (c : UInt8) (w : World) :
 Calls Tryz.prog 122 #[.int .u8 (c.toNat : Int)] w fun e w' => e = .returned (.bool (okc c)) ∧ w = w' := by
 have hc := okc_intE c
 have HC := zI hc
 clear hc
 go_enter Tryz.func122, Tryz.ntmps122
 go_wp2
 all_goals
  go_ret
  exact ⟨ret_boolE (by rw [HC.out, Bool.eq_iff_iff]; simp; try omega), rfl⟩
theorem refName_any (s : ByteArray) (hs : s.size ≤ 140737488355328) (w : World) :
 Calls Tryz.prog 66 #[.string s] w fun e w' => e = .returned (.bool (zaQ (bs s))) ∧ w = w' := by
 obtain ⟨R, hR⟩ : ∃ R, zaQ (bs s) = R := ⟨_, rfl⟩
 rw [hR]
 go_enter Tryz.func66, Tryz.ntmps66
 go_wp2
 go_loop [3] (fun i => ∃ k : Nat, k ≤ s.size ∧ i = .int .i64 k ∧ Hid (((bs s).take k).all okc = true)) (fun i => s.size - (intOf i).toNat)
 case atStart => exact ⟨0, Nat.zero_le _, rfl, zI (by simp)⟩
 case round =>
  obtain ⟨k, hk, rfl, HD⟩ := hrel
  by_cases hlt : k < s.size
  · have HT : Hid (((bs s).take (k + 1)).all okc = okc s[k]) := zI (by
     have e : (bs s)[k]? = some s[k] := by
      rw [qZa (by rw [zgX]; exact hlt)]
      rfl
     rw [List.take_add_one, e, List.all_append, HD.out]
     simp)
    rcases ho : okc s[k] with _ | _
    · have HR : Hid (R = false) := zI (by
       rw [← hR]
       unfold zaQ
       have h1 : (bs s).all okc = false := by
        rw [← List.take_append_drop (k + 1) (bs s), List.all_append, HT.out, ho]; rfl
       rw [h1, Bool.and_false])
      have HO := zI ho
      clear HT hR
      go_wp2_with (refine (refLetter_any _ _).mono ?_; rintro e w' ⟨rfl, rfl⟩)
      go_ret
      exact ⟨ret_boolE HR.out.symm, rfl⟩
    · have HT' : Hid (((bs s).take (k + 1)).all okc = true) := zI (by rw [HT.out, ho])
      have HO := zI ho
      clear HT hR
      go_wp2_with (refine (refLetter_any _ _).mono ?_; rintro e w' ⟨rfl, rfl⟩)
      go_round
      case rel => exact ⟨k + 1, by omega, by go_num, HT'⟩
      case measure => simp [intOf]; omega
  · have HR : Hid (R = (decide (1 ≤ s.size) && decide (s.size ≤ 16))) := zI (by
     have := HD.out
     rw [List.take_of_length_le (by rw [zgX]; omega)] at this
     rw [← hR]
     unfold zaQ
     rw [this, zgX, Bool.and_true])
    clear HD hR
    go_wp2
    all_goals
     go_ret
     exact ⟨ret_boolE (by rw [HR.out, Bool.eq_iff_iff]; simp; try omega), rfl⟩
def okv (c : UInt8) : Bool := decide (32 ≤ c.toNat) && decide (c.toNat ≤ 126)
theorem valOk_eq (s : ByteArray) : valOk s = ((bs s).all okv && decide (s.size ≤ 32)) := rfl
theorem refValue_any (s : ByteArray) (hs : s.size ≤ 140737488355328) (w : World) :
 Calls Tryz.prog 164 #[.string s] w fun e w' => e = .returned (.bool (valOk s)) ∧ w = w' := by
 obtain ⟨R, hR⟩ : ∃ R, valOk s = R := ⟨_, rfl⟩
 rw [hR]
 go_enter Tryz.func164, Tryz.ntmps164
 go_wp2
 go_loop [3] (fun i => ∃ k : Nat, k ≤ s.size ∧ i = .int .i64 k ∧ Hid (((bs s).take k).all okv = true)) (fun i => s.size - (intOf i).toNat)
 case atStart => exact ⟨0, Nat.zero_le _, rfl, zI (by simp)⟩
 case round =>
  obtain ⟨k, hk, rfl, HD⟩ := hrel
  by_cases hlt : k < s.size
  · have HT : Hid (((bs s).take (k + 1)).all okv = okv s[k]) := zI (by
     have e : (bs s)[k]? = some s[k] := by
      rw [qZa (by rw [zgX]; exact hlt)]
      rfl
     rw [List.take_add_one, e, List.all_append, HD.out]
     simp)
    rcases ho : okv s[k] with _ | _
    · have HR : Hid (R = false) := zI (by
       rw [← hR, valOk_eq]
       have h1 : (bs s).all okv = false := by
        rw [← List.take_append_drop (k + 1) (bs s), List.all_append, HT.out, ho]; rfl
       rw [h1, Bool.false_and])
      clear HT hR
      unfold okv at ho
      by_cases h1 : s[k].toNat < 32
      · clear ho
        go_wp2
        go_ret
        exact ⟨ret_boolE HR.out.symm, rfl⟩
      · have h2 : 126 < s[k].toNat := by
         simp at ho
         have := ho (by omega)
         omega
        clear ho
        go_wp2
        go_ret
        exact ⟨ret_boolE HR.out.symm, rfl⟩
    · have HT' : Hid (((bs s).take (k + 1)).all okv = true) := zI (by rw [HT.out, ho])
      clear HT hR
      unfold okv at ho
      have h1 : ¬ s[k].toNat < 32 := by simp at ho; omega
      have h2 : ¬ 126 < s[k].toNat := by simp at ho; omega
      clear ho
      go_wp2
      go_round
      case rel => exact ⟨k + 1, by omega, by go_num, HT'⟩
      case measure => simp [intOf]; omega
  · have HR : Hid (R = decide (s.size ≤ 32)) := zI (by
     have := HD.out
     rw [List.take_of_length_le (by rw [zgX]; omega)] at this
     rw [← hR, valOk_eq, this, Bool.true_and])
    clear HD hR
    go_wp2
    all_goals
     go_ret
     exact ⟨ret_boolE (by rw [HR.out, Bool.eq_iff_iff]; simp; try omega), rfl⟩
theorem zaZ {a b : Bool} (h : a = b) : Ending.returned (.bool a) = .returned (.bool b) := by rw [h]
theorem okc_int (c : UInt8) : okc c = (decide (97 ≤ (c.toNat : Int)) && decide ((c.toNat : Int) ≤ 122) || decide (48 ≤ (c.toNat : Int)) && decide ((c.toNat : Int) ≤ 57) || decide ((c.toNat : Int) = 45) || decide ((c.toNat : Int) = 95)) := by
 revert c
 refine fun c => (by decide +kernel : ∀ c : Fin 256, okc ⟨⟨c⟩⟩ = (decide (97 ≤ (((⟨⟨c⟩⟩ : UInt8).toNat : Nat) : Int)) && decide ((((⟨⟨c⟩⟩ : UInt8).toNat : Nat) : Int) ≤ 122) || decide (48 ≤ (((⟨⟨c⟩⟩ : UInt8).toNat : Nat) : Int)) && decide ((((⟨⟨c⟩⟩ : UInt8).toNat : Nat) : Int) ≤ 57) || decide ((((⟨⟨c⟩⟩ : UInt8).toNat : Nat) : Int) = 45) || decide ((((⟨⟨c⟩⟩ : UInt8).toNat : Nat) : Int) = 95))) c.toFin
theorem octet_any (c : UInt8) (w : World) :
 Calls Tryz.prog 96 #[.int .u8 (c.toNat : Int)] w fun e w' => e = .returned (.bool (okc c)) ∧ w = w' := by
 have hc := okc_int c
 have HC := zI hc
 clear hc
 go_enter Tryz.func96, Tryz.ntmps96
 go_wp2
 all_goals
  go_ret
  exact ⟨zaZ (by rw [HC.out, Bool.eq_iff_iff]; simp; try omega), rfl⟩
theorem every_any (s : ByteArray) (hs : s.size ≤ 64) (w : World) :
 Calls Tryz.prog 95 #[.string s, .func (.func 96) #[] #[]] w fun e w' => e = .returned (.bool ((bs s).all okc)) ∧ w = w' := by
 go_enter Tryz.func95, Tryz.ntmps95
 go_wp2
 go_loop [8] (fun i => ∃ k : Nat, k ≤ s.size ∧ i = .int .i64 k ∧ ((bs s).drop k).all okc = (bs s).all okc) (fun i => s.size - (intOf i).toNat)
 case atStart => exact ⟨0, Nat.zero_le _, rfl, by simp⟩
 case round =>
  obtain ⟨k, hk, rfl, hd⟩ := hrel
  by_cases hlt : k < s.size
  · rw [bs_at s k hlt, List.all_cons] at hd
    have HD := zI hd
    clear hd
    rcases ho : okc s[k] with _ | _
    · have HO := zI ho
      go_wp2_with (refine (octet_any _ _).mono ?_; rintro e w' ⟨rfl, rfl⟩)
      go_ret
      exact ⟨zaZ (by rw [← HD.out, HO.out]; rfl), rfl⟩
    · have HO := zI ho
      go_wp2_with (refine (octet_any _ _).mono ?_; rintro e w' ⟨rfl, rfl⟩)
      go_round
      case rel => exact ⟨k + 1, by omega, by go_num, by rw [← HD.out, HO.out]; rfl⟩
      case measure => simp [intOf]; omega
  · have HD := zI hd
    clear hd
    go_wp2
    go_ret
    exact ⟨zaZ (by rw [← HD.out, List.drop_of_length_le (by rw [zgX]; omega)]; rfl), rfl⟩
theorem name_any (s : ByteArray) (w : World) :
 Calls Tryz.prog 45 #[.string s] w fun e w' => e = .returned (.bool (zaQ (bs s))) ∧ w = w' := by
 by_cases h1 : 1 ≤ s.size
 · by_cases h2 : s.size ≤ 16
   · have HN : Hid (zaQ (bs s) = (bs s).all okc) := by
      show zaQ (bs s) = (bs s).all okc
      simp [zaQ, zgX, h1, h2]
     go_enter Tryz.func45, Tryz.ntmps45
     go_wp2_with (refine (every_any _ (by omega) _).mono ?_; rintro e w' ⟨rfl, rfl⟩)
     go_ret
     exact ⟨zaZ HN.out.symm, rfl⟩
   · have HN : Hid (zaQ (bs s) = false) := by
      show zaQ (bs s) = false
      simp [zaQ, zgX, h2]
     go_enter Tryz.func45, Tryz.ntmps45
     go_wp2
     go_ret
     exact ⟨zaZ HN.out.symm, rfl⟩
 · have HN : Hid (zaQ (bs s) = false) := by
    show zaQ (bs s) = false
    simp [zaQ, zgX, h1]
   go_enter Tryz.func45, Tryz.ntmps45
   go_wp2
   go_ret
   exact ⟨zaZ HN.out.symm, rfl⟩
set_option maxHeartbeats 2000000
theorem belowBytes (w : World) (e : TypeId) (s : ByteArray) : Below w.heap.size w (Lib.bytesWorld w e s) :=
 ⟨rfl, rfl, rfl, by rw [Lib.bytesWorld_size]; omega, fun k hk => Lib.bytesWorld_at_old w e s k hk⟩
theorem val1_any (c : UInt8) (w : World) :
 Calls Tryz.prog 213 #[.int .u8 (c.toNat : Int)] w fun e w' => e = .returned (.bool (!okv c)) ∧ ∃ q, w' = w.drewN q := by
 have hR : okv c = (decide (32 ≤ c.toNat) && decide (c.toNat ≤ 126)) := rfl
 have HR := zI hR
 clear hR
 go_enter Tryz.func213, Tryz.ntmps213
 go_wp2
 all_goals
  go_ret
  exact ⟨ret_boolE (by rw [HR.out, Bool.eq_iff_iff]; simp; try omega), 0, rfl⟩
theorem any_not {α : Type} (p : α → Bool) (l : List α) : (l.any fun x => !p x) = !l.all p := by
 induction l with
 | nil => rfl
 | cons x l ih => rw [List.any_cons, List.all_cons, ih, Bool.not_and]
theorem isValue_any (s : ByteArray) (hs : s.size ≤ 140737488355328) (w : World) :
 Calls Tryz.prog 203 #[.string s] w fun e w' => e = .returned (.bool (valOk s)) ∧ Below w.heap.size w w' := by
 by_cases h1 : s.size ≤ 32
 · have hR : valOk s = (bs s).all okv := by rw [valOk_eq, decide_eq_true h1, Bool.and_true]
   have hA := any_not okv (bs s)
   have hcv := Lib.run_convert_string_bytes (P := Tryz.prog) w 9 186 5 s Tryz.underlying9 Tryz.underlying186 Tryz.underlying5
   have hbb := belowBytes w 5 s
   have hcell := Lib.bytesWorld_cell w 5 s
   generalize grownCap w s.size 0 5 = cap at *
   generalize Lib.bytesWorld w 5 s = w1 at *
   have eg : ∀ args w, (callFunc 213 args).run Tryz.prog w = .ok (.enter 213 args) w := enters_of Tryz.func213 (by kernel_rfl) rfl
   have HC := AnyE.slices_ContainsFunc Tryz.containsB (fun c : UInt8 => Value.int .u8 (c.toNat : Int)) (fun c => !okv c) 213 #[] eg w.heap.size 0 s.size cap (bs s) w1
    (fun W c hb => (val1_any c W)) (by rw [zgX]; exact Nat.le_refl _) (by omega) (fun j hj => by
     rw [zgX] at hj
     rw [Nat.zero_add, hcell j hj]
     have hd : j < s.data.toList.length := by rw [Array.length_toList]; exact hj
     congr 2
     rw [getElem!_pos (bs s) j (by rw [zgX]; exact hj)]
     simp [List.getD, bs, qZa hd])
   rw [List.take_of_length_le (by rw [zgX]; exact Nat.le_refl _), hA] at HC
   change Calls _ 212 _ _ _ at HC
   have HC' := zI HC
   have HR : Hid (valOk s = (bs s).all okv) := zI hR
   generalize valOk s = R at *
   generalize (bs s).all okv = R2 at *
   clear hcell hR HC hA
   go_enter Tryz.func203, Tryz.ntmps203
   go_wp2_with fail
   refine HC'.out.mono ?_
   rintro e w2 ⟨rfl, q, rfl⟩
   go_wp2
   go_ret
   exact ⟨ret_boolE HR.out.symm, hbb.trans (zaX _ _ _)⟩
 · have hR : valOk s = false := by rw [valOk_eq, decide_eq_false h1, Bool.and_false]
   rw [hR]
   clear hR
   go_enter Tryz.func203, Tryz.ntmps203
   go_wp2
   go_ret
   exact ⟨rfl, Below.refl _ _⟩
theorem check_any (A : Option Addr) (c n : Nat) (l : List Pr) (hn : l.length = n) (hl : n ≤ 4398046511104) (hf : ∀ x ∈ l, x.2.size ≤ 140737488351232) (w : World) (hr : Rd w A (prs l)) :
 Calls Tryz.prog 193 #[.slice A n c] w fun e w' => e = .returned (.int .i64 (chkP l)) ∧ Below w.heap.size w w' := by
 subst hn
 by_cases h8 : l.length ≤ 8
 · obtain ⟨R, hR⟩ : ∃ R, chkP l = R := ⟨_, rfl⟩
   have hRO : R = if okFP ByteArray.empty l then 0 else 9 := by rw [← hR, chkP, okP_from, decide_eq_true h8, Bool.true_and]
   have HRO := zI hRO
   rw [hR]
   clear hR hRO
   go_enter Tryz.func193, Tryz.ntmps193
   go_wp2
   go_loopw [3, 11] (fun a j W => ∃ (k : Nat) (s : ByteArray), k ≤ l.length ∧ j = .int .i64 k ∧ a = .string s ∧ Hid (okFP s (l.drop k) = okFP ByteArray.empty l) ∧ Below w.heap.size w W) (fun _ j _ => l.length - (intOf j).toNat)
   case atStart => exact ⟨0, ByteArray.empty, Nat.zero_le _, rfl, rfl, zI rfl, Below.refl _ _⟩
   case round =>
    obtain ⟨k, s, hk, rfl, rfl, HD, hB⟩ := hrel
    by_cases hlt : k < l.length
    · obtain ⟨x, hx⟩ : ∃ x, l[k]? = some x := ⟨l[k], qZa hlt⟩
      obtain ⟨b, off, rfl, hb, hc0, hc1⟩ := (Rd.below hr hB).pr hx
      have hks : x.2.size ≤ 140737488351232 := hf x (mG hx)
      have HDR : Hid (okFP ByteArray.empty l = (zaQ (bs x.1) && (Op.bytesLess s.toList x.1.toList && (valOk x.2 && okFP x.1 (l.drop (k + 1)))))) := zI (by
       rw [← HD.out]
       obtain ⟨h, e⟩ := List.getElem?_eq_some_iff.1 hx
       rw [List.drop_eq_getElem_cons h, e]
       rfl)
      clear hx HD
      obtain ⟨x1, x2⟩ := x
      dsimp only at *
      have HB1 : Hid (Below w.heap.size w (wr.alloc (.cells #[.string x1, .string x2] 109))) := zI (hB.alloc hB.size _)
      have HN := zI (name_any x1 (wr.alloc (.cells #[.string x1, .string x2] 109)))
      have HV := zI (isValue_any x2 (by omega) (wr.alloc (.cells #[.string x1, .string x2] 109)))
      rcases hnm : zaQ (bs x1) with _ | _
      · have HR : Hid (R = 9) := zI (by rw [HRO.out, HDR.out, hnm]; rfl)
        rw [hnm] at HN
        clear hnm HDR
        go_wp2_with fail
        refine HN.out.mono ?_
        rintro e w1 ⟨rfl, rfl⟩
        go_wp2
        go_ret
        rw [HR.out]
        exact ⟨rfl, HB1.out⟩
      · rw [hnm] at HN
        rcases hle : Op.bytesLess s.toList x1.toList with _ | _
        · have HR : Hid (R = 9) := zI (by rw [HRO.out, HDR.out, hnm, hle]; rfl)
          have hle2 : (Op.bytesLess x1.toList s.toList || x1.toList == s.toList) = true := by
           rw [← Bool.not_eq_false]
           intro h
           have : ltK s x1 := ltK_iff.2 h
           unfold ltK at this
           rw [hle] at this
           cases this
          clear hnm HDR hle
          go_wp2_with fail
          refine HN.out.mono ?_
          rintro e w1 ⟨rfl, rfl⟩
          go_wp2
          go_ret
          rw [HR.out]
          exact ⟨rfl, HB1.out⟩
        · have hle2 : (Op.bytesLess x1.toList s.toList || x1.toList == s.toList) = false := ltK_iff.1 hle
          rcases hv : valOk x2 with _ | _
          · have HR : Hid (R = 9) := zI (by rw [HRO.out, HDR.out, hnm, hle, hv]; rfl)
            rw [hv] at HV
            clear hnm HDR hle hv
            go_wp2_with fail
            refine HN.out.mono ?_
            rintro e w1 ⟨rfl, rfl⟩
            go_wp2_with fail
            refine HV.out.mono ?_
            rintro e w2 ⟨rfl, hB2⟩
            go_wp2
            go_ret
            rw [HR.out]
            exact ⟨rfl, HB1.out.trans (hB2.mono HB1.out.size)⟩
          · rw [hv] at HV
            have HD' : Hid (okFP x1 (l.drop (k + 1)) = okFP ByteArray.empty l) := zI (by rw [HDR.out, hnm, hle, hv]; rfl)
            clear hnm HDR hle hv
            have hX : (wr.alloc (.cells #[.string x1, .string x2] 109)).cell? ⟨wr.heap.size, 0, none⟩ = some (.string x1) := by simp
            go_wp2_with fail
            refine HN.out.mono ?_
            rintro e w1 ⟨rfl, rfl⟩
            go_wp2_with fail
            refine HV.out.mono ?_
            rintro e w2 ⟨rfl, hB2⟩
            have hX2 := (hB2.cell (p := ⟨wr.heap.size, 0, none⟩) (by simp)).trans hX
            have HB2 : Hid (Below w.heap.size w w2) := zI (HB1.out.trans (hB2.mono HB1.out.size))
            clear hX
            go_wp2
            go_roundw
            case rel => exact ⟨k + 1, x1, by omega, by go_num, rfl, HD', HB2.out⟩
            case measure => simp [intOf]; omega
    · have HR : Hid (R = 0) := zI (by
       rw [HRO.out, ← HD.out, List.drop_eq_nil_of_le (by omega)]
       rfl)
      clear HD
      go_wp2
      go_ret
      rw [HR.out]
      exact ⟨rfl, hB⟩
 · have hR : chkP l = 9 := chkP_no (by rw [okP_from, decide_eq_false h8, Bool.false_and])
   rw [hR]
   clear hR
   go_enter Tryz.func193, Tryz.ntmps193
   go_wp2
   go_ret
   exact ⟨rfl, Below.refl _ _⟩
theorem cloneU_any (s : ByteArray) (hl : s.size ≤ 281474976710656) (w : World) :
 Calls Tryz.prog 65 #[.string s] w fun e w' => e = .returned (.string s) ∧ Below w.heap.size w w' := by
 go_enter Tryz.func65, Tryz.ntmps65
 go_wp2_with (refine (Tryz.stringslite_Clone _ _ hl).mono ?_; rintro e w' ⟨rfl, hB⟩)
 go_ret
 exact ⟨rfl, hB⟩
end Go.Proofs.YtimmcmjipmkebaaGreat
