/-
  props: isValue and Check. Conditions: the texts are as they come in.
-/
import Derived.Test.YtnioelkibghplaaGreatQEN
import Derived.Test.YtnioelkibghplaaGreatQNA
import Derived.Test.YtnioelkibghplaaGreatLayH
import Derived.Lib.ConvBytes
import Derived.BigQuiet
namespace Go.Proofs.YtnioelkibghplaaGreat
open Go.ChangeShapes Go.WideShapes Go.ChangeAt Go.RowKit
set_option maxRecDepth 100000

theorem belowBytes (w : World) (e : TypeId) (s : ByteArray) : Below w.heap.size w (Lib.bytesWorld w e s) :=
  ⟨rfl, rfl, rfl, by rw [Lib.bytesWorld_size]; omega, fun k hk => Lib.bytesWorld_at_old w e s k hk⟩
theorem val1_any (c : UInt8) (w : World) :
    Calls Tryz.prog 162 #[.int .u8 (c.toNat : Int)] w fun e w' => e = .returned (.bool (!okv c)) ∧ ∃ q, w' = w.drewN q := by
  have hR : okv c = (decide (32 ≤ c.toNat) && decide (c.toNat ≤ 126)) := rfl
  have HR := Lib.hid hR
  clear hR
  go_enter Tryz.func162, Tryz.ntmps162
  go_wp2
  all_goals
    go_ret
    exact ⟨ret_boolE (by rw [HR.out, Bool.eq_iff_iff]; simp; try omega), 0, rfl⟩

theorem any_not {α : Type} (p : α → Bool) (l : List α) : (l.any fun x => !p x) = !l.all p := by
  induction l with
  | nil => rfl
  | cons x l ih => rw [List.any_cons, List.all_cons, ih, Bool.not_and]

set_option maxHeartbeats 1000000 in
theorem isValue_any (s : ByteArray) (hs : s.size ≤ 140737488355328) (w : World) :
    Calls Tryz.prog 118 #[.string s] w fun e w' => e = .returned (.bool (valOk s)) ∧ Below w.heap.size w w' := by
  by_cases h1 : s.size ≤ 32
  · have hR : valOk s = (bs s).all okv := by rw [valOk_eq, decide_eq_true h1, Bool.and_true]
    have hA := any_not okv (bs s)
    have hcv := Lib.run_convert_string_bytes (P := Tryz.prog) w 9 177 5 s Tryz.underlying9 Tryz.underlying177 Tryz.underlying5
    have hbb := belowBytes w 5 s
    have hcell := Lib.bytesWorld_cell w 5 s
    generalize grownCap w s.size 0 5 = cap at *
    generalize Lib.bytesWorld w 5 s = w1 at *
    have eg : ∀ args w, (callFunc 162 args).run Tryz.prog w = .ok (.enter 162 args) w := enters_of Tryz.func162 (by kernel_rfl) rfl
    have HC := AnyE.slices_ContainsFunc Tryz.containsB (fun c : UInt8 => Value.int .u8 (c.toNat : Int)) (fun c => !okv c) 162 #[] eg w.heap.size 0 s.size cap (bs s) w1
      (fun W c hb => (val1_any c W)) (by rw [bs_length]; exact Nat.le_refl _) (by omega) (fun j hj => by
        rw [bs_length] at hj
        rw [Nat.zero_add, hcell j hj]
        have hd : j < s.data.toList.length := by rw [Array.length_toList]; exact hj
        congr 2
        rw [getElem!_pos (bs s) j (by rw [bs_length]; exact hj)]
        simp [List.getD, bs, List.getElem?_eq_getElem hd])
    rw [List.take_of_length_le (by rw [bs_length]; exact Nat.le_refl _), hA] at HC
    change Calls _ 161 _ _ _ at HC
    have HC' := Lib.hid HC
    have HR : Hid (valOk s = (bs s).all okv) := Lib.hid hR
    generalize valOk s = R at *
    generalize (bs s).all okv = R2 at *
    clear hcell hR HC hA
    go_enter Tryz.func118, Tryz.ntmps118
    go_wp2_with fail
    refine HC'.out.mono ?_
    rintro e w2 ⟨rfl, q, rfl⟩
    go_wp2
    go_ret
    exact ⟨ret_boolE HR.out.symm, hbb.trans (belowDrewN _ _ _)⟩
  · have hR : valOk s = false := by rw [valOk_eq, decide_eq_false h1, Bool.and_false]
    rw [hR]
    clear hR
    go_enter Tryz.func118, Tryz.ntmps118
    go_wp2
    go_ret
    exact ⟨rfl, Below.refl _ _⟩

set_option maxHeartbeats 2000000 in
theorem check_any (A : Option Addr) (c n : Nat) (l : List Pr) (hn : l.length = n) (hl : n ≤ 4398046511104) (hf : ∀ x ∈ l, x.2.size ≤ 140737488351232) (w : World) (hr : Rd w A (prs l)) :
    Calls Tryz.prog 117 #[.slice A n c] w fun e w' => e = .returned (.int .i64 (chkP l)) ∧ Below w.heap.size w w' := by
  subst hn
  by_cases h8 : l.length ≤ 8
  · obtain ⟨R, hR⟩ : ∃ R, chkP l = R := ⟨_, rfl⟩
    have hRO : R = if okFP ByteArray.empty l then 0 else 9 := by rw [← hR, chkP, okP_from, decide_eq_true h8, Bool.true_and]
    have HRO := Lib.hid hRO
    rw [hR]
    clear hR hRO
    go_enter Tryz.func117, Tryz.ntmps117
    go_wp2
    go_loopw [3, 11] (fun a j W => ∃ (k : Nat) (s : ByteArray), k ≤ l.length ∧ j = .int .i64 k ∧ a = .string s ∧ Hid (okFP s (l.drop k) = okFP ByteArray.empty l) ∧ Below w.heap.size w W) (fun _ j _ => l.length - (intOf j).toNat)
    case atStart => exact ⟨0, ByteArray.empty, Nat.zero_le _, rfl, rfl, Lib.hid rfl, Below.refl _ _⟩
    case round =>
      obtain ⟨k, s, hk, rfl, rfl, HD, hB⟩ := hrel
      by_cases hlt : k < l.length
      · obtain ⟨x, hx⟩ : ∃ x, l[k]? = some x := ⟨l[k], List.getElem?_eq_getElem hlt⟩
        obtain ⟨b, off, rfl, hb, hc0, hc1⟩ := (Rd.below hr hB).pr hx
        have hks : x.2.size ≤ 140737488351232 := hf x (List.mem_of_getElem? hx)
        have HDR : Hid (okFP ByteArray.empty l = (isName (bs x.1) && (Op.bytesLess s.toList x.1.toList && (valOk x.2 && okFP x.1 (l.drop (k + 1)))))) := Lib.hid (by
          rw [← HD.out]
          obtain ⟨h, e⟩ := List.getElem?_eq_some_iff.1 hx
          rw [List.drop_eq_getElem_cons h, e]
          rfl)
        clear hx HD
        obtain ⟨x1, x2⟩ := x
        dsimp only at *
        have HB1 : Hid (Below w.heap.size w (wr.alloc (.cells #[.string x1, .string x2] 109))) := Lib.hid (hB.alloc hB.size _)
        have HN := Lib.hid (name_any x1 (wr.alloc (.cells #[.string x1, .string x2] 109)))
        have HV := Lib.hid (isValue_any x2 (by omega) (wr.alloc (.cells #[.string x1, .string x2] 109)))
        rcases hnm : isName (bs x1) with _ | _
        · have HR : Hid (R = 9) := Lib.hid (by rw [HRO.out, HDR.out, hnm]; rfl)
          rw [hnm] at HN
          clear hnm HDR
          go_wp2_with fail
          refine HN.out.mono ?_
          rintro e w1 ⟨rfl, rfl⟩
          go_wp2
          go_ret
          rw [HR.out]
          exact ⟨rfl, HB1.out⟩
        · rw [hnm] at HN
          rcases hle : Op.bytesLess s.toList x1.toList with _ | _
          · have HR : Hid (R = 9) := Lib.hid (by rw [HRO.out, HDR.out, hnm, hle]; rfl)
            have hle2 : (Op.bytesLess x1.toList s.toList || x1.toList == s.toList) = true := by
              rw [← Bool.not_eq_false]
              intro h
              have : ltK s x1 := ltK_iff.2 h
              unfold ltK at this
              rw [hle] at this
              cases this
            clear hnm HDR hle
            go_wp2_with fail
            refine HN.out.mono ?_
            rintro e w1 ⟨rfl, rfl⟩
            go_wp2
            go_ret
            rw [HR.out]
            exact ⟨rfl, HB1.out⟩
          · have hle2 : (Op.bytesLess x1.toList s.toList || x1.toList == s.toList) = false := ltK_iff.1 hle
            rcases hv : valOk x2 with _ | _
            · have HR : Hid (R = 9) := Lib.hid (by rw [HRO.out, HDR.out, hnm, hle, hv]; rfl)
              rw [hv] at HV
              clear hnm HDR hle hv
              go_wp2_with fail
              refine HN.out.mono ?_
              rintro e w1 ⟨rfl, rfl⟩
              go_wp2_with fail
              refine HV.out.mono ?_
              rintro e w2 ⟨rfl, hB2⟩
              go_wp2
              go_ret
              rw [HR.out]
              exact ⟨rfl, HB1.out.trans (hB2.mono HB1.out.size)⟩
            · rw [hv] at HV
              have HD' : Hid (okFP x1 (l.drop (k + 1)) = okFP ByteArray.empty l) := Lib.hid (by rw [HDR.out, hnm, hle, hv]; rfl)
              clear hnm HDR hle hv
              have hX : (wr.alloc (.cells #[.string x1, .string x2] 109)).cell? ⟨wr.heap.size, 0, none⟩ = some (.string x1) := by simp
              go_wp2_with fail
              refine HN.out.mono ?_
              rintro e w1 ⟨rfl, rfl⟩
              go_wp2_with fail
              refine HV.out.mono ?_
              rintro e w2 ⟨rfl, hB2⟩
              have hX2 := (hB2.cell (p := ⟨wr.heap.size, 0, none⟩) (by simp)).trans hX
              have HB2 : Hid (Below w.heap.size w w2) := Lib.hid (HB1.out.trans (hB2.mono HB1.out.size))
              clear hX
              go_wp2
              go_roundw
              case rel => exact ⟨k + 1, x1, by omega, by go_num, rfl, HD', HB2.out⟩
              case measure => simp [intOf]; omega
      · have HR : Hid (R = 0) := Lib.hid (by
          rw [HRO.out, ← HD.out, List.drop_eq_nil_of_le (by omega)]
          rfl)
        clear HD
        go_wp2
        go_ret
        rw [HR.out]
        exact ⟨rfl, hB⟩
  · have hR : chkP l = 9 := chkP_no (by rw [okP_from, decide_eq_false h8, Bool.false_and])
    rw [hR]
    clear hR
    go_enter Tryz.func117, Tryz.ntmps117
    go_wp2
    go_ret
    exact ⟨rfl, Below.refl _ _⟩

end Go.Proofs.YtnioelkibghplaaGreat
