/-
  Check says whether a device may be. Conditions: its lengths are a machine's.
-/
import Derived.Test.YtddkalcgijeldaaDVM
namespace Go.Proofs.Ytddkalcgijeldaa
open Go.ChangeShapes Go.WideShapes Go.ChangeAt Go.RowKit

set_option maxHeartbeats 1000000 in
theorem check_any (D : Dv) (hf : D.Fits) (w : World) (hr : Rd w D.A (ptCells D.ps)) (hs : Rd w D.B (wtCells D.ws)) :
    Calls Try.prog 18 #[D.val] w fun e w' => ∃ r : Int, e = .returned (.int .i64 r) ∧ (r = 0 ∧ D.st.ok ∨ r = 9 ∧ ¬ D.st.ok) ∧ Below w.heap.size w w' := by
  obtain ⟨A, ps, c, B, ws, d⟩ := D
  obtain ⟨hn, hm, hpl, hwl⟩ := hf
  have HOK := Lib.hid (Dv.ok_iff ⟨A, ps, c, B, ws, d⟩)
  dsimp only at hr hs hn hm hpl hwl
  have HR := Lib.hid hr
  have HS := Lib.hid hs
  have HPL := Lib.hid hpl
  have HWL := Lib.hid hwl
  generalize Dv.st ⟨A, ps, c, B, ws, d⟩ = S at *
  clear hr hs hpl hwl
  have hB0 : Below w.heap.size w (w.alloc (.cells #[.slice A ps.length c, .slice B ws.length d] 29)) := (Below.refl _ w).alloc (Nat.le_refl _) _
  by_cases h2 : 2 ≤ ps.length
  · by_cases h3 : ps.length ≤ 8192
    · go_enter Try.func18, Try.ntmps18
      go_wp2
      go_loopw [20] (fun i wr => ∃ k : Nat, k ≤ ps.length ∧ i = .int .i64 k ∧ Hid (∀ p ∈ ps.take k, p.zs.length = 64) ∧ wr = (w.alloc (.cells #[.slice A ps.length c, .slice B ws.length d] 29))) (fun i _ => ps.length - (intOf i).toNat)
      case atStart =>
        exact ⟨0, Nat.zero_le _, rfl, fun p hp => by simp at hp, rfl⟩
      case round =>
        obtain ⟨k, hk, rfl, H64, rfl⟩ := hrel
        by_cases hlt : k < ps.length
        · obtain ⟨p, hp⟩ : ∃ p, ps[k]? = some p := ⟨_, List.getElem?_eq_getElem hlt⟩
          obtain ⟨b, off, hA, hb, hc⟩ := (Rd.below HR.out hB0).pt hp
          have hpl := HPL.out p (List.mem_of_getElem? hp)
          have hmem := List.mem_of_getElem? hp
          have htk : ps.take (k + 1) = ps.take k ++ [p] := by
            rw [List.take_succ_eq_append_getElem hlt]
            rw [List.getElem?_eq_getElem hlt] at hp
            injection hp with hp
            rw [hp]
          have HTK := Lib.hid htk
          clear htk hp
          subst hA
          by_cases h64 : p.zs.length = 64
          · go_wp2
            go_roundw
            case rel =>
              refine ⟨k + 1, by omega, by go_num, ?_, by first | rfl | trivial⟩
              intro q hq
              rw [HTK.out] at hq
              simp at hq
              rcases hq with hq | rfl
              · exact H64.out q hq
              · exact h64
            case measure => simp [intOf]; omega
          · go_wp2
            go_ret
            refine ⟨9, rfl, .inr ⟨rfl, fun ho => ?_⟩, hB0⟩
            exact h64 ((HOK.out.1 ho).2.2.1 p hmem)
        · obtain rfl : k = ps.length := by omega
          rw [List.take_length] at H64
          go_wp2
          go_loopw [31] (fun i wr => ∃ k : Nat, k ≤ ws.length ∧ i = .int .i64 k ∧ Hid (∀ x ∈ ws.take k, wrtE ps.length x.at_ x.p.zs.length = 0) ∧ Below (w.heap.size + 1) (w.alloc (.cells #[.slice A ps.length c, .slice B ws.length d] 29)) wr) (fun i _ => ws.length - (intOf i).toNat)
          case atStart =>
            exact ⟨0, Nat.zero_le _, rfl, fun p hp => by simp at hp, Below.refl _ _⟩
          case round =>
            obtain ⟨k, hk, rfl, HOKS, hB1⟩ := hrel
            have hBr : Below w.heap.size w wr := hB0.trans (hB1.mono (by simp))
            by_cases hlt : k < ws.length
            · obtain ⟨x, hx⟩ : ∃ x, ws[k]? = some x := ⟨_, List.getElem?_eq_getElem hlt⟩
              obtain ⟨b, off, hA, hb, hc1, hc2⟩ := (Rd.below HS.out hBr).wt hx
              have hxl := HWL.out x (List.mem_of_getElem? hx)
              have hmem := List.mem_of_getElem? hx
              have htk : ws.take (k + 1) = ws.take k ++ [x] := by
                rw [List.take_succ_eq_append_getElem hlt]
                rw [List.getElem?_eq_getElem hlt] at hx
                injection hx with hx
                rw [hx]
              have HTK := Lib.hid htk
              have HCW := Lib.hid (fun w => checkWrite_any A ps.length c B ws.length d x.at_ x.p.A x.p.zs.length x.p.c (by omega) w)
              clear htk hx
              have kb : Blk wr w.heap.size 29 [.slice A ps.length c, .slice B ws.length d] := (Blk.new w [.slice A ps.length c, .slice B ws.length d] 29).below hB1 (by simp)
              have hd0 : wr.cell? ⟨w.heap.size, 0, none⟩ = some (.slice A ps.length c) := kb.cell 0
              have hd1 : wr.cell? ⟨w.heap.size, 1, none⟩ = some (.slice B ws.length d) := kb.cell 1
              have hsz := hB1.size
              simp at hsz
              have hsz2 := kb.lt
              clear kb
              subst hA
              obtain ⟨r, hr⟩ : ∃ r, wrtE ps.length x.at_ x.p.zs.length = r := ⟨_, rfl⟩
              rw [hr] at HCW
              have HRR := Lib.hid hr
              clear hr
              by_cases h0 : r = 0
              · subst h0
                go_wp2_with (refine (HCW.out _).mono ?_; rintro e w1 ⟨rfl, hB2⟩)
                go_roundw
                case rel =>
                  refine ⟨k + 1, by omega, by go_num, ?_, ?_⟩
                  · intro q hq
                    rw [HTK.out] at hq
                    simp at hq
                    rcases hq with hq | rfl
                    · exact HOKS.out q hq
                    · exact HRR.out
                  · exact (hB1.alloc (by first | omega | (simp; omega)) _).trans (hB2.mono (by first | omega | (simp; omega)))
                case measure => simp [intOf]; omega
              · have hr0 : (r == 0) = false := beq_eq_false_iff_ne.2 h0
                go_wp2_with (refine (HCW.out _).mono ?_; rintro e w1 ⟨rfl, hB2⟩)
                go_ret
                refine ⟨9, rfl, .inr ⟨rfl, fun ho => ?_⟩, ?_⟩
                · have := (HOK.out.1 ho).2.2.2 x hmem
                  exact h0 (HRR.out.symm.trans this)
                · exact (hBr.alloc (by omega) _).trans (hB2.mono (by first | omega | (simp; omega)))
            · obtain rfl : k = ws.length := by omega
              rw [List.take_length] at HOKS
              go_wp2
              go_ret
              exact ⟨0, rfl, .inl ⟨rfl, HOK.out.2 ⟨h2, h3, H64.out, HOKS.out⟩⟩, hBr⟩
    · go_enter Try.func18, Try.ntmps18
      go_wp2
      go_ret
      exact ⟨9, rfl, .inr ⟨rfl, fun ho => h3 (HOK.out.1 ho).2.1⟩, hB0⟩
  · go_enter Try.func18, Try.ntmps18
    go_wp2
    go_ret
    exact ⟨9, rfl, .inr ⟨rfl, fun ho => h2 (HOK.out.1 ho).1⟩, hB0⟩

theorem check_ok (D : Dv) (hf : D.Fits) (h : D.st.ok) (w : World) (hr : Rd w D.A (ptCells D.ps)) (hs : Rd w D.B (wtCells D.ws)) :
    Calls Try.prog 18 #[D.val] w fun e w' => e = .returned (.int .i64 0) ∧ Below w.heap.size w w' := by
  refine (check_any D hf w hr hs).mono ?_
  rintro e w' ⟨r, rfl, (⟨rfl, _⟩ | ⟨_, h2⟩), hB⟩
  · exact ⟨rfl, hB⟩
  · exact absurd h h2
theorem check_no (D : Dv) (hf : D.Fits) (h : ¬ D.st.ok) (w : World) (hr : Rd w D.A (ptCells D.ps)) (hs : Rd w D.B (wtCells D.ws)) :
    Calls Try.prog 18 #[D.val] w fun e w' => e = .returned (.int .i64 9) ∧ Below w.heap.size w w' := by
  refine (check_any D hf w hr hs).mono ?_
  rintro e w' ⟨r, rfl, (⟨_, h2⟩ | ⟨rfl, _⟩), hB⟩
  · exact absurd h2 h
  · exact ⟨rfl, hB⟩

end Go.Proofs.Ytddkalcgijeldaa
