/-
  names.Path, decided; names.Under. Conditions: the texts are at most as long as those that come in.
-/
import Derived.Test.YtkokfmodoacflaaNB
namespace Go.Proofs.Ytkokfmodoacflaa
open Go.ChangeShapes Go.WideShapes Go.ChangeAt Go.RowKit
set_option maxRecDepth 100000

theorem path_is (v : Bool) (s : ByteArray) (hv : isPath (bs s) = v) (hz : s.size ≤ 9223372036854775807) (w : World) :
    Calls Try.prog 28 #[.string s] w fun e w' => e = .returned (.bool v) ∧ Below w.heap.size w w' := by
  rw [← hv]
  exact path_any s hz w

theorem hasP_any (s q : ByteArray) (w : World) :
    Calls Try.prog 33 #[.string s, .string q] w fun e w' => e = .returned (.bool ((bs q).isPrefixOf (bs s))) ∧ w = w' :=
  (Try.strings_HasPrefix s q w).mono fun _ _ ⟨he, hw⟩ => ⟨he, hw.symm⟩

theorem bs_append (s t : ByteArray) : bs (s ++ t) = bs s ++ bs t := by
  simp [bs]

theorem u1 {p f : ByteArray} (h : f.toList = []) : true = ((bs f).isEmpty || bs p == bs f || (bs f ++ [47]).isPrefixOf (bs p)) := by
  rw [show bs f = [] from (Lib.toList_data f).symm.trans h]
  rfl
theorem u2 {p f : ByteArray} (h : p.toList = f.toList) : true = ((bs f).isEmpty || bs p == bs f || (bs f ++ [47]).isPrefixOf (bs p)) := by
  rw [show bs p = bs f from (Lib.toList_data p).symm.trans (h.trans (Lib.toList_data f))]
  simp
theorem u3 {p f : ByteArray} : (f.toList.isEmpty || p.toList == f.toList || (bs (f ++ ⟨#[47]⟩)).isPrefixOf (bs p)) = ((bs f).isEmpty || bs p == bs f || (bs f ++ [47]).isPrefixOf (bs p)) := by
  rw [Lib.toList_data, Lib.toList_data, bs_append]
  rfl

theorem under_any (p f : ByteArray) (hp : p.size ≤ 140737488351232) (hf : f.size ≤ 140737488351232) (w : World) :
    Calls Try.prog 21 #[.string p, .string f] w fun e w' => e = .returned (.bool (underL (bs p) (bs f))) ∧ Below w.heap.size w w' := by
  rcases h1 : isPath (bs p) with _ | _
  · have HU : Hid (underL (bs p) (bs f) = false) := by
      show underL (bs p) (bs f) = false
      simp [underL, h1]
    have HP := Lib.hid h1
    clear h1
    go_enter Try.func21, Try.ntmps21
    go_wp2_with (go_at_call 28; refine (path_is false _ HP.out (by omega) _).mono ?_; rintro e w2 ⟨rfl, hB2⟩)
    go_ret
    exact ⟨ret_bool HU.out.symm, hB2⟩
  · rcases h2 : isPath (bs f) with _ | _
    · have HU : Hid (underL (bs p) (bs f) = false) := by
        show underL (bs p) (bs f) = false
        simp [underL, h2]
      have HP := Lib.hid h1
      have HF := Lib.hid h2
      clear h1 h2
      go_enter Try.func21, Try.ntmps21
      go_wp2_with fail
      refine (path_is true _ HP.out (by omega) _).mono ?_
      rintro e w1 ⟨rfl, hB1⟩
      go_wp2_with fail
      refine (path_is false _ HF.out (by omega) _).mono ?_
      rintro e w2 ⟨rfl, hB2⟩
      go_wp2
      go_ret
      exact ⟨ret_bool HU.out.symm, hB1.trans (hB2.mono hB1.size)⟩
    · have HU : Hid (underL (bs p) (bs f) = ((bs f).isEmpty || bs p == bs f || (bs f ++ [47]).isPrefixOf (bs p))) := by
        show underL (bs p) (bs f) = _
        simp [underL, h1, h2]
      have HP := Lib.hid h1
      have HF := Lib.hid h2
      clear h1 h2
      go_enter Try.func21, Try.ntmps21
      go_wp2_with fail
      refine (path_is true _ HP.out (by omega) _).mono ?_
      rintro e w1 ⟨rfl, hB1⟩
      go_wp2_with fail
      refine (path_is true _ HF.out (by omega) _).mono ?_
      rintro e w2 ⟨rfl, hB2⟩
      go_wp2_with (go_at_call 33; refine (hasP_any _ _ _).mono ?_; rintro e w3 ⟨rfl, rfl⟩)
      all_goals
        go_ret
        exact ⟨ret_bool (by rw [HU.out]; first | exact u1 ‹_› | exact u2 ‹_› | exact u3), hB1.trans (hB2.mono hB1.size)⟩

/-- What Under and Name answer, decided. -/
theorem under_is (v : Bool) (p f : ByteArray) (hv : underL (bs p) (bs f) = v) (hp : p.size ≤ 140737488351232) (hf : f.size ≤ 140737488351232) (w : World) :
    Calls Try.prog 21 #[.string p, .string f] w fun e w' => e = .returned (.bool v) ∧ Below w.heap.size w w' := by
  rw [← hv]
  exact under_any p f hp hf w

end Go.Proofs.Ytkokfmodoacflaa
