/-
 names.Path, decided; names.Parent and names.Split at any text. Conditions: texts are at most as long as those that come in.
-/
import Derived.Test.YtimmcmjipmkebaaGreatVNB
import Derived.Test.YtimmcmjipmkebaaGreatVTNP
namespace Go.Proofs.YtimmcmjipmkebaaGreat
open Go.ChangeShapes Go.WideShapes Go.ChangeAt Go.RowKit
set_option maxRecDepth 100000
theorem path_is (v : Bool) (s : ByteArray) (hv : zeX (bs s) = v) (hz : s.size ≤ 9223372036854775807) (w : World) :
 Calls Tryz.prog 44 #[.string s] w fun e w' => e = .returned (.bool v) ∧ Below w.heap.size w w' := by
 rw [← hv]
 exact path_any s hz w
theorem at_bang (s : ByteArray) (j : Nat) (h : j < s.size) : s.data[j]! = (bs s)[j]'(by rw [zgX]; exact h) := by
 rw [getElem!_pos s.data j h]
 rfl
theorem byte_ne {c d : UInt8} (h : c ≠ d) : (c.toNat : Int) ≠ (d.toNat : Int) := fun he => h (UInt8.toNat_inj.1 (by omega))
theorem last_none {s : ByteArray} (h : (47 : UInt8) ∉ bs s) : Lib.lastIndexByte s 47 = -1 := by
 rcases Lib.lastIdx_spec s 47 s.size with ⟨h1, _⟩ | ⟨i, hi, h1, h2, _⟩
 · exact h1
 · rw [at_bang s i hi] at h2
   exact absurd h2 (byte_ne (d := 47) (fun e => h (e ▸ List.getElem_mem _)))
theorem last_some {s : ByteArray} {a b : List UInt8} (hs : bs s = a ++ 47 :: b) (hb : 47 ∉ b) : Lib.lastIndexByte s 47 = a.length := by
 have hl : s.size = a.length + (b.length + 1) := by rw [← zgX, hs]; simp
 have hat : ∀ j (hj : j < s.size), (bs s)[j]'(by rw [zgX]; exact hj) = (a ++ 47 :: b)[j]'(by simp; omega) := fun j hj => by simp only [hs]
 rcases Lib.lastIdx_spec s 47 s.size with ⟨_, h1⟩ | ⟨i, hi, h1, h2, h3⟩
 · have := h1 a.length (by omega)
   rw [at_bang s a.length (by omega), hat a.length (by omega)] at this
   simp at this
 · have : i = a.length := by
    rcases Nat.lt_trichotomy i a.length with h | h | h
    · have := h3 a.length h (by omega)
      rw [at_bang s a.length (by omega), hat a.length (by omega)] at this
      simp at this
    · exact h
    · rw [at_bang s i hi, hat i hi, List.getElem_append_right (by omega)] at h2
      obtain ⟨j, hj⟩ : ∃ j, i - a.length = j + 1 := ⟨i - a.length - 1, by omega⟩
      simp only [hj, List.getElem_cons_succ] at h2
      exact absurd h2 (byte_ne (d := 47) (fun e => hb (e ▸ List.getElem_mem _)))
   show Lib.lastIdx s 47 s.size = _
   rw [h1, this]
theorem last_any (z : Int) (s : ByteArray) (hz : Lib.lastIndexByte s 47 = z) (hs : s.size ≤ 140737488351232) (w : World) :
 Calls Tryz.prog 113 #[.string s, .string ⟨#[47]⟩] w fun e w' => e = .returned (.int .i64 z) ∧ w = w' :=
 (Tryz.strings_LastIndex_one s ⟨#[47]⟩ rfl (by omega) w).mono fun _ _ ⟨he, hw⟩ => ⟨by rw [he, ← hz]; rfl, hw.symm⟩
theorem cloneS_any (s : ByteArray) (hl : s.size ≤ 281474976710656) (w : World) :
 Calls Tryz.prog 65 #[.string s] w fun e w' => e = .returned (.string s) ∧ Below w.heap.size w w' := by
 go_enter Tryz.func65, Tryz.ntmps65
 go_wp2_with (refine (Tryz.stringslite_Clone _ _ hl).mono ?_; rintro e w' ⟨rfl, hB⟩)
 go_ret
 exact ⟨rfl, hB⟩
theorem parent_no (s : ByteArray) (hl : s.size ≤ 140737488351232) (h : zeX (bs s) = false) (w : World) :
 Calls Tryz.prog 57 #[.string s] w fun e w' => e = .returned (.tuple #[.string ByteArray.empty, .bool false]) ∧ Below w.heap.size w w' := by
 have he2 : s.toList.isEmpty = false := by
  rw [Lib.toList_data]
  show (bs s).isEmpty = false
  rcases hb : bs s with _ | ⟨z, l⟩
  · rw [hb] at h
    exact absurd h (by decide)
  · rfl
 have HP := zI h
 clear h
 go_enter Tryz.func57, Tryz.ntmps57
 go_wp2_with (go_at_call 44; refine (path_is false _ HP.out (by omega) _).mono ?_; rintro e w2 ⟨rfl, hB2⟩)
 go_ret2
 exact ⟨rfl, hB2⟩
theorem parent_root (w : World) :
 Calls Tryz.prog 57 #[.string ByteArray.empty] w fun e w' => e = .returned (.tuple #[.string ByteArray.empty, .bool false]) ∧ Below w.heap.size w w' := by
 go_enter Tryz.func57, Tryz.ntmps57
 go_wp2
 go_ret2
 exact ⟨rfl, Below.refl _ _⟩
theorem parent_top (s : ByteArray) (hl : s.size ≤ 140737488351232) (h : zeX (bs s) = true) (hn : (bs s).isEmpty = false) (h47 : 47 ∉ bs s) (w : World) :
 Calls Tryz.prog 57 #[.string s] w fun e w' => e = .returned (.tuple #[.string ByteArray.empty, .bool true]) ∧ Below w.heap.size w w' := by
 have he2 : s.toList.isEmpty = false := by
  rw [Lib.toList_data]
  exact hn
 have HP := zI h
 have HL := zI (last_none h47)
 have hx : s.extract 0 0 = ByteArray.empty := by rw [Lib.extract_eq]; simp; rfl
 have hm : max (-1 : Int) 0 = 0 := by decide
 clear h hn h47
 go_enter Tryz.func57, Tryz.ntmps57
 go_wp2_with (first
  | (go_at_call 44; refine (path_is true _ HP.out (by omega) _).mono ?_; rintro e w2 ⟨rfl, hB2⟩)
  | (go_at_call 113; refine (last_any (-1) _ HL.out hl _).mono ?_; rintro e w3 ⟨rfl, rfl⟩)
  | (go_at_call 65; refine (cloneS_any ByteArray.empty (by simp) _).mono ?_; rintro e w4 ⟨rfl, hB4⟩))
 go_ret2
 exact ⟨rfl, hB2.trans (hB4.mono hB2.size)⟩
theorem parent_up (s : ByteArray) (hl : s.size ≤ 140737488351232) (h : zeX (bs s) = true) (a b : List UInt8) (hs : bs s = a ++ 47 :: b) (hb : 47 ∉ b) (w : World) :
 Calls Tryz.prog 57 #[.string s] w fun e w' => e = .returned (.tuple #[.string (ofL a), .bool true]) ∧ Below w.heap.size w w' := by
 have he2 : s.toList.isEmpty = false := by
  rw [Lib.toList_data]
  show (bs s).isEmpty = false
  rw [hs]
  simp
 have HP := zI h
 have HL := zI (last_some hs hb)
 have hsz : a.length + 1 ≤ s.size := by rw [← zgX, hs]; simp
 have hx : s.extract 0 a.length = ofL a := extract_head hs
 clear h hs hb
 go_enter Tryz.func57, Tryz.ntmps57
 go_wp2_with (first
  | (go_at_call 44; refine (path_is true _ HP.out (by omega) _).mono ?_; rintro e w2 ⟨rfl, hB2⟩)
  | (go_at_call 113; refine (last_any a.length _ HL.out hl _).mono ?_; rintro e w3 ⟨rfl, rfl⟩)
  | (go_at_call 65; refine (cloneS_any (ofL a) (by rw [ofL_size]; omega) _).mono ?_; rintro e w4 ⟨rfl, hB4⟩))
 go_ret2
 exact ⟨rfl, hB2.trans (hB4.mono hB2.size)⟩
theorem name_is (v : Bool) (s : ByteArray) (hv : zaQ (bs s) = v) (w : World) :
 Calls Tryz.prog 45 #[.string s] w fun e w' => e = .returned (.bool v) ∧ w = w' := by
 rw [← hv]
 exact name_any s w
theorem split_yes (s : ByteArray) (hz : s.size ≤ 281474976710656) (p r : List UInt8) (hs : bs s = p ++ 64 :: r) (h64 : 64 ∉ p) (hp : zeX p = true) (hr : zaQ r = true) (w : World) :
 Calls Tryz.prog 109 #[.string s] w fun e w' => e = .returned (.tuple #[.string (ofL p), .string (ofL r), .int .i64 0]) ∧ Below w.heap.size w w' := by
 have hl : s.size = p.length + (r.length + 1) := by rw [← zgX, hs]; simp
 have hl1 : (ofL p).size ≤ 281474976710656 := by rw [ofL_size]; omega
 have hl2 : (ofL r).size ≤ 281474976710656 := by rw [ofL_size]; omega
 have HS := zI hs
 have HP : Hid (zeX (bs (ofL p)) = true) := by show zeX (bs (ofL p)) = true; rw [bs_ofL]; exact hp
 have HR : Hid (zaQ (bs (ofL r)) = true) := by show zaQ (bs (ofL r)) = true; rw [bs_ofL]; exact hr
 clear hs hp hr hl
 go_enter Tryz.func109, Tryz.ntmps109
 go_wp2_with fail
 refine (cut_some _ _ p r HS.out h64 (by omega) _).mono ?_
 rintro e w1 ⟨rfl, rfl⟩
 go_wp2_with fail
 refine (path_is true _ HP.out (by omega) _).mono ?_
 rintro e w2 ⟨rfl, hB2⟩
 go_wp2_with fail
 refine (name_is true _ HR.out _).mono ?_
 rintro e w3 ⟨rfl, rfl⟩
 go_wp2_with fail
 refine (cloneS_any _ hl1 _).mono ?_
 rintro e w4 ⟨rfl, hB4⟩
 go_wp2_with fail
 refine (cloneS_any _ hl2 _).mono ?_
 rintro e w5 ⟨rfl, hB5⟩
 go_wp2
 go_ret3
 have h2 := hB2.size
 have h4 := hB4.size
 exact ⟨rfl, (((Below.refl _ w).drew.trans hB2).trans (hB4.mono h2)).trans (hB5.mono (Nat.le_trans h2 h4))⟩
theorem split_path (s : ByteArray) (hz : s.size ≤ 281474976710656) (p r : List UInt8) (hs : bs s = p ++ 64 :: r) (h64 : 64 ∉ p) (hp : zeX p = false) (w : World) :
 Calls Tryz.prog 109 #[.string s] w fun e w' => e = .returned (.tuple #[.string ByteArray.empty, .string ByteArray.empty, .int .i64 31]) ∧ Below w.heap.size w w' := by
 have hl : s.size = p.length + (r.length + 1) := by rw [← zgX, hs]; simp
 have hl1 : (ofL p).size ≤ 281474976710656 := by rw [ofL_size]; omega
 have HS := zI hs
 have HP : Hid (zeX (bs (ofL p)) = false) := by show zeX (bs (ofL p)) = false; rw [bs_ofL]; exact hp
 clear hs hp hl
 go_enter Tryz.func109, Tryz.ntmps109
 go_wp2_with fail
 refine (cut_some _ _ p r HS.out h64 (by omega) _).mono ?_
 rintro e w1 ⟨rfl, rfl⟩
 go_wp2_with fail
 refine (path_is false _ HP.out (by omega) _).mono ?_
 rintro e w2 ⟨rfl, hB2⟩
 go_wp2
 go_ret3
 exact ⟨rfl, (Below.refl _ w).drew.trans hB2⟩
theorem split_name (s : ByteArray) (hz : s.size ≤ 281474976710656) (p r : List UInt8) (hs : bs s = p ++ 64 :: r) (h64 : 64 ∉ p) (hp : zeX p = true) (hr : zaQ r = false) (w : World) :
 Calls Tryz.prog 109 #[.string s] w fun e w' => e = .returned (.tuple #[.string ByteArray.empty, .string ByteArray.empty, .int .i64 31]) ∧ Below w.heap.size w w' := by
 have hl : s.size = p.length + (r.length + 1) := by rw [← zgX, hs]; simp
 have hl1 : (ofL p).size ≤ 281474976710656 := by rw [ofL_size]; omega
 have HS := zI hs
 have HP : Hid (zeX (bs (ofL p)) = true) := by show zeX (bs (ofL p)) = true; rw [bs_ofL]; exact hp
 have HR : Hid (zaQ (bs (ofL r)) = false) := by show zaQ (bs (ofL r)) = false; rw [bs_ofL]; exact hr
 clear hs hp hr hl
 go_enter Tryz.func109, Tryz.ntmps109
 go_wp2_with fail
 refine (cut_some _ _ p r HS.out h64 (by omega) _).mono ?_
 rintro e w1 ⟨rfl, rfl⟩
 go_wp2_with fail
 refine (path_is true _ HP.out (by omega) _).mono ?_
 rintro e w2 ⟨rfl, hB2⟩
 go_wp2_with fail
 refine (name_is false _ HR.out _).mono ?_
 rintro e w3 ⟨rfl, rfl⟩
 go_wp2
 go_ret3
 exact ⟨rfl, (Below.refl _ w).drew.trans hB2⟩
theorem empty_of {s : ByteArray} (h : bs s = []) : s = ByteArray.empty := by
 rw [← ofL_bs s, h]
 rfl
theorem parent_any (s : ByteArray) (hl : s.size ≤ 140737488351232) (w : World) :
 Calls Tryz.prog 57 #[.string s] w fun e w' => e = .returned (parV s) ∧ Below w.heap.size w w' := by
 rcases h : zeX (bs s) with _ | _
 · have : parV s = .tuple #[.string ByteArray.empty, .bool false] := by unfold parV; rw [upP_off h]
   rw [this]
   exact parent_no s hl h w
 · by_cases he : s = ByteArray.empty
   · subst he
     have : parV ByteArray.empty = .tuple #[.string ByteArray.empty, .bool false] := by unfold parV; rw [(upP_none h).2 rfl]
     rw [this]
     exact parent_root w
   · have hu := upP_some h he
     have hv : parV s = .tuple #[.string (ofL (aboveL (bs s))), .bool true] := by unfold parV; rw [hu]
     rw [hv]
     by_cases hm : (47 : UInt8) ∈ bs s
     · obtain ⟨a, b, e, hb⟩ := last_slash hm
       rw [e, aboveL_up hb]
       exact parent_up s hl h a b e hb w
     · rw [aboveL_top hm]
       refine parent_top s hl h ?_ hm w
       rcases hb : bs s with _ | ⟨z, l⟩
       · exact absurd (empty_of hb) he
       · rfl
theorem idxOf_split {c : UInt8} : ∀ {l : List UInt8}, c ∈ l → ∃ a b, l = a ++ c :: b ∧ c ∉ a
 | x :: l, h => by
  by_cases hx : c = x
  · subst hx
    exact ⟨[], l, rfl, by simp⟩
  · rcases List.mem_cons.1 h with h | h
    · exact absurd h hx
    · obtain ⟨a, b, rfl, hb⟩ := idxOf_split h
      exact ⟨x :: a, b, rfl, by simp [hx, hb]⟩
theorem idxOf_at {c : UInt8} : ∀ {a : List UInt8} (b : List UInt8), c ∉ a → (a ++ c :: b).idxOf? c = some a.length
 | [], b, _ => by simp [List.idxOf?_cons]
 | x :: a, b, h => by
  have hx : (x == c) = false := beq_eq_false_iff_ne.2 fun e => h (by simp [e])
  rw [List.cons_append, List.idxOf?_cons, hx]
  rw [if_neg Bool.false_ne_true, idxOf_at b (fun e => h (by simp [e]))]
  rfl
theorem splitP_at {s : ByteArray} {p r : List UInt8} (hs : bs s = p ++ 64 :: r) (h64 : (64 : UInt8) ∉ p) : splitP s = if zeX p && zaQ r then some (ofL p, ofL r) else none := by
 unfold splitP
 rw [hs, idxOf_at r h64]
 simp only [List.take_left, show (p ++ 64 :: r).drop (p.length + 1) = r by
  rw [List.drop_append]
  simp]
theorem splitP_no {s : ByteArray} (h : (64 : UInt8) ∉ bs s) : splitP s = none := by
 unfold splitP
 rw [List.idxOf?_eq_none_iff.2 h]
theorem split_none (s : ByteArray) (h : (64 : UInt8) ∉ bs s) (w : World) :
 Calls Tryz.prog 109 #[.string s] w fun e w' => e = .returned (.tuple #[.string ByteArray.empty, .string ByteArray.empty, .int .i64 31]) ∧ Below w.heap.size w w' := by
 go_enter Tryz.func109, Tryz.ntmps109
 go_wp2_with fail
 refine (cut_none _ _ h _).mono ?_
 rintro e w1 ⟨rfl, rfl⟩
 go_wp2
 go_ret3
 exact ⟨rfl, by first | exact Below.refl _ _ | exact (Below.refl _ w).drew⟩
theorem split_any (s : ByteArray) (hl : s.size ≤ 140737488351232) (w : World) :
 Calls Tryz.prog 109 #[.string s] w fun e w' => e = .returned (splV s) ∧ Below w.heap.size w w' := by
 by_cases hm : (64 : UInt8) ∈ bs s
 · obtain ⟨p, r, hs, h64⟩ := idxOf_split hm
   have hv := splitP_at hs h64
   rcases hp : zeX p with _ | _
   · rw [hp, Bool.false_and, if_neg Bool.false_ne_true] at hv
     rw [show splV s = .tuple #[.string ByteArray.empty, .string ByteArray.empty, .int .i64 31] by unfold splV; rw [hv]]
     exact split_path s (by omega) p r hs h64 hp w
   · rcases hr : zaQ r with _ | _
     · rw [hp, hr, Bool.and_false, if_neg Bool.false_ne_true] at hv
       rw [show splV s = .tuple #[.string ByteArray.empty, .string ByteArray.empty, .int .i64 31] by unfold splV; rw [hv]]
       exact split_name s (by omega) p r hs h64 hp hr w
     · rw [hp, hr, Bool.and_true, if_pos rfl] at hv
       rw [show splV s = .tuple #[.string (ofL p), .string (ofL r), .int .i64 0] by unfold splV; rw [hv]]
       exact split_yes s (by omega) p r hs h64 hp hr w
 · have hv := splitP_no hm
   rw [show splV s = .tuple #[.string ByteArray.empty, .string ByteArray.empty, .int .i64 31] by unfold splV; rw [hv]]
   exact split_none s hm w
end Go.Proofs.YtimmcmjipmkebaaGreat
