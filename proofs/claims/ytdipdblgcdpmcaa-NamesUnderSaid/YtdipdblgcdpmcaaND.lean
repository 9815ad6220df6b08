/-
  Parent, Under, Split, Join, and the page's example: what they answer. Conditions: texts are at most as long as those that come in, or two of them and an octet.
-/
import Derived.Test.YtdipdblgcdpmcaaNC
namespace Go.Proofs.Ytdipdblgcdpmcaa
open Go.ChangeShapes Go.WideShapes Go.ChangeAt Go.RowKit

theorem split_last {c : UInt8} : ∀ {l : List UInt8}, c ∈ l → ∃ a b, l = a ++ c :: b ∧ c ∉ b
  | x :: l, h => by
    by_cases hm : c ∈ l
    · obtain ⟨a, b, rfl, hb⟩ := split_last hm
      exact ⟨x :: a, b, rfl, hb⟩
    · rcases List.mem_cons.1 h with rfl | h
      · exact ⟨[], l, rfl, hm⟩
      · exact absurd h hm

theorem at_bang (s : ByteArray) (j : Nat) (h : j < s.size) : s.data[j]! = (bs s)[j]'(by rw [bs_length]; exact h) := by
  rw [getElem!_pos s.data j h]
  rfl

theorem byte_ne {c d : UInt8} (h : c ≠ d) : (c.toNat : Int) ≠ (d.toNat : Int) := fun he => h (UInt8.toNat_inj.1 (by omega))

theorem last_none {s : ByteArray} (h : (47 : UInt8) ∉ bs s) : Lib.lastIndexByte s 47 = -1 := by
  rcases Lib.lastIdx_spec s 47 s.size with ⟨h1, _⟩ | ⟨i, hi, h1, h2, _⟩
  · exact h1
  · rw [at_bang s i hi] at h2
    exact absurd h2 (byte_ne (d := 47) (fun e => h (e ▸ List.getElem_mem _)))

theorem last_some {s : ByteArray} {a b : List UInt8} (hs : bs s = a ++ 47 :: b) (hb : 47 ∉ b) : Lib.lastIndexByte s 47 = a.length := by
  have hl : s.size = a.length + (b.length + 1) := by rw [← bs_length, hs]; simp
  have hat : ∀ j (hj : j < s.size), (bs s)[j]'(by rw [bs_length]; exact hj) = (a ++ 47 :: b)[j]'(by simp; omega) := fun j hj => by simp only [hs]
  rcases Lib.lastIdx_spec s 47 s.size with ⟨_, h1⟩ | ⟨i, hi, h1, h2, h3⟩
  · have := h1 a.length (by omega)
    rw [at_bang s a.length (by omega), hat a.length (by omega)] at this
    simp at this
  · have : i = a.length := by
      rcases Nat.lt_trichotomy i a.length with h | h | h
      · have := h3 a.length h (by omega)
        rw [at_bang s a.length (by omega), hat a.length (by omega)] at this
        simp at this
      · exact h
      · rw [at_bang s i hi, hat i hi, List.getElem_append_right (by omega)] at h2
        obtain ⟨j, hj⟩ : ∃ j, i - a.length = j + 1 := ⟨i - a.length - 1, by omega⟩
        simp only [hj, List.getElem_cons_succ] at h2
        exact absurd h2 (byte_ne (d := 47) (fun e => hb (e ▸ List.getElem_mem _)))
    show Lib.lastIdx s 47 s.size = _
    rw [h1, this]

theorem last_any (z : Int) (s : ByteArray) (hz : Lib.lastIndexByte s 47 = z) (hs : s.size ≤ 140737488351232) (w : World) :
    Calls Try.prog 14 #[.string s, .string ⟨#[47]⟩] w fun e w' => e = .returned (.int .i64 z) ∧ w = w' :=
  (Try.strings_LastIndex_one s ⟨#[47]⟩ rfl (by omega) w).mono fun _ _ ⟨he, hw⟩ => ⟨by rw [he, ← hz]; rfl, hw.symm⟩

theorem clone_any (s : ByteArray) (hl : s.size ≤ 281474976710656) (w : World) :
    Calls Try.prog 15 #[.string s] w fun e w' => e = .returned (.string s) ∧ Below w.heap.size w w' := by
  go_enter Try.func15, Try.ntmps15
  go_wp2_with (refine (Try.stringslite_Clone _ _ hl).mono ?_; rintro e w' ⟨rfl, hB⟩)
  go_ret
  exact ⟨rfl, hB⟩

theorem parent_no (s : ByteArray) (hl : s.size ≤ 140737488351232) (h : isPath (bs s) = false) (w : World) :
    Calls Try.prog 6 #[.string s] w fun e w' => e = .returned (.tuple #[.string ByteArray.empty, .bool false]) ∧ Below w.heap.size w w' := by
  have he2 : s.toList.isEmpty = false := by
    rw [Lib.toList_data]
    show (bs s).isEmpty = false
    rcases hb : bs s with _ | ⟨z, l⟩
    · rw [hb] at h
      exact absurd h (by decide)
    · rfl
  have HP := Lib.hid h
  clear h
  go_enter Try.func6, Try.ntmps6
  go_wp2_with (go_at_call 7; refine (path_is false _ HP.out (by omega) _).mono ?_; rintro e w2 ⟨rfl, hB2⟩)
  go_ret2
  exact ⟨rfl, hB2⟩

theorem parent_root (w : World) :
    Calls Try.prog 6 #[.string ByteArray.empty] w fun e w' => e = .returned (.tuple #[.string ByteArray.empty, .bool false]) ∧ Below w.heap.size w w' := by
  go_enter Try.func6, Try.ntmps6
  go_wp2
  go_ret2
  exact ⟨rfl, Below.refl _ _⟩

theorem parent_top (s : ByteArray) (hl : s.size ≤ 140737488351232) (h : isPath (bs s) = true) (hn : (bs s).isEmpty = false) (h47 : 47 ∉ bs s) (w : World) :
    Calls Try.prog 6 #[.string s] w fun e w' => e = .returned (.tuple #[.string ByteArray.empty, .bool true]) ∧ Below w.heap.size w w' := by
  have he2 : s.toList.isEmpty = false := by
    rw [Lib.toList_data]
    exact hn
  have HP := Lib.hid h
  have HL := Lib.hid (last_none h47)
  have hx : s.extract 0 0 = ByteArray.empty := by rw [Lib.extract_eq]; simp; rfl
  have hm : max (-1 : Int) 0 = 0 := by decide
  clear h hn h47
  go_enter Try.func6, Try.ntmps6
  go_wp2_with (first
    | (go_at_call 7; refine (path_is true _ HP.out (by omega) _).mono ?_; rintro e w2 ⟨rfl, hB2⟩)
    | (go_at_call 14; refine (last_any (-1) _ HL.out hl _).mono ?_; rintro e w3 ⟨rfl, rfl⟩)
    | (go_at_call 15; refine (clone_any ByteArray.empty (by simp) _).mono ?_; rintro e w4 ⟨rfl, hB4⟩))
  go_ret2
  exact ⟨rfl, hB2.trans (hB4.mono hB2.size)⟩

theorem parent_up (s : ByteArray) (hl : s.size ≤ 140737488351232) (h : isPath (bs s) = true) (a b : List UInt8) (hs : bs s = a ++ 47 :: b) (hb : 47 ∉ b) (w : World) :
    Calls Try.prog 6 #[.string s] w fun e w' => e = .returned (.tuple #[.string (ofL a), .bool true]) ∧ Below w.heap.size w w' := by
  have he2 : s.toList.isEmpty = false := by
    rw [Lib.toList_data]
    show (bs s).isEmpty = false
    rw [hs]
    simp
  have HP := Lib.hid h
  have HL := Lib.hid (last_some hs hb)
  have hsz : a.length + 1 ≤ s.size := by rw [← bs_length, hs]; simp
  have hx : s.extract 0 a.length = ofL a := extract_head hs
  clear h hs hb
  go_enter Try.func6, Try.ntmps6
  go_wp2_with (first
    | (go_at_call 7; refine (path_is true _ HP.out (by omega) _).mono ?_; rintro e w2 ⟨rfl, hB2⟩)
    | (go_at_call 14; refine (last_any a.length _ HL.out hl _).mono ?_; rintro e w3 ⟨rfl, rfl⟩)
    | (go_at_call 15; refine (clone_any (ofL a) (by rw [ofL_size]; omega) _).mono ?_; rintro e w4 ⟨rfl, hB4⟩))
  go_ret2
  exact ⟨rfl, hB2.trans (hB4.mono hB2.size)⟩

theorem has_any (s q : ByteArray) (w : World) :
    Calls Try.prog 18 #[.string s, .string q] w fun e w' => e = .returned (.bool ((bs q).isPrefixOf (bs s))) ∧ w = w' :=
  (Try.strings_HasPrefix s q w).mono fun _ _ ⟨he, hw⟩ => ⟨he, hw.symm⟩

theorem bs_append (s t : ByteArray) : bs (s ++ t) = bs s ++ bs t := by
  simp [bs]

theorem u1 {p f : ByteArray} (h : f.toList = []) : true = ((bs f).isEmpty || bs p == bs f || (bs f ++ [47]).isPrefixOf (bs p)) := by
  rw [show bs f = [] from (Lib.toList_data f).symm.trans h]
  rfl
theorem u2 {p f : ByteArray} (h : p.toList = f.toList) : true = ((bs f).isEmpty || bs p == bs f || (bs f ++ [47]).isPrefixOf (bs p)) := by
  rw [show bs p = bs f from (Lib.toList_data p).symm.trans (h.trans (Lib.toList_data f))]
  simp
theorem u3 {p f : ByteArray} : (f.toList.isEmpty || p.toList == f.toList || (bs (f ++ ⟨#[47]⟩)).isPrefixOf (bs p)) = ((bs f).isEmpty || bs p == bs f || (bs f ++ [47]).isPrefixOf (bs p)) := by
  rw [Lib.toList_data, Lib.toList_data, bs_append]
  rfl

theorem under_any (p f : ByteArray) (hp : p.size ≤ 140737488351232) (hf : f.size ≤ 140737488351232) (w : World) :
    Calls Try.prog 8 #[.string p, .string f] w fun e w' => e = .returned (.bool (underL (bs p) (bs f))) ∧ Below w.heap.size w w' := by
  rcases h1 : isPath (bs p) with _ | _
  · have HU : Hid (underL (bs p) (bs f) = false) := by
      show underL (bs p) (bs f) = false
      simp [underL, h1]
    have HP := Lib.hid h1
    clear h1
    go_enter Try.func8, Try.ntmps8
    go_wp2_with (go_at_call 7; refine (path_is false _ HP.out (by omega) _).mono ?_; rintro e w2 ⟨rfl, hB2⟩)
    go_ret
    exact ⟨ret_bool HU.out.symm, hB2⟩
  · rcases h2 : isPath (bs f) with _ | _
    · have HU : Hid (underL (bs p) (bs f) = false) := by
        show underL (bs p) (bs f) = false
        simp [underL, h2]
      have HP := Lib.hid h1
      have HF := Lib.hid h2
      clear h1 h2
      go_enter Try.func8, Try.ntmps8
      go_wp2_with fail
      refine (path_is true _ HP.out (by omega) _).mono ?_
      rintro e w1 ⟨rfl, hB1⟩
      go_wp2_with fail
      refine (path_is false _ HF.out (by omega) _).mono ?_
      rintro e w2 ⟨rfl, hB2⟩
      go_wp2
      go_ret
      exact ⟨ret_bool HU.out.symm, hB1.trans (hB2.mono hB1.size)⟩
    · have HU : Hid (underL (bs p) (bs f) = ((bs f).isEmpty || bs p == bs f || (bs f ++ [47]).isPrefixOf (bs p))) := by
        show underL (bs p) (bs f) = _
        simp [underL, h1, h2]
      have HP := Lib.hid h1
      have HF := Lib.hid h2
      clear h1 h2
      go_enter Try.func8, Try.ntmps8
      go_wp2_with fail
      refine (path_is true _ HP.out (by omega) _).mono ?_
      rintro e w1 ⟨rfl, hB1⟩
      go_wp2_with fail
      refine (path_is true _ HF.out (by omega) _).mono ?_
      rintro e w2 ⟨rfl, hB2⟩
      go_wp2_with (go_at_call 18; refine (has_any _ _ _).mono ?_; rintro e w3 ⟨rfl, rfl⟩)
      all_goals
        go_ret
        exact ⟨ret_bool (by rw [HU.out]; first | exact u1 ‹_› | exact u2 ‹_› | exact u3), hB1.trans (hB2.mono hB1.size)⟩

/-- What Under and Name answer, decided. -/
theorem under_is (v : Bool) (p f : ByteArray) (hv : underL (bs p) (bs f) = v) (hp : p.size ≤ 140737488351232) (hf : f.size ≤ 140737488351232) (w : World) :
    Calls Try.prog 8 #[.string p, .string f] w fun e w' => e = .returned (.bool v) ∧ Below w.heap.size w w' := by
  rw [← hv]
  exact under_any p f hp hf w
theorem name_is (v : Bool) (s : ByteArray) (hv : isName (bs s) = v) (w : World) :
    Calls Try.prog 11 #[.string s] w fun e w' => e = .returned (.bool v) ∧ w = w' := by
  rw [← hv]
  exact name_any s w

theorem join_any (s n : ByteArray) (hs : s.size ≤ 140737488351232) (hn : n.size ≤ 140737488351232) (w : World) :
    Calls Try.prog 10 #[.string s, .string n] w fun e w' => e = .returned (.string (s ++ ⟨#[64]⟩ ++ n)) ∧ w = w' := by
  go_enter Try.func10, Try.ntmps10
  go_wp2
  go_ret
  exact ⟨rfl, rfl⟩

theorem split_yes (s : ByteArray) (hz : s.size ≤ 281474976710656) (p r : List UInt8) (hs : bs s = p ++ 64 :: r) (h64 : 64 ∉ p) (hp : isPath p = true) (hr : isName r = true) (w : World) :
    Calls Try.prog 9 #[.string s] w fun e w' => e = .returned (.tuple #[.string (ofL p), .string (ofL r), .int .i64 0]) ∧ Below w.heap.size w w' := by
  have hl : s.size = p.length + (r.length + 1) := by rw [← bs_length, hs]; simp
  have hl1 : (ofL p).size ≤ 281474976710656 := by rw [ofL_size]; omega
  have hl2 : (ofL r).size ≤ 281474976710656 := by rw [ofL_size]; omega
  have HS := Lib.hid hs
  have HP : Hid (isPath (bs (ofL p)) = true) := by show isPath (bs (ofL p)) = true; rw [bs_ofL]; exact hp
  have HR : Hid (isName (bs (ofL r)) = true) := by show isName (bs (ofL r)) = true; rw [bs_ofL]; exact hr
  clear hs hp hr hl
  go_enter Try.func9, Try.ntmps9
  go_wp2_with fail
  refine (cut_some _ _ p r HS.out h64 (by omega) _).mono ?_
  rintro e w1 ⟨rfl, rfl⟩
  go_wp2_with fail
  refine (path_is true _ HP.out (by omega) _).mono ?_
  rintro e w2 ⟨rfl, hB2⟩
  go_wp2_with fail
  refine (name_is true _ HR.out _).mono ?_
  rintro e w3 ⟨rfl, rfl⟩
  go_wp2_with fail
  refine (clone_any _ hl1 _).mono ?_
  rintro e w4 ⟨rfl, hB4⟩
  go_wp2_with fail
  refine (clone_any _ hl2 _).mono ?_
  rintro e w5 ⟨rfl, hB5⟩
  go_wp2
  go_ret3
  have h2 := hB2.size
  have h4 := hB4.size
  exact ⟨rfl, (((Below.refl _ w).drew.trans hB2).trans (hB4.mono h2)).trans (hB5.mono (Nat.le_trans h2 h4))⟩

theorem split_path (s : ByteArray) (hz : s.size ≤ 281474976710656) (p r : List UInt8) (hs : bs s = p ++ 64 :: r) (h64 : 64 ∉ p) (hp : isPath p = false) (w : World) :
    Calls Try.prog 9 #[.string s] w fun e w' => e = .returned (.tuple #[.string ByteArray.empty, .string ByteArray.empty, .int .i64 31]) ∧ Below w.heap.size w w' := by
  have hl : s.size = p.length + (r.length + 1) := by rw [← bs_length, hs]; simp
  have hl1 : (ofL p).size ≤ 281474976710656 := by rw [ofL_size]; omega
  have HS := Lib.hid hs
  have HP : Hid (isPath (bs (ofL p)) = false) := by show isPath (bs (ofL p)) = false; rw [bs_ofL]; exact hp
  clear hs hp hl
  go_enter Try.func9, Try.ntmps9
  go_wp2_with fail
  refine (cut_some _ _ p r HS.out h64 (by omega) _).mono ?_
  rintro e w1 ⟨rfl, rfl⟩
  go_wp2_with fail
  refine (path_is false _ HP.out (by omega) _).mono ?_
  rintro e w2 ⟨rfl, hB2⟩
  go_wp2
  go_ret3
  exact ⟨rfl, (Below.refl _ w).drew.trans hB2⟩

theorem split_name (s : ByteArray) (hz : s.size ≤ 281474976710656) (p r : List UInt8) (hs : bs s = p ++ 64 :: r) (h64 : 64 ∉ p) (hp : isPath p = true) (hr : isName r = false) (w : World) :
    Calls Try.prog 9 #[.string s] w fun e w' => e = .returned (.tuple #[.string ByteArray.empty, .string ByteArray.empty, .int .i64 31]) ∧ Below w.heap.size w w' := by
  have hl : s.size = p.length + (r.length + 1) := by rw [← bs_length, hs]; simp
  have hl1 : (ofL p).size ≤ 281474976710656 := by rw [ofL_size]; omega
  have HS := Lib.hid hs
  have HP : Hid (isPath (bs (ofL p)) = true) := by show isPath (bs (ofL p)) = true; rw [bs_ofL]; exact hp
  have HR : Hid (isName (bs (ofL r)) = false) := by show isName (bs (ofL r)) = false; rw [bs_ofL]; exact hr
  clear hs hp hr hl
  go_enter Try.func9, Try.ntmps9
  go_wp2_with fail
  refine (cut_some _ _ p r HS.out h64 (by omega) _).mono ?_
  rintro e w1 ⟨rfl, rfl⟩
  go_wp2_with fail
  refine (path_is true _ HP.out (by omega) _).mono ?_
  rintro e w2 ⟨rfl, hB2⟩
  go_wp2_with fail
  refine (name_is false _ HR.out _).mono ?_
  rintro e w3 ⟨rfl, rfl⟩
  go_wp2
  go_ret3
  exact ⟨rfl, (Below.refl _ w).drew.trans hB2⟩

/-- What comes of a path or not, and a name or not, that are joined. -/
theorem split_join_yes (s n : ByteArray) (hs : s.size ≤ 140737488351232) (hn : n.size ≤ 140737488351232) (hp : isPath (bs s) = true) (hr : isName (bs n) = true) (w : World) :
    Calls Try.prog 9 #[.string (s ++ ⟨#[64]⟩ ++ n)] w fun e w' => e = .returned (.tuple #[.string s, .string n, .int .i64 0]) ∧ Below w.heap.size w w' := by
  have hb : bs (s ++ ⟨#[64]⟩ ++ n) = bs s ++ 64 :: bs n := by
    rw [bs_append, bs_append, List.append_assoc]
    rfl
  have hz : (s ++ ⟨#[64]⟩ ++ n).size ≤ 281474976710656 := by
    rw [← bs_length, hb]
    simp [bs_length]
    omega
  have := split_yes _ hz (bs s) (bs n) hb (isPath_no64 hp) hp hr w
  rwa [ofL_bs, ofL_bs] at this

theorem split_join_no (s n : ByteArray) (hs : s.size ≤ 140737488351232) (hn : n.size ≤ 140737488351232) (h : (isPath (bs s) && isName (bs n)) = false) (w : World) :
    Calls Try.prog 9 #[.string (s ++ ⟨#[64]⟩ ++ n)] w fun e w' => e = .returned (.tuple #[.string ByteArray.empty, .string ByteArray.empty, .int .i64 31]) ∧ Below w.heap.size w w' := by
  have hb : bs (s ++ ⟨#[64]⟩ ++ n) = bs s ++ 64 :: bs n := by
    rw [bs_append, bs_append, List.append_assoc]
    rfl
  have hz : (s ++ ⟨#[64]⟩ ++ n).size ≤ 281474976710656 := by
    rw [← bs_length, hb]
    simp [bs_length]
    omega
  by_cases hm : (64 : UInt8) ∈ bs s
  · obtain ⟨p, r, hs2, hp⟩ := split_mem hm
    have hb2 : bs (s ++ ⟨#[64]⟩ ++ n) = p ++ 64 :: (r ++ 64 :: bs n) := by rw [hb, hs2]; simp
    have hr : isName (r ++ 64 :: bs n) = false := by
      rcases hx : isName (r ++ 64 :: bs n) with _ | _
      · rfl
      · exact absurd (by simp) (name_no hx).2
    rcases hx : isPath p with _ | _
    · exact split_path _ hz p _ hb2 hp hx w
    · exact split_name _ hz p _ hb2 hp hx hr w
  · rcases hx : isPath (bs s) with _ | _
    · exact split_path _ hz _ _ hb hm hx w
    · exact split_name _ hz _ _ hb hm hx (by simpa [hx] using h) w

theorem num_any (n : Int) (w : World) :
    Calls Try.prog 13 #[.int .i64 n] w fun e w' => e = .returned (.int .i64 n) ∧ w = w' := by
  go_enter Try.func13, Try.ntmps13
  go_wp2
  go_ret
  exact ⟨rfl, rfl⟩

theorem canon_page (w : World) :
    Calls Try.prog 12 #[.string ⟨#[65, 47, 98, 47]⟩] w fun e w' => e = .returned (.tuple #[.string ⟨#[97, 47, 98]⟩, .int .i64 0]) ∧ Below w.heap.size w w' :=
  canon_yes ⟨#[65, 47, 98, 47]⟩ (by decide) (by decide) w

theorem under_page (w : World) :
    Calls Try.prog 8 #[.string ⟨#[97, 47, 98]⟩, .string ⟨#[97]⟩] w fun e w' => e = .returned (.bool true) ∧ Below w.heap.size w w' :=
  under_is true ⟨#[97, 47, 98]⟩ ⟨#[97]⟩ (by decide) (by decide) (by decide) w

theorem alive_any (w : World) :
    Calls Try.prog 5 #[] w fun e w' => e = .returned (.bool true) ∧ Below w.heap.size w w' := by
  go_enter Try.func5, Try.ntmps5
  go_wp2_with (first
    | (go_at_call 12; refine (canon_page _).mono ?_; rintro e w1 ⟨rfl, hB1⟩)
    | (go_at_call 13; refine (num_any _ _).mono ?_; rintro e w2 ⟨rfl, rfl⟩)
    | (go_at_call 8; refine (under_page _).mono ?_; rintro e w3 ⟨rfl, hB3⟩))
  go_ret
  exact ⟨rfl, hB1.trans (hB3.mono hB1.size)⟩

end Go.Proofs.Ytdipdblgcdpmcaa
