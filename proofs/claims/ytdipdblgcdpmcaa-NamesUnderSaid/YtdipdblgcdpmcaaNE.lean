/-
  The laws NamesUnder and NamesBack answer true. Conditions: each text is at most as long as one that comes in.
-/
import Derived.Test.YtdipdblgcdpmcaaND
namespace Go.Proofs.Ytdipdblgcdpmcaa
open Go.ChangeShapes Go.WideShapes Go.ChangeAt Go.RowKit

theorem below_step {w w1 w2 : World} (h : Below w.heap.size w w1) (k : Below w1.heap.size w1 w2) : Below w.heap.size w w2 := h.trans (k.mono h.size)

theorem under_parts {p f : List UInt8} (h : underL p f = true) : isPath p = true ∧ isPath f = true ∧ (f = [] ∨ p = f ∨ f.length + 1 ≤ p.length) := by
  simp only [underL, Bool.and_eq_true, Bool.or_eq_true, List.isEmpty_iff, beq_iff_eq, List.isPrefixOf_iff_prefix] at h
  refine ⟨h.1.1, h.1.2, ?_⟩
  rcases h.2 with (h | h) | h
  · exact .inl h
  · exact .inr (.inl h)
  · have := h.length_le
    simp at this
    exact .inr (.inr this)
theorem under_one {p f : List UInt8} (h1 : underL p f = true) (h2 : underL f p = true) : p = f := by
  rcases (under_parts h1).2.2 with h | h | h
  · rcases (under_parts h2).2.2 with k | k | k
    · rw [h, k]
    · exact k.symm
    · rw [h] at k
      simp at k
  · exact h
  · rcases (under_parts h2).2.2 with k | k | k
    · rw [k] at h
      simp at h
    · exact k.symm
    · omega
theorem under_self {l : List UInt8} (h : isPath l = true) : underL l l = true := by simp [underL, h]
theorem under_root {l : List UInt8} (h : isPath l = true) : underL l [] = true := by
  have : isPath [] = true := rfl
  simp [underL, h, this]
theorem under_off {p f : List UInt8} (h : isPath p = false ∨ isPath f = false) : underL p f = false := by
  rcases h with h | h <;> simp [underL, h]
theorem under_short {p f : List UInt8} (h : p.length < f.length) : underL p f = false := by
  rcases hx : underL p f with _ | _
  · rfl
  · rcases (under_parts hx).2.2 with k | k | k
    · rw [k] at h
      simp at h
    · rw [k] at h
      omega
    · omega

/-- What Parent answers of a path that is not the root. -/
theorem parent_good (s : ByteArray) (hl : s.size ≤ 140737488351232) (h : isPath (bs s) = true) (hn : (bs s).isEmpty = false) :
    ∃ up : ByteArray, up.size ≤ 140737488351232 ∧ underL (bs s) (bs up) = true ∧ underL (bs up) (bs s) = false ∧
      ∀ w, Calls Try.prog 6 #[.string s] w fun e w' => e = .returned (.tuple #[.string up, .bool true]) ∧ Below w.heap.size w w' := by
  by_cases hm : (47 : UInt8) ∈ bs s
  · obtain ⟨a, b, hs, hb⟩ := split_last hm
    have hsz : a.length + 1 ≤ s.size := by rw [← bs_length, hs]; simp
    refine ⟨ofL a, by rw [ofL_size]; omega, ?_, ?_, parent_up s hl h a b hs hb⟩
    · rw [bs_ofL]
      have h4 : pathB 4 (a ++ 47 :: b) = true := by
        rw [hs] at h
        simpa [isPath] using h
      have ha : isPath a = true := by simp [isPath, pathB_above hb h4]
      have hp : (a ++ [47]).isPrefixOf (bs s) = true := by
        rw [List.isPrefixOf_iff_prefix, hs]
        exact ⟨b, by simp⟩
      simp [underL, h, ha, hp]
    · rw [bs_ofL]
      exact under_short (by rw [bs_length]; omega)
  · refine ⟨ByteArray.empty, by simp, ?_, ?_, parent_top s hl h hn hm⟩
    · exact under_root h
    · refine under_short ?_
      rcases hb : bs s with _ | ⟨z, l⟩
      · rw [hb] at hn
        cases hn
      · show 0 < _
        simp

set_option maxRecDepth 100000 in
set_option maxHeartbeats 400000 in
theorem under_walk_none (s t : ByteArray) (hs : s.size ≤ 140737488351232) (ht : t.size ≤ 140737488351232) (h : isPath (bs s) = false) (w : World) :
    Calls Try.prog 3 #[.string s, .string t] w fun e w' => e = .returned (.bool true) ∧ Below w.heap.size w w' := by
  have HP := Lib.hid h
  clear h
  go_enter Try.func3, Try.ntmps3
  go_wp2_with fail
  refine (alive_any _).mono ?_
  rintro e w1 ⟨rfl, hB1⟩
  go_wp2_with fail
  refine (parent_no s hs HP.out _).mono ?_
  rintro e w2 ⟨rfl, hB2⟩
  replace hB2 := below_step hB1 hB2
  go_wp2_with fail
  refine (path_is false s HP.out (by omega) _).mono ?_
  rintro e w3 ⟨rfl, hB3⟩
  replace hB3 := below_step hB2 hB3
  go_wp2_with fail
  refine (under_is false s t (under_off (.inl HP.out)) hs ht _).mono ?_
  rintro e w4 ⟨rfl, hB4⟩
  replace hB4 := below_step hB3 hB4
  go_wp2_with fail
  refine (under_is false t s (under_off (.inr HP.out)) ht hs _).mono ?_
  rintro e w5 ⟨rfl, hB5⟩
  replace hB5 := below_step hB4 hB5
  go_wp2
  go_ret
  exact ⟨rfl, hB5⟩

set_option maxRecDepth 100000 in
set_option maxHeartbeats 1000000 in
theorem under_walk_root (s t : ByteArray) (hs : s.size ≤ 140737488351232) (ht : t.size ≤ 140737488351232) (h : s = ByteArray.empty) (w : World) :
    Calls Try.prog 3 #[.string s, .string t] w fun e w' => e = .returned (.bool true) ∧ Below w.heap.size w w' := by
  have HP : Hid (isPath (bs s) = true) := by rw [h]; exact rfl
  have HE := Lib.hid h
  have he : s.toList = [] := by rw [h, Lib.toList_data]; rfl
  have he2 : s.toList.isEmpty = true := by rw [he]; rfl
  have h0 : ∀ W, Calls Try.prog 6 #[.string s] W fun e w' => e = .returned (.tuple #[.string ByteArray.empty, .bool false]) ∧ Below W.heap.size W w' := fun W => by rw [h]; exact parent_root W
  have H0 := Lib.hid h0
  clear h h0
  have hcase : Hid (underL (bs s) (bs t) = false) ∨ (Hid (underL (bs s) (bs t) = true) ∧ Hid (underL (bs t) (bs s) = false)) ∨ (Hid (underL (bs s) (bs t) = true) ∧ Hid (underL (bs t) (bs s) = true) ∧ s = t) := by
    rcases h1 : underL (bs s) (bs t) with _ | _
    · exact .inl (Lib.hid rfl)
    · rcases h2 : underL (bs t) (bs s) with _ | _
      · exact .inr (.inl ⟨Lib.hid rfl, Lib.hid rfl⟩)
      · exact .inr (.inr ⟨Lib.hid rfl, Lib.hid rfl, bs_inj (under_one h1 h2)⟩)
  go_enter Try.func3, Try.ntmps3
  go_wp2_with fail
  refine (alive_any _).mono ?_
  rintro e w1 ⟨rfl, hB1⟩
  go_wp2_with fail
  refine (H0.out _).mono ?_
  rintro e w2 ⟨rfl, hB2⟩
  replace hB2 := below_step hB1 hB2
  go_wp2_with fail
  refine (path_is true s HP.out (by omega) _).mono ?_
  rintro e w3 ⟨rfl, hB3⟩
  replace hB3 := below_step hB2 hB3
  go_wp2_with fail
  refine (under_is true s s (under_self HP.out) hs hs _).mono ?_
  rintro e w4 ⟨rfl, hB4⟩
  replace hB4 := below_step hB3 hB4
  go_wp2_with fail
  refine (under_is true s ByteArray.empty (under_root HP.out) hs (by simp) _).mono ?_
  rintro e w5 ⟨rfl, hB5⟩
  replace hB5 := below_step hB4 hB5
  rcases hcase with h1 | ⟨h1, h2⟩ | ⟨h1, h2, rfl⟩
  · go_wp2_with fail
    refine (under_is false s t h1.out hs ht _).mono ?_
    rintro e w6 ⟨rfl, hB6⟩
    replace hB6 := below_step hB5 hB6
    go_wp2
    go_ret
    exact ⟨rfl, hB6⟩
  · go_wp2_with fail
    refine (under_is true s t h1.out hs ht _).mono ?_
    rintro e w6 ⟨rfl, hB6⟩
    replace hB6 := below_step hB5 hB6
    go_wp2_with fail
    refine (under_is false t s h2.out ht hs _).mono ?_
    rintro e w7 ⟨rfl, hB7⟩
    replace hB7 := below_step hB6 hB7
    go_wp2
    go_ret
    exact ⟨rfl, hB7⟩
  · go_wp2_with fail
    refine (under_is true s s h1.out hs ht _).mono ?_
    rintro e w6 ⟨rfl, hB6⟩
    replace hB6 := below_step hB5 hB6
    go_wp2_with fail
    refine (under_is true s s h2.out ht hs _).mono ?_
    rintro e w7 ⟨rfl, hB7⟩
    replace hB7 := below_step hB6 hB7
    go_wp2
    go_ret
    exact ⟨rfl, hB7⟩

set_option maxRecDepth 100000 in
set_option maxHeartbeats 1000000 in
theorem under_walk_path (s t : ByteArray) (hs : s.size ≤ 140737488351232) (ht : t.size ≤ 140737488351232) (h : isPath (bs s) = true) (hn : (bs s).isEmpty = false) (w : World) :
    Calls Try.prog 3 #[.string s, .string t] w fun e w' => e = .returned (.bool true) ∧ Below w.heap.size w w' := by
  obtain ⟨up, hu, hu1, hu2, h0⟩ := parent_good s hs h hn
  have HP := Lib.hid h
  have he2 : s.toList.isEmpty = false := by rw [Lib.toList_data]; exact hn
  have he : ¬ s.toList = [] := by intro hx; rw [hx] at he2; cases he2
  have H0 := Lib.hid h0
  have H1 := Lib.hid hu1
  have H2 := Lib.hid hu2
  clear h h0 hu1 hu2 hn
  have hcase : Hid (underL (bs s) (bs t) = false) ∨ (Hid (underL (bs s) (bs t) = true) ∧ Hid (underL (bs t) (bs s) = false)) ∨ (Hid (underL (bs s) (bs t) = true) ∧ Hid (underL (bs t) (bs s) = true) ∧ s = t) := by
    rcases h1 : underL (bs s) (bs t) with _ | _
    · exact .inl (Lib.hid rfl)
    · rcases h2 : underL (bs t) (bs s) with _ | _
      · exact .inr (.inl ⟨Lib.hid rfl, Lib.hid rfl⟩)
      · exact .inr (.inr ⟨Lib.hid rfl, Lib.hid rfl, bs_inj (under_one h1 h2)⟩)
  go_enter Try.func3, Try.ntmps3
  go_wp2_with fail
  refine (alive_any _).mono ?_
  rintro e w1 ⟨rfl, hB1⟩
  go_wp2_with fail
  refine (H0.out _).mono ?_
  rintro e w2 ⟨rfl, hB2⟩
  replace hB2 := below_step hB1 hB2
  go_wp2_with fail
  refine (path_is true s HP.out (by omega) _).mono ?_
  rintro e w3 ⟨rfl, hB3⟩
  replace hB3 := below_step hB2 hB3
  go_wp2_with fail
  refine (under_is true s up H1.out hs hu _).mono ?_
  rintro e wa ⟨rfl, hBa⟩
  replace hBa := below_step hB3 hBa
  go_wp2_with fail
  refine (under_is false up s H2.out hu hs _).mono ?_
  rintro e wb ⟨rfl, hBb⟩
  replace hBb := below_step hBa hBb
  go_wp2_with fail
  refine (under_is true s s (under_self HP.out) hs hs _).mono ?_
  rintro e w4 ⟨rfl, hB4⟩
  replace hB4 := below_step hBb hB4
  go_wp2_with fail
  refine (under_is true s ByteArray.empty (under_root HP.out) hs (by simp) _).mono ?_
  rintro e w5 ⟨rfl, hB5⟩
  replace hB5 := below_step hB4 hB5
  rcases hcase with h1 | ⟨h1, h2⟩ | ⟨h1, h2, rfl⟩
  · go_wp2_with fail
    refine (under_is false s t h1.out hs ht _).mono ?_
    rintro e w6 ⟨rfl, hB6⟩
    replace hB6 := below_step hB5 hB6
    go_wp2
    go_ret
    exact ⟨rfl, hB6⟩
  · go_wp2_with fail
    refine (under_is true s t h1.out hs ht _).mono ?_
    rintro e w6 ⟨rfl, hB6⟩
    replace hB6 := below_step hB5 hB6
    go_wp2_with fail
    refine (under_is false t s h2.out ht hs _).mono ?_
    rintro e w7 ⟨rfl, hB7⟩
    replace hB7 := below_step hB6 hB7
    go_wp2
    go_ret
    exact ⟨rfl, hB7⟩
  · go_wp2_with fail
    refine (under_is true s s h1.out hs ht _).mono ?_
    rintro e w6 ⟨rfl, hB6⟩
    replace hB6 := below_step hB5 hB6
    go_wp2_with fail
    refine (under_is true s s h2.out ht hs _).mono ?_
    rintro e w7 ⟨rfl, hB7⟩
    replace hB7 := below_step hB6 hB7
    go_wp2
    go_ret
    exact ⟨rfl, hB7⟩

theorem under_walk (s t : ByteArray) (hs : s.size ≤ 140737488351232) (ht : t.size ≤ 140737488351232) (w : World) :
    Calls Try.prog 3 #[.string s, .string t] w fun e w' => e = .returned (.bool true) ∧ Below w.heap.size w w' := by
  rcases h : isPath (bs s) with _ | _
  · exact under_walk_none s t hs ht h w
  · rcases hn : (bs s).isEmpty with _ | _
    · exact under_walk_path s t hs ht h hn w
    · exact under_walk_root s t hs ht (bs_inj (t := ByteArray.empty) (List.isEmpty_iff.1 hn)) w

/-- What Canon answers of what it answered. -/
theorem canon_again (s : ByteArray) (hl : s.size ≤ 140737488351232) (hp : isPath (canonL (bs s)) = true) (w : World) :
    Calls Try.prog 12 #[.string (ofL (canonL (bs s)))] w fun e w' => e = .returned (.tuple #[.string (ofL (canonL (bs s))), .int .i64 0]) ∧ Below w.heap.size w w' := by
  have hz : (ofL (canonL (bs s))).size ≤ 140737488351232 := by
    rw [ofL_size]
    have := canonL_length (bs s)
    rw [bs_length] at this
    omega
  have hc := canon_of_path hp
  have := canon_yes (ofL (canonL (bs s))) hz (by rw [bs_ofL, hc]; exact hp) w
  rwa [bs_ofL, hc] at this
theorem canon_fits (s : ByteArray) (hl : s.size ≤ 140737488351232) : (ofL (canonL (bs s))).size ≤ 9223372036854775807 := by
  rw [ofL_size]
  have := canonL_length (bs s)
  rw [bs_length] at this
  omega
theorem canon_root (w : World) :
    Calls Try.prog 12 #[.string ByteArray.empty] w fun e w' => e = .returned (.tuple #[.string ByteArray.empty, .int .i64 0]) ∧ Below w.heap.size w w' :=
  canon_yes ByteArray.empty (by simp) (by decide) w

/-- What Split answers of what was joined, whether they are a path and a name or not. -/
def SplitOf (s n : ByteArray) (p m : ByteArray) (e : Int) (bp bn : Bool) : Prop :=
  isPath (bs s) = bp ∧ (bp = true → isName (bs n) = bn) ∧ ∀ w, Calls Try.prog 9 #[.string (s ++ ⟨#[64]⟩ ++ n)] w fun r w' => r = .returned (.tuple #[.string p, .string m, .int .i64 e]) ∧ Below w.heap.size w w'

set_option maxRecDepth 100000 in
set_option maxHeartbeats 1000000 in
theorem back_walk (s n : ByteArray) (hs : s.size ≤ 140737488351232) (hn : n.size ≤ 140737488351232) (w : World) :
    Calls Try.prog 4 #[.string s, .string n] w fun e w' => e = .returned (.bool true) ∧ Below w.heap.size w w' := by
  have hcase : SplitOf s n s n 0 true true ∨ SplitOf s n ByteArray.empty ByteArray.empty 31 true false ∨ SplitOf s n ByteArray.empty ByteArray.empty 31 false false := by
    rcases h1 : isPath (bs s) with _ | _
    · exact .inr (.inr ⟨h1, (fun h => by cases h), split_join_no s n hs hn (by rw [h1]; rfl)⟩)
    · rcases h2 : isName (bs n) with _ | _
      · exact .inr (.inl ⟨h1, fun _ => h2, split_join_no s n hs hn (by rw [h1, h2]; rfl)⟩)
      · exact .inl ⟨h1, fun _ => h2, split_join_yes s n hs hn h1 h2⟩
  have hcanon : Hid (isPath (canonL (bs s)) = true) ∨ Hid (isPath (canonL (bs s)) = false) := by
    rcases h1 : isPath (canonL (bs s)) with _ | _
    · exact .inr (Lib.hid rfl)
    · exact .inl (Lib.hid rfl)
  go_enter Try.func4, Try.ntmps4
  go_wp2_with fail
  refine (alive_any _).mono ?_
  rintro e w1 ⟨rfl, hB1⟩
  go_wp2_with fail
  refine (join_any s n hs hn _).mono ?_
  rintro e w2 ⟨rfl, rfl⟩
  rcases hcase with hc | hc | hc
  · go_wp2_with fail
    refine (hc.2.2 _).mono ?_
    rintro e w3 ⟨rfl, hB3⟩
    replace hB3 := below_step hB1 hB3
    go_wp2_with fail
    refine (path_is true s hc.1 (by omega) _).mono ?_
    rintro e w4 ⟨rfl, hB4⟩
    replace hB4 := below_step hB3 hB4
    go_wp2_with fail
    refine (name_is true n (hc.2.1 rfl) _).mono ?_
    rintro e w5 ⟨rfl, rfl⟩
    go_wp2_with fail
    clear hc
    rcases hcanon with hp | hp
    · refine (canon_yes s hs hp.out _).mono ?_
      rintro e w6 ⟨rfl, hB6⟩
      replace hB6 := below_step hB4 hB6
      go_wp2_with fail
      refine (canon_again s hs hp.out _).mono ?_
      rintro e w7 ⟨rfl, hB7⟩
      replace hB7 := below_step hB6 hB7
      go_wp2_with (first
        | (go_at_call 13; refine (num_any _ _).mono ?_; rintro e w8 ⟨rfl, rfl⟩)
        | (go_at_call 7; refine (path_is true (ofL (canonL (bs s))) (by rw [bs_ofL]; exact hp.out) (canon_fits s hs) _).mono ?_; rintro e w9 ⟨rfl, hB9⟩))
      go_ret
      exact ⟨rfl, below_step hB7 hB9⟩
    · refine (canon_no s hs hp.out _).mono ?_
      rintro e w6 ⟨rfl, hB6⟩
      replace hB6 := below_step hB4 hB6
      go_wp2_with fail
      refine (canon_root _).mono ?_
      rintro e w7 ⟨rfl, hB7⟩
      replace hB7 := below_step hB6 hB7
      go_wp2_with (go_at_call 13; refine (num_any _ _).mono ?_; rintro e w8 ⟨rfl, rfl⟩)
      go_ret
      exact ⟨rfl, hB7⟩
  · go_wp2_with fail
    refine (hc.2.2 _).mono ?_
    rintro e w3 ⟨rfl, hB3⟩
    replace hB3 := below_step hB1 hB3
    go_wp2_with fail
    refine (path_is true s hc.1 (by omega) _).mono ?_
    rintro e w4 ⟨rfl, hB4⟩
    replace hB4 := below_step hB3 hB4
    go_wp2_with fail
    refine (name_is false n (hc.2.1 rfl) _).mono ?_
    rintro e w5 ⟨rfl, rfl⟩
    go_wp2_with fail
    clear hc
    rcases hcanon with hp | hp
    · refine (canon_yes s hs hp.out _).mono ?_
      rintro e w6 ⟨rfl, hB6⟩
      replace hB6 := below_step hB4 hB6
      go_wp2_with fail
      refine (canon_again s hs hp.out _).mono ?_
      rintro e w7 ⟨rfl, hB7⟩
      replace hB7 := below_step hB6 hB7
      go_wp2_with (first
        | (go_at_call 13; refine (num_any _ _).mono ?_; rintro e w8 ⟨rfl, rfl⟩)
        | (go_at_call 7; refine (path_is true (ofL (canonL (bs s))) (by rw [bs_ofL]; exact hp.out) (canon_fits s hs) _).mono ?_; rintro e w9 ⟨rfl, hB9⟩))
      go_ret
      exact ⟨rfl, below_step hB7 hB9⟩
    · refine (canon_no s hs hp.out _).mono ?_
      rintro e w6 ⟨rfl, hB6⟩
      replace hB6 := below_step hB4 hB6
      go_wp2_with fail
      refine (canon_root _).mono ?_
      rintro e w7 ⟨rfl, hB7⟩
      replace hB7 := below_step hB6 hB7
      go_wp2_with (go_at_call 13; refine (num_any _ _).mono ?_; rintro e w8 ⟨rfl, rfl⟩)
      go_ret
      exact ⟨rfl, hB7⟩
  · go_wp2_with fail
    refine (hc.2.2 _).mono ?_
    rintro e w3 ⟨rfl, hB3⟩
    replace hB3 := below_step hB1 hB3
    go_wp2_with fail
    refine (path_is false s hc.1 (by omega) _).mono ?_
    rintro e w4 ⟨rfl, hB4⟩
    replace hB4 := below_step hB3 hB4
    go_wp2_with fail
    clear hc
    rcases hcanon with hp | hp
    · refine (canon_yes s hs hp.out _).mono ?_
      rintro e w6 ⟨rfl, hB6⟩
      replace hB6 := below_step hB4 hB6
      go_wp2_with fail
      refine (canon_again s hs hp.out _).mono ?_
      rintro e w7 ⟨rfl, hB7⟩
      replace hB7 := below_step hB6 hB7
      go_wp2_with (first
        | (go_at_call 13; refine (num_any _ _).mono ?_; rintro e w8 ⟨rfl, rfl⟩)
        | (go_at_call 7; refine (path_is true (ofL (canonL (bs s))) (by rw [bs_ofL]; exact hp.out) (canon_fits s hs) _).mono ?_; rintro e w9 ⟨rfl, hB9⟩))
      go_ret
      exact ⟨rfl, below_step hB7 hB9⟩
    · refine (canon_no s hs hp.out _).mono ?_
      rintro e w6 ⟨rfl, hB6⟩
      replace hB6 := below_step hB4 hB6
      go_wp2_with fail
      refine (canon_root _).mono ?_
      rintro e w7 ⟨rfl, hB7⟩
      replace hB7 := below_step hB6 hB7
      go_wp2_with (go_at_call 13; refine (num_any _ _).mono ?_; rintro e w8 ⟨rfl, rfl⟩)
      go_ret
      exact ⟨rfl, hB7⟩

end Go.Proofs.Ytdipdblgcdpmcaa
