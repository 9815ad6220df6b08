/-
  Names and paths as lists of octets: what is a name, a path, what stands above one, what is cut at an octet. Plain mathematics. No conditions.
-/
import Derived.Lib.Strings
import Derived.Lib.Bytealg
import Derived.Lib.LastIndexByte
namespace Go.Proofs.Ytnoidcelinaenaa
set_option maxRecDepth 100000

/-- A text's octets, and a text of octets. -/
def bs (s : ByteArray) : List UInt8 := s.data.toList
def ofL (l : List UInt8) : ByteArray := ⟨l.toArray⟩
theorem bs_ofL (l : List UInt8) : bs (ofL l) = l := by simp [bs, ofL]
theorem ofL_bs (s : ByteArray) : ofL (bs s) = s := Lib.mk_data s
theorem bs_length (s : ByteArray) : (bs s).length = s.size := (Lib.size_eq s).symm
theorem ofL_size (l : List UInt8) : (ofL l).size = l.length := by rw [← bs_length, bs_ofL]
theorem bs_inj {s t : ByteArray} (h : bs s = bs t) : s = t := by rw [← ofL_bs s, ← ofL_bs t, h]
theorem bs_at (s : ByteArray) (k : Nat) (h : k < s.size) : (bs s).drop k = s[k] :: (bs s).drop (k + 1) := by
  rw [List.drop_eq_getElem_cons (by rw [bs_length]; exact h)]
  rfl

/-- An octet of a name. -/
def okc (c : UInt8) : Bool := 97 ≤ c && c ≤ 122 || 48 ≤ c && c ≤ 57 || c == 45 || c == 95
/-- A name. -/
def isName (l : List UInt8) : Bool := decide (1 ≤ l.length) && decide (l.length ≤ 16) && l.all okc
/-- What is ahead of the first c, what is behind it, and is there one? -/
def cut1 (c : UInt8) : List UInt8 → List UInt8 × List UInt8 × Bool
  | [] => ([], [], false)
  | b :: l => if b == c then ([], l, true) else (b :: (cut1 c l).1, (cut1 c l).2.1, (cut1 c l).2.2)
/-- One to n names. -/
def pathB : Nat → List UInt8 → Bool
  | 0, _ => false
  | n + 1, l => isName (cut1 47 l).1 && (!(cut1 47 l).2.2 || pathB n (cut1 47 l).2.1)
/-- A path. -/
def isPath (l : List UInt8) : Bool := l.isEmpty || pathB 4 l
/-- A letter made small. -/
def low (c : UInt8) : UInt8 := if 65 ≤ c && c ≤ 90 then c + 32 else c
/-- With small letters, without one / at the end. -/
def canonL (l : List UInt8) : List UInt8 := (Lib.trimSuffix l [47]).map low
/-- Does p stand under f? -/
def underL (p f : List UInt8) : Bool := isPath p && isPath f && (f.isEmpty || p == f || (f ++ [47]).isPrefixOf p)

theorem cut1_not {c : UInt8} : ∀ {l : List UInt8}, c ∉ l → cut1 c l = (l, [], false)
  | [], _ => rfl
  | b :: l, h => by
    have h1 : c ∉ l := fun hm => h (List.mem_cons_of_mem _ hm)
    have h2 : (b == c) = false := by
      rw [beq_eq_false_iff_ne]
      rintro rfl
      exact h (by simp)
    simp only [cut1, h2, cut1_not h1]
    rfl

theorem cut1_at {c : UInt8} (r : List UInt8) : ∀ {p : List UInt8}, c ∉ p → cut1 c (p ++ c :: r) = (p, r, true)
  | [], _ => by simp [cut1]
  | b :: p, h => by
    have h1 : c ∉ p := fun hm => h (List.mem_cons_of_mem _ hm)
    have h2 : (b == c) = false := by
      rw [beq_eq_false_iff_ne]
      rintro rfl
      exact h (by simp)
    simp only [List.cons_append, cut1, h2, cut1_at r h1]
    rfl

theorem split_mem {c : UInt8} : ∀ {l : List UInt8}, c ∈ l → ∃ p r, l = p ++ c :: r ∧ c ∉ p
  | b :: l, h => by
    by_cases hb : b = c
    · subst hb
      exact ⟨[], l, rfl, by simp⟩
    · have hm : c ∈ l := by
        rcases List.mem_cons.1 h with h | h
        · exact absurd h.symm hb
        · exact h
      obtain ⟨p, r, rfl, hp⟩ := split_mem hm
      refine ⟨b :: p, r, rfl, ?_⟩
      simp only [List.mem_cons, not_or]
      exact ⟨fun h => hb h.symm, hp⟩

theorem index_not {c : UInt8} : ∀ {l : List UInt8}, c ∉ l → Lib.indexByte l c = -1
  | [], _ => rfl
  | b :: l, h => by
    have h1 : c ∉ l := fun hm => h (List.mem_cons_of_mem _ hm)
    have h2 : (b == c) = false := by
      rw [beq_eq_false_iff_ne]
      rintro rfl
      exact h (by simp)
    simp [Lib.indexByte, h2, index_not h1]

theorem index_at {c : UInt8} (r : List UInt8) : ∀ {p : List UInt8}, c ∉ p → Lib.indexByte (p ++ c :: r) c = p.length
  | [], _ => by simp [Lib.indexByte]
  | b :: p, h => by
    have h1 : c ∉ p := fun hm => h (List.mem_cons_of_mem _ hm)
    have h2 : (b == c) = false := by
      rw [beq_eq_false_iff_ne]
      rintro rfl
      exact h (by simp)
    have ih := index_at r h1
    have h3 : ((p.length : Int) == -1) = false := by
      rw [beq_eq_false_iff_ne]
      omega
    simp only [List.cons_append, Lib.indexByte, h2, ih, h3, List.length_cons]
    simp

theorem isName_ne {l : List UInt8} (h : isName l = true) : l ≠ [] := by
  rintro rfl
  simp [isName] at h

theorem isName_all {l : List UInt8} (h : isName l = true) : ∀ c ∈ l, okc c = true := by
  simp only [isName, Bool.and_eq_true, List.all_eq_true] at h
  exact h.2

set_option maxRecDepth 100000 in
theorem okc_facts {c : UInt8} (h : okc c = true) : c ≠ 47 ∧ c ≠ 64 ∧ low c = c := by
  revert h
  refine (by decide +kernel : ∀ c : Fin 256, okc ⟨⟨c⟩⟩ = true → (⟨⟨c⟩⟩ : UInt8) ≠ 47 ∧ (⟨⟨c⟩⟩ : UInt8) ≠ 64 ∧ low ⟨⟨c⟩⟩ = ⟨⟨c⟩⟩) c.toFin

theorem name_no {l : List UInt8} (h : isName l = true) : 47 ∉ l ∧ 64 ∉ l :=
  ⟨fun hm => (okc_facts (isName_all h _ hm)).1 rfl, fun hm => (okc_facts (isName_all h _ hm)).2.1 rfl⟩

/-- A path of at most n + 1 names is one name, or a name, a / and such a path of at most n. -/
theorem pathB_cases {n : Nat} {l : List UInt8} (h : pathB (n + 1) l = true) : (isName l = true ∧ 47 ∉ l) ∨ ∃ p r, l = p ++ 47 :: r ∧ isName p = true ∧ 47 ∉ p ∧ pathB n r = true := by
  by_cases hm : (47 : UInt8) ∈ l
  · obtain ⟨p, r, rfl, hp⟩ := split_mem hm
    simp only [pathB, cut1_at r hp, Bool.and_eq_true, Bool.not_true, Bool.false_or] at h
    exact .inr ⟨p, r, rfl, h.1, hp, h.2⟩
  · simp only [pathB, cut1_not hm, Bool.and_eq_true, Bool.not_false, Bool.true_or, and_true] at h
    exact .inl ⟨h, hm⟩

theorem pathB_one {n : Nat} {l : List UInt8} (h : isName l = true) : pathB (n + 1) l = true := by
  simp only [pathB, cut1_not (name_no h).1, h, Bool.not_false, Bool.true_or, Bool.and_true]

theorem pathB_more {n : Nat} {p r : List UInt8} (hp : isName p = true) (hr : pathB n r = true) : pathB (n + 1) (p ++ 47 :: r) = true := by
  simp only [pathB, cut1_at r (name_no hp).1, hp, hr, Bool.or_true, Bool.and_true]

theorem pathB_ne : ∀ {n : Nat} {l : List UInt8}, pathB n l = true → l ≠ []
  | 0, _, h => by simp [pathB] at h
  | n + 1, l, h => by
    rcases pathB_cases h with ⟨h, _⟩ | ⟨p, r, rfl, _⟩
    · exact isName_ne h
    · simp

theorem pathB_octets : ∀ {n : Nat} {l : List UInt8}, pathB n l = true → ∀ c ∈ l, okc c = true ∨ c = 47
  | 0, _, h => by simp [pathB] at h
  | n + 1, l, h => by
    intro c hc
    rcases pathB_cases h with ⟨h, _⟩ | ⟨p, r, rfl, hp, _, hr⟩
    · exact .inl (isName_all h c hc)
    · rcases List.mem_append.1 hc with h1 | h1
      · exact .inl (isName_all hp c h1)
      · rcases List.mem_cons.1 h1 with h2 | h2
        · exact .inr h2
        · exact pathB_octets hr c h2

theorem isPath_no64 {l : List UInt8} (h : isPath l = true) : 64 ∉ l := by
  intro hm
  rcases l with _ | ⟨b, l⟩
  · simp at hm
  · have hb : pathB 4 (b :: l) = true := by simpa [isPath] using h
    rcases pathB_octets hb _ hm with h1 | h1
    · exact (okc_facts h1).2.1 rfl
    · exact absurd h1 (by decide)

theorem isPath_low {l : List UInt8} (h : isPath l = true) : l.map low = l := by
  rcases l with _ | ⟨b, l⟩
  · rfl
  · have hb : pathB 4 (b :: l) = true := by simpa [isPath] using h
    rw [List.map_congr_left (g := id), List.map_id]
    intro c hc
    rcases pathB_octets hb c hc with h1 | rfl
    · exact (okc_facts h1).2.2
    · decide

/-- It ends with no /. -/
theorem pathB_last : ∀ {n : Nat} {l q : List UInt8}, pathB n l = true → l ≠ q ++ [47]
  | 0, _, _, h => by simp [pathB] at h
  | n + 1, l, q, h => by
    rintro rfl
    rcases pathB_cases h with ⟨_, h1⟩ | ⟨p, r, e, _, hp, hr⟩
    · exact h1 (by simp)
    · have hrne := pathB_ne hr
      obtain ⟨r', z, rfl⟩ : ∃ r' z, r = r' ++ [z] := ⟨r.dropLast, r.getLast hrne, (List.dropLast_concat_getLast hrne).symm⟩
      have e2 : q ++ [47] = (p ++ 47 :: r') ++ [z] := by rw [e]; simp
      have hz : (47 : UInt8) = z := by
        have := (List.append_inj' e2 rfl).2
        simpa using this
      subst hz
      exact pathB_last hr rfl

theorem canon_of_path {l : List UInt8} (h : isPath l = true) : canonL l = l := by
  have ht : Lib.trimSuffix l [47] = l := by
    unfold Lib.trimSuffix
    split
    · rename_i hs
      rcases l with _ | ⟨b, l⟩
      · rfl
      · have hb : pathB 4 (b :: l) = true := by simpa [isPath] using h
        obtain ⟨q, hq⟩ := List.isSuffixOf_iff_suffix.1 hs
        exact absurd hq.symm (pathB_last hb)
    · rfl
  rw [canonL, ht, isPath_low h]

/-- What stands ahead of the last / of a path is one. -/
theorem pathB_above : ∀ {n : Nat} {a b : List UInt8}, 47 ∉ b → pathB n (a ++ 47 :: b) = true → pathB n a = true
  | 0, _, _, _, h => by simp [pathB] at h
  | n + 1, a, b, hb, h => by
    rcases pathB_cases h with ⟨_, h1⟩ | ⟨p, r, e, hp, hp47, hr⟩
    · exact absurd (by simp) h1
    · rcases List.append_eq_append_iff.1 e with ⟨a', ha, hc⟩ | ⟨c', ha, hc⟩
      · -- p = a ++ a'
        rcases a' with _ | ⟨z, a'⟩
        · simp at ha
          subst ha
          exact pathB_one hp
        · simp only [List.cons_append, List.cons.injEq] at hc
          obtain ⟨rfl, _⟩ := hc
          exact absurd (by rw [ha]; simp) hp47
      · -- a = p ++ c'
        rcases c' with _ | ⟨z, c'⟩
        · simp at ha
          subst ha
          exact pathB_one hp
        · simp only [List.cons_append, List.cons.injEq] at hc
          obtain ⟨rfl, rfl⟩ := hc
          subst ha
          exact pathB_more hp (pathB_above hb hr)

end Go.Proofs.Ytnoidcelinaenaa
