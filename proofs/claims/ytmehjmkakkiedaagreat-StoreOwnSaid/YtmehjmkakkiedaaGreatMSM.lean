/-
  Lists of sectors: which may be used, which are free, rising lists. Plain words. No conditions.
-/
namespace Go.Proofs.YtmehjmkakkiedaaGreat
set_option maxRecDepth 100000

/-- Rising, each once. -/
def Rise (l : List Int) : Prop := l.Pairwise (· < ·)

theorem Rise.eq : ∀ {l m : List Int}, Rise l → Rise m → (∀ x, x ∈ l ↔ x ∈ m) → l = m
  | [], [], _, _, _ => rfl
  | [], y :: m, _, _, h => by have := (h y).2 (by simp); simp at this
  | x :: l, [], _, _, h => by have := (h x).1 (by simp); simp at this
  | x :: l, y :: m, hl, hm, h => by
    have hl' := List.pairwise_cons.1 hl
    have hm' := List.pairwise_cons.1 hm
    have hxy : x = y := by
      have h1 := (h x).1 (by simp)
      have h2 := (h y).2 (by simp)
      rcases List.mem_cons.1 h1 with h1 | h1
      · exact h1
      · rcases List.mem_cons.1 h2 with h2 | h2
        · exact h2.symm
        · have := hm'.1 x h1
          have := hl'.1 y h2
          omega
    subst hxy
    congr 1
    refine Rise.eq hl'.2 hm'.2 fun z => ⟨fun hz => ?_, fun hz => ?_⟩
    · have := hl'.1 z hz
      rcases List.mem_cons.1 ((h z).1 (by simp [hz])) with h1 | h1
      · omega
      · exact h1
    · have := hm'.1 z hz
      rcases List.mem_cons.1 ((h z).2 (by simp [hz])) with h1 | h1
      · omega
      · exact h1

theorem Rise.take {l : List Int} (h : Rise l) (n : Nat) : Rise (l.take n) := List.Pairwise.sublist (List.take_sublist _ _) h

/-- A list that is sorted and bears nothing twice. -/
theorem rise_of_sort {l : List Int} (hn : l.Nodup) : Rise (l.mergeSort (fun x y => decide (x ≤ y))) := by
  have h1 : (l.mergeSort (fun x y => decide (x ≤ y))).Pairwise (fun a b => decide (a ≤ b) = true) :=
    List.pairwise_mergeSort (fun a b c h1 h2 => by simp at *; omega) (fun a b => by simp; omega) l
  have h2 : (l.mergeSort (fun x y => decide (x ≤ y))).Nodup := (List.mergeSort_perm l _).nodup_iff.2 hn
  refine List.Pairwise.imp₂ (S := fun a b => a ≠ b) (fun a b h1 h2 => ?_) h1 h2
  simp at h1
  omega

/-- All are from 2 to below t. -/
def ins (t : Int) (u : List Int) : Bool := u.all fun z => decide (2 ≤ z) && decide (z < t)

/-- A number of sectors that may be. -/
def totS (t : Int) : Bool := decide (2 ≤ t) && decide (t ≤ 8192)

/-- What is told of sectors in use. -/
def chk (t : Int) (u : List Int) : Int := if totS t && ins t u then (if u.Nodup then 0 else 6) else 4

theorem chk_4 {t : Int} {u : List Int} (h : (totS t && ins t u) = false) : chk t u = 4 := by simp [chk, h]
theorem chk_0 {t : Int} {u : List Int} (h : (totS t && ins t u) = true) (hn : u.Nodup) : chk t u = 0 := by simp [chk, h, hn]
theorem chk_6 {t : Int} {u : List Int} (h : (totS t && ins t u) = true) (hn : ¬ u.Nodup) : chk t u = 6 := by simp [chk, h, hn]

theorem tot_iff {t : Int} : totS t = true ↔ 2 ≤ t ∧ t ≤ 8192 := by simp [totS]
theorem ins_iff {t : Int} {u : List Int} : ins t u = true ↔ ∀ z ∈ u, 2 ≤ z ∧ z < t := by simp [ins, List.all_eq_true]

theorem chk_ok {t : Int} {u : List Int} : chk t u = 0 ↔ (2 ≤ t ∧ t ≤ 8192) ∧ (∀ z ∈ u, 2 ≤ z ∧ z < t) ∧ u.Nodup := by
  unfold chk
  rw [← tot_iff, ← ins_iff]
  cases totS t <;> cases ins t u <;> by_cases hn : u.Nodup <;> simp [hn]

/-- Those from 2 to below t. -/
def upto (t : Int) : List Int := (List.range (t - 2).toNat).map fun (i : Nat) => (i : Int) + 2

/-- Those that are not in use. -/
def freeL (t : Int) (u : List Int) : List Int := (upto t).filter fun z => !u.contains z

theorem mem_upto {t z : Int} : z ∈ upto t ↔ 2 ≤ z ∧ z < t := by
  unfold upto
  simp only [List.mem_map, List.mem_range]
  constructor
  · rintro ⟨i, hi, rfl⟩; omega
  · rintro ⟨h1, h2⟩; exact ⟨(z - 2).toNat, by omega, by omega⟩

theorem mem_free {t z : Int} {u : List Int} : z ∈ freeL t u ↔ (2 ≤ z ∧ z < t) ∧ z ∉ u := by
  simp [freeL, List.mem_filter, mem_upto]

theorem rise_upto (t : Int) : Rise (upto t) := by
  unfold upto Rise
  rw [List.pairwise_map]
  exact List.pairwise_lt_range.imp fun h => by omega

theorem rise_free (t : Int) (u : List Int) : Rise (freeL t u) := (rise_upto t).sublist List.filter_sublist

theorem length_upto (t : Int) : (upto t).length = (t - 2).toNat := by simp [upto]
theorem length_free_le (t : Int) (u : List Int) : (freeL t u).length ≤ (t - 2).toNat := by
  rw [← length_upto]; exact List.length_filter_le _ _

theorem Rise.nodup {l : List Int} (h : Rise l) : l.Nodup := h.imp fun h => by omega

/-- As many are free as there are others. -/
theorem length_filter_two {α : Type} (p : α → Bool) : ∀ l : List α, (l.filter p).length + (l.filter (fun x => !p x)).length = l.length
  | [] => rfl
  | x :: l => by
    have := length_filter_two p l
    by_cases h : p x = true
    · simp [h]; omega
    · simp [h]; omega

theorem nodup_perm : ∀ {l m : List Int}, l.Nodup → m.Nodup → (∀ x, x ∈ l ↔ x ∈ m) → l.length = m.length := fun {l m} hl hm h => by
  have h1 := rise_of_sort hl
  have h2 := rise_of_sort hm
  have e : l.mergeSort (fun x y => decide (x ≤ y)) = m.mergeSort (fun x y => decide (x ≤ y)) :=
    h1.eq h2 fun x => by rw [List.mem_mergeSort, List.mem_mergeSort]; exact h x
  have := congrArg List.length e
  simpa using this

theorem length_free {t : Int} {u : List Int} (h : ∀ z ∈ u, 2 ≤ z ∧ z < t) (hn : u.Nodup) : (freeL t u).length + u.length = (t - 2).toNat := by
  have h1 := length_filter_two (fun z => !u.contains z) (upto t)
  rw [length_upto] at h1
  have h2 : ((upto t).filter (fun z => !(!u.contains z))).length = u.length := by
    refine nodup_perm ((rise_upto t).nodup.sublist List.filter_sublist) hn fun x => ?_
    simp [List.mem_filter, mem_upto]
    exact fun hx => h x hx
  unfold freeL
  omega

/-- What was taken is used then. -/
theorem nodup_taken {t : Int} {u : List Int} (hn : u.Nodup) (n : Nat) : (u ++ (freeL t u).take n).Nodup := by
  rw [List.nodup_append]
  refine ⟨hn, ((rise_free t u).take n).nodup, fun a ha b hb e => ?_⟩
  subst e
  exact (mem_free.1 (List.mem_of_mem_take hb)).2 ha

theorem in_taken {t : Int} {u : List Int} (h : ∀ z ∈ u, 2 ≤ z ∧ z < t) (n : Nat) : ∀ z ∈ u ++ (freeL t u).take n, 2 ≤ z ∧ z < t := fun z hz => by
  rcases List.mem_append.1 hz with hz | hz
  · exact h z hz
  · exact (mem_free.1 (List.mem_of_mem_take hz)).1

/-- The first number that stands ahead already. -/
theorem nodup_snoc {l : List Int} {z : Int} : (l ++ [z]).Nodup ↔ l.Nodup ∧ z ∉ l := by
  rw [List.nodup_append]
  constructor
  · rintro ⟨h1, _, h3⟩; exact ⟨h1, fun h => h3 z h z (by simp) rfl⟩
  · rintro ⟨h1, h2⟩; exact ⟨h1, by simp, fun a ha b hb e => by simp at hb; subst hb; subst e; exact h2 ha⟩

theorem not_nodup_take {l : List Int} {k : Nat} (h : ¬ (l.take k).Nodup) : ¬ l.Nodup := fun hn => h (hn.sublist (List.take_sublist _ _))

/-- Each once. -/
def once : List Int → List Int
  | [] => []
  | x :: u => if u.contains x then once u else x :: once u

theorem mem_once : ∀ {u : List Int} {x : Int}, x ∈ once u ↔ x ∈ u
  | [], x => by simp [once]
  | y :: u, x => by
    unfold once
    split
    · rename_i h
      rw [mem_once, List.mem_cons]
      constructor
      · exact fun h => .inr h
      · rintro (rfl | h')
        · simpa using h
        · exact h'
    · rw [List.mem_cons, List.mem_cons, mem_once]
theorem nodup_once : ∀ u : List Int, (once u).Nodup
  | [] => by simp [once]
  | y :: u => by
    unfold once
    split
    · exact nodup_once u
    · rename_i h
      exact List.nodup_cons.2 ⟨fun h' => h (by simpa using mem_once.1 h'), nodup_once u⟩
theorem length_once_le : ∀ u : List Int, (once u).length ≤ u.length
  | [] => by simp [once]
  | y :: u => by
    have := length_once_le u
    unfold once
    split <;> simp <;> omega
theorem length_once_lt : ∀ {u : List Int}, ¬ u.Nodup → (once u).length < u.length
  | [], h => by simp at h
  | y :: u, h => by
    unfold once
    split
    · have := length_once_le u
      simp; omega
    · rename_i hc
      have := length_once_lt (u := u) (fun hn => h (List.nodup_cons.2 ⟨by simpa using hc, hn⟩))
      simp; omega

theorem length_keys {l u : List Int} (hl : l.Nodup) (h : ∀ x, x ∈ l ↔ x ∈ u) : l.length ≤ u.length ∧ (u.Nodup → l.length = u.length) ∧ (¬ u.Nodup → l.length < u.length) := by
  have e : l.length = (once u).length := nodup_perm hl (nodup_once u) fun x => by rw [h x, mem_once]
  refine ⟨e ▸ length_once_le u, fun hu => nodup_perm hl hu h, fun hu => e ▸ length_once_lt hu⟩

end Go.Proofs.YtmehjmkakkiedaaGreat
