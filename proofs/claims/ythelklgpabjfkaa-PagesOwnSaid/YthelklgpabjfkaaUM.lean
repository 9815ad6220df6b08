/-
  Uberblocks and their sectors, as lists of octets. Plain words. No conditions.
-/
import Derived.Test.YthelklgpabjfkaaRP
import Derived.Test.YthelklgpabjfkaaFW
namespace Go.Proofs.Ythelklgpabjfkaa
open Go.ChangeShapes Go.WideShapes Go.ChangeAt Go.RowKit

/-- An uberblock: its fields. -/
structure Ub where
  t : Int
  f : Int
  o : Int
deriving DecidableEq

/-- May it be? -/
def Ub.ok (u : Ub) : Bool := decide (1 ≤ u.t) && decide (u.t ≤ 1099511627776) && decide (0 ≤ u.f) && decide (u.f ≠ 1) && decide (u.f < 8192) && decide (0 ≤ u.o) && decide (u.o ≤ 1024) && (decide (u.f = 0) == decide (u.o = 0))
/-- Its sector's first half. -/
def Ub.head (u : Ub) : List Int := [103, 100, 110, 49] ++ (put u.t 8 ++ (put u.f 4 ++ (put u.o 4 ++ List.replicate 12 0)))
/-- Its sector. -/
def Ub.octs (u : Ub) : List Int := u.head ++ sumOcts (feedS zeroS (words u.head))
def ub0 : Ub := ⟨0, 0, 0⟩
/-- What a sector's fields read as. -/
def ubRead (zs : List Int) : Ub := ⟨(numO ((zs.drop 4).take 8)).1, val ((zs.drop 12).take 4), val ((zs.drop 16).take 4)⟩
/-- What a sector tells. -/
def ubOf (zs : List Int) : Ub × Int := if zs.length = 64 ∧ (numO ((zs.drop 4).take 8)).2 = 0 ∧ (ubRead zs).ok = true ∧ (ubRead zs).octs = zs then (ubRead zs, 0) else (ub0, 21)

theorem Ub.ok_iff {u : Ub} : u.ok = true ↔ 1 ≤ u.t ∧ u.t ≤ 1099511627776 ∧ 0 ≤ u.f ∧ u.f ≠ 1 ∧ u.f < 8192 ∧ 0 ≤ u.o ∧ u.o ≤ 1024 ∧ (u.f = 0 ↔ u.o = 0) := by
  unfold Ub.ok
  simp only [Bool.and_eq_true, decide_eq_true_eq, beq_iff_eq, and_assoc, decide_eq_decide]

theorem Ub.head_length (u : Ub) : u.head.length = 32 := by simp [Ub.head, put_length]
theorem Ub.octs_length (u : Ub) : u.octs.length = 64 := by simp [Ub.octs, Ub.head_length, sumOcts_length]
theorem Ub.head_octs (u : Ub) : Octs u.head := by
  intro z hz
  simp only [Ub.head, List.mem_append] at hz
  rcases hz with hz | hz | hz | hz | hz
  · simp at hz; omega
  · exact put_octs _ _ z hz
  · exact put_octs _ _ z hz
  · exact put_octs _ _ z hz
  · rw [(List.mem_replicate.1 hz).2]; omega
theorem Ub.octs_octs (u : Ub) : Octs u.octs := fun z hz => by
  rcases List.mem_append.1 hz with hz | hz
  · exact u.head_octs z hz
  · exact sumOcts_octs _ z hz

theorem val_p4 (n : Int) (h0 : 0 ≤ n) (h1 : n < 4294967296) : val (put n 4) = n := by
  simp only [put, val, List.range, List.range.loop, List.map_cons, List.map_nil, List.foldl_cons, List.foldl_nil]
  omega
theorem val_p8 (n : Int) (h0 : 0 ≤ n) (h1 : n ≤ 4611686018427387903) : val (put n 8) = n := by
  simp only [put, val, List.range, List.range.loop, List.map_cons, List.map_nil, List.foldl_cons, List.foldl_nil]
  omega

/-- The fields of a sector's first half. -/
theorem read_head {u : Ub} (h : u.ok = true) (ys : List Int) : ubRead (u.head ++ ys) = u ∧ (numO (((u.head ++ ys).drop 4).take 8)).2 = 0 := by
  obtain ⟨h1, h2, h3, h4, h5, h6, h7, h8⟩ := Ub.ok_iff.1 h
  have l8 := put_length u.t 8
  have l4 := put_length u.f 4
  have l4' := put_length u.o 4
  have e1 : ((u.head ++ ys).drop 4).take 8 = put u.t 8 := by
    simp [Ub.head, l8]
  have e2 : ((u.head ++ ys).drop 12).take 4 = put u.f 4 := by
    simp [Ub.head, l8, l4]
  have e3 : ((u.head ++ ys).drop 16).take 4 = put u.o 4 := by
    simp [Ub.head, List.drop_append, List.take_append, l8, l4, l4']
  have hn : numO (put u.t 8) = (u.t, 0) := by
    unfold numO
    rw [val_p8 u.t (by omega) (by omega), if_neg (by omega)]
  refine ⟨?_, by rw [e1, hn]⟩
  unfold ubRead
  rw [e1, e2, e3, hn, val_p4 u.f (by omega) (by omega), val_p4 u.o (by omega) (by omega)]

/-- An uberblock comes back. -/
theorem ubOf_octs {u : Ub} (h : u.ok = true) : ubOf u.octs = (u, 0) := by
  obtain ⟨h1, h2⟩ := read_head h (sumOcts (feedS zeroS (words u.head)))
  have h1' : ubRead u.octs = u := h1
  have h2' : (numO ((u.octs.drop 4).take 8)).2 = 0 := h2
  unfold ubOf
  rw [if_pos ⟨u.octs_length, h2', by rw [h1']; exact h, by rw [h1']⟩, h1']

theorem ubOf_ok {zs : List Int} (h : (ubOf zs).2 = 0) : (ubOf zs).1.ok = true ∧ (ubOf zs).1.octs = zs := by
  unfold ubOf at h ⊢
  split at h
  · rename_i hc
    rw [if_pos hc]
    exact ⟨hc.2.2.1, hc.2.2.2⟩
  · cases h
theorem ubOf_no {zs : List Int} (h : (ubOf zs).2 ≠ 0) : ubOf zs = (ub0, 21) := by
  unfold ubOf at h ⊢
  split at h
  · exact absurd rfl h
  · rename_i hc
    rw [if_neg hc]

theorem oct_is {zs : List Int} {i : Nat} (h : i < zs.length) : zs[i]? = some (oct zs i) := by
  unfold oct
  rw [List.getElem?_eq_getElem h]
  rfl

theorem octcell {zs : List Int} {k : Nat} (hk : k < zs.length) : (octCells zs)[k]? = some (.int .u8 (oct zs k)) := by
  unfold octCells
  rw [List.getElem?_map, oct_is hk]
  rfl
/-- Octets of which one is another one have another sum. -/
theorem sum_other (s : S4) {a b : List Int} (hl : a.length = b.length) (ha : Octs a) (hb : Octs b) (k : Nat) (hk : k < a.length) (hsame : ∀ j, j ≠ k → a[j]? = b[j]?) (hne : a[k]? ≠ b[k]?) :
    (feedS s (words a)).A ≠ (feedS s (words b)).A := by
  have hkw : k / 4 < (words a).length := by rw [words_length]; omega
  have ho : ∀ j, j ≠ k → oct a j = oct b j := fun j h => by unfold oct; rw [hsame j h]
  refine feedS_one s (words a) (words b) (k / 4) (by rw [words_length, words_length, hl]) hkw (fun j hj => ?_) (fun j h => words_bd ha j h) (fun j h => words_bd hb j h) ?_
  · by_cases h : j < (a.length + 3) / 4
    · rw [words_at a j h, words_at b j (by omega)]
      simp only [word, oct_drop]
      rw [ho _ (by omega), ho _ (by omega), ho _ (by omega), ho _ (by omega)]
    · rw [List.getElem?_eq_none (by rw [words_length]; omega), List.getElem?_eq_none (by rw [words_length]; omega)]
  · rw [words_at a (k / 4) (by omega), words_at b (k / 4) (by omega)]
    intro e
    injection e with e
    simp only [word, oct_drop, Nat.add_zero] at e
    have b0 := oct_bd ha (4 * (k / 4))
    have b1 := oct_bd ha (4 * (k / 4) + 1)
    have b2 := oct_bd ha (4 * (k / 4) + 2)
    have b3 := oct_bd ha (4 * (k / 4) + 3)
    have c0 := oct_bd hb (4 * (k / 4))
    have c1 := oct_bd hb (4 * (k / 4) + 1)
    have c2 := oct_bd hb (4 * (k / 4) + 2)
    have c3 := oct_bd hb (4 * (k / 4) + 3)
    have hoc : oct a k = oct b k := by
      have h : k = 4 * (k / 4) ∨ k = 4 * (k / 4) + 1 ∨ k = 4 * (k / 4) + 2 ∨ k = 4 * (k / 4) + 3 := by omega
      generalize 4 * (k / 4) = m at *
      rcases h with rfl | rfl | rfl | rfl <;> omega
    exact hne (by rw [oct_is hk, oct_is (hl ▸ hk), hoc])

theorem zeroS_ok : zeroS.ok := by simp [S4.ok, zeroS]
theorem sumOcts_A {s t : S4} (hs : s.ok) (ht : t.ok) (h : sumOcts s = sumOcts t) : s.A = t.A := by
  have h1 : (sumOcts s).take 8 = (sumOcts t).take 8 := by rw [h]
  have e : ∀ r : S4, (sumOcts r).take 8 = put r.A 8 := fun r => by simp [sumOcts, put_length]
  rw [e, e] at h1
  have h2 := congrArg val h1
  have v8 : ∀ n : Int, val (put n 8) = n % 18446744073709551616 := fun n => by
    simp only [put, val, List.range, List.range.loop, List.map_cons, List.map_nil, List.foldl_cons, List.foldl_nil]
    omega
  rw [v8, v8] at h2
  have bs := hs
  have bt := ht
  unfold S4.ok at bs bt
  omega

/-- A sector of which one octet is another one is none. -/
theorem ubOf_spoilt {u : Ub} {zs : List Int} (hl : zs.length = 64) (k : Nat) (hk : k < 64) (hsame : ∀ j, j ≠ k → zs[j]? = u.octs[j]?) (hne : zs[k]? ≠ u.octs[k]?) : ubOf zs = (ub0, 21) := by
  refine ubOf_no fun h => ?_
  obtain ⟨_, h2⟩ := ubOf_ok h
  generalize (ubOf zs).1 = v at h2
  subst h2
  have hd : ∀ w : Ub, ∀ j, j < 32 → w.octs[j]? = w.head[j]? := fun w j hj => by unfold Ub.octs; rw [List.getElem?_append_left (by rw [w.head_length]; exact hj)]
  by_cases h32 : k < 32
  · have ht : sumOcts (feedS zeroS (words v.head)) = sumOcts (feedS zeroS (words u.head)) := by
      apply List.ext_getElem?
      intro j
      have := hsame (32 + j) (by omega)
      unfold Ub.octs at this
      rw [List.getElem?_append_right (by rw [v.head_length]; omega), List.getElem?_append_right (by rw [u.head_length]; omega), v.head_length, u.head_length] at this
      simpa using this
    refine sum_other zeroS (a := v.head) (b := u.head) (by rw [v.head_length, u.head_length]) v.head_octs u.head_octs k (by rw [v.head_length]; exact h32) (fun j hj => ?_) ?_ (sumOcts_A (feedS_ok _ zeroS_ok _) (feedS_ok _ zeroS_ok _) ht)
    · by_cases h : j < 32
      · rw [← hd v j h, ← hd u j h, hsame j hj]
      · rw [List.getElem?_eq_none (by rw [v.head_length]; omega), List.getElem?_eq_none (by rw [u.head_length]; omega)]
    · rw [← hd v k h32, ← hd u k h32]
      exact hne
  · have hh : v.head = u.head := by
      apply List.ext_getElem?
      intro j
      by_cases h : j < 32
      · rw [← hd v j h, ← hd u j h, hsame j (by omega)]
      · rw [List.getElem?_eq_none (by rw [v.head_length]; omega), List.getElem?_eq_none (by rw [u.head_length]; omega)]
    apply hne
    unfold Ub.octs
    rw [hh]

end Go.Proofs.Ythelklgpabjfkaa
