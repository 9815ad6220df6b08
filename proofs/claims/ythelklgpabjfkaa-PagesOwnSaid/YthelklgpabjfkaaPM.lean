/-
  Pages and their sectors, as lists of octets. Plain words. No conditions.
-/
import Derived.Test.YthelklgpabjfkaaUM
namespace Go.Proofs.Ythelklgpabjfkaa
open Go.ChangeShapes Go.WideShapes Go.ChangeAt Go.RowKit

/-- A page's sector but for its sum. -/
def pgHead (b : List Int) (next : Int) : List Int := put b.length 2 ++ (put next 2 ++ (b ++ List.replicate (52 - b.length) 0))
/-- A page's sector. -/
def pgO (b : List Int) (next : Int) : List Int := pgHead b next ++ put (feedS zeroS (words (pgHead b next))).A 8
/-- What is told of a page. -/
def pgE (n : Nat) (next : Int) : Int := if 52 < n then 5 else if next < 0 ∨ 8192 ≤ next then 4 else 0
/-- A sector's content, and where it goes on. -/
def pgLen (zs : List Int) : Int := val (zs.take 2)
def pgNext (zs : List Int) : Int := val ((zs.drop 2).take 2)
def pgCont (zs : List Int) : List Int := (zs.drop 4).take (pgLen zs).toNat
/-- Is it a page's? -/
def pgIs (zs : List Int) : Bool := decide (zs.length = 64) && (decide (pgLen zs ≤ 52) && (decide (pgE (pgCont zs).length (pgNext zs) = 0) && decide (pgO (pgCont zs) (pgNext zs) = zs)))

theorem pgE_ok {n : Nat} {next : Int} : pgE n next = 0 ↔ n ≤ 52 ∧ 0 ≤ next ∧ next < 8192 := by
  unfold pgE
  split
  · omega
  · split <;> omega

theorem pgHead_length {b : List Int} (next : Int) (h : b.length ≤ 52) : (pgHead b next).length = 56 := by
  simp [pgHead, put_length]
  omega
theorem pgO_length {b : List Int} (next : Int) (h : b.length ≤ 52) : (pgO b next).length = 64 := by
  simp [pgO, pgHead_length next h, put_length]
theorem pgHead_octs {b : List Int} (next : Int) (h : Octs b) : Octs (pgHead b next) := by
  intro z hz
  simp only [pgHead, List.mem_append] at hz
  rcases hz with hz | hz | hz | hz
  · exact put_octs _ _ z hz
  · exact put_octs _ _ z hz
  · exact h z hz
  · rw [(List.mem_replicate.1 hz).2]; omega
theorem pgO_octs {b : List Int} (next : Int) (h : Octs b) : Octs (pgO b next) := fun z hz => by
  rcases List.mem_append.1 hz with hz | hz
  · exact pgHead_octs next h z hz
  · exact put_octs _ _ z hz

/-- A page comes back. -/
theorem pg_back {b : List Int} {next : Int} (h : pgE b.length next = 0) : pgIs (pgO b next) = true ∧ pgCont (pgO b next) = b ∧ pgNext (pgO b next) = next := by
  obtain ⟨h1, h2, h3⟩ := pgE_ok.1 h
  have l2 := put_length (b.length : Int) 2
  have l2' := put_length next 2
  have e1 : (pgO b next).take 2 = put b.length 2 := by simp [pgO, pgHead, l2]
  have e2 : ((pgO b next).drop 2).take 2 = put next 2 := by simp [pgO, pgHead, l2, l2']
  have hn : pgNext (pgO b next) = next := by unfold pgNext; rw [e2, val_put2 next (by omega) (by omega)]
  have hl : pgLen (pgO b next) = b.length := by unfold pgLen; rw [e1, val_put2 _ (by omega) (by omega)]
  have hc : pgCont (pgO b next) = b := by
    unfold pgCont
    rw [hl]
    have e3 : (pgO b next).drop 4 = b ++ (List.replicate (52 - b.length) 0 ++ put (feedS zeroS (words (pgHead b next))).A 8) := by
      have e : pgO b next = (put b.length 2 ++ put next 2) ++ (b ++ (List.replicate (52 - b.length) 0 ++ put (feedS zeroS (words (pgHead b next))).A 8)) := by
        unfold pgO
        conv => lhs; arg 1; unfold pgHead
        simp only [List.append_assoc]
      rw [e]
      exact List.drop_left' (by simp [l2, l2'])
    rw [e3, Int.toNat_natCast]
    exact List.take_left' rfl
  refine ⟨?_, hc, hn⟩
  unfold pgIs
  rw [hc, hn, hl, h, pgO_length next h1]
  simp
  omega

theorem pg_is {zs : List Int} (h : pgIs zs = true) : zs.length = 64 ∧ pgLen zs ≤ 52 ∧ pgE (pgCont zs).length (pgNext zs) = 0 ∧ pgO (pgCont zs) (pgNext zs) = zs := by
  unfold pgIs at h
  simpa [Bool.and_eq_true, decide_eq_true_eq] using h

/-- A page of which one octet is another one is none. -/
theorem pg_spoilt {b : List Int} {next : Int} (h : pgE b.length next = 0) (ho : Octs b) {zs : List Int} (hz : Octs zs) (k : Nat) (hk : k < 64) (hsame : ∀ j, j ≠ k → zs[j]? = (pgO b next)[j]?) (hne : zs[k]? ≠ (pgO b next)[k]?) : pgIs zs = false := by
  rw [← Bool.not_eq_true]
  intro hi
  obtain ⟨h1, h2, h3, h4⟩ := pg_is hi
  have hoc : Octs (pgCont zs) := fun z hz' => hz z (List.mem_of_mem_drop (List.mem_of_mem_take hz'))
  generalize pgCont zs = c at *
  generalize pgNext zs = n at *
  subst h4
  obtain ⟨a1, _, _⟩ := pgE_ok.1 h
  obtain ⟨b1, _, _⟩ := pgE_ok.1 h3
  have hd : ∀ (c : List Int) (n : Int), c.length ≤ 52 → ∀ j, j < 56 → (pgO c n)[j]? = (pgHead c n)[j]? := fun c n hc j hj => by unfold pgO; rw [List.getElem?_append_left (by rw [pgHead_length n hc]; exact hj)]
  by_cases h56 : k < 56
  · have ht : put (feedS zeroS (words (pgHead c n))).A 8 = put (feedS zeroS (words (pgHead b next))).A 8 := by
      apply List.ext_getElem?
      intro j
      have := hsame (56 + j) (by omega)
      unfold pgO at this
      rw [List.getElem?_append_right (by rw [pgHead_length n b1]; omega), List.getElem?_append_right (by rw [pgHead_length next a1]; omega), pgHead_length n b1, pgHead_length next a1] at this
      simpa using this
    have o1 := (feedS_ok zeroS zeroS_ok (words (pgHead c n))).1
    have o2 := (feedS_ok zeroS zeroS_ok (words (pgHead b next))).1
    have hv := congrArg val ht
    rw [val_put8, val_put8] at hv
    refine sum_other zeroS (a := pgHead c n) (b := pgHead b next) (by rw [pgHead_length n b1, pgHead_length next a1]) (pgHead_octs n hoc) (pgHead_octs next ho) k (by rw [pgHead_length n b1]; exact h56) (fun j hj => ?_) ?_ (by omega)
    · by_cases hj' : j < 56
      · rw [← hd c n b1 j hj', ← hd b next a1 j hj', hsame j hj]
      · rw [List.getElem?_eq_none (by rw [pgHead_length n b1]; omega), List.getElem?_eq_none (by rw [pgHead_length next a1]; omega)]
    · rw [← hd c n b1 k h56, ← hd b next a1 k h56]
      exact hne
  · have hh : pgHead c n = pgHead b next := by
      apply List.ext_getElem?
      intro j
      by_cases hj' : j < 56
      · rw [← hd c n b1 j hj', ← hd b next a1 j hj', hsame j (by omega)]
      · rw [List.getElem?_eq_none (by rw [pgHead_length n b1]; omega), List.getElem?_eq_none (by rw [pgHead_length next a1]; omega)]
    apply hne
    unfold pgO
    rw [hh]

end Go.Proofs.Ythelklgpabjfkaa
