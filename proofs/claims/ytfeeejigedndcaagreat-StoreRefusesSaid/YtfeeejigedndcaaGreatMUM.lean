/-
  Uberblocks and their sectors, as lists of octets. Plain words. No conditions.
-/
import Derived.Test.YtfeeejigedndcaaGreatMRP
import Derived.Test.YtfeeejigedndcaaGreatMFW
import Derived.IntWalk
import Derived.Lib.Hide
namespace Go.Proofs.YtfeeejigedndcaaGreat
open Go.ChangeShapes Go.WideShapes Go.ChangeAt Go.RowKit
set_option maxRecDepth 100000

/-- An uberblock: its fields. -/
structure Ub where
  t : Int
  f : Int
  o : Int
deriving DecidableEq

/-- May it be? -/
def Ub.ok (u : Ub) : Bool := decide (1 ≤ u.t) && decide (u.t ≤ 1099511627776) && decide (0 ≤ u.f) && decide (u.f ≠ 1) && decide (u.f < 8192) && decide (0 ≤ u.o) && decide (u.o ≤ 1024) && (decide (u.f = 0) == decide (u.o = 0))
/-- Its sector's first half. -/
def Ub.head (u : Ub) : List Int := [103, 100, 110, 49] ++ (put u.t 8 ++ (put u.f 4 ++ (put u.o 4 ++ List.replicate 12 0)))
/-- Its sector. -/
def Ub.octs (u : Ub) : List Int := u.head ++ sumOcts (feedS zeroS (words u.head))
def ub0 : Ub := ⟨0, 0, 0⟩
/-- What a sector's fields read as. -/
def ubRead (zs : List Int) : Ub := ⟨(numO ((zs.drop 4).take 8)).1, val ((zs.drop 12).take 4), val ((zs.drop 16).take 4)⟩
/-- What a sector tells. -/
def ubOf (zs : List Int) : Ub × Int := if zs.length = 64 ∧ (numO ((zs.drop 4).take 8)).2 = 0 ∧ (ubRead zs).ok = true ∧ (ubRead zs).octs = zs then (ubRead zs, 0) else (ub0, 21)

theorem Ub.ok_iff {u : Ub} : u.ok = true ↔ 1 ≤ u.t ∧ u.t ≤ 1099511627776 ∧ 0 ≤ u.f ∧ u.f ≠ 1 ∧ u.f < 8192 ∧ 0 ≤ u.o ∧ u.o ≤ 1024 ∧ (u.f = 0 ↔ u.o = 0) := by
  unfold Ub.ok
  simp only [Bool.and_eq_true, decide_eq_true_eq, beq_iff_eq, and_assoc, decide_eq_decide]

theorem Ub.head_length (u : Ub) : u.head.length = 32 := by simp [Ub.head, put_length]
theorem Ub.octs_length (u : Ub) : u.octs.length = 64 := by simp [Ub.octs, Ub.head_length, sumOcts_length]
theorem Ub.head_octs (u : Ub) : Octs u.head := by
  intro z hz
  simp only [Ub.head, List.mem_append] at hz
  rcases hz with hz | hz | hz | hz | hz
  · simp at hz; omega
  · exact put_octs _ _ z hz
  · exact put_octs _ _ z hz
  · exact put_octs _ _ z hz
  · rw [(List.mem_replicate.1 hz).2]; omega
theorem Ub.octs_octs (u : Ub) : Octs u.octs := fun z hz => by
  rcases List.mem_append.1 hz with hz | hz
  · exact u.head_octs z hz
  · exact sumOcts_octs _ z hz

theorem val_p4 (n : Int) (h0 : 0 ≤ n) (h1 : n < 4294967296) : val (put n 4) = n := by
  simp only [put, val, List.range, List.range.loop, List.map_cons, List.map_nil, List.foldl_cons, List.foldl_nil]
  omega
theorem val_p8 (n : Int) (h0 : 0 ≤ n) (h1 : n ≤ 4611686018427387903) : val (put n 8) = n := by
  simp only [put, val, List.range, List.range.loop, List.map_cons, List.map_nil, List.foldl_cons, List.foldl_nil]
  omega

/-- The fields of a sector's first half. -/
theorem read_head {u : Ub} (h : u.ok = true) (ys : List Int) : ubRead (u.head ++ ys) = u ∧ (numO (((u.head ++ ys).drop 4).take 8)).2 = 0 := by
  obtain ⟨h1, h2, h3, h4, h5, h6, h7, h8⟩ := Ub.ok_iff.1 h
  have l8 := put_length u.t 8
  have l4 := put_length u.f 4
  have l4' := put_length u.o 4
  have e1 : ((u.head ++ ys).drop 4).take 8 = put u.t 8 := by
    simp [Ub.head, l8]
  have e2 : ((u.head ++ ys).drop 12).take 4 = put u.f 4 := by
    simp [Ub.head, l8, l4]
  have e3 : ((u.head ++ ys).drop 16).take 4 = put u.o 4 := by
    simp [Ub.head, List.drop_append, List.take_append, l8, l4, l4']
  have hn : numO (put u.t 8) = (u.t, 0) := by
    unfold numO
    rw [val_p8 u.t (by omega) (by omega), if_neg (by omega)]
  refine ⟨?_, by rw [e1, hn]⟩
  unfold ubRead
  rw [e1, e2, e3, hn, val_p4 u.f (by omega) (by omega), val_p4 u.o (by omega) (by omega)]

/-- An uberblock comes back. -/
theorem ubOf_octs {u : Ub} (h : u.ok = true) : ubOf u.octs = (u, 0) := by
  obtain ⟨h1, h2⟩ := read_head h (sumOcts (feedS zeroS (words u.head)))
  have h1' : ubRead u.octs = u := h1
  have h2' : (numO ((u.octs.drop 4).take 8)).2 = 0 := h2
  unfold ubOf
  rw [if_pos ⟨u.octs_length, h2', by rw [h1']; exact h, by rw [h1']⟩, h1']

theorem ubOf_ok {zs : List Int} (h : (ubOf zs).2 = 0) : (ubOf zs).1.ok = true ∧ (ubOf zs).1.octs = zs := by
  unfold ubOf at h ⊢
  split at h
  · rename_i hc
    rw [if_pos hc]
    exact ⟨hc.2.2.1, hc.2.2.2⟩
  · cases h
theorem ubOf_no {zs : List Int} (h : (ubOf zs).2 ≠ 0) : ubOf zs = (ub0, 21) := by
  unfold ubOf at h ⊢
  split at h
  · exact absurd rfl h
  · rename_i hc
    rw [if_neg hc]

theorem oct_is {zs : List Int} {i : Nat} (h : i < zs.length) : zs[i]? = some (oct zs i) := by
  unfold oct
  rw [List.getElem?_eq_getElem h]
  rfl

theorem octcell {zs : List Int} {k : Nat} (hk : k < zs.length) : (octCells zs)[k]? = some (.int .u8 (oct zs k)) := by
  unfold octCells
  rw [List.getElem?_map, oct_is hk]
  rfl
/-- Octets of which one is another one have another sum. -/
theorem sum_other (s : S4) {a b : List Int} (hl : a.length = b.length) (ha : Octs a) (hb : Octs b) (k : Nat) (hk : k < a.length) (hsame : ∀ j, j ≠ k → a[j]? = b[j]?) (hne : a[k]? ≠ b[k]?) :
    (feedS s (words a)).A ≠ (feedS s (words b)).A := by
  have hkw : k / 4 < (words a).length := by rw [words_length]; omega
  have ho : ∀ j, j ≠ k → oct a j = oct b j := fun j h => by unfold oct; rw [hsame j h]
  refine feedS_one s (words a) (words b) (k / 4) (by rw [words_length, words_length, hl]) hkw (fun j hj => ?_) (fun j h => words_bd ha j h) (fun j h => words_bd hb j h) ?_
  · by_cases h : j < (a.length + 3) / 4
    · rw [words_at a j h, words_at b j (by omega)]
      simp only [word, oct_drop]
      rw [ho _ (by omega), ho _ (by omega), ho _ (by omega), ho _ (by omega)]
    · rw [List.getElem?_eq_none (by rw [words_length]; omega), List.getElem?_eq_none (by rw [words_length]; omega)]
  · rw [words_at a (k / 4) (by omega), words_at b (k / 4) (by omega)]
    intro e
    injection e with e
    simp only [word, oct_drop, Nat.add_zero] at e
    have b0 := oct_bd ha (4 * (k / 4))
    have b1 := oct_bd ha (4 * (k / 4) + 1)
    have b2 := oct_bd ha (4 * (k / 4) + 2)
    have b3 := oct_bd ha (4 * (k / 4) + 3)
    have c0 := oct_bd hb (4 * (k / 4))
    have c1 := oct_bd hb (4 * (k / 4) + 1)
    have c2 := oct_bd hb (4 * (k / 4) + 2)
    have c3 := oct_bd hb (4 * (k / 4) + 3)
    have hoc : oct a k = oct b k := by
      have h : k = 4 * (k / 4) ∨ k = 4 * (k / 4) + 1 ∨ k = 4 * (k / 4) + 2 ∨ k = 4 * (k / 4) + 3 := by omega
      generalize 4 * (k / 4) = m at *
      rcases h with rfl | rfl | rfl | rfl <;> omega
    exact hne (by rw [oct_is hk, oct_is (hl ▸ hk), hoc])

theorem zeroS_ok : zeroS.ok := by simp [S4.ok, zeroS]
theorem sumOcts_A {s t : S4} (hs : s.ok) (ht : t.ok) (h : sumOcts s = sumOcts t) : s.A = t.A := by
  have h1 : (sumOcts s).take 8 = (sumOcts t).take 8 := by rw [h]
  have e : ∀ r : S4, (sumOcts r).take 8 = put r.A 8 := fun r => by simp [sumOcts, put_length]
  rw [e, e] at h1
  have h2 := congrArg val h1
  have v8 : ∀ n : Int, val (put n 8) = n % 18446744073709551616 := fun n => by
    simp only [put, val, List.range, List.range.loop, List.map_cons, List.map_nil, List.foldl_cons, List.foldl_nil]
    omega
  rw [v8, v8] at h2
  have bs := hs
  have bt := ht
  unfold S4.ok at bs bt
  omega

/-- A sector of which one octet is another one is none. -/
theorem ubOf_spoilt {u : Ub} {zs : List Int} (hl : zs.length = 64) (k : Nat) (hk : k < 64) (hsame : ∀ j, j ≠ k → zs[j]? = u.octs[j]?) (hne : zs[k]? ≠ u.octs[k]?) : ubOf zs = (ub0, 21) := by
  refine ubOf_no fun h => ?_
  obtain ⟨_, h2⟩ := ubOf_ok h
  generalize (ubOf zs).1 = v at h2
  subst h2
  have hd : ∀ w : Ub, ∀ j, j < 32 → w.octs[j]? = w.head[j]? := fun w j hj => by unfold Ub.octs; rw [List.getElem?_append_left (by rw [w.head_length]; exact hj)]
  by_cases h32 : k < 32
  · have ht : sumOcts (feedS zeroS (words v.head)) = sumOcts (feedS zeroS (words u.head)) := by
      apply List.ext_getElem?
      intro j
      have := hsame (32 + j) (by omega)
      unfold Ub.octs at this
      rw [List.getElem?_append_right (by rw [v.head_length]; omega), List.getElem?_append_right (by rw [u.head_length]; omega), v.head_length, u.head_length] at this
      simpa using this
    refine sum_other zeroS (a := v.head) (b := u.head) (by rw [v.head_length, u.head_length]) v.head_octs u.head_octs k (by rw [v.head_length]; exact h32) (fun j hj => ?_) ?_ (sumOcts_A (feedS_ok _ zeroS_ok _) (feedS_ok _ zeroS_ok _) ht)
    · by_cases h : j < 32
      · rw [← hd v j h, ← hd u j h, hsame j hj]
      · rw [List.getElem?_eq_none (by rw [v.head_length]; omega), List.getElem?_eq_none (by rw [u.head_length]; omega)]
    · rw [← hd v k h32, ← hd u k h32]
      exact hne
  · have hh : v.head = u.head := by
      apply List.ext_getElem?
      intro j
      by_cases h : j < 32
      · rw [← hd v j h, ← hd u j h, hsame j (by omega)]
      · rw [List.getElem?_eq_none (by rw [v.head_length]; omega), List.getElem?_eq_none (by rw [u.head_length]; omega)]
    apply hne
    unfold Ub.octs
    rw [hh]

end Go.Proofs.YtfeeejigedndcaaGreat

namespace Go.Proofs.YtfeeejigedndcaaGreat
open Go.ChangeShapes Go.WideShapes Go.ChangeAt Go.RowKit
set_option maxRecDepth 100000

/-- A page's sector but for its sum. -/
def pgHead (b : List Int) (next : Int) : List Int := put b.length 2 ++ (put next 2 ++ (b ++ List.replicate (52 - b.length) 0))
/-- A page's sector. -/
def pgO (b : List Int) (next : Int) : List Int := pgHead b next ++ put (feedS zeroS (words (pgHead b next))).A 8
/-- What is told of a page. -/
def pgE (n : Nat) (next : Int) : Int := if 52 < n then 5 else if next < 0 ∨ 8192 ≤ next then 4 else 0
/-- A sector's content, and where it goes on. -/
def pgLen (zs : List Int) : Int := val (zs.take 2)
def pgNext (zs : List Int) : Int := val ((zs.drop 2).take 2)
def pgCont (zs : List Int) : List Int := (zs.drop 4).take (pgLen zs).toNat
/-- Is it a page's? -/
def pgIs (zs : List Int) : Bool := decide (zs.length = 64) && (decide (pgLen zs ≤ 52) && (decide (pgE (pgCont zs).length (pgNext zs) = 0) && decide (pgO (pgCont zs) (pgNext zs) = zs)))

theorem pgE_ok {n : Nat} {next : Int} : pgE n next = 0 ↔ n ≤ 52 ∧ 0 ≤ next ∧ next < 8192 := by
  unfold pgE
  split
  · omega
  · split <;> omega

theorem pgHead_length {b : List Int} (next : Int) (h : b.length ≤ 52) : (pgHead b next).length = 56 := by
  simp [pgHead, put_length]
  omega
theorem pgO_length {b : List Int} (next : Int) (h : b.length ≤ 52) : (pgO b next).length = 64 := by
  simp [pgO, pgHead_length next h, put_length]
theorem pgHead_octs {b : List Int} (next : Int) (h : Octs b) : Octs (pgHead b next) := by
  intro z hz
  simp only [pgHead, List.mem_append] at hz
  rcases hz with hz | hz | hz | hz
  · exact put_octs _ _ z hz
  · exact put_octs _ _ z hz
  · exact h z hz
  · rw [(List.mem_replicate.1 hz).2]; omega
theorem pgO_octs {b : List Int} (next : Int) (h : Octs b) : Octs (pgO b next) := fun z hz => by
  rcases List.mem_append.1 hz with hz | hz
  · exact pgHead_octs next h z hz
  · exact put_octs _ _ z hz

/-- A page comes back. -/
theorem pg_back {b : List Int} {next : Int} (h : pgE b.length next = 0) : pgIs (pgO b next) = true ∧ pgCont (pgO b next) = b ∧ pgNext (pgO b next) = next := by
  obtain ⟨h1, h2, h3⟩ := pgE_ok.1 h
  have l2 := put_length (b.length : Int) 2
  have l2' := put_length next 2
  have e1 : (pgO b next).take 2 = put b.length 2 := by simp [pgO, pgHead, l2]
  have e2 : ((pgO b next).drop 2).take 2 = put next 2 := by simp [pgO, pgHead, l2, l2']
  have hn : pgNext (pgO b next) = next := by unfold pgNext; rw [e2, val_put2 next (by omega) (by omega)]
  have hl : pgLen (pgO b next) = b.length := by unfold pgLen; rw [e1, val_put2 _ (by omega) (by omega)]
  have hc : pgCont (pgO b next) = b := by
    unfold pgCont
    rw [hl]
    have e3 : (pgO b next).drop 4 = b ++ (List.replicate (52 - b.length) 0 ++ put (feedS zeroS (words (pgHead b next))).A 8) := by
      have e : pgO b next = (put b.length 2 ++ put next 2) ++ (b ++ (List.replicate (52 - b.length) 0 ++ put (feedS zeroS (words (pgHead b next))).A 8)) := by
        unfold pgO
        conv => lhs; arg 1; unfold pgHead
        simp only [List.append_assoc]
      rw [e]
      exact List.drop_left' (by simp [l2, l2'])
    rw [e3, Int.toNat_natCast]
    exact List.take_left' rfl
  refine ⟨?_, hc, hn⟩
  unfold pgIs
  rw [hc, hn, hl, h, pgO_length next h1]
  simp
  omega

theorem pg_is {zs : List Int} (h : pgIs zs = true) : zs.length = 64 ∧ pgLen zs ≤ 52 ∧ pgE (pgCont zs).length (pgNext zs) = 0 ∧ pgO (pgCont zs) (pgNext zs) = zs := by
  unfold pgIs at h
  simpa [Bool.and_eq_true, decide_eq_true_eq] using h

/-- A page of which one octet is another one is none. -/
theorem pg_spoilt {b : List Int} {next : Int} (h : pgE b.length next = 0) (ho : Octs b) {zs : List Int} (hz : Octs zs) (k : Nat) (hk : k < 64) (hsame : ∀ j, j ≠ k → zs[j]? = (pgO b next)[j]?) (hne : zs[k]? ≠ (pgO b next)[k]?) : pgIs zs = false := by
  rw [← Bool.not_eq_true]
  intro hi
  obtain ⟨h1, h2, h3, h4⟩ := pg_is hi
  have hoc : Octs (pgCont zs) := fun z hz' => hz z (List.mem_of_mem_drop (List.mem_of_mem_take hz'))
  generalize pgCont zs = c at *
  generalize pgNext zs = n at *
  subst h4
  obtain ⟨a1, _, _⟩ := pgE_ok.1 h
  obtain ⟨b1, _, _⟩ := pgE_ok.1 h3
  have hd : ∀ (c : List Int) (n : Int), c.length ≤ 52 → ∀ j, j < 56 → (pgO c n)[j]? = (pgHead c n)[j]? := fun c n hc j hj => by unfold pgO; rw [List.getElem?_append_left (by rw [pgHead_length n hc]; exact hj)]
  by_cases h56 : k < 56
  · have ht : put (feedS zeroS (words (pgHead c n))).A 8 = put (feedS zeroS (words (pgHead b next))).A 8 := by
      apply List.ext_getElem?
      intro j
      have := hsame (56 + j) (by omega)
      unfold pgO at this
      rw [List.getElem?_append_right (by rw [pgHead_length n b1]; omega), List.getElem?_append_right (by rw [pgHead_length next a1]; omega), pgHead_length n b1, pgHead_length next a1] at this
      simpa using this
    have o1 := (feedS_ok zeroS zeroS_ok (words (pgHead c n))).1
    have o2 := (feedS_ok zeroS zeroS_ok (words (pgHead b next))).1
    have hv := congrArg val ht
    rw [val_put8, val_put8] at hv
    refine sum_other zeroS (a := pgHead c n) (b := pgHead b next) (by rw [pgHead_length n b1, pgHead_length next a1]) (pgHead_octs n hoc) (pgHead_octs next ho) k (by rw [pgHead_length n b1]; exact h56) (fun j hj => ?_) ?_ (by omega)
    · by_cases hj' : j < 56
      · rw [← hd c n b1 j hj', ← hd b next a1 j hj', hsame j hj]
      · rw [List.getElem?_eq_none (by rw [pgHead_length n b1]; omega), List.getElem?_eq_none (by rw [pgHead_length next a1]; omega)]
    · rw [← hd c n b1 k h56, ← hd b next a1 k h56]
      exact hne
  · have hh : pgHead c n = pgHead b next := by
      apply List.ext_getElem?
      intro j
      by_cases hj' : j < 56
      · rw [← hd c n b1 j hj', ← hd b next a1 j hj', hsame j (by omega)]
      · rw [List.getElem?_eq_none (by rw [pgHead_length n b1]; omega), List.getElem?_eq_none (by rw [pgHead_length next a1]; omega)]
    apply hne
    unfold pgO
    rw [hh]

end Go.Proofs.YtfeeejigedndcaaGreat

namespace Go.Proofs.YtfeeejigedndcaaGreat
open Go.ChangeShapes Go.WideShapes Go.ChangeAt Go.RowKit
set_option maxRecDepth 100000

/-- How many pages n octets need. -/
def cntN (n : Nat) : Nat := (n + 51) / 52
/-- Piece i. -/
def piece (zs : List Int) (i : Nat) : List Int := (zs.drop (52 * i)).take 52
/-- All of them. -/
def pieces (zs : List Int) : List (List Int) := (List.range (cntN zs.length)).map (piece zs)

theorem pieces_length (zs : List Int) : (pieces zs).length = cntN zs.length := by simp [pieces]
theorem pieces_at (zs : List Int) {i : Nat} (h : i < cntN zs.length) : (pieces zs)[i]? = some (piece zs i) := by
  simp [pieces, h]
theorem piece_length (zs : List Int) (i : Nat) : (piece zs i).length = min 52 (zs.length - 52 * i) := by simp [piece]
theorem piece_le (zs : List Int) (i : Nat) : (piece zs i).length ≤ 52 := by rw [piece_length]; omega
theorem piece_pos (zs : List Int) {i : Nat} (h : i < cntN zs.length) : 0 < (piece zs i).length := by
  rw [piece_length]
  unfold cntN at h
  omega
theorem piece_octs {zs : List Int} (h : Octs zs) (i : Nat) : Octs (piece zs i) := (h.dp _).tk _
/-- The first k of them, one behind the other. -/
theorem pieces_take (zs : List Int) : ∀ k, ((List.range k).map (piece zs)).flatten = zs.take (52 * k)
  | 0 => by simp
  | k + 1 => by
    rw [List.range_succ, List.map_append, List.flatten_append, pieces_take zs k]
    simp only [List.map_cons, List.map_nil, List.flatten_cons, List.flatten_nil, List.append_nil, piece]
    rw [show 52 * (k + 1) = 52 * k + 52 by omega, List.take_add]
theorem pieces_flat (zs : List Int) : (pieces zs).flatten = zs := by
  unfold pieces
  rw [pieces_take, List.take_of_length_le]
  unfold cntN
  omega
theorem cntN_done {zs : List Int} {k : Nat} : 52 * k < zs.length ↔ k < cntN zs.length := by unfold cntN; omega
theorem piece_page (zs : List Int) (i : Nat) : pgE (piece zs i).length 0 = 0 := pgE_ok.2 ⟨piece_le zs i, by omega, by omega⟩

end Go.Proofs.YtfeeejigedndcaaGreat

namespace Go.Proofs.YtfeeejigedndcaaGreat
open Go.ChangeShapes Go.WideShapes Go.ChangeAt Go.RowKit
set_option maxRecDepth 100000

/-- An uberblock as a value. -/
abbrev Ub.val (u : Ub) : Value := .agg #[.int .i64 u.t, .int .i64 u.f, .int .i64 u.o]
/-- Its cells. -/
def Ub.cells (u : Ub) : List Value := [.int .i64 u.t, .int .i64 u.f, .int .i64 u.o]
/-- Why it may not be. -/
def Ub.err (u : Ub) : Int := if u.ok then 0 else 4
theorem Ub.err_ok {u : Ub} (h : u.ok = true) : u.err = 0 := by simp [Ub.err, h]
theorem Ub.err_no {u : Ub} (h : u.ok = false) : u.err = 4 := by simp [Ub.err, h]

/-- The ways through the tests. -/
theorem ub_ways (t f o : Int) (r : Int) (hr : (Ub.mk t f o).err = r) :
    (r = 4 ∧ t < 1) ∨ (r = 4 ∧ 1 ≤ t ∧ 1099511627776 < t) ∨ (r = 4 ∧ 1 ≤ t ∧ t ≤ 1099511627776 ∧ f < 0) ∨ (r = 4 ∧ 1 ≤ t ∧ t ≤ 1099511627776 ∧ f = 1) ∨ (r = 4 ∧ 1 ≤ t ∧ t ≤ 1099511627776 ∧ 2 ≤ f ∧ 8192 ≤ f) ∨
    (r = 4 ∧ 1 ≤ t ∧ t ≤ 1099511627776 ∧ f = 0 ∧ o < 0) ∨ (r = 4 ∧ 1 ≤ t ∧ t ≤ 1099511627776 ∧ f = 0 ∧ 0 ≤ o ∧ 1024 < o) ∨ (r = 4 ∧ 1 ≤ t ∧ t ≤ 1099511627776 ∧ f = 0 ∧ 0 < o ∧ o ≤ 1024) ∨ (r = 0 ∧ 1 ≤ t ∧ t ≤ 1099511627776 ∧ f = 0 ∧ o = 0) ∨
    (r = 4 ∧ 1 ≤ t ∧ t ≤ 1099511627776 ∧ 2 ≤ f ∧ f < 8192 ∧ o < 0) ∨ (r = 4 ∧ 1 ≤ t ∧ t ≤ 1099511627776 ∧ 2 ≤ f ∧ f < 8192 ∧ 0 ≤ o ∧ 1024 < o) ∨ (r = 4 ∧ 1 ≤ t ∧ t ≤ 1099511627776 ∧ 2 ≤ f ∧ f < 8192 ∧ o = 0) ∨ (r = 0 ∧ 1 ≤ t ∧ t ≤ 1099511627776 ∧ 2 ≤ f ∧ f < 8192 ∧ 0 < o ∧ o ≤ 1024) := by
  have h1 : r = 0 ∨ r = 4 := by
    subst hr
    unfold Ub.err
    split <;> simp
  have h2 : r = 0 ↔ (Ub.mk t f o).ok = true := by
    subst hr
    unfold Ub.err
    split <;> simp_all
  rw [Ub.ok_iff] at h2
  simp only at h2
  by_cases a1 : t < 1
  · exact .inl ⟨by omega, a1⟩
  by_cases a2 : 1099511627776 < t
  · exact .inr (.inl ⟨by omega, by omega, a2⟩)
  by_cases a3 : f < 0
  · exact .inr (.inr (.inl ⟨by omega, by omega, by omega, a3⟩))
  by_cases a4 : f = 1
  · exact .inr (.inr (.inr (.inl ⟨by omega, by omega, by omega, a4⟩)))
  by_cases a5 : 8192 ≤ f
  · exact .inr (.inr (.inr (.inr (.inl ⟨by omega, by omega, by omega, by omega, a5⟩))))
  by_cases b0 : f = 0
  · by_cases b1 : o < 0
    · exact .inr (.inr (.inr (.inr (.inr (.inl ⟨by omega, by omega, by omega, b0, b1⟩)))))
    by_cases b2 : 1024 < o
    · exact .inr (.inr (.inr (.inr (.inr (.inr (.inl ⟨by omega, by omega, by omega, b0, by omega, b2⟩))))))
    by_cases b3 : o = 0
    · exact .inr (.inr (.inr (.inr (.inr (.inr (.inr (.inr (.inl ⟨by omega, by omega, by omega, b0, b3⟩))))))))
    · exact .inr (.inr (.inr (.inr (.inr (.inr (.inr (.inl ⟨by omega, by omega, by omega, b0, by omega, by omega⟩)))))))
  by_cases b1 : o < 0
  · exact .inr (.inr (.inr (.inr (.inr (.inr (.inr (.inr (.inr (.inl ⟨by omega, by omega, by omega, by omega, by omega, b1⟩)))))))))
  by_cases b2 : 1024 < o
  · exact .inr (.inr (.inr (.inr (.inr (.inr (.inr (.inr (.inr (.inr (.inl ⟨by omega, by omega, by omega, by omega, by omega, by omega, b2⟩))))))))))
  by_cases b3 : o = 0
  · exact .inr (.inr (.inr (.inr (.inr (.inr (.inr (.inr (.inr (.inr (.inr (.inl ⟨by omega, by omega, by omega, by omega, by omega, b3⟩)))))))))))
  · exact .inr (.inr (.inr (.inr (.inr (.inr (.inr (.inr (.inr (.inr (.inr (.inr ⟨by omega, by omega, by omega, by omega, by omega, by omega, by omega⟩)))))))))))

set_option maxHeartbeats 1000000 in
set_option maxRecDepth 100000 in
theorem uberCheck_any (u : Ub) (w : World) :
    Calls Tryz.prog 40 #[u.val] w fun e w' => e = .returned (.int .i64 u.err) ∧ Below w.heap.size w w' := by
  obtain ⟨t, f, o⟩ := u
  have hB0 : Below w.heap.size w (w.alloc (.cells #[.int .i64 t, .int .i64 f, .int .i64 o] 29)) := (Below.refl _ w).alloc (Nat.le_refl _) _
  obtain ⟨r, hr⟩ : ∃ r, (Ub.mk t f o).err = r := ⟨_, rfl⟩
  have hw := ub_ways t f o r hr
  rw [hr]
  clear hr
  rcases hw with ⟨rfl, h1⟩ | ⟨rfl, h1, h2⟩ | ⟨rfl, h1, h2, h3⟩ | ⟨rfl, h1, h2, rfl⟩ | ⟨rfl, h1, h2, h3, h4⟩ | ⟨rfl, h1, h2, rfl, h4⟩ | ⟨rfl, h1, h2, rfl, h4, h5⟩ | ⟨rfl, h1, h2, rfl, h4, h5⟩ | ⟨rfl, h1, h2, rfl, rfl⟩ | ⟨rfl, h1, h2, h3, h4, h5⟩ | ⟨rfl, h1, h2, h3, h4, h5, h6⟩ | ⟨rfl, h1, h2, h3, h4, rfl⟩ | ⟨rfl, h1, h2, h3, h4, h5, h6⟩
  all_goals
    try have e1 : (f == 0) = false := beq_eq_false_iff_ne.2 (by omega)
    try have e2 : (o == 0) = false := beq_eq_false_iff_ne.2 (by omega)
    go_enter Tryz.func40, Tryz.ntmps40
    go_wp2
    go_ret
    exact ⟨rfl, hB0⟩

set_option maxHeartbeats 400000 in
theorem number8_any (A : Option Addr) (n c : Nat) (zs : List Int) (hn : zs.length = n) (h1 : 1 ≤ n) (h8 : n ≤ 8) (ho : Octs zs) (w : World) (hr : RdB w A zs) :
    Calls Tryz.prog 125 #[.slice A n c] w fun e w' => e = .returned (.int .i64 (numO zs).1) ∧ w = w' := by
  subst hn
  obtain ⟨r, hr'⟩ : ∃ r, numO zs = r := ⟨_, rfl⟩
  have hc : Calls Tryz.prog 127 #[.slice A zs.length c] w fun e w' => e = .returned (ansN r.1 r.2) ∧ w = w' := by
    rw [← hr']
    by_cases hv : val zs ≤ 4611686018427387903
    · have : numO zs = (val zs, 0) := by unfold numO; rw [if_neg (by omega)]
      rw [this]
      exact number_ok A c zs h1 h8 ho w hr hv
    · have : numO zs = (0, 4) := by unfold numO; rw [if_pos (by omega)]
      rw [this]
      exact number_big A c zs h1 h8 ho w hr (by omega)
  rw [hr']
  obtain ⟨a, b⟩ := r
  have HC := Lib.hid hc
  clear hc hr' hr ho
  go_enter Tryz.func125, Tryz.ntmps125
  go_wp2_with (refine HC.out.mono ?_; rintro e w1 ⟨rfl, rfl⟩; unfold ansN)
  go_ret
  exact ⟨rfl, rfl⟩

theorem and_one (t : Int) : bits BinOp.and IntKind.i64 t 1 = t % 2 := by
  show IntKind.i64.wrap ((BitVec.ofInt 64 t &&& BitVec.ofInt 64 1).toNat : Int) = _
  have h1 : (BitVec.ofInt 64 1).toNat = 1 := rfl
  rw [BitVec.toNat_and, h1, BitVec.toNat_ofInt, Nat.and_one_is_mod]
  have h2 : (((t % ((2 ^ 64 : Nat) : Int)).toNat % 2 : Nat) : Int) = t % 2 := by omega
  rw [h2]
  exact IntWalk.i64_in _ (by omega)

set_option maxHeartbeats 400000 in
theorem slot_any (u : Ub) (w : World) :
    Calls Tryz.prog 83 #[u.val] w fun e w' => e = .returned (.int .i64 (u.t % 2)) ∧ Below w.heap.size w w' := by
  have ha := and_one u.t
  have HA := Lib.hid ha
  clear ha
  have hB0 : Below w.heap.size w (w.alloc (.cells #[.int .i64 u.t, .int .i64 u.f, .int .i64 u.o] 29)) := (Below.refl _ w).alloc (Nat.le_refl _) _
  go_enter Tryz.func83, Tryz.ntmps83
  go_wp2
  go_ret
  exact ⟨by rw [← HA.out]; rfl, hB0⟩

end Go.Proofs.YtfeeejigedndcaaGreat
