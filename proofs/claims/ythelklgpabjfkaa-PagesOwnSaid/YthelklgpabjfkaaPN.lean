/-
  Octets cut into pieces of 52. Plain words. No conditions.
-/
import Derived.Test.YthelklgpabjfkaaPM
namespace Go.Proofs.Ythelklgpabjfkaa
open Go.ChangeShapes Go.WideShapes Go.ChangeAt Go.RowKit

/-- How many pages n octets need. -/
def cntN (n : Nat) : Nat := (n + 51) / 52
/-- Piece i. -/
def piece (zs : List Int) (i : Nat) : List Int := (zs.drop (52 * i)).take 52
/-- All of them. -/
def pieces (zs : List Int) : List (List Int) := (List.range (cntN zs.length)).map (piece zs)

theorem pieces_length (zs : List Int) : (pieces zs).length = cntN zs.length := by simp [pieces]
theorem pieces_at (zs : List Int) {i : Nat} (h : i < cntN zs.length) : (pieces zs)[i]? = some (piece zs i) := by
  simp [pieces, h]
theorem piece_length (zs : List Int) (i : Nat) : (piece zs i).length = min 52 (zs.length - 52 * i) := by simp [piece]
theorem piece_le (zs : List Int) (i : Nat) : (piece zs i).length ≤ 52 := by rw [piece_length]; omega
theorem piece_pos (zs : List Int) {i : Nat} (h : i < cntN zs.length) : 0 < (piece zs i).length := by
  rw [piece_length]
  unfold cntN at h
  omega
theorem piece_octs {zs : List Int} (h : Octs zs) (i : Nat) : Octs (piece zs i) := (h.dp _).tk _
/-- The first k of them, one behind the other. -/
theorem pieces_take (zs : List Int) : ∀ k, ((List.range k).map (piece zs)).flatten = zs.take (52 * k)
  | 0 => by simp
  | k + 1 => by
    rw [List.range_succ, List.map_append, List.flatten_append, pieces_take zs k]
    simp only [List.map_cons, List.map_nil, List.flatten_cons, List.flatten_nil, List.append_nil, piece]
    rw [show 52 * (k + 1) = 52 * k + 52 by omega, List.take_add]
theorem pieces_flat (zs : List Int) : (pieces zs).flatten = zs := by
  unfold pieces
  rw [pieces_take, List.take_of_length_le]
  unfold cntN
  omega
theorem cntN_done {zs : List Int} {k : Nat} : 52 * k < zs.length ↔ k < cntN zs.length := by unfold cntN; omega
theorem piece_page (zs : List Int) (i : Nat) : pgE (piece zs i).length 0 = 0 := pgE_ok.2 ⟨piece_le zs i, by omega, by omega⟩

end Go.Proofs.Ythelklgpabjfkaa
