/-
  The plain mathematics of running sums: words of octets, sums over words. No conditions.
-/
import Derived.Test.YtmehjmkakkiedaaGreatMW
import Derived.Laws.BitsAllLaws
namespace Go.Proofs.YtmehjmkakkiedaaGreat
open Go.ChangeShapes Go.WideShapes Go.ChangeAt Go.RowKit
set_option maxRecDepth 100000

/-- The octet at a place, zero behind the end. -/
def oct (zs : List Int) (i : Nat) : Int := zs[i]?.getD 0
/-- The first word. -/
def word (zs : List Int) : Int := oct zs 0 * 16777216 + oct zs 1 * 65536 + oct zs 2 * 256 + oct zs 3
/-- All words. -/
def words (zs : List Int) : List Int := (List.range ((zs.length + 3) / 4)).map fun k => word (zs.drop (4 * k))

theorem oct_bd {zs : List Int} (h : Octs zs) (i : Nat) : 0 ≤ oct zs i ∧ oct zs i ≤ 255 := h.at_ i
theorem oct_drop (zs : List Int) (k i : Nat) : oct (zs.drop k) i = oct zs (k + i) := by
  unfold oct
  rw [List.getElem?_drop]
theorem Octs.drop {zs : List Int} (h : Octs zs) (k : Nat) : Octs (zs.drop k) := fun z hz => h z (List.mem_of_mem_drop hz)
theorem Octs.take {zs : List Int} (h : Octs zs) (k : Nat) : Octs (zs.take k) := fun z hz => h z (List.mem_of_mem_take hz)
theorem Octs.append {a b : List Int} (h : Octs a) (k : Octs b) : Octs (a ++ b) := fun z hz => (List.mem_append.1 hz).elim (h z) (k z)
theorem word_bd {zs : List Int} (h : Octs zs) : 0 ≤ word zs ∧ word zs < 4294967296 := by
  have := oct_bd h 0
  have := oct_bd h 1
  have := oct_bd h 2
  have := oct_bd h 3
  unfold word
  omega
theorem words_length (zs : List Int) : (words zs).length = (zs.length + 3) / 4 := by simp [words]
theorem words_at (zs : List Int) (k : Nat) (h : k < (zs.length + 3) / 4) : (words zs)[k]? = some (word (zs.drop (4 * k))) := by
  simp [words, List.getElem?_map, List.getElem?_range h]
theorem words_snoc (zs : List Int) (k : Nat) (h : k < (zs.length + 3) / 4) : (words zs).take (k + 1) = (words zs).take k ++ [word (zs.drop (4 * k))] := by
  have hl : k < (words zs).length := by rw [words_length]; exact h
  rw [List.take_succ_eq_append_getElem hl]
  have := words_at zs k h
  rw [List.getElem?_eq_getElem hl] at this
  injection this with this
  rw [this]
theorem words_bd {zs : List Int} (h : Octs zs) (k : Nat) (hk : k < (words zs).length) : 0 ≤ (words zs)[k] ∧ (words zs)[k] < 4294967296 := by
  have h1 := words_at zs k (by rw [words_length] at hk; exact hk)
  rw [List.getElem?_eq_getElem hk] at h1
  injection h1 with h1
  rw [h1]
  exact word_bd (h.drop _)

theorem word_append_left (a b : List Int) (k : Nat) (h : 4 * k + 4 ≤ a.length) : word ((a ++ b).drop (4 * k)) = word (a.drop (4 * k)) := by
  have e : ∀ i, i < 4 → oct ((a ++ b).drop (4 * k)) i = oct (a.drop (4 * k)) i := fun i hi => by
    rw [oct_drop, oct_drop]
    unfold oct
    rw [List.getElem?_append_left (by omega)]
  unfold word
  rw [e 0 (by omega), e 1 (by omega), e 2 (by omega), e 3 (by omega)]

theorem words_append (a b : List Int) (m : Nat) (h : a.length = 4 * m) : words (a ++ b) = words a ++ words b := by
  unfold words
  rw [List.length_append, h, show (4 * m + b.length + 3) / 4 = m + (b.length + 3) / 4 by omega, show (4 * m + 3) / 4 = m by omega, List.range_add, List.map_append, List.map_map]
  congr 1
  · apply List.map_congr_left
    intro k hk
    have := List.mem_range.1 hk
    exact word_append_left a b k (by omega)
  · apply List.map_congr_left
    intro k _
    simp only [Function.comp]
    rw [show 4 * (m + k) = a.length + 4 * k by omega, List.drop_append, List.drop_of_length_le (by omega), List.nil_append, Nat.add_sub_cancel_left]

/-- A sum. -/
structure S4 where
  A : Int
  B : Int
  C : Int
  D : Int
/-- As a value. -/
abbrev S4.val (s : S4) : Value := .agg #[.int .u64 s.A, .int .u64 s.B, .int .u64 s.C, .int .u64 s.D]
/-- Behind one word. -/
def sA (s : S4) (x : Int) : Int := IntKind.u64.wrap (s.A + x)
def sB (s : S4) (x : Int) : Int := IntKind.u64.wrap (s.B + sA s x)
def sC (s : S4) (x : Int) : Int := IntKind.u64.wrap (s.C + sB s x)
def sD (s : S4) (x : Int) : Int := IntKind.u64.wrap (s.D + sC s x)
def stepS (s : S4) (x : Int) : S4 := ⟨sA s x, sB s x, sC s x, sD s x⟩
/-- Behind words. -/
def feedS (s : S4) (xs : List Int) : S4 := xs.foldl stepS s
theorem feedS_snoc (s : S4) (xs : List Int) (x : Int) : feedS s (xs ++ [x]) = stepS (feedS s xs) x := by simp [feedS]
theorem feedS_append (s : S4) (xs ys : List Int) : feedS s (xs ++ ys) = feedS (feedS s xs) ys := by simp [feedS]

theorem or_low2 (a b i m : Nat) (hm : m = 2 ^ i) (h : a < m) : b * m ||| a = b * m + a := by
  subst hm
  rw [← Nat.shiftLeft_eq, Nat.shiftLeft_add_eq_or_of_lt h]
theorem or_word (o0 o1 o2 o3 : Int) (b0 : 0 ≤ o0 ∧ o0 ≤ 255) (b1 : 0 ≤ o1 ∧ o1 ≤ 255) (b2 : 0 ≤ o2 ∧ o2 ≤ 255) (b3 : 0 ≤ o3 ∧ o3 ≤ 255) :
    bits BinOp.or IntKind.u32 (bits BinOp.or IntKind.u32 (bits BinOp.or IntKind.u32 (o0 * 16777216) (o1 * 65536)) (o2 * 256)) o3 = o0 * 16777216 + o1 * 65536 + o2 * 256 + o3 := by
  obtain ⟨n0, rfl⟩ := Int.eq_ofNat_of_zero_le b0.1
  obtain ⟨n1, rfl⟩ := Int.eq_ofNat_of_zero_le b1.1
  obtain ⟨n2, rfl⟩ := Int.eq_ofNat_of_zero_le b2.1
  obtain ⟨n3, rfl⟩ := Int.eq_ofNat_of_zero_le b3.1
  rw [show ((n0 : Int) * 16777216) = ((n0 * 16777216 : Nat) : Int) by omega, show ((n1 : Int) * 65536) = ((n1 * 65536 : Nat) : Int) by omega, show ((n2 : Int) * 256) = ((n2 * 256 : Nat) : Int) by omega]
  rw [u32_or_nat (n0 * 16777216) (n1 * 65536) (by omega) (by omega), or_low2 (n1 * 65536) n0 24 16777216 (by decide) (by omega)]
  rw [u32_or_nat _ (n2 * 256) (by omega) (by omega), show n0 * 16777216 + n1 * 65536 = (n0 * 256 + n1) * 65536 by omega, or_low2 (n2 * 256) _ 16 65536 (by decide) (by omega)]
  rw [u32_or_nat _ n3 (by omega) (by omega), show (n0 * 256 + n1) * 65536 + n2 * 256 = ((n0 * 256 + n1) * 256 + n2) * 256 by omega, or_low2 n3 _ 8 256 (by decide) (by omega)]
  omega

theorem wrap_u64_is (n : Int) : IntKind.u64.wrap n = n % 18446744073709551616 := by
  simp only [IntKind.wrap, IntKind.signed, IntKind.bits]
  simp

/-- Is it a sum that may be? -/
def S4.ok (s : S4) : Prop := (0 ≤ s.A ∧ s.A < 18446744073709551616) ∧ (0 ≤ s.B ∧ s.B < 18446744073709551616) ∧ (0 ≤ s.C ∧ s.C < 18446744073709551616) ∧ (0 ≤ s.D ∧ s.D < 18446744073709551616)
theorem stepS_ok (s : S4) (x : Int) : (stepS s x).ok := by
  simp only [S4.ok, stepS, sA, sB, sC, sD, wrap_u64_is]
  omega
theorem feedS_ok (s : S4) (h : s.ok) (xs : List Int) : (feedS s xs).ok := by
  rcases List.eq_nil_or_concat xs with rfl | ⟨ys, y, rfl⟩
  · exact h
  · rw [List.concat_eq_append, feedS_snoc]
    exact stepS_ok _ _

theorem feedS_A : ∀ (xs : List Int) (s : S4), (feedS s xs).A % 18446744073709551616 = (s.A + xs.sum) % 18446744073709551616
  | [], s => by simp [feedS]
  | x :: xs, s => by
    have := feedS_A xs (stepS s x)
    simp only [feedS, List.foldl_cons, List.sum_cons, stepS, sA, wrap_u64_is] at this ⊢
    omega

/-- One word alone is another one: A is another one. -/
theorem feedS_one (s : S4) (xs ys : List Int) (k : Nat) (hl : xs.length = ys.length) (hk : k < xs.length) (hsame : ∀ j, j ≠ k → xs[j]? = ys[j]?)
    (hx : ∀ j (h : j < xs.length), 0 ≤ xs[j] ∧ xs[j] < 4294967296) (hy : ∀ j (h : j < ys.length), 0 ≤ ys[j] ∧ ys[j] < 4294967296) (hne : xs[k]? ≠ ys[k]?) : (feedS s xs).A ≠ (feedS s ys).A := by
  have hky : k < ys.length := by omega
  have ex : xs = xs.take k ++ xs[k] :: xs.drop (k + 1) := by rw [List.getElem_cons_drop, List.take_append_drop]
  have ey : ys = ys.take k ++ ys[k] :: ys.drop (k + 1) := by rw [List.getElem_cons_drop, List.take_append_drop]
  have et : xs.take k = ys.take k := by
    apply List.ext_getElem?
    intro j
    rw [List.getElem?_take, List.getElem?_take]
    split
    · exact hsame j (by omega)
    · rfl
  have ed : xs.drop (k + 1) = ys.drop (k + 1) := by
    apply List.ext_getElem?
    intro j
    rw [List.getElem?_drop, List.getElem?_drop]
    exact hsame _ (by omega)
  intro he
  have h1 := feedS_A xs s
  have h2 := feedS_A ys s
  rw [he, h2] at h1
  have sx : xs.sum = (xs.take k).sum + (xs[k] + (xs.drop (k + 1)).sum) := by
    have := congrArg List.sum ex
    rwa [List.sum_append, List.sum_cons] at this
  have sy : ys.sum = (ys.take k).sum + (ys[k] + (ys.drop (k + 1)).sum) := by
    have := congrArg List.sum ey
    rwa [List.sum_append, List.sum_cons] at this
  rw [sx, sy, et, ed] at h1
  have b1 := hx k hk
  have b2 := hy k hky
  have : xs[k] = ys[k] := by omega
  apply hne
  rw [List.getElem?_eq_getElem hk, List.getElem?_eq_getElem hky, this]

end Go.Proofs.YtmehjmkakkiedaaGreat
