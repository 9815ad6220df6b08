/-
  What changes one content into another one: as the program goes, index by index, and what it makes. No conditions.
-/
import Derived.Test.YtkebgfpghjgghaaBLM
namespace Go.Proofs.Ytkebgfpghjgghaa
open Go.ChangeShapes Go.WideShapes Go.ChangeAt Go.RowKit
set_option maxRecDepth 100000

/-- A record of a change. -/
structure Rc where
  k : Int
  ix : Int
  ct : Int
  d : ByteArray
/-- A block is gone; a block is as it is now. -/
inductive Ev where
  | gone (i : Int)
  | is (x : Bk)

/-- As the program goes. -/
def apartL : List Bk → List Bk → List Ev
  | [], [] => []
  | x :: a, [] => .gone x.1 :: apartL a []
  | [], y :: b => .is y :: apartL [] b
  | x :: a, y :: b => if x.1 < y.1 then .gone x.1 :: apartL a (y :: b) else if y.1 < x.1 then .is y :: apartL (x :: a) b else if x = y then apartL a b else .is y :: apartL a b
termination_by a b => a.length + b.length

/-- A record more, or a run that goes on. -/
def fr (l : List Rc) (i : Int) : List Rc :=
  match l.getLast? with
  | some r => if r.k = 3 ∧ r.ix + r.ct = i then l.dropLast ++ [⟨r.k, r.ix, r.ct + 1, r.d⟩] else l ++ [⟨3, i, 1, ByteArray.empty⟩]
  | none => [⟨3, i, 1, ByteArray.empty⟩]
def stepE (l : List Rc) : Ev → List Rc
  | .gone i => fr l i
  | .is x => l ++ [⟨2, x.1, 0, x.2⟩]
theorem fr_nil (i : Int) : fr [] i = [⟨3, i, 1, ByteArray.empty⟩] := rfl
theorem fr_more (rs : List Rc) (r : Rc) (i : Int) (h : r.k = 3 ∧ r.ix + r.ct = i) : fr (rs ++ [r]) i = rs ++ [⟨r.k, r.ix, r.ct + 1, r.d⟩] := by
  unfold fr
  simp [h.1, h.2]
theorem fr_new (rs : List Rc) (r : Rc) (i : Int) (h : ¬ (r.k = 3 ∧ r.ix + r.ct = i)) : fr (rs ++ [r]) i = rs ++ [r] ++ [⟨3, i, 1, ByteArray.empty⟩] := by
  unfold fr
  simp only [List.getLast?_append, List.getLast?_singleton, Option.some_or]
  rw [if_neg h]
theorem last_cases {α : Type} (l : List α) : l = [] ∨ ∃ rs r, l = rs ++ [r] := by
  rcases List.eq_nil_or_concat l with h | ⟨rs, r, h⟩
  · exact .inl h
  · exact .inr ⟨rs, r, by simpa using h⟩

/-- What happens at one index. -/
def goneAt (a b : List Bk) (i : Int) : Bool := (getK a i).isSome && (getK b i).isNone
def evAt (a b : List Bk) (i : Int) : List Ev :=
  match getK a i, getK b i with
  | some _, none => [.gone i]
  | none, some e => [.is (i, e)]
  | some d, some e => if d = e then [] else [.is (i, e)]
  | none, none => []
def evF (a b : List Bk) : Int → Nat → List Ev
  | _, 0 => []
  | n, m + 1 => evAt a b n ++ evF a b (n + 1) m
theorem evF_snoc (a b : List Bk) : ∀ (m : Nat) (n : Int), evF a b n (m + 1) = evF a b n m ++ evAt a b (n + m)
  | 0, n => by simp [evF]
  | m + 1, n => by
    rw [evF, evF_snoc a b m (n + 1), evF, List.append_assoc, show n + 1 + (m : Int) = n + ((m + 1 : Nat) : Int) by omega]
theorem getK_none {l : List Bk} {n i : Int} (h : okF n l = true) (hi : i < n) : getK l i = none := by
  unfold getK
  rw [List.find?_eq_none.2]
  · rfl
  · intro x hx
    have := (okF_le h x hx).1
    simp
    omega
theorem getK_cons (x : Bk) (l : List Bk) (i : Int) : getK (x :: l) i = if x.1 = i then some x.2 else getK l i := by
  unfold getK
  rw [List.find?_cons]
  by_cases h : x.1 = i
  · simp [h]
  · simp [h]
theorem evF_congr {a b a' b' : List Bk} : ∀ (m : Nat) (n : Int), (∀ i, n ≤ i → getK a i = getK a' i ∧ getK b i = getK b' i) → evF a b n m = evF a' b' n m
  | 0, _, _ => rfl
  | m + 1, n, h => by
    rw [evF, evF, evF_congr m (n + 1) (fun i hi => h i (by omega))]
    obtain ⟨h1, h2⟩ := h n (Int.le_refl _)
    simp only [evAt, h1, h2]
/-- A content from n on: is there a block at n? -/
theorem at_n {n : Int} : ∀ {l : List Bk}, okF n l = true → (okF (n + 1) l = true ∧ getK l n = none) ∨ ∃ d r, l = (n, d) :: r ∧ okF (n + 1) r = true ∧ getK l n = some d ∧ ∀ i, n + 1 ≤ i → getK l i = getK r i
  | [], _ => .inl ⟨rfl, rfl⟩
  | x :: r, h => by
    rw [okF_cons] at h
    by_cases hx : x.1 = n
    · obtain ⟨xi, xd⟩ := x
      dsimp only at hx h
      subst hx
      refine .inr ⟨xd, r, rfl, h.2.2.2, by rw [getK_cons, if_pos rfl], fun i hi => ?_⟩
      rw [getK_cons, if_neg (by show ¬ xi = i; omega)]
    · have h1 : okF (n + 1) (x :: r) = true := by rw [okF_cons]; exact ⟨by omega, h.2⟩
      exact .inl ⟨h1, getK_none h1 (by omega)⟩
theorem apart_gone {n : Int} {d : ByteArray} {r b : List Bk} (h : okF (n + 1) b = true) : apartL ((n, d) :: r) b = .gone n :: apartL r b := by
  rcases b with _ | ⟨y, b⟩
  · rw [apartL]
  · rw [okF_cons] at h
    rw [apartL, if_pos (by show n < y.1; omega)]
theorem apart_is {n : Int} {d : ByteArray} {r a : List Bk} (h : okF (n + 1) a = true) : apartL a ((n, d) :: r) = .is (n, d) :: apartL a r := by
  rcases a with _ | ⟨y, a⟩
  · rw [apartL]
  · rw [okF_cons] at h
    rw [apartL, if_neg (by show ¬ y.1 < n; omega), if_pos (by show n < y.1; omega)]
/-- As the program goes is index by index. -/
theorem apart_ev : ∀ (m : Nat) (n : Int) (a b : List Bk), okF n a = true → okF n b = true → n + m = 1024 → apartL a b = evF a b n m
  | 0, n, a, b, ha, hb, hn => by
    have e : ∀ l, okF n l = true → l = [] := fun l h => by
      rcases l with _ | ⟨x, l⟩
      · rfl
      · rw [okF_cons] at h; omega
    rw [e a ha, e b hb, apartL, evF]
  | m + 1, n, a, b, ha, hb, hn => by
    have ih := fun a b ha hb => apart_ev m (n + 1) a b ha hb (by omega)
    rw [evF]
    rcases at_n ha with ⟨ha1, ga⟩ | ⟨d, r, rfl, hr, ga, gr⟩
    · rcases at_n hb with ⟨hb1, gb⟩ | ⟨e, s, rfl, hs, gb, gs⟩
      · rw [ih a b ha1 hb1]
        simp only [evAt, ga, gb, List.nil_append]
      · rw [apart_is ha1, ih a s ha1 hs]
        simp only [evAt, ga, gb, List.singleton_append]
        rw [evF_congr m (n + 1) (fun i hi => ⟨rfl, (gs i hi).symm⟩)]
    · rcases at_n hb with ⟨hb1, gb⟩ | ⟨e, s, rfl, hs, gb, gs⟩
      · rw [apart_gone hb1, ih r b hr hb1]
        simp only [evAt, ga, gb, List.singleton_append]
        rw [evF_congr m (n + 1) (fun i hi => ⟨(gr i hi).symm, rfl⟩)]
      · have e1 : apartL ((n, d) :: r) ((n, e) :: s) = (if d = e then [] else [.is (n, e)]) ++ apartL r s := by
          rw [apartL, if_neg (by show ¬ n < n; omega), if_neg (by show ¬ n < n; omega)]
          by_cases hde : d = e
          · simp [hde]
          · rw [if_neg (by intro h; injection h with _ h; exact hde h), if_neg hde]
            rfl
        rw [e1, ih r s hr hs]
        simp only [evAt, ga, gb]
        rw [evF_congr m (n + 1) (fun i hi => ⟨(gr i hi).symm, (gs i hi).symm⟩)]

/-- The change, up to an index. -/
def recsTo (a b : List Bk) (n : Nat) : List Rc := (evF a b 0 n).foldl stepE []
def recsOf (a b : List Bk) : List Rc := (apartL a b).foldl stepE []
theorem recsOf_eq {a b : List Bk} (ha : okK a = true) (hb : okK b = true) : recsOf a b = recsTo a b 1024 := by
  unfold recsOf recsTo
  rw [apart_ev 1024 0 a b ha hb rfl]
theorem recsTo_succ (a b : List Bk) (n : Nat) : recsTo a b (n + 1) = (evAt a b n).foldl stepE (recsTo a b n) := by
  unfold recsTo
  rw [evF_snoc, List.foldl_append, Int.zero_add]

/-- Does the last run end here? -/
theorem run_last (a b : List Bk) : ∀ n : Nat, (∀ r, (recsTo a b n).getLast? = some r → r.k = 3 → r.ix + r.ct ≤ n ∧ (r.ix + r.ct = n ↔ goneAt a b ((n : Int) - 1) = true)) ∧ (∀ r, (recsTo a b n).getLast? = some r → r.k ≠ 3 → goneAt a b ((n : Int) - 1) = false) ∧ ((recsTo a b n).getLast? = none → n ≠ 0 → goneAt a b ((n : Int) - 1) = false)
  | 0 => ⟨fun r h => by simp [recsTo, evF] at h, fun r h => by simp [recsTo, evF] at h, fun _ h => absurd rfl h⟩
  | n + 1 => by
    obtain ⟨i1, i2, i3⟩ := run_last a b n
    have hn : (((n + 1 : Nat) : Int) - 1) = (n : Int) := by omega
    rw [hn, recsTo_succ]
    rcases ga : getK a n with _ | d <;> rcases gb : getK b n with _ | e
    · have hg : goneAt a b n = false := by simp [goneAt, ga]
      simp only [evAt, ga, gb, List.foldl_nil]
      refine ⟨fun r h h3 => ?_, fun r h h3 => hg, fun _ _ => hg⟩
      have := (i1 r h h3).1
      refine ⟨by omega, ⟨fun h => by omega, fun h => by rw [hg] at h; cases h⟩⟩
    · have hg : goneAt a b n = false := by simp [goneAt, ga]
      simp only [evAt, ga, gb, List.foldl_cons, List.foldl_nil, stepE]
      refine ⟨fun r h h3 => ?_, fun r h h3 => hg, fun _ _ => hg⟩
      simp only [List.getLast?_append, List.getLast?_singleton, Option.some_or] at h
      injection h with h
      subst h
      exact absurd h3 (show ¬ (2 : Int) = 3 by decide)
    · have hg : goneAt a b n = true := by simp [goneAt, ga, gb]
      simp only [evAt, ga, gb, List.foldl_cons, List.foldl_nil, stepE]
      have key : ∃ (rs : List Rc) (r : Rc), fr (recsTo a b n) n = rs ++ [r] ∧ r.k = 3 ∧ r.ix + r.ct = (n : Int) + 1 := by
        rcases last_cases (recsTo a b n) with h0 | ⟨rs, r, h0⟩
        · rw [h0, fr_nil]
          exact ⟨[], _, rfl, rfl, rfl⟩
        · rw [h0]
          by_cases hc : r.k = 3 ∧ r.ix + r.ct = n
          · rw [fr_more _ _ _ hc]
            exact ⟨rs, _, rfl, hc.1, by show r.ix + (r.ct + 1) = (n : Int) + 1; omega⟩
          · rw [fr_new _ _ _ hc]
            exact ⟨rs ++ [r], _, rfl, rfl, rfl⟩
      obtain ⟨rs, r, h0, h1, h2⟩ := key
      rw [h0]
      refine ⟨fun r' h h3 => ?_, fun r' h h3 => ?_, fun h => ?_⟩
      · simp only [List.getLast?_append, List.getLast?_singleton, Option.some_or] at h
        injection h with h
        subst h
        exact ⟨by omega, fun _ => hg, fun _ => by omega⟩
      · simp only [List.getLast?_append, List.getLast?_singleton, Option.some_or] at h
        injection h with h
        subst h
        exact absurd h1 h3
      · simp at h
    · have hg : goneAt a b n = false := by simp [goneAt, gb]
      by_cases hde : d = e
      · simp only [evAt, ga, gb, if_pos hde, List.foldl_nil]
        refine ⟨fun r h h3 => ?_, fun r h h3 => hg, fun _ _ => hg⟩
        have := (i1 r h h3).1
        refine ⟨by omega, ⟨fun h => by omega, fun h => by rw [hg] at h; cases h⟩⟩
      · simp only [evAt, ga, gb, if_neg hde, List.foldl_cons, List.foldl_nil, stepE]
        refine ⟨fun r h h3 => ?_, fun r h h3 => hg, fun _ _ => hg⟩
        simp only [List.getLast?_append, List.getLast?_singleton, Option.some_or] at h
        injection h with h
        subst h
        exact absurd h3 (show ¬ (2 : Int) = 3 by decide)

end Go.Proofs.Ytkebgfpghjgghaa
