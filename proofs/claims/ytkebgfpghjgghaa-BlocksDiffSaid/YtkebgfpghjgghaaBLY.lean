/-
  What is changed from one content to another one makes it that. No conditions.
-/
import Derived.Test.YtkebgfpghjgghaaBLX
namespace Go.Proofs.Ytkebgfpghjgghaa
open Go.ChangeShapes Go.WideShapes Go.ChangeAt Go.RowKit
set_option maxRecDepth 100000

/-- A record done. -/
def doR (l : List Bk) (r : Rc) : List Bk := if r.k = 2 then putK l r.ix r.d else freeK l r.ix r.ct
/-- Where it ends. -/
def endR (r : Rc) : Int := if r.k = 2 then r.ix + 1 else r.ix + r.ct
def okR (r : Rc) : Prop := 0 ≤ r.ix ∧ r.ix < 1024 ∧ ((r.k = 2 ∧ r.d.size = 16) ∨ (r.k = 3 ∧ 1 ≤ r.ct ∧ r.ct ≤ 1024 - r.ix))
/-- Records one behind the other, from a place on. -/
def goodR : Int → List Rc → Prop
  | _, [] => True
  | n, r :: rs => n ≤ r.ix ∧ okR r ∧ goodR (endR r) rs
def endL (n : Int) (l : List Rc) : Int := l.foldl (fun _ r => endR r) n
theorem goodR_snoc : ∀ (l : List Rc) (n : Int) (r : Rc), goodR n (l ++ [r]) ↔ goodR n l ∧ endL n l ≤ r.ix ∧ okR r
  | [], n, r => by simp [goodR, endL]
  | x :: l, n, r => by
    have ih := goodR_snoc l (endR x) r
    simp only [List.cons_append, goodR, ih, endL, List.foldl_cons, and_assoc]
theorem endL_snoc (l : List Rc) (n : Int) (r : Rc) : endL n (l ++ [r]) = endR r := by simp [endL]
theorem goodR_at {n : Int} {rs : List Rc} {r : Rc} {t : List Rc} (h : goodR n (rs ++ r :: t)) : endL n rs ≤ r.ix ∧ okR r := by
  induction rs generalizing n with
  | nil => exact ⟨h.1, h.2.1⟩
  | cons x rs ih => exact ih h.2.2

theorem getK_filter (p : Bk → Bool) (i : Int) (c : Bool) (hp : ∀ x : Bk, x.1 = i → p x = c) : ∀ l : List Bk, getK (l.filter p) i = if c then getK l i else none
  | [] => by cases c <;> rfl
  | x :: l => by
    have ih := getK_filter p i c hp l
    rw [List.filter_cons]
    by_cases hx : x.1 = i
    · rw [hp x hx]
      cases c
      · simpa using ih
      · rw [if_pos rfl, if_pos rfl, getK_cons, getK_cons, if_pos hx, if_pos hx]
    · have e : getK (x :: l) i = getK l i := by rw [getK_cons, if_neg hx]
      rw [e, ← ih]
      split
      · rw [getK_cons, if_neg hx]
      · rfl
theorem getK_append (l m : List Bk) (i : Int) : getK (l ++ m) i = (getK l i).or (getK m i) := by
  unfold getK
  rw [List.find?_append]
  cases List.find? (fun x => decide (x.1 = i)) l <;> simp
theorem getK_free (l : List Bk) (i c j : Int) : getK (freeK l i c) j = if i ≤ j ∧ j < i + c then none else getK l j := by
  unfold freeK
  rw [getK_filter _ j (decide (j < i) || decide (i + c ≤ j)) (fun x hx => by rw [hx])]
  by_cases h : i ≤ j ∧ j < i + c
  · rw [if_pos h, if_neg]
    simp
    omega
  · rw [if_neg h, if_pos]
    simp
    omega
theorem getK_put (l : List Bk) (i : Int) (d : ByteArray) (j : Int) : getK (putK l i d) j = if j = i then some d else getK l j := by
  unfold putK
  rw [getK_append, getK_append, getK_filter _ j (decide (j < i)) (fun x hx => by rw [hx]), getK_filter _ j (decide (i < j)) (fun x hx => by rw [hx]), getK_cons]
  by_cases h : j = i
  · subst h
    simp
  · have hne : ¬ ((i, d) : Bk).1 = j := fun e => h e.symm
    rw [if_neg h]
    rcases Int.lt_or_gt_of_ne h with h1 | h1
    · have a : decide (j < i) = true := decide_eq_true h1
      have b : decide (i < j) = false := decide_eq_false (by omega)
      rw [a, b, if_neg hne]
      simp [getK]
    · have a : decide (j < i) = false := decide_eq_false (by omega)
      have b : decide (i < j) = true := decide_eq_true h1
      rw [a, b, if_neg hne]
      simp [getK]
theorem okF_ext {n : Int} : ∀ {l m : List Bk}, okF n l = true → okF n m = true → (∀ j, getK l j = getK m j) → l = m
  | [], [], _, _, _ => rfl
  | [], y :: m, _, _, h => by
    have := h y.1
    rw [getK_cons, if_pos rfl] at this
    cases this
  | x :: l, [], _, _, h => by
    have := h x.1
    rw [getK_cons, if_pos rfl] at this
    cases this
  | x :: l, y :: m, hl, hm, h => by
    rw [okF_cons] at hl hm
    have h1 := h x.1
    have h2 := h y.1
    rw [getK_cons, getK_cons, if_pos rfl] at h1 h2
    have hxy : x.1 = y.1 := by
      rcases Int.lt_trichotomy x.1 y.1 with hlt | he | hgt
      · rw [if_neg (by omega), getK_none hm.2.2.2 (by omega)] at h1
        cases h1
      · exact he
      · rw [if_neg (by omega), getK_none hl.2.2.2 (by omega)] at h2
        cases h2
    rw [if_pos hxy.symm] at h1
    injection h1 with h1
    have hx : x = y := Prod.ext hxy h1
    subst hx
    have ih := okF_ext (l := l) (m := m) hl.2.2.2 hm.2.2.2 (fun j => by
      have hj := h j
      rw [getK_cons, getK_cons] at hj
      by_cases hxj : x.1 = j
      · rw [getK_none hl.2.2.2 (by omega), getK_none hm.2.2.2 (by omega)]
      · rw [if_neg hxj, if_neg hxj] at hj
        exact hj)
    rw [ih]
theorem doR_ok {l : List Bk} {r : Rc} (hl : okK l = true) (hr : okR r) : okK (doR l r) = true := by
  unfold doR
  split
  · rename_i h2
    refine putK_ok ?_
    obtain ⟨h0, h1, h⟩ := hr
    rcases h with ⟨_, hd⟩ | ⟨h3, _⟩
    · unfold putE
      rw [if_neg (by rw [hl]; simp), if_neg (by omega), if_neg (by omega)]
    · omega
  · exact freeK_ok _ _ hl

/-- What holds ahead of an index. -/
structure UpTo (a b : List Bk) (n : Nat) : Prop where
  good : goodR 0 (recsTo a b n)
  end_ : endL 0 (recsTo a b n) ≤ n
  ok : okK ((recsTo a b n).foldl doR a) = true
  get : ∀ j : Int, getK ((recsTo a b n).foldl doR a) j = if 0 ≤ j ∧ j < n then getK b j else getK a j
theorem getK_size {l : List Bk} {n : Int} (h : okF n l = true) {i : Int} {d : ByteArray} (hg : getK l i = some d) : d.size = 16 := by
  unfold getK at hg
  rw [Option.map_eq_some_iff] at hg
  obtain ⟨x, hx, rfl⟩ := hg
  exact (okF_le h x (List.mem_of_find?_eq_some hx)).2.2
theorem upTo {a b : List Bk} (ha : okK a = true) (hb : okK b = true) : ∀ n : Nat, n ≤ 1024 → UpTo a b n
  | 0, _ => ⟨trivial, Int.le_refl _, ha, fun j => by rw [if_neg (by omega)]; rfl⟩
  | n + 1, hn => by
    obtain ⟨h1, h2, h3, h4⟩ := upTo ha hb n (by omega)
    have hcast : ((n + 1 : Nat) : Int) = (n : Int) + 1 := by omega
    have hstay : ∀ M : List Bk, (∀ j : Int, getK M j = if j = n then getK b n else getK ((recsTo a b n).foldl doR a) j) → ∀ j : Int, getK M j = if 0 ≤ j ∧ j < ((n + 1 : Nat) : Int) then getK b j else getK a j := fun M h j => by
      rw [h j]
      by_cases hj : j = n
      · subst hj
        rw [if_pos rfl, if_pos (by omega)]
      · rw [if_neg hj, h4 j]
        by_cases h0 : 0 ≤ j ∧ j < n
        · rw [if_pos h0, if_pos (by omega)]
        · rw [if_neg h0, if_neg (by omega)]
    have hself : getK ((recsTo a b n).foldl doR a) n = getK a n := by rw [h4 n, if_neg (by omega)]
    -- a record more
    have more : ∀ r : Rc, okR r → r.ix = n → endR r = n + 1 → (recsTo a b (n + 1) = recsTo a b n ++ [r]) → (∀ j : Int, getK (doR ((recsTo a b n).foldl doR a) r) j = if j = n then getK b n else getK ((recsTo a b n).foldl doR a) j) → UpTo a b (n + 1) := fun r hr hix hend he hg => by
      refine ⟨?_, ?_, ?_, ?_⟩
      · rw [he, goodR_snoc]
        exact ⟨h1, by omega, hr⟩
      · rw [he, endL_snoc]
        omega
      · rw [he, List.foldl_append]
        exact doR_ok h3 hr
      · rw [he, List.foldl_append]
        exact hstay _ hg
    have write : ∀ e, getK b n = some e → (recsTo a b (n + 1) = recsTo a b n ++ [⟨2, n, 0, e⟩]) → UpTo a b (n + 1) := fun e gb he => by
      refine more ⟨2, n, 0, e⟩ ⟨by show (0 : Int) ≤ n; omega, by show (n : Int) < 1024; omega, .inl ⟨rfl, getK_size hb gb⟩⟩ rfl (by simp [endR]) he fun j => ?_
      show getK (putK _ (n : Int) e) j = _
      rw [getK_put, gb]
    have stay : getK b n = getK a n → recsTo a b (n + 1) = recsTo a b n → UpTo a b (n + 1) := fun hg he => by
      refine ⟨by rw [he]; exact h1, by rw [he]; omega, by rw [he]; exact h3, ?_⟩
      rw [he]
      refine hstay _ fun j => ?_
      by_cases hj : j = n
      · subst hj
        rw [if_pos rfl, hself, hg]
      · rw [if_neg hj]
    have hs := recsTo_succ a b n
    rcases ga : getK a n with _ | d <;> rcases gb : getK b n with _ | e
    · exact stay (by rw [ga, gb]) (by rw [hs]; simp only [evAt, ga, gb, List.foldl_nil])
    · exact write e gb (by rw [hs]; simp only [evAt, ga, gb, List.foldl_cons, List.foldl_nil, stepE])
    · have he : recsTo a b (n + 1) = fr (recsTo a b n) n := by rw [hs]; simp only [evAt, ga, gb, List.foldl_cons, List.foldl_nil, stepE]
      have new : fr (recsTo a b n) n = recsTo a b n ++ [⟨3, n, 1, ByteArray.empty⟩] → UpTo a b (n + 1) := fun hf => by
        refine more ⟨3, n, 1, ByteArray.empty⟩ ⟨by show (0 : Int) ≤ n; omega, by show (n : Int) < 1024; omega, .inr ⟨rfl, by show (1 : Int) ≤ 1; omega, by show (1 : Int) ≤ 1024 - n; omega⟩⟩ rfl (by simp [endR]) (he.trans hf) fun j => ?_
        show getK (freeK _ (n : Int) 1) j = _
        rw [getK_free]
        by_cases hj : j = n
        · subst hj
          rw [if_pos (by omega), if_pos rfl, gb]
        · rw [if_neg (by omega), if_neg hj]
      rcases last_cases (recsTo a b n) with h0 | ⟨rs, r, h0⟩
      · exact new (by rw [h0, fr_nil]; rfl)
      · by_cases hc : r.k = 3 ∧ r.ix + r.ct = n
        · have hf : recsTo a b (n + 1) = rs ++ [⟨r.k, r.ix, r.ct + 1, r.d⟩] := by rw [he, h0, fr_more _ _ _ hc]
          rw [h0, goodR_snoc] at h1
          rw [h0, List.foldl_append] at h3 h4
          obtain ⟨k1, k2, k3, k4, k5⟩ := h1
          have k6 : 1 ≤ r.ct ∧ r.ct ≤ 1024 - r.ix := by
            rcases k5 with ⟨h, _⟩ | ⟨_, h⟩
            · omega
            · exact h
          have hr' : okR ⟨r.k, r.ix, r.ct + 1, r.d⟩ := ⟨k3, k4, .inr ⟨hc.1, by show 1 ≤ r.ct + 1; omega, by show r.ct + 1 ≤ 1024 - r.ix; omega⟩⟩
          have hdo : doR (rs.foldl doR a) r = freeK (rs.foldl doR a) r.ix r.ct := by unfold doR; rw [if_neg (by omega)]
          have hdo' : doR (rs.foldl doR a) ⟨r.k, r.ix, r.ct + 1, r.d⟩ = freeK (rs.foldl doR a) r.ix (r.ct + 1) := by unfold doR; rw [if_neg (by show ¬ r.k = 2; omega)]
          have hfo : (recsTo a b (n + 1)).foldl doR a = freeK (rs.foldl doR a) r.ix (r.ct + 1) := by rw [hf, List.foldl_append]; exact hdo'
          have hok3 : okK (freeK (rs.foldl doR a) r.ix (r.ct + 1)) = true := by
            rw [← hdo']
            have h9 : okK (doR (rs.foldl doR a) r) = true := h3
            rw [hdo] at h9
            -- the content ahead of the last record
            have hrs : okK (rs.foldl doR a) = true := by
              have : ∀ (l : List Rc) (m : Int) (x : List Bk), goodR m l → okK x = true → okK (l.foldl doR x) = true := fun l => by
                induction l with
                | nil => exact fun _ _ _ h => h
                | cons y l ih => exact fun m x hg h => ih (endR y) _ hg.2.2 (doR_ok h hg.2.1)
              exact this rs 0 a k1 ha
            exact doR_ok hrs hr'
          refine ⟨?_, ?_, ?_, ?_⟩
          · rw [hf, goodR_snoc]
            exact ⟨k1, k2, hr'⟩
          · rw [hf, endL_snoc]
            unfold endR
            rw [if_neg (by show ¬ r.k = 2; omega)]
            show r.ix + (r.ct + 1) ≤ _
            omega
          · rw [hfo]; exact hok3
          · rw [hfo]
            have h4' : ∀ j : Int, getK (freeK (rs.foldl doR a) r.ix r.ct) j = if 0 ≤ j ∧ j < n then getK b j else getK a j := fun j => by rw [← hdo]; exact h4 j
            intro j
            rw [getK_free]
            have h5 := h4' j
            rw [getK_free] at h5
            by_cases hj : j = n
            · subst hj
              rw [if_pos (by omega), if_pos (by omega), gb]
            · by_cases hin : r.ix ≤ j ∧ j < r.ix + r.ct
              · rw [if_pos hin] at h5
                rw [if_pos (by omega), h5]
                by_cases h0 : 0 ≤ j ∧ j < n
                · rw [if_pos h0, if_pos (by omega)]
                · rw [if_neg h0, if_neg (by omega)]
              · rw [if_neg hin] at h5
                rw [if_neg (by omega), h5]
                by_cases h0 : 0 ≤ j ∧ j < n
                · rw [if_pos h0, if_pos (by omega)]
                · rw [if_neg h0, if_neg (by omega)]
        · exact new (by rw [h0, fr_new _ _ _ hc])
    · by_cases hde : d = e
      · exact stay (by rw [ga, gb, hde]) (by rw [hs]; simp only [evAt, ga, gb, if_pos hde, List.foldl_nil])
      · exact write e gb (by rw [hs]; simp only [evAt, ga, gb, if_neg hde, List.foldl_cons, List.foldl_nil, stepE])

/-- THE CHANGE MAKES IT THAT. -/
theorem recs_make {a b : List Bk} (ha : okK a = true) (hb : okK b = true) : (recsOf a b).foldl doR a = b := by
  rw [recsOf_eq ha hb]
  obtain ⟨_, _, h3, h4⟩ := upTo ha hb 1024 (by omega)
  refine okF_ext (n := 0) h3 hb fun j => ?_
  rw [h4 j]
  by_cases h : 0 ≤ j ∧ j < ((1024 : Nat) : Int)
  · rw [if_pos h]
  · rw [if_neg h]
    have out : ∀ l : List Bk, okK l = true → getK l j = none := fun l hl => by
      unfold getK
      rw [List.find?_eq_none.2]
      · rfl
      · intro x hx
        have := okK_mem hl x hx
        simp
        omega
    rw [out a ha, out b hb]
theorem recs_good {a b : List Bk} (ha : okK a = true) (hb : okK b = true) : goodR 0 (recsOf a b) := by
  rw [recsOf_eq ha hb]
  exact (upTo ha hb 1024 (by omega)).good
theorem evAt_self (a : List Bk) (i : Int) : evAt a a i = [] := by
  unfold evAt
  rcases getK a i with _ | d
  · rfl
  · simp
theorem recs_none {a b : List Bk} (ha : okK a = true) (hb : okK b = true) : recsOf a b = [] ↔ a = b := by
  constructor
  · intro h
    have := recs_make ha hb
    rw [h] at this
    exact this
  · rintro rfl
    rw [recsOf_eq ha ha]
    have : ∀ n : Nat, recsTo a a n = [] := fun n => by
      induction n with
      | zero => rfl
      | succ n ih => rw [recsTo_succ, evAt_self, ih]; rfl
    exact this 1024
theorem goodR_len : ∀ (l : List Rc) (n : Int), n ≤ 1024 → goodR n l → (l.length : Int) ≤ 1024 - n
  | [], n, h, _ => by simp; omega
  | r :: l, n, h, hg => by
    obtain ⟨h1, ⟨h2, h3, h4⟩, h5⟩ := hg
    have he : r.ix + 1 ≤ endR r ∧ endR r ≤ 1024 := by
      unfold endR
      rcases h4 with ⟨hk, _⟩ | ⟨hk, hc⟩
      · rw [if_pos hk]; omega
      · rw [if_neg (by omega)]; omega
    have := goodR_len l (endR r) he.2 h5
    simp only [List.length_cons]
    omega

end Go.Proofs.Ytkebgfpghjgghaa
