/-
 Snap, Set, Sum, Record, Stage, Entry, Tenant, plainly. No conditions.
-/
import Derived.Test.YtimmcmjipmkebaaGreatVBLM
import Derived.Test.YtimmcmjipmkebaaGreatVGY
import Derived.IntWalk
namespace Go.Proofs.YtimmcmjipmkebaaGreat
set_option maxRecDepth 100000
structure PS_ where
 x_ : ByteArray
 z_ : Int
 p_ : List Bk
 u_ : List ByteArray
 j_ : List Pr
theorem PS_.eq_iff {a b : PS_} : a = b ↔ a.x_ = b.x_ ∧ a.z_ = b.z_ ∧ a.p_ = b.p_ ∧ a.u_ = b.u_ ∧ a.j_ = b.j_ := by
 cases a
 cases b
 simp
instance : DecidableEq PS_ := fun a b => decidable_of_iff (a.x_ = b.x_ ∧ a.z_ = b.z_ ∧ a.p_ = b.p_ ∧ a.u_ = b.u_ ∧ a.j_ = b.j_) PS_.eq_iff.symm
structure PSet where
 l_ : ByteArray
 m_ : ByteArray
 p_ : List Bk
 n_ : List PS_
 j_ : List Pr
theorem PSet.eq_iff {a b : PSet} : a = b ↔ a.l_ = b.l_ ∧ a.m_ = b.m_ ∧ a.p_ = b.p_ ∧ a.n_ = b.n_ ∧ a.j_ = b.j_ := by
 cases a
 cases b
 simp
instance : DecidableEq PSet := fun a b => decidable_of_iff (a.l_ = b.l_ ∧ a.m_ = b.m_ ∧ a.p_ = b.p_ ∧ a.n_ = b.n_ ∧ a.j_ = b.j_) PSet.eq_iff.symm
structure PSum where
 a_ : Int
 b_ : Int
 c_ : Int
 d_ : Int
theorem PSum.eq_iff {a b : PSum} : a = b ↔ a.a_ = b.a_ ∧ a.b_ = b.b_ ∧ a.c_ = b.c_ ∧ a.d_ = b.d_ := by
 cases a
 cases b
 simp
instance : DecidableEq PSum := fun a b => decidable_of_iff (a.a_ = b.a_ ∧ a.b_ = b.b_ ∧ a.c_ = b.c_ ∧ a.d_ = b.d_) PSum.eq_iff.symm
structure PRecord where
 N_ : Int
 x_ : ByteArray
 from_ : Int
 z_ : Int
 j_ : List Pr
 E_ : Int
 Y_ : Int
 P_ : ByteArray
 T_ : PSum
theorem PRecord.eq_iff {a b : PRecord} : a = b ↔ a.N_ = b.N_ ∧ a.x_ = b.x_ ∧ a.from_ = b.from_ ∧ a.z_ = b.z_ ∧ a.j_ = b.j_ ∧ a.E_ = b.E_ ∧ a.Y_ = b.Y_ ∧ a.P_ = b.P_ ∧ a.T_ = b.T_ := by
 cases a
 cases b
 simp
instance : DecidableEq PRecord := fun a b => decidable_of_iff (a.N_ = b.N_ ∧ a.x_ = b.x_ ∧ a.from_ = b.from_ ∧ a.z_ = b.z_ ∧ a.j_ = b.j_ ∧ a.E_ = b.E_ ∧ a.Y_ = b.Y_ ∧ a.P_ = b.P_ ∧ a.T_ = b.T_) PRecord.eq_iff.symm
structure PStage where
 S_ : ByteArray
 o_ : PRecord
 p_ : List Bk
 at_ : Int
 v_ : Int
 T_ : PSum
 done_ : Bool
theorem PStage.eq_iff {a b : PStage} : a = b ↔ a.S_ = b.S_ ∧ a.o_ = b.o_ ∧ a.p_ = b.p_ ∧ a.at_ = b.at_ ∧ a.v_ = b.v_ ∧ a.T_ = b.T_ ∧ a.done_ = b.done_ := by
 cases a
 cases b
 simp
instance : DecidableEq PStage := fun a b => decidable_of_iff (a.S_ = b.S_ ∧ a.o_ = b.o_ ∧ a.p_ = b.p_ ∧ a.at_ = b.at_ ∧ a.v_ = b.v_ ∧ a.T_ = b.T_ ∧ a.done_ = b.done_) PStage.eq_iff.symm
structure PEntry where
 O_ : ByteArray
 N_ : Int
 l_ : ByteArray
 err_ : Int
theorem PEntry.eq_iff {a b : PEntry} : a = b ↔ a.O_ = b.O_ ∧ a.N_ = b.N_ ∧ a.l_ = b.l_ ∧ a.err_ = b.err_ := by
 cases a
 cases b
 simp
instance : DecidableEq PEntry := fun a b => decidable_of_iff (a.O_ = b.O_ ∧ a.N_ = b.N_ ∧ a.l_ = b.l_ ∧ a.err_ = b.err_) PEntry.eq_iff.symm
structure PT_ where
 x_ : ByteArray
 r_ : Int
 v_ : Int
 y_ : List PSet
 g_ : List Gr
 t_ : List PStage
 h_ : List PEntry
theorem PT_.eq_iff {a b : PT_} : a = b ↔ a.x_ = b.x_ ∧ a.r_ = b.r_ ∧ a.v_ = b.v_ ∧ a.y_ = b.y_ ∧ a.g_ = b.g_ ∧ a.t_ = b.t_ ∧ a.h_ = b.h_ := by
 cases a
 cases b
 simp
instance : DecidableEq PT_ := fun a b => decidable_of_iff (a.x_ = b.x_ ∧ a.r_ = b.r_ ∧ a.v_ = b.v_ ∧ a.y_ = b.y_ ∧ a.g_ = b.g_ ∧ a.t_ = b.t_ ∧ a.h_ = b.h_) PT_.eq_iff.symm
theorem dropWhile_all {α : Type} {p : α → Bool} : ∀ {l : List α}, (∀ x ∈ l, p x = true) → l.dropWhile p = []
 | [], _ => rfl
 | x :: l, h => by
  rw [List.dropWhile_cons, if_pos (h x (by simp))]
  exact dropWhile_all fun y hy => h y (by simp [hy])
def aboveL (l : List UInt8) : List UInt8 := ((l.reverse.dropWhile fun c => decide (c ≠ 47)).drop 1).reverse
theorem aboveL_top {l : List UInt8} (h : (47 : UInt8) ∉ l) : aboveL l = [] := by
 unfold aboveL
 have : l.reverse.dropWhile (fun c => decide (c ≠ 47)) = [] := by
  refine dropWhile_all fun x hx => ?_
  rw [List.mem_reverse] at hx
  exact decide_eq_true fun e => h (e ▸ hx)
 rw [this]
 rfl
theorem aboveL_up {a b : List UInt8} (h : (47 : UInt8) ∉ b) : aboveL (a ++ 47 :: b) = a := by
 unfold aboveL
 have e : (a ++ 47 :: b).reverse = b.reverse ++ 47 :: a.reverse := by simp
 have : (b.reverse ++ 47 :: a.reverse).dropWhile (fun c => decide (c ≠ 47)) = 47 :: a.reverse := by
  rw [List.dropWhile_append_of_pos]
  · simp
  · intro x hx
    rw [List.mem_reverse] at hx
    exact decide_eq_true fun e => h (e ▸ hx)
 rw [e, this]
 simp
theorem last_slash {l : List UInt8} (h : (47 : UInt8) ∈ l) : ∃ a b, l = a ++ 47 :: b ∧ (47 : UInt8) ∉ b := by
 induction l with
 | nil => cases h
 | cons x l ih =>
  by_cases hm : (47 : UInt8) ∈ l
  · obtain ⟨a, b, rfl, hb⟩ := ih hm
    exact ⟨x :: a, b, rfl, hb⟩
  · rcases List.mem_cons.1 h with rfl | h
    · exact ⟨[], l, rfl, hm⟩
    · exact absurd h hm
def upP (p : ByteArray) : Option ByteArray := if zeX (bs p) = false ∨ p = ByteArray.empty then none else some (ofL (aboveL (bs p)))
theorem upP_none {p : ByteArray} (h : zeX (bs p) = true) : upP p = none ↔ p = ByteArray.empty := by
 unfold upP
 rw [h]
 by_cases e : p = ByteArray.empty
 · simp [e]
 · simp [e]
theorem upP_some {p : ByteArray} (h : zeX (bs p) = true) (hp : p ≠ ByteArray.empty) : upP p = some (ofL (aboveL (bs p))) := by
 unfold upP
 rw [if_neg]
 rintro (e | e)
 · rw [h] at e; cases e
 · exact hp e
theorem upP_off {p : ByteArray} (h : zeX (bs p) = false) : upP p = none := by
 unfold upP
 rw [if_pos (.inl h)]
def setAt (t : PT_) (p : ByteArray) : Option PSet := t.y_.find? fun s => decide (s.l_ = p)
theorem setAt_some {t : PT_} {p : ByteArray} {s : PSet} (h : setAt t p = some s) : s ∈ t.y_ ∧ s.l_ = p := by
 unfold setAt at h
 exact ⟨List.mem_of_find?_eq_some h, of_decide_eq_true (List.find?_some (p := fun s : PSet => decide (s.l_ = p)) h)⟩
theorem setAt_none {t : PT_} {p : ByteArray} : setAt t p = none ↔ ∀ s ∈ t.y_, s.l_ ≠ p := by
 unfold setAt
 rw [List.find?_eq_none]
 simp
def amt (m n : Int) : Bool := decide (m ≤ n) && decide (n ≤ 1099511627776)
def ltTx (a b : ByteArray) : Bool := Op.bytesLess a.toList b.toList
def riseB {α : Type} (lt : α → α → Bool) : List α → Bool
 | [] => true
 | [_] => true
 | a :: b :: l => lt a b && riseB lt (b :: l)
theorem riseB_iff {α : Type} {lt : α → α → Bool} : ∀ {l : List α}, riseB lt l = true ↔ ∀ j y x, l[j]? = some y → l[j + 1]? = some x → lt y x = true
 | [] => by simp [riseB]
 | [_] => by
  simp only [riseB, true_iff]
  intro j y x _ h
  simp at h
 | a :: b :: l => by
  rw [riseB, Bool.and_eq_true, riseB_iff]
  constructor
  · rintro ⟨h1, h2⟩ j y x hy hx
    rcases j with _ | j
    · simp at hy hx
      subst hy hx
      exact h1
    · exact h2 j y x (by simpa using hy) (by simpa using hx)
  · intro h
    exact ⟨h 0 a b rfl rfl, fun j y x hy hx => h (j + 1) y x (by simpa using hy) (by simpa using hx)⟩
theorem riseB_pair {α : Type} {lt : α → α → Bool} (ht : ∀ a b c, lt a b = true → lt b c = true → lt a c = true) : ∀ {l : List α}, riseB lt l = true → l.Pairwise fun a b => lt a b = true
 | [], _ => .nil
 | [_], _ => by simp
 | a :: b :: l, h => by
  rw [riseB, Bool.and_eq_true] at h
  have hp := riseB_pair ht h.2
  refine List.pairwise_cons.2 ⟨fun c hc => ?_, hp⟩
  rcases List.mem_cons.1 hc with rfl | hc
  · exact h.1
  · exact ht a b c h.1 ((List.pairwise_cons.1 hp).1 c hc)
def UpTo {α : Type} (good : α → Bool) (lt : α → α → Bool) (l : List α) (k : Nat) : Prop := ∀ i x, i < k → l[i]? = some x → good x = true ∧ ∀ j y, i = j + 1 → l[j]? = some y → lt y x = true
def goodL {α : Type} (good : α → Bool) (lt : α → α → Bool) (l : List α) : Bool := l.all good && riseB lt l
theorem upTo_zero {α : Type} {good : α → Bool} {lt : α → α → Bool} {l : List α} : UpTo good lt l 0 := fun _ _ h _ => absurd h (Nat.not_lt_zero _)
theorem upTo_end {α : Type} {good : α → Bool} {lt : α → α → Bool} {l : List α} {k : Nat} (h : UpTo good lt l k) (hk : l.length ≤ k) : goodL good lt l = true := by
 unfold goodL
 rw [Bool.and_eq_true, List.all_eq_true, riseB_iff]
 constructor
 · intro x hx
   obtain ⟨i, hi⟩ := List.getElem?_of_mem hx
   exact (h i x (by have := (List.getElem?_eq_some_iff.1 hi).1; omega) hi).1
 · intro j y x hy hx
   exact (h (j + 1) x (by have := (List.getElem?_eq_some_iff.1 hx).1; omega) hx).2 j y rfl hy
theorem upTo_succ {α : Type} {good : α → Bool} {lt : α → α → Bool} {l : List α} {k : Nat} (h : UpTo good lt l k) {x : α} (hx : l[k]? = some x) (hg : good x = true) (hr : ∀ j y, k = j + 1 → l[j]? = some y → lt y x = true) : UpTo good lt l (k + 1) := fun i z hi hz => by
 by_cases e : i = k
 · subst e
   rw [hx] at hz
   injection hz with hz
   subst hz
   exact ⟨hg, hr⟩
 · exact h i z (by omega) hz
theorem goodL_bad {α : Type} {good : α → Bool} {lt : α → α → Bool} {l : List α} {k : Nat} {x : α} (hx : l[k]? = some x) (hg : good x = false) : goodL good lt l = false := by
 rw [← Bool.not_eq_true]
 intro h
 unfold goodL at h
 rw [Bool.and_eq_true, List.all_eq_true] at h
 rw [h.1 x (mG hx)] at hg
 cases hg
theorem goodL_low {α : Type} {good : α → Bool} {lt : α → α → Bool} {l : List α} {k : Nat} {x y : α} (hy : l[k]? = some y) (hx : l[k + 1]? = some x) (hg : lt y x = false) : goodL good lt l = false := by
 rw [← Bool.not_eq_true]
 intro h
 unfold goodL at h
 rw [Bool.and_eq_true, riseB_iff] at h
 rw [h.2 k y x hy hx] at hg
 cases hg
def tagsB (l : List ByteArray) : Bool := goodL (fun s => zaQ (bs s)) ltTx l && decide (l.length ≤ 4)
def snapB (s : PS_) : Bool := zaQ (bs s.x_) && (amt 1 s.z_ && (tagsB s.u_ && (okK s.p_ && okP s.j_)))
def ltGuid (a b : PS_) : Bool := decide (a.z_ < b.z_)
def noTwo (l : List PS_) : Bool := decide ((l.map PS_.x_).Nodup)
def snapsB (l : List PS_) : Bool := goodL snapB ltGuid l && (noTwo l && decide (l.length ≤ 16))
def splitP (s : ByteArray) : Option (ByteArray × ByteArray) := match (bs s).idxOf? 64 with
 | none => none
 | some i => if zeX ((bs s).take i) && zaQ ((bs s).drop (i + 1)) then some (ofL ((bs s).take i), ofL ((bs s).drop (i + 1))) else none
def parV (s : ByteArray) : Value := match upP s with | none => .tuple #[.string ByteArray.empty, .bool false] | some u => .tuple #[.string u, .bool true]
def splV (s : ByteArray) : Value := match splitP s with | none => .tuple #[.string ByteArray.empty, .string ByteArray.empty, .int .i64 31] | some x => .tuple #[.string x.1, .string x.2, .int .i64 0]
def zeQ (s : PSet) (n : ByteArray) : Bool := s.n_.any fun x => decide (x.x_ = n)
def origB (t : PT_) (s : PSet) : Bool := decide (s.m_ = ByteArray.empty) || match splitP s.m_ with
 | none => false
 | some (p, n) => decide (p ≠ s.l_) && match setAt t p with
  | none => false
  | some x => zeQ x n
def hasSet (t : PT_) (p : ByteArray) : Bool := (setAt t p).isSome
def upB (t : PT_) (p : ByteArray) : Bool := match upP p with
 | none => decide (p = ByteArray.empty)
 | some u => hasSet t u
def setB (t : PT_) (s : PSet) : Bool := upB t s.l_ && (okK s.p_ && (okP s.j_ && (snapsB s.n_ && origB t s)))
def ltPath (a b : PSet) : Bool := ltTx a.l_ b.l_
def zeroSum (s : PSum) : Bool := decide (s = ⟨0, 0, 0, 0⟩)
def beginB (r : PRecord) : Bool := decide (r.N_ = 1) && (zaQ (bs r.x_) && (amt 0 r.from_ && (amt 1 r.z_ && (okP r.j_ && (decide (r.E_ = 0) && (decide (r.Y_ = 0) && (decide (r.P_ = ByteArray.empty) && zeroSum r.T_)))))))
def zeZ (s : PStage) : Bool := decide (s.S_ ≠ ByteArray.empty) && (zeX (bs s.S_) && (beginB s.o_ && (okK s.p_ && (amt 0 s.at_ && amt 0 s.v_))))
def ltInto (a b : PStage) : Bool := ltTx a.S_ b.S_
def zfQ (x : PEntry) : Bool := (decide (x.O_ = ByteArray.empty) || zaQ (bs x.O_)) && (zeX (bs x.l_) && (amt 0 x.N_ && amt 0 x.err_))
def okT (t : PT_) : Bool := zaQ (bs t.x_) && (amt 0 t.r_ && (amt 1 t.v_ && (decide (t.y_.length ≤ 32) && (hasSet t ByteArray.empty && (okG t.g_ && (decide (t.t_.length ≤ 4) && (decide (t.h_.length ≤ 16) &&
 (goodL (setB t) ltPath t.y_ && (goodL zeZ ltInto t.t_ && t.h_.all zfQ)))))))))
end Go.Proofs.YtimmcmjipmkebaaGreat
namespace Go.Proofs.YtimmcmjipmkebaaGreat
open Go.ChangeShapes Go.WideShapes Go.ChangeAt Go.RowKit
set_option maxRecDepth 100000
def chg (L : List (List Bk)) : Nat := (L.map fun l => 1 + l.length).sum
theorem chg_snoc (L : List (List Bk)) (l : List Bk) : chg (L ++ [l]) = chg L + (1 + l.length) := by simp [chg]
theorem chg_take {L : List (List Bk)} {k : Nat} {l : List Bk} (h : L[k]? = some l) : chg (L.take (k + 1)) = chg (L.take k) + (1 + l.length) := by
 obtain ⟨hk, rfl⟩ := List.getElem?_eq_some_iff.1 h
 rw [List.take_succ_eq_append_getElem hk, chg_snoc]
theorem w64_add (a b : Int) : wrap64 (wrap64 a + b) = wrap64 (a + b) := by unfold wrap64; omega
end Go.Proofs.YtimmcmjipmkebaaGreat
namespace Go.Proofs.YtimmcmjipmkebaaGreat
set_option maxRecDepth 100000
def setN (s : PSet) : Nat := chg (s.n_.map PS_.p_ ++ [s.p_])
def chgP (t : PT_) : Nat := (t.y_.map setN).sum + (t.t_.map fun s => 1 + s.p_.length).sum
def noT : PT_ := ⟨ByteArray.empty, 0, 0, [], [], [], []⟩
def settledP (t : PT_) : PT_ × Int := if (chgP t : Int) ≤ t.r_ then (t, 0) else (noT, 42)
/-! ## What may be, by its sets -/
theorem ltTx_lt {a b : ByteArray} : ltTx a b = true ↔ ltK a b := Iff.rfl
theorem okT_parts {t : PT_} : okT t = true ↔ (zaQ (bs t.x_) = true ∧ amt 0 t.r_ = true ∧ amt 1 t.v_ = true ∧ okG t.g_ = true ∧ t.t_.length ≤ 4 ∧ t.h_.length ≤ 16 ∧ goodL zeZ ltInto t.t_ = true ∧ t.h_.all zfQ = true) ∧
 t.y_.length ≤ 32 ∧ hasSet t ByteArray.empty = true ∧ goodL (setB t) ltPath t.y_ = true := by
 unfold okT
 simp only [Bool.and_eq_true, decide_eq_true_eq]
 constructor
 · rintro ⟨a, b, c, d, e, f, g, h, i, j, k⟩
   exact ⟨⟨a, b, c, f, g, h, j, k⟩, d, e, i⟩
 · rintro ⟨⟨a, b, c, f, g, h, j, k⟩, d, e, i⟩
   exact ⟨a, b, c, d, e, f, g, h, i, j, k⟩
theorem goodL_iff {α : Type} {good : α → Bool} {lt : α → α → Bool} (ht : ∀ a b c, lt a b = true → lt b c = true → lt a c = true) {l : List α} : goodL good lt l = true ↔ (∀ x ∈ l, good x = true) ∧ l.Pairwise fun a b => lt a b = true := by
 unfold goodL
 rw [Bool.and_eq_true, List.all_eq_true]
 constructor
 · rintro ⟨h1, h2⟩
   exact ⟨h1, riseB_pair ht h2⟩
 · rintro ⟨h1, h2⟩
   refine ⟨h1, riseB_iff.2 fun j y x hy hx => ?_⟩
   obtain ⟨hj, ey⟩ := List.getElem?_eq_some_iff.1 hy
   obtain ⟨hk, ex⟩ := List.getElem?_eq_some_iff.1 hx
   have := List.pairwise_iff_getElem.1 h2 j (j + 1) hj hk (by omega)
   rwa [ey, ex] at this
theorem ltPath_trans (a b c : PSet) (h : ltPath a b = true) (k : ltPath b c = true) : ltPath a c = true := ltK_trans (ltTx_lt.1 h) (ltTx_lt.1 k)
/-! ## A set more -/
theorem rise_at {t : PT_} (h : t.y_.Pairwise fun a b => ltPath a b = true) {x : PSet} (hx : x ∈ t.y_) : setAt t x.l_ = some x := by
 rcases hs : setAt t x.l_ with _ | y
 · exact absurd rfl (setAt_none.1 hs x hx)
 · obtain ⟨hy, he⟩ := setAt_some hs
   by_cases hxy : y = x
   · rw [hxy]
   · exfalso
     have hne : ∀ a b : PSet, a ∈ t.y_ → b ∈ t.y_ → a.l_ = b.l_ → a = b := by
      intro a b ha hb hab
      obtain ⟨i, hi, rfl⟩ := List.getElem_of_mem ha
      obtain ⟨j, hj, rfl⟩ := List.getElem_of_mem hb
      rcases Nat.lt_trichotomy i j with hij | hij | hij
      · exact absurd hab (ltK_ne (ltTx_lt.1 (List.pairwise_iff_getElem.1 h i j hi hj hij)))
      · subst hij
        rfl
      · exact absurd hab.symm (ltK_ne (ltTx_lt.1 (List.pairwise_iff_getElem.1 h j i hj hi hij)))
     exact hxy (hne y x hy hx he)
theorem hasSet_iff {t : PT_} {p : ByteArray} : hasSet t p = true ↔ ∃ y, setAt t p = some y := by
 unfold hasSet
 exact Option.isSome_iff_exists
theorem settled_may {t : PT_} (he : (settledP t).2 = 0) : settledP t = (t, 0) ∧ (chgP t : Int) ≤ t.r_ := by
 unfold settledP at he ⊢
 split at he
 · rename_i hc
   exact ⟨by rw [if_pos hc], hc⟩
 · cases he
/-! ## A block written -/
/-! ## A set gone -/
/-! ## There and gone -/
/-! ## How great a charge may be -/
theorem chg_le {L : List (List Bk)} (h : ∀ l ∈ L, l.length ≤ 1024) : chg L ≤ L.length * 1025 := by
 induction L with
 | nil => exact Nat.le_refl _
 | cons l L ih =>
  have h1 := h l (by simp)
  have h2 := ih fun x hx => h x (List.mem_cons_of_mem _ hx)
  unfold chg at *
  rw [List.map_cons, List.sum_cons, List.length_cons, Nat.add_mul]
  omega
theorem setN_le {t : PT_} {s : PSet} (h : setB t s = true) : setN s ≤ 17425 := by
 unfold setB at h
 simp only [Bool.and_eq_true] at h
 obtain ⟨_, hb, _, hs, _⟩ := h
 unfold snapsB goodL at hs
 simp only [Bool.and_eq_true, decide_eq_true_eq, List.all_eq_true] at hs
 obtain ⟨⟨hg, _⟩, _, hl⟩ := hs
 unfold setN
 refine Nat.le_trans (chg_le fun l hl' => ?_) ?_
 · rcases List.mem_append.1 hl' with hm | hm
   · obtain ⟨x, hx, rfl⟩ := List.mem_map.1 hm
     have := hg x hx
     unfold snapB at this
     simp only [Bool.and_eq_true] at this
     exact okK_len this.2.2.2.1
   · simp at hm
     subst hm
     exact okK_len hb
 · simp only [List.length_append, List.length_map, List.length_singleton]
   omega
theorem sum_le {α : Type} (f : α → Nat) (n : Nat) {l : List α} (h : ∀ x ∈ l, f x ≤ n) : (l.map f).sum ≤ l.length * n := by
 induction l with
 | nil => exact Nat.zero_le _
 | cons x l ih =>
  have h1 := h x (by simp)
  have h2 := ih fun y hy => h y (List.mem_cons_of_mem _ hy)
  rw [List.map_cons, List.sum_cons, List.length_cons, Nat.add_mul]
  omega
theorem chgP_small {t : PT_} (h : okT t = true) : chgP t ≤ 600000 := by
 obtain ⟨h1, h2, _, h4⟩ := okT_parts.1 h
 obtain ⟨g1, _⟩ := (goodL_iff ltPath_trans).1 h4
 have a := sum_le setN 17425 (l := t.y_) fun x hx => setN_le (g1 x hx)
 have b := sum_le (fun s : PStage => 1 + s.p_.length) 1025 (l := t.t_) fun x hx => by
  have hg := h1.2.2.2.2.2.2.1
  unfold goodL at hg
  simp only [Bool.and_eq_true, List.all_eq_true] at hg
  have := hg.1 x hx
  unfold zeZ at this
  simp only [Bool.and_eq_true] at this
  have := okK_len this.2.2.2.1
  show 1 + x.p_.length ≤ 1025
  omega
 have hst := h1.2.2.2.2.1
 unfold chgP
 have := Nat.mul_le_mul_right 17425 h2
 have := Nat.mul_le_mul_right 1025 hst
 omega
def mapP (t : PT_) (f : PSet → PSet) (n : Int) : PT_ := { t with y_ := t.y_.map f, v_ := n }
theorem mapT_at {t : PT_} {f : PSet → PSet} {n : Int} (hf : ∀ x, (f x).l_ = x.l_) {q : ByteArray} {y : PSet} (h : setAt t q = some y) : setAt (mapP t f n) q = some (f y) := by
 unfold setAt mapP at *
 rw [List.find?_map]
 have e : ((fun s : PSet => decide (s.l_ = q)) ∘ f) = fun s : PSet => decide (s.l_ = q) := by
  funext x
  simp only [Function.comp, hf]
 rw [e, h]
 rfl
theorem map_ok {t : PT_} {f : PSet → PSet} {n : Int} (h : okT t = true) (hn : amt 1 n = true) (hf : ∀ x, (f x).l_ = x.l_) (hs : ∀ x ∈ t.y_, setB t x = true → setB (mapP t f n) (f x) = true) : okT (mapP t f n) = true := by
 obtain ⟨⟨a1, a2, _, a4, a5, a6, a7, a8⟩, h2, h3, h4⟩ := okT_parts.1 h
 obtain ⟨g1, g2⟩ := (goodL_iff ltPath_trans).1 h4
 refine okT_parts.2 ⟨⟨a1, a2, hn, a4, a5, a6, a7, a8⟩, by show (t.y_.map f).length ≤ 32; rw [List.length_map]; exact h2, ?_, (goodL_iff ltPath_trans).2 ⟨?_, ?_⟩⟩
 · obtain ⟨y, hy⟩ := hasSet_iff.1 h3
   exact hasSet_iff.2 ⟨_, mapT_at hf hy⟩
 · intro x hx
   obtain ⟨y, hy, rfl⟩ := List.mem_map.1 (show x ∈ t.y_.map f from hx)
   exact hs y hy (g1 y hy)
 · show (t.y_.map f).Pairwise _
   rw [List.pairwise_map]
   refine g2.imp fun {x y} hxy => ?_
   unfold ltPath at *
   rw [hf, hf]
   exact hxy
theorem setB_to {t t' : PT_} {x x' : PSet} (h : setB t x = true) (hp : x'.l_ = x.l_) (hb : okK x'.p_ = true) (ho : okP x'.j_ = true) (hsn : snapsB x'.n_ = true)
 (hu : ∀ q y, setAt t q = some y → ∃ y', setAt t' q = some y') (horig : origB t' x' = true) : setB t' x' = true := by
 unfold setB at h ⊢
 simp only [Bool.and_eq_true] at h ⊢
 refine ⟨?_, hb, ho, hsn, horig⟩
 have h1 := h.1
 unfold upB at h1 ⊢
 rw [hp]
 rcases hc : upP x.l_ with _ | u
 · rw [hc] at h1
   exact h1
 · rw [hc] at h1
   obtain ⟨y, hy⟩ := hasSet_iff.1 (show hasSet t u = true from h1)
   obtain ⟨y', hy'⟩ := hu u y hy
   exact hasSet_iff.2 ⟨y', hy'⟩
theorem orig_move {t t' : PT_} {x x' : PSet} (h : origB t x = true) (hp : x'.l_ = x.l_) (ho : x'.m_ = x.m_)
 (H : ∀ q n, splitP x.m_ = some (q, n) → ∀ y, setAt t q = some y → zeQ y n = true → ∃ y', setAt t' q = some y' ∧ zeQ y' n = true) : origB t' x' = true := by
 unfold origB at h ⊢
 rw [ho, hp]
 rw [Bool.or_eq_true] at h ⊢
 rcases h with h | h
 · exact .inl h
 · right
   rcases hs : splitP x.m_ with _ | ⟨q, n⟩
   · rw [hs] at h
     cases h
   · rw [hs] at h
     simp only [Bool.and_eq_true] at h ⊢
     refine ⟨h.1, ?_⟩
     rcases ha : setAt t q with _ | y
     · rw [ha] at h
       cases h.2
     · rw [ha] at h
       obtain ⟨y', hy', hm⟩ := H q n hs y ha h.2
       rw [hy']
       exact hm
theorem setB_parts {t : PT_} {x : PSet} (h : setB t x = true) : okK x.p_ = true ∧ okP x.j_ = true ∧ snapsB x.n_ = true ∧ origB t x = true := by
 unfold setB at h
 simp only [Bool.and_eq_true] at h
 exact h.2
/-! ## Snapshots -/
theorem ltGuid_trans (a b c : PS_) (h : ltGuid a b = true) (k : ltGuid b c = true) : ltGuid a c = true := by
 unfold ltGuid at *
 simp only [decide_eq_true_eq] at *
 omega
theorem snapsB_parts {l : List PS_} : snapsB l = true ↔ ((∀ x ∈ l, snapB x = true) ∧ l.Pairwise fun a b => ltGuid a b = true) ∧ (l.map PS_.x_).Nodup ∧ l.length ≤ 16 := by
 unfold snapsB noTwo
 rw [Bool.and_eq_true, Bool.and_eq_true, goodL_iff ltGuid_trans, decide_eq_true_eq, decide_eq_true_eq]
def guidP (t : PT_) (s : PSet) : Int := match s.n_.getLast? with
 | none => t.v_
 | some x => if t.v_ ≤ x.z_ then x.z_ + 1 else t.v_
theorem guid_next (t : PT_) (s : PSet) : t.v_ ≤ guidP t s := by
 unfold guidP
 split
 · exact Int.le_refl _
 · split <;> omega
theorem guid_last {t : PT_} {s : PSet} {x : PS_} (h : s.n_.getLast? = some x) : x.z_ < guidP t s := by
 unfold guidP
 rw [h]
 dsimp only
 split <;> omega
def zfX (t : PT_) (p n : ByteArray) (more must : Bool) : Int := if okT t = false then 9 else if zeX (bs p) = false ∨ zaQ (bs n) = false ∨ more = false then 31 else match setAt t p with
 | none => 71
 | some s => if must = true ∧ zeQ s n = false then 71 else 0
theorem found_ways {t : PT_} {p n : ByteArray} {more must : Bool} (h : zfX t p n more must = 0) : okT t = true ∧ zeX (bs p) = true ∧ zaQ (bs n) = true ∧ more = true ∧ ∃ s, setAt t p = some s ∧ (must = true → zeQ s n = true) := by
 unfold zfX at h
 split at h
 · cases h
 · split at h
   · cases h
   · rename_i a b
     rcases hs : setAt t p with _ | s
     · rw [hs] at h
       cases h
     · rw [hs] at h
       dsimp only at h
       split at h
       · cases h
       · rename_i c
         simp only [not_or, Bool.not_eq_false] at a b
         refine ⟨a, b.1, b.2.1, b.2.2, s, rfl, fun hm => ?_⟩
         by_cases hh : zeQ s n = true
         · exact hh
         · exact absurd ⟨hm, by simpa using hh⟩ c
def addSn (p n : ByteArray) (g : Int) (x : PSet) : PSet := if x.l_ = p then { x with n_ := x.n_ ++ [{ x_ := n, z_ := g, u_ := [], p_ := x.p_, j_ := x.j_ }] } else x
def snapE (t : PT_) (p n : ByteArray) : Int := if zfX t p n true false ≠ 0 then zfX t p n true false else match setAt t p with
 | none => 71
 | some s => if zeQ s n = true then 6 else if s.n_.length = 16 then 3 else if 1099511627776 ≤ guidP t s then 15 else 0
def snapG (t : PT_) (p : ByteArray) : Int := match setAt t p with
 | none => 0
 | some s => guidP t s
def snapT (t : PT_) (p n : ByteArray) : PT_ := mapP t (addSn p n (snapG t p)) (snapG t p + 1)
def snapshotP (t : PT_) (p n : ByteArray) : PT_ × Int × Int := if snapE t p n ≠ 0 then (noT, 0, snapE t p n) else if (settledP (snapT t p n)).2 ≠ 0 then (noT, 0, (settledP (snapT t p n)).2) else ((settledP (snapT t p n)).1, snapG t p, 0)
theorem snapE_ways {t : PT_} {p n : ByteArray} (h : snapE t p n = 0) : okT t = true ∧ zeX (bs p) = true ∧ zaQ (bs n) = true ∧ ∃ s, setAt t p = some s ∧ zeQ s n = false ∧ s.n_.length ≠ 16 ∧ guidP t s < 1099511627776 := by
 unfold snapE at h
 by_cases hf : zfX t p n true false = 0
 · rw [if_neg (fun k => k hf)] at h
   obtain ⟨h1, h2, h3, _, s, hs, _⟩ := found_ways hf
   rw [hs] at h
   dsimp only at h
   refine ⟨h1, h2, h3, s, hs, ?_⟩
   split at h
   · cases h
   · split at h
     · cases h
     · split at h
       · cases h
       · rename_i a b c
         exact ⟨by simpa using a, b, by omega⟩
 · rw [if_pos hf] at h
   exact absurd h hf
theorem addSn_path (p n : ByteArray) (g : Int) (x : PSet) : (addSn p n g x).l_ = x.l_ := by unfold addSn; split <;> rfl
theorem addSn_origin (p n : ByteArray) (g : Int) (x : PSet) : (addSn p n g x).m_ = x.m_ := by unfold addSn; split <;> rfl
theorem addSn_body (p n : ByteArray) (g : Int) (x : PSet) : (addSn p n g x).p_ = x.p_ := by unfold addSn; split <;> rfl
theorem addSn_own (p n : ByteArray) (g : Int) (x : PSet) : (addSn p n g x).j_ = x.j_ := by unfold addSn; split <;> rfl
theorem addSn_has {p n m : ByteArray} {g : Int} {x : PSet} (h : zeQ x m = true) : zeQ (addSn p n g x) m = true := by
 unfold addSn
 split
 · unfold zeQ at *
   rw [List.any_append, h]
   rfl
 · exact h
theorem snap_ok {t : PT_} {p n : ByteArray} (h : snapE t p n = 0) : okT (snapT t p n) = true := by
 obtain ⟨h1, h2, h3, s, hs, hno, h16, hg⟩ := snapE_ways h
 have hgp : snapG t p = guidP t s := by unfold snapG; rw [hs]
 have ha : amt 1 t.v_ = true := (okT_parts.1 h1).1.2.2.1
 have hr := ((goodL_iff ltPath_trans).1 (okT_parts.1 h1).2.2.2).2
 have hn := guid_next t s
 unfold amt at ha
 simp only [Bool.and_eq_true, decide_eq_true_eq] at ha
 have hgd : amt 1 (snapG t p) = true := by
  unfold amt
  simp only [Bool.and_eq_true, decide_eq_true_eq]
  omega
 refine map_ok h1 ?_ (addSn_path p n _) fun x hx hb => ?_
 · unfold amt
   simp only [Bool.and_eq_true, decide_eq_true_eq]
   omega
 · obtain ⟨b1, b2, b3, b4⟩ := setB_parts hb
   refine setB_to hb (addSn_path p n _ x) (by rw [addSn_body]; exact b1) (by rw [addSn_own]; exact b2) ?_ (fun q y hy => ⟨_, mapT_at (addSn_path p n _) hy⟩) ?_
   · unfold addSn
     split
     · rename_i he
       obtain rfl : x = s := by
        have := rise_at hr hx
        rw [he, hs] at this
        injection this with this
        exact this.symm
       obtain ⟨⟨c1, c2⟩, c3, c4⟩ := snapsB_parts.1 b3
       refine snapsB_parts.2 ⟨⟨?_, ?_⟩, ?_, ?_⟩
       · intro y hy
         rcases List.mem_append.1 hy with hy | hy
         · exact c1 y hy
         · rw [List.mem_singleton] at hy
           subst hy
           unfold snapB
           simp only [Bool.and_eq_true]
           exact ⟨h3, hgd, rfl, b1, b2⟩
       · refine List.pairwise_append.2 ⟨c2, List.pairwise_singleton _ _, fun a ha' b hb' => ?_⟩
         rw [List.mem_singleton] at hb'
         subst hb'
         unfold ltGuid
         rw [decide_eq_true_eq]
         show a.z_ < snapG t p
         rw [hgp]
         rcases hl : x.n_.getLast? with _ | z
         · rw [List.getLast?_eq_none_iff] at hl
           rw [hl] at ha'
           cases ha'
         · have hz := guid_last (t := t) hl
           obtain ⟨ys, hys⟩ := List.getLast?_eq_some_iff.1 hl
           rw [hys] at ha' c2
           rcases List.mem_append.1 ha' with ha' | ha'
           · have := (List.pairwise_append.1 c2).2.2 a ha' z (by simp)
             unfold ltGuid at this
             rw [decide_eq_true_eq] at this
             omega
           · rw [List.mem_singleton] at ha'
             subst ha'
             exact hz
       · rw [List.map_append, List.nodup_append]
         refine ⟨c3, by simp, fun a ha' b hb' => ?_⟩
         simp only [List.map_cons, List.map_nil, List.mem_singleton] at hb'
         subst hb'
         rintro rfl
         obtain ⟨y, hy, hye⟩ := List.mem_map.1 ha'
         unfold zeQ at hno
         rw [List.any_eq_false] at hno
         exact hno y hy (decide_eq_true hye)
       · show (x.n_ ++ [_]).length ≤ 16
         rw [List.length_append]
         simp only [List.length_cons, List.length_nil]
         omega
     · exact b3
   · exact orig_move b4 (addSn_path p n _ x) (addSn_origin p n _ x) fun q m _ y hy hm => ⟨_, mapT_at (addSn_path p n _) hy, addSn_has hm⟩
theorem snapshot_may {t : PT_} {p n : ByteArray} (h : (snapshotP t p n).2.2 = 0) : snapshotP t p n = (snapT t p n, snapG t p, 0) ∧ okT (snapT t p n) = true ∧ (chgP (snapT t p n) : Int) ≤ (snapT t p n).r_ := by
 unfold snapshotP at h ⊢
 by_cases h1 : snapE t p n ≠ 0
 · rw [if_pos h1] at h
   exact absurd h h1
 · rw [if_neg h1] at h ⊢
   by_cases h2 : (settledP (snapT t p n)).2 ≠ 0
   · rw [if_pos h2] at h
     exact absurd h h2
   · rw [if_neg h2]
     obtain ⟨e, hc⟩ := settled_may (Decidable.not_not.1 h2)
     exact ⟨by rw [e], snap_ok (Decidable.not_not.1 h1), hc⟩
/-! ## Without a snapshot -/
def clonesN (t : PT_) (p n : ByteArray) : List ByteArray := (t.y_.filter fun s => match splitP s.m_ with | none => false | some (q, m) => decide (q = p) && decide (m = n)).map PSet.l_
def snapOf (s : PSet) (n : ByteArray) : Option PS_ := s.n_.find? fun x => decide (x.x_ = n)
def unsnapE (t : PT_) (p n : ByteArray) : Int := if zfX t p n true true ≠ 0 then zfX t p n true true else if clonesN t p n ≠ [] then 44 else match setAt t p with
 | none => 71
 | some s => match snapOf s n with
  | none => 71
  | some y => if y.u_ ≠ [] then 43 else 0
def delSn (p n : ByteArray) (x : PSet) : PSet := if x.l_ = p then { x with n_ := x.n_.eraseP fun y => decide (y.x_ = n) } else x
def unsnapP (t : PT_) (p n : ByteArray) : PT_ × Int := if unsnapE t p n ≠ 0 then (noT, unsnapE t p n) else (mapP t (delSn p n) t.v_, 0)
/-! ## Clones -/
theorem snapOf_some {s : PSet} {n : ByteArray} {y : PS_} (h : snapOf s n = some y) : y ∈ s.n_ ∧ y.x_ = n :=
 ⟨List.mem_of_find?_eq_some h, by have := List.find?_some h; simpa using this⟩
theorem snapOf_has {s : PSet} {n : ByteArray} (h : zeQ s n = true) : ∃ y, snapOf s n = some y := by
 unfold zeQ at h
 rw [List.any_eq_true] at h
 obtain ⟨y, hy, hn⟩ := h
 rcases hs : snapOf s n with _ | z
 · unfold snapOf at hs
   rw [List.find?_eq_none] at hs
   exact absurd hn (hs y hy)
 · exact ⟨z, rfl⟩
/-! ## Rolled back -/
/-! ## Another name -/
theorem idxOf_cut {c : UInt8} : ∀ {l : List UInt8} {i : Nat}, l.idxOf? c = some i → l = l.take i ++ c :: l.drop (i + 1)
 | [], i, h => by simp at h
 | x :: l, i, h => by
  rw [List.idxOf?_cons] at h
  rcases hx : (x == c) with _ | _
  · rw [hx] at h
    simp only [Bool.false_eq_true, if_false, Option.map_eq_some_iff] at h
    obtain ⟨j, hj, rfl⟩ := h
    rw [List.take_succ_cons, List.drop_succ_cons, List.cons_append, ← idxOf_cut hj]
  · rw [hx] at h
    simp only [if_true, Option.some.injEq] at h
    subst h
    rw [beq_iff_eq] at hx
    subst hx
    rfl
theorem splitP_bs {s q m : ByteArray} (h : splitP s = some (q, m)) : bs s = bs q ++ 64 :: bs m ∧ zeX (bs q) = true ∧ zaQ (bs m) = true := by
 unfold splitP at h
 rcases hi : (bs s).idxOf? 64 with _ | i
 · rw [hi] at h
   cases h
 · rw [hi] at h
   dsimp only at h
   split at h
   · rename_i hc
     rw [Bool.and_eq_true] at hc
     simp only [Option.some.injEq, Prod.mk.injEq] at h
     obtain ⟨rfl, rfl⟩ := h
     rw [bs_ofL, bs_ofL]
     exact ⟨idxOf_cut hi, hc⟩
   · cases h
/-! ## Behind a snapshot -/
def chS (p : ByteArray) (f : PSet → PSet) (l : List PSet) : List PSet := l.map fun x => if x.l_ = p then f x else x
theorem chS_set {f : PSet → PSet} : ∀ {l : List PSet} {j : Nat} {s : PSet}, (l.Pairwise fun a b => ltPath a b = true) → l[j]? = some s → chS s.l_ f l = l.set j (f s)
 | [], j, s, _, h => by simp at h
 | a :: l, 0, s, hr, h => by
  simp only [List.getElem?_cons_zero, Option.some.injEq] at h
  subst h
  show (if a.l_ = a.l_ then f a else a) :: chS a.l_ f l = f a :: l
  rw [if_pos rfl]
  congr 1
  unfold chS
  conv => rhs; rw [← List.map_id l]
  refine List.map_congr_left fun x hx => ?_
  have h1 := (List.pairwise_cons.1 hr).1 x hx
  rw [if_neg]
  · rfl
  · intro e
    have h2 : ltK a.l_ x.l_ := ltTx_lt.1 h1
    rw [e] at h2
    exact ltK_ne h2 rfl
 | a :: l, j + 1, s, hr, h => by
  rw [List.getElem?_cons_succ] at h
  have h1 := (List.pairwise_cons.1 hr).1 s (mG h)
  have h2 : ¬ a.l_ = s.l_ := by
   intro e
   have h2 : ltK a.l_ s.l_ := ltTx_lt.1 h1
   rw [e] at h2
   exact ltK_ne h2 rfl
  show (if a.l_ = s.l_ then f a else a) :: chS s.l_ f l = a :: l.set j (f s)
  rw [if_neg h2, chS_set (List.pairwise_cons.1 hr).2 h]
end Go.Proofs.YtimmcmjipmkebaaGreat
