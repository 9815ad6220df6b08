/-
  Snap, Set, Sum, Record, Stage, Entry, Tenant, plainly. No conditions.
-/
import Derived.Test.YtoabkbnhdekbdaaGreatMBLM
import Derived.Test.YtoabkbnhdekbdaaGreatMGY
import Derived.IntWalk
namespace Go.Proofs.YtoabkbnhdekbdaaGreat
set_option maxRecDepth 100000
structure PSnap where
  name_ : ByteArray
  guid_ : Int
  body_ : List Bk
  tags_ : List ByteArray
  own_ : List Pr
theorem PSnap.eq_iff {a b : PSnap} : a = b ↔ a.name_ = b.name_ ∧ a.guid_ = b.guid_ ∧ a.body_ = b.body_ ∧ a.tags_ = b.tags_ ∧ a.own_ = b.own_ := by
  cases a
  cases b
  simp
instance : DecidableEq PSnap := fun a b => decidable_of_iff (a.name_ = b.name_ ∧ a.guid_ = b.guid_ ∧ a.body_ = b.body_ ∧ a.tags_ = b.tags_ ∧ a.own_ = b.own_) PSnap.eq_iff.symm
structure PSet where
  path_ : ByteArray
  origin_ : ByteArray
  body_ : List Bk
  snaps_ : List PSnap
  own_ : List Pr
theorem PSet.eq_iff {a b : PSet} : a = b ↔ a.path_ = b.path_ ∧ a.origin_ = b.origin_ ∧ a.body_ = b.body_ ∧ a.snaps_ = b.snaps_ ∧ a.own_ = b.own_ := by
  cases a
  cases b
  simp
instance : DecidableEq PSet := fun a b => decidable_of_iff (a.path_ = b.path_ ∧ a.origin_ = b.origin_ ∧ a.body_ = b.body_ ∧ a.snaps_ = b.snaps_ ∧ a.own_ = b.own_) PSet.eq_iff.symm
structure PSum where
  a_ : Int
  b_ : Int
  c_ : Int
  d_ : Int
theorem PSum.eq_iff {a b : PSum} : a = b ↔ a.a_ = b.a_ ∧ a.b_ = b.b_ ∧ a.c_ = b.c_ ∧ a.d_ = b.d_ := by
  cases a
  cases b
  simp
instance : DecidableEq PSum := fun a b => decidable_of_iff (a.a_ = b.a_ ∧ a.b_ = b.b_ ∧ a.c_ = b.c_ ∧ a.d_ = b.d_) PSum.eq_iff.symm
structure PRecord where
  kind_ : Int
  name_ : ByteArray
  from_ : Int
  guid_ : Int
  own_ : List Pr
  index_ : Int
  count_ : Int
  data_ : ByteArray
  sum_ : PSum
theorem PRecord.eq_iff {a b : PRecord} : a = b ↔ a.kind_ = b.kind_ ∧ a.name_ = b.name_ ∧ a.from_ = b.from_ ∧ a.guid_ = b.guid_ ∧ a.own_ = b.own_ ∧ a.index_ = b.index_ ∧ a.count_ = b.count_ ∧ a.data_ = b.data_ ∧ a.sum_ = b.sum_ := by
  cases a
  cases b
  simp
instance : DecidableEq PRecord := fun a b => decidable_of_iff (a.kind_ = b.kind_ ∧ a.name_ = b.name_ ∧ a.from_ = b.from_ ∧ a.guid_ = b.guid_ ∧ a.own_ = b.own_ ∧ a.index_ = b.index_ ∧ a.count_ = b.count_ ∧ a.data_ = b.data_ ∧ a.sum_ = b.sum_) PRecord.eq_iff.symm
structure PStage where
  into_ : ByteArray
  begin_ : PRecord
  body_ : List Bk
  at_ : Int
  next_ : Int
  sum_ : PSum
  done_ : Bool
theorem PStage.eq_iff {a b : PStage} : a = b ↔ a.into_ = b.into_ ∧ a.begin_ = b.begin_ ∧ a.body_ = b.body_ ∧ a.at_ = b.at_ ∧ a.next_ = b.next_ ∧ a.sum_ = b.sum_ ∧ a.done_ = b.done_ := by
  cases a
  cases b
  simp
instance : DecidableEq PStage := fun a b => decidable_of_iff (a.into_ = b.into_ ∧ a.begin_ = b.begin_ ∧ a.body_ = b.body_ ∧ a.at_ = b.at_ ∧ a.next_ = b.next_ ∧ a.sum_ = b.sum_ ∧ a.done_ = b.done_) PStage.eq_iff.symm
structure PEntry where
  user_ : ByteArray
  kind_ : Int
  path_ : ByteArray
  err_ : Int
theorem PEntry.eq_iff {a b : PEntry} : a = b ↔ a.user_ = b.user_ ∧ a.kind_ = b.kind_ ∧ a.path_ = b.path_ ∧ a.err_ = b.err_ := by
  cases a
  cases b
  simp
instance : DecidableEq PEntry := fun a b => decidable_of_iff (a.user_ = b.user_ ∧ a.kind_ = b.kind_ ∧ a.path_ = b.path_ ∧ a.err_ = b.err_) PEntry.eq_iff.symm
structure PTenant where
  name_ : ByteArray
  quota_ : Int
  next_ : Int
  sets_ : List PSet
  grants_ : List Gr
  stages_ : List PStage
  log_ : List PEntry
theorem PTenant.eq_iff {a b : PTenant} : a = b ↔ a.name_ = b.name_ ∧ a.quota_ = b.quota_ ∧ a.next_ = b.next_ ∧ a.sets_ = b.sets_ ∧ a.grants_ = b.grants_ ∧ a.stages_ = b.stages_ ∧ a.log_ = b.log_ := by
  cases a
  cases b
  simp
instance : DecidableEq PTenant := fun a b => decidable_of_iff (a.name_ = b.name_ ∧ a.quota_ = b.quota_ ∧ a.next_ = b.next_ ∧ a.sets_ = b.sets_ ∧ a.grants_ = b.grants_ ∧ a.stages_ = b.stages_ ∧ a.log_ = b.log_) PTenant.eq_iff.symm
def overL (ls : List (List Pr)) : List Pr := ls.foldl overP []
def overE (ls : List (List Pr)) : Int := if ls.all okP = false then 9 else if 8 < (overL ls).length then 3 else 0
def overR (ls : List (List Pr)) : List Pr := if overE ls = 0 then overL ls else []
theorem overL_snoc (ls : List (List Pr)) (l : List Pr) : overL (ls ++ [l]) = overP (overL ls) l := by simp [overL, List.foldl_append]
theorem overL_rise (ls : List (List Pr)) : RisP (overL ls) := by
  unfold overL
  suffices H : ∀ (ls : List (List Pr)) (a : List Pr), RisP a → RisP (ls.foldl overP a) from H ls [] List.Pairwise.nil
  intro ls
  induction ls with
  | nil => exact fun a h => h
  | cons l ls ih => exact fun a h => ih _ (overP_rise h l)
theorem overP_len {a : List Pr} (ha : RisP a) (b : List Pr) : a.length ≤ (overP a b).length := by
  induction b generalizing a with
  | nil => exact Nat.le_refl _
  | cons p b ih =>
    refine Nat.le_trans ?_ (ih (putP_rise ha p))
    rw [putP_length ha]
    split <;> omega
theorem overL_len (ls : List (List Pr)) (k : Nat) : (overL (ls.take k)).length ≤ (overL ls).length := by
  have e : overL ls = (ls.drop k).foldl overP (overL (ls.take k)) := by
    conv => lhs; rw [← List.take_append_drop k ls]
    exact List.foldl_append
  rw [e]
  suffices H : ∀ (ms : List (List Pr)) (a : List Pr), RisP a → a.length ≤ (ms.foldl overP a).length from H _ _ (overL_rise _)
  intro ms
  induction ms with
  | nil => exact fun a _ => Nat.le_refl _
  | cons l ms ih => exact fun a h => Nat.le_trans (overP_len h l) (ih _ (overP_rise h l))
theorem overP_snoc (a : List Pr) {l : List Pr} {j : Nat} {x : Pr} (hx : l[j]? = some x) : overP a (l.take (j + 1)) = putP (overP a (l.take j)) x := by
  rw [List.take_add_one, hx]
  simp [overP, List.foldl_append]
theorem takeMap {α β : Type} (f : α → β) {l : List α} {k : Nat} {x : α} (hx : l[k]? = some x) : (l.map f).take (k + 1) = (l.map f).take k ++ [f x] := by
  rw [List.take_add_one, List.getElem?_map, hx]
  rfl
theorem overL_mem : ∀ {ls : List (List Pr)} {p : Pr}, p ∈ overL ls → ∃ l ∈ ls, p ∈ l := by
  intro ls p
  suffices H : ∀ (ls : List (List Pr)) (a : List Pr), p ∈ ls.foldl overP a → p ∈ a ∨ ∃ l ∈ ls, p ∈ l by
    intro h
    rcases H ls [] h with h | h
    · simp at h
    · exact h
  have hO : ∀ (b a : List Pr), p ∈ overP a b → p ∈ a ∨ p ∈ b := by
    intro b
    induction b with
    | nil => exact fun a h => .inl h
    | cons q b ih =>
      intro a h
      rcases ih _ h with h | h
      · rcases putP_mem h with rfl | h
        · exact .inr (by simp)
        · exact .inl h
      · exact .inr (by simp [h])
  intro ls
  induction ls with
  | nil => exact fun a h => .inl h
  | cons l ls ih =>
    intro a h
    rcases ih _ h with h | ⟨m, hm, h⟩
    · rcases hO l a h with h | h
      · exact .inl h
      · exact .inr ⟨l, by simp, h⟩
    · exact .inr ⟨m, by simp [hm], h⟩
theorem dropWhile_all {α : Type} {p : α → Bool} : ∀ {l : List α}, (∀ x ∈ l, p x = true) → l.dropWhile p = []
  | [], _ => rfl
  | x :: l, h => by
    rw [List.dropWhile_cons, if_pos (h x (by simp))]
    exact dropWhile_all fun y hy => h y (by simp [hy])
def aboveL (l : List UInt8) : List UInt8 := ((l.reverse.dropWhile fun c => decide (c ≠ 47)).drop 1).reverse
theorem aboveL_top {l : List UInt8} (h : (47 : UInt8) ∉ l) : aboveL l = [] := by
  unfold aboveL
  have : l.reverse.dropWhile (fun c => decide (c ≠ 47)) = [] := by
    refine dropWhile_all fun x hx => ?_
    rw [List.mem_reverse] at hx
    exact decide_eq_true fun e => h (e ▸ hx)
  rw [this]
  rfl
theorem aboveL_up {a b : List UInt8} (h : (47 : UInt8) ∉ b) : aboveL (a ++ 47 :: b) = a := by
  unfold aboveL
  have e : (a ++ 47 :: b).reverse = b.reverse ++ 47 :: a.reverse := by simp
  have : (b.reverse ++ 47 :: a.reverse).dropWhile (fun c => decide (c ≠ 47)) = 47 :: a.reverse := by
    rw [List.dropWhile_append_of_pos]
    · simp
    · intro x hx
      rw [List.mem_reverse] at hx
      exact decide_eq_true fun e => h (e ▸ hx)
  rw [e, this]
  simp
theorem last_slash {l : List UInt8} (h : (47 : UInt8) ∈ l) : ∃ a b, l = a ++ 47 :: b ∧ (47 : UInt8) ∉ b := by
  induction l with
  | nil => cases h
  | cons x l ih =>
    by_cases hm : (47 : UInt8) ∈ l
    · obtain ⟨a, b, rfl, hb⟩ := ih hm
      exact ⟨x :: a, b, rfl, hb⟩
    · rcases List.mem_cons.1 h with rfl | h
      · exact ⟨[], l, rfl, hm⟩
      · exact absurd h hm
def upP (p : ByteArray) : Option ByteArray := if isPath (bs p) = false ∨ p = ByteArray.empty then none else some (ofL (aboveL (bs p)))
theorem upP_none {p : ByteArray} (h : isPath (bs p) = true) : upP p = none ↔ p = ByteArray.empty := by
  unfold upP
  rw [h]
  by_cases e : p = ByteArray.empty
  · simp [e]
  · simp [e]
theorem upP_some {p : ByteArray} (h : isPath (bs p) = true) (hp : p ≠ ByteArray.empty) : upP p = some (ofL (aboveL (bs p))) := by
  unfold upP
  rw [if_neg]
  rintro (e | e)
  · rw [h] at e; cases e
  · exact hp e
theorem upP_off {p : ByteArray} (h : isPath (bs p) = false) : upP p = none := by
  unfold upP
  rw [if_pos (.inl h)]
def setAt (t : PTenant) (p : ByteArray) : Option PSet := t.sets_.find? fun s => decide (s.path_ = p)
def amt (m n : Int) : Bool := decide (m ≤ n) && decide (n ≤ 1099511627776)
def ltTx (a b : ByteArray) : Bool := Op.bytesLess a.toList b.toList
def riseB {α : Type} (lt : α → α → Bool) : List α → Bool
  | [] => true
  | [_] => true
  | a :: b :: l => lt a b && riseB lt (b :: l)
theorem riseB_iff {α : Type} {lt : α → α → Bool} : ∀ {l : List α}, riseB lt l = true ↔ ∀ j y x, l[j]? = some y → l[j + 1]? = some x → lt y x = true
  | [] => by simp [riseB]
  | [_] => by
    simp only [riseB, true_iff]
    intro j y x _ h
    simp at h
  | a :: b :: l => by
    rw [riseB, Bool.and_eq_true, riseB_iff]
    constructor
    · rintro ⟨h1, h2⟩ j y x hy hx
      rcases j with _ | j
      · simp at hy hx
        subst hy hx
        exact h1
      · exact h2 j y x (by simpa using hy) (by simpa using hx)
    · intro h
      exact ⟨h 0 a b rfl rfl, fun j y x hy hx => h (j + 1) y x (by simpa using hy) (by simpa using hx)⟩
theorem riseB_pair {α : Type} {lt : α → α → Bool} (ht : ∀ a b c, lt a b = true → lt b c = true → lt a c = true) : ∀ {l : List α}, riseB lt l = true → l.Pairwise fun a b => lt a b = true
  | [], _ => .nil
  | [_], _ => by simp
  | a :: b :: l, h => by
    rw [riseB, Bool.and_eq_true] at h
    have hp := riseB_pair ht h.2
    refine List.pairwise_cons.2 ⟨fun c hc => ?_, hp⟩
    rcases List.mem_cons.1 hc with rfl | hc
    · exact h.1
    · exact ht a b c h.1 ((List.pairwise_cons.1 hp).1 c hc)
def UpTo {α : Type} (good : α → Bool) (lt : α → α → Bool) (l : List α) (k : Nat) : Prop := ∀ i x, i < k → l[i]? = some x → good x = true ∧ ∀ j y, i = j + 1 → l[j]? = some y → lt y x = true
def goodL {α : Type} (good : α → Bool) (lt : α → α → Bool) (l : List α) : Bool := l.all good && riseB lt l
theorem upTo_zero {α : Type} {good : α → Bool} {lt : α → α → Bool} {l : List α} : UpTo good lt l 0 := fun _ _ h _ => absurd h (Nat.not_lt_zero _)
theorem upTo_end {α : Type} {good : α → Bool} {lt : α → α → Bool} {l : List α} {k : Nat} (h : UpTo good lt l k) (hk : l.length ≤ k) : goodL good lt l = true := by
  unfold goodL
  rw [Bool.and_eq_true, List.all_eq_true, riseB_iff]
  constructor
  · intro x hx
    obtain ⟨i, hi⟩ := List.getElem?_of_mem hx
    exact (h i x (by have := (List.getElem?_eq_some_iff.1 hi).1; omega) hi).1
  · intro j y x hy hx
    exact (h (j + 1) x (by have := (List.getElem?_eq_some_iff.1 hx).1; omega) hx).2 j y rfl hy
theorem upTo_succ {α : Type} {good : α → Bool} {lt : α → α → Bool} {l : List α} {k : Nat} (h : UpTo good lt l k) {x : α} (hx : l[k]? = some x) (hg : good x = true) (hr : ∀ j y, k = j + 1 → l[j]? = some y → lt y x = true) : UpTo good lt l (k + 1) := fun i z hi hz => by
  by_cases e : i = k
  · subst e
    rw [hx] at hz
    injection hz with hz
    subst hz
    exact ⟨hg, hr⟩
  · exact h i z (by omega) hz
theorem goodL_bad {α : Type} {good : α → Bool} {lt : α → α → Bool} {l : List α} {k : Nat} {x : α} (hx : l[k]? = some x) (hg : good x = false) : goodL good lt l = false := by
  rw [← Bool.not_eq_true]
  intro h
  unfold goodL at h
  rw [Bool.and_eq_true, List.all_eq_true] at h
  rw [h.1 x (List.mem_of_getElem? hx)] at hg
  cases hg
theorem goodL_low {α : Type} {good : α → Bool} {lt : α → α → Bool} {l : List α} {k : Nat} {x y : α} (hy : l[k]? = some y) (hx : l[k + 1]? = some x) (hg : lt y x = false) : goodL good lt l = false := by
  rw [← Bool.not_eq_true]
  intro h
  unfold goodL at h
  rw [Bool.and_eq_true, riseB_iff] at h
  rw [h.2 k y x hy hx] at hg
  cases hg
def tagsB (l : List ByteArray) : Bool := goodL (fun s => isName (bs s)) ltTx l && decide (l.length ≤ 4)
def snapB (s : PSnap) : Bool := isName (bs s.name_) && (amt 1 s.guid_ && (tagsB s.tags_ && (okK s.body_ && okP s.own_)))
def ltGuid (a b : PSnap) : Bool := decide (a.guid_ < b.guid_)
def noTwo (l : List PSnap) : Bool := decide ((l.map PSnap.name_).Nodup)
def snapsB (l : List PSnap) : Bool := goodL snapB ltGuid l && (noTwo l && decide (l.length ≤ 16))
def splitP (s : ByteArray) : Option (ByteArray × ByteArray) := match (bs s).idxOf? 64 with
  | none => none
  | some i => if isPath ((bs s).take i) && isName ((bs s).drop (i + 1)) then some (ofL ((bs s).take i), ofL ((bs s).drop (i + 1))) else none
def parV (s : ByteArray) : Value := match upP s with | none => .tuple #[.string ByteArray.empty, .bool false] | some u => .tuple #[.string u, .bool true]
def splV (s : ByteArray) : Value := match splitP s with | none => .tuple #[.string ByteArray.empty, .string ByteArray.empty, .int .i64 31] | some x => .tuple #[.string x.1, .string x.2, .int .i64 0]
def hasSnap (s : PSet) (n : ByteArray) : Bool := s.snaps_.any fun x => decide (x.name_ = n)
def origB (t : PTenant) (s : PSet) : Bool := decide (s.origin_ = ByteArray.empty) || match splitP s.origin_ with
  | none => false
  | some (p, n) => decide (p ≠ s.path_) && match setAt t p with
    | none => false
    | some x => hasSnap x n
def hasSet (t : PTenant) (p : ByteArray) : Bool := (setAt t p).isSome
def upB (t : PTenant) (p : ByteArray) : Bool := match upP p with
  | none => decide (p = ByteArray.empty)
  | some u => hasSet t u
def setB (t : PTenant) (s : PSet) : Bool := upB t s.path_ && (okK s.body_ && (okP s.own_ && (snapsB s.snaps_ && origB t s)))
def ltPath (a b : PSet) : Bool := ltTx a.path_ b.path_
def zeroSum (s : PSum) : Bool := decide (s = ⟨0, 0, 0, 0⟩)
def beginB (r : PRecord) : Bool := decide (r.kind_ = 1) && (isName (bs r.name_) && (amt 0 r.from_ && (amt 1 r.guid_ && (okP r.own_ && (decide (r.index_ = 0) && (decide (r.count_ = 0) && (decide (r.data_ = ByteArray.empty) && zeroSum r.sum_)))))))
def stageB (s : PStage) : Bool := decide (s.into_ ≠ ByteArray.empty) && (isPath (bs s.into_) && (beginB s.begin_ && (okK s.body_ && (amt 0 s.at_ && amt 0 s.next_))))
def ltInto (a b : PStage) : Bool := ltTx a.into_ b.into_
def entryB (x : PEntry) : Bool := (decide (x.user_ = ByteArray.empty) || isName (bs x.user_)) && (isPath (bs x.path_) && (amt 0 x.kind_ && amt 0 x.err_))
def okT (t : PTenant) : Bool := isName (bs t.name_) && (amt 0 t.quota_ && (amt 1 t.next_ && (decide (t.sets_.length ≤ 32) && (hasSet t ByteArray.empty && (okG t.grants_ && (decide (t.stages_.length ≤ 4) && (decide (t.log_.length ≤ 16) &&
  (goodL (setB t) ltPath t.sets_ && (goodL stageB ltInto t.stages_ && t.log_.all entryB)))))))))
end Go.Proofs.YtoabkbnhdekbdaaGreat
namespace Go.Proofs.YtoabkbnhdekbdaaGreat
open Go.ChangeShapes Go.WideShapes Go.ChangeAt Go.RowKit
set_option maxRecDepth 100000
def chg (L : List (List Bk)) : Nat := (L.map fun l => 1 + l.length).sum
theorem chg_snoc (L : List (List Bk)) (l : List Bk) : chg (L ++ [l]) = chg L + (1 + l.length) := by simp [chg]
theorem chg_append (L M : List (List Bk)) : chg (L ++ M) = chg L + chg M := by simp [chg]
theorem chg_take {L : List (List Bk)} {k : Nat} {l : List Bk} (h : L[k]? = some l) : chg (L.take (k + 1)) = chg (L.take k) + (1 + l.length) := by
  obtain ⟨hk, rfl⟩ := List.getElem?_eq_some_iff.1 h
  rw [List.take_succ_eq_append_getElem hk, chg_snoc]
theorem w64_add (a b : Int) : wrap64 (wrap64 a + b) = wrap64 (a + b) := by unfold wrap64; omega
theorem w64_add' (a b : Int) : wrap64 (a + wrap64 b) = wrap64 (a + b) := by unfold wrap64; omega
end Go.Proofs.YtoabkbnhdekbdaaGreat
namespace Go.Proofs.YtoabkbnhdekbdaaGreat
set_option maxRecDepth 100000
def newP (p : ByteArray) : PSet := ⟨p, ByteArray.empty, [], [], []⟩
def insS (s : PSet) (l : List PSet) : List PSet := l.takeWhile (fun x => ltTx x.path_ s.path_) ++ s :: l.dropWhile (fun x => ltTx x.path_ s.path_)
def withP (t : PTenant) (s : PSet) : PTenant := { t with sets_ := insS s t.sets_ }
def setN (s : PSet) : Nat := chg (s.snaps_.map PSnap.body_ ++ [s.body_])
def chgP (t : PTenant) : Nat := (t.sets_.map setN).sum + (t.stages_.map fun s => 1 + s.body_.length).sum
def noT : PTenant := ⟨ByteArray.empty, 0, 0, [], [], [], []⟩
def askE (t : PTenant) (p : ByteArray) : Int := if okT t = false then 9 else if isPath (bs p) = false then 31 else 0
/-! ## What may be, by its sets -/
theorem ltTx_lt {a b : ByteArray} : ltTx a b = true ↔ ltK a b := Iff.rfl
theorem okT_parts {t : PTenant} : okT t = true ↔ (isName (bs t.name_) = true ∧ amt 0 t.quota_ = true ∧ amt 1 t.next_ = true ∧ okG t.grants_ = true ∧ t.stages_.length ≤ 4 ∧ t.log_.length ≤ 16 ∧ goodL stageB ltInto t.stages_ = true ∧ t.log_.all entryB = true) ∧
    t.sets_.length ≤ 32 ∧ hasSet t ByteArray.empty = true ∧ goodL (setB t) ltPath t.sets_ = true := by
  unfold okT
  simp only [Bool.and_eq_true, decide_eq_true_eq]
  constructor
  · rintro ⟨a, b, c, d, e, f, g, h, i, j, k⟩
    exact ⟨⟨a, b, c, f, g, h, j, k⟩, d, e, i⟩
  · rintro ⟨⟨a, b, c, f, g, h, j, k⟩, d, e, i⟩
    exact ⟨a, b, c, d, e, f, g, h, i, j, k⟩
theorem goodL_iff {α : Type} {good : α → Bool} {lt : α → α → Bool} (ht : ∀ a b c, lt a b = true → lt b c = true → lt a c = true) {l : List α} : goodL good lt l = true ↔ (∀ x ∈ l, good x = true) ∧ l.Pairwise fun a b => lt a b = true := by
  unfold goodL
  rw [Bool.and_eq_true, List.all_eq_true]
  constructor
  · rintro ⟨h1, h2⟩
    exact ⟨h1, riseB_pair ht h2⟩
  · rintro ⟨h1, h2⟩
    refine ⟨h1, riseB_iff.2 fun j y x hy hx => ?_⟩
    obtain ⟨hj, ey⟩ := List.getElem?_eq_some_iff.1 hy
    obtain ⟨hk, ex⟩ := List.getElem?_eq_some_iff.1 hx
    have := List.pairwise_iff_getElem.1 h2 j (j + 1) hj hk (by omega)
    rwa [ey, ex] at this
theorem ltPath_trans (a b c : PSet) (h : ltPath a b = true) (k : ltPath b c = true) : ltPath a c = true := ltK_trans (ltTx_lt.1 h) (ltTx_lt.1 k)
/-! ## A set more -/
theorem hasSet_iff {t : PTenant} {p : ByteArray} : hasSet t p = true ↔ ∃ y, setAt t p = some y := by
  unfold hasSet
  exact Option.isSome_iff_exists
theorem hasSet_no {t : PTenant} {p : ByteArray} : hasSet t p = false ↔ setAt t p = none := by
  unfold hasSet
  exact Option.isSome_eq_false_iff.trans Option.isNone_iff_eq_none
/-! ## A block written -/
/-! ## A set gone -/
/-! ## There and gone -/
/-! ## How great a charge may be -/
def chS (p : ByteArray) (f : PSet → PSet) (l : List PSet) : List PSet := l.map fun x => if x.path_ = p then f x else x
theorem chS_set {f : PSet → PSet} : ∀ {l : List PSet} {j : Nat} {s : PSet}, (l.Pairwise fun a b => ltPath a b = true) → l[j]? = some s → chS s.path_ f l = l.set j (f s)
  | [], j, s, _, h => by simp at h
  | a :: l, 0, s, hr, h => by
    simp only [List.getElem?_cons_zero, Option.some.injEq] at h
    subst h
    show (if a.path_ = a.path_ then f a else a) :: chS a.path_ f l = f a :: l
    rw [if_pos rfl]
    congr 1
    unfold chS
    conv => rhs; rw [← List.map_id l]
    refine List.map_congr_left fun x hx => ?_
    have h1 := (List.pairwise_cons.1 hr).1 x hx
    rw [if_neg]
    · rfl
    · intro e
      have h2 : ltK a.path_ x.path_ := ltTx_lt.1 h1
      rw [e] at h2
      exact ltK_ne h2 rfl
  | a :: l, j + 1, s, hr, h => by
    rw [List.getElem?_cons_succ] at h
    have h1 := (List.pairwise_cons.1 hr).1 s (List.mem_of_getElem? h)
    have h2 : ¬ a.path_ = s.path_ := by
      intro e
      have h2 : ltK a.path_ s.path_ := ltTx_lt.1 h1
      rw [e] at h2
      exact ltK_ne h2 rfl
    show (if a.path_ = s.path_ then f a else a) :: chS s.path_ f l = a :: l.set j (f s)
    rw [if_neg h2, chS_set (List.pairwise_cons.1 hr).2 h]
theorem insS_at {s : PSet} : ∀ {l : List PSet} {j : Nat}, (∀ x ∈ l.take j, ltTx x.path_ s.path_ = true) → (∀ x, l[j]? = some x → ltTx x.path_ s.path_ = false) → j ≤ l.length → insS s l = l.take j ++ s :: l.drop j
  | [], j, _, _, hj => by
    have : j = 0 := by simpa using hj
    subst this
    rfl
  | a :: l, 0, _, h, _ => by
    have h1 := h a rfl
    unfold insS
    rw [List.takeWhile_cons, List.dropWhile_cons]
    simp [h1]
  | a :: l, j + 1, h, h', hj => by
    have h1 := h a (by simp)
    have h2 := insS_at (s := s) (l := l) (j := j) (fun x hx => h x (by rw [List.take_succ_cons]; exact List.mem_cons_of_mem _ hx)) (fun x hx => h' x (by rw [List.getElem?_cons_succ]; exact hx)) (by simpa using hj)
    unfold insS at h2 ⊢
    rw [List.takeWhile_cons, List.dropWhile_cons, if_pos h1, if_pos h1, List.cons_append, h2]
    rfl
end Go.Proofs.YtoabkbnhdekbdaaGreat
