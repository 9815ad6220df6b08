/-
  Snap, Set, Sum, Record, Stage, Entry, Tenant, plainly. No conditions.
-/
import Derived.Test.YtimmcmjipmkebaaGreatUBLM
import Derived.Test.YtimmcmjipmkebaaGreatUGY
import Derived.IntWalk
namespace Go.Proofs.YtimmcmjipmkebaaGreat
set_option maxRecDepth 100000
structure PSnap where
  name_ : ByteArray
  guid_ : Int
  body_ : List Bk
  tags_ : List ByteArray
  own_ : List Pr
theorem PSnap.eq_iff {a b : PSnap} : a = b ↔ a.name_ = b.name_ ∧ a.guid_ = b.guid_ ∧ a.body_ = b.body_ ∧ a.tags_ = b.tags_ ∧ a.own_ = b.own_ := by
  cases a
  cases b
  simp
instance : DecidableEq PSnap := fun a b => decidable_of_iff (a.name_ = b.name_ ∧ a.guid_ = b.guid_ ∧ a.body_ = b.body_ ∧ a.tags_ = b.tags_ ∧ a.own_ = b.own_) PSnap.eq_iff.symm
structure PSet where
  path_ : ByteArray
  origin_ : ByteArray
  body_ : List Bk
  snaps_ : List PSnap
  own_ : List Pr
theorem PSet.eq_iff {a b : PSet} : a = b ↔ a.path_ = b.path_ ∧ a.origin_ = b.origin_ ∧ a.body_ = b.body_ ∧ a.snaps_ = b.snaps_ ∧ a.own_ = b.own_ := by
  cases a
  cases b
  simp
instance : DecidableEq PSet := fun a b => decidable_of_iff (a.path_ = b.path_ ∧ a.origin_ = b.origin_ ∧ a.body_ = b.body_ ∧ a.snaps_ = b.snaps_ ∧ a.own_ = b.own_) PSet.eq_iff.symm
structure PSum where
  a_ : Int
  b_ : Int
  c_ : Int
  d_ : Int
theorem PSum.eq_iff {a b : PSum} : a = b ↔ a.a_ = b.a_ ∧ a.b_ = b.b_ ∧ a.c_ = b.c_ ∧ a.d_ = b.d_ := by
  cases a
  cases b
  simp
instance : DecidableEq PSum := fun a b => decidable_of_iff (a.a_ = b.a_ ∧ a.b_ = b.b_ ∧ a.c_ = b.c_ ∧ a.d_ = b.d_) PSum.eq_iff.symm
structure PRecord where
  kind_ : Int
  name_ : ByteArray
  from_ : Int
  guid_ : Int
  own_ : List Pr
  index_ : Int
  count_ : Int
  data_ : ByteArray
  sum_ : PSum
theorem PRecord.eq_iff {a b : PRecord} : a = b ↔ a.kind_ = b.kind_ ∧ a.name_ = b.name_ ∧ a.from_ = b.from_ ∧ a.guid_ = b.guid_ ∧ a.own_ = b.own_ ∧ a.index_ = b.index_ ∧ a.count_ = b.count_ ∧ a.data_ = b.data_ ∧ a.sum_ = b.sum_ := by
  cases a
  cases b
  simp
instance : DecidableEq PRecord := fun a b => decidable_of_iff (a.kind_ = b.kind_ ∧ a.name_ = b.name_ ∧ a.from_ = b.from_ ∧ a.guid_ = b.guid_ ∧ a.own_ = b.own_ ∧ a.index_ = b.index_ ∧ a.count_ = b.count_ ∧ a.data_ = b.data_ ∧ a.sum_ = b.sum_) PRecord.eq_iff.symm
structure PStage where
  into_ : ByteArray
  begin_ : PRecord
  body_ : List Bk
  at_ : Int
  next_ : Int
  sum_ : PSum
  done_ : Bool
theorem PStage.eq_iff {a b : PStage} : a = b ↔ a.into_ = b.into_ ∧ a.begin_ = b.begin_ ∧ a.body_ = b.body_ ∧ a.at_ = b.at_ ∧ a.next_ = b.next_ ∧ a.sum_ = b.sum_ ∧ a.done_ = b.done_ := by
  cases a
  cases b
  simp
instance : DecidableEq PStage := fun a b => decidable_of_iff (a.into_ = b.into_ ∧ a.begin_ = b.begin_ ∧ a.body_ = b.body_ ∧ a.at_ = b.at_ ∧ a.next_ = b.next_ ∧ a.sum_ = b.sum_ ∧ a.done_ = b.done_) PStage.eq_iff.symm
structure PEntry where
  user_ : ByteArray
  kind_ : Int
  path_ : ByteArray
  err_ : Int
theorem PEntry.eq_iff {a b : PEntry} : a = b ↔ a.user_ = b.user_ ∧ a.kind_ = b.kind_ ∧ a.path_ = b.path_ ∧ a.err_ = b.err_ := by
  cases a
  cases b
  simp
instance : DecidableEq PEntry := fun a b => decidable_of_iff (a.user_ = b.user_ ∧ a.kind_ = b.kind_ ∧ a.path_ = b.path_ ∧ a.err_ = b.err_) PEntry.eq_iff.symm
structure PTenant where
  name_ : ByteArray
  quota_ : Int
  next_ : Int
  sets_ : List PSet
  grants_ : List Gr
  stages_ : List PStage
  log_ : List PEntry
theorem PTenant.eq_iff {a b : PTenant} : a = b ↔ a.name_ = b.name_ ∧ a.quota_ = b.quota_ ∧ a.next_ = b.next_ ∧ a.sets_ = b.sets_ ∧ a.grants_ = b.grants_ ∧ a.stages_ = b.stages_ ∧ a.log_ = b.log_ := by
  cases a
  cases b
  simp
instance : DecidableEq PTenant := fun a b => decidable_of_iff (a.name_ = b.name_ ∧ a.quota_ = b.quota_ ∧ a.next_ = b.next_ ∧ a.sets_ = b.sets_ ∧ a.grants_ = b.grants_ ∧ a.stages_ = b.stages_ ∧ a.log_ = b.log_) PTenant.eq_iff.symm
theorem dropWhile_all {α : Type} {p : α → Bool} : ∀ {l : List α}, (∀ x ∈ l, p x = true) → l.dropWhile p = []
  | [], _ => rfl
  | x :: l, h => by
    rw [List.dropWhile_cons, if_pos (h x (by simp))]
    exact dropWhile_all fun y hy => h y (by simp [hy])
def aboveL (l : List UInt8) : List UInt8 := ((l.reverse.dropWhile fun c => decide (c ≠ 47)).drop 1).reverse
theorem aboveL_top {l : List UInt8} (h : (47 : UInt8) ∉ l) : aboveL l = [] := by
  unfold aboveL
  have : l.reverse.dropWhile (fun c => decide (c ≠ 47)) = [] := by
    refine dropWhile_all fun x hx => ?_
    rw [List.mem_reverse] at hx
    exact decide_eq_true fun e => h (e ▸ hx)
  rw [this]
  rfl
theorem aboveL_up {a b : List UInt8} (h : (47 : UInt8) ∉ b) : aboveL (a ++ 47 :: b) = a := by
  unfold aboveL
  have e : (a ++ 47 :: b).reverse = b.reverse ++ 47 :: a.reverse := by simp
  have : (b.reverse ++ 47 :: a.reverse).dropWhile (fun c => decide (c ≠ 47)) = 47 :: a.reverse := by
    rw [List.dropWhile_append_of_pos]
    · simp
    · intro x hx
      rw [List.mem_reverse] at hx
      exact decide_eq_true fun e => h (e ▸ hx)
  rw [e, this]
  simp
theorem last_slash {l : List UInt8} (h : (47 : UInt8) ∈ l) : ∃ a b, l = a ++ 47 :: b ∧ (47 : UInt8) ∉ b := by
  induction l with
  | nil => cases h
  | cons x l ih =>
    by_cases hm : (47 : UInt8) ∈ l
    · obtain ⟨a, b, rfl, hb⟩ := ih hm
      exact ⟨x :: a, b, rfl, hb⟩
    · rcases List.mem_cons.1 h with rfl | h
      · exact ⟨[], l, rfl, hm⟩
      · exact absurd h hm
def upP (p : ByteArray) : Option ByteArray := if isPath (bs p) = false ∨ p = ByteArray.empty then none else some (ofL (aboveL (bs p)))
theorem upP_none {p : ByteArray} (h : isPath (bs p) = true) : upP p = none ↔ p = ByteArray.empty := by
  unfold upP
  rw [h]
  by_cases e : p = ByteArray.empty
  · simp [e]
  · simp [e]
theorem upP_some {p : ByteArray} (h : isPath (bs p) = true) (hp : p ≠ ByteArray.empty) : upP p = some (ofL (aboveL (bs p))) := by
  unfold upP
  rw [if_neg]
  rintro (e | e)
  · rw [h] at e; cases e
  · exact hp e
theorem upP_off {p : ByteArray} (h : isPath (bs p) = false) : upP p = none := by
  unfold upP
  rw [if_pos (.inl h)]
def setAt (t : PTenant) (p : ByteArray) : Option PSet := t.sets_.find? fun s => decide (s.path_ = p)
theorem setAt_some {t : PTenant} {p : ByteArray} {s : PSet} (h : setAt t p = some s) : s ∈ t.sets_ ∧ s.path_ = p := by
  unfold setAt at h
  exact ⟨List.mem_of_find?_eq_some h, of_decide_eq_true (List.find?_some (p := fun s : PSet => decide (s.path_ = p)) h)⟩
theorem setAt_none {t : PTenant} {p : ByteArray} : setAt t p = none ↔ ∀ s ∈ t.sets_, s.path_ ≠ p := by
  unfold setAt
  rw [List.find?_eq_none]
  simp
def amt (m n : Int) : Bool := decide (m ≤ n) && decide (n ≤ 1099511627776)
def ltTx (a b : ByteArray) : Bool := Op.bytesLess a.toList b.toList
def riseB {α : Type} (lt : α → α → Bool) : List α → Bool
  | [] => true
  | [_] => true
  | a :: b :: l => lt a b && riseB lt (b :: l)
theorem riseB_iff {α : Type} {lt : α → α → Bool} : ∀ {l : List α}, riseB lt l = true ↔ ∀ j y x, l[j]? = some y → l[j + 1]? = some x → lt y x = true
  | [] => by simp [riseB]
  | [_] => by
    simp only [riseB, true_iff]
    intro j y x _ h
    simp at h
  | a :: b :: l => by
    rw [riseB, Bool.and_eq_true, riseB_iff]
    constructor
    · rintro ⟨h1, h2⟩ j y x hy hx
      rcases j with _ | j
      · simp at hy hx
        subst hy hx
        exact h1
      · exact h2 j y x (by simpa using hy) (by simpa using hx)
    · intro h
      exact ⟨h 0 a b rfl rfl, fun j y x hy hx => h (j + 1) y x (by simpa using hy) (by simpa using hx)⟩
theorem riseB_pair {α : Type} {lt : α → α → Bool} (ht : ∀ a b c, lt a b = true → lt b c = true → lt a c = true) : ∀ {l : List α}, riseB lt l = true → l.Pairwise fun a b => lt a b = true
  | [], _ => .nil
  | [_], _ => by simp
  | a :: b :: l, h => by
    rw [riseB, Bool.and_eq_true] at h
    have hp := riseB_pair ht h.2
    refine List.pairwise_cons.2 ⟨fun c hc => ?_, hp⟩
    rcases List.mem_cons.1 hc with rfl | hc
    · exact h.1
    · exact ht a b c h.1 ((List.pairwise_cons.1 hp).1 c hc)
def UpTo {α : Type} (good : α → Bool) (lt : α → α → Bool) (l : List α) (k : Nat) : Prop := ∀ i x, i < k → l[i]? = some x → good x = true ∧ ∀ j y, i = j + 1 → l[j]? = some y → lt y x = true
def goodL {α : Type} (good : α → Bool) (lt : α → α → Bool) (l : List α) : Bool := l.all good && riseB lt l
theorem upTo_zero {α : Type} {good : α → Bool} {lt : α → α → Bool} {l : List α} : UpTo good lt l 0 := fun _ _ h _ => absurd h (Nat.not_lt_zero _)
theorem upTo_end {α : Type} {good : α → Bool} {lt : α → α → Bool} {l : List α} {k : Nat} (h : UpTo good lt l k) (hk : l.length ≤ k) : goodL good lt l = true := by
  unfold goodL
  rw [Bool.and_eq_true, List.all_eq_true, riseB_iff]
  constructor
  · intro x hx
    obtain ⟨i, hi⟩ := List.getElem?_of_mem hx
    exact (h i x (by have := (List.getElem?_eq_some_iff.1 hi).1; omega) hi).1
  · intro j y x hy hx
    exact (h (j + 1) x (by have := (List.getElem?_eq_some_iff.1 hx).1; omega) hx).2 j y rfl hy
theorem upTo_succ {α : Type} {good : α → Bool} {lt : α → α → Bool} {l : List α} {k : Nat} (h : UpTo good lt l k) {x : α} (hx : l[k]? = some x) (hg : good x = true) (hr : ∀ j y, k = j + 1 → l[j]? = some y → lt y x = true) : UpTo good lt l (k + 1) := fun i z hi hz => by
  by_cases e : i = k
  · subst e
    rw [hx] at hz
    injection hz with hz
    subst hz
    exact ⟨hg, hr⟩
  · exact h i z (by omega) hz
theorem goodL_bad {α : Type} {good : α → Bool} {lt : α → α → Bool} {l : List α} {k : Nat} {x : α} (hx : l[k]? = some x) (hg : good x = false) : goodL good lt l = false := by
  rw [← Bool.not_eq_true]
  intro h
  unfold goodL at h
  rw [Bool.and_eq_true, List.all_eq_true] at h
  rw [h.1 x (List.mem_of_getElem? hx)] at hg
  cases hg
theorem goodL_low {α : Type} {good : α → Bool} {lt : α → α → Bool} {l : List α} {k : Nat} {x y : α} (hy : l[k]? = some y) (hx : l[k + 1]? = some x) (hg : lt y x = false) : goodL good lt l = false := by
  rw [← Bool.not_eq_true]
  intro h
  unfold goodL at h
  rw [Bool.and_eq_true, riseB_iff] at h
  rw [h.2 k y x hy hx] at hg
  cases hg
def tagsB (l : List ByteArray) : Bool := goodL (fun s => isName (bs s)) ltTx l && decide (l.length ≤ 4)
def snapB (s : PSnap) : Bool := isName (bs s.name_) && (amt 1 s.guid_ && (tagsB s.tags_ && (okK s.body_ && okP s.own_)))
def ltGuid (a b : PSnap) : Bool := decide (a.guid_ < b.guid_)
def noTwo (l : List PSnap) : Bool := decide ((l.map PSnap.name_).Nodup)
def snapsB (l : List PSnap) : Bool := goodL snapB ltGuid l && (noTwo l && decide (l.length ≤ 16))
def splitP (s : ByteArray) : Option (ByteArray × ByteArray) := match (bs s).idxOf? 64 with
  | none => none
  | some i => if isPath ((bs s).take i) && isName ((bs s).drop (i + 1)) then some (ofL ((bs s).take i), ofL ((bs s).drop (i + 1))) else none
def parV (s : ByteArray) : Value := match upP s with | none => .tuple #[.string ByteArray.empty, .bool false] | some u => .tuple #[.string u, .bool true]
def splV (s : ByteArray) : Value := match splitP s with | none => .tuple #[.string ByteArray.empty, .string ByteArray.empty, .int .i64 31] | some x => .tuple #[.string x.1, .string x.2, .int .i64 0]
def hasSnap (s : PSet) (n : ByteArray) : Bool := s.snaps_.any fun x => decide (x.name_ = n)
def origB (t : PTenant) (s : PSet) : Bool := decide (s.origin_ = ByteArray.empty) || match splitP s.origin_ with
  | none => false
  | some (p, n) => decide (p ≠ s.path_) && match setAt t p with
    | none => false
    | some x => hasSnap x n
def hasSet (t : PTenant) (p : ByteArray) : Bool := (setAt t p).isSome
def upB (t : PTenant) (p : ByteArray) : Bool := match upP p with
  | none => decide (p = ByteArray.empty)
  | some u => hasSet t u
def setB (t : PTenant) (s : PSet) : Bool := upB t s.path_ && (okK s.body_ && (okP s.own_ && (snapsB s.snaps_ && origB t s)))
def ltPath (a b : PSet) : Bool := ltTx a.path_ b.path_
def zeroSum (s : PSum) : Bool := decide (s = ⟨0, 0, 0, 0⟩)
def beginB (r : PRecord) : Bool := decide (r.kind_ = 1) && (isName (bs r.name_) && (amt 0 r.from_ && (amt 1 r.guid_ && (okP r.own_ && (decide (r.index_ = 0) && (decide (r.count_ = 0) && (decide (r.data_ = ByteArray.empty) && zeroSum r.sum_)))))))
def stageB (s : PStage) : Bool := decide (s.into_ ≠ ByteArray.empty) && (isPath (bs s.into_) && (beginB s.begin_ && (okK s.body_ && (amt 0 s.at_ && amt 0 s.next_))))
def ltInto (a b : PStage) : Bool := ltTx a.into_ b.into_
def entryB (x : PEntry) : Bool := (decide (x.user_ = ByteArray.empty) || isName (bs x.user_)) && (isPath (bs x.path_) && (amt 0 x.kind_ && amt 0 x.err_))
def okT (t : PTenant) : Bool := isName (bs t.name_) && (amt 0 t.quota_ && (amt 1 t.next_ && (decide (t.sets_.length ≤ 32) && (hasSet t ByteArray.empty && (okG t.grants_ && (decide (t.stages_.length ≤ 4) && (decide (t.log_.length ≤ 16) &&
  (goodL (setB t) ltPath t.sets_ && (goodL stageB ltInto t.stages_ && t.log_.all entryB)))))))))
end Go.Proofs.YtimmcmjipmkebaaGreat
namespace Go.Proofs.YtimmcmjipmkebaaGreat
open Go.ChangeShapes Go.WideShapes Go.ChangeAt Go.RowKit
set_option maxRecDepth 100000
def chg (L : List (List Bk)) : Nat := (L.map fun l => 1 + l.length).sum
theorem chg_snoc (L : List (List Bk)) (l : List Bk) : chg (L ++ [l]) = chg L + (1 + l.length) := by simp [chg]
theorem chg_take {L : List (List Bk)} {k : Nat} {l : List Bk} (h : L[k]? = some l) : chg (L.take (k + 1)) = chg (L.take k) + (1 + l.length) := by
  obtain ⟨hk, rfl⟩ := List.getElem?_eq_some_iff.1 h
  rw [List.take_succ_eq_append_getElem hk, chg_snoc]
theorem w64_add (a b : Int) : wrap64 (wrap64 a + b) = wrap64 (a + b) := by unfold wrap64; omega
end Go.Proofs.YtimmcmjipmkebaaGreat
namespace Go.Proofs.YtimmcmjipmkebaaGreat
set_option maxRecDepth 100000
def newP (p : ByteArray) : PSet := ⟨p, ByteArray.empty, [], [], []⟩
def insS (s : PSet) (l : List PSet) : List PSet := l.takeWhile (fun x => ltTx x.path_ s.path_) ++ s :: l.dropWhile (fun x => ltTx x.path_ s.path_)
def withP (t : PTenant) (s : PSet) : PTenant := { t with sets_ := insS s t.sets_ }
def setN (s : PSet) : Nat := chg (s.snaps_.map PSnap.body_ ++ [s.body_])
def chgP (t : PTenant) : Nat := (t.sets_.map setN).sum + (t.stages_.map fun s => 1 + s.body_.length).sum
def noT : PTenant := ⟨ByteArray.empty, 0, 0, [], [], [], []⟩
def settledP (t : PTenant) : PTenant × Int := if (chgP t : Int) ≤ t.quota_ then (t, 0) else (noT, 42)
def roomE (t : PTenant) (p : ByteArray) : Int := if hasSet t p = true then 6 else if hasSet t ((upP p).getD ByteArray.empty) = false then 71 else if t.sets_.length = 32 then 3 else 0
/-! ## What may be, by its sets -/
theorem ltTx_lt {a b : ByteArray} : ltTx a b = true ↔ ltK a b := Iff.rfl
theorem okT_parts {t : PTenant} : okT t = true ↔ (isName (bs t.name_) = true ∧ amt 0 t.quota_ = true ∧ amt 1 t.next_ = true ∧ okG t.grants_ = true ∧ t.stages_.length ≤ 4 ∧ t.log_.length ≤ 16 ∧ goodL stageB ltInto t.stages_ = true ∧ t.log_.all entryB = true) ∧
    t.sets_.length ≤ 32 ∧ hasSet t ByteArray.empty = true ∧ goodL (setB t) ltPath t.sets_ = true := by
  unfold okT
  simp only [Bool.and_eq_true, decide_eq_true_eq]
  constructor
  · rintro ⟨a, b, c, d, e, f, g, h, i, j, k⟩
    exact ⟨⟨a, b, c, f, g, h, j, k⟩, d, e, i⟩
  · rintro ⟨⟨a, b, c, f, g, h, j, k⟩, d, e, i⟩
    exact ⟨a, b, c, d, e, f, g, h, i, j, k⟩
theorem setB_move {t t' : PTenant} {x : PSet} (h : setB t x = true)
    (H : ∀ q, (upP x.path_ = some q ∨ ∃ n, splitP x.origin_ = some (q, n)) → ∀ y, setAt t q = some y → ∃ y', setAt t' q = some y' ∧ ∀ n, hasSnap y n = true → hasSnap y' n = true) : setB t' x = true := by
  unfold setB at h ⊢
  simp only [Bool.and_eq_true] at h ⊢
  obtain ⟨h1, h2, h3, h4, h5⟩ := h
  refine ⟨?_, h2, h3, h4, ?_⟩
  · unfold upB at h1 ⊢
    rcases hu : upP x.path_ with _ | u
    · rw [hu] at h1
      exact h1
    · rw [hu] at h1
      simp only [] at h1 ⊢
      unfold hasSet at h1 ⊢
      obtain ⟨y, hy⟩ := Option.isSome_iff_exists.1 h1
      obtain ⟨y', hy', _⟩ := H u (.inl hu) y hy
      rw [hy']
      rfl
  · unfold origB at h5 ⊢
    rw [Bool.or_eq_true] at h5 ⊢
    rcases h5 with h5 | h5
    · exact .inl h5
    · right
      rcases hs : splitP x.origin_ with _ | ⟨q, n⟩
      · rw [hs] at h5
        cases h5
      · rw [hs] at h5
        simp only [Bool.and_eq_true] at h5 ⊢
        refine ⟨h5.1, ?_⟩
        rcases ha : setAt t q with _ | y
        · rw [ha] at h5
          cases h5.2
        · rw [ha] at h5
          obtain ⟨y', hy', hm⟩ := H q (.inr ⟨n, hs⟩) y ha
          rw [hy']
          exact hm n h5.2
theorem goodL_iff {α : Type} {good : α → Bool} {lt : α → α → Bool} (ht : ∀ a b c, lt a b = true → lt b c = true → lt a c = true) {l : List α} : goodL good lt l = true ↔ (∀ x ∈ l, good x = true) ∧ l.Pairwise fun a b => lt a b = true := by
  unfold goodL
  rw [Bool.and_eq_true, List.all_eq_true]
  constructor
  · rintro ⟨h1, h2⟩
    exact ⟨h1, riseB_pair ht h2⟩
  · rintro ⟨h1, h2⟩
    refine ⟨h1, riseB_iff.2 fun j y x hy hx => ?_⟩
    obtain ⟨hj, ey⟩ := List.getElem?_eq_some_iff.1 hy
    obtain ⟨hk, ex⟩ := List.getElem?_eq_some_iff.1 hx
    have := List.pairwise_iff_getElem.1 h2 j (j + 1) hj hk (by omega)
    rwa [ey, ex] at this
theorem ltPath_trans (a b c : PSet) (h : ltPath a b = true) (k : ltPath b c = true) : ltPath a c = true := ltK_trans (ltTx_lt.1 h) (ltTx_lt.1 k)
/-! ## A set more -/
theorem mem_insS {s x : PSet} {l : List PSet} : x ∈ insS s l ↔ x = s ∨ x ∈ l := by
  unfold insS
  have h := List.takeWhile_append_dropWhile (p := fun x : PSet => ltTx x.path_ s.path_) (l := l)
  constructor
  · intro hx
    rcases List.mem_append.1 hx with hx | hx
    · exact .inr (by rw [← h]; exact List.mem_append_left _ hx)
    · rcases List.mem_cons.1 hx with hx | hx
      · exact .inl hx
      · exact .inr (by rw [← h]; exact List.mem_append_right _ hx)
  · rintro (rfl | hx)
    · exact List.mem_append_right _ (by simp)
    · rw [← h] at hx
      rcases List.mem_append.1 hx with hx | hx
      · exact List.mem_append_left _ hx
      · exact List.mem_append_right _ (List.mem_cons_of_mem _ hx)
theorem insS_length (s : PSet) (l : List PSet) : (insS s l).length = l.length + 1 := by
  unfold insS
  have h := congrArg List.length (List.takeWhile_append_dropWhile (p := fun x : PSet => ltTx x.path_ s.path_) (l := l))
  rw [List.length_append] at h ⊢
  simp only [List.length_cons]
  omega
theorem insS_rise {s : PSet} {l : List PSet} (h : l.Pairwise fun a b => ltPath a b = true) (hn : ∀ x ∈ l, x.path_ ≠ s.path_) : (insS s l).Pairwise fun a b => ltPath a b = true := by
  unfold insS
  have e := List.takeWhile_append_dropWhile (p := fun x : PSet => ltTx x.path_ s.path_) (l := l)
  have hp := h
  rw [← e, List.pairwise_append] at hp
  obtain ⟨p1, p2, p3⟩ := hp
  have low : ∀ x ∈ l.takeWhile (fun x => ltTx x.path_ s.path_), ltTx x.path_ s.path_ = true := fun x hx => List.all_eq_true.1 List.all_takeWhile x hx
  have high : ∀ x ∈ l.dropWhile (fun x => ltTx x.path_ s.path_), ltPath s x = true := by
    intro x hx
    rcases hd : l.dropWhile (fun x => ltTx x.path_ s.path_) with _ | ⟨d, ds⟩
    · rw [hd] at hx
      cases hx
    · have hd0 : ltTx d.path_ s.path_ = false := by
        have := List.head_dropWhile_not (fun x : PSet => ltTx x.path_ s.path_) (by rw [hd]; simp : l.dropWhile (fun x => ltTx x.path_ s.path_) ≠ [])
        simpa [hd] using this
      have hdl : d ∈ l := by
        rw [← e, hd]
        exact List.mem_append_right _ (by simp)
      have hsd : ltPath s d = true := by
        rcases ltK_tri s.path_ d.path_ with k | k | k
        · exact k
        · exact absurd (ltTx_lt.2 k) (by rw [hd0]; decide)
        · exact absurd k.symm (hn d hdl)
      rw [hd] at hx p2
      rcases List.mem_cons.1 hx with rfl | hx
      · exact hsd
      · exact ltPath_trans _ _ _ hsd ((List.pairwise_cons.1 p2).1 x hx)
  refine List.pairwise_append.2 ⟨p1, List.pairwise_cons.2 ⟨high, p2⟩, fun a ha b hb => ?_⟩
  rcases List.mem_cons.1 hb with rfl | hb
  · exact low a ha
  · exact p3 a ha b hb
theorem rise_at {t : PTenant} (h : t.sets_.Pairwise fun a b => ltPath a b = true) {x : PSet} (hx : x ∈ t.sets_) : setAt t x.path_ = some x := by
  rcases hs : setAt t x.path_ with _ | y
  · exact absurd rfl (setAt_none.1 hs x hx)
  · obtain ⟨hy, he⟩ := setAt_some hs
    by_cases hxy : y = x
    · rw [hxy]
    · exfalso
      have hne : ∀ a b : PSet, a ∈ t.sets_ → b ∈ t.sets_ → a.path_ = b.path_ → a = b := by
        intro a b ha hb hab
        obtain ⟨i, hi, rfl⟩ := List.getElem_of_mem ha
        obtain ⟨j, hj, rfl⟩ := List.getElem_of_mem hb
        rcases Nat.lt_trichotomy i j with hij | hij | hij
        · exact absurd hab (ltK_ne (ltTx_lt.1 (List.pairwise_iff_getElem.1 h i j hi hj hij)))
        · subst hij
          rfl
        · exact absurd hab.symm (ltK_ne (ltTx_lt.1 (List.pairwise_iff_getElem.1 h j i hj hi hij)))
      exact hxy (hne y x hy hx he)
theorem with_at {t : PTenant} {s : PSet} (h : t.sets_.Pairwise fun a b => ltPath a b = true) (hn : setAt t s.path_ = none) {q : ByteArray} {y : PSet} (hq : setAt t q = some y) : setAt (withP t s) q = some y := by
  obtain ⟨hy, he⟩ := setAt_some hq
  have := rise_at (t := withP t s) (insS_rise h (setAt_none.1 hn)) (mem_insS.2 (.inr hy))
  rwa [he] at this
theorem with_new {t : PTenant} {s : PSet} (h : t.sets_.Pairwise fun a b => ltPath a b = true) (hn : setAt t s.path_ = none) : setAt (withP t s) s.path_ = some s :=
  rise_at (t := withP t s) (insS_rise h (setAt_none.1 hn)) (mem_insS.2 (.inl rfl))
theorem hasSet_iff {t : PTenant} {p : ByteArray} : hasSet t p = true ↔ ∃ y, setAt t p = some y := by
  unfold hasSet
  exact Option.isSome_iff_exists
theorem hasSet_no {t : PTenant} {p : ByteArray} : hasSet t p = false ↔ setAt t p = none := by
  unfold hasSet
  exact Option.isSome_eq_false_iff.trans Option.isNone_iff_eq_none
theorem with_ok {t : PTenant} {s : PSet} (h : okT t = true) (hl : t.sets_.length < 32) (hn : setAt t s.path_ = none) (hs : setB t s = true) : okT (withP t s) = true := by
  obtain ⟨h1, h2, h3, h4⟩ := okT_parts.1 h
  obtain ⟨g1, g2⟩ := (goodL_iff ltPath_trans).1 h4
  have move : ∀ q y, setAt t q = some y → ∃ y', setAt (withP t s) q = some y' ∧ ∀ n, hasSnap y n = true → hasSnap y' n = true := fun q y hq => ⟨y, with_at g2 hn hq, fun _ h => h⟩
  refine okT_parts.2 ⟨h1, by show (insS s t.sets_).length ≤ 32; rw [insS_length]; omega, ?_, (goodL_iff ltPath_trans).2 ⟨?_, insS_rise g2 (setAt_none.1 hn)⟩⟩
  · obtain ⟨y, hy⟩ := hasSet_iff.1 h3
    exact hasSet_iff.2 ⟨y, with_at g2 hn hy⟩
  · intro x hx
    rcases mem_insS.1 hx with rfl | hx
    · exact setB_move hs fun q _ y hq => move q y hq
    · exact setB_move (g1 x hx) fun q _ y hq => move q y hq
theorem new_ok {t : PTenant} {p : ByteArray} (hp : isPath (bs p) = true) (hu : hasSet t ((upP p).getD ByteArray.empty) = true) (hne : hasSet t p = false) (h0 : hasSet t ByteArray.empty = true) : setB t (newP p) = true := by
  have hpe : p ≠ ByteArray.empty := by
    rintro rfl
    rw [h0] at hne
    cases hne
  unfold setB
  simp only [Bool.and_eq_true]
  refine ⟨?_, rfl, rfl, rfl, ?_⟩
  · show upB t p = true
    unfold upB
    rw [upP_some hp hpe] at hu ⊢
    exact hu
  · unfold origB
    rw [Bool.or_eq_true]
    exact .inl (decide_eq_true rfl)
theorem settled_may {t : PTenant} (he : (settledP t).2 = 0) : settledP t = (t, 0) ∧ (chgP t : Int) ≤ t.quota_ := by
  unfold settledP at he ⊢
  split at he
  · rename_i hc
    exact ⟨by rw [if_pos hc], hc⟩
  · cases he
/-! ## A block written -/
/-! ## A set gone -/
/-! ## There and gone -/
/-! ## How great a charge may be -/
theorem chg_le {L : List (List Bk)} (h : ∀ l ∈ L, l.length ≤ 1024) : chg L ≤ L.length * 1025 := by
  induction L with
  | nil => exact Nat.le_refl _
  | cons l L ih =>
    have h1 := h l (by simp)
    have h2 := ih fun x hx => h x (List.mem_cons_of_mem _ hx)
    unfold chg at *
    rw [List.map_cons, List.sum_cons, List.length_cons, Nat.add_mul]
    omega
theorem setN_le {t : PTenant} {s : PSet} (h : setB t s = true) : setN s ≤ 17425 := by
  unfold setB at h
  simp only [Bool.and_eq_true] at h
  obtain ⟨_, hb, _, hs, _⟩ := h
  unfold snapsB goodL at hs
  simp only [Bool.and_eq_true, decide_eq_true_eq, List.all_eq_true] at hs
  obtain ⟨⟨hg, _⟩, _, hl⟩ := hs
  unfold setN
  refine Nat.le_trans (chg_le fun l hl' => ?_) ?_
  · rcases List.mem_append.1 hl' with hm | hm
    · obtain ⟨x, hx, rfl⟩ := List.mem_map.1 hm
      have := hg x hx
      unfold snapB at this
      simp only [Bool.and_eq_true] at this
      exact okK_len this.2.2.2.1
    · simp at hm
      subst hm
      exact okK_len hb
  · simp only [List.length_append, List.length_map, List.length_singleton]
    omega
theorem sum_le {α : Type} (f : α → Nat) (n : Nat) {l : List α} (h : ∀ x ∈ l, f x ≤ n) : (l.map f).sum ≤ l.length * n := by
  induction l with
  | nil => exact Nat.zero_le _
  | cons x l ih =>
    have h1 := h x (by simp)
    have h2 := ih fun y hy => h y (List.mem_cons_of_mem _ hy)
    rw [List.map_cons, List.sum_cons, List.length_cons, Nat.add_mul]
    omega
theorem chgP_small {t : PTenant} (h : okT t = true) : chgP t ≤ 600000 := by
  obtain ⟨h1, h2, _, h4⟩ := okT_parts.1 h
  obtain ⟨g1, _⟩ := (goodL_iff ltPath_trans).1 h4
  have a := sum_le setN 17425 (l := t.sets_) fun x hx => setN_le (g1 x hx)
  have b := sum_le (fun s : PStage => 1 + s.body_.length) 1025 (l := t.stages_) fun x hx => by
    have hg := h1.2.2.2.2.2.2.1
    unfold goodL at hg
    simp only [Bool.and_eq_true, List.all_eq_true] at hg
    have := hg.1 x hx
    unfold stageB at this
    simp only [Bool.and_eq_true] at this
    have := okK_len this.2.2.2.1
    show 1 + x.body_.length ≤ 1025
    omega
  have hst := h1.2.2.2.2.1
  unfold chgP
  have := Nat.mul_le_mul_right 17425 h2
  have := Nat.mul_le_mul_right 1025 hst
  omega
def mapP (t : PTenant) (f : PSet → PSet) (n : Int) : PTenant := { t with sets_ := t.sets_.map f, next_ := n }
theorem mapT_at {t : PTenant} {f : PSet → PSet} {n : Int} (hf : ∀ x, (f x).path_ = x.path_) {q : ByteArray} {y : PSet} (h : setAt t q = some y) : setAt (mapP t f n) q = some (f y) := by
  unfold setAt mapP at *
  rw [List.find?_map]
  have e : ((fun s : PSet => decide (s.path_ = q)) ∘ f) = fun s : PSet => decide (s.path_ = q) := by
    funext x
    simp only [Function.comp, hf]
  rw [e, h]
  rfl
theorem map_ok {t : PTenant} {f : PSet → PSet} {n : Int} (h : okT t = true) (hn : amt 1 n = true) (hf : ∀ x, (f x).path_ = x.path_) (hs : ∀ x ∈ t.sets_, setB t x = true → setB (mapP t f n) (f x) = true) : okT (mapP t f n) = true := by
  obtain ⟨⟨a1, a2, _, a4, a5, a6, a7, a8⟩, h2, h3, h4⟩ := okT_parts.1 h
  obtain ⟨g1, g2⟩ := (goodL_iff ltPath_trans).1 h4
  refine okT_parts.2 ⟨⟨a1, a2, hn, a4, a5, a6, a7, a8⟩, by show (t.sets_.map f).length ≤ 32; rw [List.length_map]; exact h2, ?_, (goodL_iff ltPath_trans).2 ⟨?_, ?_⟩⟩
  · obtain ⟨y, hy⟩ := hasSet_iff.1 h3
    exact hasSet_iff.2 ⟨_, mapT_at hf hy⟩
  · intro x hx
    obtain ⟨y, hy, rfl⟩ := List.mem_map.1 (show x ∈ t.sets_.map f from hx)
    exact hs y hy (g1 y hy)
  · show (t.sets_.map f).Pairwise _
    rw [List.pairwise_map]
    refine g2.imp fun {x y} hxy => ?_
    unfold ltPath at *
    rw [hf, hf]
    exact hxy
theorem setB_to {t t' : PTenant} {x x' : PSet} (h : setB t x = true) (hp : x'.path_ = x.path_) (hb : okK x'.body_ = true) (ho : okP x'.own_ = true) (hsn : snapsB x'.snaps_ = true)
    (hu : ∀ q y, setAt t q = some y → ∃ y', setAt t' q = some y') (horig : origB t' x' = true) : setB t' x' = true := by
  unfold setB at h ⊢
  simp only [Bool.and_eq_true] at h ⊢
  refine ⟨?_, hb, ho, hsn, horig⟩
  have h1 := h.1
  unfold upB at h1 ⊢
  rw [hp]
  rcases hc : upP x.path_ with _ | u
  · rw [hc] at h1
    exact h1
  · rw [hc] at h1
    obtain ⟨y, hy⟩ := hasSet_iff.1 (show hasSet t u = true from h1)
    obtain ⟨y', hy'⟩ := hu u y hy
    exact hasSet_iff.2 ⟨y', hy'⟩
theorem orig_move {t t' : PTenant} {x x' : PSet} (h : origB t x = true) (hp : x'.path_ = x.path_) (ho : x'.origin_ = x.origin_)
    (H : ∀ q n, splitP x.origin_ = some (q, n) → ∀ y, setAt t q = some y → hasSnap y n = true → ∃ y', setAt t' q = some y' ∧ hasSnap y' n = true) : origB t' x' = true := by
  unfold origB at h ⊢
  rw [ho, hp]
  rw [Bool.or_eq_true] at h ⊢
  rcases h with h | h
  · exact .inl h
  · right
    rcases hs : splitP x.origin_ with _ | ⟨q, n⟩
    · rw [hs] at h
      cases h
    · rw [hs] at h
      simp only [Bool.and_eq_true] at h ⊢
      refine ⟨h.1, ?_⟩
      rcases ha : setAt t q with _ | y
      · rw [ha] at h
        cases h.2
      · rw [ha] at h
        obtain ⟨y', hy', hm⟩ := H q n hs y ha h.2
        rw [hy']
        exact hm
theorem setB_parts {t : PTenant} {x : PSet} (h : setB t x = true) : okK x.body_ = true ∧ okP x.own_ = true ∧ snapsB x.snaps_ = true ∧ origB t x = true := by
  unfold setB at h
  simp only [Bool.and_eq_true] at h
  exact h.2
/-! ## Snapshots -/
theorem ltGuid_trans (a b c : PSnap) (h : ltGuid a b = true) (k : ltGuid b c = true) : ltGuid a c = true := by
  unfold ltGuid at *
  simp only [decide_eq_true_eq] at *
  omega
theorem snapsB_parts {l : List PSnap} : snapsB l = true ↔ ((∀ x ∈ l, snapB x = true) ∧ l.Pairwise fun a b => ltGuid a b = true) ∧ (l.map PSnap.name_).Nodup ∧ l.length ≤ 16 := by
  unfold snapsB noTwo
  rw [Bool.and_eq_true, Bool.and_eq_true, goodL_iff ltGuid_trans, decide_eq_true_eq, decide_eq_true_eq]
def guidP (t : PTenant) (s : PSet) : Int := match s.snaps_.getLast? with
  | none => t.next_
  | some x => if t.next_ ≤ x.guid_ then x.guid_ + 1 else t.next_
theorem guid_next (t : PTenant) (s : PSet) : t.next_ ≤ guidP t s := by
  unfold guidP
  split
  · exact Int.le_refl _
  · split <;> omega
theorem guid_last {t : PTenant} {s : PSet} {x : PSnap} (h : s.snaps_.getLast? = some x) : x.guid_ < guidP t s := by
  unfold guidP
  rw [h]
  dsimp only
  split <;> omega
def foundE (t : PTenant) (p n : ByteArray) (more must : Bool) : Int := if okT t = false then 9 else if isPath (bs p) = false ∨ isName (bs n) = false ∨ more = false then 31 else match setAt t p with
  | none => 71
  | some s => if must = true ∧ hasSnap s n = false then 71 else 0
theorem found_ways {t : PTenant} {p n : ByteArray} {more must : Bool} (h : foundE t p n more must = 0) : okT t = true ∧ isPath (bs p) = true ∧ isName (bs n) = true ∧ more = true ∧ ∃ s, setAt t p = some s ∧ (must = true → hasSnap s n = true) := by
  unfold foundE at h
  split at h
  · cases h
  · split at h
    · cases h
    · rename_i a b
      rcases hs : setAt t p with _ | s
      · rw [hs] at h
        cases h
      · rw [hs] at h
        dsimp only at h
        split at h
        · cases h
        · rename_i c
          simp only [not_or, Bool.not_eq_false] at a b
          refine ⟨a, b.1, b.2.1, b.2.2, s, rfl, fun hm => ?_⟩
          by_cases hh : hasSnap s n = true
          · exact hh
          · exact absurd ⟨hm, by simpa using hh⟩ c
def addSn (p n : ByteArray) (g : Int) (x : PSet) : PSet := if x.path_ = p then { x with snaps_ := x.snaps_ ++ [{ name_ := n, guid_ := g, tags_ := [], body_ := x.body_, own_ := x.own_ }] } else x
def snapE (t : PTenant) (p n : ByteArray) : Int := if foundE t p n true false ≠ 0 then foundE t p n true false else match setAt t p with
  | none => 71
  | some s => if hasSnap s n = true then 6 else if s.snaps_.length = 16 then 3 else if 1099511627776 ≤ guidP t s then 15 else 0
def snapG (t : PTenant) (p : ByteArray) : Int := match setAt t p with
  | none => 0
  | some s => guidP t s
def snapT (t : PTenant) (p n : ByteArray) : PTenant := mapP t (addSn p n (snapG t p)) (snapG t p + 1)
def snapshotP (t : PTenant) (p n : ByteArray) : PTenant × Int × Int := if snapE t p n ≠ 0 then (noT, 0, snapE t p n) else if (settledP (snapT t p n)).2 ≠ 0 then (noT, 0, (settledP (snapT t p n)).2) else ((settledP (snapT t p n)).1, snapG t p, 0)
theorem snapE_ways {t : PTenant} {p n : ByteArray} (h : snapE t p n = 0) : okT t = true ∧ isPath (bs p) = true ∧ isName (bs n) = true ∧ ∃ s, setAt t p = some s ∧ hasSnap s n = false ∧ s.snaps_.length ≠ 16 ∧ guidP t s < 1099511627776 := by
  unfold snapE at h
  by_cases hf : foundE t p n true false = 0
  · rw [if_neg (fun k => k hf)] at h
    obtain ⟨h1, h2, h3, _, s, hs, _⟩ := found_ways hf
    rw [hs] at h
    dsimp only at h
    refine ⟨h1, h2, h3, s, hs, ?_⟩
    split at h
    · cases h
    · split at h
      · cases h
      · split at h
        · cases h
        · rename_i a b c
          exact ⟨by simpa using a, b, by omega⟩
  · rw [if_pos hf] at h
    exact absurd h hf
theorem addSn_path (p n : ByteArray) (g : Int) (x : PSet) : (addSn p n g x).path_ = x.path_ := by unfold addSn; split <;> rfl
theorem addSn_origin (p n : ByteArray) (g : Int) (x : PSet) : (addSn p n g x).origin_ = x.origin_ := by unfold addSn; split <;> rfl
theorem addSn_body (p n : ByteArray) (g : Int) (x : PSet) : (addSn p n g x).body_ = x.body_ := by unfold addSn; split <;> rfl
theorem addSn_own (p n : ByteArray) (g : Int) (x : PSet) : (addSn p n g x).own_ = x.own_ := by unfold addSn; split <;> rfl
theorem addSn_has {p n m : ByteArray} {g : Int} {x : PSet} (h : hasSnap x m = true) : hasSnap (addSn p n g x) m = true := by
  unfold addSn
  split
  · unfold hasSnap at *
    rw [List.any_append, h]
    rfl
  · exact h
theorem snap_ok {t : PTenant} {p n : ByteArray} (h : snapE t p n = 0) : okT (snapT t p n) = true := by
  obtain ⟨h1, h2, h3, s, hs, hno, h16, hg⟩ := snapE_ways h
  have hgp : snapG t p = guidP t s := by unfold snapG; rw [hs]
  have ha : amt 1 t.next_ = true := (okT_parts.1 h1).1.2.2.1
  have hr := ((goodL_iff ltPath_trans).1 (okT_parts.1 h1).2.2.2).2
  have hn := guid_next t s
  unfold amt at ha
  simp only [Bool.and_eq_true, decide_eq_true_eq] at ha
  have hgd : amt 1 (snapG t p) = true := by
    unfold amt
    simp only [Bool.and_eq_true, decide_eq_true_eq]
    omega
  refine map_ok h1 ?_ (addSn_path p n _) fun x hx hb => ?_
  · unfold amt
    simp only [Bool.and_eq_true, decide_eq_true_eq]
    omega
  · obtain ⟨b1, b2, b3, b4⟩ := setB_parts hb
    refine setB_to hb (addSn_path p n _ x) (by rw [addSn_body]; exact b1) (by rw [addSn_own]; exact b2) ?_ (fun q y hy => ⟨_, mapT_at (addSn_path p n _) hy⟩) ?_
    · unfold addSn
      split
      · rename_i he
        obtain rfl : x = s := by
          have := rise_at hr hx
          rw [he, hs] at this
          injection this with this
          exact this.symm
        obtain ⟨⟨c1, c2⟩, c3, c4⟩ := snapsB_parts.1 b3
        refine snapsB_parts.2 ⟨⟨?_, ?_⟩, ?_, ?_⟩
        · intro y hy
          rcases List.mem_append.1 hy with hy | hy
          · exact c1 y hy
          · rw [List.mem_singleton] at hy
            subst hy
            unfold snapB
            simp only [Bool.and_eq_true]
            exact ⟨h3, hgd, rfl, b1, b2⟩
        · refine List.pairwise_append.2 ⟨c2, List.pairwise_singleton _ _, fun a ha' b hb' => ?_⟩
          rw [List.mem_singleton] at hb'
          subst hb'
          unfold ltGuid
          rw [decide_eq_true_eq]
          show a.guid_ < snapG t p
          rw [hgp]
          rcases hl : x.snaps_.getLast? with _ | z
          · rw [List.getLast?_eq_none_iff] at hl
            rw [hl] at ha'
            cases ha'
          · have hz := guid_last (t := t) hl
            obtain ⟨ys, hys⟩ := List.getLast?_eq_some_iff.1 hl
            rw [hys] at ha' c2
            rcases List.mem_append.1 ha' with ha' | ha'
            · have := (List.pairwise_append.1 c2).2.2 a ha' z (by simp)
              unfold ltGuid at this
              rw [decide_eq_true_eq] at this
              omega
            · rw [List.mem_singleton] at ha'
              subst ha'
              exact hz
        · rw [List.map_append, List.nodup_append]
          refine ⟨c3, by simp, fun a ha' b hb' => ?_⟩
          simp only [List.map_cons, List.map_nil, List.mem_singleton] at hb'
          subst hb'
          rintro rfl
          obtain ⟨y, hy, hye⟩ := List.mem_map.1 ha'
          unfold hasSnap at hno
          rw [List.any_eq_false] at hno
          exact hno y hy (decide_eq_true hye)
        · show (x.snaps_ ++ [_]).length ≤ 16
          rw [List.length_append]
          simp only [List.length_cons, List.length_nil]
          omega
      · exact b3
    · exact orig_move b4 (addSn_path p n _ x) (addSn_origin p n _ x) fun q m _ y hy hm => ⟨_, mapT_at (addSn_path p n _) hy, addSn_has hm⟩
/-! ## Without a snapshot -/
def clonesN (t : PTenant) (p n : ByteArray) : List ByteArray := (t.sets_.filter fun s => match splitP s.origin_ with | none => false | some (q, m) => decide (q = p) && decide (m = n)).map PSet.path_
theorem no_cloneN {t : PTenant} {p n : ByteArray} (h : clonesN t p n = []) {x : PSet} (hx : x ∈ t.sets_) {q m : ByteArray} (hs : splitP x.origin_ = some (q, m)) : ¬ (q = p ∧ m = n) := by
  rintro ⟨e1, e2⟩
  unfold clonesN at h
  rw [List.map_eq_nil_iff, List.filter_eq_nil_iff] at h
  refine h x hx ?_
  rw [hs]
  simp [e1, e2]
def snapOf (s : PSet) (n : ByteArray) : Option PSnap := s.snaps_.find? fun x => decide (x.name_ = n)
def unsnapE (t : PTenant) (p n : ByteArray) : Int := if foundE t p n true true ≠ 0 then foundE t p n true true else if clonesN t p n ≠ [] then 44 else match setAt t p with
  | none => 71
  | some s => match snapOf s n with
    | none => 71
    | some y => if y.tags_ ≠ [] then 43 else 0
def delSn (p n : ByteArray) (x : PSet) : PSet := if x.path_ = p then { x with snaps_ := x.snaps_.eraseP fun y => decide (y.name_ = n) } else x
def unsnapP (t : PTenant) (p n : ByteArray) : PTenant × Int := if unsnapE t p n ≠ 0 then (noT, unsnapE t p n) else (mapP t (delSn p n) t.next_, 0)
/-! ## Clones -/
def cloneS (to o : ByteArray) (y : PSnap) : PSet := { path_ := to, origin_ := o, body_ := y.body_, own_ := y.own_, snaps_ := [] }
def cloneE (t : PTenant) (p n to : ByteArray) : Int := if foundE t p n (isPath (bs to)) true ≠ 0 then foundE t p n (isPath (bs to)) true else roomE t to
def cloneP (t : PTenant) (p n to o : ByteArray) : PTenant × Int := if cloneE t p n to ≠ 0 then (noT, cloneE t p n to) else match setAt t p with
  | none => (noT, 71)
  | some s => match snapOf s n with
    | none => (noT, 71)
    | some y => settledP (withP t (cloneS to o y))
theorem room_ways {t : PTenant} {p : ByteArray} (h : roomE t p = 0) : hasSet t p = false ∧ hasSet t ((upP p).getD ByteArray.empty) = true ∧ t.sets_.length ≠ 32 := by
  unfold roomE at h
  split at h
  · cases h
  · split at h
    · cases h
    · split at h
      · cases h
      · rename_i a b c
        exact ⟨by simpa using a, by simpa using b, c⟩
theorem snapOf_some {s : PSet} {n : ByteArray} {y : PSnap} (h : snapOf s n = some y) : y ∈ s.snaps_ ∧ y.name_ = n :=
  ⟨List.mem_of_find?_eq_some h, by have := List.find?_some h; simpa using this⟩
theorem snapOf_has {s : PSet} {n : ByteArray} (h : hasSnap s n = true) : ∃ y, snapOf s n = some y := by
  unfold hasSnap at h
  rw [List.any_eq_true] at h
  obtain ⟨y, hy, hn⟩ := h
  rcases hs : snapOf s n with _ | z
  · unfold snapOf at hs
    rw [List.find?_eq_none] at hs
    exact absurd hn (hs y hy)
  · exact ⟨z, rfl⟩
theorem clone_may {t : PTenant} {p n to o : ByteArray} (hsp : splitP o = some (p, n)) (h : (cloneP t p n to o).2 = 0) : ∃ s y, setAt t p = some s ∧ snapOf s n = some y ∧ y ∈ s.snaps_ ∧ hasSet t to = false ∧
    cloneP t p n to o = (withP t (cloneS to o y), 0) ∧ okT (withP t (cloneS to o y)) = true ∧ (chgP (withP t (cloneS to o y)) : Int) ≤ (withP t (cloneS to o y)).quota_ := by
  unfold cloneP at h ⊢
  by_cases he : cloneE t p n to ≠ 0
  · rw [if_pos he] at h
    exact absurd h he
  · rw [if_neg he] at h ⊢
    have he' := Decidable.not_not.1 he
    unfold cloneE at he'
    by_cases hf : foundE t p n (isPath (bs to)) true = 0
    · rw [if_neg (fun k => k hf)] at he'
      obtain ⟨h1, h2, h3, h4, s, hs, h5⟩ := found_ways hf
      obtain ⟨r1, r2, r3⟩ := room_ways he'
      obtain ⟨y, hy⟩ := snapOf_has (h5 rfl)
      obtain ⟨hym, hyn⟩ := snapOf_some hy
      obtain ⟨_, hl, h0, hg⟩ := okT_parts.1 h1
      obtain ⟨g1, _⟩ := (goodL_iff ltPath_trans).1 hg
      obtain ⟨hsm, hsp'⟩ := setAt_some hs
      obtain ⟨b1, b2, b3, b4⟩ := setB_parts (g1 s hsm)
      have hyb := (snapsB_parts.1 b3).1.1 y hym
      unfold snapB at hyb
      simp only [Bool.and_eq_true] at hyb
      have hok : setB t (cloneS to o y) = true := by
        have hn := new_ok h4 r2 r1 h0
        refine setB_to hn rfl hyb.2.2.2.1 hyb.2.2.2.2 rfl (fun q z hz => ⟨z, hz⟩) ?_
        unfold origB
        rw [Bool.or_eq_true]
        right
        show (match splitP o with | none => false | some (q, m) => decide (q ≠ to) && match setAt t q with | none => false | some x => hasSnap x m) = true
        rw [hsp]
        dsimp only
        rw [hs, Bool.and_eq_true, decide_eq_true_eq]
        refine ⟨?_, h5 rfl⟩
        rintro rfl
        rw [hasSet_iff.2 ⟨s, hs⟩] at r1
        cases r1
      have hw := with_ok h1 (by omega) (hasSet_no.1 r1) hok
      rw [hs] at h ⊢
      dsimp only at h ⊢
      rw [hy] at h ⊢
      dsimp only at h ⊢
      obtain ⟨e, hc⟩ := settled_may h
      exact ⟨s, y, rfl, hy, hym, r1, e, hw, hc⟩
    · rw [if_pos hf] at he'
      exact absurd he' hf
theorem clone_busy {t : PTenant} {p n to o : ByteArray} {y : PSnap} {s : PSet} (hsp : splitP o = some (p, n)) (hp : isPath (bs p) = true) (hn : isName (bs n) = true) (hok : okT (withP t (cloneS to o y)) = true) (h0 : okT t = true) (hto : setAt t to = none)
    (hs : setAt t p = some s) (hh : hasSnap s n = true) : unsnapE (withP t (cloneS to o y)) p n = 44 := by
  have hr := ((goodL_iff ltPath_trans).1 (okT_parts.1 h0).2.2.2).2
  have hs' : setAt (withP t (cloneS to o y)) p = some s := with_at hr hto hs
  have hf : foundE (withP t (cloneS to o y)) p n true true = 0 := by
    unfold foundE
    rw [hok, hs', hp, hn]
    simp [hh]
  have hc : clonesN (withP t (cloneS to o y)) p n ≠ [] := by
    intro e
    exact no_cloneN e (x := cloneS to o y) (mem_insS.2 (.inl rfl)) (show splitP o = some (p, n) from hsp) ⟨rfl, rfl⟩
  unfold unsnapE
  rw [if_neg (fun k => k hf), if_pos hc]
/-! ## Rolled back -/
/-! ## Another name -/
theorem idxOf_cut {c : UInt8} : ∀ {l : List UInt8} {i : Nat}, l.idxOf? c = some i → l = l.take i ++ c :: l.drop (i + 1)
  | [], i, h => by simp at h
  | x :: l, i, h => by
    rw [List.idxOf?_cons] at h
    rcases hx : (x == c) with _ | _
    · rw [hx] at h
      simp only [Bool.false_eq_true, if_false, Option.map_eq_some_iff] at h
      obtain ⟨j, hj, rfl⟩ := h
      rw [List.take_succ_cons, List.drop_succ_cons, List.cons_append, ← idxOf_cut hj]
    · rw [hx] at h
      simp only [if_true, Option.some.injEq] at h
      subst h
      rw [beq_iff_eq] at hx
      subst hx
      rfl
theorem splitP_bs {s q m : ByteArray} (h : splitP s = some (q, m)) : bs s = bs q ++ 64 :: bs m ∧ isPath (bs q) = true ∧ isName (bs m) = true := by
  unfold splitP at h
  rcases hi : (bs s).idxOf? 64 with _ | i
  · rw [hi] at h
    cases h
  · rw [hi] at h
    dsimp only at h
    split at h
    · rename_i hc
      rw [Bool.and_eq_true] at hc
      simp only [Option.some.injEq, Prod.mk.injEq] at h
      obtain ⟨rfl, rfl⟩ := h
      rw [bs_ofL, bs_ofL]
      exact ⟨idxOf_cut hi, hc⟩
    · cases h
theorem splitP_one {s s' q m : ByteArray} (h : splitP s = some (q, m)) (h' : splitP s' = some (q, m)) : s = s' := by
  have e := (splitP_bs h).1.trans (splitP_bs h').1.symm
  rw [← ofL_bs s, ← ofL_bs s', e]
def nameSn (n to : ByteArray) (y : PSnap) : PSnap := if y.name_ = n then { y with name_ := to } else y
def origT (o o' : ByteArray) (x : PSet) : ByteArray := if x.origin_ = o then o' else x.origin_
def renS (p n to o o' : ByteArray) (x : PSet) : PSet := { x with origin_ := origT o o' x, snaps_ := if x.path_ = p then x.snaps_.map (nameSn n to) else x.snaps_ }
theorem nameSn_guid (n to : ByteArray) (y : PSnap) : (nameSn n to y).guid_ = y.guid_ := by unfold nameSn; split <;> rfl
theorem nameSn_name (n to : ByteArray) (y : PSnap) : (nameSn n to y).name_ = if y.name_ = n then to else y.name_ := by unfold nameSn; split <;> rfl
theorem nameSn_good {n to : ByteArray} {y : PSnap} (hto : isName (bs to) = true) (h : snapB y = true) : snapB (nameSn n to y) = true := by
  unfold nameSn
  split
  · unfold snapB at h ⊢
    simp only [Bool.and_eq_true] at h ⊢
    exact ⟨hto, h.2⟩
  · exact h
theorem nameSn_all {n to : ByteArray} {l : List PSnap} (hto : isName (bs to) = true) (hno : ∀ y ∈ l, y.name_ ≠ to) (h : snapsB l = true) : snapsB (l.map (nameSn n to)) = true := by
  obtain ⟨⟨c1, c2⟩, c3, c4⟩ := snapsB_parts.1 h
  refine snapsB_parts.2 ⟨⟨?_, ?_⟩, ?_, by rw [List.length_map]; exact c4⟩
  · intro x hx
    obtain ⟨y, hy, rfl⟩ := List.mem_map.1 hx
    exact nameSn_good hto (c1 y hy)
  · rw [List.pairwise_map]
    refine c2.imp fun {a b} hab => ?_
    unfold ltGuid at *
    rw [nameSn_guid, nameSn_guid]
    exact hab
  · unfold List.Nodup at c3 ⊢
    rw [List.pairwise_map] at c3 ⊢
    rw [List.pairwise_map]
    refine c3.imp_of_mem fun {a b} ha hb hab => ?_
    rw [nameSn_name, nameSn_name]
    have h1 := hno a ha
    have h2 := hno b hb
    split <;> split
    · rename_i e1 e2
      exact absurd (e1.trans e2.symm) hab
    · exact fun e => h2 e.symm
    · exact h1
    · exact hab
theorem renS_has {p n to o o' m : ByteArray} {x : PSet} (h : hasSnap x m = true) (hne : x.path_ = p → m ≠ n) : hasSnap (renS p n to o o' x) m = true := by
  unfold renS hasSnap at *
  dsimp only
  split
  · rename_i he
    rw [List.any_eq_true] at h ⊢
    obtain ⟨y, hy, hm⟩ := h
    rw [decide_eq_true_eq] at hm
    refine ⟨nameSn n to y, List.mem_map_of_mem hy, ?_⟩
    rw [decide_eq_true_eq, nameSn_name, if_neg (by rw [hm]; exact hne he)]
    exact hm
  · exact h
theorem renS_new {p n to o o' : ByteArray} {x : PSet} (h : hasSnap x n = true) (hp : x.path_ = p) : hasSnap (renS p n to o o' x) to = true := by
  unfold renS hasSnap at *
  dsimp only
  rw [if_pos hp]
  rw [List.any_eq_true] at h ⊢
  obtain ⟨y, hy, hm⟩ := h
  rw [decide_eq_true_eq] at hm
  refine ⟨nameSn n to y, List.mem_map_of_mem hy, ?_⟩
  rw [decide_eq_true_eq, nameSn_name, if_pos hm]
def renE (t : PTenant) (p n to : ByteArray) : Int := if foundE t p n (isName (bs to)) true ≠ 0 then foundE t p n (isName (bs to)) true else match setAt t p with
  | none => 71
  | some s => if hasSnap s to = true then 6 else 0
def renP (t : PTenant) (p n to o o' : ByteArray) : PTenant × Int := if renE t p n to ≠ 0 then (noT, renE t p n to) else (mapP t (renS p n to o o') t.next_, 0)
theorem ren_may {t : PTenant} {p n to o o' : ByteArray} (ho : splitP o = some (p, n)) (ho' : splitP o' = some (p, to)) (h : (renP t p n to o o').2 = 0) :
    renP t p n to o o' = (mapP t (renS p n to o o') t.next_, 0) ∧ okT (mapP t (renS p n to o o') t.next_) = true := by
  unfold renP at h ⊢
  by_cases he : renE t p n to ≠ 0
  · rw [if_pos he] at h
    exact absurd h he
  · rw [if_neg he]
    refine ⟨rfl, ?_⟩
    have he' := Decidable.not_not.1 he
    unfold renE at he'
    by_cases hf : foundE t p n (isName (bs to)) true = 0
    · rw [if_neg (fun k => k hf)] at he'
      obtain ⟨h1, h2, h3, h4, s, hs, h5⟩ := found_ways hf
      rw [hs] at he'
      dsimp only at he'
      have hno : hasSnap s to = false := by
        rcases hh : hasSnap s to with _ | _
        · rfl
        · rw [if_pos hh] at he'
          cases he'
      have hr := ((goodL_iff ltPath_trans).1 (okT_parts.1 h1).2.2.2).2
      have hpath : ∀ x, (renS p n to o o' x).path_ = x.path_ := fun _ => rfl
      have hoe : o ≠ ByteArray.empty := by
        rintro rfl
        have := (splitP_bs ho).1
        rw [show bs ByteArray.empty = [] from rfl] at this
        have := congrArg List.length this
        simp at this
      refine map_ok h1 (okT_parts.1 h1).1.2.2.1 hpath fun x hx hb => ?_
      obtain ⟨b1, b2, b3, b4⟩ := setB_parts hb
      refine setB_to hb rfl b1 b2 ?_ (fun q y hy => ⟨_, mapT_at hpath hy⟩) ?_
      · unfold renS
        dsimp only
        split
        · rename_i hp
          obtain rfl : x = s := by
            have := rise_at hr hx
            rw [hp, hs] at this
            injection this with this
            exact this.symm
          refine nameSn_all h4 (fun y hy e => ?_) b3
          unfold hasSnap at hno
          rw [List.any_eq_false] at hno
          exact hno y hy (decide_eq_true e)
        · exact b3
      · by_cases hxo : x.origin_ = o
        · unfold origB at b4 ⊢
          rw [Bool.or_eq_true] at b4 ⊢
          right
          have hro : (renS p n to o o' x).origin_ = o' := by
            show origT o o' x = o'
            unfold origT
            rw [if_pos hxo]
          rw [hro, ho']
          dsimp only
          rw [hxo, ho] at b4
          rcases b4 with b4 | b4
          · rw [decide_eq_true_eq] at b4
            exact absurd b4 hoe
          · dsimp only at b4
            rw [Bool.and_eq_true] at b4 ⊢
            refine ⟨b4.1, ?_⟩
            rw [mapT_at hpath hs]
            exact renS_new (h5 rfl) (setAt_some hs).2
        · refine orig_move b4 rfl (show origT o o' x = x.origin_ by unfold origT; rw [if_neg hxo]) fun q m hsp y hy hm => ⟨_, mapT_at hpath hy, renS_has hm fun hq hmn => ?_⟩
          have hyq := (setAt_some hy).2
          have e1 : q = p := hyq.symm.trans hq
          subst e1
          subst hmn
          exact hxo (splitP_one hsp ho)
    · rw [if_pos hf] at he'
      exact absurd he' hf
/-! ## Behind a snapshot -/
def chS (p : ByteArray) (f : PSet → PSet) (l : List PSet) : List PSet := l.map fun x => if x.path_ = p then f x else x
theorem chS_set {f : PSet → PSet} : ∀ {l : List PSet} {j : Nat} {s : PSet}, (l.Pairwise fun a b => ltPath a b = true) → l[j]? = some s → chS s.path_ f l = l.set j (f s)
  | [], j, s, _, h => by simp at h
  | a :: l, 0, s, hr, h => by
    simp only [List.getElem?_cons_zero, Option.some.injEq] at h
    subst h
    show (if a.path_ = a.path_ then f a else a) :: chS a.path_ f l = f a :: l
    rw [if_pos rfl]
    congr 1
    unfold chS
    conv => rhs; rw [← List.map_id l]
    refine List.map_congr_left fun x hx => ?_
    have h1 := (List.pairwise_cons.1 hr).1 x hx
    rw [if_neg]
    · rfl
    · intro e
      have h2 : ltK a.path_ x.path_ := ltTx_lt.1 h1
      rw [e] at h2
      exact ltK_ne h2 rfl
  | a :: l, j + 1, s, hr, h => by
    rw [List.getElem?_cons_succ] at h
    have h1 := (List.pairwise_cons.1 hr).1 s (List.mem_of_getElem? h)
    have h2 : ¬ a.path_ = s.path_ := by
      intro e
      have h2 : ltK a.path_ s.path_ := ltTx_lt.1 h1
      rw [e] at h2
      exact ltK_ne h2 rfl
    show (if a.path_ = s.path_ then f a else a) :: chS s.path_ f l = a :: l.set j (f s)
    rw [if_neg h2, chS_set (List.pairwise_cons.1 hr).2 h]
theorem insS_at {s : PSet} : ∀ {l : List PSet} {j : Nat}, (∀ x ∈ l.take j, ltTx x.path_ s.path_ = true) → (∀ x, l[j]? = some x → ltTx x.path_ s.path_ = false) → j ≤ l.length → insS s l = l.take j ++ s :: l.drop j
  | [], j, _, _, hj => by
    have : j = 0 := by simpa using hj
    subst this
    rfl
  | a :: l, 0, _, h, _ => by
    have h1 := h a rfl
    unfold insS
    rw [List.takeWhile_cons, List.dropWhile_cons]
    simp [h1]
  | a :: l, j + 1, h, h', hj => by
    have h1 := h a (by simp)
    have h2 := insS_at (s := s) (l := l) (j := j) (fun x hx => h x (by rw [List.take_succ_cons]; exact List.mem_cons_of_mem _ hx)) (fun x hx => h' x (by rw [List.getElem?_cons_succ]; exact hx)) (by simpa using hj)
    unfold insS at h2 ⊢
    rw [List.takeWhile_cons, List.dropWhile_cons, if_pos h1, if_pos h1, List.cons_append, h2]
    rfl
end Go.Proofs.YtimmcmjipmkebaaGreat
