/-
  Snap, Set, Sum, Record, Stage, Entry, Tenant, plainly. No conditions.
-/
import Derived.Test.YtnioelkibghplaaGreatQBLM
import Derived.Test.YtnioelkibghplaaGreatQGY
import Derived.Test.YtnioelkibghplaaGreatQSL
namespace Go.Proofs.YtnioelkibghplaaGreat
set_option maxRecDepth 100000

structure PSnap where
  name_ : ByteArray
  guid_ : Int
  body_ : List Bk
  tags_ : List ByteArray
  own_ : List Pr

theorem PSnap.eq_iff {a b : PSnap} : a = b ↔ a.name_ = b.name_ ∧ a.guid_ = b.guid_ ∧ a.body_ = b.body_ ∧ a.tags_ = b.tags_ ∧ a.own_ = b.own_ := by
  cases a
  cases b
  simp

instance : DecidableEq PSnap := fun a b => decidable_of_iff (a.name_ = b.name_ ∧ a.guid_ = b.guid_ ∧ a.body_ = b.body_ ∧ a.tags_ = b.tags_ ∧ a.own_ = b.own_) PSnap.eq_iff.symm

structure PSet where
  path_ : ByteArray
  origin_ : ByteArray
  body_ : List Bk
  snaps_ : List PSnap
  own_ : List Pr

theorem PSet.eq_iff {a b : PSet} : a = b ↔ a.path_ = b.path_ ∧ a.origin_ = b.origin_ ∧ a.body_ = b.body_ ∧ a.snaps_ = b.snaps_ ∧ a.own_ = b.own_ := by
  cases a
  cases b
  simp

instance : DecidableEq PSet := fun a b => decidable_of_iff (a.path_ = b.path_ ∧ a.origin_ = b.origin_ ∧ a.body_ = b.body_ ∧ a.snaps_ = b.snaps_ ∧ a.own_ = b.own_) PSet.eq_iff.symm

structure PSum where
  a_ : Int
  b_ : Int
  c_ : Int
  d_ : Int

theorem PSum.eq_iff {a b : PSum} : a = b ↔ a.a_ = b.a_ ∧ a.b_ = b.b_ ∧ a.c_ = b.c_ ∧ a.d_ = b.d_ := by
  cases a
  cases b
  simp

instance : DecidableEq PSum := fun a b => decidable_of_iff (a.a_ = b.a_ ∧ a.b_ = b.b_ ∧ a.c_ = b.c_ ∧ a.d_ = b.d_) PSum.eq_iff.symm

structure PRecord where
  kind_ : Int
  name_ : ByteArray
  from_ : Int
  guid_ : Int
  own_ : List Pr
  index_ : Int
  count_ : Int
  data_ : ByteArray
  sum_ : PSum

theorem PRecord.eq_iff {a b : PRecord} : a = b ↔ a.kind_ = b.kind_ ∧ a.name_ = b.name_ ∧ a.from_ = b.from_ ∧ a.guid_ = b.guid_ ∧ a.own_ = b.own_ ∧ a.index_ = b.index_ ∧ a.count_ = b.count_ ∧ a.data_ = b.data_ ∧ a.sum_ = b.sum_ := by
  cases a
  cases b
  simp

instance : DecidableEq PRecord := fun a b => decidable_of_iff (a.kind_ = b.kind_ ∧ a.name_ = b.name_ ∧ a.from_ = b.from_ ∧ a.guid_ = b.guid_ ∧ a.own_ = b.own_ ∧ a.index_ = b.index_ ∧ a.count_ = b.count_ ∧ a.data_ = b.data_ ∧ a.sum_ = b.sum_) PRecord.eq_iff.symm

structure PStage where
  into_ : ByteArray
  begin_ : PRecord
  body_ : List Bk
  at_ : Int
  next_ : Int
  sum_ : PSum
  done_ : Bool

theorem PStage.eq_iff {a b : PStage} : a = b ↔ a.into_ = b.into_ ∧ a.begin_ = b.begin_ ∧ a.body_ = b.body_ ∧ a.at_ = b.at_ ∧ a.next_ = b.next_ ∧ a.sum_ = b.sum_ ∧ a.done_ = b.done_ := by
  cases a
  cases b
  simp

instance : DecidableEq PStage := fun a b => decidable_of_iff (a.into_ = b.into_ ∧ a.begin_ = b.begin_ ∧ a.body_ = b.body_ ∧ a.at_ = b.at_ ∧ a.next_ = b.next_ ∧ a.sum_ = b.sum_ ∧ a.done_ = b.done_) PStage.eq_iff.symm

structure PEntry where
  user_ : ByteArray
  kind_ : Int
  path_ : ByteArray
  err_ : Int

theorem PEntry.eq_iff {a b : PEntry} : a = b ↔ a.user_ = b.user_ ∧ a.kind_ = b.kind_ ∧ a.path_ = b.path_ ∧ a.err_ = b.err_ := by
  cases a
  cases b
  simp

instance : DecidableEq PEntry := fun a b => decidable_of_iff (a.user_ = b.user_ ∧ a.kind_ = b.kind_ ∧ a.path_ = b.path_ ∧ a.err_ = b.err_) PEntry.eq_iff.symm

structure PTenant where
  name_ : ByteArray
  quota_ : Int
  next_ : Int
  sets_ : List PSet
  grants_ : List Gr
  stages_ : List PStage
  log_ : List PEntry

theorem PTenant.eq_iff {a b : PTenant} : a = b ↔ a.name_ = b.name_ ∧ a.quota_ = b.quota_ ∧ a.next_ = b.next_ ∧ a.sets_ = b.sets_ ∧ a.grants_ = b.grants_ ∧ a.stages_ = b.stages_ ∧ a.log_ = b.log_ := by
  cases a
  cases b
  simp

instance : DecidableEq PTenant := fun a b => decidable_of_iff (a.name_ = b.name_ ∧ a.quota_ = b.quota_ ∧ a.next_ = b.next_ ∧ a.sets_ = b.sets_ ∧ a.grants_ = b.grants_ ∧ a.stages_ = b.stages_ ∧ a.log_ = b.log_) PTenant.eq_iff.symm

end Go.Proofs.YtnioelkibghplaaGreat

namespace Go.Proofs.YtnioelkibghplaaGreat
set_option maxRecDepth 100000

theorem dropWhile_all {α : Type} {p : α → Bool} : ∀ {l : List α}, (∀ x ∈ l, p x = true) → l.dropWhile p = []
  | [], _ => rfl
  | x :: l, h => by
    rw [List.dropWhile_cons, if_pos (h x (by simp))]
    exact dropWhile_all fun y hy => h y (by simp [hy])
def aboveL (l : List UInt8) : List UInt8 := ((l.reverse.dropWhile fun c => decide (c ≠ 47)).drop 1).reverse
theorem aboveL_top {l : List UInt8} (h : (47 : UInt8) ∉ l) : aboveL l = [] := by
  unfold aboveL
  have : l.reverse.dropWhile (fun c => decide (c ≠ 47)) = [] := by
    refine dropWhile_all fun x hx => ?_
    rw [List.mem_reverse] at hx
    exact decide_eq_true fun e => h (e ▸ hx)
  rw [this]
  rfl
theorem aboveL_up {a b : List UInt8} (h : (47 : UInt8) ∉ b) : aboveL (a ++ 47 :: b) = a := by
  unfold aboveL
  have e : (a ++ 47 :: b).reverse = b.reverse ++ 47 :: a.reverse := by simp
  have : (b.reverse ++ 47 :: a.reverse).dropWhile (fun c => decide (c ≠ 47)) = 47 :: a.reverse := by
    rw [List.dropWhile_append_of_pos]
    · simp
    · intro x hx
      rw [List.mem_reverse] at hx
      exact decide_eq_true fun e => h (e ▸ hx)
  rw [e, this]
  simp
theorem last_slash {l : List UInt8} (h : (47 : UInt8) ∈ l) : ∃ a b, l = a ++ 47 :: b ∧ (47 : UInt8) ∉ b := by
  induction l with
  | nil => cases h
  | cons x l ih =>
    by_cases hm : (47 : UInt8) ∈ l
    · obtain ⟨a, b, rfl, hb⟩ := ih hm
      exact ⟨x :: a, b, rfl, hb⟩
    · rcases List.mem_cons.1 h with rfl | h
      · exact ⟨[], l, rfl, hm⟩
      · exact absurd h hm
def upP (p : ByteArray) : Option ByteArray := if isPath (bs p) = false ∨ p = ByteArray.empty then none else some (ofL (aboveL (bs p)))
theorem upP_none {p : ByteArray} (h : isPath (bs p) = true) : upP p = none ↔ p = ByteArray.empty := by
  unfold upP
  rw [h]
  by_cases e : p = ByteArray.empty
  · simp [e]
  · simp [e]
theorem upP_some {p : ByteArray} (h : isPath (bs p) = true) (hp : p ≠ ByteArray.empty) : upP p = some (ofL (aboveL (bs p))) := by
  unfold upP
  rw [if_neg]
  rintro (e | e)
  · rw [h] at e; cases e
  · exact hp e
theorem upP_off {p : ByteArray} (h : isPath (bs p) = false) : upP p = none := by
  unfold upP
  rw [if_pos (.inl h)]

def setAt (t : PTenant) (p : ByteArray) : Option PSet := t.sets_.find? fun s => decide (s.path_ = p)
theorem setAt_some {t : PTenant} {p : ByteArray} {s : PSet} (h : setAt t p = some s) : s ∈ t.sets_ ∧ s.path_ = p := by
  unfold setAt at h
  exact ⟨List.mem_of_find?_eq_some h, of_decide_eq_true (List.find?_some (p := fun s : PSet => decide (s.path_ = p)) h)⟩
theorem setAt_none {t : PTenant} {p : ByteArray} : setAt t p = none ↔ ∀ s ∈ t.sets_, s.path_ ≠ p := by
  unfold setAt
  rw [List.find?_eq_none]
  simp
def kidsT (t : PTenant) (p : ByteArray) : List ByteArray := (t.sets_.filter fun s => decide (upP s.path_ = some p)).map PSet.path_

end Go.Proofs.YtnioelkibghplaaGreat

namespace Go.Proofs.YtnioelkibghplaaGreat
set_option maxRecDepth 100000

def amt (m n : Int) : Bool := decide (m ≤ n) && decide (n ≤ 1099511627776)
def ltTx (a b : ByteArray) : Bool := Op.bytesLess a.toList b.toList
def riseB {α : Type} (lt : α → α → Bool) : List α → Bool
  | [] => true
  | [_] => true
  | a :: b :: l => lt a b && riseB lt (b :: l)
theorem riseB_iff {α : Type} {lt : α → α → Bool} : ∀ {l : List α}, riseB lt l = true ↔ ∀ j y x, l[j]? = some y → l[j + 1]? = some x → lt y x = true
  | [] => by simp [riseB]
  | [_] => by
    simp only [riseB, true_iff]
    intro j y x _ h
    simp at h
  | a :: b :: l => by
    rw [riseB, Bool.and_eq_true, riseB_iff]
    constructor
    · rintro ⟨h1, h2⟩ j y x hy hx
      rcases j with _ | j
      · simp at hy hx
        subst hy hx
        exact h1
      · exact h2 j y x (by simpa using hy) (by simpa using hx)
    · intro h
      exact ⟨h 0 a b rfl rfl, fun j y x hy hx => h (j + 1) y x (by simpa using hy) (by simpa using hx)⟩
theorem riseB_pair {α : Type} {lt : α → α → Bool} (ht : ∀ a b c, lt a b = true → lt b c = true → lt a c = true) : ∀ {l : List α}, riseB lt l = true → l.Pairwise fun a b => lt a b = true
  | [], _ => .nil
  | [_], _ => by simp
  | a :: b :: l, h => by
    rw [riseB, Bool.and_eq_true] at h
    have hp := riseB_pair ht h.2
    refine List.pairwise_cons.2 ⟨fun c hc => ?_, hp⟩
    rcases List.mem_cons.1 hc with rfl | hc
    · exact h.1
    · exact ht a b c h.1 ((List.pairwise_cons.1 hp).1 c hc)

def UpTo {α : Type} (good : α → Bool) (lt : α → α → Bool) (l : List α) (k : Nat) : Prop := ∀ i x, i < k → l[i]? = some x → good x = true ∧ ∀ j y, i = j + 1 → l[j]? = some y → lt y x = true
def goodL {α : Type} (good : α → Bool) (lt : α → α → Bool) (l : List α) : Bool := l.all good && riseB lt l
theorem upTo_zero {α : Type} {good : α → Bool} {lt : α → α → Bool} {l : List α} : UpTo good lt l 0 := fun _ _ h _ => absurd h (Nat.not_lt_zero _)
theorem upTo_end {α : Type} {good : α → Bool} {lt : α → α → Bool} {l : List α} {k : Nat} (h : UpTo good lt l k) (hk : l.length ≤ k) : goodL good lt l = true := by
  unfold goodL
  rw [Bool.and_eq_true, List.all_eq_true, riseB_iff]
  constructor
  · intro x hx
    obtain ⟨i, hi⟩ := List.getElem?_of_mem hx
    exact (h i x (by have := (List.getElem?_eq_some_iff.1 hi).1; omega) hi).1
  · intro j y x hy hx
    exact (h (j + 1) x (by have := (List.getElem?_eq_some_iff.1 hx).1; omega) hx).2 j y rfl hy
theorem upTo_succ {α : Type} {good : α → Bool} {lt : α → α → Bool} {l : List α} {k : Nat} (h : UpTo good lt l k) {x : α} (hx : l[k]? = some x) (hg : good x = true) (hr : ∀ j y, k = j + 1 → l[j]? = some y → lt y x = true) : UpTo good lt l (k + 1) := fun i z hi hz => by
  by_cases e : i = k
  · subst e
    rw [hx] at hz
    injection hz with hz
    subst hz
    exact ⟨hg, hr⟩
  · exact h i z (by omega) hz
theorem goodL_bad {α : Type} {good : α → Bool} {lt : α → α → Bool} {l : List α} {k : Nat} {x : α} (hx : l[k]? = some x) (hg : good x = false) : goodL good lt l = false := by
  rw [← Bool.not_eq_true]
  intro h
  unfold goodL at h
  rw [Bool.and_eq_true, List.all_eq_true] at h
  rw [h.1 x (List.mem_of_getElem? hx)] at hg
  cases hg
theorem goodL_low {α : Type} {good : α → Bool} {lt : α → α → Bool} {l : List α} {k : Nat} {x y : α} (hy : l[k]? = some y) (hx : l[k + 1]? = some x) (hg : lt y x = false) : goodL good lt l = false := by
  rw [← Bool.not_eq_true]
  intro h
  unfold goodL at h
  rw [Bool.and_eq_true, riseB_iff] at h
  rw [h.2 k y x hy hx] at hg
  cases hg

def tagsB (l : List ByteArray) : Bool := goodL (fun s => isName (bs s)) ltTx l && decide (l.length ≤ 4)
def snapB (s : PSnap) : Bool := isName (bs s.name_) && (amt 1 s.guid_ && (tagsB s.tags_ && (okK s.body_ && okP s.own_)))
def ltGuid (a b : PSnap) : Bool := decide (a.guid_ < b.guid_)
def noTwo (l : List PSnap) : Bool := decide ((l.map PSnap.name_).Nodup)
def snapsB (l : List PSnap) : Bool := goodL snapB ltGuid l && (noTwo l && decide (l.length ≤ 16))

def splitP (s : ByteArray) : Option (ByteArray × ByteArray) := match (bs s).idxOf? 64 with
  | none => none
  | some i => if isPath ((bs s).take i) && isName ((bs s).drop (i + 1)) then some (ofL ((bs s).take i), ofL ((bs s).drop (i + 1))) else none
def parV (s : ByteArray) : Value := match upP s with | none => .tuple #[.string ByteArray.empty, .bool false] | some u => .tuple #[.string u, .bool true]
def splV (s : ByteArray) : Value := match splitP s with | none => .tuple #[.string ByteArray.empty, .string ByteArray.empty, .int .i64 31] | some x => .tuple #[.string x.1, .string x.2, .int .i64 0]
def hasSnap (s : PSet) (n : ByteArray) : Bool := s.snaps_.any fun x => decide (x.name_ = n)
def origB (t : PTenant) (s : PSet) : Bool := decide (s.origin_ = ByteArray.empty) || match splitP s.origin_ with
  | none => false
  | some (p, n) => decide (p ≠ s.path_) && match setAt t p with
    | none => false
    | some x => hasSnap x n
def hasSet (t : PTenant) (p : ByteArray) : Bool := (setAt t p).isSome
def upB (t : PTenant) (p : ByteArray) : Bool := match upP p with
  | none => decide (p = ByteArray.empty)
  | some u => hasSet t u
def setB (t : PTenant) (s : PSet) : Bool := upB t s.path_ && (okK s.body_ && (okP s.own_ && (snapsB s.snaps_ && origB t s)))
def ltPath (a b : PSet) : Bool := ltTx a.path_ b.path_
def zeroSum (s : PSum) : Bool := decide (s = ⟨0, 0, 0, 0⟩)
def beginB (r : PRecord) : Bool := decide (r.kind_ = 1) && (isName (bs r.name_) && (amt 0 r.from_ && (amt 1 r.guid_ && (okP r.own_ && (decide (r.index_ = 0) && (decide (r.count_ = 0) && (decide (r.data_ = ByteArray.empty) && zeroSum r.sum_)))))))
def stageB (s : PStage) : Bool := decide (s.into_ ≠ ByteArray.empty) && (isPath (bs s.into_) && (beginB s.begin_ && (okK s.body_ && (amt 0 s.at_ && amt 0 s.next_))))
def ltInto (a b : PStage) : Bool := ltTx a.into_ b.into_
def entryB (x : PEntry) : Bool := (decide (x.user_ = ByteArray.empty) || isName (bs x.user_)) && (isPath (bs x.path_) && (amt 0 x.kind_ && amt 0 x.err_))
def okT (t : PTenant) : Bool := isName (bs t.name_) && (amt 0 t.quota_ && (amt 1 t.next_ && (decide (t.sets_.length ≤ 32) && (hasSet t ByteArray.empty && (okG t.grants_ && (decide (t.stages_.length ≤ 4) && (decide (t.log_.length ≤ 16) &&
  (goodL (setB t) ltPath t.sets_ && (goodL stageB ltInto t.stages_ && t.log_.all entryB)))))))))
end Go.Proofs.YtnioelkibghplaaGreat

namespace Go.Proofs.YtnioelkibghplaaGreat
open Go.ChangeShapes Go.WideShapes Go.ChangeAt Go.RowKit
set_option maxRecDepth 100000

theorem amt_no {m n : Int} (h : amt m n = false) : n < m ∨ m ≤ n ∧ 1099511627776 < n := by
  unfold amt at h
  by_cases h1 : m ≤ n
  · rw [decide_eq_true h1, Bool.true_and] at h
    have := of_decide_eq_false h
    omega
  · omega
theorem amt_yes {m n : Int} (h : amt m n = true) : m ≤ n ∧ n ≤ 1099511627776 := by
  unfold amt at h
  rw [Bool.and_eq_true] at h
  exact ⟨of_decide_eq_true h.1, of_decide_eq_true h.2⟩

theorem count1 (n : Int) (b : Nat) (w : World) (h0 : w.cell? ⟨b, 0, none⟩ = some (.int .i64 n)) :
    Calls Tryz.prog 147 #[.slice (some ⟨b, 0, none⟩) 1 1] w fun e w' => e = .returned (.int .i64 (if amt 0 n then 0 else 4)) ∧ w = w' := by
  rcases ha : amt 0 n with _ | _
  · rcases amt_no ha with h | ⟨h, h'⟩
    all_goals
      clear ha
      go_enter Tryz.func147, Tryz.ntmps147
      go_wp2
      go_loop [7] (fun i => i = .int .i64 0) (fun i => 1 - (intOf i).toNat)
      case atStart => rfl
      case round =>
        subst hrel
        have hlt : (0 : Int) < 1 := by omega
        go_wp2
        go_ret
        exact ⟨rfl, rfl⟩
  · obtain ⟨h1, h2⟩ := amt_yes ha
    clear ha
    go_enter Tryz.func147, Tryz.ntmps147
    go_wp2
    go_loop [7] (fun i => ∃ k : Nat, k ≤ 1 ∧ i = .int .i64 k) (fun i => 1 - (intOf i).toNat)
    case atStart => exact ⟨0, Nat.zero_le _, rfl⟩
    case round =>
      obtain ⟨k, hk, rfl⟩ := hrel
      by_cases hlt : k < 1
      · obtain rfl : k = 0 := by omega
        go_wp2
        go_round
        case rel => exact ⟨0 + 1, by omega, by go_num⟩
        case measure => simp [intOf]
      · obtain rfl : k = 1 := by omega
        go_wp2
        go_ret
        exact ⟨rfl, rfl⟩

theorem isAmount_any (n : Int) (w : World) :
    Calls Tryz.prog 96 #[.int .i64 n] w fun e w' => e = .returned (.bool (amt 0 n)) ∧ Below w.heap.size w w' := by
  obtain ⟨R, hR⟩ : ∃ R, amt 0 n = R := ⟨_, rfl⟩
  obtain ⟨w1, hw1⟩ : ∃ w1, w.alloc (.cells #[.int .i64 n] 3) = w1 := ⟨_, rfl⟩
  have hB1 : Below w.heap.size w w1 := hw1 ▸ (Below.refl _ w).alloc (Nat.le_refl _) _
  have k1 : Blk w1 w.heap.size 3 [.int .i64 n] := hw1 ▸ Blk.new w _ _
  have x0 := k1.cell 0
  simp only [List.getElem?_cons_zero] at x0
  have HC := Lib.hid (count1 n w.heap.size w1 x0)
  have HW := Lib.hid hw1
  rw [hR] at HC ⊢
  clear hw1 hR k1 x0
  go_enter Tryz.func96, Tryz.ntmps96
  go_wp2_with fail
  rw [HW.out]
  go_wp2_with fail
  refine HC.out.mono ?_
  rintro e w2 ⟨rfl, rfl⟩
  cases R
  all_goals
    go_wp2
    go_ret
    exact ⟨rfl, hB1⟩

theorem isFrom1_any (n : Int) (w : World) :
    Calls Tryz.prog 97 #[.int .i64 n] w fun e w' => e = .returned (.bool (amt 1 n)) ∧ Below w.heap.size w w' := by
  obtain ⟨R, hR⟩ : ∃ R, amt 1 n = R := ⟨_, rfl⟩
  have HR := Lib.hid hR
  rw [hR]
  clear hR
  by_cases h : 0 < n
  · have h' : amt 0 n = R := by
      rw [← HR.out, amt, amt, decide_eq_true (show 0 ≤ n by omega), decide_eq_true (show 1 ≤ n by omega)]
    have HC := Lib.hid (isAmount_any n)
    rw [h'] at HC
    clear HR h'
    go_enter Tryz.func97, Tryz.ntmps97
    go_wp2_with fail
    refine (HC.out _).mono ?_
    rintro e w2 ⟨rfl, hB⟩
    go_wp2
    go_ret
    exact ⟨rfl, hB⟩
  · obtain rfl : R = false := by
      rw [← HR.out, amt, decide_eq_false (by omega), Bool.false_and]
    clear HR
    go_enter Tryz.func97, Tryz.ntmps97
    go_wp2
    go_ret
    exact ⟨rfl, Below.refl _ _⟩

theorem amount_any (m n : Int) (w : World) :
    Calls Tryz.prog 63 #[.int .i64 n, .int .i64 m] w fun e w' => e = .returned (.bool (amt m n)) ∧ w = w' := by
  obtain ⟨R, hR⟩ : ∃ R, amt m n = R := ⟨_, rfl⟩
  have HR := Lib.hid hR
  rw [hR]
  clear hR
  by_cases h1 : m ≤ n
  · by_cases h2 : n ≤ 1099511627776
    · obtain rfl : R = true := by rw [← HR.out, amt, decide_eq_true h1, decide_eq_true h2]; rfl
      clear HR
      go_enter Tryz.func63, Tryz.ntmps63
      go_wp2
      go_ret
      exact ⟨rfl, rfl⟩
    · obtain rfl : R = false := by rw [← HR.out, amt, decide_eq_false h2, Bool.and_false]
      clear HR
      go_enter Tryz.func63, Tryz.ntmps63
      go_wp2
      go_ret
      exact ⟨rfl, rfl⟩
  · obtain rfl : R = false := by rw [← HR.out, amt, decide_eq_false h1, Bool.false_and]
    clear HR
    go_enter Tryz.func63, Tryz.ntmps63
    go_wp2
    go_ret
    exact ⟨rfl, rfl⟩

end Go.Proofs.YtnioelkibghplaaGreat
