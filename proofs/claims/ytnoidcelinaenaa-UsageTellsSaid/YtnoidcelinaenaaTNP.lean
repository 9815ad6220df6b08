/-
  Snap, Set, Sum, Record, Stage, Entry, Tenant, plainly. No conditions.
-/
import Derived.Test.YtnoidcelinaenaaBLM
import Derived.Test.YtnoidcelinaenaaPRM
import Derived.Test.YtnoidcelinaenaaGRM
namespace Go.Proofs.Ytnoidcelinaenaa
set_option maxRecDepth 100000

/-- Snap, plainly. -/
structure PSnap where
  name_ : ByteArray
  guid_ : Int
  body_ : List Bk
  tags_ : List ByteArray
  own_ : List Pr

theorem PSnap.eq_iff {a b : PSnap} : a = b ↔ a.name_ = b.name_ ∧ a.guid_ = b.guid_ ∧ a.body_ = b.body_ ∧ a.tags_ = b.tags_ ∧ a.own_ = b.own_ := by
  cases a
  cases b
  simp

instance : DecidableEq PSnap := fun a b => decidable_of_iff (a.name_ = b.name_ ∧ a.guid_ = b.guid_ ∧ a.body_ = b.body_ ∧ a.tags_ = b.tags_ ∧ a.own_ = b.own_) PSnap.eq_iff.symm

/-- Set, plainly. -/
structure PSet where
  path_ : ByteArray
  origin_ : ByteArray
  body_ : List Bk
  snaps_ : List PSnap
  own_ : List Pr

theorem PSet.eq_iff {a b : PSet} : a = b ↔ a.path_ = b.path_ ∧ a.origin_ = b.origin_ ∧ a.body_ = b.body_ ∧ a.snaps_ = b.snaps_ ∧ a.own_ = b.own_ := by
  cases a
  cases b
  simp

instance : DecidableEq PSet := fun a b => decidable_of_iff (a.path_ = b.path_ ∧ a.origin_ = b.origin_ ∧ a.body_ = b.body_ ∧ a.snaps_ = b.snaps_ ∧ a.own_ = b.own_) PSet.eq_iff.symm

/-- Sum, plainly. -/
structure PSum where
  a_ : Int
  b_ : Int
  c_ : Int
  d_ : Int

theorem PSum.eq_iff {a b : PSum} : a = b ↔ a.a_ = b.a_ ∧ a.b_ = b.b_ ∧ a.c_ = b.c_ ∧ a.d_ = b.d_ := by
  cases a
  cases b
  simp

instance : DecidableEq PSum := fun a b => decidable_of_iff (a.a_ = b.a_ ∧ a.b_ = b.b_ ∧ a.c_ = b.c_ ∧ a.d_ = b.d_) PSum.eq_iff.symm

/-- Record, plainly. -/
structure PRecord where
  kind_ : Int
  name_ : ByteArray
  from_ : Int
  guid_ : Int
  own_ : List Pr
  index_ : Int
  count_ : Int
  data_ : ByteArray
  sum_ : PSum

theorem PRecord.eq_iff {a b : PRecord} : a = b ↔ a.kind_ = b.kind_ ∧ a.name_ = b.name_ ∧ a.from_ = b.from_ ∧ a.guid_ = b.guid_ ∧ a.own_ = b.own_ ∧ a.index_ = b.index_ ∧ a.count_ = b.count_ ∧ a.data_ = b.data_ ∧ a.sum_ = b.sum_ := by
  cases a
  cases b
  simp

instance : DecidableEq PRecord := fun a b => decidable_of_iff (a.kind_ = b.kind_ ∧ a.name_ = b.name_ ∧ a.from_ = b.from_ ∧ a.guid_ = b.guid_ ∧ a.own_ = b.own_ ∧ a.index_ = b.index_ ∧ a.count_ = b.count_ ∧ a.data_ = b.data_ ∧ a.sum_ = b.sum_) PRecord.eq_iff.symm

/-- Stage, plainly. -/
structure PStage where
  into_ : ByteArray
  begin_ : PRecord
  body_ : List Bk
  at_ : Int
  next_ : Int
  sum_ : PSum
  done_ : Bool

theorem PStage.eq_iff {a b : PStage} : a = b ↔ a.into_ = b.into_ ∧ a.begin_ = b.begin_ ∧ a.body_ = b.body_ ∧ a.at_ = b.at_ ∧ a.next_ = b.next_ ∧ a.sum_ = b.sum_ ∧ a.done_ = b.done_ := by
  cases a
  cases b
  simp

instance : DecidableEq PStage := fun a b => decidable_of_iff (a.into_ = b.into_ ∧ a.begin_ = b.begin_ ∧ a.body_ = b.body_ ∧ a.at_ = b.at_ ∧ a.next_ = b.next_ ∧ a.sum_ = b.sum_ ∧ a.done_ = b.done_) PStage.eq_iff.symm

/-- Entry, plainly. -/
structure PEntry where
  user_ : ByteArray
  kind_ : Int
  path_ : ByteArray
  err_ : Int

theorem PEntry.eq_iff {a b : PEntry} : a = b ↔ a.user_ = b.user_ ∧ a.kind_ = b.kind_ ∧ a.path_ = b.path_ ∧ a.err_ = b.err_ := by
  cases a
  cases b
  simp

instance : DecidableEq PEntry := fun a b => decidable_of_iff (a.user_ = b.user_ ∧ a.kind_ = b.kind_ ∧ a.path_ = b.path_ ∧ a.err_ = b.err_) PEntry.eq_iff.symm

/-- Tenant, plainly. -/
structure PTenant where
  name_ : ByteArray
  quota_ : Int
  next_ : Int
  sets_ : List PSet
  grants_ : List Gr
  stages_ : List PStage
  log_ : List PEntry

theorem PTenant.eq_iff {a b : PTenant} : a = b ↔ a.name_ = b.name_ ∧ a.quota_ = b.quota_ ∧ a.next_ = b.next_ ∧ a.sets_ = b.sets_ ∧ a.grants_ = b.grants_ ∧ a.stages_ = b.stages_ ∧ a.log_ = b.log_ := by
  cases a
  cases b
  simp

instance : DecidableEq PTenant := fun a b => decidable_of_iff (a.name_ = b.name_ ∧ a.quota_ = b.quota_ ∧ a.next_ = b.next_ ∧ a.sets_ = b.sets_ ∧ a.grants_ = b.grants_ ∧ a.stages_ = b.stages_ ∧ a.log_ = b.log_) PTenant.eq_iff.symm

end Go.Proofs.Ytnoidcelinaenaa
