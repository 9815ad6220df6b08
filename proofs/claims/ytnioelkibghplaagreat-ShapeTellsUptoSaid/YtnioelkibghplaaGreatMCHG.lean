/-
  Charges, exactly: what lists of blocks weigh. No conditions.
-/
import Derived.Test.YtnioelkibghplaaGreatMBLM
import Derived.Test.YtnioelkibghplaaGreatMTNP
import Derived.IntWalk
namespace Go.Proofs.YtnioelkibghplaaGreat
open Go.ChangeShapes Go.WideShapes Go.ChangeAt Go.RowKit
set_option maxRecDepth 100000

def chg (L : List (List Bk)) : Nat := (L.map fun l => 1 + l.length).sum
theorem chg_snoc (L : List (List Bk)) (l : List Bk) : chg (L ++ [l]) = chg L + (1 + l.length) := by simp [chg]
theorem chg_append (L M : List (List Bk)) : chg (L ++ M) = chg L + chg M := by simp [chg]
theorem chg_take {L : List (List Bk)} {k : Nat} {l : List Bk} (h : L[k]? = some l) : chg (L.take (k + 1)) = chg (L.take k) + (1 + l.length) := by
  obtain ⟨hk, rfl⟩ := List.getElem?_eq_some_iff.1 h
  rw [List.take_succ_eq_append_getElem hk, chg_snoc]
theorem w64_add (a b : Int) : wrap64 (wrap64 a + b) = wrap64 (a + b) := by unfold wrap64; omega
theorem w64_add' (a b : Int) : wrap64 (a + wrap64 b) = wrap64 (a + b) := by unfold wrap64; omega

end Go.Proofs.YtnioelkibghplaaGreat

namespace Go.Proofs.YtnioelkibghplaaGreat
set_option maxRecDepth 100000

def newP (p : ByteArray) : PSet := ⟨p, ByteArray.empty, [], [], []⟩
def insS (s : PSet) (l : List PSet) : List PSet := l.takeWhile (fun x => ltTx x.path_ s.path_) ++ s :: l.dropWhile (fun x => ltTx x.path_ s.path_)
def withP (t : PTenant) (s : PSet) : PTenant := { t with sets_ := insS s t.sets_ }
def setN (s : PSet) : Nat := chg (s.snaps_.map PSnap.body_ ++ [s.body_])
def chgP (t : PTenant) : Nat := (t.sets_.map setN).sum + (t.stages_.map fun s => 1 + s.body_.length).sum
def noT : PTenant := ⟨ByteArray.empty, 0, 0, [], [], [], []⟩
def askE (t : PTenant) (p : ByteArray) : Int := if okT t = false then 9 else if isPath (bs p) = false then 31 else 0
def roomE (t : PTenant) (p : ByteArray) : Int := if hasSet t p = true then 6 else if hasSet t ((upP p).getD ByteArray.empty) = false then 71 else if t.sets_.length = 32 then 3 else 0
def clonesP (t : PTenant) (p : ByteArray) : List ByteArray := (t.sets_.filter fun s => match splitP s.origin_ with | none => false | some (q, _) => decide (q = p)).map PSet.path_
def delS (p : ByteArray) (l : List PSet) : List PSet := l.eraseP fun x => decide (x.path_ = p)
/-! ## What may be, by its sets -/

theorem okT_parts {t : PTenant} : okT t = true ↔ (isName (bs t.name_) = true ∧ amt 0 t.quota_ = true ∧ amt 1 t.next_ = true ∧ okG t.grants_ = true ∧ t.stages_.length ≤ 4 ∧ t.log_.length ≤ 16 ∧ goodL stageB ltInto t.stages_ = true ∧ t.log_.all entryB = true) ∧
    t.sets_.length ≤ 32 ∧ hasSet t ByteArray.empty = true ∧ goodL (setB t) ltPath t.sets_ = true := by
  unfold okT
  simp only [Bool.and_eq_true, decide_eq_true_eq]
  constructor
  · rintro ⟨a, b, c, d, e, f, g, h, i, j, k⟩
    exact ⟨⟨a, b, c, f, g, h, j, k⟩, d, e, i⟩
  · rintro ⟨⟨a, b, c, f, g, h, j, k⟩, d, e, i⟩
    exact ⟨a, b, c, d, e, f, g, h, i, j, k⟩

/-! ## A set more -/

/-! ## A block written -/

/-! ## A set gone -/

/-! ## There and gone -/

/-! ## How great a charge may be -/

end Go.Proofs.YtnioelkibghplaaGreat

namespace Go.Proofs.YtnioelkibghplaaGreat
set_option maxRecDepth 100000

theorem delS_at {p : ByteArray} : ∀ {l : List PSet} {j : Nat} {s : PSet}, l[j]? = some s → s.path_ = p → (∀ x ∈ l.take j, x.path_ ≠ p) → delS p l = l.take j ++ l.drop (j + 1)
  | [], j, s, h, _, _ => by simp at h
  | a :: l, 0, s, h, hp, _ => by
    simp only [List.getElem?_cons_zero, Option.some.injEq] at h
    subst h
    unfold delS
    rw [List.eraseP_cons, hp, decide_eq_true rfl]
    rfl
  | a :: l, j + 1, s, h, hp, hn => by
    rw [List.getElem?_cons_succ] at h
    have h1 : a.path_ ≠ p := hn a (by simp)
    have h2 := delS_at (l := l) h hp fun x hx => hn x (by rw [List.take_succ_cons]; exact List.mem_cons_of_mem _ hx)
    unfold delS at h2 ⊢
    rw [List.eraseP_cons, decide_eq_false h1, cond_false, h2]
    rfl

theorem insS_at {s : PSet} : ∀ {l : List PSet} {j : Nat}, (∀ x ∈ l.take j, ltTx x.path_ s.path_ = true) → (∀ x, l[j]? = some x → ltTx x.path_ s.path_ = false) → j ≤ l.length → insS s l = l.take j ++ s :: l.drop j
  | [], j, _, _, hj => by
    have : j = 0 := by simpa using hj
    subst this
    rfl
  | a :: l, 0, _, h, _ => by
    have h1 := h a rfl
    unfold insS
    rw [List.takeWhile_cons, List.dropWhile_cons]
    simp [h1]
  | a :: l, j + 1, h, h', hj => by
    have h1 := h a (by simp)
    have h2 := insS_at (s := s) (l := l) (j := j) (fun x hx => h x (by rw [List.take_succ_cons]; exact List.mem_cons_of_mem _ hx)) (fun x hx => h' x (by rw [List.getElem?_cons_succ]; exact hx)) (by simpa using hj)
    unfold insS at h2 ⊢
    rw [List.takeWhile_cons, List.dropWhile_cons, if_pos h1, if_pos h1, List.cons_append, h2]
    rfl

end Go.Proofs.YtnioelkibghplaaGreat
