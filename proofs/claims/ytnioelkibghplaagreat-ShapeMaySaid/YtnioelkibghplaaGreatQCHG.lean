/-
  Charges, exactly: what lists of blocks weigh. No conditions.
-/
import Derived.Test.YtnioelkibghplaaGreatQBLM
import Derived.Test.YtnioelkibghplaaGreatQTNP
import Derived.IntWalk
namespace Go.Proofs.YtnioelkibghplaaGreat
open Go.ChangeShapes Go.WideShapes Go.ChangeAt Go.RowKit
set_option maxRecDepth 100000

def chg (L : List (List Bk)) : Nat := (L.map fun l => 1 + l.length).sum
theorem chg_snoc (L : List (List Bk)) (l : List Bk) : chg (L ++ [l]) = chg L + (1 + l.length) := by simp [chg]
theorem chg_append (L M : List (List Bk)) : chg (L ++ M) = chg L + chg M := by simp [chg]
theorem chg_take {L : List (List Bk)} {k : Nat} {l : List Bk} (h : L[k]? = some l) : chg (L.take (k + 1)) = chg (L.take k) + (1 + l.length) := by
  obtain ⟨hk, rfl⟩ := List.getElem?_eq_some_iff.1 h
  rw [List.take_succ_eq_append_getElem hk, chg_snoc]
theorem w64_add (a b : Int) : wrap64 (wrap64 a + b) = wrap64 (a + b) := by unfold wrap64; omega
theorem w64_add' (a b : Int) : wrap64 (a + wrap64 b) = wrap64 (a + b) := by unfold wrap64; omega

end Go.Proofs.YtnioelkibghplaaGreat

namespace Go.Proofs.YtnioelkibghplaaGreat
set_option maxRecDepth 100000

def newP (p : ByteArray) : PSet := ⟨p, ByteArray.empty, [], [], []⟩
def insS (s : PSet) (l : List PSet) : List PSet := l.takeWhile (fun x => ltTx x.path_ s.path_) ++ s :: l.dropWhile (fun x => ltTx x.path_ s.path_)
def withP (t : PTenant) (s : PSet) : PTenant := { t with sets_ := insS s t.sets_ }
def setN (s : PSet) : Nat := chg (s.snaps_.map PSnap.body_ ++ [s.body_])
def chgP (t : PTenant) : Nat := (t.sets_.map setN).sum + (t.stages_.map fun s => 1 + s.body_.length).sum
def noT : PTenant := ⟨ByteArray.empty, 0, 0, [], [], [], []⟩
def settledP (t : PTenant) : PTenant × Int := if (chgP t : Int) ≤ t.quota_ then (t, 0) else (noT, 42)
def askE (t : PTenant) (p : ByteArray) : Int := if okT t = false then 9 else if isPath (bs p) = false then 31 else 0
def roomE (t : PTenant) (p : ByteArray) : Int := if hasSet t p = true then 6 else if hasSet t ((upP p).getD ByteArray.empty) = false then 71 else if t.sets_.length = 32 then 3 else 0
def createP (t : PTenant) (p : ByteArray) : PTenant × Int := if askE t p ≠ 0 then (noT, askE t p) else if roomE t p ≠ 0 then (noT, roomE t p) else settledP (withP t (newP p))
def clonesP (t : PTenant) (p : ByteArray) : List ByteArray := (t.sets_.filter fun s => match splitP s.origin_ with | none => false | some (q, _) => decide (q = p)).map PSet.path_
def destroyE (t : PTenant) (p : ByteArray) : Int := if askE t p ≠ 0 then askE t p else match setAt t p with
  | none => 71
  | some s => if p = ByteArray.empty ∨ kidsT t p ≠ [] ∨ clonesP t p ≠ [] ∨ (t.stages_.any fun x => decide (x.into_ = p)) = true then 44 else if (s.snaps_.any fun x => decide (x.tags_ ≠ [])) = true then 43 else 0
def delS (p : ByteArray) (l : List PSet) : List PSet := l.eraseP fun x => decide (x.path_ = p)
def destroyP (t : PTenant) (p : ByteArray) : PTenant × Int := if destroyE t p ≠ 0 then (noT, destroyE t p) else ({ t with sets_ := delS p t.sets_ }, 0)
def bodyS (p : ByteArray) (b : List Bk) (l : List PSet) : List PSet := l.map fun x => if x.path_ = p then { x with body_ := b } else x
def writeP (t : PTenant) (p : ByteArray) (i : Int) (d : ByteArray) : PTenant × Int := if askE t p ≠ 0 then (noT, askE t p) else match setAt t p with
  | none => (noT, 71)
  | some s => if putE s.body_ i d.size ≠ 0 then (noT, putE s.body_ i d.size) else settledP { t with sets_ := bodyS p (putK s.body_ i d) t.sets_ }

/-! ## What may be, by its sets -/

theorem ltTx_lt {a b : ByteArray} : ltTx a b = true ↔ ltK a b := Iff.rfl
theorem okT_parts {t : PTenant} : okT t = true ↔ (isName (bs t.name_) = true ∧ amt 0 t.quota_ = true ∧ amt 1 t.next_ = true ∧ okG t.grants_ = true ∧ t.stages_.length ≤ 4 ∧ t.log_.length ≤ 16 ∧ goodL stageB ltInto t.stages_ = true ∧ t.log_.all entryB = true) ∧
    t.sets_.length ≤ 32 ∧ hasSet t ByteArray.empty = true ∧ goodL (setB t) ltPath t.sets_ = true := by
  unfold okT
  simp only [Bool.and_eq_true, decide_eq_true_eq]
  constructor
  · rintro ⟨a, b, c, d, e, f, g, h, i, j, k⟩
    exact ⟨⟨a, b, c, f, g, h, j, k⟩, d, e, i⟩
  · rintro ⟨⟨a, b, c, f, g, h, j, k⟩, d, e, i⟩
    exact ⟨a, b, c, d, e, f, g, h, i, j, k⟩

theorem setB_move {t t' : PTenant} {x : PSet} (h : setB t x = true)
    (H : ∀ q, (upP x.path_ = some q ∨ ∃ n, splitP x.origin_ = some (q, n)) → ∀ y, setAt t q = some y → ∃ y', setAt t' q = some y' ∧ ∀ n, hasSnap y n = true → hasSnap y' n = true) : setB t' x = true := by
  unfold setB at h ⊢
  simp only [Bool.and_eq_true] at h ⊢
  obtain ⟨h1, h2, h3, h4, h5⟩ := h
  refine ⟨?_, h2, h3, h4, ?_⟩
  · unfold upB at h1 ⊢
    rcases hu : upP x.path_ with _ | u
    · rw [hu] at h1
      exact h1
    · rw [hu] at h1
      simp only [] at h1 ⊢
      unfold hasSet at h1 ⊢
      obtain ⟨y, hy⟩ := Option.isSome_iff_exists.1 h1
      obtain ⟨y', hy', _⟩ := H u (.inl hu) y hy
      rw [hy']
      rfl
  · unfold origB at h5 ⊢
    rw [Bool.or_eq_true] at h5 ⊢
    rcases h5 with h5 | h5
    · exact .inl h5
    · right
      rcases hs : splitP x.origin_ with _ | ⟨q, n⟩
      · rw [hs] at h5
        cases h5
      · rw [hs] at h5
        simp only [Bool.and_eq_true] at h5 ⊢
        refine ⟨h5.1, ?_⟩
        rcases ha : setAt t q with _ | y
        · rw [ha] at h5
          cases h5.2
        · rw [ha] at h5
          obtain ⟨y', hy', hm⟩ := H q (.inr ⟨n, hs⟩) y ha
          rw [hy']
          exact hm n h5.2

theorem goodL_iff {α : Type} {good : α → Bool} {lt : α → α → Bool} (ht : ∀ a b c, lt a b = true → lt b c = true → lt a c = true) {l : List α} : goodL good lt l = true ↔ (∀ x ∈ l, good x = true) ∧ l.Pairwise fun a b => lt a b = true := by
  unfold goodL
  rw [Bool.and_eq_true, List.all_eq_true]
  constructor
  · rintro ⟨h1, h2⟩
    exact ⟨h1, riseB_pair ht h2⟩
  · rintro ⟨h1, h2⟩
    refine ⟨h1, riseB_iff.2 fun j y x hy hx => ?_⟩
    obtain ⟨hj, ey⟩ := List.getElem?_eq_some_iff.1 hy
    obtain ⟨hk, ex⟩ := List.getElem?_eq_some_iff.1 hx
    have := List.pairwise_iff_getElem.1 h2 j (j + 1) hj hk (by omega)
    rwa [ey, ex] at this
theorem ltPath_trans (a b c : PSet) (h : ltPath a b = true) (k : ltPath b c = true) : ltPath a c = true := ltK_trans (ltTx_lt.1 h) (ltTx_lt.1 k)

/-! ## A set more -/

theorem mem_insS {s x : PSet} {l : List PSet} : x ∈ insS s l ↔ x = s ∨ x ∈ l := by
  unfold insS
  have h := List.takeWhile_append_dropWhile (p := fun x : PSet => ltTx x.path_ s.path_) (l := l)
  constructor
  · intro hx
    rcases List.mem_append.1 hx with hx | hx
    · exact .inr (by rw [← h]; exact List.mem_append_left _ hx)
    · rcases List.mem_cons.1 hx with hx | hx
      · exact .inl hx
      · exact .inr (by rw [← h]; exact List.mem_append_right _ hx)
  · rintro (rfl | hx)
    · exact List.mem_append_right _ (by simp)
    · rw [← h] at hx
      rcases List.mem_append.1 hx with hx | hx
      · exact List.mem_append_left _ hx
      · exact List.mem_append_right _ (List.mem_cons_of_mem _ hx)
theorem insS_length (s : PSet) (l : List PSet) : (insS s l).length = l.length + 1 := by
  unfold insS
  have h := congrArg List.length (List.takeWhile_append_dropWhile (p := fun x : PSet => ltTx x.path_ s.path_) (l := l))
  rw [List.length_append] at h ⊢
  simp only [List.length_cons]
  omega
theorem insS_rise {s : PSet} {l : List PSet} (h : l.Pairwise fun a b => ltPath a b = true) (hn : ∀ x ∈ l, x.path_ ≠ s.path_) : (insS s l).Pairwise fun a b => ltPath a b = true := by
  unfold insS
  have e := List.takeWhile_append_dropWhile (p := fun x : PSet => ltTx x.path_ s.path_) (l := l)
  have hp := h
  rw [← e, List.pairwise_append] at hp
  obtain ⟨p1, p2, p3⟩ := hp
  have low : ∀ x ∈ l.takeWhile (fun x => ltTx x.path_ s.path_), ltTx x.path_ s.path_ = true := fun x hx => List.all_eq_true.1 List.all_takeWhile x hx
  have high : ∀ x ∈ l.dropWhile (fun x => ltTx x.path_ s.path_), ltPath s x = true := by
    intro x hx
    rcases hd : l.dropWhile (fun x => ltTx x.path_ s.path_) with _ | ⟨d, ds⟩
    · rw [hd] at hx
      cases hx
    · have hd0 : ltTx d.path_ s.path_ = false := by
        have := List.head_dropWhile_not (fun x : PSet => ltTx x.path_ s.path_) (by rw [hd]; simp : l.dropWhile (fun x => ltTx x.path_ s.path_) ≠ [])
        simpa [hd] using this
      have hdl : d ∈ l := by
        rw [← e, hd]
        exact List.mem_append_right _ (by simp)
      have hsd : ltPath s d = true := by
        rcases ltK_tri s.path_ d.path_ with k | k | k
        · exact k
        · exact absurd (ltTx_lt.2 k) (by rw [hd0]; decide)
        · exact absurd k.symm (hn d hdl)
      rw [hd] at hx p2
      rcases List.mem_cons.1 hx with rfl | hx
      · exact hsd
      · exact ltPath_trans _ _ _ hsd ((List.pairwise_cons.1 p2).1 x hx)
  refine List.pairwise_append.2 ⟨p1, List.pairwise_cons.2 ⟨high, p2⟩, fun a ha b hb => ?_⟩
  rcases List.mem_cons.1 hb with rfl | hb
  · exact low a ha
  · exact p3 a ha b hb
theorem rise_at {t : PTenant} (h : t.sets_.Pairwise fun a b => ltPath a b = true) {x : PSet} (hx : x ∈ t.sets_) : setAt t x.path_ = some x := by
  rcases hs : setAt t x.path_ with _ | y
  · exact absurd rfl (setAt_none.1 hs x hx)
  · obtain ⟨hy, he⟩ := setAt_some hs
    by_cases hxy : y = x
    · rw [hxy]
    · exfalso
      have hne : ∀ a b : PSet, a ∈ t.sets_ → b ∈ t.sets_ → a.path_ = b.path_ → a = b := by
        intro a b ha hb hab
        obtain ⟨i, hi, rfl⟩ := List.getElem_of_mem ha
        obtain ⟨j, hj, rfl⟩ := List.getElem_of_mem hb
        rcases Nat.lt_trichotomy i j with hij | hij | hij
        · exact absurd hab (ltK_ne (ltTx_lt.1 (List.pairwise_iff_getElem.1 h i j hi hj hij)))
        · subst hij
          rfl
        · exact absurd hab.symm (ltK_ne (ltTx_lt.1 (List.pairwise_iff_getElem.1 h j i hj hi hij)))
      exact hxy (hne y x hy hx he)
theorem with_at {t : PTenant} {s : PSet} (h : t.sets_.Pairwise fun a b => ltPath a b = true) (hn : setAt t s.path_ = none) {q : ByteArray} {y : PSet} (hq : setAt t q = some y) : setAt (withP t s) q = some y := by
  obtain ⟨hy, he⟩ := setAt_some hq
  have := rise_at (t := withP t s) (insS_rise h (setAt_none.1 hn)) (mem_insS.2 (.inr hy))
  rwa [he] at this
theorem hasSet_iff {t : PTenant} {p : ByteArray} : hasSet t p = true ↔ ∃ y, setAt t p = some y := by
  unfold hasSet
  exact Option.isSome_iff_exists
theorem hasSet_no {t : PTenant} {p : ByteArray} : hasSet t p = false ↔ setAt t p = none := by
  unfold hasSet
  exact Option.isSome_eq_false_iff.trans Option.isNone_iff_eq_none

theorem with_ok {t : PTenant} {s : PSet} (h : okT t = true) (hl : t.sets_.length < 32) (hn : setAt t s.path_ = none) (hs : setB t s = true) : okT (withP t s) = true := by
  obtain ⟨h1, h2, h3, h4⟩ := okT_parts.1 h
  obtain ⟨g1, g2⟩ := (goodL_iff ltPath_trans).1 h4
  have move : ∀ q y, setAt t q = some y → ∃ y', setAt (withP t s) q = some y' ∧ ∀ n, hasSnap y n = true → hasSnap y' n = true := fun q y hq => ⟨y, with_at g2 hn hq, fun _ h => h⟩
  refine okT_parts.2 ⟨h1, by show (insS s t.sets_).length ≤ 32; rw [insS_length]; omega, ?_, (goodL_iff ltPath_trans).2 ⟨?_, insS_rise g2 (setAt_none.1 hn)⟩⟩
  · obtain ⟨y, hy⟩ := hasSet_iff.1 h3
    exact hasSet_iff.2 ⟨y, with_at g2 hn hy⟩
  · intro x hx
    rcases mem_insS.1 hx with rfl | hx
    · exact setB_move hs fun q _ y hq => move q y hq
    · exact setB_move (g1 x hx) fun q _ y hq => move q y hq

theorem new_ok {t : PTenant} {p : ByteArray} (hp : isPath (bs p) = true) (hu : hasSet t ((upP p).getD ByteArray.empty) = true) (hne : hasSet t p = false) (h0 : hasSet t ByteArray.empty = true) : setB t (newP p) = true := by
  have hpe : p ≠ ByteArray.empty := by
    rintro rfl
    rw [h0] at hne
    cases hne
  unfold setB
  simp only [Bool.and_eq_true]
  refine ⟨?_, rfl, rfl, rfl, ?_⟩
  · show upB t p = true
    unfold upB
    rw [upP_some hp hpe] at hu ⊢
    exact hu
  · unfold origB
    rw [Bool.or_eq_true]
    exact .inl (decide_eq_true rfl)

theorem settled_may {t : PTenant} (he : (settledP t).2 = 0) : settledP t = (t, 0) ∧ (chgP t : Int) ≤ t.quota_ := by
  unfold settledP at he ⊢
  split at he
  · rename_i hc
    exact ⟨by rw [if_pos hc], hc⟩
  · cases he
theorem create_ways {t : PTenant} {p : ByteArray} (h : (createP t p).2 = 0) : okT t = true ∧ isPath (bs p) = true ∧ hasSet t p = false ∧ hasSet t ((upP p).getD ByteArray.empty) = true ∧ t.sets_.length ≠ 32 ∧ createP t p = settledP (withP t (newP p)) := by
  unfold createP at h ⊢
  by_cases ha : askE t p ≠ 0
  · rw [if_pos ha] at h
    exact absurd h ha
  · rw [if_neg ha] at h ⊢
    by_cases hr : roomE t p ≠ 0
    · rw [if_pos hr] at h
      exact absurd h hr
    · rw [if_neg hr]
      have ha' : askE t p = 0 := Decidable.not_not.1 ha
      have hr' : roomE t p = 0 := Decidable.not_not.1 hr
      unfold askE at ha'
      unfold roomE at hr'
      split at ha'
      · cases ha'
      · split at ha'
        · cases ha'
        · split at hr'
          · cases hr'
          · split at hr'
            · cases hr'
            · split at hr'
              · cases hr'
              · rename_i a b c d e
                exact ⟨by simpa using a, by simpa using b, by simpa using c, by simpa using d, e, rfl⟩
theorem create_may {t : PTenant} {p : ByteArray} (h : (createP t p).2 = 0) : okT (createP t p).1 = true ∧ (chgP (createP t p).1 : Int) ≤ (createP t p).1.quota_ ∧ (createP t p).1 = withP t (newP p) := by
  obtain ⟨h1, h2, h3, h4, h5, h6⟩ := create_ways h
  obtain ⟨_, hl, h0, _⟩ := okT_parts.1 h1
  have hok := with_ok (s := newP p) h1 (by omega) (hasSet_no.1 h3) (new_ok h2 h4 h3 h0)
  rw [h6] at h ⊢
  obtain ⟨e, hc⟩ := settled_may h
  rw [e]
  exact ⟨hok, hc, rfl⟩

/-! ## A block written -/

theorem bodyS_mem {p : ByteArray} {b : List Bk} {l : List PSet} {x : PSet} : x ∈ bodyS p b l ↔ ∃ y ∈ l, x = if y.path_ = p then { y with body_ := b } else y := by
  unfold bodyS
  rw [List.mem_map]
  constructor
  · rintro ⟨y, hy, rfl⟩
    exact ⟨y, hy, rfl⟩
  · rintro ⟨y, hy, rfl⟩
    exact ⟨y, hy, rfl⟩
theorem body_path (p : ByteArray) (b : List Bk) (y : PSet) : (if y.path_ = p then { y with body_ := b } else y).path_ = y.path_ := by split <;> rfl
theorem body_snaps (p : ByteArray) (b : List Bk) (y : PSet) : (if y.path_ = p then { y with body_ := b } else y).snaps_ = y.snaps_ := by split <;> rfl
theorem body_at {t : PTenant} {p : ByteArray} {b : List Bk} {q : ByteArray} {y : PSet} (h : setAt t q = some y) : setAt { t with sets_ := bodyS p b t.sets_ } q = some (if y.path_ = p then { y with body_ := b } else y) := by
  unfold setAt bodyS at *
  rw [List.find?_map]
  have e : ((fun s : PSet => decide (s.path_ = q)) ∘ fun x : PSet => if x.path_ = p then { x with body_ := b } else x) = fun s : PSet => decide (s.path_ = q) := by
    funext x
    simp only [Function.comp, body_path]
  rw [e, h]
  rfl
theorem body_ok {t : PTenant} {p : ByteArray} {b : List Bk} (h : okT t = true) (hb : okK b = true) : okT { t with sets_ := bodyS p b t.sets_ } = true := by
  obtain ⟨h1, h2, h3, h4⟩ := okT_parts.1 h
  obtain ⟨g1, g2⟩ := (goodL_iff ltPath_trans).1 h4
  have move : ∀ q y, setAt t q = some y → ∃ y', setAt { t with sets_ := bodyS p b t.sets_ } q = some y' ∧ ∀ n, hasSnap y n = true → hasSnap y' n = true := fun q y hq => ⟨_, body_at hq, fun n hn => by
    unfold hasSnap at *
    rw [body_snaps]
    exact hn⟩
  refine okT_parts.2 ⟨h1, by show (bodyS p b t.sets_).length ≤ 32; unfold bodyS; rw [List.length_map]; exact h2, ?_, (goodL_iff ltPath_trans).2 ⟨?_, ?_⟩⟩
  · obtain ⟨y, hy⟩ := hasSet_iff.1 h3
    exact hasSet_iff.2 ⟨_, body_at hy⟩
  · intro x hx
    obtain ⟨y, hy, rfl⟩ := bodyS_mem.1 hx
    have hm := setB_move (g1 y hy) fun q _ z hq => move q z hq
    by_cases hp : y.path_ = p
    · rw [if_pos hp]
      unfold setB at hm ⊢
      simp only [Bool.and_eq_true] at hm ⊢
      exact ⟨hm.1, hb, hm.2.2⟩
    · rw [if_neg hp]
      exact hm
  · show (bodyS p b t.sets_).Pairwise _
    unfold bodyS
    rw [List.pairwise_map]
    refine g2.imp fun {x y} hxy => ?_
    unfold ltPath at *
    rw [body_path, body_path]
    exact hxy
theorem write_ways {t : PTenant} {p : ByteArray} {i : Int} {d : ByteArray} (h : (writeP t p i d).2 = 0) : okT t = true ∧ isPath (bs p) = true ∧ ∃ s, setAt t p = some s ∧ putE s.body_ i d.size = 0 ∧ writeP t p i d = settledP { t with sets_ := bodyS p (putK s.body_ i d) t.sets_ } := by
  unfold writeP at h ⊢
  by_cases ha : askE t p ≠ 0
  · rw [if_pos ha] at h
    exact absurd h ha
  · rw [if_neg ha] at h ⊢
    have ha' : askE t p = 0 := Decidable.not_not.1 ha
    unfold askE at ha'
    split at ha'
    · cases ha'
    · split at ha'
      · cases ha'
      · rename_i a b
        refine ⟨by simpa using a, by simpa using b, ?_⟩
        rcases hs : setAt t p with _ | s
        · rw [hs] at h
          cases h
        · rw [hs] at h
          simp only [] at h ⊢
          by_cases hp : putE s.body_ i d.size ≠ 0
          · rw [if_pos hp] at h
            exact absurd h hp
          · rw [if_neg hp]
            exact ⟨s, rfl, Decidable.not_not.1 hp, rfl⟩
theorem write_may {t : PTenant} {p : ByteArray} {i : Int} {d : ByteArray} (h : (writeP t p i d).2 = 0) : okT (writeP t p i d).1 = true ∧ (chgP (writeP t p i d).1 : Int) ≤ (writeP t p i d).1.quota_ := by
  obtain ⟨h1, _, s, hs, hp, hw⟩ := write_ways h
  have hok := body_ok (p := p) (b := putK s.body_ i d) h1 (putK_ok hp)
  rw [hw] at h ⊢
  obtain ⟨e, hc⟩ := settled_may h
  rw [e]
  exact ⟨hok, hc⟩

/-! ## A set gone -/

theorem del_mem {p : ByteArray} {l : List PSet} {x : PSet} (h : x ∈ delS p l) : x ∈ l := List.mem_of_mem_eraseP h
theorem del_rise {p : ByteArray} {l : List PSet} (hr : l.Pairwise fun a b => ltPath a b = true) : (delS p l).Pairwise fun a b => ltPath a b = true := hr.sublist List.eraseP_sublist
theorem del_at {t : PTenant} {p q : ByteArray} {y : PSet} (hr : t.sets_.Pairwise fun a b => ltPath a b = true) (h : setAt t q = some y) (hq : q ≠ p) : setAt { t with sets_ := delS p t.sets_ } q = some y := by
  obtain ⟨hy, he⟩ := setAt_some h
  have hm : y ∈ delS p t.sets_ := by
    unfold delS
    exact (List.mem_eraseP_of_neg (by rw [decide_eq_true_eq, he]; exact hq)).2 hy
  have := rise_at (t := { t with sets_ := delS p t.sets_ }) (del_rise hr) hm
  rwa [he] at this
theorem destroy_ways {t : PTenant} {p : ByteArray} (h : (destroyP t p).2 = 0) : okT t = true ∧ isPath (bs p) = true ∧ (∃ s, setAt t p = some s) ∧ p ≠ ByteArray.empty ∧ kidsT t p = [] ∧ clonesP t p = [] ∧ destroyP t p = ({ t with sets_ := delS p t.sets_ }, 0) := by
  unfold destroyP at h ⊢
  by_cases hd : destroyE t p ≠ 0
  · rw [if_pos hd] at h
    exact absurd h hd
  · rw [if_neg hd]
    have hd' : destroyE t p = 0 := Decidable.not_not.1 hd
    unfold destroyE at hd'
    by_cases ha : askE t p ≠ 0
    · rw [if_pos ha] at hd'
      exact absurd hd' ha
    · rw [if_neg ha] at hd'
      have ha' : askE t p = 0 := Decidable.not_not.1 ha
      unfold askE at ha'
      split at ha'
      · cases ha'
      · split at ha'
        · cases ha'
        · rename_i a b
          rcases hs : setAt t p with _ | s
          · rw [hs] at hd'
            cases hd'
          · rw [hs] at hd'
            simp only [] at hd'
            split at hd'
            · cases hd'
            · rename_i hb
              simp only [not_or, Decidable.not_not] at hb
              exact ⟨by simpa using a, by simpa using b, ⟨s, rfl⟩, hb.1, hb.2.1, hb.2.2.1, rfl⟩
theorem no_kid {t : PTenant} {p : ByteArray} (h : kidsT t p = []) {x : PSet} (hx : x ∈ t.sets_) : upP x.path_ ≠ some p := by
  intro e
  unfold kidsT at h
  rw [List.map_eq_nil_iff, List.filter_eq_nil_iff] at h
  exact h x hx (decide_eq_true e)
theorem no_clone {t : PTenant} {p : ByteArray} (h : clonesP t p = []) {x : PSet} (hx : x ∈ t.sets_) {q n : ByteArray} (hs : splitP x.origin_ = some (q, n)) : q ≠ p := by
  intro e
  unfold clonesP at h
  rw [List.map_eq_nil_iff, List.filter_eq_nil_iff] at h
  refine h x hx ?_
  rw [hs]
  exact decide_eq_true e
theorem del_sum {p : ByteArray} (f : PSet → Nat) (l : List PSet) : ((delS p l).map f).sum ≤ (l.map f).sum := by
  induction l with
  | nil => exact Nat.le_refl _
  | cons y l ih =>
    unfold delS at *
    by_cases hy : y.path_ = p
    · rw [List.eraseP_cons_of_pos (by simpa using hy)]
      simp
    · rw [List.eraseP_cons_of_neg (by simpa using hy)]
      simp only [List.map_cons, List.sum_cons]
      omega
theorem destroy_may {t : PTenant} {p : ByteArray} (h : (destroyP t p).2 = 0) : okT (destroyP t p).1 = true ∧ chgP (destroyP t p).1 ≤ chgP t := by
  obtain ⟨h1, _, _, hpe, hk, hc, hd⟩ := destroy_ways h
  rw [hd]
  obtain ⟨o1, o2, o3, o4⟩ := okT_parts.1 h1
  obtain ⟨g1, g2⟩ := (goodL_iff ltPath_trans).1 o4
  refine ⟨okT_parts.2 ⟨o1, ?_, ?_, (goodL_iff ltPath_trans).2 ⟨?_, del_rise g2⟩⟩, ?_⟩
  · exact Nat.le_trans List.eraseP_sublist.length_le o2
  · obtain ⟨y, hy⟩ := hasSet_iff.1 o3
    exact hasSet_iff.2 ⟨y, del_at g2 hy (fun e => hpe e.symm)⟩
  · intro x hx
    have hx' := del_mem hx
    refine setB_move (g1 x hx') fun q hq y hy => ⟨y, del_at g2 hy ?_, fun _ h => h⟩
    rcases hq with hq | ⟨n, hq⟩
    · exact fun e => no_kid hk hx' (e ▸ hq)
    · exact no_clone hc hx' hq
  · exact Nat.add_le_add_right (del_sum (p := p) setN t.sets_) _

/-! ## There and gone -/

/-! ## How great a charge may be -/

theorem chg_le {L : List (List Bk)} (h : ∀ l ∈ L, l.length ≤ 1024) : chg L ≤ L.length * 1025 := by
  induction L with
  | nil => exact Nat.le_refl _
  | cons l L ih =>
    have h1 := h l (by simp)
    have h2 := ih fun x hx => h x (List.mem_cons_of_mem _ hx)
    unfold chg at *
    rw [List.map_cons, List.sum_cons, List.length_cons, Nat.add_mul]
    omega
theorem setN_le {t : PTenant} {s : PSet} (h : setB t s = true) : setN s ≤ 17425 := by
  unfold setB at h
  simp only [Bool.and_eq_true] at h
  obtain ⟨_, hb, _, hs, _⟩ := h
  unfold snapsB goodL at hs
  simp only [Bool.and_eq_true, decide_eq_true_eq, List.all_eq_true] at hs
  obtain ⟨⟨hg, _⟩, _, hl⟩ := hs
  unfold setN
  refine Nat.le_trans (chg_le fun l hl' => ?_) ?_
  · rcases List.mem_append.1 hl' with hm | hm
    · obtain ⟨x, hx, rfl⟩ := List.mem_map.1 hm
      have := hg x hx
      unfold snapB at this
      simp only [Bool.and_eq_true] at this
      exact okK_len this.2.2.2.1
    · simp at hm
      subst hm
      exact okK_len hb
  · simp only [List.length_append, List.length_map, List.length_singleton]
    omega
theorem sum_le {α : Type} (f : α → Nat) (n : Nat) {l : List α} (h : ∀ x ∈ l, f x ≤ n) : (l.map f).sum ≤ l.length * n := by
  induction l with
  | nil => exact Nat.zero_le _
  | cons x l ih =>
    have h1 := h x (by simp)
    have h2 := ih fun y hy => h y (List.mem_cons_of_mem _ hy)
    rw [List.map_cons, List.sum_cons, List.length_cons, Nat.add_mul]
    omega
theorem chgP_small {t : PTenant} (h : okT t = true) : chgP t ≤ 600000 := by
  obtain ⟨h1, h2, _, h4⟩ := okT_parts.1 h
  obtain ⟨g1, _⟩ := (goodL_iff ltPath_trans).1 h4
  have a := sum_le setN 17425 (l := t.sets_) fun x hx => setN_le (g1 x hx)
  have b := sum_le (fun s : PStage => 1 + s.body_.length) 1025 (l := t.stages_) fun x hx => by
    have hg := h1.2.2.2.2.2.2.1
    unfold goodL at hg
    simp only [Bool.and_eq_true, List.all_eq_true] at hg
    have := hg.1 x hx
    unfold stageB at this
    simp only [Bool.and_eq_true] at this
    have := okK_len this.2.2.2.1
    show 1 + x.body_.length ≤ 1025
    omega
  have hst := h1.2.2.2.2.1
  unfold chgP
  have := Nat.mul_le_mul_right 17425 h2
  have := Nat.mul_le_mul_right 1025 hst
  omega

end Go.Proofs.YtnioelkibghplaaGreat

namespace Go.Proofs.YtnioelkibghplaaGreat
set_option maxRecDepth 100000

def chS (p : ByteArray) (f : PSet → PSet) (l : List PSet) : List PSet := l.map fun x => if x.path_ = p then f x else x
theorem chS_set {f : PSet → PSet} : ∀ {l : List PSet} {j : Nat} {s : PSet}, (l.Pairwise fun a b => ltPath a b = true) → l[j]? = some s → chS s.path_ f l = l.set j (f s)
  | [], j, s, _, h => by simp at h
  | a :: l, 0, s, hr, h => by
    simp only [List.getElem?_cons_zero, Option.some.injEq] at h
    subst h
    show (if a.path_ = a.path_ then f a else a) :: chS a.path_ f l = f a :: l
    rw [if_pos rfl]
    congr 1
    unfold chS
    conv => rhs; rw [← List.map_id l]
    refine List.map_congr_left fun x hx => ?_
    have h1 := (List.pairwise_cons.1 hr).1 x hx
    rw [if_neg]
    · rfl
    · intro e
      have h2 : ltK a.path_ x.path_ := ltTx_lt.1 h1
      rw [e] at h2
      exact ltK_ne h2 rfl
  | a :: l, j + 1, s, hr, h => by
    rw [List.getElem?_cons_succ] at h
    have h1 := (List.pairwise_cons.1 hr).1 s (List.mem_of_getElem? h)
    have h2 : ¬ a.path_ = s.path_ := by
      intro e
      have h2 : ltK a.path_ s.path_ := ltTx_lt.1 h1
      rw [e] at h2
      exact ltK_ne h2 rfl
    show (if a.path_ = s.path_ then f a else a) :: chS s.path_ f l = a :: l.set j (f s)
    rw [if_neg h2, chS_set (List.pairwise_cons.1 hr).2 h]

theorem delS_at {p : ByteArray} : ∀ {l : List PSet} {j : Nat} {s : PSet}, l[j]? = some s → s.path_ = p → (∀ x ∈ l.take j, x.path_ ≠ p) → delS p l = l.take j ++ l.drop (j + 1)
  | [], j, s, h, _, _ => by simp at h
  | a :: l, 0, s, h, hp, _ => by
    simp only [List.getElem?_cons_zero, Option.some.injEq] at h
    subst h
    unfold delS
    rw [List.eraseP_cons, hp, decide_eq_true rfl]
    rfl
  | a :: l, j + 1, s, h, hp, hn => by
    rw [List.getElem?_cons_succ] at h
    have h1 : a.path_ ≠ p := hn a (by simp)
    have h2 := delS_at (l := l) h hp fun x hx => hn x (by rw [List.take_succ_cons]; exact List.mem_cons_of_mem _ hx)
    unfold delS at h2 ⊢
    rw [List.eraseP_cons, decide_eq_false h1, cond_false, h2]
    rfl

theorem insS_at {s : PSet} : ∀ {l : List PSet} {j : Nat}, (∀ x ∈ l.take j, ltTx x.path_ s.path_ = true) → (∀ x, l[j]? = some x → ltTx x.path_ s.path_ = false) → j ≤ l.length → insS s l = l.take j ++ s :: l.drop j
  | [], j, _, _, hj => by
    have : j = 0 := by simpa using hj
    subst this
    rfl
  | a :: l, 0, _, h, _ => by
    have h1 := h a rfl
    unfold insS
    rw [List.takeWhile_cons, List.dropWhile_cons]
    simp [h1]
  | a :: l, j + 1, h, h', hj => by
    have h1 := h a (by simp)
    have h2 := insS_at (s := s) (l := l) (j := j) (fun x hx => h x (by rw [List.take_succ_cons]; exact List.mem_cons_of_mem _ hx)) (fun x hx => h' x (by rw [List.getElem?_cons_succ]; exact hx)) (by simpa using hj)
    unfold insS at h2 ⊢
    rw [List.takeWhile_cons, List.dropWhile_cons, if_pos h1, if_pos h1, List.cons_append, h2]
    rfl

end Go.Proofs.YtnioelkibghplaaGreat
