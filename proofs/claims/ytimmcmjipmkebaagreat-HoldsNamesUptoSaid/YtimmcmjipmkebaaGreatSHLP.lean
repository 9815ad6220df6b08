/-
  Holds, plainly: what is held is not destroyed, nor is its set; released it is as it was. No conditions.
-/
import Derived.Test.YtimmcmjipmkebaaGreatSTNP
namespace Go.Proofs.YtimmcmjipmkebaaGreat
set_option maxRecDepth 100000
theorem ltTx_trans (a b c : ByteArray) (h : ltTx a b = true) (k : ltTx b c = true) : ltTx a c = true := ltK_trans (ltTx_lt.1 h) (ltTx_lt.1 k)
theorem tagsB_parts {l : List ByteArray} : tagsB l = true ↔ ((∀ x ∈ l, isName (bs x) = true) ∧ l.Pairwise fun a b => ltTx a b = true) ∧ l.length ≤ 4 := by
  unfold tagsB
  rw [Bool.and_eq_true, goodL_iff ltTx_trans, decide_eq_true_eq]
def hasT (g : ByteArray) (l : List ByteArray) : Bool := l.any fun x => decide (x = g)
theorem hasT_iff {g : ByteArray} {l : List ByteArray} : hasT g l = true ↔ g ∈ l := by
  unfold hasT
  rw [List.any_eq_true]
  exact ⟨fun ⟨x, hx, e⟩ => of_decide_eq_true e ▸ hx, fun h => ⟨g, h, decide_eq_true rfl⟩⟩
def holdT (g : ByteArray) (l : List ByteArray) : List ByteArray := l.takeWhile (fun x => !ltTx g x) ++ g :: l.dropWhile (fun x => !ltTx g x)
def freeT (g : ByteArray) (l : List ByteArray) : List ByteArray := l.filter fun x => !decide (x = g)
theorem mem_holdT {g x : ByteArray} {l : List ByteArray} : x ∈ holdT g l ↔ x = g ∨ x ∈ l := by
  unfold holdT
  have h := List.takeWhile_append_dropWhile (p := fun x : ByteArray => !ltTx g x) (l := l)
  rw [List.mem_append, List.mem_cons]
  constructor
  · rintro (hx | hx | hx)
    · exact .inr (by rw [← h]; exact List.mem_append_left _ hx)
    · exact .inl hx
    · exact .inr (by rw [← h]; exact List.mem_append_right _ hx)
  · rintro (hx | hx)
    · exact .inr (.inl hx)
    · rw [← h, List.mem_append] at hx
      rcases hx with hx | hx
      · exact .inl hx
      · exact .inr (.inr hx)
theorem holdT_length (g : ByteArray) (l : List ByteArray) : (holdT g l).length = l.length + 1 := by
  unfold holdT
  have h := congrArg List.length (List.takeWhile_append_dropWhile (p := fun x : ByteArray => !ltTx g x) (l := l))
  rw [List.length_append] at h ⊢
  simp only [List.length_cons]
  omega
theorem holdT_rise {g : ByteArray} {l : List ByteArray} (h : l.Pairwise fun a b => ltTx a b = true) (hn : g ∉ l) : (holdT g l).Pairwise fun a b => ltTx a b = true := by
  unfold holdT
  have e := List.takeWhile_append_dropWhile (p := fun x : ByteArray => !ltTx g x) (l := l)
  have hp := h
  rw [← e, List.pairwise_append] at hp
  obtain ⟨p1, p2, p3⟩ := hp
  have low : ∀ x ∈ l.takeWhile (fun x => !ltTx g x), ltTx x g = true := by
    intro x hx
    have h1 : (!ltTx g x) = true := List.all_eq_true.1 List.all_takeWhile x hx
    have hxl : x ∈ l := by
      rw [← e]
      exact List.mem_append_left _ hx
    rcases ltK_tri x g with k | k | k
    · exact ltTx_lt.2 k
    · rw [ltTx_lt.2 k] at h1
      cases h1
    · exact absurd (k ▸ hxl) hn
  have high : ∀ x ∈ l.dropWhile (fun x => !ltTx g x), ltTx g x = true := by
    intro x hx
    rcases hd : l.dropWhile (fun x => !ltTx g x) with _ | ⟨d, ds⟩
    · rw [hd] at hx
      cases hx
    · have hd0 : ltTx g d = true := by
        have := List.head_dropWhile_not (fun x : ByteArray => !ltTx g x) (by rw [hd]; simp : l.dropWhile (fun x => !ltTx g x) ≠ [])
        simpa [hd] using this
      rw [hd] at hx p2
      rcases List.mem_cons.1 hx with rfl | hx
      · exact hd0
      · exact ltTx_trans _ _ _ hd0 ((List.pairwise_cons.1 p2).1 x hx)
  refine List.pairwise_append.2 ⟨p1, List.pairwise_cons.2 ⟨high, p2⟩, fun a ha b hb => ?_⟩
  rcases List.mem_cons.1 hb with rfl | hb
  · exact low a ha
  · exact p3 a ha b hb
def tagN (n : ByteArray) (f : List ByteArray → List ByteArray) (y : PSnap) : PSnap := if y.name_ = n then { y with tags_ := f y.tags_ } else y
def tagS (p n : ByteArray) (f : List ByteArray → List ByteArray) (x : PSet) : PSet := if x.path_ = p then { x with snaps_ := x.snaps_.map (tagN n f) } else x
def tagE (t : PTenant) (p n g : ByteArray) (put : Bool) : Int := if foundE t p n (isName (bs g)) true ≠ 0 then foundE t p n (isName (bs g)) true else match setAt t p with
  | none => 71
  | some s => match snapOf s n with
    | none => 71
    | some y => if put = true then (if hasT g y.tags_ = true then 6 else if y.tags_.length = 4 then 3 else 0) else if hasT g y.tags_ = true then 0 else 71
def tagF (g : ByteArray) (put : Bool) : List ByteArray → List ByteArray := if put = true then holdT g else freeT g
def tagP (t : PTenant) (p n g : ByteArray) (put : Bool) : PTenant × Int := if tagE t p n g put ≠ 0 then (noT, tagE t p n g put) else (mapP t (tagS p n (tagF g put)) t.next_, 0)
theorem tagN_name (n : ByteArray) (f : List ByteArray → List ByteArray) (y : PSnap) : (tagN n f y).name_ = y.name_ := by unfold tagN; split <;> rfl
theorem tagN_guid (n : ByteArray) (f : List ByteArray → List ByteArray) (y : PSnap) : (tagN n f y).guid_ = y.guid_ := by unfold tagN; split <;> rfl
theorem tagS_path (p n : ByteArray) (f : List ByteArray → List ByteArray) (x : PSet) : (tagS p n f x).path_ = x.path_ := by unfold tagS; split <;> rfl
theorem tagS_origin (p n : ByteArray) (f : List ByteArray → List ByteArray) (x : PSet) : (tagS p n f x).origin_ = x.origin_ := by unfold tagS; split <;> rfl
theorem tagS_body (p n : ByteArray) (f : List ByteArray → List ByteArray) (x : PSet) : (tagS p n f x).body_ = x.body_ := by unfold tagS; split <;> rfl
theorem tagS_own (p n : ByteArray) (f : List ByteArray → List ByteArray) (x : PSet) : (tagS p n f x).own_ = x.own_ := by unfold tagS; split <;> rfl
theorem tagS_has {p n m : ByteArray} {f : List ByteArray → List ByteArray} {x : PSet} (h : hasSnap x m = true) : hasSnap (tagS p n f x) m = true := by
  unfold tagS
  split
  · unfold hasSnap at *
    rw [List.any_eq_true] at h ⊢
    obtain ⟨y, hy, hm⟩ := h
    exact ⟨tagN n f y, List.mem_map_of_mem hy, by rw [tagN_name]; exact hm⟩
  · exact h
theorem tagE_ways {t : PTenant} {p n g : ByteArray} {put : Bool} (h : tagE t p n g put = 0) : okT t = true ∧ isPath (bs p) = true ∧ isName (bs n) = true ∧ isName (bs g) = true ∧ ∃ s y, setAt t p = some s ∧ snapOf s n = some y ∧ hasSnap s n = true ∧ (put = true → g ∉ y.tags_ ∧ y.tags_.length ≠ 4) ∧ (put = false → g ∈ y.tags_) := by
  unfold tagE at h
  by_cases hf : foundE t p n (isName (bs g)) true = 0
  · rw [if_neg (fun k => k hf)] at h
    obtain ⟨h1, h2, h3, h4, s, hs, h5⟩ := found_ways hf
    obtain ⟨y, hy⟩ := snapOf_has (h5 rfl)
    rw [hs] at h
    dsimp only at h
    rw [hy] at h
    dsimp only at h
    refine ⟨h1, h2, h3, h4, s, y, hs, hy, h5 rfl, ?_, ?_⟩
    · intro hp
      rw [if_pos hp] at h
      split at h
      · cases h
      · split at h
        · cases h
        · rename_i a b
          exact ⟨fun k => a (hasT_iff.2 k), b⟩
    · intro hp
      rw [if_neg (by rw [hp]; decide)] at h
      split at h
      · rename_i a
        exact hasT_iff.1 a
      · cases h
  · rw [if_pos hf] at h
    exact absurd h hf
theorem tag_ok {t : PTenant} {p n : ByteArray} {f : List ByteArray → List ByteArray} (h1 : okT t = true) (hf : ∀ s, setAt t p = some s → ∀ y ∈ s.snaps_, y.name_ = n → tagsB (f y.tags_) = true) : okT (mapP t (tagS p n f) t.next_) = true := by
  have hr := ((goodL_iff ltPath_trans).1 (okT_parts.1 h1).2.2.2).2
  refine map_ok h1 (okT_parts.1 h1).1.2.2.1 (tagS_path p n f) fun x hx hb => ?_
  obtain ⟨b1, b2, b3, b4⟩ := setB_parts hb
  refine setB_to hb (tagS_path p n f x) (by rw [tagS_body]; exact b1) (by rw [tagS_own]; exact b2) ?_ (fun q y hy => ⟨_, mapT_at (tagS_path p n f) hy⟩) ?_
  · unfold tagS
    split
    · rename_i hp
      have hs : setAt t p = some x := by
        have := rise_at hr hx
        rwa [hp] at this
      obtain ⟨⟨c1, c2⟩, c3, c4⟩ := snapsB_parts.1 b3
      refine snapsB_parts.2 ⟨⟨?_, ?_⟩, ?_, by show (x.snaps_.map _).length ≤ 16; rw [List.length_map]; exact c4⟩
      · intro z hz
        obtain ⟨y, hy, rfl⟩ := List.mem_map.1 hz
        have hg := c1 y hy
        unfold tagN
        split
        · rename_i hn
          unfold snapB at hg ⊢
          simp only [Bool.and_eq_true] at hg ⊢
          exact ⟨hg.1, hg.2.1, hf x hs y hy hn, hg.2.2.2⟩
        · exact hg
      · show (x.snaps_.map _).Pairwise _
        rw [List.pairwise_map]
        refine c2.imp fun {a b} hab => ?_
        unfold ltGuid at *
        rw [tagN_guid, tagN_guid]
        exact hab
      · show ((x.snaps_.map _).map _).Nodup
        rw [List.map_map, show PSnap.name_ ∘ tagN n f = PSnap.name_ from funext fun y => tagN_name n f y]
        exact c3
    · exact b3
  · exact orig_move b4 (tagS_path p n f x) (tagS_origin p n f x) fun q m _ y hy hm => ⟨_, mapT_at (tagS_path p n f) hy, tagS_has hm⟩
theorem name_one {l : List PSnap} (h : (l.map PSnap.name_).Nodup) {n : ByteArray} {y z : PSnap} (hy : y ∈ l) (hz : z ∈ l) (ey : y.name_ = n) (ez : z.name_ = n) : y = z := by
  unfold List.Nodup at h
  rw [List.pairwise_map] at h
  obtain ⟨i, hi, rfl⟩ := List.getElem_of_mem hy
  obtain ⟨j, hj, rfl⟩ := List.getElem_of_mem hz
  rcases Nat.lt_trichotomy i j with hij | hij | hij
  · exact absurd (ey.trans ez.symm) (List.pairwise_iff_getElem.1 h i j hi hj hij)
  · subst hij
    rfl
  · exact absurd (ez.trans ey.symm) (List.pairwise_iff_getElem.1 h j i hj hi hij)
theorem hold_ok {t : PTenant} {p n g : ByteArray} (h : tagE t p n g true = 0) : okT (mapP t (tagS p n (holdT g)) t.next_) = true := by
  obtain ⟨h1, _, _, h4, s, y, hs, hy, _, h6, _⟩ := tagE_ways h
  obtain ⟨h7, h8⟩ := h6 rfl
  obtain ⟨hym, hyn⟩ := snapOf_some hy
  have hsB := (setB_parts (((goodL_iff ltPath_trans).1 (okT_parts.1 h1).2.2.2).1 s (setAt_some hs).1)).2.2.1
  obtain ⟨⟨c1, _⟩, c3, _⟩ := snapsB_parts.1 hsB
  refine tag_ok h1 fun s' hs' z hz hzn => ?_
  rw [hs] at hs'
  injection hs' with hs'
  subst hs'
  obtain rfl := name_one c3 hym hz hyn hzn
  have hyB := c1 y hym
  unfold snapB at hyB
  simp only [Bool.and_eq_true] at hyB
  obtain ⟨⟨d1, d2⟩, d3⟩ := tagsB_parts.1 hyB.2.2.1
  refine tagsB_parts.2 ⟨⟨fun x hx => ?_, holdT_rise d2 h7⟩, by rw [holdT_length]; omega⟩
  rcases mem_holdT.1 hx with rfl | hx
  · exact h4
  · exact d1 x hx
theorem held_at {t : PTenant} {p n g : ByteArray} (h : tagE t p n g true = 0) : ∃ s y, setAt (mapP t (tagS p n (holdT g)) t.next_) p = some s ∧ hasSnap s n = true ∧ snapOf s n = some y ∧ y ∈ s.snaps_ ∧ g ∈ y.tags_ := by
  obtain ⟨_, _, _, _, s, y, hs, hy, h5, _, _⟩ := tagE_ways h
  have hsp := (setAt_some hs).2
  have ha : setAt (mapP t (tagS p n (holdT g)) t.next_) p = some (tagS p n (holdT g) s) := mapT_at (tagS_path p n _) hs
  obtain ⟨hym, hyn⟩ := snapOf_some hy
  have hf : snapOf (tagS p n (holdT g) s) n = some (tagN n (holdT g) y) := by
    unfold snapOf tagS at *
    rw [if_pos hsp]
    show (s.snaps_.map _).find? _ = _
    rw [List.find?_map, show ((fun x : PSnap => decide (x.name_ = n)) ∘ tagN n (holdT g)) = fun x : PSnap => decide (x.name_ = n) from funext fun x => by simp only [Function.comp, tagN_name], hy]
    rfl
  refine ⟨_, _, ha, tagS_has h5, hf, (snapOf_some hf).1, ?_⟩
  unfold tagN
  rw [if_pos hyn]
  exact mem_holdT.2 (.inl rfl)
/-! ## All that are held -/
theorem idxOf_here {c : UInt8} : ∀ {a : List UInt8} (b : List UInt8), c ∉ a → (a ++ c :: b).idxOf? c = some a.length
  | [], b, _ => by simp [List.idxOf?_cons]
  | x :: a, b, h => by
    have hx : (x == c) = false := beq_eq_false_iff_ne.2 fun e => h (by simp [e])
    rw [List.cons_append, List.idxOf?_cons, hx]
    rw [if_neg Bool.false_ne_true, idxOf_here b (fun e => h (by simp [e]))]
    rfl
def atT (p n : ByteArray) : ByteArray := ofL (bs p ++ 64 :: bs n)
theorem splitP_join {p n : ByteArray} (hp : isPath (bs p) = true) (hn : isName (bs n) = true) : splitP (atT p n) = some (p, n) := by
  unfold splitP atT
  rw [bs_ofL, idxOf_here _ (isPath_no64 hp)]
  dsimp only
  rw [List.take_left, show (bs p ++ 64 :: bs n).drop ((bs p).length + 1) = bs n by rw [List.drop_append]; simp, hp, hn, ofL_bs, ofL_bs]
  rfl
theorem splitP_iff {s p n : ByteArray} : splitP s = some (p, n) ↔ s = atT p n ∧ isPath (bs p) = true ∧ isName (bs n) = true := by
  constructor
  · intro h
    obtain ⟨h1, h2, h3⟩ := splitP_bs h
    refine ⟨?_, h2, h3⟩
    unfold atT
    rw [← h1, ofL_bs]
  · rintro ⟨rfl, h2, h3⟩
    exact splitP_join h2 h3
def allH (t : PTenant) : List ByteArray := t.sets_.flatMap fun s => (s.snaps_.filter fun y => decide (y.tags_ ≠ [])).map fun y => atT s.path_ y.name_
def heldP (t : PTenant) (p n : ByteArray) : Bool := match setAt t p with
  | none => false
  | some s => match snapOf s n with
    | none => false
    | some y => decide (y.tags_ ≠ [])
theorem path_ok {t : PTenant} {x : PSet} (h : setB t x = true) : isPath (bs x.path_) = true := by
  unfold setB at h
  rw [Bool.and_eq_true] at h
  have h1 := h.1
  unfold upB at h1
  rcases hp : isPath (bs x.path_) with _ | _
  · rw [upP_off hp] at h1
    have e : x.path_ = ByteArray.empty := of_decide_eq_true h1
    rw [e] at hp
    cases hp
  · rfl
theorem names_held {t : PTenant} (h : okT t = true) : ∀ x ∈ allH t, ∃ p n, x = atT p n ∧ splitP x = some (p, n) ∧ heldP t p n = true := by
  intro x hx
  obtain ⟨g1, g2⟩ := (goodL_iff ltPath_trans).1 (okT_parts.1 h).2.2.2
  unfold allH at hx
  obtain ⟨s, hs, hx⟩ := List.mem_flatMap.1 hx
  obtain ⟨y, hy, rfl⟩ := List.mem_map.1 hx
  obtain ⟨hym, hyt⟩ := List.mem_filter.1 hy
  have hb := (setB_parts (g1 s hs)).2.2.1
  obtain ⟨⟨c1, _⟩, c3, _⟩ := snapsB_parts.1 hb
  have hyB := c1 y hym
  unfold snapB at hyB
  rw [Bool.and_eq_true] at hyB
  refine ⟨s.path_, y.name_, rfl, splitP_join (path_ok (g1 s hs)) hyB.1, ?_⟩
  have hh : hasSnap s y.name_ = true := by
    unfold hasSnap
    exact List.any_eq_true.2 ⟨y, hym, decide_eq_true rfl⟩
  obtain ⟨z, hz⟩ := snapOf_has hh
  obtain ⟨z1, z2⟩ := snapOf_some hz
  obtain rfl := name_one c3 z1 hym z2 rfl
  unfold heldP
  rw [rise_at g2 hs]
  dsimp only
  rw [hz]
  exact hyt
end Go.Proofs.YtimmcmjipmkebaaGreat
