/-
 Holds, plainly: what is held is not destroyed, nor is its set; released it is as it was. No conditions.
-/
import Derived.Test.YtimmcmjipmkebaaGreatVTNP
namespace Go.Proofs.YtimmcmjipmkebaaGreat
set_option maxRecDepth 100000
theorem ltTx_trans (a b c : ByteArray) (h : ltTx a b = true) (k : ltTx b c = true) : ltTx a c = true := ltK_trans (ltTx_lt.1 h) (ltTx_lt.1 k)
theorem tagsB_parts {l : List ByteArray} : tagsB l = true ↔ ((∀ x ∈ l, zaQ (bs x) = true) ∧ l.Pairwise fun a b => ltTx a b = true) ∧ l.length ≤ 4 := by
 unfold tagsB
 rw [Bool.and_eq_true, goodL_iff ltTx_trans, decide_eq_true_eq]
def hasT (g : ByteArray) (l : List ByteArray) : Bool := l.any fun x => decide (x = g)
theorem hasT_iff {g : ByteArray} {l : List ByteArray} : hasT g l = true ↔ g ∈ l := by
 unfold hasT
 rw [List.any_eq_true]
 exact ⟨fun ⟨x, hx, e⟩ => of_decide_eq_true e ▸ hx, fun h => ⟨g, h, decide_eq_true rfl⟩⟩
def holdT (g : ByteArray) (l : List ByteArray) : List ByteArray := l.takeWhile (fun x => !ltTx g x) ++ g :: l.dropWhile (fun x => !ltTx g x)
def freeT (g : ByteArray) (l : List ByteArray) : List ByteArray := l.filter fun x => !decide (x = g)
theorem mem_holdT {g x : ByteArray} {l : List ByteArray} : x ∈ holdT g l ↔ x = g ∨ x ∈ l := by
 unfold holdT
 have h := List.takeWhile_append_dropWhile (p := fun x : ByteArray => !ltTx g x) (l := l)
 rw [List.mem_append, List.mem_cons]
 constructor
 · rintro (hx | hx | hx)
   · exact .inr (by rw [← h]; exact List.mem_append_left _ hx)
   · exact .inl hx
   · exact .inr (by rw [← h]; exact List.mem_append_right _ hx)
 · rintro (hx | hx)
   · exact .inr (.inl hx)
   · rw [← h, List.mem_append] at hx
     rcases hx with hx | hx
     · exact .inl hx
     · exact .inr (.inr hx)
theorem holdT_length (g : ByteArray) (l : List ByteArray) : (holdT g l).length = l.length + 1 := by
 unfold holdT
 have h := congrArg List.length (List.takeWhile_append_dropWhile (p := fun x : ByteArray => !ltTx g x) (l := l))
 rw [List.length_append] at h ⊢
 simp only [List.length_cons]
 omega
theorem holdT_rise {g : ByteArray} {l : List ByteArray} (h : l.Pairwise fun a b => ltTx a b = true) (hn : g ∉ l) : (holdT g l).Pairwise fun a b => ltTx a b = true := by
 unfold holdT
 have e := List.takeWhile_append_dropWhile (p := fun x : ByteArray => !ltTx g x) (l := l)
 have hp := h
 rw [← e, List.pairwise_append] at hp
 obtain ⟨p1, p2, p3⟩ := hp
 have low : ∀ x ∈ l.takeWhile (fun x => !ltTx g x), ltTx x g = true := by
  intro x hx
  have h1 : (!ltTx g x) = true := List.all_eq_true.1 List.all_takeWhile x hx
  have hxl : x ∈ l := by
   rw [← e]
   exact List.mem_append_left _ hx
  rcases ltK_tri x g with k | k | k
  · exact ltTx_lt.2 k
  · rw [ltTx_lt.2 k] at h1
    cases h1
  · exact absurd (k ▸ hxl) hn
 have high : ∀ x ∈ l.dropWhile (fun x => !ltTx g x), ltTx g x = true := by
  intro x hx
  rcases hd : l.dropWhile (fun x => !ltTx g x) with _ | ⟨d, ds⟩
  · rw [hd] at hx
    cases hx
  · have hd0 : ltTx g d = true := by
     have := List.head_dropWhile_not (fun x : ByteArray => !ltTx g x) (by rw [hd]; simp : l.dropWhile (fun x => !ltTx g x) ≠ [])
     simpa [hd] using this
    rw [hd] at hx p2
    rcases List.mem_cons.1 hx with rfl | hx
    · exact hd0
    · exact ltTx_trans _ _ _ hd0 ((List.pairwise_cons.1 p2).1 x hx)
 refine List.pairwise_append.2 ⟨p1, List.pairwise_cons.2 ⟨high, p2⟩, fun a ha b hb => ?_⟩
 rcases List.mem_cons.1 hb with rfl | hb
 · exact low a ha
 · exact p3 a ha b hb
def tagN (n : ByteArray) (f : List ByteArray → List ByteArray) (y : PS_) : PS_ := if y.x_ = n then { y with u_ := f y.u_ } else y
def tagS (p n : ByteArray) (f : List ByteArray → List ByteArray) (x : PSet) : PSet := if x.l_ = p then { x with n_ := x.n_.map (tagN n f) } else x
def tagE (t : PT_) (p n g : ByteArray) (put : Bool) : Int := if zfX t p n (zaQ (bs g)) true ≠ 0 then zfX t p n (zaQ (bs g)) true else match setAt t p with
 | none => 71
 | some s => match snapOf s n with
  | none => 71
  | some y => if put = true then (if hasT g y.u_ = true then 6 else if y.u_.length = 4 then 3 else 0) else if hasT g y.u_ = true then 0 else 71
def tagF (g : ByteArray) (put : Bool) : List ByteArray → List ByteArray := if put = true then holdT g else freeT g
def tagP (t : PT_) (p n g : ByteArray) (put : Bool) : PT_ × Int := if tagE t p n g put ≠ 0 then (noT, tagE t p n g put) else (mapP t (tagS p n (tagF g put)) t.v_, 0)
theorem tagN_name (n : ByteArray) (f : List ByteArray → List ByteArray) (y : PS_) : (tagN n f y).x_ = y.x_ := by unfold tagN; split <;> rfl
theorem tagN_guid (n : ByteArray) (f : List ByteArray → List ByteArray) (y : PS_) : (tagN n f y).z_ = y.z_ := by unfold tagN; split <;> rfl
theorem tagS_path (p n : ByteArray) (f : List ByteArray → List ByteArray) (x : PSet) : (tagS p n f x).l_ = x.l_ := by unfold tagS; split <;> rfl
theorem tagS_origin (p n : ByteArray) (f : List ByteArray → List ByteArray) (x : PSet) : (tagS p n f x).m_ = x.m_ := by unfold tagS; split <;> rfl
theorem tagS_body (p n : ByteArray) (f : List ByteArray → List ByteArray) (x : PSet) : (tagS p n f x).p_ = x.p_ := by unfold tagS; split <;> rfl
theorem tagS_own (p n : ByteArray) (f : List ByteArray → List ByteArray) (x : PSet) : (tagS p n f x).j_ = x.j_ := by unfold tagS; split <;> rfl
theorem tagS_has {p n m : ByteArray} {f : List ByteArray → List ByteArray} {x : PSet} (h : zeQ x m = true) : zeQ (tagS p n f x) m = true := by
 unfold tagS
 split
 · unfold zeQ at *
   rw [List.any_eq_true] at h ⊢
   obtain ⟨y, hy, hm⟩ := h
   exact ⟨tagN n f y, List.mem_map_of_mem hy, by rw [tagN_name]; exact hm⟩
 · exact h
theorem tagE_ways {t : PT_} {p n g : ByteArray} {put : Bool} (h : tagE t p n g put = 0) : okT t = true ∧ zeX (bs p) = true ∧ zaQ (bs n) = true ∧ zaQ (bs g) = true ∧ ∃ s y, setAt t p = some s ∧ snapOf s n = some y ∧ zeQ s n = true ∧ (put = true → g ∉ y.u_ ∧ y.u_.length ≠ 4) ∧ (put = false → g ∈ y.u_) := by
 unfold tagE at h
 by_cases hf : zfX t p n (zaQ (bs g)) true = 0
 · rw [if_neg (fun k => k hf)] at h
   obtain ⟨h1, h2, h3, h4, s, hs, h5⟩ := found_ways hf
   obtain ⟨y, hy⟩ := snapOf_has (h5 rfl)
   rw [hs] at h
   dsimp only at h
   rw [hy] at h
   dsimp only at h
   refine ⟨h1, h2, h3, h4, s, y, hs, hy, h5 rfl, ?_, ?_⟩
   · intro hp
     rw [if_pos hp] at h
     split at h
     · cases h
     · split at h
       · cases h
       · rename_i a b
         exact ⟨fun k => a (hasT_iff.2 k), b⟩
   · intro hp
     rw [if_neg (by rw [hp]; decide)] at h
     split at h
     · rename_i a
       exact hasT_iff.1 a
     · cases h
 · rw [if_pos hf] at h
   exact absurd h hf
theorem tag_ok {t : PT_} {p n : ByteArray} {f : List ByteArray → List ByteArray} (h1 : okT t = true) (hf : ∀ s, setAt t p = some s → ∀ y ∈ s.n_, y.x_ = n → tagsB (f y.u_) = true) : okT (mapP t (tagS p n f) t.v_) = true := by
 have hr := ((goodL_iff ltPath_trans).1 (okT_parts.1 h1).2.2.2).2
 refine map_ok h1 (okT_parts.1 h1).1.2.2.1 (tagS_path p n f) fun x hx hb => ?_
 obtain ⟨b1, b2, b3, b4⟩ := setB_parts hb
 refine setB_to hb (tagS_path p n f x) (by rw [tagS_body]; exact b1) (by rw [tagS_own]; exact b2) ?_ (fun q y hy => ⟨_, mapT_at (tagS_path p n f) hy⟩) ?_
 · unfold tagS
   split
   · rename_i hp
     have hs : setAt t p = some x := by
      have := rise_at hr hx
      rwa [hp] at this
     obtain ⟨⟨c1, c2⟩, c3, c4⟩ := snapsB_parts.1 b3
     refine snapsB_parts.2 ⟨⟨?_, ?_⟩, ?_, by show (x.n_.map _).length ≤ 16; rw [List.length_map]; exact c4⟩
     · intro z hz
       obtain ⟨y, hy, rfl⟩ := List.mem_map.1 hz
       have hg := c1 y hy
       unfold tagN
       split
       · rename_i hn
         unfold snapB at hg ⊢
         simp only [Bool.and_eq_true] at hg ⊢
         exact ⟨hg.1, hg.2.1, hf x hs y hy hn, hg.2.2.2⟩
       · exact hg
     · show (x.n_.map _).Pairwise _
       rw [List.pairwise_map]
       refine c2.imp fun {a b} hab => ?_
       unfold ltGuid at *
       rw [tagN_guid, tagN_guid]
       exact hab
     · show ((x.n_.map _).map _).Nodup
       rw [List.map_map, show PS_.x_ ∘ tagN n f = PS_.x_ from funext fun y => tagN_name n f y]
       exact c3
   · exact b3
 · exact orig_move b4 (tagS_path p n f x) (tagS_origin p n f x) fun q m _ y hy hm => ⟨_, mapT_at (tagS_path p n f) hy, tagS_has hm⟩
theorem name_one {l : List PS_} (h : (l.map PS_.x_).Nodup) {n : ByteArray} {y z : PS_} (hy : y ∈ l) (hz : z ∈ l) (ey : y.x_ = n) (ez : z.x_ = n) : y = z := by
 unfold List.Nodup at h
 rw [List.pairwise_map] at h
 obtain ⟨i, hi, rfl⟩ := List.getElem_of_mem hy
 obtain ⟨j, hj, rfl⟩ := List.getElem_of_mem hz
 rcases Nat.lt_trichotomy i j with hij | hij | hij
 · exact absurd (ey.trans ez.symm) (List.pairwise_iff_getElem.1 h i j hi hj hij)
 · subst hij
   rfl
 · exact absurd (ez.trans ey.symm) (List.pairwise_iff_getElem.1 h j i hj hi hij)
theorem hold_ok {t : PT_} {p n g : ByteArray} (h : tagE t p n g true = 0) : okT (mapP t (tagS p n (holdT g)) t.v_) = true := by
 obtain ⟨h1, _, _, h4, s, y, hs, hy, _, h6, _⟩ := tagE_ways h
 obtain ⟨h7, h8⟩ := h6 rfl
 obtain ⟨hym, hyn⟩ := snapOf_some hy
 have hsB := (setB_parts (((goodL_iff ltPath_trans).1 (okT_parts.1 h1).2.2.2).1 s (setAt_some hs).1)).2.2.1
 obtain ⟨⟨c1, _⟩, c3, _⟩ := snapsB_parts.1 hsB
 refine tag_ok h1 fun s' hs' z hz hzn => ?_
 rw [hs] at hs'
 injection hs' with hs'
 subst hs'
 obtain rfl := name_one c3 hym hz hyn hzn
 have hyB := c1 y hym
 unfold snapB at hyB
 simp only [Bool.and_eq_true] at hyB
 obtain ⟨⟨d1, d2⟩, d3⟩ := tagsB_parts.1 hyB.2.2.1
 refine tagsB_parts.2 ⟨⟨fun x hx => ?_, holdT_rise d2 h7⟩, by rw [holdT_length]; omega⟩
 rcases mem_holdT.1 hx with rfl | hx
 · exact h4
 · exact d1 x hx
theorem held_at {t : PT_} {p n g : ByteArray} (h : tagE t p n g true = 0) : ∃ s y, setAt (mapP t (tagS p n (holdT g)) t.v_) p = some s ∧ zeQ s n = true ∧ snapOf s n = some y ∧ y ∈ s.n_ ∧ g ∈ y.u_ := by
 obtain ⟨_, _, _, _, s, y, hs, hy, h5, _, _⟩ := tagE_ways h
 have hsp := (setAt_some hs).2
 have ha : setAt (mapP t (tagS p n (holdT g)) t.v_) p = some (tagS p n (holdT g) s) := mapT_at (tagS_path p n _) hs
 obtain ⟨hym, hyn⟩ := snapOf_some hy
 have hf : snapOf (tagS p n (holdT g) s) n = some (tagN n (holdT g) y) := by
  unfold snapOf tagS at *
  rw [if_pos hsp]
  show (s.n_.map _).find? _ = _
  rw [List.find?_map, show ((fun x : PS_ => decide (x.x_ = n)) ∘ tagN n (holdT g)) = fun x : PS_ => decide (x.x_ = n) from funext fun x => by simp only [Function.comp, tagN_name], hy]
  rfl
 refine ⟨_, _, ha, tagS_has h5, hf, (snapOf_some hf).1, ?_⟩
 unfold tagN
 rw [if_pos hyn]
 exact mem_holdT.2 (.inl rfl)
/-! ## All that are held -/
def atT (p n : ByteArray) : ByteArray := ofL (bs p ++ 64 :: bs n)
def heldP (t : PT_) (p n : ByteArray) : Bool := match setAt t p with
 | none => false
 | some s => match snapOf s n with
  | none => false
  | some y => decide (y.u_ ≠ [])
end Go.Proofs.YtimmcmjipmkebaaGreat
