/-
 Tags in memory: where one stands, one put in, one taken out. Conditions: lists of the call's own that rise.
-/
import Derived.Test.YtimmcmjipmkebaaGreatVSPD
import Derived.Test.YtimmcmjipmkebaaGreatLayT
import Derived.Test.YtimmcmjipmkebaaGreatShelfT
import Derived.Shelf.Spec.SearchS
import Derived.Shelf.Spec.SlicesInsert
import Derived.Shelf.Spec.SlicesInsertGrow
namespace Go.Proofs.YtimmcmjipmkebaaGreat
open Go.ChangeShapes Go.WideShapes Go.ChangeAt Go.RowKit
set_option maxRecDepth 100000
set_option linter.unusedSimpArgs false
def posT (g : ByteArray) (l : List ByteArray) : Nat := (l.takeWhile fun y => ltTx y g).length
theorem posT_le (g : ByteArray) (l : List ByteArray) : posT g l ≤ l.length := by
 have h := congrArg List.length (List.takeWhile_append_dropWhile (p := fun y : ByteArray => ltTx y g) (l := l))
 rw [List.length_append] at h
 unfold posT
 omega
theorem ltTx_irr (g : ByteArray) : ltTx g g = false := bl_irr g.toList
theorem posT_low {g : ByteArray} {l : List ByteArray} {t : Nat} {y : ByteArray} (ht : t < posT g l) (hy : l[t]? = some y) : ltTx y g = true := by
 have h := List.takeWhile_append_dropWhile (p := fun y : ByteArray => ltTx y g) (l := l)
 rw [← h, List.getElem?_append_left ht] at hy
 have h9 := mG hy
 exact List.all_eq_true.1 List.all_takeWhile y h9
theorem posT_high {g : ByteArray} {l : List ByteArray} (hr : l.Pairwise fun a b => ltTx a b = true) {t : Nat} {y : ByteArray} (ht : posT g l ≤ t) (hy : l[t]? = some y) : ltTx y g = false := by
 have h := List.takeWhile_append_dropWhile (p := fun y : ByteArray => ltTx y g) (l := l)
 rcases hd : l.dropWhile (fun y => ltTx y g) with _ | ⟨d, ds⟩
 · rw [hd, List.append_nil] at h
   have h2 := congrArg List.length h
   have h3 : t < l.length := (List.getElem?_eq_some_iff.1 hy).1
   unfold posT at ht
   omega
 · have hd0 : ltTx d g = false := by
    have := List.head_dropWhile_not (fun y : ByteArray => ltTx y g) (by rw [hd]; simp : l.dropWhile (fun y => ltTx y g) ≠ [])
    simpa [hd] using this
   rw [hd] at h
   rw [← h] at hr hy
   rw [List.getElem?_append_right ht] at hy
   have hp := (List.pairwise_append.1 hr).2.1
   rcases hyx : ltTx y g with _ | _
   · rfl
   · exfalso
     have hmem := mG hy
     rcases List.mem_cons.1 hmem with rfl | hm
     · rw [hyx] at hd0
       cases hd0
     · have h5 := (List.pairwise_cons.1 hp).1 y hm
       rw [ltTx_trans d y g h5 hyx] at hd0
       cases hd0
theorem posT_at {g : ByteArray} {l : List ByteArray} (hr : l.Pairwise fun a b => ltTx a b = true) : hasT g l = true ↔ l[posT g l]? = some g := by
 constructor
 · intro h
   obtain ⟨t, ht, e⟩ := List.getElem_of_mem (hasT_iff.1 h)
   have hy : l[t]? = some g := by rw [qZa ht, e]
   rcases Nat.lt_trichotomy t (posT g l) with h1 | h1 | h1
   · have := posT_low h1 hy
     rw [ltTx_irr] at this
     cases this
   · rw [← h1]; exact hy
   · have hp : posT g l < l.length := by omega
     have h2 := posT_high hr (Nat.le_refl _) (qZa hp)
     have h3 := List.pairwise_iff_getElem.1 hr (posT g l) t hp ht h1
     rw [e] at h3
     rw [h3] at h2
     cases h2
 · exact fun h => hasT_iff.2 (mG h)
theorem hold_pos {g : ByteArray} {l : List ByteArray} (hn : hasT g l = false) : holdT g l = l.take (posT g l) ++ g :: l.drop (posT g l) := by
 have e : l.takeWhile (fun x => !ltTx g x) = l.takeWhile (fun y => ltTx y g) := by
  have hh : ∀ x ∈ l, (!ltTx g x) = ltTx x g := fun x hx => by
   rcases ltK_tri x g with k | k | k
   · rw [ltTx_lt.2 k]
     rcases h : ltTx g x with _ | _
     · rfl
     · exact absurd (ltTx_lt.1 h) (fun k2 => ltK_asym k k2)
   · rw [ltTx_lt.2 k]
     rcases h : ltTx x g with _ | _
     · rfl
     · exact absurd (ltTx_lt.1 h) (fun k2 => ltK_asym k2 k)
   · subst k
     rw [hasT_iff.2 hx] at hn
     cases hn
  clear hn
  induction l with
  | nil => rfl
  | cons a l ih =>
   rw [List.takeWhile_cons, List.takeWhile_cons, hh a (List.mem_cons_self ..), ih fun x hx => hh x (List.mem_cons_of_mem _ hx)]
 have h1 := List.takeWhile_append_dropWhile (p := fun x : ByteArray => !ltTx g x) (l := l)
 have h3 : l.take (posT g l) = l.takeWhile (fun x => !ltTx g x) := by
  unfold posT
  rw [← e]
  conv => lhs; arg 2; rw [← h1]
  rw [List.take_left]
 have h4 : l.drop (posT g l) = l.dropWhile (fun x => !ltTx g x) := by
  unfold posT
  rw [← e]
  conv => lhs; arg 2; rw [← h1]
  rw [List.drop_left]
 rw [h3, h4]
 rfl
theorem free_pos {g : ByteArray} {l : List ByteArray} (hr : l.Pairwise fun a b => ltTx a b = true) (hn : hasT g l = true) : freeT g l = l.take (posT g l) ++ l.drop (posT g l + 1) := by
 have hp := (posT_at hr).1 hn
 obtain ⟨hl, he⟩ := List.getElem?_eq_some_iff.1 hp
 have h4 : l = l.take (posT g l) ++ g :: l.drop (posT g l + 1) := by
  conv => lhs; rw [← List.take_append_drop (posT g l) l]
  rw [← List.getElem_cons_drop hl, he]
 have hne : ∀ t y, l[t]? = some y → t ≠ posT g l → y ≠ g := fun t y hy ht e => by
  subst e
  rcases Nat.lt_or_gt_of_ne ht with h1 | h1
  · have := posT_low h1 hy
    rw [ltTx_irr] at this
    cases this
  · obtain ⟨h5, h6⟩ := List.getElem?_eq_some_iff.1 hy
    have h3 := List.pairwise_iff_getElem.1 hr (posT y l) t hl h5 h1
    rw [he, h6, ltTx_irr] at h3
    cases h3
 unfold freeT
 conv => lhs; arg 2; rw [h4]
 rw [List.filter_append, List.filter_cons_of_neg (by simp)]
 congr 1
 · refine List.filter_eq_self.2 fun y hy => ?_
   obtain ⟨t, ht, e⟩ := List.getElem_of_mem hy
   rw [List.length_take] at ht
   rw [List.getElem_take] at e
   have := hne t y (by rw [qZa (by omega), e]) (by omega)
   simpa using this
 · refine List.filter_eq_self.2 fun y hy => ?_
   obtain ⟨t, ht, e⟩ := List.getElem_of_mem hy
   rw [List.length_drop] at ht
   rw [List.getElem_drop] at e
   have := hne (posT g l + 1 + t) y (by rw [qZa (by omega), e]) (by omega)
   simpa using this
theorem flatT' (l : List ByteArray) : (l.flatMap fun s => [Value.string s]) = l.map Value.string := by
 induction l with
 | nil => rfl
 | cons a l ih => rw [List.flatMap_cons, ih]; rfl
theorem search18_any (A : Option Addr) (c : Nat) (l : List ByteArray) (hr : l.Pairwise fun a b => ltTx a b = true) (hl : l.length ≤ 4) (g : ByteArray) (W : World) (hrd : Rd W A (l.map Value.string)) :
 Calls Tryz.prog 76 #[.slice A l.length c, .string g] W fun e w' => e = .returned (.tuple #[.int .i64 (posT g l), .bool (hasT g l)]) ∧ ∃ q, w' = W.drewN q := by
 by_cases h0 : l.length = 0
 · have hl0 : l = [] := List.eq_nil_of_length_eq_zero h0
   subst hl0
   exact (Any2.slices_BinarySearch_string_empty Tryz.searchT A c g W).mono fun e w' ⟨h1, h2⟩ => ⟨h1, 0, h2⟩
 · obtain ⟨b, off, rfl, hb, hc⟩ := hrd (by intro e; exact h0 (by simpa using congrArg List.length e))
   have h := Any2.slices_BinarySearch_string Tryz.searchT b off l.length c (fun t => l[t]?.getD g) g W (by omega) (fun j hj => by
    rw [hc j (.string l[j]) (by rw [List.getElem?_map, qZa hj]; rfl)]
    rw [qZa hj]
    rfl)
   have hk : Lib.bsGo (fun t => Op.bytesLess (l[t]?.getD g).toList g.toList) l.length 0 l.length = posT g l := by
    refine Lib.bsGo_spec _ (posT g l) (fun t ht => ?_) (fun t ht => ?_) _ _ _ (by omega) (Nat.zero_le _) (posT_le g l)
    · have h1 : t < l.length := by have := posT_le g l; omega
      rw [qZa h1]
      exact posT_low ht (qZa h1)
    · by_cases h1 : t < l.length
      · rw [qZa h1]
        exact posT_high hr ht (qZa h1)
      · rw [List.getElem?_eq_none (by omega)]
        exact bl_irr g.toList
   rw [hk] at h
   refine h.mono fun e w' ⟨h1, h2⟩ => ⟨?_, h2⟩
   rw [h1]
   have hbb : decide (posT g l < l.length ∧ l[posT g l]?.getD g = g) = hasT g l := by
    rcases hh : hasT g l with _ | _
    · refine decide_eq_false fun ⟨h3, h4⟩ => ?_
      rw [qZa h3] at h4
      have := (posT_at hr).2 (by rw [qZa h3]; exact congrArg some h4)
      rw [hh] at this
      cases this
    · have h3 := (posT_at hr).1 hh
      exact decide_eq_true ⟨(List.getElem?_eq_some_iff.1 h3).1, by rw [h3]; rfl⟩
   rw [hbb]
theorem row_of_blk {W : World} {N g cap : Nat} {cs : List Value} {l : List ByteArray} (hb : Blk W g 9 cs) (hg : N ≤ g) (hn : l.length ≤ cap) (hm : cap ≤ maxLen) (hc : cs.length = cap) (hx : cs.take l.length = l.map Value.string) :
 W.ownsRow N 9 1 (.slice (some ⟨g, 0, none⟩) l.length cap) l.length (l.flatMap fun s => [Value.string s]) := by
 rw [flatT']
 refine ⟨by simp, .inr ⟨g, cap, cs.toArray, rfl, hg, hb, hn, hm, by simpa using hc, by simpa using hx⟩⟩
theorem blk_of_row {W : World} {N g cap k : Nat} {xs : List Value} (h : W.ownsRow N 9 1 (.slice (some ⟨g, 0, none⟩) k cap) k xs) : N ≤ g ∧ k ≤ cap ∧ cap ≤ maxLen ∧ ∃ cs : List Value, Blk W g 9 cs ∧ cs.length = cap ∧ cs.take k = xs := by
 obtain ⟨_, ⟨hv, _⟩ | ⟨g2, cap2, cur, hv, hn, hb, h2, h3, h4, h5⟩⟩ := h
 · cases hv
 · injection hv with e1 e2 e3
   injection e1 with e1
   injection e1 with e1
   subst e1 e3
   exact ⟨hn, h2, h3, cur.toList, by unfold Blk; rw [hb], by simpa using h4, by simpa using h5⟩
theorem blk_shape {W : World} {g : Nat} {t : TypeId} {cs : List Value} (h : Blk W g t cs) : W.shape? g = some (t, cs.length) := by
 unfold World.shape?
 rw [show W.heap[g]? = _ from h]
 simp
theorem blk_frozen {W : World} {g : Nat} {t : TypeId} {cs : List Value} (h : Blk W g t cs) (i : Nat) : W.frozen? ⟨g, i, none⟩ = false := frozen_of_row W g i _ t h
theorem blk_heap {W W' : World} {g : Nat} {t : TypeId} {cs : List Value} (h : Blk W g t cs) (e : W'.heap = W.heap) : Blk W' g t cs := by
 unfold Blk
 rw [e]
 exact h
theorem one_string (v : ByteArray) : ∀ u ∈ [Value.string v], u.oneCell' = true := fun u hu => by
 rw [List.mem_singleton] at hu
 subst hu
 rfl
theorem ones_string (l : List ByteArray) : ∀ u ∈ l.map Value.string, u.oneCell' = true := fun u hu => by
 obtain ⟨s, _, rfl⟩ := List.mem_map.1 hu
 rfl
theorem cut_at {α : Type} {l : List α} {i : Nat} (hi : i < l.length) : l = l.take i ++ [l[i]] ++ l.drop (i + 1) := by
 conv => lhs; rw [← List.take_append_drop i l]
 rw [← List.getElem_cons_drop hi]
 simp
theorem zc_len (k : Nat) : (Builtin.zeroCells (Value.string ⟨#[]⟩).cells k).size = k := by
 rw [size_zeroCells]
 exact Nat.mul_one k
theorem tags_of {W W' : World} {N g cap : Nat} {cs : List Value} {L : List ByteArray} {l : List ByteArray} {v : ByteArray} {i : Nat} {A : Option Addr} {n c : Nat} (hL : L = l.take i ++ v :: l.drop i) (hb : Blk W' g 9 cs) (hg : N ≤ g) (hn : L.length ≤ cap) (hm : cap ≤ maxLen) (hc : cs.length = cap) (hx : cs.take L.length = L.map Value.string)
 (hfr : ∀ b, b < W.heap.size → some b ≠ (Value.slice A n c).ownBlock → W'.heap[b]? = W.heap[b]?) (hB : Below N W W') :
 ∃ T : Sl ByteArray, Ending.returned (.slice (some ⟨g, 0, none⟩) L.length cap) = .returned T.val ∧ T.l = l.take i ++ v :: l.drop i ∧ W'.ownsRow N 9 1 T.val T.l.length (T.l.flatMap fun s => [Value.string s]) ∧ (∀ b, b < W.heap.size → some b ≠ (Value.slice A n c).ownBlock → W'.heap[b]? = W.heap[b]?) ∧ Below N W W' :=
 ⟨⟨some ⟨g, 0, none⟩, L, cap⟩, rfl, hL, row_of_blk hb hg hn hm hc hx, hfr, hB⟩
theorem insert18_any (N : Nat) (A : Option Addr) (c : Nat) (l : List ByteArray) (v : ByteArray) (i vb : Nat) (W : World) (hown : W.ownsRow N 9 1 (.slice A l.length c) l.length (l.map Value.string)) (hv : Blk W vb 9 [.string v]) (hne : ∀ a, A = some a → a.block ≠ vb) (hi : i ≤ l.length) (hl : l.length ≤ 4) (hN : N ≤ W.heap.size) :
 Calls Tryz.prog 77 #[.slice A l.length c, .int .i64 i, .slice (some ⟨vb, 0, none⟩) 1 1] W fun e W' => ∃ T : Sl ByteArray, e = .returned T.val ∧ T.l = l.take i ++ v :: l.drop i ∧ W'.ownsRow N 9 1 T.val T.l.length (T.l.flatMap fun s => [Value.string s]) ∧ (∀ b, b < W.heap.size → some b ≠ (Value.slice A l.length c).ownBlock → W'.heap[b]? = W.heap[b]?) ∧ Below N W W' := by
 have hvs : ∀ j u, [Value.string v][j]? = some u → W.cell? ⟨vb, 0 + j, none⟩ = some u := fun j u h => by rw [Nat.zero_add, hv.cell j]; exact h
 obtain ⟨L, hL⟩ : ∃ L, L = l.take i ++ v :: l.drop i := ⟨_, rfl⟩
 have hlen : L.length = l.length + 1 := by
  rw [hL, List.length_append, List.length_cons, List.length_take, List.length_drop]
  omega
 obtain ⟨xs, hxs⟩ : ∃ xs, l.map Value.string = xs := ⟨_, rfl⟩
 have hmap : L.map Value.string = xs.take i ++ [Value.string v] ++ xs.drop i := by
  rw [hL, List.map_append, List.map_cons, List.map_take, List.map_drop, List.append_assoc, hxs]
  rfl
 have hml : xs.length = l.length := by rw [← hxs, List.length_map]
 have h1x : ∀ u ∈ xs, u.oneCell' = true := hxs ▸ ones_string l
 rw [hxs] at hown
 have hti : (xs.take i).length = i := by rw [List.length_take]; omega
 have hmapl : (xs.take i ++ [Value.string v] ++ xs.drop i).length = l.length + 1 := by rw [← hmap, List.length_map, hlen]
 by_cases hroom : l.length + 1 ≤ c
 · obtain ⟨_, ⟨hv2, _⟩ | ⟨g, cap, cur, hv2, _⟩⟩ := id hown
   · injection hv2 with e1 e2 e3
     omega
   · injection hv2 with e1 e2 e3
     subst e1 e3
     obtain ⟨hNg, hnc, hcm, cs, hb, hcl, hct⟩ := blk_of_row hown
     have hgl := lt_of_block (by unfold Blk at hb; exact hb)
     have hcs : cs = xs ++ cs.drop l.length := by rw [← hct, List.take_append_drop]
     obtain ⟨u0, rest, hrest⟩ : ∃ u0 rest, cs.drop l.length = u0 :: rest := by
      rcases hd : cs.drop l.length with _ | ⟨a, b⟩
      · have := congrArg List.length hd
        rw [List.length_drop] at this
        simp at this
        omega
      · exact ⟨a, b, rfl⟩
     rw [hrest] at hcs
     have hcell : ∀ j u, xs[j]? = some u → W.cell? ⟨g, 0 + j, none⟩ = some u := fun j u h => by
      rw [Nat.zero_add, hb.cell j, hcs, List.getElem?_append_left (List.getElem?_eq_some_iff.1 h).1]
      exact h
     have hsome : ∀ j, j < c → (W.cell? ⟨g, j, none⟩).isSome = true := fun j h => by
      rw [hb.cell j, qZa (by omega)]
      rfl
     have hgne : vb ≠ g := fun e => hne _ rfl e.symm
     have hfrm : ∀ (W' : World), (∀ b, b ≠ g → W'.heap[b]? = W.heap[b]?) → ∀ b, b < W.heap.size → some b ≠ (Value.slice (some ⟨g, 0, none⟩) l.length c).ownBlock → W'.heap[b]? = W.heap[b]? := fun W' h b _ h2 => h b fun e => h2 (by rw [e]; rfl)
     by_cases hin : i < l.length
     · have h := Any2.slices_Insert_string_shift Tryz.insertT g 0 l.length c i vb 0 1 1 xs [.string v] W hin (by omega) hroom (by unfold maxLen at hcm; omega) hgne hml rfl hcell (fun j hj => by rw [Nat.zero_add]; exact hsome j (by omega)) (fun j _ => blk_frozen hb _) hvs h1x (one_string v) 9 9 1 cs.length (blk_shape hv) (blk_shape hb) (by omega) (blk_frozen hv _) (blk_frozen hv _)
       refine h.mono ?_
       rintro e W' ⟨rfl, rfl⟩
       rw [Nat.zero_add, Nat.zero_add]
       have hxi : i < xs.length := by omega
       have hb1 : Blk (W.drew.setCells g (i + 1) (xs.drop i)) g 9 (putIn cs (i + 1) (xs.drop i)) := Blk.setIn _ _ _ _ (blk_heap hb rfl)
       have hb2 := Blk.setIn [.string v] i _ _ hb1
       have e1 : putIn cs (i + 1) (xs.drop i) = xs.take i ++ [xs[i]] ++ xs.drop i ++ rest := by
        have h9 := putIn_mid (xs.drop i) (xs.take i ++ [xs[i]]) (xs.drop (i + 1) ++ [u0]) rest (by rw [List.length_append, List.length_drop, List.length_drop, List.length_singleton]; omega)
        rw [List.length_append, hti, List.length_singleton] at h9
        have h10 : cs = xs.take i ++ [xs[i]] ++ (xs.drop (i + 1) ++ [u0]) ++ rest := by
         refine hcs.trans ?_
         have h11 := congrArg (· ++ u0 :: rest) (cut_at hxi)
         refine h11.trans ?_
         simp only [List.append_assoc, List.cons_append, List.nil_append]
        rw [← h10] at h9
        exact h9
       have e2 : putIn (putIn cs (i + 1) (xs.drop i)) i [Value.string v] = xs.take i ++ [Value.string v] ++ (xs.drop i ++ rest) := by
        have h9 := putIn_mid [.string v] (xs.take i) [xs[i]] (xs.drop i ++ rest) rfl
        rw [hti] at h9
        rw [← h9, e1, List.append_assoc (xs.take i ++ [xs[i]])]
       rw [e2] at hb2
       have hcl2 : (xs.take i ++ [Value.string v] ++ (xs.drop i ++ rest)).length = c := by
        have h5 := congrArg List.length hcs
        rw [List.length_append, List.length_cons] at h5
        rw [← List.append_assoc, List.length_append, hmapl]
        omega
       rw [← hlen]
       exact tags_of hL hb2 hNg (by omega) hcm hcl2 (by rw [hmap, ← List.append_assoc, hlen, ← hmapl, List.take_left]) (hfrm _ fun b hbn => (setCells_far _ _ _ b hbn).trans (setCells_far _ _ _ b hbn)) (setCells_below hNg _ _ _ (setCells_below hNg _ _ _ (Below.refl N W).drew))
     · obtain rfl : i = l.length := by omega
       have h := Any2.slices_Insert_string_end_room Tryz.insertT g 0 l.length c vb 0 1 1 [.string v] W (by omega) hroom (by unfold maxLen at hcm; omega) rfl (fun j hj => by rw [Nat.zero_add]; exact hsome _ (by omega)) (fun j _ => blk_frozen hb _) hvs (one_string v)
       refine h.mono ?_
       rintro e W' ⟨rfl, rfl⟩
       rw [Nat.zero_add]
       have hb2 := Blk.setIn [.string v] l.length _ _ hb
       have e2 : putIn cs l.length [Value.string v] = xs ++ [Value.string v] ++ rest := by
        have h9 := putIn_mid [Value.string v] xs [u0] rest rfl
        rw [hml] at h9
        rw [← h9, hcs]
        simp only [List.append_assoc, List.cons_append, List.nil_append]
       rw [e2] at hb2
       rw [← hlen]
       refine tags_of hL hb2 hNg (by omega) hcm ?_ ?_ (hfrm _ fun b hbn => setCells_far _ _ _ b hbn) (setCells_below hNg _ _ _ (Below.refl N W))
       · have h5 := congrArg List.length hcs
         rw [List.length_append, List.length_cons] at h5
         rw [List.length_append, List.length_append, List.length_singleton]
         omega
       · rw [hmap, ← hml, List.take_length, List.drop_length, List.append_nil, hlen, ← hml]
         rw [show xs.length + 1 = (xs ++ [Value.string v]).length by simp, List.take_left]
 · have hnc : l.length ≤ c := by
    obtain ⟨_, ⟨hv2, h0⟩ | ⟨g, cap, cur, hv2, _, _, h3, _⟩⟩ := id hown
    · omega
    · injection hv2 with e1 e2 e3
      omega
   have hge := grownCap_ge W (l.length + 1) c 9
   have hle := grownCap_le_maxLen W (l.length + 1) c 9 (by unfold maxLen; omega)
   have hcellA : ∀ a, A = some a → a = ⟨a.block, 0, none⟩ ∧ ∀ j u, xs[j]? = some u → W.cell? ⟨a.block, j, none⟩ = some u := fun a ha => by
    obtain ⟨_, ⟨hv2, _⟩ | ⟨g, cap, cur, hv2, hg2, hb2, h3, h4, h5, h6⟩⟩ := id hown
    · injection hv2 with e1
      rw [ha] at e1
      cases e1
    · injection hv2 with e1 e2 e3
      rw [ha] at e1
      injection e1 with e1
      subst e1
      refine ⟨rfl, fun j u h => ?_⟩
      rw [cell_of_row W g j _ _ _ hb2]
      rw [← h6, Nat.mul_one] at h
      have h8 := (List.getElem?_eq_some_iff.1 h).1
      rw [List.length_take] at h8
      rw [List.getElem?_take_of_lt (by omega)] at h
      simpa using h
   by_cases hin : i < l.length
   · obtain ⟨a, ha⟩ : ∃ a, A = some a := by
      obtain ⟨_, ⟨hv2, h0⟩ | ⟨g, cap, cur, hv2, _⟩⟩ := id hown
      · omega
      · injection hv2 with e1
        exact ⟨_, e1⟩
     obtain ⟨ea, hca⟩ := hcellA a ha
     rw [ea] at ha
     rw [ha]
     have h := Any2.slices_Insert_string_grow Tryz.insertT a.block 0 l.length c i vb 0 1 1 xs [.string v] W hin (by omega) hnc (by omega) (by omega) hml rfl (fun j u h => by rw [Nat.zero_add]; exact hca j u h) hvs h1x (one_string v)
     refine h.mono ?_
     rintro e W' ⟨rfl, hW'⟩
     have hW' : W' = (((W.alloc (.cells ((xs.take i).toArray ++ Builtin.zeroCells (Value.string ⟨#[]⟩).cells (l.length + 1 - i) ++ Builtin.zeroCells (Value.string ⟨#[]⟩).cells (grownCap W (l.length + 1) c 9 - (l.length + 1))) 9)).drew.setCells W.heap.size i [.string v]).drew).setCells W.heap.size (i + 1) (xs.drop i) := hW'
     show ∃ T : Sl ByteArray, Ending.returned (.slice (some ⟨W.heap.size, 0, none⟩) (l.length + 1) (grownCap W (l.length + 1) c 9)) = .returned T.val ∧ _
     obtain ⟨cap, hcap⟩ : ∃ cap, grownCap W (l.length + 1) c 9 = cap := ⟨_, rfl⟩
     rw [hcap] at hge hle hW' ⊢
     obtain ⟨Z1, hZ1⟩ : ∃ Z1, (Builtin.zeroCells (Value.string ⟨#[]⟩).cells (l.length + 1 - i)).toList = Z1 := ⟨_, rfl⟩
     obtain ⟨Z2, hZ2⟩ : ∃ Z2, (Builtin.zeroCells (Value.string ⟨#[]⟩).cells (cap - (l.length + 1))).toList = Z2 := ⟨_, rfl⟩
     have hl1 : Z1.length = l.length + 1 - i := by rw [← hZ1, Array.length_toList, zc_len]
     have hl2 : Z2.length = cap - (l.length + 1) := by rw [← hZ2, Array.length_toList, zc_len]
     obtain ⟨z0, Z3, hZ3⟩ : ∃ z0 Z3, Z1 = z0 :: Z3 := by
      rcases Z1 with _ | ⟨p, q⟩
      · simp at hl1
        omega
      · exact ⟨p, q, rfl⟩
     have hl3 : Z3.length = l.length - i := by rw [hZ3, List.length_cons] at hl1; omega
     have hA1 : (xs.take i).toArray ++ Builtin.zeroCells (Value.string ⟨#[]⟩).cells (l.length + 1 - i) ++ Builtin.zeroCells (Value.string ⟨#[]⟩).cells (cap - (l.length + 1)) = (xs.take i ++ Z1 ++ Z2).toArray := by
      rw [← hZ1, ← hZ2, ← Array.toList_inj]
      simp only [Array.toList_append]
     rw [hA1] at hW'
     have hb0 : Blk (W.alloc (.cells (xs.take i ++ Z1 ++ Z2).toArray 9)) W.heap.size 9 (xs.take i ++ Z1 ++ Z2) := Blk.new W _ _
     have hb1 := Blk.setIn (g := W.heap.size) [.string v] i _ _ (blk_heap (W' := (W.alloc (.cells (xs.take i ++ Z1 ++ Z2).toArray 9)).drew) hb0 rfl)
     have hb2 := Blk.setIn (g := W.heap.size) (xs.drop i) (i + 1) _ _ (blk_heap (W' := ((W.alloc (.cells (xs.take i ++ Z1 ++ Z2).toArray 9)).drew.setCells W.heap.size i [.string v]).drew) hb1 rfl)
     rw [← hW'] at hb2
     have e1 : putIn (xs.take i ++ Z1 ++ Z2) i [Value.string v] = xs.take i ++ [Value.string v] ++ (Z3 ++ Z2) := by
      have h9 := putIn_mid [Value.string v] (xs.take i) [z0] (Z3 ++ Z2) rfl
      rw [hti] at h9
      rw [← h9, hZ3]
      simp only [List.append_assoc, List.cons_append, List.nil_append]
     have e2 : putIn (xs.take i ++ [Value.string v] ++ (Z3 ++ Z2)) (i + 1) (xs.drop i) = xs.take i ++ [Value.string v] ++ xs.drop i ++ Z2 := by
      have h9 := putIn_mid (xs.drop i) (xs.take i ++ [Value.string v]) Z3 Z2 (by rw [List.length_drop]; omega)
      rw [List.length_append, hti, List.length_singleton] at h9
      rw [← h9]
      simp only [List.append_assoc, List.cons_append, List.nil_append]
     rw [e1, e2] at hb2
     have hBW : Below W.heap.size W W' := by
      rw [hW']
      exact setCells_below (Nat.le_refl _) _ _ _ (setCells_below (Nat.le_refl _) _ _ _ ((Below.refl _ W).alloc (Nat.le_refl _) _).drew).drew
     rw [← hlen]
     exact tags_of hL hb2 hN (by omega) hle (by rw [List.length_append, hmapl]; omega) (by rw [hmap, hlen, ← hmapl, List.take_left]) (fun b hb _ => hBW.block b hb) (hBW.mono hN)
   · obtain rfl : i = l.length := by omega
     have h := Any2.slices_Insert_string_end_grow Tryz.insertT A l.length c vb 0 1 1 xs [.string v] W (by omega) hnc (by omega) (by omega) hml rfl (fun e => by
      obtain ⟨_, ⟨hv2, h0⟩ | ⟨g, cap, cur, hv2, _⟩⟩ := id hown
      · exact h0
      · injection hv2 with e1
        rw [e] at e1
        cases e1) (fun a ha j u h => by
      obtain ⟨ea, hca⟩ := hcellA a ha
      rw [ea, Addr.add_lit, Nat.zero_add]
      exact hca j u h) hvs (one_string v)
     refine h.mono ?_
     rintro e W' ⟨rfl, hW'⟩
     have hW' : W' = W.drew.alloc (.cells ((xs ++ [Value.string v]).toArray ++ Builtin.zeroCells (Value.string ⟨#[]⟩).cells (grownCap W (l.length + 1) c 9 - (l.length + 1))) 9) := hW'
     show ∃ T : Sl ByteArray, Ending.returned (.slice (some ⟨W.heap.size, 0, none⟩) (l.length + 1) (grownCap W (l.length + 1) c 9)) = .returned T.val ∧ _
     obtain ⟨cap, hcap⟩ : ∃ cap, grownCap W (l.length + 1) c 9 = cap := ⟨_, rfl⟩
     rw [hcap] at hge hle hW' ⊢
     obtain ⟨Z2, hZ2⟩ : ∃ Z2, (Builtin.zeroCells (Value.string ⟨#[]⟩).cells (cap - (l.length + 1))).toList = Z2 := ⟨_, rfl⟩
     have hl2 : Z2.length = cap - (l.length + 1) := by rw [← hZ2, Array.length_toList, zc_len]
     have hA1 : (xs ++ [Value.string v]).toArray ++ Builtin.zeroCells (Value.string ⟨#[]⟩).cells (cap - (l.length + 1)) = (xs ++ [Value.string v] ++ Z2).toArray := by
      rw [← hZ2, ← Array.toList_inj]
      simp only [Array.toList_append]
     rw [hA1] at hW'
     have hb2 : Blk W' W.heap.size 9 (xs ++ [Value.string v] ++ Z2) := by
      rw [hW']
      exact Blk.new W.drew _ _
     have hBW : Below W.heap.size W W' := by
      rw [hW']
      exact ((Below.refl _ W).drew).alloc (Nat.le_refl _) _
     rw [← hlen]
     refine tags_of hL hb2 hN (by omega) hle ?_ ?_ (fun b hb _ => hBW.block b hb) (hBW.mono hN)
     · rw [List.length_append, List.length_append, List.length_singleton]
       omega
     · rw [hmap, ← hml, List.take_length, List.drop_length, List.append_nil, hlen, ← hml]
       rw [show xs.length + 1 = (xs ++ [Value.string v]).length by simp, List.take_left]
theorem strs_map (l : List ByteArray) : (Lib.strsOf (fun t => l[t]?.getD ByteArray.empty) l.length) = l.map fun s : ByteArray => s.data.toList := by
 unfold Lib.strsOf
 refine List.ext_getElem (by simp) fun i h1 h2 => ?_
 simp at h1
 simp [h1]
theorem belowDN {N : Nat} {w W : World} (h : Below N w W) : ∀ q, Below N w (W.drewN q) := fun _q => h.trans ⟨rfl, rfl, rfl, Nat.le_refl _, fun _ _ => rfl⟩
theorem delete18_any (N : Nat) (A : Option Addr) (c : Nat) (l : List ByteArray) (i : Nat) (W : World) (hown : W.ownsRow N 9 1 (.slice A l.length c) l.length (l.map Value.string)) (hi : i < l.length) :
 Calls Tryz.prog 79 #[.slice A l.length c, .int .i64 i, .int .i64 ((i + 1 : Nat) : Int)] W fun e W' => ∃ T : Sl ByteArray, e = .returned T.val ∧ T.l = l.take i ++ l.drop (i + 1) ∧ W'.ownsRow N 9 1 T.val T.l.length (T.l.flatMap fun s => [Value.string s]) ∧ (∀ b, b < W.heap.size → some b ≠ (Value.slice A l.length c).ownBlock → W'.heap[b]? = W.heap[b]?) ∧ Below N W W' := by
 obtain ⟨_, ⟨hv2, h0⟩ | ⟨g, cap, cur, hv2, _⟩⟩ := id hown
 · omega
 · injection hv2 with e1 e2 e3
   subst e1 e3
   obtain ⟨hNg, hnc, hcm, cs, hb, hcl, hct⟩ := blk_of_row hown
   have hcs : cs = l.map Value.string ++ cs.drop l.length := by rw [← hct, List.take_append_drop]
   have hcell : ∀ j, j < l.length → W.cell? ⟨g, 0 + j, none⟩ = some (.string (l[j]?.getD ByteArray.empty)) := fun j h => by
    rw [Nat.zero_add, hb.cell j, hcs, List.getElem?_append_left (by rw [List.length_map]; exact h), List.getElem?_map, qZa h]
    rfl
   have h := Any.slices_Delete_string_cells Tryz.laysNm224 g 0 l.length c i (i + 1) (fun t => l[t]?.getD ByteArray.empty) W hnc (by unfold maxLen at hcm; omega) (by omega) (by omega) hcell (fun j _ => blk_frozen hb _)
   rw [strs_map] at h
   refine h.mono ?_
   rintro e W' ⟨rfl, q, rfl⟩
   have hvs : ((l.map fun s : ByteArray => s.data.toList).take i ++ (l.map fun s : ByteArray => s.data.toList).drop (i + 1) ++ List.replicate (i + 1 - i) []).map encStr = (l.take i ++ l.drop (i + 1)).map Value.string ++ [Value.string ⟨#[]⟩] := by
    rw [show i + 1 - i = 1 by omega, List.map_append, List.map_append, ← List.map_take, ← List.map_drop, List.map_map, List.map_map, List.map_append]
    rfl
   rw [hvs]
   obtain ⟨L, hL⟩ : ∃ L, L = l.take i ++ l.drop (i + 1) := ⟨_, rfl⟩
   rw [← hL]
   have hlen : L.length + 1 = l.length := by
    rw [hL, List.length_append, List.length_take, List.length_drop]
    omega
   have hb2 := Blk.setIn (g := g) (L.map Value.string ++ [Value.string ⟨#[]⟩]) 0 _ _ (blk_heap (W' := W.drewN q) hb rfl)
   have e2 : putIn cs 0 (L.map Value.string ++ [Value.string ⟨#[]⟩]) = L.map Value.string ++ [Value.string ⟨#[]⟩] ++ cs.drop l.length := by
    have h9 := putIn_mid (L.map Value.string ++ [Value.string ⟨#[]⟩]) [] (l.map Value.string) (cs.drop l.length) (by rw [List.length_append, List.length_map, List.length_map, List.length_singleton]; exact hlen.symm)
    rw [List.length_nil, List.nil_append, ← hcs, List.nil_append] at h9
    exact h9
   rw [e2] at hb2
   rw [show l.length - (i + 1 - i) = L.length by omega]
   have hLc : L.length ≤ c := by omega
   refine ⟨⟨some ⟨g, 0, none⟩, L, c⟩, rfl, rfl, row_of_blk hb2 hNg hLc hcm ?_ ?_, fun b _ hbn => setCells_far _ _ _ b (fun e => hbn (by rw [e]; rfl)), setCells_below hNg _ _ _ (belowDN (Below.refl N W) q)⟩
   · show _ = c
     rw [List.length_append, List.length_append, List.length_map, List.length_singleton, List.length_drop, hcl]
     omega
   · rw [List.append_assoc, show L.length = (L.map Value.string).length by rw [List.length_map], List.take_left]
set_option maxHeartbeats 4000000
def holdE (g : ByteArray) (l : List ByteArray) : Int := if hasT g l = true then 6 else if 4 ≤ l.length then 3 else 0
def relE (g : ByteArray) (l : List ByteArray) : Int := if hasT g l = true then 0 else 71
theorem cell_same {W W' : World} {b i : Nat} (h : W'.heap[b]? = W.heap[b]?) : W'.cell? ⟨b, i, none⟩ = W.cell? ⟨b, i, none⟩ := by
 unfold World.cell?
 rw [h]
def TagDid (N : Nat) (W' : World) (y : MT_) (j : Nat) (t : MSet) (k : Nat) (z : Mna) (E : Int) (L : List ByteArray) : Prop := ∃ z' : Mna, E = 0 → z'.plain = { z.plain with u_ := L } ∧ OwnTe N W' (putSe y j (putSn t k z')) ∧ (putSe y j (putSn t k z')).Good W'
theorem frozen_same {W W' : World} {b i : Nat} (h : W'.heap[b]? = W.heap[b]?) : W'.frozen? ⟨b, i, none⟩ = W.frozen? ⟨b, i, none⟩ := by
 unfold World.frozen?
 rw [h]
theorem hold1_any (tg : ByteArray) (htz : tg.size ≤ 140737488351232) (BT : Nat) (W : World) (N g j k : Nat) (y : MT_) (t : MSet) (z : Mna) (hN : N ≤ W.heap.size) (ho : OwnTe N W y) (hgy : y.Good W) (hX : SepX y) (hj : y.y_.l[j]? = some t) (hA : t.n_.A = some ⟨g, 0, none⟩) (hk : t.n_.l[k]? = some z) (htg : tagsB z.u_.l = true) (hng : N ≤ g) (hBT : BT < N) (cT : W.cell? ⟨BT, 0, none⟩ = some (.string tg)) :
 Calls Tryz.prog 75 (#[.pointer (some ⟨g, k * 5, none⟩)] ++ #[.pointer (some ⟨BT, 0, none⟩)]) W fun e2 W' => e2 = .returned (.int .i64 (holdE tg z.u_.l)) ∧ TagDid N W' y j t k z (holdE tg z.u_.l) (holdT tg z.u_.l) ∧ Below N W W' := by
 have zown := (ho.eset t (mG hj)).each z (mG hk)
 have htn := (tagsB_parts.1 htg)
 have hr := htn.1.2
 have hl4 := htn.2
 have hrow := (ho.eset t (mG hj)).snaps
 unfold Sl.val at hrow
 rw [hA] at hrow
 have cf := zcQ hrow (k * 5 + 3)
 obtain ⟨b, off, hA2, hbl, hcc⟩ := Rd.elem (n := 5) (fun _ => rfl) (by omega) (hgy.w_.el t (mG hj)).f_.rd hk
 rw [hA] at hA2
 injection hA2 with hA2
 injection hA2 with e1 e2
 subst e1 e2
 have c0 : W.cell? ⟨g, k * 5 + 3, none⟩ = some (.slice z.u_.A z.u_.l.length z.u_.c) := by
  have := hcc 3 _ rfl
  rwa [Nat.zero_add] at this
 have hkl : k < t.n_.l.length := (List.getElem?_eq_some_iff.1 hk).1
 have hsnl := (hgy.w_.el t (mG hj)).f_.len
 have htrow : W.ownsRow N 9 1 (.slice z.u_.A z.u_.l.length z.u_.c) z.u_.l.length (z.u_.l.map Value.string) := by
  have h9 := zown.tags
  rwa [flatT'] at h9
 have htrd : Rd W z.u_.A (z.u_.l.map Value.string) := by
  obtain ⟨A9, c9, hv9, _, _, h9, _⟩ := ownAny htrow
  injection hv9 with e1
  subst e1
  exact h9.1
 have HSE := zI (fun V (hV : Below W.heap.size W V) => search18_any z.u_.A z.u_.c z.u_.l hr hl4 tg V (htrd.below hV))
 have HO := zI ho
 have HG := zI hgy
 have HX := zI hX
 have HJ := zI hj
 have HK := zI hk
 have HA := zI hA
 have HR := zI hr
 have HROW := zI hrow
 have HTR := zI htrow
 have hBW : BT < W.heap.size := by omega
 obtain ⟨PO, hPO⟩ : ∃ PO, posT tg z.u_.l = PO := ⟨_, rfl⟩
 obtain ⟨HS, hHS⟩ : ∃ HS, hasT tg z.u_.l = HS := ⟨_, rfl⟩
 have HPO := zI hPO
 have HHS := zI hHS
 rw [hPO, hHS] at HSE
 clear zown htn hr hrow hcc ho hgy hX hj hk hA htg htrow htrd hPO
 obtain ⟨EV, hEV⟩ : ∃ EV, holdE tg z.u_.l = EV := ⟨_, rfl⟩
 rw [hEV]
 rcases HS with _ | _
 · by_cases h4 : 4 ≤ z.u_.l.length
   · obtain rfl : EV = 3 := by rw [← hEV]; unfold holdE; rw [hHS, if_pos h4]; rfl
     have h4' : decide ((4 : Int) ≤ (z.u_.l.length : Int)) = true := decide_eq_true (by omega)
     have h4n : decide (4 ≤ z.u_.l.length) = true := decide_eq_true h4
     clear hEV hHS h4
     go_enter Tryz.func75, Tryz.ntmps75
     go_upto_region 1 with fail
     refine wp_region_noPanic ?_
     refine zcX 10 (fun V => V.cell? ⟨g, k * 5 + 3, none⟩ = some (.slice z.u_.A z.u_.l.length z.u_.c) ∧ V.cell? ⟨BT, 0, none⟩ = some (.string tg)) (by kernel_rfl) ⟨c0, cT⟩ (fun hHeld => ?_)
     refine tkA 16 (i := 0) (oi := ⟨some 7, _, _, _, _, _⟩) rfl hHeld ?_
     try simp only [zP]
     refine tkA 16 (i := 1) (oi := ⟨some 8, _, _, _, _, _⟩) rfl hHeld ?_
     try simp only [zP]
     refine tkA 16 (i := 2) (oi := ⟨some 9, _, _, _, _, _⟩) rfl hHeld ?_
     try simp only [zP]
     refine tkA 16 (i := 3) (oi := ⟨some 10, _, _, _, _, _⟩) rfl hHeld ?_
     try simp only [zP]
     refine tkA 16 (i := 4) (oi := ⟨some 11, _, _, _, _, _⟩) rfl hHeld ?_
     try simp only [zP]
     clear hHeld
     refine zdZ 16 6 0 [(5, 12), (6, 6), (7, 13), (8, 14), (9, 4), (10, 5)] (fun s v w => match s with
      | 12 => v = .tuple #[.int .i64 PO, .bool false]
      | 6 => v = .tuple #[.int .i64 PO, .bool false]
      | 13 => v = .int .i64 PO
      | 14 => v = .bool false
      | 4 => v = .int .i64 PO
      | 5 => v = .bool false
      | _ => True) (fun w w' => Below w.heap.size w w') (by kernel_rfl) (by kernel_rfl) bZh ⟨?_, ?_, ?_, ?_, ?_, ?_, trivial⟩ (fun w' hB => ⟨(hB.cell (p := ⟨g, k * 5 + 3, none⟩) hbl).trans c0, (hB.cell (p := ⟨BT, 0, none⟩) hBW).trans cT⟩) ⟨?_, ?_, ?_, ?_, ?_, ?_, trivial⟩ ?_
     focus
      intro v w w' h hB
      exact h
     focus
      intro v w w' h hB
      exact h
     focus
      intro v w w' h hB
      exact h
     focus
      intro v w w' h hB
      exact h
     focus
      intro v w w' h hB
      exact h
     focus
      intro v w w' h hB
      exact h
     focus
      intro vs w2 hBf hFf o ho K hK
      obtain rfl : (⟨some 12, _, _, _, _, _⟩ : Oper) = o := Option.some.inj ho
      clear ho
      (try simp only [fillL, zQ, zP] at hK ⊢)
      go_simp
      refine (HSE.out w2 ((Below.refl W.heap.size W).drew.trans hBf)).mono ?_
      rintro e w4 ⟨rfl, q4, rfl⟩
      exact hK.out _ _ ⟨rfl, belowDN (Below.refl _ _) q4⟩
     focus
      intro vs w2 hBf hFf o ho K hK
      obtain rfl : (⟨some 6, _, _, _, _, _⟩ : Oper) = o := Option.some.inj ho
      clear ho
      (try simp only [fillL, zQ, zP] at hK ⊢)
      have e12 := (hFf (5, 12) (by simp) (by kernel_rfl))
      simp only [] at e12
      simp only [e12] at hK ⊢
      go_simp
      exact hK.out _ _ ⟨rfl, Below.refl _ _⟩
     focus
      intro vs w2 hBf hFf o ho K hK
      obtain rfl : (⟨some 13, _, _, _, _, _⟩ : Oper) = o := Option.some.inj ho
      clear ho
      (try simp only [fillL, zQ, zP] at hK ⊢)
      have e6 := (hFf (6, 6) (by simp) (by kernel_rfl))
      simp only [] at e6
      simp only [e6] at hK ⊢
      go_simp
      exact hK.out _ _ ⟨rfl, Below.refl _ _⟩
     focus
      intro vs w2 hBf hFf o ho K hK
      obtain rfl : (⟨some 14, _, _, _, _, _⟩ : Oper) = o := Option.some.inj ho
      clear ho
      (try simp only [fillL, zQ, zP] at hK ⊢)
      have e6 := (hFf (6, 6) (by simp) (by kernel_rfl))
      simp only [] at e6
      simp only [e6] at hK ⊢
      go_simp
      exact hK.out _ _ ⟨rfl, Below.refl _ _⟩
     focus
      intro vs w2 hBf hFf o ho K hK
      obtain rfl : (⟨some 4, _, _, _, _, _⟩ : Oper) = o := Option.some.inj ho
      clear ho
      (try simp only [fillL, zQ, zP] at hK ⊢)
      have e13 := (hFf (7, 13) (by simp) (by kernel_rfl))
      simp only [] at e13
      simp only [e13] at hK ⊢
      go_simp
      exact hK.out _ _ ⟨rfl, Below.refl _ _⟩
     focus
      intro vs w2 hBf hFf o ho K hK
      obtain rfl : (⟨some 5, _, _, _, _, _⟩ : Oper) = o := Option.some.inj ho
      clear ho
      (try simp only [fillL, zQ, zP] at hK ⊢)
      have e14 := (hFf (8, 14) (by simp) (by kernel_rfl))
      simp only [] at e14
      simp only [e14] at hK ⊢
      go_simp
      exact hK.out _ _ ⟨rfl, Below.refl _ _⟩
     intro vs w2 hBf hFf
     (try simp only [fillL, zQ, zP])
     have e4 := (hFf (9, 4) (by simp))
     have e5 := (hFf (10, 5) (by simp))
     simp only [] at e4 e5
     simp only [e4, e5]
     have hB2 : Below W.heap.size W w2 := (Below.refl W.heap.size W).drew.trans hBf
     refine zdQ (by kernel_rfl) ?_ _
     refine NoPanic.normal ?_
     obtain ⟨v2, hv2⟩ : ∃ v, v = w2 := ⟨_, rfl⟩
     subst hv2
     have hs2 := hB2.size
     have d0 := (hB2.cell (p := ⟨g, k * 5 + 3, none⟩) hbl).trans c0
     have dT := (hB2.cell (p := ⟨BT, 0, none⟩) hBW).trans cT
     have df := (hB2.frozen (p := ⟨g, k * 5 + 3, none⟩) hbl).trans cf
     have hbl2 : g < v2.heap.size := Nat.lt_of_lt_of_le hbl hs2
     have hBW2 : BT < v2.heap.size := by omega
     clear c0 cT cf hBf hFf HSE e4 e5
     go_wp2
     go_ret
     exact ⟨rfl, ⟨z, fun h => absurd h (by decide)⟩, hB2.mono hN⟩
   · obtain rfl : EV = 0 := by rw [← hEV]; unfold holdE; rw [hHS, if_neg h4]; rfl
     have h4' : decide ((4 : Int) ≤ (z.u_.l.length : Int)) = false := decide_eq_false (by omega)
     have h4n : decide (4 ≤ z.u_.l.length) = false := decide_eq_false h4
     have HN := zI hHS
     clear hEV hHS h4
     go_enter Tryz.func75, Tryz.ntmps75
     go_upto_region 1 with fail
     refine wp_region_noPanic ?_
     refine zcX 10 (fun V => V.cell? ⟨g, k * 5 + 3, none⟩ = some (.slice z.u_.A z.u_.l.length z.u_.c) ∧ V.cell? ⟨BT, 0, none⟩ = some (.string tg)) (by kernel_rfl) ⟨c0, cT⟩ (fun hHeld => ?_)
     refine tkA 16 (i := 0) (oi := ⟨some 7, _, _, _, _, _⟩) rfl hHeld ?_
     try simp only [zP]
     refine tkA 16 (i := 1) (oi := ⟨some 8, _, _, _, _, _⟩) rfl hHeld ?_
     try simp only [zP]
     refine tkA 16 (i := 2) (oi := ⟨some 9, _, _, _, _, _⟩) rfl hHeld ?_
     try simp only [zP]
     refine tkA 16 (i := 3) (oi := ⟨some 10, _, _, _, _, _⟩) rfl hHeld ?_
     try simp only [zP]
     refine tkA 16 (i := 4) (oi := ⟨some 11, _, _, _, _, _⟩) rfl hHeld ?_
     try simp only [zP]
     clear hHeld
     refine zdZ 16 6 0 [(5, 12), (6, 6), (7, 13), (8, 14), (9, 4), (10, 5)] (fun s v w => match s with
      | 12 => v = .tuple #[.int .i64 PO, .bool false]
      | 6 => v = .tuple #[.int .i64 PO, .bool false]
      | 13 => v = .int .i64 PO
      | 14 => v = .bool false
      | 4 => v = .int .i64 PO
      | 5 => v = .bool false
      | _ => True) (fun w w' => Below w.heap.size w w') (by kernel_rfl) (by kernel_rfl) bZh ⟨?_, ?_, ?_, ?_, ?_, ?_, trivial⟩ (fun w' hB => ⟨(hB.cell (p := ⟨g, k * 5 + 3, none⟩) hbl).trans c0, (hB.cell (p := ⟨BT, 0, none⟩) hBW).trans cT⟩) ⟨?_, ?_, ?_, ?_, ?_, ?_, trivial⟩ ?_
     focus
      intro v w w' h hB
      exact h
     focus
      intro v w w' h hB
      exact h
     focus
      intro v w w' h hB
      exact h
     focus
      intro v w w' h hB
      exact h
     focus
      intro v w w' h hB
      exact h
     focus
      intro v w w' h hB
      exact h
     focus
      intro vs w2 hBf hFf o ho K hK
      obtain rfl : (⟨some 12, _, _, _, _, _⟩ : Oper) = o := Option.some.inj ho
      clear ho
      (try simp only [fillL, zQ, zP] at hK ⊢)
      go_simp
      refine (HSE.out w2 ((Below.refl W.heap.size W).drew.trans hBf)).mono ?_
      rintro e w4 ⟨rfl, q4, rfl⟩
      exact hK.out _ _ ⟨rfl, belowDN (Below.refl _ _) q4⟩
     focus
      intro vs w2 hBf hFf o ho K hK
      obtain rfl : (⟨some 6, _, _, _, _, _⟩ : Oper) = o := Option.some.inj ho
      clear ho
      (try simp only [fillL, zQ, zP] at hK ⊢)
      have e12 := (hFf (5, 12) (by simp) (by kernel_rfl))
      simp only [] at e12
      simp only [e12] at hK ⊢
      go_simp
      exact hK.out _ _ ⟨rfl, Below.refl _ _⟩
     focus
      intro vs w2 hBf hFf o ho K hK
      obtain rfl : (⟨some 13, _, _, _, _, _⟩ : Oper) = o := Option.some.inj ho
      clear ho
      (try simp only [fillL, zQ, zP] at hK ⊢)
      have e6 := (hFf (6, 6) (by simp) (by kernel_rfl))
      simp only [] at e6
      simp only [e6] at hK ⊢
      go_simp
      exact hK.out _ _ ⟨rfl, Below.refl _ _⟩
     focus
      intro vs w2 hBf hFf o ho K hK
      obtain rfl : (⟨some 14, _, _, _, _, _⟩ : Oper) = o := Option.some.inj ho
      clear ho
      (try simp only [fillL, zQ, zP] at hK ⊢)
      have e6 := (hFf (6, 6) (by simp) (by kernel_rfl))
      simp only [] at e6
      simp only [e6] at hK ⊢
      go_simp
      exact hK.out _ _ ⟨rfl, Below.refl _ _⟩
     focus
      intro vs w2 hBf hFf o ho K hK
      obtain rfl : (⟨some 4, _, _, _, _, _⟩ : Oper) = o := Option.some.inj ho
      clear ho
      (try simp only [fillL, zQ, zP] at hK ⊢)
      have e13 := (hFf (7, 13) (by simp) (by kernel_rfl))
      simp only [] at e13
      simp only [e13] at hK ⊢
      go_simp
      exact hK.out _ _ ⟨rfl, Below.refl _ _⟩
     focus
      intro vs w2 hBf hFf o ho K hK
      obtain rfl : (⟨some 5, _, _, _, _, _⟩ : Oper) = o := Option.some.inj ho
      clear ho
      (try simp only [fillL, zQ, zP] at hK ⊢)
      have e14 := (hFf (8, 14) (by simp) (by kernel_rfl))
      simp only [] at e14
      simp only [e14] at hK ⊢
      go_simp
      exact hK.out _ _ ⟨rfl, Below.refl _ _⟩
     intro vs w2 hBf hFf
     (try simp only [fillL, zQ, zP])
     have e4 := (hFf (9, 4) (by simp))
     have e5 := (hFf (10, 5) (by simp))
     simp only [] at e4 e5
     simp only [e4, e5]
     have hB2 : Below W.heap.size W w2 := (Below.refl W.heap.size W).drew.trans hBf
     refine zdQ (by kernel_rfl) ?_ _
     refine NoPanic.normal ?_
     obtain ⟨v2, hv2⟩ : ∃ v, v = w2 := ⟨_, rfl⟩
     subst hv2
     have hs2 := hB2.size
     have d0 := (hB2.cell (p := ⟨g, k * 5 + 3, none⟩) hbl).trans c0
     have dT := (hB2.cell (p := ⟨BT, 0, none⟩) hBW).trans cT
     have df := (hB2.frozen (p := ⟨g, k * 5 + 3, none⟩) hbl).trans cf
     have hbl2 : g < v2.heap.size := Nat.lt_of_lt_of_le hbl hs2
     have hBW2 : BT < v2.heap.size := by omega
     clear c0 cT cf hBf hFf HSE e4 e5
     have HCU := zI (fun V => cloneU_any tg (by omega) V)
     go_upto_region 6 with fail
     refine wp_region_noPanic ?_
     refine zcX 12 (fun V => V.cell? ⟨g, k * 5 + 3, none⟩ = some (.slice z.u_.A z.u_.l.length z.u_.c) ∧ V.cell? ⟨BT, 0, none⟩ = some (.string tg)) (by kernel_rfl) ⟨d0, dT⟩ (fun hHeld => ?_)
     refine tkA 16 (i := 0) (oi := ⟨some 22, _, _, _, _, _⟩) rfl hHeld ?_
     try simp only [zP]
     refine tkA 16 (i := 1) (oi := ⟨some 23, _, _, _, _, _⟩) rfl hHeld ?_
     try simp only [zP]
     refine tkA 16 (i := 2) (oi := ⟨some 24, _, _, _, _, _⟩) rfl hHeld ?_
     try simp only [zP]
     refine tkA 16 (i := 3) (oi := ⟨some 25, _, _, _, _, _⟩) rfl hHeld ?_
     try simp only [zP]
     refine tkA 16 (i := 4) (oi := ⟨some 26, _, _, _, _, _⟩) rfl hHeld ?_
     try simp only [zP]
     refine tkA 16 (i := 5) (oi := ⟨some 27, _, _, _, _, _⟩) rfl hHeld ?_
     try simp only [zP]
     refine tkA 16 (i := 6) (oi := ⟨some 28, _, _, _, _, _⟩) rfl hHeld ?_
     try simp only [zP]
     clear hHeld
     refine zdZ 16 2 4 [(7, 29), (8, 30)] (fun s v w => match s with
      | 29 => v = .string tg
      | 30 => ∃ vb, v = .slice (some ⟨vb, 0, none⟩) 1 1 ∧ Blk w vb 9 [.string tg] ∧ v2.heap.size ≤ vb
      | _ => True) (fun w w' => Below w.heap.size w w') (by kernel_rfl) (by kernel_rfl) bZh ⟨?_, ?_, trivial⟩ (fun w' hB => ⟨(hB.cell (p := ⟨g, k * 5 + 3, none⟩) hbl2).trans d0, (hB.cell (p := ⟨BT, 0, none⟩) hBW2).trans dT⟩) ⟨?_, ?_, trivial⟩ ?_
     focus
      intro v w w' h hB
      exact h
     focus
      intro v w w' h hB
      exact (by obtain ⟨vb, e, hb, hle⟩ := h; exact ⟨vb, e, hb.below hB hb.lt, hle⟩)
     focus
      intro vs w2 hBf hFf o ho K hK
      obtain rfl : (⟨some 29, _, _, _, _, _⟩ : Oper) = o := Option.some.inj ho
      clear ho
      (try simp only [fillL, zQ, zP] at hK ⊢)
      go_simp
      refine (HCU.out w2).mono ?_
      rintro e w4 ⟨rfl, hB4⟩
      exact hK.out _ _ ⟨rfl, hB4⟩
     focus
      intro vs w2 hBf hFf o ho K hK
      obtain rfl : (⟨some 30, _, _, _, _, _⟩ : Oper) = o := Option.some.inj ho
      clear ho
      (try simp only [fillL, zQ, zP] at hK ⊢)
      have e29 := (hFf (7, 29) (by simp) (by kernel_rfl))
      simp only [] at e29
      simp only [e29] at hK ⊢
      go_simp
      refine hK.out _ _ ⟨⟨w2.heap.size, rfl, Blk.new w2 _ _, ((Below.refl v2.heap.size v2).drew.trans hBf).size⟩, (Below.refl _ w2).alloc (Nat.le_refl _) _⟩
     intro vs w2 hBf hFf
     (try simp only [fillL, zQ, zP])
     obtain ⟨vb, e30, hbv, hvle⟩ := (hFf (8, 30) (by simp))
     simp only [e30]
     have hBf3 : Below v2.heap.size v2 w2 := (Below.refl v2.heap.size v2).drew.trans hBf
     have hB3 := hBf3
     have hB13 := hB2.trans (hB3.mono hs2)
     have hs3 := hB13.size
     have hI := insert18_any N z.u_.A z.u_.c z.u_.l tg PO vb w2 (zgQ HTR.out hB13 (Nat.le_refl _)) hbv (fun a ha => by have h9 := (row_blk HTR.out ha).2.1; omega) (by rw [← HPO.out]; exact posT_le _ _) hl4 (Nat.le_trans hN hs3)
     have HI := zI hI
     have f0 := (hB3.frozen (p := ⟨g, k * 5 + 3, none⟩) hbl2).trans df
     have f1 := (hB3.cell (p := ⟨g, k * 5 + 3, none⟩) hbl2).trans d0
     have hgw : g < w2.heap.size := Nat.lt_of_lt_of_le hbl hs3
     have fT := (hB3.cell (p := ⟨BT, 0, none⟩) hBW2).trans dT
     clear hI hbv hFf hBf
     have hHeld : (fun V => V.cell? ⟨g, k * 5 + 3, none⟩ = some (.slice z.u_.A z.u_.l.length z.u_.c) ∧ V.cell? ⟨BT, 0, none⟩ = some (.string tg)) w2 := ⟨(hBf3.cell (p := ⟨g, k * 5 + 3, none⟩) hbl2).trans d0, (hBf3.cell (p := ⟨BT, 0, none⟩) hBW2).trans dT⟩
     refine zdX (i := 9) (o := ⟨some 31, _, _, _, _, _⟩) (by kernel_rfl) rfl (fun K hK => ?_)
     clear hHeld
     go_simp
     refine HI.out.mono ?_
     rintro e w5 ⟨T, rfl, hTl, hTo, hTf, hTB⟩
     have HTL := zI hTl
     clear hTl
     have hsame : w5.heap[g]? = w2.heap[g]? := hTf g hgw fun e => rows_ne (zgQ HTR.out hB13 (Nat.le_refl _)) (zgQ HROW.out hB13 (Nat.le_refl _)) (by decide) e.symm rfl
     have g0 := (frozen_same (i := k * 5 + 3) hsame).trans f0
     have g1 := (cell_same (i := k * 5 + 3) hsame).trans f1
     go_wp2_with fail
     refine hK.out _ _ ⟨g1, (hTB.cell (p := ⟨BT, 0, none⟩) hBT).trans fT⟩ (fun hHeld => ?_)
     clear hK K
     try simp only [zP]
     refine tkA 16 (i := 10) (oi := ⟨some 32, _, _, _, _, _⟩) rfl hHeld ?_
     try simp only [zP]
     refine tkA 16 (i := 11) (oi := ⟨some 33, _, _, _, _, _⟩) rfl hHeld ?_
     try simp only [zP]
     refine zcZ (i := 12) (o := ⟨none, _, _, _, _, _⟩) (by kernel_rfl) rfl (by kernel_rfl) (fun K hK => ?_)
     go_simp
     go_wp2_with fail
     refine hK.out _ _ ?_
     clear hK K
     try simp only [zP]
     refine zdQ (by kernel_rfl) ?_ _
     refine NoPanic.normal ?_
     obtain ⟨z', hz'⟩ : ∃ z' : Mna, z' = { z with u_ := T } := ⟨_, rfl⟩
     obtain ⟨hT7, hG7⟩ := (HO.out.below hB13).tagsAt (HG.out.below hB13) HX.out HJ.out HK.out HA.out hTf hTo (fun s hs => by
      rw [HTL.out] at hs
      have h9 := ((HG.out.w_.el t (mG HJ.out)).f_.el z (mG HK.out)).U_
      rcases List.mem_append.1 hs with h | h
      · exact h9.el s (List.mem_of_mem_take h)
      · rcases List.mem_cons.1 h with rfl | h
        · exact htz
        · exact h9.el s (List.mem_of_mem_drop h)) (by
      have h9 : T.l.length ≤ z.u_.l.length + 1 := by
       rw [HTL.out, List.length_append, List.length_cons, List.length_take, List.length_drop]
       omega
      omega) hz'
     have hBZ : Below N W (w5.setCell ⟨g, k * 5 + 3, none⟩ T.val) := ((hB13.mono hN).trans hTB).setCell (p := ⟨g, k * 5 + 3, none⟩) hng _
     have hpl : z'.plain = { z.plain with u_ := holdT tg z.u_.l } := by
      rw [hz']
      show ({ z.plain with u_ := T.l } : PS_) = _
      rw [HTL.out, hold_pos HN.out, HPO.out]
     have HT7 := zI hT7
     have HG7 := zI hG7
     have HBZ := zI hBZ
     have HPL := zI hpl
     clear hT7 hG7 hBZ hpl hTo hTf hTB hsame g0 g1 f0 f1 hz'
     go_wp2
     go_ret
     exact ⟨rfl, ⟨z', fun _ => ⟨HPL.out, HT7.out, HG7.out⟩⟩, HBZ.out⟩
 · obtain rfl : EV = 6 := by rw [← hEV]; unfold holdE; rw [hHS]; rfl
   clear hEV hHS
   go_enter Tryz.func75, Tryz.ntmps75
   go_upto_region 1 with fail
   refine wp_region_noPanic ?_
   refine zcX 10 (fun V => V.cell? ⟨g, k * 5 + 3, none⟩ = some (.slice z.u_.A z.u_.l.length z.u_.c) ∧ V.cell? ⟨BT, 0, none⟩ = some (.string tg)) (by kernel_rfl) ⟨c0, cT⟩ (fun hHeld => ?_)
   refine tkA 16 (i := 0) (oi := ⟨some 7, _, _, _, _, _⟩) rfl hHeld ?_
   try simp only [zP]
   refine tkA 16 (i := 1) (oi := ⟨some 8, _, _, _, _, _⟩) rfl hHeld ?_
   try simp only [zP]
   refine tkA 16 (i := 2) (oi := ⟨some 9, _, _, _, _, _⟩) rfl hHeld ?_
   try simp only [zP]
   refine tkA 16 (i := 3) (oi := ⟨some 10, _, _, _, _, _⟩) rfl hHeld ?_
   try simp only [zP]
   refine tkA 16 (i := 4) (oi := ⟨some 11, _, _, _, _, _⟩) rfl hHeld ?_
   try simp only [zP]
   clear hHeld
   refine zdZ 16 6 0 [(5, 12), (6, 6), (7, 13), (8, 14), (9, 4), (10, 5)] (fun s v w => match s with
    | 12 => v = .tuple #[.int .i64 PO, .bool true]
    | 6 => v = .tuple #[.int .i64 PO, .bool true]
    | 13 => v = .int .i64 PO
    | 14 => v = .bool true
    | 4 => v = .int .i64 PO
    | 5 => v = .bool true
    | _ => True) (fun w w' => Below w.heap.size w w') (by kernel_rfl) (by kernel_rfl) bZh ⟨?_, ?_, ?_, ?_, ?_, ?_, trivial⟩ (fun w' hB => ⟨(hB.cell (p := ⟨g, k * 5 + 3, none⟩) hbl).trans c0, (hB.cell (p := ⟨BT, 0, none⟩) hBW).trans cT⟩) ⟨?_, ?_, ?_, ?_, ?_, ?_, trivial⟩ ?_
   focus
    intro v w w' h hB
    exact h
   focus
    intro v w w' h hB
    exact h
   focus
    intro v w w' h hB
    exact h
   focus
    intro v w w' h hB
    exact h
   focus
    intro v w w' h hB
    exact h
   focus
    intro v w w' h hB
    exact h
   focus
    intro vs w2 hBf hFf o ho K hK
    obtain rfl : (⟨some 12, _, _, _, _, _⟩ : Oper) = o := Option.some.inj ho
    clear ho
    (try simp only [fillL, zQ, zP] at hK ⊢)
    go_simp
    refine (HSE.out w2 ((Below.refl W.heap.size W).drew.trans hBf)).mono ?_
    rintro e w4 ⟨rfl, q4, rfl⟩
    exact hK.out _ _ ⟨rfl, belowDN (Below.refl _ _) q4⟩
   focus
    intro vs w2 hBf hFf o ho K hK
    obtain rfl : (⟨some 6, _, _, _, _, _⟩ : Oper) = o := Option.some.inj ho
    clear ho
    (try simp only [fillL, zQ, zP] at hK ⊢)
    have e12 := (hFf (5, 12) (by simp) (by kernel_rfl))
    simp only [] at e12
    simp only [e12] at hK ⊢
    go_simp
    exact hK.out _ _ ⟨rfl, Below.refl _ _⟩
   focus
    intro vs w2 hBf hFf o ho K hK
    obtain rfl : (⟨some 13, _, _, _, _, _⟩ : Oper) = o := Option.some.inj ho
    clear ho
    (try simp only [fillL, zQ, zP] at hK ⊢)
    have e6 := (hFf (6, 6) (by simp) (by kernel_rfl))
    simp only [] at e6
    simp only [e6] at hK ⊢
    go_simp
    exact hK.out _ _ ⟨rfl, Below.refl _ _⟩
   focus
    intro vs w2 hBf hFf o ho K hK
    obtain rfl : (⟨some 14, _, _, _, _, _⟩ : Oper) = o := Option.some.inj ho
    clear ho
    (try simp only [fillL, zQ, zP] at hK ⊢)
    have e6 := (hFf (6, 6) (by simp) (by kernel_rfl))
    simp only [] at e6
    simp only [e6] at hK ⊢
    go_simp
    exact hK.out _ _ ⟨rfl, Below.refl _ _⟩
   focus
    intro vs w2 hBf hFf o ho K hK
    obtain rfl : (⟨some 4, _, _, _, _, _⟩ : Oper) = o := Option.some.inj ho
    clear ho
    (try simp only [fillL, zQ, zP] at hK ⊢)
    have e13 := (hFf (7, 13) (by simp) (by kernel_rfl))
    simp only [] at e13
    simp only [e13] at hK ⊢
    go_simp
    exact hK.out _ _ ⟨rfl, Below.refl _ _⟩
   focus
    intro vs w2 hBf hFf o ho K hK
    obtain rfl : (⟨some 5, _, _, _, _, _⟩ : Oper) = o := Option.some.inj ho
    clear ho
    (try simp only [fillL, zQ, zP] at hK ⊢)
    have e14 := (hFf (8, 14) (by simp) (by kernel_rfl))
    simp only [] at e14
    simp only [e14] at hK ⊢
    go_simp
    exact hK.out _ _ ⟨rfl, Below.refl _ _⟩
   intro vs w2 hBf hFf
   (try simp only [fillL, zQ, zP])
   have e4 := (hFf (9, 4) (by simp))
   have e5 := (hFf (10, 5) (by simp))
   simp only [] at e4 e5
   simp only [e4, e5]
   have hB2 : Below W.heap.size W w2 := (Below.refl W.heap.size W).drew.trans hBf
   refine zdQ (by kernel_rfl) ?_ _
   refine NoPanic.normal ?_
   obtain ⟨v2, hv2⟩ : ∃ v, v = w2 := ⟨_, rfl⟩
   subst hv2
   have hs2 := hB2.size
   have d0 := (hB2.cell (p := ⟨g, k * 5 + 3, none⟩) hbl).trans c0
   have dT := (hB2.cell (p := ⟨BT, 0, none⟩) hBW).trans cT
   have df := (hB2.frozen (p := ⟨g, k * 5 + 3, none⟩) hbl).trans cf
   have hbl2 : g < v2.heap.size := Nat.lt_of_lt_of_le hbl hs2
   have hBW2 : BT < v2.heap.size := by omega
   clear c0 cT cf hBf hFf HSE e4 e5
   go_wp2
   go_ret
   exact ⟨rfl, ⟨z, fun h => absurd h (by decide)⟩, hB2.mono hN⟩
theorem release1_any (tg : ByteArray) (BT : Nat) (W : World) (N g j k : Nat) (y : MT_) (t : MSet) (z : Mna) (hN : N ≤ W.heap.size) (ho : OwnTe N W y) (hgy : y.Good W) (hX : SepX y) (hj : y.y_.l[j]? = some t) (hA : t.n_.A = some ⟨g, 0, none⟩) (hk : t.n_.l[k]? = some z) (htg : tagsB z.u_.l = true) (hng : N ≤ g) (hBT : BT < N) (cT : W.cell? ⟨BT, 0, none⟩ = some (.string tg)) :
 Calls Tryz.prog 78 (#[.pointer (some ⟨g, k * 5, none⟩)] ++ #[.pointer (some ⟨BT, 0, none⟩)]) W fun e2 W' => e2 = .returned (.int .i64 (relE tg z.u_.l)) ∧ TagDid N W' y j t k z (relE tg z.u_.l) (freeT tg z.u_.l) ∧ Below N W W' := by
 have zown := (ho.eset t (mG hj)).each z (mG hk)
 have htn := (tagsB_parts.1 htg)
 have hr := htn.1.2
 have hl4 := htn.2
 have hrow := (ho.eset t (mG hj)).snaps
 unfold Sl.val at hrow
 rw [hA] at hrow
 have cf := zcQ hrow (k * 5 + 3)
 obtain ⟨b, off, hA2, hbl, hcc⟩ := Rd.elem (n := 5) (fun _ => rfl) (by omega) (hgy.w_.el t (mG hj)).f_.rd hk
 rw [hA] at hA2
 injection hA2 with hA2
 injection hA2 with e1 e2
 subst e1 e2
 have c0 : W.cell? ⟨g, k * 5 + 3, none⟩ = some (.slice z.u_.A z.u_.l.length z.u_.c) := by
  have := hcc 3 _ rfl
  rwa [Nat.zero_add] at this
 have hkl : k < t.n_.l.length := (List.getElem?_eq_some_iff.1 hk).1
 have hsnl := (hgy.w_.el t (mG hj)).f_.len
 have htrow : W.ownsRow N 9 1 (.slice z.u_.A z.u_.l.length z.u_.c) z.u_.l.length (z.u_.l.map Value.string) := by
  have h9 := zown.tags
  rwa [flatT'] at h9
 have htrd : Rd W z.u_.A (z.u_.l.map Value.string) := by
  obtain ⟨A9, c9, hv9, _, _, h9, _⟩ := ownAny htrow
  injection hv9 with e1
  subst e1
  exact h9.1
 have HSE := zI (fun V (hV : Below W.heap.size W V) => search18_any z.u_.A z.u_.c z.u_.l hr hl4 tg V (htrd.below hV))
 have HO := zI ho
 have HG := zI hgy
 have HX := zI hX
 have HJ := zI hj
 have HK := zI hk
 have HA := zI hA
 have HR := zI hr
 have HROW := zI hrow
 have HTR := zI htrow
 have hBW : BT < W.heap.size := by omega
 obtain ⟨PO, hPO⟩ : ∃ PO, posT tg z.u_.l = PO := ⟨_, rfl⟩
 obtain ⟨HS, hHS⟩ : ∃ HS, hasT tg z.u_.l = HS := ⟨_, rfl⟩
 have HPO := zI hPO
 have HHS := zI hHS
 rw [hPO, hHS] at HSE
 clear zown htn hr hrow hcc ho hgy hX hj hk hA htg htrow htrd hPO
 obtain ⟨EV, hEV⟩ : ∃ EV, relE tg z.u_.l = EV := ⟨_, rfl⟩
 rw [hEV]
 rcases HS with _ | _
 · obtain rfl : EV = 71 := by rw [← hEV]; unfold relE; rw [hHS]; rfl
   clear hEV hHS
   go_enter Tryz.func78, Tryz.ntmps78
   go_upto_region 1 with fail
   refine wp_region_noPanic ?_
   refine zcX 10 (fun V => V.cell? ⟨g, k * 5 + 3, none⟩ = some (.slice z.u_.A z.u_.l.length z.u_.c) ∧ V.cell? ⟨BT, 0, none⟩ = some (.string tg)) (by kernel_rfl) ⟨c0, cT⟩ (fun hHeld => ?_)
   refine tkA 16 (i := 0) (oi := ⟨some 7, _, _, _, _, _⟩) rfl hHeld ?_
   try simp only [zP]
   refine tkA 16 (i := 1) (oi := ⟨some 8, _, _, _, _, _⟩) rfl hHeld ?_
   try simp only [zP]
   refine tkA 16 (i := 2) (oi := ⟨some 9, _, _, _, _, _⟩) rfl hHeld ?_
   try simp only [zP]
   refine tkA 16 (i := 3) (oi := ⟨some 10, _, _, _, _, _⟩) rfl hHeld ?_
   try simp only [zP]
   refine tkA 16 (i := 4) (oi := ⟨some 11, _, _, _, _, _⟩) rfl hHeld ?_
   try simp only [zP]
   clear hHeld
   refine zdZ 16 6 0 [(5, 12), (6, 6), (7, 13), (8, 14), (9, 4), (10, 5)] (fun s v w => match s with
    | 12 => v = .tuple #[.int .i64 PO, .bool false]
    | 6 => v = .tuple #[.int .i64 PO, .bool false]
    | 13 => v = .int .i64 PO
    | 14 => v = .bool false
    | 4 => v = .int .i64 PO
    | 5 => v = .bool false
    | _ => True) (fun w w' => Below w.heap.size w w') (by kernel_rfl) (by kernel_rfl) bZh ⟨?_, ?_, ?_, ?_, ?_, ?_, trivial⟩ (fun w' hB => ⟨(hB.cell (p := ⟨g, k * 5 + 3, none⟩) hbl).trans c0, (hB.cell (p := ⟨BT, 0, none⟩) hBW).trans cT⟩) ⟨?_, ?_, ?_, ?_, ?_, ?_, trivial⟩ ?_
   focus
    intro v w w' h hB
    exact h
   focus
    intro v w w' h hB
    exact h
   focus
    intro v w w' h hB
    exact h
   focus
    intro v w w' h hB
    exact h
   focus
    intro v w w' h hB
    exact h
   focus
    intro v w w' h hB
    exact h
   focus
    intro vs w2 hBf hFf o ho K hK
    obtain rfl : (⟨some 12, _, _, _, _, _⟩ : Oper) = o := Option.some.inj ho
    clear ho
    (try simp only [fillL, zQ, zP] at hK ⊢)
    go_simp
    refine (HSE.out w2 ((Below.refl W.heap.size W).drew.trans hBf)).mono ?_
    rintro e w4 ⟨rfl, q4, rfl⟩
    exact hK.out _ _ ⟨rfl, belowDN (Below.refl _ _) q4⟩
   focus
    intro vs w2 hBf hFf o ho K hK
    obtain rfl : (⟨some 6, _, _, _, _, _⟩ : Oper) = o := Option.some.inj ho
    clear ho
    (try simp only [fillL, zQ, zP] at hK ⊢)
    have e12 := (hFf (5, 12) (by simp) (by kernel_rfl))
    simp only [] at e12
    simp only [e12] at hK ⊢
    go_simp
    exact hK.out _ _ ⟨rfl, Below.refl _ _⟩
   focus
    intro vs w2 hBf hFf o ho K hK
    obtain rfl : (⟨some 13, _, _, _, _, _⟩ : Oper) = o := Option.some.inj ho
    clear ho
    (try simp only [fillL, zQ, zP] at hK ⊢)
    have e6 := (hFf (6, 6) (by simp) (by kernel_rfl))
    simp only [] at e6
    simp only [e6] at hK ⊢
    go_simp
    exact hK.out _ _ ⟨rfl, Below.refl _ _⟩
   focus
    intro vs w2 hBf hFf o ho K hK
    obtain rfl : (⟨some 14, _, _, _, _, _⟩ : Oper) = o := Option.some.inj ho
    clear ho
    (try simp only [fillL, zQ, zP] at hK ⊢)
    have e6 := (hFf (6, 6) (by simp) (by kernel_rfl))
    simp only [] at e6
    simp only [e6] at hK ⊢
    go_simp
    exact hK.out _ _ ⟨rfl, Below.refl _ _⟩
   focus
    intro vs w2 hBf hFf o ho K hK
    obtain rfl : (⟨some 4, _, _, _, _, _⟩ : Oper) = o := Option.some.inj ho
    clear ho
    (try simp only [fillL, zQ, zP] at hK ⊢)
    have e13 := (hFf (7, 13) (by simp) (by kernel_rfl))
    simp only [] at e13
    simp only [e13] at hK ⊢
    go_simp
    exact hK.out _ _ ⟨rfl, Below.refl _ _⟩
   focus
    intro vs w2 hBf hFf o ho K hK
    obtain rfl : (⟨some 5, _, _, _, _, _⟩ : Oper) = o := Option.some.inj ho
    clear ho
    (try simp only [fillL, zQ, zP] at hK ⊢)
    have e14 := (hFf (8, 14) (by simp) (by kernel_rfl))
    simp only [] at e14
    simp only [e14] at hK ⊢
    go_simp
    exact hK.out _ _ ⟨rfl, Below.refl _ _⟩
   intro vs w2 hBf hFf
   (try simp only [fillL, zQ, zP])
   have e4 := (hFf (9, 4) (by simp))
   have e5 := (hFf (10, 5) (by simp))
   simp only [] at e4 e5
   simp only [e4, e5]
   have hB2 : Below W.heap.size W w2 := (Below.refl W.heap.size W).drew.trans hBf
   refine zdQ (by kernel_rfl) ?_ _
   refine NoPanic.normal ?_
   obtain ⟨v2, hv2⟩ : ∃ v, v = w2 := ⟨_, rfl⟩
   subst hv2
   have hs2 := hB2.size
   have d0 := (hB2.cell (p := ⟨g, k * 5 + 3, none⟩) hbl).trans c0
   have dT := (hB2.cell (p := ⟨BT, 0, none⟩) hBW).trans cT
   have df := (hB2.frozen (p := ⟨g, k * 5 + 3, none⟩) hbl).trans cf
   have hbl2 : g < v2.heap.size := Nat.lt_of_lt_of_le hbl hs2
   have hBW2 : BT < v2.heap.size := by omega
   clear c0 cT cf hBf hFf HSE e4 e5
   go_wp2
   go_ret
   exact ⟨rfl, ⟨z, fun h => absurd h (by decide)⟩, hB2.mono hN⟩
 · obtain rfl : EV = 0 := by rw [← hEV]; unfold relE; rw [hHS]; rfl
   have hpl : PO < z.u_.l.length := by
    have h9 := (posT_at HR.out).1 hHS
    rw [HPO.out] at h9
    exact (List.getElem?_eq_some_iff.1 h9).1
   have HN := zI hHS
   clear hEV hHS
   go_enter Tryz.func78, Tryz.ntmps78
   go_upto_region 1 with fail
   refine wp_region_noPanic ?_
   refine zcX 10 (fun V => V.cell? ⟨g, k * 5 + 3, none⟩ = some (.slice z.u_.A z.u_.l.length z.u_.c) ∧ V.cell? ⟨BT, 0, none⟩ = some (.string tg)) (by kernel_rfl) ⟨c0, cT⟩ (fun hHeld => ?_)
   refine tkA 16 (i := 0) (oi := ⟨some 7, _, _, _, _, _⟩) rfl hHeld ?_
   try simp only [zP]
   refine tkA 16 (i := 1) (oi := ⟨some 8, _, _, _, _, _⟩) rfl hHeld ?_
   try simp only [zP]
   refine tkA 16 (i := 2) (oi := ⟨some 9, _, _, _, _, _⟩) rfl hHeld ?_
   try simp only [zP]
   refine tkA 16 (i := 3) (oi := ⟨some 10, _, _, _, _, _⟩) rfl hHeld ?_
   try simp only [zP]
   refine tkA 16 (i := 4) (oi := ⟨some 11, _, _, _, _, _⟩) rfl hHeld ?_
   try simp only [zP]
   clear hHeld
   refine zdZ 16 6 0 [(5, 12), (6, 6), (7, 13), (8, 14), (9, 4), (10, 5)] (fun s v w => match s with
    | 12 => v = .tuple #[.int .i64 PO, .bool true]
    | 6 => v = .tuple #[.int .i64 PO, .bool true]
    | 13 => v = .int .i64 PO
    | 14 => v = .bool true
    | 4 => v = .int .i64 PO
    | 5 => v = .bool true
    | _ => True) (fun w w' => Below w.heap.size w w') (by kernel_rfl) (by kernel_rfl) bZh ⟨?_, ?_, ?_, ?_, ?_, ?_, trivial⟩ (fun w' hB => ⟨(hB.cell (p := ⟨g, k * 5 + 3, none⟩) hbl).trans c0, (hB.cell (p := ⟨BT, 0, none⟩) hBW).trans cT⟩) ⟨?_, ?_, ?_, ?_, ?_, ?_, trivial⟩ ?_
   focus
    intro v w w' h hB
    exact h
   focus
    intro v w w' h hB
    exact h
   focus
    intro v w w' h hB
    exact h
   focus
    intro v w w' h hB
    exact h
   focus
    intro v w w' h hB
    exact h
   focus
    intro v w w' h hB
    exact h
   focus
    intro vs w2 hBf hFf o ho K hK
    obtain rfl : (⟨some 12, _, _, _, _, _⟩ : Oper) = o := Option.some.inj ho
    clear ho
    (try simp only [fillL, zQ, zP] at hK ⊢)
    go_simp
    refine (HSE.out w2 ((Below.refl W.heap.size W).drew.trans hBf)).mono ?_
    rintro e w4 ⟨rfl, q4, rfl⟩
    exact hK.out _ _ ⟨rfl, belowDN (Below.refl _ _) q4⟩
   focus
    intro vs w2 hBf hFf o ho K hK
    obtain rfl : (⟨some 6, _, _, _, _, _⟩ : Oper) = o := Option.some.inj ho
    clear ho
    (try simp only [fillL, zQ, zP] at hK ⊢)
    have e12 := (hFf (5, 12) (by simp) (by kernel_rfl))
    simp only [] at e12
    simp only [e12] at hK ⊢
    go_simp
    exact hK.out _ _ ⟨rfl, Below.refl _ _⟩
   focus
    intro vs w2 hBf hFf o ho K hK
    obtain rfl : (⟨some 13, _, _, _, _, _⟩ : Oper) = o := Option.some.inj ho
    clear ho
    (try simp only [fillL, zQ, zP] at hK ⊢)
    have e6 := (hFf (6, 6) (by simp) (by kernel_rfl))
    simp only [] at e6
    simp only [e6] at hK ⊢
    go_simp
    exact hK.out _ _ ⟨rfl, Below.refl _ _⟩
   focus
    intro vs w2 hBf hFf o ho K hK
    obtain rfl : (⟨some 14, _, _, _, _, _⟩ : Oper) = o := Option.some.inj ho
    clear ho
    (try simp only [fillL, zQ, zP] at hK ⊢)
    have e6 := (hFf (6, 6) (by simp) (by kernel_rfl))
    simp only [] at e6
    simp only [e6] at hK ⊢
    go_simp
    exact hK.out _ _ ⟨rfl, Below.refl _ _⟩
   focus
    intro vs w2 hBf hFf o ho K hK
    obtain rfl : (⟨some 4, _, _, _, _, _⟩ : Oper) = o := Option.some.inj ho
    clear ho
    (try simp only [fillL, zQ, zP] at hK ⊢)
    have e13 := (hFf (7, 13) (by simp) (by kernel_rfl))
    simp only [] at e13
    simp only [e13] at hK ⊢
    go_simp
    exact hK.out _ _ ⟨rfl, Below.refl _ _⟩
   focus
    intro vs w2 hBf hFf o ho K hK
    obtain rfl : (⟨some 5, _, _, _, _, _⟩ : Oper) = o := Option.some.inj ho
    clear ho
    (try simp only [fillL, zQ, zP] at hK ⊢)
    have e14 := (hFf (8, 14) (by simp) (by kernel_rfl))
    simp only [] at e14
    simp only [e14] at hK ⊢
    go_simp
    exact hK.out _ _ ⟨rfl, Below.refl _ _⟩
   intro vs w2 hBf hFf
   (try simp only [fillL, zQ, zP])
   have e4 := (hFf (9, 4) (by simp))
   have e5 := (hFf (10, 5) (by simp))
   simp only [] at e4 e5
   simp only [e4, e5]
   have hB2 : Below W.heap.size W w2 := (Below.refl W.heap.size W).drew.trans hBf
   refine zdQ (by kernel_rfl) ?_ _
   refine NoPanic.normal ?_
   obtain ⟨v2, hv2⟩ : ∃ v, v = w2 := ⟨_, rfl⟩
   subst hv2
   have hs2 := hB2.size
   have d0 := (hB2.cell (p := ⟨g, k * 5 + 3, none⟩) hbl).trans c0
   have dT := (hB2.cell (p := ⟨BT, 0, none⟩) hBW).trans cT
   have df := (hB2.frozen (p := ⟨g, k * 5 + 3, none⟩) hbl).trans cf
   have hbl2 : g < v2.heap.size := Nat.lt_of_lt_of_le hbl hs2
   have hBW2 : BT < v2.heap.size := by omega
   clear c0 cT cf hBf hFf HSE e4 e5
   have hD := delete18_any N z.u_.A z.u_.c z.u_.l PO v2 (zgQ HTR.out hB2 (Nat.le_refl _)) hpl
   rw [show ((PO + 1 : Nat) : Int) = (PO : Int) + 1 from rfl] at hD
   have HD := zI hD
   have hBv := zI hB2
   clear hD
   go_wp2_with fail
   refine HD.out.mono ?_
   rintro e w5 ⟨T, rfl, hTl, hTo, hTf, hTB⟩
   have HTL := zI hTl
   have hsame : w5.heap[g]? = v2.heap[g]? := hTf g hbl2 fun e => rows_ne (zgQ HTR.out hB2 (Nat.le_refl _)) (zgQ HROW.out hB2 (Nat.le_refl _)) (by decide) e.symm rfl
   have g0 := (frozen_same (i := k * 5 + 3) hsame).trans df
   have g1 := (cell_same (i := k * 5 + 3) hsame).trans d0
   obtain ⟨z', hz'⟩ : ∃ z' : Mna, z' = { z with u_ := T } := ⟨_, rfl⟩
   obtain ⟨hT7, hG7⟩ := (HO.out.below hB2).tagsAt (HG.out.below hB2) HX.out HJ.out HK.out HA.out hTf hTo (fun s hs => by
    rw [HTL.out] at hs
    have h9 := ((HG.out.w_.el t (mG HJ.out)).f_.el z (mG HK.out)).U_
    rcases List.mem_append.1 hs with h | h
    · exact h9.el s (List.mem_of_mem_take h)
    · exact h9.el s (List.mem_of_mem_drop h)) (by
    have h9 : T.l.length ≤ z.u_.l.length := by
     rw [HTL.out, List.length_append, List.length_take, List.length_drop]
     omega
    omega) hz'
   have hBZ : Below N W (w5.setCell ⟨g, k * 5 + 3, none⟩ T.val) := ((hB2.mono hN).trans hTB).setCell (p := ⟨g, k * 5 + 3, none⟩) hng _
   have hpp : z'.plain = { z.plain with u_ := freeT tg z.u_.l } := by
    rw [hz']
    show ({ z.plain with u_ := T.l } : PS_) = _
    rw [HTL.out, free_pos HR.out HN.out, HPO.out]
   have HT7 := zI hT7
   have HG7 := zI hG7
   have HBZ := zI hBZ
   have HPL := zI hpp
   clear hT7 hG7 hBZ hpp hTl hTo hTf hTB hsame hz' d0 df dT
   go_wp2
   go_ret
   exact ⟨rfl, ⟨z', fun _ => ⟨HPL.out, HT7.out, HG7.out⟩⟩, HBZ.out⟩
theorem hold18_any (x : MT_) (p n tg : ByteArray) (hp : p.size ≤ 140737488351232) (htz : tg.size ≤ 140737488351232) (w : World) (hx : x.Good w) :
 Calls Tryz.prog 29 #[.agg x.cells.toArray, .string p, .string n, .string tg] w fun e w' => AnsT w (tagsU x.plain p n tg (holdE tg) (holdT tg)) e w' := by
 obtain ⟨a1, hw1⟩ : ∃ a1, w.alloc (.cells #[.string x.x_, .int .i64 x.r_, .int .i64 x.v_, .slice x.y_.A x.y_.l.length x.y_.c, .slice x.g_.A x.g_.l.length x.g_.c, .slice x.t_.A x.t_.l.length x.t_.c, .slice x.h_.A x.h_.l.length x.h_.c] 27) = a1 := ⟨_, rfl⟩
 have b1 : Below w.heap.size w a1 := hw1 ▸ (Below.refl _ w).alloc (Nat.le_refl _) _
 have k1 : Blk a1 w.heap.size 27 [.string x.x_, .int .i64 x.r_, .int .i64 x.v_, .slice x.y_.A x.y_.l.length x.y_.c, .slice x.g_.A x.g_.l.length x.g_.c, .slice x.t_.A x.t_.l.length x.t_.c, .slice x.h_.A x.h_.l.length x.h_.c] := hw1 ▸ Blk.new w _ _
 obtain ⟨a2, hw2⟩ : ∃ a2, a1.alloc (.cells #[.string tg] 9) = a2 := ⟨_, rfl⟩
 have b2 : Below a1.heap.size a1 a2 := hw2 ▸ (Below.refl _ a1).alloc (Nat.le_refl _) _
 have k2 : Blk a2 a1.heap.size 9 [.string tg] := hw2 ▸ Blk.new a1 _ _
 have hX2 : w.heap.size + 1 = a1.heap.size := by rw [← hw1, World.size_alloc]
 obtain ⟨a3, hw3⟩ : ∃ a3, a2.alloc (.cells #[.string ⟨#[]⟩, .int .i64 0, .int .i64 0, .slice none 0 0, .slice none 0 0, .slice none 0 0, .slice none 0 0] 27) = a3 := ⟨_, rfl⟩
 have b3 : Below a2.heap.size a2 a3 := hw3 ▸ (Below.refl _ a2).alloc (Nat.le_refl _) _
 have k3 : Blk a3 a2.heap.size 27 [.string ⟨#[]⟩, .int .i64 0, .int .i64 0, .slice none 0 0, .slice none 0 0, .slice none 0 0, .slice none 0 0] := hw3 ▸ Blk.new a2 _ _
 have hX3 : a1.heap.size + 1 = a2.heap.size := by rw [← hw2, World.size_alloc]
 have hB1 : Below w.heap.size w a1 := b1
 have hB2 : Below w.heap.size w a2 := hB1.trans (b2.mono hB1.size)
 have hB3 : Below w.heap.size w a3 := hB2.trans (b3.mono hB2.size)
 have k1 := k1.of b2
 have k1 := k1.of b3
 have k2 := k2.of b3
 have hs3 := hB3.size
 have hs1 := hB1.size
 have ht1 : a1.heap.size ≤ a2.heap.size := b2.size
 have hs2 := hB2.size
 have ht2 : a2.heap.size ≤ a3.heap.size := b3.size
 have HW1 := zI hw1
 have HW2 := zI hw2
 have HW3 := zI hw3
 clear hw1 b1 hw2 b2 hw3 b3
 have hx2 := hx.below hB3
 obtain ⟨P, hP⟩ : ∃ P, tagsU x.plain p n tg (holdE tg) (holdT tg) = P := ⟨_, rfl⟩
 rw [hP]
 have hlk1 := k1.lt
 have hlk2 := k2.lt
 have hlk3 := k3.lt
 have HC : Hid (Calls Tryz.prog 74 #[.agg x.cells.toArray, .string p, .string n, .string tg, .func (.func 75) #[] #[.pointer (some ⟨a1.heap.size, 0, none⟩)]] a3 fun e w' => AnsT a3 P e w') := zI (by
  have h9 := changed18_any x p n tg hp 75 #[.pointer (some ⟨a1.heap.size, 0, none⟩)] (enters_of Tryz.func75 (by kernel_rfl) rfl) (holdE tg) (holdT tg) a3 hx2
   (fun W N g j k y t z h1 h2 h3 h4 h5 h6 h7 h8 h9 h10 _ h12 => (hold1_any tg htz a1.heap.size W N g j k y t z h2 h4 h5 h6 h7 h8 h9 h10 h12 (by omega) ((k2.of h3).cell 0)).mono fun e2 W' ⟨b1, ⟨z', b2⟩, b3⟩ => ⟨z', b1, b2, b3⟩)
  rwa [hP] at h9)
 have k2c := k2.cell 0
 simp only [List.getElem?_cons_zero] at k2c
 clear hP hx hx2
 obtain ⟨q0, q1, q2, q3, q4, q5, q6⟩ := k1.all7
 go_enter Tryz.func29, Tryz.ntmps29
 go_upto_region 1 with fail
 rw [HW1.out, HW2.out, HW3.out]
 try rw [hX2]
 try rw [hX3]
 go_wp2_with fail
 refine HC.out.mono ?_
 rintro e w4 ⟨y, rfl, hoy, hgy, hpy, hV⟩
 have K3 := k3.of hV
 have hX := hB3.trans (hV.mono hs3)
 have HOY := zI hoy
 have HGY := zI hgy
 have HPY := zI hpy
 clear hoy hgy hpy q0 q1 q2 q3 q4 q5 q6 k2c
 obtain ⟨zr0, zr1, zr2, zr3, zr4, zr5, zr6⟩ := K3.all7
 obtain ⟨zrf0, zrf1, zrf2, zrf3, zrf4, zrf5, zrf6⟩ := K3.fz7
 go_wp2
 generalize hwE : World.setCell _ ⟨a2.heap.size, 6, none⟩ _ = wE
 obtain ⟨KE, SE, ZE, BE⟩ := store7 K3 hwE
 obtain ⟨ze0, ze1, ze2, ze3, ze4, ze5, ze6⟩ := KE.all7
 refine bodyPost_ret (v := .tuple #[.agg #[.string y.x_, .int .i64 y.r_, .int .i64 y.v_, .slice y.y_.A y.y_.l.length y.y_.c, .slice y.g_.A y.g_.l.length y.g_.c, .slice y.t_.A y.t_.l.length y.t_.c, .slice y.h_.A y.h_.l.length y.h_.c], .int .i64 P.2]) (by simp [results, Tryz.results29, go_sem, ze0, ze1, ze2, ze3, ze4, ze5, ze6]) rfl ?_
 have hoF := HOY.out.store hlk3 SE
 exact ⟨y, rfl, hoF.base hs3, MT_.Good.of_own HGY.out rfl hoF, HPY.out, BE _ _ hX hs2⟩
theorem release18_any (x : MT_) (p n tg : ByteArray) (hp : p.size ≤ 140737488351232) (w : World) (hx : x.Good w) :
 Calls Tryz.prog 31 #[.agg x.cells.toArray, .string p, .string n, .string tg] w fun e w' => AnsT w (tagsU x.plain p n tg (relE tg) (freeT tg)) e w' := by
 obtain ⟨a1, hw1⟩ : ∃ a1, w.alloc (.cells #[.string x.x_, .int .i64 x.r_, .int .i64 x.v_, .slice x.y_.A x.y_.l.length x.y_.c, .slice x.g_.A x.g_.l.length x.g_.c, .slice x.t_.A x.t_.l.length x.t_.c, .slice x.h_.A x.h_.l.length x.h_.c] 27) = a1 := ⟨_, rfl⟩
 have b1 : Below w.heap.size w a1 := hw1 ▸ (Below.refl _ w).alloc (Nat.le_refl _) _
 have k1 : Blk a1 w.heap.size 27 [.string x.x_, .int .i64 x.r_, .int .i64 x.v_, .slice x.y_.A x.y_.l.length x.y_.c, .slice x.g_.A x.g_.l.length x.g_.c, .slice x.t_.A x.t_.l.length x.t_.c, .slice x.h_.A x.h_.l.length x.h_.c] := hw1 ▸ Blk.new w _ _
 obtain ⟨a2, hw2⟩ : ∃ a2, a1.alloc (.cells #[.string tg] 9) = a2 := ⟨_, rfl⟩
 have b2 : Below a1.heap.size a1 a2 := hw2 ▸ (Below.refl _ a1).alloc (Nat.le_refl _) _
 have k2 : Blk a2 a1.heap.size 9 [.string tg] := hw2 ▸ Blk.new a1 _ _
 have hX2 : w.heap.size + 1 = a1.heap.size := by rw [← hw1, World.size_alloc]
 obtain ⟨a3, hw3⟩ : ∃ a3, a2.alloc (.cells #[.string ⟨#[]⟩, .int .i64 0, .int .i64 0, .slice none 0 0, .slice none 0 0, .slice none 0 0, .slice none 0 0] 27) = a3 := ⟨_, rfl⟩
 have b3 : Below a2.heap.size a2 a3 := hw3 ▸ (Below.refl _ a2).alloc (Nat.le_refl _) _
 have k3 : Blk a3 a2.heap.size 27 [.string ⟨#[]⟩, .int .i64 0, .int .i64 0, .slice none 0 0, .slice none 0 0, .slice none 0 0, .slice none 0 0] := hw3 ▸ Blk.new a2 _ _
 have hX3 : a1.heap.size + 1 = a2.heap.size := by rw [← hw2, World.size_alloc]
 have hB1 : Below w.heap.size w a1 := b1
 have hB2 : Below w.heap.size w a2 := hB1.trans (b2.mono hB1.size)
 have hB3 : Below w.heap.size w a3 := hB2.trans (b3.mono hB2.size)
 have k1 := k1.of b2
 have k1 := k1.of b3
 have k2 := k2.of b3
 have hs3 := hB3.size
 have hs1 := hB1.size
 have ht1 : a1.heap.size ≤ a2.heap.size := b2.size
 have hs2 := hB2.size
 have ht2 : a2.heap.size ≤ a3.heap.size := b3.size
 have HW1 := zI hw1
 have HW2 := zI hw2
 have HW3 := zI hw3
 clear hw1 b1 hw2 b2 hw3 b3
 have hx2 := hx.below hB3
 obtain ⟨P, hP⟩ : ∃ P, tagsU x.plain p n tg (relE tg) (freeT tg) = P := ⟨_, rfl⟩
 rw [hP]
 have hlk1 := k1.lt
 have hlk2 := k2.lt
 have hlk3 := k3.lt
 have HC : Hid (Calls Tryz.prog 74 #[.agg x.cells.toArray, .string p, .string n, .string tg, .func (.func 78) #[] #[.pointer (some ⟨a1.heap.size, 0, none⟩)]] a3 fun e w' => AnsT a3 P e w') := zI (by
  have h9 := changed18_any x p n tg hp 78 #[.pointer (some ⟨a1.heap.size, 0, none⟩)] (enters_of Tryz.func78 (by kernel_rfl) rfl) (relE tg) (freeT tg) a3 hx2
   (fun W N g j k y t z h1 h2 h3 h4 h5 h6 h7 h8 h9 h10 _ h12 => (release1_any tg a1.heap.size W N g j k y t z h2 h4 h5 h6 h7 h8 h9 h10 h12 (by omega) ((k2.of h3).cell 0)).mono fun e2 W' ⟨b1, ⟨z', b2⟩, b3⟩ => ⟨z', b1, b2, b3⟩)
  rwa [hP] at h9)
 have k2c := k2.cell 0
 simp only [List.getElem?_cons_zero] at k2c
 clear hP hx hx2
 obtain ⟨q0, q1, q2, q3, q4, q5, q6⟩ := k1.all7
 go_enter Tryz.func31, Tryz.ntmps31
 go_upto_region 1 with fail
 rw [HW1.out, HW2.out, HW3.out]
 try rw [hX2]
 try rw [hX3]
 go_wp2_with fail
 refine HC.out.mono ?_
 rintro e w4 ⟨y, rfl, hoy, hgy, hpy, hV⟩
 have K3 := k3.of hV
 have hX := hB3.trans (hV.mono hs3)
 have HOY := zI hoy
 have HGY := zI hgy
 have HPY := zI hpy
 clear hoy hgy hpy q0 q1 q2 q3 q4 q5 q6 k2c
 obtain ⟨zr0, zr1, zr2, zr3, zr4, zr5, zr6⟩ := K3.all7
 obtain ⟨zrf0, zrf1, zrf2, zrf3, zrf4, zrf5, zrf6⟩ := K3.fz7
 go_wp2
 generalize hwE : World.setCell _ ⟨a2.heap.size, 6, none⟩ _ = wE
 obtain ⟨KE, SE, ZE, BE⟩ := store7 K3 hwE
 obtain ⟨ze0, ze1, ze2, ze3, ze4, ze5, ze6⟩ := KE.all7
 refine bodyPost_ret (v := .tuple #[.agg #[.string y.x_, .int .i64 y.r_, .int .i64 y.v_, .slice y.y_.A y.y_.l.length y.y_.c, .slice y.g_.A y.g_.l.length y.g_.c, .slice y.t_.A y.t_.l.length y.t_.c, .slice y.h_.A y.h_.l.length y.h_.c], .int .i64 P.2]) (by simp [results, Tryz.results31, go_sem, ze0, ze1, ze2, ze3, ze4, ze5, ze6]) rfl ?_
 have hoF := HOY.out.store hlk3 SE
 exact ⟨y, rfl, hoF.base hs3, MT_.Good.of_own HGY.out rfl hoF, HPY.out, BE _ _ hX hs2⟩
def tgStep (g : ByteArray) (s : List ByteArray × Bool × Bool) (y : ByteArray) : List ByteArray × Bool × Bool :=
 (if y = g then (if (!s.2.2 && ltTx g y) = true then s.1 ++ [g] else s.1) else (if (!s.2.2 && ltTx g y) = true then s.1 ++ [g] else s.1) ++ [y], s.2.1 || decide (y = g), s.2.2 || (!s.2.2 && ltTx g y))
def tgF (put : Bool) (g : ByteArray) (l : List ByteArray) : List ByteArray × Bool × Bool := l.foldl (tgStep g) ([], false, !put)
def tgL (put : Bool) (g : ByteArray) (l : List ByteArray) : List ByteArray := if (tgF put g l).2.2 = true then (tgF put g l).1 else (tgF put g l).1 ++ [g]
theorem tgF_snoc (put : Bool) (g : ByteArray) (l : List ByteArray) (y : ByteArray) : tgF put g (l ++ [y]) = tgStep g (tgF put g l) y := by
 unfold tgF
 rw [List.foldl_append]
 rfl
theorem tgF_take {put : Bool} {g : ByteArray} {l : List ByteArray} {k : Nat} {y : ByteArray} (h : l[k]? = some y) : tgF put g (l.take (k + 1)) = tgStep g (tgF put g (l.take k)) y := by
 rw [List.take_add_one, h]
 exact tgF_snoc put g _ y
theorem snoc_ind {α : Type} {p : List α → Prop} (h0 : p []) (h1 : ∀ l a, p l → p (l ++ [a])) : ∀ l, p l := by
 intro l
 have h : ∀ n, ∀ l : List α, l.length = n → p l := by
  intro n
  induction n with
  | zero =>
   intro l hl
   rw [List.eq_nil_of_length_eq_zero hl]
   exact h0
  | succ n ih =>
   intro l hl
   have hne : l ≠ [] := fun e => by rw [e] at hl; cases hl
   rw [← List.dropLast_concat_getLast hne]
   exact h1 _ _ (ih _ (by rw [List.length_dropLast]; omega))
 exact h l.length l rfl
theorem hasT_snoc (g : ByteArray) (l : List ByteArray) (y : ByteArray) : hasT g (l ++ [y]) = (hasT g l || decide (y = g)) := by
 unfold hasT
 rw [List.any_append]
 simp
theorem tg_is (put : Bool) (g : ByteArray) : ∀ l, (tgF put g l).2.1 = hasT g l := by
 refine snoc_ind rfl fun l y ih => ?_
 rw [tgF_snoc, hasT_snoc, ← ih]
 rfl
theorem tg_len (put : Bool) (g : ByteArray) : ∀ l, (tgF put g l).1.length ≤ l.length + (if (tgF put g l).2.2 = true then 1 else 0) := by
 refine snoc_ind (Nat.zero_le _) fun l y ih => ?_
 rw [tgF_snoc, List.length_append, List.length_singleton]
 unfold tgStep
 rcases h : (tgF put g l).2.2 with _ | _
 · rw [h] at ih
   simp only [Bool.not_false, Bool.true_and, Bool.false_or, Bool.false_eq_true, if_false] at ih ⊢
   rcases hl : ltTx g y with _ | _ <;> by_cases hy : y = g <;> simp [hy] <;> omega
 · rw [h] at ih
   simp only [Bool.not_true, Bool.false_and, Bool.true_or, Bool.false_eq_true, if_false, if_true] at ih ⊢
   by_cases hy : y = g <;> simp [hy] <;> omega
theorem tg_free (g : ByteArray) : ∀ l, (tgF false g l).2.2 = true ∧ (tgF false g l).1 = freeT g l := by
 refine snoc_ind ⟨rfl, rfl⟩ fun l y ih => ?_
 rw [tgF_snoc]
 unfold tgStep freeT
 rw [ih.1, ih.2, List.filter_append]
 refine ⟨rfl, ?_⟩
 simp only [Bool.not_true, Bool.false_and, Bool.false_eq_true, if_false]
 by_cases hy : y = g
 · rw [if_pos hy, List.filter_cons_of_neg (by simp [hy])]
   simp [freeT]
 · rw [if_neg hy, List.filter_cons_of_pos (by simp [hy])]
   simp [freeT]
theorem holdT_over {g : ByteArray} {l : List ByteArray} (h : ∃ x ∈ l, ltTx g x = true) (y : ByteArray) : holdT g (l ++ [y]) = holdT g l ++ [y] := by
 unfold holdT
 have h1 : (l.dropWhile fun x => !ltTx g x) ≠ [] := fun e => by
  obtain ⟨x, hx, hg⟩ := h
  have h2 := List.takeWhile_append_dropWhile (p := fun x : ByteArray => !ltTx g x) (l := l)
  rw [e, List.append_nil] at h2
  rw [← h2] at hx
  have h3 := List.all_eq_true.1 List.all_takeWhile x hx
  rw [hg] at h3
  cases h3
 have h4 : (l.takeWhile fun x => !ltTx g x).length ≠ l.length := fun e => by
  have h2 := congrArg List.length (List.takeWhile_append_dropWhile (p := fun x : ByteArray => !ltTx g x) (l := l))
  rw [List.length_append] at h2
  exact h1 (List.eq_nil_of_length_eq_zero (by omega))
 rw [List.takeWhile_append, List.dropWhile_append, if_neg h4, if_neg (by simpa using h1)]
 simp
theorem tw_all {α : Type} {p : α → Bool} : ∀ {l : List α}, (∀ x ∈ l, p x = true) → l.takeWhile p = l ∧ l.dropWhile p = []
 | [], _ => ⟨rfl, rfl⟩
 | a :: l, h => by
  obtain ⟨h1, h2⟩ := tw_all (l := l) fun x hx => h x (List.mem_cons_of_mem _ hx)
  have h3 := h a (List.mem_cons_self ..)
  rw [List.takeWhile_cons, List.dropWhile_cons, if_pos h3, if_pos h3, h1, h2]
  exact ⟨rfl, rfl⟩
theorem tg_put (g : ByteArray) : ∀ l, hasT g l = false → ((tgF true g l).2.2 = l.any fun x => ltTx g x) ∧ (tgF true g l).1 = (if (l.any fun x => ltTx g x) = true then holdT g l else l) := by
 refine snoc_ind (fun _ => ⟨rfl, rfl⟩) fun l y ih hn => ?_
 rw [hasT_snoc, Bool.or_eq_false_iff, decide_eq_false_iff_not] at hn
 obtain ⟨h1, h2⟩ := ih hn.1
 rw [tgF_snoc]
 unfold tgStep
 rw [h1, h2, List.any_append]
 rcases ha : l.any (fun x => ltTx g x) with _ | _
 · have hl : l.takeWhile (fun x => !ltTx g x) = l ∧ l.dropWhile (fun x => !ltTx g x) = [] := by
    have h3 : ∀ x ∈ l, ltTx g x = false := fun x hx => by
     have := List.any_eq_false.1 ha x hx
     simpa using this
    exact tw_all fun x hx => by rw [h3 x hx]; rfl
   rcases hy : ltTx g y with _ | _
   · simp [hn.2, hy]
   · refine ⟨by simp [hy], ?_⟩
     simp only [Bool.not_false, Bool.true_and, if_neg hn.2, Bool.false_or, Bool.false_eq_true, if_false, if_true, List.any_cons, List.any_nil, hy, Bool.or_false]
     unfold holdT
     rw [List.takeWhile_append, List.dropWhile_append, hl.1, hl.2, if_pos rfl]
     simp [List.takeWhile_cons, List.dropWhile_cons, hy]
 · obtain ⟨x, hx, hg⟩ := List.any_eq_true.1 ha
   refine ⟨by simp, ?_⟩
   simp only [Bool.not_true, Bool.false_and, Bool.false_eq_true, if_false, if_neg hn.2, Bool.true_or, if_true]
   exact (holdT_over ⟨x, hx, hg⟩ y).symm
theorem tgL_hold {g : ByteArray} {l : List ByteArray} (hn : hasT g l = false) : tgL true g l = holdT g l := by
 obtain ⟨h1, h2⟩ := tg_put g l hn
 unfold tgL
 rw [h1, h2]
 rcases ha : l.any (fun x => ltTx g x) with _ | _
 · have h3 : ∀ x ∈ l, ltTx g x = false := fun x hx => by
    have := List.any_eq_false.1 ha x hx
    simpa using this
   simp only [Bool.false_eq_true, if_false]
   unfold holdT
   obtain ⟨h4, h5⟩ := tw_all (p := fun x : ByteArray => !ltTx g x) (l := l) fun x hx => by rw [h3 x hx]; rfl
   rw [h4, h5]
 · rfl
theorem tgL_free (g : ByteArray) (l : List ByteArray) : tgL false g l = freeT g l := by
 obtain ⟨h1, h2⟩ := tg_free g l
 unfold tgL
 rw [h1, h2]
 rfl
theorem OwnTe.snAt {n : Nat} {W : World} {y : MT_} (h : OwnTe n W y) (hgy : y.Good W) (hsep : y.y_.l.Pairwise SepS) {j : Nat} {t : MSet} (hj : y.y_.l[j]? = some t) {k : Nat} {z z' : Mna} (hk : t.n_.l[k]? = some z) {g0 : Nat} (hA : t.n_.A = some ⟨g0, 0, none⟩) {f : Nat} (hf : f < 5) {u : Value}
 (hz : z'.cells = z.cells.set f u) (hzo : OwnSn n W z') (hzg : z'.Good W) :
 OwnTe n (W.setCell ⟨g0, k * 5 + f, none⟩ u) (putSe y j (putSn t k z')) ∧ (putSe y j (putSn t k z')).Good (W.setCell ⟨g0, k * 5 + f, none⟩ u) := by
 obtain ⟨V2, hVd⟩ : ∃ V2, W.setCell ⟨g0, k * 5 + f, none⟩ u = V2 := ⟨_, rfl⟩
 have h8 := h.eset t (mG hj)
 have tG := hgy.w_.el t (mG hj)
 have hr1 : W.ownsRow n 49 5 (.slice (some ⟨g0, 0, none⟩) t.n_.l.length t.n_.c) t.n_.l.length (t.n_.l.flatMap Mna.cells) := by
  have h1 := h8.snaps
  unfold Sl.val at h1
  rwa [hA] at h1
 have hk2 : Keeps 49 W V2 := hVd ▸ keeps_setIn hr1 (k * 5 + f) u
 have hoth : ∀ b, b ≠ g0 → V2.heap[b]? = W.heap[b]? := fun b hb => by
  rw [← hVd]
  exact heap_setCell_other W ⟨g0, k * 5 + f, none⟩ b _ hb
 have hsn : V2.ownsRow n 49 5 (putSn t k z').n_.val (putSn t k z').n_.l.length ((putSn t k z').n_.l.flatMap Mna.cells) := by
  have h2 := own_setIn hr1 (k * 5 + f) u
  rw [← flat_set (y := z') Mna.cells (fun _ => rfl) hk hz hf] at h2
  rw [hVd] at h2
  unfold putSn Sl.val
  rw [List.length_set, hA]
  exact h2
 have two : ∀ {e : TypeId} {size m : Nat} {v : Value} {xs : List Value}, W.ownsRow n e size v m xs → e ≠ 49 → V2.ownsRow n e size v m xs := fun h1 h3 => zbX h1 h3 hk2
 have tg : ∀ {q : Mna}, OwnSn n W q → OwnSn n V2 q := fun {q} h1 => ⟨two h1.body (by decide), two h1.tags (by decide), two h1.own (by decide)⟩
 have hos : OwnSe n V2 (putSn t k z') := by
  refine ⟨two h8.body (by decide), hsn, two h8.own (by decide), fun q hq => ?_⟩
  rcases mem_set_ix hq with rfl | ⟨i, hi, hq⟩
  · exact tg hzo
  · exact tg (h8.each q (mG hq))
 have hgs : (putSn t k z').Good V2 := by
  have hea := hos.each
  refine ⟨tG.C_, tG.gorigin_, slGood_own tG.K_ rfl hos.body (fun q hq => tG.K_.el q hq), slGood_of hsn rfl (fun q hq => ?_) (by show (t.n_.l.set k _).length * 96 ≤ _; rw [List.length_set]; exact tG.f_.len), slGood_own tG.G_ rfl hos.own (fun q hq => tG.G_.el q hq)⟩
  rcases mem_set_ix hq with rfl | ⟨i, hi, hq2⟩
  · exact Mna.Good.of_own hzg rfl (hea _ hq)
  · exact Mna.Good.of_own (tG.f_.el q (mG hq2)) rfl (hea q hq)
 rw [hVd]
 have hcs : (putSn t k z').cells = t.cells := by
  unfold putSn MSet.cells
  rw [List.length_set]
 have h1 : OwnTe n V2 (putSe y j (putSn t k z')) := by
  refine ⟨?_, two h.grants (by decide), two h.stages (by decide), two h.log (by decide), fun x hx => ?_, fun x hx => ?_⟩
  · show V2.ownsRow n 52 5 (.slice y.y_.A (y.y_.l.set j (putSn t k z')).length y.y_.c) (y.y_.l.set j (putSn t k z')).length ((y.y_.l.set j (putSn t k z')).flatMap MSet.cells)
    rw [List.length_set, flat_same MSet.cells hj hcs]
    exact two h.sets (by decide)
  · rcases mem_set_ix hx with rfl | ⟨i, hi, hx⟩
    · exact hos
    · have h9 := h.eset x (mG hx)
      refine ⟨two h9.body (by decide), ?_, two h9.own (by decide), fun q hq => tg (h9.each q hq)⟩
      refine ownStay h9.snaps fun b hb => hoth b fun e1 => ?_
      obtain ⟨a1, h3, h4⟩ := own_block hb
      rcases pair_ix hsep hi hx hj with hs | hs
      · have := hs a1 _ h3 hA
        have h5 : a1.block < g0 := this
        omega
      · have := hs _ a1 hA h3
        have h5 : g0 < a1.block := this
        omega
  · have h9 := h.estage x hx
    exact ⟨two h9.body (by decide), two h9.own (by decide)⟩
 refine ⟨h1, MT_.Good.of_sets (x := y) hgy rfl (by show (y.y_.l.set j (putSn t k z')).length * 104 ≤ _; rw [List.length_set]; exact hgy.w_.len) (fun q hq => ?_) h1⟩
 rcases mem_set_ix hq with rfl | ⟨i, hi, hq2⟩
 · exact hgs
 · exact MSet.Good.of_own (hgy.w_.el q (mG hq2)) rfl (h1.eset q hq)
theorem hold_isP {t : PT_} {p n g : ByteArray} : tagsU t p n g (holdE g) (holdT g) = tagP t p n g true := by
 by_cases hf : zfX t p n (zaQ (bs g)) true = 0
 · obtain ⟨h1, h2, h3, h4, s, hs, h5⟩ := found_ways hf
   obtain ⟨y, hy⟩ := snapOf_has (h5 rfl)
   have hl : y.u_.length ≤ 4 := by
    obtain ⟨g1, g2⟩ := (goodL_iff ltPath_trans).1 (okT_parts.1 h1).2.2.2
    have h9 := (snapsB_parts.1 (setB_parts (g1 s (setAt_some hs).1)).2.2.1).1.1 y (snapOf_some hy).1
    unfold snapB at h9
    simp only [Bool.and_eq_true] at h9
    exact (tagsB_parts.1 h9.2.2.1).2
   have he : holdE g y.u_ = if hasT g y.u_ = true then 6 else if y.u_.length = 4 then 3 else 0 := by
    unfold holdE
    by_cases h6 : 4 ≤ y.u_.length
    · rw [if_pos h6, if_pos (by omega : y.u_.length = 4)]
    · rw [if_neg h6, if_neg (by omega : ¬ y.u_.length = 4)]
   have hE : tagE t p n g true = holdE g y.u_ := by
    unfold tagE
    rw [if_neg (fun h => h hf), hs]
    dsimp only
    rw [hy]
    dsimp only
    rw [if_pos rfl, he]
   unfold tagsU tagP
   rw [hE, if_neg (fun h => h hf), hs]
   dsimp only
   rw [hy]
   rfl
 · have hE : tagE t p n g true = zfX t p n (zaQ (bs g)) true := if_pos hf
   unfold tagsU tagP
   rw [hE, if_pos hf, if_pos hf]
theorem free_isP {t : PT_} {p n g : ByteArray} : tagsU t p n g (relE g) (freeT g) = tagP t p n g false := by
 by_cases hf : zfX t p n (zaQ (bs g)) true = 0
 · obtain ⟨h1, h2, h3, h4, s, hs, h5⟩ := found_ways hf
   obtain ⟨y, hy⟩ := snapOf_has (h5 rfl)
   have hE : tagE t p n g false = relE g y.u_ := by
    unfold tagE
    rw [if_neg (fun h => h hf), hs]
    dsimp only
    rw [hy]
    dsimp only
    rw [if_neg (by decide)]
    rfl
   unfold tagsU tagP
   rw [hE, if_neg (fun h => h hf), hs]
   dsimp only
   rw [hy]
   rfl
 · have hE : tagE t p n g false = zfX t p n (zaQ (bs g)) true := if_pos hf
   unfold tagsU tagP
   rw [hE, if_pos hf, if_pos hf]
theorem some_len {l : List ByteArray} : decide (0 < l.length) = decide (l ≠ []) := by
 rcases l with _ | ⟨a, b⟩
 · rfl
 · rw [decide_eq_true (by simp), decide_eq_true (by simp)]
theorem held_isP (x : MT_) (p n : ByteArray) : heldM x p n = heldP x.plain p n := by
 unfold heldM heldP
 rcases zhX x p n with ⟨hF, hS, hN, hY, hs⟩ | ⟨j, s, hF, hj, _, hS, hN, hY, hs, hh, ho, _⟩ | ⟨j, s, k, z, hF, hj, _, hS, hN, hk, _, hY, hs, hh, ho, _⟩
 · rw [hN, hs]
   rfl
 · rw [hN, hs]
   dsimp only
   rw [ho]
   rfl
 · rw [hN, hs, hY]
   dsimp only
   rw [ho]
   dsimp only
   rw [decide_eq_true (by omega), Bool.true_and]
   exact some_len
theorem num18_any (n : Int) (w : World) :
 Calls Tryz.prog 32 #[.int .i64 n] w fun e w' => e = .returned (.int .i64 n) ∧ w = w' := by
 go_enter Tryz.func32, Tryz.ntmps32
 go_wp2
 go_ret
 exact ⟨rfl, rfl⟩
def nH : ByteArray := ⟨#[104]⟩
def tenS (g : Nat) : PT_ := { (tenN g).plain with y_ := [⟨ByteArray.empty, ByteArray.empty, [], [⟨nA, 1, [], [], []⟩], []⟩], v_ := 2 }
theorem tenS_snap (g : Nat) : snapshotP (tenN g).plain ByteArray.empty nA = (tenS g, 1, 0) := tenN_snap g
theorem tenS_ok (g : Nat) : okT (tenS g) = true := by
 have h := snapshot_may (t := (tenN g).plain) (p := ByteArray.empty) (n := nA) (by rw [tenS_snap])
 have h1 := h.1
 rw [tenS_snap] at h1
 injection h1 with h1
 rw [h1]
 exact h.2.1
theorem tenS_hold (g : Nat) : tagE (tenS g) ByteArray.empty nA nH true = 0 := by
 have hs : setAt (tenS g) ByteArray.empty = some ⟨ByteArray.empty, ByteArray.empty, [], [⟨nA, 1, [], [], []⟩], []⟩ := by
  unfold setAt tenS
  simp
 have hf : zfX (tenS g) ByteArray.empty nA (zaQ (bs nH)) true = 0 := by
  unfold zfX
  rw [tenS_ok, hs, show zeX (bs ByteArray.empty) = true by decide, show zaQ (bs nA) = true by decide, show zaQ (bs nH) = true by decide]
  simp [zeQ]
 unfold tagE
 rw [if_neg (fun h => h hf), hs]
 simp [snapOf, hasT]
def tenH (g : Nat) : PT_ := mapP (tenS g) (tagS ByteArray.empty nA (holdT nH)) (tenS g).v_
theorem tenH_is (g : Nat) : tagP (tenS g) ByteArray.empty nA nH true = (tenH g, 0) := by
 unfold tagP
 rw [if_neg (fun h => h (tenS_hold g))]
 rfl
theorem tenH_stays (g : Nat) : unsnapP (tenH g) ByteArray.empty nA = (noT, 43) ∧ heldP (tenH g) ByteArray.empty nA = true := by
 obtain ⟨s, y, hs, hh, hy, _, hg⟩ := held_at (tenS_hold g)
 have hs : setAt (tenH g) ByteArray.empty = some s := hs
 have hne : y.u_ ≠ [] := fun e => by rw [e] at hg; cases hg
 have hf : zfX (tenH g) ByteArray.empty nA true true = 0 := by
  unfold zfX
  rw [show okT (tenH g) = true from hold_ok (tenS_hold g), hs, show zeX (bs ByteArray.empty) = true by decide, show zaQ (bs nA) = true by decide]
  simp [hh]
 have hc : clonesN (tenH g) ByteArray.empty nA = [] := by
  unfold clonesN tenH mapP tenS
  simp only [List.map_cons, List.map_nil]
  rw [List.filter_cons_of_neg, List.filter_nil, List.map_nil]
  rw [tagS_origin]
  have h9 : splitP ByteArray.empty = none := by
   rcases h : splitP ByteArray.empty with _ | ⟨q, m⟩
   · rfl
   · have h8 := (splitP_bs h).1
     have h7 : bs ByteArray.empty = [] := rfl
     rw [h7] at h8
     simp at h8
  rw [h9]
  decide
 have hE : unsnapE (tenH g) ByteArray.empty nA = 43 := by
  unfold unsnapE
  rw [if_neg (fun h => h hf), if_neg (fun h => h hc), hs]
  dsimp only
  rw [hy]
  dsimp only
  rw [if_pos hne]
 constructor
 · unfold unsnapP
   rw [hE]
   rfl
 · unfold heldP
   rw [hs]
   dsimp only
   rw [hy]
   exact decide_eq_true hne
set_option maxHeartbeats 2000000 in
theorem alive18_any (w : World) : Calls Tryz.prog 36 #[] w fun e w' => e = .returned (.bool true) ∧ Below w.heap.size w w' := by
 have H1 := zI (newN w)
 have HN := zI (fun n W => num18_any n W)
 have HC : Hid (∀ g W, Blk W g 52 setN0.cells → Calls Tryz.prog 10 #[.agg (tenN g).cells.toArray, .string ⟨#[]⟩, .string ⟨#[97]⟩] W fun e w' => ∃ y : MT_, e = .returned (.tuple #[.agg y.cells.toArray, .int .i64 1, .int .i64 0]) ∧ OwnTe W.heap.size w' y ∧ y.Good w' ∧ y.plain = tenS g ∧ Below W.heap.size W w') := zI fun g W k => by
  have := snapshot_any (tenN g) ByteArray.empty nA (by decide) (by decide) W (tenN_good k)
  rw [tenS_snap] at this
  exact this
 have HH : Hid (∀ (g : Nat) (y : MT_) W, y.plain = tenS g → y.Good W → Calls Tryz.prog 29 #[.agg y.cells.toArray, .string ⟨#[]⟩, .string ⟨#[97]⟩, .string ⟨#[104]⟩] W fun e w' => ∃ z : MT_, e = .returned (.tuple #[.agg z.cells.toArray, .int .i64 0]) ∧ OwnTe W.heap.size w' z ∧ z.Good w' ∧ z.plain = tenH g ∧ Below W.heap.size W w') := zI fun g y W hp hg => by
  have := hold18_any y ByteArray.empty nA nH (by decide) (by decide) W hg
  rw [hp, hold_isP, tenH_is] at this
  exact this
 have HD : Hid (∀ (g : Nat) (y : MT_) W, y.plain = tenH g → y.Good W → Calls Tryz.prog 12 #[.agg y.cells.toArray, .string ⟨#[]⟩, .string ⟨#[97]⟩] W fun e w' => ∃ z : MT_, e = .returned (.tuple #[.agg z.cells.toArray, .int .i64 43]) ∧ z.Good w' ∧ z.plain = noT ∧ Below W.heap.size W w') := zI fun g y W hp hg => by
  have := destroy17_any y ByteArray.empty nA (by decide) W hg
  rw [hp, (tenH_stays g).1] at this
  exact this.mono fun e w' ⟨y, a, _, b, c, d⟩ => ⟨y, a, b, c, d⟩
 have HE : Hid (∀ (g : Nat) (y : MT_) W, y.plain = tenH g → y.Good W → Calls Tryz.prog 35 #[.agg y.cells.toArray, .string ⟨#[]⟩, .string ⟨#[97]⟩] W fun e w' => e = .returned (.bool true) ∧ Below W.heap.size W w') := zI fun g y W hp hg => by
  have := held18_any y ByteArray.empty nA W hg
  rwa [held_isP, hp, (tenH_stays g).2] at this
 go_enter Tryz.func36, Tryz.ntmps36
 go_wp2_with fail
 refine H1.out.mono ?_
 rintro e w1 ⟨g, rfl, hb, hV1⟩
 obtain ⟨w2, hw2⟩ : ∃ w2, w1.alloc (.cells #[.string ⟨#[116]⟩, .int .i64 9, .int .i64 1, .slice (some ⟨g, 0, none⟩) 1 1, .slice none 0 0, .slice none 0 0, .slice none 0 0] 27) = w2 := ⟨_, rfl⟩
 have hV2 : Below w1.heap.size w1 w2 := hw2 ▸ (Below.refl _ w1).alloc (Nat.le_refl _) _
 have k2 : Blk w2 w1.heap.size 27 [.string ⟨#[116]⟩, .int .i64 9, .int .i64 1, .slice (some ⟨g, 0, none⟩) 1 1, .slice none 0 0, .slice none 0 0, .slice none 0 0] := hw2 ▸ Blk.new w1 _ _
 have hb2 := hb.of hV2
 have hX2 := hV1.trans (hV2.mono hV1.size)
 have HW2 := zI hw2
 clear hw2
 go_upto_region 2 with fail
 rw [HW2.out]
 obtain ⟨q0, q1, q2, q3, q4, q5, q6⟩ := k2.all7
 have HC2 := zI (HC.out g w2 hb2)
 go_wp2_with fail
 refine HC2.out.mono ?_
 rintro e w3 ⟨y, rfl, hoy, hgy, hpy, hV3⟩
 have hX3 := hX2.trans (hV3.mono hX2.size)
 have k3 := k2.of hV3
 have hl3 := k3.lt
 clear q0 q1 q2 q3 q4 q5 q6
 have hlw2 := k2.lt
 obtain ⟨z0, z1, z2, z3, z4, z5, z6⟩ := k3.all7
 obtain ⟨zf0, zf1, zf2, zf3, zf4, zf5, zf6⟩ := k3.fz7
 go_upto_region 3 with fail
 generalize hwE1 : World.setCell _ ⟨w1.heap.size, 6, none⟩ _ = u1
 obtain ⟨KE1, SE1, ZE1, BE1⟩ := store7 k3 hwE1
 clear z0 z1 z2 z3 z4 z5 z6 zf0 zf1 zf2 zf3 zf4 zf5 zf6 hwE1
 have ho1 := hoy.store hlw2 SE1
 have hg1 := MT_.Good.of_own hgy rfl ho1
 have HH2 := zI (HH.out g y u1 hpy hg1)
 have hX4 : Below w.heap.size w u1 := BE1 _ _ hX3 (hV1.size)
 clear hoy hgy ho1
 obtain ⟨q0, q1, q2, q3, q4, q5, q6⟩ := KE1.all7
 go_wp2_with fail
 refine HH2.out.mono ?_
 rintro e w5 ⟨z, rfl, hoz, hgz, hpz, hV5⟩
 have hX5 := hX4.trans (hV5.mono hX4.size)
 have k5 := KE1.of hV5
 have hlu := KE1.lt
 clear q0 q1 q2 q3 q4 q5 q6
 obtain ⟨z0, z1, z2, z3, z4, z5, z6⟩ := k5.all7
 obtain ⟨zf0, zf1, zf2, zf3, zf4, zf5, zf6⟩ := k5.fz7
 go_upto_region 4 with fail
 generalize hwE2 : World.setCell _ ⟨w1.heap.size, 6, none⟩ _ = u2
 obtain ⟨KE2, SE2, ZE2, BE2⟩ := store7 k5 hwE2
 clear z0 z1 z2 z3 z4 z5 z6 zf0 zf1 zf2 zf3 zf4 zf5 zf6 hwE2
 have ho2 := hoz.store hlu SE2
 have hg2 := MT_.Good.of_own hgz rfl ho2
 have HD2 := zI (HD.out g z u2 hpz hg2)
 have hX6 : Below w.heap.size w u2 := BE2 _ _ hX5 (hV1.size)
 clear hoz hgz ho2
 obtain ⟨q0, q1, q2, q3, q4, q5, q6⟩ := KE2.all7
 go_wp2_with fail
 refine HD2.out.mono ?_
 rintro e w7 ⟨d, rfl, hgd, hpd, hV7⟩
 have hX7 := hX6.trans (hV7.mono hX6.size)
 have k7 := KE2.of hV7
 clear q0 q1 q2 q3 q4 q5 q6
 obtain ⟨w8, hw8⟩ : ∃ w8, w7.alloc (.cells #[.string d.x_, .int .i64 d.r_, .int .i64 d.v_, .slice d.y_.A d.y_.l.length d.y_.c, .slice d.g_.A d.g_.l.length d.g_.c, .slice d.t_.A d.t_.l.length d.t_.c, .slice d.h_.A d.h_.l.length d.h_.c] 27) = w8 := ⟨_, rfl⟩
 have hV8 : Below w7.heap.size w7 w8 := hw8 ▸ (Below.refl _ w7).alloc (Nat.le_refl _) _
 have k8 := k7.of hV8
 have hX8 := hX7.trans (hV8.mono hX7.size)
 have hU8 : Below u2.heap.size u2 w8 := hV7.trans (hV8.mono hV7.size)
 have HE2 := zI (HE.out g z w8 hpz (hg2.below hU8))
 have HW8 := zI hw8
 clear hw8 hgd hpd hpz hg2 hpy hg1
 go_upto_region 5 with fail
 rw [HW8.out]
 obtain ⟨q0, q1, q2, q3, q4, q5, q6⟩ := k8.all7
 go_wp2_with fail
 refine (HN.out _ _).mono ?_
 rintro e w9 ⟨rfl, hw9⟩
 subst hw9
 go_wp2_with fail
 refine (HN.out _ _).mono ?_
 rintro e w9 ⟨rfl, hw9⟩
 subst hw9
 go_wp2_with fail
 refine HE2.out.mono ?_
 rintro e w9 ⟨rfl, hV9⟩
 go_wp2
 go_ret
 exact ⟨rfl, hX8.trans (hV9.mono hX8.size)⟩
end Go.Proofs.YtimmcmjipmkebaaGreat
