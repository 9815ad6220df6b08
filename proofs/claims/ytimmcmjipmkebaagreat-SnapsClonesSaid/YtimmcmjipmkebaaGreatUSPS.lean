/-
  snaps: what Rename asks. Conditions: the tenant is as it comes in.
-/
import Derived.Test.YtimmcmjipmkebaaGreatUSPQ
import Derived.Test.YtimmcmjipmkebaaGreatUHLB
import Derived.Test.YtimmcmjipmkebaaGreatUSPD
import Derived.Test.YtimmcmjipmkebaaGreatUHCR
namespace Go.Proofs.YtimmcmjipmkebaaGreat
open Go.ChangeShapes Go.WideShapes Go.ChangeAt Go.RowKit
set_option maxRecDepth 100000
set_option linter.unusedSimpArgs false
theorem renE_is (x : MTenant) (p n tt : ByteArray) : orL [okE x, whenI 31 ([!isPath (bs p), !isName (bs n), !isName (bs tt)].any id), whenI 71 ([decide (atN x p n < 0)].any id), whenI 6 ([decide (0 ≤ snapM (atS x p) tt)].any id)] = renE x.plain p n tt := by
  unfold renE
  by_cases hf : foundE x.plain p n (isName (bs tt)) true = 0
  · obtain ⟨h1, h2, h3, h4, j, s, k, y, a, b, b2, c, d, d3, d4, d2, e, _⟩ := found_zero hf
    have h8 : ¬ (k : Int) < 0 := by omega
    have h9 : (0 ≤ snapM s tt) ↔ hasSnap s.plain tt = true := by
      have h10 := findI_any (fun z : MSnap => decide (z.name_ = tt)) s.snaps_.l
      have h11 : s.snaps_.l.any (fun z : MSnap => decide (z.name_ = tt)) = hasSnap s.plain tt := by
        unfold hasSnap
        rw [show s.plain.snaps_ = s.snaps_.l.map MSnap.plain from rfl, List.any_map]
        rfl
      rw [← h11, ← h10, decide_eq_true_eq]
      exact Iff.rfl
    rw [hf, if_neg (fun h => h rfl), d, c, e]
    dsimp only
    simp only [h9]
    unfold whenI okE
    rw [h1, h2, h3, h4]
    rcases hA : hasSnap s.plain tt with _ | _ <;> simp [orL_cons, orL_nil, h8]
  · rw [if_pos hf, foundE_is]
    rw [foundE_is] at hf
    unfold whenI okE at *
    rcases h1 : okT x.plain with _ | _
    · simp [orL_cons, orL_nil]
    · rcases h2 : isPath (bs p) with _ | _
      · simp [orL_cons, orL_nil]
      · rcases h3 : isName (bs n) with _ | _
        · simp [orL_cons, orL_nil]
        · rcases h4 : isName (bs tt) with _ | _
          · simp [orL_cons, orL_nil]
          · rcases place_ways17 x p n with ⟨a, b, c, d, e⟩ | ⟨j, s, a, b, b2, c, d, d2, e, f, _⟩ | ⟨j, s, k, y, a, b, b2, c, d, d3, d4, d2, e, f, _⟩
            · rw [a, c]; simp [orL_cons, orL_nil]
            · have h7 : ¬ (j : Int) < 0 := by omega
              rw [a, d]; simp [orL_cons, orL_nil, h7]
            · have h7 : ¬ (j : Int) < 0 := by omega
              have h8 : ¬ (k : Int) < 0 := by omega
              rw [h1, h2, h3, h4, a, d] at hf
              exact absurd (by simp [orL_cons, orL_nil, h7, h8]) hf
theorem clBX_iff {p n o : ByteArray} (hp : isPath (bs p) = true) (hn : isName (bs n) = true) : clBX p n o = decide (o = atT p n) := by
  unfold clBX
  have hne : n ≠ ByteArray.empty := name_ne hn
  rcases hs : splitP o with _ | ⟨q, m⟩
  · dsimp only
    refine (decide_eq_false fun e => ?_).symm
    rw [e, splitP_join hp hn] at hs
    cases hs
  · dsimp only
    rw [Bool.eq_iff_iff]
    simp only [Bool.and_eq_true, Bool.or_eq_true, decide_eq_true_eq, hne, false_or]
    constructor
    · rintro ⟨rfl, rfl⟩
      exact (splitP_iff.1 hs).1
    · rintro rfl
      rw [splitP_join hp hn] at hs
      injection hs with hs
      injection hs with h1 h2
      exact ⟨h1.symm, h2.symm⟩
theorem nameSn_set {l : List PSnap} {k : Nat} {y : PSnap} {n tt : ByteArray} (hk : l[k]? = some y) (hn : y.name_ = n) (hnd : (l.map PSnap.name_).Nodup) : l.map (nameSn n tt) = l.set k { y with name_ := tt } := by
  obtain ⟨hl, he⟩ := List.getElem?_eq_some_iff.1 hk
  refine List.ext_getElem (by rw [List.length_map, List.length_set]) fun i h1 h2 => ?_
  rw [List.getElem_map, List.getElem_set]
  have hi : i < l.length := by rwa [List.length_map] at h1
  split
  · rename_i hki
    subst hki
    rw [he]
    unfold nameSn
    rw [if_pos hn]
  · rename_i hki
    unfold nameSn
    rw [if_neg]
    intro hin
    have hp := List.pairwise_iff_getElem.1 hnd
    rcases Nat.lt_or_gt_of_ne hki with h | h
    · exact hp k i (by rw [List.length_map]; exact hl) (by rw [List.length_map]; exact hi) h (by rw [List.getElem_map, List.getElem_map, he, hn, hin])
    · exact hp i k (by rw [List.length_map]; exact hi) (by rw [List.length_map]; exact hl) h (by rw [List.getElem_map, List.getElem_map, he, hn, hin])
def renO (o' : ByteArray) (L : List ByteArray) (q : PSet) : PSet := if (L.any fun a => decide (a = q.path_)) = true then { q with origin_ := o' } else q
theorem anyP (L : List ByteArray) (a : ByteArray) : (L.any fun b => decide (b = a)) = true ↔ a ∈ L := by
  rw [List.any_eq_true]
  constructor
  · rintro ⟨b, hb, h⟩
    rw [decide_eq_true_eq] at h
    exact h ▸ hb
  · intro h
    exact ⟨a, h, by rw [decide_eq_true_eq]⟩
theorem renO_pos {o' : ByteArray} {L : List ByteArray} {q : PSet} (h : q.path_ ∈ L) : renO o' L q = { q with origin_ := o' } := if_pos ((anyP L q.path_).2 h)
theorem renO_neg {o' : ByteArray} {L : List ByteArray} {q : PSet} (h : ¬ q.path_ ∈ L) : renO o' L q = q := if_neg fun h2 => h ((anyP L q.path_).1 h2)
theorem renO_path (o' : ByteArray) (L : List ByteArray) (q : PSet) : (renO o' L q).path_ = q.path_ := by unfold renO; split <;> rfl
theorem renO_none (o' : ByteArray) (q : PSet) : renO o' [] q = q := by exact renO_neg (by simp)
theorem renO_step (o' q0 : ByteArray) (L : List ByteArray) (x : PSet) : (if (renO o' L x).path_ = q0 then { renO o' L x with origin_ := o' } else renO o' L x) = renO o' (L ++ [q0]) x := by
  rw [renO_path]
  by_cases h2 : x.path_ = q0
  · rw [if_pos h2, renO_pos (o' := o') (L := L ++ [q0]) (q := x) (List.mem_append.2 (Or.inr (by rw [h2]; exact List.mem_singleton.2 rfl)))]
    by_cases h1 : x.path_ ∈ L
    · rw [renO_pos h1]
    · rw [renO_neg h1]
  · rw [if_neg h2]
    by_cases h1 : x.path_ ∈ L
    · rw [renO_pos h1, renO_pos (List.mem_append.2 (Or.inl h1))]
    · rw [renO_neg h1, renO_neg fun h => (List.mem_append.1 h).elim h1 fun h => h2 (List.mem_singleton.1 h)]
theorem clonesX_mem {x : MTenant} (hok : okT x.plain = true) {p n : ByteArray} (hp : isPath (bs p) = true) (hn : isName (bs n) = true) {z : PSet} (hz : z ∈ x.plain.sets_) : z.path_ ∈ clonesX x p n ↔ z.origin_ = atT p n := by
  have hr : x.plain.sets_.Pairwise fun a b => ltPath a b = true := ((goodL_iff ltPath_trans).1 (okT_parts.1 hok).2.2.2).2
  unfold clonesX
  constructor
  · intro h
    obtain ⟨s, hs, he⟩ := List.mem_map.1 h
    obtain ⟨hs1, hs2⟩ := List.mem_filter.1 hs
    rw [clBX_iff hp hn, decide_eq_true_eq] at hs2
    have h1 := rise_at hr (x := s.plain) (List.mem_map.2 ⟨s, hs1, rfl⟩)
    have h2 := rise_at hr hz
    rw [show s.plain.path_ = s.path_ from rfl, he, h2] at h1
    injection h1 with h1
    rw [h1]
    exact hs2
  · intro h
    obtain ⟨s, hs, rfl⟩ := List.mem_map.1 (show z ∈ x.sets_.l.map MSet.plain from hz)
    exact List.mem_map.2 ⟨s, List.mem_filter.2 ⟨hs, by rw [clBX_iff hp hn, decide_eq_true_eq]; exact h⟩, rfl⟩
theorem ren_all {x : MTenant} (hok : okT x.plain = true) {p n tt : ByteArray} (hp : isPath (bs p) = true) (hn : isName (bs n) = true) {j k : Nat} {s : MSet} {y : MSnap} (hj : x.sets_.l[j]? = some s) (hsp : s.path_ = p) (hk : s.snaps_.l[k]? = some y) (hyn : y.name_ = n) :
    (x.plain.sets_.set j { s.plain with snaps_ := s.plain.snaps_.set k { y.plain with name_ := tt } }).map (renO (atT p tt) (clonesX x p n)) = x.plain.sets_.map (renS p n tt (atT p n) (atT p tt)) := by
  have hnd : (s.plain.snaps_.map PSnap.name_).Nodup := (snapsB_parts.1 (setB_parts (set_ok17 hok hj)).2.2.1).2.1
  have h1 := nameSn_set (tt := tt) (l := s.plain.snaps_) (k := k) (y := y.plain) (by show (s.snaps_.l.map MSnap.plain)[k]? = _; rw [List.getElem?_map, hk]; rfl) hyn hnd
  rw [← h1, ← map_turn (f := fun z : PSet => { z with snaps_ := z.snaps_.map (nameSn n tt) }) hok (j := j) (s := s.plain) (by show (x.sets_.l.map MSet.plain)[j]? = _; rw [List.getElem?_map, hj]; rfl) hsp, List.map_map]
  refine List.map_congr_left fun z hz => ?_
  have hm := clonesX_mem hok hp hn hz
  show renO (atT p tt) (clonesX x p n) (if z.path_ = p then { z with snaps_ := z.snaps_.map (nameSn n tt) } else z) = renS p n tt (atT p n) (atT p tt) z
  unfold renS origT
  by_cases h2 : z.path_ = p
  · rw [if_pos h2]
    by_cases h3 : z.origin_ = atT p n
    · rw [renO_pos (q := { z with snaps_ := z.snaps_.map (nameSn n tt) }) (hm.2 h3), if_pos h3, if_pos h2]
    · rw [renO_neg (q := { z with snaps_ := z.snaps_.map (nameSn n tt) }) (fun h => h3 (hm.1 h)), if_neg h3, if_pos h2]
  · rw [if_neg h2]
    by_cases h3 : z.origin_ = atT p n
    · rw [renO_pos (hm.2 h3), if_pos h3, if_neg h2]
    · rw [renO_neg (fun h => h3 (hm.1 h)), if_neg h3, if_neg h2]
theorem ren_one {l : List PSet} (hr : l.Pairwise fun a b => ltPath a b = true) {i : Nat} {z : PSet} {q o' : ByteArray} (hi : l[i]? = some z) (hq : z.path_ = q) : l.set i { z with origin_ := o' } = l.map fun x => if x.path_ = q then { x with origin_ := o' } else x := by
  subst hq
  exact (chS_set (f := fun x : PSet => { x with origin_ := o' }) hr hi).symm
theorem flat_same {α : Type} (cells : α → List Value) : ∀ {l : List α} {j : Nat} {x y : α}, l[j]? = some x → cells y = cells x → (l.set j y).flatMap cells = l.flatMap cells
  | [], j, x, y, h, _ => by simp at h
  | a :: l, 0, x, y, h, hy => by
    rw [List.getElem?_cons_zero] at h
    injection h with h
    subst h
    rw [List.set_cons_zero, List.flatMap_cons, List.flatMap_cons, hy]
  | a :: l, j + 1, x, y, h, hy => by
    rw [List.getElem?_cons_succ] at h
    rw [List.set_cons_succ, List.flatMap_cons, List.flatMap_cons, flat_same cells h hy]
theorem mem_set_nameSn {l : List MSnap} {k : Nat} {z x : MSnap} (h : x ∈ l.set k z) : x = z ∨ x ∈ l := List.mem_or_eq_of_mem_set h |>.symm
theorem OwnTe.nameAt {n : Nat} {W : World} {y : MTenant} (h : OwnTe n W y) (hgy : y.Good W) (hsep : y.sets_.l.Pairwise SepS) {j : Nat} {t : MSet} (hj : y.sets_.l[j]? = some t) {k : Nat} {z : MSnap} (hk : t.snaps_.l[k]? = some z) {g0 : Nat} (hA : t.snaps_.A = some ⟨g0, 0, none⟩) {tt : ByteArray} (htt : tt.size ≤ 140737488351232) {t' : MSet} (ht' : (⟨t.path_, t.origin_, t.body_, ⟨some ⟨g0, 0, none⟩, t.snaps_.l.set k { z with name_ := tt }, t.snaps_.c⟩, t.own_⟩ : MSet) = t') :
    OwnTe n (W.setCell ⟨g0, k * 5, none⟩ (.string tt)) { y with sets_ := ⟨y.sets_.A, y.sets_.l.set j t', y.sets_.c⟩ } ∧ ({ y with sets_ := ⟨y.sets_.A, y.sets_.l.set j t', y.sets_.c⟩ } : MTenant).Good (W.setCell ⟨g0, k * 5, none⟩ (.string tt)) := by
  obtain ⟨V, hVd⟩ : ∃ V, W.setCell ⟨g0, k * 5, none⟩ (.string tt) = V := ⟨_, rfl⟩
  have h8 := h.eset t (List.mem_of_getElem? hj)
  have tG := hgy.gsets_.el t (List.mem_of_getElem? hj)
  have hown : t.snaps_.val.ownBlock = some g0 := by unfold Sl.val; rw [hA]; rfl
  have hV : ∀ b, b < W.heap.size → some b ≠ t.snaps_.val.ownBlock → V.heap[b]? = W.heap[b]? := fun b _ h2 => by
    rw [← hVd]
    exact heap_setCell_other W ⟨g0, k * 5, none⟩ b _ (fun e => h2 (by rw [hown]; exact congrArg some e))
  have hkV := sep_keeps h hj hV
  have hcs : t'.cells = t.cells := by
    rw [← ht']
    unfold MSet.cells
    rw [List.length_set, hA]
  have hsn : V.ownsRow n 49 5 t'.snaps_.val t'.snaps_.l.length (t'.snaps_.l.flatMap MSnap.cells) := by
    have h1 := h8.snaps
    unfold Sl.val at h1
    rw [hA] at h1
    have h2 := own_setIn h1 (k * 5 + 0) (.string tt)
    rw [← flat_set (y := { z with name_ := tt }) MSnap.cells (fun _ => rfl) hk rfl (by decide)] at h2
    rw [Nat.add_zero, hVd] at h2
    rw [← ht']
    unfold Sl.val
    rw [List.length_set]
    exact h2
  have hos : OwnSe n V t' := by
    refine ⟨?_, hsn, ?_, fun q hq => ?_⟩
    · rw [← ht']; exact own_keeps h8.body (by decide) hkV
    · rw [← ht']; exact own_keeps h8.own (by decide) hkV
    · rw [← ht'] at hq
      rcases mem_set_nameSn hq with rfl | hq
      · have h9 := (h8.each z (List.mem_of_getElem? hk)).keep hkV (by decide) (by decide) (by decide)
        exact ⟨h9.body, h9.tags, h9.own⟩
      · exact (h8.each q hq).keep hkV (by decide) (by decide) (by decide)
  have hgs : t'.Good V := by
    have hsn2 := hsn
    have hea := hos.each
    subst ht'
    refine ⟨tG.gpath_, tG.gorigin_, slGood_own tG.gbody_ rfl hos.body (fun q hq => tG.gbody_.el q hq), slGood_of hsn2 rfl (fun q hq => ?_) (by show (t.snaps_.l.set k _).length * 96 ≤ _; rw [List.length_set]; exact tG.gsnaps_.len), slGood_own tG.gown_ rfl hos.own (fun q hq => tG.gown_.el q hq)⟩
    rcases mem_set_nameSn hq with rfl | hq2
    · have h9 := hea _ hq
      have zG := tG.gsnaps_.el z (List.mem_of_getElem? hk)
      exact ⟨htt, zG.gguid_, slGood_own zG.gbody_ rfl h9.body (fun q hq => zG.gbody_.el q hq), slGood_own zG.gtags_ rfl h9.tags (fun q hq => zG.gtags_.el q hq), slGood_own zG.gown_ rfl h9.own (fun q hq => zG.gown_.el q hq)⟩
    · exact MSnap.Good.of_own (tG.gsnaps_.el q hq2) rfl (hea q hq)
  rw [hVd]
  have h0 : V.ownsRow n 52 5 y.sets_.val y.sets_.l.length (y.sets_.l.flatMap MSet.cells) := own_keeps h.sets (by decide) hkV
  have h1 : OwnTe n V { y with sets_ := ⟨y.sets_.A, y.sets_.l.set j t', y.sets_.c⟩ } := by
    refine ⟨?_, own_keeps h.grants (by decide) hkV, own_keeps h.stages (by decide) hkV, own_keeps h.log (by decide) hkV, fun x hx => ?_, fun x hx => (h.estage x hx).keep hkV (by decide) (by decide)⟩
    · show V.ownsRow n 52 5 (.slice y.sets_.A (y.sets_.l.set j t').length y.sets_.c) (y.sets_.l.set j t').length ((y.sets_.l.set j t').flatMap MSet.cells)
      rw [List.length_set, flat_same MSet.cells hj hcs]
      exact h0
    · rcases mem_set_ne hx with rfl | ⟨i, hi, hx⟩
      · exact hos
      · have h9 := h.eset x (List.mem_of_getElem? hx)
        exact ⟨own_keeps h9.body (by decide) hkV, sep_stays h hsep hj hV hi hx, own_keeps h9.own (by decide) hkV, fun z hz => (h9.each z hz).keep hkV (by decide) (by decide) (by decide)⟩
  refine ⟨h1, MTenant.Good.of_sets (x := y) hgy rfl (by show (y.sets_.l.set j t').length * 104 ≤ _; rw [List.length_set]; exact hgy.gsets_.len) (fun z hz => ?_) h1⟩
  rcases mem_set_ne hz with rfl | ⟨i, hi, hz2⟩
  · exact hgs
  · exact MSet.Good.of_own (hgy.gsets_.el z (List.mem_of_getElem? hz2)) rfl (h1.eset z hz)
theorem keepsT17 {W W' : World} {R : Nat} {cs : List Value} (hb : Blk W R 27 cs) (hs : ∀ b, b ≠ R → W'.heap[b]? = W.heap[b]?) : Keeps 27 W W' := fun b cur e' hbb hne => hs b fun e => by
  subst e
  unfold Blk at hb
  rw [hbb] at hb
  injection hb with hb
  injection hb with _ h6 _
  exact hne h6
theorem findM_there {z : MTenant} {q : ByteArray} (h : q ∈ z.sets_.l.map MSet.path_) : ∃ (i : Nat) (s : MSet), findM z q = i ∧ z.sets_.l[i]? = some s ∧ s.path_ = q := by
  obtain ⟨s0, h0, e0⟩ := List.mem_map.1 h
  rcases findI_ways (fun s : MSet => decide (s.path_ = q)) z.sets_.l with ⟨_, h2⟩ | ⟨i, s, h1, h2, h3, _⟩
  · have h9 := h2 s0 h0
    rw [decide_eq_false_iff_not] at h9
    exact absurd e0 h9
  · exact ⟨i, s, h1, h2, by rwa [decide_eq_true_eq] at h3⟩
set_option maxHeartbeats 4000000 in
theorem rename17_any (x : MTenant) (p n tt : ByteArray) (hp : p.size ≤ 140737488351232) (w : World) (hx : x.Good w) :
    Calls Tryz.prog 20 #[.agg x.cells.toArray, .string p, .string n, .string tt] w fun e w' => AnsT w (renP x.plain p n tt (atT p n) (atT p tt)) e w' := by
  obtain ⟨a1, hw1⟩ : ∃ a1, w.alloc (.cells #[.string x.name_, .int .i64 x.quota_, .int .i64 x.next_, .slice x.sets_.A x.sets_.l.length x.sets_.c, .slice x.grants_.A x.grants_.l.length x.grants_.c, .slice x.stages_.A x.stages_.l.length x.stages_.c, .slice x.log_.A x.log_.l.length x.log_.c] 27) = a1 := ⟨_, rfl⟩
  have b1 : Below w.heap.size w a1 := hw1 ▸ (Below.refl _ w).alloc (Nat.le_refl _) _
  have k1 : Blk a1 w.heap.size 27 [.string x.name_, .int .i64 x.quota_, .int .i64 x.next_, .slice x.sets_.A x.sets_.l.length x.sets_.c, .slice x.grants_.A x.grants_.l.length x.grants_.c, .slice x.stages_.A x.stages_.l.length x.stages_.c, .slice x.log_.A x.log_.l.length x.log_.c] := hw1 ▸ Blk.new w _ _
  obtain ⟨a2, hw2⟩ : ∃ a2, a1.alloc (.cells #[.string ⟨#[]⟩, .int .i64 0, .int .i64 0, .slice none 0 0, .slice none 0 0, .slice none 0 0, .slice none 0 0] 27) = a2 := ⟨_, rfl⟩
  have b2 : Below a1.heap.size a1 a2 := hw2 ▸ (Below.refl _ a1).alloc (Nat.le_refl _) _
  have k2 : Blk a2 a1.heap.size 27 [.string ⟨#[]⟩, .int .i64 0, .int .i64 0, .slice none 0 0, .slice none 0 0, .slice none 0 0, .slice none 0 0] := hw2 ▸ Blk.new a1 _ _
  have hX2 : w.heap.size + 1 = a1.heap.size := by rw [← hw1, World.size_alloc]
  have hB1 : Below w.heap.size w a1 := b1
  have hB2 : Below w.heap.size w a2 := hB1.trans (b2.mono hB1.size)
  have k1 := k1.of b2
  have hs2 := hB2.size
  have hs1 := hB1.size
  have ht1 : a1.heap.size ≤ a2.heap.size := b2.size
  have HW1 := Lib.hid hw1
  have HW2 := Lib.hid hw2
  clear hw1 b1 hw2 b2
  have hx2 := hx.below hB2
  have HXW := Lib.hid hx
  have HFD := Lib.hid (find17_any x p n a2 hx2)
  have HCK : Hid (∀ W, Below a2.heap.size a2 W → Calls Tryz.prog 42 #[.agg x.cells.toArray] W fun e w' => e = .returned (.int .i64 (okE x)) ∧ Below W.heap.size W w') := Lib.hid fun W hW => check_any14 x W (hx2.below hW)
  have HPT := Lib.hid (fun W => path_any p (Nat.le_trans hp (by decide)) W)
  have HNM := Lib.hid (fun W => name_any n W)
  have hlk1 := k1.lt
  have hlk2 := k2.lt
  have HG := Lib.hid hx2
  have hos := renE_is x p n tt
  obtain ⟨TB, hTB⟩ : ∃ TB, isName (bs tt) = TB := ⟨_, rfl⟩
  obtain ⟨CL, hCL⟩ : ∃ CL, clonesX x p n = CL := ⟨_, rfl⟩
  have HCLQ := Lib.hid hCL
  have HNM2 : Hid (∀ W, Calls Tryz.prog 45 #[.string tt] W fun e w' => e = .returned (.bool TB) ∧ W = w') := Lib.hid fun W => by
    have h9 := name_any tt W
    rwa [hTB] at h9
  have HCLN : Hid (∀ W, Below a2.heap.size a2 W → Calls Tryz.prog 50 #[.agg x.cells.toArray, .string p, .string n] W fun e w' => ∃ v, e = .returned v ∧ ownT w' W.heap.size v CL ∧ Below W.heap.size W w') := Lib.hid fun W hW => by
    have h9 := clonesX_any x p n W (hx2.below hW)
    rwa [hCL] at h9
  obtain ⟨SQ, hSQ⟩ : ∃ SQ, snapM (atS x p) tt = SQ := ⟨_, rfl⟩
  have HSNQ : Hid (∀ W, Below a2.heap.size a2 W → Calls Tryz.prog 64 #[.agg (atS x p).cells.toArray, .string tt] W fun e w' => e = .returned (.int .i64 SQ) ∧ Below W.heap.size W w') := Lib.hid fun W hW => by
    have h9 := snap_any (atS x p) tt W ((atS_good hx2).below hW).gsnaps_
    rwa [hSQ] at h9
  obtain ⟨I, hI⟩ : ∃ I, findM x p = I := ⟨_, rfl⟩
  obtain ⟨O, hO⟩ : ∃ O, atN x p n = O := ⟨_, rfl⟩
  obtain ⟨S, hS⟩ : ∃ S, atS x p = S := ⟨_, rfl⟩
  obtain ⟨Y, hY⟩ : ∃ Y, atY x p n = Y := ⟨_, rfl⟩
  obtain ⟨OK, hOK⟩ : ∃ OK, okE x = OK := ⟨_, rfl⟩
  obtain ⟨PB, hPB⟩ : ∃ PB, isPath (bs p) = PB := ⟨_, rfl⟩
  obtain ⟨NB, hNB⟩ : ∃ NB, isName (bs n) = NB := ⟨_, rfl⟩
  have HGS : Hid (S.Good a2) := Lib.hid (hS ▸ atS_good hx2)
  have hsl := HGS.out.gsnaps_.len
  rw [hSQ, hO, hOK, hPB, hNB, hTB] at hos
  rw [hI, hO, hS, hY] at HFD
  rw [hPB] at HPT
  rw [hNB] at HNM
  rw [hOK] at HCK
  have HII := Lib.hid hI
  have HOO := Lib.hid hO
  have HSS := Lib.hid hS
  have HYY := Lib.hid hY
  obtain ⟨R, hR⟩ : ∃ R, renP x.plain p n tt (atT p n) (atT p tt) = R := ⟨_, rfl⟩
  rw [hR]
  have HPR := Lib.hid hR
  obtain ⟨E, hE⟩ : ∃ E, renE x.plain p n tt = E := ⟨_, rfl⟩
  rw [hE] at hos
  obtain ⟨W31, hW31⟩ : ∃ W, whenI 31 ([!PB, !NB, !TB].any id) = W := ⟨_, rfl⟩
  obtain ⟨W36, hW36⟩ : ∃ W, whenI 71 ([decide (O < 0)].any id) = W := ⟨_, rfl⟩
  obtain ⟨W43, hW43⟩ : ∃ W, whenI 6 ([decide (0 ≤ SQ)].any id) = W := ⟨_, rfl⟩
  rw [hW31, hW36, hW43] at hos
  have HWW31 := Lib.hid hW31
  have HWW36 := Lib.hid hW36
  have HWW43 := Lib.hid hW43
  clear hW31 hW36 hW43
  have HOS := Lib.hid hos
  have HE := Lib.hid hE
  clear hI hO hS hY hOK hPB hNB hos hE hx hx2 hR
  obtain ⟨q0, q1, q2, q3, q4, q5, q6⟩ := k1.all7
  go_enter Tryz.func20, Tryz.ntmps20
  go_upto_region 1 with fail
  rw [HW1.out, HW2.out]
  try rw [hX2]
  go_wp2_with fail
  refine HFD.out.mono ?_
  rintro e w3 ⟨rfl, hV⟩
  have K1 := k1.of hV
  have K2 := k2.of hV
  have hs3 := hV.size
  obtain ⟨w4, hw4⟩ : ∃ w4, w3.alloc (.cells #[.int .i64 I, .int .i64 O, .string S.path_, .string S.origin_, .slice S.body_.A S.body_.l.length S.body_.c, .slice S.snaps_.A S.snaps_.l.length S.snaps_.c, .slice S.own_.A S.own_.l.length S.own_.c, .string Y.name_, .int .i64 Y.guid_, .slice Y.body_.A Y.body_.l.length Y.body_.c, .slice Y.tags_.A Y.tags_.l.length Y.tags_.c, .slice Y.own_.A Y.own_.l.length Y.own_.c] 67) = w4 := ⟨_, rfl⟩
  have hV4 : Below w3.heap.size w3 w4 := hw4 ▸ (Below.refl _ w3).alloc (Nat.le_refl _) _
  have kP : Blk w4 w3.heap.size 67 [.int .i64 I, .int .i64 O, .string S.path_, .string S.origin_, .slice S.body_.A S.body_.l.length S.body_.c, .slice S.snaps_.A S.snaps_.l.length S.snaps_.c, .slice S.own_.A S.own_.l.length S.own_.c, .string Y.name_, .int .i64 Y.guid_, .slice Y.body_.A Y.body_.l.length Y.body_.c, .slice Y.tags_.A Y.tags_.l.length Y.tags_.c, .slice Y.own_.A Y.own_.l.length Y.own_.c] := hw4 ▸ Blk.new w3 _ _
  have K1 := K1.of hV4
  have K2 := K2.of hV4
  have hV25 := hV.trans (hV4.mono hs3)
  have hs25 := hV25.size
  have hlT := K1.lt
  have hlP := kP.lt
  have HW4 := Lib.hid hw4
  clear hw4 q0 q1 q2 q3 q4 q5 q6
  clear hTB hCL hSQ
  rw [HSS.out] at HSNQ
  go_upto_region 2 with fail
  rw [HW4.out]
  obtain ⟨t0, t1, t2, t3, t4, t5, t6⟩ := K1.all7
  obtain ⟨c0, c1, c2, c3, c4, c5, c6, c7, c8, c9, c10, c11⟩ := kP.all12
  refine wp_region_noPanic ?_
  refine wp_region_last 27 (fun W => W.cell? ⟨w.heap.size, 0, none⟩ = some (.string x.name_) ∧ W.cell? ⟨w.heap.size, 1, none⟩ = some (.int .i64 x.quota_) ∧ W.cell? ⟨w.heap.size, 2, none⟩ = some (.int .i64 x.next_) ∧ W.cell? ⟨w.heap.size, 3, none⟩ = some (.slice x.sets_.A x.sets_.l.length x.sets_.c) ∧ W.cell? ⟨w.heap.size, 4, none⟩ = some (.slice x.grants_.A x.grants_.l.length x.grants_.c) ∧ W.cell? ⟨w.heap.size, 5, none⟩ = some (.slice x.stages_.A x.stages_.l.length x.stages_.c) ∧ W.cell? ⟨w.heap.size, 6, none⟩ = some (.slice x.log_.A x.log_.l.length x.log_.c) ∧ W.cell? ⟨w3.heap.size, 0, none⟩ = some (.int .i64 I) ∧ W.cell? ⟨w3.heap.size, 1, none⟩ = some (.int .i64 O) ∧ W.cell? ⟨w3.heap.size, 2, none⟩ = some (.string S.path_) ∧ W.cell? ⟨w3.heap.size, 3, none⟩ = some (.string S.origin_) ∧ W.cell? ⟨w3.heap.size, 4, none⟩ = some (.slice S.body_.A S.body_.l.length S.body_.c) ∧ W.cell? ⟨w3.heap.size, 5, none⟩ = some (.slice S.snaps_.A S.snaps_.l.length S.snaps_.c) ∧ W.cell? ⟨w3.heap.size, 6, none⟩ = some (.slice S.own_.A S.own_.l.length S.own_.c) ∧ W.cell? ⟨w3.heap.size, 7, none⟩ = some (.string Y.name_) ∧ W.cell? ⟨w3.heap.size, 8, none⟩ = some (.int .i64 Y.guid_) ∧ W.cell? ⟨w3.heap.size, 9, none⟩ = some (.slice Y.body_.A Y.body_.l.length Y.body_.c) ∧ W.cell? ⟨w3.heap.size, 10, none⟩ = some (.slice Y.tags_.A Y.tags_.l.length Y.tags_.c) ∧ W.cell? ⟨w3.heap.size, 11, none⟩ = some (.slice Y.own_.A Y.own_.l.length Y.own_.c)) (by kernel_rfl) ⟨t0, t1, t2, t3, t4, t5, t6, c0, c1, c2, c3, c4, c5, c6, c7, c8, c9, c10, c11⟩ (fun hHeld => ?_)
  refine tkA 16 (i := 0) (oi := ⟨some 19, _, _, _, _, _⟩) rfl hHeld ?_
  try simp only [Act.put, pZa, pZb, pZc]
  refine tkA 16 (i := 2) (oi := ⟨some 21, _, _, _, _, _⟩) rfl hHeld ?_
  try simp only [Act.put, pZa, pZb, pZc]
  refine tkA 16 (i := 5) (oi := ⟨some 24, _, _, _, _, _⟩) rfl hHeld ?_
  try simp only [Act.put, pZa, pZb, pZc]
  refine tkA 16 (i := 8) (oi := ⟨some 27, _, _, _, _, _⟩) rfl hHeld ?_
  try simp only [Act.put, pZa, pZb, pZc]
  refine tkA 16 (i := 13) (oi := ⟨some 32, _, _, _, _, _⟩) rfl hHeld ?_
  try simp only [Act.put, pZa, pZb, pZc]
  refine tkA 16 (i := 14) (oi := ⟨some 33, _, _, _, _, _⟩) rfl hHeld ?_
  try simp only [Act.put, pZa, pZb, pZc]
  refine tkA 16 (i := 15) (oi := ⟨some 34, _, _, _, _, _⟩) rfl hHeld ?_
  try simp only [Act.put, pZa, pZb, pZc]
  refine tkA 16 (i := 18) (oi := ⟨some 37, _, _, _, _, _⟩) rfl hHeld ?_
  try simp only [Act.put, pZa, pZb, pZc]
  refine tkA 16 (i := 19) (oi := ⟨some 38, _, _, _, _, _⟩) rfl hHeld ?_
  try simp only [Act.put, pZa, pZb, pZc]
  refine tkA 16 (i := 20) (oi := ⟨some 39, _, _, _, _, _⟩) rfl hHeld ?_
  try simp only [Act.put, pZa, pZb, pZc]
  clear hHeld
  refine wpAnyL_facts 16 17 1 [(1, 20), (3, 22), (4, 23), (6, 25), (7, 26), (9, 28), (10, 29), (11, 30), (12, 31), (16, 35), (17, 36), (21, 40), (22, 41), (23, 42), (24, 43), (25, 44), (26, 45)] (fun s v w => match s with
    | 20 => v = .int .i64 OK
    | 22 => v = .bool PB
    | 23 => v = .bool (!PB)
    | 25 => v = .bool NB
    | 26 => v = .bool (!NB)
    | 28 => v = .bool TB
    | 29 => v = .bool (!TB)
    | 30 => ∃ g, v = .slice (some ⟨g, 0, none⟩) 3 3 ∧ Blk w g 4 [.bool (!PB), .bool (!NB), .bool (!TB)]
    | 31 => v = .int .i64 W31
    | 35 => ∃ g, v = .slice (some ⟨g, 0, none⟩) 1 1 ∧ Blk w g 4 [.bool (decide (O < 0))]
    | 36 => v = .int .i64 W36
    | 40 => v = .int .i64 SQ
    | 41 => v = .bool (decide (0 ≤ SQ))
    | 42 => ∃ g, v = .slice (some ⟨g, 0, none⟩) 1 1 ∧ Blk w g 4 [.bool (decide (0 ≤ SQ))]
    | 43 => v = .int .i64 W43
    | 44 => ∃ g, v = .slice (some ⟨g, 0, none⟩) 4 4 ∧ Blk w g 28 [.int .i64 (OK), .int .i64 (W31), .int .i64 (W36), .int .i64 (W43)]
    | 45 => v = .int .i64 E
    | _ => True) (fun w w' => Below w.heap.size w w') (by kernel_rfl) (by kernel_rfl) bZh ⟨?_, ?_, ?_, ?_, ?_, ?_, ?_, ?_, ?_, ?_, ?_, ?_, ?_, ?_, ?_, ?_, ?_, trivial⟩ (fun w' hB => ⟨(hB.cell (p := ⟨w.heap.size, 0, none⟩) hlT).trans t0, (hB.cell (p := ⟨w.heap.size, 1, none⟩) hlT).trans t1, (hB.cell (p := ⟨w.heap.size, 2, none⟩) hlT).trans t2, (hB.cell (p := ⟨w.heap.size, 3, none⟩) hlT).trans t3, (hB.cell (p := ⟨w.heap.size, 4, none⟩) hlT).trans t4, (hB.cell (p := ⟨w.heap.size, 5, none⟩) hlT).trans t5, (hB.cell (p := ⟨w.heap.size, 6, none⟩) hlT).trans t6, (hB.cell (p := ⟨w3.heap.size, 0, none⟩) hlP).trans c0, (hB.cell (p := ⟨w3.heap.size, 1, none⟩) hlP).trans c1, (hB.cell (p := ⟨w3.heap.size, 2, none⟩) hlP).trans c2, (hB.cell (p := ⟨w3.heap.size, 3, none⟩) hlP).trans c3, (hB.cell (p := ⟨w3.heap.size, 4, none⟩) hlP).trans c4, (hB.cell (p := ⟨w3.heap.size, 5, none⟩) hlP).trans c5, (hB.cell (p := ⟨w3.heap.size, 6, none⟩) hlP).trans c6, (hB.cell (p := ⟨w3.heap.size, 7, none⟩) hlP).trans c7, (hB.cell (p := ⟨w3.heap.size, 8, none⟩) hlP).trans c8, (hB.cell (p := ⟨w3.heap.size, 9, none⟩) hlP).trans c9, (hB.cell (p := ⟨w3.heap.size, 10, none⟩) hlP).trans c10, (hB.cell (p := ⟨w3.heap.size, 11, none⟩) hlP).trans c11⟩) ⟨?_, ?_, ?_, ?_, ?_, ?_, ?_, ?_, ?_, ?_, ?_, ?_, ?_, ?_, ?_, ?_, ?_, trivial⟩ ?_
  focus
    intro v w w' h hB
    exact h
  focus
    intro v w w' h hB
    exact h
  focus
    intro v w w' h hB
    exact h
  focus
    intro v w w' h hB
    exact h
  focus
    intro v w w' h hB
    exact h
  focus
    intro v w w' h hB
    exact h
  focus
    intro v w w' h hB
    exact h
  focus
    intro v w w' h hB
    exact (by obtain ⟨g, e, hb⟩ := h; exact ⟨g, e, hb.below hB hb.lt⟩)
  focus
    intro v w w' h hB
    exact h
  focus
    intro v w w' h hB
    exact (by obtain ⟨g, e, hb⟩ := h; exact ⟨g, e, hb.below hB hb.lt⟩)
  focus
    intro v w w' h hB
    exact h
  focus
    intro v w w' h hB
    exact h
  focus
    intro v w w' h hB
    exact h
  focus
    intro v w w' h hB
    exact (by obtain ⟨g, e, hb⟩ := h; exact ⟨g, e, hb.below hB hb.lt⟩)
  focus
    intro v w w' h hB
    exact h
  focus
    intro v w w' h hB
    exact (by obtain ⟨g, e, hb⟩ := h; exact ⟨g, e, hb.below hB hb.lt⟩)
  focus
    intro v w w' h hB
    exact h
  focus
    intro vs w2 hBf hFf o ho K hK
    obtain rfl : (⟨some 20, _, _, _, _, _⟩ : Oper) = o := Option.some.inj ho
    clear ho
    (try simp only [fillL, pZd, pZe, Act.put, pZa, pZb, pZc] at hK ⊢)
    have WB : Below w4.heap.size w4 w2 := (Below.refl w4.heap.size w4).drew.trans hBf
    go_simp
    refine (HCK.out w2 (hV25.trans (WB.mono hs25))).mono ?_
    rintro e w4 ⟨rfl, hB4⟩
    exact hK.out _ _ ⟨rfl, hB4⟩
  focus
    intro vs w2 hBf hFf o ho K hK
    obtain rfl : (⟨some 22, _, _, _, _, _⟩ : Oper) = o := Option.some.inj ho
    clear ho
    (try simp only [fillL, pZd, pZe, Act.put, pZa, pZb, pZc] at hK ⊢)
    have WB : Below w4.heap.size w4 w2 := (Below.refl w4.heap.size w4).drew.trans hBf
    go_simp
    refine (HPT.out w2).mono ?_
    rintro e w4 ⟨rfl, hB4⟩
    exact hK.out _ _ ⟨rfl, hB4⟩
  focus
    intro vs w2 hBf hFf o ho K hK
    obtain rfl : (⟨some 23, _, _, _, _, _⟩ : Oper) = o := Option.some.inj ho
    clear ho
    (try simp only [fillL, pZd, pZe, Act.put, pZa, pZb, pZc] at hK ⊢)
    have e22 := (hFf (3, 22) (by simp) (by kernel_rfl))
    simp only [] at e22
    simp only [e22] at hK ⊢
    go_simp
    exact hK.out _ _ ⟨rfl, Below.refl _ _⟩
  focus
    intro vs w2 hBf hFf o ho K hK
    obtain rfl : (⟨some 25, _, _, _, _, _⟩ : Oper) = o := Option.some.inj ho
    clear ho
    (try simp only [fillL, pZd, pZe, Act.put, pZa, pZb, pZc] at hK ⊢)
    go_simp
    refine (HNM.out w2).mono ?_
    rintro e w4 ⟨rfl, rfl⟩
    exact hK.out _ _ ⟨rfl, Below.refl _ _⟩
  focus
    intro vs w2 hBf hFf o ho K hK
    obtain rfl : (⟨some 26, _, _, _, _, _⟩ : Oper) = o := Option.some.inj ho
    clear ho
    (try simp only [fillL, pZd, pZe, Act.put, pZa, pZb, pZc] at hK ⊢)
    have e25 := (hFf (6, 25) (by simp) (by kernel_rfl))
    simp only [] at e25
    simp only [e25] at hK ⊢
    go_simp
    exact hK.out _ _ ⟨rfl, Below.refl _ _⟩
  focus
    intro vs w2 hBf hFf o ho K hK
    obtain rfl : (⟨some 28, _, _, _, _, _⟩ : Oper) = o := Option.some.inj ho
    clear ho
    (try simp only [fillL, pZd, pZe, Act.put, pZa, pZb, pZc] at hK ⊢)
    go_simp
    refine (HNM2.out w2).mono ?_
    rintro e w4 ⟨rfl, rfl⟩
    exact hK.out _ _ ⟨rfl, Below.refl _ _⟩
  focus
    intro vs w2 hBf hFf o ho K hK
    obtain rfl : (⟨some 29, _, _, _, _, _⟩ : Oper) = o := Option.some.inj ho
    clear ho
    (try simp only [fillL, pZd, pZe, Act.put, pZa, pZb, pZc] at hK ⊢)
    have e28 := (hFf (9, 28) (by simp) (by kernel_rfl))
    simp only [] at e28
    simp only [e28] at hK ⊢
    go_simp
    exact hK.out _ _ ⟨rfl, Below.refl _ _⟩
  focus
    intro vs w2 hBf hFf o ho K hK
    obtain rfl : (⟨some 30, _, _, _, _, _⟩ : Oper) = o := Option.some.inj ho
    clear ho
    (try simp only [fillL, pZd, pZe, Act.put, pZa, pZb, pZc] at hK ⊢)
    have e23 := (hFf (4, 23) (by simp) (by kernel_rfl))
    simp only [] at e23
    simp only [e23] at hK ⊢
    have e26 := (hFf (7, 26) (by simp) (by kernel_rfl))
    simp only [] at e26
    simp only [e26] at hK ⊢
    have e29 := (hFf (10, 29) (by simp) (by kernel_rfl))
    simp only [] at e29
    simp only [e29] at hK ⊢
    go_simp
    refine hK.out _ _ ⟨⟨w2.heap.size, rfl, Blk.new w2 _ _⟩, (Below.refl _ w2).alloc (Nat.le_refl _) _⟩
  focus
    intro vs w2 hBf hFf o ho K hK
    obtain rfl : (⟨some 31, _, _, _, _, _⟩ : Oper) = o := Option.some.inj ho
    clear ho
    (try simp only [fillL, pZd, pZe, Act.put, pZa, pZb, pZc] at hK ⊢)
    obtain ⟨g9, e9, hb9⟩ := (hFf (11, 30) (by simp) (by kernel_rfl))
    simp only [e9] at hK ⊢
    go_simp
    refine (when_any 31 [!PB, !NB, !TB] 3 rfl (by simp) g9 w2 (blB (l := [!PB, !NB, !TB]) hb9)).mono ?_
    rintro e w4 ⟨rfl, rfl⟩
    exact hK.out _ _ ⟨by rw [HWW31.out], Below.refl _ _⟩
  focus
    intro vs w2 hBf hFf o ho K hK
    obtain rfl : (⟨some 35, _, _, _, _, _⟩ : Oper) = o := Option.some.inj ho
    clear ho
    (try simp only [fillL, pZd, pZe, Act.put, pZa, pZb, pZc] at hK ⊢)
    go_simp
    refine hK.out _ _ ⟨⟨w2.heap.size, rfl, Blk.new w2 _ _⟩, (Below.refl _ w2).alloc (Nat.le_refl _) _⟩
  focus
    intro vs w2 hBf hFf o ho K hK
    obtain rfl : (⟨some 36, _, _, _, _, _⟩ : Oper) = o := Option.some.inj ho
    clear ho
    (try simp only [fillL, pZd, pZe, Act.put, pZa, pZb, pZc] at hK ⊢)
    obtain ⟨g9, e9, hb9⟩ := (hFf (16, 35) (by simp) (by kernel_rfl))
    simp only [e9] at hK ⊢
    go_simp
    refine (when_any 71 [decide (O < 0)] 1 rfl (by simp) g9 w2 (blB (l := [decide (O < 0)]) hb9)).mono ?_
    rintro e w4 ⟨rfl, rfl⟩
    exact hK.out _ _ ⟨by rw [HWW36.out], Below.refl _ _⟩
  focus
    intro vs w2 hBf hFf o ho K hK
    obtain rfl : (⟨some 40, _, _, _, _, _⟩ : Oper) = o := Option.some.inj ho
    clear ho
    (try simp only [fillL, pZd, pZe, Act.put, pZa, pZb, pZc] at hK ⊢)
    have WB : Below w4.heap.size w4 w2 := (Below.refl w4.heap.size w4).drew.trans hBf
    go_simp
    refine (HSNQ.out w2 (hV25.trans (WB.mono hs25))).mono ?_
    rintro e w4 ⟨rfl, hB4⟩
    exact hK.out _ _ ⟨rfl, hB4⟩
  focus
    intro vs w2 hBf hFf o ho K hK
    obtain rfl : (⟨some 41, _, _, _, _, _⟩ : Oper) = o := Option.some.inj ho
    clear ho
    (try simp only [fillL, pZd, pZe, Act.put, pZa, pZb, pZc] at hK ⊢)
    have e40 := (hFf (21, 40) (by simp) (by kernel_rfl))
    simp only [] at e40
    simp only [e40] at hK ⊢
    go_simp
    exact hK.out _ _ ⟨rfl, Below.refl _ _⟩
  focus
    intro vs w2 hBf hFf o ho K hK
    obtain rfl : (⟨some 42, _, _, _, _, _⟩ : Oper) = o := Option.some.inj ho
    clear ho
    (try simp only [fillL, pZd, pZe, Act.put, pZa, pZb, pZc] at hK ⊢)
    have e41 := (hFf (22, 41) (by simp) (by kernel_rfl))
    simp only [] at e41
    simp only [e41] at hK ⊢
    go_simp
    refine hK.out _ _ ⟨⟨w2.heap.size, rfl, Blk.new w2 _ _⟩, (Below.refl _ w2).alloc (Nat.le_refl _) _⟩
  focus
    intro vs w2 hBf hFf o ho K hK
    obtain rfl : (⟨some 43, _, _, _, _, _⟩ : Oper) = o := Option.some.inj ho
    clear ho
    (try simp only [fillL, pZd, pZe, Act.put, pZa, pZb, pZc] at hK ⊢)
    obtain ⟨g9, e9, hb9⟩ := (hFf (23, 42) (by simp) (by kernel_rfl))
    simp only [e9] at hK ⊢
    go_simp
    refine (when_any 6 [decide (0 ≤ SQ)] 1 rfl (by simp) g9 w2 (blB (l := [decide (0 ≤ SQ)]) hb9)).mono ?_
    rintro e w4 ⟨rfl, rfl⟩
    exact hK.out _ _ ⟨by rw [HWW43.out], Below.refl _ _⟩
  focus
    intro vs w2 hBf hFf o ho K hK
    obtain rfl : (⟨some 44, _, _, _, _, _⟩ : Oper) = o := Option.some.inj ho
    clear ho
    (try simp only [fillL, pZd, pZe, Act.put, pZa, pZb, pZc] at hK ⊢)
    have e20 := (hFf (1, 20) (by simp) (by kernel_rfl))
    simp only [] at e20
    simp only [e20] at hK ⊢
    have e31 := (hFf (12, 31) (by simp) (by kernel_rfl))
    simp only [] at e31
    simp only [e31] at hK ⊢
    have e36 := (hFf (17, 36) (by simp) (by kernel_rfl))
    simp only [] at e36
    simp only [e36] at hK ⊢
    have e43 := (hFf (24, 43) (by simp) (by kernel_rfl))
    simp only [] at e43
    simp only [e43] at hK ⊢
    go_simp
    refine hK.out _ _ ⟨⟨w2.heap.size, rfl, Blk.new w2 _ _⟩, (Below.refl _ w2).alloc (Nat.le_refl _) _⟩
  focus
    intro vs w2 hBf hFf o ho K hK
    obtain rfl : (⟨some 45, _, _, _, _, _⟩ : Oper) = o := Option.some.inj ho
    clear ho
    (try simp only [fillL, pZd, pZe, Act.put, pZa, pZb, pZc] at hK ⊢)
    obtain ⟨g9, e9, hb9⟩ := (hFf (25, 44) (by simp) (by kernel_rfl))
    simp only [e9] at hK ⊢
    go_simp
    refine (cmpOrL_any [OK, W31, W36, W43] 4 rfl (by simp) g9 w2 (blI (l := [OK, W31, W36, W43]) hb9)).mono ?_
    rintro e w4 ⟨rfl, rfl⟩
    exact hK.out _ _ ⟨by rw [HOS.out], Below.refl _ _⟩
  intro vs w2 hBf hFf
  (try simp only [fillL, pZd, pZe, Act.put, pZa, pZb, pZc])
  have h9 := (hFf (26, 45) (by simp))
  simp only [] at h9
  simp only [h9]
  have hBw : Below w4.heap.size w4 w2 := (Below.refl w4.heap.size w4).drew.trans hBf
  refine wpAnyL_last (i := 27) (o := ⟨some 11, _, _, _, _, _⟩) (by kernel_rfl) rfl (by kernel_rfl) (fun K hK => ?_)
  go_simp
  refine hK.out _ _ ?_
  clear hK K
  try simp only [Act.put, pZa, pZb, pZc]
  refine wpAnyL_done (by kernel_rfl) ?_ _
  refine NoPanic.normal ?_
  obtain ⟨v8, hv8⟩ : ∃ v, v = w2 := ⟨_, rfl⟩
  subst hv8
  have K1 := K1.of hBw
  have K2 := K2.of hBw
  have kP := kP.of hBw
  have hV2w := hV25.trans (hBw.mono hs25)
  have hB0w := hB2.trans (hV2w.mono hs2)
  have hs2w := hV2w.size
  have hs0w := hB0w.size
  clear h9 hFf hBf t0 t1 t2 t3 t4 t5 t6 c0 c1 c2 c3 c4 c5 c6 c7 c8 c9 c10 c11 HCK HPT HNM
  by_cases hz : E = 0
  · subst hz
    have hf : foundE x.plain p n (isName (bs tt)) true = 0 := by
      have h9 := HE.out
      unfold renE at h9
      by_cases h8 : foundE x.plain p n (isName (bs tt)) true = 0
      · exact h8
      · rw [if_pos h8] at h9
        exact absurd h9 h8
    have hit : isName (bs tt) = true := (found_ways hf).2.2.2.1
    obtain ⟨hok, hip, hin, _, j, s, k, y0, hIj, hj, hsp, hSs, hOk, hk, hyn0, hYs, hsa, hhs, hso, hsm, htk⟩ := found_zero hf
    rw [HII.out] at hIj
    rw [HSS.out] at hSs
    rw [HOO.out] at hOk
    rw [HYY.out] at hYs
    subst hIj hOk
    obtain rfl : s = S := hSs.symm
    obtain rfl : y0 = Y := hYs.symm
    have hjl : j < x.sets_.l.length := (List.getElem?_eq_some_iff.1 hj).1
    have hkl : k < s.snaps_.l.length := (List.getElem?_eq_some_iff.1 hk).1
    have h17 := (snaps_ok17 hok hj).2
    have hRP : R = (mapP x.plain (renS p n tt (atT p n) (atT p tt)) x.plain.next_, 0) := by
      rw [← HPR.out]
      unfold renP
      rw [if_neg (fun h => h HE.out)]
    have hRA := ren_all (tt := tt) hok hip hin hj hsp hk hyn0
    have hrise : x.plain.sets_.Pairwise fun a b => ltPath a b = true := ((goodL_iff ltPath_trans).1 (okT_parts.1 hok).2.2.2).2
    rw [HCLQ.out] at hRA
    have HRA := Lib.hid hRA
    have HRISE := Lib.hid hrise
    have HRP := Lib.hid hRP
    have HJ := Lib.hid hj
    have HK := Lib.hid hk
    have HIT := Lib.hid hit
    have HJN : Hid (∀ W, Calls Tryz.prog 59 #[.string p, .string tt] W fun e w' => e = .returned (.string (atT p tt)) ∧ W = w') := Lib.hid fun W => by
      have h9 := join17_any p tt hp (by have := user_len hit; omega) W
      rwa [join_at] at h9
    have HIP := Lib.hid hip
    have hCLl : CL.length ≤ 32 := by
      have h1 : x.sets_.l.length ≤ 32 := by
        have h9 := (okT_parts.1 hok).2.1
        rwa [show x.plain.sets_ = x.sets_.l.map MSet.plain from rfl, List.length_map] at h9
      have h2 : CL.length ≤ x.sets_.l.length := by
        rw [← HCLQ.out]
        unfold clonesX
        rw [List.length_map]
        exact List.length_filter_le _ _
      omega
    have HCM := Lib.hid (fun z (hz : z ∈ x.plain.sets_) => clonesX_mem hok hip hin hz)
    rw [HCLQ.out] at HCM
    clear hf hok hip hin hj hsp hSs hk hyn0 hYs hsa hhs hso hsm htk hRP HE HOS HPR hit hRA hrise
    obtain ⟨d0, d1, d2, d3, d4, d5, d6⟩ := K1.all7
    obtain ⟨df0, df1, df2, df3, df4, df5, df6⟩ := K1.fz7
    go_wp2_with fail
    refine (HCLN.out _ hV2w).mono ?_
    rintro e v9 ⟨vC, rfl, hoC, hVC⟩
    obtain ⟨AC, cC, hvC, hcC, hnC, _, hn0C⟩ := ownAny hoC
    subst hvC
    have HOC := Lib.hid hoC
    have K1 := K1.of hVC
    have K2 := K2.of hVC
    have kP := kP.of hVC
    have hV2w := hV2w.trans (hVC.mono hs2w)
    have hB0w := hB2.trans (hV2w.mono hs2)
    have hs2w := hV2w.size
    have hs0w := hB0w.size
    have hs89 := hVC.size
    have HC := Lib.hid (copy_sep x v9 (HG.out.below hV2w))
    clear hoC hcC hnC hn0C d0 d1 d2 d3 d4 d5 d6 df0 df1 df2 df3 df4 df5 df6
    obtain ⟨d0, d1, d2, d3, d4, d5, d6⟩ := K1.all7
    obtain ⟨df0, df1, df2, df3, df4, df5, df6⟩ := K1.fz7
    go_wp2_with fail
    refine HC.out.mono ?_
    rintro e w6 ⟨y, rfl, hoy, hpy, hsep, hV6⟩
    have hV26 := hV2w.trans (hV6.mono hs2w)
    have K3 := K1.of hV6
    have K4 := K2.of hV6
    have kP3 := kP.of hV6
    have hlk3 := K3.lt
    have hgy : y.Good w6 := MTenant.Good.of_own HG.out hpy hoy
    have hyl : y.sets_.l.map MSet.plain = x.sets_.l.map MSet.plain := congrArg PTenant.sets_ hpy
    have hyn : y.sets_.l.length = x.sets_.l.length := map_len hyl
    have hjy : j < y.sets_.l.length := by rw [hyn]; exact hjl
    obtain ⟨t, hjt⟩ : ∃ t, y.sets_.l[j]? = some t := ⟨_, qZa hjy⟩
    have htp : t.plain = s.plain := by
      have h9 : (y.sets_.l.map MSet.plain)[j]? = some t.plain := by rw [List.getElem?_map, hjt]; rfl
      rw [hyl, List.getElem?_map, HJ.out] at h9
      simp only [Option.map_some, Option.some.injEq] at h9
      exact h9.symm
    obtain ⟨b, off, hA, hbl, hcc⟩ := Rd.elem (n := 5) (fun _ => rfl) (by omega) hgy.gsets_.rd hjt
    have hoff : off = 0 ∧ v9.heap.size ≤ b := by
      have h9 := row_blk hoy.sets hA
      have h8 := h9.2.2
      injection h8 with _ h8
      exact ⟨h8, h9.1⟩
    obtain ⟨rfl, hbn⟩ := hoff
    have htl0 : t.snaps_.l.length = s.snaps_.l.length := by
      have h9 : t.plain.snaps_.length = s.plain.snaps_.length := by rw [htp]
      rwa [show t.plain.snaps_ = t.snaps_.l.map MSnap.plain from rfl, show s.plain.snaps_ = s.snaps_.l.map MSnap.plain from rfl, List.length_map, List.length_map] at h9
    have htl : t.snaps_.l.length ≤ 16 := by omega
    obtain ⟨e0, e1, e2, e3, e4, e5, e6⟩ := K3.all7
    obtain ⟨ef0, ef1, ef2, ef3, ef4, ef5, ef6⟩ := K3.fz7
    clear d0 d1 d2 d3 d4 d5 d6 df0 df1 df2 df3 df4 df5 df6
    have HHA := Lib.hid hA
    have HYN := Lib.hid hyn
    have HYL := Lib.hid hyl
    have HPY := Lib.hid hpy
    have HTP := Lib.hid htp
    have HJT := Lib.hid hjt
    clear hA hcc hyn hyl hpy htp hjt
    go_upto_region 7 with fail
    generalize hwE : World.setCell _ ⟨w.heap.size, 6, none⟩ _ = wE
    obtain ⟨KE, SE, ZE, BE⟩ := store7 K3 hwE
    have hlw : w.heap.size < v9.heap.size := K1.lt
    have hoE := hoy.store hlw SE
    have hgE : y.Good wE := MTenant.Good.of_own hgy rfl hoE
    have hX6 : Below w.heap.size w w6 := hB2.trans (hV26.mono hs2)
    have hXE : Below w.heap.size w wE := BE _ _ hX6 (Nat.le_refl _)
    have hla : a1.heap.size < v9.heap.size := K2.lt
    have hlP8 : w3.heap.size < v9.heap.size := kP.lt
    have hne1 : a1.heap.size ≠ w.heap.size := by omega
    have hneP : w3.heap.size ≠ w.heap.size := by have := hlT; omega
    have K5 := K4.sameT (SE _ hne1)
    have kP5 := kP3.sameT (SE _ hneP)
    have hv9E : v9.heap.size ≤ wE.heap.size := by rw [ZE]; exact hV6.size
    obtain ⟨b', off', hA', hbE, hcc⟩ := Rd.elem (n := 5) (fun _ => rfl) (by omega) hgE.gsets_.rd HJT.out
    rw [HHA.out] at hA'
    injection hA' with hA'
    injection hA' with e1' e2'
    subst e1' e2' 
    have m0 : wE.cell? ⟨b, j * 5, none⟩ = some (.string t.path_) := by
      have := hcc 0 _ rfl
      rwa [Nat.zero_add] at this
    have m1 : wE.cell? ⟨b, j * 5 + 1, none⟩ = some (.string t.origin_) := by
      have := hcc 1 _ rfl
      rwa [Nat.zero_add] at this
    have m2 : wE.cell? ⟨b, j * 5 + 2, none⟩ = some (.slice t.body_.A t.body_.l.length t.body_.c) := by
      have := hcc 2 _ rfl
      rwa [Nat.zero_add] at this
    have m3 : wE.cell? ⟨b, j * 5 + 3, none⟩ = some (.slice t.snaps_.A t.snaps_.l.length t.snaps_.c) := by
      have := hcc 3 _ rfl
      rwa [Nat.zero_add] at this
    have m4 : wE.cell? ⟨b, j * 5 + 4, none⟩ = some (.slice t.own_.A t.own_.l.length t.own_.c) := by
      have := hcc 4 _ rfl
      rwa [Nat.zero_add] at this
    have hrow := hoE.sets
    unfold Sl.val at hrow
    rw [HHA.out] at hrow
    have mf0 := own_frozen hrow (j * 5)
    have mf1 := own_frozen hrow (j * 5 + 1)
    have mf2 := own_frozen hrow (j * 5 + 2)
    have mf3 := own_frozen hrow (j * 5 + 3)
    have mf4 := own_frozen hrow (j * 5 + 4)
    have HROW := Lib.hid hrow
    have HOE := Lib.hid hoE
    have HGE := Lib.hid hgE
    have HGY := Lib.hid hgy
    have HSEP := Lib.hid hsep
    have HXE := Lib.hid hXE
    rw [HHA.out] at KE
    clear hcc hrow hoE hgE hgy hoy hsep hwE e0 e1 e2 e3 e4 e5 e6 ef0 ef1 ef2 ef3 ef4 ef5 ef6
    have hkt : k < t.snaps_.l.length := by omega
    obtain ⟨z0, hz0⟩ : ∃ z0, t.snaps_.l[k]? = some z0 := ⟨_, qZa hkt⟩
    obtain ⟨g0, cap, hA0, hcap0, hg0, hgE0⟩ : ∃ (g0 cap : Nat), t.snaps_.A = some ⟨g0, 0, none⟩ ∧ t.snaps_.c = cap ∧ v9.heap.size ≤ g0 ∧ g0 < wE.heap.size := by
      have h9 := (HOE.out.eset t (List.mem_of_getElem? HJT.out)).snaps
      obtain ⟨_, ⟨_, h0⟩ | ⟨gg, cap, cur, a1, a2, a3, a4, a5, a6, a7⟩⟩ := h9
      · omega
      · unfold Sl.val at a1
        injection a1 with a1 a12 a13
        exact ⟨gg, cap, a1, a13, a2, lt_of_block a3⟩
    have hsnr := (HOE.out.eset t (List.mem_of_getElem? HJT.out)).snaps
    unfold Sl.val at hsnr
    rw [hA0] at hsnr m3
    have nf := own_frozen hsnr (k * 5)
    obtain ⟨g1, of1, hA1, _, hcc1⟩ := Rd.elem (n := 5) (fun _ => rfl) (by omega) (HGE.out.gsets_.el t (List.mem_of_getElem? HJT.out)).gsnaps_.rd hz0
    rw [hA0] at hA1
    injection hA1 with hA1
    injection hA1 with e1' e2'
    subst e1' e2'
    have n0 : wE.cell? ⟨g0, k * 5, none⟩ = some (.string z0.name_) := by
      have := hcc1 0 _ rfl
      rwa [Nat.zero_add] at this
    clear hcc1
    have HZ0 := Lib.hid hz0
    have HA0 := Lib.hid hA0
    have HCU := Lib.hid (fun W => cloneU_any tt (by have := user_len HIT.out; omega) W)
    have hlP5 := kP5.lt
    have hlwE : w.heap.size < wE.heap.size := by omega
    clear hsnr hz0 hA0 hcap0 htl0
    obtain ⟨c0, c1, c2, c3, c4, c5, c6, c7, c8, c9, c10, c11⟩ := kP5.all12
    obtain ⟨e0, e1, e2, e3, e4, e5, e6⟩ := KE.all7
    refine wp_region_noPanic ?_
    refine wp_region_last 13 (fun W => W.cell? ⟨w.heap.size, 3, none⟩ = some (.slice (some ⟨b, 0, none⟩) y.sets_.l.length y.sets_.c) ∧ W.cell? ⟨w3.heap.size, 0, none⟩ = some (.int .i64 j) ∧ W.cell? ⟨w3.heap.size, 1, none⟩ = some (.int .i64 k) ∧ W.cell? ⟨b, j * 5 + 3, none⟩ = some (.slice (some ⟨g0, 0, none⟩) t.snaps_.l.length t.snaps_.c) ∧ W.cell? ⟨g0, k * 5, none⟩ = some (.string z0.name_) ∧ W.frozen? ⟨g0, k * 5, none⟩ = false) (by kernel_rfl) ⟨e3, c0, c1, m3, n0, nf⟩ (fun hHeld => ?_)
    refine tkA 16 (i := 0) (oi := ⟨some 56, _, _, _, _, _⟩) rfl hHeld ?_
    try simp only [Act.put, pZa, pZb, pZc]
    refine tkA 16 (i := 1) (oi := ⟨some 57, _, _, _, _, _⟩) rfl hHeld ?_
    try simp only [Act.put, pZa, pZb, pZc]
    refine tkA 16 (i := 2) (oi := ⟨some 58, _, _, _, _, _⟩) rfl hHeld ?_
    try simp only [Act.put, pZa, pZb, pZc]
    refine tkA 16 (i := 3) (oi := ⟨some 59, _, _, _, _, _⟩) rfl hHeld ?_
    try simp only [Act.put, pZa, pZb, pZc]
    refine tkA 16 (i := 4) (oi := ⟨some 60, _, _, _, _, _⟩) rfl hHeld ?_
    try simp only [Act.put, pZa, pZb, pZc]
    refine tkA 16 (i := 5) (oi := ⟨some 61, _, _, _, _, _⟩) rfl hHeld ?_
    try simp only [Act.put, pZa, pZb, pZc]
    refine tkA 16 (i := 6) (oi := ⟨some 62, _, _, _, _, _⟩) rfl hHeld ?_
    try simp only [Act.put, pZa, pZb, pZc]
    refine tkA 16 (i := 7) (oi := ⟨some 63, _, _, _, _, _⟩) rfl hHeld ?_
    try simp only [Act.put, pZa, pZb, pZc]
    refine tkA 16 (i := 8) (oi := ⟨some 64, _, _, _, _, _⟩) rfl hHeld ?_
    try simp only [Act.put, pZa, pZb, pZc]
    refine tkA 16 (i := 9) (oi := ⟨some 65, _, _, _, _, _⟩) rfl hHeld ?_
    try simp only [Act.put, pZa, pZb, pZc]
    clear hHeld
    refine wpAnyL_facts 16 1 3 [(10, 66)] (fun s v w => match s with
      | 66 => v = .string tt
      | _ => True) (fun w w' => Below w.heap.size w w') (by kernel_rfl) (by kernel_rfl) bZh ⟨?_, trivial⟩ (fun w' hB => ⟨(hB.cell (p := ⟨w.heap.size, 3, none⟩) hlwE).trans e3, (hB.cell (p := ⟨w3.heap.size, 0, none⟩) hlP5).trans c0, (hB.cell (p := ⟨w3.heap.size, 1, none⟩) hlP5).trans c1, (hB.cell (p := ⟨b, j * 5 + 3, none⟩) hbE).trans m3, (hB.cell (p := ⟨g0, k * 5, none⟩) hgE0).trans n0, (hB.frozen (p := ⟨g0, k * 5, none⟩) hgE0).trans nf⟩) ⟨?_, trivial⟩ ?_
    focus
      intro v w w' h hB
      exact h
    focus
      intro vs w2 hBf hFf o ho K hK
      obtain rfl : (⟨some 66, _, _, _, _, _⟩ : Oper) = o := Option.some.inj ho
      clear ho
      (try simp only [fillL, pZd, pZe, Act.put, pZa, pZb, pZc] at hK ⊢)
      go_simp
      refine (HCU.out w2).mono ?_
      rintro e w4 ⟨rfl, hB4⟩
      exact hK.out _ _ ⟨rfl, hB4⟩
    intro vs w2 hBf hFf
    (try simp only [fillL, pZd, pZe, Act.put, pZa, pZb, pZc])
    have e66 := (hFf (10, 66) (by simp))
    simp only [] at e66
    simp only [e66]
    have hBw8 : Below wE.heap.size wE w2 := (Below.refl wE.heap.size wE).drew.trans hBf
    have HBW := Lib.hid hBw8
    clear hBw8
    have hHeld : (fun W => W.cell? ⟨w.heap.size, 3, none⟩ = some (.slice (some ⟨b, 0, none⟩) y.sets_.l.length y.sets_.c) ∧ W.cell? ⟨w3.heap.size, 0, none⟩ = some (.int .i64 j) ∧ W.cell? ⟨w3.heap.size, 1, none⟩ = some (.int .i64 k) ∧ W.cell? ⟨b, j * 5 + 3, none⟩ = some (.slice (some ⟨g0, 0, none⟩) t.snaps_.l.length t.snaps_.c) ∧ W.cell? ⟨g0, k * 5, none⟩ = some (.string z0.name_) ∧ W.frozen? ⟨g0, k * 5, none⟩ = false) w2 := ⟨(hBf.cell (p := ⟨w.heap.size, 3, none⟩) hlwE).trans e3, (hBf.cell (p := ⟨w3.heap.size, 0, none⟩) hlP5).trans c0, (hBf.cell (p := ⟨w3.heap.size, 1, none⟩) hlP5).trans c1, (hBf.cell (p := ⟨b, j * 5 + 3, none⟩) hbE).trans m3, (hBf.cell (p := ⟨g0, k * 5, none⟩) hgE0).trans n0, (hBf.frozen (p := ⟨g0, k * 5, none⟩) hgE0).trans nf⟩
    refine tkA 16 (i := 11) (oi := ⟨some 67, _, _, _, _, _⟩) rfl hHeld ?_
    try simp only [Act.put, pZa, pZb, pZc]
    refine tkA 16 (i := 12) (oi := ⟨some 68, _, _, _, _, _⟩) rfl hHeld ?_
    try simp only [Act.put, pZa, pZb, pZc]
    refine wpAnyL_last (i := 13) (o := ⟨none, _, _, _, _, _⟩) (by kernel_rfl) rfl (by kernel_rfl) (fun K hK => ?_)
    go_simp
    go_wp2_with fail
    refine hK.out _ _ ?_
    clear hK K
    try simp only [Act.put, pZa, pZb, pZc]
    refine wpAnyL_done (by kernel_rfl) ?_ _
    refine NoPanic.normal ?_
    obtain ⟨t', ht'⟩ : ∃ t' : MSet, (⟨t.path_, t.origin_, t.body_, ⟨some ⟨g0, 0, none⟩, t.snaps_.l.set k { z0 with name_ := tt }, t.snaps_.c⟩, t.own_⟩ : MSet) = t' := ⟨_, rfl⟩
    obtain ⟨hT7, hG7⟩ := (HOE.out.below HBW.out).nameAt (HGE.out.below HBW.out) HSEP.out HJT.out HZ0.out HA0.out (tt := tt) (by have := user_len HIT.out; omega) ht'
    rw [HHA.out] at hT7 hG7
    obtain ⟨x7, hx7⟩ : ∃ x7, w2.setCell ⟨g0, k * 5, none⟩ (.string tt) = x7 := ⟨_, rfl⟩
    rw [hx7] at hT7 hG7
    have hsz7 : x7.heap.size = w2.heap.size := by rw [← hx7, World.size_setCell]
    have hT9 : w.heap.size ≠ g0 := by omega
    have hR9 : a1.heap.size ≠ g0 := by omega
    have KT7 := hx7 ▸ (KE.of HBW.out).other hT9 (k * 5) (.string tt)
    have KR7 := hx7 ▸ (K5.of HBW.out).other hR9 (k * 5) (.string tt)
    have hX7 : Below w.heap.size w x7 := hx7 ▸ (HXE.out.trans (HBW.out.mono (Nat.le_of_lt hlwE))).setCell (p := ⟨g0, k * 5, none⟩) (by show w.heap.size ≤ g0; omega) _
    have hzp : z0.plain = y0.plain := by
      have h9 : (t.snaps_.l.map MSnap.plain)[k]? = some z0.plain := by rw [List.getElem?_map, HZ0.out]; rfl
      have h8 : t.snaps_.l.map MSnap.plain = s.snaps_.l.map MSnap.plain := congrArg PSet.snaps_ HTP.out
      rw [h8, List.getElem?_map, HK.out] at h9
      simp only [Option.map_some, Option.some.injEq] at h9
      exact h9.symm
    have hpt : t'.plain = { s.plain with snaps_ := s.plain.snaps_.set k { y0.plain with name_ := tt } } := by
      rw [← HTP.out, ← hzp, ← ht']
      show ({ t.plain with snaps_ := (t.snaps_.l.set k _).map MSnap.plain } : PSet) = _
      rw [List.map_set]
      rfl
    obtain ⟨BASE, hBASE⟩ : ∃ BASE, x.plain.sets_.set j { s.plain with snaps_ := s.plain.snaps_.set k { y0.plain with name_ := tt } } = BASE := ⟨_, rfl⟩
    have hb0 : (y.sets_.l.set j t').map MSet.plain = BASE := by
      rw [List.map_set, HYL.out, hpt, ← hBASE]
      rfl
    have HBASE := Lib.hid hBASE
    have hoC7 : x7.ownsRow v8.heap.size 9 1 (.slice AC CL.length cC) CL.length (CL.map Value.string) := by
      have h1 : w6.ownsRow v8.heap.size 9 1 (.slice AC CL.length cC) CL.length (CL.map Value.string) := own_below HOC.out hV6 (Nat.le_refl _)
      have h3 := own_below (own_keeps h1 (by decide) (keepsT17 K3 SE)) HBW.out (Nat.le_refl _)
      have h5 := ((HOE.out.below HBW.out).eset t (List.mem_of_getElem? HJT.out)).snaps
      unfold Sl.val at h5
      rw [HA0.out] at h5
      have h4 := own_keeps h3 (by decide) (keeps_setIn h5 (k * 5) (.string tt))
      rwa [hx7] at h4
    have HXE7 := Lib.hid hx7
    have HX7 := Lib.hid hX7
    have HT7 := Lib.hid hT7
    have HG7 := Lib.hid hG7
    have HPT := Lib.hid hpt
    have HC7 := Lib.hid hoC7
    have HB0 := Lib.hid hb0
    have hl7 : a1.heap.size < x7.heap.size := KR7.lt
    have KT7 := Lib.hid KT7
    have KR7 := Lib.hid KR7
    have hsx : wE.heap.size ≤ x7.heap.size := by rw [hsz7]; exact HBW.out.size
    clear hx7 hT7 hG7 hX7 hpt hoC7 hb0 hBASE hzp ht' m0 m1 m2 m3 m4 mf0 mf1 mf2 mf3 mf4 e0 e1 e2 e3 e4 e5 e6 c0 c1 c2 c3 c4 c5 c6 c7 c8 c9 c10 c11
    go_upto_region 9 with fail
    rw [HXE7.out]
    have hpth : ∀ (l2 : List MSet) (k2 : Nat), l2.map MSet.plain = BASE.map (renO (atT p tt) (CL.take k2)) → l2.map MSet.path_ = x.sets_.l.map MSet.path_ := fun l2 k2 h => by
      have h1 : l2.map MSet.path_ = (l2.map MSet.plain).map PSet.path_ := by rw [List.map_map]; rfl
      have h2 : BASE.map PSet.path_ = x.plain.sets_.map PSet.path_ := by
        rw [← HBASE.out]
        refine List.ext_getElem? fun i => ?_
        rw [List.getElem?_map, List.getElem?_map, List.getElem?_set]
        by_cases hij : j = i
        · subst hij
          rw [show x.plain.sets_[j]? = some s.plain from by show (x.sets_.l.map MSet.plain)[j]? = _; rw [List.getElem?_map, HJ.out]; rfl]
          by_cases hjl2 : j < x.plain.sets_.length
          · simp [hjl2]
          · exact absurd (by show j < (x.sets_.l.map MSet.plain).length; rw [List.length_map]; exact hjl) hjl2
        · rw [if_neg hij]
      rw [h1, h, List.map_map, show (PSet.path_ ∘ renO (atT p tt) (CL.take k2)) = PSet.path_ from funext fun q => renO_path _ _ q, h2]
      show (x.sets_.l.map MSet.plain).map PSet.path_ = _
      rw [List.map_map]
      rfl
    have hsub : ∀ q ∈ CL, q ∈ x.sets_.l.map MSet.path_ := fun q hq => by
      rw [← HCLQ.out] at hq
      unfold clonesX at hq
      obtain ⟨s9, hs9, he9⟩ := List.mem_map.1 hq
      exact List.mem_map.2 ⟨s9, (List.mem_filter.1 hs9).1, he9⟩
    have HPTH := Lib.hid hpth
    have HSUB := Lib.hid hsub
    clear hpth hsub
    go_loopw [14, 71] (fun _ i W => ∃ (k2 : Nat) (l2 : List MSet), k2 ≤ CL.length ∧ i = .int .i64 k2 ∧ l2.length = y.sets_.l.length ∧ x7.heap.size ≤ W.heap.size ∧ Hid (OwnTe v9.heap.size W ({ y with sets_ := ⟨some ⟨b, 0, none⟩, l2, y.sets_.c⟩ } : MTenant)) ∧ Hid (({ y with sets_ := ⟨some ⟨b, 0, none⟩, l2, y.sets_.c⟩ } : MTenant).Good W) ∧ Hid (l2.map MSet.plain = BASE.map (renO (atT p tt) (CL.take k2))) ∧ Hid (Blk W w.heap.size 27 [.string y.name_, .int .i64 y.quota_, .int .i64 y.next_, .slice (some ⟨b, 0, none⟩) y.sets_.l.length y.sets_.c, .slice y.grants_.A y.grants_.l.length y.grants_.c, .slice y.stages_.A y.stages_.l.length y.stages_.c, .slice y.log_.A y.log_.l.length y.log_.c]) ∧ Hid (Blk W a1.heap.size 27 [.string ⟨#[]⟩, .int .i64 0, .int .i64 0, .slice none 0 0, .slice none 0 0, .slice none 0 0, .slice none 0 0]) ∧ Hid (Below w.heap.size w W) ∧ Hid (W.ownsRow v8.heap.size 9 1 (.slice AC CL.length cC) CL.length (CL.map Value.string))) (fun _ i _ => CL.length - (intOf i).toNat)
    case atStart => exact ⟨0, y.sets_.l.set j t', Nat.zero_le _, rfl, by rw [List.length_set], Nat.le_refl _, HT7, HG7, Lib.hid (by rw [HB0.out, List.take_zero]; exact (by rw [show (renO (atT p tt) []) = id from funext (renO_none _), List.map_id])), KT7, KR7, HX7, HC7⟩
    case round =>
      obtain ⟨k2, l2, hk2, rfl, hl2, hszr, HO, HGz, HP, HKT, HKR, HXr, HCr⟩ := hrel
      by_cases hlt : k2 < CL.length
      · obtain ⟨q0, hq0⟩ : ∃ q0, CL[k2]? = some q0 := ⟨_, qZa hlt⟩
        obtain ⟨A9, c9, hv9, _, _, hrd9, _⟩ := ownAny HCr.out
        injection hv9 with hA9 _ hc9
        subst hA9 hc9
        obtain ⟨bC, oC, hAC, hbC, hcC⟩ := hrd9.1 (by intro e; have h9 := congrArg List.length e; rw [List.length_map] at h9; simp at h9; rw [h9] at hlt; exact absurd hlt (by simp))
        subst hAC
        have cC1 := hcC k2 (.string q0) (by rw [List.getElem?_map, hq0]; rfl)
        have hpths : l2.map MSet.path_ = x.sets_.l.map MSet.path_ := HPTH.out l2 k2 HP.out
        obtain ⟨i2, s2, hF2, hi2, hsp2⟩ := findM_there (z := ({ y with sets_ := ⟨some ⟨b, 0, none⟩, l2, y.sets_.c⟩ } : MTenant)) (q := q0) (by
          show q0 ∈ l2.map MSet.path_
          rw [hpths]
          exact HSUB.out q0 (List.mem_of_getElem? hq0))
        have hi2l : i2 < y.sets_.l.length := by rw [← hl2]; exact (List.getElem?_eq_some_iff.1 hi2).1
        have HFZ : Hid (∀ W, Below wr.heap.size wr W → Calls Tryz.prog 58 #[.agg ({ y with sets_ := ⟨some ⟨b, 0, none⟩, l2, y.sets_.c⟩ } : MTenant).cells.toArray, .string q0] W fun e w' => e = .returned (.int .i64 i2) ∧ Below W.heap.size W w') := Lib.hid fun W hW => by
          have h9 := find_any ({ y with sets_ := ⟨some ⟨b, 0, none⟩, l2, y.sets_.c⟩ } : MTenant) q0 W (HGz.out.below hW)
          rwa [hF2] at h9
        simp only [MTenant.cells, hl2] at HFZ
        have KT9 := HKT.out
        obtain ⟨d0, d1, d2, d3, d4, d5, d6⟩ := KT9.all7
        have hlT9 := KT9.lt
        obtain ⟨b9, of9, hA9, hb9, hcc9⟩ := Rd.elem (n := 5) (fun _ => rfl) (by omega) HGz.out.gsets_.rd hi2
        injection hA9 with hA9
        injection hA9 with e1' e2'
        subst e1' e2'
        have n1 : wr.cell? ⟨b, i2 * 5 + 1, none⟩ = some (.string s2.origin_) := by
          have := hcc9 1 _ rfl
          rwa [Nat.zero_add] at this
        have hrw9 := HO.out.sets
        unfold Sl.val at hrw9
        have nf1 := own_frozen hrw9 (i2 * 5 + 1)
        have HP9 := Lib.hid hi2
        have HS9 := Lib.hid hsp2
        have HQ9 := Lib.hid hq0
        have HPT9 := Lib.hid hpths
        clear hcc9 hrw9 hi2 hsp2 hq0 hpths hcC hrd9 hF2
        go_upto_region 11 with fail
        refine wp_region_noPanic ?_
        refine wp_region_last 10 (fun W => W.cell? ⟨w.heap.size, 0, none⟩ = some (.string y.name_) ∧ W.cell? ⟨w.heap.size, 1, none⟩ = some (.int .i64 y.quota_) ∧ W.cell? ⟨w.heap.size, 2, none⟩ = some (.int .i64 y.next_) ∧ W.cell? ⟨w.heap.size, 3, none⟩ = some (.slice (some ⟨b, 0, none⟩) y.sets_.l.length y.sets_.c) ∧ W.cell? ⟨w.heap.size, 4, none⟩ = some (.slice y.grants_.A y.grants_.l.length y.grants_.c) ∧ W.cell? ⟨w.heap.size, 5, none⟩ = some (.slice y.stages_.A y.stages_.l.length y.stages_.c) ∧ W.cell? ⟨w.heap.size, 6, none⟩ = some (.slice y.log_.A y.log_.l.length y.log_.c) ∧ W.cell? ⟨b, i2 * 5 + 1, none⟩ = some (.string s2.origin_) ∧ W.frozen? ⟨b, i2 * 5 + 1, none⟩ = false) (by kernel_rfl) ⟨d0, d1, d2, d3, d4, d5, d6, n1, nf1⟩ (fun hHeld => ?_)
        refine tkA 16 (i := 0) (oi := ⟨some 75, _, _, _, _, _⟩) rfl hHeld ?_
        try simp only [Act.put, pZa, pZb, pZc]
        refine tkA 16 (i := 1) (oi := ⟨some 76, _, _, _, _, _⟩) rfl hHeld ?_
        try simp only [Act.put, pZa, pZb, pZc]
        refine tkA 16 (i := 2) (oi := ⟨some 77, _, _, _, _, _⟩) rfl hHeld ?_
        try simp only [Act.put, pZa, pZb, pZc]
        refine tkA 16 (i := 3) (oi := ⟨some 78, _, _, _, _, _⟩) rfl hHeld ?_
        try simp only [Act.put, pZa, pZb, pZc]
        refine tkA 16 (i := 5) (oi := ⟨some 80, _, _, _, _, _⟩) rfl hHeld ?_
        try simp only [Act.put, pZa, pZb, pZc]
        refine tkA 16 (i := 6) (oi := ⟨some 81, _, _, _, _, _⟩) rfl hHeld ?_
        try simp only [Act.put, pZa, pZb, pZc]
        clear hHeld
        refine wpAnyL_facts 16 2 3 [(4, 79), (7, 82)] (fun s v w => match s with
          | 79 => v = .int .i64 i2
          | 82 => v = .string (atT p tt)
          | _ => True) (fun w w' => Below w.heap.size w w') (by kernel_rfl) (by kernel_rfl) bZh ⟨?_, ?_, trivial⟩ (fun w' hB => ⟨(hB.cell (p := ⟨w.heap.size, 0, none⟩) hlT9).trans d0, (hB.cell (p := ⟨w.heap.size, 1, none⟩) hlT9).trans d1, (hB.cell (p := ⟨w.heap.size, 2, none⟩) hlT9).trans d2, (hB.cell (p := ⟨w.heap.size, 3, none⟩) hlT9).trans d3, (hB.cell (p := ⟨w.heap.size, 4, none⟩) hlT9).trans d4, (hB.cell (p := ⟨w.heap.size, 5, none⟩) hlT9).trans d5, (hB.cell (p := ⟨w.heap.size, 6, none⟩) hlT9).trans d6, (hB.cell (p := ⟨b, i2 * 5 + 1, none⟩) hb9).trans n1, (hB.frozen (p := ⟨b, i2 * 5 + 1, none⟩) hb9).trans nf1⟩) ⟨?_, ?_, trivial⟩ ?_
        focus
          intro v w w' h hB
          exact h
        focus
          intro v w w' h hB
          exact h
        focus
          intro vs w2 hBf hFf o ho K hK
          obtain rfl : (⟨some 79, _, _, _, _, _⟩ : Oper) = o := Option.some.inj ho
          clear ho
          (try simp only [fillL, pZd, pZe, Act.put, pZa, pZb, pZc] at hK ⊢)
          go_simp
          refine (HFZ.out w2 ((Below.refl wr.heap.size wr).drew.trans hBf)).mono ?_
          rintro e w4 ⟨rfl, hB4⟩
          exact hK.out _ _ ⟨rfl, hB4⟩
        focus
          intro vs w2 hBf hFf o ho K hK
          obtain rfl : (⟨some 82, _, _, _, _, _⟩ : Oper) = o := Option.some.inj ho
          clear ho
          (try simp only [fillL, pZd, pZe, Act.put, pZa, pZb, pZc] at hK ⊢)
          go_simp
          refine (HJN.out w2).mono ?_
          rintro e w4' ⟨rfl, rfl⟩
          exact hK.out _ _ ⟨rfl, Below.refl _ _⟩
        intro vs w2 hBf hFf
        (try simp only [fillL, pZd, pZe, Act.put, pZa, pZb, pZc])
        have e79 := (hFf (4, 79) (by simp))
        have e82 := (hFf (7, 82) (by simp))
        simp only [] at e79 e82
        simp only [e79, e82]
        have HB9 := Lib.hid ((Below.refl wr.heap.size wr).drew.trans hBf)
        have hHeld : (fun W => W.cell? ⟨w.heap.size, 0, none⟩ = some (.string y.name_) ∧ W.cell? ⟨w.heap.size, 1, none⟩ = some (.int .i64 y.quota_) ∧ W.cell? ⟨w.heap.size, 2, none⟩ = some (.int .i64 y.next_) ∧ W.cell? ⟨w.heap.size, 3, none⟩ = some (.slice (some ⟨b, 0, none⟩) y.sets_.l.length y.sets_.c) ∧ W.cell? ⟨w.heap.size, 4, none⟩ = some (.slice y.grants_.A y.grants_.l.length y.grants_.c) ∧ W.cell? ⟨w.heap.size, 5, none⟩ = some (.slice y.stages_.A y.stages_.l.length y.stages_.c) ∧ W.cell? ⟨w.heap.size, 6, none⟩ = some (.slice y.log_.A y.log_.l.length y.log_.c) ∧ W.cell? ⟨b, i2 * 5 + 1, none⟩ = some (.string s2.origin_) ∧ W.frozen? ⟨b, i2 * 5 + 1, none⟩ = false) w2 := ⟨(hBf.cell (p := ⟨w.heap.size, 0, none⟩) hlT9).trans d0, (hBf.cell (p := ⟨w.heap.size, 1, none⟩) hlT9).trans d1, (hBf.cell (p := ⟨w.heap.size, 2, none⟩) hlT9).trans d2, (hBf.cell (p := ⟨w.heap.size, 3, none⟩) hlT9).trans d3, (hBf.cell (p := ⟨w.heap.size, 4, none⟩) hlT9).trans d4, (hBf.cell (p := ⟨w.heap.size, 5, none⟩) hlT9).trans d5, (hBf.cell (p := ⟨w.heap.size, 6, none⟩) hlT9).trans d6, (hBf.cell (p := ⟨b, i2 * 5 + 1, none⟩) hb9).trans n1, (hBf.frozen (p := ⟨b, i2 * 5 + 1, none⟩) hb9).trans nf1⟩
        refine tkA 16 (i := 8) (oi := ⟨some 83, _, _, _, _, _⟩) rfl hHeld ?_
        try simp only [Act.put, pZa, pZb, pZc]
        refine tkA 16 (i := 9) (oi := ⟨some 84, _, _, _, _, _⟩) rfl hHeld ?_
        try simp only [Act.put, pZa, pZb, pZc]
        refine wpAnyL_last (i := 10) (o := ⟨none, _, _, _, _, _⟩) (by kernel_rfl) rfl (by kernel_rfl) (fun K hK => ?_)
        go_simp
        go_wp2_with fail
        refine hK.out _ _ ?_
        clear hK K
        try simp only [Act.put, pZa, pZb, pZc]
        refine wpAnyL_done (by kernel_rfl) ?_ _
        refine NoPanic.normal ?_
        have hos9 : OwnSe v9.heap.size w2 ({ s2 with origin_ := atT p tt } : MSet) := by
          have h9 := (HO.out.below HB9.out).eset s2 (List.mem_of_getElem? HP9.out)
          exact ⟨h9.body, h9.snaps, h9.own, h9.each⟩
        have hrow9 := (HO.out.below HB9.out).sets
        unfold Sl.val at hrow9
        have hos10 := hos9.setIn (keeps_setIn hrow9 (i2 * 5 + 1) (.string (atT p tt)))
        have sG := HGz.out.gsets_.el s2 (List.mem_of_getElem? HP9.out)
        have hjs : (atT p tt).size ≤ 140737488351232 := by
          have h1 := path_len HIP.out
          have h2 := user_len HIT.out
          unfold atT
          rw [ofL_size, List.length_append, List.length_cons, bs_length, bs_length]
          omega
        have hgs9 : ({ s2 with origin_ := atT p tt } : MSet).Good (w2.setCell ⟨b, i2 * 5 + 1, none⟩ (.string (atT p tt))) := ⟨sG.gpath_, hjs, slGood_own sG.gbody_ rfl hos10.body (fun q hq => sG.gbody_.el q hq), slGood_own sG.gsnaps_ rfl hos10.snaps (fun z hz => MSnap.Good.of_own (sG.gsnaps_.el z hz) rfl (hos10.each z hz)), slGood_own sG.gown_ rfl hos10.own (fun q hq => sG.gown_.el q hq)⟩
        obtain ⟨hT9, hG9⟩ := turned (f := 1) HB9.out HO.out HGz.out rfl HP9.out (by decide) (s' := ({ s2 with origin_ := atT p tt } : MSet)) rfl hos9 hgs9
        obtain ⟨x9, hx9⟩ : ∃ x9, w2.setCell ⟨b, i2 * 5 + 1, none⟩ (.string (atT p tt)) = x9 := ⟨_, rfl⟩
        rw [hx9] at hT9 hG9
        have hwb : w.heap.size ≠ b := by omega
        have hab : a1.heap.size ≠ b := by omega
        have KT10 := hx9 ▸ (KT9.of HB9.out).other hwb (i2 * 5 + 1) (.string (atT p tt))
        have KR10 := hx9 ▸ (HKR.out.of HB9.out).other hab (i2 * 5 + 1) (.string (atT p tt))
        have hX10 : Below w.heap.size w x9 := hx9 ▸ (HXr.out.trans (HB9.out.mono (Nat.le_of_lt hlT9))).setCell (p := ⟨b, i2 * 5 + 1, none⟩) (by show w.heap.size ≤ b; omega) _
        have hC10 := hx9 ▸ own_keeps (own_below HCr.out HB9.out (Nat.le_refl _)) (by decide) (keeps_setIn hrow9 (i2 * 5 + 1) (.string (atT p tt)))
        have hsz10 : x7.heap.size ≤ x9.heap.size := by rw [← hx9, World.size_setCell]; exact Nat.le_trans hszr HB9.out.size
        have hP10 : (l2.set i2 ({ s2 with origin_ := atT p tt } : MSet)).map MSet.plain = BASE.map (renO (atT p tt) (CL.take (k2 + 1))) := by
          have hr2 : (l2.map MSet.plain).Pairwise fun a b => ltPath a b = true := by
            have h1 : (l2.map MSet.plain).map PSet.path_ = x.plain.sets_.map PSet.path_ := by
              rw [List.map_map]
              show l2.map MSet.path_ = (x.sets_.l.map MSet.plain).map PSet.path_
              rw [HPT9.out, List.map_map]
              rfl
            have h2 : (x.plain.sets_.map PSet.path_).Pairwise fun a b => ltTx a b = true := List.pairwise_map.2 HRISE.out
            rw [← h1] at h2
            exact List.pairwise_map.1 h2
          have h1 := ren_one (l := l2.map MSet.plain) hr2 (i := i2) (z := s2.plain) (q := q0) (o' := atT p tt) (by rw [List.getElem?_map, HP9.out]; rfl) HS9.out
          rw [List.map_set]
          refine Eq.trans h1 ?_
          rw [HP.out, List.map_map, List.take_add_one, HQ9.out]
          refine List.map_congr_left fun z _ => ?_
          exact renO_step (atT p tt) q0 (CL.take k2) z
        have HX10 := Lib.hid hx9
        have HT10 := Lib.hid hT9
        have HG10 := Lib.hid hG9
        have HP10 := Lib.hid hP10
        have HKT10 := Lib.hid KT10
        have HKR10 := Lib.hid KR10
        have HXX10 := Lib.hid hX10
        have HC10 := Lib.hid hC10
        clear hT9 hG9 hP10 KT10 KR10 hX10 hC10 hx9 hos9 hos10 hrow9 hgs9 sG d0 d1 d2 d3 d4 d5 d6 n1 nf1 cC1
        go_wp2
        rw [HX10.out]
        go_roundw
        case rel => exact ⟨k2 + 1, l2.set i2 ({ s2 with origin_ := atT p tt } : MSet), by omega, by go_num, by rw [List.length_set]; exact hl2, hsz10, HT10, HG10, HP10, HKT10, HKR10, HXX10, HC10⟩
        case measure => simp [intOf]; omega
      · obtain rfl : k2 = CL.length := by omega
        have KT9 := HKT.out
        have KR9 := HKR.out
        obtain ⟨u0, u1, u2, u3, u4, u5, u6⟩ := KT9.all7
        obtain rfl := HRP.out
        obtain ⟨zr0, zr1, zr2, zr3, zr4, zr5, zr6⟩ := KR9.all7
        obtain ⟨zrf0, zrf1, zrf2, zrf3, zrf4, zrf5, zrf6⟩ := KR9.fz7
        go_wp2
        generalize hwE9 : World.setCell _ ⟨a1.heap.size, 6, none⟩ _ = wZ
        obtain ⟨KE9, SE9, ZE9, BE9⟩ := store7 KR9 hwE9
        obtain ⟨ze0, ze1, ze2, ze3, ze4, ze5, ze6⟩ := KE9.all7
        refine bodyPost_ret (v := .tuple #[.agg #[.string y.name_, .int .i64 y.quota_, .int .i64 y.next_, .slice (some ⟨b, 0, none⟩) y.sets_.l.length y.sets_.c, .slice y.grants_.A y.grants_.l.length y.grants_.c, .slice y.stages_.A y.stages_.l.length y.stages_.c, .slice y.log_.A y.log_.l.length y.log_.c], .int .i64 (0)]) (by simp [results, Tryz.results20, go_sem, ze0, ze1, ze2, ze3, ze4, ze5, ze6]) rfl ?_
        have hlka : a1.heap.size < v9.heap.size := hla
        have hoF := HO.out.store hlka SE9
        refine ⟨({ y with sets_ := ⟨some ⟨b, 0, none⟩, l2, y.sets_.c⟩ } : MTenant), by simp only [MTenant.cells, hl2], hoF.base (by omega), MTenant.Good.of_own HGz.out rfl hoF, ?_, BE9 _ _ HXr.out hs1⟩
        show ({ y.plain with sets_ := l2.map MSet.plain } : PTenant) = mapP x.plain (renS p n tt (atT p n) (atT p tt)) x.plain.next_
        rw [HP.out, List.take_length, ← HBASE.out, HRA.out, HPY.out]
        rfl
  · have hq : (E == 0) = false := beq_eq_false_iff_ne.2 hz
    obtain rfl : R = (noT, E) := by
      rw [← HPR.out]
      unfold renP
      rw [HE.out, if_pos hz]
    clear hz HE HOS HPR
    obtain ⟨zr0, zr1, zr2, zr3, zr4, zr5, zr6⟩ := K2.all7
    obtain ⟨zrf0, zrf1, zrf2, zrf3, zrf4, zrf5, zrf6⟩ := K2.fz7
    go_wp2
    generalize hwE9 : World.setCell _ ⟨a1.heap.size, 6, none⟩ _ = wZ
    obtain ⟨KE9, SE9, ZE9, BE9⟩ := store7 K2 hwE9
    obtain ⟨ze0, ze1, ze2, ze3, ze4, ze5, ze6⟩ := KE9.all7
    refine bodyPost_ret (v := .tuple #[.agg #[.string ⟨#[]⟩, .int .i64 0, .int .i64 0, .slice none 0 0, .slice none 0 0, .slice none 0 0, .slice none 0 0], .int .i64 (E)]) (by simp [results, Tryz.results20, go_sem, ze0, ze1, ze2, ze3, ze4, ze5, ze6]) rfl ?_
    exact ansT_no (BE9 _ _ hB0w hs1)
end Go.Proofs.YtimmcmjipmkebaaGreat
