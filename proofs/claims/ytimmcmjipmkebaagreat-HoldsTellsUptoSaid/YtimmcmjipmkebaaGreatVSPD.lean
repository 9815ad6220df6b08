/-
 slices.Delete of one snapshot. Conditions: the row is one block's, from its beginning.
-/
import Derived.Test.YtimmcmjipmkebaaGreatVSPQ
import Derived.Deep.RegionLaw
import Derived.Lib.SliceRun
namespace Go.Proofs.YtimmcmjipmkebaaGreat
open Go.ChangeShapes Go.WideShapes Go.ChangeAt Go.RowKit
set_option maxRecDepth 100000
set_option linter.unusedSimpArgs false
def zeroSn : Value := .agg #[.string ByteArray.empty, .int .i64 0, .slice none 0 0, .slice none 0 0, .slice none 0 0]
def zeroSnC : List Value := [.string ByteArray.empty, .int .i64 0, .slice none 0 0, .slice none 0 0, .slice none 0 0]
theorem zeroSn_run (w : World) : (zeroValue 49).run Tryz.prog w = .ok zeroSn w := by kernel_rfl
theorem clear_one (w : World) (ty : TypeId) (b o c : Nat) (hc : ∀ j, j < 5 → (w.cell? ⟨b, o + j, none⟩).isSome = true) (hf : ∀ j, j < 5 → w.frozen? ⟨b, o + j, none⟩ = false) :
 (Builtin.clear_ #[50] ty #[.slice (some ⟨b, o, none⟩) 1 c]).run Tryz.prog w = .ok (.tuple #[]) (w.setCells b o zeroSnC) := by
 have hst := run_storeCells_cells (P := Tryz.prog) b o zeroSnC 0 w (by simpa [zeroSnC] using hc) (by simpa [zeroSnC] using hf) (by intro v hv; simp [zeroSnC] at hv; rcases hv with rfl | rfl | rfl <;> rfl)
 simp only [Nat.add_zero] at hst
 have hz : (Builtin.zeroCells zeroSn.cells 1).toList = zeroSnC := by
  simp [Builtin.zeroCells, zeroSn, Value.cells, zeroSnC]
  rfl
 have hz' : (Builtin.zeroCells (Value.agg #[.string ⟨#[]⟩, .int .i64 0, .slice none 0 0, .slice none 0 0, .slice none 0 0]).cells 1).toList = zeroSnC := hz
 simp only [Builtin.clear_]
 simp [run_underlying Tryz.underlying50, zeroSn_run, zeroSn, hz', hst]
def putIn (xs : List Value) : Nat → List Value → List Value
 | _, [] => xs
 | o, v :: r => putIn (xs.set o v) (o + 1) r
theorem putIn_mid : ∀ (vs pre ys post : List Value), ys.length = vs.length → putIn (pre ++ ys ++ post) pre.length vs = pre ++ vs ++ post
 | [], pre, ys, post, h => by
  have : ys = [] := List.eq_nil_of_length_eq_zero (by simpa using h)
  subst this
  rfl
 | v :: vs, pre, y :: ys, post, h => by
  have ih := putIn_mid vs (pre ++ [v]) ys post (by simpa using h)
  simp only [putIn]
  rw [List.append_assoc, List.set_append_right _ _ (Nat.le_refl _), Nat.sub_self, List.cons_append, List.set_cons_zero]
  rw [List.length_append, List.length_singleton] at ih
  rw [show pre ++ v :: (ys ++ post) = pre ++ [v] ++ ys ++ post by simp, ih]
  simp
theorem Blk.setIn {g : Nat} {t : TypeId} : ∀ (vs : List Value) (o : Nat) (xs : List Value) (w : World), Blk w g t xs → Blk (w.setCells g o vs) g t (putIn xs o vs)
 | [], _, _, _, h => h
 | v :: vs, o, _, _, h => Blk.setIn vs (o + 1) _ _ (h.set o v)
theorem setCells_far {g : Nat} : ∀ (vs : List Value) (o : Nat) (w : World) (b : Nat), b ≠ g → (w.setCells g o vs).heap[b]? = w.heap[b]?
 | [], _, _, _, _ => rfl
 | _ :: vs, o, _, b, h => (setCells_far vs (o + 1) _ b h).trans (heap_setCell_other _ ⟨g, o, none⟩ b _ h)
theorem setCells_size {g : Nat} : ∀ (vs : List Value) (o : Nat) (w : World), (w.setCells g o vs).heap.size = w.heap.size
 | [], _, _ => rfl
 | _ :: vs, o, _ => (setCells_size vs (o + 1) _).trans (by simp [World.setCell])
theorem setCells_below {g B : Nat} {w0 : World} (hB : B ≤ g) : ∀ (vs : List Value) (o : Nat) (w : World), Below B w0 w → Below B w0 (w.setCells g o vs)
 | [], _, _, h => h
 | v :: vs, o, _, h => setCells_below hB vs (o + 1) _ (h.setCell (p := ⟨g, o, none⟩) hB v)
set_option maxHeartbeats 2000000 in
theorem delete17_any (W : World) (g cap : Nat) (A B : List Mna) (y : Mna) (sp : List Value) (i j n : Nat) (hi : A.length = i) (hj : j = i + 1) (hn : n = i + 1 + B.length) (hl : n ≤ 16) (hcap : n ≤ cap) (hb : Blk W g 49 (A.flatMap Mna.cells ++ (y.cells ++ (B.flatMap Mna.cells ++ sp)))) :
 Calls Tryz.prog 51 #[.slice (some ⟨g, 0, none⟩) n cap, .int .i64 i, .int .i64 j] W fun e W' => e = .returned (.slice (some ⟨g, 0, none⟩) (n - 1) cap) ∧ (∀ b, b ≠ g → W'.heap[b]? = W.heap[b]?) ∧ W'.heap.size = W.heap.size ∧ Below g W W' ∧ Blk W' g 49 ((A ++ B).flatMap Mna.cells ++ (zeroSnC ++ sp)) := by
 have hlA : (A.flatMap Mna.cells).length = i * 5 := by rw [flat_len (n := 5) (fun _ => rfl), hi]
 have hlB : (B.flatMap Mna.cells).length = B.length * 5 := flat_len (n := 5) (fun _ => rfl) B
 obtain ⟨news, hnews⟩ : ∃ news, news = B.flatMap Mna.cells := ⟨_, rfl⟩
 obtain ⟨i0, hi0, hz0, hz1, hz2⟩ := infoParts infoSn17
 obtain ⟨Ad, hAd, hsrc⟩ : ∃ Ad : Addr, (if cap = j then some (⟨g, 0, none⟩ : Addr) else some ⟨g, j * 5, none⟩) = some Ad ∧ Hid (∀ t u, news[t]? = some u → W.drew.cell? (Ad.add t) = some u) := by
  by_cases h : cap = j
  · refine ⟨⟨g, 0, none⟩, by simp [h], zI fun t u hu => ?_⟩
    have h0 : news.length = 0 := by rw [hnews, hlB]; omega
    rw [List.length_eq_zero_iff.1 h0] at hu
    simp at hu
  · refine ⟨⟨g, j * 5, none⟩, by simp [h], zI fun t u hu => ?_⟩
    rw [add_plain]
    show W.cell? ⟨g, j * 5 + t, none⟩ = some u
    rw [hb.cell (j * 5 + t)]
    have htl := (List.getElem?_eq_some_iff.1 hu).1
    rw [hnews] at htl hu
    rw [hlB] at htl
    have hyl : y.cells.length = 5 := rfl
    rw [List.getElem?_append_right (by omega), hlA, List.getElem?_append_right (by omega), List.getElem?_append_left (by omega)]
    rw [show j * 5 + t - i * 5 - y.cells.length = t by omega]
    exact hu
 have s1 : Hid (news.length = (n - j) * 5) := zI (by rw [hnews, hlB]; congr 1; omega)
 have s2 : Hid (∀ u ∈ news, u.oneCell' = true) := zI fun u hu => by
  rw [hnews] at hu
  obtain ⟨z, _, hz⟩ := List.mem_flatMap.1 hu
  exact oneSn z u hz
 have s3 : Hid (∀ t, t < news.length → (W.drew.cell? ⟨g, 0 + i * 5 + t, none⟩).isSome = true ∧ W.drew.frozen? ⟨g, 0 + i * 5 + t, none⟩ = false) := zI fun t ht => by
  rw [Nat.zero_add]
  refine ⟨?_, hb.frozen _⟩
  show (W.cell? ⟨g, i * 5 + t, none⟩).isSome = true
  rw [hnews, hlB] at ht
  rw [hb.cell (i * 5 + t), qZa (by
   have hyl : y.cells.length = 5 := rfl
   rw [List.length_append, List.length_append, List.length_append, hlA, hlB]
   omega)]
  rfl
 obtain ⟨W1, hW1⟩ : ∃ W1, W1 = W.drew.setCells g (0 + i * 5) news := ⟨_, rfl⟩
 have hbd : Blk W.drew g 49 (A.flatMap Mna.cells ++ (y.cells ++ (B.flatMap Mna.cells ++ sp))) := hb
 obtain ⟨lst, hlst, hl5⟩ : ∃ lst : List Value, y.cells ++ B.flatMap Mna.cells = (y.cells ++ B.flatMap Mna.cells).take (B.length * 5) ++ lst ∧ lst.length = 5 := ⟨(y.cells ++ B.flatMap Mna.cells).drop (B.length * 5), (List.take_append_drop _ _).symm, by rw [List.length_drop, List.length_append, hlB]; simp [Mna.cells]⟩
 have hb1 : Blk W1 g 49 (A.flatMap Mna.cells ++ B.flatMap Mna.cells ++ (lst ++ sp)) := by
  have h9 := Blk.setIn news (0 + i * 5) _ _ hbd
  rw [← hW1, Nat.zero_add, ← List.append_assoc y.cells, hlst, ← hlA, List.append_assoc ((y.cells ++ B.flatMap Mna.cells).take (B.length * 5)), ← List.append_assoc (A.flatMap Mna.cells), hnews] at h9
  rwa [putIn_mid _ _ _ _ (by rw [List.length_take, List.length_append, hlB]; simp [Mna.cells])] at h9
 have hlAB : (A.flatMap Mna.cells ++ B.flatMap Mna.cells).length = (i + (n - j)) * 5 := by rw [List.length_append, hlA, hlB]; omega
 have hcl : ∀ ty, (Builtin.clear_ #[50] ty #[.slice (some ⟨g, (i + (n - j)) * 5, none⟩) (n - (i + (n - j))) (cap - (i + (n - j)))]).run Tryz.prog W1 = .ok (.tuple #[]) (W1.setCells g ((i + (n - j)) * 5) zeroSnC) := fun ty => by
  rw [show n - (i + (n - j)) = 1 by omega]
  exact clear_one W1 ty g _ _ (fun q hq => by
   rw [hb1.cell, qZa (by
    rw [List.length_append, List.length_append, List.length_append, hlA, hlB, hl5]
    omega)]
   rfl) (fun q hq => hb1.frozen _)
 have HB1 := zI hb1
 have HW : Hid (W1 = W.drew.setCells g (0 + i * 5) news) := zI hW1
 have hic : i ≤ cap := by omega
 have hjc : j ≤ cap := by omega
 have hij : i ≤ j := by omega
 have hne : i ≠ j := by omega
 have hjn : j ≤ n := by omega
 have HL := zI hlAB
 have mixed : Tryz.prog.follows Departure.mixedOrders = true := by kernel_rfl
 have t22 := Tryz.underlying50
 have heq : ¬ i = j := hne
 have hlt : i < j := by omega
 have HN : Hid (n = i + (n - j) + 1) := zI (by omega)
 clear hW1 hb1 hb hbd hlst hnews hlA hlB hlAB hj hn hi
 go_enter Tryz.func51, Tryz.ntmps51
 go_wp2_with fail
 go_region_law_o (refine step_append_room rfl (.tmp 22) (.tmp 25) 50 rfl 49 i0 5 Tryz.underlying50 hi0 hz1 g 0 i cap (by simp [Act.eval, Act.put]) Ad (n - j) (cap - j) news (by simp [Act.eval, Act.put]) s1.out hsrc.out s2.out (by omega) s3.out ?_; rw [← HW.out])
 go_wp2
 go_ret
 have hb2 := Blk.setIn zeroSnC ((i + (n - j)) * 5) _ _ HB1.out
 rw [← HL.out, ← List.append_assoc _ lst sp, putIn_mid zeroSnC _ lst sp (by rw [hl5]; rfl), List.append_assoc, HL.out, ← List.flatMap_append] at hb2
 refine ⟨by rw [show n - 1 = i + (n - j) by have := HN.out; omega]; rfl, fun q hq => ?_, ?_, ?_, hb2⟩
 · rw [setCells_far _ _ _ q hq, HW.out, setCells_far _ _ _ q hq]
   rfl
 · rw [setCells_size, HW.out, setCells_size]
   rfl
 · refine setCells_below (Nat.le_refl _) _ _ _ ?_
   rw [HW.out]
   exact setCells_below (Nat.le_refl _) _ _ _ ((Below.refl g W).drew)
def tagsU (t : PT_) (p n g : ByteArray) (e : List ByteArray → Int) (f : List ByteArray → List ByteArray) : PT_ × Int := if zfX t p n (zaQ (bs g)) true ≠ 0 then (noT, zfX t p n (zaQ (bs g)) true) else match setAt t p with
 | none => (noT, 71)
 | some s => match snapOf s n with
  | none => (noT, 71)
  | some y => if e y.u_ ≠ 0 then (noT, e y.u_) else (mapP t (tagS p n f) t.v_, 0)
def putSn (t : MSet) (k : Nat) (z : Mna) : MSet := ⟨t.l_, t.m_, t.p_, ⟨t.n_.A, t.n_.l.set k z, t.n_.c⟩, t.j_⟩
def putSe (y : MT_) (j : Nat) (t : MSet) : MT_ := { y with y_ := ⟨y.y_.A, y.y_.l.set j t, y.y_.c⟩ }
theorem tagN_set {l : List PS_} {k : Nat} {y : PS_} {n : ByteArray} {f : List ByteArray → List ByteArray} (hk : l[k]? = some y) (hn : y.x_ = n) (hnd : (l.map PS_.x_).Nodup) : l.map (tagN n f) = l.set k { y with u_ := f y.u_ } := by
 obtain ⟨hl, he⟩ := List.getElem?_eq_some_iff.1 hk
 refine List.ext_getElem (by rw [List.length_map, List.length_set]) fun i h1 h2 => ?_
 rw [List.getElem_map, List.getElem_set]
 have hi : i < l.length := by rwa [List.length_map] at h1
 by_cases hki : k = i
 · subst hki
   rw [if_pos rfl, he]
   exact if_pos hn
 · rw [if_neg hki]
   refine if_neg fun h3 => hki ?_
   have h4 := List.pairwise_iff_getElem.1 hnd
   rcases Nat.lt_or_gt_of_ne hki with h5 | h5
   · exact absurd (by rw [List.getElem_map, List.getElem_map, he, hn, h3]) (h4 k i (by rwa [List.length_map]) (by rwa [List.length_map]) h5)
   · exact absurd (by rw [List.getElem_map, List.getElem_map, he, hn, h3]) (h4 i k (by rwa [List.length_map]) (by rwa [List.length_map]) h5)
theorem tagS_all {y : MT_} (hok : okT y.plain = true) {p n : ByteArray} {f : List ByteArray → List ByteArray} {j k : Nat} {s : MSet} {z z' : Mna} (hj : y.y_.l[j]? = some s) (hsp : s.l_ = p) (hk : s.n_.l[k]? = some z) (hn : z.x_ = n) (hz : z'.plain = { z.plain with u_ := f z.plain.u_ }) :
 (putSe y j (putSn s k z')).plain = mapP y.plain (tagS p n f) y.plain.v_ := by
 have hnd : (s.plain.n_.map PS_.x_).Nodup := (snapsB_parts.1 (setB_parts (set_ok17 hok hj)).2.2.1).2.1
 have h1 := tagN_set (f := f) (l := s.plain.n_) (k := k) (y := z.plain) (by show (s.n_.l.map Mna.plain)[k]? = _; rw [List.getElem?_map, hk]; rfl) hn hnd
 have h2 := map_turn (p := p) (f := fun q : PSet => { q with n_ := q.n_.map (tagN n f) }) hok (j := j) (s := s.plain) (by show (y.y_.l.map MSet.plain)[j]? = _; rw [List.getElem?_map, hj]; rfl) hsp
 show ({ y.plain with y_ := (y.y_.l.set j (putSn s k z')).map MSet.plain } : PT_) = { y.plain with y_ := y.plain.y_.map (tagS p n f), v_ := y.plain.v_ }
 have h3 : y.plain.y_.map (tagS p n f) = (y.y_.l.set j (putSn s k z')).map MSet.plain := by
  rw [List.map_set]
  refine Eq.trans ?_ (h2.trans ?_)
  · rfl
  · show y.plain.y_.set j { s.plain with n_ := s.plain.n_.map (tagN n f) } = _
    rw [h1]
    show _ = (y.y_.l.map MSet.plain).set j ({ s.plain with n_ := (s.n_.l.set k z').map Mna.plain } : PSet)
    rw [List.map_set, hz]
    rfl
 rw [← h3]
theorem ptrN_none {y : MT_} {p n : ByteArray} (h : zfX y.plain p n true true ≠ 0) (hok : okT y.plain = true) (hp : zeX (bs p) = true) (hn : zaQ (bs n) = true) : ptrN y p n = none ∧ zfX y.plain p n true true = 71 := by
 rcases zhX y p n with ⟨hF, hS, hN, hY, hs⟩ | ⟨j, s, hF, hj, _, hS, hN, hY, hs, hh, _⟩ | ⟨j, s, k, z, hF, hj, _, hS, hN, hk, _, hY, hs, hh, _⟩
 · refine ⟨by unfold ptrN; rw [hN]; rfl, ?_⟩
   unfold zfX
   rw [hok, hp, hn, hs]
   rfl
 · refine ⟨by unfold ptrN; rw [hN]; rfl, ?_⟩
   unfold zfX
   rw [hok, hp, hn, hs]
   simp [hh]
 · refine absurd ?_ h
   unfold zfX
   rw [hok, hp, hn, hs]
   simp [hh]
set_option maxHeartbeats 4000000 in
theorem changed18_any (x : MT_) (p n tg : ByteArray) (hp : p.size ≤ 140737488351232) (gf : Nat) (lb : Array Value) (eg : Enters Tryz.prog gf) (ef : List ByteArray → Int) (fu : List ByteArray → List ByteArray) (w : World) (hx : x.Good w)
 (hf : ∀ (W : World) (N g j k : Nat) (y : MT_) (t : MSet) (z : Mna), w.heap.size ≤ N → N ≤ W.heap.size → Below w.heap.size w W → OwnTe N W y → y.Good W → SepX y → y.y_.l[j]? = some t → t.n_.A = some ⟨g, 0, none⟩ → t.n_.l[k]? = some z → tagsB z.u_.l = true → zaQ (bs tg) = true → N ≤ g →
  Calls Tryz.prog gf (#[.pointer (some ⟨g, k * 5, none⟩)] ++ lb) W fun e2 W' => ∃ z' : Mna, e2 = .returned (.int .i64 (ef z.u_.l)) ∧ (ef z.u_.l = 0 → z'.plain = { z.plain with u_ := fu z.u_.l } ∧ OwnTe N W' (putSe y j (putSn t k z')) ∧ (putSe y j (putSn t k z')).Good W') ∧ Below N W W') :
 Calls Tryz.prog 74 #[.agg x.cells.toArray, .string p, .string n, .string tg, .func (.func gf) #[] lb] w fun e2 w' => AnsT w (tagsU x.plain p n tg ef fu) e2 w' := by
 have eg' : ∀ args w, (callFunc gf args).run Tryz.prog w = .ok (.enter gf args) w := eg
 obtain ⟨a1, hw1⟩ : ∃ a1, w.alloc (.cells #[.string x.x_, .int .i64 x.r_, .int .i64 x.v_, .slice x.y_.A x.y_.l.length x.y_.c, .slice x.g_.A x.g_.l.length x.g_.c, .slice x.t_.A x.t_.l.length x.t_.c, .slice x.h_.A x.h_.l.length x.h_.c] 27) = a1 := ⟨_, rfl⟩
 have b1 : Below w.heap.size w a1 := hw1 ▸ (Below.refl _ w).alloc (Nat.le_refl _) _
 have k1 : Blk a1 w.heap.size 27 [.string x.x_, .int .i64 x.r_, .int .i64 x.v_, .slice x.y_.A x.y_.l.length x.y_.c, .slice x.g_.A x.g_.l.length x.g_.c, .slice x.t_.A x.t_.l.length x.t_.c, .slice x.h_.A x.h_.l.length x.h_.c] := hw1 ▸ Blk.new w _ _
 obtain ⟨a2, hw2⟩ : ∃ a2, a1.alloc (.cells #[.string ⟨#[]⟩, .int .i64 0, .int .i64 0, .slice none 0 0, .slice none 0 0, .slice none 0 0, .slice none 0 0] 27) = a2 := ⟨_, rfl⟩
 have b2 : Below a1.heap.size a1 a2 := hw2 ▸ (Below.refl _ a1).alloc (Nat.le_refl _) _
 have k2 : Blk a2 a1.heap.size 27 [.string ⟨#[]⟩, .int .i64 0, .int .i64 0, .slice none 0 0, .slice none 0 0, .slice none 0 0, .slice none 0 0] := hw2 ▸ Blk.new a1 _ _
 have hX2 : w.heap.size + 1 = a1.heap.size := by rw [← hw1, World.size_alloc]
 have hB1 : Below w.heap.size w a1 := b1
 have hB2 : Below w.heap.size w a2 := hB1.trans (b2.mono hB1.size)
 have k1 := k1.of b2
 have hs2 := hB2.size
 have hs1 := hB1.size
 have ht1 : a1.heap.size ≤ a2.heap.size := b2.size
 have HW1 := zI hw1
 have HW2 := zI hw2
 clear hw1 b1 hw2 b2
 have hx2 := hx.below hB2
 have HCK := zI (check_any14 x a2 hx2)
 have HPT := zI (fun W => path_any p (Nat.le_trans hp (by decide)) W)
 have HNM := zI (fun W => name_any n W)
 have HTG := zI (fun W => name_any tg W)
 have HG := zI hx2
 have HFF := zI hf
 have hlk1 := k1.lt
 have hlk2 := k2.lt
 obtain ⟨q0, q1, q2, q3, q4, q5, q6⟩ := k1.all7
 obtain ⟨P, hP⟩ : ∃ P, tagsU x.plain p n tg ef fu = P := ⟨_, rfl⟩
 rw [hP]
 rcases hok : okT x.plain with _ | _
 · obtain rfl : P = (noT, 9) := by
    rw [← hP]
    have h9 : zfX x.plain p n (zaQ (bs tg)) true = 9 := by unfold zfX; rw [if_pos hok]
    unfold tagsU
    rw [h9]
    rfl
   rw [hok] at HCK
   simp only [Bool.false_eq_true, if_false] at HCK
   clear hP hok hx hx2 hf
   go_enter Tryz.func74, Tryz.ntmps74
   go_upto_region 1 with fail
   rw [HW1.out, HW2.out]
   try rw [hX2]
   go_wp2_with fail
   refine HCK.out.mono ?_
   rintro e w3 ⟨rfl, hV⟩
   have K1 := k1.of hV
   have K2 := k2.of hV
   have hB3 := hB2.trans (hV.mono hs2)
   clear q0 q1 q2 q3 q4 q5 q6
   obtain ⟨zr0, zr1, zr2, zr3, zr4, zr5, zr6⟩ := K2.all7
   obtain ⟨zrf0, zrf1, zrf2, zrf3, zrf4, zrf5, zrf6⟩ := K2.fz7
   go_wp2
   generalize hwE9 : World.setCell _ ⟨a1.heap.size, 6, none⟩ _ = wZ
   obtain ⟨KE9, SE9, ZE9, BE9⟩ := store7 K2 hwE9
   obtain ⟨ze0, ze1, ze2, ze3, ze4, ze5, ze6⟩ := KE9.all7
   refine bodyPost_ret (v := .tuple #[.agg #[.string ⟨#[]⟩, .int .i64 0, .int .i64 0, .slice none 0 0, .slice none 0 0, .slice none 0 0, .slice none 0 0], .int .i64 (9)]) (by simp [results, Tryz.results74, go_sem, ze0, ze1, ze2, ze3, ze4, ze5, ze6]) rfl ?_
   exact ansT_no (BE9 _ _ hB3 hs1)
 · rw [hok] at HCK
   simp only [if_true] at HCK
   have HOK := zI hok
   by_cases hnm : zeX (bs p) = true ∧ zaQ (bs n) = true ∧ zaQ (bs tg) = true
   · obtain ⟨hip, hin, hit⟩ := hnm
     rw [hip] at HPT
     rw [hin] at HNM
     rw [hit] at HTG
     have HIP := zI hip
     have HIN := zI hin
     have HIT := zI hit
     have HC := zI (fun W (hW : Below a2.heap.size a2 W) => copy_sepX x W (hx2.below hW))
     have HPP := zI hP
     clear hP hok hx hx2 hf hip hin hit
     go_enter Tryz.func74, Tryz.ntmps74
     go_upto_region 1 with fail
     rw [HW1.out, HW2.out]
     try rw [hX2]
     go_wp2_with fail
     refine HCK.out.mono ?_
     rintro e w3 ⟨rfl, hV⟩
     have K1 := k1.of hV
     have K2 := k2.of hV
     have hB3 := hB2.trans (hV.mono hs2)
     clear q0 q1 q2 q3 q4 q5 q6
     go_wp2_with fail
     refine (HPT.out _).mono ?_
     rintro e w9 ⟨rfl, hVp⟩
     have K1 := K1.of hVp
     have K2 := K2.of hVp
     have hV := hV.trans (hVp.mono hV.size)
     have hB3 := hB2.trans (hV.mono hs2)
     go_wp2_with fail
     refine (HNM.out _).mono ?_
     rintro e w10 ⟨rfl, hqHNM⟩
     subst hqHNM
     go_wp2_with fail
     refine (HTG.out _).mono ?_
     rintro e w10 ⟨rfl, hqHTG⟩
     subst hqHTG
     obtain ⟨d0, d1, d2, d3, d4, d5, d6⟩ := K1.all7
     obtain ⟨df0, df1, df2, df3, df4, df5, df6⟩ := K1.fz7
     have HC3 := zI (HC.out w9 hV)
     go_wp2_with fail
     refine HC3.out.mono ?_
     rintro e w4 ⟨y, rfl, hoy, hpy, hsx, hV2⟩
     have hV3 := hV.trans (hV2.mono hV.size)
     have K3 := K1.of hV2
     have K4 := K2.of hV2
     have hlk3 := K3.lt
     have hgy : y.Good w4 := MT_.Good.of_own HG.out hpy hoy
     obtain ⟨e0, e1, e2, e3, e4, e5, e6⟩ := K3.all7
     obtain ⟨ef0, ef1, ef2, ef3, ef4, ef5, ef6⟩ := K3.fz7
     clear d0 d1 d2 d3 d4 d5 d6 df0 df1 df2 df3 df4 df5 df6
     go_upto_region 7 with fail
     generalize hwE : World.setCell _ ⟨w.heap.size, 6, none⟩ _ = wE
     obtain ⟨KE, SE, ZE, BE⟩ := store7 K3 hwE
     have hlw : w.heap.size < w9.heap.size := K1.lt
     have hoE := hoy.store hlw SE
     have hgE : y.Good wE := MT_.Good.of_own hgy rfl hoE
     have hX4 := hB2.trans (hV3.mono hs2)
     have hXE : Below w.heap.size w wE := BE _ _ hX4 (Nat.le_refl _)
     have hne1 : a1.heap.size ≠ w.heap.size := by omega
     have K5 : Blk wE a1.heap.size 27 [.string ⟨#[]⟩, .int .i64 0, .int .i64 0, .slice none 0 0, .slice none 0 0, .slice none 0 0, .slice none 0 0] := (SE _ hne1).trans K4
     have hw9E : w9.heap.size ≤ wE.heap.size := by rw [ZE]; exact hV2.size
     have hw03 : w.heap.size ≤ w9.heap.size := Nat.le_of_lt hlw
     have HF := zI (hfind_any y p n wE hgE)
     have HOE := zI hoE
     have HGE := zI hgE
     have HSX := zI hsx
     have HPY := zI hpy
     have HXE := zI hXE
     clear hwE hoE hgE hgy hoy hsx hpy e0 e1 e2 e3 e4 e5 e6 ef0 ef1 ef2 ef3 ef4 ef5 ef6
     by_cases hfo : zfX y.plain p n true true = 0
     · obtain ⟨hoky, _, _, _, j, s, k, z0, hIj, hj, hsp, hSs, hOk, hk, hyn0, hYs, hsa, hhs, hso, hsm, htk⟩ := found_zero hfo
       have hjl : j < y.y_.l.length := (List.getElem?_eq_some_iff.1 hj).1
       have hkl : k < s.n_.l.length := (List.getElem?_eq_some_iff.1 hk).1
       have hsnr := (HOE.out.eset s (mG hj)).snaps
       obtain ⟨g0, cap, hA0, hg0, hgE0⟩ : ∃ (g0 cap : Nat), s.n_.A = some ⟨g0, 0, none⟩ ∧ w9.heap.size ≤ g0 ∧ g0 < wE.heap.size := by
        obtain ⟨_, ⟨_, h0⟩ | ⟨gg, cap, cur, a1, a2, a3, a4, a5, a6, a7⟩⟩ := hsnr
        · omega
        · unfold Sl.val at a1
          injection a1 with a1 a12 a13
          exact ⟨gg, cap, a1, a2, lt_of_block a3⟩
       have hptr : ptrN y p n = some ⟨g0, k * 5, none⟩ := by
        unfold ptrN
        rw [hOk, if_neg (by omega), hSs, hA0]
        simp
       rw [hptr] at HF
       have htg : tagsB z0.u_.l = true := by
        have h9 := (snapsB_parts.1 (setB_parts (set_ok17 hoky hj)).2.2.1).1.1 z0.plain (List.mem_map.2 ⟨z0, mG hk, rfl⟩)
        unfold snapB at h9
        simp only [Bool.and_eq_true] at h9
        exact h9.2.2.1
       have hpu : P = if ef z0.u_.l ≠ 0 then (noT, ef z0.u_.l) else (mapP y.plain (tagS p n fu) y.plain.v_, 0) := by
        rw [← HPP.out, ← HPY.out]
        unfold tagsU
        rw [HIT.out, hfo]
        simp only [ne_eq, not_true_eq_false, if_false, hsa, hso]
        rfl
       have HPU := zI hpu
       have hpl := fun (z' : Mna) h => tagS_all (y := y) (f := fu) (z' := z') hoky hj hsp hk hyn0 h
       have HPL := zI hpl
       have HDD := zI (fun W (hW : Below wE.heap.size wE W) => HFF.out W w9.heap.size g0 j k y s z0 hw03 (Nat.le_trans hw9E hW.size) (HXE.out.trans (hW.mono HXE.out.size)) (HOE.out.below hW) (HGE.out.below hW) HSX.out hj hA0 hk htg HIT.out hg0)
       clear hoky hIj hj hsp hSs hOk hk hyn0 hYs hsa hhs hso hsm htk hfo hsnr hptr htg hpu hpl hA0
       obtain ⟨h0, h1, h2, h3, h4, h5, h6⟩ := KE.all7
       go_wp2_with fail
       refine HF.out.mono ?_
       rintro e w5 ⟨rfl, hV5⟩
       have HD := zI (HDD.out w5 hV5)
       have KT5 := KE.of hV5
       have K6 := K5.of hV5
       have hX5 := HXE.out.trans (hV5.mono HXE.out.size)
       clear h0 h1 h2 h3 h4 h5 h6
       obtain ⟨E, hE⟩ : ∃ E, ef z0.u_.l = E := ⟨_, rfl⟩
       rw [hE] at HD HPU
       clear hE
       go_wp2_with fail
       refine HD.out.mono ?_
       rintro e9 w6 ⟨z', rfl, hs', hV6⟩
       have hlka : a1.heap.size < w9.heap.size := by have := hV.size; omega
       have K7 := K6.below hV6 hlka
       have KT7 := KT5.below hV6 hlw
       have hX6 := hX5.trans (hV6.mono hw03)
       by_cases hz : E = 0
       · subst hz
         obtain ⟨hs3', hs2', hs3⟩ := hs' rfl
         obtain rfl : P = (mapP y.plain (tagS p n fu) y.plain.v_, 0) := HPU.out
         have HPL2 := zI (HPL.out z' hs3')
         have HS2 := zI hs2'
         have HS3 := zI hs3
         clear hs' hs3' hs2' hs3
         obtain ⟨m0, m1, m2, m3, m4, m5, m6⟩ := KT7.all7
         obtain ⟨zr0, zr1, zr2, zr3, zr4, zr5, zr6⟩ := K7.all7
         obtain ⟨zrf0, zrf1, zrf2, zrf3, zrf4, zrf5, zrf6⟩ := K7.fz7
         go_wp2
         generalize hwE : World.setCell _ ⟨a1.heap.size, 6, none⟩ _ = wZ
         obtain ⟨KE9, SE9, ZE9, BE9⟩ := store7 K7 hwE
         obtain ⟨ze0, ze1, ze2, ze3, ze4, ze5, ze6⟩ := KE9.all7
         refine bodyPost_ret (v := .tuple #[.agg #[.string y.x_, .int .i64 y.r_, .int .i64 y.v_, .slice y.y_.A y.y_.l.length y.y_.c, .slice y.g_.A y.g_.l.length y.g_.c, .slice y.t_.A y.t_.l.length y.t_.c, .slice y.h_.A y.h_.l.length y.h_.c], .int .i64 0]) (by simp [results, Tryz.results74, go_sem, ze0, ze1, ze2, ze3, ze4, ze5, ze6]) rfl ?_
         have hoF := HS2.out.store hlka SE9
         refine ⟨putSe y j (putSn s k z'), ?_, hoF.base hw03, MT_.Good.of_own HS3.out rfl hoF, HPL2.out, BE9 _ _ hX6 hs1⟩
         simp only [MT_.cells, putSe, List.length_set]
       · obtain rfl : P = (noT, E) := by rw [HPU.out]; exact if_pos hz
         have hq : (E == 0) = false := beq_eq_false_iff_ne.2 hz
         clear hs' 
         obtain ⟨zr0, zr1, zr2, zr3, zr4, zr5, zr6⟩ := K7.all7
         obtain ⟨zrf0, zrf1, zrf2, zrf3, zrf4, zrf5, zrf6⟩ := K7.fz7
         go_wp2
         generalize hwE9 : World.setCell _ ⟨a1.heap.size, 6, none⟩ _ = wZ
         obtain ⟨KE9, SE9, ZE9, BE9⟩ := store7 K7 hwE9
         obtain ⟨ze0, ze1, ze2, ze3, ze4, ze5, ze6⟩ := KE9.all7
         refine bodyPost_ret (v := .tuple #[.agg #[.string ⟨#[]⟩, .int .i64 0, .int .i64 0, .slice none 0 0, .slice none 0 0, .slice none 0 0, .slice none 0 0], .int .i64 (E)]) (by simp [results, Tryz.results74, go_sem, ze0, ze1, ze2, ze3, ze4, ze5, ze6]) rfl ?_
         exact ansT_no (BE9 _ _ hX6 hs1)
     · obtain ⟨hptr, h71⟩ := ptrN_none hfo (by rw [HPY.out]; exact HOK.out) HIP.out HIN.out
       rw [hptr] at HF
       obtain rfl : P = (noT, 71) := by
        rw [← HPP.out, ← HPY.out]
        unfold tagsU
        rw [HIT.out, h71]
        rfl
       clear hfo hptr h71
       obtain ⟨h0, h1, h2, h3, h4, h5, h6⟩ := KE.all7
       go_wp2_with fail
       refine HF.out.mono ?_
       rintro e w5 ⟨rfl, hV5⟩
       have K6 := K5.of hV5
       have hX5 := HXE.out.trans (hV5.mono HXE.out.size)
       clear h0 h1 h2 h3 h4 h5 h6
       obtain ⟨zr0, zr1, zr2, zr3, zr4, zr5, zr6⟩ := K6.all7
       obtain ⟨zrf0, zrf1, zrf2, zrf3, zrf4, zrf5, zrf6⟩ := K6.fz7
       go_wp2
       generalize hwE9 : World.setCell _ ⟨a1.heap.size, 6, none⟩ _ = wZ
       obtain ⟨KE9, SE9, ZE9, BE9⟩ := store7 K6 hwE9
       obtain ⟨ze0, ze1, ze2, ze3, ze4, ze5, ze6⟩ := KE9.all7
       refine bodyPost_ret (v := .tuple #[.agg #[.string ⟨#[]⟩, .int .i64 0, .int .i64 0, .slice none 0 0, .slice none 0 0, .slice none 0 0, .slice none 0 0], .int .i64 (71)]) (by simp [results, Tryz.results74, go_sem, ze0, ze1, ze2, ze3, ze4, ze5, ze6]) rfl ?_
       exact ansT_no (BE9 _ _ hX5 hs1)
   · obtain rfl : P = (noT, 31) := by
      rw [← hP]
      have h9 : zfX x.plain p n (zaQ (bs tg)) true = 31 := by
       unfold zfX
       rw [if_neg (by rw [hok]; decide), if_pos]
       rcases h1 : zeX (bs p) with _ | _
       · exact .inl rfl
       rcases h2 : zaQ (bs n) with _ | _
       · exact .inr (.inl rfl)
       rcases h3 : zaQ (bs tg) with _ | _
       · exact .inr (.inr rfl)
       exact absurd ⟨h1, h2, h3⟩ hnm
      unfold tagsU
      rw [h9]
      rfl
     obtain ⟨PB, hPB⟩ : ∃ PB, zeX (bs p) = PB := ⟨_, rfl⟩
     obtain ⟨NB, hNB⟩ : ∃ NB, zaQ (bs n) = NB := ⟨_, rfl⟩
     obtain ⟨TB, hTB⟩ : ∃ TB, zaQ (bs tg) = TB := ⟨_, rfl⟩
     rw [hPB] at HPT
     rw [hNB] at HNM
     rw [hTB] at HTG
     rw [hPB, hNB, hTB] at hnm
     clear hP hok hx hx2 hf hPB hNB hTB
     cases PB
     · clear hnm
       go_enter Tryz.func74, Tryz.ntmps74
       go_upto_region 1 with fail
       rw [HW1.out, HW2.out]
       try rw [hX2]
       go_wp2_with fail
       refine HCK.out.mono ?_
       rintro e w3 ⟨rfl, hV⟩
       have K1 := k1.of hV
       have K2 := k2.of hV
       have hB3 := hB2.trans (hV.mono hs2)
       clear q0 q1 q2 q3 q4 q5 q6
       go_wp2_with fail
       refine (HPT.out _).mono ?_
       rintro e w9 ⟨rfl, hVp⟩
       have K1 := K1.of hVp
       have K2 := K2.of hVp
       have hV := hV.trans (hVp.mono hV.size)
       have hB3 := hB2.trans (hV.mono hs2)
       obtain ⟨zr0, zr1, zr2, zr3, zr4, zr5, zr6⟩ := K2.all7
       obtain ⟨zrf0, zrf1, zrf2, zrf3, zrf4, zrf5, zrf6⟩ := K2.fz7
       go_wp2
       generalize hwE9 : World.setCell _ ⟨a1.heap.size, 6, none⟩ _ = wZ
       obtain ⟨KE9, SE9, ZE9, BE9⟩ := store7 K2 hwE9
       obtain ⟨ze0, ze1, ze2, ze3, ze4, ze5, ze6⟩ := KE9.all7
       refine bodyPost_ret (v := .tuple #[.agg #[.string ⟨#[]⟩, .int .i64 0, .int .i64 0, .slice none 0 0, .slice none 0 0, .slice none 0 0, .slice none 0 0], .int .i64 (31)]) (by simp [results, Tryz.results74, go_sem, ze0, ze1, ze2, ze3, ze4, ze5, ze6]) rfl ?_
       exact ansT_no (BE9 _ _ hB3 hs1)
     · cases NB
       · clear hnm
         go_enter Tryz.func74, Tryz.ntmps74
         go_upto_region 1 with fail
         rw [HW1.out, HW2.out]
         try rw [hX2]
         go_wp2_with fail
         refine HCK.out.mono ?_
         rintro e w3 ⟨rfl, hV⟩
         have K1 := k1.of hV
         have K2 := k2.of hV
         have hB3 := hB2.trans (hV.mono hs2)
         clear q0 q1 q2 q3 q4 q5 q6
         go_wp2_with fail
         refine (HPT.out _).mono ?_
         rintro e w9 ⟨rfl, hVp⟩
         have K1 := K1.of hVp
         have K2 := K2.of hVp
         have hV := hV.trans (hVp.mono hV.size)
         have hB3 := hB2.trans (hV.mono hs2)
         go_wp2_with fail
         refine (HNM.out _).mono ?_
         rintro e w10 ⟨rfl, hqHNM⟩
         subst hqHNM
         obtain ⟨zr0, zr1, zr2, zr3, zr4, zr5, zr6⟩ := K2.all7
         obtain ⟨zrf0, zrf1, zrf2, zrf3, zrf4, zrf5, zrf6⟩ := K2.fz7
         go_wp2
         generalize hwE9 : World.setCell _ ⟨a1.heap.size, 6, none⟩ _ = wZ
         obtain ⟨KE9, SE9, ZE9, BE9⟩ := store7 K2 hwE9
         obtain ⟨ze0, ze1, ze2, ze3, ze4, ze5, ze6⟩ := KE9.all7
         refine bodyPost_ret (v := .tuple #[.agg #[.string ⟨#[]⟩, .int .i64 0, .int .i64 0, .slice none 0 0, .slice none 0 0, .slice none 0 0, .slice none 0 0], .int .i64 (31)]) (by simp [results, Tryz.results74, go_sem, ze0, ze1, ze2, ze3, ze4, ze5, ze6]) rfl ?_
         exact ansT_no (BE9 _ _ hB3 hs1)
       · cases TB
         · clear hnm
           go_enter Tryz.func74, Tryz.ntmps74
           go_upto_region 1 with fail
           rw [HW1.out, HW2.out]
           try rw [hX2]
           go_wp2_with fail
           refine HCK.out.mono ?_
           rintro e w3 ⟨rfl, hV⟩
           have K1 := k1.of hV
           have K2 := k2.of hV
           have hB3 := hB2.trans (hV.mono hs2)
           clear q0 q1 q2 q3 q4 q5 q6
           go_wp2_with fail
           refine (HPT.out _).mono ?_
           rintro e w9 ⟨rfl, hVp⟩
           have K1 := K1.of hVp
           have K2 := K2.of hVp
           have hV := hV.trans (hVp.mono hV.size)
           have hB3 := hB2.trans (hV.mono hs2)
           go_wp2_with fail
           refine (HNM.out _).mono ?_
           rintro e w10 ⟨rfl, hqHNM⟩
           subst hqHNM
           go_wp2_with fail
           refine (HTG.out _).mono ?_
           rintro e w10 ⟨rfl, hqHTG⟩
           subst hqHTG
           obtain ⟨zr0, zr1, zr2, zr3, zr4, zr5, zr6⟩ := K2.all7
           obtain ⟨zrf0, zrf1, zrf2, zrf3, zrf4, zrf5, zrf6⟩ := K2.fz7
           go_wp2
           generalize hwE9 : World.setCell _ ⟨a1.heap.size, 6, none⟩ _ = wZ
           obtain ⟨KE9, SE9, ZE9, BE9⟩ := store7 K2 hwE9
           obtain ⟨ze0, ze1, ze2, ze3, ze4, ze5, ze6⟩ := KE9.all7
           refine bodyPost_ret (v := .tuple #[.agg #[.string ⟨#[]⟩, .int .i64 0, .int .i64 0, .slice none 0 0, .slice none 0 0, .slice none 0 0, .slice none 0 0], .int .i64 (31)]) (by simp [results, Tryz.results74, go_sem, ze0, ze1, ze2, ze3, ze4, ze5, ze6]) rfl ?_
           exact ansT_no (BE9 _ _ hB3 hs1)
         · exact absurd ⟨rfl, rfl, rfl⟩ hnm
theorem flat_same {α : Type} (cells : α → List Value) : ∀ {l : List α} {j : Nat} {x y : α}, l[j]? = some x → cells y = cells x → (l.set j y).flatMap cells = l.flatMap cells
 | [], j, x, y, h, _ => by simp at h
 | a :: l, 0, x, y, h, hy => by
  rw [List.getElem?_cons_zero] at h
  injection h with h
  subst h
  rw [List.set_cons_zero, List.flatMap_cons, List.flatMap_cons, hy]
 | a :: l, j + 1, x, y, h, hy => by
  rw [List.getElem?_cons_succ] at h
  rw [List.set_cons_succ, List.flatMap_cons, List.flatMap_cons, flat_same cells h hy]
theorem mem_set_ix {α : Type} {l : List α} {j : Nat} {s x : α} (h : x ∈ l.set j s) : x = s ∨ ∃ i, i ≠ j ∧ l[i]? = some x := by
 obtain ⟨i, hi, e⟩ := List.getElem_of_mem h
 rw [List.length_set] at hi
 rw [List.getElem_set] at e
 split at e
 · exact .inl e.symm
 · rename_i hne
   exact .inr ⟨i, fun e2 => hne e2.symm, by rw [qZa hi, e]⟩
theorem slBlock {α : Type} {A : Option Addr} {l : List α} {c b : Nat} (h : (Sl.val ⟨A, l, c⟩).ownBlock = some b) : ∃ a : Addr, A = some a ∧ a.block = b := by
 unfold Sl.val Value.ownBlock at h
 rcases A with _ | a
 · cases h
 · injection h with h
   exact ⟨a, rfl, h⟩
theorem sepG_ne {a b : Mna} (h : SepG a b ∨ SepG b a) {c : Nat} (ha : a.u_.val.ownBlock = some c) : some c ≠ b.u_.val.ownBlock := fun e => by
 obtain ⟨x, h1, h2⟩ := slBlock ha
 obtain ⟨y, h3, h4⟩ := slBlock e.symm
 rcases h with h | h
 · have := h x y h1 h3
   omega
 · have := h y x h3 h1
   omega
theorem pair_ix {α : Type} {R : α → α → Prop} {l : List α} (h : l.Pairwise R) {i j : Nat} {a b : α} (hne : i ≠ j) (ha : l[i]? = some a) (hb : l[j]? = some b) : R a b ∨ R b a := by
 obtain ⟨li, ei⟩ := List.getElem?_eq_some_iff.1 ha
 obtain ⟨lj, ej⟩ := List.getElem?_eq_some_iff.1 hb
 have hp := List.pairwise_iff_getElem.1 h
 rcases Nat.lt_or_gt_of_ne hne with k | k
 · exact .inl (by have := hp i j li lj k; rwa [ei, ej] at this)
 · exact .inr (by have := hp j i lj li k; rwa [ei, ej] at this)
theorem keeps_but {n size k : Nat} {W V : World} {e : TypeId} {v : Value} {xs : List Value} (h : W.ownsRow n e size v k xs) (hV : ∀ b, b < W.heap.size → some b ≠ v.ownBlock → V.heap[b]? = W.heap[b]?) : Keeps e W V := fun b cur e' hb hne => hV b (Array.getElem?_eq_some_iff.1 hb).1 fun e1 => by
 obtain ⟨_, ⟨hv, _⟩ | ⟨gg, cap, cur2, hv, hn, hb2, _⟩⟩ := h
 · rw [hv] at e1
   cases e1
 · rw [hv] at e1
   injection e1 with e1
   have e1 : b = gg := e1
   subst e1
   rw [hb] at hb2
   injection hb2 with hb2
   injection hb2 with _ h6 _
   exact hne h6
theorem OwnTe.tagsAt {n : Nat} {W V : World} {y : MT_} (h : OwnTe n W y) (hgy : y.Good W) (hX : SepX y) {j : Nat} {t : MSet} (hj : y.y_.l[j]? = some t) {k : Nat} {z : Mna} (hk : t.n_.l[k]? = some z) {g0 : Nat} (hA : t.n_.A = some ⟨g0, 0, none⟩)
 (hV : ∀ b, b < W.heap.size → some b ≠ z.u_.val.ownBlock → V.heap[b]? = W.heap[b]?) {T : Sl ByteArray} (hT : V.ownsRow n 9 1 T.val T.l.length (T.l.flatMap fun s => [Value.string s])) (hTg : ∀ s ∈ T.l, s.size ≤ 140737488351232) (hTl : T.l.length * 16 ≤ 140737488351232) {z' : Mna} (hz' : z' = { z with u_ := T }) :
 OwnTe n (V.setCell ⟨g0, k * 5 + 3, none⟩ T.val) (putSe y j (putSn t k z')) ∧ (putSe y j (putSn t k z')).Good (V.setCell ⟨g0, k * 5 + 3, none⟩ T.val) := by
 obtain ⟨V2, hVd⟩ : ∃ V2, V.setCell ⟨g0, k * 5 + 3, none⟩ T.val = V2 := ⟨_, rfl⟩
 have h8 := h.eset t (mG hj)
 have hz8 := h8.each z (mG hk)
 have tG := hgy.w_.el t (mG hj)
 have hkV : Keeps 9 W V := keeps_but hz8.tags hV
 have hr1 : V.ownsRow n 49 5 (.slice (some ⟨g0, 0, none⟩) t.n_.l.length t.n_.c) t.n_.l.length (t.n_.l.flatMap Mna.cells) := by
  have h1 := zbX h8.snaps (by decide) hkV
  unfold Sl.val at h1
  rwa [hA] at h1
 have hk2 : Keeps 49 V V2 := hVd ▸ keeps_setIn hr1 (k * 5 + 3) T.val
 have hoth : ∀ b, b ≠ g0 → V2.heap[b]? = V.heap[b]? := fun b hb => by
  rw [← hVd]
  exact heap_setCell_other V ⟨g0, k * 5 + 3, none⟩ b _ hb
 have hsn : V2.ownsRow n 49 5 (putSn t k z').n_.val (putSn t k z').n_.l.length ((putSn t k z').n_.l.flatMap Mna.cells) := by
  have h2 := own_setIn hr1 (k * 5 + 3) T.val
  rw [← flat_set (y := z') Mna.cells (fun _ => rfl) hk (by rw [hz']; rfl) (by decide)] at h2
  rw [hVd] at h2
  unfold putSn Sl.val
  rw [List.length_set, hA]
  exact h2
 have two : ∀ {e : TypeId} {size m : Nat} {v : Value} {xs : List Value}, W.ownsRow n e size v m xs → e ≠ 9 → e ≠ 49 → V2.ownsRow n e size v m xs := fun h1 h2 h3 => zbX (zbX h1 h2 hkV) h3 hk2
 have tg : ∀ {q : Mna}, OwnSn n W q → (SepG q z ∨ SepG z q) → OwnSn n V2 q := fun {q} h1 h2 => by
  refine ⟨two h1.body (by decide) (by decide), zbX (ownStay h1.tags fun b hb => hV b (h1.tags.lt b hb).2 (sepG_ne h2 hb)) (by decide) hk2, two h1.own (by decide) (by decide)⟩
 have hos : OwnSe n V2 (putSn t k z') := by
  refine ⟨two h8.body (by decide) (by decide), hsn, two h8.own (by decide) (by decide), fun q hq => ?_⟩
  rcases mem_set_ix hq with rfl | ⟨i, hi, hq⟩
  · subst hz'
    exact ⟨two hz8.body (by decide) (by decide), zbX hT (by decide) hk2, two hz8.own (by decide) (by decide)⟩
  · exact tg (h8.each q (mG hq)) (pair_ix (hX.sg t (mG hj)) hi hq hk)
 have hgs : (putSn t k z').Good V2 := by
  have hea := hos.each
  refine ⟨tG.C_, tG.gorigin_, slGood_own tG.K_ rfl hos.body (fun q hq => tG.K_.el q hq), slGood_of hsn rfl (fun q hq => ?_) (by show (t.n_.l.set k _).length * 96 ≤ _; rw [List.length_set]; exact tG.f_.len), slGood_own tG.G_ rfl hos.own (fun q hq => tG.G_.el q hq)⟩
  rcases mem_set_ix hq with rfl | ⟨i, hi, hq2⟩
  · have h9 := hea _ hq
    have zG := tG.f_.el z (mG hk)
    subst hz'
    exact ⟨zG.L_, zG.gguid_, slGood_own zG.K_ rfl h9.body (fun q hq => zG.K_.el q hq), slGood_of h9.tags rfl hTg hTl, slGood_own zG.G_ rfl h9.own (fun q hq => zG.G_.el q hq)⟩
  · exact Mna.Good.of_own (tG.f_.el q (mG hq2)) rfl (hea q hq)
 rw [hVd]
 have hcs : (putSn t k z').cells = t.cells := by
  unfold putSn MSet.cells
  rw [List.length_set]
 have h1 : OwnTe n V2 (putSe y j (putSn t k z')) := by
  refine ⟨?_, two h.grants (by decide) (by decide), two h.stages (by decide) (by decide), two h.log (by decide) (by decide), fun x hx => ?_, fun x hx => ?_⟩
  · show V2.ownsRow n 52 5 (.slice y.y_.A (y.y_.l.set j (putSn t k z')).length y.y_.c) (y.y_.l.set j (putSn t k z')).length ((y.y_.l.set j (putSn t k z')).flatMap MSet.cells)
    rw [List.length_set, flat_same MSet.cells hj hcs]
    exact two h.sets (by decide) (by decide)
  · rcases mem_set_ix hx with rfl | ⟨i, hi, hx⟩
    · exact hos
    · have h9 := h.eset x (mG hx)
      refine ⟨two h9.body (by decide) (by decide), ?_, two h9.own (by decide) (by decide), fun q hq => tg (h9.each q hq) ?_⟩
      · refine ownStay (zbX h9.snaps (by decide) hkV) fun b hb => hoth b fun e1 => ?_
        obtain ⟨a1, h3, h4⟩ := own_block hb
        rcases pair_ix hX.sn hi hx hj with hs | hs
        · have := hs a1 _ h3 hA
          have h5 : a1.block < g0 := this
          omega
        · have := hs _ a1 hA h3
          have h5 : g0 < a1.block := this
          omega
      · rcases pair_ix hX.st hi hx hj with hs | hs
        · exact .inl (hs q hq z (mG hk))
        · exact .inr (hs z (mG hk) q hq)
  · have h9 := h.estage x hx
    exact ⟨two h9.body (by decide) (by decide), two h9.own (by decide) (by decide)⟩
 refine ⟨h1, MT_.Good.of_sets (x := y) hgy rfl (by show (y.y_.l.set j (putSn t k z')).length * 104 ≤ _; rw [List.length_set]; exact hgy.w_.len) (fun q hq => ?_) h1⟩
 rcases mem_set_ix hq with rfl | ⟨i, hi, hq2⟩
 · exact hgs
 · exact MSet.Good.of_own (hgy.w_.el q (mG hq2)) rfl (h1.eset q hq)
theorem eraseP_mid {α : Type} {p : α → Bool} : ∀ {A : List α} {y : α} {B : List α}, (∀ x ∈ A, p x = false) → p y = true → (A ++ y :: B).eraseP p = A ++ B
 | [], y, B, _, h => by simp [h]
 | a :: A, y, B, h, hy => by
  rw [List.cons_append, List.eraseP_cons_of_neg (by rw [h a (List.mem_cons_self ..)]; decide), eraseP_mid (fun x hx => h x (List.mem_cons_of_mem _ hx)) hy]
  rfl
set_option maxHeartbeats 2000000 in
theorem destroy17_any (x : MT_) (p n : ByteArray) (hp : p.size ≤ 140737488351232) (w : World) (hx : x.Good w) :
 Calls Tryz.prog 12 #[.agg x.cells.toArray, .string p, .string n] w fun e w' => AnsT w (unsnapP x.plain p n) e w' := by
 obtain ⟨a1, hw1⟩ : ∃ a1, w.alloc (.cells #[.string x.x_, .int .i64 x.r_, .int .i64 x.v_, .slice x.y_.A x.y_.l.length x.y_.c, .slice x.g_.A x.g_.l.length x.g_.c, .slice x.t_.A x.t_.l.length x.t_.c, .slice x.h_.A x.h_.l.length x.h_.c] 27) = a1 := ⟨_, rfl⟩
 have b1 : Below w.heap.size w a1 := hw1 ▸ (Below.refl _ w).alloc (Nat.le_refl _) _
 have k1 : Blk a1 w.heap.size 27 [.string x.x_, .int .i64 x.r_, .int .i64 x.v_, .slice x.y_.A x.y_.l.length x.y_.c, .slice x.g_.A x.g_.l.length x.g_.c, .slice x.t_.A x.t_.l.length x.t_.c, .slice x.h_.A x.h_.l.length x.h_.c] := hw1 ▸ Blk.new w _ _
 obtain ⟨a2, hw2⟩ : ∃ a2, a1.alloc (.cells #[.string ⟨#[]⟩, .int .i64 0, .int .i64 0, .slice none 0 0, .slice none 0 0, .slice none 0 0, .slice none 0 0] 27) = a2 := ⟨_, rfl⟩
 have b2 : Below a1.heap.size a1 a2 := hw2 ▸ (Below.refl _ a1).alloc (Nat.le_refl _) _
 have k2 : Blk a2 a1.heap.size 27 [.string ⟨#[]⟩, .int .i64 0, .int .i64 0, .slice none 0 0, .slice none 0 0, .slice none 0 0, .slice none 0 0] := hw2 ▸ Blk.new a1 _ _
 have hX2 : w.heap.size + 1 = a1.heap.size := by rw [← hw1, World.size_alloc]
 have hB1 : Below w.heap.size w a1 := b1
 have hB2 : Below w.heap.size w a2 := hB1.trans (b2.mono hB1.size)
 have k1 := k1.of b2
 have hs2 := hB2.size
 have hs1 := hB1.size
 have ht1 : a1.heap.size ≤ a2.heap.size := b2.size
 have HW1 := zI hw1
 have HW2 := zI hw2
 clear hw1 b1 hw2 b2
 have hx2 := hx.below hB2
 have HXW := zI hx
 have HFD := zI (find17_any x p n a2 hx2)
 have HCK : Hid (∀ W, Below a2.heap.size a2 W → Calls Tryz.prog 42 #[.agg x.cells.toArray] W fun e w' => e = .returned (.int .i64 (okE x)) ∧ Below W.heap.size W w') := zI fun W hW => check_any14 x W (hx2.below hW)
 have HPT := zI (fun W => path_any p (Nat.le_trans hp (by decide)) W)
 have HNM := zI (fun W => name_any n W)
 have hlk1 := k1.lt
 have hlk2 := k2.lt
 have HG := zI hx2
 have hos := unsnapE_is x p n
 simp only [Int.natCast_pos] at hos
 obtain ⟨CL, hCL⟩ : ∃ CL, clonesX x p n = CL := ⟨_, rfl⟩
 have HCLN : Hid (∀ W, Below a2.heap.size a2 W → Calls Tryz.prog 50 #[.agg x.cells.toArray, .string p, .string n] W fun e w' => ∃ v, e = .returned v ∧ ownT w' W.heap.size v CL ∧ Below W.heap.size W w') := zI fun W hW => by
  have h9 := clonesX_any x p n W (hx2.below hW)
  rwa [hCL] at h9
 obtain ⟨I, hI⟩ : ∃ I, findM x p = I := ⟨_, rfl⟩
 obtain ⟨O, hO⟩ : ∃ O, atN x p n = O := ⟨_, rfl⟩
 obtain ⟨S, hS⟩ : ∃ S, atS x p = S := ⟨_, rfl⟩
 obtain ⟨Y, hY⟩ : ∃ Y, atY x p n = Y := ⟨_, rfl⟩
 obtain ⟨OK, hOK⟩ : ∃ OK, okE x = OK := ⟨_, rfl⟩
 obtain ⟨PB, hPB⟩ : ∃ PB, zeX (bs p) = PB := ⟨_, rfl⟩
 obtain ⟨NB, hNB⟩ : ∃ NB, zaQ (bs n) = NB := ⟨_, rfl⟩
 have HGS : Hid (S.Good a2) := zI (hS ▸ atS_good hx2)
 have hsl := HGS.out.f_.len
 rw [hO, hOK, hPB, hNB, hY, hCL] at hos
 rw [hI, hO, hS, hY] at HFD
 rw [hPB] at HPT
 rw [hNB] at HNM
 rw [hOK] at HCK
 have HII := zI hI
 have HOO := zI hO
 have HSS := zI hS
 have HYY := zI hY
 obtain ⟨R, hR⟩ : ∃ R, unsnapP x.plain p n = R := ⟨_, rfl⟩
 rw [hR]
 have HPR := zI hR
 obtain ⟨E, hE⟩ : ∃ E, unsnapE x.plain p n = E := ⟨_, rfl⟩
 rw [hE] at hos
 obtain ⟨W24, hW24⟩ : ∃ W, whenI 31 ([!PB, !NB].any id) = W := ⟨_, rfl⟩
 obtain ⟨W29, hW29⟩ : ∃ W, whenI 71 ([decide (O < 0)].any id) = W := ⟨_, rfl⟩
 obtain ⟨W37, hW37⟩ : ∃ W, whenI 44 ([decide (0 < CL.length)].any id) = W := ⟨_, rfl⟩
 obtain ⟨W44, hW44⟩ : ∃ W, whenI 43 ([decide (0 < Y.u_.l.length)].any id) = W := ⟨_, rfl⟩
 rw [hW24, hW29, hW37, hW44] at hos
 have HWW24 := zI hW24
 have HWW29 := zI hW29
 have HWW37 := zI hW37
 have HWW44 := zI hW44
 clear hW24 hW29 hW37 hW44
 have HOS := zI hos
 have HE := zI hE
 clear hI hO hS hY hOK hPB hNB hos hE hx hx2 hR
 obtain ⟨q0, q1, q2, q3, q4, q5, q6⟩ := k1.all7
 go_enter Tryz.func12, Tryz.ntmps12
 go_upto_region 1 with fail
 rw [HW1.out, HW2.out]
 try rw [hX2]
 go_wp2_with fail
 refine HFD.out.mono ?_
 rintro e w3 ⟨rfl, hV⟩
 have K1 := k1.of hV
 have K2 := k2.of hV
 have hs3 := hV.size
 obtain ⟨w4, hw4⟩ : ∃ w4, w3.alloc (.cells #[.int .i64 I, .int .i64 O, .string S.l_, .string S.m_, .slice S.p_.A S.p_.l.length S.p_.c, .slice S.n_.A S.n_.l.length S.n_.c, .slice S.j_.A S.j_.l.length S.j_.c, .string Y.x_, .int .i64 Y.z_, .slice Y.p_.A Y.p_.l.length Y.p_.c, .slice Y.u_.A Y.u_.l.length Y.u_.c, .slice Y.j_.A Y.j_.l.length Y.j_.c] 67) = w4 := ⟨_, rfl⟩
 have hV4 : Below w3.heap.size w3 w4 := hw4 ▸ (Below.refl _ w3).alloc (Nat.le_refl _) _
 have kP : Blk w4 w3.heap.size 67 [.int .i64 I, .int .i64 O, .string S.l_, .string S.m_, .slice S.p_.A S.p_.l.length S.p_.c, .slice S.n_.A S.n_.l.length S.n_.c, .slice S.j_.A S.j_.l.length S.j_.c, .string Y.x_, .int .i64 Y.z_, .slice Y.p_.A Y.p_.l.length Y.p_.c, .slice Y.u_.A Y.u_.l.length Y.u_.c, .slice Y.j_.A Y.j_.l.length Y.j_.c] := hw4 ▸ Blk.new w3 _ _
 have K1 := K1.of hV4
 have K2 := K2.of hV4
 have hV25 := hV.trans (hV4.mono hs3)
 have hs25 := hV25.size
 have hlT := K1.lt
 have hlP := kP.lt
 have HW4 := zI hw4
 clear hw4 q0 q1 q2 q3 q4 q5 q6
 clear hCL
 go_upto_region 2 with fail
 rw [HW4.out]
 obtain ⟨t0, t1, t2, t3, t4, t5, t6⟩ := K1.all7
 obtain ⟨c0, c1, c2, c3, c4, c5, c6, c7, c8, c9, c10, c11⟩ := kP.all12
 refine wp_region_noPanic ?_
 refine zcX 32 (fun W => W.cell? ⟨w.heap.size, 0, none⟩ = some (.string x.x_) ∧ W.cell? ⟨w.heap.size, 1, none⟩ = some (.int .i64 x.r_) ∧ W.cell? ⟨w.heap.size, 2, none⟩ = some (.int .i64 x.v_) ∧ W.cell? ⟨w.heap.size, 3, none⟩ = some (.slice x.y_.A x.y_.l.length x.y_.c) ∧ W.cell? ⟨w.heap.size, 4, none⟩ = some (.slice x.g_.A x.g_.l.length x.g_.c) ∧ W.cell? ⟨w.heap.size, 5, none⟩ = some (.slice x.t_.A x.t_.l.length x.t_.c) ∧ W.cell? ⟨w.heap.size, 6, none⟩ = some (.slice x.h_.A x.h_.l.length x.h_.c) ∧ W.cell? ⟨w3.heap.size, 0, none⟩ = some (.int .i64 I) ∧ W.cell? ⟨w3.heap.size, 1, none⟩ = some (.int .i64 O) ∧ W.cell? ⟨w3.heap.size, 2, none⟩ = some (.string S.l_) ∧ W.cell? ⟨w3.heap.size, 3, none⟩ = some (.string S.m_) ∧ W.cell? ⟨w3.heap.size, 4, none⟩ = some (.slice S.p_.A S.p_.l.length S.p_.c) ∧ W.cell? ⟨w3.heap.size, 5, none⟩ = some (.slice S.n_.A S.n_.l.length S.n_.c) ∧ W.cell? ⟨w3.heap.size, 6, none⟩ = some (.slice S.j_.A S.j_.l.length S.j_.c) ∧ W.cell? ⟨w3.heap.size, 7, none⟩ = some (.string Y.x_) ∧ W.cell? ⟨w3.heap.size, 8, none⟩ = some (.int .i64 Y.z_) ∧ W.cell? ⟨w3.heap.size, 9, none⟩ = some (.slice Y.p_.A Y.p_.l.length Y.p_.c) ∧ W.cell? ⟨w3.heap.size, 10, none⟩ = some (.slice Y.u_.A Y.u_.l.length Y.u_.c) ∧ W.cell? ⟨w3.heap.size, 11, none⟩ = some (.slice Y.j_.A Y.j_.l.length Y.j_.c)) (by kernel_rfl) ⟨t0, t1, t2, t3, t4, t5, t6, c0, c1, c2, c3, c4, c5, c6, c7, c8, c9, c10, c11⟩ (fun hHeld => ?_)
 refine tkA 16 (i := 0) (oi := ⟨some 15, _, _, _, _, _⟩) rfl hHeld ?_
 try simp only [zP]
 refine tkA 16 (i := 2) (oi := ⟨some 17, _, _, _, _, _⟩) rfl hHeld ?_
 try simp only [zP]
 refine tkA 16 (i := 5) (oi := ⟨some 20, _, _, _, _, _⟩) rfl hHeld ?_
 try simp only [zP]
 refine tkA 16 (i := 10) (oi := ⟨some 25, _, _, _, _, _⟩) rfl hHeld ?_
 try simp only [zP]
 refine tkA 16 (i := 11) (oi := ⟨some 26, _, _, _, _, _⟩) rfl hHeld ?_
 try simp only [zP]
 refine tkA 16 (i := 12) (oi := ⟨some 27, _, _, _, _, _⟩) rfl hHeld ?_
 try simp only [zP]
 refine tkA 16 (i := 15) (oi := ⟨some 30, _, _, _, _, _⟩) rfl hHeld ?_
 try simp only [zP]
 refine tkA 16 (i := 16) (oi := ⟨some 31, _, _, _, _, _⟩) rfl hHeld ?_
 try simp only [zP]
 refine tkA 16 (i := 17) (oi := ⟨some 32, _, _, _, _, _⟩) rfl hHeld ?_
 try simp only [zP]
 refine tkA 16 (i := 23) (oi := ⟨some 38, _, _, _, _, _⟩) rfl hHeld ?_
 try simp only [zP]
 refine tkA 16 (i := 24) (oi := ⟨some 39, _, _, _, _, _⟩) rfl hHeld ?_
 try simp only [zP]
 refine tkA 16 (i := 25) (oi := ⟨some 40, _, _, _, _, _⟩) rfl hHeld ?_
 try simp only [zP]
 refine tkA 16 (i := 26) (oi := ⟨some 41, _, _, _, _, _⟩) rfl hHeld ?_
 try simp only [zP]
 refine tkA 16 (i := 27) (oi := ⟨some 42, _, _, _, _, _⟩) rfl hHeld ?_
 try simp only [zP]
 clear hHeld
 refine zdZ 16 18 1 [(1, 16), (3, 18), (4, 19), (6, 21), (7, 22), (8, 23), (9, 24), (13, 28), (14, 29), (18, 33), (19, 34), (20, 35), (21, 36), (22, 37), (28, 43), (29, 44), (30, 45), (31, 46)] (fun s v w => match s with
  | 16 => v = .int .i64 OK
  | 18 => v = .bool PB
  | 19 => v = .bool (!PB)
  | 21 => v = .bool NB
  | 22 => v = .bool (!NB)
  | 23 => ∃ g, v = .slice (some ⟨g, 0, none⟩) 2 2 ∧ Blk w g 4 [.bool (!PB), .bool (!NB)]
  | 24 => v = .int .i64 W24
  | 28 => ∃ g, v = .slice (some ⟨g, 0, none⟩) 1 1 ∧ Blk w g 4 [.bool (decide (O < 0))]
  | 29 => v = .int .i64 W29
  | 33 => ∃ A c, v = .slice A CL.length c
  | 34 => v = .int .i64 (CL.length : Int)
  | 35 => v = .bool (decide (0 < CL.length))
  | 36 => ∃ g, v = .slice (some ⟨g, 0, none⟩) 1 1 ∧ Blk w g 4 [.bool (decide (0 < CL.length))]
  | 37 => v = .int .i64 W37
  | 43 => ∃ g, v = .slice (some ⟨g, 0, none⟩) 1 1 ∧ Blk w g 4 [.bool (decide (0 < Y.u_.l.length))]
  | 44 => v = .int .i64 W44
  | 45 => ∃ g, v = .slice (some ⟨g, 0, none⟩) 5 5 ∧ Blk w g 28 [.int .i64 (OK), .int .i64 (W24), .int .i64 (W29), .int .i64 (W37), .int .i64 (W44)]
  | 46 => v = .int .i64 E
  | _ => True) (fun w w' => Below w.heap.size w w') (by kernel_rfl) (by kernel_rfl) bZh ⟨?_, ?_, ?_, ?_, ?_, ?_, ?_, ?_, ?_, ?_, ?_, ?_, ?_, ?_, ?_, ?_, ?_, ?_, trivial⟩ (fun w' hB => ⟨(hB.cell (p := ⟨w.heap.size, 0, none⟩) hlT).trans t0, (hB.cell (p := ⟨w.heap.size, 1, none⟩) hlT).trans t1, (hB.cell (p := ⟨w.heap.size, 2, none⟩) hlT).trans t2, (hB.cell (p := ⟨w.heap.size, 3, none⟩) hlT).trans t3, (hB.cell (p := ⟨w.heap.size, 4, none⟩) hlT).trans t4, (hB.cell (p := ⟨w.heap.size, 5, none⟩) hlT).trans t5, (hB.cell (p := ⟨w.heap.size, 6, none⟩) hlT).trans t6, (hB.cell (p := ⟨w3.heap.size, 0, none⟩) hlP).trans c0, (hB.cell (p := ⟨w3.heap.size, 1, none⟩) hlP).trans c1, (hB.cell (p := ⟨w3.heap.size, 2, none⟩) hlP).trans c2, (hB.cell (p := ⟨w3.heap.size, 3, none⟩) hlP).trans c3, (hB.cell (p := ⟨w3.heap.size, 4, none⟩) hlP).trans c4, (hB.cell (p := ⟨w3.heap.size, 5, none⟩) hlP).trans c5, (hB.cell (p := ⟨w3.heap.size, 6, none⟩) hlP).trans c6, (hB.cell (p := ⟨w3.heap.size, 7, none⟩) hlP).trans c7, (hB.cell (p := ⟨w3.heap.size, 8, none⟩) hlP).trans c8, (hB.cell (p := ⟨w3.heap.size, 9, none⟩) hlP).trans c9, (hB.cell (p := ⟨w3.heap.size, 10, none⟩) hlP).trans c10, (hB.cell (p := ⟨w3.heap.size, 11, none⟩) hlP).trans c11⟩) ⟨?_, ?_, ?_, ?_, ?_, ?_, ?_, ?_, ?_, ?_, ?_, ?_, ?_, ?_, ?_, ?_, ?_, ?_, trivial⟩ ?_
 focus
  intro v w w' h hB
  exact h
 focus
  intro v w w' h hB
  exact h
 focus
  intro v w w' h hB
  exact h
 focus
  intro v w w' h hB
  exact h
 focus
  intro v w w' h hB
  exact h
 focus
  intro v w w' h hB
  exact (by obtain ⟨g, e, hb⟩ := h; exact ⟨g, e, hb.below hB hb.lt⟩)
 focus
  intro v w w' h hB
  exact h
 focus
  intro v w w' h hB
  exact (by obtain ⟨g, e, hb⟩ := h; exact ⟨g, e, hb.below hB hb.lt⟩)
 focus
  intro v w w' h hB
  exact h
 focus
  intro v w w' h hB
  exact h
 focus
  intro v w w' h hB
  exact h
 focus
  intro v w w' h hB
  exact h
 focus
  intro v w w' h hB
  exact (by obtain ⟨g, e, hb⟩ := h; exact ⟨g, e, hb.below hB hb.lt⟩)
 focus
  intro v w w' h hB
  exact h
 focus
  intro v w w' h hB
  exact (by obtain ⟨g, e, hb⟩ := h; exact ⟨g, e, hb.below hB hb.lt⟩)
 focus
  intro v w w' h hB
  exact h
 focus
  intro v w w' h hB
  exact (by obtain ⟨g, e, hb⟩ := h; exact ⟨g, e, hb.below hB hb.lt⟩)
 focus
  intro v w w' h hB
  exact h
 focus
  intro vs w2 hBf hFf o ho K hK
  obtain rfl : (⟨some 16, _, _, _, _, _⟩ : Oper) = o := Option.some.inj ho
  clear ho
  (try simp only [fillL, zQ, zP] at hK ⊢)
  have WB : Below w4.heap.size w4 w2 := (Below.refl w4.heap.size w4).drew.trans hBf
  go_simp
  refine (HCK.out w2 (hV25.trans (WB.mono hs25))).mono ?_
  rintro e w4 ⟨rfl, hB4⟩
  exact hK.out _ _ ⟨rfl, hB4⟩
 focus
  intro vs w2 hBf hFf o ho K hK
  obtain rfl : (⟨some 18, _, _, _, _, _⟩ : Oper) = o := Option.some.inj ho
  clear ho
  (try simp only [fillL, zQ, zP] at hK ⊢)
  have WB : Below w4.heap.size w4 w2 := (Below.refl w4.heap.size w4).drew.trans hBf
  go_simp
  refine (HPT.out w2).mono ?_
  rintro e w4 ⟨rfl, hB4⟩
  exact hK.out _ _ ⟨rfl, hB4⟩
 focus
  intro vs w2 hBf hFf o ho K hK
  obtain rfl : (⟨some 19, _, _, _, _, _⟩ : Oper) = o := Option.some.inj ho
  clear ho
  (try simp only [fillL, zQ, zP] at hK ⊢)
  have e18 := (hFf (3, 18) (by simp) (by kernel_rfl))
  simp only [] at e18
  simp only [e18] at hK ⊢
  go_simp
  exact hK.out _ _ ⟨rfl, Below.refl _ _⟩
 focus
  intro vs w2 hBf hFf o ho K hK
  obtain rfl : (⟨some 21, _, _, _, _, _⟩ : Oper) = o := Option.some.inj ho
  clear ho
  (try simp only [fillL, zQ, zP] at hK ⊢)
  go_simp
  refine (HNM.out w2).mono ?_
  rintro e w4 ⟨rfl, rfl⟩
  exact hK.out _ _ ⟨rfl, Below.refl _ _⟩
 focus
  intro vs w2 hBf hFf o ho K hK
  obtain rfl : (⟨some 22, _, _, _, _, _⟩ : Oper) = o := Option.some.inj ho
  clear ho
  (try simp only [fillL, zQ, zP] at hK ⊢)
  have e21 := (hFf (6, 21) (by simp) (by kernel_rfl))
  simp only [] at e21
  simp only [e21] at hK ⊢
  go_simp
  exact hK.out _ _ ⟨rfl, Below.refl _ _⟩
 focus
  intro vs w2 hBf hFf o ho K hK
  obtain rfl : (⟨some 23, _, _, _, _, _⟩ : Oper) = o := Option.some.inj ho
  clear ho
  (try simp only [fillL, zQ, zP] at hK ⊢)
  have e19 := (hFf (4, 19) (by simp) (by kernel_rfl))
  simp only [] at e19
  simp only [e19] at hK ⊢
  have e22 := (hFf (7, 22) (by simp) (by kernel_rfl))
  simp only [] at e22
  simp only [e22] at hK ⊢
  go_simp
  refine hK.out _ _ ⟨⟨w2.heap.size, rfl, Blk.new w2 _ _⟩, (Below.refl _ w2).alloc (Nat.le_refl _) _⟩
 focus
  intro vs w2 hBf hFf o ho K hK
  obtain rfl : (⟨some 24, _, _, _, _, _⟩ : Oper) = o := Option.some.inj ho
  clear ho
  (try simp only [fillL, zQ, zP] at hK ⊢)
  obtain ⟨g9, e9, hb9⟩ := (hFf (8, 23) (by simp) (by kernel_rfl))
  simp only [e9] at hK ⊢
  go_simp
  refine (when_any 31 [!PB, !NB] 2 rfl (by simp) g9 w2 (blB (l := [!PB, !NB]) hb9)).mono ?_
  rintro e w4 ⟨rfl, rfl⟩
  exact hK.out _ _ ⟨by rw [HWW24.out], Below.refl _ _⟩
 focus
  intro vs w2 hBf hFf o ho K hK
  obtain rfl : (⟨some 28, _, _, _, _, _⟩ : Oper) = o := Option.some.inj ho
  clear ho
  (try simp only [fillL, zQ, zP] at hK ⊢)
  go_simp
  refine hK.out _ _ ⟨⟨w2.heap.size, rfl, Blk.new w2 _ _⟩, (Below.refl _ w2).alloc (Nat.le_refl _) _⟩
 focus
  intro vs w2 hBf hFf o ho K hK
  obtain rfl : (⟨some 29, _, _, _, _, _⟩ : Oper) = o := Option.some.inj ho
  clear ho
  (try simp only [fillL, zQ, zP] at hK ⊢)
  obtain ⟨g9, e9, hb9⟩ := (hFf (13, 28) (by simp) (by kernel_rfl))
  simp only [e9] at hK ⊢
  go_simp
  refine (when_any 71 [decide (O < 0)] 1 rfl (by simp) g9 w2 (blB (l := [decide (O < 0)]) hb9)).mono ?_
  rintro e w4 ⟨rfl, rfl⟩
  exact hK.out _ _ ⟨by rw [HWW29.out], Below.refl _ _⟩
 focus
  intro vs w2 hBf hFf o ho K hK
  obtain rfl : (⟨some 33, _, _, _, _, _⟩ : Oper) = o := Option.some.inj ho
  clear ho
  (try simp only [fillL, zQ, zP] at hK ⊢)
  have WB : Below w4.heap.size w4 w2 := (Below.refl w4.heap.size w4).drew.trans hBf
  go_simp
  refine (HCLN.out w2 (hV25.trans (WB.mono hs25))).mono ?_
  rintro e w4 ⟨v4, rfl, ho4, hB4⟩
  obtain ⟨A4, c4, rfl, _, _, _, _⟩ := ownAny ho4
  exact hK.out _ _ ⟨⟨A4, c4, rfl⟩, hB4⟩
 focus
  intro vs w2 hBf hFf o ho K hK
  obtain rfl : (⟨some 34, _, _, _, _, _⟩ : Oper) = o := Option.some.inj ho
  clear ho
  (try simp only [fillL, zQ, zP] at hK ⊢)
  obtain ⟨A9, c9, e9⟩ := (hFf (18, 33) (by simp) (by kernel_rfl))
  simp only [e9] at hK ⊢
  go_simp
  exact hK.out _ _ ⟨rfl, Below.refl _ _⟩
 focus
  intro vs w2 hBf hFf o ho K hK
  obtain rfl : (⟨some 35, _, _, _, _, _⟩ : Oper) = o := Option.some.inj ho
  clear ho
  (try simp only [fillL, zQ, zP] at hK ⊢)
  have e34 := (hFf (19, 34) (by simp) (by kernel_rfl))
  simp only [] at e34
  simp only [e34] at hK ⊢
  go_simp
  exact hK.out _ _ ⟨rfl, Below.refl _ _⟩
 focus
  intro vs w2 hBf hFf o ho K hK
  obtain rfl : (⟨some 36, _, _, _, _, _⟩ : Oper) = o := Option.some.inj ho
  clear ho
  (try simp only [fillL, zQ, zP] at hK ⊢)
  have e35 := (hFf (20, 35) (by simp) (by kernel_rfl))
  simp only [] at e35
  simp only [e35] at hK ⊢
  go_simp
  refine hK.out _ _ ⟨⟨w2.heap.size, rfl, Blk.new w2 _ _⟩, (Below.refl _ w2).alloc (Nat.le_refl _) _⟩
 focus
  intro vs w2 hBf hFf o ho K hK
  obtain rfl : (⟨some 37, _, _, _, _, _⟩ : Oper) = o := Option.some.inj ho
  clear ho
  (try simp only [fillL, zQ, zP] at hK ⊢)
  obtain ⟨g9, e9, hb9⟩ := (hFf (21, 36) (by simp) (by kernel_rfl))
  simp only [e9] at hK ⊢
  go_simp
  refine (when_any 44 [decide (0 < CL.length)] 1 rfl (by simp) g9 w2 (blB (l := [decide (0 < CL.length)]) hb9)).mono ?_
  rintro e w4 ⟨rfl, rfl⟩
  exact hK.out _ _ ⟨by rw [HWW37.out], Below.refl _ _⟩
 focus
  intro vs w2 hBf hFf o ho K hK
  obtain rfl : (⟨some 43, _, _, _, _, _⟩ : Oper) = o := Option.some.inj ho
  clear ho
  (try simp only [fillL, zQ, zP] at hK ⊢)
  go_simp
  refine hK.out _ _ ⟨⟨w2.heap.size, rfl, Blk.new w2 _ _⟩, (Below.refl _ w2).alloc (Nat.le_refl _) _⟩
 focus
  intro vs w2 hBf hFf o ho K hK
  obtain rfl : (⟨some 44, _, _, _, _, _⟩ : Oper) = o := Option.some.inj ho
  clear ho
  (try simp only [fillL, zQ, zP] at hK ⊢)
  obtain ⟨g9, e9, hb9⟩ := (hFf (28, 43) (by simp) (by kernel_rfl))
  simp only [e9] at hK ⊢
  go_simp
  refine (when_any 43 [decide (0 < Y.u_.l.length)] 1 rfl (by simp) g9 w2 (blB (l := [decide (0 < Y.u_.l.length)]) hb9)).mono ?_
  rintro e w4 ⟨rfl, rfl⟩
  exact hK.out _ _ ⟨by rw [HWW44.out], Below.refl _ _⟩
 focus
  intro vs w2 hBf hFf o ho K hK
  obtain rfl : (⟨some 45, _, _, _, _, _⟩ : Oper) = o := Option.some.inj ho
  clear ho
  (try simp only [fillL, zQ, zP] at hK ⊢)
  have e16 := (hFf (1, 16) (by simp) (by kernel_rfl))
  simp only [] at e16
  simp only [e16] at hK ⊢
  have e24 := (hFf (9, 24) (by simp) (by kernel_rfl))
  simp only [] at e24
  simp only [e24] at hK ⊢
  have e29 := (hFf (14, 29) (by simp) (by kernel_rfl))
  simp only [] at e29
  simp only [e29] at hK ⊢
  have e37 := (hFf (22, 37) (by simp) (by kernel_rfl))
  simp only [] at e37
  simp only [e37] at hK ⊢
  have e44 := (hFf (29, 44) (by simp) (by kernel_rfl))
  simp only [] at e44
  simp only [e44] at hK ⊢
  go_simp
  refine hK.out _ _ ⟨⟨w2.heap.size, rfl, Blk.new w2 _ _⟩, (Below.refl _ w2).alloc (Nat.le_refl _) _⟩
 focus
  intro vs w2 hBf hFf o ho K hK
  obtain rfl : (⟨some 46, _, _, _, _, _⟩ : Oper) = o := Option.some.inj ho
  clear ho
  (try simp only [fillL, zQ, zP] at hK ⊢)
  obtain ⟨g9, e9, hb9⟩ := (hFf (30, 45) (by simp) (by kernel_rfl))
  simp only [e9] at hK ⊢
  go_simp
  refine (cmpOrL_any [OK, W24, W29, W37, W44] 5 rfl (by simp) g9 w2 (blI (l := [OK, W24, W29, W37, W44]) hb9)).mono ?_
  rintro e w4 ⟨rfl, rfl⟩
  exact hK.out _ _ ⟨by rw [HOS.out], Below.refl _ _⟩
 intro vs w2 hBf hFf
 (try simp only [fillL, zQ, zP])
 have h9 := (hFf (31, 46) (by simp))
 simp only [] at h9
 simp only [h9]
 have hBw : Below w4.heap.size w4 w2 := (Below.refl w4.heap.size w4).drew.trans hBf
 refine zcZ (i := 32) (o := ⟨some 9, _, _, _, _, _⟩) (by kernel_rfl) rfl (by kernel_rfl) (fun K hK => ?_)
 go_simp
 refine hK.out _ _ ?_
 clear hK K
 try simp only [zP]
 refine zdQ (by kernel_rfl) ?_ _
 refine NoPanic.normal ?_
 obtain ⟨v8, hv8⟩ : ∃ v, v = w2 := ⟨_, rfl⟩
 subst hv8
 have K1 := K1.of hBw
 have K2 := K2.of hBw
 have kP := kP.of hBw
 have hV2w := hV25.trans (hBw.mono hs25)
 have hB0w := hB2.trans (hV2w.mono hs2)
 have hs2w := hV2w.size
 have hs0w := hB0w.size
 clear h9 hFf hBf t0 t1 t2 t3 t4 t5 t6 c0 c1 c2 c3 c4 c5 c6 c7 c8 c9 c10 c11 HCK HPT HNM
 by_cases hz : E = 0
 · subst hz
   have hf : zfX x.plain p n true true = 0 := by
    have h9 := HE.out
    unfold unsnapE at h9
    by_cases h8 : zfX x.plain p n true true = 0
    · exact h8
    · rw [if_pos h8] at h9
      exact absurd h9 h8
   obtain ⟨hok, hip, hin, _, j, s, k, y0, hIj, hj, hsp, hSs, hOk, hk, hyn0, hYs, hsa, hhs, hso, hsm, htk⟩ := found_zero hf
   rw [HII.out] at hIj
   rw [HSS.out] at hSs
   rw [HOO.out] at hOk
   rw [HYY.out] at hYs
   subst hIj hOk
   obtain rfl : s = S := hSs.symm
   obtain rfl : y0 = Y := hYs.symm
   have hjl : j < x.y_.l.length := (List.getElem?_eq_some_iff.1 hj).1
   have hkl : k < s.n_.l.length := (List.getElem?_eq_some_iff.1 hk).1
   have h17 := (snaps_ok17 hok hj).2
   have hRP : R = (mapP x.plain (delSn p n) x.plain.v_, 0) := by
    rw [← HPR.out]
    unfold unsnapP
    rw [if_neg (fun h => h HE.out)]
   have hST : mapP x.plain (delSn p n) x.plain.v_ = { x.plain with y_ := x.plain.y_.set j { s.plain with n_ := s.plain.n_.eraseP fun z => decide (z.x_ = n) } } := by
    unfold mapP
    rw [← map_turn (f := fun z : PSet => { z with n_ := z.n_.eraseP fun q => decide (q.x_ = n) }) hok (j := j) (s := s.plain) (by show (x.y_.l.map MSet.plain)[j]? = _; rw [List.getElem?_map, hj]; rfl) hsp]
    rfl
   have HST := zI hST
   have HRP := zI hRP
   have HJ := zI hj
   have HK := zI hk
   have HYQ := zI hyn0
   have HTK := zI htk
   have HC := zI (copy_sep x v8 (HG.out.below hV2w))
   clear hf hok hip hin hj hsp hSs hk hyn0 hYs hsa hhs hso hsm htk hRP hST HE HOS HPR
   obtain ⟨d0, d1, d2, d3, d4, d5, d6⟩ := K1.all7
   obtain ⟨df0, df1, df2, df3, df4, df5, df6⟩ := K1.fz7
   go_wp2_with fail
   refine HC.out.mono ?_
   rintro e w6 ⟨y, rfl, hoy, hpy, hsep, hV6⟩
   have hV26 := hV2w.trans (hV6.mono hs2w)
   have K3 := K1.of hV6
   have K4 := K2.of hV6
   have kP3 := kP.of hV6
   have hlk3 := K3.lt
   have hgy : y.Good w6 := MT_.Good.of_own HG.out hpy hoy
   have hyl : y.y_.l.map MSet.plain = x.y_.l.map MSet.plain := congrArg PT_.y_ hpy
   have hyn : y.y_.l.length = x.y_.l.length := map_len hyl
   have hjy : j < y.y_.l.length := by rw [hyn]; exact hjl
   obtain ⟨t, hjt⟩ : ∃ t, y.y_.l[j]? = some t := ⟨_, qZa hjy⟩
   have htp : t.plain = s.plain := by
    have h9 : (y.y_.l.map MSet.plain)[j]? = some t.plain := by rw [List.getElem?_map, hjt]; rfl
    rw [hyl, List.getElem?_map, HJ.out] at h9
    simp only [Option.map_some, Option.some.injEq] at h9
    exact h9.symm
   obtain ⟨b, off, hA, hbl, hcc⟩ := Rd.elem (n := 5) (fun _ => rfl) (by omega) hgy.w_.rd hjt
   have hoff : off = 0 ∧ v8.heap.size ≤ b := by
    have h9 := row_blk hoy.sets hA
    have h8 := h9.2.2
    injection h8 with _ h8
    exact ⟨h8, h9.1⟩
   obtain ⟨rfl, hbn⟩ := hoff
   have htl0 : t.n_.l.length = s.n_.l.length := by
    have h9 : t.plain.n_.length = s.plain.n_.length := by rw [htp]
    rwa [show t.plain.n_ = t.n_.l.map Mna.plain from rfl, show s.plain.n_ = s.n_.l.map Mna.plain from rfl, List.length_map, List.length_map] at h9
   have htl : t.n_.l.length ≤ 16 := by omega
   obtain ⟨e0, e1, e2, e3, e4, e5, e6⟩ := K3.all7
   obtain ⟨ef0, ef1, ef2, ef3, ef4, ef5, ef6⟩ := K3.fz7
   clear d0 d1 d2 d3 d4 d5 d6 df0 df1 df2 df3 df4 df5 df6
   have HHA := zI hA
   have HYN := zI hyn
   have HYL := zI hyl
   have HPY := zI hpy
   have HTP := zI htp
   have HJT := zI hjt
   clear hA hcc hyn hyl hpy htp hjt
   go_upto_region 6 with fail
   generalize hwE : World.setCell _ ⟨w.heap.size, 6, none⟩ _ = wE
   obtain ⟨KE, SE, ZE, BE⟩ := store7 K3 hwE
   have hlw : w.heap.size < v8.heap.size := K1.lt
   have hoE := hoy.store hlw SE
   have hgE : y.Good wE := MT_.Good.of_own hgy rfl hoE
   have hX6 : Below w.heap.size w w6 := hB2.trans (hV26.mono hs2)
   have hXE : Below w.heap.size w wE := BE _ _ hX6 (Nat.le_refl _)
   have hla : a1.heap.size < v8.heap.size := K2.lt
   have hlP8 : w3.heap.size < v8.heap.size := kP.lt
   have hne1 : a1.heap.size ≠ w.heap.size := by omega
   have hneP : w3.heap.size ≠ w.heap.size := by have := hlT; omega
   have K5 := K4.sameT (SE _ hne1)
   have kP5 := kP3.sameT (SE _ hneP)
   have hv8E : v8.heap.size ≤ wE.heap.size := by rw [ZE]; exact hV6.size
   obtain ⟨b', off', hA', hbE, hcc⟩ := Rd.elem (n := 5) (fun _ => rfl) (by omega) hgE.w_.rd HJT.out
   rw [HHA.out] at hA'
   injection hA' with hA'
   injection hA' with e1' e2'
   subst e1' e2' 
   have m0 : wE.cell? ⟨b, j * 5, none⟩ = some (.string t.l_) := by
    have := hcc 0 _ rfl
    rwa [Nat.zero_add] at this
   have m1 : wE.cell? ⟨b, j * 5 + 1, none⟩ = some (.string t.m_) := by
    have := hcc 1 _ rfl
    rwa [Nat.zero_add] at this
   have m2 : wE.cell? ⟨b, j * 5 + 2, none⟩ = some (.slice t.p_.A t.p_.l.length t.p_.c) := by
    have := hcc 2 _ rfl
    rwa [Nat.zero_add] at this
   have m3 : wE.cell? ⟨b, j * 5 + 3, none⟩ = some (.slice t.n_.A t.n_.l.length t.n_.c) := by
    have := hcc 3 _ rfl
    rwa [Nat.zero_add] at this
   have m4 : wE.cell? ⟨b, j * 5 + 4, none⟩ = some (.slice t.j_.A t.j_.l.length t.j_.c) := by
    have := hcc 4 _ rfl
    rwa [Nat.zero_add] at this
   have hrow := hoE.sets
   unfold Sl.val at hrow
   rw [HHA.out] at hrow
   have mf0 := zcQ hrow (j * 5)
   have mf1 := zcQ hrow (j * 5 + 1)
   have mf2 := zcQ hrow (j * 5 + 2)
   have mf3 := zcQ hrow (j * 5 + 3)
   have mf4 := zcQ hrow (j * 5 + 4)
   have HROW := zI hrow
   have HOE := zI hoE
   have HGE := zI hgE
   have HGY := zI hgy
   have HSEP := zI hsep
   have HXE := zI hXE
   rw [HHA.out] at KE
   clear hcc hrow hoE hgE hgy hoy hsep hwE e0 e1 e2 e3 e4 e5 e6 ef0 ef1 ef2 ef3 ef4 ef5 ef6
   have hkt : k < t.n_.l.length := by omega
   obtain ⟨A, B, y1, hAB, hAl⟩ : ∃ (A B : List Mna) (y1 : Mna), t.n_.l = A ++ y1 :: B ∧ A.length = k := ⟨t.n_.l.take k, t.n_.l.drop (k + 1), t.n_.l[k], by rw [← List.drop_eq_getElem_cons hkt, List.take_append_drop], by rw [List.length_take]; omega⟩
   have hnl : t.n_.l.length = k + 1 + B.length := by rw [hAB, List.length_append, List.length_cons]; omega
   have hera : s.plain.n_.eraseP (fun z => decide (z.x_ = n)) = (A ++ B).map Mna.plain := by
    have h1 : s.plain.n_ = A.map Mna.plain ++ y1.plain :: B.map Mna.plain := by
     rw [← HTP.out]
     show t.n_.l.map Mna.plain = _
     rw [hAB, List.map_append, List.map_cons]
    have h2 : A.map Mna.plain = (s.n_.l.take k).map Mna.plain := by
     rw [List.map_take]
     show _ = s.plain.n_.take k
     rw [h1, List.take_left' (by rw [List.length_map]; exact hAl)]
    have h3 : y1.plain.x_ = n := by
     have h4 : s.plain.n_[k]? = some y1.plain := by
      rw [h1, List.getElem?_append_right (by rw [List.length_map]; omega), List.length_map, hAl, Nat.sub_self]
      rfl
     rw [show s.plain.n_ = s.n_.l.map Mna.plain from rfl, List.getElem?_map, HK.out] at h4
     simp only [Option.map_some, Option.some.injEq] at h4
     rw [← h4]
     exact HYQ.out
    rw [h1, eraseP_mid (fun z hz => ?_) (by rw [decide_eq_true_eq]; exact h3), List.map_append]
    rw [h2] at hz
    obtain ⟨z2, hz2, rfl⟩ := List.mem_map.1 hz
    rw [decide_eq_false_iff_not]
    exact HTK.out z2 hz2
   obtain ⟨g0, cap, cur, hv0, hg0, hc0, hncap, hcapm, hcsz, htake⟩ : ∃ (g0 cap : Nat) (cur : Array Value), t.n_.val = .slice (some ⟨g0, 0, none⟩) t.n_.l.length cap ∧ v8.heap.size ≤ g0 ∧ wE.heap[g0]? = some (.cells cur 49 (0, 0)) ∧ t.n_.l.length ≤ cap ∧ cap ≤ maxLen ∧ cur.size = cap * 5 ∧ cur.toList.take (t.n_.l.length * 5) = t.n_.l.flatMap Mna.cells := by
    obtain ⟨_, ⟨_, h0⟩ | ⟨gg, cap, cur, a1, a2, a3, a4, a5, a6, a7⟩⟩ := (HOE.out.eset t (mG HJT.out)).snaps
    · omega
    · exact ⟨gg, cap, cur, a1, a2, a3, a4, a5, a6, a7⟩
   obtain ⟨sp, hsp0⟩ : ∃ sp, cur.toList.drop (t.n_.l.length * 5) = sp := ⟨_, rfl⟩
   have hspl : sp.length = cap * 5 - t.n_.l.length * 5 := by rw [← hsp0, List.length_drop, Array.length_toList, hcsz]
   have hblk : Blk wE g0 49 (A.flatMap Mna.cells ++ (y1.cells ++ (B.flatMap Mna.cells ++ sp))) := by
    unfold Blk
    rw [hc0]
    have h1 : cur.toList = A.flatMap Mna.cells ++ (y1.cells ++ (B.flatMap Mna.cells ++ sp)) := by
     rw [← List.take_append_drop (t.n_.l.length * 5) cur.toList, htake, hsp0, hAB]
     simp
    rw [← h1, Array.toArray_toList]
   have hv1 := hv0
   unfold Sl.val at hv1
   injection hv1 with hv1 _ hv2
   have HDL : Hid (∀ W, (∀ q, W.heap[q]? = wE.heap[q]?) → Calls Tryz.prog 51 #[.slice (some ⟨g0, 0, none⟩) t.n_.l.length cap, .int .i64 k, .int .i64 ((k : Int) + 1)] W fun e W' => e = .returned (.slice (some ⟨g0, 0, none⟩) (t.n_.l.length - 1) cap) ∧ (∀ b, b ≠ g0 → W'.heap[b]? = W.heap[b]?) ∧ W'.heap.size = W.heap.size ∧ Below g0 W W' ∧ Blk W' g0 49 ((A ++ B).flatMap Mna.cells ++ (zeroSnC ++ sp))) := zI fun W hW => by
    have h9 := delete17_any W g0 cap A B y1 sp k (k + 1) t.n_.l.length hAl rfl hnl htl hncap ((hW g0).trans hblk)
    rwa [show ((k + 1 : Nat) : Int) = (k : Int) + 1 by omega] at h9
   have hwk : IntKind.i64.wrap ((k : Int) + 1) = (k : Int) + 1 := IntWalk.i64_in _ (by omega)
   rw [hv1, hv2] at m3
   have hlP5 := kP5.lt
   have HV1 := zI hv1
   have HV2 := zI hv2
   have HV0 := zI hv0
   have HAB := zI hAB
   have HERA := zI hera
   have hgb : g0 ≠ b := by
    intro e
    have h1 := rows_ne HROW.out (HOE.out.eset t (mG HJT.out)).snaps (by decide) (b := b) rfl
    rw [hv0, e] at h1
    exact h1 rfl
   have HNL := zI hnl
   have HSPL := zI hspl
   have HCSZ := zI hcsz
   clear hv0 hv1 hv2 hc0 htake hsp0 hblk hera hAB hnl htl0 hspl hcsz hAl
   obtain ⟨c0, c1, c2, c3, c4, c5, c6, c7, c8, c9, c10, c11⟩ := kP5.all12
   obtain ⟨e0, e1, e2, e3, e4, e5, e6⟩ := KE.all7
   go_upto_region 7 with fail
   refine wp_region_noPanic ?_
   refine zcX 13 (fun W => W.cell? ⟨b, j * 5 + 3, none⟩ = some (.slice (some ⟨g0, 0, none⟩) t.n_.l.length cap) ∧ W.frozen? ⟨b, j * 5 + 3, none⟩ = false ∧ W.cell? ⟨w3.heap.size, 1, none⟩ = some (.int .i64 k)) (by kernel_rfl) ⟨m3, mf3, c1⟩ (fun hHeld => ?_)
   refine tkA 12 (i := 0) (oi := ⟨some 58, _, _, _, _, _⟩) rfl hHeld ?_
   try simp only [zP]
   refine tkA 12 (i := 1) (oi := ⟨some 59, _, _, _, _, _⟩) rfl hHeld ?_
   try simp only [zP]
   refine tkA 12 (i := 2) (oi := ⟨some 60, _, _, _, _, _⟩) rfl hHeld ?_
   try simp only [zP]
   refine tkA 12 (i := 3) (oi := ⟨some 61, _, _, _, _, _⟩) rfl hHeld ?_
   try simp only [zP]
   refine tkA 12 (i := 4) (oi := ⟨some 62, _, _, _, _, _⟩) rfl hHeld ?_
   try simp only [zP]
   refine tkA 12 (i := 5) (oi := ⟨some 63, _, _, _, _, _⟩) rfl hHeld ?_
   try simp only [zP]
   refine tkA 12 (i := 6) (oi := ⟨some 64, _, _, _, _, _⟩) rfl hHeld ?_
   try simp only [zP]
   refine tkA 12 (i := 7) (oi := ⟨some 65, _, _, _, _, _⟩) rfl hHeld ?_
   try simp only [zP]
   refine tkA 12 (i := 8) (oi := ⟨some 66, _, _, _, _, _⟩) rfl hHeld ?_
   try simp only [zP]
   refine tkA 12 (i := 9) (oi := ⟨some 67, _, _, _, _, _⟩) rfl hHeld ?_
   try simp only [zP]
   refine zdX (i := 10) (o := ⟨some 68, _, _, _, _, _⟩) (by kernel_rfl) rfl (fun K hK => ?_)
   clear hHeld
   go_simp
   refine (HDL.out wE.drew (fun _ => rfl)).mono ?_
   rintro e x6 ⟨rfl, hfar, hsz6, hB6, hblk6⟩
   have hne0 : w3.heap.size ≠ g0 := by omega
   have hfar2 : ∀ q, q ≠ g0 → x6.heap[q]? = wE.heap[q]? := fun q hq => hfar q hq
   have m3' := (World.cell?_of_block (a := ⟨b, j * 5 + 3, none⟩) (hfar b (fun e => hgb e.symm))).trans m3
   have mf3' := (World.frozen?_of_block (a := ⟨b, j * 5 + 3, none⟩) (hfar b (fun e => hgb e.symm))).trans mf3
   have c1' := (World.cell?_of_block (a := ⟨w3.heap.size, 1, none⟩) (hfar w3.heap.size hne0)).trans c1
   go_wp2_with fail
   refine hK.out _ _ ⟨m3', mf3', c1'⟩ (fun hHeld => ?_)
   clear hK K
   try simp only [zP]
   refine tkA 12 (i := 11) (oi := ⟨some 69, _, _, _, _, _⟩) rfl hHeld ?_
   try simp only [zP]
   refine tkA 12 (i := 12) (oi := ⟨some 70, _, _, _, _, _⟩) rfl hHeld ?_
   try simp only [zP]
   refine zcZ (i := 13) (o := ⟨none, _, _, _, _, _⟩) (by kernel_rfl) rfl (by kernel_rfl) (fun K hK => ?_)
   clear hHeld
   go_simp
   go_wp2_with fail
   refine hK.out _ _ ?_
   clear hK K
   try simp only [zP]
   refine zdQ (by kernel_rfl) ?_ _
   refine NoPanic.normal ?_
   have hABl : (A ++ B).length = t.n_.l.length - 1 := by rw [HAB.out]; simp
   have hV6' : ∀ q, q < wE.heap.size → some q ≠ t.n_.val.ownBlock → x6.heap[q]? = wE.heap[q]? := fun q _ h2 => hfar q (fun e => h2 (by rw [HV0.out, e]; rfl))
   have hkp := sep_keeps HOE.out HJT.out hV6'
   have hos6 : OwnSe v8.heap.size x6 (⟨t.l_, t.m_, t.p_, ⟨some ⟨g0, 0, none⟩, A ++ B, cap⟩, t.j_⟩ : MSet) := by
    have h9 := HOE.out.eset t (mG HJT.out)
    refine ⟨zbX h9.body (by decide) hkp, ?_, zbX h9.own (by decide) hkp, fun z hz => ?_⟩
    · refine ⟨flat_len (n := 5) (fun _ => rfl) (A ++ B), .inr ⟨g0, cap, _, rfl, hg0, hblk6, by rw [hABl]; omega, hcapm, ?_, ?_⟩⟩
      · have h1 := HSPL.out
        have h2 : ((A ++ B).flatMap Mna.cells).length = (A ++ B).length * 5 := flat_len (n := 5) (fun _ => rfl) (A ++ B)
        have h3 : zeroSnC.length = 5 := rfl
        have h4 := HNL.out
        rw [List.size_toArray, List.length_append, List.length_append, h2, h1, h3, hABl]
        omega
      · have h2 : ((A ++ B).flatMap Mna.cells).length = (A ++ B).length * 5 := flat_len (n := 5) (fun _ => rfl) (A ++ B)
        exact List.take_left' h2
    · refine (h9.each z ?_).keep hkp (by decide) (by decide) (by decide)
      rw [HAB.out]
      rcases List.mem_append.1 hz with h | h
      · exact List.mem_append_left _ h
      · exact List.mem_append_right _ (List.mem_cons_of_mem _ h)
   obtain ⟨t', ht'⟩ : ∃ t' : MSet, (⟨t.l_, t.m_, t.p_, ⟨some ⟨g0, 0, none⟩, A ++ B, cap⟩, t.j_⟩ : MSet) = t' := ⟨_, rfl⟩
   have hcs : t'.cells = t.cells.set 3 (.slice (some ⟨g0, 0, none⟩) (t.n_.l.length - 1) cap) := by
    rw [← ht', ← hABl]
    rfl
   have hpt : t'.plain = { s.plain with n_ := s.plain.n_.eraseP fun z => decide (z.x_ = n) } := by
    rw [HERA.out, ← ht', ← HTP.out]
    rfl
   have hrow6 := zbX HROW.out (by decide) hkp
   have hkS := keeps_setIn hrow6 (j * 5 + 3) (.slice (some ⟨g0, 0, none⟩) (t.n_.l.length - 1) cap)
   have tG := HGE.out.w_.el t (mG HJT.out)
   have hos7 : OwnSe v8.heap.size (x6.setCell ⟨b, j * 5 + 3, none⟩ (.slice (some ⟨g0, 0, none⟩) (t.n_.l.length - 1) cap)) t' := ht' ▸ hos6.setIn hkS
   have hgs : t'.Good (x6.setCell ⟨b, j * 5 + 3, none⟩ (.slice (some ⟨g0, 0, none⟩) (t.n_.l.length - 1) cap)) := by
    subst ht'
    refine ⟨tG.C_, tG.gorigin_, slGood_own tG.K_ rfl hos7.body (fun q hq => tG.K_.el q hq), slGood_of hos7.snaps rfl (fun z hz => ?_) (by show (A ++ B).length * 96 ≤ _; omega), slGood_own tG.G_ rfl hos7.own (fun q hq => tG.G_.el q hq)⟩
    refine Mna.Good.of_own (tG.f_.el z ?_) rfl (hos7.each z hz)
    rw [HAB.out]
    rcases List.mem_append.1 hz with h | h
    · exact List.mem_append_left _ h
    · exact List.mem_append_right _ (List.mem_cons_of_mem _ h)
   obtain ⟨hT7, hG7⟩ := HOE.out.turnSn HGE.out HSEP.out HHA.out HJT.out hV6' hcs (ht' ▸ hos6) hgs
   have hne7 : w.heap.size ≠ b := by omega
   have hne8 : a1.heap.size ≠ b := by omega
   have KT7 := (KE.sameT (hfar _ (by omega))).other hne7 (j * 5 + 3) (.slice (some ⟨g0, 0, none⟩) (t.n_.l.length - 1) cap)
   have KR7 := (K5.sameT (hfar _ (by omega))).other hne8 (j * 5 + 3) (.slice (some ⟨g0, 0, none⟩) (t.n_.l.length - 1) cap)
   have hX7 : Below w.heap.size w (x6.setCell ⟨b, j * 5 + 3, none⟩ (.slice (some ⟨g0, 0, none⟩) (t.n_.l.length - 1) cap)) := (HXE.out.trans (((Below.refl g0 wE).drew.trans hB6).mono (by omega))).setCell (p := ⟨b, j * 5 + 3, none⟩) (by show w.heap.size ≤ b; omega) _
   obtain ⟨x7, hx7⟩ : ∃ x7, x6.setCell ⟨b, j * 5 + 3, none⟩ (.slice (some ⟨g0, 0, none⟩) (t.n_.l.length - 1) cap) = x7 := ⟨_, rfl⟩
   rw [hx7] at hT7 hG7 KT7 KR7 hX7
   have HX7 := zI hx7
   have HT7 := zI hT7
   have HG7 := zI hG7
   have hpl : ({ y with y_ := ⟨some ⟨b, 0, none⟩, y.y_.l.set j t', y.y_.c⟩ } : MT_).plain = mapP x.plain (delSn p n) x.plain.v_ := by
    rw [HST.out]
    show ({ y.plain with y_ := (y.y_.l.set j t').map MSet.plain } : PT_) = _
    rw [List.map_set, HYL.out, HPY.out, hpt]
    rfl
   have HPL := zI hpl
   obtain rfl : R = (mapP x.plain (delSn p n) x.plain.v_, 0) := HRP.out
   clear hx7 hT7 hG7 hpt hos6 hos7 hgs hcs hrow6 hkS tG ht' hkp hV6' hfar hB6 hblk6 hpl HDL m0 m1 m2 m3 m4 mf0 mf1 mf2 mf3 mf4 e0 e1 e2 e3 e4 e5 e6 c0 c1 c2 c3 c4 c5 c6 c7 c8 c9 c10 c11
   obtain ⟨u0, u1, u2, u3, u4, u5, u6⟩ := KT7.all7
   rw [HX7.out]
   obtain ⟨zz0, zz1, zz2, zz3, zz4, zz5, zz6⟩ := KR7.all7
   obtain ⟨zzf0, zzf1, zzf2, zzf3, zzf4, zzf5, zzf6⟩ := KR7.fz7
   obtain ⟨zr0, zr1, zr2, zr3, zr4, zr5, zr6⟩ := KR7.all7
   obtain ⟨zrf0, zrf1, zrf2, zrf3, zrf4, zrf5, zrf6⟩ := KR7.fz7
   go_wp2
   generalize hwE9 : World.setCell _ ⟨a1.heap.size, 6, none⟩ _ = wZ
   obtain ⟨KE9, SE9, ZE9, BE9⟩ := store7 KR7 hwE9
   obtain ⟨ze0, ze1, ze2, ze3, ze4, ze5, ze6⟩ := KE9.all7
   refine bodyPost_ret (v := .tuple #[.agg #[.string y.x_, .int .i64 y.r_, .int .i64 y.v_, .slice (some ⟨b, 0, none⟩) y.y_.l.length y.y_.c, .slice y.g_.A y.g_.l.length y.g_.c, .slice y.t_.A y.t_.l.length y.t_.c, .slice y.h_.A y.h_.l.length y.h_.c], .int .i64 (0)]) (by simp [results, Tryz.results12, go_sem, ze0, ze1, ze2, ze3, ze4, ze5, ze6]) rfl ?_
   have hlka : a1.heap.size < v8.heap.size := hla
   have hoF := HT7.out.store hlka SE9
   refine ⟨({ y with y_ := ⟨some ⟨b, 0, none⟩, y.y_.l.set j t', y.y_.c⟩ } : MT_), by simp only [MT_.cells, List.length_set], hoF.base (by omega), MT_.Good.of_own HG7.out rfl hoF, HPL.out, BE9 _ _ hX7 hs1⟩
 · have hq : (E == 0) = false := beq_eq_false_iff_ne.2 hz
   obtain rfl : R = (noT, E) := by
    rw [← HPR.out]
    unfold unsnapP
    rw [HE.out, if_pos hz]
   clear hz HE HOS HPR
   obtain ⟨zr0, zr1, zr2, zr3, zr4, zr5, zr6⟩ := K2.all7
   obtain ⟨zrf0, zrf1, zrf2, zrf3, zrf4, zrf5, zrf6⟩ := K2.fz7
   go_wp2
   generalize hwE9 : World.setCell _ ⟨a1.heap.size, 6, none⟩ _ = wZ
   obtain ⟨KE9, SE9, ZE9, BE9⟩ := store7 K2 hwE9
   obtain ⟨ze0, ze1, ze2, ze3, ze4, ze5, ze6⟩ := KE9.all7
   refine bodyPost_ret (v := .tuple #[.agg #[.string ⟨#[]⟩, .int .i64 0, .int .i64 0, .slice none 0 0, .slice none 0 0, .slice none 0 0, .slice none 0 0], .int .i64 (E)]) (by simp [results, Tryz.results12, go_sem, ze0, ze1, ze2, ze3, ze4, ze5, ze6]) rfl ?_
   exact ansT_no (BE9 _ _ hB0w hs1)
end Go.Proofs.YtimmcmjipmkebaaGreat
