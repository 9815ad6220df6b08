/-
 shape: Create, Settle. Conditions: the tenant is as it comes in.
-/
import Derived.Test.YtimmcmjipmkebaaGreatVHLB
import Derived.Test.YtimmcmjipmkebaaGreatVTMD
import Derived.Lib.AppendZeros
import Derived.BigQuiet
import Derived.LoopTactic
import Derived.Lib.Hide
import Derived.IntWalk
import Derived.RegionTactic
namespace Go.Proofs.YtimmcmjipmkebaaGreat
open Go.ChangeShapes Go.WideShapes Go.ChangeAt Go.RowKit
set_option maxRecDepth 100000
set_option linter.unusedSimpArgs false
theorem ansT_no {w w' : World} {E : Int} (h : Below w.heap.size w w') : AnsT w (noT, E) (.returned (.tuple #[.agg noM.cells.toArray, .int .i64 E])) w' := ⟨noM, rfl, noM_own _ _, noM_good _, rfl, h⟩
def settleU (t : PT_) : PT_ × Int := if okT t = true then setlP t else (noT, 9)
set_option maxHeartbeats 1000000 in
theorem settle_any (x : MT_) (w : World) (hx : x.Good w) :
 Calls Tryz.prog 47 #[.agg x.cells.toArray] w fun e w' => AnsT w (settleU x.plain) e w' := by
 obtain ⟨a1, hw1⟩ : ∃ a1, w.alloc (.cells #[.string x.x_, .int .i64 x.r_, .int .i64 x.v_, .slice x.y_.A x.y_.l.length x.y_.c, .slice x.g_.A x.g_.l.length x.g_.c, .slice x.t_.A x.t_.l.length x.t_.c, .slice x.h_.A x.h_.l.length x.h_.c] 27) = a1 := ⟨_, rfl⟩
 have b1 : Below w.heap.size w a1 := hw1 ▸ (Below.refl _ w).alloc (Nat.le_refl _) _
 have k1 : Blk a1 w.heap.size 27 [.string x.x_, .int .i64 x.r_, .int .i64 x.v_, .slice x.y_.A x.y_.l.length x.y_.c, .slice x.g_.A x.g_.l.length x.g_.c, .slice x.t_.A x.t_.l.length x.t_.c, .slice x.h_.A x.h_.l.length x.h_.c] := hw1 ▸ Blk.new w _ _
 obtain ⟨a2, hw2⟩ : ∃ a2, a1.alloc (.cells #[.string ⟨#[]⟩, .int .i64 0, .int .i64 0, .slice none 0 0, .slice none 0 0, .slice none 0 0, .slice none 0 0] 27) = a2 := ⟨_, rfl⟩
 have b2 : Below a1.heap.size a1 a2 := hw2 ▸ (Below.refl _ a1).alloc (Nat.le_refl _) _
 have k2 : Blk a2 a1.heap.size 27 [.string ⟨#[]⟩, .int .i64 0, .int .i64 0, .slice none 0 0, .slice none 0 0, .slice none 0 0, .slice none 0 0] := hw2 ▸ Blk.new a1 _ _
 have hX2 : w.heap.size + 1 = a1.heap.size := by rw [← hw1, World.size_alloc]
 have hB1 : Below w.heap.size w a1 := b1
 have hB2 : Below w.heap.size w a2 := hB1.trans (b2.mono hB1.size)
 have k1 := k1.of b2
 have hs2 := hB2.size
 have hs1 := hB1.size
 have ht1 : a1.heap.size ≤ a2.heap.size := b2.size
 have HW1 := zI hw1
 have HW2 := zI hw2
 clear hw1 b1 hw2 b2
 have hx2 := hx.below hB2
 have HR := zI (check_any14 x a2 hx2)
 have HC := zI (fun W (hW : Below a2.heap.size a2 W) => copy_any x W (hx2.below hW))
 have HG := zI hx2
 unfold settleU
 clear hx hx2
 obtain ⟨q0, q1, q2, q3, q4, q5, q6⟩ := k1.all7
 rcases hk : okT x.plain with _ | _
 · rw [hk, if_neg (by decide)] at HR
   rw [if_neg (by decide)]
   clear hk
   go_enter Tryz.func47, Tryz.ntmps47
   go_upto_region 1 with fail
   rw [HW1.out, HW2.out]
   try rw [hX2]
   go_wp2_with fail
   refine HR.out.mono ?_
   rintro e w3 ⟨rfl, hV⟩
   have K2 := k2.of hV
   have hX := hB2.trans (hV.mono hs2)
   obtain ⟨zr0, zr1, zr2, zr3, zr4, zr5, zr6⟩ := K2.all7
   obtain ⟨zrf0, zrf1, zrf2, zrf3, zrf4, zrf5, zrf6⟩ := K2.fz7
   go_wp2
   generalize hwE : World.setCell _ ⟨a1.heap.size, 6, none⟩ _ = wE
   obtain ⟨KE, SE, ZE, BE⟩ := store7 K2 hwE
   obtain ⟨ze0, ze1, ze2, ze3, ze4, ze5, ze6⟩ := KE.all7
   refine bodyPost_ret (v := .tuple #[.agg #[.string ⟨#[]⟩, .int .i64 0, .int .i64 0, .slice none 0 0, .slice none 0 0, .slice none 0 0, .slice none 0 0], .int .i64 9]) (by simp [results, Tryz.results47, go_sem, ze0, ze1, ze2, ze3, ze4, ze5, ze6]) rfl ?_
   exact ansT_no (BE _ _ hX hs1)
 · rw [hk, if_pos rfl] at HR
   rw [if_pos rfl]
   clear hk
   go_enter Tryz.func47, Tryz.ntmps47
   go_upto_region 1 with fail
   rw [HW1.out, HW2.out]
   try rw [hX2]
   go_wp2_with fail
   refine HR.out.mono ?_
   rintro e w3 ⟨rfl, hV⟩
   have K1 := k1.of hV
   have K8 := k2.of hV
   have hV7 := hV
   obtain ⟨d0, d1, d2, d3, d4, d5, d6⟩ := K1.all7
   go_wp2_with fail
   refine (HC.out _ hV).mono ?_
   rintro e w7 ⟨y, rfl, ho7, hp7, hV8⟩
   have hV9 := hV7.trans (hV8.mono hV7.size)
   have hg7 := MT_.Good.of_own HG.out hp7 ho7
   have HS := zI (settled_any y w7 hg7)
   have HP7 := zI hp7
   obtain ⟨E, hE⟩ : ∃ E, (setlP y.plain).2 = E := ⟨_, rfl⟩
   rw [hE] at HS
   have hEE : (setlP x.plain).2 = E := by rw [← hE, hp7]
   have HE := zI hEE
   clear hp7 hE hEE
   go_wp2_with fail
   refine HS.out.mono ?_
   rintro e w8 ⟨rfl, hV10, hfr⟩
   have hV11 := hV9.trans (hV10.mono hV9.size)
   have K9 := (K8.of hV8).of hV10
   have hX := hB2.trans (hV11.mono hs2)
   have hR8 : a1.heap.size < w3.heap.size := K8.lt
   have hX6 := hB2.trans (hV7.mono hs2)
   have hs6 := hX6.size
   obtain ⟨z, hz⟩ : ∃ z, setlM y = z := ⟨_, rfl⟩
   have hoz : OwnTe w3.heap.size w8 z := hz ▸ setlM_own (ho7.stays fun b _ hb2 => hfr b hb2)
   have hgz : z.Good w8 := hz ▸ setlM_good (hg7.below hV10)
   have hpz : z.plain = (setlP y.plain).1 := hz ▸ setlM_plain y
   rw [hz]
   obtain ⟨zr0, zr1, zr2, zr3, zr4, zr5, zr6⟩ := K9.all7
   obtain ⟨zrf0, zrf1, zrf2, zrf3, zrf4, zrf5, zrf6⟩ := K9.fz7
   go_wp2
   generalize hwE : World.setCell _ ⟨a1.heap.size, 6, none⟩ _ = wE
   obtain ⟨KE, SE, ZE, BE⟩ := store7 K9 hwE
   obtain ⟨ze0, ze1, ze2, ze3, ze4, ze5, ze6⟩ := KE.all7
   refine bodyPost_ret (v := .tuple #[.agg #[.string z.x_, .int .i64 z.r_, .int .i64 z.v_, .slice z.y_.A z.y_.l.length z.y_.c, .slice z.g_.A z.g_.l.length z.g_.c, .slice z.t_.A z.t_.l.length z.t_.c, .slice z.h_.A z.h_.l.length z.h_.c], .int .i64 E]) (by simp [results, Tryz.results47, go_sem, ze0, ze1, ze2, ze3, ze4, ze5, ze6]) rfl ?_
   rw [HP7.out] at hpz
   have hoz2 := hoz.store hR8 SE
   exact ⟨z, by rw [HE.out], hoz2.base hs6, MT_.Good.of_own hgz rfl hoz2, hpz, BE _ _ hX hs1⟩
theorem zcQ {W : World} {n e size k g cap : Nat} {xs : List Value} (h : W.ownsRow n e size (.slice (some ⟨g, 0, none⟩) k cap) k xs) (i : Nat) : W.frozen? ⟨g, i, none⟩ = false := by
 obtain ⟨_, ⟨hv, _⟩ | ⟨g2, cap2, cur, hv, _, hb, _⟩⟩ := h
 · cases hv
 · injection hv with e1 e2 e3
   injection e1 with e1
   injection e1 with e1
   subst e1
   exact frozen_of_row W g i cur e hb
theorem slGood_of {α : Type} {W : World} {n size b k : Nat} {e : TypeId} {cells : α → List Value} {good : α → Prop} {A : Option Addr} {l : List α} {c : Nat} (ho : W.ownsRow n e size (.slice A k c) k (l.flatMap cells)) (hk : k = l.length) (hg : ∀ y ∈ l, good y) (hl : l.length * b ≤ 140737488351232) : SlGood W cells good b ⟨A, l, c⟩ := by
 obtain ⟨A2, c2, hv, hcap, hnil, hrd, _⟩ := ownAny ho
 injection hv with h1 h2 h3
 exact ⟨by rw [h1]; exact hrd.1, hg, by rw [← hk, h3]; exact hcap, by rw [h1, h3]; exact hnil, hl⟩
theorem turned {W V : World} {n g j : Nat} {y : MT_} {s s' : MSet} {f : Nat} {u : Value} (hB : Below W.heap.size W V) (ho : OwnTe n W y) (hgy : y.Good W) (hA : y.y_.A = some ⟨g, 0, none⟩) (hj : y.y_.l[j]? = some s) (hf : f < 5) (hs : s'.cells = s.cells.set f u) (hos : OwnSe n V s') (hgs : s'.Good (V.setCell ⟨g, j * 5 + f, none⟩ u)) :
 OwnTe n (V.setCell ⟨g, j * 5 + f, none⟩ u) { y with y_ := ⟨some ⟨g, 0, none⟩, y.y_.l.set j s', y.y_.c⟩ } ∧ ({ y with y_ := ⟨some ⟨g, 0, none⟩, y.y_.l.set j s', y.y_.c⟩ } : MT_).Good (V.setCell ⟨g, j * 5 + f, none⟩ u) := by
 have hoV := ho.below hB
 have h1 := hoV.setIn hA hj hf hs hos
 refine ⟨h1, MT_.Good.of_sets (x := y) hgy rfl (by show (y.y_.l.set j s').length * 104 ≤ _; rw [List.length_set]; exact hgy.w_.len) (fun z hz => ?_) h1⟩
 rcases List.mem_or_eq_of_mem_set hz with hz2 | rfl
 · exact MSet.Good.of_own (hgy.w_.el z hz2) rfl (h1.eset z hz)
 · exact hgs
theorem infoSn17 : (Tryz.prog.info? 49).map (fun i => (i.zero, i.size, i.bytes)) = some (some (.agg #[.string ByteArray.empty, .int .i64 0, .slice none 0 0, .slice none 0 0, .slice none 0 0]), 5, 96) := by kernel_rfl
theorem Blk.sameT {W W' : World} {R : Nat} {t : TypeId} {C : List Value} (h : Blk W R t C) (e : W'.heap[R]? = W.heap[R]?) : Blk W' R t C := e.trans h
theorem own_block {A : Option Addr} {l : List Mna} {c : Nat} {b : Nat} (h : (Sl.val ⟨A, l, c⟩).ownBlock = some b) : ∃ a : Addr, A = some a ∧ a.block = b := by
 unfold Sl.val Value.ownBlock at h
 rcases A with _ | a
 · cases h
 · injection h with h
   exact ⟨a, rfl, h⟩
theorem rows_ne {W : World} {n n' size size' k k' : Nat} {e e' : TypeId} {v v' : Value} {xs xs' : List Value} (h1 : W.ownsRow n e size v k xs) (h2 : W.ownsRow n' e' size' v' k' xs') (hne : e ≠ e') {b : Nat} (hb : v.ownBlock = some b) : some b ≠ v'.ownBlock := by
 intro hb'
 obtain ⟨_, ⟨hv, _⟩ | ⟨gg, cap, cur2, hv, hn, hb2, _⟩⟩ := h1
 · rw [hv] at hb
   cases hb
 · obtain ⟨_, ⟨hv', _⟩ | ⟨gg', cap', cur', hv', hn', hb3, _⟩⟩ := h2
   · rw [hv'] at hb'
     cases hb'
   · rw [hv] at hb
     rw [hv'] at hb'
     injection hb with hb
     injection hb' with hb'
     have e1 : gg = b := hb
     have e2 : b = gg' := hb'
     subst e1 e2
     rw [hb2] at hb3
     injection hb3 with hb3
     injection hb3 with _ h6 _
     exact hne h6
theorem sep_stays {n : Nat} {W V : World} {y : MT_} (h : OwnTe n W y) (hsep : y.y_.l.Pairwise SepS) {j : Nat} {t : MSet} (hj : y.y_.l[j]? = some t) (hV : ∀ b, b < W.heap.size → some b ≠ t.n_.val.ownBlock → V.heap[b]? = W.heap[b]?) {i : Nat} {x : MSet} (hi : i ≠ j) (hx : y.y_.l[i]? = some x) :
 V.ownsRow n 49 5 x.n_.val x.n_.l.length (x.n_.l.flatMap Mna.cells) := by
 have hs := (h.eset x (mG hx)).snaps
 refine ownStay hs fun b hb => hV b (hs.lt b hb).2 fun e => ?_
 obtain ⟨a1, h1, h2⟩ := own_block hb
 obtain ⟨a3, h3, h4⟩ := own_block e.symm
 have hp := List.pairwise_iff_getElem.1 hsep
 obtain ⟨li, ei⟩ := List.getElem?_eq_some_iff.1 hx
 obtain ⟨lj, ej⟩ := List.getElem?_eq_some_iff.1 hj
 rcases Nat.lt_or_gt_of_ne hi with hij | hij
 · have := hp i j li lj hij a1 a3 (by rw [ei]; exact h1) (by rw [ej]; exact h3)
   omega
 · have := hp j i lj li hij a3 a1 (by rw [ej]; exact h3) (by rw [ei]; exact h1)
   omega
theorem sep_keeps {n : Nat} {W V : World} {y : MT_} (h : OwnTe n W y) {j : Nat} {t : MSet} (hj : y.y_.l[j]? = some t) (hV : ∀ b, b < W.heap.size → some b ≠ t.n_.val.ownBlock → V.heap[b]? = W.heap[b]?) : Keeps 49 W V := fun b cur e' hb hne => hV b (Array.getElem?_eq_some_iff.1 hb).1 fun e => by
 obtain ⟨_, ⟨hv, _⟩ | ⟨gg, cap, cur2, hv, hn, hb2, _⟩⟩ := (h.eset t (mG hj)).snaps
 · rw [hv] at e
   cases e
 · rw [hv] at e
   injection e with e
   have e : b = gg := e
   subst e
   rw [hb] at hb2
   injection hb2 with hb2
   injection hb2 with _ h6 _
   exact hne h6
theorem mem_set_ne {l : List MSet} {j : Nat} {s x : MSet} (h : x ∈ l.set j s) : x = s ∨ ∃ i, i ≠ j ∧ l[i]? = some x := by
 obtain ⟨i, hi, e⟩ := List.getElem_of_mem h
 rw [List.length_set] at hi
 rw [List.getElem_set] at e
 split at e
 · exact .inl e.symm
 · rename_i hne
   exact .inr ⟨i, fun e2 => hne e2.symm, by rw [qZa hi, e]⟩
theorem OwnTe.turnSn {n : Nat} {W V : World} {y : MT_} (h : OwnTe n W y) (hgy : y.Good W) (hsep : y.y_.l.Pairwise SepS) {g j : Nat} {t t' : MSet} (hA : y.y_.A = some ⟨g, 0, none⟩) (hj : y.y_.l[j]? = some t)
 (hV : ∀ b, b < W.heap.size → some b ≠ t.n_.val.ownBlock → V.heap[b]? = W.heap[b]?) {u : Value} (hs : t'.cells = t.cells.set 3 u) (hos : OwnSe n V t') (hgs : t'.Good (V.setCell ⟨g, j * 5 + 3, none⟩ u)) :
 OwnTe n (V.setCell ⟨g, j * 5 + 3, none⟩ u) { y with y_ := ⟨some ⟨g, 0, none⟩, y.y_.l.set j t', y.y_.c⟩ } ∧ ({ y with y_ := ⟨some ⟨g, 0, none⟩, y.y_.l.set j t', y.y_.c⟩ } : MT_).Good (V.setCell ⟨g, j * 5 + 3, none⟩ u) := by
 have hkV := sep_keeps h hj hV
 have h0 : V.ownsRow n 52 5 (.slice (some ⟨g, 0, none⟩) y.y_.l.length y.y_.c) y.y_.l.length (y.y_.l.flatMap MSet.cells) := by
  rw [← hA]
  exact zbX h.sets (by decide) hkV
 have hk := keeps_setIn h0 (j * 5 + 3) u
 have h2 := own_setIn h0 (j * 5 + 3) u
 rw [← flat_set MSet.cells (fun _ => rfl) hj hs (by decide)] at h2
 have h1 : OwnTe n (V.setCell ⟨g, j * 5 + 3, none⟩ u) { y with y_ := ⟨some ⟨g, 0, none⟩, y.y_.l.set j t', y.y_.c⟩ } := by
  refine ⟨?_, zbX (zbX h.grants (by decide) hkV) (by decide) hk, zbX (zbX h.stages (by decide) hkV) (by decide) hk, zbX (zbX h.log (by decide) hkV) (by decide) hk, fun x hx => ?_, fun x hx => ((h.estage x hx).keep hkV (by decide) (by decide)).keep hk (by decide) (by decide)⟩
  · show (V.setCell ⟨g, j * 5 + 3, none⟩ u).ownsRow n 52 5 (.slice (some ⟨g, 0, none⟩) (y.y_.l.set j t').length y.y_.c) (y.y_.l.set j t').length ((y.y_.l.set j t').flatMap MSet.cells)
    rw [List.length_set]
    exact h2
  · rcases mem_set_ne hx with rfl | ⟨i, hi, hx⟩
    · exact hos.setIn hk
    · have h9 := h.eset x (mG hx)
      exact OwnSe.setIn ⟨zbX h9.body (by decide) hkV, sep_stays h hsep hj hV hi hx, zbX h9.own (by decide) hkV, fun z hz => (h9.each z hz).keep hkV (by decide) (by decide) (by decide)⟩ hk
 refine ⟨h1, MT_.Good.of_sets (x := y) hgy rfl (by show (y.y_.l.set j t').length * 104 ≤ _; rw [List.length_set]; exact hgy.w_.len) (fun z hz => ?_) h1⟩
 rcases mem_set_ne hz with rfl | ⟨i, hi, hz2⟩
 · exact hgs
 · exact MSet.Good.of_own (hgy.w_.el z (mG hz2)) rfl (h1.eset z hz)
theorem map_turn {x : PT_} (hok : okT x = true) {p : ByteArray} {f : PSet → PSet} {j : Nat} {s : PSet} (hj : x.y_[j]? = some s) (hp : s.l_ = p) : x.y_.map (fun y => if y.l_ = p then f y else y) = x.y_.set j (f s) := by
 have hris : x.y_.Pairwise fun a b => ltPath a b = true := ((goodL_iff ltPath_trans).1 (okT_parts.1 hok).2.2.2).2
 have h9 := chS_set (f := f) hris hj
 rw [hp] at h9
 exact h9
theorem blB {W : World} {g : Nat} {l : List Bool} {t : TypeId} (hb : Blk W g t (l.map Value.bool)) (k : Nat) (v : Bool) (hv : l[k]? = some v) : W.cell? ⟨g, k, none⟩ = some (.bool v) := by
 rw [hb.cell k, List.getElem?_map, hv]
 rfl
theorem blI {W : World} {g : Nat} {l : List Int} {t : TypeId} (hb : Blk W g t (l.map (Value.int .i64))) (k : Nat) (v : Int) (hv : l[k]? = some v) : W.cell? ⟨g, k, none⟩ = some (.int .i64 v) := by
 rw [hb.cell k, List.getElem?_map, hv]
 rfl
theorem atS_good {x : MT_} {p : ByteArray} {W : World} (h : x.Good W) : (atS x p).Good W := by
 have hz : setZ.Good W := ⟨by show ByteArray.empty.size ≤ _; decide, by show ByteArray.empty.size ≤ _; decide, slNone _ _ _ _, slNone _ _ _ _, slNone _ _ _ _⟩
 unfold atS
 split
 · exact hz
 · rcases hj : x.y_.l[(findM x p).toNat]? with _ | s
   · exact hz
   · exact h.w_.el s (mG hj)
theorem MT_.Good.stays17 {W W' : World} {n : Nat} {y : MT_} (h : y.Good W) (ho : OwnTe n W' y) : y.Good W' := h.of_own rfl ho
def AnsS (w : World) (P : PT_ × Int × Int) (e : Ending) (w' : World) : Prop := ∃ y : MT_, e = .returned (.tuple #[.agg y.cells.toArray, .int .i64 P.2.1, .int .i64 P.2.2]) ∧ OwnTe w.heap.size w' y ∧ y.Good w' ∧ y.plain = P.1 ∧ Below w.heap.size w w'
theorem ansS_no {w w' : World} {E : Int} (h : Below w.heap.size w w') : AnsS w (noT, 0, E) (.returned (.tuple #[.agg noM.cells.toArray, .int .i64 0, .int .i64 E])) w' := ⟨noM, rfl, noM_own _ _, noM_good _, rfl, h⟩
set_option maxHeartbeats 8000000 in
theorem snapshot_any (x : MT_) (p n : ByteArray) (hp : p.size ≤ 140737488351232) (hn : n.size ≤ 140737488351232) (w : World) (hx : x.Good w) :
 Calls Tryz.prog 10 #[.agg x.cells.toArray, .string p, .string n] w fun e w' => AnsS w (snapshotP x.plain p n) e w' := by
 obtain ⟨a1, hw1⟩ : ∃ a1, w.alloc (.cells #[.string x.x_, .int .i64 x.r_, .int .i64 x.v_, .slice x.y_.A x.y_.l.length x.y_.c, .slice x.g_.A x.g_.l.length x.g_.c, .slice x.t_.A x.t_.l.length x.t_.c, .slice x.h_.A x.h_.l.length x.h_.c] 27) = a1 := ⟨_, rfl⟩
 have b1 : Below w.heap.size w a1 := hw1 ▸ (Below.refl _ w).alloc (Nat.le_refl _) _
 have k1 : Blk a1 w.heap.size 27 [.string x.x_, .int .i64 x.r_, .int .i64 x.v_, .slice x.y_.A x.y_.l.length x.y_.c, .slice x.g_.A x.g_.l.length x.g_.c, .slice x.t_.A x.t_.l.length x.t_.c, .slice x.h_.A x.h_.l.length x.h_.c] := hw1 ▸ Blk.new w _ _
 obtain ⟨a2, hw2⟩ : ∃ a2, a1.alloc (.cells #[.string ⟨#[]⟩, .int .i64 0, .int .i64 0, .slice none 0 0, .slice none 0 0, .slice none 0 0, .slice none 0 0] 27) = a2 := ⟨_, rfl⟩
 have b2 : Below a1.heap.size a1 a2 := hw2 ▸ (Below.refl _ a1).alloc (Nat.le_refl _) _
 have k2 : Blk a2 a1.heap.size 27 [.string ⟨#[]⟩, .int .i64 0, .int .i64 0, .slice none 0 0, .slice none 0 0, .slice none 0 0, .slice none 0 0] := hw2 ▸ Blk.new a1 _ _
 have hX2 : w.heap.size + 1 = a1.heap.size := by rw [← hw1, World.size_alloc]
 have hB1 : Below w.heap.size w a1 := b1
 have hB2 : Below w.heap.size w a2 := hB1.trans (b2.mono hB1.size)
 have k1 := k1.of b2
 have hs2 := hB2.size
 have hs1 := hB1.size
 have ht1 : a1.heap.size ≤ a2.heap.size := b2.size
 have HW1 := zI hw1
 have HW2 := zI hw2
 clear hw1 b1 hw2 b2
 have hx2 := hx.below hB2
 have HFD := zI (find17_any x p n a2 hx2)
 have HCK : Hid (∀ W, Below a2.heap.size a2 W → Calls Tryz.prog 42 #[.agg x.cells.toArray] W fun e w' => e = .returned (.int .i64 (okE x)) ∧ Below W.heap.size W w') := zI fun W hW => check_any14 x W (hx2.below hW)
 have HPT := zI (fun W => path_any p (Nat.le_trans hp (by decide)) W)
 have HNM := zI (fun W => name_any n W)
 have hlk1 := k1.lt
 have hlk2 := k2.lt
 have HG := zI hx2
 have hos := snapE_is x p n
 obtain ⟨I, hI⟩ : ∃ I, findM x p = I := ⟨_, rfl⟩
 obtain ⟨O, hO⟩ : ∃ O, atN x p n = O := ⟨_, rfl⟩
 obtain ⟨S, hS⟩ : ∃ S, atS x p = S := ⟨_, rfl⟩
 obtain ⟨Y, hY⟩ : ∃ Y, atY x p n = Y := ⟨_, rfl⟩
 obtain ⟨GG, hGG⟩ : ∃ GG, guidM x S = GG := ⟨_, rfl⟩
 obtain ⟨OK, hOK⟩ : ∃ OK, okE x = OK := ⟨_, rfl⟩
 obtain ⟨PB, hPB⟩ : ∃ PB, zeX (bs p) = PB := ⟨_, rfl⟩
 obtain ⟨NB, hNB⟩ : ∃ NB, zaQ (bs n) = NB := ⟨_, rfl⟩
 have HGS : Hid (S.Good a2) := zI (hS ▸ atS_good hx2)
 have HNG := zI (fun W (hW : Below a2.heap.size a2 W) => newGuid_any x S W (HGS.out.below hW))
 rw [hI, hO, hS, hGG, hOK, hPB, hNB] at hos
 rw [hI, hO, hS, hY] at HFD
 rw [hGG] at HNG
 rw [hPB] at HPT
 rw [hNB] at HNM
 rw [hOK] at HCK
 have HII := zI hI
 have HOO := zI hO
 have HSS := zI hS
 have HGGE := zI hGG
 obtain ⟨R, hR⟩ : ∃ R, snapshotP x.plain p n = R := ⟨_, rfl⟩
 rw [hR]
 have HPR := zI hR
 obtain ⟨E, hE⟩ : ∃ E, snapE x.plain p n = E := ⟨_, rfl⟩
 rw [hE] at hos
 obtain ⟨W30, hW30⟩ : ∃ W, whenI 31 ([!PB, !NB].any id) = W := ⟨_, rfl⟩
 obtain ⟨W35, hW35⟩ : ∃ W, whenI 71 ([decide (I < 0)].any id) = W := ⟨_, rfl⟩
 obtain ⟨W40, hW40⟩ : ∃ W, whenI 6 ([decide (0 ≤ O)].any id) = W := ⟨_, rfl⟩
 obtain ⟨W47, hW47⟩ : ∃ W, whenI 3 ([decide ((16 : Int) ≤ (S.n_.l.length : Int))].any id) = W := ⟨_, rfl⟩
 obtain ⟨W51, hW51⟩ : ∃ W, whenI 15 ([decide (1099511627776 ≤ GG)].any id) = W := ⟨_, rfl⟩
 rw [hW30, hW35, hW40, hW47, hW51] at hos
 have HWW30 := zI hW30
 have HWW35 := zI hW35
 have HWW40 := zI hW40
 have HWW47 := zI hW47
 have HWW51 := zI hW51
 clear hW30 hW35 hW40 hW47 hW51
 have HOS := zI hos
 have HE := zI hE
 clear hI hO hS hY hGG hOK hPB hNB hos hE hx hx2 hR
 obtain ⟨q0, q1, q2, q3, q4, q5, q6⟩ := k1.all7
 go_enter Tryz.func10, Tryz.ntmps10
 go_upto_region 1 with fail
 rw [HW1.out, HW2.out]
 try rw [hX2]
 go_wp2_with fail
 refine HFD.out.mono ?_
 rintro e w3 ⟨rfl, hV⟩
 have K1 := k1.of hV
 have K2 := k2.of hV
 have hs3 := hV.size
 obtain ⟨w4, hw4⟩ : ∃ w4, w3.alloc (.cells #[.int .i64 I, .int .i64 O, .string S.l_, .string S.m_, .slice S.p_.A S.p_.l.length S.p_.c, .slice S.n_.A S.n_.l.length S.n_.c, .slice S.j_.A S.j_.l.length S.j_.c, .string Y.x_, .int .i64 Y.z_, .slice Y.p_.A Y.p_.l.length Y.p_.c, .slice Y.u_.A Y.u_.l.length Y.u_.c, .slice Y.j_.A Y.j_.l.length Y.j_.c] 67) = w4 := ⟨_, rfl⟩
 have hV4 : Below w3.heap.size w3 w4 := hw4 ▸ (Below.refl _ w3).alloc (Nat.le_refl _) _
 have kP : Blk w4 w3.heap.size 67 [.int .i64 I, .int .i64 O, .string S.l_, .string S.m_, .slice S.p_.A S.p_.l.length S.p_.c, .slice S.n_.A S.n_.l.length S.n_.c, .slice S.j_.A S.j_.l.length S.j_.c, .string Y.x_, .int .i64 Y.z_, .slice Y.p_.A Y.p_.l.length Y.p_.c, .slice Y.u_.A Y.u_.l.length Y.u_.c, .slice Y.j_.A Y.j_.l.length Y.j_.c] := hw4 ▸ Blk.new w3 _ _
 have K1 := K1.of hV4
 have K2 := K2.of hV4
 have hV24 := hV.trans (hV4.mono hs3)
 have HW4 := zI hw4
 clear hw4 q0 q1 q2 q3 q4 q5 q6
 obtain ⟨t0, t1, t2, t3, t4, t5, t6⟩ := K1.all7
 obtain ⟨c0, c1, c2, c3, c4, c5, c6, c7, c8, c9, c10, c11⟩ := kP.all12
 have HNG4 := zI (HNG.out w4 hV24)
 go_upto_region 2 with fail
 rw [HW4.out]
 go_wp2_with fail
 refine HNG4.out.mono ?_
 rintro e w5 ⟨rfl, hV5⟩
 have K1 := K1.of hV5
 have K2 := K2.of hV5
 have kP := kP.of hV5
 have hV25 := hV24.trans (hV5.mono hV24.size)
 have hs25 := hV25.size
 have hlT := K1.lt
 have hlP := kP.lt
 clear t0 t1 t2 t3 t4 t5 t6 c0 c1 c2 c3 c4 c5 c6 c7 c8 c9 c10 c11 HNG4
 obtain ⟨t0, t1, t2, t3, t4, t5, t6⟩ := K1.all7
 obtain ⟨c0, c1, c2, c3, c4, c5, c6, c7, c8, c9, c10, c11⟩ := kP.all12
 go_upto_region 3 with fail
 refine wp_region_noPanic ?_
 refine zcX 33 (fun W => W.cell? ⟨w.heap.size, 0, none⟩ = some (.string x.x_) ∧ W.cell? ⟨w.heap.size, 1, none⟩ = some (.int .i64 x.r_) ∧ W.cell? ⟨w.heap.size, 2, none⟩ = some (.int .i64 x.v_) ∧ W.cell? ⟨w.heap.size, 3, none⟩ = some (.slice x.y_.A x.y_.l.length x.y_.c) ∧ W.cell? ⟨w.heap.size, 4, none⟩ = some (.slice x.g_.A x.g_.l.length x.g_.c) ∧ W.cell? ⟨w.heap.size, 5, none⟩ = some (.slice x.t_.A x.t_.l.length x.t_.c) ∧ W.cell? ⟨w.heap.size, 6, none⟩ = some (.slice x.h_.A x.h_.l.length x.h_.c) ∧ W.cell? ⟨w3.heap.size, 0, none⟩ = some (.int .i64 I) ∧ W.cell? ⟨w3.heap.size, 1, none⟩ = some (.int .i64 O) ∧ W.cell? ⟨w3.heap.size, 2, none⟩ = some (.string S.l_) ∧ W.cell? ⟨w3.heap.size, 3, none⟩ = some (.string S.m_) ∧ W.cell? ⟨w3.heap.size, 4, none⟩ = some (.slice S.p_.A S.p_.l.length S.p_.c) ∧ W.cell? ⟨w3.heap.size, 5, none⟩ = some (.slice S.n_.A S.n_.l.length S.n_.c) ∧ W.cell? ⟨w3.heap.size, 6, none⟩ = some (.slice S.j_.A S.j_.l.length S.j_.c) ∧ W.cell? ⟨w3.heap.size, 7, none⟩ = some (.string Y.x_) ∧ W.cell? ⟨w3.heap.size, 8, none⟩ = some (.int .i64 Y.z_) ∧ W.cell? ⟨w3.heap.size, 9, none⟩ = some (.slice Y.p_.A Y.p_.l.length Y.p_.c) ∧ W.cell? ⟨w3.heap.size, 10, none⟩ = some (.slice Y.u_.A Y.u_.l.length Y.u_.c) ∧ W.cell? ⟨w3.heap.size, 11, none⟩ = some (.slice Y.j_.A Y.j_.l.length Y.j_.c)) (by kernel_rfl) ⟨t0, t1, t2, t3, t4, t5, t6, c0, c1, c2, c3, c4, c5, c6, c7, c8, c9, c10, c11⟩ (fun hHeld => ?_)
 refine tkA 16 (i := 0) (oi := ⟨some 21, _, _, _, _, _⟩) rfl hHeld ?_
 try simp only [zP]
 refine tkA 16 (i := 2) (oi := ⟨some 23, _, _, _, _, _⟩) rfl hHeld ?_
 try simp only [zP]
 refine tkA 16 (i := 5) (oi := ⟨some 26, _, _, _, _, _⟩) rfl hHeld ?_
 try simp only [zP]
 refine tkA 16 (i := 10) (oi := ⟨some 31, _, _, _, _, _⟩) rfl hHeld ?_
 try simp only [zP]
 refine tkA 16 (i := 11) (oi := ⟨some 32, _, _, _, _, _⟩) rfl hHeld ?_
 try simp only [zP]
 refine tkA 16 (i := 12) (oi := ⟨some 33, _, _, _, _, _⟩) rfl hHeld ?_
 try simp only [zP]
 refine tkA 16 (i := 15) (oi := ⟨some 36, _, _, _, _, _⟩) rfl hHeld ?_
 try simp only [zP]
 refine tkA 16 (i := 16) (oi := ⟨some 37, _, _, _, _, _⟩) rfl hHeld ?_
 try simp only [zP]
 refine tkA 16 (i := 17) (oi := ⟨some 38, _, _, _, _, _⟩) rfl hHeld ?_
 try simp only [zP]
 refine tkA 16 (i := 20) (oi := ⟨some 41, _, _, _, _, _⟩) rfl hHeld ?_
 try simp only [zP]
 refine tkA 16 (i := 21) (oi := ⟨some 42, _, _, _, _, _⟩) rfl hHeld ?_
 try simp only [zP]
 refine tkA 16 (i := 22) (oi := ⟨some 43, _, _, _, _, _⟩) rfl hHeld ?_
 try simp only [zP]
 refine tkA 16 (i := 23) (oi := ⟨some 44, _, _, _, _, _⟩) rfl hHeld ?_
 try simp only [zP]
 refine tkA 16 (i := 24) (oi := ⟨some 45, _, _, _, _, _⟩) rfl hHeld ?_
 try simp only [zP]
 refine tkA 16 (i := 27) (oi := ⟨some 48, _, _, _, _, _⟩) rfl hHeld ?_
 try simp only [zP]
 refine tkA 16 (i := 28) (oi := ⟨some 49, _, _, _, _, _⟩) rfl hHeld ?_
 try simp only [zP]
 clear hHeld
 refine zdZ 16 17 1 [(1, 22), (3, 24), (4, 25), (6, 27), (7, 28), (8, 29), (9, 30), (13, 34), (14, 35), (18, 39), (19, 40), (25, 46), (26, 47), (29, 50), (30, 51), (31, 52), (32, 53)] (fun s v w => match s with
  | 22 => v = .int .i64 OK
  | 24 => v = .bool PB
  | 25 => v = .bool (!PB)
  | 27 => v = .bool NB
  | 28 => v = .bool (!NB)
  | 29 => ∃ g, v = .slice (some ⟨g, 0, none⟩) 2 2 ∧ Blk w g 4 [.bool (!PB), .bool (!NB)]
  | 30 => v = .int .i64 W30
  | 34 => ∃ g, v = .slice (some ⟨g, 0, none⟩) 1 1 ∧ Blk w g 4 [.bool (decide (I < 0))]
  | 35 => v = .int .i64 W35
  | 39 => ∃ g, v = .slice (some ⟨g, 0, none⟩) 1 1 ∧ Blk w g 4 [.bool (decide (0 ≤ O))]
  | 40 => v = .int .i64 W40
  | 46 => ∃ g, v = .slice (some ⟨g, 0, none⟩) 1 1 ∧ Blk w g 4 [.bool (decide ((16 : Int) ≤ (S.n_.l.length : Int)))]
  | 47 => v = .int .i64 W47
  | 50 => ∃ g, v = .slice (some ⟨g, 0, none⟩) 1 1 ∧ Blk w g 4 [.bool (decide (1099511627776 ≤ GG))]
  | 51 => v = .int .i64 W51
  | 52 => ∃ g, v = .slice (some ⟨g, 0, none⟩) 6 6 ∧ Blk w g 28 [.int .i64 (OK), .int .i64 (W30), .int .i64 (W35), .int .i64 (W40), .int .i64 (W47), .int .i64 (W51)]
  | 53 => v = .int .i64 E
  | _ => True) (fun w w' => Below w.heap.size w w') (by kernel_rfl) (by kernel_rfl) bZh ⟨?_, ?_, ?_, ?_, ?_, ?_, ?_, ?_, ?_, ?_, ?_, ?_, ?_, ?_, ?_, ?_, ?_, trivial⟩ (fun w' hB => ⟨(hB.cell (p := ⟨w.heap.size, 0, none⟩) hlT).trans t0, (hB.cell (p := ⟨w.heap.size, 1, none⟩) hlT).trans t1, (hB.cell (p := ⟨w.heap.size, 2, none⟩) hlT).trans t2, (hB.cell (p := ⟨w.heap.size, 3, none⟩) hlT).trans t3, (hB.cell (p := ⟨w.heap.size, 4, none⟩) hlT).trans t4, (hB.cell (p := ⟨w.heap.size, 5, none⟩) hlT).trans t5, (hB.cell (p := ⟨w.heap.size, 6, none⟩) hlT).trans t6, (hB.cell (p := ⟨w3.heap.size, 0, none⟩) hlP).trans c0, (hB.cell (p := ⟨w3.heap.size, 1, none⟩) hlP).trans c1, (hB.cell (p := ⟨w3.heap.size, 2, none⟩) hlP).trans c2, (hB.cell (p := ⟨w3.heap.size, 3, none⟩) hlP).trans c3, (hB.cell (p := ⟨w3.heap.size, 4, none⟩) hlP).trans c4, (hB.cell (p := ⟨w3.heap.size, 5, none⟩) hlP).trans c5, (hB.cell (p := ⟨w3.heap.size, 6, none⟩) hlP).trans c6, (hB.cell (p := ⟨w3.heap.size, 7, none⟩) hlP).trans c7, (hB.cell (p := ⟨w3.heap.size, 8, none⟩) hlP).trans c8, (hB.cell (p := ⟨w3.heap.size, 9, none⟩) hlP).trans c9, (hB.cell (p := ⟨w3.heap.size, 10, none⟩) hlP).trans c10, (hB.cell (p := ⟨w3.heap.size, 11, none⟩) hlP).trans c11⟩) ⟨?_, ?_, ?_, ?_, ?_, ?_, ?_, ?_, ?_, ?_, ?_, ?_, ?_, ?_, ?_, ?_, ?_, trivial⟩ ?_
 focus
  intro v w w' h hB
  exact h
 focus
  intro v w w' h hB
  exact h
 focus
  intro v w w' h hB
  exact h
 focus
  intro v w w' h hB
  exact h
 focus
  intro v w w' h hB
  exact h
 focus
  intro v w w' h hB
  exact (by obtain ⟨g, e, hb⟩ := h; exact ⟨g, e, hb.below hB hb.lt⟩)
 focus
  intro v w w' h hB
  exact h
 focus
  intro v w w' h hB
  exact (by obtain ⟨g, e, hb⟩ := h; exact ⟨g, e, hb.below hB hb.lt⟩)
 focus
  intro v w w' h hB
  exact h
 focus
  intro v w w' h hB
  exact (by obtain ⟨g, e, hb⟩ := h; exact ⟨g, e, hb.below hB hb.lt⟩)
 focus
  intro v w w' h hB
  exact h
 focus
  intro v w w' h hB
  exact (by obtain ⟨g, e, hb⟩ := h; exact ⟨g, e, hb.below hB hb.lt⟩)
 focus
  intro v w w' h hB
  exact h
 focus
  intro v w w' h hB
  exact (by obtain ⟨g, e, hb⟩ := h; exact ⟨g, e, hb.below hB hb.lt⟩)
 focus
  intro v w w' h hB
  exact h
 focus
  intro v w w' h hB
  exact (by obtain ⟨g, e, hb⟩ := h; exact ⟨g, e, hb.below hB hb.lt⟩)
 focus
  intro v w w' h hB
  exact h
 focus
  intro vs w2 hBf hFf o ho K hK
  obtain rfl : (⟨some 22, _, _, _, _, _⟩ : Oper) = o := Option.some.inj ho
  clear ho
  (try simp only [fillL, zQ, zP] at hK ⊢)
  have WB : Below w5.heap.size w5 w2 := (Below.refl w5.heap.size w5).drew.trans hBf
  go_simp
  refine (HCK.out w2 (hV25.trans (WB.mono hs25))).mono ?_
  rintro e w4 ⟨rfl, hB4⟩
  exact hK.out _ _ ⟨rfl, hB4⟩
 focus
  intro vs w2 hBf hFf o ho K hK
  obtain rfl : (⟨some 24, _, _, _, _, _⟩ : Oper) = o := Option.some.inj ho
  clear ho
  (try simp only [fillL, zQ, zP] at hK ⊢)
  have WB : Below w5.heap.size w5 w2 := (Below.refl w5.heap.size w5).drew.trans hBf
  go_simp
  refine (HPT.out w2).mono ?_
  rintro e w4 ⟨rfl, hB4⟩
  exact hK.out _ _ ⟨rfl, hB4⟩
 focus
  intro vs w2 hBf hFf o ho K hK
  obtain rfl : (⟨some 25, _, _, _, _, _⟩ : Oper) = o := Option.some.inj ho
  clear ho
  (try simp only [fillL, zQ, zP] at hK ⊢)
  have e24 := (hFf (3, 24) (by simp) (by kernel_rfl))
  simp only [] at e24
  simp only [e24] at hK ⊢
  go_simp
  exact hK.out _ _ ⟨rfl, Below.refl _ _⟩
 focus
  intro vs w2 hBf hFf o ho K hK
  obtain rfl : (⟨some 27, _, _, _, _, _⟩ : Oper) = o := Option.some.inj ho
  clear ho
  (try simp only [fillL, zQ, zP] at hK ⊢)
  go_simp
  refine (HNM.out w2).mono ?_
  rintro e w4 ⟨rfl, rfl⟩
  exact hK.out _ _ ⟨rfl, Below.refl _ _⟩
 focus
  intro vs w2 hBf hFf o ho K hK
  obtain rfl : (⟨some 28, _, _, _, _, _⟩ : Oper) = o := Option.some.inj ho
  clear ho
  (try simp only [fillL, zQ, zP] at hK ⊢)
  have e27 := (hFf (6, 27) (by simp) (by kernel_rfl))
  simp only [] at e27
  simp only [e27] at hK ⊢
  go_simp
  exact hK.out _ _ ⟨rfl, Below.refl _ _⟩
 focus
  intro vs w2 hBf hFf o ho K hK
  obtain rfl : (⟨some 29, _, _, _, _, _⟩ : Oper) = o := Option.some.inj ho
  clear ho
  (try simp only [fillL, zQ, zP] at hK ⊢)
  have e25 := (hFf (4, 25) (by simp) (by kernel_rfl))
  simp only [] at e25
  simp only [e25] at hK ⊢
  have e28 := (hFf (7, 28) (by simp) (by kernel_rfl))
  simp only [] at e28
  simp only [e28] at hK ⊢
  go_simp
  refine hK.out _ _ ⟨⟨w2.heap.size, rfl, Blk.new w2 _ _⟩, (Below.refl _ w2).alloc (Nat.le_refl _) _⟩
 focus
  intro vs w2 hBf hFf o ho K hK
  obtain rfl : (⟨some 30, _, _, _, _, _⟩ : Oper) = o := Option.some.inj ho
  clear ho
  (try simp only [fillL, zQ, zP] at hK ⊢)
  obtain ⟨g9, e9, hb9⟩ := (hFf (8, 29) (by simp) (by kernel_rfl))
  simp only [e9] at hK ⊢
  go_simp
  refine (when_any 31 [!PB, !NB] 2 rfl (by simp) g9 w2 (blB (l := [!PB, !NB]) hb9)).mono ?_
  rintro e w4 ⟨rfl, rfl⟩
  exact hK.out _ _ ⟨by rw [HWW30.out], Below.refl _ _⟩
 focus
  intro vs w2 hBf hFf o ho K hK
  obtain rfl : (⟨some 34, _, _, _, _, _⟩ : Oper) = o := Option.some.inj ho
  clear ho
  (try simp only [fillL, zQ, zP] at hK ⊢)
  go_simp
  refine hK.out _ _ ⟨⟨w2.heap.size, rfl, Blk.new w2 _ _⟩, (Below.refl _ w2).alloc (Nat.le_refl _) _⟩
 focus
  intro vs w2 hBf hFf o ho K hK
  obtain rfl : (⟨some 35, _, _, _, _, _⟩ : Oper) = o := Option.some.inj ho
  clear ho
  (try simp only [fillL, zQ, zP] at hK ⊢)
  obtain ⟨g9, e9, hb9⟩ := (hFf (13, 34) (by simp) (by kernel_rfl))
  simp only [e9] at hK ⊢
  go_simp
  refine (when_any 71 [decide (I < 0)] 1 rfl (by simp) g9 w2 (blB (l := [decide (I < 0)]) hb9)).mono ?_
  rintro e w4 ⟨rfl, rfl⟩
  exact hK.out _ _ ⟨by rw [HWW35.out], Below.refl _ _⟩
 focus
  intro vs w2 hBf hFf o ho K hK
  obtain rfl : (⟨some 39, _, _, _, _, _⟩ : Oper) = o := Option.some.inj ho
  clear ho
  (try simp only [fillL, zQ, zP] at hK ⊢)
  go_simp
  refine hK.out _ _ ⟨⟨w2.heap.size, rfl, Blk.new w2 _ _⟩, (Below.refl _ w2).alloc (Nat.le_refl _) _⟩
 focus
  intro vs w2 hBf hFf o ho K hK
  obtain rfl : (⟨some 40, _, _, _, _, _⟩ : Oper) = o := Option.some.inj ho
  clear ho
  (try simp only [fillL, zQ, zP] at hK ⊢)
  obtain ⟨g9, e9, hb9⟩ := (hFf (18, 39) (by simp) (by kernel_rfl))
  simp only [e9] at hK ⊢
  go_simp
  refine (when_any 6 [decide (0 ≤ O)] 1 rfl (by simp) g9 w2 (blB (l := [decide (0 ≤ O)]) hb9)).mono ?_
  rintro e w4 ⟨rfl, rfl⟩
  exact hK.out _ _ ⟨by rw [HWW40.out], Below.refl _ _⟩
 focus
  intro vs w2 hBf hFf o ho K hK
  obtain rfl : (⟨some 46, _, _, _, _, _⟩ : Oper) = o := Option.some.inj ho
  clear ho
  (try simp only [fillL, zQ, zP] at hK ⊢)
  go_simp
  refine hK.out _ _ ⟨⟨w2.heap.size, rfl, Blk.new w2 _ _⟩, (Below.refl _ w2).alloc (Nat.le_refl _) _⟩
 focus
  intro vs w2 hBf hFf o ho K hK
  obtain rfl : (⟨some 47, _, _, _, _, _⟩ : Oper) = o := Option.some.inj ho
  clear ho
  (try simp only [fillL, zQ, zP] at hK ⊢)
  obtain ⟨g9, e9, hb9⟩ := (hFf (25, 46) (by simp) (by kernel_rfl))
  simp only [e9] at hK ⊢
  go_simp
  refine (when_any 3 [decide ((16 : Int) ≤ (S.n_.l.length : Int))] 1 rfl (by simp) g9 w2 (blB (l := [decide ((16 : Int) ≤ (S.n_.l.length : Int))]) hb9)).mono ?_
  rintro e w4 ⟨rfl, rfl⟩
  exact hK.out _ _ ⟨by rw [HWW47.out], Below.refl _ _⟩
 focus
  intro vs w2 hBf hFf o ho K hK
  obtain rfl : (⟨some 50, _, _, _, _, _⟩ : Oper) = o := Option.some.inj ho
  clear ho
  (try simp only [fillL, zQ, zP] at hK ⊢)
  go_simp
  refine hK.out _ _ ⟨⟨w2.heap.size, rfl, Blk.new w2 _ _⟩, (Below.refl _ w2).alloc (Nat.le_refl _) _⟩
 focus
  intro vs w2 hBf hFf o ho K hK
  obtain rfl : (⟨some 51, _, _, _, _, _⟩ : Oper) = o := Option.some.inj ho
  clear ho
  (try simp only [fillL, zQ, zP] at hK ⊢)
  obtain ⟨g9, e9, hb9⟩ := (hFf (29, 50) (by simp) (by kernel_rfl))
  simp only [e9] at hK ⊢
  go_simp
  refine (when_any 15 [decide (1099511627776 ≤ GG)] 1 rfl (by simp) g9 w2 (blB (l := [decide (1099511627776 ≤ GG)]) hb9)).mono ?_
  rintro e w4 ⟨rfl, rfl⟩
  exact hK.out _ _ ⟨by rw [HWW51.out], Below.refl _ _⟩
 focus
  intro vs w2 hBf hFf o ho K hK
  obtain rfl : (⟨some 52, _, _, _, _, _⟩ : Oper) = o := Option.some.inj ho
  clear ho
  (try simp only [fillL, zQ, zP] at hK ⊢)
  have e22 := (hFf (1, 22) (by simp) (by kernel_rfl))
  simp only [] at e22
  simp only [e22] at hK ⊢
  have e30 := (hFf (9, 30) (by simp) (by kernel_rfl))
  simp only [] at e30
  simp only [e30] at hK ⊢
  have e35 := (hFf (14, 35) (by simp) (by kernel_rfl))
  simp only [] at e35
  simp only [e35] at hK ⊢
  have e40 := (hFf (19, 40) (by simp) (by kernel_rfl))
  simp only [] at e40
  simp only [e40] at hK ⊢
  have e47 := (hFf (26, 47) (by simp) (by kernel_rfl))
  simp only [] at e47
  simp only [e47] at hK ⊢
  have e51 := (hFf (30, 51) (by simp) (by kernel_rfl))
  simp only [] at e51
  simp only [e51] at hK ⊢
  go_simp
  refine hK.out _ _ ⟨⟨w2.heap.size, rfl, Blk.new w2 _ _⟩, (Below.refl _ w2).alloc (Nat.le_refl _) _⟩
 focus
  intro vs w2 hBf hFf o ho K hK
  obtain rfl : (⟨some 53, _, _, _, _, _⟩ : Oper) = o := Option.some.inj ho
  clear ho
  (try simp only [fillL, zQ, zP] at hK ⊢)
  obtain ⟨g9, e9, hb9⟩ := (hFf (31, 52) (by simp) (by kernel_rfl))
  simp only [e9] at hK ⊢
  go_simp
  refine (cmpOrL_any [OK, W30, W35, W40, W47, W51] 6 rfl (by simp) g9 w2 (blI (l := [OK, W30, W35, W40, W47, W51]) hb9)).mono ?_
  rintro e w4 ⟨rfl, rfl⟩
  exact hK.out _ _ ⟨by rw [HOS.out], Below.refl _ _⟩
 intro vs w2 hBf hFf
 (try simp only [fillL, zQ, zP])
 have h9 := (hFf (32, 53) (by simp))
 simp only [] at h9
 simp only [h9]
 have hBw : Below w5.heap.size w5 w2 := (Below.refl w5.heap.size w5).drew.trans hBf
 refine zcZ (i := 33) (o := ⟨some 11, _, _, _, _, _⟩) (by kernel_rfl) rfl (by kernel_rfl) (fun K hK => ?_)
 go_simp
 refine hK.out _ _ ?_
 clear hK K
 try simp only [zP]
 refine zdQ (by kernel_rfl) ?_ _
 refine NoPanic.normal ?_
 obtain ⟨v8, hv8⟩ : ∃ v, v = w2 := ⟨_, rfl⟩
 subst hv8
 have K1 := K1.of hBw
 have K2 := K2.of hBw
 have kP := kP.of hBw
 have hV2w := hV25.trans (hBw.mono hs25)
 have hB0w := hB2.trans (hV2w.mono hs2)
 have hs2w := hV2w.size
 have hs0w := hB0w.size
 clear h9 hFf hBf t0 t1 t2 t3 t4 t5 t6 c0 c1 c2 c3 c4 c5 c6 c7 c8 c9 c10 c11 HCK HPT HNM HNG
 by_cases hz : E = 0
 · subst hz
   obtain ⟨hok, hip, hin, s0, hsa, hno, h16, hgl⟩ := snapE_ways HE.out
   obtain ⟨j, s, hIj, hj, hsp, hSs, hsa2⟩ : ∃ (j : Nat) (s : MSet), I = j ∧ x.y_.l[j]? = some s ∧ s.l_ = p ∧ s = S ∧ setAt x.plain p = some s.plain := by
    rcases zhX x p n with ⟨a, b, c, d, e⟩ | ⟨j, s, a, b, b2, c, d, d2, e, f, _⟩ | ⟨j, s, k, y, a, b, b2, c, d, d3, d4, d2, e, f, _⟩
    · rw [e] at hsa
      cases hsa
    · exact ⟨j, s, by rw [← HII.out, a], b, b2, by rw [← HSS.out, c], e⟩
    · exact ⟨j, s, by rw [← HII.out, a], b, b2, by rw [← HSS.out, c], e⟩
   subst hSs hIj
   rw [hsa2] at hsa
   injection hsa with hsa
   subst hsa
   have hg1 : guidP x.plain s.plain = GG := by rw [← guid_ok17 hok hj]; exact HGGE.out
   have hPg : snapG x.plain p = GG := by unfold snapG; rw [hsa2]; exact hg1
   rw [hg1] at hgl
   have hgn := guid_next x.plain s.plain
   rw [hg1] at hgn
   have hnx := (okT_parts.1 hok).1.2.2.1
   unfold amt at hnx
   simp only [Bool.and_eq_true, decide_eq_true_eq] at hnx
   have hG1 : 1 ≤ GG := by omega
   have hjl : j < x.y_.l.length := (List.getElem?_eq_some_iff.1 hj).1
   have h17 := (snaps_ok17 hok hj).2
   have hST : snapT x.plain p n = { x.plain with y_ := x.plain.y_.set j { s.plain with n_ := s.plain.n_ ++ [{ x_ := n, z_ := GG, u_ := [], p_ := s.plain.p_, j_ := s.plain.j_ }] }, v_ := GG + 1 } := by
    unfold snapT mapP
    rw [hPg]
    rw [← map_turn (f := fun y : PSet => { y with n_ := y.n_ ++ [{ x_ := n, z_ := GG, u_ := [], p_ := y.p_, j_ := y.j_ }] }) hok (j := j) (s := s.plain) (by show (x.y_.l.map MSet.plain)[j]? = _; rw [List.getElem?_map, hj]; rfl) hsp]
    rfl
   have hoT : okT (snapT x.plain p n) = true := snap_ok HE.out
   have hPP : snapshotP x.plain p n = if (settledP (snapT x.plain p n)).2 ≠ 0 then (noT, 0, (settledP (snapT x.plain p n)).2) else ((settledP (snapT x.plain p n)).1, GG, 0) := by
    unfold snapshotP
    rw [if_neg (fun h => h HE.out), hPg]
   have hSU : settleU (snapT x.plain p n) = settledP (snapT x.plain p n) := by
    unfold settleU
    rw [if_pos hoT, setl_ok hoT]
   rw [HPR.out] at hPP
   obtain ⟨P, hP⟩ : ∃ P, settledP (snapT x.plain p n) = P := ⟨_, rfl⟩
   rw [hP] at hSU hPP
   have HRP := zI hPP
   have HST := zI hST
   have HSU := zI hSU
   have HJ := zI hj
   have hw1 : IntKind.i64.wrap (GG + 1) = GG + 1 := IntWalk.i64_in _ (by omega)
   have HC := zI (copy_sep x v8 (HG.out.below hV2w))
   clear hok hip hin hsa2 hno h16 hg1 hPg hnx hST hoT hPP hSU hP hj hsp HE HOS
   obtain ⟨d0, d1, d2, d3, d4, d5, d6⟩ := K1.all7
   obtain ⟨df0, df1, df2, df3, df4, df5, df6⟩ := K1.fz7
   go_wp2_with fail
   refine HC.out.mono ?_
   rintro e w6 ⟨y, rfl, hoy, hpy, hsep, hV6⟩
   have hV26 := hV2w.trans (hV6.mono hs2w)
   have K3 := K1.of hV6
   have K4 := K2.of hV6
   have kP3 := kP.of hV6
   have hlk3 := K3.lt
   have hgy : y.Good w6 := MT_.Good.of_own HG.out hpy hoy
   have hyl : y.y_.l.map MSet.plain = x.y_.l.map MSet.plain := congrArg PT_.y_ hpy
   have hyn : y.y_.l.length = x.y_.l.length := map_len hyl
   have hjy : j < y.y_.l.length := by rw [hyn]; exact hjl
   obtain ⟨t, hjt⟩ : ∃ t, y.y_.l[j]? = some t := ⟨_, qZa hjy⟩
   have htp : t.plain = s.plain := by
    have h9 : (y.y_.l.map MSet.plain)[j]? = some t.plain := by rw [List.getElem?_map, hjt]; rfl
    rw [hyl, List.getElem?_map, HJ.out] at h9
    simp only [Option.map_some, Option.some.injEq] at h9
    exact h9.symm
   obtain ⟨b, off, hA, hbl, hcc⟩ := Rd.elem (n := 5) (fun _ => rfl) (by omega) hgy.w_.rd hjt
   have hoff : off = 0 ∧ v8.heap.size ≤ b := by
    have h9 := row_blk hoy.sets hA
    have h8 := h9.2.2
    injection h8 with _ h8
    exact ⟨h8, h9.1⟩
   obtain ⟨rfl, hbn⟩ := hoff
   have htl : t.n_.l.length ≤ 16 := by
    have h9 : t.plain.n_.length = s.plain.n_.length := by rw [htp]
    rw [show t.plain.n_ = t.n_.l.map Mna.plain from rfl, show s.plain.n_ = s.n_.l.map Mna.plain from rfl, List.length_map, List.length_map] at h9
    omega
   obtain ⟨e0, e1, e2, e3, e4, e5, e6⟩ := K3.all7
   obtain ⟨ef0, ef1, ef2, ef3, ef4, ef5, ef6⟩ := K3.fz7
   clear d0 d1 d2 d3 d4 d5 d6 df0 df1 df2 df3 df4 df5 df6
   have HHA := zI hA
   have HYN := zI hyn
   have HYL := zI hyl
   have HPY := zI hpy
   have HTP := zI htp
   have HJT := zI hjt
   clear hA hcc hyn hyl hpy htp hjt
   go_upto_region 7 with fail
   generalize hwE : World.setCell _ ⟨w.heap.size, 6, none⟩ _ = wE
   obtain ⟨KE, SE, ZE, BE⟩ := store7 K3 hwE
   have hlw : w.heap.size < v8.heap.size := K1.lt
   have hoE := hoy.store hlw SE
   have hgE : y.Good wE := MT_.Good.of_own hgy rfl hoE
   have hX6 : Below w.heap.size w w6 := hB2.trans (hV26.mono hs2)
   have hXE : Below w.heap.size w wE := BE _ _ hX6 (Nat.le_refl _)
   have hla : a1.heap.size < v8.heap.size := K2.lt
   have hlP8 : w3.heap.size < v8.heap.size := kP.lt
   have hne1 : a1.heap.size ≠ w.heap.size := by omega
   have hneP : w3.heap.size ≠ w.heap.size := by have := hlT; omega
   have K5 := K4.sameT (SE _ hne1)
   have kP5 := kP3.sameT (SE _ hneP)
   have hv8E : v8.heap.size ≤ wE.heap.size := by rw [ZE]; exact hV6.size
   obtain ⟨b', off', hA', hbE, hcc⟩ := Rd.elem (n := 5) (fun _ => rfl) (by omega) hgE.w_.rd HJT.out
   rw [HHA.out] at hA'
   injection hA' with hA'
   injection hA' with e1' e2'
   subst e1' e2'
   have m2 : wE.cell? ⟨b, j * 5 + 2, none⟩ = some (.slice t.p_.A t.p_.l.length t.p_.c) := by
    have := hcc 2 _ rfl
    rwa [Nat.zero_add] at this
   have m3 : wE.cell? ⟨b, j * 5 + 3, none⟩ = some (.slice t.n_.A t.n_.l.length t.n_.c) := by
    have := hcc 3 _ rfl
    rwa [Nat.zero_add] at this
   have m4 : wE.cell? ⟨b, j * 5 + 4, none⟩ = some (.slice t.j_.A t.j_.l.length t.j_.c) := by
    have := hcc 4 _ rfl
    rwa [Nat.zero_add] at this
   have hrow := hoE.sets
   unfold Sl.val at hrow
   rw [HHA.out] at hrow
   have mf := zcQ hrow (j * 5 + 3)
   have HOE := zI hoE
   have HGE := zI hgE
   have HGY := zI hgy
   have HSEP := zI hsep
   have HXE := zI hXE
   rw [HHA.out] at KE
   clear hcc hrow hoE hgE hgy hoy hsep hwE e0 e1 e2 e3 e4 e5 e6 ef0 ef1 ef2 ef3 ef4 ef5 ef6
   obtain ⟨e0, e1, e2, e3, e4, e5, e6⟩ := KE.all7
   obtain ⟨ef0, ef1, ef2, ef3, ef4, ef5, ef6⟩ := KE.fz7
   obtain ⟨c0, c1, c2, c3, c4, c5, c6, c7, c8, c9, c10, c11⟩ := kP5.all12
   go_upto_region 8 with fail
   obtain ⟨i0, hi, hz0, hz1, hz2⟩ := infoParts infoSn17
   refine wp_region_noPanic ?_
   refine zcX 20 (fun W => W.cell? ⟨b, j * 5 + 2, none⟩ = some (.slice t.p_.A t.p_.l.length t.p_.c) ∧ W.cell? ⟨b, j * 5 + 3, none⟩ = some (.slice t.n_.A t.n_.l.length t.n_.c) ∧ W.frozen? ⟨b, j * 5 + 3, none⟩ = false ∧ W.cell? ⟨b, j * 5 + 4, none⟩ = some (.slice t.j_.A t.j_.l.length t.j_.c)) (by kernel_rfl) ⟨m2, m3, mf, m4⟩ (fun hHeld => ?_)
   refine tkA 16 (i := 0) (oi := ⟨some 65, _, _, _, _, _⟩) rfl hHeld ?_
   try simp only [zP]
   refine tkA 16 (i := 1) (oi := ⟨some 66, _, _, _, _, _⟩) rfl hHeld ?_
   try simp only [zP]
   refine tkA 16 (i := 2) (oi := ⟨some 67, _, _, _, _, _⟩) rfl hHeld ?_
   try simp only [zP]
   refine tkA 16 (i := 3) (oi := ⟨some 68, _, _, _, _, _⟩) rfl hHeld ?_
   try simp only [zP]
   refine tkA 16 (i := 4) (oi := ⟨some 69, _, _, _, _, _⟩) rfl hHeld ?_
   try simp only [zP]
   refine tkA 16 (i := 5) (oi := ⟨some 70, _, _, _, _, _⟩) rfl hHeld ?_
   try simp only [zP]
   refine tkA 16 (i := 6) (oi := ⟨some 71, _, _, _, _, _⟩) rfl hHeld ?_
   try simp only [zP]
   refine tkA 16 (i := 7) (oi := ⟨some 72, _, _, _, _, _⟩) rfl hHeld ?_
   try simp only [zP]
   refine tkA 16 (i := 8) (oi := ⟨some 73, _, _, _, _, _⟩) rfl hHeld ?_
   try simp only [zP]
   refine tkA 16 (i := 9) (oi := ⟨some 74, _, _, _, _, _⟩) rfl hHeld ?_
   try simp only [zP]
   refine tkA 16 (i := 10) (oi := ⟨some 75, _, _, _, _, _⟩) rfl hHeld ?_
   try simp only [zP]
   refine tkA 16 (i := 11) (oi := ⟨some 76, _, _, _, _, _⟩) rfl hHeld ?_
   try simp only [zP]
   refine tkA 16 (i := 12) (oi := ⟨some 77, _, _, _, _, _⟩) rfl hHeld ?_
   try simp only [zP]
   refine tkA 16 (i := 13) (oi := ⟨some 78, _, _, _, _, _⟩) rfl hHeld ?_
   try simp only [zP]
   refine tkA 16 (i := 14) (oi := ⟨some 79, _, _, _, _, _⟩) rfl hHeld ?_
   try simp only [zP]
   refine tkA 16 (i := 15) (oi := ⟨some 80, _, _, _, _, _⟩) rfl hHeld ?_
   try simp only [zP]
   clear hHeld
   refine zdZ 16 1 4 [(16, 81)] (fun s v w => match s with
    | 81 => ∃ g, v = .slice (some ⟨g, 0, none⟩) 1 1 ∧ Blk w g 49 [.string n, .int .i64 GG, .slice t.p_.A t.p_.l.length t.p_.c, .slice none 0 0, .slice t.j_.A t.j_.l.length t.j_.c]
    | _ => True) (fun w w' => Below w.heap.size w w') (by kernel_rfl) (by kernel_rfl) bZh ⟨?_, trivial⟩ (fun w' hB => ⟨(hB.cell (p := ⟨b, j * 5 + 2, none⟩) hbE).trans m2, (hB.cell (p := ⟨b, j * 5 + 3, none⟩) hbE).trans m3, (hB.frozen (p := ⟨b, j * 5 + 3, none⟩) hbE).trans mf, (hB.cell (p := ⟨b, j * 5 + 4, none⟩) hbE).trans m4⟩) ⟨?_, trivial⟩ ?_
   focus
    intro v w w' h hB
    exact (by obtain ⟨g, e, hb⟩ := h; exact ⟨g, e, hb.below hB hb.lt⟩)
   focus
    intro vs w2 hBf hFf o ho K hK
    obtain rfl : (⟨some 81, _, _, _, _, _⟩ : Oper) = o := Option.some.inj ho
    clear ho
    (try simp only [fillL, zQ, zP] at hK ⊢)
    go_simp
    refine hK.out _ _ ⟨⟨w2.heap.size, rfl, Blk.new w2 _ _⟩, (Below.refl _ w2).alloc (Nat.le_refl _) _⟩
   intro vs w2 hBf hFf
   (try simp only [fillL, zQ, zP])
   obtain ⟨g81, e81, hb81⟩ := (hFf (16, 81) (by simp))
   simp only [e81]
   have hBw8 : Below wE.heap.size wE w2 := (Below.refl wE.heap.size wE).drew.trans hBf
   have HO2 := zI (HOE.out.below hBw8)
   have HSR := zI (HO2.out.eset t (mG HJT.out)).snaps
   have hszz : v8.heap.size ≤ w2.heap.size := Nat.le_trans hv8E hBw8.size
   have HBW := zI hBw8
   clear hBw8
   have hHeld : (fun W => W.cell? ⟨b, j * 5 + 2, none⟩ = some (.slice t.p_.A t.p_.l.length t.p_.c) ∧ W.cell? ⟨b, j * 5 + 3, none⟩ = some (.slice t.n_.A t.n_.l.length t.n_.c) ∧ W.frozen? ⟨b, j * 5 + 3, none⟩ = false ∧ W.cell? ⟨b, j * 5 + 4, none⟩ = some (.slice t.j_.A t.j_.l.length t.j_.c)) w2 := ⟨(hBf.cell (p := ⟨b, j * 5 + 2, none⟩) hbE).trans m2, (hBf.cell (p := ⟨b, j * 5 + 3, none⟩) hbE).trans m3, (hBf.frozen (p := ⟨b, j * 5 + 3, none⟩) hbE).trans mf, (hBf.cell (p := ⟨b, j * 5 + 4, none⟩) hbE).trans m4⟩
   refine zdX (i := 17) (o := ⟨some 82, _, _, _, _, _⟩) (by kernel_rfl) rfl (fun K hK => ?_)
   clear hHeld
   refine step_append_lies (o := ⟨some 82, _, _, _, _, _⟩) _ (by rfl) _ _ 50 (by rfl) v8.heap.size 49 i0 (.agg #[.string ByteArray.empty, .int .i64 0, .slice none 0 0, .slice none 0 0, .slice none 0 0]) 5 96 Tryz.underlying50 hi hz0 hz1 hz2 rfl (by omega) (.slice t.n_.A t.n_.l.length t.n_.c) t.n_.l.length (t.n_.l.flatMap Mna.cells) (by rfl) HSR.out ⟨g81, 0, none⟩ 1 1 [.string n, .int .i64 GG, .slice t.p_.A t.p_.l.length t.p_.c, .slice none 0 0, .slice t.j_.A t.j_.l.length t.j_.c] (by rfl) rfl (fun j u hu => by rw [add_plain, Nat.zero_add]; exact (hb81.cell j).trans hu) (by simp [Value.oneCell']) (by omega) (by unfold maxLen; omega) (by omega) hszz _ rfl ?_
   intro g6 c6 x6 ho6 hg6 _ _
   have hV6' : ∀ q, q < w2.heap.size → some q ≠ t.n_.val.ownBlock → x6.heap[q]? = w2.heap[q]? := fun q h1 h2 => hg6.block q h1 h2
   have hkp := sep_keeps HO2.out HJT.out hV6'
   have hrow2 := HO2.out.sets
   unfold Sl.val at hrow2
   rw [HHA.out] at hrow2
   have hrow6 := zbX hrow2 (by decide) hkp
   have hbq : b < w2.heap.size := Nat.lt_of_lt_of_le hbE HBW.out.size
   have hnb : x6.heap[b]? = w2.heap[b]? := hV6' b hbq (rows_ne hrow2 HSR.out (by decide) rfl)
   have m2' := (World.cell?_of_block (a := ⟨b, j * 5 + 2, none⟩) hnb).trans ((HBW.out.cell (p := ⟨b, j * 5 + 2, none⟩) hbE).trans m2)
   have m3' := (World.cell?_of_block (a := ⟨b, j * 5 + 3, none⟩) hnb).trans ((HBW.out.cell (p := ⟨b, j * 5 + 3, none⟩) hbE).trans m3)
   have m4' := (World.cell?_of_block (a := ⟨b, j * 5 + 4, none⟩) hnb).trans ((HBW.out.cell (p := ⟨b, j * 5 + 4, none⟩) hbE).trans m4)
   have mf' := zcQ hrow6 (j * 5 + 3)
   have HO6 := zI ho6
   have HV6 := zI hV6'
   have HKP := zI hkp
   have hB6 : Below v8.heap.size w2 x6 := (Below.refl v8.heap.size w2).grown hg6 hszz (fun j e => (HSR.out.lt j e).1)
   have HB6 := zI hB6
   clear ho6 hg6 hV6' hkp hrow2 hrow6 hnb hB6
   refine hK.out _ _ ⟨m2', m3', mf', m4'⟩ (fun hHeld => ?_)
   clear hK K
   try simp only [zP]
   refine tkA 16 (i := 18) (oi := ⟨some 83, _, _, _, _, _⟩) rfl hHeld ?_
   try simp only [zP]
   refine tkA 16 (i := 19) (oi := ⟨some 84, _, _, _, _, _⟩) rfl hHeld ?_
   try simp only [zP]
   refine zcZ (i := 20) (o := ⟨none, _, _, _, _, _⟩) (by kernel_rfl) rfl (by kernel_rfl) (fun K hK => ?_)
   go_simp
   go_wp2_with fail
   refine hK.out _ _ ?_
   clear hK K
   try simp only [zP]
   refine zdQ (by kernel_rfl) ?_ _
   refine NoPanic.normal ?_
   have HOT2 := HO2.out
   have hos6 : OwnSe v8.heap.size x6 (⟨t.l_, t.m_, t.p_, ⟨some ⟨g6, 0, none⟩, t.n_.l ++ [(⟨n, GG, t.p_, ⟨none, [], 0⟩, t.j_⟩ : Mna)], c6⟩, t.j_⟩ : MSet) := by
    have h9 := HO2.out.eset t (mG HJT.out)
    refine ⟨zbX h9.body (by decide) HKP.out, ?_, zbX h9.own (by decide) HKP.out, fun z hz => ?_⟩
    · show x6.ownsRow v8.heap.size 49 5 (.slice (some ⟨g6, 0, none⟩) (t.n_.l ++ [(⟨n, GG, t.p_, ⟨none, [], 0⟩, t.j_⟩ : Mna)]).length c6) (t.n_.l ++ [(⟨n, GG, t.p_, ⟨none, [], 0⟩, t.j_⟩ : Mna)]).length ((t.n_.l ++ [(⟨n, GG, t.p_, ⟨none, [], 0⟩, t.j_⟩ : Mna)]).flatMap Mna.cells)
      rw [List.length_append, List.length_singleton, List.flatMap_append, List.flatMap_cons, List.flatMap_nil, List.append_nil]
      exact HO6.out
    · rcases List.mem_append.1 hz with hz | hz
      · exact (h9.each z hz).keep HKP.out (by decide) (by decide) (by decide)
      · rw [List.mem_singleton] at hz
        subst hz
        exact ⟨zbX h9.body (by decide) HKP.out, ownNone _ _ _ _, zbX h9.own (by decide) HKP.out⟩
   obtain ⟨t', ht'⟩ : ∃ t' : MSet, (⟨t.l_, t.m_, t.p_, ⟨some ⟨g6, 0, none⟩, t.n_.l ++ [(⟨n, GG, t.p_, ⟨none, [], 0⟩, t.j_⟩ : Mna)], c6⟩, t.j_⟩ : MSet) = t' := ⟨_, rfl⟩
   have hcs : t'.cells = t.cells.set 3 (.slice (some ⟨g6, 0, none⟩) (t.n_.l.length + 1) c6) := by
    rw [← ht']
    simp [MSet.cells]
   have hpt : t'.plain = { s.plain with n_ := s.plain.n_ ++ [{ x_ := n, z_ := GG, u_ := [], p_ := s.plain.p_, j_ := s.plain.j_ }] } := by
    rw [← ht', ← HTP.out]
    simp [MSet.plain, Mna.plain]
   have hrow2 := HO2.out.sets
   unfold Sl.val at hrow2
   rw [HHA.out] at hrow2
   have hrow6 := zbX hrow2 (by decide) HKP.out
   have hkS := keeps_setIn hrow6 (j * 5 + 3) (.slice (some ⟨g6, 0, none⟩) (t.n_.l.length + 1) c6)
   have tG := HGE.out.w_.el t (mG HJT.out)
   have hos7 : OwnSe v8.heap.size (x6.setCell ⟨b, j * 5 + 3, none⟩ (.slice (some ⟨g6, 0, none⟩) (t.n_.l.length + 1) c6)) t' := ht' ▸ hos6.setIn hkS
   have hgs : t'.Good (x6.setCell ⟨b, j * 5 + 3, none⟩ (.slice (some ⟨g6, 0, none⟩) (t.n_.l.length + 1) c6)) := by
    subst ht'
    have gB := slGood_own (good' := goodBk) tG.K_ rfl hos7.body (fun q hq => tG.K_.el q hq)
    have gO := slGood_own (good' := goodPr) tG.G_ rfl hos7.own (fun q hq => tG.G_.el q hq)
    refine ⟨tG.C_, tG.gorigin_, gB, slGood_of hos7.snaps rfl (fun z hz => ?_) ?_, gO⟩
    · have hz2 := hos7.each z hz
      rcases List.mem_append.1 hz with hz | hz
      · exact Mna.Good.of_own (tG.f_.el z hz) rfl hz2
      · rw [List.mem_singleton] at hz
        subst hz
        exact ⟨hn, ⟨by show _ ≤ GG; omega, by show GG ≤ _; omega⟩, gB, slNone _ _ _ _, gO⟩
    · show (t.n_.l ++ [_]).length * 96 ≤ _
      rw [List.length_append, List.length_singleton]
      omega
   obtain ⟨hT7, hG7⟩ := HO2.out.turnSn (MT_.Good.stays17 HGE.out HO2.out) HSEP.out HHA.out HJT.out HV6.out hcs (ht' ▸ hos6) hgs
   have hne7 : w.heap.size ≠ b := by omega
   have hne8 : a1.heap.size ≠ b := by omega
   have KT7 := ((KE.of HBW.out).below HB6.out hlw).other hne7 (j * 5 + 3) (.slice (some ⟨g6, 0, none⟩) (t.n_.l.length + 1) c6)
   have KR7 := ((K5.of HBW.out).below HB6.out hla).other hne8 (j * 5 + 3) (.slice (some ⟨g6, 0, none⟩) (t.n_.l.length + 1) c6)
   have hX7 : Below w.heap.size w (x6.setCell ⟨b, j * 5 + 3, none⟩ (.slice (some ⟨g6, 0, none⟩) (t.n_.l.length + 1) c6)) := ((HXE.out.trans (HBW.out.mono HXE.out.size)).trans (HB6.out.mono (Nat.le_of_lt hlw))).setCell (p := ⟨b, j * 5 + 3, none⟩) (by show w.heap.size ≤ b; omega) _
   obtain ⟨x7, hx7⟩ : ∃ x7, x6.setCell ⟨b, j * 5 + 3, none⟩ (.slice (some ⟨g6, 0, none⟩) (t.n_.l.length + 1) c6) = x7 := ⟨_, rfl⟩
   rw [hx7] at hT7 hG7 KT7 KR7 hX7
   have HX7 := zI hx7
   have HT7 := zI hT7
   have HG7 := zI hG7
   have HPT := zI hpt
   have hb8 : v8.heap.size ≤ b := hbn
   clear hx7 hT7 hG7 hpt hos6 hos7 hgs hcs hrow2 hrow6 hkS tG ht' hi hz0 hz1 hz2 m2 m3 m4 mf e0 e1 e2 e3 e4 e5 e6 ef0 ef1 ef2 ef3 ef4 ef5 ef6 c0 c1 c2 c3 c4 c5
   obtain ⟨u0, u1, u2, u3, u4, u5, u6⟩ := KT7.all7
   obtain ⟨uf0, uf1, uf2, uf3, uf4, uf5, uf6⟩ := KT7.fz7
   rw [HX7.out]
   go_upto_region 10 with fail
   generalize hx8 : World.setCell _ ⟨w.heap.size, 2, none⟩ _ = x8
   obtain ⟨KT8, S8, Z8, B8⟩ := storeRow [(2, .int .i64 (GG + 1))] KT7 hx8
   simp only [List.foldl_cons, List.foldl_nil, List.set_cons_zero, List.set_cons_succ] at KT8
   have KR8 := KR7.sameT (S8 _ hne1)
   have hX8 : Below w.heap.size w x8 := B8 _ _ hX7 (Nat.le_refl _)
   have hT8 := HT7.out.store hlw S8
   have g7 := HG7.out.stays17 hT8
   have hG8 : ({ y with y_ := ⟨some ⟨b, 0, none⟩, y.y_.l.set j t', y.y_.c⟩, v_ := GG + 1 } : MT_).Good x8 := ⟨g7.L_, g7.gquota_, ⟨by show _ ≤ GG + 1; omega, by show GG + 1 ≤ _; omega⟩, g7.w_, g7.Q_, g7.B_, g7.glog_⟩
   have hpl : ({ y with y_ := ⟨some ⟨b, 0, none⟩, y.y_.l.set j t', y.y_.c⟩, v_ := GG + 1 } : MT_).plain = snapT x.plain p n := by
    rw [HST.out]
    show ({ y.plain with y_ := (y.y_.l.set j t').map MSet.plain, v_ := GG + 1 } : PT_) = _
    rw [List.map_set, HYL.out, HPY.out, HPT.out]
    rfl
   have h9 := settle_any _ x8 hG8
   rw [hpl, HSU.out] at h9
   simp only [MT_.cells, List.length_set] at h9
   have HS9 := zI h9
   have hs8 := hX8.size
   clear h9 hpl hG8 g7 hT8 hx8 u0 u1 u2 u3 u4 u5 u6 uf0 uf1 uf2 uf3 uf4 uf5 uf6
   obtain ⟨u0, u1, u2, u3, u4, u5, u6⟩ := KT8.all7
   obtain ⟨uf0, uf1, uf2, uf3, uf4, uf5, uf6⟩ := KT8.fz7
   go_wp2_with fail
   refine HS9.out.mono ?_
   rintro e x9 ⟨z, rfl, hoz, hgz, hpz, hV9⟩
   have KT9 := KT8.of hV9
   have KR9 := KR8.of hV9
   have hl8T := KT8.lt
   have hl8R := KR8.lt
   have hX9 := hX8.trans (hV9.mono hs8)
   have HGZ := zI hgz
   have HPZ := zI hpz
   have HOZ := zI hoz
   clear hgz hpz hoz u0 u1 u2 u3 u4 u5 u6 uf0 uf1 uf2 uf3 uf4 uf5 uf6
   obtain ⟨u0, u1, u2, u3, u4, u5, u6⟩ := KT9.all7
   obtain ⟨uf0, uf1, uf2, uf3, uf4, uf5, uf6⟩ := KT9.fz7
   go_upto_region 11 with fail
   generalize hx10 : World.setCell _ ⟨w.heap.size, 6, none⟩ _ = x10
   obtain ⟨KT10, S10, Z10, B10⟩ := store7 KT9 hx10
   have KR10 := KR9.sameT (S10 _ hne1)
   have hX10 : Below w.heap.size w x10 := B10 _ _ hX9 (Nat.le_refl _)
   have HOZ10 := zI (HOZ.out.store hl8T S10)
   clear hx10 u0 u1 u2 u3 u4 u5 u6 uf0 uf1 uf2 uf3 uf4 uf5 uf6
   by_cases hz2 : P.2 = 0
   · obtain rfl : R = (P.1, GG, 0) := by
      rw [HRP.out, if_neg (fun h => h hz2)]
     rw [hz2]
     clear hz2 HRP HPR
     obtain ⟨u0, u1, u2, u3, u4, u5, u6⟩ := KT10.all7
     obtain ⟨zr0, zr1, zr2, zr3, zr4, zr5, zr6⟩ := KR10.all7
     obtain ⟨zrf0, zrf1, zrf2, zrf3, zrf4, zrf5, zrf6⟩ := KR10.fz7
     go_wp2
     generalize hwE : World.setCell _ ⟨a1.heap.size, 6, none⟩ _ = wZ
     obtain ⟨KE9, SE9, ZE9, BE9⟩ := store7 KR10 hwE
     obtain ⟨ze0, ze1, ze2, ze3, ze4, ze5, ze6⟩ := KE9.all7
     refine bodyPost_ret (v := .tuple #[.agg #[.string z.x_, .int .i64 z.r_, .int .i64 z.v_, .slice z.y_.A z.y_.l.length z.y_.c, .slice z.g_.A z.g_.l.length z.g_.c, .slice z.t_.A z.t_.l.length z.t_.c, .slice z.h_.A z.h_.l.length z.h_.c], .int .i64 (GG), .int .i64 (0)]) (by simp [results, Tryz.results10, go_sem, ze0, ze1, ze2, ze3, ze4, ze5, ze6]) rfl ?_
     exact ⟨z, rfl, (HOZ10.out.store hl8R SE9).base hs8, MT_.Good.of_own HGZ.out rfl (HOZ10.out.store hl8R SE9), HPZ.out, BE9 _ _ hX10 hs1⟩
   · have hq2 : (P.2 == 0) = false := beq_eq_false_iff_ne.2 hz2
     obtain rfl : R = (noT, 0, P.2) := by
      rw [HRP.out, if_pos hz2]
     clear hz2 HRP HPR
     obtain ⟨zr0, zr1, zr2, zr3, zr4, zr5, zr6⟩ := KR10.all7
     obtain ⟨zrf0, zrf1, zrf2, zrf3, zrf4, zrf5, zrf6⟩ := KR10.fz7
     go_wp2
     generalize hwE : World.setCell _ ⟨a1.heap.size, 6, none⟩ _ = wZ
     obtain ⟨KE9, SE9, ZE9, BE9⟩ := store7 KR10 hwE
     obtain ⟨ze0, ze1, ze2, ze3, ze4, ze5, ze6⟩ := KE9.all7
     refine bodyPost_ret (v := .tuple #[.agg #[.string ⟨#[]⟩, .int .i64 0, .int .i64 0, .slice none 0 0, .slice none 0 0, .slice none 0 0, .slice none 0 0], .int .i64 (0), .int .i64 (P.2)]) (by simp [results, Tryz.results10, go_sem, ze0, ze1, ze2, ze3, ze4, ze5, ze6]) rfl ?_
     exact ansS_no (BE9 _ _ hX10 hs1)
 · have hq : (E == 0) = false := beq_eq_false_iff_ne.2 hz
   obtain rfl : R = (noT, 0, E) := by
    rw [← HPR.out]
    unfold snapshotP
    rw [HE.out, if_pos hz]
   clear hz HE HOS HPR
   obtain ⟨zr0, zr1, zr2, zr3, zr4, zr5, zr6⟩ := K2.all7
   obtain ⟨zrf0, zrf1, zrf2, zrf3, zrf4, zrf5, zrf6⟩ := K2.fz7
   go_wp2
   generalize hwE : World.setCell _ ⟨a1.heap.size, 6, none⟩ _ = wZ
   obtain ⟨KE9, SE9, ZE9, BE9⟩ := store7 K2 hwE
   obtain ⟨ze0, ze1, ze2, ze3, ze4, ze5, ze6⟩ := KE9.all7
   refine bodyPost_ret (v := .tuple #[.agg #[.string ⟨#[]⟩, .int .i64 0, .int .i64 0, .slice none 0 0, .slice none 0 0, .slice none 0 0, .slice none 0 0], .int .i64 (0), .int .i64 (E)]) (by simp [results, Tryz.results10, go_sem, ze0, ze1, ze2, ze3, ze4, ze5, ze6]) rfl ?_
   exact ansS_no (BE9 _ _ hB0w hs1)
theorem Oth.more {C : Nat} {Z W W' : World} (h : Oth C Z W) (hB : Below Z.heap.size W W') : Oth C Z W' := ⟨hB.os.trans h.os, hB.tape.trans h.tape, hB.output.trans h.output, Nat.le_trans h.size hB.size, fun k hk hc => (hB.block k hk).trans (h.block k hk hc)⟩
theorem Oth.keeps {C : Nat} {Z W : World} (h : Oth C Z W) {cs : List Value} (hb : Blk Z C 27 cs) : Keeps 27 Z W := fun b cur e' hbb hne => h.block b (Array.getElem?_eq_some_iff.1 hbb).1 (by
 rintro rfl
 unfold Blk at hb
 rw [hbb] at hb
 injection hb with hb
 injection hb with _ h6 _
 exact hne h6)
def AnsG (w : World) (P : PT_ × Int) (e : Ending) (w' : World) : Prop := ∃ y : MT_, e = .returned (.tuple #[.agg y.cells.toArray, .int .i64 P.2]) ∧ y.Good w' ∧ y.plain = P.1 ∧ Below w.heap.size w w'
theorem AnsT.ansG {w w' : World} {P : PT_ × Int} {e : Ending} (h : AnsT w P e w') : AnsG w P e w' := by
 obtain ⟨y, a, _, b, c, d⟩ := h
 exact ⟨y, a, b, c, d⟩
theorem ansG_no {w w' : World} {E : Int} (h : Below w.heap.size w w') : AnsG w (noT, E) (.returned (.tuple #[.agg noM.cells.toArray, .int .i64 E])) w' := ⟨noM, rfl, noM_good _, rfl, h⟩
def nT : ByteArray := ⟨#[116]⟩
def nA : ByteArray := ⟨#[97]⟩
def setN0 : MSet := ⟨ByteArray.empty, ByteArray.empty, ⟨none, [], 0⟩, ⟨none, [], 0⟩, ⟨none, [], 0⟩⟩
def tenN (g : Nat) : MT_ := ⟨nT, 9, 1, ⟨some ⟨g, 0, none⟩, [setN0], 1⟩, ⟨none, [], 0⟩, ⟨none, [], 0⟩, ⟨none, [], 0⟩⟩
theorem tenN_good {g : Nat} {W : World} (k : Blk W g 52 setN0.cells) : (tenN g).Good W := by
 refine ⟨(by show nT.size ≤ 140737488351232; decide), (by show (-9223372036854775808 : Int) ≤ 9 ∧ (9 : Int) ≤ 9223372036854775807; decide), (by show (-9223372036854775808 : Int) ≤ 1 ∧ (1 : Int) ≤ 9223372036854775807; decide), ⟨?_, ?_, by simp [tenN], (fun h => by cases h), by simp [tenN]⟩, slNone _ _ _ _, slNone _ _ _ _, slNone _ _ _ _⟩
 · intro _
   refine ⟨g, 0, rfl, k.lt, fun j u hu => ?_⟩
   rw [Nat.zero_add, k.cell j]
   simpa [tenN] using hu
 · intro y hy
   simp [tenN] at hy
   subst hy
   exact ⟨by decide, by decide, slNone _ _ _ _, slNone _ _ _ _, slNone _ _ _ _⟩
theorem tenN_ok (g : Nat) : okT (tenN g).plain = true := by
 unfold okT
 rw [Bool.and_eq_true, Bool.and_eq_true, Bool.and_eq_true, Bool.and_eq_true, Bool.and_eq_true, Bool.and_eq_true, Bool.and_eq_true, Bool.and_eq_true, Bool.and_eq_true, Bool.and_eq_true]
 refine ⟨(by show zaQ (bs nT) = true; decide), (by show amt 0 9 = true; decide), (by show amt 1 1 = true; decide), rfl, ?_, (by show okG [] = true; decide), rfl, rfl, ?_, (by show goodL zeZ ltInto [] = true; rfl), rfl⟩
 · simp [hasSet, setAt, tenN, MT_.plain, setN0, MSet.plain]
 · simp [goodL, riseB, tenN, MT_.plain, setN0, MSet.plain, setB, upB, (upP_none (p := ByteArray.empty) (by decide)).2 rfl, origB, snapsB, noTwo]
   decide
theorem tenN_sets (g : Nat) : (tenN g).plain.y_ = [⟨ByteArray.empty, ByteArray.empty, [], [], []⟩] := rfl
set_option maxHeartbeats 1000000 in
theorem newN (w : World) :
 Calls Tryz.prog 67 #[.string ⟨#[116]⟩, .int .i64 9] w fun e w' => ∃ g, e = .returned (.tuple #[.agg #[.string ⟨#[116]⟩, .int .i64 9, .int .i64 1, .slice (some ⟨g, 0, none⟩) 1 1, .slice none 0 0, .slice none 0 0, .slice none 0 0], .int .i64 0]) ∧ Blk w' g 52 [.string ByteArray.empty, .string ByteArray.empty, .slice none 0 0, .slice none 0 0, .slice none 0 0] ∧ Below w.heap.size w w' := by
 have HN : Hid (∀ W, Calls Tryz.prog 66 #[.string nT] W fun e w' => e = .returned (.bool true) ∧ W = w') := zI fun W => by
  have := refName_any nT (by decide) W
  rwa [show zaQ (bs nT) = true by decide] at this
 have HA : Hid (∀ W, Calls Tryz.prog 68 #[.int .i64 9, .int .i64 0] W fun e w' => e = .returned (.bool true) ∧ Below W.heap.size W w') := zI fun W => by
  have := amountB 0 9 W
  rwa [show amt 0 9 = true by decide] at this
 obtain ⟨a1, hw1⟩ : ∃ a1, w.alloc (.cells #[.string ⟨#[]⟩, .int .i64 0, .int .i64 0, .slice none 0 0, .slice none 0 0, .slice none 0 0, .slice none 0 0] 27) = a1 := ⟨_, rfl⟩
 have hB1 : Below w.heap.size w a1 := hw1 ▸ (Below.refl _ w).alloc (Nat.le_refl _) _
 have k1 : Blk a1 w.heap.size 27 [.string ⟨#[]⟩, .int .i64 0, .int .i64 0, .slice none 0 0, .slice none 0 0, .slice none 0 0, .slice none 0 0] := hw1 ▸ Blk.new w _ _
 have hs1 := hB1.size
 have HW1 := zI hw1
 have e1 : (⟨#[116]⟩ : ByteArray) = nT := rfl
 rw [e1]
 clear hw1 e1
 generalize nT = t at *
 go_enter Tryz.func67, Tryz.ntmps67
 go_upto_region 1 with fail
 rw [HW1.out]
 go_wp2_with fail
 refine (HN.out _).mono ?_
 rintro e w3 ⟨rfl, hw3⟩
 subst hw3
 have hV := Below.refl a1.heap.size a1
 go_wp2_with fail
 refine (HA.out _).mono ?_
 rintro e w4 ⟨rfl, hV2⟩
 have hV3 := hV.trans (hV2.mono hV.size)
 have K2 := k1.of hV3
 have hX := hB1.trans (hV3.mono hs1)
 have hlt := K2.lt
 have hs4 := hX.size
 obtain ⟨zr0, zr1, zr2, zr3, zr4, zr5, zr6⟩ := K2.all7
 obtain ⟨zrf0, zrf1, zrf2, zrf3, zrf4, zrf5, zrf6⟩ := K2.fz7
 go_wp2
 generalize hwE : World.setCell _ ⟨w.heap.size, 6, none⟩ _ = wE
 obtain ⟨KE, SE, ZE, BE⟩ := store7 K2 hwE
 have KS : Blk (wE.alloc (.cells #[.string ⟨#[]⟩, .string ⟨#[]⟩, .slice none 0 0, .slice none 0 0, .slice none 0 0] 52)) wE.heap.size 52 [.string ⟨#[]⟩, .string ⟨#[]⟩, .slice none 0 0, .slice none 0 0, .slice none 0 0] := Blk.new wE _ _
 rw [ZE] at KS
 have K6 := KE.alloc (.cells #[.string ⟨#[]⟩, .string ⟨#[]⟩, .slice none 0 0, .slice none 0 0, .slice none 0 0] 52)
 have hX5 := (BE _ _ hX (Nat.le_refl _)).alloc (by rw [ZE]; exact hs4) (.cells #[.string ⟨#[]⟩, .string ⟨#[]⟩, .slice none 0 0, .slice none 0 0, .slice none 0 0] 52)
 obtain ⟨ze0, ze1, ze2, ze3, ze4, ze5, ze6⟩ := K6.all7
 refine bodyPost_ret (v := .tuple #[.agg #[.string t, .int .i64 9, .int .i64 1, .slice (some ⟨w4.heap.size, 0, none⟩) 1 1, .slice none 0 0, .slice none 0 0, .slice none 0 0], .int .i64 0]) (by simp [results, Tryz.results67, go_sem, ze0, ze1, ze2, ze3, ze4, ze5, ze6]) rfl ?_
 exact ⟨w4.heap.size, rfl, KS, hX5⟩
theorem tenN_at (g : Nat) : setAt (tenN g).plain ByteArray.empty = some ⟨ByteArray.empty, ByteArray.empty, [], [], []⟩ := by
 unfold setAt
 rw [tenN_sets]
 simp
theorem tenN_snap (g : Nat) : snapshotP (tenN g).plain ByteArray.empty nA = ({ (tenN g).plain with y_ := [⟨ByteArray.empty, ByteArray.empty, [], [⟨nA, 1, [], [], []⟩], []⟩], v_ := 2 }, 1, 0) := by
 have hf : zfX (tenN g).plain ByteArray.empty nA true false = 0 := by
  unfold zfX
  rw [tenN_ok, tenN_at, show zeX (bs ByteArray.empty) = true by decide, show zaQ (bs nA) = true by decide]
  simp
 have hg : snapG (tenN g).plain ByteArray.empty = 1 := by
  unfold snapG
  rw [tenN_at]
  rfl
 have hE : snapE (tenN g).plain ByteArray.empty nA = 0 := by
  unfold snapE
  rw [if_neg (fun h => h hf), tenN_at]
  dsimp only
  rw [if_neg (by unfold zeQ; simp), if_neg (by simp), if_neg (by show ¬ (1099511627776 : Int) ≤ 1; decide)]
 have hT : snapT (tenN g).plain ByteArray.empty nA = { (tenN g).plain with y_ := [⟨ByteArray.empty, ByteArray.empty, [], [⟨nA, 1, [], [], []⟩], []⟩], v_ := 2 } := by
  unfold snapT mapP
  rw [hg, tenN_sets]
  simp [addSn]
 have hS : settledP (snapT (tenN g).plain ByteArray.empty nA) = (snapT (tenN g).plain ByteArray.empty nA, 0) := by
  unfold settledP
  rw [if_pos]
  rw [hT]
  show ((2 : Nat) : Int) ≤ 9
  decide
 unfold snapshotP
 rw [if_neg (fun h => h hE), hS, if_neg (fun h => h rfl), hT, hg]
end Go.Proofs.YtimmcmjipmkebaaGreat
