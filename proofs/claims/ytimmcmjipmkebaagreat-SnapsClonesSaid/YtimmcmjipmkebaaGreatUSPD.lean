/-
  slices.Delete of one snapshot. Conditions: the row is one block's, from its beginning.
-/
import Derived.Test.YtimmcmjipmkebaaGreatUHCR
import Derived.Test.YtimmcmjipmkebaaGreatUHLB
import Derived.Deep.RegionLaw
import Derived.Lib.SliceRun
namespace Go.Proofs.YtimmcmjipmkebaaGreat
open Go.ChangeShapes Go.WideShapes Go.ChangeAt Go.RowKit
set_option maxRecDepth 100000
set_option linter.unusedSimpArgs false
def zeroSn : Value := .agg #[.string ByteArray.empty, .int .i64 0, .slice none 0 0, .slice none 0 0, .slice none 0 0]
def zeroSnC : List Value := [.string ByteArray.empty, .int .i64 0, .slice none 0 0, .slice none 0 0, .slice none 0 0]
theorem zeroSn_run (w : World) : (zeroValue 49).run Tryz.prog w = .ok zeroSn w := by kernel_rfl
theorem clear_one (w : World) (ty : TypeId) (b o c : Nat) (hc : ∀ j, j < 5 → (w.cell? ⟨b, o + j, none⟩).isSome = true) (hf : ∀ j, j < 5 → w.frozen? ⟨b, o + j, none⟩ = false) :
    (Builtin.clear_ #[50] ty #[.slice (some ⟨b, o, none⟩) 1 c]).run Tryz.prog w = .ok (.tuple #[]) (w.setCells b o zeroSnC) := by
  have hst := run_storeCells_cells (P := Tryz.prog) b o zeroSnC 0 w (by simpa [zeroSnC] using hc) (by simpa [zeroSnC] using hf) (by intro v hv; simp [zeroSnC] at hv; rcases hv with rfl | rfl | rfl <;> rfl)
  simp only [Nat.add_zero] at hst
  have hz : (Builtin.zeroCells zeroSn.cells 1).toList = zeroSnC := by
    simp [Builtin.zeroCells, zeroSn, Value.cells, zeroSnC]
    rfl
  have hz' : (Builtin.zeroCells (Value.agg #[.string ⟨#[]⟩, .int .i64 0, .slice none 0 0, .slice none 0 0, .slice none 0 0]).cells 1).toList = zeroSnC := hz
  simp only [Builtin.clear_]
  simp [run_underlying Tryz.underlying50, zeroSn_run, zeroSn, hz', hst]
def putIn (xs : List Value) : Nat → List Value → List Value
  | _, [] => xs
  | o, v :: r => putIn (xs.set o v) (o + 1) r
theorem putIn_mid : ∀ (vs pre ys post : List Value), ys.length = vs.length → putIn (pre ++ ys ++ post) pre.length vs = pre ++ vs ++ post
  | [], pre, ys, post, h => by
    have : ys = [] := List.eq_nil_of_length_eq_zero (by simpa using h)
    subst this
    rfl
  | v :: vs, pre, y :: ys, post, h => by
    have ih := putIn_mid vs (pre ++ [v]) ys post (by simpa using h)
    simp only [putIn]
    rw [List.append_assoc, List.set_append_right _ _ (Nat.le_refl _), Nat.sub_self, List.cons_append, List.set_cons_zero]
    rw [List.length_append, List.length_singleton] at ih
    rw [show pre ++ v :: (ys ++ post) = pre ++ [v] ++ ys ++ post by simp, ih]
    simp
theorem Blk.setIn {g : Nat} {t : TypeId} : ∀ (vs : List Value) (o : Nat) (xs : List Value) (w : World), Blk w g t xs → Blk (w.setCells g o vs) g t (putIn xs o vs)
  | [], _, _, _, h => h
  | v :: vs, o, _, _, h => Blk.setIn vs (o + 1) _ _ (h.set o v)
theorem setCells_far {g : Nat} : ∀ (vs : List Value) (o : Nat) (w : World) (b : Nat), b ≠ g → (w.setCells g o vs).heap[b]? = w.heap[b]?
  | [], _, _, _, _ => rfl
  | _ :: vs, o, _, b, h => (setCells_far vs (o + 1) _ b h).trans (heap_setCell_other _ ⟨g, o, none⟩ b _ h)
theorem setCells_size {g : Nat} : ∀ (vs : List Value) (o : Nat) (w : World), (w.setCells g o vs).heap.size = w.heap.size
  | [], _, _ => rfl
  | _ :: vs, o, _ => (setCells_size vs (o + 1) _).trans (by simp [World.setCell])
theorem setCells_below {g B : Nat} {w0 : World} (hB : B ≤ g) : ∀ (vs : List Value) (o : Nat) (w : World), Below B w0 w → Below B w0 (w.setCells g o vs)
  | [], _, _, h => h
  | v :: vs, o, _, h => setCells_below hB vs (o + 1) _ (h.setCell (p := ⟨g, o, none⟩) hB v)
set_option maxHeartbeats 2000000 in
theorem delete17_any (W : World) (g cap : Nat) (A B : List MSnap) (y : MSnap) (sp : List Value) (i j n : Nat) (hi : A.length = i) (hj : j = i + 1) (hn : n = i + 1 + B.length) (hl : n ≤ 16) (hcap : n ≤ cap) (hb : Blk W g 49 (A.flatMap MSnap.cells ++ (y.cells ++ (B.flatMap MSnap.cells ++ sp)))) :
    Calls Tryz.prog 51 #[.slice (some ⟨g, 0, none⟩) n cap, .int .i64 i, .int .i64 j] W fun e W' => e = .returned (.slice (some ⟨g, 0, none⟩) (n - 1) cap) ∧ (∀ b, b ≠ g → W'.heap[b]? = W.heap[b]?) ∧ W'.heap.size = W.heap.size ∧ Below g W W' ∧ Blk W' g 49 ((A ++ B).flatMap MSnap.cells ++ (zeroSnC ++ sp)) := by
  have hlA : (A.flatMap MSnap.cells).length = i * 5 := by rw [flat_len (n := 5) (fun _ => rfl), hi]
  have hlB : (B.flatMap MSnap.cells).length = B.length * 5 := flat_len (n := 5) (fun _ => rfl) B
  obtain ⟨news, hnews⟩ : ∃ news, news = B.flatMap MSnap.cells := ⟨_, rfl⟩
  obtain ⟨i0, hi0, hz0, hz1, hz2⟩ := infoParts infoSn17
  obtain ⟨Ad, hAd, hsrc⟩ : ∃ Ad : Addr, (if cap = j then some (⟨g, 0, none⟩ : Addr) else some ⟨g, j * 5, none⟩) = some Ad ∧ Hid (∀ t u, news[t]? = some u → W.drew.cell? (Ad.add t) = some u) := by
    by_cases h : cap = j
    · refine ⟨⟨g, 0, none⟩, by simp [h], Lib.hid fun t u hu => ?_⟩
      have h0 : news.length = 0 := by rw [hnews, hlB]; omega
      rw [List.length_eq_zero_iff.1 h0] at hu
      simp at hu
    · refine ⟨⟨g, j * 5, none⟩, by simp [h], Lib.hid fun t u hu => ?_⟩
      rw [add_plain]
      show W.cell? ⟨g, j * 5 + t, none⟩ = some u
      rw [hb.cell (j * 5 + t)]
      have htl := (List.getElem?_eq_some_iff.1 hu).1
      rw [hnews] at htl hu
      rw [hlB] at htl
      have hyl : y.cells.length = 5 := rfl
      rw [List.getElem?_append_right (by omega), hlA, List.getElem?_append_right (by omega), List.getElem?_append_left (by omega)]
      rw [show j * 5 + t - i * 5 - y.cells.length = t by omega]
      exact hu
  have s1 : Hid (news.length = (n - j) * 5) := Lib.hid (by rw [hnews, hlB]; congr 1; omega)
  have s2 : Hid (∀ u ∈ news, u.oneCell' = true) := Lib.hid fun u hu => by
    rw [hnews] at hu
    obtain ⟨z, _, hz⟩ := List.mem_flatMap.1 hu
    exact oneSn z u hz
  have s3 : Hid (∀ t, t < news.length → (W.drew.cell? ⟨g, 0 + i * 5 + t, none⟩).isSome = true ∧ W.drew.frozen? ⟨g, 0 + i * 5 + t, none⟩ = false) := Lib.hid fun t ht => by
    rw [Nat.zero_add]
    refine ⟨?_, hb.frozen _⟩
    show (W.cell? ⟨g, i * 5 + t, none⟩).isSome = true
    rw [hnews, hlB] at ht
    rw [hb.cell (i * 5 + t), qZa (by
      have hyl : y.cells.length = 5 := rfl
      rw [List.length_append, List.length_append, List.length_append, hlA, hlB]
      omega)]
    rfl
  obtain ⟨W1, hW1⟩ : ∃ W1, W1 = W.drew.setCells g (0 + i * 5) news := ⟨_, rfl⟩
  have hbd : Blk W.drew g 49 (A.flatMap MSnap.cells ++ (y.cells ++ (B.flatMap MSnap.cells ++ sp))) := hb
  obtain ⟨lst, hlst, hl5⟩ : ∃ lst : List Value, y.cells ++ B.flatMap MSnap.cells = (y.cells ++ B.flatMap MSnap.cells).take (B.length * 5) ++ lst ∧ lst.length = 5 := ⟨(y.cells ++ B.flatMap MSnap.cells).drop (B.length * 5), (List.take_append_drop _ _).symm, by rw [List.length_drop, List.length_append, hlB]; simp [MSnap.cells]⟩
  have hb1 : Blk W1 g 49 (A.flatMap MSnap.cells ++ B.flatMap MSnap.cells ++ (lst ++ sp)) := by
    have h9 := Blk.setIn news (0 + i * 5) _ _ hbd
    rw [← hW1, Nat.zero_add, ← List.append_assoc y.cells, hlst, ← hlA, List.append_assoc ((y.cells ++ B.flatMap MSnap.cells).take (B.length * 5)), ← List.append_assoc (A.flatMap MSnap.cells), hnews] at h9
    rwa [putIn_mid _ _ _ _ (by rw [List.length_take, List.length_append, hlB]; simp [MSnap.cells])] at h9
  have hlAB : (A.flatMap MSnap.cells ++ B.flatMap MSnap.cells).length = (i + (n - j)) * 5 := by rw [List.length_append, hlA, hlB]; omega
  have hcl : ∀ ty, (Builtin.clear_ #[50] ty #[.slice (some ⟨g, (i + (n - j)) * 5, none⟩) (n - (i + (n - j))) (cap - (i + (n - j)))]).run Tryz.prog W1 = .ok (.tuple #[]) (W1.setCells g ((i + (n - j)) * 5) zeroSnC) := fun ty => by
    rw [show n - (i + (n - j)) = 1 by omega]
    exact clear_one W1 ty g _ _ (fun q hq => by
      rw [hb1.cell, qZa (by
        rw [List.length_append, List.length_append, List.length_append, hlA, hlB, hl5]
        omega)]
      rfl) (fun q hq => hb1.frozen _)
  have HB1 := Lib.hid hb1
  have HW : Hid (W1 = W.drew.setCells g (0 + i * 5) news) := Lib.hid hW1
  have hic : i ≤ cap := by omega
  have hjc : j ≤ cap := by omega
  have hij : i ≤ j := by omega
  have hne : i ≠ j := by omega
  have hjn : j ≤ n := by omega
  have HL := Lib.hid hlAB
  have mixed : Tryz.prog.follows Departure.mixedOrders = true := by kernel_rfl
  have t22 := Tryz.underlying50
  have heq : ¬ i = j := hne
  have hlt : i < j := by omega
  have HN : Hid (n = i + (n - j) + 1) := Lib.hid (by omega)
  clear hW1 hb1 hb hbd hlst hnews hlA hlB hlAB hj hn hi
  go_enter Tryz.func51, Tryz.ntmps51
  go_wp2_with fail
  go_region_law_o (refine step_append_room rfl (.tmp 22) (.tmp 25) 50 rfl 49 i0 5 Tryz.underlying50 hi0 hz1 g 0 i cap (by simp [Act.eval, Act.put]) Ad (n - j) (cap - j) news (by simp [Act.eval, Act.put]) s1.out hsrc.out s2.out (by omega) s3.out ?_; rw [← HW.out])
  go_wp2
  go_ret
  have hb2 := Blk.setIn zeroSnC ((i + (n - j)) * 5) _ _ HB1.out
  rw [← HL.out, ← List.append_assoc _ lst sp, putIn_mid zeroSnC _ lst sp (by rw [hl5]; rfl), List.append_assoc, HL.out, ← List.flatMap_append] at hb2
  refine ⟨by rw [show n - 1 = i + (n - j) by have := HN.out; omega]; rfl, fun q hq => ?_, ?_, ?_, hb2⟩
  · rw [setCells_far _ _ _ q hq, HW.out, setCells_far _ _ _ q hq]
    rfl
  · rw [setCells_size, HW.out, setCells_size]
    rfl
  · refine setCells_below (Nat.le_refl _) _ _ _ ?_
    rw [HW.out]
    exact setCells_below (Nat.le_refl _) _ _ _ ((Below.refl g W).drew)
theorem eraseP_mid {α : Type} {p : α → Bool} : ∀ {A : List α} {y : α} {B : List α}, (∀ x ∈ A, p x = false) → p y = true → (A ++ y :: B).eraseP p = A ++ B
  | [], y, B, _, h => by simp [h]
  | a :: A, y, B, h, hy => by
    rw [List.cons_append, List.eraseP_cons_of_neg (by rw [h a (List.mem_cons_self ..)]; decide), eraseP_mid (fun x hx => h x (List.mem_cons_of_mem _ hx)) hy]
    rfl
set_option maxHeartbeats 2000000 in
theorem destroy17_any (x : MTenant) (p n : ByteArray) (hp : p.size ≤ 140737488351232) (w : World) (hx : x.Good w) :
    Calls Tryz.prog 12 #[.agg x.cells.toArray, .string p, .string n] w fun e w' => AnsT w (unsnapP x.plain p n) e w' := by
  obtain ⟨a1, hw1⟩ : ∃ a1, w.alloc (.cells #[.string x.name_, .int .i64 x.quota_, .int .i64 x.next_, .slice x.sets_.A x.sets_.l.length x.sets_.c, .slice x.grants_.A x.grants_.l.length x.grants_.c, .slice x.stages_.A x.stages_.l.length x.stages_.c, .slice x.log_.A x.log_.l.length x.log_.c] 27) = a1 := ⟨_, rfl⟩
  have b1 : Below w.heap.size w a1 := hw1 ▸ (Below.refl _ w).alloc (Nat.le_refl _) _
  have k1 : Blk a1 w.heap.size 27 [.string x.name_, .int .i64 x.quota_, .int .i64 x.next_, .slice x.sets_.A x.sets_.l.length x.sets_.c, .slice x.grants_.A x.grants_.l.length x.grants_.c, .slice x.stages_.A x.stages_.l.length x.stages_.c, .slice x.log_.A x.log_.l.length x.log_.c] := hw1 ▸ Blk.new w _ _
  obtain ⟨a2, hw2⟩ : ∃ a2, a1.alloc (.cells #[.string ⟨#[]⟩, .int .i64 0, .int .i64 0, .slice none 0 0, .slice none 0 0, .slice none 0 0, .slice none 0 0] 27) = a2 := ⟨_, rfl⟩
  have b2 : Below a1.heap.size a1 a2 := hw2 ▸ (Below.refl _ a1).alloc (Nat.le_refl _) _
  have k2 : Blk a2 a1.heap.size 27 [.string ⟨#[]⟩, .int .i64 0, .int .i64 0, .slice none 0 0, .slice none 0 0, .slice none 0 0, .slice none 0 0] := hw2 ▸ Blk.new a1 _ _
  have hX2 : w.heap.size + 1 = a1.heap.size := by rw [← hw1, World.size_alloc]
  have hB1 : Below w.heap.size w a1 := b1
  have hB2 : Below w.heap.size w a2 := hB1.trans (b2.mono hB1.size)
  have k1 := k1.of b2
  have hs2 := hB2.size
  have hs1 := hB1.size
  have ht1 : a1.heap.size ≤ a2.heap.size := b2.size
  have HW1 := Lib.hid hw1
  have HW2 := Lib.hid hw2
  clear hw1 b1 hw2 b2
  have hx2 := hx.below hB2
  have HXW := Lib.hid hx
  have HFD := Lib.hid (find17_any x p n a2 hx2)
  have HCK : Hid (∀ W, Below a2.heap.size a2 W → Calls Tryz.prog 42 #[.agg x.cells.toArray] W fun e w' => e = .returned (.int .i64 (okE x)) ∧ Below W.heap.size W w') := Lib.hid fun W hW => check_any14 x W (hx2.below hW)
  have HPT := Lib.hid (fun W => path_any p (Nat.le_trans hp (by decide)) W)
  have HNM := Lib.hid (fun W => name_any n W)
  have hlk1 := k1.lt
  have hlk2 := k2.lt
  have HG := Lib.hid hx2
  have hos := unsnapE_is x p n
  simp only [Int.natCast_pos] at hos
  obtain ⟨CL, hCL⟩ : ∃ CL, clonesX x p n = CL := ⟨_, rfl⟩
  have HCLN : Hid (∀ W, Below a2.heap.size a2 W → Calls Tryz.prog 50 #[.agg x.cells.toArray, .string p, .string n] W fun e w' => ∃ v, e = .returned v ∧ ownT w' W.heap.size v CL ∧ Below W.heap.size W w') := Lib.hid fun W hW => by
    have h9 := clonesX_any x p n W (hx2.below hW)
    rwa [hCL] at h9
  obtain ⟨I, hI⟩ : ∃ I, findM x p = I := ⟨_, rfl⟩
  obtain ⟨O, hO⟩ : ∃ O, atN x p n = O := ⟨_, rfl⟩
  obtain ⟨S, hS⟩ : ∃ S, atS x p = S := ⟨_, rfl⟩
  obtain ⟨Y, hY⟩ : ∃ Y, atY x p n = Y := ⟨_, rfl⟩
  obtain ⟨OK, hOK⟩ : ∃ OK, okE x = OK := ⟨_, rfl⟩
  obtain ⟨PB, hPB⟩ : ∃ PB, isPath (bs p) = PB := ⟨_, rfl⟩
  obtain ⟨NB, hNB⟩ : ∃ NB, isName (bs n) = NB := ⟨_, rfl⟩
  have HGS : Hid (S.Good a2) := Lib.hid (hS ▸ atS_good hx2)
  have hsl := HGS.out.gsnaps_.len
  rw [hO, hOK, hPB, hNB, hY, hCL] at hos
  rw [hI, hO, hS, hY] at HFD
  rw [hPB] at HPT
  rw [hNB] at HNM
  rw [hOK] at HCK
  have HII := Lib.hid hI
  have HOO := Lib.hid hO
  have HSS := Lib.hid hS
  have HYY := Lib.hid hY
  obtain ⟨R, hR⟩ : ∃ R, unsnapP x.plain p n = R := ⟨_, rfl⟩
  rw [hR]
  have HPR := Lib.hid hR
  obtain ⟨E, hE⟩ : ∃ E, unsnapE x.plain p n = E := ⟨_, rfl⟩
  rw [hE] at hos
  obtain ⟨W24, hW24⟩ : ∃ W, whenI 31 ([!PB, !NB].any id) = W := ⟨_, rfl⟩
  obtain ⟨W29, hW29⟩ : ∃ W, whenI 71 ([decide (O < 0)].any id) = W := ⟨_, rfl⟩
  obtain ⟨W37, hW37⟩ : ∃ W, whenI 44 ([decide (0 < CL.length)].any id) = W := ⟨_, rfl⟩
  obtain ⟨W44, hW44⟩ : ∃ W, whenI 43 ([decide (0 < Y.tags_.l.length)].any id) = W := ⟨_, rfl⟩
  rw [hW24, hW29, hW37, hW44] at hos
  have HWW24 := Lib.hid hW24
  have HWW29 := Lib.hid hW29
  have HWW37 := Lib.hid hW37
  have HWW44 := Lib.hid hW44
  clear hW24 hW29 hW37 hW44
  have HOS := Lib.hid hos
  have HE := Lib.hid hE
  clear hI hO hS hY hOK hPB hNB hos hE hx hx2 hR
  obtain ⟨q0, q1, q2, q3, q4, q5, q6⟩ := k1.all7
  go_enter Tryz.func12, Tryz.ntmps12
  go_upto_region 1 with fail
  rw [HW1.out, HW2.out]
  try rw [hX2]
  go_wp2_with fail
  refine HFD.out.mono ?_
  rintro e w3 ⟨rfl, hV⟩
  have K1 := k1.of hV
  have K2 := k2.of hV
  have hs3 := hV.size
  obtain ⟨w4, hw4⟩ : ∃ w4, w3.alloc (.cells #[.int .i64 I, .int .i64 O, .string S.path_, .string S.origin_, .slice S.body_.A S.body_.l.length S.body_.c, .slice S.snaps_.A S.snaps_.l.length S.snaps_.c, .slice S.own_.A S.own_.l.length S.own_.c, .string Y.name_, .int .i64 Y.guid_, .slice Y.body_.A Y.body_.l.length Y.body_.c, .slice Y.tags_.A Y.tags_.l.length Y.tags_.c, .slice Y.own_.A Y.own_.l.length Y.own_.c] 67) = w4 := ⟨_, rfl⟩
  have hV4 : Below w3.heap.size w3 w4 := hw4 ▸ (Below.refl _ w3).alloc (Nat.le_refl _) _
  have kP : Blk w4 w3.heap.size 67 [.int .i64 I, .int .i64 O, .string S.path_, .string S.origin_, .slice S.body_.A S.body_.l.length S.body_.c, .slice S.snaps_.A S.snaps_.l.length S.snaps_.c, .slice S.own_.A S.own_.l.length S.own_.c, .string Y.name_, .int .i64 Y.guid_, .slice Y.body_.A Y.body_.l.length Y.body_.c, .slice Y.tags_.A Y.tags_.l.length Y.tags_.c, .slice Y.own_.A Y.own_.l.length Y.own_.c] := hw4 ▸ Blk.new w3 _ _
  have K1 := K1.of hV4
  have K2 := K2.of hV4
  have hV25 := hV.trans (hV4.mono hs3)
  have hs25 := hV25.size
  have hlT := K1.lt
  have hlP := kP.lt
  have HW4 := Lib.hid hw4
  clear hw4 q0 q1 q2 q3 q4 q5 q6
  clear hCL
  go_upto_region 2 with fail
  rw [HW4.out]
  obtain ⟨t0, t1, t2, t3, t4, t5, t6⟩ := K1.all7
  obtain ⟨c0, c1, c2, c3, c4, c5, c6, c7, c8, c9, c10, c11⟩ := kP.all12
  refine wp_region_noPanic ?_
  refine wp_region_last 32 (fun W => W.cell? ⟨w.heap.size, 0, none⟩ = some (.string x.name_) ∧ W.cell? ⟨w.heap.size, 1, none⟩ = some (.int .i64 x.quota_) ∧ W.cell? ⟨w.heap.size, 2, none⟩ = some (.int .i64 x.next_) ∧ W.cell? ⟨w.heap.size, 3, none⟩ = some (.slice x.sets_.A x.sets_.l.length x.sets_.c) ∧ W.cell? ⟨w.heap.size, 4, none⟩ = some (.slice x.grants_.A x.grants_.l.length x.grants_.c) ∧ W.cell? ⟨w.heap.size, 5, none⟩ = some (.slice x.stages_.A x.stages_.l.length x.stages_.c) ∧ W.cell? ⟨w.heap.size, 6, none⟩ = some (.slice x.log_.A x.log_.l.length x.log_.c) ∧ W.cell? ⟨w3.heap.size, 0, none⟩ = some (.int .i64 I) ∧ W.cell? ⟨w3.heap.size, 1, none⟩ = some (.int .i64 O) ∧ W.cell? ⟨w3.heap.size, 2, none⟩ = some (.string S.path_) ∧ W.cell? ⟨w3.heap.size, 3, none⟩ = some (.string S.origin_) ∧ W.cell? ⟨w3.heap.size, 4, none⟩ = some (.slice S.body_.A S.body_.l.length S.body_.c) ∧ W.cell? ⟨w3.heap.size, 5, none⟩ = some (.slice S.snaps_.A S.snaps_.l.length S.snaps_.c) ∧ W.cell? ⟨w3.heap.size, 6, none⟩ = some (.slice S.own_.A S.own_.l.length S.own_.c) ∧ W.cell? ⟨w3.heap.size, 7, none⟩ = some (.string Y.name_) ∧ W.cell? ⟨w3.heap.size, 8, none⟩ = some (.int .i64 Y.guid_) ∧ W.cell? ⟨w3.heap.size, 9, none⟩ = some (.slice Y.body_.A Y.body_.l.length Y.body_.c) ∧ W.cell? ⟨w3.heap.size, 10, none⟩ = some (.slice Y.tags_.A Y.tags_.l.length Y.tags_.c) ∧ W.cell? ⟨w3.heap.size, 11, none⟩ = some (.slice Y.own_.A Y.own_.l.length Y.own_.c)) (by kernel_rfl) ⟨t0, t1, t2, t3, t4, t5, t6, c0, c1, c2, c3, c4, c5, c6, c7, c8, c9, c10, c11⟩ (fun hHeld => ?_)
  refine tkA 16 (i := 0) (oi := ⟨some 15, _, _, _, _, _⟩) rfl hHeld ?_
  try simp only [Act.put, pZa, pZb, pZc]
  refine tkA 16 (i := 2) (oi := ⟨some 17, _, _, _, _, _⟩) rfl hHeld ?_
  try simp only [Act.put, pZa, pZb, pZc]
  refine tkA 16 (i := 5) (oi := ⟨some 20, _, _, _, _, _⟩) rfl hHeld ?_
  try simp only [Act.put, pZa, pZb, pZc]
  refine tkA 16 (i := 10) (oi := ⟨some 25, _, _, _, _, _⟩) rfl hHeld ?_
  try simp only [Act.put, pZa, pZb, pZc]
  refine tkA 16 (i := 11) (oi := ⟨some 26, _, _, _, _, _⟩) rfl hHeld ?_
  try simp only [Act.put, pZa, pZb, pZc]
  refine tkA 16 (i := 12) (oi := ⟨some 27, _, _, _, _, _⟩) rfl hHeld ?_
  try simp only [Act.put, pZa, pZb, pZc]
  refine tkA 16 (i := 15) (oi := ⟨some 30, _, _, _, _, _⟩) rfl hHeld ?_
  try simp only [Act.put, pZa, pZb, pZc]
  refine tkA 16 (i := 16) (oi := ⟨some 31, _, _, _, _, _⟩) rfl hHeld ?_
  try simp only [Act.put, pZa, pZb, pZc]
  refine tkA 16 (i := 17) (oi := ⟨some 32, _, _, _, _, _⟩) rfl hHeld ?_
  try simp only [Act.put, pZa, pZb, pZc]
  refine tkA 16 (i := 23) (oi := ⟨some 38, _, _, _, _, _⟩) rfl hHeld ?_
  try simp only [Act.put, pZa, pZb, pZc]
  refine tkA 16 (i := 24) (oi := ⟨some 39, _, _, _, _, _⟩) rfl hHeld ?_
  try simp only [Act.put, pZa, pZb, pZc]
  refine tkA 16 (i := 25) (oi := ⟨some 40, _, _, _, _, _⟩) rfl hHeld ?_
  try simp only [Act.put, pZa, pZb, pZc]
  refine tkA 16 (i := 26) (oi := ⟨some 41, _, _, _, _, _⟩) rfl hHeld ?_
  try simp only [Act.put, pZa, pZb, pZc]
  refine tkA 16 (i := 27) (oi := ⟨some 42, _, _, _, _, _⟩) rfl hHeld ?_
  try simp only [Act.put, pZa, pZb, pZc]
  clear hHeld
  refine wpAnyL_facts 16 18 1 [(1, 16), (3, 18), (4, 19), (6, 21), (7, 22), (8, 23), (9, 24), (13, 28), (14, 29), (18, 33), (19, 34), (20, 35), (21, 36), (22, 37), (28, 43), (29, 44), (30, 45), (31, 46)] (fun s v w => match s with
    | 16 => v = .int .i64 OK
    | 18 => v = .bool PB
    | 19 => v = .bool (!PB)
    | 21 => v = .bool NB
    | 22 => v = .bool (!NB)
    | 23 => ∃ g, v = .slice (some ⟨g, 0, none⟩) 2 2 ∧ Blk w g 4 [.bool (!PB), .bool (!NB)]
    | 24 => v = .int .i64 W24
    | 28 => ∃ g, v = .slice (some ⟨g, 0, none⟩) 1 1 ∧ Blk w g 4 [.bool (decide (O < 0))]
    | 29 => v = .int .i64 W29
    | 33 => ∃ A c, v = .slice A CL.length c
    | 34 => v = .int .i64 (CL.length : Int)
    | 35 => v = .bool (decide (0 < CL.length))
    | 36 => ∃ g, v = .slice (some ⟨g, 0, none⟩) 1 1 ∧ Blk w g 4 [.bool (decide (0 < CL.length))]
    | 37 => v = .int .i64 W37
    | 43 => ∃ g, v = .slice (some ⟨g, 0, none⟩) 1 1 ∧ Blk w g 4 [.bool (decide (0 < Y.tags_.l.length))]
    | 44 => v = .int .i64 W44
    | 45 => ∃ g, v = .slice (some ⟨g, 0, none⟩) 5 5 ∧ Blk w g 28 [.int .i64 (OK), .int .i64 (W24), .int .i64 (W29), .int .i64 (W37), .int .i64 (W44)]
    | 46 => v = .int .i64 E
    | _ => True) (fun w w' => Below w.heap.size w w') (by kernel_rfl) (by kernel_rfl) bZh ⟨?_, ?_, ?_, ?_, ?_, ?_, ?_, ?_, ?_, ?_, ?_, ?_, ?_, ?_, ?_, ?_, ?_, ?_, trivial⟩ (fun w' hB => ⟨(hB.cell (p := ⟨w.heap.size, 0, none⟩) hlT).trans t0, (hB.cell (p := ⟨w.heap.size, 1, none⟩) hlT).trans t1, (hB.cell (p := ⟨w.heap.size, 2, none⟩) hlT).trans t2, (hB.cell (p := ⟨w.heap.size, 3, none⟩) hlT).trans t3, (hB.cell (p := ⟨w.heap.size, 4, none⟩) hlT).trans t4, (hB.cell (p := ⟨w.heap.size, 5, none⟩) hlT).trans t5, (hB.cell (p := ⟨w.heap.size, 6, none⟩) hlT).trans t6, (hB.cell (p := ⟨w3.heap.size, 0, none⟩) hlP).trans c0, (hB.cell (p := ⟨w3.heap.size, 1, none⟩) hlP).trans c1, (hB.cell (p := ⟨w3.heap.size, 2, none⟩) hlP).trans c2, (hB.cell (p := ⟨w3.heap.size, 3, none⟩) hlP).trans c3, (hB.cell (p := ⟨w3.heap.size, 4, none⟩) hlP).trans c4, (hB.cell (p := ⟨w3.heap.size, 5, none⟩) hlP).trans c5, (hB.cell (p := ⟨w3.heap.size, 6, none⟩) hlP).trans c6, (hB.cell (p := ⟨w3.heap.size, 7, none⟩) hlP).trans c7, (hB.cell (p := ⟨w3.heap.size, 8, none⟩) hlP).trans c8, (hB.cell (p := ⟨w3.heap.size, 9, none⟩) hlP).trans c9, (hB.cell (p := ⟨w3.heap.size, 10, none⟩) hlP).trans c10, (hB.cell (p := ⟨w3.heap.size, 11, none⟩) hlP).trans c11⟩) ⟨?_, ?_, ?_, ?_, ?_, ?_, ?_, ?_, ?_, ?_, ?_, ?_, ?_, ?_, ?_, ?_, ?_, ?_, trivial⟩ ?_
  focus
    intro v w w' h hB
    exact h
  focus
    intro v w w' h hB
    exact h
  focus
    intro v w w' h hB
    exact h
  focus
    intro v w w' h hB
    exact h
  focus
    intro v w w' h hB
    exact h
  focus
    intro v w w' h hB
    exact (by obtain ⟨g, e, hb⟩ := h; exact ⟨g, e, hb.below hB hb.lt⟩)
  focus
    intro v w w' h hB
    exact h
  focus
    intro v w w' h hB
    exact (by obtain ⟨g, e, hb⟩ := h; exact ⟨g, e, hb.below hB hb.lt⟩)
  focus
    intro v w w' h hB
    exact h
  focus
    intro v w w' h hB
    exact h
  focus
    intro v w w' h hB
    exact h
  focus
    intro v w w' h hB
    exact h
  focus
    intro v w w' h hB
    exact (by obtain ⟨g, e, hb⟩ := h; exact ⟨g, e, hb.below hB hb.lt⟩)
  focus
    intro v w w' h hB
    exact h
  focus
    intro v w w' h hB
    exact (by obtain ⟨g, e, hb⟩ := h; exact ⟨g, e, hb.below hB hb.lt⟩)
  focus
    intro v w w' h hB
    exact h
  focus
    intro v w w' h hB
    exact (by obtain ⟨g, e, hb⟩ := h; exact ⟨g, e, hb.below hB hb.lt⟩)
  focus
    intro v w w' h hB
    exact h
  focus
    intro vs w2 hBf hFf o ho K hK
    obtain rfl : (⟨some 16, _, _, _, _, _⟩ : Oper) = o := Option.some.inj ho
    clear ho
    (try simp only [fillL, pZd, pZe, Act.put, pZa, pZb, pZc] at hK ⊢)
    have WB : Below w4.heap.size w4 w2 := (Below.refl w4.heap.size w4).drew.trans hBf
    go_simp
    refine (HCK.out w2 (hV25.trans (WB.mono hs25))).mono ?_
    rintro e w4 ⟨rfl, hB4⟩
    exact hK.out _ _ ⟨rfl, hB4⟩
  focus
    intro vs w2 hBf hFf o ho K hK
    obtain rfl : (⟨some 18, _, _, _, _, _⟩ : Oper) = o := Option.some.inj ho
    clear ho
    (try simp only [fillL, pZd, pZe, Act.put, pZa, pZb, pZc] at hK ⊢)
    have WB : Below w4.heap.size w4 w2 := (Below.refl w4.heap.size w4).drew.trans hBf
    go_simp
    refine (HPT.out w2).mono ?_
    rintro e w4 ⟨rfl, hB4⟩
    exact hK.out _ _ ⟨rfl, hB4⟩
  focus
    intro vs w2 hBf hFf o ho K hK
    obtain rfl : (⟨some 19, _, _, _, _, _⟩ : Oper) = o := Option.some.inj ho
    clear ho
    (try simp only [fillL, pZd, pZe, Act.put, pZa, pZb, pZc] at hK ⊢)
    have e18 := (hFf (3, 18) (by simp) (by kernel_rfl))
    simp only [] at e18
    simp only [e18] at hK ⊢
    go_simp
    exact hK.out _ _ ⟨rfl, Below.refl _ _⟩
  focus
    intro vs w2 hBf hFf o ho K hK
    obtain rfl : (⟨some 21, _, _, _, _, _⟩ : Oper) = o := Option.some.inj ho
    clear ho
    (try simp only [fillL, pZd, pZe, Act.put, pZa, pZb, pZc] at hK ⊢)
    go_simp
    refine (HNM.out w2).mono ?_
    rintro e w4 ⟨rfl, rfl⟩
    exact hK.out _ _ ⟨rfl, Below.refl _ _⟩
  focus
    intro vs w2 hBf hFf o ho K hK
    obtain rfl : (⟨some 22, _, _, _, _, _⟩ : Oper) = o := Option.some.inj ho
    clear ho
    (try simp only [fillL, pZd, pZe, Act.put, pZa, pZb, pZc] at hK ⊢)
    have e21 := (hFf (6, 21) (by simp) (by kernel_rfl))
    simp only [] at e21
    simp only [e21] at hK ⊢
    go_simp
    exact hK.out _ _ ⟨rfl, Below.refl _ _⟩
  focus
    intro vs w2 hBf hFf o ho K hK
    obtain rfl : (⟨some 23, _, _, _, _, _⟩ : Oper) = o := Option.some.inj ho
    clear ho
    (try simp only [fillL, pZd, pZe, Act.put, pZa, pZb, pZc] at hK ⊢)
    have e19 := (hFf (4, 19) (by simp) (by kernel_rfl))
    simp only [] at e19
    simp only [e19] at hK ⊢
    have e22 := (hFf (7, 22) (by simp) (by kernel_rfl))
    simp only [] at e22
    simp only [e22] at hK ⊢
    go_simp
    refine hK.out _ _ ⟨⟨w2.heap.size, rfl, Blk.new w2 _ _⟩, (Below.refl _ w2).alloc (Nat.le_refl _) _⟩
  focus
    intro vs w2 hBf hFf o ho K hK
    obtain rfl : (⟨some 24, _, _, _, _, _⟩ : Oper) = o := Option.some.inj ho
    clear ho
    (try simp only [fillL, pZd, pZe, Act.put, pZa, pZb, pZc] at hK ⊢)
    obtain ⟨g9, e9, hb9⟩ := (hFf (8, 23) (by simp) (by kernel_rfl))
    simp only [e9] at hK ⊢
    go_simp
    refine (when_any 31 [!PB, !NB] 2 rfl (by simp) g9 w2 (blB (l := [!PB, !NB]) hb9)).mono ?_
    rintro e w4 ⟨rfl, rfl⟩
    exact hK.out _ _ ⟨by rw [HWW24.out], Below.refl _ _⟩
  focus
    intro vs w2 hBf hFf o ho K hK
    obtain rfl : (⟨some 28, _, _, _, _, _⟩ : Oper) = o := Option.some.inj ho
    clear ho
    (try simp only [fillL, pZd, pZe, Act.put, pZa, pZb, pZc] at hK ⊢)
    go_simp
    refine hK.out _ _ ⟨⟨w2.heap.size, rfl, Blk.new w2 _ _⟩, (Below.refl _ w2).alloc (Nat.le_refl _) _⟩
  focus
    intro vs w2 hBf hFf o ho K hK
    obtain rfl : (⟨some 29, _, _, _, _, _⟩ : Oper) = o := Option.some.inj ho
    clear ho
    (try simp only [fillL, pZd, pZe, Act.put, pZa, pZb, pZc] at hK ⊢)
    obtain ⟨g9, e9, hb9⟩ := (hFf (13, 28) (by simp) (by kernel_rfl))
    simp only [e9] at hK ⊢
    go_simp
    refine (when_any 71 [decide (O < 0)] 1 rfl (by simp) g9 w2 (blB (l := [decide (O < 0)]) hb9)).mono ?_
    rintro e w4 ⟨rfl, rfl⟩
    exact hK.out _ _ ⟨by rw [HWW29.out], Below.refl _ _⟩
  focus
    intro vs w2 hBf hFf o ho K hK
    obtain rfl : (⟨some 33, _, _, _, _, _⟩ : Oper) = o := Option.some.inj ho
    clear ho
    (try simp only [fillL, pZd, pZe, Act.put, pZa, pZb, pZc] at hK ⊢)
    have WB : Below w4.heap.size w4 w2 := (Below.refl w4.heap.size w4).drew.trans hBf
    go_simp
    refine (HCLN.out w2 (hV25.trans (WB.mono hs25))).mono ?_
    rintro e w4 ⟨v4, rfl, ho4, hB4⟩
    obtain ⟨A4, c4, rfl, _, _, _, _⟩ := ownAny ho4
    exact hK.out _ _ ⟨⟨A4, c4, rfl⟩, hB4⟩
  focus
    intro vs w2 hBf hFf o ho K hK
    obtain rfl : (⟨some 34, _, _, _, _, _⟩ : Oper) = o := Option.some.inj ho
    clear ho
    (try simp only [fillL, pZd, pZe, Act.put, pZa, pZb, pZc] at hK ⊢)
    obtain ⟨A9, c9, e9⟩ := (hFf (18, 33) (by simp) (by kernel_rfl))
    simp only [e9] at hK ⊢
    go_simp
    exact hK.out _ _ ⟨rfl, Below.refl _ _⟩
  focus
    intro vs w2 hBf hFf o ho K hK
    obtain rfl : (⟨some 35, _, _, _, _, _⟩ : Oper) = o := Option.some.inj ho
    clear ho
    (try simp only [fillL, pZd, pZe, Act.put, pZa, pZb, pZc] at hK ⊢)
    have e34 := (hFf (19, 34) (by simp) (by kernel_rfl))
    simp only [] at e34
    simp only [e34] at hK ⊢
    go_simp
    exact hK.out _ _ ⟨rfl, Below.refl _ _⟩
  focus
    intro vs w2 hBf hFf o ho K hK
    obtain rfl : (⟨some 36, _, _, _, _, _⟩ : Oper) = o := Option.some.inj ho
    clear ho
    (try simp only [fillL, pZd, pZe, Act.put, pZa, pZb, pZc] at hK ⊢)
    have e35 := (hFf (20, 35) (by simp) (by kernel_rfl))
    simp only [] at e35
    simp only [e35] at hK ⊢
    go_simp
    refine hK.out _ _ ⟨⟨w2.heap.size, rfl, Blk.new w2 _ _⟩, (Below.refl _ w2).alloc (Nat.le_refl _) _⟩
  focus
    intro vs w2 hBf hFf o ho K hK
    obtain rfl : (⟨some 37, _, _, _, _, _⟩ : Oper) = o := Option.some.inj ho
    clear ho
    (try simp only [fillL, pZd, pZe, Act.put, pZa, pZb, pZc] at hK ⊢)
    obtain ⟨g9, e9, hb9⟩ := (hFf (21, 36) (by simp) (by kernel_rfl))
    simp only [e9] at hK ⊢
    go_simp
    refine (when_any 44 [decide (0 < CL.length)] 1 rfl (by simp) g9 w2 (blB (l := [decide (0 < CL.length)]) hb9)).mono ?_
    rintro e w4 ⟨rfl, rfl⟩
    exact hK.out _ _ ⟨by rw [HWW37.out], Below.refl _ _⟩
  focus
    intro vs w2 hBf hFf o ho K hK
    obtain rfl : (⟨some 43, _, _, _, _, _⟩ : Oper) = o := Option.some.inj ho
    clear ho
    (try simp only [fillL, pZd, pZe, Act.put, pZa, pZb, pZc] at hK ⊢)
    go_simp
    refine hK.out _ _ ⟨⟨w2.heap.size, rfl, Blk.new w2 _ _⟩, (Below.refl _ w2).alloc (Nat.le_refl _) _⟩
  focus
    intro vs w2 hBf hFf o ho K hK
    obtain rfl : (⟨some 44, _, _, _, _, _⟩ : Oper) = o := Option.some.inj ho
    clear ho
    (try simp only [fillL, pZd, pZe, Act.put, pZa, pZb, pZc] at hK ⊢)
    obtain ⟨g9, e9, hb9⟩ := (hFf (28, 43) (by simp) (by kernel_rfl))
    simp only [e9] at hK ⊢
    go_simp
    refine (when_any 43 [decide (0 < Y.tags_.l.length)] 1 rfl (by simp) g9 w2 (blB (l := [decide (0 < Y.tags_.l.length)]) hb9)).mono ?_
    rintro e w4 ⟨rfl, rfl⟩
    exact hK.out _ _ ⟨by rw [HWW44.out], Below.refl _ _⟩
  focus
    intro vs w2 hBf hFf o ho K hK
    obtain rfl : (⟨some 45, _, _, _, _, _⟩ : Oper) = o := Option.some.inj ho
    clear ho
    (try simp only [fillL, pZd, pZe, Act.put, pZa, pZb, pZc] at hK ⊢)
    have e16 := (hFf (1, 16) (by simp) (by kernel_rfl))
    simp only [] at e16
    simp only [e16] at hK ⊢
    have e24 := (hFf (9, 24) (by simp) (by kernel_rfl))
    simp only [] at e24
    simp only [e24] at hK ⊢
    have e29 := (hFf (14, 29) (by simp) (by kernel_rfl))
    simp only [] at e29
    simp only [e29] at hK ⊢
    have e37 := (hFf (22, 37) (by simp) (by kernel_rfl))
    simp only [] at e37
    simp only [e37] at hK ⊢
    have e44 := (hFf (29, 44) (by simp) (by kernel_rfl))
    simp only [] at e44
    simp only [e44] at hK ⊢
    go_simp
    refine hK.out _ _ ⟨⟨w2.heap.size, rfl, Blk.new w2 _ _⟩, (Below.refl _ w2).alloc (Nat.le_refl _) _⟩
  focus
    intro vs w2 hBf hFf o ho K hK
    obtain rfl : (⟨some 46, _, _, _, _, _⟩ : Oper) = o := Option.some.inj ho
    clear ho
    (try simp only [fillL, pZd, pZe, Act.put, pZa, pZb, pZc] at hK ⊢)
    obtain ⟨g9, e9, hb9⟩ := (hFf (30, 45) (by simp) (by kernel_rfl))
    simp only [e9] at hK ⊢
    go_simp
    refine (cmpOrL_any [OK, W24, W29, W37, W44] 5 rfl (by simp) g9 w2 (blI (l := [OK, W24, W29, W37, W44]) hb9)).mono ?_
    rintro e w4 ⟨rfl, rfl⟩
    exact hK.out _ _ ⟨by rw [HOS.out], Below.refl _ _⟩
  intro vs w2 hBf hFf
  (try simp only [fillL, pZd, pZe, Act.put, pZa, pZb, pZc])
  have h9 := (hFf (31, 46) (by simp))
  simp only [] at h9
  simp only [h9]
  have hBw : Below w4.heap.size w4 w2 := (Below.refl w4.heap.size w4).drew.trans hBf
  refine wpAnyL_last (i := 32) (o := ⟨some 9, _, _, _, _, _⟩) (by kernel_rfl) rfl (by kernel_rfl) (fun K hK => ?_)
  go_simp
  refine hK.out _ _ ?_
  clear hK K
  try simp only [Act.put, pZa, pZb, pZc]
  refine wpAnyL_done (by kernel_rfl) ?_ _
  refine NoPanic.normal ?_
  obtain ⟨v8, hv8⟩ : ∃ v, v = w2 := ⟨_, rfl⟩
  subst hv8
  have K1 := K1.of hBw
  have K2 := K2.of hBw
  have kP := kP.of hBw
  have hV2w := hV25.trans (hBw.mono hs25)
  have hB0w := hB2.trans (hV2w.mono hs2)
  have hs2w := hV2w.size
  have hs0w := hB0w.size
  clear h9 hFf hBf t0 t1 t2 t3 t4 t5 t6 c0 c1 c2 c3 c4 c5 c6 c7 c8 c9 c10 c11 HCK HPT HNM
  by_cases hz : E = 0
  · subst hz
    have hf : foundE x.plain p n true true = 0 := by
      have h9 := HE.out
      unfold unsnapE at h9
      by_cases h8 : foundE x.plain p n true true = 0
      · exact h8
      · rw [if_pos h8] at h9
        exact absurd h9 h8
    obtain ⟨hok, hip, hin, _, j, s, k, y0, hIj, hj, hsp, hSs, hOk, hk, hyn0, hYs, hsa, hhs, hso, hsm, htk⟩ := found_zero hf
    rw [HII.out] at hIj
    rw [HSS.out] at hSs
    rw [HOO.out] at hOk
    rw [HYY.out] at hYs
    subst hIj hOk
    obtain rfl : s = S := hSs.symm
    obtain rfl : y0 = Y := hYs.symm
    have hjl : j < x.sets_.l.length := (List.getElem?_eq_some_iff.1 hj).1
    have hkl : k < s.snaps_.l.length := (List.getElem?_eq_some_iff.1 hk).1
    have h17 := (snaps_ok17 hok hj).2
    have hRP : R = (mapP x.plain (delSn p n) x.plain.next_, 0) := by
      rw [← HPR.out]
      unfold unsnapP
      rw [if_neg (fun h => h HE.out)]
    have hST : mapP x.plain (delSn p n) x.plain.next_ = { x.plain with sets_ := x.plain.sets_.set j { s.plain with snaps_ := s.plain.snaps_.eraseP fun z => decide (z.name_ = n) } } := by
      unfold mapP
      rw [← map_turn (f := fun z : PSet => { z with snaps_ := z.snaps_.eraseP fun q => decide (q.name_ = n) }) hok (j := j) (s := s.plain) (by show (x.sets_.l.map MSet.plain)[j]? = _; rw [List.getElem?_map, hj]; rfl) hsp]
      rfl
    have HST := Lib.hid hST
    have HRP := Lib.hid hRP
    have HJ := Lib.hid hj
    have HK := Lib.hid hk
    have HYQ := Lib.hid hyn0
    have HTK := Lib.hid htk
    have HC := Lib.hid (copy_sep x v8 (HG.out.below hV2w))
    clear hf hok hip hin hj hsp hSs hk hyn0 hYs hsa hhs hso hsm htk hRP hST HE HOS HPR
    obtain ⟨d0, d1, d2, d3, d4, d5, d6⟩ := K1.all7
    obtain ⟨df0, df1, df2, df3, df4, df5, df6⟩ := K1.fz7
    go_wp2_with fail
    refine HC.out.mono ?_
    rintro e w6 ⟨y, rfl, hoy, hpy, hsep, hV6⟩
    have hV26 := hV2w.trans (hV6.mono hs2w)
    have K3 := K1.of hV6
    have K4 := K2.of hV6
    have kP3 := kP.of hV6
    have hlk3 := K3.lt
    have hgy : y.Good w6 := MTenant.Good.of_own HG.out hpy hoy
    have hyl : y.sets_.l.map MSet.plain = x.sets_.l.map MSet.plain := congrArg PTenant.sets_ hpy
    have hyn : y.sets_.l.length = x.sets_.l.length := map_len hyl
    have hjy : j < y.sets_.l.length := by rw [hyn]; exact hjl
    obtain ⟨t, hjt⟩ : ∃ t, y.sets_.l[j]? = some t := ⟨_, qZa hjy⟩
    have htp : t.plain = s.plain := by
      have h9 : (y.sets_.l.map MSet.plain)[j]? = some t.plain := by rw [List.getElem?_map, hjt]; rfl
      rw [hyl, List.getElem?_map, HJ.out] at h9
      simp only [Option.map_some, Option.some.injEq] at h9
      exact h9.symm
    obtain ⟨b, off, hA, hbl, hcc⟩ := Rd.elem (n := 5) (fun _ => rfl) (by omega) hgy.gsets_.rd hjt
    have hoff : off = 0 ∧ v8.heap.size ≤ b := by
      have h9 := row_blk hoy.sets hA
      have h8 := h9.2.2
      injection h8 with _ h8
      exact ⟨h8, h9.1⟩
    obtain ⟨rfl, hbn⟩ := hoff
    have htl0 : t.snaps_.l.length = s.snaps_.l.length := by
      have h9 : t.plain.snaps_.length = s.plain.snaps_.length := by rw [htp]
      rwa [show t.plain.snaps_ = t.snaps_.l.map MSnap.plain from rfl, show s.plain.snaps_ = s.snaps_.l.map MSnap.plain from rfl, List.length_map, List.length_map] at h9
    have htl : t.snaps_.l.length ≤ 16 := by omega
    obtain ⟨e0, e1, e2, e3, e4, e5, e6⟩ := K3.all7
    obtain ⟨ef0, ef1, ef2, ef3, ef4, ef5, ef6⟩ := K3.fz7
    clear d0 d1 d2 d3 d4 d5 d6 df0 df1 df2 df3 df4 df5 df6
    have HHA := Lib.hid hA
    have HYN := Lib.hid hyn
    have HYL := Lib.hid hyl
    have HPY := Lib.hid hpy
    have HTP := Lib.hid htp
    have HJT := Lib.hid hjt
    clear hA hcc hyn hyl hpy htp hjt
    go_upto_region 6 with fail
    generalize hwE : World.setCell _ ⟨w.heap.size, 6, none⟩ _ = wE
    obtain ⟨KE, SE, ZE, BE⟩ := store7 K3 hwE
    have hlw : w.heap.size < v8.heap.size := K1.lt
    have hoE := hoy.store hlw SE
    have hgE : y.Good wE := MTenant.Good.of_own hgy rfl hoE
    have hX6 : Below w.heap.size w w6 := hB2.trans (hV26.mono hs2)
    have hXE : Below w.heap.size w wE := BE _ _ hX6 (Nat.le_refl _)
    have hla : a1.heap.size < v8.heap.size := K2.lt
    have hlP8 : w3.heap.size < v8.heap.size := kP.lt
    have hne1 : a1.heap.size ≠ w.heap.size := by omega
    have hneP : w3.heap.size ≠ w.heap.size := by have := hlT; omega
    have K5 := K4.sameT (SE _ hne1)
    have kP5 := kP3.sameT (SE _ hneP)
    have hv8E : v8.heap.size ≤ wE.heap.size := by rw [ZE]; exact hV6.size
    obtain ⟨b', off', hA', hbE, hcc⟩ := Rd.elem (n := 5) (fun _ => rfl) (by omega) hgE.gsets_.rd HJT.out
    rw [HHA.out] at hA'
    injection hA' with hA'
    injection hA' with e1' e2'
    subst e1' e2' 
    have m0 : wE.cell? ⟨b, j * 5, none⟩ = some (.string t.path_) := by
      have := hcc 0 _ rfl
      rwa [Nat.zero_add] at this
    have m1 : wE.cell? ⟨b, j * 5 + 1, none⟩ = some (.string t.origin_) := by
      have := hcc 1 _ rfl
      rwa [Nat.zero_add] at this
    have m2 : wE.cell? ⟨b, j * 5 + 2, none⟩ = some (.slice t.body_.A t.body_.l.length t.body_.c) := by
      have := hcc 2 _ rfl
      rwa [Nat.zero_add] at this
    have m3 : wE.cell? ⟨b, j * 5 + 3, none⟩ = some (.slice t.snaps_.A t.snaps_.l.length t.snaps_.c) := by
      have := hcc 3 _ rfl
      rwa [Nat.zero_add] at this
    have m4 : wE.cell? ⟨b, j * 5 + 4, none⟩ = some (.slice t.own_.A t.own_.l.length t.own_.c) := by
      have := hcc 4 _ rfl
      rwa [Nat.zero_add] at this
    have hrow := hoE.sets
    unfold Sl.val at hrow
    rw [HHA.out] at hrow
    have mf0 := own_frozen hrow (j * 5)
    have mf1 := own_frozen hrow (j * 5 + 1)
    have mf2 := own_frozen hrow (j * 5 + 2)
    have mf3 := own_frozen hrow (j * 5 + 3)
    have mf4 := own_frozen hrow (j * 5 + 4)
    have HROW := Lib.hid hrow
    have HOE := Lib.hid hoE
    have HGE := Lib.hid hgE
    have HGY := Lib.hid hgy
    have HSEP := Lib.hid hsep
    have HXE := Lib.hid hXE
    rw [HHA.out] at KE
    clear hcc hrow hoE hgE hgy hoy hsep hwE e0 e1 e2 e3 e4 e5 e6 ef0 ef1 ef2 ef3 ef4 ef5 ef6
    have hkt : k < t.snaps_.l.length := by omega
    obtain ⟨A, B, y1, hAB, hAl⟩ : ∃ (A B : List MSnap) (y1 : MSnap), t.snaps_.l = A ++ y1 :: B ∧ A.length = k := ⟨t.snaps_.l.take k, t.snaps_.l.drop (k + 1), t.snaps_.l[k], by rw [← List.drop_eq_getElem_cons hkt, List.take_append_drop], by rw [List.length_take]; omega⟩
    have hnl : t.snaps_.l.length = k + 1 + B.length := by rw [hAB, List.length_append, List.length_cons]; omega
    have hera : s.plain.snaps_.eraseP (fun z => decide (z.name_ = n)) = (A ++ B).map MSnap.plain := by
      have h1 : s.plain.snaps_ = A.map MSnap.plain ++ y1.plain :: B.map MSnap.plain := by
        rw [← HTP.out]
        show t.snaps_.l.map MSnap.plain = _
        rw [hAB, List.map_append, List.map_cons]
      have h2 : A.map MSnap.plain = (s.snaps_.l.take k).map MSnap.plain := by
        rw [List.map_take]
        show _ = s.plain.snaps_.take k
        rw [h1, List.take_left' (by rw [List.length_map]; exact hAl)]
      have h3 : y1.plain.name_ = n := by
        have h4 : s.plain.snaps_[k]? = some y1.plain := by
          rw [h1, List.getElem?_append_right (by rw [List.length_map]; omega), List.length_map, hAl, Nat.sub_self]
          rfl
        rw [show s.plain.snaps_ = s.snaps_.l.map MSnap.plain from rfl, List.getElem?_map, HK.out] at h4
        simp only [Option.map_some, Option.some.injEq] at h4
        rw [← h4]
        exact HYQ.out
      rw [h1, eraseP_mid (fun z hz => ?_) (by rw [decide_eq_true_eq]; exact h3), List.map_append]
      rw [h2] at hz
      obtain ⟨z2, hz2, rfl⟩ := List.mem_map.1 hz
      rw [decide_eq_false_iff_not]
      exact HTK.out z2 hz2
    obtain ⟨g0, cap, cur, hv0, hg0, hc0, hncap, hcapm, hcsz, htake⟩ : ∃ (g0 cap : Nat) (cur : Array Value), t.snaps_.val = .slice (some ⟨g0, 0, none⟩) t.snaps_.l.length cap ∧ v8.heap.size ≤ g0 ∧ wE.heap[g0]? = some (.cells cur 49 (0, 0)) ∧ t.snaps_.l.length ≤ cap ∧ cap ≤ maxLen ∧ cur.size = cap * 5 ∧ cur.toList.take (t.snaps_.l.length * 5) = t.snaps_.l.flatMap MSnap.cells := by
      obtain ⟨_, ⟨_, h0⟩ | ⟨gg, cap, cur, a1, a2, a3, a4, a5, a6, a7⟩⟩ := (HOE.out.eset t (List.mem_of_getElem? HJT.out)).snaps
      · omega
      · exact ⟨gg, cap, cur, a1, a2, a3, a4, a5, a6, a7⟩
    obtain ⟨sp, hsp0⟩ : ∃ sp, cur.toList.drop (t.snaps_.l.length * 5) = sp := ⟨_, rfl⟩
    have hspl : sp.length = cap * 5 - t.snaps_.l.length * 5 := by rw [← hsp0, List.length_drop, Array.length_toList, hcsz]
    have hblk : Blk wE g0 49 (A.flatMap MSnap.cells ++ (y1.cells ++ (B.flatMap MSnap.cells ++ sp))) := by
      unfold Blk
      rw [hc0]
      have h1 : cur.toList = A.flatMap MSnap.cells ++ (y1.cells ++ (B.flatMap MSnap.cells ++ sp)) := by
        rw [← List.take_append_drop (t.snaps_.l.length * 5) cur.toList, htake, hsp0, hAB]
        simp
      rw [← h1, Array.toArray_toList]
    have hv1 := hv0
    unfold Sl.val at hv1
    injection hv1 with hv1 _ hv2
    have HDL : Hid (∀ W, (∀ q, W.heap[q]? = wE.heap[q]?) → Calls Tryz.prog 51 #[.slice (some ⟨g0, 0, none⟩) t.snaps_.l.length cap, .int .i64 k, .int .i64 ((k : Int) + 1)] W fun e W' => e = .returned (.slice (some ⟨g0, 0, none⟩) (t.snaps_.l.length - 1) cap) ∧ (∀ b, b ≠ g0 → W'.heap[b]? = W.heap[b]?) ∧ W'.heap.size = W.heap.size ∧ Below g0 W W' ∧ Blk W' g0 49 ((A ++ B).flatMap MSnap.cells ++ (zeroSnC ++ sp))) := Lib.hid fun W hW => by
      have h9 := delete17_any W g0 cap A B y1 sp k (k + 1) t.snaps_.l.length hAl rfl hnl htl hncap ((hW g0).trans hblk)
      rwa [show ((k + 1 : Nat) : Int) = (k : Int) + 1 by omega] at h9
    have hwk : IntKind.i64.wrap ((k : Int) + 1) = (k : Int) + 1 := IntWalk.i64_in _ (by omega)
    rw [hv1, hv2] at m3
    have hlP5 := kP5.lt
    have HV1 := Lib.hid hv1
    have HV2 := Lib.hid hv2
    have HV0 := Lib.hid hv0
    have HAB := Lib.hid hAB
    have HERA := Lib.hid hera
    have hgb : g0 ≠ b := by
      intro e
      have h1 := rows_ne HROW.out (HOE.out.eset t (List.mem_of_getElem? HJT.out)).snaps (by decide) (b := b) rfl
      rw [hv0, e] at h1
      exact h1 rfl
    have HNL := Lib.hid hnl
    have HSPL := Lib.hid hspl
    have HCSZ := Lib.hid hcsz
    clear hv0 hv1 hv2 hc0 htake hsp0 hblk hera hAB hnl htl0 hspl hcsz hAl
    obtain ⟨c0, c1, c2, c3, c4, c5, c6, c7, c8, c9, c10, c11⟩ := kP5.all12
    obtain ⟨e0, e1, e2, e3, e4, e5, e6⟩ := KE.all7
    go_upto_region 7 with fail
    refine wp_region_noPanic ?_
    refine wp_region_last 13 (fun W => W.cell? ⟨b, j * 5 + 3, none⟩ = some (.slice (some ⟨g0, 0, none⟩) t.snaps_.l.length cap) ∧ W.frozen? ⟨b, j * 5 + 3, none⟩ = false ∧ W.cell? ⟨w3.heap.size, 1, none⟩ = some (.int .i64 k)) (by kernel_rfl) ⟨m3, mf3, c1⟩ (fun hHeld => ?_)
    refine tkA 12 (i := 0) (oi := ⟨some 58, _, _, _, _, _⟩) rfl hHeld ?_
    try simp only [Act.put, pZa, pZb, pZc]
    refine tkA 12 (i := 1) (oi := ⟨some 59, _, _, _, _, _⟩) rfl hHeld ?_
    try simp only [Act.put, pZa, pZb, pZc]
    refine tkA 12 (i := 2) (oi := ⟨some 60, _, _, _, _, _⟩) rfl hHeld ?_
    try simp only [Act.put, pZa, pZb, pZc]
    refine tkA 12 (i := 3) (oi := ⟨some 61, _, _, _, _, _⟩) rfl hHeld ?_
    try simp only [Act.put, pZa, pZb, pZc]
    refine tkA 12 (i := 4) (oi := ⟨some 62, _, _, _, _, _⟩) rfl hHeld ?_
    try simp only [Act.put, pZa, pZb, pZc]
    refine tkA 12 (i := 5) (oi := ⟨some 63, _, _, _, _, _⟩) rfl hHeld ?_
    try simp only [Act.put, pZa, pZb, pZc]
    refine tkA 12 (i := 6) (oi := ⟨some 64, _, _, _, _, _⟩) rfl hHeld ?_
    try simp only [Act.put, pZa, pZb, pZc]
    refine tkA 12 (i := 7) (oi := ⟨some 65, _, _, _, _, _⟩) rfl hHeld ?_
    try simp only [Act.put, pZa, pZb, pZc]
    refine tkA 12 (i := 8) (oi := ⟨some 66, _, _, _, _, _⟩) rfl hHeld ?_
    try simp only [Act.put, pZa, pZb, pZc]
    refine tkA 12 (i := 9) (oi := ⟨some 67, _, _, _, _, _⟩) rfl hHeld ?_
    try simp only [Act.put, pZa, pZb, pZc]
    refine wpAnyL_one (i := 10) (o := ⟨some 68, _, _, _, _, _⟩) (by kernel_rfl) rfl (fun K hK => ?_)
    clear hHeld
    go_simp
    refine (HDL.out wE.drew (fun _ => rfl)).mono ?_
    rintro e x6 ⟨rfl, hfar, hsz6, hB6, hblk6⟩
    have hne0 : w3.heap.size ≠ g0 := by omega
    have hfar2 : ∀ q, q ≠ g0 → x6.heap[q]? = wE.heap[q]? := fun q hq => hfar q hq
    have m3' := (World.cell?_of_block (a := ⟨b, j * 5 + 3, none⟩) (hfar b (fun e => hgb e.symm))).trans m3
    have mf3' := (World.frozen?_of_block (a := ⟨b, j * 5 + 3, none⟩) (hfar b (fun e => hgb e.symm))).trans mf3
    have c1' := (World.cell?_of_block (a := ⟨w3.heap.size, 1, none⟩) (hfar w3.heap.size hne0)).trans c1
    go_wp2_with fail
    refine hK.out _ _ ⟨m3', mf3', c1'⟩ (fun hHeld => ?_)
    clear hK K
    try simp only [Act.put, pZa, pZb, pZc]
    refine tkA 12 (i := 11) (oi := ⟨some 69, _, _, _, _, _⟩) rfl hHeld ?_
    try simp only [Act.put, pZa, pZb, pZc]
    refine tkA 12 (i := 12) (oi := ⟨some 70, _, _, _, _, _⟩) rfl hHeld ?_
    try simp only [Act.put, pZa, pZb, pZc]
    refine wpAnyL_last (i := 13) (o := ⟨none, _, _, _, _, _⟩) (by kernel_rfl) rfl (by kernel_rfl) (fun K hK => ?_)
    clear hHeld
    go_simp
    go_wp2_with fail
    refine hK.out _ _ ?_
    clear hK K
    try simp only [Act.put, pZa, pZb, pZc]
    refine wpAnyL_done (by kernel_rfl) ?_ _
    refine NoPanic.normal ?_
    have hABl : (A ++ B).length = t.snaps_.l.length - 1 := by rw [HAB.out]; simp
    have hV6' : ∀ q, q < wE.heap.size → some q ≠ t.snaps_.val.ownBlock → x6.heap[q]? = wE.heap[q]? := fun q _ h2 => hfar q (fun e => h2 (by rw [HV0.out, e]; rfl))
    have hkp := sep_keeps HOE.out HJT.out hV6'
    have hos6 : OwnSe v8.heap.size x6 (⟨t.path_, t.origin_, t.body_, ⟨some ⟨g0, 0, none⟩, A ++ B, cap⟩, t.own_⟩ : MSet) := by
      have h9 := HOE.out.eset t (List.mem_of_getElem? HJT.out)
      refine ⟨own_keeps h9.body (by decide) hkp, ?_, own_keeps h9.own (by decide) hkp, fun z hz => ?_⟩
      · refine ⟨flat_len (n := 5) (fun _ => rfl) (A ++ B), .inr ⟨g0, cap, _, rfl, hg0, hblk6, by rw [hABl]; omega, hcapm, ?_, ?_⟩⟩
        · have h1 := HSPL.out
          have h2 : ((A ++ B).flatMap MSnap.cells).length = (A ++ B).length * 5 := flat_len (n := 5) (fun _ => rfl) (A ++ B)
          have h3 : zeroSnC.length = 5 := rfl
          have h4 := HNL.out
          rw [List.size_toArray, List.length_append, List.length_append, h2, h1, h3, hABl]
          omega
        · have h2 : ((A ++ B).flatMap MSnap.cells).length = (A ++ B).length * 5 := flat_len (n := 5) (fun _ => rfl) (A ++ B)
          exact List.take_left' h2
      · refine (h9.each z ?_).keep hkp (by decide) (by decide) (by decide)
        rw [HAB.out]
        rcases List.mem_append.1 hz with h | h
        · exact List.mem_append_left _ h
        · exact List.mem_append_right _ (List.mem_cons_of_mem _ h)
    obtain ⟨t', ht'⟩ : ∃ t' : MSet, (⟨t.path_, t.origin_, t.body_, ⟨some ⟨g0, 0, none⟩, A ++ B, cap⟩, t.own_⟩ : MSet) = t' := ⟨_, rfl⟩
    have hcs : t'.cells = t.cells.set 3 (.slice (some ⟨g0, 0, none⟩) (t.snaps_.l.length - 1) cap) := by
      rw [← ht', ← hABl]
      rfl
    have hpt : t'.plain = { s.plain with snaps_ := s.plain.snaps_.eraseP fun z => decide (z.name_ = n) } := by
      rw [HERA.out, ← ht', ← HTP.out]
      rfl
    have hrow6 := own_keeps HROW.out (by decide) hkp
    have hkS := keeps_setIn hrow6 (j * 5 + 3) (.slice (some ⟨g0, 0, none⟩) (t.snaps_.l.length - 1) cap)
    have tG := HGE.out.gsets_.el t (List.mem_of_getElem? HJT.out)
    have hos7 : OwnSe v8.heap.size (x6.setCell ⟨b, j * 5 + 3, none⟩ (.slice (some ⟨g0, 0, none⟩) (t.snaps_.l.length - 1) cap)) t' := ht' ▸ hos6.setIn hkS
    have hgs : t'.Good (x6.setCell ⟨b, j * 5 + 3, none⟩ (.slice (some ⟨g0, 0, none⟩) (t.snaps_.l.length - 1) cap)) := by
      subst ht'
      refine ⟨tG.gpath_, tG.gorigin_, slGood_own tG.gbody_ rfl hos7.body (fun q hq => tG.gbody_.el q hq), slGood_of hos7.snaps rfl (fun z hz => ?_) (by show (A ++ B).length * 96 ≤ _; omega), slGood_own tG.gown_ rfl hos7.own (fun q hq => tG.gown_.el q hq)⟩
      refine MSnap.Good.of_own (tG.gsnaps_.el z ?_) rfl (hos7.each z hz)
      rw [HAB.out]
      rcases List.mem_append.1 hz with h | h
      · exact List.mem_append_left _ h
      · exact List.mem_append_right _ (List.mem_cons_of_mem _ h)
    obtain ⟨hT7, hG7⟩ := HOE.out.turnSn HGE.out HSEP.out HHA.out HJT.out hV6' hcs (ht' ▸ hos6) hgs
    have hne7 : w.heap.size ≠ b := by omega
    have hne8 : a1.heap.size ≠ b := by omega
    have KT7 := (KE.sameT (hfar _ (by omega))).other hne7 (j * 5 + 3) (.slice (some ⟨g0, 0, none⟩) (t.snaps_.l.length - 1) cap)
    have KR7 := (K5.sameT (hfar _ (by omega))).other hne8 (j * 5 + 3) (.slice (some ⟨g0, 0, none⟩) (t.snaps_.l.length - 1) cap)
    have hX7 : Below w.heap.size w (x6.setCell ⟨b, j * 5 + 3, none⟩ (.slice (some ⟨g0, 0, none⟩) (t.snaps_.l.length - 1) cap)) := (HXE.out.trans (((Below.refl g0 wE).drew.trans hB6).mono (by omega))).setCell (p := ⟨b, j * 5 + 3, none⟩) (by show w.heap.size ≤ b; omega) _
    obtain ⟨x7, hx7⟩ : ∃ x7, x6.setCell ⟨b, j * 5 + 3, none⟩ (.slice (some ⟨g0, 0, none⟩) (t.snaps_.l.length - 1) cap) = x7 := ⟨_, rfl⟩
    rw [hx7] at hT7 hG7 KT7 KR7 hX7
    have HX7 := Lib.hid hx7
    have HT7 := Lib.hid hT7
    have HG7 := Lib.hid hG7
    have hpl : ({ y with sets_ := ⟨some ⟨b, 0, none⟩, y.sets_.l.set j t', y.sets_.c⟩ } : MTenant).plain = mapP x.plain (delSn p n) x.plain.next_ := by
      rw [HST.out]
      show ({ y.plain with sets_ := (y.sets_.l.set j t').map MSet.plain } : PTenant) = _
      rw [List.map_set, HYL.out, HPY.out, hpt]
      rfl
    have HPL := Lib.hid hpl
    obtain rfl : R = (mapP x.plain (delSn p n) x.plain.next_, 0) := HRP.out
    clear hx7 hT7 hG7 hpt hos6 hos7 hgs hcs hrow6 hkS tG ht' hkp hV6' hfar hB6 hblk6 hpl HDL m0 m1 m2 m3 m4 mf0 mf1 mf2 mf3 mf4 e0 e1 e2 e3 e4 e5 e6 c0 c1 c2 c3 c4 c5 c6 c7 c8 c9 c10 c11
    obtain ⟨u0, u1, u2, u3, u4, u5, u6⟩ := KT7.all7
    rw [HX7.out]
    obtain ⟨zz0, zz1, zz2, zz3, zz4, zz5, zz6⟩ := KR7.all7
    obtain ⟨zzf0, zzf1, zzf2, zzf3, zzf4, zzf5, zzf6⟩ := KR7.fz7
    obtain ⟨zr0, zr1, zr2, zr3, zr4, zr5, zr6⟩ := KR7.all7
    obtain ⟨zrf0, zrf1, zrf2, zrf3, zrf4, zrf5, zrf6⟩ := KR7.fz7
    go_wp2
    generalize hwE9 : World.setCell _ ⟨a1.heap.size, 6, none⟩ _ = wZ
    obtain ⟨KE9, SE9, ZE9, BE9⟩ := store7 KR7 hwE9
    obtain ⟨ze0, ze1, ze2, ze3, ze4, ze5, ze6⟩ := KE9.all7
    refine bodyPost_ret (v := .tuple #[.agg #[.string y.name_, .int .i64 y.quota_, .int .i64 y.next_, .slice (some ⟨b, 0, none⟩) y.sets_.l.length y.sets_.c, .slice y.grants_.A y.grants_.l.length y.grants_.c, .slice y.stages_.A y.stages_.l.length y.stages_.c, .slice y.log_.A y.log_.l.length y.log_.c], .int .i64 (0)]) (by simp [results, Tryz.results12, go_sem, ze0, ze1, ze2, ze3, ze4, ze5, ze6]) rfl ?_
    have hlka : a1.heap.size < v8.heap.size := hla
    have hoF := HT7.out.store hlka SE9
    refine ⟨({ y with sets_ := ⟨some ⟨b, 0, none⟩, y.sets_.l.set j t', y.sets_.c⟩ } : MTenant), by simp only [MTenant.cells, List.length_set], hoF.base (by omega), MTenant.Good.of_own HG7.out rfl hoF, HPL.out, BE9 _ _ hX7 hs1⟩
  · have hq : (E == 0) = false := beq_eq_false_iff_ne.2 hz
    obtain rfl : R = (noT, E) := by
      rw [← HPR.out]
      unfold unsnapP
      rw [HE.out, if_pos hz]
    clear hz HE HOS HPR
    obtain ⟨zr0, zr1, zr2, zr3, zr4, zr5, zr6⟩ := K2.all7
    obtain ⟨zrf0, zrf1, zrf2, zrf3, zrf4, zrf5, zrf6⟩ := K2.fz7
    go_wp2
    generalize hwE9 : World.setCell _ ⟨a1.heap.size, 6, none⟩ _ = wZ
    obtain ⟨KE9, SE9, ZE9, BE9⟩ := store7 K2 hwE9
    obtain ⟨ze0, ze1, ze2, ze3, ze4, ze5, ze6⟩ := KE9.all7
    refine bodyPost_ret (v := .tuple #[.agg #[.string ⟨#[]⟩, .int .i64 0, .int .i64 0, .slice none 0 0, .slice none 0 0, .slice none 0 0, .slice none 0 0], .int .i64 (E)]) (by simp [results, Tryz.results12, go_sem, ze0, ze1, ze2, ze3, ze4, ze5, ze6]) rfl ?_
    exact ansT_no (BE9 _ _ hB0w hs1)
end Go.Proofs.YtimmcmjipmkebaaGreat
