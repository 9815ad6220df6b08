/-
  The octets of the index of objects: indexOf. Conditions: at most 256 objects that a store may have.
-/
import Derived.Test.YtfeeejigedndcaaGreatMQE
import Derived.Test.YtfeeejigedndcaaGreatMTS
import Derived.Test.YtfeeejigedndcaaGreatShelf
import Derived.Deep.DeepCutAuto
namespace Go.Proofs.YtfeeejigedndcaaGreat
open Go.ChangeShapes Go.WideShapes Go.ChangeAt Go.RowKit
set_option maxRecDepth 100000

/-- Numbers' texts, one behind the other. -/
def numsT (ns : List Int) : ByteArray := ⟨((ns.map numT).map (·.data.toList)).flatten.toArray⟩
def oneT (o : PO) : List ByteArray := [o.key, numT o.data.length, numsT o.at_]
/-- The texts of an index. -/
def idxT (l : List PO) : List ByteArray := l.flatMap oneT
theorem idxT_snoc (l : List PO) (o : PO) : idxT (l ++ [o]) = idxT l ++ [o.key, numT o.data.length, numsT o.at_] := by simp [idxT, oneT]
theorem idxT_length (l : List PO) : (idxT l).length = 3 * l.length := by
  induction l with
  | nil => rfl
  | cons x l ih => simp only [idxT, List.flatMap_cons, List.length_append, List.length_cons, oneT, List.length_nil] at ih ⊢; omega
theorem flat_const {α : Type} (l : List (List α)) (m : Nat) (h : ∀ x ∈ l, x.length = m) : l.flatten.length = m * l.length := by
  induction l with
  | nil => simp
  | cons x l ih =>
    rw [List.flatten_cons, List.length_append, ih (fun y hy => h y (by simp [hy])), h x (by simp), List.length_cons, Nat.mul_succ]
    omega
theorem numsT_size (ns : List Int) : (numsT ns).size = 8 * ns.length := by
  show ((ns.map numT).map (·.data.toList)).flatten.toArray.size = _
  rw [List.size_toArray, flat_const _ 8, List.length_map, List.length_map]
  intro x hx
  obtain ⟨y, hy, rfl⟩ := List.mem_map.1 hx
  obtain ⟨n, _, rfl⟩ := List.mem_map.1 hy
  exact numT_size n

theorem join_any (A : Option Addr) (c : Nat) (ns : List Int) (hl : ns.length ≤ 1048576) (hc : ns.length ≤ c) (w : World) (hr : Rd w A ((ns.map numT).map Value.string)) :
    Calls Tryz.prog 101 #[.slice A ns.length c, .string ⟨#[]⟩] w fun e w' => e = .returned (.string (numsT ns)) ∧ Below w.heap.size w w' := by
  rcases hn : ns with _ | ⟨n, ms⟩
  · refine (Tryz.strings_Join_none A c ⟨#[]⟩ w).mono ?_
    rintro e w' ⟨rfl, rfl⟩
    exact ⟨rfl, Below.refl _ _⟩
  · have hne : (ns.map numT).map Value.string ≠ [] := by rw [hn]; simp
    obtain ⟨b, off, rfl, hb, hcs⟩ := hr hne
    have hj : Lib.join ((ns.map numT).map (·.data.toList)) [] = ((ns.map numT).map (·.data.toList)).flatten := by
      unfold Lib.join
      generalize (ns.map numT).map (·.data.toList) = xs
      rw [List.intercalate]
      induction xs with
      | nil => rfl
      | cons x xs ih =>
        rcases xs with _ | ⟨y, ys⟩
        · simp
        · simp only [List.intersperse, List.flatten_cons] at ih ⊢
          rw [ih]
          simp
    have hsz := numsT_size ns
    have := Tryz.strings_Join b off c (ns.map numT) ⟨#[]⟩ w (fun j x hx => hcs j _ (by rw [List.getElem?_map, hx]; rfl)) hb (by simp; omega) (by simpa using hc) (by
      show (Lib.join ((ns.map numT).map (·.data.toList)) []).length ≤ _
      rw [hj]
      have : ((ns.map numT).map (·.data.toList)).flatten.toArray.size = 8 * ns.length := hsz
      rw [List.size_toArray] at this
      omega)
    rw [List.length_map] at this
    rw [← hn]
    refine this.mono ?_
    rintro e w' ⟨rfl, hB⟩
    refine ⟨?_, hB⟩
    show Ending.returned (.string ⟨(Lib.join ((ns.map numT).map (·.data.toList)) []).toArray⟩) = _
    rw [hj]
    rfl

theorem infoStr : (Tryz.prog.info? 9).map (fun i => (i.zero, i.size, i.bytes)) = some (some (.string ByteArray.empty), 1, 16) := by kernel_rfl

theorem grown_blk {W W' : World} {g : Nat} {t : TypeId} {us : List Value} (hb : Blk W g t us) {base size k : Nat} {e : TypeId} {v : Value} {xs : List Value} (ho : W.ownsRow base e size v k xs) (he : t ≠ e) (hg : W.grownBy W' v.ownBlock) : Blk W' g t us :=
  (hg.block g hb.lt (fun h => blk_apart hb ho he h.symm)).trans hb
theorem blk3' {W : World} {g : Nat} {T : TypeId} {a b c : Value} (k : Blk W g T [a, b, c]) : W.cell? ⟨g, 0, none⟩ = some a ∧ W.cell? ⟨g, 1, none⟩ = some b ∧ W.cell? ⟨g, 2, none⟩ = some c := ⟨k.cell 0, k.cell 1, k.cell 2⟩

set_option maxHeartbeats 1000000 in
theorem indexOf_any (A : Option Addr) (c : Nat) (l : List Ob) (hl : l.length ≤ 256) (hf : ∀ o ∈ l, o.key.size ≤ 96 ∧ o.d.zs.length ≤ 65536 ∧ o.ns.length ≤ 1261 ∧ o.ns.length ≤ o.e) (w : World) (hr : Rd w A (obCells l)) (hrn : ∀ o ∈ l, RdI w o.B o.ns) :
    Calls Tryz.prog 81 #[.slice A l.length c] w fun e w' => ∃ B d, e = .returned (.slice B (wr (idxT (l.map Ob.st))).length d) ∧ w'.ownsRow w.heap.size 5 1 (.slice B (wr (idxT (l.map Ob.st))).length d) (wr (idxT (l.map Ob.st))).length ((wr (idxT (l.map Ob.st))).map (Value.int .u8)) ∧ Below w.heap.size w w' := by
  obtain ⟨i0, hi, hz0, hz1, hz2⟩ := info_parts infoStr
  obtain ⟨zs, hzs⟩ : ∃ zs, wr (idxT (l.map Ob.st)) = zs := ⟨_, rfl⟩
  rw [hzs]
  have HZS := Lib.hid hzs
  have HF := Lib.hid hf
  have HRN := Lib.hid hrn
  have HR := Lib.hid hr
  obtain ⟨n, hn⟩ : ∃ n, l.length = n := ⟨_, rfl⟩
  rw [hn] at hl ⊢
  have HN := Lib.hid hn
  have hw3 : wrap64 (3 * (n : Int)) = ((3 * n : Nat) : Int) := by rw [IntWalk.wrap64_in _ (by omega)]; push_cast; rfl
  clear hf hrn hr hn hzs
  go_enter Tryz.func81, Tryz.ntmps81
  go_wp2_with (at_make; refine wpList_make_own _ rfl _ _ 123 rfl w.heap.size 9 i0 (.string ByteArray.empty) 1 Tryz.underlying123 hi hz0 hz1 .i64 .i64 _ (3 * n) rfl rfl (by omega) (by rw [hz2]; omega) (by unfold maxLen; omega) (Nat.le_refl _) ?_; intro w2 hown2 hgrow2)
  have hB2 : Below w.heap.size w w2 := (Below.refl _ w).grown hgrow2 (Nat.le_refl _) (fun _ h => by cases h)
  clear hgrow2
  go_loopw [3, 14] (fun v i W => ∃ k : Nat, k ≤ n ∧ i = .int .i64 k ∧ Hid (W.ownsRow w.heap.size 9 1 v (3 * k) ((idxT ((l.take k).map Ob.st)).map Value.string)) ∧ Below w.heap.size w W) (fun _ i _ => n - (intOf i).toNat)
  case atStart => exact ⟨0, Nat.zero_le _, rfl, Lib.hid (by simpa [idxT] using hown2), hB2⟩
  case round =>
    clear hown2 hB2
    obtain ⟨k, hk, rfl, HO, hB⟩ := hrel
    by_cases hlt : k < n
    · obtain ⟨x, hx⟩ : ∃ x, l[k]? = some x := ⟨l[k]'(by rw [HN.out]; exact hlt), List.getElem?_eq_getElem _⟩
      obtain ⟨b, off, rfl, hb, hk0, hk1, hk2⟩ := (Rd.below HR.out hB).ob hx
      obtain ⟨hxk, hxd, hxn, hxe⟩ := HF.out x (List.mem_of_getElem? hx)
      have HNS := Lib.hid (HRN.out x (List.mem_of_getElem? hx))
      have HNX : Hid ((idxT ((l.take (k + 1)).map Ob.st)).map Value.string = (idxT ((l.take k).map Ob.st)).map Value.string ++ [.string x.key] ++ [.string (numT x.d.zs.length)] ++ [.string (numsT x.ns)]) := Lib.hid (by
        rw [List.take_add_one, hx, List.map_append]
        show (idxT (_ ++ [x.st])).map _ = _
        rw [idxT_snoc]
        simp)
      obtain ⟨w6, hw6⟩ : ∃ w6, wr.alloc (.cells #[.string x.key, x.d.val, .slice x.B x.ns.length x.e] 58) = w6 := ⟨_, rfl⟩
      have hB6 : Below wr.heap.size wr w6 := hw6 ▸ (Below.refl _ _).alloc (Nat.le_refl _) _
      have hk6 : Blk w6 wr.heap.size 58 [.string x.key, x.d.val, .slice x.B x.ns.length x.e] := hw6 ▸ Blk.new wr _ _
      have hx0 := hk6.cell 0
      have hx1 := hk6.cell 1
      have hx2 := hk6.cell 2
      simp only [List.getElem?_cons_zero, List.getElem?_cons_succ] at hx0 hx1 hx2
      have HW6 := Lib.hid hw6
      have HK6 := Lib.hid hk6
      have HO6 := Lib.hid (own_below HO.out hB6 (Nat.le_refl _))
      have hB06 : Below w.heap.size w w6 := hB.trans (hB6.mono hB.size)
      have hsz6 := hB06.size
      clear hw6 hk6 hx HO
      obtain ⟨key, ⟨dA, dz, dc⟩, oB, ns, oe⟩ := x
      dsimp only at *
      generalize (idxT ((l.take k).map Ob.st)).map Value.string = cs at *
      go_upto_region 5 with fail
      rw [HW6.out]
      go_wp2_with (at_builtin; refine wpList_append_own _ rfl _ _ 123 rfl w.heap.size 9 i0 (.string ByteArray.empty) 1 16 Tryz.underlying123 hi hz0 hz1 hz2 rfl (by decide) _ (3 * k) cs rfl (by exact HO6.out.alloc _) ⟨w6.heap.size, 0, none⟩ 1 1 [.string key] rfl rfl (by exact cell_one_new _ _ _) (by simp [Value.oneCell']) (by unfold maxLen; omega) (by omega) (by simp; omega) ?_; intro v7 w7 hown7 hgrow7 _; have hk7 := grown_blk (HK6.out.alloc (.cells #[.string key] 9)) (HO6.out.alloc (.cells #[.string key] 9)) (by decide) hgrow7; obtain ⟨y0, y1, y2⟩ := blk3' hk7)
      have hB7 : Below w.heap.size w w7 := (hB06.alloc hsz6 _).grown hgrow7 (by simp; omega) (fun j e => (HO6.out.lt j e).1)
      have HK7 := Lib.hid hk7
      have HO7 := Lib.hid hown7
      have hsz7 := hB7.size
      have hk7l := hk7.lt
      clear hgrow7 hown7 hk7
      refine (numbers_any (some ⟨w7.heap.size, 0, none⟩) 1 [(dz.length : Int)] (by simp) (w7.alloc (.cells #[.int .i64 dz.length] 3)) (rd_lit w7 3 [(dz.length : Int)])).mono ?_
      rintro e w8 ⟨u8, rfl, hown8, hB8⟩
      have hB7' : Below w.heap.size w (w7.alloc (.cells #[.int .i64 dz.length] 3)) := hB7.alloc hsz7 _
      have hB08 : Below w.heap.size w w8 := hB7'.trans (hB8.mono hB7'.size)
      have hB78 : Below w7.heap.size w7 w8 := ((Below.refl _ _).alloc (Nat.le_refl _) _).trans (hB8.mono (by simp))
      obtain ⟨g8, c8, rfl, _, _⟩ := hown8.form (by simp)
      have hrd8 := (RdF.of_own hown8).1
      have HO8 := Lib.hid (own_below HO7.out hB78 (Nat.le_refl _))
      have HK8 := Lib.hid (HK7.out.below hB78 hk7l)
      have hsz8 := hB08.size
      have HRD8 : Hid (∀ j u, [Value.string (numT dz.length)][j]? = some u → w8.cell? (Addr.add ⟨g8, 0, none⟩ j) = some u) := Lib.hid fun j u hu => hown8.cells rfl j u hu
      clear hown8 hrd8
      go_wp2_with (at_builtin; refine wpList_append_own _ rfl _ _ 123 rfl w.heap.size 9 i0 (.string ByteArray.empty) 1 16 Tryz.underlying123 hi hz0 hz1 hz2 rfl (by decide) v7 (3 * k + 1) (cs ++ [.string key]) rfl HO8.out ⟨g8, 0, none⟩ 1 c8 [.string (numT dz.length)] rfl rfl HRD8.out (by simp [Value.oneCell']) (by unfold maxLen; omega) (by omega) (by omega) ?_; intro v9 w9 hown9 hgrow9 _; have hk9 := grown_blk HK8.out HO8.out (by decide) hgrow9; obtain ⟨z0, z1, z2⟩ := blk3' hk9)
      have hB9 : Below w.heap.size w w9 := hB08.grown hgrow9 (by omega) (fun j e => (HO8.out.lt j e).1)
      have HO9 := Lib.hid hown9
      have hsz9 := hB9.size
      clear hgrow9 hown9 hk9
      refine (numbers_any oB oe ns (by omega) w9 (HNS.out.below hB9)).mono ?_
      rintro e w10 ⟨u10, rfl, hown10, hB10⟩
      obtain ⟨A10, c10, rfl, hc10, _, hr10, _⟩ := own_any hown10
      have hB010 : Below w.heap.size w w10 := hB9.trans (hB10.mono hsz9)
      have HO10 := Lib.hid (own_below HO9.out hB10 (Nat.le_refl _))
      have HR10 := Lib.hid hr10.1
      have hsz10 := hB010.size
      clear hown10 hr10 HO9
      go_wp2_with fail
      refine (join_any A10 c10 ns (by omega) hc10 w10 HR10.out).mono ?_
      rintro e w11 ⟨rfl, hB11⟩
      have hB011 : Below w.heap.size w w11 := hB010.trans (hB11.mono hsz10)
      have HO11 := Lib.hid (own_below HO10.out hB11 (Nat.le_refl _))
      have hsz11 := hB011.size
      clear HO10
      go_wp2_with (at_builtin; refine wpList_append_own _ rfl _ _ 123 rfl w.heap.size 9 i0 (.string ByteArray.empty) 1 16 Tryz.underlying123 hi hz0 hz1 hz2 rfl (by decide) v9 (3 * k + 1 + 1) (cs ++ [.string key] ++ [.string (numT dz.length)]) rfl (by exact HO11.out.alloc _) ⟨w11.heap.size, 0, none⟩ 1 1 [.string (numsT ns)] rfl rfl (by exact cell_one_new _ _ _) (by simp [Value.oneCell']) (by unfold maxLen; omega) (by omega) (by simp; omega) ?_; intro v12 w12 hown12 hgrow12 _)
      have hB12 : Below w.heap.size w w12 := (hB011.alloc hsz11 _).grown hgrow12 (by simp; omega) (fun j e => (HO11.out.lt j e).1)
      have HO12 := Lib.hid hown12
      clear hgrow12 hown12
      go_roundw
      case rel =>
        refine ⟨k + 1, by omega, by go_num, Lib.hid ?_, hB12⟩
        rw [HNX.out]
        exact HO12.out
      case measure => simp [intOf]; omega
    · obtain rfl : k = n := by omega
      have HOn : Hid (wr.ownsRow w.heap.size 9 1 u3 (3 * k) ((idxT (l.map Ob.st)).map Value.string)) := Lib.hid (by
        have := HO.out
        rw [List.take_of_length_le (by rw [HN.out]; exact Nat.le_refl _)] at this
        exact this)
      obtain ⟨At, ct, rfl, hct, _, hrt, _⟩ := own_any HOn.out
      have hlen : (idxT (l.map Ob.st)).length = 3 * k := by rw [idxT_length, List.length_map, HN.out]
      have hfit : fit (idxT (l.map Ob.st)) = true := by
        unfold fit
        rw [List.all_eq_true]
        intro s hs
        obtain ⟨o, ho, hs⟩ := List.mem_flatMap.1 hs
        obtain ⟨x, hx, rfl⟩ := List.mem_map.1 ho
        obtain ⟨h1, h2, h3, _⟩ := HF.out x hx
        simp only [oneT, List.mem_cons, List.not_mem_nil, or_false] at hs
        rcases hs with rfl | rfl | rfl
        · simp; omega
        · simp [numT_size]
        · simp [numsT_size]; omega
      have hW := write_fits_own At ct (idxT (l.map Ob.st)) (by omega) hfit wr hrt.1
      rw [hlen, HZS.out] at hW
      have HWR := Lib.hid hW
      clear hW hrt HO hlen hfit
      go_wp2_with fail
      refine HWR.out.mono ?_
      rintro e w2' ⟨B, d, rfl, hown, _, _, _, hB2⟩
      have HOW := Lib.hid hown
      have hB3 : Below w.heap.size w w2' := hB.trans (hB2.mono hB.size)
      have hs := hB.size
      clear hown
      try unfold ansB
      try dsimp only [ansB]
      go_wp2_with fail
      refine (must_ok w2').mono ?_
      rintro e w3 ⟨rfl, rfl⟩
      go_wp2
      go_ret
      exact ⟨B, d, rfl, own_below HOW.out (Below.refl _ _) hs, hB3⟩

end Go.Proofs.YtfeeejigedndcaaGreat
