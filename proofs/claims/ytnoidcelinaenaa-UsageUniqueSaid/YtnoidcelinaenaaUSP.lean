/-
  usage: Unique, Changed. Conditions: the set reads.
-/
import Derived.Test.YtnoidcelinaenaaUSO
namespace Go.Proofs.Ytnoidcelinaenaa
open Go.ChangeShapes Go.WideShapes Go.ChangeAt Go.RowKit
set_option maxRecDepth 100000
set_option linter.unusedSimpArgs false

/-- How many blocks the content at a place has that neither the one ahead of it has nor those. -/
def onlyL (L : List (List Bk)) (k : Nat) (M : List (List Bk)) : Nat := cntB (prevM L k ++ M) (L[k]?.getD [])
/-- What a snapshot alone has. -/
def uniqS (s : MSet) (at_ : Int) : Nat := if at_ < 0 ∨ (s.snaps_.l.length : Int) ≤ at_ then 0 else onlyL ((lineM s).map Sl.l) at_.toNat ((lineM s).map Sl.l)[at_.toNat + 1]?.toList
/-- What is changed. -/
def chgS (s : MSet) : Nat := onlyL ((lineM s).map Sl.l) s.snaps_.l.length []
theorem onlyL_le (s : MSet) (k : Nat) (M : List (List Bk)) (x : Sl Bk) (hx : (lineM s)[k]? = some x) : onlyL ((lineM s).map Sl.l) k M ≤ x.l.length := by
  unfold onlyL
  rw [List.getElem?_map, hx]
  exact cntB_le _ _

theorem hit_append (ms ms' : List (List Bk)) (b : Bk) : hitB (ms ++ ms') b = (hitB ms b || hitB ms' b) := by
  unfold hitB
  rw [List.any_append]

/-- What stands below a block reads on. -/
structure LineR (F : Nat) (g c : Nat) (s : MSet) (W : World) : Prop where
  row : RdU F W (some ⟨g, 0, none⟩) ((lineM s).flatMap slC)
  bo : ∀ x ∈ lineM s, RdU F W x.A (bks x.l) ∧ x.l.length * 24 ≤ 140737488351232
  cap : s.snaps_.l.length + 1 ≤ c
theorem LineR.below {F g c : Nat} {s : MSet} {W W' : World} (h : LineR F g c s W) (hB : Below F W W') : LineR F g c s W' :=
  ⟨h.row.keeps (KeepsLo.of hB), fun x hx => ⟨(h.bo x hx).1.keeps (KeepsLo.of hB), (h.bo x hx).2⟩, h.cap⟩
theorem LineR.elem {F g c : Nat} {s : MSet} {W : World} (h : LineR F g c s W) {k : Nat} {x : Sl Bk} (hx : (lineM s)[k]? = some x) : W.cell? ⟨g, k, none⟩ = some x.val := by
  obtain ⟨b, off, e, hbl, hc⟩ := Rd.elem (cells := slC) (n := 1) (fun _ => rfl) (by decide) h.row.rd hx
  injection e with e
  injection e with e1 e2 _
  subst e1 e2
  have := hc 0 _ rfl
  rwa [show 0 + (k * 1 + 0) = k by omega] at this

theorem line_r (s : MSet) (w : World) (hs : SetU w s) :
    Calls Try.prog 20 #[.agg s.cells.toArray] w fun e w' => ∃ g c, e = .returned (.slice (some ⟨g, 0, none⟩) (s.snaps_.l.length + 1) c) ∧ LineR w'.heap.size g c s w' ∧ Below w.heap.size w w' := by
  refine (line_any s w hs).mono ?_
  rintro e w' ⟨g, c, rfl, ho, hB⟩
  obtain ⟨A, c', he, hcap, _, hR, _⟩ := ownAny ho
  injection he with e1 _ e3
  subst e3
  rw [← e1] at hR
  refine ⟨g, c, rfl, ⟨RdU.of hR.1 (Nat.le_refl _), fun x hx => ⟨RdU.of ((hs.bo x hx).1.below hB) (Nat.le_refl _), (hs.bo x hx).2⟩, ?_⟩, hB⟩
  rw [lineM_length] at hcap
  exact hcap

theorem fr_new (w : World) : Fr w.heap.size 0 [] (w.alloc (.cells #[.int .i64 0, .slice none 0 0] 62)) :=
  ⟨⟨_, Blk.new w [.int .i64 0, .slice none 0 0] _, ownNone _ _ _ _⟩, by simp, by simp⟩

set_option maxHeartbeats 4000000 in
theorem unique_in (s : MSet) (k : Nat) (hk : k < s.snaps_.l.length) (w : World) (hs : SetU w s) :
    Calls Try.prog 12 #[.agg s.cells.toArray, .int .i64 k] w fun e w' => e = .returned (.int .i64 (onlyL ((lineM s).map Sl.l) k ((lineM s).map Sl.l)[k + 1]?.toList)) ∧ Below w.heap.size w w' := by
  have hnn := hs.nn
  obtain ⟨x, hx⟩ : ∃ x, (lineM s)[k]? = some x := ⟨_, List.getElem?_eq_getElem (by rw [lineM_length]; omega)⟩
  obtain ⟨y, hy⟩ : ∃ y, (lineM s)[k + 1]? = some y := ⟨_, List.getElem?_eq_getElem (by rw [lineM_length]; omega)⟩
  have hle := onlyL_le s k ((lineM s).map Sl.l)[k + 1]?.toList x hx
  have hxl := (hs.bo x (List.mem_of_getElem? hx)).2
  obtain ⟨R, hR⟩ : ∃ R, onlyL ((lineM s).map Sl.l) k ((lineM s).map Sl.l)[k + 1]?.toList = R := ⟨_, rfl⟩
  rw [hR] at hle ⊢
  obtain ⟨w1, hw1⟩ : ∃ w1, w.alloc (.cells #[.string s.path_, .string s.origin_, .slice s.body_.A s.body_.l.length s.body_.c, .slice s.snaps_.A s.snaps_.l.length s.snaps_.c, .slice s.own_.A s.own_.l.length s.own_.c] 32) = w1 := ⟨_, rfl⟩
  have hB1 : Below w.heap.size w w1 := hw1 ▸ (Below.refl _ w).alloc (Nat.le_refl _) _
  have k1 : Blk w1 w.heap.size 32 s.cells := hw1 ▸ Blk.new w _ _
  have z0 := k1.cell 0
  have z1 := k1.cell 1
  have z2 := k1.cell 2
  have z3 := k1.cell 3
  have z4 := k1.cell 4
  simp only [List.getElem?_cons_zero, List.getElem?_cons_succ] at z0 z1 z2 z3 z4
  have HL := Lib.hid (line_r s w1 (hs.below hB1))
  have HW1 := Lib.hid hw1
  have HB1 := Lib.hid hB1
  have HX := Lib.hid hx
  have HY := Lib.hid hy
  have HRR := Lib.hid hR
  clear hw1 k1 hB1 hs hx hy hR
  go_enter Try.func12, Try.ntmps12
  go_wp2_with (rw [HW1.out])
  refine HL.out.mono ?_
  rintro e w3 ⟨g, c, rfl, hLR, hB3⟩
  obtain ⟨F, hF⟩ : ∃ F, w3.heap.size = F := ⟨_, rfl⟩
  rw [hF] at hLR
  obtain ⟨w4, hw4⟩ : ∃ w4, w3.alloc (.cells #[.int .i64 0, .slice none 0 0] 62) = w4 := ⟨_, rfl⟩
  have hFr : Fr F 0 [] w4 := by rw [← hw4, ← hF]; exact fr_new w3
  have hB4 : Below F w3 w4 := by rw [← hF, ← hw4]; exact (Below.refl _ w3).alloc (Nat.le_refl _) _
  have hL4 := hLR.below hB4
  have hwF : w.heap.size ≤ F := by rw [← hF]; exact Nat.le_trans HB1.out.size hB3.size
  have HBF : Hid (Below w.heap.size w w4) := Lib.hid ((HB1.out.trans (hB3.mono HB1.out.size)).trans (hB4.mono hwF))
  have HA := Lib.hid (ahead_any g (s.snaps_.l.length + 1) c k (by omega) (by omega) hLR.cap w4)
  have HFr := Lib.hid hFr
  have HL4 := Lib.hid hL4
  have HW4 := Lib.hid hw4
  clear hLR hB3 hFr hB4 hL4 hw4 HL
  go_wp2_with (rw [HW4.out])
  refine HA.out.mono ?_
  rintro e w4' ⟨rfl, A, n, c', rfl, hah⟩
  have HM := Lib.hid (meet_ahead F 0 g c k n c' A (lineM s) (by rw [lineM_length]; omega) (fun x hx => (HL4.out.bo x hx).2) w4' HFr.out (fun x hx => (HL4.out.bo x hx).1.rd) HL4.out.row.rd hah)
  clear HA hah HFr
  go_wp2_with fail
  refine HM.out.mono ?_
  rintro e w5 ⟨rfl, ms, hf5, hms, hh5, hB5⟩
  have hL5 := HL4.out.below hB5
  have q1 := hL5.elem HY.out
  have HH5 := Lib.hid hh5
  obtain ⟨w6, hw6⟩ : ∃ w6, w5.alloc (.cells #[y.val] 28) = w6 := ⟨_, rfl⟩
  have hB6 : Below w5.heap.size w5 w6 := hw6 ▸ (Below.refl _ w5).alloc (Nat.le_refl _) _
  have k6 : Blk w6 w5.heap.size 28 [y.val] := hw6 ▸ Blk.new w5 _ _
  have hf6 := hf5.below hB6
  have hB56 := hB5.trans (hB6.mono (Nat.le_of_lt hf5.lt))
  have hL6 := HL4.out.below hB56
  have hym := List.mem_of_getElem? HY.out
  have HM2 := Lib.hid (meet_one F 0 ms (by omega) (some ⟨w5.heap.size, 0, none⟩) 1 y (hL6.bo y hym).2 w6 hf6 (hL6.bo y hym).1.rd (fun _ => ⟨w5.heap.size, 0, rfl, k6.lt, fun j u hu => by rw [Nat.zero_add, k6.cell j]; simpa using hu⟩))
  have HW6 := Lib.hid hw6
  have HB56 := Lib.hid hB56
  have hw1k : wrap64 ((k : Int) + 1) = (k : Int) + 1 := IntWalk.wrap64_in _ (by omega)
  clear hf5 hh5 hB5 hL5 hw6 hB6 k6 hf6 hB56 hL6 HM
  go_wp2_with (rw [HW6.out])
  refine HM2.out.mono ?_
  rintro e w7 ⟨rfl, m, hf7, hp7, hB7⟩
  have hB67 := HB56.out.trans hB7
  have p1 := (HL4.out.below hB67).elem HX.out
  have hxm := List.mem_of_getElem? HX.out
  have HH7 : Hid (cntB ((ms ++ [m]).map Sl.l) x.l = R) := Lib.hid (by
    rw [← HRR.out]
    unfold onlyL
    rw [List.getElem?_map (i := k + 1), HY.out, List.getElem?_map (i := k), HX.out]
    refine cntB_congr _ fun b => ?_
    rw [List.map_append, hit_append, HH5.out b, prevM_map, hit_append]
    congr 1
    simp only [hitB, List.map_cons, List.map_nil, Option.toList, Option.map_some, List.any_cons, List.any_nil]
    rw [memB_perm hp7])
  obtain ⟨w8, hw8⟩ : ∃ w8, w7.alloc (.cells #[x.val] 28) = w8 := ⟨_, rfl⟩
  have hB8 : Below w7.heap.size w7 w8 := hw8 ▸ (Below.refl _ w7).alloc (Nat.le_refl _) _
  have k8 : Blk w8 w7.heap.size 28 [x.val] := hw8 ▸ Blk.new w7 _ _
  have hf8 := hf7.below hB8
  have hB78 := hB67.trans (hB8.mono (Nat.le_of_lt hf7.lt))
  have hL8 := HL4.out.below hB78
  have HT := Lib.hid (take_one F 0 (ms ++ [m]) (by simp; omega) (some ⟨w7.heap.size, 0, none⟩) 1 x (hL8.bo x hxm).2 w8 (by rw [show wrap64 0 = 0 from by unfold wrap64; omega]; exact hf8) (hL8.bo x hxm).1 (fun _ => ⟨w7.heap.size, 0, rfl, k8.lt, fun j u hu => by rw [Nat.zero_add, k8.cell j]; simpa using hu⟩))
  rw [HH7.out, show wrap64 (0 + (R : Int)) = (R : Int) from by rw [Int.zero_add]; exact IntWalk.wrap64_in _ (by omega)] at HT
  have HW8 := Lib.hid hw8
  have HB78 := Lib.hid hB78
  clear hf7 hp7 hB7 hB67 hw8 hB8 k8 hf8 hB78 hL8 HM2
  go_wp2_with (rw [HW8.out])
  refine HT.out.mono ?_
  rintro e w9 ⟨rfl, hf9, hB9⟩
  have hBw : Below w.heap.size w w9 := HBF.out.trans ((HB78.out.trans hB9).mono hwF)
  obtain ⟨⟨v9, hk9, _⟩, _, _⟩ := hf9
  have y0 := hk9.cell 0
  simp only [List.getElem?_cons_zero] at y0
  clear hk9 hB9 HT
  go_wp2
  go_ret
  exact ⟨rfl, hBw⟩

theorem unique_any (s : MSet) (at_ : Int) (w : World) (hs : SetU w s) :
    Calls Try.prog 12 #[.agg s.cells.toArray, .int .i64 at_] w fun e w' => e = .returned (.int .i64 (uniqS s at_)) ∧ Below w.heap.size w w' := by
  by_cases h : at_ < 0 ∨ (s.snaps_.l.length : Int) ≤ at_
  · have hR : uniqS s at_ = 0 := by unfold uniqS; rw [if_pos h]
    rw [hR]
    obtain ⟨w1, hw1⟩ : ∃ w1, w.alloc (.cells #[.string s.path_, .string s.origin_, .slice s.body_.A s.body_.l.length s.body_.c, .slice s.snaps_.A s.snaps_.l.length s.snaps_.c, .slice s.own_.A s.own_.l.length s.own_.c] 32) = w1 := ⟨_, rfl⟩
    have hB1 : Below w.heap.size w w1 := hw1 ▸ (Below.refl _ w).alloc (Nat.le_refl _) _
    have k1 : Blk w1 w.heap.size 32 s.cells := hw1 ▸ Blk.new w _ _
    have z3 := k1.cell 3
    simp only [List.getElem?_cons_zero, List.getElem?_cons_succ] at z3
    have HW1 := Lib.hid hw1
    clear hw1 k1 hs hR
    by_cases h0 : at_ < 0
    · clear h
      go_enter Try.func12, Try.ntmps12
      go_wp2_with (rw [HW1.out])
      go_ret
      exact ⟨rfl, hB1⟩
    · have h1 : (s.snaps_.l.length : Int) ≤ at_ := by omega
      have h2 : ¬ at_ < s.snaps_.l.length := by omega
      clear h
      go_enter Try.func12, Try.ntmps12
      go_wp2_with (rw [HW1.out])
      go_ret
      exact ⟨rfl, hB1⟩
  · obtain ⟨k, rfl⟩ : ∃ k : Nat, at_ = k := ⟨at_.toNat, by omega⟩
    have hR : uniqS s (k : Int) = onlyL ((lineM s).map Sl.l) k ((lineM s).map Sl.l)[k + 1]?.toList := by
      unfold uniqS
      rw [if_neg h]
      rfl
    rw [hR]
    exact unique_in s k (by omega) w hs

end Go.Proofs.Ytnoidcelinaenaa
