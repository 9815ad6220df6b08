/-
  usage: Set: its charge. Conditions: the set reads.
-/
import Derived.Test.YtnoidcelinaenaaUSG
namespace Go.Proofs.Ytnoidcelinaenaa
open Go.ChangeShapes Go.WideShapes Go.ChangeAt Go.RowKit
set_option maxRecDepth 100000
set_option linter.unusedSimpArgs false

theorem Oth.rd {C : Nat} {W W' : World} {g off : Nat} {vs : List Value} (h : Oth C W W') (hr : Rd W (some ⟨g, off, none⟩) vs) (hg : g ≠ C) : Rd W' (some ⟨g, off, none⟩) vs := fun hv => by
  obtain ⟨b, o, e, hb, hc⟩ := hr hv
  injection e with e
  injection e with e1 e2 _
  subst e1 e2
  refine ⟨g, off, rfl, Nat.lt_of_lt_of_le hb h.size, fun j u hu => ?_⟩
  have := hc j u hu
  unfold World.cell? at this ⊢
  rw [show W'.heap[g]? = W.heap[g]? from h.block g hb hg]
  exact this

/-- What a list of contents is charged for. -/
def chgL (L : List (Sl Bk)) : Nat := chg (L.map Sl.l)

theorem charge_each (C : Nat) (s0 : Int) (g c : Nat) (L : List (Sl Bk)) (hl : L.length ≤ 8796093022208) (hb : ∀ x ∈ L, x.l.length * 24 ≤ 140737488351232) (hg : g ≠ C) (w : World) (hk : Blk w C 49 [.int .i64 (wrap64 s0)]) (hr : Rd w (some ⟨g, 0, none⟩) (L.flatMap slC)) :
    Calls Try.prog 18 #[.func (.func 19) #[.pointer (some ⟨C, 0, none⟩)] #[], .slice (some ⟨g, 0, none⟩) L.length c] w fun e w' => e = .returned (.tuple #[]) ∧ Blk w' C 49 [.int .i64 (wrap64 (s0 + chgL L))] ∧ Oth C w w' := by
  refine (each_inv 19 (enters_of Try.func19 (by kernel_rfl) rfl) (.pointer (some ⟨C, 0, none⟩)) (some ⟨g, 0, none⟩) c L hl (fun k W => Blk W C 49 [.int .i64 (wrap64 (s0 + chgL (L.take k)))] ∧ Oth C w W) w ?_ ?_ ?_).mono ?_
  · exact ⟨by simpa [chgL, chg] using hk, Oth.refl _ _⟩
  · rintro k W _ ⟨_, ho⟩
    exact ho.rd hr hg
  · rintro k x W hx ⟨hkb, ho⟩
    have hn := hb x (List.mem_of_getElem? hx)
    refine (chargeTake_any C _ x.A x.c x.l.length (by omega) W hkb).mono ?_
    rintro e W' ⟨rfl, hk', ho'⟩
    refine ⟨rfl, ?_, ho.trans ho'⟩
    have e1 : chgL (L.take (k + 1)) = chgL (L.take k) + (1 + x.l.length) := by
      unfold chgL
      rw [List.map_take, List.map_take]
      exact chg_take (by rw [List.getElem?_map, hx]; rfl)
    rw [e1, show (s0 + ((chgL (L.take k) + (1 + x.l.length) : Nat) : Int)) = (s0 + chgL (L.take k)) + (1 + (x.l.length : Int)) by omega, ← w64_add]
    exact hk'
  · rintro e w' ⟨rfl, hk', ho⟩
    rw [List.take_length] at hk'
    exact ⟨rfl, hk', ho⟩

/-- What a set is charged for. -/
def setC (s : MSet) : Nat := chgL (lineM s)

set_option maxHeartbeats 2000000 in
theorem set_any15 (s : MSet) (w : World) (hs : SetU w s) :
    Calls Try.prog 9 #[.agg s.cells.toArray] w fun e w' => e = .returned (.int .i64 (wrap64 (setC s))) ∧ Below w.heap.size w w' := by
  obtain ⟨w1, hw1⟩ : ∃ w1, w.alloc (.cells #[.string s.path_, .string s.origin_, .slice s.body_.A s.body_.l.length s.body_.c, .slice s.snaps_.A s.snaps_.l.length s.snaps_.c, .slice s.own_.A s.own_.l.length s.own_.c] 32) = w1 := ⟨_, rfl⟩
  have hB1 : Below w.heap.size w w1 := hw1 ▸ (Below.refl _ w).alloc (Nat.le_refl _) _
  have k1 : Blk w1 w.heap.size 32 s.cells := hw1 ▸ Blk.new w _ _
  have hsz1 : w1.heap.size = w.heap.size + 1 := by rw [← hw1, World.size_alloc]
  obtain ⟨w2, hw2⟩ : ∃ w2, w1.alloc (.cells #[.int .i64 0] 49) = w2 := ⟨_, rfl⟩
  have hB2 : Below w1.heap.size w1 w2 := hw2 ▸ (Below.refl _ w1).alloc (Nat.le_refl _) _
  have kc : Blk w2 w1.heap.size 49 [.int .i64 0] := hw2 ▸ Blk.new w1 _ _
  have hB02 : Below w.heap.size w w2 := hB1.trans (hB2.mono hB1.size)
  rw [hsz1] at kc
  have hsz2 : w2.heap.size = w.heap.size + 2 := by rw [← hw2, World.size_alloc, hsz1]
  have k12 := k1.below hB2 k1.lt
  have z0 := k12.cell 0
  have z1 := k12.cell 1
  have z2 := k12.cell 2
  have z3 := k12.cell 3
  have z4 := k12.cell 4
  simp only [List.getElem?_cons_zero, List.getElem?_cons_succ] at z0 z1 z2 z3 z4
  have HL := Lib.hid (line_any s w2 (hs.below hB02))
  have HW1 := Lib.hid hw1
  have HW2 := Lib.hid hw2
  have HS := Lib.hid hs
  have HKC := Lib.hid kc
  have HB := Lib.hid hB02
  clear hw1 hw2 hs kc k1 k12 hB1 hB2
  go_enter Try.func9, Try.ntmps9
  go_wp2_with (first | rw [HW1.out] | rw [HW2.out])
  refine HL.out.mono ?_
  rintro e w3 ⟨g, c, rfl, ho, hB3⟩
  have hgl : w2.heap.size ≤ g := (ho.lt g rfl).1
  obtain ⟨A3, c3, he3, _, _, hR3, _⟩ := ownAny ho
  have hR : Rd w3 (some ⟨g, 0, none⟩) ((lineM s).flatMap slC) := by
    injection he3 with e1 _ _
    rw [e1]
    exact hR3.1
  have HE := Lib.hid (charge_each (w.heap.size + 1) 0 g c (lineM s) (by rw [lineM_length]; have := HS.out.nn; omega) (fun x hx => (HS.out.bo x hx).2) (by omega) w3 (by rw [show wrap64 0 = 0 from by unfold wrap64; omega]; exact HKC.out.below hB3 (by omega)) hR)
  rw [lineM_length] at HE
  have HB3 := Lib.hid hB3
  clear HL ho he3 hR3 hR
  go_wp2_with fail
  refine HE.out.mono ?_
  rintro e w4 ⟨rfl, hk4, ho4⟩
  have y0 := hk4.cell 0
  simp only [List.getElem?_cons_zero] at y0
  have hBw : Below w.heap.size w w4 := (HB.out.trans (HB3.out.mono HB.out.size)).trans (ho4.below (by omega) (Nat.le_trans HB.out.size HB3.out.size))
  clear hk4 ho4 HE
  go_wp2
  go_ret
  exact ⟨rfl, hBw⟩

end Go.Proofs.Ytnoidcelinaenaa
