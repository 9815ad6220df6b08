/-
  Encode of uber. No conditions.
-/
import Derived.Test.YtlcjdhmgpbnnmaaUA
import Derived.Test.YtlcjdhmgpbnnmaaRF
namespace Go.Proofs.Ytlcjdhmgpbnnmaa
open Go.ChangeShapes Go.WideShapes Go.ChangeAt Go.RowKit

/-- A slice of n octets that are these. -/
def SlB (n : Nat) (zs : List Int) (v : Value) (w : World) : Prop := ∃ A c, v = .slice A n c ∧ RdB w A zs
theorem SlB.below {n : Nat} {zs : List Int} {v : Value} {w w' : World} (h : SlB n zs v w) (hB : Below w.heap.size w w') : SlB n zs v w' := by
  obtain ⟨A, c, e, hr⟩ := h
  exact ⟨A, c, e, hr.below hB⟩
theorem SlB.stays {n m : Nat} {zs : List Int} {v : Value} {w w' : World} (h : SlB n zs v w) (hB : Stays m w w') : SlB n zs v w' := by
  obtain ⟨A, c, e, hr⟩ := h
  exact ⟨A, c, e, hB.rd hr⟩
theorem RdB.of_blk {w : World} {g : Nat} {t : TypeId} {zs : List Int} (h : Blk w g t (zs.map (Value.int .u8))) : RdB w (some ⟨g, 0, none⟩) zs := fun _ => by
  refine ⟨g, 0, rfl, h.lt, fun j u hu => ?_⟩
  rw [Nat.zero_add]
  exact (h.cell j).trans hu

/-- Join of the slices that lie in one block. -/
theorem join_blk (ps : List Part) (n g : Nat) (t : TypeId) (w : World) (zs : List Int) (m : Nat) (hn : ps.length = n) (hn' : n ≤ 1048576) (hz : cat ps = zs) (hm : zs.length = m) (hb : Blk w g t (ps.map Part.val)) (hok : ∀ p ∈ ps, RdB w p.A p.zs ∧ p.zs.length ≤ 1048576) :
    Calls Try.prog 16 #[.slice (some ⟨g, 0, none⟩) n n] w fun e w' => ∃ v, e = .returned v ∧ w'.ownsRow w.heap.size 5 1 v m (octCells zs) ∧ Below w.heap.size w w' := by
  subst hn hm hz
  exact callsIn_wide.1 (join_in (some ⟨g, 0, none⟩) ps.length ps hn' w (fun _ => ⟨g, 0, rfl, hb.lt, fun j u hu => by
    rw [Nat.zero_add]
    exact (hb.cell j).trans hu⟩) hok)

/-- The cells of an uberblock stay, and what lies above. -/
theorem held3 {W W' : World} {g : Nat} {a b c : Value} (hg : g < W.heap.size) (h0 : W.cell? ⟨g, 0, none⟩ = some a) (h1 : W.cell? ⟨g, 1, none⟩ = some b) (h2 : W.cell? ⟨g, 2, none⟩ = some c) (hB : Below W.heap.size W W') :
    W'.cell? ⟨g, 0, none⟩ = some a ∧ W'.cell? ⟨g, 1, none⟩ = some b ∧ W'.cell? ⟨g, 2, none⟩ = some c :=
  ⟨(hB.cell (p := ⟨g, 0, none⟩) hg).trans h0, (hB.cell (p := ⟨g, 1, none⟩) hg).trans h1, (hB.cell (p := ⟨g, 2, none⟩) hg).trans h2⟩

def mark4 : List Int := [103, 100, 110, 49]

def z12A : Array Value := #[.int .u8 0, .int .u8 0, .int .u8 0, .int .u8 0, .int .u8 0, .int .u8 0, .int .u8 0, .int .u8 0, .int .u8 0, .int .u8 0, .int .u8 0, .int .u8 0]
theorem make12 (W : World) : (Instr.makeSlice 24 (.int .i64 12) (.int .i64 12)).run Try.prog W = .ok (.slice (some ⟨W.heap.size, 0, none⟩) 12 12) (W.alloc (.cells z12A 5)) := by
  obtain ⟨i0, hi, hz0, hz1, hz2⟩ := info_parts info5
  have := run_makeSlice (P := Try.prog) (w := W) 24 5 i0 (.int .u8 0) Try.underlying24 hi hz0 .i64 .i64 12 12 (by omega) (by omega) (by rw [hz1]; decide) (by rw [hz2]; omega) (by omega)
  rw [hz1] at this
  have e : madeCells (Value.int .u8 0).cells 12 = z12A := Array.ext' (by simp [Value.cells, toList_madeCells_one, z12A])
  rw [← e]
  exact this
theorem z12A_is : z12A = ((List.replicate 12 (0 : Int)).map (Value.int .u8)).toArray := rfl

set_option maxHeartbeats 2000000 in
set_option maxRecDepth 100000 in
theorem encode_ok (u : Ub) (hu : u.ok = true) (w : World) :
    Calls Try.prog 7 #[u.val] w fun e w' => ∃ v, e = .returned (.tuple #[v, .int .i64 0]) ∧ w'.ownsRow w.heap.size 5 1 v 64 (octCells u.octs) ∧ Below w.heap.size w w' := by
  have hck := check_any u
  rw [Ub.err_ok hu] at hck
  have HCK := Lib.hid hck
  have hh : cat [⟨none, mark4, 4⟩, ⟨none, put u.t 8, 8⟩, ⟨none, put u.f 4, 4⟩, ⟨none, put u.o 4, 4⟩, ⟨none, List.replicate 12 0, 12⟩] = u.head := by simp [cat, Ub.head, mark4]
  have HH := Lib.hid hh
  have HL := Lib.hid u.head_length
  have PT := Lib.hid (put_any u.t 8 (by omega))
  have PF := Lib.hid (put_any u.f 4 (by omega))
  have PO := Lib.hid (put_any u.o 4 (by omega))
  have lt8 := Lib.hid (put_length u.t 8)
  have lf4 := Lib.hid (put_length u.f 4)
  have lo4 := Lib.hid (put_length u.o 4)
  have HJ := Lib.hid (fun g (w : World) A1 A2 A3 A4 A5 c1 c2 c3 c4 c5 => join_blk [⟨A1, mark4, c1⟩, ⟨A2, put u.t 8, c2⟩, ⟨A3, put u.f 4, c3⟩, ⟨A4, put u.o 4, c4⟩, ⟨A5, List.replicate 12 0, c5⟩] 5 g 24 w u.head 32 rfl (by omega) hh u.head_length)
  have HOF := Lib.hid (fun A c => of_any A 32 c u.head u.head_length (by omega))
  have HHO := Lib.hid u.head_octs
  have hsok : (feedS zeroS (words u.head)).ok := feedS_ok _ zeroS_ok _
  have HOO : Hid (u.octs = u.head ++ sumOcts (feedS zeroS (words u.head))) := rfl
  have HOC := Lib.hid (octets_any (feedS zeroS (words u.head)) hsok)
  have HSL := Lib.hid (sumOcts_length (feedS zeroS (words u.head)))
  generalize feedS zeroS (words u.head) = ss at HOF HOO HOC HSL
  generalize u.octs = zo at HOO ⊢
  generalize u.head = zh at HH HL HJ HOF HHO HOO
  clear hh hck hu hsok
  obtain ⟨t, f, o⟩ := u
  dsimp only at PT PF PO lt8 lf4 lo4 HJ HH
  generalize put t 8 = zt at *
  generalize put f 4 = zf at *
  generalize put o 4 = zq at *
  go_enter Try.func7, Try.ntmps7
  go_wp2_with fail
  obtain ⟨w0, hw0⟩ : ∃ w0, w.alloc (.cells #[.int .i64 t, .int .i64 f, .int .i64 o] 23) = w0 := ⟨_, rfl⟩
  have hB0 : Below w.heap.size w w0 := hw0 ▸ (Below.refl _ w).alloc (Nat.le_refl _) _
  have kb : Blk w0 w.heap.size 23 [.int .i64 t, .int .i64 f, .int .i64 o] := hw0 ▸ Blk.new w [.int .i64 t, .int .i64 f, .int .i64 o] 23
  rw [hw0]
  refine (HCK.out w0).mono ?_
  rintro e w1 ⟨rfl, hB1⟩
  have kb1 := kb.below hB1 kb.lt
  have hB01 : Below w.heap.size w w1 := hB0.trans (hB1.mono hB0.size)
  have hc0 := kb1.cell 0
  have hc1 := kb1.cell 1
  have hc2 := kb1.cell 2
  have hbl := kb1.lt
  simp only [List.getElem?_cons_zero, List.getElem?_cons_succ] at hc0 hc1 hc2
  clear hw0 kb hB1
  have HZ : Hid (zh = zh) := rfl
  go_wp2_with fail
  refine wp_region_noPanic ?_
  refine wp_region_last 12 (fun W' => W'.cell? ⟨w.heap.size, 0, none⟩ = some (.int .i64 t) ∧ W'.cell? ⟨w.heap.size, 1, none⟩ = some (.int .i64 f) ∧ W'.cell? ⟨w.heap.size, 2, none⟩ = some (.int .i64 o)) (by kernel_rfl) ⟨hc0, hc1, hc2⟩ (fun hHeld => ?_)
  refine wpAnyL_take 16 (i := 2) (oi := ⟨some 13, _, _, _, _, _⟩) (v := ?_) rfl (by kernel_rfl) (by kernel_rfl) (by kernel_rfl) (by kernel_rfl) (by kernel_rfl) (by kernel_rfl) (by kernel_rfl) (fun _ _ _ h => h) (Or.inl ⟨by rfl, ?_⟩) hHeld ?_
  rotate_left
  focus (intro w hSw; (try dsimp only at hSw); go_simp; try (with_reducible rfl))
  try simp only [Act.put, List.setIfInBounds_toArray, List.set_cons_zero, List.set_cons_succ]
  refine wpAnyL_take 16 (i := 3) (oi := ⟨some 14, _, _, _, _, _⟩) (v := ?_) rfl (by kernel_rfl) (by kernel_rfl) (by kernel_rfl) (by kernel_rfl) (by kernel_rfl) (by kernel_rfl) (by kernel_rfl) (fun _ _ _ h => h) (Or.inl ⟨by rfl, ?_⟩) hHeld ?_
  rotate_left
  focus (intro w hSw; (try dsimp only at hSw); go_simp; try (with_reducible rfl))
  try simp only [Act.put, List.setIfInBounds_toArray, List.set_cons_zero, List.set_cons_succ]
  refine wpAnyL_take 16 (i := 5) (oi := ⟨some 16, _, _, _, _, _⟩) (v := ?_) rfl (by kernel_rfl) (by kernel_rfl) (by kernel_rfl) (by kernel_rfl) (by kernel_rfl) (by kernel_rfl) (by kernel_rfl) (fun _ _ _ h => h) (Or.inl ⟨by rfl, ?_⟩) hHeld ?_
  rotate_left
  focus (intro w hSw; (try dsimp only at hSw); go_simp; try (with_reducible rfl))
  try simp only [Act.put, List.setIfInBounds_toArray, List.set_cons_zero, List.set_cons_succ]
  refine wpAnyL_take 16 (i := 6) (oi := ⟨some 17, _, _, _, _, _⟩) (v := ?_) rfl (by kernel_rfl) (by kernel_rfl) (by kernel_rfl) (by kernel_rfl) (by kernel_rfl) (by kernel_rfl) (by kernel_rfl) (fun _ _ _ h => h) (Or.inl ⟨by rfl, ?_⟩) hHeld ?_
  rotate_left
  focus (intro w hSw; (try dsimp only at hSw); go_simp; try (with_reducible rfl))
  try simp only [Act.put, List.setIfInBounds_toArray, List.set_cons_zero, List.set_cons_succ]
  refine wpAnyL_take 16 (i := 8) (oi := ⟨some 19, _, _, _, _, _⟩) (v := ?_) rfl (by kernel_rfl) (by kernel_rfl) (by kernel_rfl) (by kernel_rfl) (by kernel_rfl) (by kernel_rfl) (by kernel_rfl) (fun _ _ _ h => h) (Or.inl ⟨by rfl, ?_⟩) hHeld ?_
  rotate_left
  focus (intro w hSw; (try dsimp only at hSw); go_simp; try (with_reducible rfl))
  try simp only [Act.put, List.setIfInBounds_toArray, List.set_cons_zero, List.set_cons_succ]
  refine wpAnyL_take 16 (i := 9) (oi := ⟨some 20, _, _, _, _, _⟩) (v := ?_) rfl (by kernel_rfl) (by kernel_rfl) (by kernel_rfl) (by kernel_rfl) (by kernel_rfl) (by kernel_rfl) (by kernel_rfl) (fun _ _ _ h => h) (Or.inl ⟨by rfl, ?_⟩) hHeld ?_
  rotate_left
  focus (intro w hSw; (try dsimp only at hSw); go_simp; try (with_reducible rfl))
  try simp only [Act.put, List.setIfInBounds_toArray, List.set_cons_zero, List.set_cons_succ]
  clear hHeld
  refine wpAnyL_facts 16 6 3 [(0, 11), (1, 12), (4, 15), (7, 18), (10, 21), (11, 22)] (fun s v w => match s with
    | 11 => ∃ g, v = .slice (some ⟨g, 0, none⟩) 4 4 ∧ w1.drew.heap.size ≤ g ∧ w.shape? g = some (5, 4) ∧ RdB w (some ⟨g, 0, none⟩) mark4
    | 12 => SlB 4 mark4 v w
    | 15 => SlB 8 zt v w
    | 18 => SlB 4 zf v w
    | 21 => SlB 4 zq v w
    | 22 => SlB 12 (List.replicate 12 0) v w
    | _ => True) (Stays w1.drew.heap.size) (by kernel_rfl) (by kernel_rfl) (fun w w' h h' => h.trans h'.1) ⟨?_, ?_, ?_, ?_, ?_, ?_, trivial⟩ (fun W' hB => held3 (W := w1.drew) hbl hc0 hc1 hc2 hB) ⟨?_, ?_, ?_, ?_, ?_, ?_, trivial⟩ ?_
  focus
    intro v w w' h hB
    exact (by obtain ⟨g, e, hg, hs, hr⟩ := h; exact ⟨g, e, hg, (hB.2.2 g (shape_lt hs)).trans hs, hB.rd hr⟩)
  focus
    intro v w w' h hB
    exact h.stays hB
  focus
    intro v w w' h hB
    exact h.stays hB
  focus
    intro v w w' h hB
    exact h.stays hB
  focus
    intro v w w' h hB
    exact h.stays hB
  focus
    intro v w w' h hB
    exact h.stays hB
  focus
    intro vs w2 hBf hFf o ho K hK
    obtain rfl : (⟨some 11, _, _, _, _, _⟩ : Oper) = o := Option.some.inj ho
    clear ho
    (try simp only [fillL, List.foldl_cons, List.foldl_nil, Act.put, List.setIfInBounds_toArray, List.set_cons_zero, List.set_cons_succ] at hK ⊢)
    go_simp
    refine hK.out _ _ ⟨⟨_, rfl, hBf.size, shape_blk (Blk.new w2 (mark4.map (Value.int .u8)) 5), RdB.of_blk (Blk.new w2 (mark4.map (Value.int .u8)) 5)⟩, stays_of ((Below.refl _ _).alloc (Nat.le_refl _) _) hBf.size⟩
  focus
    intro vs w2 hBf hFf o ho K hK
    obtain rfl : (⟨some 12, _, _, _, _, _⟩ : Oper) = o := Option.some.inj ho
    clear ho
    (try simp only [fillL, List.foldl_cons, List.foldl_nil, Act.put, List.setIfInBounds_toArray, List.set_cons_zero, List.set_cons_succ] at hK ⊢)
    obtain ⟨g, e, hg, hs, hr⟩ := (hFf (0, 11) (by simp) (by kernel_rfl))
    have hcv := run_conv_lit (P := Try.prog) w2 24 5 g 4 4 4 hs Try.underlying24 Try.underlying5
    simp only [e] at hK ⊢
    go_simp
    refine hK.out _ _ ⟨⟨_, _, rfl, (Stays.freeze hg).rd hr⟩, Stays.freeze hg⟩
  focus
    intro vs w2 hBf hFf o ho K hK
    obtain rfl : (⟨some 15, _, _, _, _, _⟩ : Oper) = o := Option.some.inj ho
    clear ho
    (try simp only [fillL, List.foldl_cons, List.foldl_nil, Act.put, List.setIfInBounds_toArray, List.set_cons_zero, List.set_cons_succ] at hK ⊢)
    go_simp
    refine (PT.out w2).mono ?_
    rintro e w3 ⟨A, c, rfl, hr, hc, hB3⟩
    refine hK.out _ _ ⟨⟨_, _, rfl, hr⟩, stays_of hB3 hBf.size⟩
  focus
    intro vs w2 hBf hFf o ho K hK
    obtain rfl : (⟨some 18, _, _, _, _, _⟩ : Oper) = o := Option.some.inj ho
    clear ho
    (try simp only [fillL, List.foldl_cons, List.foldl_nil, Act.put, List.setIfInBounds_toArray, List.set_cons_zero, List.set_cons_succ] at hK ⊢)
    go_simp
    refine (PF.out w2).mono ?_
    rintro e w3 ⟨A, c, rfl, hr, hc, hB3⟩
    refine hK.out _ _ ⟨⟨_, _, rfl, hr⟩, stays_of hB3 hBf.size⟩
  focus
    intro vs w2 hBf hFf o ho K hK
    obtain rfl : (⟨some 21, _, _, _, _, _⟩ : Oper) = o := Option.some.inj ho
    clear ho
    (try simp only [fillL, List.foldl_cons, List.foldl_nil, Act.put, List.setIfInBounds_toArray, List.set_cons_zero, List.set_cons_succ] at hK ⊢)
    go_simp
    refine (PO.out w2).mono ?_
    rintro e w3 ⟨A, c, rfl, hr, hc, hB3⟩
    refine hK.out _ _ ⟨⟨_, _, rfl, hr⟩, stays_of hB3 hBf.size⟩
  focus
    intro vs w2 hBf hFf o ho K hK
    obtain rfl : (⟨some 22, _, _, _, _, _⟩ : Oper) = o := Option.some.inj ho
    clear ho
    (try simp only [fillL, List.foldl_cons, List.foldl_nil, Act.put, List.setIfInBounds_toArray, List.set_cons_zero, List.set_cons_succ] at hK ⊢)
    have hm := make12 w2
    go_simp
    refine hK.out _ _ ⟨⟨_, _, rfl, RdB.of_blk (Blk.new w2 ((List.replicate 12 (0 : Int)).map (Value.int .u8)) 5)⟩, stays_of ((Below.refl _ _).alloc (Nat.le_refl _) _) hBf.size⟩
  intro vs w2 hBf hFf
  (try simp only [fillL, List.foldl_cons, List.foldl_nil, Act.put, List.setIfInBounds_toArray, List.set_cons_zero, List.set_cons_succ])
  obtain ⟨A1, c1, e1, hr1⟩ := (hFf (1, 12) (by simp))
  obtain ⟨A2, c2, e2, hr2⟩ := (hFf (4, 15) (by simp))
  obtain ⟨A3, c3, e3, hr3⟩ := (hFf (7, 18) (by simp))
  obtain ⟨A4, c4, e4, hr4⟩ := (hFf (10, 21) (by simp))
  obtain ⟨A5, c5, e5, hr5⟩ := (hFf (11, 22) (by simp))
  simp only [e1, e2, e3, e4, e5]
  refine wpAnyL_last (i := 12) (o := ⟨some 23, _, _, _, _, _⟩) (by kernel_rfl) rfl (by kernel_rfl) (fun K hK => ?_)
  go_simp
  refine hK.out _ _ ?_
  clear hK K
  try simp only [Act.put, List.setIfInBounds_toArray, List.set_cons_zero, List.set_cons_succ]
  refine wpAnyL_last (i := 13) (o := ⟨some 24, _, _, _, _, _⟩) (by kernel_rfl) rfl (by kernel_rfl) (fun K hK => ?_)
  go_simp
  have hB24 : Below w2.heap.size w2 (w2.alloc (.cells #[.slice A1 4 c1, .slice A2 8 c2, .slice A3 4 c3, .slice A4 4 c4, .slice A5 12 c5] 24)) := (Below.refl _ _).alloc (Nat.le_refl _) _
  have hbj : Blk (w2.alloc (.cells #[.slice A1 4 c1, .slice A2 8 c2, .slice A3 4 c3, .slice A4 4 c4, .slice A5 12 c5] 24)) w2.heap.size 24 (([⟨A1, mark4, c1⟩, ⟨A2, zt, c2⟩, ⟨A3, zf, c3⟩, ⟨A4, zq, c4⟩, ⟨A5, List.replicate 12 0, c5⟩] : List Part).map Part.val) := by
    have := Blk.new w2 [Value.slice A1 4 c1, .slice A2 8 c2, .slice A3 4 c3, .slice A4 4 c4, .slice A5 12 c5] 24
    simp only [List.map_cons, List.map_nil, Part.val, lt8.out, lf4.out, lo4.out, List.length_replicate, show mark4.length = 4 from rfl]
    exact this
  refine (HJ.out w2.heap.size _ A1 A2 A3 A4 A5 c1 c2 c3 c4 c5 hbj (fun p hp => ?_)).mono ?_
  focus
    simp only [List.mem_cons, List.not_mem_nil, or_false] at hp
    rcases hp with rfl | rfl | rfl | rfl | rfl
    · exact ⟨hr1.below hB24, by show mark4.length ≤ _; decide⟩
    · exact ⟨hr2.below hB24, by simp only [lt8.out]; omega⟩
    · exact ⟨hr3.below hB24, by simp only [lf4.out]; omega⟩
    · exact ⟨hr4.below hB24, by simp only [lo4.out]; omega⟩
    · exact ⟨hr5.below hB24, by simp⟩
  rintro e w3 ⟨v3, rfl, hown3, hB3⟩
  have hB13 : Below w1.heap.size w1 w3 := ((Below.refl w1.heap.size w1).drew.trans hBf).trans ((hB24.trans (hB3.mono hB24.size)).mono hBf.size)
  have HO3 := Lib.hid hown3
  clear hown3 hbj hr1 hr2 hr3 hr4 hr5 e1 e2 e3 e4 e5
  go_wp2_with fail
  refine hK.out _ _ ?_
  clear hK K
  try simp only [Act.put, List.setIfInBounds_toArray, List.set_cons_zero, List.set_cons_succ]
  refine wpAnyL_last (i := 14) (o := ⟨some 5, _, _, _, _, _⟩) (by kernel_rfl) rfl (by kernel_rfl) (fun K hK => ?_)
  go_simp
  refine hK.out _ _ ?_
  clear hK K
  try simp only [Act.put, List.setIfInBounds_toArray, List.set_cons_zero, List.set_cons_succ]
  refine wpAnyL_done (by kernel_rfl) ?_ _
  refine NoPanic.normal ?_
  obtain ⟨A6, c6, rfl, hc6, hr6⟩ := own_slice HO3.out
  have hB03 : Below w.heap.size w w3 := hB01.trans (hB13.mono hB01.size)
  have HR6 := Lib.hid hr6
  clear hr6 hFf HJ
  go_wp2_with fail
  refine (HOF.out A6 c6 hc6 HHO.out w3 HR6.out).mono ?_
  rintro e w4 ⟨rfl, hB4⟩
  have HR64 := Lib.hid (RdB.below HR6.out hB4)
  have hB04 : Below w.heap.size w w4 := hB03.trans (hB4.mono hB03.size)
  clear HR6 HO3 hB4 HOF
  go_wp2_with fail
  refine (HOC.out w4).mono ?_
  rintro e w5 ⟨A7, c7, rfl, hr7, hc7, hB5⟩
  have HR65 := Lib.hid (HR64.out.below hB5)
  have hB05 : Below w.heap.size w w5 := hB04.trans (hB5.mono hB04.size)
  have HR7 := Lib.hid hr7
  clear HR64 hr7 hB5 HOC
  go_wp2_with fail
  have hB6 : Below w5.heap.size w5 (w5.alloc (.cells #[.slice A6 32 c6, .slice A7 32 c7] 24)) := (Below.refl _ _).alloc (Nat.le_refl _) _
  have hbj : Blk (w5.alloc (.cells #[.slice A6 32 c6, .slice A7 32 c7] 24)) w5.heap.size 24 (([⟨A6, zh, c6⟩, ⟨A7, sumOcts ss, c7⟩] : List Part).map Part.val) := by
    have := Blk.new w5 [Value.slice A6 32 c6, .slice A7 32 c7] 24
    simp only [List.map_cons, List.map_nil, Part.val, HL.out, HSL.out]
    exact this
  refine (join_blk _ 2 w5.heap.size 24 _ zo 64 rfl (by omega) (by rw [HOO.out]; simp [cat]) (by rw [HOO.out, List.length_append, HL.out, HSL.out]) hbj (fun p hp => ?_)).mono ?_
  · simp only [List.mem_cons, List.not_mem_nil, or_false] at hp
    rcases hp with rfl | rfl
    · exact ⟨HR65.out.below hB6, by simp only [HL.out]; omega⟩
    · exact ⟨HR7.out.below hB6, by simp only [HSL.out]; omega⟩
  rintro e w7 ⟨v7, rfl, hown7, hB7⟩
  have hB07 : Below w.heap.size w w7 := (hB05.trans (hB6.mono hB05.size)).trans (hB7.mono (Nat.le_trans hB05.size hB6.size))
  have HO7 := Lib.hid (own_below hown7 (Below.refl _ _) (Nat.le_trans hB05.size hB6.size))
  clear hown7 hbj HR65 HR7 hB7
  go_wp2_with fail
  go_ret2
  exact ⟨v7, rfl, HO7.out, hB07⟩

set_option maxHeartbeats 1000000 in
theorem encode_no (u : Ub) (hu : u.ok = false) (w : World) :
    Calls Try.prog 7 #[u.val] w fun e w' => e = .returned (.tuple #[.slice none 0 0, .int .i64 4]) ∧ Below w.heap.size w w' := by
  have hck := check_any u
  rw [Ub.err_no hu] at hck
  have HCK := Lib.hid hck
  have hB0 : Below w.heap.size w (w.alloc (.cells #[.int .i64 u.t, .int .i64 u.f, .int .i64 u.o] 23)) := (Below.refl _ w).alloc (Nat.le_refl _) _
  clear hck hu
  go_enter Try.func7, Try.ntmps7
  go_wp2_with (refine (HCK.out _).mono ?_; rintro e w1 ⟨rfl, hB1⟩)
  go_ret2
  exact ⟨rfl, hB0.trans (hB1.mono hB0.size)⟩

end Go.Proofs.Ytlcjdhmgpbnnmaa
