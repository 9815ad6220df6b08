/-
  Encode of pages. Conditions: the slice is one that may be.
-/
import Derived.Test.YthelklgpabjfkaaPA
namespace Go.Proofs.Ythelklgpabjfkaa
open Go.ChangeShapes Go.WideShapes Go.ChangeAt Go.RowKit

theorem zeros_are (k : Nat) : Array.replicate k (Value.int .u8 0) = ((List.replicate k (0 : Int)).map (Value.int .u8)).toArray := by simp
theorem makeZ (m : Int) (k : Nat) (hk : m = k) (hk' : k ≤ 1048576) (W : World) : (Instr.makeSlice 22 (.int .i64 m) (.int .i64 m)).run Try.prog W = .ok (.slice (some ⟨W.heap.size, 0, none⟩) k k) (W.alloc (.cells ((List.replicate k (0 : Int)).map (Value.int .u8)).toArray 5)) := by
  subst hk
  obtain ⟨i0, hi, hz0, hz1, hz2⟩ := info_parts info5
  have := run_makeSlice (P := Try.prog) (w := W) 22 5 i0 (.int .u8 0) Try.underlying22 hi hz0 .i64 .i64 k k (by omega) (by omega) (by rw [hz1]; omega) (by rw [hz2]; omega) (by omega)
  rw [hz1] at this
  have e : madeCells (Value.int .u8 0).cells k = ((List.replicate k (0 : Int)).map (Value.int .u8)).toArray := Array.ext' (by simp [Value.cells, toList_madeCells_one])
  rw [← e]
  simpa using this

set_option maxHeartbeats 2000000 in
set_option maxRecDepth 100000 in
theorem pageEncode_ok (s : Slc) (next : Int) (hp : pgE s.zs.length next = 0) (w : World) (hs : s.ok w) :
    Calls Try.prog 7 #[s.val, .int .i64 next] w fun e w' => ∃ v, e = .returned (.tuple #[v, .int .i64 0]) ∧ w'.ownsRow w.heap.size 5 1 v 64 (octCells (pgO s.zs next)) ∧ Below w.heap.size w w' := by
  obtain ⟨A, zs, c⟩ := s
  obtain ⟨hc, hl, ho, hr⟩ := hs
  dsimp only at hp hc hl ho hr
  unfold Slc.val
  dsimp only
  obtain ⟨h1, h2, h3⟩ := pgE_ok.1 hp
  obtain ⟨n, hn⟩ : ∃ n, zs.length = n := ⟨_, rfl⟩
  have HL := Lib.hid (pgHead_length (b := zs) next h1)
  have HOL := Lib.hid (pgO_length (b := zs) next h1)
  rw [hn] at hc hl h1 ⊢
  have hh : cat [⟨none, put (n : Int) 2, 2⟩, ⟨none, put next 2, 2⟩, ⟨none, zs, c⟩, ⟨none, List.replicate (52 - n) 0, 52⟩] = pgHead zs next := by subst hn; simp [cat, pgHead]
  have PL := Lib.hid (put_any (n : Int) 2 (by omega))
  have PN := Lib.hid (put_any next 2 (by omega))
  have ll2 := Lib.hid (put_length (n : Int) 2)
  have ln2 := Lib.hid (put_length next 2)
  have HJ := Lib.hid (fun g (w : World) A1 A2 A3 A4 c1 c2 c3 c4 => join_blk [⟨A1, put (n : Int) 2, c1⟩, ⟨A2, put next 2, c2⟩, ⟨A3, zs, c3⟩, ⟨A4, List.replicate (52 - n) 0, c4⟩] 4 g 22 w (pgHead zs next) 56 rfl (by omega) hh HL.out)
  have HOF := Lib.hid (fun A c => of_any A 56 c (pgHead zs next) HL.out (by omega))
  have HHO := Lib.hid (pgHead_octs next ho)
  have hsok : (feedS zeroS (words (pgHead zs next))).ok := feedS_ok _ zeroS_ok _
  have HOO : Hid (pgO zs next = pgHead zs next ++ put (feedS zeroS (words (pgHead zs next))).A 8) := rfl
  generalize feedS zeroS (words (pgHead zs next)) = ss at HOF HOO hsok
  have hpw := put_wrap ss.A hsok.1.1 hsok.1.2
  have hpa := put_any (wrap64 ss.A) 8 (by omega)
  rw [hpw] at hpa
  have PA := Lib.hid hpa
  have la8 := Lib.hid (put_length ss.A 8)
  obtain ⟨sA, sB, sC, sD⟩ := ss
  dsimp only at hsok hpa PA la8 HOO
  generalize pgO zs next = zo at HOO HOL ⊢
  generalize pgHead zs next = zh at HL HJ HOF HHO HOO
  have HN := Lib.hid hn
  have HR := Lib.hid hr
  clear hh hsok hpw hpa hr hn hl ho hp
  generalize put (n : Int) 2 = zt at *
  generalize put next 2 = zf at *
  generalize put sA 8 = za at *
  have hmk : wrap64 (52 - (n : Int)) = ((52 - n : Nat) : Int) := by rw [IntWalk.wrap64_in _ (by omega)]; omega
  have hle : ((n : Int) ≤ 52) := by omega
  have hfd : ∀ w : World, (Instr.field 47 (.agg #[.int .u64 sA, .int .u64 sB, .int .u64 sC, .int .u64 sD]) 0).run Try.prog w = .ok (.int .u64 sA) w := fun _ => by kernel_rfl
  go_enter Try.func7, Try.ntmps7
  go_wp2_with fail
  refine wp_region_noPanic ?_
  refine wp_region_last 10 (fun _ => True) (by kernel_rfl) trivial (fun hHeld => ?_)
  refine wpAnyL_take 16 (i := 0) (oi := ⟨some 16, _, _, _, _, _⟩) (v := ?_) rfl (by kernel_rfl) (by kernel_rfl) (by kernel_rfl) (by kernel_rfl) (by kernel_rfl) (by kernel_rfl) (by kernel_rfl) (fun _ _ _ h => h) (Or.inl ⟨by rfl, ?_⟩) hHeld ?_
  rotate_left
  focus (intro w hSw; (try dsimp only at hSw); go_simp; try (with_reducible rfl))
  try simp only [Act.put, List.setIfInBounds_toArray, List.set_cons_zero, List.set_cons_succ]
  refine wpAnyL_take 16 (i := 1) (oi := ⟨some 17, _, _, _, _, _⟩) (v := ?_) rfl (by kernel_rfl) (by kernel_rfl) (by kernel_rfl) (by kernel_rfl) (by kernel_rfl) (by kernel_rfl) (by kernel_rfl) (fun _ _ _ h => h) (Or.inl ⟨by rfl, ?_⟩) hHeld ?_
  rotate_left
  focus (intro w hSw; (try dsimp only at hSw); go_simp; try (with_reducible rfl))
  try simp only [Act.put, List.setIfInBounds_toArray, List.set_cons_zero, List.set_cons_succ]
  refine wpAnyL_take 16 (i := 3) (oi := ⟨some 19, _, _, _, _, _⟩) (v := ?_) rfl (by kernel_rfl) (by kernel_rfl) (by kernel_rfl) (by kernel_rfl) (by kernel_rfl) (by kernel_rfl) (by kernel_rfl) (fun _ _ _ h => h) (Or.inl ⟨by rfl, ?_⟩) hHeld ?_
  rotate_left
  focus (intro w hSw; (try dsimp only at hSw); go_simp; try (with_reducible rfl))
  try simp only [Act.put, List.setIfInBounds_toArray, List.set_cons_zero, List.set_cons_succ]
  refine wpAnyL_take 16 (i := 5) (oi := ⟨some 21, _, _, _, _, _⟩) (v := ?_) rfl (by kernel_rfl) (by kernel_rfl) (by kernel_rfl) (by kernel_rfl) (by kernel_rfl) (by kernel_rfl) (by kernel_rfl) (fun _ _ _ h => h) (Or.inl ⟨by rfl, ?_⟩) hHeld ?_
  rotate_left
  focus (intro w hSw; (try dsimp only at hSw); go_simp; try (with_reducible rfl))
  try simp only [Act.put, List.setIfInBounds_toArray, List.set_cons_zero, List.set_cons_succ]
  refine wpAnyL_take 16 (i := 6) (oi := ⟨some 22, _, _, _, _, _⟩) (v := ?_) rfl (by kernel_rfl) (by kernel_rfl) (by kernel_rfl) (by kernel_rfl) (by kernel_rfl) (by kernel_rfl) (by kernel_rfl) (fun _ _ _ h => h) (Or.inl ⟨by rfl, ?_⟩) hHeld ?_
  rotate_left
  focus (intro w hSw; (try dsimp only at hSw); go_simp; try (with_reducible rfl))
  try simp only [Act.put, List.setIfInBounds_toArray, List.set_cons_zero, List.set_cons_succ]
  refine wpAnyL_take 16 (i := 7) (oi := ⟨some 23, _, _, _, _, _⟩) (v := ?_) rfl (by kernel_rfl) (by kernel_rfl) (by kernel_rfl) (by kernel_rfl) (by kernel_rfl) (by kernel_rfl) (by kernel_rfl) (fun _ _ _ h => h) (Or.inl ⟨by rfl, ?_⟩) hHeld ?_
  rotate_left
  focus (intro w hSw; (try dsimp only at hSw); go_simp; try (with_reducible rfl))
  try simp only [Act.put, List.setIfInBounds_toArray, List.set_cons_zero, List.set_cons_succ]
  refine wpAnyL_take 16 (i := 8) (oi := ⟨some 24, _, _, _, _, _⟩) (v := ?_) rfl (by kernel_rfl) (by kernel_rfl) (by kernel_rfl) (by kernel_rfl) (by kernel_rfl) (by kernel_rfl) (by kernel_rfl) (fun _ _ _ h => h) (Or.inl ⟨by rfl, ?_⟩) hHeld ?_
  rotate_left
  focus (intro w hSw; (try dsimp only at hSw); go_simp; try (with_reducible rfl))
  try simp only [Act.put, List.setIfInBounds_toArray, List.set_cons_zero, List.set_cons_succ]
  clear hHeld
  refine wpAnyL_facts 16 3 3 [(2, 18), (4, 20), (9, 25)] (fun s v w => match s with
    | 18 => SlB 2 zt v w
    | 20 => SlB 2 zf v w
    | 25 => SlB (52 - n) (List.replicate (52 - n) 0) v w
    | _ => True) (fun w w' => Below w.heap.size w w') (by kernel_rfl) (by kernel_rfl) (fun w w' h h' => h.trans (h'.mono h.size)) ⟨?_, ?_, ?_, trivial⟩ (fun _ _ => trivial) ⟨?_, ?_, ?_, trivial⟩ ?_
  focus
    intro v w w' h hB
    exact h.below hB
  focus
    intro v w w' h hB
    exact h.below hB
  focus
    intro v w w' h hB
    exact h.below hB
  focus
    intro vs w2 hBf hFf o ho K hK
    obtain rfl : (⟨some 18, _, _, _, _, _⟩ : Oper) = o := Option.some.inj ho
    clear ho
    (try simp only [fillL, List.foldl_cons, List.foldl_nil, Act.put, List.setIfInBounds_toArray, List.set_cons_zero, List.set_cons_succ] at hK ⊢)
    go_simp
    refine (PL.out w2).mono ?_
    rintro e w3 ⟨A1, c1, rfl, hr1, hc1, hB3⟩
    refine hK.out _ _ ⟨⟨_, _, rfl, hr1⟩, hB3⟩
  focus
    intro vs w2 hBf hFf o ho K hK
    obtain rfl : (⟨some 20, _, _, _, _, _⟩ : Oper) = o := Option.some.inj ho
    clear ho
    (try simp only [fillL, List.foldl_cons, List.foldl_nil, Act.put, List.setIfInBounds_toArray, List.set_cons_zero, List.set_cons_succ] at hK ⊢)
    go_simp
    refine (PN.out w2).mono ?_
    rintro e w3 ⟨A1, c1, rfl, hr1, hc1, hB3⟩
    refine hK.out _ _ ⟨⟨_, _, rfl, hr1⟩, hB3⟩
  focus
    intro vs w2 hBf hFf o ho K hK
    obtain rfl : (⟨some 25, _, _, _, _, _⟩ : Oper) = o := Option.some.inj ho
    clear ho
    (try simp only [fillL, List.foldl_cons, List.foldl_nil, Act.put, List.setIfInBounds_toArray, List.set_cons_zero, List.set_cons_succ] at hK ⊢)
    have hm := makeZ (IntKind.i64.wrap (52 - (n : Int))) (52 - n) (by rw [IntWalk.i64_in _ (by omega)]; omega) (by omega) w2
    go_simp
    rw [zeros_are]
    refine hK.out _ _ ⟨⟨_, _, rfl, RdB.of_blk (Blk.new w2 ((List.replicate (52 - n) (0 : Int)).map (Value.int .u8)) 5)⟩, (Below.refl _ _).alloc (Nat.le_refl _) _⟩
  intro vs w2 hBf hFf
  (try simp only [fillL, List.foldl_cons, List.foldl_nil, Act.put, List.setIfInBounds_toArray, List.set_cons_zero, List.set_cons_succ])
  obtain ⟨A1, c1, e1, hr1⟩ := (hFf (2, 18) (by simp))
  obtain ⟨A2, c2, e2, hr2⟩ := (hFf (4, 20) (by simp))
  obtain ⟨A4, c4, e4, hr4⟩ := (hFf (9, 25) (by simp))
  have hr3 := HR.out.below ((Below.refl _ _).drew.trans hBf)
  simp only [e1, e2, e4]
  refine wpAnyL_last (i := 10) (o := ⟨some 26, _, _, _, _, _⟩) (by kernel_rfl) rfl (by kernel_rfl) (fun K hK => ?_)
  go_simp
  refine hK.out _ _ ?_
  clear hK K
  try simp only [Act.put, List.setIfInBounds_toArray, List.set_cons_zero, List.set_cons_succ]
  refine wpAnyL_last (i := 11) (o := ⟨some 27, _, _, _, _, _⟩) (by kernel_rfl) rfl (by kernel_rfl) (fun K hK => ?_)
  go_simp
  have hB24 : Below w2.heap.size w2 (w2.alloc (.cells #[.slice A1 2 c1, .slice A2 2 c2, .slice A n c, .slice A4 (52 - n) c4] 22)) := (Below.refl _ _).alloc (Nat.le_refl _) _
  have hbj : Blk (w2.alloc (.cells #[.slice A1 2 c1, .slice A2 2 c2, .slice A n c, .slice A4 (52 - n) c4] 22)) w2.heap.size 22 (([⟨A1, zt, c1⟩, ⟨A2, zf, c2⟩, ⟨A, zs, c⟩, ⟨A4, List.replicate (52 - n) 0, c4⟩] : List Part).map Part.val) := by
    have := Blk.new w2 [Value.slice A1 2 c1, .slice A2 2 c2, .slice A n c, .slice A4 (52 - n) c4] 22
    simp only [List.map_cons, List.map_nil, Part.val, ll2.out, ln2.out, HN.out, List.length_replicate]
    exact this
  refine (HJ.out w2.heap.size _ A1 A2 A A4 c1 c2 c c4 hbj (fun p hp => ?_)).mono ?_
  focus
    simp only [List.mem_cons, List.not_mem_nil, or_false] at hp
    rcases hp with rfl | rfl | rfl | rfl
    · exact ⟨hr1.below hB24, by simp only [ll2.out]; omega⟩
    · exact ⟨hr2.below hB24, by simp only [ln2.out]; omega⟩
    · exact ⟨hr3.below hB24, by simp only [HN.out]; omega⟩
    · exact ⟨hr4.below hB24, by simp only [List.length_replicate]; omega⟩
  rintro e w3 ⟨v3, rfl, hown3, hB3⟩
  have hB13 : Below w.heap.size w w3 := ((Below.refl w.heap.size w).drew.trans hBf).trans ((hB24.trans (hB3.mono hB24.size)).mono hBf.size)
  have HO3 := Lib.hid hown3
  clear hown3 hbj hr1 hr2 hr3 hr4 e1 e2 e4
  go_wp2_with fail
  refine hK.out _ _ ?_
  clear hK K
  try simp only [Act.put, List.setIfInBounds_toArray, List.set_cons_zero, List.set_cons_succ]
  refine wpAnyL_last (i := 12) (o := ⟨some 6, _, _, _, _, _⟩) (by kernel_rfl) rfl (by kernel_rfl) (fun K hK => ?_)
  go_simp
  refine hK.out _ _ ?_
  clear hK K
  try simp only [Act.put, List.setIfInBounds_toArray, List.set_cons_zero, List.set_cons_succ]
  refine wpAnyL_done (by kernel_rfl) ?_ _
  refine NoPanic.normal ?_
  obtain ⟨A6, c6, rfl, hc6, hr6⟩ := own_slice HO3.out
  have HR6 := Lib.hid hr6
  clear hr6 hFf HJ
  go_wp2_with fail
  refine (HOF.out A6 c6 hc6 HHO.out w3 HR6.out).mono ?_
  rintro e w4 ⟨rfl, hB4⟩
  have HR64 := Lib.hid (RdB.below HR6.out hB4)
  have hB04 : Below w.heap.size w w4 := hB13.trans (hB4.mono hB13.size)
  clear HR6 HO3 hB4 HOF
  try unfold S4.val
  try dsimp only
  go_wp2_with fail
  refine (PA.out w4).mono ?_
  rintro e w5 ⟨A7, c7, rfl, hr7, hc7, hB5⟩
  have HR65 := Lib.hid (HR64.out.below hB5)
  have hB05 : Below w.heap.size w w5 := hB04.trans (hB5.mono hB04.size)
  have HR7 := Lib.hid hr7
  clear HR64 hr7 hB5 PA
  go_wp2_with fail
  have hB6 : Below w5.heap.size w5 (w5.alloc (.cells #[.slice A6 56 c6, .slice A7 8 c7] 22)) := (Below.refl _ _).alloc (Nat.le_refl _) _
  have hbj : Blk (w5.alloc (.cells #[.slice A6 56 c6, .slice A7 8 c7] 22)) w5.heap.size 22 (([⟨A6, zh, c6⟩, ⟨A7, za, c7⟩] : List Part).map Part.val) := by
    have := Blk.new w5 [Value.slice A6 56 c6, .slice A7 8 c7] 22
    simp only [List.map_cons, List.map_nil, Part.val, HL.out, la8.out]
    exact this
  refine (join_blk _ 2 w5.heap.size 22 _ zo 64 rfl (by omega) (by rw [HOO.out]; simp [cat]) HOL.out hbj (fun p hp => ?_)).mono ?_
  · simp only [List.mem_cons, List.not_mem_nil, or_false] at hp
    rcases hp with rfl | rfl
    · exact ⟨HR65.out.below hB6, by simp only [HL.out]; omega⟩
    · exact ⟨HR7.out.below hB6, by simp only [la8.out]; omega⟩
  rintro e w7 ⟨v7, rfl, hown7, hB7⟩
  have hB07 : Below w.heap.size w w7 := (hB05.trans (hB6.mono hB05.size)).trans (hB7.mono (Nat.le_trans hB05.size hB6.size))
  have HO7 := Lib.hid (own_below hown7 (Below.refl _ _) (Nat.le_trans hB05.size hB6.size))
  clear hown7 hbj HR65 HR7 hB7
  go_wp2_with fail
  go_ret2
  exact ⟨v7, rfl, HO7.out, hB07⟩

set_option maxHeartbeats 1000000 in
theorem pageEncode_no (s : Slc) (next : Int) (hp : pgE s.zs.length next ≠ 0) (w : World) (hs : s.ok w) :
    Calls Try.prog 7 #[s.val, .int .i64 next] w fun e w' => e = .returned (.tuple #[.slice none 0 0, .int .i64 (pgE s.zs.length next)]) ∧ w = w' := by
  obtain ⟨A, zs, c⟩ := s
  obtain ⟨hc, hl, _, _⟩ := hs
  unfold maxLen at hl
  dsimp only at hp hc hl ⊢
  unfold Slc.val
  dsimp only
  unfold pgE at hp ⊢
  generalize zs.length = n at *
  by_cases h1 : 52 < n
  · rw [if_pos h1]
    clear hp
    go_enter Try.func7, Try.ntmps7
    go_wp2
    go_ret2
    exact ⟨rfl, rfl⟩
  · rw [if_neg h1] at hp ⊢
    by_cases h2 : next < 0 ∨ 8192 ≤ next
    · rw [if_pos h2]
      clear hp
      have h3 : ¬ (52 : Int) < n := by omega
      by_cases h4 : next < 0
      · go_enter Try.func7, Try.ntmps7
        go_wp2
        go_ret2
        exact ⟨rfl, rfl⟩
      · have h5 : 8192 ≤ next := by omega
        go_enter Try.func7, Try.ntmps7
        go_wp2
        go_ret2
        exact ⟨rfl, rfl⟩
    · rw [if_neg h2] at hp
      exact absurd rfl hp

end Go.Proofs.Ythelklgpabjfkaa
