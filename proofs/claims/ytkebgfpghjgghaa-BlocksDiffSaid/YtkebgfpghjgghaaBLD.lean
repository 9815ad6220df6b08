/-
  blocks: those. Conditions: the lists are as they come in; the function tells what is to be kept.
-/
import Derived.Test.YtkebgfpghjgghaaBLC
import Derived.Test.YtkebgfpghjgghaaGO
import Derived.Test.YtkebgfpghjgghaaRF
namespace Go.Proofs.Ytkebgfpghjgghaa
open Go.ChangeShapes Go.WideShapes Go.ChangeAt Go.RowKit
set_option maxRecDepth 100000

set_option maxRecDepth 100000 in
theorem infoBk : (Try.prog.info? 58).map (fun i => (i.zero, i.size, i.bytes)) = some (some (.agg #[.int .i64 0, .string ByteArray.empty]), 2, 24) := by kernel_rfl

theorem filter_le {α : Type} (p : α → Bool) (l : List α) (k : Nat) : ((l.take k).filter p).length ≤ k :=
  Nat.le_trans (List.length_filter_le _ _) (by rw [List.length_take]; omega)

set_option maxHeartbeats 1000000 in
theorem those_any (gf : Nat) (lb : Array Value) (eg : Enters Try.prog gf) (p : Int → Bool) (A : Option Addr) (c n : Nat) (l : List Bk) (hn : l.length = n) (hl : n ≤ 4398046511104) (hf : ∀ x ∈ l, x.2.size ≤ 140737488351232) (w : World)
    (hp : ∀ W i, Below w.heap.size w W → Calls Try.prog gf (#[.int .i64 i] ++ lb) W fun e W' => e = .returned (.bool (p i)) ∧ Below W.heap.size W W') (hr : Rd w A (bks l)) :
    Calls Try.prog 28 #[.slice A n c, .func (.func gf) #[] lb] w fun e w' => ∃ v, e = .returned v ∧ w'.ownsRow w.heap.size 58 2 v (l.filter (fun x => p x.1)).length (bks (l.filter (fun x => p x.1))) ∧ Below w.heap.size w w' := by
  subst hn
  obtain ⟨i0, hi, hz0, hz1, hz2⟩ := infoParts infoBk
  have eg' : ∀ args w, (callFunc gf args).run Try.prog w = .ok (.enter gf args) w := eg
  obtain ⟨q, hq⟩ : ∃ q : Bk → Bool, (fun x : Bk => p x.1) = q := ⟨_, rfl⟩
  have hqx : ∀ x : Bk, p x.1 = q x := fun x => by rw [← hq]
  rw [hq]
  clear hq
  go_enter Try.func28, Try.ntmps28
  go_wp2
  go_loopw [5, 10] (fun v j W => ∃ k : Nat, k ≤ l.length ∧ j = .int .i64 k ∧ Hid (W.ownsRow w.heap.size 58 2 v ((l.take k).filter q).length (bks ((l.take k).filter q))) ∧ Below w.heap.size w W) (fun _ j _ => l.length - (intOf j).toNat)
  case atStart => exact ⟨0, Nat.zero_le _, rfl, Lib.hid (ownNone _ _ _ _), Below.refl _ _⟩
  case round =>
    obtain ⟨k, hk, rfl, HO, hB⟩ := hrel
    obtain ⟨Av, cv, hv, _, _, _, _⟩ := ownAny HO.out
    subst hv
    by_cases hlt : k < l.length
    · obtain ⟨x, hx⟩ : ∃ x, l[k]? = some x := ⟨l[k], List.getElem?_eq_getElem hlt⟩
      obtain ⟨b, off, rfl, hb, hc0, hc1⟩ := (Rd.below hr hB).bk hx
      have hks : x.2.size ≤ 140737488351232 := hf x (List.mem_of_getElem? hx)
      obtain ⟨w1, hw1⟩ : ∃ w1, wr.alloc (.cells #[.int .i64 x.1, .string x.2] 58) = w1 := ⟨_, rfl⟩
      have hB1 : Below wr.heap.size wr w1 := hw1 ▸ (Below.refl _ wr).alloc (Nat.le_refl _) _
      have k1 : Blk w1 wr.heap.size 58 [.int .i64 x.1, .string x.2] := hw1 ▸ Blk.new wr _ _
      have x0 := k1.cell 0
      simp only [List.getElem?_cons_zero] at x0
      have HP := Lib.hid (hp w1 x.1 (hB.trans (hB1.mono hB.size)))
      have HK := Lib.hid k1
      have HW := Lib.hid hw1
      have HTK : Hid ((l.take (k + 1)).filter q = (l.take k).filter q ++ (if q x then [x] else [])) := Lib.hid (by
        rw [List.take_add_one, hx, List.filter_append]
        simp [List.filter_cons])
      have hfl := filter_le q l k
      clear hx k1 hw1
      go_wp2_with fail
      rw [HW.out]
      refine HP.out.mono ?_
      rintro e w2 ⟨rfl, hB2⟩
      have hB12 : Below wr.heap.size wr w2 := hB1.trans (hB2.mono hB1.size)
      have K2 := Lib.hid (HK.out.below hB2 HK.out.lt)
      have hB02 := hB.trans (hB12.mono hB.size)
      have HO2 := Lib.hid (ownBelow HO.out hB12 (Nat.le_refl _))
      rw [hqx]
      clear HP HK x0 HW
      rcases hqq : q x with _ | _
      · have HO' : Hid (w2.ownsRow w.heap.size 58 2 (.slice Av ((l.take k).filter q).length cv) ((l.take (k + 1)).filter q).length (bks ((l.take (k + 1)).filter q))) := Lib.hid (by
          rw [HTK.out, hqq]
          simpa using HO2.out)
        clear HO2 HTK hqq
        go_wp2
        go_roundw
        case rel => exact ⟨k + 1, by omega, by go_num, HO', hB02⟩
        case measure => simp [intOf]; omega
      · have HTK' : Hid ((l.take (k + 1)).filter q = (l.take k).filter q ++ [x]) := Lib.hid (by rw [HTK.out, hqq]; rfl)
        clear HTK hqq
        have hS0 : Hid (∀ W', Below w2.heap.size w2 W' → W'.cell? ⟨wr.heap.size, 0, none⟩ = some (.int .i64 x.1) ∧ W'.cell? ⟨wr.heap.size, 1, none⟩ = some (.string x.2)) := Lib.hid fun W' hB' => by
          have h := K2.out.below hB' K2.out.lt
          exact ⟨h.cell 0, h.cell 1⟩
        have hBd : Below w2.heap.size w2 w2.drew := (Below.refl _ _).drew
        go_wp2_with fail
        refine wp_region_noPanic ?_
        refine wp_region_last 8 (fun W' => W'.cell? ⟨wr.heap.size, 0, none⟩ = some (.int .i64 x.1) ∧ W'.cell? ⟨wr.heap.size, 1, none⟩ = some (.string x.2)) (by kernel_rfl) (hS0.out _ hBd) (fun hHeld => ?_)
        refine wpAnyL_take 12 (i := 0) (oi := ⟨some 18, _, _, _, _, _⟩) (v := ?_) rfl (by kernel_rfl) (by kernel_rfl) (by kernel_rfl) (by kernel_rfl) (by kernel_rfl) (by kernel_rfl) (by kernel_rfl) (fun _ _ _ h => h) (Or.inl ⟨by rfl, ?_⟩) hHeld ?_
        rotate_left
        focus (intro w hSw; (try dsimp only at hSw); go_simp; try (with_reducible rfl))
        try simp only [Act.put, List.setIfInBounds_toArray, List.set_cons_zero, List.set_cons_succ]
        refine wpAnyL_take 12 (i := 1) (oi := ⟨some 19, _, _, _, _, _⟩) (v := ?_) rfl (by kernel_rfl) (by kernel_rfl) (by kernel_rfl) (by kernel_rfl) (by kernel_rfl) (by kernel_rfl) (by kernel_rfl) (fun _ _ _ h => h) (Or.inl ⟨by rfl, ?_⟩) hHeld ?_
        rotate_left
        focus (intro w hSw; (try dsimp only at hSw); go_simp; try (with_reducible rfl))
        try simp only [Act.put, List.setIfInBounds_toArray, List.set_cons_zero, List.set_cons_succ]
        refine wpAnyL_take 12 (i := 2) (oi := ⟨some 20, _, _, _, _, _⟩) (v := ?_) rfl (by kernel_rfl) (by kernel_rfl) (by kernel_rfl) (by kernel_rfl) (by kernel_rfl) (by kernel_rfl) (by kernel_rfl) (fun _ _ _ h => h) (Or.inl ⟨by rfl, ?_⟩) hHeld ?_
        rotate_left
        focus (intro w hSw; (try dsimp only at hSw); go_simp; try (with_reducible rfl))
        try simp only [Act.put, List.setIfInBounds_toArray, List.set_cons_zero, List.set_cons_succ]
        refine wpAnyL_take 12 (i := 3) (oi := ⟨some 21, _, _, _, _, _⟩) (v := ?_) rfl (by kernel_rfl) (by kernel_rfl) (by kernel_rfl) (by kernel_rfl) (by kernel_rfl) (by kernel_rfl) (by kernel_rfl) (fun _ _ _ h => h) (Or.inl ⟨by rfl, ?_⟩) hHeld ?_
        rotate_left
        focus (intro w hSw; (try dsimp only at hSw); go_simp; try (with_reducible rfl))
        try simp only [Act.put, List.setIfInBounds_toArray, List.set_cons_zero, List.set_cons_succ]
        refine wpAnyL_take 12 (i := 4) (oi := ⟨some 22, _, _, _, _, _⟩) (v := ?_) rfl (by kernel_rfl) (by kernel_rfl) (by kernel_rfl) (by kernel_rfl) (by kernel_rfl) (by kernel_rfl) (by kernel_rfl) (fun _ _ _ h => h) (Or.inl ⟨by rfl, ?_⟩) hHeld ?_
        rotate_left
        focus (intro w hSw; (try dsimp only at hSw); go_simp; try (with_reducible rfl))
        try simp only [Act.put, List.setIfInBounds_toArray, List.set_cons_zero, List.set_cons_succ]
        refine wpAnyL_one (i := 5) (o := ⟨some 23, _, _, _, _, _⟩) (by kernel_rfl) rfl (fun K hK => ?_)
        clear hHeld
        go_simp
        refine (cloneT_any x.2 (by omega) _).mono ?_
        rintro e w3 ⟨rfl, hB3⟩
        have hB3 : Below w2.heap.size w2 w3 := hBd.trans (hB3.mono hBd.size)
        go_wp2_with fail
        refine hK.out _ _ (hS0.out _ hB3) (fun hHeld => ?_)
        clear hK K
        try simp only [Act.put, List.setIfInBounds_toArray, List.set_cons_zero, List.set_cons_succ]
        refine wpAnyL_take 12 (i := 6) (oi := ⟨some 24, _, _, _, _, _⟩) (v := ?_) rfl (by kernel_rfl) (by kernel_rfl) (by kernel_rfl) (by kernel_rfl) (by kernel_rfl) (by kernel_rfl) (by kernel_rfl) (fun _ _ _ h => h) (Or.inl ⟨by rfl, ?_⟩) hHeld ?_
        rotate_left
        focus (intro w hSw; (try dsimp only at hSw); go_simp; try (with_reducible rfl))
        try simp only [Act.put, List.setIfInBounds_toArray, List.set_cons_zero, List.set_cons_succ]
        refine wpAnyL_one (i := 7) (o := ⟨some 25, _, _, _, _, _⟩) (by kernel_rfl) rfl (fun K hK => ?_)
        clear hHeld
        go_simp
        have hB4 : Below w2.heap.size w2 (w3.alloc (.cells #[.int .i64 x.1, .string x.2] 58)) := hB3.alloc hB3.size _
        go_wp2_with fail
        refine hK.out _ _ (hS0.out _ hB4) (fun hHeld => ?_)
        clear hK K
        try simp only [Act.put, List.setIfInBounds_toArray, List.set_cons_zero, List.set_cons_succ]
        refine wpAnyL_last (i := 8) (o := ⟨some 26, _, _, _, _, _⟩) (by kernel_rfl) rfl (by kernel_rfl) (fun K hK => ?_)
        clear hHeld
        refine step_append_lies (o := ⟨some 26, _, _, _, _, _⟩) _ (by rfl) _ _ 22 (by rfl) w.heap.size 58 i0 (.agg #[.int .i64 0, .string ByteArray.empty]) 2 24 Try.underlying22 hi hz0 hz1 hz2 rfl (by omega) (.slice Av ((l.take k).filter q).length cv) ((l.take k).filter q).length (bks ((l.take k).filter q)) (by rfl) (ownBelow HO2.out hB4 (Nat.le_refl _)) ⟨w3.heap.size, 0, none⟩ 1 1 [.int .i64 x.1, .string x.2] (by rfl) rfl (newsNew _ _ _) (by simp [Value.oneCell']) (by omega) (by unfold maxLen; omega) (by omega) (by have := hB3.size; have := hB02.size; simp; omega) _ rfl ?_
        intro g6 c6 x6 ho6 hg6 hg6' hl6
        have hB6 : Below w.heap.size w x6 := (hB02.trans (hB4.mono hB02.size)).grown hg6 (by have := hB3.size; have := hB02.size; simp; omega) (fun j e => (HO2.out.lt j e).1)
        have HO6 := Lib.hid ho6
        clear ho6 hg6
        refine hK.out _ _ ?_
        clear hK K
        try simp only [Act.put, List.setIfInBounds_toArray, List.set_cons_zero, List.set_cons_succ]
        refine wpAnyL_takeW (i := 9) (oi := ⟨some 5, _, _, _, _, _⟩) (v := ?_) rfl (by kernel_rfl) (by kernel_rfl) (by kernel_rfl) (by kernel_rfl) (fun _ _ _ h => h) (Or.inl ⟨by rfl, ?_⟩) (.inl (by kernel_rfl)) ?_
        rotate_left
        focus (intro w hSw; (try dsimp only at hSw); go_simp; try (with_reducible rfl))
        try simp only [Act.put, List.setIfInBounds_toArray, List.set_cons_zero, List.set_cons_succ]
        refine wpAnyL_done (by kernel_rfl) ?_ _
        refine NoPanic.normal ?_
        go_wp2_with fail
        go_roundw
        case rel => exact ⟨k + 1, by omega, by go_num, Lib.hid (by rw [HTK'.out, bks_snoc, List.length_append]; exact HO6.out), hB6⟩
        case measure => simp [intOf]; omega
    · obtain rfl : k = l.length := by omega
      have HO' : Hid (wr.ownsRow w.heap.size 58 2 (.slice Av ((l.take l.length).filter q).length cv) (l.filter q).length (bks (l.filter q))) := Lib.hid (by have := HO.out; rw [List.take_length] at this ⊢; exact this)
      clear HO
      go_wp2
      go_ret
      exact ⟨_, rfl, HO'.out, hB⟩

end Go.Proofs.Ytkebgfpghjgghaa
