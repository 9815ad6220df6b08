/-
  UsageUnique's walk. Conditions: the set is as it comes in.
-/
import Derived.Test.YtnoidcelinaenaaUSW
import Derived.Test.YtnoidcelinaenaaUSP
import Derived.Test.YtnoidcelinaenaaUSU
import Derived.Test.YtnoidcelinaenaaRSM
namespace Go.Proofs.Ytnoidcelinaenaa
open Go.ChangeShapes Go.WideShapes Go.ChangeAt Go.RowKit
set_option maxRecDepth 100000
set_option linter.unusedSimpArgs false

theorem only_same {s : MSet} {k : Nat} {x nx : Sl Bk} (hx : (lineM s)[k]? = some x) (hn : (lineM s)[k + 1]? = some nx) (h : nx.l = x.l) : onlyL ((lineM s).map Sl.l) k ((lineM s).map Sl.l)[k + 1]?.toList = 0 := by
  unfold onlyL
  rw [List.getElem?_map (i := k), hx, List.getElem?_map (i := k + 1), hn]
  refine cntB_all fun b hb => ?_
  rw [hit_append]
  have : memB nx.l b = true := by rw [memB_iff, h]; exact hb
  simp [hitB, this]

set_option maxHeartbeats 8000000 in
theorem uniques_walk (s : MSet) (at_ : Int) (w : World) (hs : s.Good w) :
    Calls Try.prog 5 #[.agg s.cells.toArray, .int .i64 at_] w fun e w' => e = .returned (.bool true) ∧ Below w.heap.size w w' := by
  obtain ⟨w1, hw1⟩ : ∃ w1, w.alloc (.cells #[.string s.path_, .string s.origin_, .slice s.body_.A s.body_.l.length s.body_.c, .slice s.snaps_.A s.snaps_.l.length s.snaps_.c, .slice s.own_.A s.own_.l.length s.own_.c] 32) = w1 := ⟨_, rfl⟩
  have hB1 : Below w.heap.size w w1 := hw1 ▸ (Below.refl _ w).alloc (Nat.le_refl _) _
  have k1 : Blk w1 w.heap.size 32 s.cells := hw1 ▸ Blk.new w _ _
  have hsu := SetU.of hs
  have hnn := hsu.nn
  have HS := Lib.hid hsu
  have HU := Lib.hid (fun W (hW : Below w1.heap.size w1 W) => unique_any s at_ W ((hsu.below hB1).below hW))
  have HAL := Lib.hid alive15_any
  have HK := Lib.hid k1
  have HW1 := Lib.hid hw1
  have HB := Lib.hid hB1
  clear hw1 k1 hB1 hsu
  go_enter Try.func5, Try.ntmps5
  go_wp2_with (rw [HW1.out])
  refine (HAL.out _).mono ?_
  rintro e w2 ⟨rfl, hB2⟩
  have k2 := HK.out.below hB2 HK.out.lt
  have z0 := k2.cell 0
  have z1 := k2.cell 1
  have z2 := k2.cell 2
  have z3 := k2.cell 3
  have z4 := k2.cell 4
  simp only [List.getElem?_cons_zero, List.getElem?_cons_succ] at z0 z1 z2 z3 z4
  have HC := Lib.hid (HU.out w2 hB2)
  have HB2 := Lib.hid hB2
  obtain ⟨U, hUe⟩ : ∃ U : Int, ((uniqS s at_ : Nat) : Int) = U := ⟨_, rfl⟩
  rw [hUe] at HC
  have HUE := Lib.hid hUe
  clear k2 hB2 HU hUe
  go_wp2_with fail
  refine HC.out.mono ?_
  rintro e w3 ⟨rfl, hB3⟩
  have hB13 := HB2.out.trans (hB3.mono HB2.out.size)
  have hBw := HB.out.trans (hB13.mono HB.out.size)
  have k3 := HK.out.below hB13 HK.out.lt
  have z2 := k3.cell 2
  have z3 := k3.cell 3
  simp only [List.getElem?_cons_zero, List.getElem?_cons_succ] at z2 z3
  have hS3 := (HS.out.below HB.out).below hB13
  clear k3 hB3 HC
  by_cases h : at_ < 0 ∨ (s.snaps_.l.length : Int) ≤ at_
  · have hR : U = 0 := by rw [← HUE.out]; unfold uniqS; rw [if_pos h]; rfl
    subst hR
    clear hS3
    by_cases h0 : at_ < 0
    · clear h
      go_wp2
      go_ret
      exact ⟨rfl, hBw⟩
    · have h1 : (s.snaps_.l.length : Int) ≤ at_ := by omega
      have h2 : ¬ at_ < s.snaps_.l.length := by omega
      clear h
      go_wp2
      go_ret
      exact ⟨rfl, hBw⟩
  · obtain ⟨k, rfl⟩ : ∃ k : Nat, at_ = k := ⟨at_.toNat, by omega⟩
    have hk : k < s.snaps_.l.length := by omega
    have h0 : ¬ (k : Int) < 0 := by omega
    have hR : U = (onlyL ((lineM s).map Sl.l) k ((lineM s).map Sl.l)[k + 1]?.toList : Nat) := by
      rw [← HUE.out]
      unfold uniqS
      rw [if_neg h]
      rfl
    obtain ⟨y, hy⟩ : ∃ y, s.snaps_.l[k]? = some y := ⟨_, List.getElem?_eq_getElem hk⟩
    have hle := onlyL_le s k ((lineM s).map Sl.l)[k + 1]?.toList y.body_ (line_at hy)
    have hU0 : 0 ≤ U := by rw [hR]; omega
    have hU1 : U ≤ (y.body_.l.length : Int) := by rw [hR]; omega
    have hym := List.mem_of_getElem? (line_at hy)
    obtain ⟨b, off, hA, hb, hc⟩ := Rd.elem (cells := MSnap.cells) (n := 5) (fun _ => rfl) (by omega) hS3.sn hy
    have e2 := hc 2 (.slice y.body_.A y.body_.l.length y.body_.c) rfl
    rw [← Nat.add_assoc] at e2
    rw [hA] at z3
    have hwk : wrap64 ((k : Int) + 1) = (k : Int) + 1 := IntWalk.wrap64_in _ (by omega)
    have HSAME : Hid (∀ nx : Sl Bk, (lineM s)[k + 1]? = some nx → Calls Try.prog 17 #[nx.val, y.body_.val] w3 fun e w' => ∃ B : Bool, e = .returned (.bool B) ∧ Hid (B = true → U = 0) ∧ Below w3.heap.size w3 w') := Lib.hid fun nx hnx => by
      have hnm := List.mem_of_getElem? hnx
      refine (refSame_any nx.A y.body_.A nx.c y.body_.c _ _ nx.l y.body_.l rfl rfl (by have := (hS3.bo nx hnm).2; omega) (by have := (hS3.bo _ hym).2; omega) w3 (hS3.bo nx hnm).1 (hS3.bo _ hym).1).mono ?_
      rintro e w' ⟨rfl, hB⟩
      refine ⟨_, rfl, Lib.hid fun hd => ?_, hB⟩
      rw [hR, only_same (line_at hy) hnx (of_decide_eq_true hd)]
      rfl
    by_cases hlast : k + 1 = s.snaps_.l.length
    · have hn1 : ¬ (k : Int) + 1 < s.snaps_.l.length := by omega
      have hn2 : ¬ k + 1 < s.snaps_.l.length := by omega
      have HD := Lib.hid (HSAME.out s.body_ (by rw [hlast]; exact line_last s))
      clear h hc hS3 hR hle hy hlast HSAME HUE
      go_wp2_with fail
      refine HD.out.mono ?_
      rintro e w4 ⟨B, rfl, hBU, hB4⟩
      have hBz := hBw.trans (hB4.mono hBw.size)
      clear HD
      rcases B with _ | _
      · clear hBU
        go_wp2
        go_ret
        exact ⟨rfl, hBz⟩
      · have hU := hBU.out rfl
        subst hU
        go_wp2
        go_ret
        exact ⟨rfl, hBz⟩
    · obtain ⟨ny, hny⟩ : ∃ ny, s.snaps_.l[k + 1]? = some ny := ⟨_, List.getElem?_eq_getElem (by omega)⟩
      have hn1 : (k : Int) + 1 < s.snaps_.l.length := by omega
      have hn2 : k + 1 < s.snaps_.l.length := by omega
      obtain ⟨b', off', hA', _, hc'⟩ := Rd.elem (cells := MSnap.cells) (n := 5) (fun _ => rfl) (by omega) hS3.sn hny
      have f2 := hc' 2 (.slice ny.body_.A ny.body_.l.length ny.body_.c) rfl
      rw [hA] at hA'
      injection hA' with hA'
      injection hA' with e1' e2' _
      subst e1' e2'
      rw [← Nat.add_assoc] at f2
      have HD := Lib.hid (HSAME.out ny.body_ (line_at hny))
      clear h hc hc' hS3 hR hle hy hny hlast HSAME HUE
      go_wp2_with fail
      refine HD.out.mono ?_
      rintro e w4 ⟨B, rfl, hBU, hB4⟩
      have hBz := hBw.trans (hB4.mono hBw.size)
      clear HD
      rcases B with _ | _
      · clear hBU
        go_wp2
        go_ret
        exact ⟨rfl, hBz⟩
      · have hU := hBU.out rfl
        subst hU
        go_wp2
        go_ret
        exact ⟨rfl, hBz⟩

end Go.Proofs.Ytnoidcelinaenaa
