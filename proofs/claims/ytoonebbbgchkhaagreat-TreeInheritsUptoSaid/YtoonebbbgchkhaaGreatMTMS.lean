/-
  slices.Reverse over a list of the call's own. No conditions.
-/
import Derived.Test.YtoonebbbgchkhaaGreatMTNP
import Derived.Test.YtoonebbbgchkhaaGreatMEM
import Derived.Test.YtoonebbbgchkhaaGreatMRL
import Derived.Test.YtoonebbbgchkhaaGreatLayR
import Derived.Shelf.SlicesE.Reverse
namespace Go.Proofs.YtoonebbbgchkhaaGreat
open Go.ChangeShapes Go.WideShapes Go.ChangeAt Go.RowKit Go.Shelf Go.Sort
set_option maxRecDepth 100000

instance : Inhabited (Sl Pr) := ⟨⟨none, [], 0⟩⟩

theorem one_val (s : Sl Pr) : s.val.oneCell' = true := rfl
theorem below_putRow {base : Nat} {w : World} (n blk : Nat) (d : Array (Sl Pr)) (hb : base ≤ blk) : Below base w (putRow Sl.val (Sort.ahead w n) blk 0 d) := by
  refine ⟨rfl, rfl, rfl, by rw [size_putRow]; exact Nat.le_refl _, fun k hk => ?_⟩
  have : blk ≠ k := by omega
  simp [putRow, mapBlock, Sort.ahead, Array.getElem?_modify, this]

theorem reverse_any (ls : List (Sl Pr)) (A : Option Addr) (c n base : Nat) (hn : ls.length = n) (hl : n ≤ 4398046511104) (w : World) (ho : w.ownsRow base 40 1 (.slice A n c) n (ls.map Sl.val)) :
    Calls Tryz.prog 57 #[.slice A n c] w fun e w' => e = .returned (.tuple #[]) ∧ Rd w' A (ls.reverse.map Sl.val) ∧ Below base w w' := by
  subst hn
  rcases hls : ls with _ | ⟨s0, l0⟩
  · have := AnyE.slices_Reverse_empty Tryz.reverseP A c w
    refine Calls.mono this ?_
    rintro e w' ⟨rfl, rfl⟩
    exact ⟨rfl, Rd.nil _ _, Below.refl _ _⟩
  · rw [← hls]
    obtain ⟨_, hor⟩ := ho
    rcases hor with ⟨h0, _⟩ | ⟨g, cap, cur, hv, hbase, hb, h1, h2, h3, h4⟩
    · rw [hls] at h0
      cases h0
    · injection hv with hA hL hC
      subst hA
      have hcell : ∀ j (hj : j < ls.length), w.cell? ⟨g, j, none⟩ = some ls[j].val := fun j hj => by
        rw [cell_of_row w g j _ _ _ hb]
        have := congrArg (fun l : List Value => l[j]?) h4
        simp only [List.getElem?_map, List.getElem?_eq_getElem hj, Option.map_some] at this
        rw [List.getElem?_take_of_lt (by omega)] at this
        simpa using this
      have hH : Holds Sl.val w g 0 ls.toArray := fun j hj => by
        have hj' : j < ls.length := by simpa using hj
        rw [Nat.zero_add]
        refine ⟨?_, frozen_of_row w g j _ _ hb⟩
        rw [hcell j hj', getElem!_pos ls.toArray j hj]
        rfl
      have := AnyE.slices_Reverse Tryz.reverseP Sl.val one_val g 0 c ls w hH (by omega)
      refine Calls.mono this ?_
      rintro e w' ⟨rfl, q, rfl⟩
      refine ⟨rfl, ?_, below_putRow q g _ hbase⟩
      intro _
      refine ⟨g, 0, rfl, ?_, fun j u hu => ?_⟩
      · rw [size_putRow]
        exact (Array.getElem?_eq_some_iff.1 hb).1
      · have hj : j < ls.reverse.length := by
          have := (List.getElem?_eq_some_iff.1 hu).1
          simpa using this
        have h5 := cell?_putRow Sl.val (Sort.ahead w q) g 0 ls.toArray ls.reverse.toArray hH (by simp) j (by simpa using hj)
        rw [h5, getElem!_pos _ j (by simpa using hj)]
        rw [List.getElem?_map, List.getElem?_eq_getElem hj] at hu
        exact hu

end Go.Proofs.YtoonebbbgchkhaaGreat
