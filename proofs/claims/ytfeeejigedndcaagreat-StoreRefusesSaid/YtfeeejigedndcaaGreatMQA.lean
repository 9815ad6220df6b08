/-
  Faults that are panicked: fail, must. Lists in memory of their own: copied. No conditions.
-/
import Derived.Test.YtfeeejigedndcaaGreatMGB
import Derived.Test.YtfeeejigedndcaaGreatMGK
import Derived.Test.YtfeeejigedndcaaGreatMGW
import Derived.Test.YtfeeejigedndcaaGreatMZ
import Derived.WalkSmall
namespace Go.Proofs.YtfeeejigedndcaaGreat
open Go.ChangeShapes Go.WideShapes Go.ChangeAt Go.RowKit
set_option maxRecDepth 100000

/-- What a fault panics. -/
abbrev fltV (x : Int) : Value := .iface 97 (.agg #[.int .i64 x])
abbrev flt (x : Int) : Ending := .panicked [{ v := fltV x, recovered := false }]

theorem fail_any (x : Int) (w : World) :
    Calls Tryz.prog 51 #[.int .i64 x] w fun e w' => e = flt x ∧ w = w' := by
  go_enter Tryz.func51, Tryz.ntmps51
  go_wp2
  exact ⟨rfl, rfl, rfl⟩

theorem must_ok (w : World) :
    Calls Tryz.prog 49 #[.int .i64 0] w fun e w' => e = .returned (.tuple #[]) ∧ w = w' := by
  go_enter Tryz.func49, Tryz.ntmps49
  go_wp2
  go_end0
  exact ⟨rfl, rfl⟩

theorem must_no (x : Int) (hx : x ≠ 0) (w : World) :
    Calls Tryz.prog 49 #[.int .i64 x] w fun e w' => e = flt x ∧ w = w' := by
  go_enter Tryz.func49, Tryz.ntmps49
  go_wp2_with (go_at_call 51; refine (fail_any x _).mono ?_; rintro e w1 ⟨rfl, rfl⟩)
  exact ⟨rfl, rfl, rfl⟩

theorem qinfo3 : (Tryz.prog.info? 3).map (fun i => (i.zero, i.size, i.bytes)) = some (some (.int .i64 0), 1, 8) := by kernel_rfl
theorem icells_one (zs : List Int) : ∀ u ∈ zs.map (Value.int .i64), u.oneCell' = true := fun u hu => by
  obtain ⟨z, _, rfl⟩ := List.mem_map.1 hu
  rfl

theorem copyB_any (A : Option Addr) (n c : Nat) (zs : List Int) (hn : zs.length = n) (hc : A = none → c = 0) (hl : n ≤ 140737488351232) (w : World) (hr : RdB w A zs) :
    Calls Tryz.prog 45 #[.slice A n c] w fun e w' => ∃ v, e = .returned v ∧ w'.ownsRow w.heap.size 5 1 v n (octCells zs) ∧ Below w.heap.size w w' := by
  obtain ⟨i0, hi, hz0, hz1, hz2⟩ := info_parts info5
  have HR := Lib.hid hr
  have HN : Hid ((octCells zs).length = n) := by rw [octCells_length]; exact hn
  have HO := Lib.hid (own_none w w.heap.size 5)
  have H1 := Lib.hid (octCells_one zs)
  clear hr hn
  go_enter Tryz.func45, Tryz.ntmps45
  go_wp2_with (at_builtin; refine wpList_append_rd_wide (by rfl) _ _ 46 (by rfl) w.heap.size 5 i0 (.int .u8 0) 1 Tryz.underlying46 hi hz0 hz1 hz2 rfl (.slice none 0 0) 0 [] (by rfl) HO.out A n c (octCells zs) (by rfl) HN.out HR.out hc H1.out (by unfold maxLen; omega) (by omega) (Nat.le_refl _) ?_; intro v6 w6 hown6 hgrow6)
  have HO6 := Lib.hid (own_bare' hown6)
  have hB6 : Below w.heap.size w w6 := (Below.refl _ w).grown hgrow6 (Nat.le_refl _) (fun j e => by simp [Value.ownBlock] at e)
  clear hown6 hgrow6
  go_wp2
  go_ret
  exact ⟨_, rfl, HO6.out, hB6⟩

theorem copyI_any (A : Option Addr) (n c : Nat) (zs : List Int) (hn : zs.length = n) (hc : A = none → c = 0) (hl : n ≤ 17592186044416) (w : World) (hr : RdI w A zs) :
    Calls Tryz.prog 77 #[.slice A n c] w fun e w' => ∃ v, e = .returned v ∧ w'.ownsRow w.heap.size 3 1 v n (zs.map (Value.int .i64)) ∧ Below w.heap.size w w' := by
  obtain ⟨i0, hi, hz0, hz1, hz2⟩ := info_parts qinfo3
  have HR := Lib.hid hr
  have HN : Hid ((zs.map (Value.int .i64)).length = n) := by rw [List.length_map]; exact hn
  have HO := Lib.hid (own_none w w.heap.size 3)
  have H1 := Lib.hid (icells_one zs)
  unfold RdI at HR
  clear hr hn
  go_enter Tryz.func77, Tryz.ntmps77
  generalize zs.map (Value.int .i64) = vs at *
  go_wp2_with (at_builtin; refine wpList_append_rd_wide (by rfl) _ _ 30 (by rfl) w.heap.size 3 i0 (.int .i64 0) 8 Tryz.underlying30 hi hz0 hz1 hz2 rfl (.slice none 0 0) 0 [] (by rfl) HO.out A n c vs (by rfl) HN.out HR.out hc H1.out (by unfold maxLen; omega) (by omega) (Nat.le_refl _) ?_; intro v6 w6 hown6 hgrow6)
  have HO6 := Lib.hid (own_bare' hown6)
  have hB6 : Below w.heap.size w w6 := (Below.refl _ w).grown hgrow6 (Nat.le_refl _) (fun j e => by simp [Value.ownBlock] at e)
  clear hown6 hgrow6
  go_wp2
  go_ret
  exact ⟨_, rfl, HO6.out, hB6⟩

end Go.Proofs.YtfeeejigedndcaaGreat
