/-
  slices.ContainsFunc and every over api.Stage, whatever closure. No conditions but those written.
-/
import Derived.Test.YtoonebbbgchkhaaGreatMSX
import Derived.Test.YtoonebbbgchkhaaGreatMGRE
import Derived.Test.YtoonebbbgchkhaaGreatMRL
import Derived.Test.YtoonebbbgchkhaaGreatLayH
import Derived.BigQuiet
import Derived.Deep.WholeRow
namespace Go.Proofs.YtoonebbbgchkhaaGreat
open Go.ChangeShapes Go.WideShapes Go.ChangeAt Go.RowKit
set_option maxRecDepth 100000

theorem contains_Stage (p : MStage → Bool) (g : Nat) (lb : Array Value) (eg : Enters Tryz.prog g) (A : Option Addr) (c n : Nat) (l : List MStage) (hn : l.length = n) (w : World)
    (hp : ∀ (W : World) (x : MStage), x ∈ l → Below w.heap.size w W → Calls Tryz.prog g (#[.agg x.cells.toArray] ++ lb) W fun e w' => e = .returned (.bool (p x)) ∧ Below W.heap.size W w') (hl : n ≤ 4398046511104) (hr : Rd w A (l.flatMap MStage.cells)) :
    Calls Tryz.prog 130 #[.slice A n c, .func (.func g) #[] lb] w fun e w' => e = .returned (.bool (l.any p)) ∧ Below w.heap.size w w' := by
  have HI := indexMem Tryz.indexStage 21 Tryz.isAgg61 Tryz.sizeOf61 MStage.cells (fun _ => rfl) (by omega) p g lb eg A c n l hn w hp (by omega) hr
  change Calls _ 151 _ _ _ at HI
  have HI' := Lib.hid HI
  rw [← findI_any]
  obtain ⟨F, hF⟩ : ∃ F, findI p l = F := ⟨_, rfl⟩
  rw [hF] at HI' ⊢
  clear HI hF hp hr
  go_enter Tryz.func130, Tryz.ntmps130
  go_wp2_with fail
  refine HI'.out.mono ?_
  rintro e w2 ⟨rfl, hB⟩
  go_wp2
  go_ret
  exact ⟨rfl, hB⟩

attribute [-simp] Tryz.isAgg61 Tryz.sizeOf61
theorem every1_Stage (v : Bool) (g : Nat) (lb : Array Value) (eg : Enters Tryz.prog g) (B0 : Nat) (x : MStage) (w : World) (h0 : w.cell? ⟨B0, 0, none⟩ = some (.func (.func g) #[] lb))
    (hp : ∀ (W : World), Below w.heap.size w W → Calls Tryz.prog g (#[.agg x.cells.toArray] ++ lb) W fun e w' => e = .returned (.bool v) ∧ Below W.heap.size W w') :
    Calls Tryz.prog 131 #[.agg x.cells.toArray, .pointer (some ⟨B0, 0, none⟩)] w fun e w' => e = .returned (.bool (!v)) ∧ Below w.heap.size w w' := by
  have eg' : ∀ args w, (callFunc g args).run Tryz.prog w = .ok (.enter g args) w := eg
  have hl := World.block_lt_of_cell? w ⟨B0, 0, none⟩ h0
  obtain ⟨cs, hcs⟩ : ∃ cs, x.cells.toArray = cs := ⟨_, rfl⟩
  have hn : cs.size = 21 := by rw [← hcs]; rfl
  rw [hcs] at hp ⊢
  have hB1 : Below w.heap.size w (w.alloc (.cells cs 61)) := (Below.refl _ w).alloc (Nat.le_refl _) _
  have hlc := run_loadCellsFrom_new (P := Tryz.prog) w 61 cs 21 hn
  have HP := Lib.hid (hp _ hB1)
  have hs := hB1.size
  clear hp hcs
  go_enter Tryz.func131, Tryz.ntmps131
  go_wp2_with fail
  simp only [Tryz.isAgg61, Tryz.sizeOf61, Result.andThen, ↓reduceIte, hlc]
  rw [Oper.upon_value]
  go_wp2_with fail
  refine HP.out.mono ?_
  rintro e w2 ⟨rfl, hB2⟩
  cases v
  all_goals
    go_wp2
    go_ret
    exact ⟨rfl, hB1.trans (hB2.mono hs)⟩

theorem every_Stage (p : MStage → Bool) (g : Nat) (lb : Array Value) (eg : Enters Tryz.prog g) (A : Option Addr) (c n : Nat) (l : List MStage) (hn : l.length = n) (w : World)
    (hp : ∀ (W : World) (x : MStage), x ∈ l → Below w.heap.size w W → Calls Tryz.prog g (#[.agg x.cells.toArray] ++ lb) W fun e w' => e = .returned (.bool (p x)) ∧ Below W.heap.size W w') (hl : n ≤ 4398046511104) (hr : Rd w A (l.flatMap MStage.cells)) :
    Calls Tryz.prog 97 #[.slice A n c, .func (.func g) #[] lb] w fun e w' => e = .returned (.bool (l.all p)) ∧ Below w.heap.size w w' := by
  obtain ⟨w1, hw1⟩ : ∃ w1, w.alloc (.cells #[.func (.func g) #[] lb] 89) = w1 := ⟨_, rfl⟩
  have hB1 : Below w.heap.size w w1 := hw1 ▸ (Below.refl _ w).alloc (Nat.le_refl _) _
  have k1 : Blk w1 w.heap.size 89 [.func (.func g) #[] lb] := hw1 ▸ Blk.new w _ _
  have HC := Lib.hid (contains_Stage (fun x => !(p x)) 131 #[.pointer (some ⟨w.heap.size, 0, none⟩)] (enters_of Tryz.func131 (by kernel_rfl) rfl) A c n l hn w1
    (fun W x hx hB => every1_Stage (p x) g lb eg w.heap.size x W ((k1.below hB k1.lt).cell 0) fun W' hB' => hp W' x hx (hB1.trans ((hB.trans (hB'.mono hB.size)).mono hB1.size))) hl (hr.below hB1))
  have e : l.any (fun x => !(p x)) = !(l.all p) := by
    rw [List.not_all_eq_any_not]
  rw [e] at HC
  obtain ⟨R, hR⟩ : ∃ R, l.all p = R := ⟨_, rfl⟩
  rw [hR] at HC ⊢
  have HW1 := Lib.hid hw1
  clear hR e hp hr k1 hw1
  go_enter Tryz.func97, Tryz.ntmps97
  go_wp2_with fail
  rw [HW1.out]
  go_wp2_with fail
  refine HC.out.mono ?_
  rintro e w2 ⟨rfl, hB2⟩
  cases R
  all_goals
    go_wp2
    go_ret
    exact ⟨rfl, hB1.trans (hB2.mono hB1.size)⟩

end Go.Proofs.YtoonebbbgchkhaaGreat

namespace Go.Proofs.YtoonebbbgchkhaaGreat
open Go.ChangeShapes Go.WideShapes Go.ChangeAt Go.RowKit
set_option maxRecDepth 100000

theorem contains_Entry (p : MEntry → Bool) (g : Nat) (lb : Array Value) (eg : Enters Tryz.prog g) (A : Option Addr) (c n : Nat) (l : List MEntry) (hn : l.length = n) (w : World)
    (hp : ∀ (W : World) (x : MEntry), x ∈ l → Below w.heap.size w W → Calls Tryz.prog g (#[.agg x.cells.toArray] ++ lb) W fun e w' => e = .returned (.bool (p x)) ∧ Below W.heap.size W w') (hl : n ≤ 4398046511104) (hr : Rd w A (l.flatMap MEntry.cells)) :
    Calls Tryz.prog 133 #[.slice A n c, .func (.func g) #[] lb] w fun e w' => e = .returned (.bool (l.any p)) ∧ Below w.heap.size w w' := by
  have HI := indexMem Tryz.indexEntry 4 Tryz.isAgg73 Tryz.sizeOf73 MEntry.cells (fun _ => rfl) (by omega) p g lb eg A c n l hn w hp (by omega) hr
  change Calls _ 152 _ _ _ at HI
  have HI' := Lib.hid HI
  rw [← findI_any]
  obtain ⟨F, hF⟩ : ∃ F, findI p l = F := ⟨_, rfl⟩
  rw [hF] at HI' ⊢
  clear HI hF hp hr
  go_enter Tryz.func133, Tryz.ntmps133
  go_wp2_with fail
  refine HI'.out.mono ?_
  rintro e w2 ⟨rfl, hB⟩
  go_wp2
  go_ret
  exact ⟨rfl, hB⟩

theorem every1_Entry (v : Bool) (g : Nat) (lb : Array Value) (eg : Enters Tryz.prog g) (B0 : Nat) (x : MEntry) (w : World) (h0 : w.cell? ⟨B0, 0, none⟩ = some (.func (.func g) #[] lb))
    (hp : ∀ (W : World), Below w.heap.size w W → Calls Tryz.prog g (#[.agg x.cells.toArray] ++ lb) W fun e w' => e = .returned (.bool v) ∧ Below W.heap.size W w') :
    Calls Tryz.prog 134 #[.agg x.cells.toArray, .pointer (some ⟨B0, 0, none⟩)] w fun e w' => e = .returned (.bool (!v)) ∧ Below w.heap.size w w' := by
  have eg' : ∀ args w, (callFunc g args).run Tryz.prog w = .ok (.enter g args) w := eg
  have hl := World.block_lt_of_cell? w ⟨B0, 0, none⟩ h0
  obtain ⟨w1, hw1⟩ : ∃ w1, w.alloc (.cells #[.string x.user_, .int .i64 x.kind_, .string x.path_, .int .i64 x.err_] 73) = w1 := ⟨_, rfl⟩
  have hB1 : Below w.heap.size w w1 := hw1 ▸ (Below.refl _ w).alloc (Nat.le_refl _) _
  have k1 : Blk w1 w.heap.size 73 [.string x.user_, .int .i64 x.kind_, .string x.path_, .int .i64 x.err_] := hw1 ▸ Blk.new w _ _
  have h0' : w1.cell? ⟨B0, 0, none⟩ = some (.func (.func g) #[] lb) := by
    rw [hB1.cell (p := ⟨B0, 0, none⟩) hl]
    exact h0
  have z0 := k1.cell 0
  have z1 := k1.cell 1
  have z2 := k1.cell 2
  have z3 := k1.cell 3
  simp only [List.getElem?_cons_zero, List.getElem?_cons_succ] at z0 z1 z2 z3
  have HP := Lib.hid (hp w1 hB1)
  have HW1 := Lib.hid hw1
  clear hp hw1 k1
  go_enter Tryz.func134, Tryz.ntmps134
  go_wp2_with fail
  rw [HW1.out]
  first
    | refine HP.out.mono ?_
    | (go_wp2_with fail; refine HP.out.mono ?_)
  rintro e w2 ⟨rfl, hB2⟩
  cases v
  all_goals
    go_wp2
    go_ret
    exact ⟨rfl, hB1.trans (hB2.mono hB1.size)⟩

theorem every_Entry (p : MEntry → Bool) (g : Nat) (lb : Array Value) (eg : Enters Tryz.prog g) (A : Option Addr) (c n : Nat) (l : List MEntry) (hn : l.length = n) (w : World)
    (hp : ∀ (W : World) (x : MEntry), x ∈ l → Below w.heap.size w W → Calls Tryz.prog g (#[.agg x.cells.toArray] ++ lb) W fun e w' => e = .returned (.bool (p x)) ∧ Below W.heap.size W w') (hl : n ≤ 4398046511104) (hr : Rd w A (l.flatMap MEntry.cells)) :
    Calls Tryz.prog 101 #[.slice A n c, .func (.func g) #[] lb] w fun e w' => e = .returned (.bool (l.all p)) ∧ Below w.heap.size w w' := by
  obtain ⟨w1, hw1⟩ : ∃ w1, w.alloc (.cells #[.func (.func g) #[] lb] 90) = w1 := ⟨_, rfl⟩
  have hB1 : Below w.heap.size w w1 := hw1 ▸ (Below.refl _ w).alloc (Nat.le_refl _) _
  have k1 : Blk w1 w.heap.size 90 [.func (.func g) #[] lb] := hw1 ▸ Blk.new w _ _
  have HC := Lib.hid (contains_Entry (fun x => !(p x)) 134 #[.pointer (some ⟨w.heap.size, 0, none⟩)] (enters_of Tryz.func134 (by kernel_rfl) rfl) A c n l hn w1
    (fun W x hx hB => every1_Entry (p x) g lb eg w.heap.size x W ((k1.below hB k1.lt).cell 0) fun W' hB' => hp W' x hx (hB1.trans ((hB.trans (hB'.mono hB.size)).mono hB1.size))) hl (hr.below hB1))
  have e : l.any (fun x => !(p x)) = !(l.all p) := by
    rw [List.not_all_eq_any_not]
  rw [e] at HC
  obtain ⟨R, hR⟩ : ∃ R, l.all p = R := ⟨_, rfl⟩
  rw [hR] at HC ⊢
  have HW1 := Lib.hid hw1
  clear hR e hp hr k1 hw1
  go_enter Tryz.func101, Tryz.ntmps101
  go_wp2_with fail
  rw [HW1.out]
  go_wp2_with fail
  refine HC.out.mono ?_
  rintro e w2 ⟨rfl, hB2⟩
  cases R
  all_goals
    go_wp2
    go_ret
    exact ⟨rfl, hB1.trans (hB2.mono hB1.size)⟩

end Go.Proofs.YtoonebbbgchkhaaGreat

namespace Go.Proofs.YtoonebbbgchkhaaGreat
open Go.ChangeShapes Go.WideShapes Go.ChangeAt Go.RowKit
set_option maxRecDepth 100000

theorem contains_Snap (p : MSnap → Bool) (g : Nat) (lb : Array Value) (eg : Enters Tryz.prog g) (A : Option Addr) (c n : Nat) (l : List MSnap) (hn : l.length = n) (w : World)
    (hp : ∀ (W : World) (x : MSnap), x ∈ l → Below w.heap.size w W → Calls Tryz.prog g (#[.agg x.cells.toArray] ++ lb) W fun e w' => e = .returned (.bool (p x)) ∧ Below W.heap.size W w') (hl : n ≤ 4398046511104) (hr : Rd w A (l.flatMap MSnap.cells)) :
    Calls Tryz.prog 142 #[.slice A n c, .func (.func g) #[] lb] w fun e w' => e = .returned (.bool (l.any p)) ∧ Below w.heap.size w w' := by
  have HI := indexMem Tryz.indexSnap 5 Tryz.isAgg54 Tryz.sizeOf54 MSnap.cells (fun _ => rfl) (by omega) p g lb eg A c n l hn w hp (by omega) hr
  change Calls _ 159 _ _ _ at HI
  have HI' := Lib.hid HI
  rw [← findI_any]
  obtain ⟨F, hF⟩ : ∃ F, findI p l = F := ⟨_, rfl⟩
  rw [hF] at HI' ⊢
  clear HI hF hp hr
  go_enter Tryz.func142, Tryz.ntmps142
  go_wp2_with fail
  refine HI'.out.mono ?_
  rintro e w2 ⟨rfl, hB⟩
  go_wp2
  go_ret
  exact ⟨rfl, hB⟩

theorem every1_Snap (v : Bool) (g : Nat) (lb : Array Value) (eg : Enters Tryz.prog g) (B0 : Nat) (x : MSnap) (w : World) (h0 : w.cell? ⟨B0, 0, none⟩ = some (.func (.func g) #[] lb))
    (hp : ∀ (W : World), Below w.heap.size w W → Calls Tryz.prog g (#[.agg x.cells.toArray] ++ lb) W fun e w' => e = .returned (.bool v) ∧ Below W.heap.size W w') :
    Calls Tryz.prog 143 #[.agg x.cells.toArray, .pointer (some ⟨B0, 0, none⟩)] w fun e w' => e = .returned (.bool (!v)) ∧ Below w.heap.size w w' := by
  have eg' : ∀ args w, (callFunc g args).run Tryz.prog w = .ok (.enter g args) w := eg
  have hl := World.block_lt_of_cell? w ⟨B0, 0, none⟩ h0
  obtain ⟨w1, hw1⟩ : ∃ w1, w.alloc (.cells #[.string x.name_, .int .i64 x.guid_, .slice x.body_.A x.body_.l.length x.body_.c, .slice x.tags_.A x.tags_.l.length x.tags_.c, .slice x.own_.A x.own_.l.length x.own_.c] 54) = w1 := ⟨_, rfl⟩
  have hB1 : Below w.heap.size w w1 := hw1 ▸ (Below.refl _ w).alloc (Nat.le_refl _) _
  have k1 : Blk w1 w.heap.size 54 [.string x.name_, .int .i64 x.guid_, .slice x.body_.A x.body_.l.length x.body_.c, .slice x.tags_.A x.tags_.l.length x.tags_.c, .slice x.own_.A x.own_.l.length x.own_.c] := hw1 ▸ Blk.new w _ _
  have h0' : w1.cell? ⟨B0, 0, none⟩ = some (.func (.func g) #[] lb) := by
    rw [hB1.cell (p := ⟨B0, 0, none⟩) hl]
    exact h0
  have z0 := k1.cell 0
  have z1 := k1.cell 1
  have z2 := k1.cell 2
  have z3 := k1.cell 3
  have z4 := k1.cell 4
  simp only [List.getElem?_cons_zero, List.getElem?_cons_succ] at z0 z1 z2 z3 z4
  have HP := Lib.hid (hp w1 hB1)
  have HW1 := Lib.hid hw1
  clear hp hw1 k1
  go_enter Tryz.func143, Tryz.ntmps143
  go_wp2_with fail
  rw [HW1.out]
  first
    | refine HP.out.mono ?_
    | (go_wp2_with fail; refine HP.out.mono ?_)
  rintro e w2 ⟨rfl, hB2⟩
  cases v
  all_goals
    go_wp2
    go_ret
    exact ⟨rfl, hB1.trans (hB2.mono hB1.size)⟩

theorem every_Snap (p : MSnap → Bool) (g : Nat) (lb : Array Value) (eg : Enters Tryz.prog g) (A : Option Addr) (c n : Nat) (l : List MSnap) (hn : l.length = n) (w : World)
    (hp : ∀ (W : World) (x : MSnap), x ∈ l → Below w.heap.size w W → Calls Tryz.prog g (#[.agg x.cells.toArray] ++ lb) W fun e w' => e = .returned (.bool (p x)) ∧ Below W.heap.size W w') (hl : n ≤ 4398046511104) (hr : Rd w A (l.flatMap MSnap.cells)) :
    Calls Tryz.prog 118 #[.slice A n c, .func (.func g) #[] lb] w fun e w' => e = .returned (.bool (l.all p)) ∧ Below w.heap.size w w' := by
  obtain ⟨w1, hw1⟩ : ∃ w1, w.alloc (.cells #[.func (.func g) #[] lb] 147) = w1 := ⟨_, rfl⟩
  have hB1 : Below w.heap.size w w1 := hw1 ▸ (Below.refl _ w).alloc (Nat.le_refl _) _
  have k1 : Blk w1 w.heap.size 147 [.func (.func g) #[] lb] := hw1 ▸ Blk.new w _ _
  have HC := Lib.hid (contains_Snap (fun x => !(p x)) 143 #[.pointer (some ⟨w.heap.size, 0, none⟩)] (enters_of Tryz.func143 (by kernel_rfl) rfl) A c n l hn w1
    (fun W x hx hB => every1_Snap (p x) g lb eg w.heap.size x W ((k1.below hB k1.lt).cell 0) fun W' hB' => hp W' x hx (hB1.trans ((hB.trans (hB'.mono hB.size)).mono hB1.size))) hl (hr.below hB1))
  have e : l.any (fun x => !(p x)) = !(l.all p) := by
    rw [List.not_all_eq_any_not]
  rw [e] at HC
  obtain ⟨R, hR⟩ : ∃ R, l.all p = R := ⟨_, rfl⟩
  rw [hR] at HC ⊢
  have HW1 := Lib.hid hw1
  clear hR e hp hr k1 hw1
  go_enter Tryz.func118, Tryz.ntmps118
  go_wp2_with fail
  rw [HW1.out]
  go_wp2_with fail
  refine HC.out.mono ?_
  rintro e w2 ⟨rfl, hB2⟩
  cases R
  all_goals
    go_wp2
    go_ret
    exact ⟨rfl, hB1.trans (hB2.mono hB1.size)⟩

end Go.Proofs.YtoonebbbgchkhaaGreat

namespace Go.Proofs.YtoonebbbgchkhaaGreat
open Go.ChangeShapes Go.WideShapes Go.ChangeAt Go.RowKit
set_option maxRecDepth 100000

theorem contains_Set (p : MSet → Bool) (g : Nat) (lb : Array Value) (eg : Enters Tryz.prog g) (A : Option Addr) (c n : Nat) (l : List MSet) (hn : l.length = n) (w : World)
    (hp : ∀ (W : World) (x : MSet), x ∈ l → Below w.heap.size w W → Calls Tryz.prog g (#[.agg x.cells.toArray] ++ lb) W fun e w' => e = .returned (.bool (p x)) ∧ Below W.heap.size W w') (hl : n ≤ 4398046511104) (hr : Rd w A (l.flatMap MSet.cells)) :
    Calls Tryz.prog 115 #[.slice A n c, .func (.func g) #[] lb] w fun e w' => e = .returned (.bool (l.any p)) ∧ Below w.heap.size w w' := by
  have HI := indexMem Tryz.indexSet 5 Tryz.isAgg42 Tryz.sizeOf42 MSet.cells (fun _ => rfl) (by omega) p g lb eg A c n l hn w hp (by omega) hr
  change Calls _ 59 _ _ _ at HI
  have HI' := Lib.hid HI
  rw [← findI_any]
  obtain ⟨F, hF⟩ : ∃ F, findI p l = F := ⟨_, rfl⟩
  rw [hF] at HI' ⊢
  clear HI hF hp hr
  go_enter Tryz.func115, Tryz.ntmps115
  go_wp2_with fail
  refine HI'.out.mono ?_
  rintro e w2 ⟨rfl, hB⟩
  go_wp2
  go_ret
  exact ⟨rfl, hB⟩

theorem every1_Set (v : Bool) (g : Nat) (lb : Array Value) (eg : Enters Tryz.prog g) (B0 : Nat) (x : MSet) (w : World) (h0 : w.cell? ⟨B0, 0, none⟩ = some (.func (.func g) #[] lb))
    (hp : ∀ (W : World), Below w.heap.size w W → Calls Tryz.prog g (#[.agg x.cells.toArray] ++ lb) W fun e w' => e = .returned (.bool v) ∧ Below W.heap.size W w') :
    Calls Tryz.prog 116 #[.agg x.cells.toArray, .pointer (some ⟨B0, 0, none⟩)] w fun e w' => e = .returned (.bool (!v)) ∧ Below w.heap.size w w' := by
  have eg' : ∀ args w, (callFunc g args).run Tryz.prog w = .ok (.enter g args) w := eg
  have hl := World.block_lt_of_cell? w ⟨B0, 0, none⟩ h0
  obtain ⟨w1, hw1⟩ : ∃ w1, w.alloc (.cells #[.string x.path_, .string x.origin_, .slice x.body_.A x.body_.l.length x.body_.c, .slice x.snaps_.A x.snaps_.l.length x.snaps_.c, .slice x.own_.A x.own_.l.length x.own_.c] 42) = w1 := ⟨_, rfl⟩
  have hB1 : Below w.heap.size w w1 := hw1 ▸ (Below.refl _ w).alloc (Nat.le_refl _) _
  have k1 : Blk w1 w.heap.size 42 [.string x.path_, .string x.origin_, .slice x.body_.A x.body_.l.length x.body_.c, .slice x.snaps_.A x.snaps_.l.length x.snaps_.c, .slice x.own_.A x.own_.l.length x.own_.c] := hw1 ▸ Blk.new w _ _
  have h0' : w1.cell? ⟨B0, 0, none⟩ = some (.func (.func g) #[] lb) := by
    rw [hB1.cell (p := ⟨B0, 0, none⟩) hl]
    exact h0
  have z0 := k1.cell 0
  have z1 := k1.cell 1
  have z2 := k1.cell 2
  have z3 := k1.cell 3
  have z4 := k1.cell 4
  simp only [List.getElem?_cons_zero, List.getElem?_cons_succ] at z0 z1 z2 z3 z4
  have HP := Lib.hid (hp w1 hB1)
  have HW1 := Lib.hid hw1
  clear hp hw1 k1
  go_enter Tryz.func116, Tryz.ntmps116
  go_wp2_with fail
  rw [HW1.out]
  first
    | refine HP.out.mono ?_
    | (go_wp2_with fail; refine HP.out.mono ?_)
  rintro e w2 ⟨rfl, hB2⟩
  cases v
  all_goals
    go_wp2
    go_ret
    exact ⟨rfl, hB1.trans (hB2.mono hB1.size)⟩

theorem every_Set (p : MSet → Bool) (g : Nat) (lb : Array Value) (eg : Enters Tryz.prog g) (A : Option Addr) (c n : Nat) (l : List MSet) (hn : l.length = n) (w : World)
    (hp : ∀ (W : World) (x : MSet), x ∈ l → Below w.heap.size w W → Calls Tryz.prog g (#[.agg x.cells.toArray] ++ lb) W fun e w' => e = .returned (.bool (p x)) ∧ Below W.heap.size W w') (hl : n ≤ 4398046511104) (hr : Rd w A (l.flatMap MSet.cells)) :
    Calls Tryz.prog 89 #[.slice A n c, .func (.func g) #[] lb] w fun e w' => e = .returned (.bool (l.all p)) ∧ Below w.heap.size w w' := by
  obtain ⟨w1, hw1⟩ : ∃ w1, w.alloc (.cells #[.func (.func g) #[] lb] 97) = w1 := ⟨_, rfl⟩
  have hB1 : Below w.heap.size w w1 := hw1 ▸ (Below.refl _ w).alloc (Nat.le_refl _) _
  have k1 : Blk w1 w.heap.size 97 [.func (.func g) #[] lb] := hw1 ▸ Blk.new w _ _
  have HC := Lib.hid (contains_Set (fun x => !(p x)) 116 #[.pointer (some ⟨w.heap.size, 0, none⟩)] (enters_of Tryz.func116 (by kernel_rfl) rfl) A c n l hn w1
    (fun W x hx hB => every1_Set (p x) g lb eg w.heap.size x W ((k1.below hB k1.lt).cell 0) fun W' hB' => hp W' x hx (hB1.trans ((hB.trans (hB'.mono hB.size)).mono hB1.size))) hl (hr.below hB1))
  have e : l.any (fun x => !(p x)) = !(l.all p) := by
    rw [List.not_all_eq_any_not]
  rw [e] at HC
  obtain ⟨R, hR⟩ : ∃ R, l.all p = R := ⟨_, rfl⟩
  rw [hR] at HC ⊢
  have HW1 := Lib.hid hw1
  clear hR e hp hr k1 hw1
  go_enter Tryz.func89, Tryz.ntmps89
  go_wp2_with fail
  rw [HW1.out]
  go_wp2_with fail
  refine HC.out.mono ?_
  rintro e w2 ⟨rfl, hB2⟩
  cases R
  all_goals
    go_wp2
    go_ret
    exact ⟨rfl, hB1.trans (hB2.mono hB1.size)⟩

end Go.Proofs.YtoonebbbgchkhaaGreat
