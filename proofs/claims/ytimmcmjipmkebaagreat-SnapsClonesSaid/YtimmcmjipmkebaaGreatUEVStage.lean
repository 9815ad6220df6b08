/-
  slices.ContainsFunc and every over api.Stage, whatever closure. No conditions but those written.
-/
import Derived.Test.YtimmcmjipmkebaaGreatUSX
import Derived.Test.YtimmcmjipmkebaaGreatUGRX
import Derived.Test.YtimmcmjipmkebaaGreatURL
import Derived.Test.YtimmcmjipmkebaaGreatUGO
import Derived.Test.YtimmcmjipmkebaaGreatUSL
import Derived.Test.YtimmcmjipmkebaaGreatLayH
import Derived.BigQuiet
import Derived.Deep.WholeRow
namespace Go.Proofs.YtimmcmjipmkebaaGreat
open Go.ChangeShapes Go.WideShapes Go.ChangeAt Go.RowKit
set_option maxRecDepth 100000
theorem contains_Stage (p : MStage → Bool) (g : Nat) (lb : Array Value) (eg : Enters Tryz.prog g) (A : Option Addr) (c n : Nat) (l : List MStage) (hn : l.length = n) (w : World)
    (hp : ∀ (W : World) (x : MStage), x ∈ l → Below w.heap.size w W → Calls Tryz.prog g (#[.agg x.cells.toArray] ++ lb) W fun e w' => e = .returned (.bool (p x)) ∧ Below W.heap.size W w') (hl : n ≤ 4398046511104) (hr : Rd w A (l.flatMap MStage.cells)) :
    Calls Tryz.prog 133 #[.slice A n c, .func (.func g) #[] lb] w fun e w' => e = .returned (.bool (l.any p)) ∧ Below w.heap.size w w' := by
  have HI := indexMem Tryz.indexStage 21 Tryz.isAgg91 Tryz.sizeOf91 MStage.cells (fun _ => rfl) (by omega) p g lb eg A c n l hn w hp (by omega) hr
  change Calls _ 169 _ _ _ at HI
  have HI' := Lib.hid HI
  rw [← findI_any]
  obtain ⟨F, hF⟩ : ∃ F, findI p l = F := ⟨_, rfl⟩
  rw [hF] at HI' ⊢
  clear HI hF hp hr
  go_enter Tryz.func133, Tryz.ntmps133
  go_wp2_with fail
  refine HI'.out.mono ?_
  rintro e w2 ⟨rfl, hB⟩
  go_wp2
  go_ret
  exact ⟨rfl, hB⟩
attribute [-simp] Tryz.isAgg91 Tryz.sizeOf91
theorem every1_Stage (v : Bool) (g : Nat) (lb : Array Value) (eg : Enters Tryz.prog g) (B0 : Nat) (x : MStage) (w : World) (h0 : w.cell? ⟨B0, 0, none⟩ = some (.func (.func g) #[] lb))
    (hp : ∀ (W : World), Below w.heap.size w W → Calls Tryz.prog g (#[.agg x.cells.toArray] ++ lb) W fun e w' => e = .returned (.bool v) ∧ Below W.heap.size W w') :
    Calls Tryz.prog 183 #[.agg x.cells.toArray, .pointer (some ⟨B0, 0, none⟩)] w fun e w' => e = .returned (.bool (!v)) ∧ Below w.heap.size w w' := by
  have eg' : ∀ args w, (callFunc g args).run Tryz.prog w = .ok (.enter g args) w := eg
  have hl := World.block_lt_of_cell? w ⟨B0, 0, none⟩ h0
  obtain ⟨cs, hcs⟩ : ∃ cs, x.cells.toArray = cs := ⟨_, rfl⟩
  have hn : cs.size = 21 := by rw [← hcs]; rfl
  rw [hcs] at hp ⊢
  have hB1 : Below w.heap.size w (w.alloc (.cells cs 91)) := (Below.refl _ w).alloc (Nat.le_refl _) _
  have hlc := run_loadCellsFrom_new (P := Tryz.prog) w 91 cs 21 hn
  have HP := Lib.hid (hp _ hB1)
  have hs := hB1.size
  clear hp hcs
  go_enter Tryz.func183, Tryz.ntmps183
  go_wp2_with fail
  simp only [Tryz.isAgg91, Tryz.sizeOf91, Result.andThen, ↓reduceIte, hlc]
  rw [Oper.upon_value]
  go_wp2_with fail
  refine HP.out.mono ?_
  rintro e w2 ⟨rfl, hB2⟩
  cases v
  all_goals
    go_wp2
    go_ret
    exact ⟨rfl, hB1.trans (hB2.mono hs)⟩
theorem every_Stage (p : MStage → Bool) (g : Nat) (lb : Array Value) (eg : Enters Tryz.prog g) (A : Option Addr) (c n : Nat) (l : List MStage) (hn : l.length = n) (w : World)
    (hp : ∀ (W : World) (x : MStage), x ∈ l → Below w.heap.size w W → Calls Tryz.prog g (#[.agg x.cells.toArray] ++ lb) W fun e w' => e = .returned (.bool (p x)) ∧ Below W.heap.size W w') (hl : n ≤ 4398046511104) (hr : Rd w A (l.flatMap MStage.cells)) :
    Calls Tryz.prog 146 #[.slice A n c, .func (.func g) #[] lb] w fun e w' => e = .returned (.bool (l.all p)) ∧ Below w.heap.size w w' := by
  obtain ⟨w1, hw1⟩ : ∃ w1, w.alloc (.cells #[.func (.func g) #[] lb] 101) = w1 := ⟨_, rfl⟩
  have hB1 : Below w.heap.size w w1 := hw1 ▸ (Below.refl _ w).alloc (Nat.le_refl _) _
  have k1 : Blk w1 w.heap.size 101 [.func (.func g) #[] lb] := hw1 ▸ Blk.new w _ _
  have HC := Lib.hid (contains_Stage (fun x => !(p x)) 183 #[.pointer (some ⟨w.heap.size, 0, none⟩)] (enters_of Tryz.func183 (by kernel_rfl) rfl) A c n l hn w1
    (fun W x hx hB => every1_Stage (p x) g lb eg w.heap.size x W ((k1.below hB k1.lt).cell 0) fun W' hB' => hp W' x hx (hB1.trans ((hB.trans (hB'.mono hB.size)).mono hB1.size))) hl (hr.below hB1))
  have e : l.any (fun x => !(p x)) = !(l.all p) := by
    rw [List.not_all_eq_any_not]
  rw [e] at HC
  obtain ⟨R, hR⟩ : ∃ R, l.all p = R := ⟨_, rfl⟩
  rw [hR] at HC ⊢
  have HW1 := Lib.hid hw1
  clear hR e hp hr k1 hw1
  go_enter Tryz.func146, Tryz.ntmps146
  go_wp2_with fail
  rw [HW1.out]
  go_wp2_with fail
  refine HC.out.mono ?_
  rintro e w2 ⟨rfl, hB2⟩
  cases R
  all_goals
    go_wp2
    go_ret
    exact ⟨rfl, hB1.trans (hB2.mono hB1.size)⟩
end Go.Proofs.YtimmcmjipmkebaaGreat
namespace Go.Proofs.YtimmcmjipmkebaaGreat
open Go.ChangeShapes Go.WideShapes Go.ChangeAt Go.RowKit
set_option maxRecDepth 100000
theorem contains_Entry (p : MEntry → Bool) (g : Nat) (lb : Array Value) (eg : Enters Tryz.prog g) (A : Option Addr) (c n : Nat) (l : List MEntry) (hn : l.length = n) (w : World)
    (hp : ∀ (W : World) (x : MEntry), x ∈ l → Below w.heap.size w W → Calls Tryz.prog g (#[.agg x.cells.toArray] ++ lb) W fun e w' => e = .returned (.bool (p x)) ∧ Below W.heap.size W w') (hl : n ≤ 4398046511104) (hr : Rd w A (l.flatMap MEntry.cells)) :
    Calls Tryz.prog 185 #[.slice A n c, .func (.func g) #[] lb] w fun e w' => e = .returned (.bool (l.any p)) ∧ Below w.heap.size w w' := by
  have HI := indexMem Tryz.indexEntry 4 Tryz.isAgg104 Tryz.sizeOf104 MEntry.cells (fun _ => rfl) (by omega) p g lb eg A c n l hn w hp (by omega) hr
  change Calls _ 198 _ _ _ at HI
  have HI' := Lib.hid HI
  rw [← findI_any]
  obtain ⟨F, hF⟩ : ∃ F, findI p l = F := ⟨_, rfl⟩
  rw [hF] at HI' ⊢
  clear HI hF hp hr
  go_enter Tryz.func185, Tryz.ntmps185
  go_wp2_with fail
  refine HI'.out.mono ?_
  rintro e w2 ⟨rfl, hB⟩
  go_wp2
  go_ret
  exact ⟨rfl, hB⟩
theorem every1_Entry (v : Bool) (g : Nat) (lb : Array Value) (eg : Enters Tryz.prog g) (B0 : Nat) (x : MEntry) (w : World) (h0 : w.cell? ⟨B0, 0, none⟩ = some (.func (.func g) #[] lb))
    (hp : ∀ (W : World), Below w.heap.size w W → Calls Tryz.prog g (#[.agg x.cells.toArray] ++ lb) W fun e w' => e = .returned (.bool v) ∧ Below W.heap.size W w') :
    Calls Tryz.prog 186 #[.agg x.cells.toArray, .pointer (some ⟨B0, 0, none⟩)] w fun e w' => e = .returned (.bool (!v)) ∧ Below w.heap.size w w' := by
  have eg' : ∀ args w, (callFunc g args).run Tryz.prog w = .ok (.enter g args) w := eg
  have hl := World.block_lt_of_cell? w ⟨B0, 0, none⟩ h0
  obtain ⟨w1, hw1⟩ : ∃ w1, w.alloc (.cells #[.string x.user_, .int .i64 x.kind_, .string x.path_, .int .i64 x.err_] 104) = w1 := ⟨_, rfl⟩
  have hB1 : Below w.heap.size w w1 := hw1 ▸ (Below.refl _ w).alloc (Nat.le_refl _) _
  have k1 : Blk w1 w.heap.size 104 [.string x.user_, .int .i64 x.kind_, .string x.path_, .int .i64 x.err_] := hw1 ▸ Blk.new w _ _
  have h0' : w1.cell? ⟨B0, 0, none⟩ = some (.func (.func g) #[] lb) := by
    rw [hB1.cell (p := ⟨B0, 0, none⟩) hl]
    exact h0
  have z0 := k1.cell 0
  have z1 := k1.cell 1
  have z2 := k1.cell 2
  have z3 := k1.cell 3
  simp only [gZa, gZb] at z0 z1 z2 z3
  have HP := Lib.hid (hp w1 hB1)
  have HW1 := Lib.hid hw1
  clear hp hw1 k1
  go_enter Tryz.func186, Tryz.ntmps186
  go_wp2_with fail
  rw [HW1.out]
  first
    | refine HP.out.mono ?_
    | (go_wp2_with fail; refine HP.out.mono ?_)
  rintro e w2 ⟨rfl, hB2⟩
  cases v
  all_goals
    go_wp2
    go_ret
    exact ⟨rfl, hB1.trans (hB2.mono hB1.size)⟩
theorem every_Entry (p : MEntry → Bool) (g : Nat) (lb : Array Value) (eg : Enters Tryz.prog g) (A : Option Addr) (c n : Nat) (l : List MEntry) (hn : l.length = n) (w : World)
    (hp : ∀ (W : World) (x : MEntry), x ∈ l → Below w.heap.size w W → Calls Tryz.prog g (#[.agg x.cells.toArray] ++ lb) W fun e w' => e = .returned (.bool (p x)) ∧ Below W.heap.size W w') (hl : n ≤ 4398046511104) (hr : Rd w A (l.flatMap MEntry.cells)) :
    Calls Tryz.prog 150 #[.slice A n c, .func (.func g) #[] lb] w fun e w' => e = .returned (.bool (l.all p)) ∧ Below w.heap.size w w' := by
  obtain ⟨w1, hw1⟩ : ∃ w1, w.alloc (.cells #[.func (.func g) #[] lb] 102) = w1 := ⟨_, rfl⟩
  have hB1 : Below w.heap.size w w1 := hw1 ▸ (Below.refl _ w).alloc (Nat.le_refl _) _
  have k1 : Blk w1 w.heap.size 102 [.func (.func g) #[] lb] := hw1 ▸ Blk.new w _ _
  have HC := Lib.hid (contains_Entry (fun x => !(p x)) 186 #[.pointer (some ⟨w.heap.size, 0, none⟩)] (enters_of Tryz.func186 (by kernel_rfl) rfl) A c n l hn w1
    (fun W x hx hB => every1_Entry (p x) g lb eg w.heap.size x W ((k1.below hB k1.lt).cell 0) fun W' hB' => hp W' x hx (hB1.trans ((hB.trans (hB'.mono hB.size)).mono hB1.size))) hl (hr.below hB1))
  have e : l.any (fun x => !(p x)) = !(l.all p) := by
    rw [List.not_all_eq_any_not]
  rw [e] at HC
  obtain ⟨R, hR⟩ : ∃ R, l.all p = R := ⟨_, rfl⟩
  rw [hR] at HC ⊢
  have HW1 := Lib.hid hw1
  clear hR e hp hr k1 hw1
  go_enter Tryz.func150, Tryz.ntmps150
  go_wp2_with fail
  rw [HW1.out]
  go_wp2_with fail
  refine HC.out.mono ?_
  rintro e w2 ⟨rfl, hB2⟩
  cases R
  all_goals
    go_wp2
    go_ret
    exact ⟨rfl, hB1.trans (hB2.mono hB1.size)⟩
theorem contains_Snap (p : MSnap → Bool) (g : Nat) (lb : Array Value) (eg : Enters Tryz.prog g) (A : Option Addr) (c n : Nat) (l : List MSnap) (hn : l.length = n) (w : World)
    (hp : ∀ (W : World) (x : MSnap), x ∈ l → Below w.heap.size w W → Calls Tryz.prog g (#[.agg x.cells.toArray] ++ lb) W fun e w' => e = .returned (.bool (p x)) ∧ Below W.heap.size W w') (hl : n ≤ 4398046511104) (hr : Rd w A (l.flatMap MSnap.cells)) :
    Calls Tryz.prog 135 #[.slice A n c, .func (.func g) #[] lb] w fun e w' => e = .returned (.bool (l.any p)) ∧ Below w.heap.size w w' := by
  have HI := indexMem Tryz.indexSnap 5 Tryz.isAgg49 Tryz.sizeOf49 MSnap.cells (fun _ => rfl) (by omega) p g lb eg A c n l hn w hp (by omega) hr
  change Calls _ 119 _ _ _ at HI
  have HI' := Lib.hid HI
  rw [← findI_any]
  obtain ⟨F, hF⟩ : ∃ F, findI p l = F := ⟨_, rfl⟩
  rw [hF] at HI' ⊢
  clear HI hF hp hr
  go_enter Tryz.func135, Tryz.ntmps135
  go_wp2_with fail
  refine HI'.out.mono ?_
  rintro e w2 ⟨rfl, hB⟩
  go_wp2
  go_ret
  exact ⟨rfl, hB⟩
theorem every1_Snap (v : Bool) (g : Nat) (lb : Array Value) (eg : Enters Tryz.prog g) (B0 : Nat) (x : MSnap) (w : World) (h0 : w.cell? ⟨B0, 0, none⟩ = some (.func (.func g) #[] lb))
    (hp : ∀ (W : World), Below w.heap.size w W → Calls Tryz.prog g (#[.agg x.cells.toArray] ++ lb) W fun e w' => e = .returned (.bool v) ∧ Below W.heap.size W w') :
    Calls Tryz.prog 194 #[.agg x.cells.toArray, .pointer (some ⟨B0, 0, none⟩)] w fun e w' => e = .returned (.bool (!v)) ∧ Below w.heap.size w w' := by
  have eg' : ∀ args w, (callFunc g args).run Tryz.prog w = .ok (.enter g args) w := eg
  have hl := World.block_lt_of_cell? w ⟨B0, 0, none⟩ h0
  obtain ⟨w1, hw1⟩ : ∃ w1, w.alloc (.cells #[.string x.name_, .int .i64 x.guid_, .slice x.body_.A x.body_.l.length x.body_.c, .slice x.tags_.A x.tags_.l.length x.tags_.c, .slice x.own_.A x.own_.l.length x.own_.c] 49) = w1 := ⟨_, rfl⟩
  have hB1 : Below w.heap.size w w1 := hw1 ▸ (Below.refl _ w).alloc (Nat.le_refl _) _
  have k1 : Blk w1 w.heap.size 49 [.string x.name_, .int .i64 x.guid_, .slice x.body_.A x.body_.l.length x.body_.c, .slice x.tags_.A x.tags_.l.length x.tags_.c, .slice x.own_.A x.own_.l.length x.own_.c] := hw1 ▸ Blk.new w _ _
  have h0' : w1.cell? ⟨B0, 0, none⟩ = some (.func (.func g) #[] lb) := by
    rw [hB1.cell (p := ⟨B0, 0, none⟩) hl]
    exact h0
  have z0 := k1.cell 0
  have z1 := k1.cell 1
  have z2 := k1.cell 2
  have z3 := k1.cell 3
  have z4 := k1.cell 4
  simp only [gZa, gZb] at z0 z1 z2 z3 z4
  have HP := Lib.hid (hp w1 hB1)
  have HW1 := Lib.hid hw1
  clear hp hw1 k1
  go_enter Tryz.func194, Tryz.ntmps194
  go_wp2_with fail
  rw [HW1.out]
  first
    | refine HP.out.mono ?_
    | (go_wp2_with fail; refine HP.out.mono ?_)
  rintro e w2 ⟨rfl, hB2⟩
  cases v
  all_goals
    go_wp2
    go_ret
    exact ⟨rfl, hB1.trans (hB2.mono hB1.size)⟩
theorem every_Snap (p : MSnap → Bool) (g : Nat) (lb : Array Value) (eg : Enters Tryz.prog g) (A : Option Addr) (c n : Nat) (l : List MSnap) (hn : l.length = n) (w : World)
    (hp : ∀ (W : World) (x : MSnap), x ∈ l → Below w.heap.size w W → Calls Tryz.prog g (#[.agg x.cells.toArray] ++ lb) W fun e w' => e = .returned (.bool (p x)) ∧ Below W.heap.size W w') (hl : n ≤ 4398046511104) (hr : Rd w A (l.flatMap MSnap.cells)) :
    Calls Tryz.prog 173 #[.slice A n c, .func (.func g) #[] lb] w fun e w' => e = .returned (.bool (l.all p)) ∧ Below w.heap.size w w' := by
  obtain ⟨w1, hw1⟩ : ∃ w1, w.alloc (.cells #[.func (.func g) #[] lb] 119) = w1 := ⟨_, rfl⟩
  have hB1 : Below w.heap.size w w1 := hw1 ▸ (Below.refl _ w).alloc (Nat.le_refl _) _
  have k1 : Blk w1 w.heap.size 119 [.func (.func g) #[] lb] := hw1 ▸ Blk.new w _ _
  have HC := Lib.hid (contains_Snap (fun x => !(p x)) 194 #[.pointer (some ⟨w.heap.size, 0, none⟩)] (enters_of Tryz.func194 (by kernel_rfl) rfl) A c n l hn w1
    (fun W x hx hB => every1_Snap (p x) g lb eg w.heap.size x W ((k1.below hB k1.lt).cell 0) fun W' hB' => hp W' x hx (hB1.trans ((hB.trans (hB'.mono hB.size)).mono hB1.size))) hl (hr.below hB1))
  have e : l.any (fun x => !(p x)) = !(l.all p) := by
    rw [List.not_all_eq_any_not]
  rw [e] at HC
  obtain ⟨R, hR⟩ : ∃ R, l.all p = R := ⟨_, rfl⟩
  rw [hR] at HC ⊢
  have HW1 := Lib.hid hw1
  clear hR e hp hr k1 hw1
  go_enter Tryz.func173, Tryz.ntmps173
  go_wp2_with fail
  rw [HW1.out]
  go_wp2_with fail
  refine HC.out.mono ?_
  rintro e w2 ⟨rfl, hB2⟩
  cases R
  all_goals
    go_wp2
    go_ret
    exact ⟨rfl, hB1.trans (hB2.mono hB1.size)⟩
theorem contains_Set (p : MSet → Bool) (g : Nat) (lb : Array Value) (eg : Enters Tryz.prog g) (A : Option Addr) (c n : Nat) (l : List MSet) (hn : l.length = n) (w : World)
    (hp : ∀ (W : World) (x : MSet), x ∈ l → Below w.heap.size w W → Calls Tryz.prog g (#[.agg x.cells.toArray] ++ lb) W fun e w' => e = .returned (.bool (p x)) ∧ Below W.heap.size W w') (hl : n ≤ 4398046511104) (hr : Rd w A (l.flatMap MSet.cells)) :
    Calls Tryz.prog 170 #[.slice A n c, .func (.func g) #[] lb] w fun e w' => e = .returned (.bool (l.any p)) ∧ Below w.heap.size w w' := by
  have HI := indexMem Tryz.indexSet 5 Tryz.isAgg52 Tryz.sizeOf52 MSet.cells (fun _ => rfl) (by omega) p g lb eg A c n l hn w hp (by omega) hr
  change Calls _ 114 _ _ _ at HI
  have HI' := Lib.hid HI
  rw [← findI_any]
  obtain ⟨F, hF⟩ : ∃ F, findI p l = F := ⟨_, rfl⟩
  rw [hF] at HI' ⊢
  clear HI hF hp hr
  go_enter Tryz.func170, Tryz.ntmps170
  go_wp2_with fail
  refine HI'.out.mono ?_
  rintro e w2 ⟨rfl, hB⟩
  go_wp2
  go_ret
  exact ⟨rfl, hB⟩
theorem every1_Set (v : Bool) (g : Nat) (lb : Array Value) (eg : Enters Tryz.prog g) (B0 : Nat) (x : MSet) (w : World) (h0 : w.cell? ⟨B0, 0, none⟩ = some (.func (.func g) #[] lb))
    (hp : ∀ (W : World), Below w.heap.size w W → Calls Tryz.prog g (#[.agg x.cells.toArray] ++ lb) W fun e w' => e = .returned (.bool v) ∧ Below W.heap.size W w') :
    Calls Tryz.prog 171 #[.agg x.cells.toArray, .pointer (some ⟨B0, 0, none⟩)] w fun e w' => e = .returned (.bool (!v)) ∧ Below w.heap.size w w' := by
  have eg' : ∀ args w, (callFunc g args).run Tryz.prog w = .ok (.enter g args) w := eg
  have hl := World.block_lt_of_cell? w ⟨B0, 0, none⟩ h0
  obtain ⟨w1, hw1⟩ : ∃ w1, w.alloc (.cells #[.string x.path_, .string x.origin_, .slice x.body_.A x.body_.l.length x.body_.c, .slice x.snaps_.A x.snaps_.l.length x.snaps_.c, .slice x.own_.A x.own_.l.length x.own_.c] 52) = w1 := ⟨_, rfl⟩
  have hB1 : Below w.heap.size w w1 := hw1 ▸ (Below.refl _ w).alloc (Nat.le_refl _) _
  have k1 : Blk w1 w.heap.size 52 [.string x.path_, .string x.origin_, .slice x.body_.A x.body_.l.length x.body_.c, .slice x.snaps_.A x.snaps_.l.length x.snaps_.c, .slice x.own_.A x.own_.l.length x.own_.c] := hw1 ▸ Blk.new w _ _
  have h0' : w1.cell? ⟨B0, 0, none⟩ = some (.func (.func g) #[] lb) := by
    rw [hB1.cell (p := ⟨B0, 0, none⟩) hl]
    exact h0
  have z0 := k1.cell 0
  have z1 := k1.cell 1
  have z2 := k1.cell 2
  have z3 := k1.cell 3
  have z4 := k1.cell 4
  simp only [gZa, gZb] at z0 z1 z2 z3 z4
  have HP := Lib.hid (hp w1 hB1)
  have HW1 := Lib.hid hw1
  clear hp hw1 k1
  go_enter Tryz.func171, Tryz.ntmps171
  go_wp2_with fail
  rw [HW1.out]
  first
    | refine HP.out.mono ?_
    | (go_wp2_with fail; refine HP.out.mono ?_)
  rintro e w2 ⟨rfl, hB2⟩
  cases v
  all_goals
    go_wp2
    go_ret
    exact ⟨rfl, hB1.trans (hB2.mono hB1.size)⟩
theorem every_Set (p : MSet → Bool) (g : Nat) (lb : Array Value) (eg : Enters Tryz.prog g) (A : Option Addr) (c n : Nat) (l : List MSet) (hn : l.length = n) (w : World)
    (hp : ∀ (W : World) (x : MSet), x ∈ l → Below w.heap.size w W → Calls Tryz.prog g (#[.agg x.cells.toArray] ++ lb) W fun e w' => e = .returned (.bool (p x)) ∧ Below W.heap.size W w') (hl : n ≤ 4398046511104) (hr : Rd w A (l.flatMap MSet.cells)) :
    Calls Tryz.prog 139 #[.slice A n c, .func (.func g) #[] lb] w fun e w' => e = .returned (.bool (l.all p)) ∧ Below w.heap.size w w' := by
  obtain ⟨w1, hw1⟩ : ∃ w1, w.alloc (.cells #[.func (.func g) #[] lb] 124) = w1 := ⟨_, rfl⟩
  have hB1 : Below w.heap.size w w1 := hw1 ▸ (Below.refl _ w).alloc (Nat.le_refl _) _
  have k1 : Blk w1 w.heap.size 124 [.func (.func g) #[] lb] := hw1 ▸ Blk.new w _ _
  have HC := Lib.hid (contains_Set (fun x => !(p x)) 171 #[.pointer (some ⟨w.heap.size, 0, none⟩)] (enters_of Tryz.func171 (by kernel_rfl) rfl) A c n l hn w1
    (fun W x hx hB => every1_Set (p x) g lb eg w.heap.size x W ((k1.below hB k1.lt).cell 0) fun W' hB' => hp W' x hx (hB1.trans ((hB.trans (hB'.mono hB.size)).mono hB1.size))) hl (hr.below hB1))
  have e : l.any (fun x => !(p x)) = !(l.all p) := by
    rw [List.not_all_eq_any_not]
  rw [e] at HC
  obtain ⟨R, hR⟩ : ∃ R, l.all p = R := ⟨_, rfl⟩
  rw [hR] at HC ⊢
  have HW1 := Lib.hid hw1
  clear hR e hp hr k1 hw1
  go_enter Tryz.func139, Tryz.ntmps139
  go_wp2_with fail
  rw [HW1.out]
  go_wp2_with fail
  refine HC.out.mono ?_
  rintro e w2 ⟨rfl, hB2⟩
  cases R
  all_goals
    go_wp2
    go_ret
    exact ⟨rfl, hB1.trans (hB2.mono hB1.size)⟩
structure OwnSn (n : Nat) (W : World) (y : MSnap) : Prop where
  body : W.ownsRow n 106 2 y.body_.val y.body_.l.length (y.body_.l.flatMap bkC)
  tags : W.ownsRow n 9 1 y.tags_.val y.tags_.l.length (y.tags_.l.flatMap fun s => [Value.string s])
  own : W.ownsRow n 109 2 y.own_.val y.own_.l.length (y.own_.l.flatMap prC)
structure OwnSe (n : Nat) (W : World) (y : MSet) : Prop where
  body : W.ownsRow n 106 2 y.body_.val y.body_.l.length (y.body_.l.flatMap bkC)
  snaps : W.ownsRow n 49 5 y.snaps_.val y.snaps_.l.length (y.snaps_.l.flatMap MSnap.cells)
  own : W.ownsRow n 109 2 y.own_.val y.own_.l.length (y.own_.l.flatMap prC)
  each : ∀ s ∈ y.snaps_.l, OwnSn n W s
structure OwnSt (n : Nat) (W : World) (y : MStage) : Prop where
  body : W.ownsRow n 106 2 y.body_.val y.body_.l.length (y.body_.l.flatMap bkC)
  own : W.ownsRow n 109 2 y.begin_.own_.val y.begin_.own_.l.length (y.begin_.own_.l.flatMap prC)
structure OwnTe (n : Nat) (W : World) (y : MTenant) : Prop where
  sets : W.ownsRow n 52 5 y.sets_.val y.sets_.l.length (y.sets_.l.flatMap MSet.cells)
  grants : W.ownsRow n 111 3 y.grants_.val y.grants_.l.length (y.grants_.l.flatMap grC)
  stages : W.ownsRow n 91 21 y.stages_.val y.stages_.l.length (y.stages_.l.flatMap MStage.cells)
  log : W.ownsRow n 104 4 y.log_.val y.log_.l.length (y.log_.l.flatMap MEntry.cells)
  eset : ∀ s ∈ y.sets_.l, OwnSe n W s
  estage : ∀ s ∈ y.stages_.l, OwnSt n W s
theorem OwnSn.below {n : Nat} {W W' : World} {y : MSnap} (h : OwnSn n W y) (hB : Below W.heap.size W W') : OwnSn n W' y := ⟨ownBelow h.body hB (Nat.le_refl _), ownBelow h.tags hB (Nat.le_refl _), ownBelow h.own hB (Nat.le_refl _)⟩
theorem OwnSe.below {n : Nat} {W W' : World} {y : MSet} (h : OwnSe n W y) (hB : Below W.heap.size W W') : OwnSe n W' y := ⟨ownBelow h.body hB (Nat.le_refl _), ownBelow h.snaps hB (Nat.le_refl _), ownBelow h.own hB (Nat.le_refl _), fun s hs => (h.each s hs).below hB⟩
theorem OwnSt.below {n : Nat} {W W' : World} {y : MStage} (h : OwnSt n W y) (hB : Below W.heap.size W W') : OwnSt n W' y := ⟨ownBelow h.body hB (Nat.le_refl _), ownBelow h.own hB (Nat.le_refl _)⟩
theorem OwnSn.base {n n' : Nat} {W : World} {y : MSnap} (h : OwnSn n W y) (hn : n' ≤ n) : OwnSn n' W y := ⟨ownBase h.body hn, ownBase h.tags hn, ownBase h.own hn⟩
theorem OwnSe.base {n n' : Nat} {W : World} {y : MSet} (h : OwnSe n W y) (hn : n' ≤ n) : OwnSe n' W y := ⟨ownBase h.body hn, ownBase h.snaps hn, ownBase h.own hn, fun s hs => (h.each s hs).base hn⟩
theorem OwnSt.base {n n' : Nat} {W : World} {y : MStage} (h : OwnSt n W y) (hn : n' ≤ n) : OwnSt n' W y := ⟨ownBase h.body hn, ownBase h.own hn⟩
theorem OwnSn.keep {n : Nat} {W W' : World} {y : MSnap} {e : TypeId} (h : OwnSn n W y) (hk : Keeps e W W') (h1 : 106 ≠ e) (h2 : 9 ≠ e) (h3 : 109 ≠ e) : OwnSn n W' y := ⟨own_keeps h.body h1 hk, own_keeps h.tags h2 hk, own_keeps h.own h3 hk⟩
theorem OwnSe.keep {n : Nat} {W W' : World} {y : MSet} {e : TypeId} (h : OwnSe n W y) (hk : Keeps e W W') (h1 : 106 ≠ e) (h2 : 9 ≠ e) (h3 : 109 ≠ e) (h4 : 49 ≠ e) : OwnSe n W' y := ⟨own_keeps h.body h1 hk, own_keeps h.snaps h4 hk, own_keeps h.own h3 hk, fun s hs => (h.each s hs).keep hk h1 h2 h3⟩
theorem OwnSt.keep {n : Nat} {W W' : World} {y : MStage} {e : TypeId} (h : OwnSt n W y) (hk : Keeps e W W') (h1 : 106 ≠ e) (h3 : 109 ≠ e) : OwnSt n W' y := ⟨own_keeps h.body h1 hk, own_keeps h.own h3 hk⟩
theorem slGood_own {α : Type} {W W' : World} {n size b : Nat} {e : TypeId} {cells : α → List Value} {good good' : α → Prop} {X Y : Sl α} (hX : SlGood W cells good b X) (hl : Y.l.length = X.l.length) (ho : W'.ownsRow n e size Y.val Y.l.length (Y.l.flatMap cells)) (hg : ∀ y ∈ Y.l, good' y) : SlGood W' cells good' b Y := by
  obtain ⟨A, c, hv, hcap, hnil, hrd, _⟩ := ownAny ho
  injection hv with h1 h2 h3
  exact ⟨by rw [h1]; exact hrd.1, hg, by rw [h3]; exact hcap, by rw [h1, h3]; exact hnil, by rw [hl]; exact hX.len⟩
theorem MSnap.Good.of_own {W W' : World} {n : Nat} {x y : MSnap} (h : x.Good W) (hp : y.plain = x.plain) (ho : OwnSn n W' y) : y.Good W' := by
  obtain ⟨h1, h2, h3, h4, h5⟩ := PSnap.eq_iff.1 hp
  refine ⟨by have := h.gname_; rw [show y.name_ = x.name_ from h1]; exact this, by have := h.gguid_; rw [show y.guid_ = x.guid_ from h2]; exact this, slGood_own h.gbody_ (by rw [show y.body_.l = x.body_.l from h3]) ho.body fun b hb => h.gbody_.el b (by rw [← show y.body_.l = x.body_.l from h3]; exact hb), slGood_own h.gtags_ (by rw [show y.tags_.l = x.tags_.l from h4]) ho.tags fun b hb => h.gtags_.el b (by rw [← show y.tags_.l = x.tags_.l from h4]; exact hb), slGood_own h.gown_ (by rw [show y.own_.l = x.own_.l from h5]) ho.own fun b hb => h.gown_.el b (by rw [← show y.own_.l = x.own_.l from h5]; exact hb)⟩
theorem mem_plain {α β : Type} {f : α → β} {X Y : List α} (h : Y.map f = X.map f) {y : α} (hy : y ∈ Y) : ∃ x ∈ X, f y = f x := by
  have : f y ∈ X.map f := h ▸ List.mem_map.2 ⟨y, hy, rfl⟩
  obtain ⟨x, hx, e⟩ := List.mem_map.1 this
  exact ⟨x, hx, e.symm⟩
theorem map_len {α β : Type} {f : α → β} {X Y : List α} (h : Y.map f = X.map f) : Y.length = X.length := by
  have := congrArg List.length h
  simpa using this
theorem MSet.Good.of_own {W W' : World} {n : Nat} {x y : MSet} (h : x.Good W) (hp : y.plain = x.plain) (ho : OwnSe n W' y) : y.Good W' := by
  obtain ⟨h1, h2, h3, h4, h5⟩ := PSet.eq_iff.1 hp
  refine ⟨by have := h.gpath_; rw [show y.path_ = x.path_ from h1]; exact this, by have := h.gorigin_; rw [show y.origin_ = x.origin_ from h2]; exact this, slGood_own h.gbody_ (by rw [show y.body_.l = x.body_.l from h3]) ho.body fun b hb => h.gbody_.el b (by rw [← show y.body_.l = x.body_.l from h3]; exact hb), slGood_own h.gsnaps_ (map_len h4) ho.snaps fun s hs => ?_, slGood_own h.gown_ (by rw [show y.own_.l = x.own_.l from h5]) ho.own fun b hb => h.gown_.el b (by rw [← show y.own_.l = x.own_.l from h5]; exact hb)⟩
  obtain ⟨s', hs', e⟩ := mem_plain h4 hs
  exact (h.gsnaps_.el s' hs').of_own e (ho.each s hs)
set_option linter.unusedSimpArgs false
def SepS (a b : MSet) : Prop := ∀ g h : Addr, a.snaps_.A = some g → b.snaps_.A = some h → g.block < h.block
theorem OwnSe.blk {n : Nat} {W : World} {y : MSet} (h : OwnSe n W y) {g : Addr} (hg : y.snaps_.A = some g) : n ≤ g.block ∧ g.block < W.heap.size := by
  obtain ⟨_, ⟨hv, _⟩ | ⟨gg, cap, cur, hv, hn, hb, _⟩⟩ := h.snaps
  · injection hv with e1 e2 e3
    rw [hg] at e1
    cases e1
  · injection hv with e1 e2 e3
    rw [hg] at e1
    injection e1 with e1
    subst e1
    exact ⟨hn, (Array.getElem?_eq_some_iff.1 hb).1⟩
theorem row_blk {n size k c : Nat} {W : World} {e : TypeId} {A : Option Addr} {xs : List Value} (h : W.ownsRow n e size (.slice A k c) k xs) {g : Addr} (hg : A = some g) : n ≤ g.block ∧ g.block < W.heap.size ∧ g = ⟨g.block, 0, none⟩ := by
  obtain ⟨_, ⟨hv, _⟩ | ⟨gg, cap, cur, hv, hn, hb, _⟩⟩ := h
  · injection hv with e1 e2 e3
    rw [hg] at e1
    cases e1
  · injection hv with e1 e2 e3
    rw [hg] at e1
    injection e1 with e1
    subst e1
    exact ⟨hn, (Array.getElem?_eq_some_iff.1 hb).1, rfl⟩
def SepG (a b : MSnap) : Prop := ∀ g h : Addr, a.tags_.A = some g → b.tags_.A = some h → g.block < h.block
def SepT (a b : MSet) : Prop := ∀ x ∈ a.snaps_.l, ∀ y ∈ b.snaps_.l, SepG x y
structure SepX (y : MTenant) : Prop where
  sn : y.sets_.l.Pairwise SepS
  st : y.sets_.l.Pairwise SepT
  sg : ∀ s ∈ y.sets_.l, s.snaps_.l.Pairwise SepG
end Go.Proofs.YtimmcmjipmkebaaGreat
