/-
 slices.ContainsFunc and every over api.Stage, whatever closure. No conditions but those written.
-/
import Derived.Test.YtimmcmjipmkebaaGreatVSX
import Derived.Test.YtimmcmjipmkebaaGreatVGRX
import Derived.Test.YtimmcmjipmkebaaGreatLayH
import Derived.BigQuiet
import Derived.Deep.WholeRow
namespace Go.Proofs.YtimmcmjipmkebaaGreat
open Go.ChangeShapes Go.WideShapes Go.ChangeAt Go.RowKit
set_option maxRecDepth 100000
theorem contains_Stage (p : Mta → Bool) (g : Nat) (lb : Array Value) (eg : Enters Tryz.prog g) (A : Option Addr) (c n : Nat) (l : List Mta) (hn : l.length = n) (w : World)
 (hp : ∀ (W : World) (x : Mta), x ∈ l → Below w.heap.size w W → Calls Tryz.prog g (#[.agg x.cells.toArray] ++ lb) W fun e w' => e = .returned (.bool (p x)) ∧ Below W.heap.size W w') (hl : n ≤ 4398046511104) (hr : Rd w A (l.flatMap Mta.cells)) :
 Calls Tryz.prog 133 #[.slice A n c, .func (.func g) #[] lb] w fun e w' => e = .returned (.bool (l.any p)) ∧ Below w.heap.size w w' := by
 have HI := indexMem Tryz.indexStage 21 Tryz.isAgg91 Tryz.sizeOf91 Mta.cells (fun _ => rfl) (by omega) p g lb eg A c n l hn w hp (by omega) hr
 change Calls _ 169 _ _ _ at HI
 have HI' := zI HI
 rw [← findI_any]
 obtain ⟨F, hF⟩ : ∃ F, findI p l = F := ⟨_, rfl⟩
 rw [hF] at HI' ⊢
 clear HI hF hp hr
 go_enter Tryz.func133, Tryz.ntmps133
 go_wp2_with fail
 refine HI'.out.mono ?_
 rintro e w2 ⟨rfl, hB⟩
 go_wp2
 go_ret
 exact ⟨rfl, hB⟩
attribute [-simp] Tryz.isAgg91 Tryz.sizeOf91
theorem every1_Stage (v : Bool) (g : Nat) (lb : Array Value) (eg : Enters Tryz.prog g) (B0 : Nat) (x : Mta) (w : World) (h0 : w.cell? ⟨B0, 0, none⟩ = some (.func (.func g) #[] lb))
 (hp : ∀ (W : World), Below w.heap.size w W → Calls Tryz.prog g (#[.agg x.cells.toArray] ++ lb) W fun e w' => e = .returned (.bool v) ∧ Below W.heap.size W w') :
 Calls Tryz.prog 183 #[.agg x.cells.toArray, .pointer (some ⟨B0, 0, none⟩)] w fun e w' => e = .returned (.bool (!v)) ∧ Below w.heap.size w w' := by
 have eg' : ∀ args w, (callFunc g args).run Tryz.prog w = .ok (.enter g args) w := eg
 have hl := World.block_lt_of_cell? w ⟨B0, 0, none⟩ h0
 obtain ⟨cs, hcs⟩ : ∃ cs, x.cells.toArray = cs := ⟨_, rfl⟩
 have hn : cs.size = 21 := by rw [← hcs]; rfl
 rw [hcs] at hp ⊢
 have hB1 : Below w.heap.size w (w.alloc (.cells cs 91)) := (Below.refl _ w).alloc (Nat.le_refl _) _
 have hlc := run_loadCellsFrom_new (P := Tryz.prog) w 91 cs 21 hn
 have HP := zI (hp _ hB1)
 have hs := hB1.size
 clear hp hcs
 go_enter Tryz.func183, Tryz.ntmps183
 go_wp2_with fail
 simp only [Tryz.isAgg91, Tryz.sizeOf91, Result.andThen, ↓reduceIte, hlc]
 rw [Oper.upon_value]
 go_wp2_with fail
 refine HP.out.mono ?_
 rintro e w2 ⟨rfl, hB2⟩
 cases v
 all_goals
  go_wp2
  go_ret
  exact ⟨rfl, hB1.trans (hB2.mono hs)⟩
theorem every_Stage (p : Mta → Bool) (g : Nat) (lb : Array Value) (eg : Enters Tryz.prog g) (A : Option Addr) (c n : Nat) (l : List Mta) (hn : l.length = n) (w : World)
 (hp : ∀ (W : World) (x : Mta), x ∈ l → Below w.heap.size w W → Calls Tryz.prog g (#[.agg x.cells.toArray] ++ lb) W fun e w' => e = .returned (.bool (p x)) ∧ Below W.heap.size W w') (hl : n ≤ 4398046511104) (hr : Rd w A (l.flatMap Mta.cells)) :
 Calls Tryz.prog 146 #[.slice A n c, .func (.func g) #[] lb] w fun e w' => e = .returned (.bool (l.all p)) ∧ Below w.heap.size w w' := by
 obtain ⟨w1, hw1⟩ : ∃ w1, w.alloc (.cells #[.func (.func g) #[] lb] 101) = w1 := ⟨_, rfl⟩
 have hB1 : Below w.heap.size w w1 := hw1 ▸ (Below.refl _ w).alloc (Nat.le_refl _) _
 have k1 : Blk w1 w.heap.size 101 [.func (.func g) #[] lb] := hw1 ▸ Blk.new w _ _
 have HC := zI (contains_Stage (fun x => !(p x)) 183 #[.pointer (some ⟨w.heap.size, 0, none⟩)] (enters_of Tryz.func183 (by kernel_rfl) rfl) A c n l hn w1
  (fun W x hx hB => every1_Stage (p x) g lb eg w.heap.size x W ((k1.below hB k1.lt).cell 0) fun W' hB' => hp W' x hx (hB1.trans ((hB.trans (hB'.mono hB.size)).mono hB1.size))) hl (hr.below hB1))
 have e : l.any (fun x => !(p x)) = !(l.all p) := by
  rw [List.not_all_eq_any_not]
 rw [e] at HC
 obtain ⟨R, hR⟩ : ∃ R, l.all p = R := ⟨_, rfl⟩
 rw [hR] at HC ⊢
 have HW1 := zI hw1
 clear hR e hp hr k1 hw1
 go_enter Tryz.func146, Tryz.ntmps146
 go_wp2_with fail
 rw [HW1.out]
 go_wp2_with fail
 refine HC.out.mono ?_
 rintro e w2 ⟨rfl, hB2⟩
 cases R
 all_goals
  go_wp2
  go_ret
  exact ⟨rfl, hB1.trans (hB2.mono hB1.size)⟩
end Go.Proofs.YtimmcmjipmkebaaGreat
namespace Go.Proofs.YtimmcmjipmkebaaGreat
open Go.ChangeShapes Go.WideShapes Go.ChangeAt Go.RowKit
set_option maxRecDepth 100000
theorem contains_Entry (p : ME_ → Bool) (g : Nat) (lb : Array Value) (eg : Enters Tryz.prog g) (A : Option Addr) (c n : Nat) (l : List ME_) (hn : l.length = n) (w : World)
 (hp : ∀ (W : World) (x : ME_), x ∈ l → Below w.heap.size w W → Calls Tryz.prog g (#[.agg x.cells.toArray] ++ lb) W fun e w' => e = .returned (.bool (p x)) ∧ Below W.heap.size W w') (hl : n ≤ 4398046511104) (hr : Rd w A (l.flatMap ME_.cells)) :
 Calls Tryz.prog 185 #[.slice A n c, .func (.func g) #[] lb] w fun e w' => e = .returned (.bool (l.any p)) ∧ Below w.heap.size w w' := by
 have HI := indexMem Tryz.indexEntry 4 Tryz.isAgg104 Tryz.sizeOf104 ME_.cells (fun _ => rfl) (by omega) p g lb eg A c n l hn w hp (by omega) hr
 change Calls _ 198 _ _ _ at HI
 have HI' := zI HI
 rw [← findI_any]
 obtain ⟨F, hF⟩ : ∃ F, findI p l = F := ⟨_, rfl⟩
 rw [hF] at HI' ⊢
 clear HI hF hp hr
 go_enter Tryz.func185, Tryz.ntmps185
 go_wp2_with fail
 refine HI'.out.mono ?_
 rintro e w2 ⟨rfl, hB⟩
 go_wp2
 go_ret
 exact ⟨rfl, hB⟩
theorem every1_Entry (v : Bool) (g : Nat) (lb : Array Value) (eg : Enters Tryz.prog g) (B0 : Nat) (x : ME_) (w : World) (h0 : w.cell? ⟨B0, 0, none⟩ = some (.func (.func g) #[] lb))
 (hp : ∀ (W : World), Below w.heap.size w W → Calls Tryz.prog g (#[.agg x.cells.toArray] ++ lb) W fun e w' => e = .returned (.bool v) ∧ Below W.heap.size W w') :
 Calls Tryz.prog 186 #[.agg x.cells.toArray, .pointer (some ⟨B0, 0, none⟩)] w fun e w' => e = .returned (.bool (!v)) ∧ Below w.heap.size w w' := by
 have eg' : ∀ args w, (callFunc g args).run Tryz.prog w = .ok (.enter g args) w := eg
 have hl := World.block_lt_of_cell? w ⟨B0, 0, none⟩ h0
 obtain ⟨w1, hw1⟩ : ∃ w1, w.alloc (.cells #[.string x.O_, .int .i64 x.N_, .string x.l_, .int .i64 x.err_] 104) = w1 := ⟨_, rfl⟩
 have hB1 : Below w.heap.size w w1 := hw1 ▸ (Below.refl _ w).alloc (Nat.le_refl _) _
 have k1 : Blk w1 w.heap.size 104 [.string x.O_, .int .i64 x.N_, .string x.l_, .int .i64 x.err_] := hw1 ▸ Blk.new w _ _
 have h0' : w1.cell? ⟨B0, 0, none⟩ = some (.func (.func g) #[] lb) := by
  rw [hB1.cell (p := ⟨B0, 0, none⟩) hl]
  exact h0
 have z0 := k1.cell 0
 have z1 := k1.cell 1
 have z2 := k1.cell 2
 have z3 := k1.cell 3
 simp only [gZa, gZb] at z0 z1 z2 z3
 have HP := zI (hp w1 hB1)
 have HW1 := zI hw1
 clear hp hw1 k1
 go_enter Tryz.func186, Tryz.ntmps186
 go_wp2_with fail
 rw [HW1.out]
 first
  | refine HP.out.mono ?_
  | (go_wp2_with fail; refine HP.out.mono ?_)
 rintro e w2 ⟨rfl, hB2⟩
 cases v
 all_goals
  go_wp2
  go_ret
  exact ⟨rfl, hB1.trans (hB2.mono hB1.size)⟩
theorem every_Entry (p : ME_ → Bool) (g : Nat) (lb : Array Value) (eg : Enters Tryz.prog g) (A : Option Addr) (c n : Nat) (l : List ME_) (hn : l.length = n) (w : World)
 (hp : ∀ (W : World) (x : ME_), x ∈ l → Below w.heap.size w W → Calls Tryz.prog g (#[.agg x.cells.toArray] ++ lb) W fun e w' => e = .returned (.bool (p x)) ∧ Below W.heap.size W w') (hl : n ≤ 4398046511104) (hr : Rd w A (l.flatMap ME_.cells)) :
 Calls Tryz.prog 150 #[.slice A n c, .func (.func g) #[] lb] w fun e w' => e = .returned (.bool (l.all p)) ∧ Below w.heap.size w w' := by
 obtain ⟨w1, hw1⟩ : ∃ w1, w.alloc (.cells #[.func (.func g) #[] lb] 102) = w1 := ⟨_, rfl⟩
 have hB1 : Below w.heap.size w w1 := hw1 ▸ (Below.refl _ w).alloc (Nat.le_refl _) _
 have k1 : Blk w1 w.heap.size 102 [.func (.func g) #[] lb] := hw1 ▸ Blk.new w _ _
 have HC := zI (contains_Entry (fun x => !(p x)) 186 #[.pointer (some ⟨w.heap.size, 0, none⟩)] (enters_of Tryz.func186 (by kernel_rfl) rfl) A c n l hn w1
  (fun W x hx hB => every1_Entry (p x) g lb eg w.heap.size x W ((k1.below hB k1.lt).cell 0) fun W' hB' => hp W' x hx (hB1.trans ((hB.trans (hB'.mono hB.size)).mono hB1.size))) hl (hr.below hB1))
 have e : l.any (fun x => !(p x)) = !(l.all p) := by
  rw [List.not_all_eq_any_not]
 rw [e] at HC
 obtain ⟨R, hR⟩ : ∃ R, l.all p = R := ⟨_, rfl⟩
 rw [hR] at HC ⊢
 have HW1 := zI hw1
 clear hR e hp hr k1 hw1
 go_enter Tryz.func150, Tryz.ntmps150
 go_wp2_with fail
 rw [HW1.out]
 go_wp2_with fail
 refine HC.out.mono ?_
 rintro e w2 ⟨rfl, hB2⟩
 cases R
 all_goals
  go_wp2
  go_ret
  exact ⟨rfl, hB1.trans (hB2.mono hB1.size)⟩
theorem contains_Snap (p : Mna → Bool) (g : Nat) (lb : Array Value) (eg : Enters Tryz.prog g) (A : Option Addr) (c n : Nat) (l : List Mna) (hn : l.length = n) (w : World)
 (hp : ∀ (W : World) (x : Mna), x ∈ l → Below w.heap.size w W → Calls Tryz.prog g (#[.agg x.cells.toArray] ++ lb) W fun e w' => e = .returned (.bool (p x)) ∧ Below W.heap.size W w') (hl : n ≤ 4398046511104) (hr : Rd w A (l.flatMap Mna.cells)) :
 Calls Tryz.prog 135 #[.slice A n c, .func (.func g) #[] lb] w fun e w' => e = .returned (.bool (l.any p)) ∧ Below w.heap.size w w' := by
 have HI := indexMem Tryz.indexSnap 5 Tryz.isAgg49 Tryz.sizeOf49 Mna.cells (fun _ => rfl) (by omega) p g lb eg A c n l hn w hp (by omega) hr
 change Calls _ 119 _ _ _ at HI
 have HI' := zI HI
 rw [← findI_any]
 obtain ⟨F, hF⟩ : ∃ F, findI p l = F := ⟨_, rfl⟩
 rw [hF] at HI' ⊢
 clear HI hF hp hr
 go_enter Tryz.func135, Tryz.ntmps135
 go_wp2_with fail
 refine HI'.out.mono ?_
 rintro e w2 ⟨rfl, hB⟩
 go_wp2
 go_ret
 exact ⟨rfl, hB⟩
theorem every1_Snap (v : Bool) (g : Nat) (lb : Array Value) (eg : Enters Tryz.prog g) (B0 : Nat) (x : Mna) (w : World) (h0 : w.cell? ⟨B0, 0, none⟩ = some (.func (.func g) #[] lb))
 (hp : ∀ (W : World), Below w.heap.size w W → Calls Tryz.prog g (#[.agg x.cells.toArray] ++ lb) W fun e w' => e = .returned (.bool v) ∧ Below W.heap.size W w') :
 Calls Tryz.prog 194 #[.agg x.cells.toArray, .pointer (some ⟨B0, 0, none⟩)] w fun e w' => e = .returned (.bool (!v)) ∧ Below w.heap.size w w' := by
 have eg' : ∀ args w, (callFunc g args).run Tryz.prog w = .ok (.enter g args) w := eg
 have hl := World.block_lt_of_cell? w ⟨B0, 0, none⟩ h0
 obtain ⟨w1, hw1⟩ : ∃ w1, w.alloc (.cells #[.string x.x_, .int .i64 x.z_, .slice x.p_.A x.p_.l.length x.p_.c, .slice x.u_.A x.u_.l.length x.u_.c, .slice x.j_.A x.j_.l.length x.j_.c] 49) = w1 := ⟨_, rfl⟩
 have hB1 : Below w.heap.size w w1 := hw1 ▸ (Below.refl _ w).alloc (Nat.le_refl _) _
 have k1 : Blk w1 w.heap.size 49 [.string x.x_, .int .i64 x.z_, .slice x.p_.A x.p_.l.length x.p_.c, .slice x.u_.A x.u_.l.length x.u_.c, .slice x.j_.A x.j_.l.length x.j_.c] := hw1 ▸ Blk.new w _ _
 have h0' : w1.cell? ⟨B0, 0, none⟩ = some (.func (.func g) #[] lb) := by
  rw [hB1.cell (p := ⟨B0, 0, none⟩) hl]
  exact h0
 have z0 := k1.cell 0
 have z1 := k1.cell 1
 have z2 := k1.cell 2
 have z3 := k1.cell 3
 have z4 := k1.cell 4
 simp only [gZa, gZb] at z0 z1 z2 z3 z4
 have HP := zI (hp w1 hB1)
 have HW1 := zI hw1
 clear hp hw1 k1
 go_enter Tryz.func194, Tryz.ntmps194
 go_wp2_with fail
 rw [HW1.out]
 first
  | refine HP.out.mono ?_
  | (go_wp2_with fail; refine HP.out.mono ?_)
 rintro e w2 ⟨rfl, hB2⟩
 cases v
 all_goals
  go_wp2
  go_ret
  exact ⟨rfl, hB1.trans (hB2.mono hB1.size)⟩
theorem every_Snap (p : Mna → Bool) (g : Nat) (lb : Array Value) (eg : Enters Tryz.prog g) (A : Option Addr) (c n : Nat) (l : List Mna) (hn : l.length = n) (w : World)
 (hp : ∀ (W : World) (x : Mna), x ∈ l → Below w.heap.size w W → Calls Tryz.prog g (#[.agg x.cells.toArray] ++ lb) W fun e w' => e = .returned (.bool (p x)) ∧ Below W.heap.size W w') (hl : n ≤ 4398046511104) (hr : Rd w A (l.flatMap Mna.cells)) :
 Calls Tryz.prog 173 #[.slice A n c, .func (.func g) #[] lb] w fun e w' => e = .returned (.bool (l.all p)) ∧ Below w.heap.size w w' := by
 obtain ⟨w1, hw1⟩ : ∃ w1, w.alloc (.cells #[.func (.func g) #[] lb] 119) = w1 := ⟨_, rfl⟩
 have hB1 : Below w.heap.size w w1 := hw1 ▸ (Below.refl _ w).alloc (Nat.le_refl _) _
 have k1 : Blk w1 w.heap.size 119 [.func (.func g) #[] lb] := hw1 ▸ Blk.new w _ _
 have HC := zI (contains_Snap (fun x => !(p x)) 194 #[.pointer (some ⟨w.heap.size, 0, none⟩)] (enters_of Tryz.func194 (by kernel_rfl) rfl) A c n l hn w1
  (fun W x hx hB => every1_Snap (p x) g lb eg w.heap.size x W ((k1.below hB k1.lt).cell 0) fun W' hB' => hp W' x hx (hB1.trans ((hB.trans (hB'.mono hB.size)).mono hB1.size))) hl (hr.below hB1))
 have e : l.any (fun x => !(p x)) = !(l.all p) := by
  rw [List.not_all_eq_any_not]
 rw [e] at HC
 obtain ⟨R, hR⟩ : ∃ R, l.all p = R := ⟨_, rfl⟩
 rw [hR] at HC ⊢
 have HW1 := zI hw1
 clear hR e hp hr k1 hw1
 go_enter Tryz.func173, Tryz.ntmps173
 go_wp2_with fail
 rw [HW1.out]
 go_wp2_with fail
 refine HC.out.mono ?_
 rintro e w2 ⟨rfl, hB2⟩
 cases R
 all_goals
  go_wp2
  go_ret
  exact ⟨rfl, hB1.trans (hB2.mono hB1.size)⟩
theorem contains_Set (p : MSet → Bool) (g : Nat) (lb : Array Value) (eg : Enters Tryz.prog g) (A : Option Addr) (c n : Nat) (l : List MSet) (hn : l.length = n) (w : World)
 (hp : ∀ (W : World) (x : MSet), x ∈ l → Below w.heap.size w W → Calls Tryz.prog g (#[.agg x.cells.toArray] ++ lb) W fun e w' => e = .returned (.bool (p x)) ∧ Below W.heap.size W w') (hl : n ≤ 4398046511104) (hr : Rd w A (l.flatMap MSet.cells)) :
 Calls Tryz.prog 170 #[.slice A n c, .func (.func g) #[] lb] w fun e w' => e = .returned (.bool (l.any p)) ∧ Below w.heap.size w w' := by
 have HI := indexMem Tryz.indexSet 5 Tryz.isAgg52 Tryz.sizeOf52 MSet.cells (fun _ => rfl) (by omega) p g lb eg A c n l hn w hp (by omega) hr
 change Calls _ 114 _ _ _ at HI
 have HI' := zI HI
 rw [← findI_any]
 obtain ⟨F, hF⟩ : ∃ F, findI p l = F := ⟨_, rfl⟩
 rw [hF] at HI' ⊢
 clear HI hF hp hr
 go_enter Tryz.func170, Tryz.ntmps170
 go_wp2_with fail
 refine HI'.out.mono ?_
 rintro e w2 ⟨rfl, hB⟩
 go_wp2
 go_ret
 exact ⟨rfl, hB⟩
theorem every1_Set (v : Bool) (g : Nat) (lb : Array Value) (eg : Enters Tryz.prog g) (B0 : Nat) (x : MSet) (w : World) (h0 : w.cell? ⟨B0, 0, none⟩ = some (.func (.func g) #[] lb))
 (hp : ∀ (W : World), Below w.heap.size w W → Calls Tryz.prog g (#[.agg x.cells.toArray] ++ lb) W fun e w' => e = .returned (.bool v) ∧ Below W.heap.size W w') :
 Calls Tryz.prog 171 #[.agg x.cells.toArray, .pointer (some ⟨B0, 0, none⟩)] w fun e w' => e = .returned (.bool (!v)) ∧ Below w.heap.size w w' := by
 have eg' : ∀ args w, (callFunc g args).run Tryz.prog w = .ok (.enter g args) w := eg
 have hl := World.block_lt_of_cell? w ⟨B0, 0, none⟩ h0
 obtain ⟨w1, hw1⟩ : ∃ w1, w.alloc (.cells #[.string x.l_, .string x.m_, .slice x.p_.A x.p_.l.length x.p_.c, .slice x.n_.A x.n_.l.length x.n_.c, .slice x.j_.A x.j_.l.length x.j_.c] 52) = w1 := ⟨_, rfl⟩
 have hB1 : Below w.heap.size w w1 := hw1 ▸ (Below.refl _ w).alloc (Nat.le_refl _) _
 have k1 : Blk w1 w.heap.size 52 [.string x.l_, .string x.m_, .slice x.p_.A x.p_.l.length x.p_.c, .slice x.n_.A x.n_.l.length x.n_.c, .slice x.j_.A x.j_.l.length x.j_.c] := hw1 ▸ Blk.new w _ _
 have h0' : w1.cell? ⟨B0, 0, none⟩ = some (.func (.func g) #[] lb) := by
  rw [hB1.cell (p := ⟨B0, 0, none⟩) hl]
  exact h0
 have z0 := k1.cell 0
 have z1 := k1.cell 1
 have z2 := k1.cell 2
 have z3 := k1.cell 3
 have z4 := k1.cell 4
 simp only [gZa, gZb] at z0 z1 z2 z3 z4
 have HP := zI (hp w1 hB1)
 have HW1 := zI hw1
 clear hp hw1 k1
 go_enter Tryz.func171, Tryz.ntmps171
 go_wp2_with fail
 rw [HW1.out]
 first
  | refine HP.out.mono ?_
  | (go_wp2_with fail; refine HP.out.mono ?_)
 rintro e w2 ⟨rfl, hB2⟩
 cases v
 all_goals
  go_wp2
  go_ret
  exact ⟨rfl, hB1.trans (hB2.mono hB1.size)⟩
theorem every_Set (p : MSet → Bool) (g : Nat) (lb : Array Value) (eg : Enters Tryz.prog g) (A : Option Addr) (c n : Nat) (l : List MSet) (hn : l.length = n) (w : World)
 (hp : ∀ (W : World) (x : MSet), x ∈ l → Below w.heap.size w W → Calls Tryz.prog g (#[.agg x.cells.toArray] ++ lb) W fun e w' => e = .returned (.bool (p x)) ∧ Below W.heap.size W w') (hl : n ≤ 4398046511104) (hr : Rd w A (l.flatMap MSet.cells)) :
 Calls Tryz.prog 139 #[.slice A n c, .func (.func g) #[] lb] w fun e w' => e = .returned (.bool (l.all p)) ∧ Below w.heap.size w w' := by
 obtain ⟨w1, hw1⟩ : ∃ w1, w.alloc (.cells #[.func (.func g) #[] lb] 124) = w1 := ⟨_, rfl⟩
 have hB1 : Below w.heap.size w w1 := hw1 ▸ (Below.refl _ w).alloc (Nat.le_refl _) _
 have k1 : Blk w1 w.heap.size 124 [.func (.func g) #[] lb] := hw1 ▸ Blk.new w _ _
 have HC := zI (contains_Set (fun x => !(p x)) 171 #[.pointer (some ⟨w.heap.size, 0, none⟩)] (enters_of Tryz.func171 (by kernel_rfl) rfl) A c n l hn w1
  (fun W x hx hB => every1_Set (p x) g lb eg w.heap.size x W ((k1.below hB k1.lt).cell 0) fun W' hB' => hp W' x hx (hB1.trans ((hB.trans (hB'.mono hB.size)).mono hB1.size))) hl (hr.below hB1))
 have e : l.any (fun x => !(p x)) = !(l.all p) := by
  rw [List.not_all_eq_any_not]
 rw [e] at HC
 obtain ⟨R, hR⟩ : ∃ R, l.all p = R := ⟨_, rfl⟩
 rw [hR] at HC ⊢
 have HW1 := zI hw1
 clear hR e hp hr k1 hw1
 go_enter Tryz.func139, Tryz.ntmps139
 go_wp2_with fail
 rw [HW1.out]
 go_wp2_with fail
 refine HC.out.mono ?_
 rintro e w2 ⟨rfl, hB2⟩
 cases R
 all_goals
  go_wp2
  go_ret
  exact ⟨rfl, hB1.trans (hB2.mono hB1.size)⟩
structure OwnSn (n : Nat) (W : World) (y : Mna) : Prop where
 body : W.ownsRow n 106 2 y.p_.val y.p_.l.length (y.p_.l.flatMap bkC)
 tags : W.ownsRow n 9 1 y.u_.val y.u_.l.length (y.u_.l.flatMap fun s => [Value.string s])
 own : W.ownsRow n 109 2 y.j_.val y.j_.l.length (y.j_.l.flatMap prC)
structure OwnSe (n : Nat) (W : World) (y : MSet) : Prop where
 body : W.ownsRow n 106 2 y.p_.val y.p_.l.length (y.p_.l.flatMap bkC)
 snaps : W.ownsRow n 49 5 y.n_.val y.n_.l.length (y.n_.l.flatMap Mna.cells)
 own : W.ownsRow n 109 2 y.j_.val y.j_.l.length (y.j_.l.flatMap prC)
 each : ∀ s ∈ y.n_.l, OwnSn n W s
structure OwnSt (n : Nat) (W : World) (y : Mta) : Prop where
 body : W.ownsRow n 106 2 y.p_.val y.p_.l.length (y.p_.l.flatMap bkC)
 own : W.ownsRow n 109 2 y.o_.j_.val y.o_.j_.l.length (y.o_.j_.l.flatMap prC)
structure OwnTe (n : Nat) (W : World) (y : MT_) : Prop where
 sets : W.ownsRow n 52 5 y.y_.val y.y_.l.length (y.y_.l.flatMap MSet.cells)
 grants : W.ownsRow n 111 3 y.g_.val y.g_.l.length (y.g_.l.flatMap grC)
 stages : W.ownsRow n 91 21 y.t_.val y.t_.l.length (y.t_.l.flatMap Mta.cells)
 log : W.ownsRow n 104 4 y.h_.val y.h_.l.length (y.h_.l.flatMap ME_.cells)
 eset : ∀ s ∈ y.y_.l, OwnSe n W s
 estage : ∀ s ∈ y.t_.l, OwnSt n W s
theorem OwnSn.below {n : Nat} {W W' : World} {y : Mna} (h : OwnSn n W y) (hB : Below W.heap.size W W') : OwnSn n W' y := ⟨zgQ h.body hB (Nat.le_refl _), zgQ h.tags hB (Nat.le_refl _), zgQ h.own hB (Nat.le_refl _)⟩
theorem OwnSe.below {n : Nat} {W W' : World} {y : MSet} (h : OwnSe n W y) (hB : Below W.heap.size W W') : OwnSe n W' y := ⟨zgQ h.body hB (Nat.le_refl _), zgQ h.snaps hB (Nat.le_refl _), zgQ h.own hB (Nat.le_refl _), fun s hs => (h.each s hs).below hB⟩
theorem OwnSt.below {n : Nat} {W W' : World} {y : Mta} (h : OwnSt n W y) (hB : Below W.heap.size W W') : OwnSt n W' y := ⟨zgQ h.body hB (Nat.le_refl _), zgQ h.own hB (Nat.le_refl _)⟩
theorem OwnSn.base {n n' : Nat} {W : World} {y : Mna} (h : OwnSn n W y) (hn : n' ≤ n) : OwnSn n' W y := ⟨zfZ h.body hn, zfZ h.tags hn, zfZ h.own hn⟩
theorem OwnSe.base {n n' : Nat} {W : World} {y : MSet} (h : OwnSe n W y) (hn : n' ≤ n) : OwnSe n' W y := ⟨zfZ h.body hn, zfZ h.snaps hn, zfZ h.own hn, fun s hs => (h.each s hs).base hn⟩
theorem OwnSt.base {n n' : Nat} {W : World} {y : Mta} (h : OwnSt n W y) (hn : n' ≤ n) : OwnSt n' W y := ⟨zfZ h.body hn, zfZ h.own hn⟩
theorem OwnSn.keep {n : Nat} {W W' : World} {y : Mna} {e : TypeId} (h : OwnSn n W y) (hk : Keeps e W W') (h1 : 106 ≠ e) (h2 : 9 ≠ e) (h3 : 109 ≠ e) : OwnSn n W' y := ⟨zbX h.body h1 hk, zbX h.tags h2 hk, zbX h.own h3 hk⟩
theorem OwnSe.keep {n : Nat} {W W' : World} {y : MSet} {e : TypeId} (h : OwnSe n W y) (hk : Keeps e W W') (h1 : 106 ≠ e) (h2 : 9 ≠ e) (h3 : 109 ≠ e) (h4 : 49 ≠ e) : OwnSe n W' y := ⟨zbX h.body h1 hk, zbX h.snaps h4 hk, zbX h.own h3 hk, fun s hs => (h.each s hs).keep hk h1 h2 h3⟩
theorem OwnSt.keep {n : Nat} {W W' : World} {y : Mta} {e : TypeId} (h : OwnSt n W y) (hk : Keeps e W W') (h1 : 106 ≠ e) (h3 : 109 ≠ e) : OwnSt n W' y := ⟨zbX h.body h1 hk, zbX h.own h3 hk⟩
theorem slGood_own {α : Type} {W W' : World} {n size b : Nat} {e : TypeId} {cells : α → List Value} {good good' : α → Prop} {X Y : Sl α} (hX : SlGood W cells good b X) (hl : Y.l.length = X.l.length) (ho : W'.ownsRow n e size Y.val Y.l.length (Y.l.flatMap cells)) (hg : ∀ y ∈ Y.l, good' y) : SlGood W' cells good' b Y := by
 obtain ⟨A, c, hv, hcap, hnil, hrd, _⟩ := ownAny ho
 injection hv with h1 h2 h3
 exact ⟨by rw [h1]; exact hrd.1, hg, by rw [h3]; exact hcap, by rw [h1, h3]; exact hnil, by rw [hl]; exact hX.len⟩
theorem Mna.Good.of_own {W W' : World} {n : Nat} {x y : Mna} (h : x.Good W) (hp : y.plain = x.plain) (ho : OwnSn n W' y) : y.Good W' := by
 obtain ⟨h1, h2, h3, h4, h5⟩ := PS_.eq_iff.1 hp
 refine ⟨by have := h.L_; rw [show y.x_ = x.x_ from h1]; exact this, by have := h.gguid_; rw [show y.z_ = x.z_ from h2]; exact this, slGood_own h.K_ (by rw [show y.p_.l = x.p_.l from h3]) ho.body fun b hb => h.K_.el b (by rw [← show y.p_.l = x.p_.l from h3]; exact hb), slGood_own h.U_ (by rw [show y.u_.l = x.u_.l from h4]) ho.tags fun b hb => h.U_.el b (by rw [← show y.u_.l = x.u_.l from h4]; exact hb), slGood_own h.G_ (by rw [show y.j_.l = x.j_.l from h5]) ho.own fun b hb => h.G_.el b (by rw [← show y.j_.l = x.j_.l from h5]; exact hb)⟩
theorem mem_plain {α β : Type} {f : α → β} {X Y : List α} (h : Y.map f = X.map f) {y : α} (hy : y ∈ Y) : ∃ x ∈ X, f y = f x := by
 have : f y ∈ X.map f := h ▸ List.mem_map.2 ⟨y, hy, rfl⟩
 obtain ⟨x, hx, e⟩ := List.mem_map.1 this
 exact ⟨x, hx, e.symm⟩
theorem map_len {α β : Type} {f : α → β} {X Y : List α} (h : Y.map f = X.map f) : Y.length = X.length := by
 have := congrArg List.length h
 simpa using this
theorem MSet.Good.of_own {W W' : World} {n : Nat} {x y : MSet} (h : x.Good W) (hp : y.plain = x.plain) (ho : OwnSe n W' y) : y.Good W' := by
 obtain ⟨h1, h2, h3, h4, h5⟩ := PSet.eq_iff.1 hp
 refine ⟨by have := h.C_; rw [show y.l_ = x.l_ from h1]; exact this, by have := h.gorigin_; rw [show y.m_ = x.m_ from h2]; exact this, slGood_own h.K_ (by rw [show y.p_.l = x.p_.l from h3]) ho.body fun b hb => h.K_.el b (by rw [← show y.p_.l = x.p_.l from h3]; exact hb), slGood_own h.f_ (map_len h4) ho.snaps fun s hs => ?_, slGood_own h.G_ (by rw [show y.j_.l = x.j_.l from h5]) ho.own fun b hb => h.G_.el b (by rw [← show y.j_.l = x.j_.l from h5]; exact hb)⟩
 obtain ⟨s', hs', e⟩ := mem_plain h4 hs
 exact (h.f_.el s' hs').of_own e (ho.each s hs)
set_option linter.unusedSimpArgs false
def SepS (a b : MSet) : Prop := ∀ g h : Addr, a.n_.A = some g → b.n_.A = some h → g.block < h.block
theorem OwnSe.blk {n : Nat} {W : World} {y : MSet} (h : OwnSe n W y) {g : Addr} (hg : y.n_.A = some g) : n ≤ g.block ∧ g.block < W.heap.size := by
 obtain ⟨_, ⟨hv, _⟩ | ⟨gg, cap, cur, hv, hn, hb, _⟩⟩ := h.snaps
 · injection hv with e1 e2 e3
   rw [hg] at e1
   cases e1
 · injection hv with e1 e2 e3
   rw [hg] at e1
   injection e1 with e1
   subst e1
   exact ⟨hn, (Array.getElem?_eq_some_iff.1 hb).1⟩
theorem row_blk {n size k c : Nat} {W : World} {e : TypeId} {A : Option Addr} {xs : List Value} (h : W.ownsRow n e size (.slice A k c) k xs) {g : Addr} (hg : A = some g) : n ≤ g.block ∧ g.block < W.heap.size ∧ g = ⟨g.block, 0, none⟩ := by
 obtain ⟨_, ⟨hv, _⟩ | ⟨gg, cap, cur, hv, hn, hb, _⟩⟩ := h
 · injection hv with e1 e2 e3
   rw [hg] at e1
   cases e1
 · injection hv with e1 e2 e3
   rw [hg] at e1
   injection e1 with e1
   subst e1
   exact ⟨hn, (Array.getElem?_eq_some_iff.1 hb).1, rfl⟩
def SepG (a b : Mna) : Prop := ∀ g h : Addr, a.u_.A = some g → b.u_.A = some h → g.block < h.block
def SepT (a b : MSet) : Prop := ∀ x ∈ a.n_.l, ∀ y ∈ b.n_.l, SepG x y
structure SepX (y : MT_) : Prop where
 sn : y.y_.l.Pairwise SepS
 st : y.y_.l.Pairwise SepT
 sg : ∀ s ∈ y.y_.l, s.n_.l.Pairwise SepG
end Go.Proofs.YtimmcmjipmkebaaGreat
