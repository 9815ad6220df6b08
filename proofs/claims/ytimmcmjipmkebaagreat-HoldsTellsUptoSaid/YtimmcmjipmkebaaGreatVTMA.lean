/-
 Contents and properties that may be held. Conditions: they are as they come in.
-/
import Derived.Test.YtimmcmjipmkebaaGreatVTCA
import Derived.Test.YtimmcmjipmkebaaGreatVGRX
import Derived.Test.YtimmcmjipmkebaaGreatVRSM
import Derived.Test.YtimmcmjipmkebaaGreatVENN
import Derived.Shelf.SlicesQ.Load
import Derived.Deep.WholeRow
namespace Go.Proofs.YtimmcmjipmkebaaGreat
open Go.ChangeShapes Go.WideShapes Go.ChangeAt Go.RowKit
set_option maxRecDepth 100000
set_option linter.unusedSimpArgs false
theorem nameB (s : ByteArray) (w : World) :
 Calls Tryz.prog 45 #[.string s] w fun e w' => e = .returned (.bool (zaQ (bs s))) ∧ Below w.heap.size w w' :=
 (name_any s w).mono fun _ _ ⟨h, h'⟩ => ⟨h, h' ▸ Below.refl _ _⟩
theorem bkCheckS (X : Sl Bk) (w : World) (h : SlGood w bkC goodBk 24 X) :
 Calls Tryz.prog 192 #[.slice X.A X.l.length X.c] w fun e w' => e = .returned (.int .i64 (if okK X.l then 0 else 9)) ∧ Below w.heap.size w w' :=
 blkCheck_any X.A X.c X.l.length X.l rfl (by have := h.len; omega) (fun x hx => (h.el x hx).1) w h.rd
theorem prCheckS (X : Sl Pr) (w : World) (h : SlGood w prC goodPr 32 X) :
 Calls Tryz.prog 193 #[.slice X.A X.l.length X.c] w fun e w' => e = .returned (.int .i64 (if okP X.l then 0 else 9)) ∧ Below w.heap.size w w' :=
 check_any X.A X.c X.l.length X.l rfl (by have := h.len; omega) (fun x hx => (h.el x hx).2) w h.rd
theorem mayHold_any (X : Sl Bk) (Y : Sl Pr) (w : World) (hX : SlGood w bkC goodBk 24 X) (hY : SlGood w prC goodPr 32 Y) :
 Calls Tryz.prog 172 #[.slice X.A X.l.length X.c, .slice Y.A Y.l.length Y.c] w fun e w' => e = .returned (.bool ((okK X.l && okP Y.l))) ∧ Below w.heap.size w w' := by
 have hA : Below w.heap.size w w := Below.refl _ _
 have H1 : Hid (∀ W, Below w.heap.size w W → Calls Tryz.prog 192 #[.slice X.A X.l.length X.c] W fun e w' => e = .returned (.int .i64 (if (okK X.l) then 0 else 9)) ∧ Below W.heap.size W w') := zI fun W hW => bkCheckS X W (hX.below hW fun _ h => h)
 have H2 : Hid (∀ W, Below w.heap.size w W → Calls Tryz.prog 193 #[.slice Y.A Y.l.length Y.c] W fun e w' => e = .returned (.int .i64 (if (okP Y.l) then 0 else 9)) ∧ Below W.heap.size W w') := zI fun W hW => prCheckS Y W (hY.below hW fun _ h => h)
 obtain ⟨R, hR⟩ : ∃ R, (okK X.l && okP Y.l) = R := ⟨_, rfl⟩
 rw [hR]
 have HRR : Hid (R = ((okK X.l) && ((okP Y.l)))) := zI (hR.symm.trans (show (okK X.l && okP Y.l) = ((okK X.l) && ((okP Y.l))) from by rfl))
 clear hR
 obtain ⟨b1, hb1⟩ : ∃ b, (okK X.l) = b := ⟨_, rfl⟩
 rw [hb1] at HRR
 rw [hb1] at H1
 clear hb1
 obtain ⟨b2, hb2⟩ : ∃ b, (okP Y.l) = b := ⟨_, rfl⟩
 rw [hb2] at HRR
 rw [hb2] at H2
 clear hb2
 have hs0 := hA.size
 have hT0 : Below w.heap.size w w := Below.refl _ _
 clear hX hY
 go_enter Tryz.func172, Tryz.ntmps172
 go_wp2_with fail
 refine (H1.out _ hT0).mono ?_
 rintro e v1 ⟨rfl, hV1⟩
 have hT1 : Below w.heap.size w v1 := hT0.trans (hV1.mono hT0.size)
 have hX1 : Below w.heap.size w v1 := hA.trans (hT1.mono hs0)
 rcases b1 with _ | _
 · skip
   go_wp2
   go_ret
   exact ⟨zaZ (by rw [HRR.out]; rfl), hX1⟩
 · skip
   go_wp2_with fail
   refine (H2.out _ hT1).mono ?_
   rintro e v2 ⟨rfl, hV2⟩
   have hT2 : Below w.heap.size w v2 := hT1.trans (hV2.mono hT1.size)
   have hX2 : Below w.heap.size w v2 := hA.trans (hT2.mono hs0)
   rcases b2 with _ | _
   · skip
     go_wp2
     go_ret
     exact ⟨zaZ (by rw [HRR.out]; rfl), hX2⟩
   · skip
     go_wp2
     go_ret
     exact ⟨zaZ (by rw [HRR.out]; rfl), hX2⟩
theorem load_elem (P : Program) {w : World} {A : Option Addr} {α : Type} {cells : α → List Value} {n : Nat} {l : List α} (hn : ∀ a, (cells a).length = n) (hp : 0 < n) (h : Rd w A (l.flatMap cells)) {k : Nat} {x : α} (hk : l[k]? = some x) :
 ∃ b off, A = some ⟨b, off, none⟩ ∧ b < w.heap.size ∧ ∀ W, Below w.heap.size w W → Sem.run P (loadCellsFrom ⟨b, off + k * n, none⟩ 0 n #[]) W = .ok (cells x).toArray W := by
 obtain ⟨b, off, e, hb, hc⟩ := Rd.elem hn hp h hk
 refine ⟨b, off, e, hb, fun W hW => run_loadCellsFrom_list P W _ (cells x) n (hn x) fun j v hv => ?_⟩
 rw [Addr.add_lit, hW.cell (p := ⟨b, off + k * n + j, none⟩) hb, Nat.add_assoc]
 exact hc j v hv
end Go.Proofs.YtimmcmjipmkebaaGreat
