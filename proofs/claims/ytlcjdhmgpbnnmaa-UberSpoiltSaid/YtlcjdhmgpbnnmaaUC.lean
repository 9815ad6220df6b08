/-
  Encode of the reference (uberblocks). No conditions.
-/
import Derived.Test.YtlcjdhmgpbnnmaaUB
import Derived.Test.YtlcjdhmgpbnnmaaFE
import Derived.Test.YtlcjdhmgpbnnmaaFX
import Derived.Deep.RegionLawGrows
import Derived.Deep.DeepCutAuto
namespace Go.Proofs.Ytlcjdhmgpbnnmaa
open Go.ChangeShapes Go.WideShapes Go.ChangeAt Go.RowKit


theorem own_kept0 {W W' : World} {base g n c : Nat} {e : TypeId} {xs : List Value} (h : W.ownsRow base e 1 (.slice (some ⟨g, 0, none⟩) n c) n xs) (hg : W.grownBy W' none) : W'.ownsRow base e 1 (.slice (some ⟨g, 0, none⟩) n c) n xs :=
  h.kept hg (.inr (by simp [Value.ownBlock]))
theorem refPut_at (n : Int) (m : Nat) (k : Int) (hk : k = m) (h0 : 0 < m) (h8 : m ≤ 8) (w0 W : World) (hW : Below w0.heap.size w0 W) :
    Calls Try.prog 20 #[.int .i64 n, .int .i64 k] W fun e w' => ∃ g c, e = .returned (.slice (some ⟨g, 0, none⟩) m c) ∧ w'.ownsRow w0.heap.size 5 1 (.slice (some ⟨g, 0, none⟩) m c) m (octCells (put n m)) ∧ w0.heap.size ≤ g ∧ W.heap.size ≤ g ∧ g < w'.heap.size ∧ Below W.heap.size W w' := by
  subst hk
  refine (refPut_any n m h8 W).mono ?_
  rintro e w' ⟨v, rfl, hown, hB⟩
  obtain ⟨g, c, rfl, hg, hlt⟩ := hown.form h0
  exact ⟨g, c, rfl, own_below hown (Below.refl _ _) hW.size, Nat.le_trans hW.size hg, hg, hlt, hB⟩

/-- A slice's length. -/
def slen : Value → Nat
  | .slice _ n _ => n
  | _ => 0

/-- The cells of an uberblock, and what lay, stay. -/
theorem held3B {W W' : World} {g : Nat} {a b c : Value} (hg : g < W.heap.size) (h0 : W.cell? ⟨g, 0, none⟩ = some a) (h1 : W.cell? ⟨g, 1, none⟩ = some b) (h2 : W.cell? ⟨g, 2, none⟩ = some c) (hB : Below W.heap.size W W') :
    W'.cell? ⟨g, 0, none⟩ = some a ∧ W'.cell? ⟨g, 1, none⟩ = some b ∧ W'.cell? ⟨g, 2, none⟩ = some c ∧ Below W.heap.size W W' :=
  ⟨(hB.cell (p := ⟨g, 0, none⟩) hg).trans h0, (hB.cell (p := ⟨g, 1, none⟩) hg).trans h1, (hB.cell (p := ⟨g, 2, none⟩) hg).trans h2, hB⟩
theorem lit_news {W : World} {g : Nat} {zs : List Int} (h : RdB W (some ⟨g, 0, none⟩) zs) (hne : zs ≠ []) : ∀ b, some (⟨g, 0, none⟩ : Addr) = some b → ∀ j u, (octCells zs)[j]? = some u → W.cell? (b.add j) = some u := fun b hb j u hu => by
  injection hb with hb
  subst hb
  obtain ⟨b, off, e, _, hc⟩ := h (by simpa using hne)
  injection e with e
  injection e with e1 e2
  subst e1
  have := hc j u hu
  rw [← e2] at this
  have hadd : (⟨g, 0, none⟩ : Addr).add j = ⟨g, j, none⟩ := by unfold Addr.add; split <;> simp_all
  rw [hadd]
  simpa using this

set_option maxHeartbeats 4000000 in
set_option maxRecDepth 100000 in
theorem refEncode_ok (u : Ub) (hu : u.ok = true) (w : World) :
    Calls Try.prog 8 #[u.val] w fun e w' => ∃ A c, e = .returned (.tuple #[.slice A 64 c, .int .i64 0]) ∧ RdB w' A u.octs ∧ Below w.heap.size w w' := by
  obtain ⟨i0, hi, hz0, hz1, hz2⟩ := info_parts info5
  obtain ⟨h1, h2, h3, h4, h5, h6, h7, h8⟩ := Ub.ok_iff.1 hu
  obtain ⟨t, f, o⟩ := u
  dsimp only at h1 h2 h3 h4 h5 h6 h7 h8
  have g1 : decide (t < 1) = false := decide_eq_false (by omega)
  have g2 : decide (1099511627776 < t) = false := decide_eq_false (by omega)
  have g3 : decide (f < 0) = false := decide_eq_false (by omega)
  have g4 : (f == 1) = false := beq_eq_false_iff_ne.2 h4
  have g5 : decide (8192 ≤ f) = false := decide_eq_false (by omega)
  have g6 : decide (o < 0) = false := decide_eq_false (by omega)
  have g7 : decide (1024 < o) = false := decide_eq_false (by omega)
  have g8 : (o == 0) = (f == 0) := by rw [Bool.eq_iff_iff]; simp [h8]
  have HOO : Hid ((Ub.mk t f o).octs = (Ub.mk t f o).head ++ sumOcts (feedS zeroS (words (Ub.mk t f o).head))) := rfl
  have HHE : Hid ((Ub.mk t f o).head = mark4 ++ (put t 8 ++ (put f 4 ++ (put o 4 ++ List.replicate 12 0)))) := rfl
  have HHO := Lib.hid (Ub.mk t f o).head_octs
  have HL := Lib.hid (Ub.mk t f o).head_length
  have HSL := Lib.hid (sumOcts_length (feedS zeroS (words (Ub.mk t f o).head)))
  obtain ⟨ss, hss⟩ : ∃ ss, feedS zeroS (words (Ub.mk t f o).head) = ss := ⟨_, rfl⟩
  have HSS := Lib.hid hss
  rw [hss] at HOO HSL
  generalize (Ub.mk t f o).octs = zo at HOO ⊢
  generalize (Ub.mk t f o).head = zh at HOO HHE HHO HL HSS hss
  clear hss
  have lt8 := Lib.hid (put_length t 8)
  have lf4 := Lib.hid (put_length f 4)
  have lo4 := Lib.hid (put_length o 4)
  have PT := Lib.hid (refPut_at t 8 8 rfl (by omega) (by omega))
  have PF := Lib.hid (refPut_at f 4 4 rfl (by omega) (by omega))
  have PO := Lib.hid (refPut_at o 4 4 rfl (by omega) (by omega))
  clear h1 h2 h3 h4 h5 h6 h7 h8 hu
  have hW1 : ((w.alloc (.cells #[.int .i64 t, .int .i64 f, .int .i64 o] 23)).alloc (.cells #[.int .u8 103, .int .u8 100, .int .u8 110, .int .u8 49] 5)).shape? (w.heap.size + 1) = some (5, 4) := by
    have := shape_blk (Blk.new (w.alloc (.cells #[.int .i64 t, .int .i64 f, .int .i64 o] 23)) (mark4.map (Value.int .u8)) 5)
    rw [World.size_alloc] at this
    exact this
  have hcv := run_conv_lit (P := Try.prog) _ 24 5 (w.heap.size + 1) 4 4 4 hW1 Try.underlying24 Try.underlying5
  go_enter Try.func8, Try.ntmps8
  go_wp2_with fail
  obtain ⟨W1, hWe⟩ : ∃ W1, (w.alloc (.cells #[.int .i64 t, .int .i64 f, .int .i64 o] 23)).alloc (.cells #[.int .u8 103, .int .u8 100, .int .u8 110, .int .u8 49] 5) = W1 := ⟨_, rfl⟩
  have kb : Blk W1 w.heap.size 23 [.int .i64 t, .int .i64 f, .int .i64 o] := hWe ▸ (Blk.new w [.int .i64 t, .int .i64 f, .int .i64 o] 23).alloc _
  have hl1 : RdB W1 (some ⟨w.heap.size + 1, 0, none⟩) mark4 := by
    have := RdB.of_blk (Blk.new (w.alloc (.cells #[.int .i64 t, .int .i64 f, .int .i64 o] 23)) (mark4.map (Value.int .u8)) 5)
    rw [World.size_alloc] at this
    rw [← hWe]
    exact this
  have hB01 : Below w.heap.size w W1 := hWe ▸ ((Below.refl _ w).alloc (Nat.le_refl _) _).alloc (by simp) _
  rw [hWe]
  obtain ⟨w2, hw2⟩ : ∃ w2, W1.freeze ⟨w.heap.size + 1, 4, none⟩ 1 = w2 := ⟨_, rfl⟩
  have hst : Stays w.heap.size W1 w2 := hw2 ▸ Stays.freeze (by omega)
  have hB02 : Below w.heap.size w w2 := hB01.trans hst.1
  have hl2 := hst.rd hl1
  have hc0 := (hst.2.1 ⟨w.heap.size, 0, none⟩ kb.lt).trans (kb.cell 0)
  have hc1 := (hst.2.1 ⟨w.heap.size, 1, none⟩ kb.lt).trans (kb.cell 1)
  have hc2 := (hst.2.1 ⟨w.heap.size, 2, none⟩ kb.lt).trans (kb.cell 2)
  have hbl : w.heap.size < w2.heap.size := Nat.lt_of_lt_of_le kb.lt hst.1.size
  rw [hw2]
  simp only [List.getElem?_cons_zero, List.getElem?_cons_succ] at hc0 hc1 hc2
  have HL2 := Lib.hid hl2
  clear hWe hw2 kb hl1 hB01 hst hl2 hcv hW1 g1 g2 g3 g4 g5 g6 g7 g8
  clear W1
  go_upto_region 4 with fail
  have hBr : Below w2.heap.size w2 w2 := Below.refl _ _
  go_cut [4] (fun v wx => ∃ g c, v = .slice (some ⟨g, 0, none⟩) 20 c ∧ Hid (wx.ownsRow w2.heap.size 5 1 (.slice (some ⟨g, 0, none⟩) 20 c) 20 (octCells mark4 ++ octCells (put t 8) ++ octCells (put f 4) ++ octCells (put o 4))) ∧ Below w2.heap.size w2 wx)
  case first =>
    go_region_held3 (fun w' => w'.cell? ⟨w.heap.size, 0, none⟩ = some (.int .i64 t) ∧ w'.cell? ⟨w.heap.size, 1, none⟩ = some (.int .i64 f) ∧ w'.cell? ⟨w.heap.size, 2, none⟩ = some (.int .i64 o) ∧ Below w2.heap.size w2 w')
      (first | exact held3B hbl hc0 hc1 hc2 (by (repeat (first | with_reducible exact Below.refl _ _ | with_reducible assumption | with_reducible refine Below.drew ?_ | with_reducible refine Below.alloc ?_ ?_ _ | with_reducible refine Below.setCell ?_ ?_ _ | (focus omega) | (focus (simp; done)) | (focus (simp; omega))))))
      (first
        | (go_at_call_of 20 (Value.int .i64 t); ((with_reducible refine (PT.out w2 _ ?_).mono ?_); (focus ((repeat (first | with_reducible exact Below.refl _ _ | with_reducible assumption | with_reducible refine Below.drew ?_ | with_reducible refine Below.alloc ?_ ?_ _ | with_reducible refine Below.setCell ?_ ?_ _ | (focus omega) | (focus (simp; done)) | (focus (simp; omega)))); done)); rintro e wA ⟨gT, cT, rfl, hoT, qT, lT, uT, hBT⟩; have hBwT : Below w2.heap.size w2 wA := (by refine Below.trans ?_ (hBT.mono ?_); (focus ((repeat (first | with_reducible exact Below.refl _ _ | with_reducible assumption | with_reducible refine Below.drew ?_ | with_reducible refine Below.alloc ?_ ?_ _ | with_reducible refine Below.setCell ?_ ?_ _ | (focus omega) | (focus (simp; done)) | (focus (simp; omega)))); done)); (focus (first | omega | (simp; done) | (simp; omega)))); have hsT := hBwT.size; have HOT := Lib.hid hoT; have HBT := Lib.hid hBT; clear hoT hBT; (try simp at lT)))
        | (go_at_call_of 20 (Value.int .i64 f); ((with_reducible refine (PF.out w2 _ ?_).mono ?_); (focus ((repeat (first | with_reducible exact Below.refl _ _ | with_reducible assumption | with_reducible refine Below.drew ?_ | with_reducible refine Below.alloc ?_ ?_ _ | with_reducible refine Below.setCell ?_ ?_ _ | (focus omega) | (focus (simp; done)) | (focus (simp; omega)))); done)); rintro e wB ⟨gF, cF, rfl, hoF, qF, lF, uF, hBF⟩; have hBwF : Below w2.heap.size w2 wB := (by refine Below.trans ?_ (hBF.mono ?_); (focus ((repeat (first | with_reducible exact Below.refl _ _ | with_reducible assumption | with_reducible refine Below.drew ?_ | with_reducible refine Below.alloc ?_ ?_ _ | with_reducible refine Below.setCell ?_ ?_ _ | (focus omega) | (focus (simp; done)) | (focus (simp; omega)))); done)); (focus (first | omega | (simp; done) | (simp; omega)))); have hsF := hBwF.size; have HOF := Lib.hid hoF; have HBF := Lib.hid hBF; clear hoF hBF; (try simp at lF)))
        | (go_at_call_of 20 (Value.int .i64 o); ((with_reducible refine (PO.out w2 _ ?_).mono ?_); (focus ((repeat (first | with_reducible exact Below.refl _ _ | with_reducible assumption | with_reducible refine Below.drew ?_ | with_reducible refine Below.alloc ?_ ?_ _ | with_reducible refine Below.setCell ?_ ?_ _ | (focus omega) | (focus (simp; done)) | (focus (simp; omega)))); done)); rintro e wC ⟨gQ, cQ, rfl, hoQ, qQ, lQ, uQ, hBQ⟩; have hBwQ : Below w2.heap.size w2 wC := (by refine Below.trans ?_ (hBQ.mono ?_); (focus ((repeat (first | with_reducible exact Below.refl _ _ | with_reducible assumption | with_reducible refine Below.drew ?_ | with_reducible refine Below.alloc ?_ ?_ _ | with_reducible refine Below.setCell ?_ ?_ _ | (focus omega) | (focus (simp; done)) | (focus (simp; omega)))); done)); (focus (first | omega | (simp; done) | (simp; omega)))); have hsQ := hBwQ.size; have HOQ := Lib.hid hoQ; have HBQ := Lib.hid hBQ; clear hoQ hBQ; (try simp at lQ)))
        | ((refine step_append_grows (o := ⟨some 53, _, _, _, _, _⟩) (by rfl) _ _ _ (by rfl) 5 i0 (.int .u8 0) 1 1 Try.underlying24 hi hz0 hz1 hz2 rfl (by omega) (some ⟨w.heap.size + 1, 0, none⟩) 4 4 (octCells mark4) (by rfl) (fun h => by cases h) rfl ?_ ⟨gT, 0, none⟩ 8 cT (octCells (put t 8)) (by rfl) (by rw [octCells_length, put_length]) ?_ (octCells_one _) (by omega) (by unfold maxLen; omega) (by omega) ?_); (focus (refine lit_news (RdB.below HL2.out ?_) (by decide); ((repeat (first | with_reducible exact Below.refl _ _ | with_reducible assumption | with_reducible refine Below.drew ?_ | with_reducible refine Below.alloc ?_ ?_ _ | with_reducible refine Below.setCell ?_ ?_ _ | (focus omega) | (focus (simp; done)) | (focus (simp; omega)))); done))); (focus (refine own_news (base := w2.heap.size) (n := 8) (c := cT) (e := 5) ?_; ((repeat (first | with_reducible exact HOT.out | with_reducible exact HOF.out | with_reducible exact HOQ.out | with_reducible exact HO1.out | with_reducible exact HO2.out | with_reducible refine own_below ?_ HBT.out (Nat.le_refl _) | with_reducible refine own_below ?_ HBF.out (Nat.le_refl _) | with_reducible refine own_below ?_ HBQ.out (Nat.le_refl _) | (with_reducible refine own_kept ?_ HG2.out ?_; rotate_left; (focus (first | omega | (simp; done) | (simp; omega)))) | (with_reducible refine own_kept ?_ HG3.out ?_; rotate_left; (focus (first | omega | (simp; done) | (simp; omega)))) | (with_reducible refine own_kept0 ?_ HG1.out))); done))); rintro v1 y1 ho1' hg1; obtain ⟨g1, c1, rfl, hge1, hlt1⟩ := World.ownsRow.form ho1' (by omega); have hBy1 : Below w2.heap.size w2 y1 := (by refine Below.grown ?_ hg1 ?_ ?_; (focus ((repeat (first | with_reducible exact Below.refl _ _ | with_reducible assumption | with_reducible refine Below.drew ?_ | with_reducible refine Below.alloc ?_ ?_ _ | with_reducible refine Below.setCell ?_ ?_ _ | (focus omega) | (focus (simp; done)) | (focus (simp; omega)))); done)); (focus (first | omega | (simp; done) | (simp; omega))); (focus (intro j e; cases e))); have ht1 := hBy1.size; have HO1 := Lib.hid (own_below ho1' (Below.refl _ _) (by (first | omega | (simp; done) | (simp; omega)) : w2.heap.size ≤ _)); have HG1 := Lib.hid hg1; clear ho1' hg1; (try simp at hge1))
        | ((refine step_append_lies (o := ⟨some 57, _, _, _, _, _⟩) _ (by rfl) _ _ _ (by rfl) w2.heap.size 5 i0 (.int .u8 0) 1 1 Try.underlying24 hi hz0 hz1 hz2 rfl (by omega) (.slice (some ⟨g1, 0, none⟩) (4 + 8) c1) (4 + 8) (octCells mark4 ++ octCells (put t 8)) (by rfl) ?_ ⟨gF, 0, none⟩ 4 cF (octCells (put f 4)) (by rfl) (by rw [octCells_length, put_length]) ?_ (octCells_one _) (by omega) (by unfold maxLen; omega) (by omega) ?_ _ rfl ?_); (focus ((repeat (first | with_reducible exact HOT.out | with_reducible exact HOF.out | with_reducible exact HOQ.out | with_reducible exact HO1.out | with_reducible exact HO2.out | with_reducible refine own_below ?_ HBT.out (Nat.le_refl _) | with_reducible refine own_below ?_ HBF.out (Nat.le_refl _) | with_reducible refine own_below ?_ HBQ.out (Nat.le_refl _) | (with_reducible refine own_kept ?_ HG2.out ?_; rotate_left; (focus (first | omega | (simp; done) | (simp; omega)))) | (with_reducible refine own_kept ?_ HG3.out ?_; rotate_left; (focus (first | omega | (simp; done) | (simp; omega)))) | (with_reducible refine own_kept0 ?_ HG1.out))); done)); (focus (refine own_news (base := w2.heap.size) (n := 4) (c := cF) (e := 5) ?_; ((repeat (first | with_reducible exact HOT.out | with_reducible exact HOF.out | with_reducible exact HOQ.out | with_reducible exact HO1.out | with_reducible exact HO2.out | with_reducible refine own_below ?_ HBT.out (Nat.le_refl _) | with_reducible refine own_below ?_ HBF.out (Nat.le_refl _) | with_reducible refine own_below ?_ HBQ.out (Nat.le_refl _) | (with_reducible refine own_kept ?_ HG2.out ?_; rotate_left; (focus (first | omega | (simp; done) | (simp; omega)))) | (with_reducible refine own_kept ?_ HG3.out ?_; rotate_left; (focus (first | omega | (simp; done) | (simp; omega)))) | (with_reducible refine own_kept0 ?_ HG1.out))); done))); (focus (first | omega | (simp; done) | (simp; omega))); intro g2 c2 y2 ho2 hg2 ha2 hl2'; have hBy2 : Below w2.heap.size w2 y2 := (by refine Below.grown ?_ hg2 ?_ ?_; (focus ((repeat (first | with_reducible exact Below.refl _ _ | with_reducible assumption | with_reducible refine Below.drew ?_ | with_reducible refine Below.alloc ?_ ?_ _ | with_reducible refine Below.setCell ?_ ?_ _ | (focus omega) | (focus (simp; done)) | (focus (simp; omega)))); done)); (focus (first | omega | (simp; done) | (simp; omega))); (focus (intro j e; simp [Value.ownBlock] at e; omega))); have ht2 := hg2.size; have hb2 := own_ge ho2; have HO2 := Lib.hid ho2; have HG2 := Lib.hid (grown_of hg2); clear ho2 hg2; simp only [Value.ownBlock, Option.some.injEq] at ha2)
        | ((refine step_append_lies (o := ⟨some 61, _, _, _, _, _⟩) _ (by rfl) _ _ _ (by rfl) w2.heap.size 5 i0 (.int .u8 0) 1 1 Try.underlying24 hi hz0 hz1 hz2 rfl (by omega) (.slice (some ⟨g2, 0, none⟩) (4 + 8 + 4) c2) (4 + 8 + 4) (octCells mark4 ++ octCells (put t 8) ++ octCells (put f 4)) (by rfl) ?_ ⟨gQ, 0, none⟩ 4 cQ (octCells (put o 4)) (by rfl) (by rw [octCells_length, put_length]) ?_ (octCells_one _) (by omega) (by unfold maxLen; omega) (by omega) ?_ _ rfl ?_); (focus ((repeat (first | with_reducible exact HOT.out | with_reducible exact HOF.out | with_reducible exact HOQ.out | with_reducible exact HO1.out | with_reducible exact HO2.out | with_reducible refine own_below ?_ HBT.out (Nat.le_refl _) | with_reducible refine own_below ?_ HBF.out (Nat.le_refl _) | with_reducible refine own_below ?_ HBQ.out (Nat.le_refl _) | (with_reducible refine own_kept ?_ HG2.out ?_; rotate_left; (focus (first | omega | (simp; done) | (simp; omega)))) | (with_reducible refine own_kept ?_ HG3.out ?_; rotate_left; (focus (first | omega | (simp; done) | (simp; omega)))) | (with_reducible refine own_kept0 ?_ HG1.out))); done)); (focus (refine own_news (base := w2.heap.size) (n := 4) (c := cQ) (e := 5) ?_; ((repeat (first | with_reducible exact HOT.out | with_reducible exact HOF.out | with_reducible exact HOQ.out | with_reducible exact HO1.out | with_reducible exact HO2.out | with_reducible refine own_below ?_ HBT.out (Nat.le_refl _) | with_reducible refine own_below ?_ HBF.out (Nat.le_refl _) | with_reducible refine own_below ?_ HBQ.out (Nat.le_refl _) | (with_reducible refine own_kept ?_ HG2.out ?_; rotate_left; (focus (first | omega | (simp; done) | (simp; omega)))) | (with_reducible refine own_kept ?_ HG3.out ?_; rotate_left; (focus (first | omega | (simp; done) | (simp; omega)))) | (with_reducible refine own_kept0 ?_ HG1.out))); done))); (focus (first | omega | (simp; done) | (simp; omega))); intro g3 c3 y3 ho3 hg3 ha3 hl3; have hBy3 : Below w2.heap.size w2 y3 := (by refine Below.grown ?_ hg3 ?_ ?_; (focus ((repeat (first | with_reducible exact Below.refl _ _ | with_reducible assumption | with_reducible refine Below.drew ?_ | with_reducible refine Below.alloc ?_ ?_ _ | with_reducible refine Below.setCell ?_ ?_ _ | (focus omega) | (focus (simp; done)) | (focus (simp; omega)))); done)); (focus (first | omega | (simp; done) | (simp; omega))); (focus (intro j e; simp [Value.ownBlock] at e; omega))); have ht3 := hg3.size; have hb3 := own_ge ho3; have HO3 := Lib.hid ho3; have HG3 := Lib.hid (grown_of hg3); clear ho3 hg3; simp only [Value.ownBlock, Option.some.injEq] at ha3))
    all_goals (go_wp2_with fail; go_meet; exact ⟨_, _, rfl, HO3, hBy3⟩)
  case rest =>
  obtain ⟨g3, c3, rfl, HO3, hBy3⟩ := hcut
  obtain ⟨y3, hy3⟩ : ∃ y3, wc = y3 := ⟨_, rfl⟩
  rw [hy3] at HO3 hBy3 ⊢
  clear hy3 wc
  have hz20 : octCells mark4 ++ octCells (put t 8) ++ octCells (put f 4) ++ octCells (put o 4) = octCells (zh.take 20) := by
    rw [HHE.out]
    have : (mark4 ++ (put t 8 ++ (put f 4 ++ (put o 4 ++ List.replicate 12 0)))).take 20 = mark4 ++ (put t 8 ++ (put f 4 ++ put o 4)) := by
      rw [← List.append_assoc, ← List.append_assoc, ← List.append_assoc, List.take_left' (by simp [mark4, put_length])]
      simp
    rw [this]
    simp [octCells]
  have hzk : ∀ k, 20 ≤ k → k < 32 → octCells (zh.take k) ++ [.int .u8 0] = octCells (zh.take (k + 1)) := fun k h1 h2 => by
    have hk : k < zh.length := by rw [HL.out]; exact h2
    rw [List.take_succ_eq_append_getElem hk]
    have : zh[k] = 0 := by
      have h3 : zh[k]? = some 0 := by
        rw [HHE.out, ← List.append_assoc, ← List.append_assoc, ← List.append_assoc, List.getElem?_append_right (by simp [mark4, put_length]; omega)]
        rw [List.getElem?_replicate, if_pos (by simp [mark4, put_length]; omega)]
      rw [List.getElem?_eq_getElem hk] at h3
      injection h3
    rw [this]
    simp [octCells]
  have hO3' := HO3.out
  rw [hz20] at hO3'
  have HO4 : Hid (y3.ownsRow w2.heap.size 5 1 (.slice (some ⟨g3, 0, none⟩) 20 c3) 20 (octCells (zh.take 20))) := hO3'
  have HZK := Lib.hid hzk
  clear hz20 hzk hO3' HO3 PT PF PO hc0 hc1 hc2 HHE HL2 lt8 lf4 lo4
  go_wp2_with fail
  go_loopw [4] (fun v wr => ∃ k : Nat, 20 ≤ k ∧ k ≤ 32 ∧ slen v = k ∧ Hid (wr.ownsRow w2.heap.size 5 1 v k (octCells (zh.take k))) ∧ Below w2.heap.size w2 wr) (fun v _ => 32 - slen v)
  case atStart => exact ⟨20, by omega, by omega, rfl, HO4, hBy3⟩
  case round =>
    obtain ⟨k, hk0, hk, hsl, HO, hB⟩ := hrel
    obtain ⟨A, c, rfl, hkc, hrd⟩ := own_slice HO.out
    by_cases hlt : k < 32
    · have HP := Lib.hid (HZK.out k hk0 hlt)
      have hs := hB.size
      clear hrd hsl
      generalize octCells (zh.take k) = cs at *
      go_wp2_with (at_builtin; refine wpList_append_own _ rfl _ _ 24 rfl w2.heap.size 5 i0 (.int .u8 0) 1 1 Try.underlying24 hi hz0 hz1 hz2 rfl (by decide) _ k cs rfl (by exact HO.out.alloc _) ⟨wr.heap.size, 0, none⟩ 1 1 [.int .u8 0] rfl rfl (by exact cell_one_new _ _ _) (by simp [Value.oneCell']) (by unfold maxLen; omega) (by omega) (by simp; omega) ?_; intro v2 w3 hown2 hgrow2 _)
      have hB2 : Below w2.heap.size w2 w3 := (hB.alloc hB.size _).grown hgrow2 (by simp; omega) (fun j e => (HO.out.lt j e).1)
      clear hgrow2
      rw [HP.out] at hown2
      obtain ⟨A2, c2', rfl, _, _⟩ := own_slice hown2
      go_roundw
      case rel => exact ⟨k + 1, by omega, by omega, rfl, Lib.hid hown2, hB2⟩
      case measure => simp [slen]; try omega
    · obtain rfl : k = 32 := by omega
      have hd := HO.out
      rw [List.take_of_length_le (by rw [HL.out]; omega)] at hd hrd
      have HD := Lib.hid hd
      have HR := Lib.hid hrd
      clear hd hrd HO hsl
      go_wp2_with fail
      have hfe : Calls Try.prog 22 #[zeroS.val, .slice A 32 c] wr fun e w' => e = .returned ss.val ∧ Below wr.heap.size wr w' := by
        rw [← HSS.out]
        have := refFeed_any zeroS A c zh (by rw [HL.out]; omega) HHO.out wr HR.out
        rw [HL.out] at this
        exact this
      refine hfe.mono ?_
      rintro e w4 ⟨rfl, hB4⟩
      have HD4 := Lib.hid (own_below HD.out hB4 (Nat.le_refl _))
      have hBw4 : Below w2.heap.size w2 w4 := hB.trans (hB4.mono hB.size)
      clear hfe HD HR hB4
      go_wp2_with fail
      refine (sumOctets_any ss w4).mono ?_
      rintro e w5 ⟨A5, c5, rfl, hr5, hB5⟩
      have HD5 := Lib.hid (own_below HD4.out hB5 (Nat.le_refl _))
      have hBw5 : Below w2.heap.size w2 w5 := hBw4.trans (hB5.mono hBw4.size)
      have hs5 := hBw5.size
      have HR5 := Lib.hid hr5
      have hA5 : A5 = none → c5 = 0 := fun h => by
        subst h
        obtain ⟨b, off, e, _⟩ := HR5.out (by simp [sumOcts, put])
        cases e
      clear HD4 hB5 hr5
      go_wp2_with (at_builtin; refine wpList_append_rd (by rfl) _ _ 24 (by rfl) w2.heap.size 5 i0 (.int .u8 0) 1 Try.underlying24 hi hz0 hz1 hz2 rfl (.slice A 32 c) 32 (octCells zh) (by rfl) HD5.out A5 32 c5 (octCells (sumOcts ss)) (by rfl) (by rw [octCells_length, sumOcts_length]) HR5.out hA5 (octCells_one _) (by unfold maxLen; omega) (by omega) hs5 ?_; intro v6 w6 hown6 hgrow6)
      have hB6 : Below w2.heap.size w2 w6 := hBw5.grown hgrow6 hs5 (fun j e => (HD5.out.lt j e).1)
      have hz64 : octCells zh ++ octCells (sumOcts ss) = octCells zo := by rw [HOO.out]; simp [octCells]
      rw [hz64] at hown6
      obtain ⟨A6, c6, rfl, _, hr6⟩ := own_slice hown6
      have HR6 := Lib.hid hr6
      clear hown6 hgrow6 hr6 HR5 HD5 hA5
      go_wp2
      go_ret2
      exact ⟨A6, c6, rfl, HR6.out, hB02.trans (hB6.mono hB02.size)⟩

set_option maxHeartbeats 1000000 in
set_option maxRecDepth 100000 in
theorem refEncode_no (u : Ub) (hu : u.ok = false) (w : World) :
    Calls Try.prog 8 #[u.val] w fun e w' => e = .returned (.tuple #[.slice none 0 0, .int .i64 4]) ∧ Below w.heap.size w w' := by
  obtain ⟨t, f, o⟩ := u
  have hB0 : Below w.heap.size w (w.alloc (.cells #[.int .i64 t, .int .i64 f, .int .i64 o] 23)) := (Below.refl _ w).alloc (Nat.le_refl _) _
  have hw := ub_ways t f o 4 (Ub.err_no hu)
  clear hu
  rcases hw with ⟨_, h1⟩ | ⟨_, h1, h2⟩ | ⟨_, h1, h2, h3⟩ | ⟨_, h1, h2, rfl⟩ | ⟨_, h1, h2, h3, h4⟩ | ⟨_, h1, h2, rfl, h4⟩ | ⟨_, h1, h2, rfl, h4, h5⟩ | ⟨_, h1, h2, rfl, h4, h5⟩ | ⟨h, _⟩ | ⟨_, h1, h2, h3, h4, h5⟩ | ⟨_, h1, h2, h3, h4, h5, h6⟩ | ⟨_, h1, h2, h3, h4, rfl⟩ | ⟨h, _⟩
  all_goals first
    | cases h
    | (try have e1 : (f == 0) = false := beq_eq_false_iff_ne.2 (by omega)
       try have e3 : (f == 1) = false := beq_eq_false_iff_ne.2 (by omega)
       try have e2 : (o == 0) = false := beq_eq_false_iff_ne.2 (by omega)
       go_enter Try.func8, Try.ntmps8
       go_wp2
       go_ret2
       exact ⟨rfl, hB0⟩)

end Go.Proofs.Ytlcjdhmgpbnnmaa
