/-
  Do refuses devices that may not be, and acts of which one has an error. Conditions: its lengths are a machine's.
-/
import Derived.Test.YtddkalcgijeldaaDVI
namespace Go.Proofs.Ytddkalcgijeldaa
open Go.ChangeShapes Go.WideShapes Go.ChangeAt Go.RowKit Go.Shelf

def Ac.st (x : Ac) : Bool × Int × List Int := (x.fl, x.at_, x.p.zs)
/-- An act, done. -/
def doA (S : DS) (a : Bool × Int × List Int) : DS := if a.1 then ⟨applyW S.secs S.waits, []⟩ else ⟨S.secs, S.waits ++ [(a.2.1, a.2.2)]⟩
def doL (S : DS) (l : List (Bool × Int × List Int)) : DS := l.foldl doA S
theorem doL_snoc (S : DS) (l : List (Bool × Int × List Int)) (a : Bool × Int × List Int) : doL S (l ++ [a]) = doA (doL S l) a := by simp [doL]
/-- The first error. -/
def actsE (n : Nat) : List Ac → Int
  | [] => 0
  | x :: xs => if actE n x.fl x.at_ x.p.zs.length = 0 then actsE n xs else actE n x.fl x.at_ x.p.zs.length
theorem actsE_zero {n : Nat} {l : List Ac} (h : actsE n l = 0) : ∀ x ∈ l, actE n x.fl x.at_ x.p.zs.length = 0 := by
  induction l with
  | nil => intro x hx; simp at hx
  | cons y ys ih =>
    intro x hx
    simp only [actsE] at h
    split at h
    · rename_i h0
      rcases List.mem_cons.1 hx with rfl | hx
      · exact h0
      · exact ih h x hx
    · rename_i h0
      exact absurd h h0
theorem actsE_none {n : Nat} {l : List Ac} (h : ∀ x ∈ l, actE n x.fl x.at_ x.p.zs.length = 0) : actsE n l = 0 := by
  induction l with
  | nil => rfl
  | cons y ys ih =>
    simp only [actsE]
    rw [if_pos (h y (by simp))]
    exact ih fun z hz => h z (by simp [hz])
theorem actsE_at {n : Nat} {l : List Ac} {k : Nat} {x : Ac} (hx : l[k]? = some x) (h : ∀ y ∈ l.take k, actE n y.fl y.at_ y.p.zs.length = 0) (h0 : actE n x.fl x.at_ x.p.zs.length ≠ 0) : actsE n l = actE n x.fl x.at_ x.p.zs.length := by
  induction l generalizing k with
  | nil => simp at hx
  | cons y ys ih =>
    rcases k with _ | k
    · simp at hx
      subst hx
      simp only [actsE, if_neg h0]
    · simp only [actsE]
      rw [if_pos (h y (by simp))]
      exact ih (by simpa using hx) (fun z hz => h z (by simp [hz]))

/-- Acts in memory. -/
structure Acts (W : World) (A : Option Addr) (l : List Ac) : Prop where
  arr : Rd W A (acCells l)
  data : ∀ x ∈ l, Rd W x.p.A (ocl x.p.zs)
  len : ∀ x ∈ l, x.p.zs.length ≤ 140737488351232
  n : l.length ≤ 4398046511104
theorem Acts.below {W W' : World} {A : Option Addr} {l : List Ac} (h : Acts W A l) (hb : Below W.heap.size W W') : Acts W' A l := ⟨h.arr.below hb, fun x hx => (h.data x hx).below hb, h.len, h.n⟩

set_option maxHeartbeats 1000000 in
set_option maxRecDepth 100000 in
theorem do_no (D : Dv) (hf : D.Fits) (hok : ¬ D.st.ok) (La : Option Addr) (ln lc : Nat) (w : World) (hD : D.Lies 0 w) :
    Calls Try.prog 14 #[D.val, .slice La ln lc] w fun e w' => e = .returned (ansD noD 9) ∧ Below w.heap.size w w' := by
  have HC := Lib.hid (fun w h1 h2 => check_no D hf hok w h1 h2)
  have HD := Lib.hid hD
  clear hD hok hf
  go_enter Try.func14, Try.ntmps14
  go_wp2_with fail
  obtain ⟨W0, hW0⟩ : ∃ W0, ((w.alloc (.cells #[.slice D.A D.ps.length D.c, .slice D.B D.ws.length D.d] 29)).alloc (.cells #[.slice none 0 0, .slice none 0 0] 29)) = W0 := ⟨_, rfl⟩
  rw [hW0]
  have hB0 : Below w.heap.size w W0 := by rw [← hW0]; exact allocs_below [([.slice D.A D.ps.length D.c, .slice D.B D.ws.length D.d], 29), ([.slice none 0 0, .slice none 0 0], 29)] w
  have k2 : Blk W0 (w.heap.size + 1) 29 [.slice none 0 0, .slice none 0 0] := by rw [← hW0]; exact allocs_blk [([.slice D.A D.ps.length D.c, .slice D.B D.ws.length D.d], 29), ([.slice none 0 0, .slice none 0 0], 29)] w 1 rfl
  refine (HC.out W0 (HD.out.below hB0).reads.1 (HD.out.below hB0).reads.2).mono ?_
  rintro e w1 ⟨rfl, hB1⟩
  have k2 := k2.below hB1 k2.lt
  have hc0 := k2.cell 0
  have hc1 := k2.cell 1
  have hf0 := k2.frozen 0
  have hf1 := k2.frozen 1
  simp only [List.getElem?_cons_zero, List.getElem?_cons_succ] at hc0 hc1
  have hB01 : Below w.heap.size w w1 := hB0.trans (hB1.mono hB0.size)
  clear k2 hW0 hB0 hB1
  go_wp2
  refine bodyPost_ret (v := ansD noD 9) ?_ rfl ?_
  · simp [results, Try.results14, go_sem, hc0, hc1]
  · exact ⟨rfl, (hB01.setCell (p := ⟨w.heap.size + 1, 0, none⟩) (Nat.le_succ _) _).setCell (p := ⟨w.heap.size + 1, 1, none⟩) (Nat.le_succ _) _⟩

set_option maxHeartbeats 1000000 in
set_option maxRecDepth 100000 in
theorem do_err (D : Dv) (hf : D.Fits) (hok : D.st.ok) (La : Option Addr) (l : List Ac) (lc : Nat) (he : actsE D.ps.length l ≠ 0) (w : World) (hD : D.Lies 0 w) (hl : Acts w La l) :
    Calls Try.prog 14 #[D.val, .slice La l.length lc] w fun e w' => e = .returned (ansD noD (actsE D.ps.length l)) ∧ Below w.heap.size w w' := by
  have HC := Lib.hid (fun w h1 h2 => check_ok D hf hok w h1 h2)
  have HD := Lib.hid hD
  have HL := Lib.hid hl
  have HE := Lib.hid he
  have hln := hl.n
  clear hD hok hf hl he
  go_enter Try.func14, Try.ntmps14
  go_wp2_with fail
  obtain ⟨W0, hW0⟩ : ∃ W0, ((w.alloc (.cells #[.slice D.A D.ps.length D.c, .slice D.B D.ws.length D.d] 29)).alloc (.cells #[.slice none 0 0, .slice none 0 0] 29)) = W0 := ⟨_, rfl⟩
  rw [hW0]
  have hB0 : Below w.heap.size w W0 := by rw [← hW0]; exact allocs_below [([.slice D.A D.ps.length D.c, .slice D.B D.ws.length D.d], 29), ([.slice none 0 0, .slice none 0 0], 29)] w
  have k1 : Blk W0 w.heap.size 29 [.slice D.A D.ps.length D.c, .slice D.B D.ws.length D.d] := by rw [← hW0]; exact allocs_blk [([.slice D.A D.ps.length D.c, .slice D.B D.ws.length D.d], 29), ([.slice none 0 0, .slice none 0 0], 29)] w 0 rfl
  have k2 : Blk W0 (w.heap.size + 1) 29 [.slice none 0 0, .slice none 0 0] := by rw [← hW0]; exact allocs_blk [([.slice D.A D.ps.length D.c, .slice D.B D.ws.length D.d], 29), ([.slice none 0 0, .slice none 0 0], 29)] w 1 rfl
  refine (HC.out W0 (HD.out.below hB0).reads.1 (HD.out.below hB0).reads.2).mono ?_
  rintro e w1 ⟨rfl, hB1⟩
  have K1 := Lib.hid (k1.below hB1 k1.lt)
  have K2 := Lib.hid (k2.below hB1 k2.lt)
  have hlt2 := K2.out.lt
  have hB01 : Below w.heap.size w w1 := hB0.trans (hB1.mono hB0.size)
  clear k1 k2 hW0 hB0 hB1
  go_wp2
  go_loopw [21] (fun i wr => ∃ k : Nat, k ≤ l.length ∧ i = .int .i64 k ∧ Hid (∀ x ∈ l.take k, actE D.ps.length x.fl x.at_ x.p.zs.length = 0) ∧ Below w1.heap.size w1 wr) (fun i _ => l.length - (intOf i).toNat)
  case atStart =>
    exact ⟨0, Nat.zero_le _, rfl, fun p hp => by simp at hp, Below.refl _ _⟩
  case round =>
    obtain ⟨k, hk, rfl, HZ, hB⟩ := hrel
    by_cases hlt : k < l.length
    · obtain ⟨x, hx⟩ : ∃ x, l[k]? = some x := ⟨_, List.getElem?_eq_getElem hlt⟩
      have hBw : Below w.heap.size w wr := hB01.trans (hB.mono hB01.size)
      obtain ⟨b, off, rfl, hb, hc0, hc1, hc2⟩ := (HL.out.below hBw).arr.ac hx
      have hmem := List.mem_of_getElem? hx
      have hxl := HL.out.len x hmem
      have htk : l.take (k + 1) = l.take k ++ [x] := by
        rw [List.take_succ_eq_append_getElem hlt]
        rw [List.getElem?_eq_getElem hlt] at hx
        injection hx with hx
        rw [hx]
      have HTK := Lib.hid htk
      have HX := Lib.hid hx
      have HA := Lib.hid (fun w => checkAct_any D.A D.ps.length D.c D.B D.ws.length D.d x.fl x.at_ x.p.A x.p.zs.length x.p.c (by omega) w)
      obtain ⟨r, hr⟩ : ∃ r, actE D.ps.length x.fl x.at_ x.p.zs.length = r := ⟨_, rfl⟩
      rw [hr] at HA
      have HR := Lib.hid hr
      have kd := K1.out.below hB (by omega)
      have hd0 := kd.cell 0
      have hd1 := kd.cell 1
      simp only [List.getElem?_cons_zero, List.getElem?_cons_succ] at hd0 hd1
      have hsz := hB.size
      have hsz2 : w.heap.size < wr.heap.size := by omega
      have kr := K2.out.below hB (by omega)
      have HKR := Lib.hid kr
      clear htk hx hr kd kr
      by_cases h0 : r = 0
      · subst h0
        go_wp2_with (refine (HA.out _).mono ?_; rintro e w2 ⟨rfl, hB2⟩)
        go_roundw
        case rel =>
          refine ⟨k + 1, by omega, by go_num, ?_, ?_⟩
          · intro q hq
            rw [HTK.out] at hq
            simp at hq
            rcases hq with hq | rfl
            · exact HZ.out q hq
            · exact HR.out
          · exact (hB.alloc (by first | omega | (simp; omega)) _).trans (hB2.mono (by first | omega | (simp; omega)))
        case measure => simp [intOf]; omega
      · have hr0 : (r == 0) = false := beq_eq_false_iff_ne.2 h0
        have hee : actsE D.ps.length l = r := by
          rw [actsE_at HX.out HZ.out (by rw [HR.out]; exact h0)]
          exact HR.out
        have HEE := Lib.hid hee
        clear hee
        go_wp2_with (refine (HA.out _).mono ?_; rintro e w2 ⟨rfl, hB2⟩; have k3 := (HKR.out.alloc (.cells #[.bool x.fl, .int .i64 x.at_, .slice x.p.A x.p.zs.length x.p.c] 36)).below hB2 (by simp; omega); have e0 := k3.cell 0; have e1 := k3.cell 1; have f0 := k3.frozen 0; have f1 := k3.frozen 1; simp only [List.getElem?_cons_zero, List.getElem?_cons_succ] at e0 e1)
        refine bodyPost_ret (v := ansD noD r) ?_ rfl ?_
        · simp [results, Try.results14, go_sem, e0, e1]
        · have hBf : Below w.heap.size w w2 := (hBw.alloc hBw.size _).trans (hB2.mono (by have := hBw.size; simp; omega))
          exact ⟨by rw [HEE.out], (hBf.setCell (p := ⟨w.heap.size + 1, 0, none⟩) (Nat.le_succ _) _).setCell (p := ⟨w.heap.size + 1, 1, none⟩) (Nat.le_succ _) _⟩
    · obtain rfl : k = l.length := by omega
      have hz := HZ.out
      rw [List.take_length] at hz
      exact (HE.out (actsE_none hz)).elim

end Go.Proofs.Ytddkalcgijeldaa
