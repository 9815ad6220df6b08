/-
  attempt: what a function answers, or the fault that it panics. No conditions.
-/
import Derived.Test.YtfeeejigedndcaaGreatMQG
import Derived.Test.YtfeeejigedndcaaGreatMQS
import Derived.Defers
import Derived.Recover
import Derived.Laws.Pointers
namespace Go.Proofs.YtfeeejigedndcaaGreat
open Go.ChangeShapes Go.WideShapes Go.ChangeAt Go.RowKit
set_option maxRecDepth 100000

theorem att1_idle (p : Addr) (w : World) :
    CallsD Tryz.prog 48 #[.pointer (some p)] .returning w fun e u' w' => e = .returned (.tuple #[]) ∧ u' = .returning ∧ w' = w := by
  refine callsD_of_wpS Tryz.func48 rfl fun c₀ cs hu => ?_
  apply wpS_seq
  apply wpS_region
  simp [wpOpsS, go_sem, recoverD, hu, Tryz.ntmps48, Exit.thenS]
  apply wpS_seq
  apply wpS_seq
  apply wpS_region
  simp [wpOpsS, go_sem, Exit.thenS]
  refine wpS_cond (t := true) (by simp [Act.eval]) ?_
  simp only [if_true]
  refine wpS_of_wp (wp_ret ?_)
  simp [Exit.thenS, bodyPostS, results, Tryz.results48]
  cases c₀
  simp_all

theorem att1_fault (p : Addr) (x : Int) (y : Value) (older : List PanicEntry) (w : World) (hc : w.cell? p = some y) (hz : w.frozen? p = false) (_hy : y.cells.size = 1) :
    CallsD Tryz.prog 48 #[.pointer (some p)] (.panicking ({ v := fltV x, recovered := false } :: older)) w fun e u' w' =>
      e = .returned (.tuple #[]) ∧ u' = .panicking ({ v := fltV x, recovered := true } :: older) ∧ w' = (w.alloc (.cells #[.int .i64 x] 97)).setCell p (.int .i64 x) := by
  refine callsD_of_wpS Tryz.func48 rfl fun c₀ cs hu => ?_
  apply wpS_seq
  apply wpS_region
  simp [wpOpsS, go_sem, recoverD, hu, Tryz.ntmps48, Exit.thenS]
  apply wpS_seq
  apply wpS_seq
  apply wpS_region
  simp [wpOpsS, go_sem, Exit.thenS]
  refine wpS_cond (t := false) (by simp [Act.eval]) ?_
  simp only [Bool.false_eq_true, if_false]
  refine wpS_of_wp (wp_skip ?_)
  simp only [Exit.thenS]
  have hta : ∀ w, (Instr.typeAssert (fltV x) 20 97 true).run Tryz.prog w = .ok (.tuple #[.agg #[.int .i64 x], .bool true]) w := fun _ => by kernel_rfl
  apply wpS_seq
  apply wpS_region
  refine ?_
  simp [wpOpsS, go_sem, Exit.thenS, hta]
  apply wpS_seq
  apply wpS_seq
  apply wpS_region
  simp [wpOpsS, go_sem, Exit.thenS]
  refine wpS_cond (t := false) (by simp [Act.eval]) ?_
  simp only [Bool.false_eq_true, if_false]
  refine wpS_of_wp (wp_skip ?_)
  simp only [Exit.thenS]
  have hlt : p.block < w.heap.size := World.block_lt_of_cell? w p hc
  have hc2 : (w.alloc (.cells #[.int .i64 x] 97)).cell? p = some y := ((Below.refl w.heap.size w).alloc (Nat.le_refl _) _).cell hlt |>.trans hc
  have hz2 : (w.alloc (.cells #[.int .i64 x] 97)).frozen? p = false := (World.frozen?_alloc_old w _ p (Nat.ne_of_lt hlt)).trans hz
  apply wpS_region
  simp [wpOpsS, go_sem, hc2, hz2]
  simp [bodyPostS, results, Tryz.results48]

abbrev stp0 : Value := .agg #[.slice none 0 0, .slice none 0 0, .int .i64 0, .int .i64 0, .int .i64 0, .slice none 0 0, .slice none 0 0, .slice none 0 0]
abbrev agg8 (a b c d e f g h : Value) : Value := .agg #[a, b, c, d, e, f, g, h]

theorem att_facts {w2 : World} {R : Nat} {T T' : TypeId} {a b c d e f g h : Value} (kr : Blk w2 R T [a, b, c, d, e, f, g, h]) (ke : Blk w2 (R + 1) T' [.int .i64 0]) (a' b' c' d' e' f' g' h' : Value) :
    ∃ W9, (set8 w2 R a' b' c' d' e' f' g' h').setCell ⟨R + 1, 0, none⟩ (.int .i64 0) = W9 ∧ Blk W9 R T [a', b', c', d', e', f', g', h'] ∧ Blk W9 (R + 1) T' [.int .i64 0] ∧ (∀ k, k ≠ R → k ≠ R + 1 → W9.heap[k]? = w2.heap[k]?) ∧ w2.heap.size ≤ W9.heap.size ∧ Below R w2 W9 := by
  have k8 : Blk (set8 w2 R a' b' c' d' e' f' g' h') R T [a', b', c', d', e', f', g', h'] := set8_blk kr
  have h8 := set8_heap w2 R a' b' c' d' e' f' g' h'
  have s8 := set8_size w2 R a' b' c' d' e' f' g' h'
  have b8 := set8_below w2 R R a' b' c' d' e' f' g' h' (Nat.le_refl _)
  generalize set8 w2 R a' b' c' d' e' f' g' h' = W8 at *
  have ke8 : Blk W8 (R + 1) T' [.int .i64 0] := (h8 (R + 1) (by omega)).trans ke
  exact ⟨_, rfl, k8.other (by omega) 0 _, ke8.set 0 _, fun k h1 h2 => (set_heap W8 (R + 1) 0 _ k h2).trans (h8 k h1), by rw [World.size_setCell, s8]; exact Nat.le_refl _, b8.setCell (p := ⟨R + 1, 0, none⟩) (Nat.le_succ _) _⟩

set_option maxHeartbeats 1000000 in
theorem attemptS_any (f : Nat) (lb : Array Value) (eg : Enters Tryz.prog f) (w : World) (R : World → Ending → World → Prop)
    (hf : ∀ W, Below w.heap.size w W → W.heap.size = w.heap.size + 2 → Calls Tryz.prog f lb W (R W)) (hR : ∀ W e w', Below w.heap.size w W → W.heap.size = w.heap.size + 2 → R W e w' → (∃ (E : Dv) (t f' o : Int) (O : Option Addr) (k q : Nat) (I : Option Addr) (j g : Nat) (A : Option Addr) (m c : Nat), e = .returned (stepval E t f' o O k q I j g A m c) ∧ Below W.heap.size W w') ∨ ∃ x, e = flt x ∧ Below W.heap.size W w') :
    Calls Tryz.prog 24 #[.func (.func f) #[] lb] w fun e w' =>
      ∃ W e0 w0, Below w.heap.size w W ∧ W.heap.size = w.heap.size + 2 ∧ R W e0 w0 ∧ (∀ k, w.heap.size + 2 ≤ k → k < w0.heap.size → w'.heap[k]? = w0.heap[k]?) ∧ w0.heap.size ≤ w'.heap.size ∧ Below w.heap.size w w' ∧
        ((∃ v, e0 = .returned v ∧ e = .returned (.tuple #[v, .int .i64 0])) ∨ ∃ x, e0 = flt x ∧ e = .returned (.tuple #[stp0, .int .i64 x])) := by
  have hmf : ∀ (fn : Fn) (first cap : Array Value) (w : World), (Instr.makeFunc fn first cap).run Tryz.prog w = .ok (.func fn first cap) w := fun _ _ _ _ => rfl
  have eg' : ∀ args w, (callFunc f args).run Tryz.prog w = .ok (.enter f args) w := eg
  go_enter_defers Tryz.func24, Tryz.ntmps24
  go_wp2
  obtain ⟨w1, hw1⟩ : ∃ w1, (w.alloc (.cells #[.slice none 0 0, .slice none 0 0, .int .i64 0, .int .i64 0, .int .i64 0, .slice none 0 0, .slice none 0 0, .slice none 0 0] 65)).alloc (.cells #[.int .i64 0] 38) = w1 := ⟨_, rfl⟩
  have e1 : w1 = allocs w [([.slice none 0 0, .slice none 0 0, .int .i64 0, .int .i64 0, .int .i64 0, .slice none 0 0, .slice none 0 0, .slice none 0 0], 65), ([.int .i64 0], 38)] := by rw [← hw1]; rfl
  have hB1 : Below w.heap.size w w1 := by rw [e1]; exact allocs_below _ _
  have kr : Blk w1 w.heap.size 65 [.slice none 0 0, .slice none 0 0, .int .i64 0, .int .i64 0, .int .i64 0, .slice none 0 0, .slice none 0 0, .slice none 0 0] := by rw [e1]; exact allocs_blk _ w 0 rfl
  have ke : Blk w1 (w.heap.size + 1) 38 [.int .i64 0] := by rw [e1]; exact allocs_blk _ w 1 rfl
  have hs1 : w1.heap.size = w.heap.size + 2 := by rw [e1, allocs_size]; rfl
  rw [hw1]
  refine (hf w1 hB1 hs1).mono ?_
  intro e w2 hRe
  rcases hR w1 e w2 hB1 hs1 hRe with ⟨E, t, f', o, O, k, q, I, j, g, A, m, c, rfl, hB2⟩ | ⟨x, rfl, hB2⟩
  · have kr2 := kr.below hB2 kr.lt
    have ke2 := ke.below hB2 ke.lt
    obtain ⟨r0, r1, r2, r3, r4, r5, r6, r7⟩ := blk8 kr2
    have s0 := kr2.frozen 0
    have s1 := kr2.frozen 1
    have s2 := kr2.frozen 2
    have s3 := kr2.frozen 3
    have s4 := kr2.frozen 4
    have s5 := kr2.frozen 5
    have s6 := kr2.frozen 6
    have s7 := kr2.frozen 7
    have q0 : w2.cell? ⟨w.heap.size + 1, 0, none⟩ = some (.int .i64 0) := ke2.cell 0
    have qf := ke2.frozen 0
    have HKR := Lib.hid kr2
    have HKE := Lib.hid ke2
    have HRE := Lib.hid hRe
    clear hf hR kr ke kr2 ke2 hw1 e1 hRe
    obtain ⟨W9, hW9, k9, ke9, hh9, hsz9, hB9⟩ := att_facts HKR.out HKE.out (.slice E.A E.ps.length E.c) (.slice E.B E.ws.length E.d) (.int .i64 t) (.int .i64 f') (.int .i64 o) (.slice O k q) (.slice I j g) (.slice A m c)
    have hB99 : Below w.heap.size w W9 := (hB1.trans (hB2.mono hB1.size)).trans hB9
    dsimp only [set8] at hW9
    have HW9 := Lib.hid hW9
    clear hW9
    go_wp2
    refine leaves_cons (f := 48) (args := #[.pointer (some ⟨w.heap.size + 1, 0, none⟩)]) (by simp) (by simp [go_sem]) ?_
    rw [HW9.out]
    refine (att1_idle ⟨w.heap.size + 1, 0, none⟩ W9).mono ?_
    rintro e u' w'' ⟨rfl, rfl, rfl⟩
    obtain ⟨d0, d1, d2, d3, d4, d5, d6, d7⟩ := blk8 k9
    have d8 : w''.cell? ⟨w.heap.size + 1, 0, none⟩ = some (.int .i64 0) := ke9.cell 0
    clear r0 r1 r2 r3 r4 r5 r6 r7 s0 s1 s2 s3 s4 s5 s6 s7 q0 qf
    simp [Leaves, settle, results, Tryz.results24, go_sem, d0, d1, d2, d3, d4, d5, d6, d7, d8]
    exact ⟨w1, hB1, hs1, _, w2, HRE.out, fun k h1 h2 => hh9 k (by omega) (by omega), hsz9, hB99, .inl rfl⟩
  · have HRE := Lib.hid hRe
    have kr2 := kr.below hB2 kr.lt
    have ke2 := ke.below hB2 ke.lt
    have HKR := Lib.hid kr2
    have HKE := Lib.hid ke2
    clear hf hR kr ke hw1 e1 hRe
    go_wp2
    refine leaves_cons (f := 48) (args := #[.pointer (some ⟨w.heap.size + 1, 0, none⟩)]) (by simp) (by simp [go_sem]) ?_
    refine (att1_fault ⟨w.heap.size + 1, 0, none⟩ x (.int .i64 0) [] w2 (ke2.cell 0) (ke2.frozen 0) rfl).mono ?_
    rintro e u' w'' ⟨rfl, rfl, rfl⟩
    have hbl : ∀ k, k < w2.heap.size → k ≠ w.heap.size + 1 → ((w2.alloc (.cells #[.int .i64 x] 97)).setCell ⟨w.heap.size + 1, 0, none⟩ (.int .i64 x)).heap[k]? = w2.heap[k]? := fun k hk hne => (set_heap _ (w.heap.size + 1) 0 _ k hne).trans (Below.heap_alloc _ _ k hk)
    have kf : Blk ((w2.alloc (.cells #[.int .i64 x] 97)).setCell ⟨w.heap.size + 1, 0, none⟩ (.int .i64 x)) (w.heap.size + 1) 38 [.int .i64 x] := (HKE.out.alloc _).set 0 _
    have kg : Blk ((w2.alloc (.cells #[.int .i64 x] 97)).setCell ⟨w.heap.size + 1, 0, none⟩ (.int .i64 x)) w.heap.size 65 _ := (hbl w.heap.size (by have := HKR.out.lt; omega) (by omega)).trans HKR.out
    have hbw : Below w.heap.size w ((w2.alloc (.cells #[.int .i64 x] 97)).setCell ⟨w.heap.size + 1, 0, none⟩ (.int .i64 x)) := ((hB1.trans (hB2.mono hB1.size)).alloc (by have := hB1.size; have := hB2.size; omega) _).setCell (p := ⟨w.heap.size + 1, 0, none⟩) (by simp) _
    have hsz : w2.heap.size ≤ ((w2.alloc (.cells #[.int .i64 x] 97)).setCell ⟨w.heap.size + 1, 0, none⟩ (.int .i64 x)).heap.size := by simp
    generalize ((w2.alloc (.cells #[.int .i64 x] 97)).setCell ⟨w.heap.size + 1, 0, none⟩ (.int .i64 x)) = w3 at *
    obtain ⟨d0, d1, d2, d3, d4, d5, d6, d7⟩ := blk8 kg
    have d8 : w3.cell? ⟨w.heap.size + 1, 0, none⟩ = some (.int .i64 x) := kf.cell 0
    simp [Leaves, settle, results, Tryz.results24, go_sem, d0, d1, d2, d3, d4, d5, d6, d7, d8]
    exact ⟨w1, hB1, hs1, flt x, w2, HRE.out, fun k h1 h2 => hbl k h2 (by omega), hsz, hbw, .inr rfl⟩


/-- What format answers. -/
def FmtOk (n : Nat) (w : World) (e : Ending) (w' : World) : Prop := ∃ (E : Dv) (A : Option Addr) (c : Nat) (l : List Ac), e = .returned (stepval E 2 0 0 none 0 0 none 0 0 A l.length c) ∧ l.map Ac.st = [(false, 1, (Ub.mk 1 0 0).octs), (false, 0, (Ub.mk 2 0 0).octs), (true, 0, [])] ∧ E.st = doL ⟨List.replicate n z64, []⟩ (l.map Ac.st) ∧ E.Lies w.heap.size w' ∧ Below w.heap.size w w'

set_option maxHeartbeats 1000000 in
theorem format1_ok (n : Nat) (h2 : 2 ≤ n) (h3 : n ≤ 8192) (w : World) (b : Nat) (hc : w.cell? ⟨b, 0, none⟩ = some (.int .i64 n)) :
    Calls Tryz.prog 46 #[.pointer (some ⟨b, 0, none⟩)] w (FmtOk n w) := by
  have HF := Lib.hid (fun w => format_ok n h2 h3 w)
  have hbl := World.block_lt_of_cell? w ⟨b, 0, none⟩ hc
  obtain ⟨w1, hw1⟩ : ∃ w1, w.alloc (.cells #[.slice none 0 0, .slice none 0 0, .int .i64 0, .int .i64 0, .int .i64 0, .slice none 0 0, .slice none 0 0, .slice none 0 0] 65) = w1 := ⟨_, rfl⟩
  have kr : Blk w1 w.heap.size 65 [.slice none 0 0, .slice none 0 0, .int .i64 0, .int .i64 0, .int .i64 0, .slice none 0 0, .slice none 0 0, .slice none 0 0] := hw1 ▸ Blk.new w _ _
  have hB1 : Below w.heap.size w w1 := hw1 ▸ (Below.refl _ w).alloc (Nat.le_refl _) _
  have hc1 : w1.cell? ⟨b, 0, none⟩ = some (.int .i64 n) := (hB1.cell (p := ⟨b, 0, none⟩) hbl).trans hc
  have HW1 := Lib.hid hw1
  have hlt := kr.lt
  clear hw1
  go_enter Tryz.func46, Tryz.ntmps46
  go_upto_region 1 with fail
  rw [HW1.out]
  go_wp2_with fail
  refine (HF.out w1).mono ?_
  rintro e w2 ⟨E, A, c, l, rfl, hst, hE, hL, hB2⟩
  have kr2 := kr.below hB2 hlt
  obtain ⟨r0, r1, r2, r3, r4, r5, r6, r7⟩ := blk8 kr2
  have s0 := kr2.frozen 0
  have s1 := kr2.frozen 1
  have s2 := kr2.frozen 2
  have s3 := kr2.frozen 3
  have s4 := kr2.frozen 4
  have s5 := kr2.frozen 5
  have s6 := kr2.frozen 6
  have s7 := kr2.frozen 7
  have HST := Lib.hid hst
  have HE := Lib.hid hE
  have HL := Lib.hid hL
  have hset := set8_blk (a' := .slice E.A E.ps.length E.c) (b' := .slice E.B E.ws.length E.d) (c' := .int .i64 2) (d' := .int .i64 0) (e' := .int .i64 0) (f' := .slice none 0 0) (g' := .slice none 0 0) (h' := .slice A l.length c) kr2
  have hh := set8_heap w2 w.heap.size (.slice E.A E.ps.length E.c) (.slice E.B E.ws.length E.d) (.int .i64 2) (.int .i64 0) (.int .i64 0) (.slice none 0 0) (.slice none 0 0) (.slice A l.length c)
  have hsz := set8_size w2 w.heap.size (.slice E.A E.ps.length E.c) (.slice E.B E.ws.length E.d) (.int .i64 2) (.int .i64 0) (.int .i64 0) (.slice none 0 0) (.slice none 0 0) (.slice A l.length c)
  have hb8 := set8_below w2 w.heap.size w.heap.size (.slice E.A E.ps.length E.c) (.slice E.B E.ws.length E.d) (.int .i64 2) (.int .i64 0) (.int .i64 0) (.slice none 0 0) (.slice none 0 0) (.slice A l.length c) (Nat.le_refl _)
  obtain ⟨W9, hW9⟩ : ∃ W9, set8 w2 w.heap.size (.slice E.A E.ps.length E.c) (.slice E.B E.ws.length E.d) (.int .i64 2) (.int .i64 0) (.int .i64 0) (.slice none 0 0) (.slice none 0 0) (.slice A l.length c) = W9 := ⟨_, rfl⟩
  rw [hW9] at hset hh hsz hb8
  dsimp only [set8] at hW9
  have HW9 := Lib.hid hW9
  have HK9 := Lib.hid hset
  have HH9 := Lib.hid hh
  clear hW9 hset hh hst hE hL kr kr2
  go_wp2
  rw [HW9.out]
  obtain ⟨d0, d1, d2, d3, d4, d5, d6, d7⟩ := blk8 HK9.out
  have hBF := (hB1.trans (hB2.mono hB1.size)).trans hb8
  have hs1 := hB2.size
  refine bodyPost_ret (v := stepval E 2 0 0 none 0 0 none 0 0 A l.length c) ?_ rfl ⟨E, A, c, l, rfl, HST.out, HE.out, ?_, hBF⟩
  · clear hBF hb8 hsz
    simp [results, Tryz.results46, go_sem, d0, d1, d2, d3, d4, d5, d6, d7]
  · refine Dv.Lies.mono (n := w1.heap.size) ?_ hB1.size
    exact Dv.Lies.stays HL.out (by rw [hsz]; exact Nat.le_refl _) fun k h1 h2 => HH9.out k (by omega)

def set7 (W : World) (R : Nat) (a b c d e f g : Value) : World := ((((((W.setCell ⟨R, 0, none⟩ a).setCell ⟨R, 1, none⟩ b).setCell ⟨R, 2, none⟩ c).setCell ⟨R, 3, none⟩ d).setCell ⟨R, 4, none⟩ e).setCell ⟨R, 5, none⟩ f).setCell ⟨R, 6, none⟩ g
theorem set7_facts {W : World} {R : Nat} {T : TypeId} {a b c d e f g : Value} (k : Blk W R T [a, b, c, d, e, f, g]) (a' b' c' d' e' f' g' : Value) :
    ∃ W9, set7 W R a' b' c' d' e' f' g' = W9 ∧ Blk W9 R T [a', b', c', d', e', f', g'] ∧ (∀ k, k ≠ R → W9.heap[k]? = W.heap[k]?) ∧ W9.heap.size = W.heap.size ∧ Below R W W9 := by
  refine ⟨_, rfl, ?_, fun k hk => ?_, ?_, ?_⟩
  · unfold set7
    exact ((((((k.set 0 a').set 1 b').set 2 c').set 3 d').set 4 e').set 5 f').set 6 g'
  · simp only [set7, World.setCell, Array.getElem?_modify]
    repeat rw [if_neg (Ne.symm hk)]
  · simp [set7]
  · unfold set7
    exact (((((((Below.refl R W).setCell (p := ⟨R, 0, none⟩) (Nat.le_refl R) _).setCell (p := ⟨R, 1, none⟩) (Nat.le_refl R) _).setCell (p := ⟨R, 2, none⟩) (Nat.le_refl R) _).setCell (p := ⟨R, 3, none⟩) (Nat.le_refl R) _).setCell (p := ⟨R, 4, none⟩) (Nat.le_refl R) _).setCell (p := ⟨R, 5, none⟩) (Nat.le_refl R) _).setCell (p := ⟨R, 6, none⟩) (Nat.le_refl R) _

set_option maxHeartbeats 1000000 in
theorem formatTop_ok (n : Nat) (h2 : 2 ≤ n) (h3 : n ≤ 8192) (w : World) :
    Calls Tryz.prog 23 #[.int .i64 n] w fun e w' => ∃ (E : Dv) (A : Option Addr) (c : Nat) (l : List Ac), e = .returned (.tuple #[stval E.A E.ps.length E.c E.B E.ws.length E.d 2 0 0 none 0 0 none 0 0, .slice A l.length c, .int .i64 0]) ∧ l.map Ac.st = [(false, 1, (Ub.mk 1 0 0).octs), (false, 0, (Ub.mk 2 0 0).octs), (true, 0, [])] ∧ E.st = doL ⟨List.replicate n z64, []⟩ (l.map Ac.st) ∧ E.Lies w.heap.size w' ∧ Below w.heap.size w w' := by
  have hmf : ∀ (fn : Fn) (first cap : Array Value) (w : World), (Instr.makeFunc fn first cap).run Tryz.prog w = .ok (.func fn first cap) w := fun _ _ _ _ => rfl
  go_enter Tryz.func23, Tryz.ntmps23
  go_wp2_with fail
  obtain ⟨w1, hw1⟩ : ∃ w1, (w.alloc (.cells #[.int .i64 n] 3)).alloc (.cells #[.slice none 0 0, .slice none 0 0, .int .i64 0, .int .i64 0, .int .i64 0, .slice none 0 0, .slice none 0 0] 32) = w1 := ⟨_, rfl⟩
  have e1 : w1 = allocs w [([.int .i64 n], 3), ([.slice none 0 0, .slice none 0 0, .int .i64 0, .int .i64 0, .int .i64 0, .slice none 0 0, .slice none 0 0], 32)] := by rw [← hw1]; rfl
  have hB1 : Below w.heap.size w w1 := by rw [e1]; exact allocs_below _ _
  have hs1 : w1.heap.size = w.heap.size + 2 := by rw [e1, allocs_size]; rfl
  have kn : Blk w1 w.heap.size 3 [.int .i64 n] := by rw [e1]; exact allocs_blk _ w 0 rfl
  have kr : Blk w1 (w.heap.size + 1) 32 [.slice none 0 0, .slice none 0 0, .int .i64 0, .int .i64 0, .int .i64 0, .slice none 0 0, .slice none 0 0] := by rw [e1]; exact allocs_blk _ w 1 rfl
  rw [hw1]
  refine (attemptS_any 46 #[.pointer (some ⟨w.heap.size, 0, none⟩)] (enters_of Tryz.func46 (by kernel_rfl) rfl) w1 (fun W e w' => FmtOk n W e w')
    (fun W hB hs => format1_ok n h2 h3 W w.heap.size ((hB.cell (p := ⟨w.heap.size, 0, none⟩) kn.lt).trans (kn.cell 0)))
    (fun W e w' hB hs ⟨E, A, c, l, he, hst, hE, hL, hBw⟩ => .inl ⟨E, 2, 0, 0, none, 0, 0, none, 0, 0, A, l.length, c, he, hBw⟩)).mono ?_
  rintro e w2 ⟨W, e0, w0, hBW, hsW, ⟨E, A, c, l, rfl, hst, hE, hL, hBw⟩, hk, hsz, hB2, ⟨v, hv, rfl⟩ | ⟨x, hx, _⟩⟩
  rotate_left
  · cases hx
  injection hv with hv
  subst hv
  have kr2 := kr.below hB2 kr.lt
  have HKR := Lib.hid kr2
  have HL2 : Hid (E.Lies W.heap.size w2) := Lib.hid (hL.stays hsz fun k h1 h2 => hk k (by omega) h2)
  have HST := Lib.hid hst
  have HE := Lib.hid hE
  have hB02 : Below w.heap.size w w2 := hB1.trans (hB2.mono hB1.size)
  clear kn kr kr2 hw1 e1 hst hE hL hk hBw hBW
  have hB23 : Below w2.heap.size w2 (w2.alloc (.cells #[.slice E.A E.ps.length E.c, .slice E.B E.ws.length E.d, .int .i64 2, .int .i64 0, .int .i64 0, .slice none 0 0, .slice none 0 0, .slice A l.length c] 65)) := (Below.refl _ _).alloc (Nat.le_refl _) _
  have kr3 : Blk (w2.alloc (.cells #[.slice E.A E.ps.length E.c, .slice E.B E.ws.length E.d, .int .i64 2, .int .i64 0, .int .i64 0, .slice none 0 0, .slice none 0 0, .slice A l.length c] 65)) (w.heap.size + 1) 32 _ := HKR.out.alloc _
  have kp3 : Blk (w2.alloc (.cells #[.slice E.A E.ps.length E.c, .slice E.B E.ws.length E.d, .int .i64 2, .int .i64 0, .int .i64 0, .slice none 0 0, .slice none 0 0, .slice A l.length c] 65)) w2.heap.size 65 [.slice E.A E.ps.length E.c, .slice E.B E.ws.length E.d, .int .i64 2, .int .i64 0, .int .i64 0, .slice none 0 0, .slice none 0 0, .slice A l.length c] := (Blk.new w2 [.slice E.A E.ps.length E.c, .slice E.B E.ws.length E.d, .int .i64 2, .int .i64 0, .int .i64 0, .slice none 0 0, .slice none 0 0, .slice A l.length c] _)
  obtain ⟨w3, hw3⟩ : ∃ w3, w2.alloc (.cells #[.slice E.A E.ps.length E.c, .slice E.B E.ws.length E.d, .int .i64 2, .int .i64 0, .int .i64 0, .slice none 0 0, .slice none 0 0, .slice A l.length c] 65) = w3 := ⟨_, rfl⟩
  rw [hw3] at hB23 kr3 kp3
  have hw23 : w2.heap.size < w3.heap.size := kp3.lt
  have HW3 := Lib.hid hw3
  clear hw3
  go_upto_region 2 with fail
  rw [HW3.out]
  obtain ⟨r0, r1, r2, r3, r4, r5, r6⟩ := blk7 kr3
  obtain ⟨p0, p1, p2, p3, p4, p5, p6, p7⟩ := blk8 kp3
  have s0 := kr3.frozen 0
  have s1 := kr3.frozen 1
  have s2 := kr3.frozen 2
  have s3 := kr3.frozen 3
  have s4 := kr3.frozen 4
  have s5 := kr3.frozen 5
  have s6 := kr3.frozen 6
  have hlt2 : ¬ w.heap.size + 1 = w2.heap.size := by have := HKR.out.lt; omega
  have hlt3 : ¬ w2.heap.size = w.heap.size + 1 := by have := HKR.out.lt; omega
  obtain ⟨W9, hW9, k9, hh9, hsz9, hB9⟩ := set7_facts kr3 (.slice E.A E.ps.length E.c) (.slice E.B E.ws.length E.d) (.int .i64 2) (.int .i64 0) (.int .i64 0) (.slice none 0 0) (.slice none 0 0)
  unfold set7 at hW9
  have HW9 := Lib.hid hW9
  clear hW9
  go_region
  go_wp2
  rw [HW9.out]
  obtain ⟨d0, d1, d2, d3, d4, d5, d6⟩ := blk7 k9
  have hs02 := hB02.size
  have hR : w.heap.size + 1 < w2.heap.size := HKR.out.lt
  have hBF : Below w.heap.size w W9 := (hB02.trans (hB23.mono hs02)).trans (hB9.mono (Nat.le_succ _))
  have hLF : E.Lies W.heap.size W9 := HL2.out.stays (by rw [hsz9]; exact hB23.size) fun k h1 h2 => (hh9 k (by omega)).trans (hB23.block k h2)
  clear r0 r1 r2 r3 r4 r5 r6 s0 s1 s2 s3 s4 s5 s6 p0 p1 p2 p3 p4 p5 p6 p7 hlt2 hlt3
  refine bodyPost_ret (v := .tuple #[stval E.A E.ps.length E.c E.B E.ws.length E.d 2 0 0 none 0 0 none 0 0, .slice A l.length c, .int .i64 0]) ?_ rfl ⟨E, A, c, l, rfl, HST.out, HE.out, ?_, ?_⟩
  · clear hBF hLF hh9 hsz9
    simp [results, Tryz.results23, go_sem, d0, d1, d2, d3, d4, d5, d6]
  · exact (hLF.mono (by omega)).below ((Below.refl _ _).drew)
  · exact hBF.drew

end Go.Proofs.YtfeeejigedndcaaGreat
