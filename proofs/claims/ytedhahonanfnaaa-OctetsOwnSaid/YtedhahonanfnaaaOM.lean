/-
  A loop over an iterator that reads: the loop is asked of the element that comes next alone: a law of my own; parts hands out the lists that have octets, in their order. No conditions but those written.
-/
import Derived.RangeFuncWrites
import Derived.Test.YtedhahonanfnaaaKB
namespace Go.Proofs.Ytedhahonanfnaaa
open Go.ChangeShapes Go.WideShapes Go.ChangeAt Go.RowKit Go.Shelf
set_option maxRecDepth 100000
attribute [local go_sem] Oper.semAt_some

/-- A round goes on. -/
def goesOnN (B : Nat) (Kp : World → World → Prop) (I : World → Prop) (W : World) : Exit → Act → World → Prop
  | .normal, _, W' => KeepsFrom B W W' ∧ Kp W W' ∧ I W'
  | _, _, _ => False

/-- What an iterator that reads promises: what it hands out are the elements of xs, one by one; Kp is what the loop must leave as it was. -/
def SeqNext {α : Type} (F : Fence) (n : Nat) (P : Program) (g : Nat) (lb : Array Value) (encs : α → Array Value) (Kp : World → World → Prop) (xs : List α) (w : World) : Prop :=
  ∀ (l : Nat) (J : List α → World → Prop) (W : World), Below w.heap.size w W →
    (∀ (pre : List α) x W1, J pre W1 → (pre ++ [x]) <+: xs → YieldAt F (n - 1) P l (encs x) W1 fun e W' => e = .returned (.bool true) ∧ J (pre ++ [x]) W' ∧ Kp W1 W') → J [] W →
    CallsIn F n P g (#[.func (.yield l) #[] #[]] ++ lb) W fun e W' => (∃ v, e = .returned v) ∧ J xs W'

theorem wpIn_rangeFunc_next {F : Fence} {n : Nat} {P : Program} {α : Type} {g : Operand} {ps : Array Tmp} {assign body : Code} {Q : Exit → Act → World → Prop} {a : Act} {w : World}
    (hro : F.round = none) (h1 : 1 ≤ n) {gf : Nat} {lb : Array Value} (hg : a.eval g = .func (.func gf) #[] lb) (hFg : F.fn gf) (eg : ∀ args w, (callFunc gf args).run P w = .ok (.enter gf args) w)
    {encs : α → Array Value} {Kp : World → World → Prop} {xs : List α} (hseq : SeqNext F (n - 1) P gf lb encs Kp xs w) (hps : ∀ x, (encs x).size = ps.size)
    (hKt : ∀ {A B C : World}, Kp A B → Kp B C → Kp A C) (hKb : ∀ (W : World) (l : Nat) (o o' : Obj), w.heap.size ≤ l → W.heap[l]? = some o → o.isCells = false → Kp W (W.putObj l o'))
    (I : List α → World → Prop) (hI : OwnFrom w.heap.size I) (h0 : I [] w) (a₁ : α → Act)
    (hassign : ∀ (l : Nat) (x : α) (W : World) (K : Act → World → Prop), K (a₁ x) W →
      assign.wpIn (F.inRound l) (n - 1 - 1) P (Exit.then K (fun _ _ _ => False)) { tmps := (ps.zip (encs x)).foldl (fun t (p, v) => t.setIfInBounds p v) a.tmps, defers := [] } W)
    (hbody : ∀ (l : Nat) (pre : List α) (x : α) (W : World), I pre W → (pre ++ [x]) <+: xs → body.wpIn (F.inRound l) (n - 1 - 1) P (goesOnN w.heap.size Kp (I (pre ++ [x])) W) (a₁ x) W)
    (hdone : ∀ (D : Nat) (W : World), w.heap.size ≤ D → I xs W → W.heap[D]? = some (.deferred (some [])) → Q .normal { a with defers := { target := .collected D, args := #[] } :: a.defers } W) :
    (Code.rangeFunc g ps assign body).wpIn F n P Q a w := by
  obtain ⟨d, hd⟩ : ∃ d, w.heap.size = d := ⟨_, rfl⟩
  refine wpIn_rangeFunc fun fn hfn => ?_
  rw [hro]
  let R : LoopState → Obj := fun st => .loop { state := st, pending := none, fn := fn, tmps := a.tmps, params := ps, assign := assign, body := body, defers := d }
  let Bk : LoopState → World → Prop := fun st W => W.heap[d + 1]? = some (R st) ∧ W.heap[d]? = some (.deferred (some []))
  obtain ⟨u, hu⟩ : ∃ u, (w.alloc (.deferred (some []))).alloc (R .ready) = u := ⟨_, rfl⟩
  have hBu : Below w.heap.size w u := hu ▸ (((Below.refl _ w).alloc (Nat.le_refl _) _).alloc (by simp) _)
  have hku : Bk .ready u := by
    subst hu
    refine ⟨?_, ?_⟩
    · have := World.alloc_heap_new (w.alloc (.deferred (some []))) (R .ready)
      rwa [World.size_alloc, hd] at this
    · have := (Below.heap_alloc (w.alloc (.deferred (some []))) (R .ready) w.heap.size (by simp)).trans (World.alloc_heap_new w (.deferred (some [])))
      rwa [hd] at this
  have hIu : I [] u := hu ▸ hI.alloc _ (hI.alloc _ h0)
  have hset : ∀ {st st' : LoopState} {W : World}, Bk st W → Bk st' (W.putObj (d + 1) (R st')) := fun h => ⟨World.putObj_heap_same (Array.getElem?_eq_some_iff.1 h.1).1, (World.putObj_heap_other (by omega)).trans h.2⟩
  have hKset : ∀ {st st' : LoopState} {W : World}, Bk st W → Kp W (W.putObj (d + 1) (R st')) := fun h => hKb _ _ _ _ (by omega) h.1 rfl
  have hIset : ∀ {s : List α} {st st' : LoopState} {W : World}, Bk st W → I s W → I s (W.putObj (d + 1) (R st')) := fun h hi => hI.putObj _ hi (by omega) h.1 rfl
  refine ⟨d + 1, [{ target := .collected d, args := #[] }], u, { target := .fn (.func gf) lb, args := #[.func (.yield (d + 1)) #[] #[]] }, u, gf, #[.func (.yield (d + 1)) #[] #[]] ++ lb, u, ?_, ?_, ?_, ?_, fun _ => h1, ?_⟩
  · have := run_enterLoop_outer (P := P) (w := w) fn a.tmps ps assign body
    rw [hd] at this
    exact this.trans (by rw [← hu])
  · simp only [resolve, hg]
    simp [go_sem]
  · intro f' hf'
    simp [Target.leads] at hf'
    subst hf'
    exact hFg
  · simp [invoke, go_sem, eg]
  refine (hseq (d + 1) (fun pre W => I pre W ∧ Bk .ready W) u hBu ?_ ⟨hIu, hku⟩).mono ?_
  · rintro pre x W ⟨hi, hb⟩ hn
    have hy := run_yield (P := P) (args := encs x) hb.1 (hps x)
    refine ⟨fn, _, assign, body, hy, roundIn_of_wpIn hfn (hassign _ x W _ ⟨_, run_beginRound hb.1 rfl, ?_⟩)⟩
    have hb2 : Bk .busy (W.putObj (d + 1) (R .busy)) := hset hb
    refine wpIn_mono (hbody _ pre x _ (hIset hb hi) hn) ?_
    intro e a3 W3 hp
    cases e with
    | normal =>
      obtain ⟨hk3, hkp, hi3⟩ := hp
      have hb3 : Bk .busy W3 := ⟨hk3.same _ _ (by omega) hb2.1 rfl, hk3.same _ _ (by omega) hb2.2 rfl⟩
      exact ⟨_, _, run_endRound (P := P) none hb3.1, rfl, ⟨hIset hb3 hi3, hset hb3⟩, hKt (hKt (hKset hb) hkp) (hKset hb3)⟩
    | ret => exact hp.elim
    | exit id => exact hp.elim
    | goto t => exact hp.elim
    | panic ch => exact hp.elim
    | outgrown => exact hp.elim
  · rintro e W2 ⟨⟨v, rfl⟩, hi, hb⟩
    refine ⟨none, _, run_endLoop (P := P) hb.1 (fun h => nomatch h), ?_⟩
    exact hdone d (W2.putObj (d + 1) (R .exhausted)) (by omega) (hIset hb hi) (hset (st' := .exhausted) hb).2

/-- A list of octets as a value. -/
structure Part where
  A : Option Addr
  zs : List Int
  c : Nat
abbrev Part.val (p : Part) : Value := .slice p.A p.zs.length p.c
/-- Has it octets? -/
def Part.full (p : Part) : Bool := decide (0 < p.zs.length)
abbrev partEnc (x : Part) : Array Value := #[x.val]

set_option maxRecDepth 100000 in
set_option maxHeartbeats 1000000 in
theorem parts1_next (n l Bn b off cp : Nat) (A : Option Addr) (ps : List Part) (hpl : ps.length ≤ 1048576) (hA : ps ≠ [] → A = some ⟨b, off, none⟩) (J : List Part → World → Prop)
    (hY : ∀ (pre : List Part) x W, J pre W → (pre ++ [x]) <+: ps.filter Part.full → YieldAt Fence.wide (n - 1) Try.prog l (partEnc x) W fun e W' => e = .returned (.bool true) ∧ J (pre ++ [x]) W' ∧ KeepsBlk b W W')
    (W : World) (hc0 : W.cell? ⟨Bn, 0, none⟩ = some (.slice A ps.length cp)) (hcs : ∀ j p, ps[j]? = some p → W.cell? ⟨b, off + j, none⟩ = some p.val) (h0 : J [] W) :
    CallsIn Fence.wide n Try.prog 18 #[.func (.yield l) #[] #[], .pointer (some ⟨Bn, 0, none⟩)] W fun e W' => (∃ v, e = .returned v) ∧ J (ps.filter Part.full) W' := by
  refine callsIn_of_wp Try.func18 rfl trivial ?_ rfl
  simp only [Try.ntmps18, List.size_toArray, List.length_cons, List.length_nil, Nat.reduceAdd, Nat.reduceSub, Array.replicate_succ, Array.replicate_zero, List.push_toArray, List.append_toArray, List.nil_append, List.cons_append]
  gi_wp2
  gi_loopw [7] (fun i wr => ∃ (k : Nat), k ≤ ps.length ∧ i = .int .i64 k ∧ Hid (∀ j p, ps[j]? = some p → wr.cell? ⟨b, off + j, none⟩ = some p.val) ∧ Hid (J ((ps.take k).filter Part.full) wr))
    (fun i _ => ps.length - (intOf i).toNat)
  case atStart =>
    exact ⟨0, Nat.zero_le _, rfl, Lib.hid hcs, Lib.hid h0⟩
  case round =>
    obtain ⟨k, hk, rfl, HCS, HJ⟩ := hrel
    by_cases hlt : k < ps.length
    · obtain ⟨p, hp⟩ : ∃ p, ps[k]? = some p := ⟨_, List.getElem?_eq_getElem hlt⟩
      have hAA := hA (by intro e; rw [e] at hlt; simp at hlt)
      have hck := HCS.out k p hp
      have HTK : Hid (ps.take (k + 1) = ps.take k ++ [p]) := Lib.hid (by rw [List.take_add_one, hp]; rfl)
      subst hAA
      clear hcs hp hA hc0
      by_cases hfu : 0 < p.zs.length
      · have hf2 : (ps.take (k + 1)).filter Part.full = (ps.take k).filter Part.full ++ [p] := by
          rw [HTK.out, List.filter_append]
          simp [Part.full, hfu]
        have hpx : ((ps.take k).filter Part.full ++ [p]) <+: ps.filter Part.full := by
          rw [← hf2]
          exact (List.take_prefix _ _).filter _
        obtain ⟨fn, tmps, assign, body, hy, hR⟩ := hY _ p wr HJ.out hpx
        rw [← hf2] at hR
        have HR := Lib.hid hR
        dsimp only [partEnc] at hy
        clear hR hpx hf2 HJ
        gi_wp2
        refine ⟨fun h => (by cases h), HR.out.mono ?_⟩
        rintro e W3 ⟨rfl, hJ3, hk3⟩
        have HC3 : Hid (∀ j q, ps[j]? = some q → W3.cell? ⟨b, off + j, none⟩ = some q.val) := Lib.hid fun j q hq => hk3 (off + j) _ (HCS.out j q hq)
        have HJ3 := Lib.hid hJ3
        clear hy HR hJ3 hk3
        gi_wp2
        go_roundw
        case rel => exact ⟨k + 1, by omega, by go_num, HC3, HJ3⟩
        case measure => simp [intOf]; omega
      · have hz : p.zs.length = 0 := by omega
        have HJ3 : Hid (J ((ps.take (k + 1)).filter Part.full) wr) := Lib.hid (by
          rw [HTK.out, List.filter_append]
          simpa [Part.full, hz] using HJ.out)
        clear HJ
        gi_wp2
        refine ⟨fun _ h => (by cases h), ?_⟩
        gi_wp2
        go_roundw
        case rel => exact ⟨k + 1, by omega, by go_num, HCS, HJ3⟩
        case measure => simp [intOf]; omega
    · obtain rfl : k = ps.length := by omega
      rw [List.take_length] at HJ
      clear hcs hA
      gi_wp2
      go_end0
      exact ⟨⟨_, rfl⟩, HJ.out⟩

set_option maxHeartbeats 1000000 in
theorem parts_in (n : Nat) (v : Value) (hv : ∃ A k c, v = .slice A k c) (w : World) :
    CallsIn Fence.wide n Try.prog 16 #[v] w fun e w' => e = .returned (.func (.func 18) #[] #[.pointer (some ⟨w.heap.size, 0, none⟩)]) ∧ w' = w.alloc (.cells #[v] 45) := by
  obtain ⟨A, k, c, rfl⟩ := hv
  refine callsIn_of_wp Try.func16 rfl trivial ?_ rfl
  simp only [Try.ntmps16, List.size_toArray, List.length_cons, List.length_nil, Nat.reduceAdd, Nat.reduceSub, Array.replicate_succ, Array.replicate_zero, List.push_toArray, List.append_toArray, List.nil_append, List.cons_append]
  gi_wp2
  go_ret
  exact ⟨rfl, rfl⟩

theorem parts_next (n : Nat) (Bn b off cp : Nat) (A : Option Addr) (ps : List Part) (hpl : ps.length ≤ 1048576) (hA : ps ≠ [] → A = some ⟨b, off, none⟩) (w : World) (hBn : Bn < w.heap.size) (hb : ps ≠ [] → b < w.heap.size)
    (hc : w.cell? ⟨Bn, 0, none⟩ = some (.slice A ps.length cp)) (hcs : ∀ j p, ps[j]? = some p → w.cell? ⟨b, off + j, none⟩ = some p.val) :
    SeqNext Fence.wide n Try.prog 18 #[.pointer (some ⟨Bn, 0, none⟩)] partEnc (KeepsBlk b) (ps.filter Part.full) w := fun l J W hW hY h0 =>
  parts1_next n l Bn b off cp A ps hpl hA J hY W ((hW.cell (p := ⟨Bn, 0, none⟩) hBn).trans hc)
    (fun j p hp => (hW.cell (p := ⟨b, off + j, none⟩) (hb (by intro e; rw [e] at hp; simp at hp))).trans (hcs j p hp)) h0

end Go.Proofs.Ytedhahonanfnaaa
