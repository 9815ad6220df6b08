/-
  A loop over an iterator, whose variable lies in a box of its own, laid anew in each round: a law of my own. No conditions.
-/
import Derived.RangeFuncWrites
import Derived.Test.YtnoidcelinaenaaKB
namespace Go.Proofs.Ytnoidcelinaenaa
open Go.ChangeShapes Go.WideShapes Go.ChangeAt Go.RowKit Go.Shelf
set_option maxRecDepth 100000

/-- A round goes on. -/
def goesOnX (B : Nat) (Kp : World → World → Prop) (I : World → Prop) (W : World) : Exit → Act → World → Prop
  | .normal, _, W' => KeepsFrom B W W' ∧ Kp W W' ∧ I W'
  | _, _, _ => False

/-- What an iterator that reads promises: what it hands out are the elements of xs, one by one; Kp is what the loop must leave as it was. -/
def SeqLay {α : Type} (F : Fence) (n : Nat) (P : Program) (g : Nat) (lb : Array Value) (encs : α → Array Value) (Kp : World → World → Prop) (xs : List α) (w : World) : Prop :=
  ∀ (l : Nat) (J : List α → World → Prop) (W : World), Below w.heap.size w W → (∀ s A B, J s A → Below A.heap.size A B → J s B) →
    (∀ (pre : List α) x W1, J pre W1 → pre.length < xs.length → YieldAt F (n - 1) P l (encs x) W1 fun e W' => e = .returned (.bool true) ∧ J (pre ++ [x]) W' ∧ Kp W1 W') → J [] W →
    CallsIn F n P g (#[.func (.yield l) #[] #[]] ++ lb) W fun e W' => (∃ v, e = .returned v) ∧ J xs W'

theorem wpIn_rangeFunc_lay {F : Fence} {n : Nat} {P : Program} {α : Type} {g : Operand} {ps : Array Tmp} {assign body : Code} {Q : Exit → Act → World → Prop} {a : Act} {w : World}
    (hro : F.round = none) (h1 : 1 ≤ n) {gf : Nat} {lb : Array Value} (hg : a.eval g = .func (.func gf) #[] lb) (hFg : F.fn gf) (eg : ∀ args w, (callFunc gf args).run P w = .ok (.enter gf args) w)
    {encs : α → Array Value} {Kp : World → World → Prop} {xs : List α} (hseq : SeqLay F (n - 1) P gf lb encs Kp xs w) (hps : ∀ x, (encs x).size = ps.size)
    (hKt : ∀ {A B C : World}, Kp A B → Kp B C → Kp A C) (hKb : ∀ (W : World) (l : Nat) (o o' : Obj), w.heap.size ≤ l → W.heap[l]? = some o → o.isCells = false → Kp W (W.putObj l o')) (hKa : ∀ (W : World) (o : Obj), Kp W (W.alloc o))
    (I : List α → World → Prop) (hI : OwnFrom w.heap.size I) (hItI : ∀ s A B, I s A → Below A.heap.size A B → I s B) (h0 : I [] w) (box : α → Obj) (a₁ : α → Nat → Act)
    (hassign : ∀ (l : Nat) (x : α) (W : World) (K : Act → World → Prop), K (a₁ x W.heap.size) (W.alloc (box x)) →
      assign.wpIn (F.inRound l) (n - 1 - 1) P (Exit.then K (fun _ _ _ => False)) { tmps := (ps.zip (encs x)).foldl (fun t (p, v) => t.setIfInBounds p v) a.tmps, defers := [] } W)
    (hbody : ∀ (l : Nat) (pre : List α) (x : α) (B : Nat) (W : World), I pre W → pre.length < xs.length → w.heap.size ≤ B → W.heap[B]? = some (box x) → body.wpIn (F.inRound l) (n - 1 - 1) P (goesOnX w.heap.size Kp (I (pre ++ [x])) W) (a₁ x B) W)
    (hdone : ∀ (D : Nat) (W : World), w.heap.size ≤ D → I xs W → W.heap[D]? = some (.deferred (some [])) → Q .normal { a with defers := { target := .collected D, args := #[] } :: a.defers } W) :
    (Code.rangeFunc g ps assign body).wpIn F n P Q a w := by
  obtain ⟨d, hd⟩ : ∃ d, w.heap.size = d := ⟨_, rfl⟩
  refine wpIn_rangeFunc fun fn hfn => ?_
  rw [hro]
  let R : LoopState → Obj := fun st => .loop { state := st, pending := none, fn := fn, tmps := a.tmps, params := ps, assign := assign, body := body, defers := d }
  let Bk : LoopState → World → Prop := fun st W => W.heap[d + 1]? = some (R st) ∧ W.heap[d]? = some (.deferred (some []))
  obtain ⟨u, hu⟩ : ∃ u, (w.alloc (.deferred (some []))).alloc (R .ready) = u := ⟨_, rfl⟩
  have hBu : Below w.heap.size w u := hu ▸ (((Below.refl _ w).alloc (Nat.le_refl _) _).alloc (by simp) _)
  have hku : Bk .ready u := by
    subst hu
    refine ⟨?_, ?_⟩
    · have := World.alloc_heap_new (w.alloc (.deferred (some []))) (R .ready)
      rwa [World.size_alloc, hd] at this
    · have := (Below.heap_alloc (w.alloc (.deferred (some []))) (R .ready) w.heap.size (by simp)).trans (World.alloc_heap_new w (.deferred (some [])))
      rwa [hd] at this
  have hIu : I [] u := hu ▸ hI.alloc _ (hI.alloc _ h0)
  have hset : ∀ {st st' : LoopState} {W : World}, Bk st W → Bk st' (W.putObj (d + 1) (R st')) := fun h => ⟨World.putObj_heap_same (Array.getElem?_eq_some_iff.1 h.1).1, (World.putObj_heap_other (by omega)).trans h.2⟩
  have hKset : ∀ {st st' : LoopState} {W : World}, Bk st W → Kp W (W.putObj (d + 1) (R st')) := fun h => hKb _ _ _ _ (by omega) h.1 rfl
  have hIset : ∀ {s : List α} {st st' : LoopState} {W : World}, Bk st W → I s W → I s (W.putObj (d + 1) (R st')) := fun h hi => hI.putObj _ hi (by omega) h.1 rfl
  refine ⟨d + 1, [{ target := .collected d, args := #[] }], u, { target := .fn (.func gf) lb, args := #[.func (.yield (d + 1)) #[] #[]] }, u, gf, #[.func (.yield (d + 1)) #[] #[]] ++ lb, u, ?_, ?_, ?_, ?_, fun _ => h1, ?_⟩
  · have := run_enterLoop_outer (P := P) (w := w) fn a.tmps ps assign body
    rw [hd] at this
    exact this.trans (by rw [← hu])
  · simp only [resolve, hg]
    simp [go_sem]
  · intro f' hf'
    simp [Target.leads] at hf'
    subst hf'
    exact hFg
  · simp [invoke, go_sem, eg]
  refine (hseq (d + 1) (fun pre W => I pre W ∧ Bk .ready W) u hBu ?_ ?_ ⟨hIu, hku⟩).mono ?_
  · rintro s A B ⟨hi, hl, hk⟩ hit
    exact ⟨hItI s A B hi hit, (hit.block _ (Array.getElem?_eq_some_iff.1 hl).1).trans hl, (hit.block _ (Array.getElem?_eq_some_iff.1 hk).1).trans hk⟩
  · rintro pre x W ⟨hi, hb⟩ hn
    have hy := run_yield (P := P) (args := encs x) hb.1 (hps x)
    have hlt : d + 1 < W.heap.size := (Array.getElem?_eq_some_iff.1 hb.1).1
    have hA : Below W.heap.size W (W.alloc (box x)) := (Below.refl _ W).alloc (Nat.le_refl _) _
    have hbA : Bk .ready (W.alloc (box x)) := ⟨(hA.block _ hlt).trans hb.1, (hA.block _ (by omega)).trans hb.2⟩
    have hiA : I pre (W.alloc (box x)) := hItI _ _ _ hi hA
    refine ⟨fn, _, assign, body, hy, roundIn_of_wpIn hfn (hassign _ x W _ ⟨_, run_beginRound hbA.1 rfl, ?_⟩)⟩
    have hb2 : Bk .busy ((W.alloc (box x)).putObj (d + 1) (R .busy)) := hset hbA
    have hbox : ((W.alloc (box x)).putObj (d + 1) (R .busy)).heap[W.heap.size]? = some (box x) := (World.putObj_heap_other (by omega)).trans (World.alloc_heap_new W _)
    refine wpIn_mono (hbody _ pre x W.heap.size _ (hIset hbA hiA) hn (by omega) hbox) ?_
    intro e a3 W3 hp
    cases e with
    | normal =>
      obtain ⟨hk3, hkp, hi3⟩ := hp
      have hb3 : Bk .busy W3 := ⟨hk3.same _ _ (by omega) hb2.1 rfl, hk3.same _ _ (by omega) hb2.2 rfl⟩
      exact ⟨_, _, run_endRound (P := P) none hb3.1, rfl, ⟨hIset hb3 hi3, hset hb3⟩, hKt (hKa W (box x)) (hKt (hKt (hKset hbA) hkp) (hKset hb3))⟩
    | ret => exact hp.elim
    | exit id => exact hp.elim
    | goto t => exact hp.elim
    | panic ch => exact hp.elim
    | outgrown => exact hp.elim
  · rintro e W2 ⟨⟨v, rfl⟩, hi, hb⟩
    refine ⟨none, _, run_endLoop (P := P) hb.1 (fun h => nomatch h), ?_⟩
    exact hdone d (W2.putObj (d + 1) (R .exhausted)) (by omega) (hIset hb hi) (hset (st' := .exhausted) hb).2

end Go.Proofs.Ytnoidcelinaenaa
