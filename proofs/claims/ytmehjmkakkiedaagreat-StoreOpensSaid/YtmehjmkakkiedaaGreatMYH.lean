/-
  A loop over an iterator that itself writes: a law of my own. No conditions.
-/
import Derived.Test.YtmehjmkakkiedaaGreatMYG
import Derived.Test.YtmehjmkakkiedaaGreatMQC
import Derived.Test.YtmehjmkakkiedaaGreatMQO
import Derived.Test.YtmehjmkakkiedaaGreatMQE
import Derived.Test.YtmehjmkakkiedaaGreatMGB
import Derived.Test.YtmehjmkakkiedaaGreatMQS
import Derived.Test.YtmehjmkakkiedaaGreatMQM
import Derived.Test.YtmehjmkakkiedaaGreatMDVG
import Derived.RangeFuncWrites
namespace Go.Proofs.YtmehjmkakkiedaaGreat
open Go.ChangeShapes Go.WideShapes Go.ChangeAt Go.RowKit
set_option maxRecDepth 100000

/-- A round goes on. -/
def goesOn (B : Nat) (Kp : World → World → Prop) (I : World → Prop) (W : World) : Exit → Act → World → Prop
  | .normal, _, W' => KeepsFrom B W W' ∧ Kp W W' ∧ I W'
  | _, _, _ => False

/-- What an iterator that writes promises: It is what it does between two elements, Kn what is known of an element when it comes, Kp what the loop must leave as it was. -/
def SeqBoth {α : Type} (F : Fence) (n : Nat) (P : Program) (g : Nat) (lb : Array Value) (encs : α → Array Value) (It Kp : World → World → Prop) (Kn : List α → α → World → Prop) (S : List α → World → Prop) (w : World) : Prop :=
  ∀ (l : Nat) (J : List α → World → Prop) (W : World), Below w.heap.size w W → (∀ s A B, J s A → It A B → J s B) →
    (∀ pre x W1, J pre W1 → Kn pre x W1 → YieldAt F (n - 1) P l (encs x) W1 fun e W' => e = .returned (.bool true) ∧ J (pre ++ [x]) W' ∧ Kp W1 W') → J [] W →
    CallsIn F n P g (#[.func (.yield l) #[] #[]] ++ lb) W fun e W' => (∃ v, e = .returned v) ∧ ∃ xs, S xs W' ∧ J xs W'

theorem wpIn_rangeFunc_both {F : Fence} {n : Nat} {P : Program} {α : Type} {g : Operand} {ps : Array Tmp} {assign body : Code} {Q : Exit → Act → World → Prop} {a : Act} {w : World}
    (hro : F.round = none) (h1 : 1 ≤ n) {gf : Nat} {lb : Array Value} (hg : a.eval g = .func (.func gf) #[] lb) (hFg : F.fn gf) (eg : ∀ args w, (callFunc gf args).run P w = .ok (.enter gf args) w)
    {encs : α → Array Value} {It Kp : World → World → Prop} {Kn : List α → α → World → Prop} {S : List α → World → Prop} (hseq : SeqBoth F (n - 1) P gf lb encs It Kp Kn S w) (hps : ∀ x, (encs x).size = ps.size)
    (hKt : ∀ {A B C : World}, Kp A B → Kp B C → Kp A C) (hKb : ∀ (W : World) (l : Nat) (o o' : Obj), w.heap.size ≤ l → W.heap[l]? = some o → o.isCells = false → Kp W (W.putObj l o'))
    (hKn : ∀ pre x (W : World) (l : Nat) (o o' : Obj), w.heap.size ≤ l → W.heap[l]? = some o → o.isCells = false → Kn pre x W → Kn pre x (W.putObj l o'))
    (hS : ∀ xs (W : World) (l : Nat) (o o' : Obj), w.heap.size ≤ l → W.heap[l]? = some o → o.isCells = false → S xs W → S xs (W.putObj l o'))
    (hIt : ∀ {A B : World}, It A B → ∀ (k : Nat) (o : Obj), w.heap.size ≤ k → A.heap[k]? = some o → B.heap[k]? = some o)
    (I : List α → World → Prop) (hI : OwnFrom w.heap.size I) (hItI : ∀ s A B, I s A → It A B → I s B) (h0 : I [] w) (a₁ : α → Act)
    (hassign : ∀ (l : Nat) (x : α) (W : World) (K : Act → World → Prop), K (a₁ x) W →
      assign.wpIn (F.inRound l) (n - 1 - 1) P (Exit.then K (fun _ _ _ => False)) { tmps := (ps.zip (encs x)).foldl (fun t (p, v) => t.setIfInBounds p v) a.tmps, defers := [] } W)
    (hbody : ∀ (l : Nat) (pre : List α) (x : α) (W : World), I pre W → Kn pre x W → body.wpIn (F.inRound l) (n - 1 - 1) P (goesOn w.heap.size Kp (I (pre ++ [x])) W) (a₁ x) W)
    (hdone : ∀ (D : Nat) (xs : List α) (W : World), w.heap.size ≤ D → S xs W → I xs W → W.heap[D]? = some (.deferred (some [])) → Q .normal { a with defers := { target := .collected D, args := #[] } :: a.defers } W) :
    (Code.rangeFunc g ps assign body).wpIn F n P Q a w := by
  obtain ⟨d, hd⟩ : ∃ d, w.heap.size = d := ⟨_, rfl⟩
  refine wpIn_rangeFunc fun fn hfn => ?_
  rw [hro]
  -- the loop's record in a state, and the block of what the rounds defer
  let R : LoopState → Obj := fun st => .loop { state := st, pending := none, fn := fn, tmps := a.tmps, params := ps, assign := assign, body := body, defers := d }
  let Bk : LoopState → World → Prop := fun st W => W.heap[d + 1]? = some (R st) ∧ W.heap[d]? = some (.deferred (some []))
  obtain ⟨u, hu⟩ : ∃ u, (w.alloc (.deferred (some []))).alloc (R .ready) = u := ⟨_, rfl⟩
  have hsu : u.heap.size = d + 2 := by rw [← hu, World.size_alloc, World.size_alloc, hd]
  have hBu : Below w.heap.size w u := hu ▸ (((Below.refl _ w).alloc (Nat.le_refl _) _).alloc (by simp) _)
  have hku : Bk .ready u := by
    subst hu
    refine ⟨?_, ?_⟩
    · have := World.alloc_heap_new (w.alloc (.deferred (some []))) (R .ready)
      rwa [World.size_alloc, hd] at this
    · have := (Below.heap_alloc (w.alloc (.deferred (some []))) (R .ready) w.heap.size (by simp)).trans (World.alloc_heap_new w (.deferred (some [])))
      rwa [hd] at this
  have hIu : I [] u := hu ▸ hI.alloc _ (hI.alloc _ h0)
  -- the record is set to another state
  have hset : ∀ {st st' : LoopState} {W : World}, Bk st W → Bk st' (W.putObj (d + 1) (R st')) := fun h => ⟨World.putObj_heap_same (Array.getElem?_eq_some_iff.1 h.1).1, (World.putObj_heap_other (by omega)).trans h.2⟩
  have hKset : ∀ {st st' : LoopState} {W : World}, Bk st W → Kp W (W.putObj (d + 1) (R st')) := fun h => hKb _ _ _ _ (by omega) h.1 rfl
  have hIset : ∀ {s : List α} {st st' : LoopState} {W : World}, Bk st W → I s W → I s (W.putObj (d + 1) (R st')) := fun h hi => hI.putObj _ hi (by omega) h.1 rfl
  refine ⟨d + 1, [{ target := .collected d, args := #[] }], u, { target := .fn (.func gf) lb, args := #[.func (.yield (d + 1)) #[] #[]] }, u, gf, #[.func (.yield (d + 1)) #[] #[]] ++ lb, u, ?_, ?_, ?_, ?_, fun _ => h1, ?_⟩
  · have := run_enterLoop_outer (P := P) (w := w) fn a.tmps ps assign body
    rw [hd] at this
    exact this.trans (by rw [← hu])
  · simp only [resolve, hg]
    simp [go_sem]
  · intro f' hf'
    simp [Target.leads] at hf'
    subst hf'
    exact hFg
  · simp [invoke, go_sem, eg]
  refine (hseq (d + 1) (fun pre W => I pre W ∧ Bk .ready W) u hBu ?_ ?_ ⟨hIu, hku⟩).mono ?_
  · rintro s A B ⟨hi, hl, hk⟩ hit
    exact ⟨hItI s A B hi hit, hIt hit _ _ (by omega) hl, hIt hit _ _ (by omega) hk⟩
  · rintro pre x W ⟨hi, hb⟩ hkn
    have hy := run_yield (P := P) (args := encs x) hb.1 (hps x)
    refine ⟨fn, _, assign, body, hy, roundIn_of_wpIn hfn (hassign _ x W _ ⟨_, run_beginRound hb.1 rfl, ?_⟩)⟩
    have hb2 : Bk .busy (W.putObj (d + 1) (R .busy)) := hset hb
    refine wpIn_mono (hbody _ pre x _ (hIset hb hi) (hKn _ _ _ _ _ _ (by omega) hb.1 rfl hkn)) ?_
    intro e a3 W3 hp
    cases e with
    | normal =>
      obtain ⟨hk3, hkp, hi3⟩ := hp
      have hb3 : Bk .busy W3 := ⟨hk3.same _ _ (by omega) hb2.1 rfl, hk3.same _ _ (by omega) hb2.2 rfl⟩
      exact ⟨_, _, run_endRound (P := P) none hb3.1, rfl, ⟨hIset hb3 hi3, hset hb3⟩, hKt (hKt (hKset hb) hkp) (hKset hb3)⟩
    | ret => exact hp.elim
    | exit id => exact hp.elim
    | goto t => exact hp.elim
    | panic ch => exact hp.elim
    | outgrown => exact hp.elim
  · rintro e W2 ⟨⟨v, rfl⟩, xs, hs, hi, hb⟩
    refine ⟨none, _, run_endLoop (P := P) hb.1 (fun h => nomatch h), ?_⟩
    have := hdone d xs (W2.putObj (d + 1) (R .exhausted)) (by omega) (hS _ _ _ _ _ (by omega) hb.1 rfl hs) (hIset hb hi) (hset (st' := .exhausted) hb).2
    exact this

end Go.Proofs.YtmehjmkakkiedaaGreat

namespace Go.Proofs.YtmehjmkakkiedaaGreat
open Go.ChangeShapes Go.WideShapes Go.ChangeAt Go.RowKit Go.Maps
set_option maxRecDepth 100000
attribute [local go_sem] Oper.semAt_some

/-- A page that is handed out: its place in the index, and where its octets lie. -/
abbrev CE := Nat × Option Addr × Nat
abbrev cEnc (zs ix : List Int) (x : CE) : Array Value := #[.int .i64 (ix.getD x.1 0), .slice x.2.1 (piece zs x.1).length x.2.2]
def cIt (mb : Nat) (A B : World) : Prop := Out mb (mb + 1) A.heap.size A B
structure cKp (m X mb b1 b2 : Nat) (A B : World) : Prop where
  bx : B.heap[X]? = A.heap[X]?
  bm : B.heap[mb]? = A.heap[mb]?
  lo : KeepsLo m A B
  p : KeepsBlk b1 A B
  q : KeepsBlk b2 A B
theorem cKp.trans {m X mb b1 b2 : Nat} {A B C : World} (h : cKp m X mb b1 b2 A B) (k : cKp m X mb b1 b2 B C) : cKp m X mb b1 b2 A C :=
  ⟨k.bx.trans h.bx, k.bm.trans h.bm, h.lo.trans k.lo, h.p.trans k.p, h.q.trans k.q⟩
theorem cKp.put {m X mb b1 b2 L : Nat} (hX : X < L) (hm : mb < L) (W : World) (l : Nat) (o o' : Obj) (hl : L ≤ l) (h : W.heap[l]? = some o) (hc : o.isCells = false) : cKp m X mb b1 b2 W (W.putObj l o') :=
  ⟨World.putObj_heap_other (by omega), World.putObj_heap_other (by omega), KeepsLo.putObj W l o o' h hc, KeepsBlk.putObj W l o o' h hc, KeepsBlk.putObj W l o o' h hc⟩
/-- What is known of a page that comes. -/
structure cKn (zs ix : List Int) (pre : List CE) (x : CE) (W : World) : Prop where
  at_ : x.1 = pre.length
  lt : x.1 < ix.length
  own : W.ownsRow 0 5 1 (.slice x.2.1 (piece zs x.1).length x.2.2) (piece zs x.1).length (octCells (piece zs x.1))
theorem cKn.put {zs ix : List Int} {pre : List CE} {x : CE} (W : World) (l : Nat) (o o' : Obj) (h : W.heap[l]? = some o) (hc : o.isCells = false) (k : cKn zs ix pre x W) : cKn zs ix pre x (W.putObj l o') :=
  ⟨k.at_, k.lt, ownsRow_putObj k.own _ h hc⟩

set_option maxHeartbeats 2000000 in
theorem chain_both (n m X mb b1 b2 : Nat) (D : Dv) (S0 zs ix : List Int) (hix : ix.length = cntN zs.length)
    (hpg : ∀ j, j < ix.length → ∃ k : Nat, ix[j]? = some (k : Int) ∧ PgAt D k (piece zs j) (ix.getD (j + 1) 0)) (h8 : D.ps.length ≤ 8192) (hnd : (S0 ++ ix).Nodup) (hcn : (S0 ++ ix).length ≤ 8192)
    (w : World) (hR : RdAt m X mb D S0 w) (hb1 : b1 < w.heap.size) (hb2 : b2 < w.heap.size) (h1m : b1 ≠ mb) (h2m : b2 ≠ mb) (hc1 : w.cell? ⟨b1, 0, none⟩ = some (.int .i64 (ix.getD 0 0))) (hc2 : w.cell? ⟨b2, 0, none⟩ = some (.pointer (some ⟨X, 0, none⟩))) :
    SeqBoth Fence.wide n Tryz.prog 85 #[.pointer (some ⟨b1, 0, none⟩), .pointer (some ⟨b2, 0, none⟩)] (cEnc zs ix) (cIt mb) (cKp m X mb b1 b2) (cKn zs ix) (fun ys W => ys.map (·.1) = List.range ix.length ∧ RdAt m X mb D (S0 ++ ix) W) w := by
  intro l J W hW hJ hY h0
  have HR0 := Lib.hid (hR.below hW)
  have d1 := (hW.cell (p := ⟨b1, 0, none⟩) hb1).trans hc1
  have d2 := (hW.cell (p := ⟨b2, 0, none⟩) hb2).trans hc2
  have HPG := Lib.hid hpg
  have HIX := Lib.hid hix
  have HND := Lib.hid hnd
  have HCN := Lib.hid hcn
  have HJ := Lib.hid hJ
  have HY := Lib.hid hY
  have H0 := Lib.hid h0
  have hz0 : ∀ k, k < ix.length → ix.getD k 0 ≠ 0 := fun k hk => by
    obtain ⟨kk, h1, h2, _⟩ := hpg k hk
    simp only [List.getD, h1, Option.getD_some]
    omega
  have HZ0 := Lib.hid hz0
  obtain ⟨nx, hnx⟩ : ∃ nx : Nat → Int, ∀ k, ix.getD k 0 = nx k := ⟨_, fun _ => rfl⟩
  have HNX := Lib.hid hnx
  rw [hnx] at d1
  have HZN : Hid (∀ k, ix.length ≤ k → nx k = 0) := Lib.hid fun k hk => by rw [← hnx, List.getD, List.getElem?_eq_none hk]; rfl
  simp only [hnx] at HPG HZ0
  clear hR hc1 hc2 hpg hix hnd hcn hJ hY h0 hz0 hnx
  refine callsIn_of_wp Tryz.func85 rfl trivial ?_ rfl
  simp only [Tryz.ntmps85, List.size_toArray, List.length_cons, List.length_nil, Nat.reduceAdd, Nat.reduceSub, Array.replicate_succ, Array.replicate_zero, List.push_toArray, List.append_toArray, List.nil_append, List.cons_append]
  gi_wp2
  gi_loopw [4] (fun i wr => ∃ (k : Nat) (pre : List CE), k ≤ ix.length ∧ i = .int .i64 (nx k) ∧ Hid (pre.map (·.1) = List.range k) ∧ wr.cell? ⟨b1, 0, none⟩ = some (.int .i64 (nx 0)) ∧ wr.cell? ⟨b2, 0, none⟩ = some (.pointer (some ⟨X, 0, none⟩)) ∧ Hid (RdAt m X mb D (S0 ++ ix.take k) wr) ∧ Hid (J pre wr))
    (fun i _ => ix.length - ix.idxOf (intOf i))
  case atStart =>
    exact ⟨0, [], Nat.zero_le _, rfl, Lib.hid rfl, d1, d2, Lib.hid (by rw [List.take_zero, List.append_nil]; exact HR0.out), H0⟩
  case round =>
    obtain ⟨k, pre, hk, rfl, HPRE, hc1, hc2, HR, HJ1⟩ := hrel
    by_cases hlt : k < ix.length
    · obtain ⟨kk, hkk, hpga⟩ := HPG.out k hlt
      obtain ⟨hnot, htk⟩ := nodup_take HND.out hkk
      have hlS : (S0 ++ ix.take k).length ≤ 8192 := by
        have h1 := HCN.out
        rw [List.length_append] at h1 ⊢
        rw [List.length_take]
        omega
      have HPAGE := Lib.hid (page_at m X mb D (S0 ++ ix.take k) kk (piece zs k) (nx (k + 1)) hpga h8 hnot hlS wr HR.out)
      rw [List.append_assoc, ← htk] at HPAGE
      have hvk : nx k = kk := by rw [← HNX.out]; simp [List.getD, hkk]
      have hk0 : nx k ≠ 0 := HZ0.out k hlt
      have hid1 : ix.idxOf (nx k) = k := by
        have hnd : ix.Nodup := (List.nodup_append.1 HND.out).2.1
        have := hnd.idxOf_getElem k hlt
        rw [← HNX.out, show ix.getD k 0 = ix[k] by simp [List.getD, List.getElem?_eq_getElem hlt]]
        exact this
      have hpp := piece_pos zs (i := k) (by rw [← HIX.out]; exact hlt)
      have hpl := piece_length zs k
      have hprel : pre.length = k := by
        have := congrArg List.length HPRE.out
        rw [List.length_map, List.length_range] at this
        exact this
      rw [hvk] at hk0
      have hk0' : ((kk : Int) != 0) = true := by simpa using hk0
      have HVK := Lib.hid hvk
      have HID1 := Lib.hid hid1
      have hmw := HR.out.mlt
      have hml := HR.out.mmb
      have hmX := HR.out.mX
      clear hkk hpga hnot htk hlS hid1
      rw [hvk]
      gi_wp2_with fail
      refine ⟨trivial, fun h => (by cases h), ?_⟩
      refine (callsIn_wide.2 HPAGE.out).mono ?_
      rintro e w5 ⟨A5, c5, rfl, hown5, hR5, hO5⟩
      have l1 := World.block_lt_of_cell? wr ⟨b1, 0, none⟩ hc1
      have l2 := World.block_lt_of_cell? wr ⟨b2, 0, none⟩ hc2
      have q1 := (World.cell?_of_block (hO5.block b1 l1 (by omega))).trans hc1
      have q2 := (World.cell?_of_block (hO5.block b2 l2 (by omega))).trans hc2
      obtain ⟨fn, tmps, assign, body, hy, hRd⟩ := HY.out pre ⟨k, A5, c5⟩ w5 (HJ.out pre wr w5 HJ1.out hO5) ⟨hprel.symm, hlt, own_base hown5 (Nat.zero_le _)⟩
      dsimp only [cEnc] at hy
      rw [HNX.out, HVK.out] at hy
      have HRD := Lib.hid hRd
      have HR5 := Lib.hid hR5
      have HPR1 : Hid ((pre ++ [(⟨k, A5, c5⟩ : CE)]).map (·.1) = List.range (k + 1)) := Lib.hid (by rw [List.map_append, HPRE.out, List.range_succ]; rfl)
      clear hRd hR5 hown5 HPAGE HY HJ HJ1 HR hO5 hc1 hc2 HPRE
      by_cases hl : k + 1 < ix.length
      · obtain ⟨kk2, h21, h22, _⟩ := HPG.out (k + 1) hl
        have hn2 : nx (k + 1) = kk2 := by rw [← HNX.out]; simp [List.getD, h21]
        have hn0 : ((kk2 : Int) != 0) = true := by simp; omega
        have h52 : (piece zs k).length = 52 := by
          have := HIX.out
          unfold cntN at this
          omega
        rw [hn2]
        have HN2 := Lib.hid hn2
        have hid2 : ix.idxOf (nx (k + 1)) = k + 1 := by
          have hnd : ix.Nodup := (List.nodup_append.1 HND.out).2.1
          have := hnd.idxOf_getElem (k + 1) hl
          rw [← HNX.out, show ix.getD (k + 1) 0 = ix[k + 1] by simp [List.getD, List.getElem?_eq_getElem hl]]
          exact this
        have HID2 := Lib.hid hid2
        clear hn2 h21 h22 hid2 hpl
        rw [h52] at hy ⊢
        gi_wp2
        refine ⟨fun h => (by cases h), HRD.out.mono ?_⟩
        rintro e W3 ⟨rfl, hJ3, hk3⟩
        have q13 := hk3.p _ _ q1
        have q23 := hk3.q _ _ q2
        have HR3 := Lib.hid (HR5.out.keep hk3.bx hk3.bm hk3.lo)
        have HJ3 := Lib.hid hJ3
        clear hy HRD q1 q2 hk3 hJ3 HR5
        gi_wp2
        go_roundw
        case rel => exact ⟨k + 1, _, by omega, by rw [HN2.out], HPR1, q13, q23, HR3, HJ3⟩
        case measure =>
          have h1 := HID1.out
          have h2 := HID2.out
          rw [HVK.out] at h1
          rw [HN2.out] at h2
          simp only [intOf]
          rw [h1, h2]
          omega
      · have hn2 : nx (k + 1) = 0 := HZN.out _ (by omega)
        rw [hn2]
        have HN2 := Lib.hid hn2
        have hlen : ((piece zs k).length == 0) = false := by simpa using Nat.ne_of_gt hpp
        obtain ⟨pl, hple⟩ : ∃ n, (piece zs k).length = n := ⟨_, rfl⟩
        rw [hple] at hy hlen hpp ⊢
        clear hn2 hpl
        have hid2 : ix.idxOf (0 : Int) = ix.length := List.idxOf_eq_length fun hm => by
          obtain ⟨j, hj, e⟩ := List.getElem_of_mem hm
          refine HZ0.out j hj ?_
          rw [← HNX.out]
          simp [List.getD, List.getElem?_eq_getElem hj, e]
        have HID2 := Lib.hid hid2
        clear hid2
        gi_wp2
        refine ⟨fun h => (by cases h), HRD.out.mono ?_⟩
        rintro e W3 ⟨rfl, hJ3, hk3⟩
        have q13 := hk3.p _ _ q1
        have q23 := hk3.q _ _ q2
        have HR3 := Lib.hid (HR5.out.keep hk3.bx hk3.bm hk3.lo)
        have HJ3 := Lib.hid hJ3
        clear hy HRD q1 q2 hk3 hJ3 HR5
        gi_wp2
        go_roundw
        case rel => exact ⟨k + 1, _, by omega, by rw [HN2.out], HPR1, q13, q23, HR3, HJ3⟩
        case measure =>
          have h1 := HID1.out
          have h2 := HID2.out
          rw [HVK.out] at h1
          simp only [intOf]
          rw [h1, h2]
          omega
    · obtain rfl : k = ix.length := by omega
      have hn2 : nx ix.length = 0 := HZN.out _ (Nat.le_refl _)
      rw [hn2]
      gi_wp2
      go_end0
      have hR9 := HR.out
      rw [List.take_length] at hR9
      exact ⟨⟨_, rfl⟩, pre, ⟨HPRE.out, hR9⟩, HJ1.out⟩

end Go.Proofs.YtmehjmkakkiedaaGreat

namespace Go.Proofs.YtmehjmkakkiedaaGreat
open Go.ChangeShapes Go.WideShapes Go.ChangeAt Go.RowKit Go.Maps Go.Shelf
set_option maxRecDepth 100000

/-- What entries answers. -/
def EntAns (os : List PO) (w : World) (e : Ending) (w' : World) : Prop :=
  ∃ Bn A c, e = .returned (.func (.func 110) #[] #[.pointer (some ⟨Bn, 0, none⟩), .pointer (some ⟨Bn + 1, 0, none⟩)]) ∧ w.heap.size ≤ Bn ∧ Blk w' Bn 123 [.slice A (idxT os).length c] ∧ Blk w' (Bn + 1) 3 [.int .i64 (3 : Nat)] ∧
    w'.ownsRow w.heap.size 9 1 (.slice A (idxT os).length c) (idxT os).length ((idxT os).map Value.string) ∧ Below w.heap.size w w'

theorem ent_blk {w1 : World} {A : Option Addr} {n c : Nat} : Blk ((w1.alloc (.cells #[.slice A n c] 123)).alloc (.cells #[.int .i64 (3 : Nat)] 3)) w1.heap.size 123 [.slice A n c] ∧ Blk ((w1.alloc (.cells #[.slice A n c] 123)).alloc (.cells #[.int .i64 (3 : Nat)] 3)) (w1.heap.size + 1) 3 [.int .i64 (3 : Nat)] ∧ Below w1.heap.size w1 ((w1.alloc (.cells #[.slice A n c] 123)).alloc (.cells #[.int .i64 (3 : Nat)] 3)) := by
  have e : (w1.alloc (.cells #[.slice A n c] 123)).alloc (.cells #[.int .i64 (3 : Nat)] 3) = allocs w1 [([.slice A n c], 123), ([.int .i64 (3 : Nat)], 3)] := rfl
  rw [e]
  exact ⟨allocs_blk _ w1 0 rfl, allocs_blk _ w1 1 rfl, allocs_below _ _⟩

theorem entries_none (A : Option Addr) (n c : Nat) (w : World) :
    Calls Tryz.prog 62 #[.slice A n c, .int .i64 0] w (EntAns [] w) := by
  have HC := Lib.hid ((callsIn_wide (n := 0)).1 (chunkS_in 0 none 0 0 3 (by omega) (by omega) w))
  go_enter Tryz.func62, Tryz.ntmps62
  go_wp2_with fail
  refine HC.out.mono ?_
  rintro e w1 ⟨rfl, rfl⟩
  obtain ⟨h1, h2, h3⟩ := ent_blk (w1 := w) (A := none) (n := 0) (c := 0)
  go_wp2
  go_ret
  exact ⟨_, none, 0, rfl, Nat.le_refl _, h1, h2, own_none _ _ _, h3⟩

theorem entries_some (os : List PO) (ho : os ≠ []) (hl : os.length ≤ 256) (hw : wrE (idxT os) = 0) (A : Option Addr) (c : Nat) (hc : (wr (idxT os)).length ≤ c) (hs : (wr (idxT os)).length ≤ 1000000000) (w : World) (hr : RdB w A (wr (idxT os))) :
    Calls Tryz.prog 62 #[.slice A (wr (idxT os)).length c, .int .i64 os.length] w (EntAns os w) := by
  have hrd : rd (wr (idxT os)) = (0, idxT os) := by
    have := rd_wr (idxT os) hw []
    rw [List.append_nil] at this
    exact this
  have hR := read_own A c (wr (idxT os)) hc (by omega) (wr_octs _) w hr
  rw [hrd] at hR
  have HR := Lib.hid hR
  have hL := idxT_length os
  have hpos : 0 < os.length := by
    rcases os with _ | ⟨o, os⟩
    · exact absurd rfl ho
    · simp
  clear hR hr hrd hs hc hw ho
  generalize wr (idxT os) = zs at *
  generalize hn : os.length = n at *
  have h3 : wrap64 ((3 : Int) * n) = 3 * n := IntWalk.wrap64_in _ (by omega)
  have hn0 : ((n : Int) == 0) = false := by simp; omega
  go_enter Tryz.func62, Tryz.ntmps62
  go_wp2_with fail
  refine HR.out.mono ?_
  rintro e w1 ⟨B, d, rfl, hown, hB⟩
  have HO := Lib.hid hown
  have hle : ((3 * n : Nat) != 3 * n) = false := by simp
  clear hown
  unfold ansS
  dsimp only
  rw [hL]
  go_wp2_with fail
  refine ((callsIn_wide (n := 0)).1 (chunkS_in 0 B (3 * n) d 3 (by omega) (by omega) w1)).mono ?_
  rintro e w2 ⟨rfl, rfl⟩
  obtain ⟨h1, h2, h4⟩ := ent_blk (w1 := w1) (A := B) (n := 3 * n) (c := d)
  go_wp2
  go_ret
  have ho := own_below HO.out h4 (Nat.le_refl _)
  refine ⟨_, B, d, rfl, hB.size, ?_, h2, ho, hB.trans (h4.mono hB.size)⟩
  rw [hL]
  exact h1

set_option maxHeartbeats 1000000 in
theorem newReader_ok (m : Nat) (D : Dv) (w : World) (hm : m ≤ w.heap.size) (h1 : RdU m w D.A (ptCells D.ps)) (h2 : ∀ p ∈ D.ps, RdU m w p.A (ocl p.zs)) :
    Calls Tryz.prog 60 #[D.val] w fun e w' => ∃ X mb, e = .returned (.pointer (some ⟨X, 0, none⟩)) ∧ w.heap.size ≤ mb ∧ RdAt m X mb D [] w' ∧ Below w.heap.size w w' := by
  have hmm := @run_makeMap Tryz.prog
  have HS := Lib.hid h1
  have HP := Lib.hid h2
  clear h1 h2
  go_enter Tryz.func60, Tryz.ntmps60
  go_wp2_with fail
  go_ret
  have hB : Below w.heap.size w (((w.alloc (.cells #[.slice D.A D.ps.length D.c, .slice D.B D.ws.length D.d] 27)).alloc (.map #[] 0)).alloc (.cells #[.int .i64 D.ps.length, .map (some (w.heap.size + 1)), .slice D.A D.ps.length D.c] RT)) :=
    (((Below.refl _ w).alloc (Nat.le_refl _) _).alloc (by simp) _).alloc (by simp; omega) _
  refine ⟨w.heap.size + 1 + 1, w.heap.size + 1, rfl, by omega, ⟨?_, ?_, HS.out.keeps (KeepsLo.below hB), fun p hp => (HP.out p hp).keeps (KeepsLo.below hB), by omega, by omega⟩, hB⟩
  · have := Blk.new ((w.alloc (.cells #[.slice D.A D.ps.length D.c, .slice D.B D.ws.length D.d] 27)).alloc (.map #[] 0)) [.int .i64 D.ps.length, .map (some (w.heap.size + 1)), .slice D.A D.ps.length D.c] RT
    simp only [World.size_alloc] at this
    exact this
  · have h : OwnS ((w.alloc (.cells #[.slice D.A D.ps.length D.c, .slice D.B D.ws.length D.d] 27)).alloc (.map #[] 0)) (w.alloc (.cells #[.slice D.A D.ps.length D.c, .slice D.B D.ws.length D.d] 27)).heap.size 0 (.map []) := World.ownsMap_made _ _ _ _
    rw [World.size_alloc] at h
    exact ⟨.map [], h.alloc _, SetIs.empty⟩

end Go.Proofs.YtmehjmkakkiedaaGreat

namespace Go.Proofs.YtmehjmkakkiedaaGreat
open Go.ChangeShapes Go.WideShapes Go.ChangeAt Go.RowKit
set_option maxRecDepth 100000

/-- In sector k of these stands a page of these octets, with this next. -/
def PgIn (secs : List (List Int)) (k : Nat) (b : List Int) (nx : Int) : Prop := 2 ≤ k ∧ ∃ z, secs[k]? = some z ∧ z.length = 64 ∧ Octs z ∧ pgAns z = (b, nx, 0)
theorem PgIn.at_ {D : Dv} {k : Nat} {b : List Int} {nx : Int} (h : PgIn (D.ps.map (·.zs)) k b nx) (hc : ∀ p ∈ D.ps, p.zs.length ≤ p.c) : PgAt D k b nx := by
  obtain ⟨h2, z, hz, hl, ho, ha⟩ := h
  rw [List.getElem?_map] at hz
  rcases hp : D.ps[k]? with _ | p
  · rw [hp] at hz; cases hz
  · rw [hp] at hz
    injection hz with hz
    subst hz
    exact ⟨h2, p, rfl.trans hp, hc p (List.mem_of_getElem? hp), hl, ho, ha⟩

/-- The octets of the index. -/
def idxZ (os : List PO) : List Int := if os = [] then [] else wr (idxT os)
theorem idxZ_octs (os : List PO) : Octs (idxZ os) := by
  unfold idxZ
  split
  · exact fun z hz => by simp at hz
  · exact wr_octs _

/-- The pages of octets stand there. -/
def Pages (secs : List (List Int)) (at_ : List Int) (zs : List Int) (nx : Nat → Int) : Prop := at_.length = cntN zs.length ∧ ∀ j, j < at_.length → ∃ k : Nat, at_[j]? = some (k : Int) ∧ PgIn secs k (piece zs j) (nx j)

structure Stands (secs : List (List Int)) (u : Ub) (os : List PO) (ix : List Int) : Prop where
  hu : ∃ k a b, secs[0]? = some a ∧ secs[1]? = some b ∧ Octs a ∧ Octs b ∧ ubNew (ubOf a) (ubOf b) = (u, k, 0)
  hf : u.f = ix.getD 0 0
  hwr : wrE (idxT os) = 0
  hix : Pages secs ix (idxZ os) (fun j => ix.getD (j + 1) 0)
  hos : ∀ o ∈ os, Pages secs o.at_ o.data (fun _ => 0)
  hnd : (ix ++ os.flatMap (·.at_)).Nodup
  hok : PS.ok ⟨⟨secs, []⟩, u, os, ix⟩
  hoc : ∀ o ∈ os, Octs o.data

end Go.Proofs.YtmehjmkakkiedaaGreat

namespace Go.Proofs.YtmehjmkakkiedaaGreat
open Go.ChangeShapes Go.WideShapes Go.ChangeAt Go.RowKit
set_option maxRecDepth 100000

theorem ubNew_newer {u v : Ub} (hv : v.ok = true) (hlt : v.t < u.t) : ubNew (u, 0) (v, 0) = (u, 0, 0) ∧ ubNew (v, 0) (u, 0) = (u, 1, 0) := by
  have h1 := (Ub.ok_iff.1 hv).1
  have h0 : ub0.t = 0 := rfl
  have a1 : ∀ x : Ub, 1 ≤ x.t → ubUpd (ub0, 0) (x, 0) 0 = (x, 0) := fun x hx => by
    unfold ubUpd
    rw [if_pos ⟨rfl, by show ub0.t < x.t; rw [h0]; omega⟩]
  refine ⟨?_, ?_⟩
  · have e : ubSt (u, 0) (v, 0) 2 = (u, 0) := by
      simp only [ubSt]
      rw [a1 u (by omega)]
      unfold ubUpd
      rw [if_neg fun h => by have h2 : u.t < v.t := h.2; omega]
    unfold ubNew
    rw [e, if_neg (by show ¬ u.t = 0; omega)]
  · have e : ubSt (v, 0) (u, 0) 2 = (u, 1) := by
      simp only [ubSt]
      rw [a1 v h1]
      unfold ubUpd
      rw [if_pos ⟨rfl, hlt⟩]
    unfold ubNew
    rw [e, if_neg (by show ¬ u.t = 0; omega)]

/-- Pairs of a list. -/
theorem pw_forall {α : Type} {R : α → α → Prop} (hs : ∀ a b, R a b → R b a) (hr : ∀ a, R a a) : ∀ {l : List α}, l.Pairwise R → ∀ a ∈ l, ∀ b ∈ l, R a b
  | [], _, a, ha, _, _ => by cases ha
  | x :: l, h, a, ha, b, hb => by
    obtain ⟨h1, h2⟩ := List.pairwise_cons.1 h
    rcases List.mem_cons.1 ha with rfl | ha1
    · rcases List.mem_cons.1 hb with rfl | hb1
      · exact hr _
      · exact h1 b hb1
    · rcases List.mem_cons.1 hb with rfl | hb1
      · exact hs _ _ (h1 a ha1)
      · exact pw_forall hs hr h2 a ha1 b hb1

theorem applyW_cons (S : List (List Int)) (x : Int × List Int) (l : List (Int × List Int)) : applyW S (x :: l) = applyW (S.set x.1.toNat x.2) l := rfl
theorem applyW_other : ∀ (l : List (Int × List Int)) (S : List (List Int)) (k : Nat), (∀ x ∈ l, x.1.toNat ≠ k) → (applyW S l)[k]? = S[k]?
  | [], _, _, _ => rfl
  | x :: l, S, k, h => by
    rw [applyW_cons, applyW_other l _ k (fun y hy => h y (by simp [hy])), List.getElem?_set_ne (h x (by simp))]
theorem applyW_mem : ∀ (l : List (Int × List Int)) (S : List (List Int)), (l.map fun x => x.1.toNat).Nodup → ∀ x ∈ l, x.1.toNat < S.length → (applyW S l)[x.1.toNat]? = some x.2
  | [], _, _, x, hx, _ => by cases hx
  | y :: l, S, h, x, hx, hl => by
    rw [applyW_cons]
    rw [List.map_cons] at h
    obtain ⟨h1, h2⟩ := List.nodup_cons.1 h
    rcases List.mem_cons.1 hx with rfl | hx
    · rw [applyW_other l _ x.1.toNat (fun z hz e => h1 (List.mem_map.2 ⟨z, hz, e⟩)), List.getElem?_set_self (by simpa using hl)]
    · exact applyW_mem l _ h2 x hx (by simpa using hl)
theorem applyW_64 : ∀ (l : List (Int × List Int)) (S : List (List Int)), (∀ z ∈ S, z.length = 64) → (∀ x ∈ l, x.2.length = 64) → ∀ z ∈ applyW S l, z.length = 64
  | [], _, h, _, z, hz => h z hz
  | y :: l, S, h, hl, z, hz => by
    refine applyW_64 l _ (fun z hz => ?_) (fun x hx => hl x (by simp [hx])) z (applyW_cons S y l ▸ hz)
    rcases List.mem_or_eq_of_mem_set hz with hz | rfl
    · exact h z hz
    · exact hl y (by simp)

/-- Acts that write, as writes. -/
def prs (l : List AcT) : List (Int × List Int) := l.map fun a => (a.2.1, a.2.2)
theorem doL_append (S : DS) (l m : List AcT) : doL S (l ++ m) = doL (doL S l) m := by simp [doL]
theorem doL_writes (l : List AcT) : ∀ S : DS, (∀ a ∈ l, a.1 = false) → doL S l = ⟨S.secs, S.waits ++ prs l⟩ := by
  induction l with
  | nil => intro S _; simp [doL, prs]
  | cons a l ih =>
    intro S h
    have ha := h a (by simp)
    have e : doL S (a :: l) = doL (doA S a) l := rfl
    rw [e, ih _ (fun b hb => h b (by simp [hb]))]
    simp [doA, ha, prs]
theorem doL_flush (S : DS) : doL S [((true, 0, []) : AcT)] = ⟨applyW S.secs S.waits, []⟩ := rfl

/-- The last acts. -/
theorem doL_last (secs : List (List Int)) (l : List AcT) (u : Ub) (h : ∀ a ∈ l, a.1 = false) : doL ⟨secs, []⟩ (l ++ lastActs u) = ⟨(applyW secs (prs l)).set (u.t % 2).toNat u.octs, []⟩ := by
  rw [doL_append, doL_writes l _ h]
  simp only [lastActs, doL, List.foldl_cons, List.foldl_nil, doA]
  simp [applyW]

theorem wrs_at {zs ats nxs : List Int} (h : ats.length = cntN zs.length) : (wrs zs ats nxs).map (·.2.1) = ats := by
  unfold wrs
  rw [List.map_map, ← h]
  exact range_getD ats

/-- Pages that were written stand. -/
theorem pages_written {secs : List (List Int)} {zs ats nxs : List Int} (hl : ats.length = cntN zs.length) (hw : ∀ a ∈ wrs zs ats nxs, secs[a.2.1.toNat]? = some a.2.2) (h2 : ∀ z ∈ ats, 2 ≤ z) (hn : ∀ j, 0 ≤ nxs.getD j 0 ∧ nxs.getD j 0 < 8192) (ho : Octs zs) :
    Pages secs ats zs (fun j => nxs.getD j 0) := by
  refine ⟨hl, fun j hj => ?_⟩
  have hm : ats[j] ∈ ats := List.getElem_mem hj
  have h3 := h2 _ hm
  refine ⟨ats[j].toNat, by rw [List.getElem?_eq_getElem hj]; exact congrArg some (by omega), by omega, pgO (piece zs j) (nxs.getD j 0), ?_, pgO_length _ (piece_le _ _), pgO_octs _ (piece_octs ho _), ?_⟩
  · have := hw (wact zs ats nxs j) (List.mem_map.2 ⟨j, List.mem_range.2 (by omega), rfl⟩)
    have e : (wact zs ats nxs j).2.1 = ats[j] := by
      show ats.getD j 0 = _
      rw [List.getD_eq_getElem?_getD, List.getElem?_eq_getElem hj]
      rfl
    rw [e] at this
    exact this
  · obtain ⟨g1, g2, g3⟩ := pg_back (b := piece zs j) (next := nxs.getD j 0) (pgE_ok.2 ⟨piece_le _ _, (hn j).1, (hn j).2⟩)
    rw [pgAns_ok g1, g2, g3]

theorem Pages.keep {secs secs' : List (List Int)} {ats zs : List Int} {nx : Nat → Int} (h : Pages secs ats zs nx) (hk : ∀ k : Nat, (k : Int) ∈ ats → secs'[k]? = secs[k]?) : Pages secs' ats zs nx := by
  refine ⟨h.1, fun j hj => ?_⟩
  obtain ⟨k, h1, h2, z, h3, h4⟩ := h.2 j hj
  exact ⟨k, h1, h2, z, (hk k (List.mem_of_getElem? h1)).trans h3, h4⟩
/-- What stands, stands on whatever agrees with it where it is. -/
theorem Stands.keep {secs secs' : List (List Int)} {u : Ub} {os : List PO} {ix : List Int} (h : Stands secs u os ix) (hl : secs'.length = secs.length) (h64 : ∀ z ∈ secs', z.length = 64) (h01 : ∀ k, k < 2 → secs'[k]? = secs[k]?)
    (hk : ∀ k : Nat, (k : Int) ∈ os.flatMap (·.at_) ++ ix → secs'[k]? = secs[k]?) : Stands secs' u os ix := by
  obtain ⟨k, a, b, h1, h2, h3⟩ := h.hu
  have hok := h.hok
  refine ⟨⟨k, a, b, (h01 0 (by omega)).trans h1, (h01 1 (by omega)).trans h2, h3⟩, h.hf, h.hwr, h.hix.keep fun k hm => hk k (List.mem_append.2 (.inr hm)), fun o ho => (h.hos o ho).keep fun k hm => hk k (List.mem_append.2 (.inl (List.mem_flatMap.2 ⟨o, ho, hm⟩))), h.hnd, ⟨?_, rfl, hok.u, hok.n, hok.os, hok.at_, ?_⟩, h.hoc⟩
  · obtain ⟨g1, g2, g3, g4⟩ := hok.dev
    exact ⟨by show 2 ≤ secs'.length; rw [hl]; exact g1, by show secs'.length ≤ _; rw [hl]; exact g2, h64, fun x hx => (by cases hx)⟩
  · have := hok.secs
    show chk secs'.length _ = 0
    rw [hl]
    exact this

/-- A store that stands where it says, as it was committed. -/
structure StandsP (s : PS) : Prop where
  st : Stands s.dev.secs s.u s.os s.ix
  w : s.dev.waits = []
  slot : s.dev.secs[(s.u.t % 2).toNat]? = some s.u.octs
theorem StandsP.ok {s : PS} (h : StandsP s) : s.ok := by
  have h1 := h.st.hok
  have h2 := h.w
  obtain ⟨⟨secs, waits⟩, u, os, ix⟩ := s
  dsimp only at h2
  subst h2
  exact h1

theorem Placing.inv {old : List PO} {fr0 : List Int} {xs ys : List PO} {fr : List Int} {aw : List AcT} (h : Placing old fr0 xs ys fr aw) :
    ∃ k, fr = fr0.drop k ∧ k ≤ fr0.length ∧ aw.map (·.2.1) = fr0.take k ∧ ∀ y ∈ ys, y ∈ old ∨ ((∀ z ∈ y.at_, z ∈ fr0.take k) ∧ y.at_.length = cntN y.data.length ∧ ∀ a ∈ wrs y.data y.at_ (List.replicate (cntN y.data.length) 0), a ∈ aw) := by
  induction h with
  | nil => exact ⟨0, rfl, Nat.zero_le _, by simp, fun y hy => (by cases hy)⟩
  | same x o h1 h2 h3 h4 ih =>
    obtain ⟨k, e1, e2, e3, e4⟩ := ih
    refine ⟨k, e1, e2, e3, fun y hy => ?_⟩
    rcases List.mem_append.1 hy with hy | hy
    · exact e4 y hy
    · simp at hy
      subst hy
      rw [← h3, ← h4]
      exact .inl h2
  | new x h1 h2 h3 ih =>
    obtain ⟨k, e1, e2, e3, e4⟩ := ih
    rename_i fr' aw'
    have hl : (fr'.take (cntN x.data.length)).length = cntN x.data.length := by rw [List.length_take]; omega
    have hk : fr'.length = fr0.length - k := by rw [e1, List.length_drop]
    refine ⟨k + cntN x.data.length, by rw [e1, List.drop_drop], by omega, ?_, fun y hy => ?_⟩
    · rw [List.map_append, e3, wrs_at hl, List.take_add, e1]
    · rcases List.mem_append.1 hy with hy | hy
      · rcases e4 y hy with g | ⟨g1, g2, g3⟩
        · exact .inl g
        · exact .inr ⟨fun z hz => by rw [List.take_add]; exact List.mem_append.2 (.inl (g1 z hz)), g2, fun a ha => List.mem_append.2 (.inl (g3 a ha))⟩
      · simp at hy
        subst hy
        refine .inr ⟨fun z hz => ?_, hl, fun a ha => List.mem_append.2 (.inr ha)⟩
        rw [List.take_add]
        refine List.mem_append.2 (.inr ?_)
        rw [← e1]
        exact hz

/-- No sector is met twice. -/
theorem Placing.nodup {old : List PO} {fr0 : List Int} {xs ys : List PO} {fr : List Int} {aw : List AcT} (h : Placing old fr0 xs ys fr aw) (hk : xs.Pairwise fun a b => a.key ≠ b.key)
    (hold : ∀ o ∈ old, o.at_.length = cntN o.data.length) (hn : (old.flatMap (·.at_)).Nodup) (hf : fr0.Nodup) (hd : ∀ z ∈ fr0, z ∉ old.flatMap (·.at_)) : (ys.flatMap (·.at_)).Nodup := by
  have hp := List.pairwise_flatMap.1 hn
  have hpw : ∀ a ∈ old, ∀ b ∈ old, a.key ≠ b.key → ∀ x ∈ a.at_, ∀ y ∈ b.at_, x ≠ y := by
    refine pw_forall (R := fun a b : PO => a.key ≠ b.key → ∀ x ∈ a.at_, ∀ y ∈ b.at_, x ≠ y) (fun a b h hk x hx y hy => (h hk.symm y hy x hx).symm) (fun a h => absurd rfl h) (hp.2.imp (fun {a b} h (_ : a.key ≠ b.key) => h))
  induction h with
  | nil => exact List.nodup_nil
  | same x o h1 h2 h3 h4 ih =>
    rename_i xs' ys' fr' aw'
    obtain ⟨hk1, _, hk2⟩ := List.pairwise_append.1 hk
    obtain ⟨k, e1, e2, e3, e4⟩ := h1.inv
    have hkeys := (h1.facts hold).1
    rw [List.flatMap_append, List.flatMap_singleton]
    refine List.nodup_append.2 ⟨ih hk1, hp.1 o h2, fun z hz z' hz' => ?_⟩
    obtain ⟨y, hy, hzy⟩ := List.mem_flatMap.1 hz
    rcases e4 y hy with g | ⟨g1, _, _⟩
    · refine hpw y g o h2 (fun e => ?_) z hzy z' hz'
      have : y.key ∈ xs'.map (·.key) := hkeys ▸ List.mem_map.2 ⟨y, hy, rfl⟩
      obtain ⟨x', hx', e'⟩ := List.mem_map.1 this
      exact hk2 x' hx' x (by simp) (by rw [e', e, h3])
    · rintro rfl
      exact hd z (List.mem_of_mem_take (g1 z hzy)) (List.mem_flatMap.2 ⟨o, h2, hz'⟩)
  | new x h1 h2 h3 ih =>
    rename_i xs' ys' fr' aw'
    obtain ⟨hk1, _, hk2⟩ := List.pairwise_append.1 hk
    obtain ⟨k, e1, e2, e3, e4⟩ := h1.inv
    rw [List.flatMap_append, List.flatMap_singleton]
    have hfr : fr'.Nodup := e1 ▸ hf.sublist (List.drop_sublist _ _)
    refine List.nodup_append.2 ⟨ih hk1, hfr.sublist (List.take_sublist _ _), fun z hz z' hz' => ?_⟩
    obtain ⟨y, hy, hzy⟩ := List.mem_flatMap.1 hz
    have hz0 : z' ∈ fr0.drop k := e1 ▸ List.mem_of_mem_take hz'
    rcases e4 y hy with g | ⟨g1, _, _⟩
    · rintro rfl
      exact hd z (List.mem_of_mem_drop hz0) (List.mem_flatMap.2 ⟨y, g, hzy⟩)
    · rintro rfl
      have := List.nodup_append.1 (List.take_append_drop k fr0 ▸ hf)
      exact this.2.2 z (g1 z hzy) z hz0 rfl

theorem objE_congr {xs ys : List PO} (h1 : ys.map (·.key) = xs.map (·.key)) (h2 : ys.map (·.data) = xs.map (·.data)) : objE ys = objE xs := by
  have hl : ys.length = xs.length := by have := congrArg List.length h1; simpa using this
  have ha : ∀ l : List PO, (l.all fun o => decide (o.data.length ≤ 65536)) = (l.map (·.data)).all fun d => decide (d.length ≤ 65536) := fun l => by rw [List.all_map]; rfl
  unfold objE
  rw [hl, h1, ha, ha, h2]

theorem wrE_idx {os : List PO} (h : objE os = 0) (hat : ∀ o ∈ os, o.at_.length = cntN o.data.length) : wrE (idxT os) = 0 := by
  obtain ⟨h1, _, h3⟩ := objE_ok h
  have hk := (objE_keys h).1
  refine wrE_ok.2 ⟨by rw [idxT_length]; omega, List.all_eq_true.2 fun s hs => ?_⟩
  obtain ⟨o, ho, hs⟩ := List.mem_flatMap.1 hs
  have g1 := (hk o ho).1
  have g2 := h3 o ho
  have g3 := hat o ho
  simp only [oneT, List.mem_cons, List.not_mem_nil, or_false] at hs
  rcases hs with rfl | rfl | rfl
  · simp; omega
  · simp [numT_size]
  · rw [numsT_size, g3]
    unfold cntN
    simp
    omega

end Go.Proofs.YtmehjmkakkiedaaGreat

namespace Go.Proofs.YtmehjmkakkiedaaGreat
open Go.ChangeShapes Go.WideShapes Go.ChangeAt Go.RowKit
set_option maxRecDepth 100000

/-- What is known of a commit's writes and of what stands behind them. -/
structure Behind (s u : PS) (aw aw1 : List AcT) (S1 : List (List Int)) : Prop where
  aw : aw = aw1 ++ lastActs u.u
  wr : ∀ a ∈ aw1, a.1 = false ∧ 2 ≤ a.2.1 ∧ a.2.1 < s.dev.secs.length ∧ a.2.1 ∉ s.secs ∧ a.2.2.length = 64
  s1 : S1 = applyW s.dev.secs (prs aw1)
  dev : u.dev = ⟨S1.set (u.u.t % 2).toNat u.u.octs, []⟩
  st : Stands (S1.set (u.u.t % 2).toNat u.u.octs) u.u u.os u.ix
  slot : (S1.set (u.u.t % 2).toNat u.u.octs)[(u.u.t % 2).toNat]? = some u.u.octs
theorem Behind.stands {s u : PS} {aw aw1 : List AcT} {S1 : List (List Int)} (h : Behind s u aw aw1 S1) : StandsP u :=
  ⟨by rw [h.dev]; exact h.st, by rw [h.dev], by rw [h.dev]; exact h.slot⟩

theorem getD_next (ix : List Int) (j : Nat) : (ix.drop 1 ++ [0]).getD j 0 = ix.getD (j + 1) 0 := by
  simp only [List.getD_eq_getElem?_getD]
  by_cases h : j < (ix.drop 1).length
  · rw [List.getElem?_append_left h, List.getElem?_drop, Nat.add_comm]
  · rw [List.length_drop] at h
    rw [List.getElem?_append_right (by rw [List.length_drop]; omega), List.getElem?_eq_none (l := ix) (by omega), List.length_drop]
    rcases j - (ix.length - 1) with _ | n
    · rfl
    · simp
theorem getD_rep (n j : Nat) : (List.replicate n (0 : Int)).getD j 0 = 0 := by
  rw [List.getD_eq_getElem?_getD, List.getElem?_replicate]
  split <;> rfl

theorem commit_behind {s u : PS} {l : List PO} {aw : List AcT} (hs : StandsP s) (hc : Committed s l u aw) (hob : objE l = 0) (ht : s.u.t < 1099511627776) (hoc : ∀ o ∈ l, Octs o.data) : ∃ aw1 S1, Behind s u aw aw1 S1 := by
  obtain ⟨⟨fr, pl, wi, hP, hI, rfl⟩, hT, hO, hD⟩ := hc
  have hsok := hs.ok
  have hat := hsok.at_
  obtain ⟨⟨hN2, hN8⟩, hrg, hnd⟩ := chk_ok.1 hsok.secs
  obtain ⟨n1, n2, n3⟩ := List.nodup_append.1 (show (s.os.flatMap (·.at_) ++ s.ix).Nodup from hnd)
  have hf0 : (freeL s.dev.secs.length s.secs).Nodup := (rise_free _ _).nodup
  have hfm : ∀ z ∈ freeL s.dev.secs.length s.secs, (2 ≤ z ∧ z < s.dev.secs.length) ∧ z ∉ s.secs := fun z hz => mem_free.1 hz
  obtain ⟨k, e1, e2, e3, e4⟩ := hP.inv
  obtain ⟨f1, f2, f3, f4, f5, f6⟩ := hP.facts hat
  have f0 := hP.length
  have hon := hP.nodup (objE_keys hob).2 hat n1 hf0 (fun z hz hm => (hfm z hz).2 (List.mem_append.2 (.inl hm)))
  generalize hfr : freeL s.dev.secs.length s.secs = fr0 at *
  have hobu : objE u.os = 0 := (objE_congr f1 f2).trans hob
  have hfr2 : ∀ z ∈ fr, z ∈ fr0.drop k := fun z hz => e1 ▸ hz
  -- the index
  have hidx : ∃ m, wi.map (·.2.1) = fr.take m ∧ (∀ a ∈ wi, a.1 = false ∧ a.2.2.length = 64) ∧ u.ix = fr.take m ∧ u.u.f = u.ix.getD 0 0 ∧ u.ix.length = cntN (idxZ u.os).length ∧ (u.os ≠ [] → 0 < u.ix.length ∧ wi = wrs (idxZ u.os) u.ix (u.ix.drop 1 ++ [0])) ∧ (u.os = [] → u.ix = []) := by
    rcases hI with ⟨h1, h2, h3, h4⟩ | ⟨h1, h2, h3, h4, h5⟩
    · refine ⟨0, by rw [h4]; simp, fun a ha => (by rw [h4] at ha; cases ha), by rw [h2]; simp, by rw [h2, h3]; rfl, ?_, fun h => absurd h1 h, fun _ => h2⟩
      rw [h2, h1]
      rfl
    · have e : idxZ u.os = wr (idxT u.os) := by unfold idxZ; rw [if_neg h1]
      have hl : u.ix.length = cntN (wr (idxT u.os)).length := by rw [h3, List.length_take]; omega
      have hpos : 0 < u.ix.length := by
        rw [hl, idx_len]
        unfold cntN
        omega
      rw [e]
      exact ⟨cntN (wr (idxT u.os)).length, by rw [h5, wrs_at hl, h3], fun a ha => by rw [h5] at ha; have := wrs_facts hl a ha; exact ⟨this.1, this.2.2⟩, h3, h4, hl, fun _ => ⟨hpos, h5⟩, fun h => absurd h h1⟩
  obtain ⟨m, i1, i2, i3, i4, i5, i6, i7⟩ := hidx
  have htg : (pl ++ wi).map (·.2.1) = fr0.take (k + m) := by rw [List.map_append, e3, i1, e1, List.take_add]
  have hw0 : ∀ a ∈ pl ++ wi, a.1 = false ∧ 2 ≤ a.2.1 ∧ a.2.1 < s.dev.secs.length ∧ a.2.1 ∉ s.secs ∧ a.2.2.length = 64 := fun a ha => by
    have h1 : a.2.1 ∈ fr0.take (k + m) := htg ▸ List.mem_map.2 ⟨a, ha, rfl⟩
    obtain ⟨⟨g1, g2⟩, g3⟩ := hfm _ (List.mem_of_mem_take h1)
    rcases List.mem_append.1 ha with h | h
    · exact ⟨(f6 a h).1, g1, g2, g3, (f6 a h).2.2⟩
    · exact ⟨(i2 a h).1, g1, g2, g3, (i2 a h).2⟩
  obtain ⟨aw1, haw⟩ : ∃ aw1, pl ++ wi = aw1 := ⟨_, rfl⟩
  have hpl : ∀ a ∈ pl, a ∈ aw1 := fun a ha => haw ▸ List.mem_append.2 (.inl ha)
  have hwi : ∀ a ∈ wi, a ∈ aw1 := fun a ha => haw ▸ List.mem_append.2 (.inr ha)
  rw [haw] at htg hw0 hD ⊢
  obtain ⟨S1, hS1⟩ : ∃ S1, applyW s.dev.secs (prs aw1) = S1 := ⟨_, rfl⟩
  have hS1l : S1.length = s.dev.secs.length := by rw [← hS1, applyW_length]
  have hdev : s.dev = ⟨s.dev.secs, []⟩ := (congrArg (DS.mk s.dev.secs) hs.w : DS.mk s.dev.secs s.dev.waits = _)
  have hUd : u.dev = ⟨S1.set (u.u.t % 2).toNat u.u.octs, []⟩ := by
    rw [hD, hdev, doL_last _ _ _ (fun a ha => (hw0 a ha).1), hS1]
  have hnd1 : ((prs aw1).map fun x => x.1.toNat).Nodup := by
    have e : (prs aw1).map (fun x => x.1.toNat) = (fr0.take (k + m)).map (·.toNat) := by
      rw [← htg]
      simp [prs, List.map_map]
    rw [e]
    refine List.pairwise_map.2 (List.Pairwise.imp_of_mem ?_ (hf0.sublist (List.take_sublist _ _)))
    intro a b ha hb hne e
    have h1 := (hfm a (List.mem_of_mem_take ha)).1
    have h2 := (hfm b (List.mem_of_mem_take hb)).1
    exact hne (by omega)
  have hS1w : ∀ a ∈ aw1, S1[a.2.1.toNat]? = some a.2.2 := fun a ha => by
    obtain ⟨_, g1, g2, _, _⟩ := hw0 a ha
    rw [← hS1]
    exact applyW_mem (prs aw1) s.dev.secs hnd1 (a.2.1, a.2.2) (List.mem_map.2 ⟨a, ha, rfl⟩) (by show a.2.1.toNat < _; omega)
  have hS1k : ∀ j : Nat, (j : Int) ∉ fr0 → S1[j]? = s.dev.secs[j]? := fun j hj => by
    rw [← hS1]
    refine applyW_other _ _ _ fun x hx e => hj ?_
    obtain ⟨a, ha, rfl⟩ := List.mem_map.1 hx
    have h1 : a.2.1 ∈ fr0.take (k + m) := htg ▸ List.mem_map.2 ⟨a, ha, rfl⟩
    have g1 := (hw0 a ha).2.1
    have : (j : Int) = a.2.1 := by dsimp only at e; omega
    rw [this]
    exact List.mem_of_mem_take h1
  have hslot : (u.u.t % 2).toNat < 2 := by omega
  have hS2k : ∀ j : Nat, 2 ≤ j → (S1.set (u.u.t % 2).toNat u.u.octs)[j]? = S1[j]? := fun j hj => List.getElem?_set_ne (by omega)
  have hS2s : (S1.set (u.u.t % 2).toNat u.u.octs)[(u.u.t % 2).toNat]? = some u.u.octs := List.getElem?_set_self (by omega)
  have hS2o : (S1.set (u.u.t % 2).toNat u.u.octs)[(s.u.t % 2).toNat]? = some s.u.octs := by
    rw [List.getElem?_set_ne (by omega), hS1k _ (fun hm => by have := (hfm _ hm).1; omega), hs.slot]
  have hix0 : ∀ z ∈ u.ix, z ∈ fr0.drop k := fun z hz => hfr2 z (List.mem_of_mem_take (i3 ▸ hz))
  have hixf : ∀ z ∈ u.ix, (2 ≤ z ∧ z < s.dev.secs.length) ∧ z ∉ s.secs := fun z hz => hfm z (List.mem_of_mem_drop (hix0 z hz))
  have huok : u.u.ok = true := by
    have h1 := Ub.ok_iff.1 hsok.u
    have h2 := (objE_ok hob).1
    refine Ub.ok_iff.2 ⟨by omega, by omega, ?_⟩
    rw [hO]
    by_cases hos : u.os = []
    · have h0 : l.length = 0 := by rw [hos] at f0; simpa using f0.symm
      rw [i4, i7 hos, h0]
      simp
    · have h0 := (i6 hos).1
      have hl0 : l.length ≠ 0 := fun e => hos (List.length_eq_zero_iff.1 (by omega))
      have h3 : u.u.f ∈ u.ix := by
        rw [i4, List.getD_eq_getElem?_getD, List.getElem?_eq_getElem h0]
        exact List.getElem_mem h0
      have h4 := (hixf _ h3).1
      refine ⟨by omega, by omega, by omega, by omega, by omega, ?_⟩
      constructor <;> intro <;> omega
  have hS2w : ∀ a ∈ aw1, (S1.set (u.u.t % 2).toNat u.u.octs)[a.2.1.toNat]? = some a.2.2 := fun a ha => (hS2k _ (by have := (hw0 a ha).2.1; omega)).trans (hS1w a ha)
  have hnds : (u.os.flatMap (·.at_) ++ u.ix).Nodup := by
    have hfd : fr.Nodup := e1 ▸ hf0.sublist (List.drop_sublist _ _)
    refine List.nodup_append.2 ⟨hon, i3 ▸ hfd.sublist (List.take_sublist _ _), fun z hz z' hz' => ?_⟩
    rintro rfl
    obtain ⟨y, hy, hzy⟩ := List.mem_flatMap.1 hz
    rcases e4 y hy with g | ⟨g1, _, _⟩
    · exact (hixf z hz').2 (List.mem_append.2 (.inl (List.mem_flatMap.2 ⟨y, g, hzy⟩)))
    · have := List.nodup_append.1 (List.take_append_drop k fr0 ▸ hf0)
      exact this.2.2 z (g1 z hzy) z (hix0 z hz') rfl
  have hrange : ∀ z ∈ u.os.flatMap (·.at_) ++ u.ix, 2 ≤ z ∧ z < s.dev.secs.length := fun z hz => by
    rcases List.mem_append.1 hz with hz | hz
    · obtain ⟨y, hy, hzy⟩ := List.mem_flatMap.1 hz
      rcases e4 y hy with g | ⟨g1, _, _⟩
      · exact hrg z (List.mem_append.2 (.inl (List.mem_flatMap.2 ⟨y, g, hzy⟩)))
      · exact (hfm z (List.mem_of_mem_take (g1 z hzy))).1
    · exact (hixf z hz).1
  refine ⟨aw1, S1, rfl, hw0, hS1.symm, hUd, ⟨?_, i4, wrE_idx hobu f3, ?_, fun o ho => ?_, ?_, ⟨?_, rfl, huok, ?_, hobu, f3, ?_⟩, fun o ho => ?_⟩, hS2s⟩
  · obtain ⟨h1, h2⟩ := ubNew_newer (u := u.u) (v := s.u) hsok.u (by omega)
    have h3 := ubOf_octs huok
    have h4 := ubOf_octs hsok.u
    rcases (by omega : s.u.t % 2 = 0 ∨ s.u.t % 2 = 1) with hp | hp
    · have hq : u.u.t % 2 = 1 := by omega
      rw [hp] at hS2o
      rw [hq] at hS2s hS2o ⊢
      exact ⟨1, _, _, hS2o, hS2s, s.u.octs_octs, u.u.octs_octs, by rw [h3, h4]; exact h2⟩
    · have hq : u.u.t % 2 = 0 := by omega
      rw [hp] at hS2o
      rw [hq] at hS2s hS2o ⊢
      exact ⟨0, _, _, hS2s, hS2o, u.u.octs_octs, s.u.octs_octs, by rw [h3, h4]; exact h1⟩
  · by_cases hos : u.os = []
    · rw [i7 hos, hos]
      exact ⟨rfl, fun j hj => (by simp at hj)⟩
    · obtain ⟨h0, hwr⟩ := i6 hos
      have h1 := pages_written (secs := S1.set (u.u.t % 2).toNat u.u.octs) (zs := idxZ u.os) (ats := u.ix) (nxs := u.ix.drop 1 ++ [0]) i5 (fun a ha => hS2w a (hwi a (hwr ▸ ha))) (fun z hz => (hixf z hz).1.1) (fun j => ?_) (idxZ_octs _)
      · simpa only [getD_next] using h1
      · rw [getD_next, List.getD_eq_getElem?_getD]
        rcases hj : u.ix[j + 1]? with _ | z
        · exact ⟨Int.le_refl _, by show (0 : Int) < 8192; omega⟩
        · have := (hixf z (List.mem_of_getElem? hj)).1
          exact ⟨by show 0 ≤ z; omega, by show z < 8192; omega⟩
  · have hod : o.data ∈ l.map (·.data) := f2 ▸ List.mem_map.2 ⟨o, ho, rfl⟩
    obtain ⟨x, hx, hxd⟩ := List.mem_map.1 hod
    rcases e4 o ho with g | ⟨g1, g2, g3⟩
    · refine (hs.st.hos o g).keep fun j hj => ?_
      have hm : (j : Int) ∈ s.secs := List.mem_append.2 (.inl (List.mem_flatMap.2 ⟨o, g, hj⟩))
      have := hrg _ hm
      exact (hS2k j (by omega)).trans (hS1k j (fun h => (hfm _ h).2 hm))
    · have h1 := pages_written (secs := S1.set (u.u.t % 2).toNat u.u.octs) (zs := o.data) (ats := o.at_) (nxs := List.replicate (cntN o.data.length) 0) g2 (fun a ha => hS2w a (hpl a (g3 a ha))) (fun z hz => (hfm z (List.mem_of_mem_take (g1 z hz))).1.1) (fun j => by rw [getD_rep]; omega) (hxd ▸ hoc x hx)
      simpa only [getD_rep] using h1
  · obtain ⟨g1, g2, g3⟩ := List.nodup_append.1 hnds
    exact List.nodup_append.2 ⟨g2, g1, fun a ha b hb e => g3 b hb a ha e.symm⟩
  · obtain ⟨g1, g2, g3, g4⟩ := hsok.dev
    refine ⟨by show 2 ≤ (S1.set _ _).length; rw [List.length_set]; omega, by show (S1.set _ _).length ≤ _; rw [List.length_set]; omega, fun z hz => ?_, fun x hx => (by cases hx)⟩
    rcases List.mem_or_eq_of_mem_set hz with hz | rfl
    · rw [← hS1] at hz
      exact applyW_64 _ _ g3 (fun x hx => by obtain ⟨a, ha, rfl⟩ := List.mem_map.1 hx; exact (hw0 a ha).2.2.2.2) z hz
    · exact Ub.octs_length _
  · show (u.os.length : Int) = u.u.o
    rw [hO, f0]
  · show chk (S1.set _ _).length (u.os.flatMap (·.at_) ++ u.ix) = 0
    rw [List.length_set, hS1l]
    exact chk_ok.2 ⟨⟨hN2, hN8⟩, hrange, hnds⟩
  · have hod : o.data ∈ l.map (·.data) := f2 ▸ List.mem_map.2 ⟨o, ho, rfl⟩
    obtain ⟨x, hx, hxd⟩ := List.mem_map.1 hod
    exact hxd ▸ hoc x hx

end Go.Proofs.YtmehjmkakkiedaaGreat

namespace Go.Proofs.YtmehjmkakkiedaaGreat
open Go.ChangeShapes Go.WideShapes Go.ChangeAt Go.RowKit
set_option maxRecDepth 100000

abbrev uOne : Ub := ⟨1, 0, 0⟩
abbrev uTwo : Ub := ⟨2, 0, 0⟩
theorem newDev (n : Nat) : doL ⟨List.replicate n z64, []⟩ [(false, 1, uOne.octs), (false, 0, uTwo.octs), (true, 0, [])] = ⟨((List.replicate n z64).set 1 uOne.octs).set 0 uTwo.octs, []⟩ := by
  simp [doL, doA, applyW]
theorem new_stands (n : Nat) (h2 : 2 ≤ n) (h3 : n ≤ 8192) : StandsP ⟨doL ⟨List.replicate n z64, []⟩ [(false, 1, uOne.octs), (false, 0, uTwo.octs), (true, 0, [])], uTwo, [], []⟩ := by
  rw [newDev]
  have hl : ((List.replicate n z64).set 1 uOne.octs).length = n := by rw [List.length_set, List.length_replicate]
  have h0 : (((List.replicate n z64).set 1 uOne.octs).set 0 uTwo.octs)[0]? = some uTwo.octs := List.getElem?_set_self (by omega)
  have h1 : (((List.replicate n z64).set 1 uOne.octs).set 0 uTwo.octs)[1]? = some uOne.octs := by
    rw [List.getElem?_set_ne (by decide)]
    exact List.getElem?_set_self (by rw [List.length_replicate]; omega)
  have o1 : uOne.ok = true := by decide
  have o2 : uTwo.ok = true := by decide
  have hall : ∀ z ∈ ((List.replicate n z64).set 1 uOne.octs).set 0 uTwo.octs, z.length = 64 := fun z hz => by
    rcases List.mem_or_eq_of_mem_set hz with hz | rfl
    · rcases List.mem_or_eq_of_mem_set hz with hz | rfl
      · rw [List.eq_of_mem_replicate hz]
        rfl
      · exact Ub.octs_length _
    · exact Ub.octs_length _
  refine ⟨⟨⟨0, _, _, h0, h1, uTwo.octs_octs, uOne.octs_octs, ?_⟩, rfl, show wrE (idxT []) = 0 by decide, ⟨show 0 = cntN (idxZ []).length by decide, fun j hj => absurd hj (Nat.not_lt_zero _)⟩, fun o ho => (by cases ho), List.nodup_nil, ⟨⟨?_, ?_, hall, fun x hx => (by cases hx)⟩, rfl, o2, rfl, rfl, fun o ho => (by cases ho), ?_⟩, fun o ho => (by cases ho)⟩, rfl, h0⟩
  · rw [ubOf_octs o1, ubOf_octs o2]
    exact (ubNew_newer o1 (by decide)).1
  · show 2 ≤ (List.set _ _ _).length
    rw [List.length_set, hl]
    exact h2
  · show (List.set _ _ _).length ≤ 8192
    rw [List.length_set, hl]
    exact h3
  · show chk ((List.set _ _ _).length : Nat) [] = 0
    rw [List.length_set, hl]
    exact chk_ok.2 ⟨⟨by omega, by omega⟩, fun z hz => (by cases hz), List.nodup_nil⟩

theorem kept_mem {α : Type} (bs : List Bool) {x : α} : ∀ (xs : List α) (k : Nat), x ∈ keptL bs k xs → x ∈ xs
  | [], _, h => by simp [keptL] at h
  | y :: ys, k, h => by
    simp only [keptL] at h
    split at h
    · rcases List.mem_cons.1 h with rfl | h
      · exact List.mem_cons_self
      · exact List.mem_cons_of_mem _ (kept_mem bs ys (k + 1) h)
    · exact List.mem_cons_of_mem _ (kept_mem bs ys (k + 1) h)

/-- What is left when the power goes behind some acts. -/
def cutS (S : DS) (l : List AcT) (bs : List Bool) : List (List Int) := applyW (doL S l).secs (keptL bs 0 (doL S l).waits)

theorem Behind.old {s u : PS} {aw aw1 : List AcT} {S1 : List (List Int)} (h : Behind s u aw aw1 S1) (hs : StandsP s) (K : List (Int × List Int)) (hK : ∀ x ∈ K, x ∈ prs aw1) : Stands (applyW s.dev.secs K) s.u s.os s.ix := by
  have hw : ∀ x ∈ K, 2 ≤ x.1 ∧ x.1 ∉ s.secs ∧ x.2.length = 64 := fun x hx => by
    obtain ⟨a, ha, rfl⟩ := List.mem_map.1 (hK x hx)
    obtain ⟨_, h2, _, h4, h5⟩ := h.wr a ha
    exact ⟨h2, h4, h5⟩
  refine hs.st.keep (applyW_length _ _) (applyW_64 _ _ hs.ok.dev.2.2.1 fun x hx => (hw x hx).2.2) (fun k hk => applyW_other _ _ _ fun x hx => ?_) fun k hk => applyW_other _ _ _ fun x hx e => ?_
  · have := (hw x hx).1
    omega
  · obtain ⟨h2, h4, _⟩ := hw x hx
    have e' : x.1 = (k : Int) := by omega
    rw [e'] at h4
    rcases List.mem_append.1 hk with g | g
    · exact h4 (List.mem_append.2 (.inl g))
    · exact h4 (List.mem_append.2 (.inr g))

theorem Behind.cut {s u : PS} {aw aw1 : List AcT} {S1 : List (List Int)} (h : Behind s u aw aw1 S1) (hs : StandsP s) (cut : Nat) (hc : cut ≤ aw.length) (bs : List Bool) :
    (cut < aw.length ∧ Stands (cutS s.dev (aw.take cut) bs) s.u s.os s.ix) ∨ (aw.length ≤ cut + 1 ∧ Stands (cutS s.dev (aw.take cut) bs) u.u u.os u.ix) := by
  have hlen : aw.length = aw1.length + 3 := by rw [h.aw, List.length_append]; rfl
  have hdev : s.dev = ⟨s.dev.secs, []⟩ := (congrArg (DS.mk s.dev.secs) hs.w : DS.mk s.dev.secs s.dev.waits = _)
  have hfl : ∀ a ∈ aw1, a.1 = false := fun a ha => (h.wr a ha).1
  have hS1 : doL s.dev (aw1 ++ [((true, 0, []) : AcT)]) = ⟨S1, []⟩ := by
    rw [doL_append, hdev, doL_writes _ _ hfl, h.s1]
    rfl
  rcases Nat.lt_or_ge aw1.length cut with hlt | hge
  · obtain ⟨j, rfl⟩ : ∃ j, cut = aw1.length + (j + 1) := ⟨cut - aw1.length - 1, by omega⟩
    have htk : aw.take (aw1.length + (j + 1)) = (aw1 ++ [((true, 0, []) : AcT)]) ++ ([(false, u.u.t % 2, u.u.octs), (true, 0, [])] : List AcT).take j := by
      rw [h.aw, List.take_length_add_append]
      simp [lastActs]
    rcases j with _ | _ | _ | j
    · refine .inl ⟨by omega, ?_⟩
      rw [htk]
      unfold cutS
      rw [List.take_zero, List.append_nil, hS1, h.s1]
      exact h.old hs _ fun x hx => hx
    · have e : doL s.dev (aw.take (aw1.length + (0 + 1 + 1))) = ⟨S1, [(u.u.t % 2, u.u.octs)]⟩ := by
        rw [htk, doL_append, hS1]
        rfl
      unfold cutS
      rw [e]
      simp only [keptL]
      split
      · refine .inr ⟨by omega, ?_⟩
        exact h.st
      · refine .inl ⟨by omega, ?_⟩
        show Stands S1 _ _ _
        rw [h.s1]
        exact h.old hs _ fun x hx => hx
    · have e : doL s.dev (aw.take (aw1.length + (0 + 1 + 1 + 1))) = ⟨S1.set (u.u.t % 2).toNat u.u.octs, []⟩ := by
        rw [htk, doL_append, hS1]
        rfl
      refine .inr ⟨by omega, ?_⟩
      unfold cutS
      rw [e]
      exact h.st
    · omega
  · refine .inl ⟨by omega, ?_⟩
    have htk : aw.take cut = aw1.take cut := by rw [h.aw, List.take_append_of_le_length hge]
    unfold cutS
    rw [htk, hdev, doL_writes _ _ fun a ha => hfl a (List.mem_of_mem_take ha)]
    refine h.old hs _ fun x hx => ?_
    have hx2 := kept_mem bs _ _ hx
    obtain ⟨a, ha, rfl⟩ := List.mem_map.1 (show x ∈ prs (aw1.take cut) from by simpa using hx2)
    exact List.mem_map.2 ⟨a, List.mem_of_mem_take ha, rfl⟩

/-- Where the uberblock's write was not done yet, the elder store stands. -/
theorem Behind.early {s u : PS} {aw aw1 : List AcT} {S1 : List (List Int)} (h : Behind s u aw aw1 S1) (hs : StandsP s) (cut : Nat) (hc : cut + 1 < aw.length) (bs : List Bool) : Stands (cutS s.dev (aw.take cut) bs) s.u s.os s.ix := by
  rcases h.cut hs cut (by omega) bs with ⟨_, g⟩ | ⟨g, _⟩
  · exact g
  · omega

/-- What was committed fits. -/
theorem Dv.fits_of {D : Dv} (h : D.st.ok) (hw : D.st.waits = []) : D.Fits := by
  obtain ⟨h1, h2, h3, h4⟩ := (Dv.ok_iff D).1 h
  have h5 : D.ws = [] := by
    have : D.ws.map Wt.st = [] := hw
    simpa using this
  exact ⟨by omega, by rw [h5]; exact Nat.zero_le _, fun p hp => by rw [h3 p hp]; decide, fun x hx => by rw [h5] at hx; cases hx⟩

end Go.Proofs.YtmehjmkakkiedaaGreat
