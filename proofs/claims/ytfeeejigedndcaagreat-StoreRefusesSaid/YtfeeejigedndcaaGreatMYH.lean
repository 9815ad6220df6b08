/-
  A loop over an iterator that itself writes: a law of my own. No conditions.
-/
import Derived.Test.YtfeeejigedndcaaGreatMYG
import Derived.Test.YtfeeejigedndcaaGreatMQC
import Derived.Test.YtfeeejigedndcaaGreatMQO
import Derived.Test.YtfeeejigedndcaaGreatMQE
import Derived.Test.YtfeeejigedndcaaGreatMGB
import Derived.RangeFuncWrites
namespace Go.Proofs.YtfeeejigedndcaaGreat
open Go.ChangeShapes Go.WideShapes Go.ChangeAt Go.RowKit
set_option maxRecDepth 100000

/-- A round goes on. -/
def goesOn (B : Nat) (Kp : World → World → Prop) (I : World → Prop) (W : World) : Exit → Act → World → Prop
  | .normal, _, W' => KeepsFrom B W W' ∧ Kp W W' ∧ I W'
  | _, _, _ => False

/-- What an iterator that writes promises: It is what it does between two elements, Kn what is known of an element when it comes, Kp what the loop must leave as it was. -/
def SeqBoth {α : Type} (F : Fence) (n : Nat) (P : Program) (g : Nat) (lb : Array Value) (encs : α → Array Value) (It Kp : World → World → Prop) (Kn : List α → α → World → Prop) (S : List α → World → Prop) (w : World) : Prop :=
  ∀ (l : Nat) (J : List α → World → Prop) (W : World), Below w.heap.size w W → (∀ s A B, J s A → It A B → J s B) →
    (∀ pre x W1, J pre W1 → Kn pre x W1 → YieldAt F (n - 1) P l (encs x) W1 fun e W' => e = .returned (.bool true) ∧ J (pre ++ [x]) W' ∧ Kp W1 W') → J [] W →
    CallsIn F n P g (#[.func (.yield l) #[] #[]] ++ lb) W fun e W' => (∃ v, e = .returned v) ∧ ∃ xs, S xs W' ∧ J xs W'

theorem wpIn_rangeFunc_both {F : Fence} {n : Nat} {P : Program} {α : Type} {g : Operand} {ps : Array Tmp} {assign body : Code} {Q : Exit → Act → World → Prop} {a : Act} {w : World}
    (hro : F.round = none) (h1 : 1 ≤ n) {gf : Nat} {lb : Array Value} (hg : a.eval g = .func (.func gf) #[] lb) (hFg : F.fn gf) (eg : ∀ args w, (callFunc gf args).run P w = .ok (.enter gf args) w)
    {encs : α → Array Value} {It Kp : World → World → Prop} {Kn : List α → α → World → Prop} {S : List α → World → Prop} (hseq : SeqBoth F (n - 1) P gf lb encs It Kp Kn S w) (hps : ∀ x, (encs x).size = ps.size)
    (hKt : ∀ {A B C : World}, Kp A B → Kp B C → Kp A C) (hKb : ∀ (W : World) (l : Nat) (o o' : Obj), w.heap.size ≤ l → W.heap[l]? = some o → o.isCells = false → Kp W (W.putObj l o'))
    (hKn : ∀ pre x (W : World) (l : Nat) (o o' : Obj), w.heap.size ≤ l → W.heap[l]? = some o → o.isCells = false → Kn pre x W → Kn pre x (W.putObj l o'))
    (hS : ∀ xs (W : World) (l : Nat) (o o' : Obj), w.heap.size ≤ l → W.heap[l]? = some o → o.isCells = false → S xs W → S xs (W.putObj l o'))
    (hIt : ∀ {A B : World}, It A B → ∀ (k : Nat) (o : Obj), w.heap.size ≤ k → A.heap[k]? = some o → B.heap[k]? = some o)
    (I : List α → World → Prop) (hI : OwnFrom w.heap.size I) (hItI : ∀ s A B, I s A → It A B → I s B) (h0 : I [] w) (a₁ : α → Act)
    (hassign : ∀ (l : Nat) (x : α) (W : World) (K : Act → World → Prop), K (a₁ x) W →
      assign.wpIn (F.inRound l) (n - 1 - 1) P (Exit.then K (fun _ _ _ => False)) { tmps := (ps.zip (encs x)).foldl (fun t (p, v) => t.setIfInBounds p v) a.tmps, defers := [] } W)
    (hbody : ∀ (l : Nat) (pre : List α) (x : α) (W : World), I pre W → Kn pre x W → body.wpIn (F.inRound l) (n - 1 - 1) P (goesOn w.heap.size Kp (I (pre ++ [x])) W) (a₁ x) W)
    (hdone : ∀ (D : Nat) (xs : List α) (W : World), w.heap.size ≤ D → S xs W → I xs W → W.heap[D]? = some (.deferred (some [])) → Q .normal { a with defers := { target := .collected D, args := #[] } :: a.defers } W) :
    (Code.rangeFunc g ps assign body).wpIn F n P Q a w := by
  obtain ⟨d, hd⟩ : ∃ d, w.heap.size = d := ⟨_, rfl⟩
  refine wpIn_rangeFunc fun fn hfn => ?_
  rw [hro]
  -- the loop's record in a state, and the block of what the rounds defer
  let R : LoopState → Obj := fun st => .loop { state := st, pending := none, fn := fn, tmps := a.tmps, params := ps, assign := assign, body := body, defers := d }
  let Bk : LoopState → World → Prop := fun st W => W.heap[d + 1]? = some (R st) ∧ W.heap[d]? = some (.deferred (some []))
  obtain ⟨u, hu⟩ : ∃ u, (w.alloc (.deferred (some []))).alloc (R .ready) = u := ⟨_, rfl⟩
  have hsu : u.heap.size = d + 2 := by rw [← hu, World.size_alloc, World.size_alloc, hd]
  have hBu : Below w.heap.size w u := hu ▸ (((Below.refl _ w).alloc (Nat.le_refl _) _).alloc (by simp) _)
  have hku : Bk .ready u := by
    subst hu
    refine ⟨?_, ?_⟩
    · have := World.alloc_heap_new (w.alloc (.deferred (some []))) (R .ready)
      rwa [World.size_alloc, hd] at this
    · have := (Below.heap_alloc (w.alloc (.deferred (some []))) (R .ready) w.heap.size (by simp)).trans (World.alloc_heap_new w (.deferred (some [])))
      rwa [hd] at this
  have hIu : I [] u := hu ▸ hI.alloc _ (hI.alloc _ h0)
  -- the record is set to another state
  have hset : ∀ {st st' : LoopState} {W : World}, Bk st W → Bk st' (W.putObj (d + 1) (R st')) := fun h => ⟨World.putObj_heap_same (Array.getElem?_eq_some_iff.1 h.1).1, (World.putObj_heap_other (by omega)).trans h.2⟩
  have hKset : ∀ {st st' : LoopState} {W : World}, Bk st W → Kp W (W.putObj (d + 1) (R st')) := fun h => hKb _ _ _ _ (by omega) h.1 rfl
  have hIset : ∀ {s : List α} {st st' : LoopState} {W : World}, Bk st W → I s W → I s (W.putObj (d + 1) (R st')) := fun h hi => hI.putObj _ hi (by omega) h.1 rfl
  refine ⟨d + 1, [{ target := .collected d, args := #[] }], u, { target := .fn (.func gf) lb, args := #[.func (.yield (d + 1)) #[] #[]] }, u, gf, #[.func (.yield (d + 1)) #[] #[]] ++ lb, u, ?_, ?_, ?_, ?_, fun _ => h1, ?_⟩
  · have := run_enterLoop_outer (P := P) (w := w) fn a.tmps ps assign body
    rw [hd] at this
    exact this.trans (by rw [← hu])
  · simp only [resolve, hg]
    simp [go_sem]
  · intro f' hf'
    simp [Target.leads] at hf'
    subst hf'
    exact hFg
  · simp [invoke, go_sem, eg]
  refine (hseq (d + 1) (fun pre W => I pre W ∧ Bk .ready W) u hBu ?_ ?_ ⟨hIu, hku⟩).mono ?_
  · rintro s A B ⟨hi, hl, hk⟩ hit
    exact ⟨hItI s A B hi hit, hIt hit _ _ (by omega) hl, hIt hit _ _ (by omega) hk⟩
  · rintro pre x W ⟨hi, hb⟩ hkn
    have hy := run_yield (P := P) (args := encs x) hb.1 (hps x)
    refine ⟨fn, _, assign, body, hy, roundIn_of_wpIn hfn (hassign _ x W _ ⟨_, run_beginRound hb.1 rfl, ?_⟩)⟩
    have hb2 : Bk .busy (W.putObj (d + 1) (R .busy)) := hset hb
    refine wpIn_mono (hbody _ pre x _ (hIset hb hi) (hKn _ _ _ _ _ _ (by omega) hb.1 rfl hkn)) ?_
    intro e a3 W3 hp
    cases e with
    | normal =>
      obtain ⟨hk3, hkp, hi3⟩ := hp
      have hb3 : Bk .busy W3 := ⟨hk3.same _ _ (by omega) hb2.1 rfl, hk3.same _ _ (by omega) hb2.2 rfl⟩
      exact ⟨_, _, run_endRound (P := P) none hb3.1, rfl, ⟨hIset hb3 hi3, hset hb3⟩, hKt (hKt (hKset hb) hkp) (hKset hb3)⟩
    | ret => exact hp.elim
    | exit id => exact hp.elim
    | goto t => exact hp.elim
    | panic ch => exact hp.elim
    | outgrown => exact hp.elim
  · rintro e W2 ⟨⟨v, rfl⟩, xs, hs, hi, hb⟩
    refine ⟨none, _, run_endLoop (P := P) hb.1 (fun h => nomatch h), ?_⟩
    have := hdone d xs (W2.putObj (d + 1) (R .exhausted)) (by omega) (hS _ _ _ _ _ (by omega) hb.1 rfl hs) (hIset hb hi) (hset (st' := .exhausted) hb).2
    exact this

end Go.Proofs.YtfeeejigedndcaaGreat

namespace Go.Proofs.YtfeeejigedndcaaGreat
open Go.ChangeShapes Go.WideShapes Go.ChangeAt Go.RowKit Go.Maps
set_option maxRecDepth 100000
attribute [local go_sem] Oper.semAt_some

/-- A page that is handed out: its place in the index, and where its octets lie. -/
abbrev CE := Nat × Option Addr × Nat
abbrev cEnc (zs ix : List Int) (x : CE) : Array Value := #[.int .i64 (ix.getD x.1 0), .slice x.2.1 (piece zs x.1).length x.2.2]
def cIt (mb : Nat) (A B : World) : Prop := Out mb (mb + 1) A.heap.size A B
structure cKp (m X mb b1 b2 : Nat) (A B : World) : Prop where
  bx : B.heap[X]? = A.heap[X]?
  bm : B.heap[mb]? = A.heap[mb]?
  lo : KeepsLo m A B
  p : KeepsBlk b1 A B
  q : KeepsBlk b2 A B
theorem cKp.trans {m X mb b1 b2 : Nat} {A B C : World} (h : cKp m X mb b1 b2 A B) (k : cKp m X mb b1 b2 B C) : cKp m X mb b1 b2 A C :=
  ⟨k.bx.trans h.bx, k.bm.trans h.bm, h.lo.trans k.lo, h.p.trans k.p, h.q.trans k.q⟩
theorem cKp.put {m X mb b1 b2 L : Nat} (hX : X < L) (hm : mb < L) (W : World) (l : Nat) (o o' : Obj) (hl : L ≤ l) (h : W.heap[l]? = some o) (hc : o.isCells = false) : cKp m X mb b1 b2 W (W.putObj l o') :=
  ⟨World.putObj_heap_other (by omega), World.putObj_heap_other (by omega), KeepsLo.putObj W l o o' h hc, KeepsBlk.putObj W l o o' h hc, KeepsBlk.putObj W l o o' h hc⟩
/-- What is known of a page that comes. -/
structure cKn (zs ix : List Int) (pre : List CE) (x : CE) (W : World) : Prop where
  at_ : x.1 = pre.length
  lt : x.1 < ix.length
  own : W.ownsRow 0 5 1 (.slice x.2.1 (piece zs x.1).length x.2.2) (piece zs x.1).length (octCells (piece zs x.1))
theorem cKn.put {zs ix : List Int} {pre : List CE} {x : CE} (W : World) (l : Nat) (o o' : Obj) (h : W.heap[l]? = some o) (hc : o.isCells = false) (k : cKn zs ix pre x W) : cKn zs ix pre x (W.putObj l o') :=
  ⟨k.at_, k.lt, ownsRow_putObj k.own _ h hc⟩

set_option maxHeartbeats 2000000 in
theorem chain_both (n m X mb b1 b2 : Nat) (D : Dv) (S0 zs ix : List Int) (hix : ix.length = cntN zs.length)
    (hpg : ∀ j, j < ix.length → ∃ k : Nat, ix[j]? = some (k : Int) ∧ PgAt D k (piece zs j) (ix.getD (j + 1) 0)) (h8 : D.ps.length ≤ 8192) (hnd : (S0 ++ ix).Nodup) (hcn : (S0 ++ ix).length ≤ 8192)
    (w : World) (hR : RdAt m X mb D S0 w) (hb1 : b1 < w.heap.size) (hb2 : b2 < w.heap.size) (h1m : b1 ≠ mb) (h2m : b2 ≠ mb) (hc1 : w.cell? ⟨b1, 0, none⟩ = some (.int .i64 (ix.getD 0 0))) (hc2 : w.cell? ⟨b2, 0, none⟩ = some (.pointer (some ⟨X, 0, none⟩))) :
    SeqBoth Fence.wide n Tryz.prog 85 #[.pointer (some ⟨b1, 0, none⟩), .pointer (some ⟨b2, 0, none⟩)] (cEnc zs ix) (cIt mb) (cKp m X mb b1 b2) (cKn zs ix) (fun ys W => ys.map (·.1) = List.range ix.length ∧ RdAt m X mb D (S0 ++ ix) W) w := by
  intro l J W hW hJ hY h0
  have HR0 := Lib.hid (hR.below hW)
  have d1 := (hW.cell (p := ⟨b1, 0, none⟩) hb1).trans hc1
  have d2 := (hW.cell (p := ⟨b2, 0, none⟩) hb2).trans hc2
  have HPG := Lib.hid hpg
  have HIX := Lib.hid hix
  have HND := Lib.hid hnd
  have HCN := Lib.hid hcn
  have HJ := Lib.hid hJ
  have HY := Lib.hid hY
  have H0 := Lib.hid h0
  have hz0 : ∀ k, k < ix.length → ix.getD k 0 ≠ 0 := fun k hk => by
    obtain ⟨kk, h1, h2, _⟩ := hpg k hk
    simp only [List.getD, h1, Option.getD_some]
    omega
  have HZ0 := Lib.hid hz0
  obtain ⟨nx, hnx⟩ : ∃ nx : Nat → Int, ∀ k, ix.getD k 0 = nx k := ⟨_, fun _ => rfl⟩
  have HNX := Lib.hid hnx
  rw [hnx] at d1
  have HZN : Hid (∀ k, ix.length ≤ k → nx k = 0) := Lib.hid fun k hk => by rw [← hnx, List.getD, List.getElem?_eq_none hk]; rfl
  simp only [hnx] at HPG HZ0
  clear hR hc1 hc2 hpg hix hnd hcn hJ hY h0 hz0 hnx
  refine callsIn_of_wp Tryz.func85 rfl trivial ?_ rfl
  simp only [Tryz.ntmps85, List.size_toArray, List.length_cons, List.length_nil, Nat.reduceAdd, Nat.reduceSub, Array.replicate_succ, Array.replicate_zero, List.push_toArray, List.append_toArray, List.nil_append, List.cons_append]
  gi_wp2
  gi_loopw [4] (fun i wr => ∃ (k : Nat) (pre : List CE), k ≤ ix.length ∧ i = .int .i64 (nx k) ∧ Hid (pre.map (·.1) = List.range k) ∧ wr.cell? ⟨b1, 0, none⟩ = some (.int .i64 (nx 0)) ∧ wr.cell? ⟨b2, 0, none⟩ = some (.pointer (some ⟨X, 0, none⟩)) ∧ Hid (RdAt m X mb D (S0 ++ ix.take k) wr) ∧ Hid (J pre wr))
    (fun i _ => ix.length - ix.idxOf (intOf i))
  case atStart =>
    exact ⟨0, [], Nat.zero_le _, rfl, Lib.hid rfl, d1, d2, Lib.hid (by rw [List.take_zero, List.append_nil]; exact HR0.out), H0⟩
  case round =>
    obtain ⟨k, pre, hk, rfl, HPRE, hc1, hc2, HR, HJ1⟩ := hrel
    by_cases hlt : k < ix.length
    · obtain ⟨kk, hkk, hpga⟩ := HPG.out k hlt
      obtain ⟨hnot, htk⟩ := nodup_take HND.out hkk
      have hlS : (S0 ++ ix.take k).length ≤ 8192 := by
        have h1 := HCN.out
        rw [List.length_append] at h1 ⊢
        rw [List.length_take]
        omega
      have HPAGE := Lib.hid (page_at m X mb D (S0 ++ ix.take k) kk (piece zs k) (nx (k + 1)) hpga h8 hnot hlS wr HR.out)
      rw [List.append_assoc, ← htk] at HPAGE
      have hvk : nx k = kk := by rw [← HNX.out]; simp [List.getD, hkk]
      have hk0 : nx k ≠ 0 := HZ0.out k hlt
      have hid1 : ix.idxOf (nx k) = k := by
        have hnd : ix.Nodup := (List.nodup_append.1 HND.out).2.1
        have := hnd.idxOf_getElem k hlt
        rw [← HNX.out, show ix.getD k 0 = ix[k] by simp [List.getD, List.getElem?_eq_getElem hlt]]
        exact this
      have hpp := piece_pos zs (i := k) (by rw [← HIX.out]; exact hlt)
      have hpl := piece_length zs k
      have hprel : pre.length = k := by
        have := congrArg List.length HPRE.out
        rw [List.length_map, List.length_range] at this
        exact this
      rw [hvk] at hk0
      have hk0' : ((kk : Int) != 0) = true := by simpa using hk0
      have HVK := Lib.hid hvk
      have HID1 := Lib.hid hid1
      have hmw := HR.out.mlt
      have hml := HR.out.mmb
      have hmX := HR.out.mX
      clear hkk hpga hnot htk hlS hid1
      rw [hvk]
      gi_wp2_with fail
      refine ⟨trivial, fun h => (by cases h), ?_⟩
      refine (callsIn_wide.2 HPAGE.out).mono ?_
      rintro e w5 ⟨A5, c5, rfl, hown5, hR5, hO5⟩
      have l1 := World.block_lt_of_cell? wr ⟨b1, 0, none⟩ hc1
      have l2 := World.block_lt_of_cell? wr ⟨b2, 0, none⟩ hc2
      have q1 := (World.cell?_of_block (hO5.block b1 l1 (by omega))).trans hc1
      have q2 := (World.cell?_of_block (hO5.block b2 l2 (by omega))).trans hc2
      obtain ⟨fn, tmps, assign, body, hy, hRd⟩ := HY.out pre ⟨k, A5, c5⟩ w5 (HJ.out pre wr w5 HJ1.out hO5) ⟨hprel.symm, hlt, own_base hown5 (Nat.zero_le _)⟩
      dsimp only [cEnc] at hy
      rw [HNX.out, HVK.out] at hy
      have HRD := Lib.hid hRd
      have HR5 := Lib.hid hR5
      have HPR1 : Hid ((pre ++ [(⟨k, A5, c5⟩ : CE)]).map (·.1) = List.range (k + 1)) := Lib.hid (by rw [List.map_append, HPRE.out, List.range_succ]; rfl)
      clear hRd hR5 hown5 HPAGE HY HJ HJ1 HR hO5 hc1 hc2 HPRE
      by_cases hl : k + 1 < ix.length
      · obtain ⟨kk2, h21, h22, _⟩ := HPG.out (k + 1) hl
        have hn2 : nx (k + 1) = kk2 := by rw [← HNX.out]; simp [List.getD, h21]
        have hn0 : ((kk2 : Int) != 0) = true := by simp; omega
        have h52 : (piece zs k).length = 52 := by
          have := HIX.out
          unfold cntN at this
          omega
        rw [hn2]
        have HN2 := Lib.hid hn2
        have hid2 : ix.idxOf (nx (k + 1)) = k + 1 := by
          have hnd : ix.Nodup := (List.nodup_append.1 HND.out).2.1
          have := hnd.idxOf_getElem (k + 1) hl
          rw [← HNX.out, show ix.getD (k + 1) 0 = ix[k + 1] by simp [List.getD, List.getElem?_eq_getElem hl]]
          exact this
        have HID2 := Lib.hid hid2
        clear hn2 h21 h22 hid2 hpl
        rw [h52] at hy ⊢
        gi_wp2
        refine ⟨fun h => (by cases h), HRD.out.mono ?_⟩
        rintro e W3 ⟨rfl, hJ3, hk3⟩
        have q13 := hk3.p _ _ q1
        have q23 := hk3.q _ _ q2
        have HR3 := Lib.hid (HR5.out.keep hk3.bx hk3.bm hk3.lo)
        have HJ3 := Lib.hid hJ3
        clear hy HRD q1 q2 hk3 hJ3 HR5
        gi_wp2
        go_roundw
        case rel => exact ⟨k + 1, _, by omega, by rw [HN2.out], HPR1, q13, q23, HR3, HJ3⟩
        case measure =>
          have h1 := HID1.out
          have h2 := HID2.out
          rw [HVK.out] at h1
          rw [HN2.out] at h2
          simp only [intOf]
          rw [h1, h2]
          omega
      · have hn2 : nx (k + 1) = 0 := HZN.out _ (by omega)
        rw [hn2]
        have HN2 := Lib.hid hn2
        have hlen : ((piece zs k).length == 0) = false := by simpa using Nat.ne_of_gt hpp
        obtain ⟨pl, hple⟩ : ∃ n, (piece zs k).length = n := ⟨_, rfl⟩
        rw [hple] at hy hlen hpp ⊢
        clear hn2 hpl
        have hid2 : ix.idxOf (0 : Int) = ix.length := List.idxOf_eq_length fun hm => by
          obtain ⟨j, hj, e⟩ := List.getElem_of_mem hm
          refine HZ0.out j hj ?_
          rw [← HNX.out]
          simp [List.getD, List.getElem?_eq_getElem hj, e]
        have HID2 := Lib.hid hid2
        clear hid2
        gi_wp2
        refine ⟨fun h => (by cases h), HRD.out.mono ?_⟩
        rintro e W3 ⟨rfl, hJ3, hk3⟩
        have q13 := hk3.p _ _ q1
        have q23 := hk3.q _ _ q2
        have HR3 := Lib.hid (HR5.out.keep hk3.bx hk3.bm hk3.lo)
        have HJ3 := Lib.hid hJ3
        clear hy HRD q1 q2 hk3 hJ3 HR5
        gi_wp2
        go_roundw
        case rel => exact ⟨k + 1, _, by omega, by rw [HN2.out], HPR1, q13, q23, HR3, HJ3⟩
        case measure =>
          have h1 := HID1.out
          have h2 := HID2.out
          rw [HVK.out] at h1
          simp only [intOf]
          rw [h1, h2]
          omega
    · obtain rfl : k = ix.length := by omega
      have hn2 : nx ix.length = 0 := HZN.out _ (Nat.le_refl _)
      rw [hn2]
      gi_wp2
      go_end0
      have hR9 := HR.out
      rw [List.take_length] at hR9
      exact ⟨⟨_, rfl⟩, pre, ⟨HPRE.out, hR9⟩, HJ1.out⟩

end Go.Proofs.YtfeeejigedndcaaGreat

namespace Go.Proofs.YtfeeejigedndcaaGreat
open Go.ChangeShapes Go.WideShapes Go.ChangeAt Go.RowKit Go.Maps Go.Shelf
set_option maxRecDepth 100000

/-- What entries answers. -/
def EntAns (os : List PO) (w : World) (e : Ending) (w' : World) : Prop :=
  ∃ Bn A c, e = .returned (.func (.func 110) #[] #[.pointer (some ⟨Bn, 0, none⟩), .pointer (some ⟨Bn + 1, 0, none⟩)]) ∧ w.heap.size ≤ Bn ∧ Blk w' Bn 123 [.slice A (idxT os).length c] ∧ Blk w' (Bn + 1) 3 [.int .i64 (3 : Nat)] ∧
    w'.ownsRow w.heap.size 9 1 (.slice A (idxT os).length c) (idxT os).length ((idxT os).map Value.string) ∧ Below w.heap.size w w'

theorem ent_blk {w1 : World} {A : Option Addr} {n c : Nat} : Blk ((w1.alloc (.cells #[.slice A n c] 123)).alloc (.cells #[.int .i64 (3 : Nat)] 3)) w1.heap.size 123 [.slice A n c] ∧ Blk ((w1.alloc (.cells #[.slice A n c] 123)).alloc (.cells #[.int .i64 (3 : Nat)] 3)) (w1.heap.size + 1) 3 [.int .i64 (3 : Nat)] ∧ Below w1.heap.size w1 ((w1.alloc (.cells #[.slice A n c] 123)).alloc (.cells #[.int .i64 (3 : Nat)] 3)) := by
  have e : (w1.alloc (.cells #[.slice A n c] 123)).alloc (.cells #[.int .i64 (3 : Nat)] 3) = allocs w1 [([.slice A n c], 123), ([.int .i64 (3 : Nat)], 3)] := rfl
  rw [e]
  exact ⟨allocs_blk _ w1 0 rfl, allocs_blk _ w1 1 rfl, allocs_below _ _⟩

theorem entries_none (A : Option Addr) (n c : Nat) (w : World) :
    Calls Tryz.prog 62 #[.slice A n c, .int .i64 0] w (EntAns [] w) := by
  have HC := Lib.hid ((callsIn_wide (n := 0)).1 (chunkS_in 0 none 0 0 3 (by omega) (by omega) w))
  go_enter Tryz.func62, Tryz.ntmps62
  go_wp2_with fail
  refine HC.out.mono ?_
  rintro e w1 ⟨rfl, rfl⟩
  obtain ⟨h1, h2, h3⟩ := ent_blk (w1 := w) (A := none) (n := 0) (c := 0)
  go_wp2
  go_ret
  exact ⟨_, none, 0, rfl, Nat.le_refl _, h1, h2, own_none _ _ _, h3⟩

theorem entries_some (os : List PO) (ho : os ≠ []) (hl : os.length ≤ 256) (hw : wrE (idxT os) = 0) (A : Option Addr) (c : Nat) (hc : (wr (idxT os)).length ≤ c) (hs : (wr (idxT os)).length ≤ 1000000000) (w : World) (hr : RdB w A (wr (idxT os))) :
    Calls Tryz.prog 62 #[.slice A (wr (idxT os)).length c, .int .i64 os.length] w (EntAns os w) := by
  have hrd : rd (wr (idxT os)) = (0, idxT os) := by
    have := rd_wr (idxT os) hw []
    rw [List.append_nil] at this
    exact this
  have hR := read_own A c (wr (idxT os)) hc (by omega) (wr_octs _) w hr
  rw [hrd] at hR
  have HR := Lib.hid hR
  have hL := idxT_length os
  have hpos : 0 < os.length := by
    rcases os with _ | ⟨o, os⟩
    · exact absurd rfl ho
    · simp
  clear hR hr hrd hs hc hw ho
  generalize wr (idxT os) = zs at *
  generalize hn : os.length = n at *
  have h3 : wrap64 ((3 : Int) * n) = 3 * n := IntWalk.wrap64_in _ (by omega)
  have hn0 : ((n : Int) == 0) = false := by simp; omega
  go_enter Tryz.func62, Tryz.ntmps62
  go_wp2_with fail
  refine HR.out.mono ?_
  rintro e w1 ⟨B, d, rfl, hown, hB⟩
  have HO := Lib.hid hown
  have hle : ((3 * n : Nat) != 3 * n) = false := by simp
  clear hown
  unfold ansS
  dsimp only
  rw [hL]
  go_wp2_with fail
  refine ((callsIn_wide (n := 0)).1 (chunkS_in 0 B (3 * n) d 3 (by omega) (by omega) w1)).mono ?_
  rintro e w2 ⟨rfl, rfl⟩
  obtain ⟨h1, h2, h4⟩ := ent_blk (w1 := w1) (A := B) (n := 3 * n) (c := d)
  go_wp2
  go_ret
  have ho := own_below HO.out h4 (Nat.le_refl _)
  refine ⟨_, B, d, rfl, hB.size, ?_, h2, ho, hB.trans (h4.mono hB.size)⟩
  rw [hL]
  exact h1

set_option maxHeartbeats 1000000 in
theorem newReader_ok (m : Nat) (D : Dv) (w : World) (hm : m ≤ w.heap.size) (h1 : RdU m w D.A (ptCells D.ps)) (h2 : ∀ p ∈ D.ps, RdU m w p.A (ocl p.zs)) :
    Calls Tryz.prog 60 #[D.val] w fun e w' => ∃ X mb, e = .returned (.pointer (some ⟨X, 0, none⟩)) ∧ w.heap.size ≤ mb ∧ RdAt m X mb D [] w' ∧ Below w.heap.size w w' := by
  have hmm := @run_makeMap Tryz.prog
  have HS := Lib.hid h1
  have HP := Lib.hid h2
  clear h1 h2
  go_enter Tryz.func60, Tryz.ntmps60
  go_wp2_with fail
  go_ret
  have hB : Below w.heap.size w (((w.alloc (.cells #[.slice D.A D.ps.length D.c, .slice D.B D.ws.length D.d] 27)).alloc (.map #[] 0)).alloc (.cells #[.int .i64 D.ps.length, .map (some (w.heap.size + 1)), .slice D.A D.ps.length D.c] RT)) :=
    (((Below.refl _ w).alloc (Nat.le_refl _) _).alloc (by simp) _).alloc (by simp; omega) _
  refine ⟨w.heap.size + 1 + 1, w.heap.size + 1, rfl, by omega, ⟨?_, ?_, HS.out.keeps (KeepsLo.below hB), fun p hp => (HP.out p hp).keeps (KeepsLo.below hB), by omega, by omega⟩, hB⟩
  · have := Blk.new ((w.alloc (.cells #[.slice D.A D.ps.length D.c, .slice D.B D.ws.length D.d] 27)).alloc (.map #[] 0)) [.int .i64 D.ps.length, .map (some (w.heap.size + 1)), .slice D.A D.ps.length D.c] RT
    simp only [World.size_alloc] at this
    exact this
  · have h : OwnS ((w.alloc (.cells #[.slice D.A D.ps.length D.c, .slice D.B D.ws.length D.d] 27)).alloc (.map #[] 0)) (w.alloc (.cells #[.slice D.A D.ps.length D.c, .slice D.B D.ws.length D.d] 27)).heap.size 0 (.map []) := World.ownsMap_made _ _ _ _
    rw [World.size_alloc] at h
    exact ⟨.map [], h.alloc _, SetIs.empty⟩

end Go.Proofs.YtfeeejigedndcaaGreat

namespace Go.Proofs.YtfeeejigedndcaaGreat
open Go.ChangeShapes Go.WideShapes Go.ChangeAt Go.RowKit
set_option maxRecDepth 100000

/-- In sector k of these stands a page of these octets, with this next. -/
def PgIn (secs : List (List Int)) (k : Nat) (b : List Int) (nx : Int) : Prop := 2 ≤ k ∧ ∃ z, secs[k]? = some z ∧ z.length = 64 ∧ Octs z ∧ pgAns z = (b, nx, 0)
theorem PgIn.at_ {D : Dv} {k : Nat} {b : List Int} {nx : Int} (h : PgIn (D.ps.map (·.zs)) k b nx) (hc : ∀ p ∈ D.ps, p.zs.length ≤ p.c) : PgAt D k b nx := by
  obtain ⟨h2, z, hz, hl, ho, ha⟩ := h
  rw [List.getElem?_map] at hz
  rcases hp : D.ps[k]? with _ | p
  · rw [hp] at hz; cases hz
  · rw [hp] at hz
    injection hz with hz
    subst hz
    exact ⟨h2, p, rfl.trans hp, hc p (List.mem_of_getElem? hp), hl, ho, ha⟩

/-- The octets of the index. -/
def idxZ (os : List PO) : List Int := if os = [] then [] else wr (idxT os)
theorem idxZ_octs (os : List PO) : Octs (idxZ os) := by
  unfold idxZ
  split
  · exact fun z hz => by simp at hz
  · exact wr_octs _

/-- The pages of octets stand there. -/
def Pages (secs : List (List Int)) (at_ : List Int) (zs : List Int) (nx : Nat → Int) : Prop := at_.length = cntN zs.length ∧ ∀ j, j < at_.length → ∃ k : Nat, at_[j]? = some (k : Int) ∧ PgIn secs k (piece zs j) (nx j)

structure Stands (secs : List (List Int)) (u : Ub) (os : List PO) (ix : List Int) : Prop where
  hu : ∃ k a b, secs[0]? = some a ∧ secs[1]? = some b ∧ Octs a ∧ Octs b ∧ ubNew (ubOf a) (ubOf b) = (u, k, 0)
  hf : u.f = ix.getD 0 0
  hwr : wrE (idxT os) = 0
  hix : Pages secs ix (idxZ os) (fun j => ix.getD (j + 1) 0)
  hos : ∀ o ∈ os, Pages secs o.at_ o.data (fun _ => 0)
  hnd : (ix ++ os.flatMap (·.at_)).Nodup
  hok : PS.ok ⟨⟨secs, []⟩, u, os, ix⟩
  hoc : ∀ o ∈ os, Octs o.data

end Go.Proofs.YtfeeejigedndcaaGreat
