/-
  Devices: what acts do to their sectors, and how a device lies in memory. No conditions.
-/
import Derived.Test.YtddkalcgijeldaaDVA
namespace Go.Proofs.Ytddkalcgijeldaa
open Go.ChangeShapes Go.WideShapes Go.ChangeAt Go.RowKit

/-- A list of octets in memory. -/
structure Pt where
  A : Option Addr
  zs : List Int
  c : Nat
abbrev Pt.val (p : Pt) : Value := .slice p.A p.zs.length p.c
/-- A write in memory. -/
structure Wt where
  at_ : Int
  p : Pt
abbrev Wt.val (x : Wt) : Value := wval x.at_ x.p.A x.p.zs.length x.p.c
/-- An act in memory. -/
structure Ac where
  fl : Bool
  at_ : Int
  p : Pt
abbrev Ac.val (x : Ac) : Value := aval x.fl x.at_ x.p.A x.p.zs.length x.p.c

def ocl (zs : List Int) : List Value := zs.map (Value.int .u8)
def ptCells (ps : List Pt) : List Value := ps.map Pt.val
def wtCells (ws : List Wt) : List Value := ws.flatMap fun x => [.int .i64 x.at_, x.p.val]
def acCells (l : List Ac) : List Value := l.flatMap fun x => [.bool x.fl, .int .i64 x.at_, x.p.val]

theorem ocl_length (zs : List Int) : (ocl zs).length = zs.length := by simp [ocl]
theorem ocl_one (zs : List Int) : ∀ u ∈ ocl zs, u.oneCell' = true := fun u hu => by
  obtain ⟨z, _, rfl⟩ := List.mem_map.1 hu
  rfl
theorem ptCells_length (ps : List Pt) : (ptCells ps).length = ps.length := by simp [ptCells]
theorem wtCells_snoc (ws : List Wt) (x : Wt) : wtCells (ws ++ [x]) = wtCells ws ++ [.int .i64 x.at_, x.p.val] := by simp [wtCells]
theorem acCells_snoc (ws : List Ac) (x : Ac) : acCells (ws ++ [x]) = acCells ws ++ [.bool x.fl, .int .i64 x.at_, x.p.val] := by simp [acCells]
theorem wtCells_length (ws : List Wt) : (wtCells ws).length = 2 * ws.length := by
  induction ws with
  | nil => rfl
  | cons z zs ih => simp only [wtCells, List.flatMap_cons, List.length_append, List.length_cons, List.length_nil] at ih ⊢; omega
theorem acCells_length (ws : List Ac) : (acCells ws).length = 3 * ws.length := by
  induction ws with
  | nil => rfl
  | cons z zs ih => simp only [acCells, List.flatMap_cons, List.length_append, List.length_cons, List.length_nil] at ih ⊢; omega
theorem ptCells_at {ps : List Pt} {k : Nat} {p : Pt} (h : ps[k]? = some p) : (ptCells ps)[k]? = some p.val := by simp [ptCells, h]
theorem wtCells_at : ∀ (ws : List Wt) (k : Nat) (x : Wt), ws[k]? = some x → (wtCells ws)[k * 2]? = some (.int .i64 x.at_) ∧ (wtCells ws)[k * 2 + 1]? = some x.p.val
  | y :: ws, 0, x, h => by
    simp at h
    subst h
    simp [wtCells]
  | y :: ws, k + 1, x, h => by
    have := wtCells_at ws k x (by simpa using h)
    simp only [wtCells, List.flatMap_cons] at this ⊢
    rw [show (k + 1) * 2 = k * 2 + 1 + 1 by omega]
    simpa using this
theorem acCells_at : ∀ (ws : List Ac) (k : Nat) (x : Ac), ws[k]? = some x → (acCells ws)[k * 3]? = some (.bool x.fl) ∧ (acCells ws)[k * 3 + 1]? = some (.int .i64 x.at_) ∧ (acCells ws)[k * 3 + 2]? = some x.p.val
  | y :: ws, 0, x, h => by
    simp at h
    subst h
    simp [acCells]
  | y :: ws, k + 1, x, h => by
    have := acCells_at ws k x (by simpa using h)
    simp only [acCells, List.flatMap_cons] at this ⊢
    rw [show (k + 1) * 3 = k * 3 + 1 + 1 + 1 by omega]
    simpa using this

theorem Rd.pt {w : World} {A : Option Addr} {ps : List Pt} (h : Rd w A (ptCells ps)) {k : Nat} {p : Pt} (hk : ps[k]? = some p) :
    ∃ b off, A = some ⟨b, off, none⟩ ∧ b < w.heap.size ∧ w.cell? ⟨b, off + k, none⟩ = some p.val := by
  have := ptCells_at hk
  obtain ⟨b, off, e, hb, hc⟩ := h (by intro h0; rw [h0] at this; simp at this)
  exact ⟨b, off, e, hb, hc k _ this⟩
theorem Rd.wt {w : World} {A : Option Addr} {ws : List Wt} (h : Rd w A (wtCells ws)) {k : Nat} {x : Wt} (hk : ws[k]? = some x) :
    ∃ b off, A = some ⟨b, off, none⟩ ∧ b < w.heap.size ∧ w.cell? ⟨b, off + k * 2, none⟩ = some (.int .i64 x.at_) ∧ w.cell? ⟨b, off + k * 2 + 1, none⟩ = some x.p.val := by
  obtain ⟨h1, h2⟩ := wtCells_at ws k x hk
  obtain ⟨b, off, e, hb, hc⟩ := h (by intro h0; rw [h0] at h1; simp at h1)
  exact ⟨b, off, e, hb, hc _ _ h1, hc _ _ h2⟩
theorem Rd.ac {w : World} {A : Option Addr} {ws : List Ac} (h : Rd w A (acCells ws)) {k : Nat} {x : Ac} (hk : ws[k]? = some x) :
    ∃ b off, A = some ⟨b, off, none⟩ ∧ b < w.heap.size ∧ w.cell? ⟨b, off + k * 3, none⟩ = some (.bool x.fl) ∧ w.cell? ⟨b, off + k * 3 + 1, none⟩ = some (.int .i64 x.at_) ∧ w.cell? ⟨b, off + k * 3 + 2, none⟩ = some x.p.val := by
  obtain ⟨h1, h2, h3⟩ := acCells_at ws k x hk
  obtain ⟨b, off, e, hb, hc⟩ := h (by intro h0; rw [h0] at h1; simp at h1)
  exact ⟨b, off, e, hb, hc _ _ h1, hc _ _ h2, hc _ _ h3⟩

/-- It reads so, from block n on. -/
def RdF (n : Nat) (w : World) (A : Option Addr) (vs : List Value) : Prop := Rd w A vs ∧ ∀ a, A = some a → vs ≠ [] → n ≤ a.block
theorem RdF.below {n : Nat} {w w' : World} {A : Option Addr} {vs : List Value} (h : RdF n w A vs) (hb : Below w.heap.size w w') : RdF n w' A vs := ⟨h.1.below hb, h.2⟩
theorem RdF.mono {n n' : Nat} {w : World} {A : Option Addr} {vs : List Value} (h : RdF n w A vs) (hn : n' ≤ n) : RdF n' w A vs := ⟨h.1, fun a e hv => Nat.le_trans hn (h.2 a e hv)⟩
theorem RdF.zero {w : World} {A : Option Addr} {vs : List Value} (h : Rd w A vs) : RdF 0 w A vs := ⟨h, fun _ _ _ => Nat.zero_le _⟩
theorem RdF.nil (n : Nat) (w : World) (A : Option Addr) : RdF n w A [] := ⟨Rd.nil w A, fun _ _ h => absurd rfl h⟩
/-- What lies from n on stays, so it reads as it did. -/
theorem RdF.stays {n : Nat} {w w' : World} {A : Option Addr} {vs : List Value} (h : RdF n w A vs) (hs : w.heap.size ≤ w'.heap.size) (hk : ∀ k, n ≤ k → k < w.heap.size → w'.heap[k]? = w.heap[k]?) : RdF n w' A vs := by
  refine ⟨fun hv => ?_, h.2⟩
  obtain ⟨b, off, e, hb, hc⟩ := h.1 hv
  refine ⟨b, off, e, by omega, fun j u hu => ?_⟩
  have h1 := hk b (h.2 _ e hv) hb
  rw [← hc j u hu]
  unfold World.cell?
  simp only [h1]

/-- A device: its sectors, and what waits. -/
structure DS where
  secs : List (List Int)
  waits : List (Int × List Int)
/-- Writes, done. -/
def applyW (S : List (List Int)) (l : List (Int × List Int)) : List (List Int) := l.foldl (fun s x => s.set x.1.toNat x.2) S
theorem applyW_length (l : List (Int × List Int)) : ∀ S, (applyW S l).length = S.length := by
  induction l with
  | nil => intro S; rfl
  | cons x l ih => intro S; simp only [applyW, List.foldl_cons] at ih ⊢; rw [ih]; simp
theorem applyW_snoc (S : List (List Int)) (l : List (Int × List Int)) (x : Int × List Int) : applyW S (l ++ [x]) = (applyW S l).set x.1.toNat x.2 := by simp [applyW]
theorem applyW_append (S : List (List Int)) (l m : List (Int × List Int)) : applyW S (l ++ m) = applyW (applyW S l) m := by simp [applyW]
/-- May it be? -/
def DS.ok (D : DS) : Prop := 2 ≤ D.secs.length ∧ D.secs.length ≤ 8192 ∧ (∀ s ∈ D.secs, s.length = 64) ∧ ∀ x ∈ D.waits, 0 ≤ x.1 ∧ x.1 < D.secs.length ∧ x.2.length = 64

/-- A device in memory. -/
structure Dv where
  A : Option Addr
  ps : List Pt
  c : Nat
  B : Option Addr
  ws : List Wt
  d : Nat
abbrev Dv.val (D : Dv) : Value := dval D.A D.ps.length D.c D.B D.ws.length D.d
def Wt.st (x : Wt) : Int × List Int := (x.at_, x.p.zs)
def Dv.st (D : Dv) : DS := ⟨D.ps.map (·.zs), D.ws.map Wt.st⟩
/-- It lies so, from block n on. -/
structure Dv.Lies (n : Nat) (W : World) (D : Dv) : Prop where
  secs : RdF n W D.A (ptCells D.ps)
  sec : ∀ p ∈ D.ps, RdF n W p.A (ocl p.zs)
  waits : RdF n W D.B (wtCells D.ws)
  wait : ∀ x ∈ D.ws, RdF n W x.p.A (ocl x.p.zs)
theorem Dv.Lies.below {n : Nat} {W W' : World} {D : Dv} (h : D.Lies n W) (hb : Below W.heap.size W W') : D.Lies n W' :=
  ⟨h.secs.below hb, fun p hp => (h.sec p hp).below hb, h.waits.below hb, fun x hx => (h.wait x hx).below hb⟩
theorem Dv.Lies.mono {n n' : Nat} {W : World} {D : Dv} (h : D.Lies n W) (hn : n' ≤ n) : D.Lies n' W :=
  ⟨h.secs.mono hn, fun p hp => (h.sec p hp).mono hn, h.waits.mono hn, fun x hx => (h.wait x hx).mono hn⟩
theorem Dv.Lies.stays {n : Nat} {W W' : World} {D : Dv} (h : D.Lies n W) (hs : W.heap.size ≤ W'.heap.size) (hk : ∀ k, n ≤ k → k < W.heap.size → W'.heap[k]? = W.heap[k]?) : D.Lies n W' :=
  ⟨h.secs.stays hs hk, fun p hp => (h.sec p hp).stays hs hk, h.waits.stays hs hk, fun x hx => (h.wait x hx).stays hs hk⟩
/-- Its lengths are a machine's. -/
structure Dv.Fits (D : Dv) : Prop where
  n : D.ps.length ≤ 140737488351232
  m : D.ws.length ≤ 4398046511104
  sec : ∀ p ∈ D.ps, p.zs.length ≤ 140737488351232
  wait : ∀ x ∈ D.ws, x.p.zs.length ≤ 140737488351232

/-- As the lists in memory have it. -/
theorem Dv.ok_iff (D : Dv) : D.st.ok ↔ 2 ≤ D.ps.length ∧ D.ps.length ≤ 8192 ∧ (∀ p ∈ D.ps, p.zs.length = 64) ∧ ∀ x ∈ D.ws, wrtE D.ps.length x.at_ x.p.zs.length = 0 := by
  unfold DS.ok Dv.st
  simp only [List.length_map, List.forall_mem_map]
  refine and_congr_right fun _ => and_congr_right fun _ => and_congr_right fun _ => forall_congr' fun x => imp_congr_right fun _ => ?_
  unfold wrtE Wt.st
  constructor
  · rintro ⟨h1, h2, h3⟩
    rw [if_pos ⟨h1, h2⟩, if_pos h3]
  · intro h
    split at h
    · rename_i h1
      split at h
      · rename_i h3
        exact ⟨h1.1, h1.2, h3⟩
      · omega
    · omega

end Go.Proofs.Ytddkalcgijeldaa
