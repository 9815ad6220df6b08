/-
  hasSector, checkWrite, checkAct: which sectors there are, and which writes and acts a device takes. No conditions.
-/
import Derived.Test.YtfeeejigedndcaaGreatMW
import Derived.Lib.Hide
import Derived.IntWalk
namespace Go.Proofs.YtfeeejigedndcaaGreat
open Go.ChangeShapes Go.WideShapes Go.ChangeAt Go.RowKit
set_option maxRecDepth 100000

/-- A device as a value. -/
abbrev dval (A : Option Addr) (n c : Nat) (B : Option Addr) (m d : Nat) : Value := .agg #[.slice A n c, .slice B m d]
/-- An act as a value. -/
abbrev aval (fl : Bool) (at_ : Int) (C : Option Addr) (k e : Nat) : Value := .agg #[.bool fl, .int .i64 at_, .slice C k e]
/-- A write as a value. -/
abbrev wval (at_ : Int) (C : Option Addr) (k e : Nat) : Value := .agg #[.int .i64 at_, .slice C k e]

/-- Why a write is refused. -/
def wrtE (n : Nat) (at_ : Int) (k : Nat) : Int := if 0 ≤ at_ ∧ at_ < n then (if k = 64 then 0 else 5) else 4
/-- Why an act is refused. -/
def actE (n : Nat) (fl : Bool) (at_ : Int) (k : Nat) : Int := if fl then 0 else wrtE n at_ k

set_option maxHeartbeats 400000 in
set_option maxRecDepth 100000 in
theorem hasSector_any (A : Option Addr) (n c : Nat) (B : Option Addr) (m d : Nat) (at_ : Int) (w : World) :
    Calls Tryz.prog 93 #[dval A n c B m d, .int .i64 at_] w fun e w' => e = .returned (.bool (decide (0 ≤ at_ ∧ at_ < n))) ∧ Below w.heap.size w w' := by
  have hB0 : Below w.heap.size w (w.alloc (.cells #[.slice A n c, .slice B m d] 27)) := (Below.refl _ w).alloc (Nat.le_refl _) _
  by_cases h0 : 0 ≤ at_
  · by_cases h1 : at_ < n
    · have hd : decide (0 ≤ at_ ∧ at_ < n) = true := by simp [h0, h1]
      rw [hd]
      clear hd
      go_enter Tryz.func93, Tryz.ntmps93
      go_wp2
      go_ret
      exact ⟨rfl, hB0⟩
    · have hd : decide (0 ≤ at_ ∧ at_ < n) = false := by simp [h1]
      rw [hd]
      clear hd
      go_enter Tryz.func93, Tryz.ntmps93
      go_wp2
      go_ret
      exact ⟨rfl, hB0⟩
  · have hd : decide (0 ≤ at_ ∧ at_ < n) = false := by simp [h0]
    rw [hd]
    clear hd
    go_enter Tryz.func93, Tryz.ntmps93
    go_wp2
    go_ret
    exact ⟨rfl, hB0⟩

set_option maxHeartbeats 400000 in
set_option maxRecDepth 100000 in
theorem checkWrite_any (A : Option Addr) (n c : Nat) (B : Option Addr) (m d : Nat) (at_ : Int) (C : Option Addr) (k e : Nat) (hk : k ≤ 9223372036854775807) (w : World) :
    Calls Tryz.prog 68 #[dval A n c B m d, .int .i64 at_, .slice C k e] w fun r w' => r = .returned (.int .i64 (wrtE n at_ k)) ∧ Below w.heap.size w w' := by
  have HS := Lib.hid (hasSector_any A n c B m d at_)
  have hB0 : Below w.heap.size w (w.alloc (.cells #[.slice A n c, .slice B m d] 27)) := (Below.refl _ w).alloc (Nat.le_refl _) _
  by_cases h : 0 ≤ at_ ∧ at_ < n
  · have hd : decide (0 ≤ at_ ∧ at_ < n) = true := decide_eq_true h
    rw [hd] at HS
    by_cases hl : k = 64
    · have he : wrtE n at_ k = 0 := by simp [wrtE, h, hl]
      rw [he]
      clear he hd h
      subst hl
      go_enter Tryz.func68, Tryz.ntmps68
      go_wp2_with (refine (HS.out _).mono ?_; rintro e w1 ⟨rfl, hB1⟩)
      go_ret
      exact ⟨rfl, hB0.trans (hB1.mono hB0.size)⟩
    · have he : wrtE n at_ k = 5 := by simp [wrtE, h, hl]
      rw [he]
      clear he hd h
      go_enter Tryz.func68, Tryz.ntmps68
      go_wp2_with (refine (HS.out _).mono ?_; rintro e w1 ⟨rfl, hB1⟩)
      go_ret
      exact ⟨rfl, hB0.trans (hB1.mono hB0.size)⟩
  · have hd : decide (0 ≤ at_ ∧ at_ < n) = false := decide_eq_false h
    rw [hd] at HS
    have he : wrtE n at_ k = 4 := by unfold wrtE; rw [if_neg h]
    rw [he]
    clear he hd h
    go_enter Tryz.func68, Tryz.ntmps68
    go_wp2_with (refine (HS.out _).mono ?_; rintro e w1 ⟨rfl, hB1⟩)
    go_ret
    exact ⟨rfl, hB0.trans (hB1.mono hB0.size)⟩

set_option maxHeartbeats 400000 in
set_option maxRecDepth 100000 in
theorem checkAct_any (A : Option Addr) (n c : Nat) (B : Option Addr) (m d : Nat) (fl : Bool) (at_ : Int) (C : Option Addr) (k e : Nat) (hk : k ≤ 9223372036854775807) (w : World) :
    Calls Tryz.prog 34 #[dval A n c B m d, aval fl at_ C k e] w fun r w' => r = .returned (.int .i64 (actE n fl at_ k)) ∧ Below w.heap.size w w' := by
  have HS := Lib.hid (checkWrite_any A n c B m d at_ C k e hk)
  have hB0 : Below w.heap.size w ((w.alloc (.cells #[.slice A n c, .slice B m d] 27)).alloc (.cells #[.bool fl, .int .i64 at_, .slice C k e] 82)) := ((Below.refl _ w).alloc (Nat.le_refl _) _).alloc (by simp) _
  cases fl
  · have he : actE n false at_ k = wrtE n at_ k := rfl
    rw [he]
    clear he
    generalize wrtE n at_ k = r at *
    go_enter Tryz.func34, Tryz.ntmps34
    go_wp2_with (refine (HS.out _).mono ?_; rintro e w1 ⟨rfl, hB1⟩)
    go_ret
    exact ⟨rfl, hB0.trans (hB1.mono hB0.size)⟩
  · have he : actE n true at_ k = 0 := rfl
    rw [he]
    clear he
    go_enter Tryz.func34, Tryz.ntmps34
    go_wp2
    go_ret
    exact ⟨rfl, hB0⟩

end Go.Proofs.YtfeeejigedndcaaGreat

namespace Go.Proofs.YtfeeejigedndcaaGreat
open Go.ChangeShapes Go.WideShapes Go.ChangeAt Go.RowKit
set_option maxRecDepth 100000

/-- A list of octets in memory. -/
structure Pt where
  A : Option Addr
  zs : List Int
  c : Nat
abbrev Pt.val (p : Pt) : Value := .slice p.A p.zs.length p.c
/-- A write in memory. -/
structure Wt where
  at_ : Int
  p : Pt
abbrev Wt.val (x : Wt) : Value := wval x.at_ x.p.A x.p.zs.length x.p.c
/-- An act in memory. -/
structure Ac where
  fl : Bool
  at_ : Int
  p : Pt
abbrev Ac.val (x : Ac) : Value := aval x.fl x.at_ x.p.A x.p.zs.length x.p.c

def ocl (zs : List Int) : List Value := zs.map (Value.int .u8)
def ptCells (ps : List Pt) : List Value := ps.map Pt.val
def wtCells (ws : List Wt) : List Value := ws.flatMap fun x => [.int .i64 x.at_, x.p.val]
def acCells (l : List Ac) : List Value := l.flatMap fun x => [.bool x.fl, .int .i64 x.at_, x.p.val]

theorem ocl_length (zs : List Int) : (ocl zs).length = zs.length := by simp [ocl]
theorem ocl_one (zs : List Int) : ∀ u ∈ ocl zs, u.oneCell' = true := fun u hu => by
  obtain ⟨z, _, rfl⟩ := List.mem_map.1 hu
  rfl
theorem ptCells_length (ps : List Pt) : (ptCells ps).length = ps.length := by simp [ptCells]
theorem wtCells_snoc (ws : List Wt) (x : Wt) : wtCells (ws ++ [x]) = wtCells ws ++ [.int .i64 x.at_, x.p.val] := by simp [wtCells]
theorem acCells_snoc (ws : List Ac) (x : Ac) : acCells (ws ++ [x]) = acCells ws ++ [.bool x.fl, .int .i64 x.at_, x.p.val] := by simp [acCells]
theorem wtCells_length (ws : List Wt) : (wtCells ws).length = 2 * ws.length := by
  induction ws with
  | nil => rfl
  | cons z zs ih => simp only [wtCells, List.flatMap_cons, List.length_append, List.length_cons, List.length_nil] at ih ⊢; omega
theorem acCells_length (ws : List Ac) : (acCells ws).length = 3 * ws.length := by
  induction ws with
  | nil => rfl
  | cons z zs ih => simp only [acCells, List.flatMap_cons, List.length_append, List.length_cons, List.length_nil] at ih ⊢; omega
theorem ptCells_at {ps : List Pt} {k : Nat} {p : Pt} (h : ps[k]? = some p) : (ptCells ps)[k]? = some p.val := by simp [ptCells, h]
theorem wtCells_at : ∀ (ws : List Wt) (k : Nat) (x : Wt), ws[k]? = some x → (wtCells ws)[k * 2]? = some (.int .i64 x.at_) ∧ (wtCells ws)[k * 2 + 1]? = some x.p.val
  | y :: ws, 0, x, h => by
    simp at h
    subst h
    simp [wtCells]
  | y :: ws, k + 1, x, h => by
    have := wtCells_at ws k x (by simpa using h)
    simp only [wtCells, List.flatMap_cons] at this ⊢
    rw [show (k + 1) * 2 = k * 2 + 1 + 1 by omega]
    simpa using this
theorem acCells_at : ∀ (ws : List Ac) (k : Nat) (x : Ac), ws[k]? = some x → (acCells ws)[k * 3]? = some (.bool x.fl) ∧ (acCells ws)[k * 3 + 1]? = some (.int .i64 x.at_) ∧ (acCells ws)[k * 3 + 2]? = some x.p.val
  | y :: ws, 0, x, h => by
    simp at h
    subst h
    simp [acCells]
  | y :: ws, k + 1, x, h => by
    have := acCells_at ws k x (by simpa using h)
    simp only [acCells, List.flatMap_cons] at this ⊢
    rw [show (k + 1) * 3 = k * 3 + 1 + 1 + 1 by omega]
    simpa using this

theorem Rd.pt {w : World} {A : Option Addr} {ps : List Pt} (h : Rd w A (ptCells ps)) {k : Nat} {p : Pt} (hk : ps[k]? = some p) :
    ∃ b off, A = some ⟨b, off, none⟩ ∧ b < w.heap.size ∧ w.cell? ⟨b, off + k, none⟩ = some p.val := by
  have := ptCells_at hk
  obtain ⟨b, off, e, hb, hc⟩ := h (by intro h0; rw [h0] at this; simp at this)
  exact ⟨b, off, e, hb, hc k _ this⟩
theorem Rd.wt {w : World} {A : Option Addr} {ws : List Wt} (h : Rd w A (wtCells ws)) {k : Nat} {x : Wt} (hk : ws[k]? = some x) :
    ∃ b off, A = some ⟨b, off, none⟩ ∧ b < w.heap.size ∧ w.cell? ⟨b, off + k * 2, none⟩ = some (.int .i64 x.at_) ∧ w.cell? ⟨b, off + k * 2 + 1, none⟩ = some x.p.val := by
  obtain ⟨h1, h2⟩ := wtCells_at ws k x hk
  obtain ⟨b, off, e, hb, hc⟩ := h (by intro h0; rw [h0] at h1; simp at h1)
  exact ⟨b, off, e, hb, hc _ _ h1, hc _ _ h2⟩
theorem Rd.ac {w : World} {A : Option Addr} {ws : List Ac} (h : Rd w A (acCells ws)) {k : Nat} {x : Ac} (hk : ws[k]? = some x) :
    ∃ b off, A = some ⟨b, off, none⟩ ∧ b < w.heap.size ∧ w.cell? ⟨b, off + k * 3, none⟩ = some (.bool x.fl) ∧ w.cell? ⟨b, off + k * 3 + 1, none⟩ = some (.int .i64 x.at_) ∧ w.cell? ⟨b, off + k * 3 + 2, none⟩ = some x.p.val := by
  obtain ⟨h1, h2, h3⟩ := acCells_at ws k x hk
  obtain ⟨b, off, e, hb, hc⟩ := h (by intro h0; rw [h0] at h1; simp at h1)
  exact ⟨b, off, e, hb, hc _ _ h1, hc _ _ h2, hc _ _ h3⟩

/-- It reads so, from block n on. -/
def RdF (n : Nat) (w : World) (A : Option Addr) (vs : List Value) : Prop := Rd w A vs ∧ ∀ a, A = some a → vs ≠ [] → n ≤ a.block
theorem RdF.below {n : Nat} {w w' : World} {A : Option Addr} {vs : List Value} (h : RdF n w A vs) (hb : Below w.heap.size w w') : RdF n w' A vs := ⟨h.1.below hb, h.2⟩
theorem RdF.mono {n n' : Nat} {w : World} {A : Option Addr} {vs : List Value} (h : RdF n w A vs) (hn : n' ≤ n) : RdF n' w A vs := ⟨h.1, fun a e hv => Nat.le_trans hn (h.2 a e hv)⟩
theorem RdF.zero {w : World} {A : Option Addr} {vs : List Value} (h : Rd w A vs) : RdF 0 w A vs := ⟨h, fun _ _ _ => Nat.zero_le _⟩
theorem RdF.nil (n : Nat) (w : World) (A : Option Addr) : RdF n w A [] := ⟨Rd.nil w A, fun _ _ h => absurd rfl h⟩
/-- What lies from n on stays, so it reads as it did. -/
theorem RdF.stays {n : Nat} {w w' : World} {A : Option Addr} {vs : List Value} (h : RdF n w A vs) (hs : w.heap.size ≤ w'.heap.size) (hk : ∀ k, n ≤ k → k < w.heap.size → w'.heap[k]? = w.heap[k]?) : RdF n w' A vs := by
  refine ⟨fun hv => ?_, h.2⟩
  obtain ⟨b, off, e, hb, hc⟩ := h.1 hv
  refine ⟨b, off, e, by omega, fun j u hu => ?_⟩
  have h1 := hk b (h.2 _ e hv) hb
  rw [← hc j u hu]
  unfold World.cell?
  simp only [h1]

/-- A device: its sectors, and what waits. -/
structure DS where
  secs : List (List Int)
  waits : List (Int × List Int)
/-- Writes, done. -/
def applyW (S : List (List Int)) (l : List (Int × List Int)) : List (List Int) := l.foldl (fun s x => s.set x.1.toNat x.2) S
theorem applyW_length (l : List (Int × List Int)) : ∀ S, (applyW S l).length = S.length := by
  induction l with
  | nil => intro S; rfl
  | cons x l ih => intro S; simp only [applyW, List.foldl_cons] at ih ⊢; rw [ih]; simp
theorem applyW_snoc (S : List (List Int)) (l : List (Int × List Int)) (x : Int × List Int) : applyW S (l ++ [x]) = (applyW S l).set x.1.toNat x.2 := by simp [applyW]
theorem applyW_append (S : List (List Int)) (l m : List (Int × List Int)) : applyW S (l ++ m) = applyW (applyW S l) m := by simp [applyW]
/-- May it be? -/
def DS.ok (D : DS) : Prop := 2 ≤ D.secs.length ∧ D.secs.length ≤ 8192 ∧ (∀ s ∈ D.secs, s.length = 64) ∧ ∀ x ∈ D.waits, 0 ≤ x.1 ∧ x.1 < D.secs.length ∧ x.2.length = 64

/-- A device in memory. -/
structure Dv where
  A : Option Addr
  ps : List Pt
  c : Nat
  B : Option Addr
  ws : List Wt
  d : Nat
abbrev Dv.val (D : Dv) : Value := dval D.A D.ps.length D.c D.B D.ws.length D.d
def Wt.st (x : Wt) : Int × List Int := (x.at_, x.p.zs)
def Dv.st (D : Dv) : DS := ⟨D.ps.map (·.zs), D.ws.map Wt.st⟩
/-- It lies so, from block n on. -/
structure Dv.Lies (n : Nat) (W : World) (D : Dv) : Prop where
  secs : RdF n W D.A (ptCells D.ps)
  sec : ∀ p ∈ D.ps, RdF n W p.A (ocl p.zs)
  waits : RdF n W D.B (wtCells D.ws)
  wait : ∀ x ∈ D.ws, RdF n W x.p.A (ocl x.p.zs)
theorem Dv.Lies.below {n : Nat} {W W' : World} {D : Dv} (h : D.Lies n W) (hb : Below W.heap.size W W') : D.Lies n W' :=
  ⟨h.secs.below hb, fun p hp => (h.sec p hp).below hb, h.waits.below hb, fun x hx => (h.wait x hx).below hb⟩
theorem Dv.Lies.mono {n n' : Nat} {W : World} {D : Dv} (h : D.Lies n W) (hn : n' ≤ n) : D.Lies n' W :=
  ⟨h.secs.mono hn, fun p hp => (h.sec p hp).mono hn, h.waits.mono hn, fun x hx => (h.wait x hx).mono hn⟩
theorem Dv.Lies.stays {n : Nat} {W W' : World} {D : Dv} (h : D.Lies n W) (hs : W.heap.size ≤ W'.heap.size) (hk : ∀ k, n ≤ k → k < W.heap.size → W'.heap[k]? = W.heap[k]?) : D.Lies n W' :=
  ⟨h.secs.stays hs hk, fun p hp => (h.sec p hp).stays hs hk, h.waits.stays hs hk, fun x hx => (h.wait x hx).stays hs hk⟩
/-- Its lengths are a machine's. -/
structure Dv.Fits (D : Dv) : Prop where
  n : D.ps.length ≤ 140737488351232
  m : D.ws.length ≤ 4398046511104
  sec : ∀ p ∈ D.ps, p.zs.length ≤ 140737488351232
  wait : ∀ x ∈ D.ws, x.p.zs.length ≤ 140737488351232

/-- As the lists in memory have it. -/
theorem Dv.ok_iff (D : Dv) : D.st.ok ↔ 2 ≤ D.ps.length ∧ D.ps.length ≤ 8192 ∧ (∀ p ∈ D.ps, p.zs.length = 64) ∧ ∀ x ∈ D.ws, wrtE D.ps.length x.at_ x.p.zs.length = 0 := by
  unfold DS.ok Dv.st
  simp only [List.length_map, List.forall_mem_map]
  refine and_congr_right fun _ => and_congr_right fun _ => and_congr_right fun _ => forall_congr' fun x => imp_congr_right fun _ => ?_
  unfold wrtE Wt.st
  constructor
  · rintro ⟨h1, h2, h3⟩
    rw [if_pos ⟨h1, h2⟩, if_pos h3]
  · intro h
    split at h
    · rename_i h1
      split at h
      · rename_i h3
        exact ⟨h1.1, h1.2, h3⟩
      · omega
    · omega

end Go.Proofs.YtfeeejigedndcaaGreat

namespace Go.Proofs.YtfeeejigedndcaaGreat
open Go.ChangeShapes Go.WideShapes Go.ChangeAt Go.RowKit
set_option maxRecDepth 100000

set_option maxHeartbeats 1000000 in
set_option maxRecDepth 100000 in
theorem devCheck_any (D : Dv) (hf : D.Fits) (w : World) (hr : Rd w D.A (ptCells D.ps)) (hs : Rd w D.B (wtCells D.ws)) :
    Calls Tryz.prog 33 #[D.val] w fun e w' => ∃ r : Int, e = .returned (.int .i64 r) ∧ (r = 0 ∧ D.st.ok ∨ r = 9 ∧ ¬ D.st.ok) ∧ Below w.heap.size w w' := by
  obtain ⟨A, ps, c, B, ws, d⟩ := D
  obtain ⟨hn, hm, hpl, hwl⟩ := hf
  have HOK := Lib.hid (Dv.ok_iff ⟨A, ps, c, B, ws, d⟩)
  dsimp only at hr hs hn hm hpl hwl
  have HR := Lib.hid hr
  have HS := Lib.hid hs
  have HPL := Lib.hid hpl
  have HWL := Lib.hid hwl
  generalize Dv.st ⟨A, ps, c, B, ws, d⟩ = S at *
  clear hr hs hpl hwl
  have hB0 : Below w.heap.size w (w.alloc (.cells #[.slice A ps.length c, .slice B ws.length d] 27)) := (Below.refl _ w).alloc (Nat.le_refl _) _
  by_cases h2 : 2 ≤ ps.length
  · by_cases h3 : ps.length ≤ 8192
    · go_enter Tryz.func33, Tryz.ntmps33
      go_wp2
      go_loopw [20] (fun i wr => ∃ k : Nat, k ≤ ps.length ∧ i = .int .i64 k ∧ Hid (∀ p ∈ ps.take k, p.zs.length = 64) ∧ wr = (w.alloc (.cells #[.slice A ps.length c, .slice B ws.length d] 27))) (fun i _ => ps.length - (intOf i).toNat)
      case atStart =>
        exact ⟨0, Nat.zero_le _, rfl, fun p hp => by simp at hp, rfl⟩
      case round =>
        obtain ⟨k, hk, rfl, H64, rfl⟩ := hrel
        by_cases hlt : k < ps.length
        · obtain ⟨p, hp⟩ : ∃ p, ps[k]? = some p := ⟨_, List.getElem?_eq_getElem hlt⟩
          obtain ⟨b, off, hA, hb, hc⟩ := (Rd.below HR.out hB0).pt hp
          have hpl := HPL.out p (List.mem_of_getElem? hp)
          have hmem := List.mem_of_getElem? hp
          have htk : ps.take (k + 1) = ps.take k ++ [p] := by
            rw [List.take_succ_eq_append_getElem hlt]
            rw [List.getElem?_eq_getElem hlt] at hp
            injection hp with hp
            rw [hp]
          have HTK := Lib.hid htk
          clear htk hp
          subst hA
          by_cases h64 : p.zs.length = 64
          · go_wp2
            go_roundw
            case rel =>
              refine ⟨k + 1, by omega, by go_num, ?_, by first | rfl | trivial⟩
              intro q hq
              rw [HTK.out] at hq
              simp at hq
              rcases hq with hq | rfl
              · exact H64.out q hq
              · exact h64
            case measure => simp [intOf]; omega
          · go_wp2
            go_ret
            refine ⟨9, rfl, .inr ⟨rfl, fun ho => ?_⟩, hB0⟩
            exact h64 ((HOK.out.1 ho).2.2.1 p hmem)
        · obtain rfl : k = ps.length := by omega
          rw [List.take_length] at H64
          go_wp2
          go_loopw [31] (fun i wr => ∃ k : Nat, k ≤ ws.length ∧ i = .int .i64 k ∧ Hid (∀ x ∈ ws.take k, wrtE ps.length x.at_ x.p.zs.length = 0) ∧ Below (w.heap.size + 1) (w.alloc (.cells #[.slice A ps.length c, .slice B ws.length d] 27)) wr) (fun i _ => ws.length - (intOf i).toNat)
          case atStart =>
            exact ⟨0, Nat.zero_le _, rfl, fun p hp => by simp at hp, Below.refl _ _⟩
          case round =>
            obtain ⟨k, hk, rfl, HOKS, hB1⟩ := hrel
            have hBr : Below w.heap.size w wr := hB0.trans (hB1.mono (by simp))
            by_cases hlt : k < ws.length
            · obtain ⟨x, hx⟩ : ∃ x, ws[k]? = some x := ⟨_, List.getElem?_eq_getElem hlt⟩
              obtain ⟨b, off, hA, hb, hc1, hc2⟩ := (Rd.below HS.out hBr).wt hx
              have hxl := HWL.out x (List.mem_of_getElem? hx)
              have hmem := List.mem_of_getElem? hx
              have htk : ws.take (k + 1) = ws.take k ++ [x] := by
                rw [List.take_succ_eq_append_getElem hlt]
                rw [List.getElem?_eq_getElem hlt] at hx
                injection hx with hx
                rw [hx]
              have HTK := Lib.hid htk
              have HCW := Lib.hid (fun w => checkWrite_any A ps.length c B ws.length d x.at_ x.p.A x.p.zs.length x.p.c (by omega) w)
              clear htk hx
              have kb : Blk wr w.heap.size 27 [.slice A ps.length c, .slice B ws.length d] := (Blk.new w [.slice A ps.length c, .slice B ws.length d] 27).below hB1 (by simp)
              have hd0 : wr.cell? ⟨w.heap.size, 0, none⟩ = some (.slice A ps.length c) := kb.cell 0
              have hd1 : wr.cell? ⟨w.heap.size, 1, none⟩ = some (.slice B ws.length d) := kb.cell 1
              have hsz := hB1.size
              simp at hsz
              have hsz2 := kb.lt
              clear kb
              subst hA
              obtain ⟨r, hr⟩ : ∃ r, wrtE ps.length x.at_ x.p.zs.length = r := ⟨_, rfl⟩
              rw [hr] at HCW
              have HRR := Lib.hid hr
              clear hr
              by_cases h0 : r = 0
              · subst h0
                go_wp2_with (refine (HCW.out _).mono ?_; rintro e w1 ⟨rfl, hB2⟩)
                go_roundw
                case rel =>
                  refine ⟨k + 1, by omega, by go_num, ?_, ?_⟩
                  · intro q hq
                    rw [HTK.out] at hq
                    simp at hq
                    rcases hq with hq | rfl
                    · exact HOKS.out q hq
                    · exact HRR.out
                  · exact (hB1.alloc (by first | omega | (simp; omega)) _).trans (hB2.mono (by first | omega | (simp; omega)))
                case measure => simp [intOf]; omega
              · have hr0 : (r == 0) = false := beq_eq_false_iff_ne.2 h0
                go_wp2_with (refine (HCW.out _).mono ?_; rintro e w1 ⟨rfl, hB2⟩)
                go_ret
                refine ⟨9, rfl, .inr ⟨rfl, fun ho => ?_⟩, ?_⟩
                · have := (HOK.out.1 ho).2.2.2 x hmem
                  exact h0 (HRR.out.symm.trans this)
                · exact (hBr.alloc (by omega) _).trans (hB2.mono (by first | omega | (simp; omega)))
            · obtain rfl : k = ws.length := by omega
              rw [List.take_length] at HOKS
              go_wp2
              go_ret
              exact ⟨0, rfl, .inl ⟨rfl, HOK.out.2 ⟨h2, h3, H64.out, HOKS.out⟩⟩, hBr⟩
    · go_enter Tryz.func33, Tryz.ntmps33
      go_wp2
      go_ret
      exact ⟨9, rfl, .inr ⟨rfl, fun ho => h3 (HOK.out.1 ho).2.1⟩, hB0⟩
  · go_enter Tryz.func33, Tryz.ntmps33
    go_wp2
    go_ret
    exact ⟨9, rfl, .inr ⟨rfl, fun ho => h2 (HOK.out.1 ho).1⟩, hB0⟩

theorem check_ok (D : Dv) (hf : D.Fits) (h : D.st.ok) (w : World) (hr : Rd w D.A (ptCells D.ps)) (hs : Rd w D.B (wtCells D.ws)) :
    Calls Tryz.prog 33 #[D.val] w fun e w' => e = .returned (.int .i64 0) ∧ Below w.heap.size w w' := by
  refine (devCheck_any D hf w hr hs).mono ?_
  rintro e w' ⟨r, rfl, (⟨rfl, _⟩ | ⟨_, h2⟩), hB⟩
  · exact ⟨rfl, hB⟩
  · exact absurd h h2
theorem check_no (D : Dv) (hf : D.Fits) (h : ¬ D.st.ok) (w : World) (hr : Rd w D.A (ptCells D.ps)) (hs : Rd w D.B (wtCells D.ws)) :
    Calls Tryz.prog 33 #[D.val] w fun e w' => e = .returned (.int .i64 9) ∧ Below w.heap.size w w' := by
  refine (devCheck_any D hf w hr hs).mono ?_
  rintro e w' ⟨r, rfl, (⟨_, h2⟩ | ⟨rfl, _⟩), hB⟩
  · exact absurd h2 h
  · exact ⟨rfl, hB⟩

end Go.Proofs.YtfeeejigedndcaaGreat
