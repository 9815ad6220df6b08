/-
  waiting hands out those of the writes that wait which are wanted, in their order, whatever the loop over it does, as long as it keeps what the iterator reads. Conditions: at most 2^42 writes.
-/
import Derived.Test.YtfeeejigedndcaaGreatMDVA
import Derived.Test.YtfeeejigedndcaaGreatMKB
namespace Go.Proofs.YtfeeejigedndcaaGreat
open Go.ChangeShapes Go.WideShapes Go.ChangeAt Go.RowKit Go.Shelf
set_option maxRecDepth 100000
attribute [local go_sem] Oper.semAt_some

/-- Those that are wanted, by their place. -/
def sel (K : Nat → Wt → Bool) : Nat → List Wt → List Wt
  | _, [] => []
  | k, x :: xs => if K k x then x :: sel K (k + 1) xs else sel K (k + 1) xs
theorem sel_snoc (K : Nat → Wt → Bool) (x : Wt) : ∀ (xs : List Wt) (k : Nat), sel K k (xs ++ [x]) = sel K k xs ++ (if K (k + xs.length) x then [x] else [])
  | [], k => by simp [sel]
  | y :: ys, k => by
    have ih := sel_snoc K x ys (k + 1)
    simp only [List.cons_append, sel, List.length_cons]
    rw [ih, show k + 1 + ys.length = k + (ys.length + 1) by omega]
    split <;> simp
/-- One of ws. -/
abbrev WX (ws : List Wt) := { x : Wt // x ∈ ws }
def wvals {ws : List Wt} (xs : List (WX ws)) : List Wt := xs.map Subtype.val
theorem wvals_snoc {ws : List Wt} (xs : List (WX ws)) (x : WX ws) : wvals (xs ++ [x]) = wvals xs ++ [x.1] := by simp [wvals, List.map_append]
theorem wvals_length {ws : List Wt} (xs : List (WX ws)) : (wvals xs).length = xs.length := by simp [wvals]
theorem sel_length (K : Nat → Wt → Bool) : ∀ (xs : List Wt) (k : Nat), (sel K k xs).length ≤ xs.length
  | [], k => by simp [sel]
  | y :: ys, k => by
    have ih := sel_length K ys (k + 1)
    simp only [sel]
    split <;> simp <;> omega
abbrev wxEnc {ws : List Wt} (x : WX ws) : Array Value := #[x.1.val]

/-- Cells outside the blocks from lo to below hi stay. -/
def KeepsOut (lo hi : Nat) (W W' : World) : Prop := ∀ b o v, b < lo ∨ hi ≤ b → W.cell? ⟨b, o, none⟩ = some v → W'.cell? ⟨b, o, none⟩ = some v
theorem KeepsOut.trans {lo hi : Nat} {A B C : World} (h : KeepsOut lo hi A B) (k : KeepsOut lo hi B C) : KeepsOut lo hi A C := fun b o v hb hv => k b o v hb (h b o v hb hv)
theorem KeepsOut.putObj {lo hi : Nat} (W : World) (l : Nat) (o o' : Obj) (h : W.heap[l]? = some o) (hc : o.isCells = false) : KeepsOut lo hi W (W.putObj l o') := fun _ _ _ _ hv =>
  cell_kept hv (grownBy_putObj' W l o') (fun r e => by cases e; exact ⟨o, h, hc⟩)
theorem KeepsOut.below {lo hi : Nat} {W W' : World} (h : Below W.heap.size W W') : KeepsOut lo hi W W' := fun b o _ _ hv => (h.cell (p := ⟨b, o, none⟩) (World.block_lt_of_cell? W ⟨b, o, none⟩ hv)).trans hv
theorem KeepsOut.set {lo hi : Nat} (W : World) (g o : Nat) (u : Value) (h1 : lo ≤ g) (h2 : g < hi) : KeepsOut lo hi W (W.setCell ⟨g, o, none⟩ u) := fun b o' v hb hv =>
  (World.cell?_setCell_other _ _ _ _ (fun e => by injection e with e _; omega)).trans hv
/-- Behind a call that keeps what lay, the caller's invariant holds. -/
theorem abides_below {β : Type} {B : Nat} {J : β → World → Prop} (hJ : AbidesFrom B J) {s : β} {W W' : World} (h : J s W) (hb : Below W.heap.size W W') : J s W' :=
  hJ s W W' none h ⟨hb.os, hb.tape, hb.output, hb.size, fun k hk _ => hb.block k hk⟩ (fun _ e => by cases e)

set_option maxRecDepth 100000 in
set_option maxHeartbeats 1000000 in
theorem waiting1_in (n l Bd Bw gw b off c B₀ lo hi : Nat) (lb : Array Value) (eg : Enters Tryz.prog gw) (A : Option Addr) (ws : List Wt) (hwl : ws.length ≤ 4398046511104) (hA : ws ≠ [] → A = some ⟨b, off, none⟩)
    (hbo : b < lo ∨ hi ≤ b) (hBw : Bw < lo ∨ hi ≤ Bw) (K : Nat → Wt → Bool) (Cap : World → Prop) (hcap : ∀ W W', Cap W → KeepsOut lo hi W W' → Cap W')
    (hwant : ∀ W, Cap W → ∀ k x, ws[k]? = some x → Calls Tryz.prog gw (#[.int .i64 k, x.val] ++ lb) W fun e W' => e = .returned (.bool (K k x)) ∧ Below W.heap.size W W')
    (J Jx : List (WX ws) → World → Prop) (hJ : AbidesFrom B₀ J)
    (hY : ∀ pre x W, J pre W → pre.length < ws.length → YieldAt Fence.wide (n - 1) Tryz.prog l (wxEnc x) W fun e W' =>
      (e = .returned (.bool true) ∧ J (pre ++ [x]) W' ∧ KeepsOut lo hi W W') ∨ (e = .returned (.bool false) ∧ Jx (pre ++ [x]) W'))
    (W : World) (hd1 : W.cell? ⟨Bd, 1, none⟩ = some (.slice A ws.length c)) (hw0 : W.cell? ⟨Bw, 0, none⟩ = some (.func (.func gw) #[] lb)) (hCap : Cap W)
    (hcs : ∀ j x, ws[j]? = some x → W.cell? ⟨b, off + j * 2, none⟩ = some (.int .i64 x.at_) ∧ W.cell? ⟨b, off + j * 2 + 1, none⟩ = some x.p.val) (h0 : J [] W) :
    CallsIn Fence.wide n Tryz.prog 94 #[.func (.yield l) #[] #[], .pointer (some ⟨Bd, 0, none⟩), .pointer (some ⟨Bw, 0, none⟩)] W fun e W' => (∃ v, e = .returned v) ∧
      ((∃ ys : List (WX ws), wvals ys = sel K 0 ws ∧ J ys W') ∨ (∃ pre : List (WX ws), True ∧ Jx pre W')) := by
  refine callsIn_of_wp Tryz.func94 rfl trivial ?_ rfl
  simp only [Tryz.ntmps94, List.size_toArray, List.length_cons, List.length_nil, Nat.reduceAdd, Nat.reduceSub, Array.replicate_succ, Array.replicate_zero, List.push_toArray, List.append_toArray, List.nil_append, List.cons_append]
  gi_wp2
  gi_loopw [9] (fun i wr => ∃ (k : Nat) (pre : List (WX ws)), k ≤ ws.length ∧ i = .int .i64 k ∧ wvals pre = sel K 0 (ws.take k) ∧ (∀ j x, ws[j]? = some x → wr.cell? ⟨b, off + j * 2, none⟩ = some (.int .i64 x.at_) ∧ wr.cell? ⟨b, off + j * 2 + 1, none⟩ = some x.p.val) ∧ wr.cell? ⟨Bw, 0, none⟩ = some (.func (.func gw) #[] lb) ∧ Cap wr ∧ J pre wr)
    (fun i _ => ws.length - (intOf i).toNat)
  case atStart =>
    exact ⟨0, [], Nat.zero_le _, rfl, rfl, hcs, hw0, hCap, h0⟩
  case round =>
    obtain ⟨k, pre, hk, rfl, hpre, hcs', hw', hC, hJk⟩ := hrel
    by_cases hlt : k < ws.length
    · obtain ⟨x, hx⟩ : ∃ x, ws[k]? = some x := ⟨_, List.getElem?_eq_getElem hlt⟩
      have hAA := hA (by intro e; rw [e] at hlt; simp at hlt)
      obtain ⟨hc1, hc2⟩ := hcs' k x hx
      have HCS := Lib.hid hcs'
      have HW := Lib.hid (fun W h => hwant W h k x hx)
      have htk : ws.take (k + 1) = ws.take k ++ [x] := by
        rw [List.take_succ_eq_append_getElem hlt]
        rw [List.getElem?_eq_getElem hlt] at hx
        injection hx with hx
        rw [hx]
      have hmem : x ∈ ws := List.mem_of_getElem? hx
      have HTK : Hid (sel K 0 (ws.take (k + 1)) = sel K 0 (ws.take k) ++ (if K k x then [x] else [])) := by
        show _ = _
        rw [htk, sel_snoc, Nat.zero_add, List.length_take, Nat.min_eq_left hk]
      have HPRE := Lib.hid hpre
      have hprel : pre.length ≤ k := by
        have := congrArg List.length hpre
        rw [wvals_length] at this
        have h2 := sel_length K (ws.take k) 0
        rw [List.length_take] at h2
        omega
      subst hAA
      clear hcs' hcs htk hpre hx hA hw0 hd1 hwant
      have hBwl : Bw < wr.heap.size := World.block_lt_of_cell? wr ⟨Bw, 0, none⟩ hw'
      have hbl : b < wr.heap.size := World.block_lt_of_cell? wr ⟨b, _, none⟩ hc1
      have eg' : ∀ args w, (callFunc gw args).run Tryz.prog w = .ok (.enter gw args) w := eg
      obtain ⟨W1, hW1⟩ : ∃ W1, wr.alloc (.cells #[.int .i64 x.at_, .slice x.p.A x.p.zs.length x.p.c] 87) = W1 := ⟨_, rfl⟩
      have hB1 : Below wr.heap.size wr W1 := hW1 ▸ (Below.refl _ wr).alloc (Nat.le_refl _) _
      have kx : Blk W1 wr.heap.size 87 [.int .i64 x.at_, .slice x.p.A x.p.zs.length x.p.c] := hW1 ▸ Blk.new wr _ _
      have hJ1 : J pre W1 := abides_below hJ hJk hB1
      have hC1 : Cap W1 := hcap _ _ hC (KeepsOut.below hB1)
      have HC1 := Lib.hid hC1
      have HJ1 := Lib.hid hJ1
      have HKX := Lib.hid kx
      have HWW := Lib.hid hW1
      clear hC1 hJ1 kx hJk hW1
      gi_wp2
      rw [HWW.out]
      refine ⟨trivial, fun h => (by cases h), ?_⟩
      refine (callsIn_wide.2 (HW.out _ HC1.out)).mono ?_
      rintro e W2 ⟨rfl, hB2⟩
      have hJ2 : J pre W2 := abides_below hJ HJ1.out hB2
      have hB12 : Below wr.heap.size wr W2 := hB1.trans (hB2.mono hB1.size)
      have hC2 : Cap W2 := hcap _ _ HC1.out (KeepsOut.below hB2)
      have HC2 := Lib.hid hC2
      have kx2 := HKX.out.below hB2 HKX.out.lt
      have hx0 := kx2.cell 0
      have hx1 := kx2.cell 1
      simp only [List.getElem?_cons_zero, List.getElem?_cons_succ] at hx0 hx1
      have hcs2 : ∀ j q, ws[j]? = some q → W2.cell? ⟨b, off + j * 2, none⟩ = some (.int .i64 q.at_) ∧ W2.cell? ⟨b, off + j * 2 + 1, none⟩ = some q.p.val := fun j q hq => ⟨(hB12.cell (p := ⟨b, _, none⟩) hbl).trans (HCS.out j q hq).1, (hB12.cell (p := ⟨b, _, none⟩) hbl).trans (HCS.out j q hq).2⟩
      have hw2 : W2.cell? ⟨Bw, 0, none⟩ = some (.func (.func gw) #[] lb) := (hB12.cell (p := ⟨Bw, 0, none⟩) hBwl).trans hw'
      have HS2 := Lib.hid hcs2
      have HW2 := Lib.hid hw2
      have HJ2 := Lib.hid hJ2
      clear hw' hcs2 hw2 kx2 hJ2 hC2 hc1 hc2 hC
      rcases hKx : K k x with _ | _
      · have hne : sel K 0 (ws.take (k + 1)) = wvals pre := by rw [HTK.out, hKx, HPRE.out]; simp
        have HNE := Lib.hid hne
        clear hne hKx
        gi_wp2
        refine ⟨fun _ h => (by cases h), ?_⟩
        gi_wp2
        go_roundw
        case rel => exact ⟨k + 1, pre, by omega, by go_num, HNE.out.symm, HS2.out, HW2.out, HC2.out, HJ2.out⟩
        case measure => simp [intOf]; omega
      · obtain ⟨fn, tmps, assign, body, hy, hR⟩ := hY pre ⟨x, hmem⟩ W2 HJ2.out (by omega)
        have hne : sel K 0 (ws.take (k + 1)) = wvals (pre ++ [⟨x, hmem⟩]) := by rw [HTK.out, hKx, wvals_snoc, HPRE.out]; simp
        have HNE := Lib.hid hne
        clear hne hKx
        dsimp only [wxEnc] at hy
        gi_wp2
        refine ⟨fun h => (by cases h), hR.mono ?_⟩
        rintro e W3 (⟨rfl, hJ3, hk3⟩ | ⟨rfl, hJx3⟩)
        · have hcs3 : ∀ j q, ws[j]? = some q → W3.cell? ⟨b, off + j * 2, none⟩ = some (.int .i64 q.at_) ∧ W3.cell? ⟨b, off + j * 2 + 1, none⟩ = some q.p.val := fun j q hq => ⟨hk3 b _ _ hbo (HS2.out j q hq).1, hk3 b _ _ hbo (HS2.out j q hq).2⟩
          have hw3 : W3.cell? ⟨Bw, 0, none⟩ = some (.func (.func gw) #[] lb) := hk3 Bw _ _ hBw HW2.out
          have hC3 : Cap W3 := hcap _ _ HC2.out hk3
          have H3 := Lib.hid hcs3
          have HW3 := Lib.hid hw3
          have HC3 := Lib.hid hC3
          clear hcs3 hw3 hC3 hy hR
          gi_wp2
          go_roundw
          case rel => exact ⟨k + 1, pre ++ [⟨x, hmem⟩], by omega, by go_num, HNE.out.symm, H3.out, HW3.out, HC3.out, hJ3⟩
          case measure => simp [intOf]; omega
        · clear hy hR
          gi_wp2
          refine bodyPost_ret (results_none rfl _ _ _) rfl ?_
          exact ⟨⟨_, rfl⟩, .inr ⟨_, trivial, hJx3⟩⟩
    · obtain rfl : k = ws.length := by omega
      rw [List.take_length] at hpre
      have HPRE := Lib.hid hpre
      clear hpre hcs' hcs hA
      gi_wp2
      go_end0
      exact ⟨⟨_, rfl⟩, .inl ⟨pre, HPRE.out, hJk⟩⟩

set_option maxHeartbeats 1000000 in
set_option maxRecDepth 100000 in
theorem waiting_in (n : Nat) (A : Option Addr) (k c : Nat) (B : Option Addr) (m d : Nat) (F : Value) (hF : ∃ g lb, F = .func (.func g) #[] lb) (w : World) :
    CallsIn Fence.wide n Tryz.prog 70 #[dval A k c B m d, F] w fun e w' => e = .returned (.func (.func 94) #[] #[.pointer (some ⟨w.heap.size, 0, none⟩), .pointer (some ⟨w.heap.size + 1, 0, none⟩)]) ∧ w' = (w.alloc (.cells #[.slice A k c, .slice B m d] 27)).alloc (.cells #[F] 88) := by
  obtain ⟨g, lb, rfl⟩ := hF
  refine callsIn_of_wp Tryz.func70 rfl trivial ?_ rfl
  simp only [Tryz.ntmps70, List.size_toArray, List.length_cons, List.length_nil, Nat.reduceAdd, Nat.reduceSub, Array.replicate_succ, Array.replicate_zero, List.push_toArray, List.append_toArray, List.nil_append, List.cons_append]
  gi_wp2
  go_ret
  exact ⟨rfl, rfl⟩

theorem waiting_stops (n Bd Bw gw b off c lo hi : Nat) (lb : Array Value) (eg : Enters Tryz.prog gw) (A : Option Addr) (ws : List Wt) (hwl : ws.length ≤ 4398046511104) (hA : ws ≠ [] → A = some ⟨b, off, none⟩)
    (hbo : b < lo ∨ hi ≤ b) (hBw : Bw < lo ∨ hi ≤ Bw) (K : Nat → Wt → Bool) (Cap : World → Prop) (hcap : ∀ W W', Cap W → KeepsOut lo hi W W' → Cap W')
    (hwant : ∀ W, Cap W → ∀ k x, ws[k]? = some x → Calls Tryz.prog gw (#[.int .i64 k, x.val] ++ lb) W fun e W' => e = .returned (.bool (K k x)) ∧ Below W.heap.size W W')
    (w : World) (hd1 : w.cell? ⟨Bd, 1, none⟩ = some (.slice A ws.length c)) (hw0 : w.cell? ⟨Bw, 0, none⟩ = some (.func (.func gw) #[] lb)) (hCap : Cap w)
    (hcs : ∀ j x, ws[j]? = some x → w.cell? ⟨b, off + j * 2, none⟩ = some (.int .i64 x.at_) ∧ w.cell? ⟨b, off + j * 2 + 1, none⟩ = some x.p.val) :
    SeqStopsK Fence.wide n Tryz.prog 94 #[.pointer (some ⟨Bd, 0, none⟩), .pointer (some ⟨Bw, 0, none⟩)] wxEnc (KeepsOut lo hi) (fun ys : List (WX ws) => wvals ys = sel K 0 ws) (fun _ => True) ws.length w := fun l J Jx W hW hJ _ hY h0 => by
  have hk : KeepsOut 0 0 w W := KeepsOut.below hW
  exact waiting1_in n l Bd Bw gw b off c _ lo hi lb eg A ws hwl hA hbo hBw K Cap hcap hwant J Jx hJ hY W (hk _ _ _ (.inr (Nat.zero_le _)) hd1) (hk _ _ _ (.inr (Nat.zero_le _)) hw0) (hcap _ _ hCap (KeepsOut.below hW))
    (fun j x hx => ⟨hk _ _ _ (.inr (Nat.zero_le _)) (hcs j x hx).1, hk _ _ _ (.inr (Nat.zero_le _)) (hcs j x hx).2⟩) h0

end Go.Proofs.YtfeeejigedndcaaGreat
