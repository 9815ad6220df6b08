/-
  index: the index is written where it finds room. Conditions: at most 256 objects that a store may have.
-/
import Derived.Test.YtmehjmkakkiedaaGreatMQR
import Derived.Test.YtmehjmkakkiedaaGreatMQO
import Derived.Test.YtmehjmkakkiedaaGreatMRL
import Derived.Test.YtmehjmkakkiedaaGreatMQM
import Derived.Test.YtmehjmkakkiedaaGreatMQG
namespace Go.Proofs.YtmehjmkakkiedaaGreat
open Go.ChangeShapes Go.WideShapes Go.ChangeAt Go.RowKit
set_option maxRecDepth 100000

theorem RdI.of_row {w : World} {base n : Nat} {A : Option Addr} {c : Nat} {zs : List Int} (h : w.ownsRow base 3 1 (.slice A n c) n (ints zs)) : RdI w A zs := (RdF.of_own h).1
theorem RdB.of_row {w : World} {base n : Nat} {A : Option Addr} {c : Nat} {zs : List Int} (h : w.ownsRow base 5 1 (.slice A n c) n (zs.map (Value.int .u8))) : RdB w A zs := (RdF.of_own h).1

/-- What is known of a writer, whatever is written next. -/
theorem WrAt.move {base X : Nat} {W W' : World} {F F' : Option Addr} {fr fr' : List Int} {d d' mb n : Nat} {D : Dv2} {os : List Ob} {v v' : Value} {l l' : List Ac} (h : WrAt base X W F fr d mb n D os v l)
    (hp : Pl X 1 WT [.slice F' fr'.length d', v', .map (some mb)] v' W' l') (ho : Only X WT W W') (hfr : RdU X W F (ints fr) → RdU X W F' (ints fr')) (hd : fr'.length ≤ d') (hn : F' = none → d' = 0) : WrAt base X W' F' fr' d' mb n D os v' l' :=
  ⟨hp, (hfr h.free).belowX ho.below, hd, hn, h.mlt, own_map_block h.mp (ho.below.block mb h.mlt), h.mis, h.bX⟩
theorem ints_cons_ne {z : Int} {zs : List Int} : ints (z :: zs) ≠ [] := by simp [ints]
theorem RdU.int {X : Nat} {w : World} {A : Option Addr} {zs : List Int} (h : RdU X w A (ints zs)) : RdI w A zs := h.rd
theorem RdU.of_int {X : Nat} {w : World} {F F' : Option Addr} {fr : List Int} {n : Nat} (h : RdU X w F (ints fr)) (hF : ∀ W, RdI W F fr → RdI W F' (fr.drop n)) (hsame : ∀ a, F' = some a → ∃ b, F = some b ∧ a.block = b.block) : RdU X w F' (ints (fr.drop n)) := fun hv => by
  obtain ⟨b, off, e, hb, hc⟩ := hF w h.int hv
  subst e
  obtain ⟨a', ha', hbb⟩ := hsame _ rfl
  have hne : ints fr ≠ [] := by
    intro e
    apply hv
    have : fr = [] := by simpa [ints] using e
    subst this
    simp [ints]
  obtain ⟨b', off', e', hb', _⟩ := h hne
  rw [ha'] at e'
  injection e' with e'
  subst e'
  exact ⟨b, off, rfl, by simp at hbb; omega, hc⟩

/-- What index leaves. -/
def IdxOk (base X : Nat) (_F : Option Addr) (fr : List Int) (mb n : Nat) (D : Dv2) (os : List Ob) (l : List Ac) (zs : List Int) (w w' : World) (A : Option Addr) (c : Nat) : Prop :=
  ∃ F' d' v' new, w'.ownsRow w.heap.size 3 1 (.slice A (cntN zs.length) c) (cntN zs.length) (ints (fr.take (cntN zs.length))) ∧ cntN zs.length ≤ c ∧
    WrAt base X w' F' (fr.drop (cntN zs.length)) d' mb n D os v' (l ++ new) ∧ new.map Ac.st = (List.range (cntN zs.length)).map (wact zs (fr.take (cntN zs.length)) ((fr.take (cntN zs.length)).drop 1 ++ [0])) ∧ Only X WT w w'

set_option maxHeartbeats 2000000 in
theorem index_no (base X : Nat) (F : Option Addr) (fr : List Int) (d mb n : Nat) (D : Dv2) (os : List Ob) (v : Value) (l : List Ac) (A : Option Addr) (c : Nat) (ls : List Ob) (hl : ls.length ≤ 256) (hf : ∀ o ∈ ls, o.key.size ≤ 96 ∧ o.d.zs.length ≤ 65536 ∧ o.ns.length ≤ 1261 ∧ o.ns.length ≤ o.e)
    (w : World) (h : WrAt base X w F fr d mb n D os v l) (hr : Rd w A (obCells ls)) (hrn : ∀ o ∈ ls, RdI w o.B o.ns) (hno : fr.length < cntN (wr (idxT (ls.map Ob.st))).length) (hzl : (wr (idxT (ls.map Ob.st))).length ≤ 1000000000) :
    Calls Tryz.prog 54 #[.pointer (some ⟨X, 0, none⟩), .slice A ls.length c] w fun e w' => e = flt 17 ∧ Below w.heap.size w w' := by
  have HIX := Lib.hid (indexOf_any A c ls hl hf w hr hrn)
  have H := Lib.hid h
  have hXl := h.pl.blk.lt
  obtain ⟨zs, hzs⟩ : ∃ zs, wr (idxT (ls.map Ob.st)) = zs := ⟨_, rfl⟩
  rw [hzs] at HIX hno hzl
  have HCO : Hid (∀ w, Calls Tryz.prog 42 #[.int .i64 (zs.length : Int)] w fun e w' => e = .returned (.int .i64 (cntN zs.length : Nat)) ∧ w' = w) := Lib.hid (fun w => (count_any (zs.length : Int) (by omega) w).mono fun _ _ h => ⟨by rw [← cntI_nat]; exact h.1, h.2.symm⟩)
  have hcb : cntN zs.length ≤ 1000000000 := by unfold cntN; omega
  obtain ⟨cn, hcn⟩ : ∃ cn, cntN zs.length = cn := ⟨_, rfl⟩
  rw [hcn] at HCO hno hcb
  clear h hr hrn hf hzs
  go_enter Tryz.func54, Tryz.ntmps54
  go_wp2_with fail
  refine HIX.out.mono ?_
  rintro e w1 ⟨B, dB, rfl, hown, hB1⟩
  have hP1 := H.out.pl.below hB1
  have HP1 := Lib.hid hP1
  clear hown hP1
  go_wp2
  refine wp_region_last 6 (fun _ => True) (by kernel_rfl) trivial (fun hHeld => ?_)
  refine wpAnyL_take 12 (i := 0) (oi := ⟨some 9, _, _, _, _, _⟩) (v := ?_) rfl (by kernel_rfl) (by kernel_rfl) (by kernel_rfl) (by kernel_rfl) (by kernel_rfl) (by kernel_rfl) (by kernel_rfl) (fun _ _ _ h => h) (Or.inl ⟨by rfl, ?_⟩) hHeld ?_
  rotate_left
  focus (intro w hSw; (try dsimp only at hSw); go_simp; try (with_reducible rfl))
  try simp only [Act.put, List.setIfInBounds_toArray, List.set_cons_zero, List.set_cons_succ]
  refine wpAnyL_take 12 (i := 1) (oi := ⟨some 10, _, _, _, _, _⟩) (v := ?_) rfl (by kernel_rfl) (by kernel_rfl) (by kernel_rfl) (by kernel_rfl) (by kernel_rfl) (by kernel_rfl) (by kernel_rfl) (fun _ _ _ h => h) (Or.inl ⟨by rfl, ?_⟩) hHeld ?_
  rotate_left
  focus (intro w hSw; (try dsimp only at hSw); go_simp; try (with_reducible rfl))
  try simp only [Act.put, List.setIfInBounds_toArray, List.set_cons_zero, List.set_cons_succ]
  refine wpAnyL_take 12 (i := 2) (oi := ⟨some 11, _, _, _, _, _⟩) (v := ?_) rfl (by kernel_rfl) (by kernel_rfl) (by kernel_rfl) (by kernel_rfl) (by kernel_rfl) (by kernel_rfl) (by kernel_rfl) (fun _ _ _ h => h) (Or.inl ⟨by rfl, ?_⟩) hHeld ?_
  rotate_left
  focus (intro w hSw; (try dsimp only at hSw); go_simp; try (with_reducible rfl))
  try simp only [Act.put, List.setIfInBounds_toArray, List.set_cons_zero, List.set_cons_succ]
  refine wpAnyL_take 12 (i := 3) (oi := ⟨some 12, _, _, _, _, _⟩) (v := ?_) rfl (by kernel_rfl) (by kernel_rfl) (by kernel_rfl) (by kernel_rfl) (by kernel_rfl) (by kernel_rfl) (by kernel_rfl) (fun _ _ _ h => h) (Or.inl ⟨by rfl, ?_⟩) hHeld ?_
  rotate_left
  focus (intro w hSw; (try dsimp only at hSw); go_simp; try (with_reducible rfl))
  try simp only [Act.put, List.setIfInBounds_toArray, List.set_cons_zero, List.set_cons_succ]
  refine wpAnyL_take 12 (i := 4) (oi := ⟨some 13, _, _, _, _, _⟩) (v := ?_) rfl (by kernel_rfl) (by kernel_rfl) (by kernel_rfl) (by kernel_rfl) (by kernel_rfl) (by kernel_rfl) (by kernel_rfl) (fun _ _ _ h => h) (Or.inl ⟨by rfl, ?_⟩) hHeld ?_
  rotate_left
  focus (intro w hSw; (try dsimp only at hSw); go_simp; try (with_reducible rfl))
  try simp only [Act.put, List.setIfInBounds_toArray, List.set_cons_zero, List.set_cons_succ]
  refine wpAnyL_one (i := 5) (o := ⟨some 14, _, _, _, _, _⟩) (by kernel_rfl) rfl (fun K hK => ?_)
  clear hHeld
  go_simp
  refine (HCO.out _).mono ?_
  rintro e w2 ⟨rfl, rfl⟩
  go_wp2_with fail
  refine hK.out _ _ trivial (fun hHeld => ?_)
  clear hK K
  try simp only [Act.put, List.setIfInBounds_toArray, List.set_cons_zero, List.set_cons_succ]
  refine wpAnyL_last (i := 6) (o := ⟨some 15, _, _, _, _, _⟩) (by kernel_rfl) rfl (by kernel_rfl) (fun K hK => ?_)
  clear hHeld
  go_simp
  refine (take_no X _ v l F fr.length d cn hno (by omega) _ (HP1.out.below (Below.refl _ _).drew) rfl).mono ?_
  rintro e w3 ⟨rfl, rfl⟩
  exact ⟨rfl, rfl, hB1.drew⟩


set_option maxHeartbeats 4000000 in
theorem index_ok (base X : Nat) (F : Option Addr) (fr : List Int) (d mb n : Nat) (D : Dv2) (os : List Ob) (v : Value) (l : List Ac) (hll : l.length ≤ 1000000000) (hfr8 : ∀ z ∈ fr, 0 ≤ z ∧ z < 8192) (hfl : fr.length ≤ 1048576) (A : Option Addr) (c : Nat) (ls : List Ob) (hl : ls.length ≤ 256) (hf : ∀ o ∈ ls, o.key.size ≤ 96 ∧ o.d.zs.length ≤ 65536 ∧ o.ns.length ≤ 1261 ∧ o.ns.length ≤ o.e)
    (w : World) (h : WrAt base X w F fr d mb n D os v l) (hr : Rd w A (obCells ls)) (hrn : ∀ o ∈ ls, RdI w o.B o.ns) (hno : cntN (wr (idxT (ls.map Ob.st))).length ≤ fr.length) :
    Calls Tryz.prog 54 #[.pointer (some ⟨X, 0, none⟩), .slice A ls.length c] w fun e w' => ∃ A' c', e = .returned (.slice A' (cntN (wr (idxT (ls.map Ob.st))).length) c') ∧ IdxOk base X F fr mb n D os l (wr (idxT (ls.map Ob.st))) w w' A' c' := by
  obtain ⟨i0, hi, hz0, hz1, hz2⟩ := info_parts qinfo3
  have HIX := Lib.hid (indexOf_any A c ls hl hf w hr hrn)
  have H := Lib.hid h
  have hXl := h.pl.blk.lt
  have hfd := h.fd
  have hfn := h.fn
  have HZO : Hid (Octs (wr (idxT (ls.map Ob.st)))) := Lib.hid (wr_octs _)
  have hzpos : 2 ≤ (wr (idxT (ls.map Ob.st))).length := by unfold wr; rw [List.length_append, put_length]; omega
  obtain ⟨zs, hzs⟩ : ∃ zs, wr (idxT (ls.map Ob.st)) = zs := ⟨_, rfl⟩
  rw [hzs] at HIX hno HZO hzpos ⊢
  have hzl : zs.length ≤ 60000000 := by unfold cntN at hno; omega
  have HCO : Hid (∀ w, Calls Tryz.prog 42 #[.int .i64 (zs.length : Int)] w fun e w' => e = .returned (.int .i64 (cntN zs.length : Nat)) ∧ w' = w) := Lib.hid (fun w => (count_any (zs.length : Int) (by omega) w).mono fun _ _ h => ⟨by rw [← cntI_nat]; exact h.1, h.2.symm⟩)
  have hcp : 1 ≤ cntN zs.length := by unfold cntN; omega
  obtain ⟨cn, hcn⟩ : ∃ cn, cntN zs.length = cn := ⟨_, rfl⟩
  have HCN := Lib.hid hcn
  rw [hcn] at HCO hno hcp
  obtain ⟨ats, hats⟩ : ∃ ats, fr.take cn = ats := ⟨_, rfl⟩
  have hal : ats.length = cn := by rw [← hats, List.length_take]; omega
  obtain ⟨nxs, hnxs⟩ : ∃ nxs, ats.drop 1 ++ [0] = nxs := ⟨_, rfl⟩
  have hnl : nxs.length = cn := by rw [← hnxs]; simp; omega
  have hnx : ∀ z ∈ nxs, 0 ≤ z ∧ z < 8192 := fun z hz => by
    rw [← hnxs] at hz
    rcases List.mem_append.1 hz with hz | hz
    · rw [← hats] at hz
      exact hfr8 z (List.mem_of_mem_take (List.mem_of_mem_drop hz))
    · simp at hz; omega
  have HATS := Lib.hid hats
  have HNXS := Lib.hid hnxs
  have HNX := Lib.hid hnx
  have HAL := Lib.hid hal
  have HNL := Lib.hid hnl
  rw [hcn]
  clear h hr hrn hf hzs hcn hats hnxs hnx hal hnl hfr8
  go_enter Tryz.func54, Tryz.ntmps54
  go_wp2_with fail
  refine HIX.out.mono ?_
  rintro e w1 ⟨B, dB, rfl, hown, hB1⟩
  obtain ⟨_, _, e0, hBd', _, _, _⟩ := own_any hown
  have hdB : zs.length ≤ dB := by injection e0 with _ _ e3; omega
  have hP1 := H.out.pl.below hB1
  have HP1 := Lib.hid hP1
  have HOB := Lib.hid hown
  have hs1 := hB1.size
  clear hown hP1 e0
  go_wp2
  refine wp_region_noPanic ?_
  refine wp_region_last 6 (fun _ => True) (by kernel_rfl) trivial (fun hHeld => ?_)
  refine wpAnyL_take 12 (i := 0) (oi := ⟨some 9, _, _, _, _, _⟩) (v := ?_) rfl (by kernel_rfl) (by kernel_rfl) (by kernel_rfl) (by kernel_rfl) (by kernel_rfl) (by kernel_rfl) (by kernel_rfl) (fun _ _ _ h => h) (Or.inl ⟨by rfl, ?_⟩) hHeld ?_
  rotate_left
  focus (intro w hSw; (try dsimp only at hSw); go_simp; try (with_reducible rfl))
  try simp only [Act.put, List.setIfInBounds_toArray, List.set_cons_zero, List.set_cons_succ]
  refine wpAnyL_take 12 (i := 1) (oi := ⟨some 10, _, _, _, _, _⟩) (v := ?_) rfl (by kernel_rfl) (by kernel_rfl) (by kernel_rfl) (by kernel_rfl) (by kernel_rfl) (by kernel_rfl) (by kernel_rfl) (fun _ _ _ h => h) (Or.inl ⟨by rfl, ?_⟩) hHeld ?_
  rotate_left
  focus (intro w hSw; (try dsimp only at hSw); go_simp; try (with_reducible rfl))
  try simp only [Act.put, List.setIfInBounds_toArray, List.set_cons_zero, List.set_cons_succ]
  refine wpAnyL_take 12 (i := 2) (oi := ⟨some 11, _, _, _, _, _⟩) (v := ?_) rfl (by kernel_rfl) (by kernel_rfl) (by kernel_rfl) (by kernel_rfl) (by kernel_rfl) (by kernel_rfl) (by kernel_rfl) (fun _ _ _ h => h) (Or.inl ⟨by rfl, ?_⟩) hHeld ?_
  rotate_left
  focus (intro w hSw; (try dsimp only at hSw); go_simp; try (with_reducible rfl))
  try simp only [Act.put, List.setIfInBounds_toArray, List.set_cons_zero, List.set_cons_succ]
  refine wpAnyL_take 12 (i := 3) (oi := ⟨some 12, _, _, _, _, _⟩) (v := ?_) rfl (by kernel_rfl) (by kernel_rfl) (by kernel_rfl) (by kernel_rfl) (by kernel_rfl) (by kernel_rfl) (by kernel_rfl) (fun _ _ _ h => h) (Or.inl ⟨by rfl, ?_⟩) hHeld ?_
  rotate_left
  focus (intro w hSw; (try dsimp only at hSw); go_simp; try (with_reducible rfl))
  try simp only [Act.put, List.setIfInBounds_toArray, List.set_cons_zero, List.set_cons_succ]
  refine wpAnyL_take 12 (i := 4) (oi := ⟨some 13, _, _, _, _, _⟩) (v := ?_) rfl (by kernel_rfl) (by kernel_rfl) (by kernel_rfl) (by kernel_rfl) (by kernel_rfl) (by kernel_rfl) (by kernel_rfl) (fun _ _ _ h => h) (Or.inl ⟨by rfl, ?_⟩) hHeld ?_
  rotate_left
  focus (intro w hSw; (try dsimp only at hSw); go_simp; try (with_reducible rfl))
  try simp only [Act.put, List.setIfInBounds_toArray, List.set_cons_zero, List.set_cons_succ]
  refine wpAnyL_one (i := 5) (o := ⟨some 14, _, _, _, _, _⟩) (by kernel_rfl) rfl (fun K hK => ?_)
  clear hHeld
  go_simp
  refine (HCO.out _).mono ?_
  rintro e w2 ⟨rfl, rfl⟩
  go_wp2_with fail
  refine hK.out _ _ trivial (fun hHeld => ?_)
  clear hK K
  try simp only [Act.put, List.setIfInBounds_toArray, List.set_cons_zero, List.set_cons_succ]
  refine wpAnyL_last (i := 6) (o := ⟨some 15, _, _, _, _, _⟩) (by kernel_rfl) rfl (by kernel_rfl) (fun K hK => ?_)
  clear hHeld
  go_simp
  refine (take_ok2 X _ v l F fr d cn hno hfl hfd hfn _ (HP1.out.below (Below.refl _ _).drew) rfl (RdI.below H.out.free.int hB1.drew)).mono ?_
  rintro e w3 ⟨At, ac, rfl, F', d', hac, hAn, hoA, hpl3, hfd3, hFn3, hFr3, hFb3, hon3⟩
  go_wp2_with fail
  refine hK.out _ _ ?_
  clear hK K
  try simp only [Act.put, List.setIfInBounds_toArray, List.set_cons_zero, List.set_cons_succ]
  refine wpAnyL_takeW (i := 7) (oi := ⟨some 6, _, _, _, _, _⟩) (v := ?_) rfl (by kernel_rfl) (by kernel_rfl) (by kernel_rfl) (by kernel_rfl) (fun _ _ _ h => h) (Or.inl ⟨by rfl, ?_⟩) (.inl (by kernel_rfl)) ?_
  rotate_left
  focus (intro w hSw; (try dsimp only at hSw); go_simp; try (with_reducible rfl))
  try simp only [Act.put, List.setIfInBounds_toArray, List.set_cons_zero, List.set_cons_succ]
  refine wpAnyL_done (by kernel_rfl) ?_ _
  refine NoPanic.normal ?_
  have HP3 := Lib.hid hpl3
  have HOA := Lib.hid hoA
  have hs3 := hon3.size
  have hX3 : X < w3.heap.size := hpl3.blk.lt
  have hBd3 : Below w3.heap.size w3 w3.drew := (Below.refl _ _).drew
  have hwd : w1.drew.heap.size = w1.heap.size := rfl
  have HWR : Hid (∀ w6 g6 c6, Below w3.heap.size w3 w6 → w6.ownsRow w3.heap.size 3 1 (.slice (some ⟨g6, 0, none⟩) (cn - 1 + 1) c6) (cn - 1 + 1) (ints (ats.drop 1) ++ [.int .i64 0]) → Calls Tryz.prog 79 #[.pointer (some ⟨X, 1, none⟩), .slice B zs.length dB, .slice At cn ac, .slice (some ⟨g6, 0, none⟩) (cn - 1 + 1) c6] w6 fun e w' => e = .returned (.tuple #[]) ∧ ∃ v' new, Pl X 1 WT ([.slice F' (fr.drop cn).length d', v, .map (some mb)].set 1 v') v' w' (l ++ new) ∧ new.map Ac.st = (List.range cn).map (wact zs ats nxs) ∧ Only X WT w6 w') := Lib.hid fun w6 g6 c6 hB ho6 => by
    have hP6 := HP3.out.below hB
    have hb6 : w6.ownsRow w.heap.size 5 1 (.slice B zs.length dB) zs.length (zs.map (Value.int .u8)) := own_below3 (hon3.own (own_below3 HOB.out (Below.refl _ _).drew (Nat.le_refl _)) (by decide) (by decide)) hB (Nat.le_refl _)
    have ha6 : w6.ownsRow w1.drew.heap.size 3 1 (.slice At cn ac) cn (ints ats) := by
      have := own_below3 HOA.out hB (Nat.le_refl _)
      rw [HATS.out] at this
      exact this
    have hn6 : w6.ownsRow w3.heap.size 3 1 (.slice (some ⟨g6, 0, none⟩) (cn - 1 + 1) c6) (cn - 1 + 1) (ints nxs) := by
      have e : ints (ats.drop 1) ++ [.int .i64 0] = ints nxs := by rw [← HNXS.out, ints_snoc]
      rw [← e]
      exact ho6
    have hcn1 : cn - 1 + 1 = cn := by omega
    have := write_any_in X _ v l hll ⟨B, zs, dB⟩ (by show zs.length ≤ _; omega) hdB HZO.out At (some ⟨g6, 0, none⟩) ac c6 ats nxs (by rw [HAL.out]; exact HCN.out.symm) (by rw [HNL.out]; exact HCN.out.symm) HNX.out w6 hP6
      (fun W hW => RdB.of_row (hW.own hb6 (by decide) (by decide))) (fun W hW => RdI.of_row (hW.own ha6 (by decide) (by decide))) (fun W hW => RdI.of_row (hW.own hn6 (by decide) (by decide)))
    rw [HAL.out, HNL.out] at this
    rw [hcn1]
    simp only [HCN.out] at this
    exact this
  have HCPY : Hid (∀ A1 c1 W, (A1 = none → c1 = 0) → RdI W A1 (ats.drop 1) → Calls Tryz.prog 77 #[.slice A1 (cn - 1) c1] W fun e w' => ∃ v, e = .returned v ∧ w'.ownsRow W.heap.size 3 1 v (cn - 1) (ints (ats.drop 1)) ∧ Below W.heap.size W w') := Lib.hid fun A1 c1 W hA hr => copyI_any A1 (cn - 1) c1 (ats.drop 1) (by rw [List.length_drop, HAL.out]) hA (by omega) W hr
  have HRA : Hid (∀ W, Below w3.heap.size w3 W → RdI W At ats) := Lib.hid fun W hB => by
    have := RdI.of_row (own_below3 HOA.out hB (Nat.le_refl _))
    rw [HATS.out] at this
    exact this
  have HFIN : Hid (∀ w6 w7 v' new, Below w3.heap.size w3 w6 → Pl X 1 WT ([.slice F' (fr.drop cn).length d', v, .map (some mb)].set 1 v') v' w7 (l ++ new) → new.map Ac.st = (List.range cn).map (wact zs ats nxs) → Only X WT w6 w7 → IdxOk base X F fr mb n D os l zs w w7 At ac) := Lib.hid fun w6 w7 v' new hB6 hp7 hn7 ho7 => by
    have ho36 : Only X WT w3 w6 := Only.of_below hB6 (Nat.le_of_lt hX3)
    have ho1 : Only X WT w w1.drew := Only.of_below hB1.drew (Nat.le_of_lt hXl)
    have hoall := ((ho1.trans hon3).trans ho36).trans ho7
    refine ⟨F', d', v', new, ?_, by rw [HCN.out]; exact hac, ?_, ?_, hoall⟩
    · rw [HCN.out]
      refine own_base ((ho36.trans ho7).own HOA.out (by decide) (by decide)) ?_
      rw [hwd]; exact hs1
    · rw [HCN.out]
      exact H.out.move hp7 hoall (fun hu => hu.of_int hFr3 hFb3) hfd3 hFn3
    · rw [HCN.out, HATS.out, HNXS.out]
      exact hn7
  have HAC : Hid (At ≠ none) := Lib.hid fun e => by
    have h9 := HRA.out w3 (Below.refl _ _)
    rw [e] at h9
    obtain ⟨b, off, e2, _⟩ := h9 (by intro e3; have := congrArg List.length e3; simp [HAL.out] at this; omega)
    cases e2
  have hcni : (1 : Int) ≤ cn := by omega
  have haci : (1 : Int) ≤ ac := by omega
  have hcci : (cn : Int) ≤ ac := by omega
  clear hpl3 hoA
  by_cases hac1 : ac = 1
  · obtain rfl : cn = 1 := by omega
    subst hac1
    have hd0 : ats.drop 1 = [] := List.drop_eq_nil_of_le (by rw [HAL.out]; omega)
    have hr1 : ∀ W, RdI W At (ats.drop 1) := fun W => by rw [hd0]; exact RdI.nil _ _
    go_wp2
    refine wp_region_noPanic ?_
    refine wp_region_last 10 (fun _ => True) (by kernel_rfl) trivial (fun hHeld => ?_)
    refine wpAnyL_take 12 (i := 0) (oi := ⟨some 16, _, _, _, _, _⟩) (v := ?_) rfl (by kernel_rfl) (by kernel_rfl) (by kernel_rfl) (by kernel_rfl) (by kernel_rfl) (by kernel_rfl) (by kernel_rfl) (fun _ _ _ h => h) (Or.inl ⟨by rfl, ?_⟩) hHeld ?_
    rotate_left
    focus (intro w hSw; (try dsimp only at hSw); go_simp; try (with_reducible rfl))
    try simp only [Act.put, List.setIfInBounds_toArray, List.set_cons_zero, List.set_cons_succ]
    refine wpAnyL_take 12 (i := 1) (oi := ⟨some 17, _, _, _, _, _⟩) (v := ?_) rfl (by kernel_rfl) (by kernel_rfl) (by kernel_rfl) (by kernel_rfl) (by kernel_rfl) (by kernel_rfl) (by kernel_rfl) (fun _ _ _ h => h) (Or.inl ⟨by rfl, ?_⟩) hHeld ?_
    rotate_left
    focus (intro w hSw; (try dsimp only at hSw); go_simp; try (with_reducible rfl))
    try simp only [Act.put, List.setIfInBounds_toArray, List.set_cons_zero, List.set_cons_succ]
    refine wpAnyL_take 12 (i := 2) (oi := ⟨some 18, _, _, _, _, _⟩) (v := ?_) rfl (by kernel_rfl) (by kernel_rfl) (by kernel_rfl) (by kernel_rfl) (by kernel_rfl) (by kernel_rfl) (by kernel_rfl) (fun _ _ _ h => h) (Or.inl ⟨by rfl, ?_⟩) hHeld ?_
    rotate_left
    focus (intro w hSw; (try dsimp only at hSw); go_simp; try (with_reducible rfl))
    try simp only [Act.put, List.setIfInBounds_toArray, List.set_cons_zero, List.set_cons_succ]
    refine wpAnyL_take 12 (i := 3) (oi := ⟨some 19, _, _, _, _, _⟩) (v := ?_) rfl (by kernel_rfl) (by kernel_rfl) (by kernel_rfl) (by kernel_rfl) (by kernel_rfl) (by kernel_rfl) (by kernel_rfl) (fun _ _ _ h => h) (Or.inl ⟨by rfl, ?_⟩) hHeld ?_
    rotate_left
    focus (intro w hSw; (try dsimp only at hSw); go_simp; try (with_reducible rfl))
    try simp only [Act.put, List.setIfInBounds_toArray, List.set_cons_zero, List.set_cons_succ]
    refine wpAnyL_take 12 (i := 4) (oi := ⟨some 20, _, _, _, _, _⟩) (v := ?_) rfl (by kernel_rfl) (by kernel_rfl) (by kernel_rfl) (by kernel_rfl) (by kernel_rfl) (by kernel_rfl) (by kernel_rfl) (fun _ _ _ h => h) (Or.inl ⟨by rfl, ?_⟩) hHeld ?_
    rotate_left
    focus (intro w hSw; (try dsimp only at hSw); go_simp; try (with_reducible rfl))
    try simp only [Act.put, List.setIfInBounds_toArray, List.set_cons_zero, List.set_cons_succ]
    refine wpAnyL_take 12 (i := 5) (oi := ⟨some 21, _, _, _, _, _⟩) (v := ?_) rfl (by kernel_rfl) (by kernel_rfl) (by kernel_rfl) (by kernel_rfl) (by kernel_rfl) (by kernel_rfl) (by kernel_rfl) (fun _ _ _ h => h) (Or.inl ⟨by rfl, ?_⟩) hHeld ?_
    rotate_left
    focus (intro w hSw; (try dsimp only at hSw); go_simp; try (with_reducible rfl))
    try simp only [Act.put, List.setIfInBounds_toArray, List.set_cons_zero, List.set_cons_succ]
    refine wpAnyL_take 12 (i := 6) (oi := ⟨some 22, _, _, _, _, _⟩) (v := ?_) rfl (by kernel_rfl) (by kernel_rfl) (by kernel_rfl) (by kernel_rfl) (by kernel_rfl) (by kernel_rfl) (by kernel_rfl) (fun _ _ _ h => h) (Or.inl ⟨by rfl, ?_⟩) hHeld ?_
    rotate_left
    focus (intro w hSw; (try dsimp only at hSw); go_simp; try (with_reducible rfl))
    try simp only [Act.put, List.setIfInBounds_toArray, List.set_cons_zero, List.set_cons_succ]
    refine wpAnyL_two (i := 7) (k := 8) (o := ⟨some 23, _, _, _, _, _⟩) (p := ⟨some 24, _, _, _, _, _⟩) (by kernel_rfl) rfl rfl (fun K hK => ?_) (fun K hK => ?_)
    focus
      clear hHeld
      go_simp
      refine (HCPY.out At 0 _ (fun _ => rfl) (hr1 _)).mono ?_
      rintro e w4 ⟨u4, rfl, ho4, hB4⟩
      have hB34 : Below w3.heap.size w3 w4 := hBd3.trans hB4
      go_wp2_with fail
      refine hK.out _ _ trivial (fun hHeld => ?_)
      clear hK K
      try simp only [Act.put, List.setIfInBounds_toArray, List.set_cons_zero, List.set_cons_succ]
      refine wpAnyL_one (i := 8) (o := ⟨some 24, _, _, _, _, _⟩) (by kernel_rfl) rfl (fun K hK => ?_)
      clear hHeld
      go_simp
      have hB5 : Below w3.heap.size w3 (w4.alloc (.cells #[.int .i64 0] 3)) := hB34.alloc hB34.size _
      have HO5 := Lib.hid (own_below ho4 ((Below.refl _ _).alloc (Nat.le_refl _) (.cells #[.int .i64 0] 3)) (Nat.le_refl _))
      have HN5 := Lib.hid (news_new w4 [Value.int .i64 0] 3)
      have hW5s : w3.heap.size ≤ (w4.alloc (.cells #[.int .i64 0] 3)).heap.size := hB5.size
      go_wp2_with fail
      refine hK.out _ _ trivial (fun hHeld => ?_)
      clear hK K
      try simp only [Act.put, List.setIfInBounds_toArray, List.set_cons_zero, List.set_cons_succ]
      refine wpAnyL_one (i := 9) (o := ⟨some 25, _, _, _, _, _⟩) (by kernel_rfl) rfl (fun K hK => ?_)
      clear hHeld
      refine step_append_lies (o := ⟨some 25, _, _, _, _, _⟩) _ (by rfl) _ _ 30 (by rfl) w3.heap.size 3 i0 (.int .i64 0) 1 8 Tryz.underlying30 hi hz0 hz1 hz2 rfl (by omega) u4 0 (ints (ats.drop 1)) (by rfl) HO5.out ⟨w4.heap.size, 0, none⟩ 1 1 [.int .i64 0] (by rfl) rfl HN5.out (by simp [Value.oneCell']) (by omega) (by unfold maxLen; omega) (by omega) hW5s _ rfl ?_
      intro g6 c6 w6 ho6 hg6 hg6' hl6
      have hB6 : Below w3.heap.size w3 w6 := hB5.grown hg6 hW5s (fun j e => (HO5.out.lt j e).1)
      refine hK.out _ _ trivial (fun hHeld => ?_)
      clear hK K
      try simp only [Act.put, List.setIfInBounds_toArray, List.set_cons_zero, List.set_cons_succ]
      refine wpAnyL_last (i := 10) (o := ⟨some 26, _, _, _, _, _⟩) (by kernel_rfl) rfl (by kernel_rfl) (fun K hK => ?_)
      clear hHeld
      go_simp
      have HX := Lib.hid (HWR.out w6 g6 c6 hB6 ho6)
      refine HX.out.mono ?_
      rintro e w7 ⟨rfl, v', new, hp7, hn7, ho7⟩
      have HF7 := Lib.hid (HFIN.out w6 w7 v' new hB6 hp7 hn7 ho7)
      go_wp2_with fail
      refine hK.out _ _ ?_
      clear hK K
      try simp only [Act.put, List.setIfInBounds_toArray, List.set_cons_zero, List.set_cons_succ]
      refine wpAnyL_done (by kernel_rfl) ?_ _
      refine NoPanic.normal ?_
    rotate_left
    focus
      clear hHeld
      go_simp
      have hBa : Below w3.heap.size w3 (w3.drew.alloc (.cells #[.int .i64 0] 3)) := hBd3.alloc hBd3.size _
      go_wp2_with fail
      refine hK.out _ _ trivial (fun hHeld => ?_)
      clear hK K
      try simp only [Act.put, List.setIfInBounds_toArray, List.set_cons_zero, List.set_cons_succ]
      refine wpAnyL_one (i := 7) (o := ⟨some 23, _, _, _, _, _⟩) (by kernel_rfl) rfl (fun K hK => ?_)
      clear hHeld
      go_simp
      refine (HCPY.out At 0 _ (fun _ => rfl) (hr1 _)).mono ?_
      rintro e w4 ⟨u4, rfl, ho4, hB4⟩
      have hB5 : Below w3.heap.size w3 w4 := hBa.trans (hB4.mono hBa.size)
      have HO5 := Lib.hid (own_below ho4 (Below.refl _ _) hBa.size)
      have HN5 : Hid (∀ j u, [Value.int .i64 0][j]? = some u → w4.cell? (Addr.add ⟨w3.heap.size, 0, none⟩ j) = some u) := Lib.hid fun j u hu => (by rw [add_plain, Nat.zero_add]; exact (hB4.cell (p := ⟨w3.heap.size, j, none⟩) (by simp)).trans (((Blk.new w3.drew [Value.int .i64 0] 3).cell j).trans hu))
      have hW5s : w3.heap.size ≤ w4.heap.size := hB5.size
      go_wp2_with fail
      refine hK.out _ _ trivial (fun hHeld => ?_)
      clear hK K
      try simp only [Act.put, List.setIfInBounds_toArray, List.set_cons_zero, List.set_cons_succ]
      refine wpAnyL_one (i := 9) (o := ⟨some 25, _, _, _, _, _⟩) (by kernel_rfl) rfl (fun K hK => ?_)
      clear hHeld
      refine step_append_lies (o := ⟨some 25, _, _, _, _, _⟩) _ (by rfl) _ _ 30 (by rfl) w3.heap.size 3 i0 (.int .i64 0) 1 8 Tryz.underlying30 hi hz0 hz1 hz2 rfl (by omega) u4 0 (ints (ats.drop 1)) (by rfl) HO5.out ⟨w3.heap.size, 0, none⟩ 1 1 [.int .i64 0] (by rfl) rfl HN5.out (by simp [Value.oneCell']) (by omega) (by unfold maxLen; omega) (by omega) hW5s _ rfl ?_
      intro g6 c6 w6 ho6 hg6 hg6' hl6
      have hB6 : Below w3.heap.size w3 w6 := hB5.grown hg6 hW5s (fun j e => (HO5.out.lt j e).1)
      refine hK.out _ _ trivial (fun hHeld => ?_)
      clear hK K
      try simp only [Act.put, List.setIfInBounds_toArray, List.set_cons_zero, List.set_cons_succ]
      refine wpAnyL_last (i := 10) (o := ⟨some 26, _, _, _, _, _⟩) (by kernel_rfl) rfl (by kernel_rfl) (fun K hK => ?_)
      clear hHeld
      go_simp
      have HX := Lib.hid (HWR.out w6 g6 c6 hB6 ho6)
      refine HX.out.mono ?_
      rintro e w7 ⟨rfl, v', new, hp7, hn7, ho7⟩
      have HF7 := Lib.hid (HFIN.out w6 w7 v' new hB6 hp7 hn7 ho7)
      go_wp2_with fail
      refine hK.out _ _ ?_
      clear hK K
      try simp only [Act.put, List.setIfInBounds_toArray, List.set_cons_zero, List.set_cons_succ]
      refine wpAnyL_done (by kernel_rfl) ?_ _
      refine NoPanic.normal ?_
    rotate_left
    all_goals (go_wp2; go_ret; exact ⟨_, _, rfl, HF7.out⟩)
  · obtain ⟨ab, ao, rfl⟩ : ∃ b o, At = some ⟨b, o, none⟩ := by
      obtain ⟨b, off, e2, _⟩ := HRA.out w3 (Below.refl _ _) (by intro e3; have := congrArg List.length e3; simp [HAL.out] at this; omega)
      exact ⟨b, off, e2⟩
    have hr1 : ∀ W, Below w3.heap.size w3 W → RdI W (some ⟨ab, ao + 1, none⟩) (ats.drop 1) := fun W hB => rdI_dropAdd (HRA.out W hB) 1
    obtain ⟨m, rfl⟩ : ∃ m, cn = m + 1 := ⟨cn - 1, by omega⟩
    obtain ⟨q, rfl⟩ : ∃ q, ac = q + 1 := ⟨ac - 1, by omega⟩
    have hq0 : ¬ q = 0 := by omega
    have h1m : (1 : Int) ≤ (m : Int) + 1 := by omega
    have h1q : (1 : Int) ≤ (q : Int) + 1 := by omega
    have hmq : m ≤ q := by omega
    simp only [Nat.add_sub_cancel] at HWR HCPY
    go_wp2
    refine wp_region_noPanic ?_
    refine wp_region_last 10 (fun _ => True) (by kernel_rfl) trivial (fun hHeld => ?_)
    refine wpAnyL_take 12 (i := 0) (oi := ⟨some 16, _, _, _, _, _⟩) (v := ?_) rfl (by kernel_rfl) (by kernel_rfl) (by kernel_rfl) (by kernel_rfl) (by kernel_rfl) (by kernel_rfl) (by kernel_rfl) (fun _ _ _ h => h) (Or.inl ⟨by rfl, ?_⟩) hHeld ?_
    rotate_left
    focus (intro w hSw; (try dsimp only at hSw); go_simp; try (with_reducible rfl))
    try simp only [Act.put, List.setIfInBounds_toArray, List.set_cons_zero, List.set_cons_succ]
    refine wpAnyL_take 12 (i := 1) (oi := ⟨some 17, _, _, _, _, _⟩) (v := ?_) rfl (by kernel_rfl) (by kernel_rfl) (by kernel_rfl) (by kernel_rfl) (by kernel_rfl) (by kernel_rfl) (by kernel_rfl) (fun _ _ _ h => h) (Or.inl ⟨by rfl, ?_⟩) hHeld ?_
    rotate_left
    focus (intro w hSw; (try dsimp only at hSw); go_simp; try (with_reducible rfl))
    try simp only [Act.put, List.setIfInBounds_toArray, List.set_cons_zero, List.set_cons_succ]
    refine wpAnyL_take 12 (i := 2) (oi := ⟨some 18, _, _, _, _, _⟩) (v := ?_) rfl (by kernel_rfl) (by kernel_rfl) (by kernel_rfl) (by kernel_rfl) (by kernel_rfl) (by kernel_rfl) (by kernel_rfl) (fun _ _ _ h => h) (Or.inl ⟨by rfl, ?_⟩) hHeld ?_
    rotate_left
    focus (intro w hSw; (try dsimp only at hSw); go_simp; try (with_reducible rfl))
    try simp only [Act.put, List.setIfInBounds_toArray, List.set_cons_zero, List.set_cons_succ]
    refine wpAnyL_take 12 (i := 3) (oi := ⟨some 19, _, _, _, _, _⟩) (v := ?_) rfl (by kernel_rfl) (by kernel_rfl) (by kernel_rfl) (by kernel_rfl) (by kernel_rfl) (by kernel_rfl) (by kernel_rfl) (fun _ _ _ h => h) (Or.inl ⟨by rfl, ?_⟩) hHeld ?_
    rotate_left
    focus (intro w hSw; (try dsimp only at hSw); go_simp; try (with_reducible rfl))
    try simp only [Act.put, List.setIfInBounds_toArray, List.set_cons_zero, List.set_cons_succ]
    refine wpAnyL_take 12 (i := 4) (oi := ⟨some 20, _, _, _, _, _⟩) (v := ?_) rfl (by kernel_rfl) (by kernel_rfl) (by kernel_rfl) (by kernel_rfl) (by kernel_rfl) (by kernel_rfl) (by kernel_rfl) (fun _ _ _ h => h) (Or.inl ⟨by rfl, ?_⟩) hHeld ?_
    rotate_left
    focus (intro w hSw; (try dsimp only at hSw); go_simp; try (with_reducible rfl))
    try simp only [Act.put, List.setIfInBounds_toArray, List.set_cons_zero, List.set_cons_succ]
    refine wpAnyL_take 12 (i := 5) (oi := ⟨some 21, _, _, _, _, _⟩) (v := ?_) rfl (by kernel_rfl) (by kernel_rfl) (by kernel_rfl) (by kernel_rfl) (by kernel_rfl) (by kernel_rfl) (by kernel_rfl) (fun _ _ _ h => h) (Or.inl ⟨by rfl, ?_⟩) hHeld ?_
    rotate_left
    focus (intro w hSw; (try dsimp only at hSw); go_simp; try (with_reducible rfl))
    try simp only [Act.put, List.setIfInBounds_toArray, List.set_cons_zero, List.set_cons_succ]
    refine wpAnyL_take 12 (i := 6) (oi := ⟨some 22, _, _, _, _, _⟩) (v := ?_) rfl (by kernel_rfl) (by kernel_rfl) (by kernel_rfl) (by kernel_rfl) (by kernel_rfl) (by kernel_rfl) (by kernel_rfl) (fun _ _ _ h => h) (Or.inl ⟨by rfl, ?_⟩) hHeld ?_
    rotate_left
    focus (intro w hSw; (try dsimp only at hSw); go_simp; try (with_reducible rfl))
    try simp only [Act.put, List.setIfInBounds_toArray, List.set_cons_zero, List.set_cons_succ]
    refine wpAnyL_two (i := 7) (k := 8) (o := ⟨some 23, _, _, _, _, _⟩) (p := ⟨some 24, _, _, _, _, _⟩) (by kernel_rfl) rfl rfl (fun K hK => ?_) (fun K hK => ?_)
    focus
      clear hHeld
      go_simp
      refine (HCPY.out (some ⟨ab, ao + 1, none⟩) q _ (fun e => by cases e) (hr1 _ hBd3)).mono ?_
      rintro e w4 ⟨u4, rfl, ho4, hB4⟩
      have hB34 : Below w3.heap.size w3 w4 := hBd3.trans hB4
      go_wp2_with fail
      refine hK.out _ _ trivial (fun hHeld => ?_)
      clear hK K
      try simp only [Act.put, List.setIfInBounds_toArray, List.set_cons_zero, List.set_cons_succ]
      refine wpAnyL_one (i := 8) (o := ⟨some 24, _, _, _, _, _⟩) (by kernel_rfl) rfl (fun K hK => ?_)
      clear hHeld
      go_simp
      have hB5 : Below w3.heap.size w3 (w4.alloc (.cells #[.int .i64 0] 3)) := hB34.alloc hB34.size _
      have HO5 := Lib.hid (own_below ho4 ((Below.refl _ _).alloc (Nat.le_refl _) (.cells #[.int .i64 0] 3)) (Nat.le_refl _))
      have HN5 := Lib.hid (news_new w4 [Value.int .i64 0] 3)
      have hW5s : w3.heap.size ≤ (w4.alloc (.cells #[.int .i64 0] 3)).heap.size := hB5.size
      go_wp2_with fail
      refine hK.out _ _ trivial (fun hHeld => ?_)
      clear hK K
      try simp only [Act.put, List.setIfInBounds_toArray, List.set_cons_zero, List.set_cons_succ]
      refine wpAnyL_one (i := 9) (o := ⟨some 25, _, _, _, _, _⟩) (by kernel_rfl) rfl (fun K hK => ?_)
      clear hHeld
      refine step_append_lies (o := ⟨some 25, _, _, _, _, _⟩) _ (by rfl) _ _ 30 (by rfl) w3.heap.size 3 i0 (.int .i64 0) 1 8 Tryz.underlying30 hi hz0 hz1 hz2 rfl (by omega) u4 m (ints (ats.drop 1)) (by rfl) HO5.out ⟨w4.heap.size, 0, none⟩ 1 1 [.int .i64 0] (by rfl) rfl HN5.out (by simp [Value.oneCell']) (by omega) (by unfold maxLen; omega) (by omega) hW5s _ rfl ?_
      intro g6 c6 w6 ho6 hg6 hg6' hl6
      have hB6 : Below w3.heap.size w3 w6 := hB5.grown hg6 hW5s (fun j e => (HO5.out.lt j e).1)
      refine hK.out _ _ trivial (fun hHeld => ?_)
      clear hK K
      try simp only [Act.put, List.setIfInBounds_toArray, List.set_cons_zero, List.set_cons_succ]
      refine wpAnyL_last (i := 10) (o := ⟨some 26, _, _, _, _, _⟩) (by kernel_rfl) rfl (by kernel_rfl) (fun K hK => ?_)
      clear hHeld
      go_simp
      have HX := Lib.hid (HWR.out w6 g6 c6 hB6 ho6)
      refine HX.out.mono ?_
      rintro e w7 ⟨rfl, v', new, hp7, hn7, ho7⟩
      have HF7 := Lib.hid (HFIN.out w6 w7 v' new hB6 hp7 hn7 ho7)
      go_wp2_with fail
      refine hK.out _ _ ?_
      clear hK K
      try simp only [Act.put, List.setIfInBounds_toArray, List.set_cons_zero, List.set_cons_succ]
      refine wpAnyL_done (by kernel_rfl) ?_ _
      refine NoPanic.normal ?_
    rotate_left
    focus
      clear hHeld
      go_simp
      have hBa : Below w3.heap.size w3 (w3.drew.alloc (.cells #[.int .i64 0] 3)) := hBd3.alloc hBd3.size _
      go_wp2_with fail
      refine hK.out _ _ trivial (fun hHeld => ?_)
      clear hK K
      try simp only [Act.put, List.setIfInBounds_toArray, List.set_cons_zero, List.set_cons_succ]
      refine wpAnyL_one (i := 7) (o := ⟨some 23, _, _, _, _, _⟩) (by kernel_rfl) rfl (fun K hK => ?_)
      clear hHeld
      go_simp
      refine (HCPY.out (some ⟨ab, ao + 1, none⟩) q _ (fun e => by cases e) (hr1 _ hBa)).mono ?_
      rintro e w4 ⟨u4, rfl, ho4, hB4⟩
      have hB5 : Below w3.heap.size w3 w4 := hBa.trans (hB4.mono hBa.size)
      have HO5 := Lib.hid (own_below ho4 (Below.refl _ _) hBa.size)
      have HN5 : Hid (∀ j u, [Value.int .i64 0][j]? = some u → w4.cell? (Addr.add ⟨w3.heap.size, 0, none⟩ j) = some u) := Lib.hid fun j u hu => (by rw [add_plain, Nat.zero_add]; exact (hB4.cell (p := ⟨w3.heap.size, j, none⟩) (by simp)).trans (((Blk.new w3.drew [Value.int .i64 0] 3).cell j).trans hu))
      have hW5s : w3.heap.size ≤ w4.heap.size := hB5.size
      go_wp2_with fail
      refine hK.out _ _ trivial (fun hHeld => ?_)
      clear hK K
      try simp only [Act.put, List.setIfInBounds_toArray, List.set_cons_zero, List.set_cons_succ]
      refine wpAnyL_one (i := 9) (o := ⟨some 25, _, _, _, _, _⟩) (by kernel_rfl) rfl (fun K hK => ?_)
      clear hHeld
      refine step_append_lies (o := ⟨some 25, _, _, _, _, _⟩) _ (by rfl) _ _ 30 (by rfl) w3.heap.size 3 i0 (.int .i64 0) 1 8 Tryz.underlying30 hi hz0 hz1 hz2 rfl (by omega) u4 m (ints (ats.drop 1)) (by rfl) HO5.out ⟨w3.heap.size, 0, none⟩ 1 1 [.int .i64 0] (by rfl) rfl HN5.out (by simp [Value.oneCell']) (by omega) (by unfold maxLen; omega) (by omega) hW5s _ rfl ?_
      intro g6 c6 w6 ho6 hg6 hg6' hl6
      have hB6 : Below w3.heap.size w3 w6 := hB5.grown hg6 hW5s (fun j e => (HO5.out.lt j e).1)
      refine hK.out _ _ trivial (fun hHeld => ?_)
      clear hK K
      try simp only [Act.put, List.setIfInBounds_toArray, List.set_cons_zero, List.set_cons_succ]
      refine wpAnyL_last (i := 10) (o := ⟨some 26, _, _, _, _, _⟩) (by kernel_rfl) rfl (by kernel_rfl) (fun K hK => ?_)
      clear hHeld
      go_simp
      have HX := Lib.hid (HWR.out w6 g6 c6 hB6 ho6)
      refine HX.out.mono ?_
      rintro e w7 ⟨rfl, v', new, hp7, hn7, ho7⟩
      have HF7 := Lib.hid (HFIN.out w6 w7 v' new hB6 hp7 hn7 ho7)
      go_wp2_with fail
      refine hK.out _ _ ?_
      clear hK K
      try simp only [Act.put, List.setIfInBounds_toArray, List.set_cons_zero, List.set_cons_succ]
      refine wpAnyL_done (by kernel_rfl) ?_ _
      refine NoPanic.normal ?_
    rotate_left
    all_goals (go_wp2; go_ret; exact ⟨_, _, rfl, HF7.out⟩)

end Go.Proofs.YtmehjmkakkiedaaGreat

namespace Go.Proofs.YtmehjmkakkiedaaGreat
open Go.ChangeShapes Go.WideShapes Go.ChangeAt Go.RowKit Go.Maps
set_option maxRecDepth 100000

theorem clone2_any (s : ByteArray) (hs : s.size ≤ 281474976710656) (w : World) :
    Calls Tryz.prog 75 #[.string s] w fun e w' => e = .returned (.string s) ∧ Below w.heap.size w w' := by
  have HC := Lib.hid (Tryz.stringslite_Clone s w hs)
  go_enter Tryz.func75, Tryz.ntmps75
  go_wp2_with fail
  refine HC.out.mono ?_
  rintro e w1 ⟨rfl, hB⟩
  go_wp2
  go_ret
  exact ⟨rfl, hB⟩

/-- What object leaves: the object as it is laid. -/
def ObjOk (base X : Nat) (fr : List Int) (mb n : Nat) (D : Dv2) (os : List Ob) (l : List Ac) (x : Ob) (w w' : World) (y : Ob) : Prop :=
  y.key = x.key ∧ y.d.zs = x.d.zs ∧ w'.ownsRow w.heap.size 5 1 y.d.val y.d.zs.length (octCells y.d.zs) ∧ w'.ownsRow w.heap.size 3 1 (.slice y.B y.ns.length y.e) y.ns.length (ints y.ns) ∧
  ∃ F' fr' d' v' new, WrAt base X w' F' fr' d' mb n D os v' (l ++ new) ∧ Only X WT w w' ∧
    ((∃ o ∈ os, o.key = x.key ∧ o.d.zs = x.d.zs ∧ y.ns = o.ns ∧ fr' = fr ∧ new = []) ∨
     ((∀ o ∈ os, o.key = x.key → o.d.zs ≠ x.d.zs) ∧ cntN x.d.zs.length ≤ fr.length ∧ y.ns = fr.take (cntN x.d.zs.length) ∧ fr' = fr.drop (cntN x.d.zs.length) ∧ new.map Ac.st = (List.range (cntN x.d.zs.length)).map (wact x.d.zs y.ns (List.replicate (cntN x.d.zs.length) 0))))
/-- There is no room for it. -/
def ObjNo (fr : List Int) (os : List Ob) (x : Ob) : Prop := (∀ o ∈ os, o.key = x.key → o.d.zs ≠ x.d.zs) ∧ fr.length < cntN x.d.zs.length
/-- What is known of an object that is there. -/
structure OldOb (X : Nat) (w : World) (o : Ob) : Prop where
  d : RdU X w o.d.A (octCells o.d.zs)
  n : RdU X w o.B (ints o.ns)
  octs : Octs o.d.zs
  nl : o.ns.length ≤ 1048576
  en : o.B = none → o.e = 0

theorem set4_heap (w : World) (Y R : Nat) (a b c e : Value) : ∀ k, k ≠ Y → k ≠ R → ((((w.setCell ⟨Y, 2, none⟩ a).setCell ⟨R, 0, none⟩ b).setCell ⟨R, 1, none⟩ c).setCell ⟨R, 2, none⟩ e).heap[k]? = w.heap[k]? := fun k h1 h2 => by
  simp only [World.setCell, Array.getElem?_modify]
  rw [if_neg (Ne.symm h2), if_neg (Ne.symm h2), if_neg (Ne.symm h2), if_neg (Ne.symm h1)]
theorem set4_below (w : World) (n Y R : Nat) (a b c e : Value) (h1 : n ≤ Y) (h2 : n ≤ R) : Below n w ((((w.setCell ⟨Y, 2, none⟩ a).setCell ⟨R, 0, none⟩ b).setCell ⟨R, 1, none⟩ c).setCell ⟨R, 2, none⟩ e) :=
  ((((Below.refl n w).setCell (p := ⟨Y, 2, none⟩) h1 _).setCell (p := ⟨R, 0, none⟩) h2 _).setCell (p := ⟨R, 1, none⟩) h2 _).setCell (p := ⟨R, 2, none⟩) h2 _

theorem Only.setNew {X : Nat} {T : TypeId} {w W : World} (h : Only X T w W) {Y : Nat} (hX : X < w.heap.size) (hY : w.heap.size ≤ Y) (j : Nat) (u : Value) : Only X T w (W.setCell ⟨Y, j, none⟩ u) :=
  ⟨h.below.setCell (p := ⟨Y, j, none⟩) (by simp; omega) _, fun k cur t z hk h1 h2 => by
    have hkl := (Array.getElem?_eq_some_iff.1 hk).1
    rw [← h.other k cur t z hk h1 h2]
    simp only [World.setCell, Array.getElem?_modify]
    rw [if_neg (by omega)]⟩
theorem set_heap (W : World) (Y j : Nat) (u : Value) : ∀ k, k ≠ Y → (W.setCell ⟨Y, j, none⟩ u).heap[k]? = W.heap[k]? := fun k h => by
  simp only [World.setCell, Array.getElem?_modify]
  rw [if_neg (Ne.symm h)]
theorem own_setFar {W : World} {Y j : Nat} {u : Value} {t : TypeId} {us : List Value} (hY : Blk W Y t us) {base size k : Nat} {e : TypeId} {v : Value} {xs : List Value} (h : W.ownsRow base e size v k xs) (he : t ≠ e) : (W.setCell ⟨Y, j, none⟩ u).ownsRow base e size v k xs :=
  own_stay h fun b hb => set_heap W Y j u b fun e' => blk_apart hY h he (e' ▸ hb)
theorem Pl.setFar {X j i Y : Nat} {T t : TypeId} {vs us : List Value} {v u : Value} {W : World} {l : List Ac} (h : Pl X j T vs v W l) (hY : Blk W Y t us) (h1 : t ≠ T) (h2 : t ≠ 82) (h3 : t ≠ 5) : Pl X j T vs v (W.setCell ⟨Y, i, none⟩ u) l := by
  have hne : X ≠ Y := fun e => by
    subst e
    have := h.blk.symm.trans hY
    simp at this
    exact h1 this.2.symm
  exact ⟨(set_heap W Y i u X hne).trans h.blk, h.at_, own_setFar hY h.row h2, fun a ha => own_setFar hY (h.data a ha) h3⟩
theorem rd_blk {W : World} {g : Nat} {t : TypeId} {vs : List Value} (h : Blk W g t vs) : Rd W (some ⟨g, 0, none⟩) vs := fun _ => ⟨g, 0, rfl, h.lt, fun j u hu => by rw [Nat.zero_add]; exact (h.cell j).trans hu⟩
theorem key_one {os : List Ob} (hks : os.Pairwise fun a b => a.key ≠ b.key) {a b : Ob} (ha : a ∈ os) (hb : b ∈ os) (h : a.key = b.key) : a = b := by
  obtain ⟨i, hi, rfl⟩ := List.getElem_of_mem ha
  obtain ⟨j, hj, rfl⟩ := List.getElem_of_mem hb
  rcases Nat.lt_trichotomy i j with hij | rfl | hij
  · exact absurd h (List.pairwise_iff_getElem.1 hks i j hi hj hij)
  · rfl
  · exact absurd h.symm (List.pairwise_iff_getElem.1 hks j i hj hi hij)

theorem Pl.set3 {X j R : Nat} {T t : TypeId} {vs : List Value} {v a b c a' b' c' : Value} {W : World} {l : List Ac} (h : Pl X j T vs v W l) (hR : Blk W R t [a, b, c]) (h1 : t ≠ T) (h2 : t ≠ 82) (h3 : t ≠ 5) : Pl X j T vs v (((W.setCell ⟨R, 0, none⟩ a').setCell ⟨R, 1, none⟩ b').setCell ⟨R, 2, none⟩ c') l :=
  ((h.setFar (i := 0) (u := a') hR h1 h2 h3).setFar (i := 1) (u := b') (hR.set 0 a') h1 h2 h3).setFar (i := 2) (u := c') ((hR.set 0 a').set 1 b') h1 h2 h3
theorem own_set3 {R : Nat} {t : TypeId} {a b c a' b' c' : Value} {W : World} (hR : Blk W R t [a, b, c]) {base size k : Nat} {e : TypeId} {v : Value} {xs : List Value} (h : W.ownsRow base e size v k xs) (he : t ≠ e) : (((W.setCell ⟨R, 0, none⟩ a').setCell ⟨R, 1, none⟩ b').setCell ⟨R, 2, none⟩ c').ownsRow base e size v k xs :=
  own_setFar ((hR.set 0 a').set 1 b') (own_setFar (hR.set 0 a') (own_setFar hR h he) he) he

set_option maxHeartbeats 4000000 in
theorem object_any (base X : Nat) (F : Option Addr) (fr : List Int) (d mb n : Nat) (D : Dv2) (os : List Ob) (v : Value) (l : List Ac) (hll : l.length ≤ 900000000) (hfl : fr.length ≤ 1048576) (x : Ob) (hk : x.key.size ≤ 96) (hdl : x.d.zs.length ≤ 65536) (hdc : x.d.zs.length ≤ x.d.c) (hdn : x.d.A = none → x.d.c = 0) (hxo : Octs x.d.zs)
    (w : World) (h : WrAt base X w F fr d mb n D os v l) (hxU : RdU X w x.d.A (octCells x.d.zs)) (hos : ∀ o ∈ os, OldOb X w o) (hks : os.Pairwise fun a b => a.key ≠ b.key) :
    Calls Tryz.prog 53 #[.pointer (some ⟨X, 0, none⟩), x.val] w fun e w' => (∃ y : Ob, e = .returned y.val ∧ ObjOk base X fr mb n D os l x w w' y) ∨ (e = flt 17 ∧ ObjNo fr os x ∧ Below w.heap.size w w') := by
  have hX := h.pl.blk.lt
  have hxr : RdB w x.d.A x.d.zs := hxU.rd
  obtain ⟨vL, hsL, hrunL, hwayL⟩ := map_look h.mp h.mis (k := x.key) (by unfold maxLen; omega)
  have HLK : Hid (∀ W, Below X w W → (Instr.lookup 109 (.map (some mb)) (.string x.key) true).run Tryz.prog W = .ok (.tuple #[vL, .bool hsL]) W) := Lib.hid fun W hB => by
    obtain ⟨v2, hs2, hrun2, hway2⟩ := map_look (own_map_block h.mp (hB.block mb h.mlt)) h.mis (k := x.key) (by unfold maxLen; omega)
    rw [hrun2]
    rcases hwayL with ⟨rfl, o, ho, hko, rfl⟩ | ⟨rfl, hno, rfl⟩ <;> rcases hway2 with ⟨rfl, o2, ho2, hko2, rfl⟩ | ⟨rfl, hno2, rfl⟩
    · have e1 := h.mis.2.2.1 o ho
      have e2 := h.mis.2.2.1 o2 ho2
      rw [hko] at e1
      rw [hko2] at e2
      have e3 : o2.val = o.val := by
        have := e2.symm.trans e1
        injection this
      rw [e3]
    · exact absurd hko (hno2 o ho)
    · exact absurd hko2 (hno o2 ho2)
    · rfl
  have H := Lib.hid h
  have HOS := Lib.hid hos
  have HKS := Lib.hid hks
  have HXU := Lib.hid hxU
  have HWAY := Lib.hid hwayL
  clear h hos hxU hrunL hwayL hks
  have HCL := Lib.hid (fun w => clone2_any x.key (by omega) w)
  have HCP : Hid (∀ W, Below w.heap.size w W → Calls Tryz.prog 45 #[.slice x.d.A x.d.zs.length x.d.c] W fun e w' => ∃ v, e = .returned v ∧ w'.ownsRow W.heap.size 5 1 v x.d.zs.length (octCells x.d.zs) ∧ Below W.heap.size W w') := Lib.hid fun W hB => copyB_any x.d.A x.d.zs.length x.d.c x.d.zs rfl hdn (by omega) W (hxr.below hB)
  obtain ⟨key, ⟨dA, zs, dc⟩, oB, ns, oe⟩ := x
  dsimp only at *
  obtain ⟨w1, hw1⟩ : ∃ w1, (w.alloc (.cells #[.string key, .slice dA zs.length dc, .slice oB ns.length oe] 58)).alloc (.cells #[.string ⟨#[]⟩, .slice none 0 0, .slice none 0 0] 58) = w1 := ⟨_, rfl⟩
  have e1 : w1 = allocs w [([.string key, .slice dA zs.length dc, .slice oB ns.length oe], 58), ([.string ⟨#[]⟩, .slice none 0 0, .slice none 0 0], 58)] := by rw [← hw1]; rfl
  have hB1 : Below w.heap.size w w1 := by rw [e1]; exact allocs_below _ _
  have k0 : Blk w1 w.heap.size 58 [.string key, .slice dA zs.length dc, .slice oB ns.length oe] := by rw [e1]; exact allocs_blk _ w 0 rfl
  have k1 : Blk w1 (w.heap.size + 1) 58 [.string ⟨#[]⟩, .slice none 0 0, .slice none 0 0] := by rw [e1]; exact allocs_blk _ w 1 rfl
  have HK0 := Lib.hid k0
  have HK1 := Lib.hid k1
  have HW1 := Lib.hid hw1
  have hlt1 := k1.lt
  have hS0 : Hid (∀ W, Below w1.heap.size w1 W → W.cell? ⟨w.heap.size, 0, none⟩ = some (.string key) ∧ W.cell? ⟨w.heap.size, 1, none⟩ = some (.slice dA zs.length dc) ∧ W.cell? ⟨w.heap.size, 2, none⟩ = some (.slice oB ns.length oe)) := Lib.hid fun W hB => blk3' (HK0.out.below hB HK0.out.lt)
  clear e1 k0 k1 hw1 hxr
  go_enter Tryz.func53, Tryz.ntmps53
  go_upto_region 1 with fail
  rw [HW1.out]
  refine wp_region_noPanic ?_
  refine wp_region_last 8 (fun W => W.cell? ⟨w.heap.size, 0, none⟩ = some (.string key) ∧ W.cell? ⟨w.heap.size, 1, none⟩ = some (.slice dA zs.length dc) ∧ W.cell? ⟨w.heap.size, 2, none⟩ = some (.slice oB ns.length oe)) (by kernel_rfl) (hS0.out _ (Below.refl _ _).drew) (fun hHeld => ?_)
  refine wpAnyL_take 16 (i := 0) (oi := ⟨some 8, _, _, _, _, _⟩) (v := ?_) rfl (by kernel_rfl) (by kernel_rfl) (by kernel_rfl) (by kernel_rfl) (by kernel_rfl) (by kernel_rfl) (by kernel_rfl) (fun _ _ _ h => h) (Or.inl ⟨by rfl, ?_⟩) hHeld ?_
  rotate_left
  focus (intro w hSw; (try dsimp only at hSw); go_simp; try (with_reducible rfl))
  try simp only [Act.put, List.setIfInBounds_toArray, List.set_cons_zero, List.set_cons_succ]
  refine wpAnyL_take 16 (i := 1) (oi := ⟨some 9, _, _, _, _, _⟩) (v := ?_) rfl (by kernel_rfl) (by kernel_rfl) (by kernel_rfl) (by kernel_rfl) (by kernel_rfl) (by kernel_rfl) (by kernel_rfl) (fun _ _ _ h => h) (Or.inl ⟨by rfl, ?_⟩) hHeld ?_
  rotate_left
  focus (intro w hSw; (try dsimp only at hSw); go_simp; try (with_reducible rfl))
  try simp only [Act.put, List.setIfInBounds_toArray, List.set_cons_zero, List.set_cons_succ]
  refine wpAnyL_take 16 (i := 3) (oi := ⟨some 11, _, _, _, _, _⟩) (v := ?_) rfl (by kernel_rfl) (by kernel_rfl) (by kernel_rfl) (by kernel_rfl) (by kernel_rfl) (by kernel_rfl) (by kernel_rfl) (fun _ _ _ h => h) (Or.inl ⟨by rfl, ?_⟩) hHeld ?_
  rotate_left
  focus (intro w hSw; (try dsimp only at hSw); go_simp; try (with_reducible rfl))
  try simp only [Act.put, List.setIfInBounds_toArray, List.set_cons_zero, List.set_cons_succ]
  refine wpAnyL_take 16 (i := 4) (oi := ⟨some 12, _, _, _, _, _⟩) (v := ?_) rfl (by kernel_rfl) (by kernel_rfl) (by kernel_rfl) (by kernel_rfl) (by kernel_rfl) (by kernel_rfl) (by kernel_rfl) (fun _ _ _ h => h) (Or.inl ⟨by rfl, ?_⟩) hHeld ?_
  rotate_left
  focus (intro w hSw; (try dsimp only at hSw); go_simp; try (with_reducible rfl))
  try simp only [Act.put, List.setIfInBounds_toArray, List.set_cons_zero, List.set_cons_succ]
  clear hHeld
  refine wpAnyL_facts 16 4 1 [(2, 10), (5, 13), (6, 14), (7, 5)] (fun s v w => match s with
    | 10 => v = .string key
    | 13 => ∃ A c, v = .slice A zs.length c ∧ w.ownsRow w1.heap.size 5 1 (.slice A zs.length c) zs.length (octCells zs)
    | 14 => ∃ A c, v = obval key A zs.length c none 0 0 ∧ w.ownsRow w1.heap.size 5 1 (.slice A zs.length c) zs.length (octCells zs)
    | 5 => ∃ Y, v = .pointer (some ⟨Y, 0, none⟩) ∧ w1.heap.size ≤ Y ∧ Blk w Y 58 [.string ⟨#[]⟩, .slice none 0 0, .slice none 0 0]
    | _ => True) (fun w w' => Below w.heap.size w w') (by kernel_rfl) (by kernel_rfl) (fun w w' h h' => h.trans (h'.mono h.size)) ⟨?_, ?_, ?_, ?_, trivial⟩ (fun W h => hS0.out W ((Below.refl _ _).drew.trans h)) ⟨?_, ?_, ?_, ?_, trivial⟩ ?_
  focus
    intro v w w' h hB
    exact h
  focus
    intro v w w' h hB
    exact (by obtain ⟨A, c, e, hb⟩ := h; exact ⟨A, c, e, own_below hb hB (Nat.le_refl _)⟩)
  focus
    intro v w w' h hB
    exact (by obtain ⟨A, c, e, hb⟩ := h; exact ⟨A, c, e, own_below hb hB (Nat.le_refl _)⟩)
  focus
    intro v w w' h hB
    exact (by obtain ⟨X, e, hX, hb⟩ := h; exact ⟨X, e, hX, hb.below hB hb.lt⟩)
  focus
    intro vs w2 hBf hFf o ho K hK
    obtain rfl : (⟨some 10, _, _, _, _, _⟩ : Oper) = o := Option.some.inj ho
    clear ho
    (try simp only [fillL, List.foldl_cons, List.foldl_nil, Act.put, List.setIfInBounds_toArray, List.set_cons_zero, List.set_cons_succ] at hK ⊢)
    go_simp
    refine (HCL.out w2).mono ?_
    rintro e w3 ⟨rfl, hB3⟩
    refine hK.out _ _ ⟨rfl, hB3⟩
  focus
    intro vs w2 hBf hFf o ho K hK
    obtain rfl : (⟨some 13, _, _, _, _, _⟩ : Oper) = o := Option.some.inj ho
    clear ho
    (try simp only [fillL, List.foldl_cons, List.foldl_nil, Act.put, List.setIfInBounds_toArray, List.set_cons_zero, List.set_cons_succ] at hK ⊢)
    go_simp
    refine (HCP.out w2 (hB1.trans (((Below.refl _ _).drew.trans hBf).mono hB1.size))).mono ?_
    rintro e w3 ⟨u, rfl, hown, hB3⟩
    obtain ⟨A3, c3, rfl, _, _, _, _⟩ := own_any hown
    refine hK.out _ _ ⟨⟨A3, c3, rfl, own_below hown (Below.refl _ _) hBf.size⟩, hB3⟩
  focus
    intro vs w2 hBf hFf o ho K hK
    obtain rfl : (⟨some 14, _, _, _, _, _⟩ : Oper) = o := Option.some.inj ho
    clear ho
    (try simp only [fillL, List.foldl_cons, List.foldl_nil, Act.put, List.setIfInBounds_toArray, List.set_cons_zero, List.set_cons_succ] at hK ⊢)
    have e1 : vs 10 = .string key := (hFf (2, 10) (by simp) (by kernel_rfl))
    obtain ⟨A3, c3, e2, ho⟩ := (hFf (5, 13) (by simp) (by kernel_rfl))
    simp only [e1, e2] at hK ⊢
    go_simp
    refine hK.out _ _ ⟨⟨A3, c3, rfl, ho⟩, Below.refl _ _⟩
  focus
    intro vs w2 hBf hFf o ho K hK
    obtain rfl : (⟨some 5, _, _, _, _, _⟩ : Oper) = o := Option.some.inj ho
    clear ho
    (try simp only [fillL, List.foldl_cons, List.foldl_nil, Act.put, List.setIfInBounds_toArray, List.set_cons_zero, List.set_cons_succ] at hK ⊢)
    go_simp
    refine hK.out _ _ ⟨⟨_, rfl, hBf.size, Blk.new w2 [.string ⟨#[]⟩, .slice none 0 0, .slice none 0 0] 58⟩, (Below.refl _ _).alloc (Nat.le_refl _) _⟩
  intro vs w2 hBf hFf
  (try simp only [fillL, List.foldl_cons, List.foldl_nil, Act.put, List.setIfInBounds_toArray, List.set_cons_zero, List.set_cons_succ])
  obtain ⟨A3, c3, e3, ho3⟩ := (hFf (6, 14) (by simp))
  obtain ⟨Y, e4, hY, hKY⟩ := (hFf (7, 5) (by simp))
  simp only [e3, e4]
  obtain ⟨y0, y1, y2⟩ := blk3' hKY
  have q0 := hKY.frozen 0
  have q1 := hKY.frozen 1
  have q2 := hKY.frozen 2
  refine wpAnyL_last (i := 8) (o := ⟨none, _, _, _, _, _⟩) (by kernel_rfl) rfl (by kernel_rfl) (fun K hK => ?_)
  go_simp
  go_wp2_with fail
  refine hK.out _ _ ?_
  clear hK K
  try simp only [Act.put, List.setIfInBounds_toArray, List.set_cons_zero, List.set_cons_succ]
  refine wpAnyL_done (by kernel_rfl) ?_ _
  refine NoPanic.normal ?_
  have hB13 : Below w1.heap.size w1 w2 := (Below.refl _ _).drew.trans hBf
  have k3 := ((hKY.set 0 (.string key)).set 1 (.slice A3 zs.length c3)).set 2 (.slice none 0 0)
  have hB3 : Below w1.heap.size w1 (((w2.setCell ⟨Y, 0, none⟩ (.string key)).setCell ⟨Y, 1, none⟩ (.slice A3 zs.length c3)).setCell ⟨Y, 2, none⟩ (.slice none 0 0)) := ((hB13.setCell (p := ⟨Y, 0, none⟩) hY _).setCell (p := ⟨Y, 1, none⟩) hY _).setCell (p := ⟨Y, 2, none⟩) hY _
  have o3 := own_stay (W' := ((w2.setCell ⟨Y, 0, none⟩ (.string key)).setCell ⟨Y, 1, none⟩ (.slice A3 zs.length c3)).setCell ⟨Y, 2, none⟩ (.slice none 0 0)) ho3 (fun b hb => by
    have hne : b ≠ Y := fun e => blk_apart hKY ho3 (by decide) (e ▸ hb)
    simp only [World.setCell, Array.getElem?_modify]
    rw [if_neg (Ne.symm hne), if_neg (Ne.symm hne), if_neg (Ne.symm hne)])
  generalize hW3 : ((w2.setCell ⟨Y, 0, none⟩ (.string key)).setCell ⟨Y, 1, none⟩ (.slice A3 zs.length c3)).setCell ⟨Y, 2, none⟩ (.slice none 0 0) = w3 at *
  have HK3 : Hid (Blk w3 Y 58 [.string key, .slice A3 zs.length c3, .slice none 0 0]) := Lib.hid k3
  have HO3 := Lib.hid o3
  have hY3 := k3.lt
  have hB03 : Below w.heap.size w w3 := hB1.trans (hB3.mono hB1.size)
  clear k3 o3 hKY ho3 hBf hB13 y0 y1 y2 q0 q1 q2 e3 e4 hW3
  clear hFf
  have HS2 : Hid (∀ W, Below w1.heap.size w1 W → W.cell? ⟨X, 2, none⟩ = some (.map (some mb)) ∧ W.cell? ⟨w.heap.size, 0, none⟩ = some (.string key) ∧ (Instr.lookup 109 (.map (some mb)) (.string key) true).run Tryz.prog W = .ok (.tuple #[vL, .bool hsL]) W) := Lib.hid fun W hB => by
    have hBw := hB1.trans (hB.mono hB1.size)
    have hp := H.out.pl.below hBw
    exact ⟨hp.blk.cell 2, (hS0.out W hB).1, HLK.out W (hBw.mono (Nat.le_of_lt hX))⟩
  have hs3 := hB3.size
  rcases HWAY.out with ⟨rfl, o, ho, hko, rfl⟩ | ⟨rfl, hno, rfl⟩
  · have hold := HOS.out o ho
    obtain ⟨okey, ⟨oA, ozs, oc⟩, oB', ons, oe'⟩ := o
    dsimp only at hko hold HS2
    subst hko
    go_wp2
    refine wp_region_noPanic ?_
    refine wp_region_last 11 (fun W => W.cell? ⟨X, 2, none⟩ = some (.map (some mb)) ∧ W.cell? ⟨w.heap.size, 0, none⟩ = some (.string okey) ∧ (Instr.lookup 109 (.map (some mb)) (.string okey) true).run Tryz.prog W = .ok (.tuple #[obval okey oA ozs.length oc oB' ons.length oe', .bool true]) W) (by kernel_rfl) (HS2.out _ hB3.drew) (fun hHeld => ?_)
    refine wpAnyL_take 12 (i := 0) (oi := ⟨some 16, _, _, _, _, _⟩) (v := ?_) rfl (by kernel_rfl) (by kernel_rfl) (by kernel_rfl) (by kernel_rfl) (by kernel_rfl) (by kernel_rfl) (by kernel_rfl) (fun _ _ _ h => h) (Or.inl ⟨by rfl, ?_⟩) hHeld ?_
    rotate_left
    focus (intro w hSw; (try dsimp only at hSw); go_simp; try (with_reducible rfl))
    try simp only [Act.put, List.setIfInBounds_toArray, List.set_cons_zero, List.set_cons_succ]
    refine wpAnyL_take 12 (i := 1) (oi := ⟨some 17, _, _, _, _, _⟩) (v := ?_) rfl (by kernel_rfl) (by kernel_rfl) (by kernel_rfl) (by kernel_rfl) (by kernel_rfl) (by kernel_rfl) (by kernel_rfl) (fun _ _ _ h => h) (Or.inl ⟨by rfl, ?_⟩) hHeld ?_
    rotate_left
    focus (intro w hSw; (try dsimp only at hSw); go_simp; try (with_reducible rfl))
    try simp only [Act.put, List.setIfInBounds_toArray, List.set_cons_zero, List.set_cons_succ]
    refine wpAnyL_take 12 (i := 2) (oi := ⟨some 18, _, _, _, _, _⟩) (v := ?_) rfl (by kernel_rfl) (by kernel_rfl) (by kernel_rfl) (by kernel_rfl) (by kernel_rfl) (by kernel_rfl) (by kernel_rfl) (fun _ _ _ h => h) (Or.inl ⟨by rfl, ?_⟩) hHeld ?_
    rotate_left
    focus (intro w hSw; (try dsimp only at hSw); go_simp; try (with_reducible rfl))
    try simp only [Act.put, List.setIfInBounds_toArray, List.set_cons_zero, List.set_cons_succ]
    refine wpAnyL_take 12 (i := 3) (oi := ⟨some 19, _, _, _, _, _⟩) (v := ?_) rfl (by kernel_rfl) (by kernel_rfl) (by kernel_rfl) (by kernel_rfl) (by kernel_rfl) (by kernel_rfl) (by kernel_rfl) (fun _ _ _ h => h) (Or.inl ⟨by rfl, ?_⟩) hHeld ?_
    rotate_left
    focus (intro w hSw; (try dsimp only at hSw); go_simp; try (with_reducible rfl))
    try simp only [Act.put, List.setIfInBounds_toArray, List.set_cons_zero, List.set_cons_succ]
    refine wpAnyL_take 12 (i := 4) (oi := ⟨some 20, _, _, _, _, _⟩) (v := ?_) rfl (by kernel_rfl) (by kernel_rfl) (by kernel_rfl) (by kernel_rfl) (by kernel_rfl) (by kernel_rfl) (by kernel_rfl) (fun _ _ _ h => h) (Or.inl ⟨by rfl, ?_⟩) hHeld ?_
    rotate_left
    focus (intro w hSw; (try dsimp only at hSw); go_simp; try (with_reducible rfl))
    try simp only [Act.put, List.setIfInBounds_toArray, List.set_cons_zero, List.set_cons_succ]
    refine wpAnyL_take 12 (i := 5) (oi := ⟨some 21, _, _, _, _, _⟩) (v := ?_) rfl (by kernel_rfl) (by kernel_rfl) (by kernel_rfl) (by kernel_rfl) (by kernel_rfl) (by kernel_rfl) (by kernel_rfl) (fun _ _ _ h => h) (Or.inl ⟨by rfl, ?_⟩) hHeld ?_
    rotate_left
    focus (intro w hSw; (try dsimp only at hSw); go_simp; try (with_reducible rfl))
    try simp only [Act.put, List.setIfInBounds_toArray, List.set_cons_zero, List.set_cons_succ]
    refine wpAnyL_take 12 (i := 6) (oi := ⟨some 22, _, _, _, _, _⟩) (v := ?_) rfl (by kernel_rfl) (by kernel_rfl) (by kernel_rfl) (by kernel_rfl) (by kernel_rfl) (by kernel_rfl) (by kernel_rfl) (fun _ _ _ h => h) (Or.inl ⟨by rfl, ?_⟩) hHeld ?_
    rotate_left
    focus (intro w hSw; (try dsimp only at hSw); go_simp; try (with_reducible rfl))
    try simp only [Act.put, List.setIfInBounds_toArray, List.set_cons_zero, List.set_cons_succ]
    refine wpAnyL_take 12 (i := 7) (oi := ⟨some 15, _, _, _, _, _⟩) (v := ?_) rfl (by kernel_rfl) (by kernel_rfl) (by kernel_rfl) (by kernel_rfl) (by kernel_rfl) (by kernel_rfl) (by kernel_rfl) (fun _ _ _ h => h) (Or.inl ⟨by rfl, ?_⟩) hHeld ?_
    rotate_left
    focus (intro w hSw; (try dsimp only at hSw); go_simp; try (with_reducible rfl))
    try simp only [Act.put, List.setIfInBounds_toArray, List.set_cons_zero, List.set_cons_succ]
    refine wpAnyL_take 12 (i := 8) (oi := ⟨some 23, _, _, _, _, _⟩) (v := ?_) rfl (by kernel_rfl) (by kernel_rfl) (by kernel_rfl) (by kernel_rfl) (by kernel_rfl) (by kernel_rfl) (by kernel_rfl) (fun _ _ _ h => h) (Or.inl ⟨by rfl, ?_⟩) hHeld ?_
    rotate_left
    focus (intro w hSw; (try dsimp only at hSw); go_simp; try (with_reducible rfl))
    try simp only [Act.put, List.setIfInBounds_toArray, List.set_cons_zero, List.set_cons_succ]
    refine wpAnyL_takeW (i := 9) (oi := ⟨some 24, _, _, _, _, _⟩) (v := ?_) rfl (by kernel_rfl) (by kernel_rfl) (by kernel_rfl) (by kernel_rfl) (fun _ _ _ h => h) (Or.inl ⟨by rfl, ?_⟩) (.inr hHeld) ?_
    rotate_left
    focus (intro w hSw; (try dsimp only at hSw); go_simp; try (with_reducible rfl))
    try simp only [Act.put, List.setIfInBounds_toArray, List.set_cons_zero, List.set_cons_succ]
    refine wpAnyL_one (i := 10) (o := ⟨some 6, _, _, _, _, _⟩) (by kernel_rfl) rfl (fun K hK => ?_)
    clear hHeld
    go_simp
    go_wp2_with fail
    refine hK.out _ _ (HS2.out _ (hB3.drew.alloc hB3.drew.size _)) (fun hHeld => ?_)
    clear hK K
    try simp only [Act.put, List.setIfInBounds_toArray, List.set_cons_zero, List.set_cons_succ]
    refine wpAnyL_last (i := 11) (o := ⟨none, _, _, _, _, _⟩) (by kernel_rfl) rfl (by kernel_rfl) (fun K hK => ?_)
    clear hHeld
    go_simp
    go_wp2_with fail
    refine hK.out _ _ ?_
    clear hK K
    try simp only [Act.put, List.setIfInBounds_toArray, List.set_cons_zero, List.set_cons_succ]
    refine wpAnyL_takeW (i := 12) (oi := ⟨some 7, _, _, _, _, _⟩) (v := ?_) rfl (by kernel_rfl) (by kernel_rfl) (by kernel_rfl) (by kernel_rfl) (fun _ _ _ h => h) (Or.inl ⟨by rfl, ?_⟩) (.inl (by kernel_rfl)) ?_
    rotate_left
    focus (intro w hSw; (try dsimp only at hSw); go_simp; try (with_reducible rfl))
    try simp only [Act.put, List.setIfInBounds_toArray, List.set_cons_zero, List.set_cons_succ]
    refine wpAnyL_done (by kernel_rfl) ?_ _
    refine NoPanic.normal ?_
    obtain ⟨w4, hw4⟩ : ∃ w4, (w3.alloc (.cells #[.string okey, .slice oA ozs.length oc, .slice oB' ons.length oe'] 58)).drew = w4 := ⟨_, rfl⟩
    have k4 : Blk w4 w3.heap.size 58 [.string okey, .slice oA ozs.length oc, .slice oB' ons.length oe'] := hw4 ▸ Blk.new w3 _ _
    have hB34 : Below w3.heap.size w3 w4 := hw4 ▸ ((Below.refl w3.heap.size w3).alloc (Nat.le_refl _) _).drew
    rw [hw4]
    obtain ⟨z0, z1, z2⟩ := blk3' k4
    have hB14 := hB3.trans (hB34.mono hB3.size)
    have hB04 : Below w.heap.size w w4 := hB1.trans (hB14.mono hB1.size)
    obtain ⟨p0, p1, p2⟩ := hS0.out w4 hB14
    have HEQ := Lib.hid (equal_any oA ozs.length oc ozs rfl hold.octs dA zs.length dc zs rfl hxo w4 (hold.d.belowX (hB04.mono (Nat.le_of_lt hX))).rd (HXU.out.belowX (hB04.mono (Nat.le_of_lt hX))).rd)
    have HK4 := Lib.hid k4
    have HW4 := Lib.hid hw4
    clear hw4 k4
    go_wp2_with fail
    refine HEQ.out.mono ?_
    rintro e w4' ⟨rfl, rfl⟩
    by_cases hsame : ozs = zs
    · have hdt : decide (ozs = zs) = true := decide_eq_true hsame
      rw [hdt]
      have hY4 : Y < w4.heap.size := Nat.lt_of_lt_of_le hY3 hB34.size
      have hcp := copyI_any oB' ons.length oe' ons rfl hold.en (by have h9 : ons.length ≤ 1048576 := hold.nl; omega) w4 ((hold.n.belowX (hB04.mono (Nat.le_of_lt hX))).rd)
      have HCI := Lib.hid hcp
      clear hcp
      go_wp2_with fail
      refine HCI.out.mono ?_
      rintro e w5 ⟨u5, rfl, hown5, hB5⟩
      obtain ⟨A5, c5, rfl, _, _, _, _⟩ := own_any hown5
      have hB35 : Below w3.heap.size w3 w5 := hB34.trans (hB5.mono hB34.size)
      have hB15 := hB3.trans (hB35.mono hB3.size)
      have hB05 : Below w.heap.size w w5 := hB1.trans (hB15.mono hB1.size)
      have kY5 := HK3.out.below hB35 hY3
      obtain ⟨y0, y1, y2⟩ := blk3' kY5
      have q2 := kY5.frozen 2
      have kR5 := HK1.out.below hB15 hlt1
      obtain ⟨r0, r1, r2⟩ := blk3' kR5
      have s0 := kR5.frozen 0
      have s1 := kR5.frozen 1
      have s2 := kR5.frozen 2
      have HKY5 := Lib.hid kY5
      have HKR5 := Lib.hid kR5
      have HO5 := Lib.hid hown5
      have hne : ¬ Y = w.heap.size + 1 := by omega
      have hne2 : ¬ w.heap.size + 1 = Y := by omega
      clear kY5 kR5 hown5
      go_wp2
      have kR := ((HKR5.out.other (g' := Y) hne2 2 (.slice A5 ons.length c5)).set 0 (.string okey)).set 1 (.slice A3 zs.length c3)
      have kR2 := kR.set 2 (.slice A5 ons.length c5)
      obtain ⟨d0, d1, d2⟩ := blk3' kR2
      have hkW := set4_heap w5 Y (w.heap.size + 1) (.slice A5 ons.length c5) (.string okey) (.slice A3 zs.length c3) (.slice A5 ons.length c5)
      have hBW := hB05.trans (set4_below w5 w.heap.size Y (w.heap.size + 1) (.slice A5 ons.length c5) (.string okey) (.slice A3 zs.length c3) (.slice A5 ons.length c5) (by omega) (by omega))
      refine bodyPost_ret (v := obval okey A3 zs.length c3 A5 ons.length c5) (by simp [results, Tryz.results53, go_sem, d0, d1, d2]) rfl (.inl ⟨⟨okey, ⟨A3, zs, c3⟩, A5, ons, c5⟩, rfl, rfl, rfl, ?_, ?_, F, fr, d, v, [], ?_, Only.of_below hBW (Nat.le_of_lt hX), .inl ⟨_, ho, rfl, hsame, rfl, rfl, rfl⟩⟩)
      · refine own_base (own_stay (own_below3 HO3.out hB35 (Nat.le_refl _)) fun b hb => hkW b (fun e => blk_apart HKY5.out (own_below3 HO3.out hB35 (Nat.le_refl _)) (by decide) (e ▸ hb)) (fun e => blk_apart HKR5.out (own_below3 HO3.out hB35 (Nat.le_refl _)) (by decide) (e ▸ hb))) hB1.size
      · refine own_base (own_stay HO5.out fun b hb => hkW b (fun e => blk_apart HKY5.out HO5.out (by decide) (e ▸ hb)) (fun e => blk_apart HKR5.out HO5.out (by decide) (e ▸ hb))) hB04.size
      · rw [List.append_nil]
        exact H.out.move (H.out.pl.below hBW) (Only.of_below hBW (Nat.le_of_lt hX)) id H.out.fd H.out.fn
    · have hdt : decide (ozs = zs) = false := decide_eq_false hsame
      rw [hdt]
      have hdiff : ∀ o ∈ os, o.key = okey → o.d.zs ≠ zs := fun o' ho' hk' => by
        have e := key_one HKS.out ho' ho hk'
        rw [e]
        exact hsame
      obtain ⟨cn, hcn⟩ : ∃ cn, cntN zs.length = cn := ⟨_, rfl⟩
      have hcb : cn ≤ 1261 := by rw [← hcn]; unfold cntN; omega
      have HCO : Hid (∀ w, Calls Tryz.prog 42 #[.int .i64 (zs.length : Int)] w fun e w' => e = .returned (.int .i64 (cn : Nat)) ∧ w' = w) := Lib.hid (fun w => (count_any (zs.length : Int) (by omega) w).mono fun _ _ h => ⟨by rw [← hcn, ← cntI_nat]; exact h.1, h.2.symm⟩)
      have HCN := Lib.hid hcn
      have hP4 := H.out.pl.below hB04
      have HP4 := Lib.hid hP4
      have hY4 : Y < w4.heap.size := Nat.lt_of_lt_of_le hY3 hB34.size
      have HS6 : Hid (∀ W, Below w4.heap.size w4 W → W.cell? ⟨w.heap.size, 1, none⟩ = some (.slice dA zs.length dc)) := Lib.hid fun W hB => (hS0.out W (hB14.trans (hB.mono hB14.size))).2.1
      have hs4 := hB04.size
      have hs14 := hB14.size
      clear hP4 hcn
      by_cases hfit : cn ≤ fr.length
      rotate_left
      · have HDF := Lib.hid hdiff
        go_wp2
        clear hdiff
        refine wp_region_last 7 (fun W => W.cell? ⟨w.heap.size, 1, none⟩ = some (.slice dA zs.length dc)) (by kernel_rfl) (HS6.out _ (Below.refl _ _).drew) (fun hHeld => ?_)
        refine wpAnyL_take 12 (i := 0) (oi := ⟨some 38, _, _, _, _, _⟩) (v := ?_) rfl (by kernel_rfl) (by kernel_rfl) (by kernel_rfl) (by kernel_rfl) (by kernel_rfl) (by kernel_rfl) (by kernel_rfl) (fun _ _ _ h => h) (Or.inl ⟨by rfl, ?_⟩) hHeld ?_
        rotate_left
        focus (intro w hSw; (try dsimp only at hSw); go_simp; try (with_reducible rfl))
        try simp only [Act.put, List.setIfInBounds_toArray, List.set_cons_zero, List.set_cons_succ]
        refine wpAnyL_take 12 (i := 1) (oi := ⟨some 39, _, _, _, _, _⟩) (v := ?_) rfl (by kernel_rfl) (by kernel_rfl) (by kernel_rfl) (by kernel_rfl) (by kernel_rfl) (by kernel_rfl) (by kernel_rfl) (fun _ _ _ h => h) (Or.inl ⟨by rfl, ?_⟩) hHeld ?_
        rotate_left
        focus (intro w hSw; (try dsimp only at hSw); go_simp; try (with_reducible rfl))
        try simp only [Act.put, List.setIfInBounds_toArray, List.set_cons_zero, List.set_cons_succ]
        refine wpAnyL_take 12 (i := 2) (oi := ⟨some 40, _, _, _, _, _⟩) (v := ?_) rfl (by kernel_rfl) (by kernel_rfl) (by kernel_rfl) (by kernel_rfl) (by kernel_rfl) (by kernel_rfl) (by kernel_rfl) (fun _ _ _ h => h) (Or.inl ⟨by rfl, ?_⟩) hHeld ?_
        rotate_left
        focus (intro w hSw; (try dsimp only at hSw); go_simp; try (with_reducible rfl))
        try simp only [Act.put, List.setIfInBounds_toArray, List.set_cons_zero, List.set_cons_succ]
        refine wpAnyL_take 12 (i := 3) (oi := ⟨some 41, _, _, _, _, _⟩) (v := ?_) rfl (by kernel_rfl) (by kernel_rfl) (by kernel_rfl) (by kernel_rfl) (by kernel_rfl) (by kernel_rfl) (by kernel_rfl) (fun _ _ _ h => h) (Or.inl ⟨by rfl, ?_⟩) hHeld ?_
        rotate_left
        focus (intro w hSw; (try dsimp only at hSw); go_simp; try (with_reducible rfl))
        try simp only [Act.put, List.setIfInBounds_toArray, List.set_cons_zero, List.set_cons_succ]
        refine wpAnyL_take 12 (i := 4) (oi := ⟨some 42, _, _, _, _, _⟩) (v := ?_) rfl (by kernel_rfl) (by kernel_rfl) (by kernel_rfl) (by kernel_rfl) (by kernel_rfl) (by kernel_rfl) (by kernel_rfl) (fun _ _ _ h => h) (Or.inl ⟨by rfl, ?_⟩) hHeld ?_
        rotate_left
        focus (intro w hSw; (try dsimp only at hSw); go_simp; try (with_reducible rfl))
        try simp only [Act.put, List.setIfInBounds_toArray, List.set_cons_zero, List.set_cons_succ]
        refine wpAnyL_take 12 (i := 5) (oi := ⟨some 43, _, _, _, _, _⟩) (v := ?_) rfl (by kernel_rfl) (by kernel_rfl) (by kernel_rfl) (by kernel_rfl) (by kernel_rfl) (by kernel_rfl) (by kernel_rfl) (fun _ _ _ h => h) (Or.inl ⟨by rfl, ?_⟩) hHeld ?_
        rotate_left
        focus (intro w hSw; (try dsimp only at hSw); go_simp; try (with_reducible rfl))
        try simp only [Act.put, List.setIfInBounds_toArray, List.set_cons_zero, List.set_cons_succ]
        refine wpAnyL_one (i := 6) (o := ⟨some 44, _, _, _, _, _⟩) (by kernel_rfl) rfl (fun K hK => ?_)
        clear hHeld
        go_simp
        refine (HCO.out _).mono ?_
        rintro e w2' ⟨rfl, rfl⟩
        go_wp2_with fail
        refine hK.out _ _ (HS6.out _ (Below.refl _ _).drew) (fun hHeld => ?_)
        clear hK K
        try simp only [Act.put, List.setIfInBounds_toArray, List.set_cons_zero, List.set_cons_succ]
        refine wpAnyL_last (i := 7) (o := ⟨some 45, _, _, _, _, _⟩) (by kernel_rfl) rfl (by kernel_rfl) (fun K hK => ?_)
        clear hHeld
        go_simp
        refine (take_no X _ v l F fr.length d cn (by omega) (by omega) _ (HP4.out.below (Below.refl _ _).drew) rfl).mono ?_
        rintro e w3' ⟨rfl, rfl⟩
        exact ⟨rfl, .inr ⟨rfl, ⟨HDF.out, (by show fr.length < cntN zs.length; rw [HCN.out]; omega)⟩, hB04.drew⟩⟩
      have hfd := H.out.fd
      have hfn := H.out.fn
      have HTK := Lib.hid (take_ok2 X _ v l F fr d cn hfit hfl hfd hfn w4.drew (HP4.out.below (Below.refl _ _).drew) rfl (RdI.below H.out.free.int hB04.drew))
      have kY4 := HK3.out.below hB34 hY3
      have HKY4 := Lib.hid kY4
      have k04 := HK0.out.below hB14 HK0.out.lt
      have HK04 := Lib.hid k04
      have HDF := Lib.hid hdiff
      clear kY4 k04 hdiff
      go_wp2
      refine wp_region_noPanic ?_
      refine wp_region_last 9 (fun W => W.cell? ⟨w.heap.size, 1, none⟩ = some (.slice dA zs.length dc)) (by kernel_rfl) (HS6.out _ (Below.refl _ _).drew) (fun hHeld => ?_)
      refine wpAnyL_take 12 (i := 0) (oi := ⟨some 38, _, _, _, _, _⟩) (v := ?_) rfl (by kernel_rfl) (by kernel_rfl) (by kernel_rfl) (by kernel_rfl) (by kernel_rfl) (by kernel_rfl) (by kernel_rfl) (fun _ _ _ h => h) (Or.inl ⟨by rfl, ?_⟩) hHeld ?_
      rotate_left
      focus (intro w hSw; (try dsimp only at hSw); go_simp; try (with_reducible rfl))
      try simp only [Act.put, List.setIfInBounds_toArray, List.set_cons_zero, List.set_cons_succ]
      refine wpAnyL_take 12 (i := 1) (oi := ⟨some 39, _, _, _, _, _⟩) (v := ?_) rfl (by kernel_rfl) (by kernel_rfl) (by kernel_rfl) (by kernel_rfl) (by kernel_rfl) (by kernel_rfl) (by kernel_rfl) (fun _ _ _ h => h) (Or.inl ⟨by rfl, ?_⟩) hHeld ?_
      rotate_left
      focus (intro w hSw; (try dsimp only at hSw); go_simp; try (with_reducible rfl))
      try simp only [Act.put, List.setIfInBounds_toArray, List.set_cons_zero, List.set_cons_succ]
      refine wpAnyL_take 12 (i := 2) (oi := ⟨some 40, _, _, _, _, _⟩) (v := ?_) rfl (by kernel_rfl) (by kernel_rfl) (by kernel_rfl) (by kernel_rfl) (by kernel_rfl) (by kernel_rfl) (by kernel_rfl) (fun _ _ _ h => h) (Or.inl ⟨by rfl, ?_⟩) hHeld ?_
      rotate_left
      focus (intro w hSw; (try dsimp only at hSw); go_simp; try (with_reducible rfl))
      try simp only [Act.put, List.setIfInBounds_toArray, List.set_cons_zero, List.set_cons_succ]
      refine wpAnyL_take 12 (i := 3) (oi := ⟨some 41, _, _, _, _, _⟩) (v := ?_) rfl (by kernel_rfl) (by kernel_rfl) (by kernel_rfl) (by kernel_rfl) (by kernel_rfl) (by kernel_rfl) (by kernel_rfl) (fun _ _ _ h => h) (Or.inl ⟨by rfl, ?_⟩) hHeld ?_
      rotate_left
      focus (intro w hSw; (try dsimp only at hSw); go_simp; try (with_reducible rfl))
      try simp only [Act.put, List.setIfInBounds_toArray, List.set_cons_zero, List.set_cons_succ]
      refine wpAnyL_take 12 (i := 4) (oi := ⟨some 42, _, _, _, _, _⟩) (v := ?_) rfl (by kernel_rfl) (by kernel_rfl) (by kernel_rfl) (by kernel_rfl) (by kernel_rfl) (by kernel_rfl) (by kernel_rfl) (fun _ _ _ h => h) (Or.inl ⟨by rfl, ?_⟩) hHeld ?_
      rotate_left
      focus (intro w hSw; (try dsimp only at hSw); go_simp; try (with_reducible rfl))
      try simp only [Act.put, List.setIfInBounds_toArray, List.set_cons_zero, List.set_cons_succ]
      refine wpAnyL_take 12 (i := 5) (oi := ⟨some 43, _, _, _, _, _⟩) (v := ?_) rfl (by kernel_rfl) (by kernel_rfl) (by kernel_rfl) (by kernel_rfl) (by kernel_rfl) (by kernel_rfl) (by kernel_rfl) (fun _ _ _ h => h) (Or.inl ⟨by rfl, ?_⟩) hHeld ?_
      rotate_left
      focus (intro w hSw; (try dsimp only at hSw); go_simp; try (with_reducible rfl))
      try simp only [Act.put, List.setIfInBounds_toArray, List.set_cons_zero, List.set_cons_succ]
      refine wpAnyL_one (i := 6) (o := ⟨some 44, _, _, _, _, _⟩) (by kernel_rfl) rfl (fun K hK => ?_)
      clear hHeld
      go_simp
      refine (HCO.out _).mono ?_
      rintro e w2' ⟨rfl, rfl⟩
      go_wp2_with fail
      refine hK.out _ _ (HS6.out _ (Below.refl _ _).drew) (fun hHeld => ?_)
      clear hK K
      try simp only [Act.put, List.setIfInBounds_toArray, List.set_cons_zero, List.set_cons_succ]
      refine wpAnyL_one (i := 7) (o := ⟨some 45, _, _, _, _, _⟩) (by kernel_rfl) rfl (fun K hK => ?_)
      clear hHeld
      go_simp
      refine HTK.out.mono ?_
      rintro e w5 ⟨At, ac, rfl, F', d', hac, hAn, hoA, hpl5, hfd5, hFn5, hFr5, hFb5, hon5⟩
      have kY5 := hon5.blk HKY4.out (by decide) (by decide)
      obtain ⟨y0, y1, y2⟩ := blk3' kY5
      have q2 := kY5.frozen 2
      have HKY5 := Lib.hid kY5
      have HOA5 := Lib.hid hoA
      have HP5 := Lib.hid hpl5
      have k05 := hon5.blk HK04.out (by decide) (by decide)
      have HK05 := Lib.hid k05
      clear kY5 hoA hpl5
      go_wp2_with fail
      refine hK.out _ _ ((blk3' k05).2.1) (fun hHeld => ?_)
      clear hK K
      try simp only [Act.put, List.setIfInBounds_toArray, List.set_cons_zero, List.set_cons_succ]
      refine wpAnyL_take 12 (i := 8) (oi := ⟨some 46, _, _, _, _, _⟩) (v := ?_) rfl (by kernel_rfl) (by kernel_rfl) (by kernel_rfl) (by kernel_rfl) (by kernel_rfl) (by kernel_rfl) (by kernel_rfl) (fun _ _ _ h => h) (Or.inl ⟨by rfl, ?_⟩) hHeld ?_
      rotate_left
      focus (intro w hSw; (try dsimp only at hSw); go_simp; try (with_reducible rfl))
      try simp only [Act.put, List.setIfInBounds_toArray, List.set_cons_zero, List.set_cons_succ]
      refine wpAnyL_last (i := 9) (o := ⟨none, _, _, _, _, _⟩) (by kernel_rfl) rfl (by kernel_rfl) (fun K hK => ?_)
      clear hHeld
      go_simp
      go_wp2_with fail
      refine hK.out _ _ ?_
      clear hK K
      try simp only [Act.put, List.setIfInBounds_toArray, List.set_cons_zero, List.set_cons_succ]
      refine wpAnyL_done (by kernel_rfl) ?_ _
      refine NoPanic.normal ?_
      have hwd : w4.drew.heap.size = w4.heap.size := rfl
      have hX4 : X < w4.heap.size := Nat.lt_of_lt_of_le hX hs4
      have hYw : w.heap.size ≤ Y := by have := hB1.size; omega
      have hYX : X < Y := by omega
      have ho5 : Only X WT w w5 := (Only.of_below hB04.drew (Nat.le_of_lt hX)).trans hon5
      have ho6 : Only X WT w (w5.setCell ⟨Y, 2, none⟩ (.slice At cn ac)) := ho5.setNew hX hYw 2 _
      have hs5 := hon5.size
      have k6 := HKY5.out.set 2 (.slice At cn ac)
      have hp6 := HP5.out.setFar (i := 2) (u := .slice At cn ac) HKY5.out (by decide) (by decide) (by decide)
      have hoA6 := own_setFar (j := 2) (u := .slice At cn ac) HKY5.out HOA5.out (by decide)
      have hoD5 := hon5.own (own_below3 (own_below3 HO3.out hB34 (Nat.le_refl _)) (Below.refl _ _).drew (Nat.le_refl _)) (by decide) (by decide)
      have hoD6 := own_setFar (j := 2) (u := .slice At cn ac) HKY5.out hoD5 (by decide)
      have k06 : Blk (w5.setCell ⟨Y, 2, none⟩ (.slice At cn ac)) w.heap.size 58 _ := (set_heap w5 Y 2 (.slice At cn ac) w.heap.size (by have := hB1.size; omega)).trans HK05.out
      have kR5 := hon5.blk (HK1.out.below hB14 hlt1).drew (by decide) (by decide)
      have kR6 : Blk (w5.setCell ⟨Y, 2, none⟩ (.slice At cn ac)) (w.heap.size + 1) 58 _ := (set_heap w5 Y 2 (.slice At cn ac) (w.heap.size + 1) (by omega)).trans kR5
      generalize hW6 : w5.setCell ⟨Y, 2, none⟩ (.slice At cn ac) = w6 at *
      have HP6 := Lib.hid hp6
      have HOA6 := Lib.hid hoA6
      have HOD6 := Lib.hid hoD6
      have HK6 := Lib.hid k6
      have HK06 := Lib.hid k06
      have HKR6 := Lib.hid kR6
      have HON6 := Lib.hid ho6
      have hY6 := k6.lt
      have h06 := k06.lt
      have hR6 := kR6.lt
      have hs46 : w4.heap.size ≤ w6.heap.size := by rw [← hW6]; simp; exact hs5
      have HS7 : Hid (∀ W, Below w6.heap.size w6 W → W.cell? ⟨w.heap.size, 1, none⟩ = some (.slice dA zs.length dc) ∧ W.cell? ⟨Y, 2, none⟩ = some (.slice At cn ac)) := Lib.hid fun W hB => ⟨(blk3' (HK06.out.below hB h06)).2.1, (blk3' (HK6.out.below hB hY6)).2.2⟩
      have HRP : Hid (∀ W, W.cell? ⟨w6.heap.size, 0, none⟩ = some (.int .i64 0) → Calls Tryz.prog 80 #[.slice (some ⟨w6.heap.size, 0, none⟩) 1 1, .int .i64 cn] W fun e w' => e = .returned (.slice (some ⟨W.heap.size, 0, none⟩) cn cn) ∧ Blk w' W.heap.size 3 (zsI cn) ∧ Below W.heap.size W w') := Lib.hid fun W hc => repeat_any w6.heap.size 0 1 cn (by omega) W hc
      have HFT : Hid ((fr.take cn).length = cn) := Lib.hid (by rw [List.length_take]; omega)
      have HWR : Hid (∀ w7 g, Below w6.heap.size w6 w7 → Blk w7 g 3 (zsI cn) → Calls Tryz.prog 79 #[.pointer (some ⟨X, 1, none⟩), .slice dA zs.length dc, .slice At cn ac, .slice (some ⟨g, 0, none⟩) cn cn] w7 fun e w' => e = .returned (.tuple #[]) ∧ ∃ v' new, Pl X 1 WT ([.slice F' (fr.drop cn).length d', v, .map (some mb)].set 1 v') v' w' (l ++ new) ∧ new.map Ac.st = (List.range cn).map (wact zs (fr.take cn) (List.replicate cn 0)) ∧ Only X WT w7 w') := Lib.hid fun w7 g hB hg => by
        have hP7 := HP6.out.below hB
        have ho7 : Only X WT w w7 := HON6.out.trans (Only.of_below hB (by omega))
        have ha7 := own_below3 HOA6.out hB (Nat.le_refl _)
        have := write_any_in X _ v l (by omega) ⟨dA, zs, dc⟩ (by show zs.length ≤ _; omega) hdc hxo At (some ⟨g, 0, none⟩) ac cn (fr.take cn) (List.replicate cn 0) (by rw [HFT.out]; exact HCN.out.symm) (by rw [List.length_replicate]; exact HCN.out.symm) (fun z hz => by rw [(List.mem_replicate.1 hz).2]; omega) w7 hP7
          (fun W hW => (HXU.out.belowX (ho7.trans hW).below).rd) (fun W hW => RdI.of_row (hW.own ha7 (by decide) (by decide))) (fun W hW => by have := rd_blk (hW.blk hg (by decide) (by decide)); rw [zsI_ints] at this; exact this)
        rw [HFT.out, List.length_replicate] at this
        simp only [HCN.out] at this
        exact this
      clear hp6 hoA6 hoD6 k6 k06 kR6 ho6 hon5 ho5 hoD5 kR5 hW6 y0 y1 y2 q2
      have hBd6 : Below w6.heap.size w6 w6.drew := (Below.refl _ _).drew
      go_wp2
      refine wp_region_noPanic ?_
      refine wp_region_last 12 (fun W => W.cell? ⟨w.heap.size, 1, none⟩ = some (.slice dA zs.length dc) ∧ W.cell? ⟨Y, 2, none⟩ = some (.slice At cn ac)) (by kernel_rfl) (HS7.out _ hBd6) (fun hHeld => ?_)
      refine wpAnyL_take 12 (i := 0) (oi := ⟨some 47, _, _, _, _, _⟩) (v := ?_) rfl (by kernel_rfl) (by kernel_rfl) (by kernel_rfl) (by kernel_rfl) (by kernel_rfl) (by kernel_rfl) (by kernel_rfl) (fun _ _ _ h => h) (Or.inl ⟨by rfl, ?_⟩) hHeld ?_
      rotate_left
      focus (intro w hSw; (try dsimp only at hSw); go_simp; try (with_reducible rfl))
      try simp only [Act.put, List.setIfInBounds_toArray, List.set_cons_zero, List.set_cons_succ]
      refine wpAnyL_take 12 (i := 1) (oi := ⟨some 48, _, _, _, _, _⟩) (v := ?_) rfl (by kernel_rfl) (by kernel_rfl) (by kernel_rfl) (by kernel_rfl) (by kernel_rfl) (by kernel_rfl) (by kernel_rfl) (fun _ _ _ h => h) (Or.inl ⟨by rfl, ?_⟩) hHeld ?_
      rotate_left
      focus (intro w hSw; (try dsimp only at hSw); go_simp; try (with_reducible rfl))
      try simp only [Act.put, List.setIfInBounds_toArray, List.set_cons_zero, List.set_cons_succ]
      refine wpAnyL_take 12 (i := 2) (oi := ⟨some 49, _, _, _, _, _⟩) (v := ?_) rfl (by kernel_rfl) (by kernel_rfl) (by kernel_rfl) (by kernel_rfl) (by kernel_rfl) (by kernel_rfl) (by kernel_rfl) (fun _ _ _ h => h) (Or.inl ⟨by rfl, ?_⟩) hHeld ?_
      rotate_left
      focus (intro w hSw; (try dsimp only at hSw); go_simp; try (with_reducible rfl))
      try simp only [Act.put, List.setIfInBounds_toArray, List.set_cons_zero, List.set_cons_succ]
      refine wpAnyL_take 12 (i := 3) (oi := ⟨some 50, _, _, _, _, _⟩) (v := ?_) rfl (by kernel_rfl) (by kernel_rfl) (by kernel_rfl) (by kernel_rfl) (by kernel_rfl) (by kernel_rfl) (by kernel_rfl) (fun _ _ _ h => h) (Or.inl ⟨by rfl, ?_⟩) hHeld ?_
      rotate_left
      focus (intro w hSw; (try dsimp only at hSw); go_simp; try (with_reducible rfl))
      try simp only [Act.put, List.setIfInBounds_toArray, List.set_cons_zero, List.set_cons_succ]
      refine wpAnyL_take 12 (i := 4) (oi := ⟨some 51, _, _, _, _, _⟩) (v := ?_) rfl (by kernel_rfl) (by kernel_rfl) (by kernel_rfl) (by kernel_rfl) (by kernel_rfl) (by kernel_rfl) (by kernel_rfl) (fun _ _ _ h => h) (Or.inl ⟨by rfl, ?_⟩) hHeld ?_
      rotate_left
      focus (intro w hSw; (try dsimp only at hSw); go_simp; try (with_reducible rfl))
      try simp only [Act.put, List.setIfInBounds_toArray, List.set_cons_zero, List.set_cons_succ]
      refine wpAnyL_take 12 (i := 5) (oi := ⟨some 52, _, _, _, _, _⟩) (v := ?_) rfl (by kernel_rfl) (by kernel_rfl) (by kernel_rfl) (by kernel_rfl) (by kernel_rfl) (by kernel_rfl) (by kernel_rfl) (fun _ _ _ h => h) (Or.inl ⟨by rfl, ?_⟩) hHeld ?_
      rotate_left
      focus (intro w hSw; (try dsimp only at hSw); go_simp; try (with_reducible rfl))
      try simp only [Act.put, List.setIfInBounds_toArray, List.set_cons_zero, List.set_cons_succ]
      refine wpAnyL_take 12 (i := 6) (oi := ⟨some 53, _, _, _, _, _⟩) (v := ?_) rfl (by kernel_rfl) (by kernel_rfl) (by kernel_rfl) (by kernel_rfl) (by kernel_rfl) (by kernel_rfl) (by kernel_rfl) (fun _ _ _ h => h) (Or.inl ⟨by rfl, ?_⟩) hHeld ?_
      rotate_left
      focus (intro w hSw; (try dsimp only at hSw); go_simp; try (with_reducible rfl))
      try simp only [Act.put, List.setIfInBounds_toArray, List.set_cons_zero, List.set_cons_succ]
      refine wpAnyL_take 12 (i := 8) (oi := ⟨some 55, _, _, _, _, _⟩) (v := ?_) rfl (by kernel_rfl) (by kernel_rfl) (by kernel_rfl) (by kernel_rfl) (by kernel_rfl) (by kernel_rfl) (by kernel_rfl) (fun _ _ _ h => h) (Or.inl ⟨by rfl, ?_⟩) hHeld ?_
      rotate_left
      focus (intro w hSw; (try dsimp only at hSw); go_simp; try (with_reducible rfl))
      try simp only [Act.put, List.setIfInBounds_toArray, List.set_cons_zero, List.set_cons_succ]
      refine wpAnyL_take 12 (i := 9) (oi := ⟨some 56, _, _, _, _, _⟩) (v := ?_) rfl (by kernel_rfl) (by kernel_rfl) (by kernel_rfl) (by kernel_rfl) (by kernel_rfl) (by kernel_rfl) (by kernel_rfl) (fun _ _ _ h => h) (Or.inl ⟨by rfl, ?_⟩) hHeld ?_
      rotate_left
      focus (intro w hSw; (try dsimp only at hSw); go_simp; try (with_reducible rfl))
      try simp only [Act.put, List.setIfInBounds_toArray, List.set_cons_zero, List.set_cons_succ]
      refine wpAnyL_take 12 (i := 10) (oi := ⟨some 57, _, _, _, _, _⟩) (v := ?_) rfl (by kernel_rfl) (by kernel_rfl) (by kernel_rfl) (by kernel_rfl) (by kernel_rfl) (by kernel_rfl) (by kernel_rfl) (fun _ _ _ h => h) (Or.inl ⟨by rfl, ?_⟩) hHeld ?_
      rotate_left
      focus (intro w hSw; (try dsimp only at hSw); go_simp; try (with_reducible rfl))
      try simp only [Act.put, List.setIfInBounds_toArray, List.set_cons_zero, List.set_cons_succ]
      refine wpAnyL_one (i := 7) (o := ⟨some 54, _, _, _, _, _⟩) (by kernel_rfl) rfl (fun K hK => ?_)
      clear hHeld
      go_simp
      have hBa : Below w6.heap.size w6 (w6.drew.alloc (.cells #[.int .i64 0] 3)) := hBd6.alloc hBd6.size _
      have hc0 : (w6.drew.alloc (.cells #[.int .i64 0] 3)).cell? ⟨w6.heap.size, 0, none⟩ = some (.int .i64 0) := (Blk.new w6.drew [.int .i64 0] 3).cell 0
      go_wp2_with fail
      refine hK.out _ _ (HS7.out _ hBa) (fun hHeld => ?_)
      clear hK K
      try simp only [Act.put, List.setIfInBounds_toArray, List.set_cons_zero, List.set_cons_succ]
      refine wpAnyL_one (i := 11) (o := ⟨some 58, _, _, _, _, _⟩) (by kernel_rfl) rfl (fun K hK => ?_)
      clear hHeld
      go_simp
      refine (HRP.out _ hc0).mono ?_
      rintro e w7 ⟨rfl, hk7, hB7⟩
      have hB67 : Below w6.heap.size w6 w7 := hBa.trans (hB7.mono hBa.size)
      rw [World.size_alloc] at hk7
      have HWX := Lib.hid (HWR.out w7 (w6.heap.size + 1) hB67 hk7)
      go_wp2_with fail
      refine hK.out _ _ (HS7.out _ hB67) (fun hHeld => ?_)
      clear hK K
      try simp only [Act.put, List.setIfInBounds_toArray, List.set_cons_zero, List.set_cons_succ]
      refine wpAnyL_last (i := 12) (o := ⟨some 59, _, _, _, _, _⟩) (by kernel_rfl) rfl (by kernel_rfl) (fun K hK => ?_)
      clear hHeld
      go_simp
      refine HWX.out.mono ?_
      rintro e w8 ⟨rfl, v', new, hp8, hn8, ho78⟩
      go_wp2_with fail
      refine hK.out _ _ ?_
      clear hK K
      try simp only [Act.put, List.setIfInBounds_toArray, List.set_cons_zero, List.set_cons_succ]
      refine wpAnyL_done (by kernel_rfl) ?_ _
      refine NoPanic.normal ?_
      have k8 := ho78.blk (HK6.out.below hB67 hY6) (by decide) (by decide)
      have kR8 := ho78.blk (HKR6.out.below hB67 hR6) (by decide) (by decide)
      have oA8 := ho78.own (own_below3 HOA6.out hB67 (Nat.le_refl _)) (by decide) (by decide)
      have oD8 := ho78.own (own_below3 HOD6.out hB67 (Nat.le_refl _)) (by decide) (by decide)
      have ho8 : Only X WT w w8 := (HON6.out.trans (Only.of_below hB67 (by omega))).trans ho78
      obtain ⟨y0, y1, y2⟩ := blk3' k8
      obtain ⟨r0, r1, r2⟩ := blk3' kR8
      have s0 := kR8.frozen 0
      have s1 := kR8.frozen 1
      have s2 := kR8.frozen 2
      have HKR8 := Lib.hid kR8
      have HOA8 := Lib.hid oA8
      have HOD8 := Lib.hid oD8
      have HP8 := Lib.hid hp8
      clear k8 kR8 oA8 oD8 hp8
      go_wp2
      have kR := ((HKR8.out.set 0 (.string okey)).set 1 (.slice A3 zs.length c3)).set 2 (.slice At cn ac)
      obtain ⟨d0, d1, d2⟩ := blk3' kR
      have hoW : Only X WT w (((w8.setCell ⟨w.heap.size + 1, 0, none⟩ (.string okey)).setCell ⟨w.heap.size + 1, 1, none⟩ (.slice A3 zs.length c3)).setCell ⟨w.heap.size + 1, 2, none⟩ (.slice At cn ac)) := ((ho8.setNew hX (Nat.le_succ _) 0 _).setNew hX (Nat.le_succ _) 1 _).setNew hX (Nat.le_succ _) 2 _
      refine bodyPost_ret (v := obval okey A3 zs.length c3 At cn ac) (by simp [results, Tryz.results53, go_sem, d0, d1, d2]) rfl (.inl ⟨⟨okey, ⟨A3, zs, c3⟩, At, fr.take cn, ac⟩, ?_, rfl, rfl, ?_, ?_, F', fr.drop cn, d', v', new, ?_, hoW, .inr ⟨HDF.out, ?_, ?_, ?_, ?_⟩⟩)
      · show Ending.returned (obval okey A3 zs.length c3 At cn ac) = .returned (obval okey A3 zs.length c3 At (fr.take cn).length ac)
        rw [HFT.out]
      · exact own_base (own_set3 HKR8.out HOD8.out (by decide)) hB1.size
      · show World.ownsRow _ _ _ 1 (.slice At (fr.take cn).length ac) (fr.take cn).length (ints (fr.take cn))
        rw [HFT.out]
        exact own_base (own_set3 HKR8.out HOA8.out (by decide)) hs4
      · exact H.out.move (HP8.out.set3 HKR8.out (by decide) (by decide) (by decide)) hoW (fun hu => hu.of_int hFr5 hFb5) hfd5 hFn5
      · show cntN zs.length ≤ fr.length
        rw [HCN.out]; exact hfit
      · show fr.take cn = fr.take (cntN zs.length)
        rw [HCN.out]
      · show fr.drop cn = fr.drop (cntN zs.length)
        rw [HCN.out]
      · show new.map Ac.st = (List.range (cntN zs.length)).map (wact zs (fr.take cn) (List.replicate (cntN zs.length) 0))
        rw [HCN.out]
        exact hn8
  · have hdiff : ∀ o ∈ os, o.key = key → o.d.zs ≠ zs := fun o' ho' hk' => absurd hk' (hno o' ho')
    go_wp2
    refine wp_region_noPanic ?_
    refine wp_region_last 11 (fun W => W.cell? ⟨X, 2, none⟩ = some (.map (some mb)) ∧ W.cell? ⟨w.heap.size, 0, none⟩ = some (.string key) ∧ (Instr.lookup 109 (.map (some mb)) (.string key) true).run Tryz.prog W = .ok (.tuple #[ob0, .bool false]) W) (by kernel_rfl) (HS2.out _ hB3.drew) (fun hHeld => ?_)
    refine wpAnyL_take 12 (i := 0) (oi := ⟨some 16, _, _, _, _, _⟩) (v := ?_) rfl (by kernel_rfl) (by kernel_rfl) (by kernel_rfl) (by kernel_rfl) (by kernel_rfl) (by kernel_rfl) (by kernel_rfl) (fun _ _ _ h => h) (Or.inl ⟨by rfl, ?_⟩) hHeld ?_
    rotate_left
    focus (intro w hSw; (try dsimp only at hSw); go_simp; try (with_reducible rfl))
    try simp only [Act.put, List.setIfInBounds_toArray, List.set_cons_zero, List.set_cons_succ]
    refine wpAnyL_take 12 (i := 1) (oi := ⟨some 17, _, _, _, _, _⟩) (v := ?_) rfl (by kernel_rfl) (by kernel_rfl) (by kernel_rfl) (by kernel_rfl) (by kernel_rfl) (by kernel_rfl) (by kernel_rfl) (fun _ _ _ h => h) (Or.inl ⟨by rfl, ?_⟩) hHeld ?_
    rotate_left
    focus (intro w hSw; (try dsimp only at hSw); go_simp; try (with_reducible rfl))
    try simp only [Act.put, List.setIfInBounds_toArray, List.set_cons_zero, List.set_cons_succ]
    refine wpAnyL_take 12 (i := 2) (oi := ⟨some 18, _, _, _, _, _⟩) (v := ?_) rfl (by kernel_rfl) (by kernel_rfl) (by kernel_rfl) (by kernel_rfl) (by kernel_rfl) (by kernel_rfl) (by kernel_rfl) (fun _ _ _ h => h) (Or.inl ⟨by rfl, ?_⟩) hHeld ?_
    rotate_left
    focus (intro w hSw; (try dsimp only at hSw); go_simp; try (with_reducible rfl))
    try simp only [Act.put, List.setIfInBounds_toArray, List.set_cons_zero, List.set_cons_succ]
    refine wpAnyL_take 12 (i := 3) (oi := ⟨some 19, _, _, _, _, _⟩) (v := ?_) rfl (by kernel_rfl) (by kernel_rfl) (by kernel_rfl) (by kernel_rfl) (by kernel_rfl) (by kernel_rfl) (by kernel_rfl) (fun _ _ _ h => h) (Or.inl ⟨by rfl, ?_⟩) hHeld ?_
    rotate_left
    focus (intro w hSw; (try dsimp only at hSw); go_simp; try (with_reducible rfl))
    try simp only [Act.put, List.setIfInBounds_toArray, List.set_cons_zero, List.set_cons_succ]
    refine wpAnyL_take 12 (i := 4) (oi := ⟨some 20, _, _, _, _, _⟩) (v := ?_) rfl (by kernel_rfl) (by kernel_rfl) (by kernel_rfl) (by kernel_rfl) (by kernel_rfl) (by kernel_rfl) (by kernel_rfl) (fun _ _ _ h => h) (Or.inl ⟨by rfl, ?_⟩) hHeld ?_
    rotate_left
    focus (intro w hSw; (try dsimp only at hSw); go_simp; try (with_reducible rfl))
    try simp only [Act.put, List.setIfInBounds_toArray, List.set_cons_zero, List.set_cons_succ]
    refine wpAnyL_take 12 (i := 5) (oi := ⟨some 21, _, _, _, _, _⟩) (v := ?_) rfl (by kernel_rfl) (by kernel_rfl) (by kernel_rfl) (by kernel_rfl) (by kernel_rfl) (by kernel_rfl) (by kernel_rfl) (fun _ _ _ h => h) (Or.inl ⟨by rfl, ?_⟩) hHeld ?_
    rotate_left
    focus (intro w hSw; (try dsimp only at hSw); go_simp; try (with_reducible rfl))
    try simp only [Act.put, List.setIfInBounds_toArray, List.set_cons_zero, List.set_cons_succ]
    refine wpAnyL_take 12 (i := 6) (oi := ⟨some 22, _, _, _, _, _⟩) (v := ?_) rfl (by kernel_rfl) (by kernel_rfl) (by kernel_rfl) (by kernel_rfl) (by kernel_rfl) (by kernel_rfl) (by kernel_rfl) (fun _ _ _ h => h) (Or.inl ⟨by rfl, ?_⟩) hHeld ?_
    rotate_left
    focus (intro w hSw; (try dsimp only at hSw); go_simp; try (with_reducible rfl))
    try simp only [Act.put, List.setIfInBounds_toArray, List.set_cons_zero, List.set_cons_succ]
    refine wpAnyL_take 12 (i := 7) (oi := ⟨some 15, _, _, _, _, _⟩) (v := ?_) rfl (by kernel_rfl) (by kernel_rfl) (by kernel_rfl) (by kernel_rfl) (by kernel_rfl) (by kernel_rfl) (by kernel_rfl) (fun _ _ _ h => h) (Or.inl ⟨by rfl, ?_⟩) hHeld ?_
    rotate_left
    focus (intro w hSw; (try dsimp only at hSw); go_simp; try (with_reducible rfl))
    try simp only [Act.put, List.setIfInBounds_toArray, List.set_cons_zero, List.set_cons_succ]
    refine wpAnyL_take 12 (i := 8) (oi := ⟨some 23, _, _, _, _, _⟩) (v := ?_) rfl (by kernel_rfl) (by kernel_rfl) (by kernel_rfl) (by kernel_rfl) (by kernel_rfl) (by kernel_rfl) (by kernel_rfl) (fun _ _ _ h => h) (Or.inl ⟨by rfl, ?_⟩) hHeld ?_
    rotate_left
    focus (intro w hSw; (try dsimp only at hSw); go_simp; try (with_reducible rfl))
    try simp only [Act.put, List.setIfInBounds_toArray, List.set_cons_zero, List.set_cons_succ]
    refine wpAnyL_takeW (i := 9) (oi := ⟨some 24, _, _, _, _, _⟩) (v := ?_) rfl (by kernel_rfl) (by kernel_rfl) (by kernel_rfl) (by kernel_rfl) (fun _ _ _ h => h) (Or.inl ⟨by rfl, ?_⟩) (.inr hHeld) ?_
    rotate_left
    focus (intro w hSw; (try dsimp only at hSw); go_simp; try (with_reducible rfl))
    try simp only [Act.put, List.setIfInBounds_toArray, List.set_cons_zero, List.set_cons_succ]
    refine wpAnyL_one (i := 10) (o := ⟨some 6, _, _, _, _, _⟩) (by kernel_rfl) rfl (fun K hK => ?_)
    clear hHeld
    go_simp
    go_wp2_with fail
    refine hK.out _ _ (HS2.out _ (hB3.drew.alloc hB3.drew.size _)) (fun hHeld => ?_)
    clear hK K
    try simp only [Act.put, List.setIfInBounds_toArray, List.set_cons_zero, List.set_cons_succ]
    refine wpAnyL_last (i := 11) (o := ⟨none, _, _, _, _, _⟩) (by kernel_rfl) rfl (by kernel_rfl) (fun K hK => ?_)
    clear hHeld
    go_simp
    go_wp2_with fail
    refine hK.out _ _ ?_
    clear hK K
    try simp only [Act.put, List.setIfInBounds_toArray, List.set_cons_zero, List.set_cons_succ]
    refine wpAnyL_takeW (i := 12) (oi := ⟨some 7, _, _, _, _, _⟩) (v := ?_) rfl (by kernel_rfl) (by kernel_rfl) (by kernel_rfl) (by kernel_rfl) (fun _ _ _ h => h) (Or.inl ⟨by rfl, ?_⟩) (.inl (by kernel_rfl)) ?_
    rotate_left
    focus (intro w hSw; (try dsimp only at hSw); go_simp; try (with_reducible rfl))
    try simp only [Act.put, List.setIfInBounds_toArray, List.set_cons_zero, List.set_cons_succ]
    refine wpAnyL_done (by kernel_rfl) ?_ _
    refine NoPanic.normal ?_
    obtain ⟨w4, hw4⟩ : ∃ w4, (w3.alloc (.cells #[.string ⟨#[]⟩, .slice none 0 0, .slice none 0 0] 58)).drew = w4 := ⟨_, rfl⟩
    have hB34 : Below w3.heap.size w3 w4 := hw4 ▸ ((Below.refl w3.heap.size w3).alloc (Nat.le_refl _) _).drew
    rw [hw4]
    have hB14 := hB3.trans (hB34.mono hB3.size)
    have hB04 : Below w.heap.size w w4 := hB1.trans (hB14.mono hB1.size)
    clear hw4
    obtain ⟨cn, hcn⟩ : ∃ cn, cntN zs.length = cn := ⟨_, rfl⟩
    have hcb : cn ≤ 1261 := by rw [← hcn]; unfold cntN; omega
    have HCO : Hid (∀ w, Calls Tryz.prog 42 #[.int .i64 (zs.length : Int)] w fun e w' => e = .returned (.int .i64 (cn : Nat)) ∧ w' = w) := Lib.hid (fun w => (count_any (zs.length : Int) (by omega) w).mono fun _ _ h => ⟨by rw [← hcn, ← cntI_nat]; exact h.1, h.2.symm⟩)
    have HCN := Lib.hid hcn
    have hP4 := H.out.pl.below hB04
    have HP4 := Lib.hid hP4
    have hY4 : Y < w4.heap.size := Nat.lt_of_lt_of_le hY3 hB34.size
    have HS6 : Hid (∀ W, Below w4.heap.size w4 W → W.cell? ⟨w.heap.size, 1, none⟩ = some (.slice dA zs.length dc)) := Lib.hid fun W hB => (hS0.out W (hB14.trans (hB.mono hB14.size))).2.1
    have hs4 := hB04.size
    have hs14 := hB14.size
    clear hP4 hcn
    by_cases hfit : cn ≤ fr.length
    rotate_left
    · have HDF := Lib.hid hdiff
      go_wp2
      clear hdiff
      refine wp_region_last 7 (fun W => W.cell? ⟨w.heap.size, 1, none⟩ = some (.slice dA zs.length dc)) (by kernel_rfl) (HS6.out _ (Below.refl _ _).drew) (fun hHeld => ?_)
      refine wpAnyL_take 12 (i := 0) (oi := ⟨some 38, _, _, _, _, _⟩) (v := ?_) rfl (by kernel_rfl) (by kernel_rfl) (by kernel_rfl) (by kernel_rfl) (by kernel_rfl) (by kernel_rfl) (by kernel_rfl) (fun _ _ _ h => h) (Or.inl ⟨by rfl, ?_⟩) hHeld ?_
      rotate_left
      focus (intro w hSw; (try dsimp only at hSw); go_simp; try (with_reducible rfl))
      try simp only [Act.put, List.setIfInBounds_toArray, List.set_cons_zero, List.set_cons_succ]
      refine wpAnyL_take 12 (i := 1) (oi := ⟨some 39, _, _, _, _, _⟩) (v := ?_) rfl (by kernel_rfl) (by kernel_rfl) (by kernel_rfl) (by kernel_rfl) (by kernel_rfl) (by kernel_rfl) (by kernel_rfl) (fun _ _ _ h => h) (Or.inl ⟨by rfl, ?_⟩) hHeld ?_
      rotate_left
      focus (intro w hSw; (try dsimp only at hSw); go_simp; try (with_reducible rfl))
      try simp only [Act.put, List.setIfInBounds_toArray, List.set_cons_zero, List.set_cons_succ]
      refine wpAnyL_take 12 (i := 2) (oi := ⟨some 40, _, _, _, _, _⟩) (v := ?_) rfl (by kernel_rfl) (by kernel_rfl) (by kernel_rfl) (by kernel_rfl) (by kernel_rfl) (by kernel_rfl) (by kernel_rfl) (fun _ _ _ h => h) (Or.inl ⟨by rfl, ?_⟩) hHeld ?_
      rotate_left
      focus (intro w hSw; (try dsimp only at hSw); go_simp; try (with_reducible rfl))
      try simp only [Act.put, List.setIfInBounds_toArray, List.set_cons_zero, List.set_cons_succ]
      refine wpAnyL_take 12 (i := 3) (oi := ⟨some 41, _, _, _, _, _⟩) (v := ?_) rfl (by kernel_rfl) (by kernel_rfl) (by kernel_rfl) (by kernel_rfl) (by kernel_rfl) (by kernel_rfl) (by kernel_rfl) (fun _ _ _ h => h) (Or.inl ⟨by rfl, ?_⟩) hHeld ?_
      rotate_left
      focus (intro w hSw; (try dsimp only at hSw); go_simp; try (with_reducible rfl))
      try simp only [Act.put, List.setIfInBounds_toArray, List.set_cons_zero, List.set_cons_succ]
      refine wpAnyL_take 12 (i := 4) (oi := ⟨some 42, _, _, _, _, _⟩) (v := ?_) rfl (by kernel_rfl) (by kernel_rfl) (by kernel_rfl) (by kernel_rfl) (by kernel_rfl) (by kernel_rfl) (by kernel_rfl) (fun _ _ _ h => h) (Or.inl ⟨by rfl, ?_⟩) hHeld ?_
      rotate_left
      focus (intro w hSw; (try dsimp only at hSw); go_simp; try (with_reducible rfl))
      try simp only [Act.put, List.setIfInBounds_toArray, List.set_cons_zero, List.set_cons_succ]
      refine wpAnyL_take 12 (i := 5) (oi := ⟨some 43, _, _, _, _, _⟩) (v := ?_) rfl (by kernel_rfl) (by kernel_rfl) (by kernel_rfl) (by kernel_rfl) (by kernel_rfl) (by kernel_rfl) (by kernel_rfl) (fun _ _ _ h => h) (Or.inl ⟨by rfl, ?_⟩) hHeld ?_
      rotate_left
      focus (intro w hSw; (try dsimp only at hSw); go_simp; try (with_reducible rfl))
      try simp only [Act.put, List.setIfInBounds_toArray, List.set_cons_zero, List.set_cons_succ]
      refine wpAnyL_one (i := 6) (o := ⟨some 44, _, _, _, _, _⟩) (by kernel_rfl) rfl (fun K hK => ?_)
      clear hHeld
      go_simp
      refine (HCO.out _).mono ?_
      rintro e w2' ⟨rfl, rfl⟩
      go_wp2_with fail
      refine hK.out _ _ (HS6.out _ (Below.refl _ _).drew) (fun hHeld => ?_)
      clear hK K
      try simp only [Act.put, List.setIfInBounds_toArray, List.set_cons_zero, List.set_cons_succ]
      refine wpAnyL_last (i := 7) (o := ⟨some 45, _, _, _, _, _⟩) (by kernel_rfl) rfl (by kernel_rfl) (fun K hK => ?_)
      clear hHeld
      go_simp
      refine (take_no X _ v l F fr.length d cn (by omega) (by omega) _ (HP4.out.below (Below.refl _ _).drew) rfl).mono ?_
      rintro e w3' ⟨rfl, rfl⟩
      exact ⟨rfl, .inr ⟨rfl, ⟨HDF.out, (by show fr.length < cntN zs.length; rw [HCN.out]; omega)⟩, hB04.drew⟩⟩
    have hfd := H.out.fd
    have hfn := H.out.fn
    have HTK := Lib.hid (take_ok2 X _ v l F fr d cn hfit hfl hfd hfn w4.drew (HP4.out.below (Below.refl _ _).drew) rfl (RdI.below H.out.free.int hB04.drew))
    have kY4 := HK3.out.below hB34 hY3
    have HKY4 := Lib.hid kY4
    have k04 := HK0.out.below hB14 HK0.out.lt
    have HK04 := Lib.hid k04
    have HDF := Lib.hid hdiff
    clear kY4 k04 hdiff
    go_wp2
    refine wp_region_noPanic ?_
    refine wp_region_last 9 (fun W => W.cell? ⟨w.heap.size, 1, none⟩ = some (.slice dA zs.length dc)) (by kernel_rfl) (HS6.out _ (Below.refl _ _).drew) (fun hHeld => ?_)
    refine wpAnyL_take 12 (i := 0) (oi := ⟨some 38, _, _, _, _, _⟩) (v := ?_) rfl (by kernel_rfl) (by kernel_rfl) (by kernel_rfl) (by kernel_rfl) (by kernel_rfl) (by kernel_rfl) (by kernel_rfl) (fun _ _ _ h => h) (Or.inl ⟨by rfl, ?_⟩) hHeld ?_
    rotate_left
    focus (intro w hSw; (try dsimp only at hSw); go_simp; try (with_reducible rfl))
    try simp only [Act.put, List.setIfInBounds_toArray, List.set_cons_zero, List.set_cons_succ]
    refine wpAnyL_take 12 (i := 1) (oi := ⟨some 39, _, _, _, _, _⟩) (v := ?_) rfl (by kernel_rfl) (by kernel_rfl) (by kernel_rfl) (by kernel_rfl) (by kernel_rfl) (by kernel_rfl) (by kernel_rfl) (fun _ _ _ h => h) (Or.inl ⟨by rfl, ?_⟩) hHeld ?_
    rotate_left
    focus (intro w hSw; (try dsimp only at hSw); go_simp; try (with_reducible rfl))
    try simp only [Act.put, List.setIfInBounds_toArray, List.set_cons_zero, List.set_cons_succ]
    refine wpAnyL_take 12 (i := 2) (oi := ⟨some 40, _, _, _, _, _⟩) (v := ?_) rfl (by kernel_rfl) (by kernel_rfl) (by kernel_rfl) (by kernel_rfl) (by kernel_rfl) (by kernel_rfl) (by kernel_rfl) (fun _ _ _ h => h) (Or.inl ⟨by rfl, ?_⟩) hHeld ?_
    rotate_left
    focus (intro w hSw; (try dsimp only at hSw); go_simp; try (with_reducible rfl))
    try simp only [Act.put, List.setIfInBounds_toArray, List.set_cons_zero, List.set_cons_succ]
    refine wpAnyL_take 12 (i := 3) (oi := ⟨some 41, _, _, _, _, _⟩) (v := ?_) rfl (by kernel_rfl) (by kernel_rfl) (by kernel_rfl) (by kernel_rfl) (by kernel_rfl) (by kernel_rfl) (by kernel_rfl) (fun _ _ _ h => h) (Or.inl ⟨by rfl, ?_⟩) hHeld ?_
    rotate_left
    focus (intro w hSw; (try dsimp only at hSw); go_simp; try (with_reducible rfl))
    try simp only [Act.put, List.setIfInBounds_toArray, List.set_cons_zero, List.set_cons_succ]
    refine wpAnyL_take 12 (i := 4) (oi := ⟨some 42, _, _, _, _, _⟩) (v := ?_) rfl (by kernel_rfl) (by kernel_rfl) (by kernel_rfl) (by kernel_rfl) (by kernel_rfl) (by kernel_rfl) (by kernel_rfl) (fun _ _ _ h => h) (Or.inl ⟨by rfl, ?_⟩) hHeld ?_
    rotate_left
    focus (intro w hSw; (try dsimp only at hSw); go_simp; try (with_reducible rfl))
    try simp only [Act.put, List.setIfInBounds_toArray, List.set_cons_zero, List.set_cons_succ]
    refine wpAnyL_take 12 (i := 5) (oi := ⟨some 43, _, _, _, _, _⟩) (v := ?_) rfl (by kernel_rfl) (by kernel_rfl) (by kernel_rfl) (by kernel_rfl) (by kernel_rfl) (by kernel_rfl) (by kernel_rfl) (fun _ _ _ h => h) (Or.inl ⟨by rfl, ?_⟩) hHeld ?_
    rotate_left
    focus (intro w hSw; (try dsimp only at hSw); go_simp; try (with_reducible rfl))
    try simp only [Act.put, List.setIfInBounds_toArray, List.set_cons_zero, List.set_cons_succ]
    refine wpAnyL_one (i := 6) (o := ⟨some 44, _, _, _, _, _⟩) (by kernel_rfl) rfl (fun K hK => ?_)
    clear hHeld
    go_simp
    refine (HCO.out _).mono ?_
    rintro e w2' ⟨rfl, rfl⟩
    go_wp2_with fail
    refine hK.out _ _ (HS6.out _ (Below.refl _ _).drew) (fun hHeld => ?_)
    clear hK K
    try simp only [Act.put, List.setIfInBounds_toArray, List.set_cons_zero, List.set_cons_succ]
    refine wpAnyL_one (i := 7) (o := ⟨some 45, _, _, _, _, _⟩) (by kernel_rfl) rfl (fun K hK => ?_)
    clear hHeld
    go_simp
    refine HTK.out.mono ?_
    rintro e w5 ⟨At, ac, rfl, F', d', hac, hAn, hoA, hpl5, hfd5, hFn5, hFr5, hFb5, hon5⟩
    have kY5 := hon5.blk HKY4.out (by decide) (by decide)
    obtain ⟨y0, y1, y2⟩ := blk3' kY5
    have q2 := kY5.frozen 2
    have HKY5 := Lib.hid kY5
    have HOA5 := Lib.hid hoA
    have HP5 := Lib.hid hpl5
    have k05 := hon5.blk HK04.out (by decide) (by decide)
    have HK05 := Lib.hid k05
    clear kY5 hoA hpl5
    go_wp2_with fail
    refine hK.out _ _ ((blk3' k05).2.1) (fun hHeld => ?_)
    clear hK K
    try simp only [Act.put, List.setIfInBounds_toArray, List.set_cons_zero, List.set_cons_succ]
    refine wpAnyL_take 12 (i := 8) (oi := ⟨some 46, _, _, _, _, _⟩) (v := ?_) rfl (by kernel_rfl) (by kernel_rfl) (by kernel_rfl) (by kernel_rfl) (by kernel_rfl) (by kernel_rfl) (by kernel_rfl) (fun _ _ _ h => h) (Or.inl ⟨by rfl, ?_⟩) hHeld ?_
    rotate_left
    focus (intro w hSw; (try dsimp only at hSw); go_simp; try (with_reducible rfl))
    try simp only [Act.put, List.setIfInBounds_toArray, List.set_cons_zero, List.set_cons_succ]
    refine wpAnyL_last (i := 9) (o := ⟨none, _, _, _, _, _⟩) (by kernel_rfl) rfl (by kernel_rfl) (fun K hK => ?_)
    clear hHeld
    go_simp
    go_wp2_with fail
    refine hK.out _ _ ?_
    clear hK K
    try simp only [Act.put, List.setIfInBounds_toArray, List.set_cons_zero, List.set_cons_succ]
    refine wpAnyL_done (by kernel_rfl) ?_ _
    refine NoPanic.normal ?_
    have hwd : w4.drew.heap.size = w4.heap.size := rfl
    have hX4 : X < w4.heap.size := Nat.lt_of_lt_of_le hX hs4
    have hYw : w.heap.size ≤ Y := by have := hB1.size; omega
    have hYX : X < Y := by omega
    have ho5 : Only X WT w w5 := (Only.of_below hB04.drew (Nat.le_of_lt hX)).trans hon5
    have ho6 : Only X WT w (w5.setCell ⟨Y, 2, none⟩ (.slice At cn ac)) := ho5.setNew hX hYw 2 _
    have hs5 := hon5.size
    have k6 := HKY5.out.set 2 (.slice At cn ac)
    have hp6 := HP5.out.setFar (i := 2) (u := .slice At cn ac) HKY5.out (by decide) (by decide) (by decide)
    have hoA6 := own_setFar (j := 2) (u := .slice At cn ac) HKY5.out HOA5.out (by decide)
    have hoD5 := hon5.own (own_below3 (own_below3 HO3.out hB34 (Nat.le_refl _)) (Below.refl _ _).drew (Nat.le_refl _)) (by decide) (by decide)
    have hoD6 := own_setFar (j := 2) (u := .slice At cn ac) HKY5.out hoD5 (by decide)
    have k06 : Blk (w5.setCell ⟨Y, 2, none⟩ (.slice At cn ac)) w.heap.size 58 _ := (set_heap w5 Y 2 (.slice At cn ac) w.heap.size (by have := hB1.size; omega)).trans HK05.out
    have kR5 := hon5.blk (HK1.out.below hB14 hlt1).drew (by decide) (by decide)
    have kR6 : Blk (w5.setCell ⟨Y, 2, none⟩ (.slice At cn ac)) (w.heap.size + 1) 58 _ := (set_heap w5 Y 2 (.slice At cn ac) (w.heap.size + 1) (by omega)).trans kR5
    generalize hW6 : w5.setCell ⟨Y, 2, none⟩ (.slice At cn ac) = w6 at *
    have HP6 := Lib.hid hp6
    have HOA6 := Lib.hid hoA6
    have HOD6 := Lib.hid hoD6
    have HK6 := Lib.hid k6
    have HK06 := Lib.hid k06
    have HKR6 := Lib.hid kR6
    have HON6 := Lib.hid ho6
    have hY6 := k6.lt
    have h06 := k06.lt
    have hR6 := kR6.lt
    have hs46 : w4.heap.size ≤ w6.heap.size := by rw [← hW6]; simp; exact hs5
    have HS7 : Hid (∀ W, Below w6.heap.size w6 W → W.cell? ⟨w.heap.size, 1, none⟩ = some (.slice dA zs.length dc) ∧ W.cell? ⟨Y, 2, none⟩ = some (.slice At cn ac)) := Lib.hid fun W hB => ⟨(blk3' (HK06.out.below hB h06)).2.1, (blk3' (HK6.out.below hB hY6)).2.2⟩
    have HRP : Hid (∀ W, W.cell? ⟨w6.heap.size, 0, none⟩ = some (.int .i64 0) → Calls Tryz.prog 80 #[.slice (some ⟨w6.heap.size, 0, none⟩) 1 1, .int .i64 cn] W fun e w' => e = .returned (.slice (some ⟨W.heap.size, 0, none⟩) cn cn) ∧ Blk w' W.heap.size 3 (zsI cn) ∧ Below W.heap.size W w') := Lib.hid fun W hc => repeat_any w6.heap.size 0 1 cn (by omega) W hc
    have HFT : Hid ((fr.take cn).length = cn) := Lib.hid (by rw [List.length_take]; omega)
    have HWR : Hid (∀ w7 g, Below w6.heap.size w6 w7 → Blk w7 g 3 (zsI cn) → Calls Tryz.prog 79 #[.pointer (some ⟨X, 1, none⟩), .slice dA zs.length dc, .slice At cn ac, .slice (some ⟨g, 0, none⟩) cn cn] w7 fun e w' => e = .returned (.tuple #[]) ∧ ∃ v' new, Pl X 1 WT ([.slice F' (fr.drop cn).length d', v, .map (some mb)].set 1 v') v' w' (l ++ new) ∧ new.map Ac.st = (List.range cn).map (wact zs (fr.take cn) (List.replicate cn 0)) ∧ Only X WT w7 w') := Lib.hid fun w7 g hB hg => by
      have hP7 := HP6.out.below hB
      have ho7 : Only X WT w w7 := HON6.out.trans (Only.of_below hB (by omega))
      have ha7 := own_below3 HOA6.out hB (Nat.le_refl _)
      have := write_any_in X _ v l (by omega) ⟨dA, zs, dc⟩ (by show zs.length ≤ _; omega) hdc hxo At (some ⟨g, 0, none⟩) ac cn (fr.take cn) (List.replicate cn 0) (by rw [HFT.out]; exact HCN.out.symm) (by rw [List.length_replicate]; exact HCN.out.symm) (fun z hz => by rw [(List.mem_replicate.1 hz).2]; omega) w7 hP7
        (fun W hW => (HXU.out.belowX (ho7.trans hW).below).rd) (fun W hW => RdI.of_row (hW.own ha7 (by decide) (by decide))) (fun W hW => by have := rd_blk (hW.blk hg (by decide) (by decide)); rw [zsI_ints] at this; exact this)
      rw [HFT.out, List.length_replicate] at this
      simp only [HCN.out] at this
      exact this
    clear hp6 hoA6 hoD6 k6 k06 kR6 ho6 hon5 ho5 hoD5 kR5 hW6 y0 y1 y2 q2
    have hBd6 : Below w6.heap.size w6 w6.drew := (Below.refl _ _).drew
    go_wp2
    refine wp_region_noPanic ?_
    refine wp_region_last 12 (fun W => W.cell? ⟨w.heap.size, 1, none⟩ = some (.slice dA zs.length dc) ∧ W.cell? ⟨Y, 2, none⟩ = some (.slice At cn ac)) (by kernel_rfl) (HS7.out _ hBd6) (fun hHeld => ?_)
    refine wpAnyL_take 12 (i := 0) (oi := ⟨some 47, _, _, _, _, _⟩) (v := ?_) rfl (by kernel_rfl) (by kernel_rfl) (by kernel_rfl) (by kernel_rfl) (by kernel_rfl) (by kernel_rfl) (by kernel_rfl) (fun _ _ _ h => h) (Or.inl ⟨by rfl, ?_⟩) hHeld ?_
    rotate_left
    focus (intro w hSw; (try dsimp only at hSw); go_simp; try (with_reducible rfl))
    try simp only [Act.put, List.setIfInBounds_toArray, List.set_cons_zero, List.set_cons_succ]
    refine wpAnyL_take 12 (i := 1) (oi := ⟨some 48, _, _, _, _, _⟩) (v := ?_) rfl (by kernel_rfl) (by kernel_rfl) (by kernel_rfl) (by kernel_rfl) (by kernel_rfl) (by kernel_rfl) (by kernel_rfl) (fun _ _ _ h => h) (Or.inl ⟨by rfl, ?_⟩) hHeld ?_
    rotate_left
    focus (intro w hSw; (try dsimp only at hSw); go_simp; try (with_reducible rfl))
    try simp only [Act.put, List.setIfInBounds_toArray, List.set_cons_zero, List.set_cons_succ]
    refine wpAnyL_take 12 (i := 2) (oi := ⟨some 49, _, _, _, _, _⟩) (v := ?_) rfl (by kernel_rfl) (by kernel_rfl) (by kernel_rfl) (by kernel_rfl) (by kernel_rfl) (by kernel_rfl) (by kernel_rfl) (fun _ _ _ h => h) (Or.inl ⟨by rfl, ?_⟩) hHeld ?_
    rotate_left
    focus (intro w hSw; (try dsimp only at hSw); go_simp; try (with_reducible rfl))
    try simp only [Act.put, List.setIfInBounds_toArray, List.set_cons_zero, List.set_cons_succ]
    refine wpAnyL_take 12 (i := 3) (oi := ⟨some 50, _, _, _, _, _⟩) (v := ?_) rfl (by kernel_rfl) (by kernel_rfl) (by kernel_rfl) (by kernel_rfl) (by kernel_rfl) (by kernel_rfl) (by kernel_rfl) (fun _ _ _ h => h) (Or.inl ⟨by rfl, ?_⟩) hHeld ?_
    rotate_left
    focus (intro w hSw; (try dsimp only at hSw); go_simp; try (with_reducible rfl))
    try simp only [Act.put, List.setIfInBounds_toArray, List.set_cons_zero, List.set_cons_succ]
    refine wpAnyL_take 12 (i := 4) (oi := ⟨some 51, _, _, _, _, _⟩) (v := ?_) rfl (by kernel_rfl) (by kernel_rfl) (by kernel_rfl) (by kernel_rfl) (by kernel_rfl) (by kernel_rfl) (by kernel_rfl) (fun _ _ _ h => h) (Or.inl ⟨by rfl, ?_⟩) hHeld ?_
    rotate_left
    focus (intro w hSw; (try dsimp only at hSw); go_simp; try (with_reducible rfl))
    try simp only [Act.put, List.setIfInBounds_toArray, List.set_cons_zero, List.set_cons_succ]
    refine wpAnyL_take 12 (i := 5) (oi := ⟨some 52, _, _, _, _, _⟩) (v := ?_) rfl (by kernel_rfl) (by kernel_rfl) (by kernel_rfl) (by kernel_rfl) (by kernel_rfl) (by kernel_rfl) (by kernel_rfl) (fun _ _ _ h => h) (Or.inl ⟨by rfl, ?_⟩) hHeld ?_
    rotate_left
    focus (intro w hSw; (try dsimp only at hSw); go_simp; try (with_reducible rfl))
    try simp only [Act.put, List.setIfInBounds_toArray, List.set_cons_zero, List.set_cons_succ]
    refine wpAnyL_take 12 (i := 6) (oi := ⟨some 53, _, _, _, _, _⟩) (v := ?_) rfl (by kernel_rfl) (by kernel_rfl) (by kernel_rfl) (by kernel_rfl) (by kernel_rfl) (by kernel_rfl) (by kernel_rfl) (fun _ _ _ h => h) (Or.inl ⟨by rfl, ?_⟩) hHeld ?_
    rotate_left
    focus (intro w hSw; (try dsimp only at hSw); go_simp; try (with_reducible rfl))
    try simp only [Act.put, List.setIfInBounds_toArray, List.set_cons_zero, List.set_cons_succ]
    refine wpAnyL_take 12 (i := 8) (oi := ⟨some 55, _, _, _, _, _⟩) (v := ?_) rfl (by kernel_rfl) (by kernel_rfl) (by kernel_rfl) (by kernel_rfl) (by kernel_rfl) (by kernel_rfl) (by kernel_rfl) (fun _ _ _ h => h) (Or.inl ⟨by rfl, ?_⟩) hHeld ?_
    rotate_left
    focus (intro w hSw; (try dsimp only at hSw); go_simp; try (with_reducible rfl))
    try simp only [Act.put, List.setIfInBounds_toArray, List.set_cons_zero, List.set_cons_succ]
    refine wpAnyL_take 12 (i := 9) (oi := ⟨some 56, _, _, _, _, _⟩) (v := ?_) rfl (by kernel_rfl) (by kernel_rfl) (by kernel_rfl) (by kernel_rfl) (by kernel_rfl) (by kernel_rfl) (by kernel_rfl) (fun _ _ _ h => h) (Or.inl ⟨by rfl, ?_⟩) hHeld ?_
    rotate_left
    focus (intro w hSw; (try dsimp only at hSw); go_simp; try (with_reducible rfl))
    try simp only [Act.put, List.setIfInBounds_toArray, List.set_cons_zero, List.set_cons_succ]
    refine wpAnyL_take 12 (i := 10) (oi := ⟨some 57, _, _, _, _, _⟩) (v := ?_) rfl (by kernel_rfl) (by kernel_rfl) (by kernel_rfl) (by kernel_rfl) (by kernel_rfl) (by kernel_rfl) (by kernel_rfl) (fun _ _ _ h => h) (Or.inl ⟨by rfl, ?_⟩) hHeld ?_
    rotate_left
    focus (intro w hSw; (try dsimp only at hSw); go_simp; try (with_reducible rfl))
    try simp only [Act.put, List.setIfInBounds_toArray, List.set_cons_zero, List.set_cons_succ]
    refine wpAnyL_one (i := 7) (o := ⟨some 54, _, _, _, _, _⟩) (by kernel_rfl) rfl (fun K hK => ?_)
    clear hHeld
    go_simp
    have hBa : Below w6.heap.size w6 (w6.drew.alloc (.cells #[.int .i64 0] 3)) := hBd6.alloc hBd6.size _
    have hc0 : (w6.drew.alloc (.cells #[.int .i64 0] 3)).cell? ⟨w6.heap.size, 0, none⟩ = some (.int .i64 0) := (Blk.new w6.drew [.int .i64 0] 3).cell 0
    go_wp2_with fail
    refine hK.out _ _ (HS7.out _ hBa) (fun hHeld => ?_)
    clear hK K
    try simp only [Act.put, List.setIfInBounds_toArray, List.set_cons_zero, List.set_cons_succ]
    refine wpAnyL_one (i := 11) (o := ⟨some 58, _, _, _, _, _⟩) (by kernel_rfl) rfl (fun K hK => ?_)
    clear hHeld
    go_simp
    refine (HRP.out _ hc0).mono ?_
    rintro e w7 ⟨rfl, hk7, hB7⟩
    have hB67 : Below w6.heap.size w6 w7 := hBa.trans (hB7.mono hBa.size)
    rw [World.size_alloc] at hk7
    have HWX := Lib.hid (HWR.out w7 (w6.heap.size + 1) hB67 hk7)
    go_wp2_with fail
    refine hK.out _ _ (HS7.out _ hB67) (fun hHeld => ?_)
    clear hK K
    try simp only [Act.put, List.setIfInBounds_toArray, List.set_cons_zero, List.set_cons_succ]
    refine wpAnyL_last (i := 12) (o := ⟨some 59, _, _, _, _, _⟩) (by kernel_rfl) rfl (by kernel_rfl) (fun K hK => ?_)
    clear hHeld
    go_simp
    refine HWX.out.mono ?_
    rintro e w8 ⟨rfl, v', new, hp8, hn8, ho78⟩
    go_wp2_with fail
    refine hK.out _ _ ?_
    clear hK K
    try simp only [Act.put, List.setIfInBounds_toArray, List.set_cons_zero, List.set_cons_succ]
    refine wpAnyL_done (by kernel_rfl) ?_ _
    refine NoPanic.normal ?_
    have k8 := ho78.blk (HK6.out.below hB67 hY6) (by decide) (by decide)
    have kR8 := ho78.blk (HKR6.out.below hB67 hR6) (by decide) (by decide)
    have oA8 := ho78.own (own_below3 HOA6.out hB67 (Nat.le_refl _)) (by decide) (by decide)
    have oD8 := ho78.own (own_below3 HOD6.out hB67 (Nat.le_refl _)) (by decide) (by decide)
    have ho8 : Only X WT w w8 := (HON6.out.trans (Only.of_below hB67 (by omega))).trans ho78
    obtain ⟨y0, y1, y2⟩ := blk3' k8
    obtain ⟨r0, r1, r2⟩ := blk3' kR8
    have s0 := kR8.frozen 0
    have s1 := kR8.frozen 1
    have s2 := kR8.frozen 2
    have HKR8 := Lib.hid kR8
    have HOA8 := Lib.hid oA8
    have HOD8 := Lib.hid oD8
    have HP8 := Lib.hid hp8
    clear k8 kR8 oA8 oD8 hp8
    go_wp2
    have kR := ((HKR8.out.set 0 (.string key)).set 1 (.slice A3 zs.length c3)).set 2 (.slice At cn ac)
    obtain ⟨d0, d1, d2⟩ := blk3' kR
    have hoW : Only X WT w (((w8.setCell ⟨w.heap.size + 1, 0, none⟩ (.string key)).setCell ⟨w.heap.size + 1, 1, none⟩ (.slice A3 zs.length c3)).setCell ⟨w.heap.size + 1, 2, none⟩ (.slice At cn ac)) := ((ho8.setNew hX (Nat.le_succ _) 0 _).setNew hX (Nat.le_succ _) 1 _).setNew hX (Nat.le_succ _) 2 _
    refine bodyPost_ret (v := obval key A3 zs.length c3 At cn ac) (by simp [results, Tryz.results53, go_sem, d0, d1, d2]) rfl (.inl ⟨⟨key, ⟨A3, zs, c3⟩, At, fr.take cn, ac⟩, ?_, rfl, rfl, ?_, ?_, F', fr.drop cn, d', v', new, ?_, hoW, .inr ⟨HDF.out, ?_, ?_, ?_, ?_⟩⟩)
    · show Ending.returned (obval key A3 zs.length c3 At cn ac) = .returned (obval key A3 zs.length c3 At (fr.take cn).length ac)
      rw [HFT.out]
    · exact own_base (own_set3 HKR8.out HOD8.out (by decide)) hB1.size
    · show World.ownsRow _ _ _ 1 (.slice At (fr.take cn).length ac) (fr.take cn).length (ints (fr.take cn))
      rw [HFT.out]
      exact own_base (own_set3 HKR8.out HOA8.out (by decide)) hs4
    · exact H.out.move (HP8.out.set3 HKR8.out (by decide) (by decide) (by decide)) hoW (fun hu => hu.of_int hFr5 hFb5) hfd5 hFn5
    · show cntN zs.length ≤ fr.length
      rw [HCN.out]; exact hfit
    · show fr.take cn = fr.take (cntN zs.length)
      rw [HCN.out]
    · show fr.drop cn = fr.drop (cntN zs.length)
      rw [HCN.out]
    · show new.map Ac.st = (List.range (cntN zs.length)).map (wact zs (fr.take cn) (List.replicate (cntN zs.length) 0))
      rw [HCN.out]
      exact hn8

end Go.Proofs.YtmehjmkakkiedaaGreat

namespace Go.Proofs.YtmehjmkakkiedaaGreat
open Go.ChangeShapes Go.WideShapes Go.ChangeAt Go.RowKit
set_option maxRecDepth 100000

abbrev AcT : Type := Bool × Int × List Int

/-- The writes of octets. -/
def wrs (zs ats nxs : List Int) : List AcT := (List.range (cntN zs.length)).map (wact zs ats nxs)

/-- Objects are laid one by one: those that are there stay, the others go where there is room. -/
inductive Placing (old : List PO) (fr0 : List Int) : List PO → List PO → List Int → List AcT → Prop
  | nil : Placing old fr0 [] [] fr0 []
  | same {xs ys : List PO} {fr : List Int} {aw : List AcT} (x o : PO) : Placing old fr0 xs ys fr aw → o ∈ old → o.key = x.key → o.data = x.data → Placing old fr0 (xs ++ [x]) (ys ++ [⟨x.key, x.data, o.at_⟩]) fr aw
  | new {xs ys : List PO} {fr : List Int} {aw : List AcT} (x : PO) : Placing old fr0 xs ys fr aw → (∀ o ∈ old, o.key = x.key → o.data ≠ x.data) → cntN x.data.length ≤ fr.length →
      Placing old fr0 (xs ++ [x]) (ys ++ [⟨x.key, x.data, fr.take (cntN x.data.length)⟩]) (fr.drop (cntN x.data.length)) (aw ++ wrs x.data (fr.take (cntN x.data.length)) (List.replicate (cntN x.data.length) 0))

theorem wrs_length (zs ats nxs : List Int) : (wrs zs ats nxs).length = cntN zs.length := by simp [wrs]
theorem wrs_facts {zs ats nxs : List Int} (h : ats.length = cntN zs.length) : ∀ a ∈ wrs zs ats nxs, a.1 = false ∧ a.2.1 ∈ ats ∧ a.2.2.length = 64 := by
  intro a ha
  obtain ⟨i, hi, rfl⟩ := List.mem_map.1 ha
  have hi' : i < ats.length := by have := List.mem_range.1 hi; omega
  refine ⟨rfl, ?_, pgO_length _ (piece_le _ _)⟩
  show ats.getD i 0 ∈ ats
  rw [List.getD_eq_getElem?_getD, List.getElem?_eq_getElem hi']
  exact List.getElem_mem hi'

theorem Placing.facts {old : List PO} {fr0 : List Int} {xs ys : List PO} {fr : List Int} {aw : List AcT} (h : Placing old fr0 xs ys fr aw) (hold : ∀ o ∈ old, o.at_.length = cntN o.data.length) :
    ys.map (·.key) = xs.map (·.key) ∧ ys.map (·.data) = xs.map (·.data) ∧ (∀ y ∈ ys, y.at_.length = cntN y.data.length) ∧ aw.length + fr.length = fr0.length ∧ (∃ k, fr = fr0.drop k) ∧ ∀ a ∈ aw, a.1 = false ∧ a.2.1 ∈ fr0 ∧ a.2.2.length = 64 := by
  induction h with
  | nil => exact ⟨rfl, rfl, fun y hy => (by cases hy), by simp, ⟨0, rfl⟩, fun a ha => (by cases ha)⟩
  | same x o h1 h2 h3 h4 ih =>
    obtain ⟨e1, e2, e3, e4, e5, e6⟩ := ih
    refine ⟨by simp [e1], by simp [e2], fun y hy => ?_, e4, e5, e6⟩
    rcases List.mem_append.1 hy with hy | hy
    · exact e3 y hy
    · simp at hy
      subst hy
      show o.at_.length = cntN x.data.length
      rw [hold o h2, h4]
  | new x h1 h2 h3 ih =>
    obtain ⟨e1, e2, e3, e4, ⟨k, e5⟩, e6⟩ := ih
    rename_i fr' aw'
    have hl : (fr'.take (cntN x.data.length)).length = cntN x.data.length := by rw [List.length_take]; omega
    refine ⟨by simp [e1], by simp [e2], fun y hy => ?_, ?_, ⟨k + cntN x.data.length, by rw [e5, List.drop_drop]⟩, fun a ha => ?_⟩
    · rcases List.mem_append.1 hy with hy | hy
      · exact e3 y hy
      · simp at hy
        subst hy
        exact hl
    · rw [List.length_append, wrs_length, List.length_drop]
      omega
    · rcases List.mem_append.1 ha with ha | ha
      · exact e6 a ha
      · obtain ⟨f1, f2, f3⟩ := wrs_facts hl a ha
        refine ⟨f1, ?_, f3⟩
        have f4 := List.mem_of_mem_take f2
        rw [e5] at f4
        exact List.mem_of_mem_drop f4
theorem Placing.length {old : List PO} {fr0 : List Int} {xs ys : List PO} {fr : List Int} {aw : List AcT} (h : Placing old fr0 xs ys fr aw) : ys.length = xs.length := by
  induction h with
  | nil => rfl
  | same x o h1 h2 h3 h4 ih => simp [ih]
  | new x h1 h2 h3 ih => simp [ih]

/-- What is written last: all that is new stands ahead of it. -/
def lastActs (u : Ub) : List AcT := [(true, 0, []), (false, u.t % 2, u.octs), (true, 0, [])]

/-- The index of a commit. -/
def Indexed (fr : List Int) (ys : List PO) (ix : List Int) (f : Int) (wi : List AcT) : Prop :=
  (ys = [] ∧ ix = [] ∧ f = 0 ∧ wi = []) ∨
  (ys ≠ [] ∧ cntN (wr (idxT ys)).length ≤ fr.length ∧ ix = fr.take (cntN (wr (idxT ys)).length) ∧ f = ix.getD 0 0 ∧ wi = wrs (wr (idxT ys)) ix (ix.drop 1 ++ [0]))

/-- A store, behind a commit of objects to one. -/
structure Committed (s : PS) (l : List PO) (u : PS) (aw : List AcT) : Prop where
  lay : ∃ fr pl wi, Placing s.os (freeL s.dev.secs.length s.secs) l u.os fr pl ∧ Indexed fr u.os u.ix u.u.f wi ∧ aw = pl ++ wi ++ lastActs u.u
  t : u.u.t = s.u.t + 1
  o : u.u.o = l.length
  dev : u.dev = doL s.dev aw

/-- How many sectors objects need, with their index. -/
def pgSum (l : List PO) : Nat := (l.map fun o => cntN o.data.length).sum
def need (l : List PO) : Nat := pgSum l + if l = [] then 0 else cntN (idxSize l)
/-- There is no room. -/
def Full (s : PS) (l : List PO) : Prop := (freeL s.dev.secs.length s.secs).length < need l
theorem pgSum_append (a b : List PO) : pgSum (a ++ b) = pgSum a + pgSum b := by simp [pgSum]
theorem pgSum_take (l : List PO) (k : Nat) : pgSum (l.take k) ≤ pgSum l := by
  have h : pgSum l = pgSum (l.take k ++ l.drop k) := by rw [List.take_append_drop]
  rw [h, pgSum_append]
  omega
theorem Placing.writes {old : List PO} {fr0 : List Int} {xs ys : List PO} {fr : List Int} {aw : List AcT} (h : Placing old fr0 xs ys fr aw) : aw.length ≤ pgSum xs := by
  induction h with
  | nil => simp
  | same x o h1 h2 h3 h4 ih => rw [pgSum_append]; omega
  | new x h1 h2 h3 ih =>
    rw [pgSum_append, List.length_append, wrs_length]
    have : pgSum [x] = cntN x.data.length := by simp [pgSum]
    omega

theorem idx_len {ys : List PO} : (wr (idxT ys)).length = 2 + (ys.map fun y => 17 + y.key.size + 8 * y.at_.length).foldr (· + ·) 0 := by
  rw [wr_length]
  have : ∀ l : List PO, (body (idxT l)).length = (l.map fun y => 17 + y.key.size + 8 * y.at_.length).foldr (· + ·) 0 := by
    intro l
    induction l with
    | nil => rfl
    | cons x l ih =>
      have e : idxT (x :: l) = x.key :: numT x.data.length :: numsT x.at_ :: idxT l := rfl
      rw [e]
      simp only [body, List.length_append, part1_length, List.map_cons, List.foldr_cons, numT_size, numsT_size, ih]
      omega
  rw [this]
theorem idx_sum {ys : List PO} (h0 : ys ≠ []) (h : ∀ y ∈ ys, y.at_.length = cntN y.data.length) : (wr (idxT ys)).length = idxSize ys := by
  rw [idx_len]
  unfold idxSize sumOne
  rw [if_neg h0]
  congr 2
  refine List.map_congr_left fun y hy => ?_
  rw [h y hy]
  rfl
theorem one_same {xs ys : List PO} (h1 : ys.map (·.key) = xs.map (·.key)) (h2 : ys.map (·.data) = xs.map (·.data)) : idxSize ys = idxSize xs := by
  have hs : sumOne ys = sumOne xs := by
    unfold sumOne
    congr 1
    have hl : ys.length = xs.length := by have := congrArg List.length h1; simpa using this
    refine List.ext_getElem (by simpa using hl) fun i hi hj => ?_
    simp only [List.length_map] at hi hj
    have e1 := congrArg (fun l => l[i]?) h1
    have e2 := congrArg (fun l => l[i]?) h2
    simp only [List.getElem?_map, List.getElem?_eq_getElem hi, List.getElem?_eq_getElem hj, Option.map_some, Option.some.injEq] at e1 e2
    simp only [List.getElem_map, one, e1, e2]
  have h0 : ys = [] ↔ xs = [] := by
    have hl : ys.length = xs.length := by have := congrArg List.length h1; simpa using this
    rw [← List.length_eq_zero_iff, ← List.length_eq_zero_iff, hl]
  unfold idxSize
  rw [hs]
  by_cases h : ys = []
  · rw [if_pos h, if_pos (h0.1 h)]
  · rw [if_neg h, if_neg (fun h' => h (h0.2 h'))]

end Go.Proofs.YtmehjmkakkiedaaGreat

namespace Go.Proofs.YtmehjmkakkiedaaGreat
open Go.ChangeShapes Go.WideShapes Go.ChangeAt Go.RowKit Go.Maps
set_option maxRecDepth 100000

/-- Blocks of other types stay. -/
def Away (T : TypeId) (W W' : World) : Prop := ∀ (k : Nat) cur t z, W.heap[k]? = some (.cells cur t z) → t ≠ T → W'.heap[k]? = W.heap[k]?
theorem Away.trans {T : TypeId} {A B C : World} (h : Away T A B) (k : Away T B C) : Away T A C := fun i cur t z hi h1 => by
  have e := h i cur t z hi h1
  exact (k i cur t z (e.trans hi) h1).trans e
theorem Away.of_below {T : TypeId} {W W' : World} (h : Below W.heap.size W W') : Away T W W' := fun k _ _ _ hk _ => h.block k (Array.getElem?_eq_some_iff.1 hk).1
theorem Away.blk {T : TypeId} {W W' : World} (h : Away T W W') {g : Nat} {t : TypeId} {vs : List Value} (hb : Blk W g t vs) (h1 : t ≠ T) : Blk W' g t vs := (h g _ t _ hb h1).trans hb
theorem Away.own {T : TypeId} {W W' : World} (h : Away T W W') {base size k : Nat} {e : TypeId} {v : Value} {xs : List Value} (ho : W.ownsRow base e size v k xs) (h1 : e ≠ T) : W'.ownsRow base e size v k xs :=
  own_stay ho fun b hb => by
    rcases ho.2 with ⟨rfl, _⟩ | ⟨g, cap, cur, rfl, _, hg, _⟩
    · cases hb
    · simp only [Value.ownBlock, Option.some.injEq] at hb
      subst hb
      exact h g _ _ _ hg h1
theorem Away.pl {T : TypeId} {W W' : World} (h : Away T W W') {X j : Nat} {T' : TypeId} {vs : List Value} {v : Value} {l : List Ac} (hp : Pl X j T' vs v W l) (h1 : T' ≠ T) (h2 : 82 ≠ T) (h3 : 5 ≠ T) : Pl X j T' vs v W' l :=
  ⟨h.blk hp.blk h1, hp.at_, h.own hp.row h2, fun a ha => h.own (hp.data a ha) h3⟩
theorem WrAt.away {base X : Nat} {W W' : World} {F : Option Addr} {fr : List Int} {d mb n : Nat} {D : Dv2} {os : List Ob} {v : Value} {l : List Ac} (h : WrAt base X W F fr d mb n D os v l) {T : TypeId} (ha : Away T W W') (hB : Below X W W')
    (h1 : WT ≠ T) (h2 : 82 ≠ T) (h3 : 5 ≠ T) : WrAt base X W' F fr d mb n D os v l :=
  ⟨ha.pl h.pl h1 h2 h3, h.free.belowX hB, h.fd, h.fn, h.mlt, own_map_block h.mp (hB.block mb h.mlt), h.mis, h.bX⟩
/-- A row that grows is away from all other types. -/
theorem away_grown {T : TypeId} {W W' : World} {base size k : Nat} {v : Value} {xs : List Value} (ho : W.ownsRow base T size v k xs) (hg : W.grownBy W' v.ownBlock) : Away T W W' := fun i cur t z hi h1 =>
  hg.block i (Array.getElem?_eq_some_iff.1 hi).1 (fun e => by
    rcases ho.2 with ⟨rfl, _⟩ | ⟨g, cap, cur', rfl, _, hh, _⟩
    · cases e
    · simp only [Value.ownBlock, Option.some.injEq] at e
      subst e
      have := hh.symm.trans hi
      simp at this
      exact h1 this.2.1.symm)
theorem away_set {T : TypeId} {W : World} {Y j : Nat} {u : Value} {vs : List Value} (h : Blk W Y T vs) : Away T W (W.setCell ⟨Y, j, none⟩ u) := fun i cur t z hi h1 =>
  set_heap W Y j u i (fun e => by
    subst e
    have := h.symm.trans hi
    simp at this
    exact h1 this.2.1.symm)

/-- The box of the store that is made. -/
abbrev outCells (t f o : Int) (vO vI : Value) : List Value := [.slice none 0 0, .slice none 0 0, .int .i64 t, .int .i64 f, .int .i64 o, vO, vI]
/-- Objects that are laid. -/
structure CJ (base X Y : Nat) (W : World) (t o : Int) (F : Option Addr) (fr : List Int) (d mb n : Nat) (D : Dv2) (os : List Ob) (v : Value) (l : List Ac) (vO : Value) (ys : List Ob) : Prop where
  wr : WrAt base X W F fr d mb n D os v l
  box : Blk W Y 32 (outCells t 0 o vO (.slice none 0 0))
  row : W.ownsRow X 58 3 vO ys.length (obCells ys)
  data : ∀ y ∈ ys, W.ownsRow X 5 1 y.d.val y.d.zs.length (octCells y.d.zs)
  at_ : ∀ y ∈ ys, W.ownsRow X 3 1 (.slice y.B y.ns.length y.e) y.ns.length (ints y.ns)
  bY : X < Y
theorem CJ.below {base X Y : Nat} {W W' : World} {t o : Int} {F : Option Addr} {fr : List Int} {d mb n : Nat} {D : Dv2} {os : List Ob} {v : Value} {l : List Ac} {vO : Value} {ys : List Ob} (h : CJ base X Y W t o F fr d mb n D os v l vO ys) (hB : Below W.heap.size W W') : CJ base X Y W' t o F fr d mb n D os v l vO ys :=
  ⟨h.wr.away (T := 0) (Away.of_below hB) (hB.mono (Nat.le_of_lt h.wr.pl.blk.lt)) (by decide) (by decide) (by decide), h.box.below hB h.box.lt, own_below3 h.row hB (Nat.le_refl _), fun y hy => own_below3 (h.data y hy) hB (Nat.le_refl _), fun y hy => own_below3 (h.at_ y hy) hB (Nat.le_refl _), h.bY⟩
theorem CJ.only {base X Y : Nat} {W W' : World} {t o : Int} {F F' : Option Addr} {fr fr' : List Int} {d d' mb n : Nat} {D : Dv2} {os : List Ob} {v v' : Value} {l l' : List Ac} {vO : Value} {ys : List Ob} (h : CJ base X Y W t o F fr d mb n D os v l vO ys) (ho : Only X WT W W') (hw : WrAt base X W' F' fr' d' mb n D os v' l') : CJ base X Y W' t o F' fr' d' mb n D os v' l' vO ys :=
  ⟨hw, ho.blk h.box (by decide) (by decide), ho.own h.row (by decide) (by decide), fun y hy => ho.own (h.data y hy) (by decide) (by decide), fun y hy => ho.own (h.at_ y hy) (by decide) (by decide), h.bY⟩
theorem CJ.push {base X Y : Nat} {w2 w4 : World} {t o : Int} {F : Option Addr} {fr : List Int} {d mb n : Nat} {D : Dv2} {os : List Ob} {v : Value} {l : List Ac} {vO v' : Value} {ys : List Ob} {y : Ob} (h : CJ base X Y w2 t o F fr d mb n D os v l vO ys)
    (hd : w2.ownsRow X 5 1 y.d.val y.d.zs.length (octCells y.d.zs)) (ha : w2.ownsRow X 3 1 (.slice y.B y.ns.length y.e) y.ns.length (ints y.ns))
    (hown : w4.ownsRow X 58 3 v' (ys.length + 1) (obCells ys ++ [.string y.key, y.d.val, .slice y.B y.ns.length y.e])) (hgrow : (w2.alloc (.cells #[.string y.key, y.d.val, .slice y.B y.ns.length y.e] 58)).grownBy w4 vO.ownBlock) :
    CJ base X Y (w4.setCell ⟨Y, 5, none⟩ v') t o F fr d mb n D os v l v' (ys ++ [y]) ∧ Below X w2 (w4.setCell ⟨Y, 5, none⟩ v') ∧ Away 58 (w2.alloc (.cells #[.string y.key, y.d.val, .slice y.B y.ns.length y.e] 58)) w4 := by
  have hB3 : Below w2.heap.size w2 (w2.alloc (.cells #[.string y.key, y.d.val, .slice y.B y.ns.length y.e] 58)) := (Below.refl _ _).alloc (Nat.le_refl _) _
  have h3 := h.below hB3
  have hd3 := own_below3 hd hB3 (Nat.le_refl _)
  have ha3 := own_below3 ha hB3 (Nat.le_refl _)
  have hX := h.wr.pl.blk.lt
  have hX3 := h3.wr.pl.blk.lt
  generalize w2.alloc (.cells #[.string y.key, y.d.val, .slice y.B y.ns.length y.e] 58) = w3 at *
  have hA4 : Away 58 w3 w4 := away_grown h3.row hgrow
  have hB4 : Below X w3 w4 := (Below.refl _ _).grown hgrow (Nat.le_of_lt hX3) (fun k e => (h3.row.lt k e).1)
  have kY4 := hA4.blk h3.box (by decide)
  have hA5 : Away 32 w4 (w4.setCell ⟨Y, 5, none⟩ v') := away_set kY4
  have hB5 : Below X w4 (w4.setCell ⟨Y, 5, none⟩ v') := (Below.refl _ _).setCell (p := ⟨Y, 5, none⟩) (Nat.le_of_lt h.bY) _
  have dd : ∀ (p : Value) (n : Nat) (xs : List Value), w3.ownsRow X 5 1 p n xs → (w4.setCell ⟨Y, 5, none⟩ v').ownsRow X 5 1 p n xs := fun p n xs hh => hA5.own (hA4.own hh (by decide)) (by decide)
  have di : ∀ (p : Value) (n : Nat) (xs : List Value), w3.ownsRow X 3 1 p n xs → (w4.setCell ⟨Y, 5, none⟩ v').ownsRow X 3 1 p n xs := fun p n xs hh => hA5.own (hA4.own hh (by decide)) (by decide)
  refine ⟨⟨?_, ?_, ?_, ?_, ?_, h.bY⟩, (hB3.mono (Nat.le_of_lt hX)).trans (hB4.trans hB5), hA4⟩
  · exact (h3.wr.away hA4 hB4 (by decide) (by decide) (by decide)).away hA5 hB5 (by decide) (by decide) (by decide)
  · exact kY4.set 5 v'
  · rw [List.length_append, obCells_snoc]
    exact hA5.own hown (by decide)
  · intro z hz
    rcases List.mem_append.1 hz with hz | hz
    · exact dd _ _ _ (h3.data z hz)
    · simp at hz
      subst hz
      exact dd _ _ _ hd3
  · intro z hz
    rcases List.mem_append.1 hz with hz | hz
    · exact di _ _ _ (h3.at_ z hz)
    · simp at hz
      subst hz
      exact di _ _ _ ha3

theorem placing_step {os : List Ob} {fr0 fr fr' : List Int} {xs : List PO} {ys : List Ob} {l new : List Ac} (hP : Placing (os.map Ob.st) fr0 xs (ys.map Ob.st) fr (l.map Ac.st)) (x y : Ob) (hk : y.key = x.key) (hd : y.d.zs = x.d.zs)
    (hway : (∃ o ∈ os, o.key = x.key ∧ o.d.zs = x.d.zs ∧ y.ns = o.ns ∧ fr' = fr ∧ new = []) ∨
     ((∀ o ∈ os, o.key = x.key → o.d.zs ≠ x.d.zs) ∧ cntN x.d.zs.length ≤ fr.length ∧ y.ns = fr.take (cntN x.d.zs.length) ∧ fr' = fr.drop (cntN x.d.zs.length) ∧ new.map Ac.st = (List.range (cntN x.d.zs.length)).map (wact x.d.zs y.ns (List.replicate (cntN x.d.zs.length) 0)))) :
    Placing (os.map Ob.st) fr0 (xs ++ [x.st]) ((ys ++ [y]).map Ob.st) fr' ((l ++ new).map Ac.st) := by
  rcases hway with ⟨o, ho, h1, h2, h3, rfl, rfl⟩ | ⟨h1, h2, h3, rfl, h4⟩
  · have := Placing.same x.st o.st hP (List.mem_map.2 ⟨o, ho, rfl⟩) h1 h2
    rw [List.append_nil, List.map_append]
    have e : y.st = ⟨x.key, x.d.zs, o.ns⟩ := by show PO.mk y.key y.d.zs y.ns = _; rw [hk, hd, h3]
    show Placing _ _ _ (_ ++ [y.st]) _ _
    rw [e]
    exact this
  · have := Placing.new x.st hP (fun o ho => by
      obtain ⟨o', ho', rfl⟩ := List.mem_map.1 ho
      exact h1 o' ho') h2
    rw [List.map_append, List.map_append, h4]
    have e : y.st = ⟨x.key, x.d.zs, fr.take (cntN x.d.zs.length)⟩ := by show PO.mk y.key y.d.zs y.ns = _; rw [hk, hd, h3]
    show Placing _ _ _ (_ ++ [y.st]) _ _
    rw [e, h3]
    exact this

/-- All objects are laid, and the index. -/
structure CT (X Y : Nat) (W : World) (d0 d1 : Value) (t f o : Int) (vs : List Value) (v : Value) (l : List Ac) (vO : Value) (ys : List Ob) (vI : Value) (ix : List Int) : Prop where
  pl : Pl X 1 WT vs v W l
  box : Blk W Y 32 [d0, d1, .int .i64 t, .int .i64 f, .int .i64 o, vO, vI]
  row : W.ownsRow X 58 3 vO ys.length (obCells ys)
  data : ∀ y ∈ ys, W.ownsRow X 5 1 y.d.val y.d.zs.length (octCells y.d.zs)
  at_ : ∀ y ∈ ys, W.ownsRow X 3 1 (.slice y.B y.ns.length y.e) y.ns.length (ints y.ns)
  ix : W.ownsRow X 3 1 vI ix.length (ints ix)
  bY : X < Y
theorem CT.away {X Y : Nat} {W W' : World} {d0 d1 d0' d1' : Value} {t f o f' : Int} {vs : List Value} {v : Value} {l : List Ac} {vO : Value} {ys : List Ob} {vI : Value} {ix : List Int} (h : CT X Y W d0 d1 t f o vs v l vO ys vI ix) {T : TypeId} (ha : Away T W W')
    (h1 : WT ≠ T) (h2 : 82 ≠ T) (h3 : 5 ≠ T) (h4 : 58 ≠ T) (h5 : 3 ≠ T) (hb : Blk W' Y 32 [d0', d1', .int .i64 t, .int .i64 f', .int .i64 o, vO, vI]) : CT X Y W' d0' d1' t f' o vs v l vO ys vI ix :=
  ⟨ha.pl h.pl h1 h2 h3, hb, ha.own h.row h4, fun y hy => ha.own (h.data y hy) h3, fun y hy => ha.own (h.at_ y hy) h5, ha.own h.ix h5, h.bY⟩
theorem CT.below {X Y : Nat} {W W' : World} {d0 d1 : Value} {t f o : Int} {vs : List Value} {v : Value} {l : List Ac} {vO : Value} {ys : List Ob} {vI : Value} {ix : List Int} (h : CT X Y W d0 d1 t f o vs v l vO ys vI ix) (hB : Below W.heap.size W W') : CT X Y W' d0 d1 t f o vs v l vO ys vI ix :=
  h.away (T := 0) (Away.of_below hB) (by decide) (by decide) (by decide) (by decide) (by decide) (h.box.below hB h.box.lt)
theorem CT.only {X Y : Nat} {W W' : World} {d0 d1 : Value} {t f o : Int} {vs vs' : List Value} {v v' : Value} {l l' : List Ac} {vO : Value} {ys : List Ob} {vI : Value} {ix : List Int} (h : CT X Y W d0 d1 t f o vs v l vO ys vI ix) (ho : Only X WT W W') (hp : Pl X 1 WT vs' v' W' l') : CT X Y W' d0 d1 t f o vs' v' l' vO ys vI ix :=
  ⟨hp, ho.blk h.box (by decide) (by decide), ho.own h.row (by decide) (by decide), fun y hy => ho.own (h.data y hy) (by decide) (by decide), fun y hy => ho.own (h.at_ y hy) (by decide) (by decide), ho.own h.ix (by decide) (by decide), h.bY⟩
theorem CT.dev {X Y : Nat} {W : World} {d0 d1 : Value} {t f o : Int} {vs : List Value} {v : Value} {l : List Ac} {vO : Value} {ys : List Ob} {vI : Value} {ix : List Int} (h : CT X Y W d0 d1 t f o vs v l vO ys vI ix) (u0 u1 : Value) : CT X Y ((W.setCell ⟨Y, 0, none⟩ u0).setCell ⟨Y, 1, none⟩ u1) u0 u1 t f o vs v l vO ys vI ix ∧ Below X W ((W.setCell ⟨Y, 0, none⟩ u0).setCell ⟨Y, 1, none⟩ u1) :=
  ⟨h.away ((away_set (j := 0) (u := u0) h.box).trans (away_set (j := 1) (u := u1) (h.box.set 0 u0))) (by decide) (by decide) (by decide) (by decide) (by decide) ((h.box.set 0 u0).set 1 u1),
   ((Below.refl _ _).setCell (p := ⟨Y, 0, none⟩) (Nat.le_of_lt h.bY) _).setCell (p := ⟨Y, 1, none⟩) (Nat.le_of_lt h.bY) _⟩
theorem away_set8 {T : TypeId} {W W' : World} {R : Nat} {vs : List Value} (h : Blk W R T vs) (hh : ∀ k, k ≠ R → W'.heap[k]? = W.heap[k]?) : Away T W W' := fun i cur t z hi h1 => hh i fun e => by
  subst e
  have := h.symm.trans hi
  simp at this
  exact h1 this.2.1.symm

/-- The index's first page. -/
theorem indexed_first {fr : List Int} {ys : List PO} {ix : List Int} {f : Int} {wi : List AcT} {N : Int} (h : Indexed fr ys ix f wi) (hN : ∀ z ∈ fr, 2 ≤ z ∧ z < N) : (f = 0 ∧ ys = []) ∨ (2 ≤ f ∧ f < N ∧ ys ≠ []) := by
  rcases h with ⟨h1, _, h3, _⟩ | ⟨h1, h2, h3, h4, _⟩
  · exact .inl ⟨h3, h1⟩
  · refine .inr ?_
    have h5 : 2 ≤ (wr (idxT ys)).length := by rw [idx_len]; omega
    have h6 : 0 < ix.length := by
      rw [h3, List.length_take]
      unfold cntN at h2 ⊢
      omega
    have h7 : f ∈ fr := by
      rw [h4, List.getD_eq_getElem?_getD, List.getElem?_eq_getElem h6]
      have h8 : ∀ z ∈ ix, z ∈ fr := fun z hz => by
        rw [h3] at hz
        exact List.mem_of_mem_take hz
      exact h8 _ (List.getElem_mem h6)
    exact ⟨(hN f h7).1, (hN f h7).2, h1⟩

theorem indexed_acts {fr : List Int} {ys : List PO} {ix : List Int} {f : Int} {wi : List AcT} (h : Indexed fr ys ix f wi) : (∀ a ∈ wi, a.1 = false ∧ a.2.1 ∈ fr ∧ a.2.2.length = 64) ∧ wi.length ≤ fr.length ∧ ix.length ≤ fr.length ∧ ∀ z ∈ ix, z ∈ fr := by
  rcases h with ⟨_, h2, _, h4⟩ | ⟨h1, h2, h3, _, h5⟩
  · rw [h2, h4]
    exact ⟨fun a ha => (by cases ha), Nat.zero_le _, Nat.zero_le _, fun z hz => (by cases hz)⟩
  · have hl : ix.length = cntN (wr (idxT ys)).length := by rw [h3, List.length_take]; omega
    have hm : ∀ z ∈ ix, z ∈ fr := fun z hz => by
      rw [h3] at hz
      exact List.mem_of_mem_take hz
    refine ⟨fun a ha => ?_, by rw [h5, wrs_length]; exact h2, by omega, hm⟩
    rw [h5] at ha
    obtain ⟨f1, f2, f3⟩ := wrs_facts hl a ha
    exact ⟨f1, hm _ f2, f3⟩
/-- All acts are right. -/
theorem acts_right {old : List PO} {fr0 fr : List Int} {lp : List PO} {ys : List PO} {pl : List AcT} {ix : List Int} {f : Int} {wi : List AcT} {l : List Ac} {n : Nat} (hP : Placing old fr0 lp ys fr pl) (hold : ∀ o ∈ old, o.at_.length = cntN o.data.length) (hI : Indexed fr ys ix f wi)
    (hl : l.map Ac.st = pl ++ wi) (h0 : ∀ z ∈ fr0, 2 ≤ z ∧ z < (n : Int)) : ∀ a ∈ l, a.fl = false ∧ 2 ≤ a.at_ ∧ a.at_ < n ∧ a.p.zs.length = 64 := by
  intro a ha
  obtain ⟨_, _, _, _, ⟨j, e5⟩, e6⟩ := hP.facts hold
  have hm : a.st ∈ pl ++ wi := hl ▸ List.mem_map.2 ⟨a, ha, rfl⟩
  have h1 : a.st.1 = false ∧ a.st.2.1 ∈ fr0 ∧ a.st.2.2.length = 64 := by
    rcases List.mem_append.1 hm with hm | hm
    · exact e6 _ hm
    · obtain ⟨g1, g2, g3⟩ := (indexed_acts hI).1 _ hm
      refine ⟨g1, ?_, g3⟩
      rw [e5] at g2
      exact List.mem_of_mem_drop g2
  have h2 := h0 _ h1.2.1
  exact ⟨h1.1, h2.1, h2.2, h1.2.2⟩
theorem dv_fits {D : Dv} (h : D.st.ok) (hm : D.ws.length ≤ 4398046511104) : D.Fits := by
  obtain ⟨h1, h2, h3, h4⟩ := (Dv.ok_iff D).1 h
  refine ⟨by omega, hm, fun p hp => by rw [h3 p hp]; omega, fun x hx => ?_⟩
  have := h4 x hx
  unfold wrtE at this
  split at this
  · split at this
    · omega
    · omega
  · omega

end Go.Proofs.YtmehjmkakkiedaaGreat

namespace Go.Proofs.YtmehjmkakkiedaaGreat
open Go.ChangeShapes Go.WideShapes Go.ChangeAt Go.RowKit Go.Maps
set_option maxRecDepth 100000

/-- A commit that went well. -/
def CmtOk (s : PS) (lp : List PO) (e : Ending) (w w' : World) : Prop :=
  ∃ (U : St) (A : Option Addr) (c : Nat) (l : List Ac), e = .returned (stepval U.dev U.u.t U.u.f U.u.o U.O U.os.length U.oc U.I U.is.length U.ic A l.length c) ∧ Committed s lp U.st (l.map Ac.st) ∧ U.Lies w.heap.size w' ∧ U.Fits ∧ RdF w.heap.size w' A (acCells l) ∧ (∀ a ∈ l, RdF w.heap.size w' a.p.A (ocl a.p.zs)) ∧ l.length ≤ c ∧ U.dev.Caps
/-- What a commit comes to. -/
def CmtRes (s : PS) (lp : List PO) (e : Ending) (w w' : World) : Prop :=
  (¬ s.ok ∧ e = flt 9) ∨ (s.ok ∧ objE lp ≠ 0 ∧ e = flt (objE lp)) ∨ (s.ok ∧ objE lp = 0 ∧ (65536 < idxSize lp ∧ e = flt 5 ∨ s.u.t = 1099511627776 ∧ e = flt 15 ∨ Full s lp ∧ e = flt 17)) ∨ (s.ok ∧ objE lp = 0 ∧ CmtOk s lp e w w')

/-- The octets of the index. -/
abbrev IDX (ys : List Ob) : List Int := wr (idxT (ys.map Ob.st))
theorem infoObj : (Tryz.prog.info? 58).map (fun i => (i.zero, i.size, i.bytes)) = some (some (.agg #[.string ByteArray.empty, .slice none 0 0, .slice none 0 0]), 3, 64) := by kernel_rfl

set_option maxHeartbeats 4000000 in
theorem commit_any (s : St) (hf : s.Fits) (A : Option Addr) (c : Nat) (ls : List Ob) (hls : ls.length ≤ 4398046511104) (hlf : ∀ o ∈ ls, o.Fits) (w : World) (hL : s.Lies 0 w) (hr : Rd w A (obCells ls)) (hrd : ∀ o ∈ ls, Rd w o.d.A (octCells o.d.zs)) :
    Calls Tryz.prog 26 #[s.val, .slice A ls.length c] w fun e w' => CmtRes s.st (ls.map Ob.st) e w w' ∧ Below w.heap.size w w' := by
  have HCK := Lib.hid (fun w h => storeCheck_any s hf w h)
  have HOB := Lib.hid (fun w h => checkObjects_any A c ls hls (fun o ho => ⟨(hlf o ho).k, (hlf o ho).d⟩) w h)
  have HF := Lib.hid hf
  have HL := Lib.hid hL
  have HLF := Lib.hid hlf
  have HR := Lib.hid hr
  have HRD := Lib.hid hrd
  obtain ⟨sp, hsp⟩ : ∃ sp, s.st = sp := ⟨_, rfl⟩
  obtain ⟨lp, hlp⟩ : ∃ lp, ls.map Ob.st = lp := ⟨_, rfl⟩
  have hdn : s.st.dev.secs.length = s.dev.ps.length := by simp [St.st, Dv.st]
  have hdw : s.st.dev.waits = s.dev.ws.map Wt.st := rfl
  have hsec : s.st.secs = flatNs s.os ++ s.is := st_secs s
  have hspu : s.st.u = s.u := rfl
  have hspo : s.st.os = s.os.map Ob.st := rfl
  have hspd : s.st.dev = s.dev.st := rfl
  rw [hsp] at hdn hdw hsec hspu hspo hspd HCK ⊢
  rw [hlp] at HOB ⊢
  have HSP := Lib.hid hsp
  have HLP := Lib.hid hlp
  have HDN := Lib.hid hdn
  have HDW := Lib.hid hdw
  have HSEC := Lib.hid hsec
  have HSPU := Lib.hid hspu
  have HSPO := Lib.hid hspo
  have HSPD := Lib.hid hspd
  have HNW : Hid (∀ w, s.Lies 0 w → sp.ok → Calls Tryz.prog 52 #[s.val] w fun e w' => ∃ X F d mb n D, e = .returned (.pointer (some ⟨X, 0, none⟩)) ∧ WrAt w.heap.size X w' F (freeL s.dev.ps.length (flatNs s.os ++ s.is)) d mb n D s.os (.slice none 0 0) [] ∧ Below w.heap.size w w') := Lib.hid fun w hl hok => by
    have hch := hok.secs
    rw [hdn, hsec] at hch
    obtain ⟨⟨h1, h2⟩, h3, h4⟩ := chk_ok.1 hch
    have hlen : (flatNs s.os ++ s.is).length ≤ 8192 := by
      have := length_free h3 h4
      omega
    have hk := (objE_keys hok.os).2
    rw [hspo] at hk
    have hk2 := List.pairwise_map.1 hk
    exact newWriter_any s hf hch (by omega) hk2 w hl
  clear hf hL hlf hr hrd hsp hlp hdn hdw hsec hspu hspo hspd
  obtain ⟨⟨dA, ps, dc, B, ws, dd⟩, ⟨t, f, o⟩, O, os, oc, I, is, ic⟩ := s
  dsimp only [St.val, Dv.val, dval, Ub.val] at *
  obtain ⟨w1, hw1⟩ : ∃ w1, (w.alloc (.cells #[.slice dA ps.length dc, .slice B ws.length dd, .int .i64 t, .int .i64 f, .int .i64 o, .slice O os.length oc, .slice I is.length ic] 32)).alloc (.cells #[.slice none 0 0, .slice none 0 0, .int .i64 0, .int .i64 0, .int .i64 0, .slice none 0 0, .slice none 0 0, .slice none 0 0] 65) = w1 := ⟨_, rfl⟩
  have e1 : w1 = allocs w [([.slice dA ps.length dc, .slice B ws.length dd, .int .i64 t, .int .i64 f, .int .i64 o, .slice O os.length oc, .slice I is.length ic], 32), ([.slice none 0 0, .slice none 0 0, .int .i64 0, .int .i64 0, .int .i64 0, .slice none 0 0, .slice none 0 0, .slice none 0 0], 65)] := by rw [← hw1]; rfl
  have hB1 : Below w.heap.size w w1 := by rw [e1]; exact allocs_below _ _
  have kx : Blk w1 w.heap.size 32 [.slice dA ps.length dc, .slice B ws.length dd, .int .i64 t, .int .i64 f, .int .i64 o, .slice O os.length oc, .slice I is.length ic] := by rw [e1]; exact allocs_blk _ w 0 rfl
  have kr : Blk w1 (w.heap.size + 1) 65 [.slice none 0 0, .slice none 0 0, .int .i64 0, .int .i64 0, .int .i64 0, .slice none 0 0, .slice none 0 0, .slice none 0 0] := by rw [e1]; exact allocs_blk _ w 1 rfl
  have HW1 := Lib.hid hw1
  have HKX := Lib.hid kx
  have HKR := Lib.hid kr
  have hlt1 := kr.lt
  have hc0 := blk7 kx
  clear e1 hw1 kr kx
  obtain ⟨x0, x1, x2, x3, x4, x5, x6⟩ := hc0
  go_enter Tryz.func26, Tryz.ntmps26
  go_wp2_with fail
  rw [HW1.out]
  refine (HCK.out w1 (HL.out.below hB1)).mono ?_
  rintro e w2 ⟨r, rfl, hr, hB2⟩
  have hB02 := hB1.trans (hB2.mono hB1.size)
  have hr9 : r = 0 ∨ r = 9 := by rcases hr with h | h <;> simp [h.1]
  have HRO : Hid ((r = 0 → sp.ok) ∧ (r = 9 → ¬ sp.ok)) := Lib.hid ⟨fun h0 => by rcases hr with h | h; exact h.2; omega, fun h0 => by rcases hr with h | h; omega; exact h.2⟩
  clear hr
  rcases hr9 with rfl | rfl
  rotate_left
  · have HNO := Lib.hid (HRO.out.2 rfl)
    go_wp2_with fail
    refine (must_no 9 (by decide) w2).mono ?_
    rintro e w3 ⟨rfl, rfl⟩
    exact ⟨rfl, .inl ⟨HNO.out, rfl⟩, hB02⟩
  have HOK := Lib.hid (HRO.out.1 rfl)
  go_wp2_with fail
  refine (must_ok w2).mono ?_
  rintro e w2' ⟨rfl, rfl⟩
  go_wp2_with fail
  refine (HOB.out w2 (HR.out.below hB02)).mono ?_
  rintro e w3 ⟨rfl, hB3⟩
  have hB03 := hB02.trans (hB3.mono hB02.size)
  have hB13 := hB2.trans (hB3.mono hB2.size)
  by_cases hob : objE lp = 0
  rotate_left
  · go_wp2_with fail
    refine (must_no (objE lp) hob w3).mono ?_
    rintro e w4 ⟨rfl, rfl⟩
    exact ⟨rfl, .inr (.inl ⟨HOK.out, hob, rfl⟩), hB03⟩
  rw [hob]
  go_wp2_with fail
  refine (must_ok w3).mono ?_
  rintro e w3' ⟨rfl, rfl⟩
  have HOE := Lib.hid hob
  have HOL : Hid (ls.length ≤ 256 ∧ ∀ x ∈ ls, x.key.size ≤ 96 ∧ x.d.zs.length ≤ 65536) := Lib.hid (by
    obtain ⟨i1, i2, i3⟩ := objE_ok hob
    have i4 := (objE_keys hob).1
    rw [← HLP.out] at i1 i3 i4
    exact ⟨by simpa using i1, fun x hx => ⟨(i4 x.st (List.mem_map.2 ⟨x, hx, rfl⟩)).1, i3 x.st (List.mem_map.2 ⟨x, hx, rfl⟩)⟩⟩)
  have hl256 := HOL.out.1
  have HIS := Lib.hid (fun w h => indexSize_any A c ls (by omega) (fun o ho => ⟨by have := (HOL.out.2 o ho).1; omega, by have := (HOL.out.2 o ho).2; omega⟩) w h)
  rw [HLP.out] at HIS
  clear hob
  go_wp2_with fail
  refine (HIS.out w3 (HR.out.below hB03)).mono ?_
  rintro e w4 ⟨rfl, hB4⟩
  have hB04 := hB03.trans (hB4.mono hB03.size)
  have hB14 := hB13.trans (hB4.mono hB13.size)
  obtain ⟨x0, x1, x2, x3, x4, x5, x6⟩ := blk7 (HKX.out.below hB14 HKX.out.lt)
  by_cases hbig : 65536 < idxSize lp
  · have hbig' : (65536 : Int) < (idxSize lp : Int) := by omega
    go_wp2_with fail
    refine (fail_any 5 w4).mono ?_
    rintro e w5 ⟨rfl, rfl⟩
    exact ⟨rfl, .inr (.inr (.inl ⟨HOK.out, HOE.out, .inl ⟨hbig, rfl⟩⟩)), hB04⟩
  have hbig' : ¬ (65536 : Int) < (idxSize lp : Int) := by omega
  by_cases htx : t = 1099511627776
  · go_wp2_with fail
    refine (fail_any 15 w4).mono ?_
    rintro e w5 ⟨rfl, rfl⟩
    exact ⟨rfl, .inr (.inr (.inl ⟨HOK.out, HOE.out, .inr (.inl ⟨by rw [HSPU.out]; exact htx, rfl⟩)⟩)), hB04⟩
  go_wp2_with fail
  refine (HNW.out w4 (HL.out.below hB04) HOK.out).mono ?_
  rintro e w5 ⟨X, F, d, mb, n, D, rfl, hwr, hB5⟩
  have hB05 := hB04.trans (hB5.mono hB04.size)
  have hB15 := hB14.trans (hB5.mono hB14.size)
  obtain ⟨x0, x1, x2, x3, x4, x5, x6⟩ := blk7 (HKX.out.below hB15 HKX.out.lt)
  have hu1 := (Ub.ok_iff.1 (HSPU.out ▸ HOK.out.u))
  have ht0 : 1 ≤ t := hu1.1
  have ht1 : t ≤ 1099511627776 := hu1.2.1
  have hwt : wrap64 (t + 1) = t + 1 := IntWalk.wrap64_in _ (by omega)
  clear hu1
  go_wp2
  obtain ⟨i0, hi, hz0, hz1, hz2⟩ := dinfo_parts infoObj
  obtain ⟨fr0, hfr0⟩ : ∃ fr0, freeL ps.length (flatNs os ++ is) = fr0 := ⟨_, rfl⟩
  rw [hfr0] at hwr
  have HFR0 := Lib.hid hfr0
  have hps : ps.length ≤ 8192 := by have := HOK.out.dev.2.1; rw [HDN.out] at this; exact this
  have hfl0 : fr0.length ≤ 8192 := by rw [← hfr0]; have := length_free_le ps.length (flatNs os ++ is); omega
  have HFR8 : Hid (∀ z ∈ fr0, 2 ≤ z ∧ z < ps.length) := Lib.hid (by rw [← hfr0]; exact fun z hz => (mem_free.1 hz).1)
  have hX5 := hwr.pl.blk.lt
  have hXb := hwr.bX
  obtain ⟨w6, hw6⟩ : ∃ w6, w5.alloc (.cells #[.slice none 0 0, .slice none 0 0, .int .i64 (t + 1), .int .i64 0, .int .i64 (ls.length : Int), .slice none 0 0, .slice none 0 0] 32) = w6 := ⟨_, rfl⟩
  have hB56 : Below w5.heap.size w5 w6 := hw6 ▸ (Below.refl _ _).alloc (Nat.le_refl _) _
  have kY6 : Blk w6 w5.heap.size 32 (outCells (t + 1) 0 ls.length (.slice none 0 0) (.slice none 0 0)) := hw6 ▸ Blk.new w5 _ _
  have HJ6 : Hid (CJ w4.heap.size X w5.heap.size w6 (t + 1) ls.length F fr0 d mb n D os (.slice none 0 0) [] (.slice none 0 0) []) := Lib.hid ⟨hwr.away (T := 0) (Away.of_below hB56) (hB56.mono (Nat.le_of_lt hX5)) (by decide) (by decide) (by decide), kY6, own_none' _ _ _ _, fun y hy => (by cases hy), fun y hy => (by cases hy), hX5⟩
  have HP6 : Hid (Placing sp.os fr0 (lp.take 0) (([] : List Ob).map Ob.st) fr0 (([] : List Ac).map Ac.st)) := Lib.hid (by rw [List.take_zero]; exact .nil)
  have hB6 : Below X w5 w6 := hB56.mono (Nat.le_of_lt hX5)
  rw [hw6]
  clear hw6 hB56 kY6 hfr0 hwr
  go_loopw [36] (fun i W => ∃ (k : Nat) (F : Option Addr) (fr : List Int) (d : Nat) (v : Value) (l : List Ac) (vO : Value) (ys : List Ob), k ≤ ls.length ∧ i = .int .i64 k ∧ Hid (CJ w4.heap.size X w5.heap.size W (t + 1) ls.length F fr d mb n D os v l vO ys) ∧ Hid (Placing sp.os fr0 (lp.take k) (ys.map Ob.st) fr (l.map Ac.st)) ∧ Below X w5 W) (fun i _ => ls.length - (intOf i).toNat)
  case atStart => exact ⟨0, F, fr0, d, _, _, _, _, Nat.zero_le _, rfl, HJ6, HP6, hB6⟩
  case round =>
    obtain ⟨k, F, fr, d, v, l, vO, ys, hk, rfl, HJ, HP, hBX⟩ := hrel
    have hB4w : Below w4.heap.size w4 wr := hB5.trans (hBX.mono hXb)
    have hB0w : Below w.heap.size w wr := hB04.trans (hB4w.mono hB04.size)
    have hX : X < wr.heap.size := HJ.out.wr.pl.blk.lt
    have hYw : w5.heap.size < wr.heap.size := HJ.out.box.lt
    have hlen : l.length + fr.length = fr0.length := by
      have := (HP.out.facts HOK.out.at_).2.2.2.1
      simpa using this
    have HYL : Hid (ys.length = k) := Lib.hid (by
      have := HP.out.length
      rw [List.length_map, List.length_take, ← HLP.out, List.length_map] at this
      omega)
    have hyl : ys.length ≤ 256 := by have := HYL.out; omega
    by_cases hlt : k < ls.length
    · obtain ⟨x, hx⟩ : ∃ x, ls[k]? = some x := ⟨_, List.getElem?_eq_getElem hlt⟩
      have hxm := List.mem_of_getElem? hx
      obtain ⟨b, off, rfl, hb, hk0, hk1, hk2⟩ := (HR.out.below hB0w).ob hx
      have hxf := HLF.out x hxm
      obtain ⟨hxk, hxd⟩ := HOL.out.2 x hxm
      have HTK : Hid (lp.take (k + 1) = lp.take k ++ [x.st]) := Lib.hid (by rw [List.take_add_one, ← HLP.out, List.getElem?_map, hx]; rfl)
      obtain ⟨w7, hw7⟩ : ∃ w7, wr.alloc (.cells #[.string x.key, x.d.val, .slice x.B x.ns.length x.e] 58) = w7 := ⟨_, rfl⟩
      have hB7 : Below wr.heap.size wr w7 := hw7 ▸ (Below.refl _ _).alloc (Nat.le_refl _) _
      have k7 : Blk w7 wr.heap.size 58 [.string x.key, x.d.val, .slice x.B x.ns.length x.e] := hw7 ▸ Blk.new wr _ _
      have hB47 : Below w4.heap.size w4 w7 := hB4w.trans (hB7.mono hB4w.size)
      have hJ7 := HJ.out.below hB7.drew
      have hxU : RdU X w7.drew x.d.A (octCells x.d.zs) := ((RdU.of (HRD.out x hxm |>.below hB04) (Nat.le_refl w4.heap.size)).belowX hB47.drew).mono hXb
      have hos : ∀ o ∈ os, OldOb X w7.drew o := fun o ho => by
        have hof := HF.out.os o ho
        have hl4 := HL.out.below hB04
        have hat : o.ns.length = cntN o.d.zs.length := HOK.out.at_ o.st (by rw [HSPO.out]; exact List.mem_map.2 ⟨o, ho, rfl⟩)
        have hdl : o.d.zs.length ≤ 65536 := (objE_ok HOK.out.os).2.2 o.st (by rw [HSPO.out]; exact List.mem_map.2 ⟨o, ho, rfl⟩)
        exact ⟨((RdU.of (hl4.data o ho).1 (Nat.le_refl w4.heap.size)).belowX hB47.drew).mono hXb, ((RdU.of (hl4.at_ o ho).1 (Nat.le_refl w4.heap.size)).belowX hB47.drew).mono hXb, hof.octs, by rw [hat]; unfold cntN; omega, hof.en⟩
      have hks : os.Pairwise fun a b => a.key ≠ b.key := by
        have h1 := (objE_keys HOK.out.os).2
        rw [HSPO.out] at h1
        have h2 := List.pairwise_map.1 h1
        exact h2
      have HOBJ := Lib.hid (object_any w4.heap.size X F fr d mb n D os v l (by omega) (by omega) x hxk hxd hxf.dc hxf.dn hxf.octs w7.drew hJ7.wr hxU hos hks)
      have HJ7 := Lib.hid hJ7
      have HS7 : Hid (w7.drew.cell? ⟨w5.heap.size, 5, none⟩ = some vO ∧ w7.drew.cell? ⟨wr.heap.size, 0, none⟩ = some (.string x.key) ∧ w7.drew.cell? ⟨wr.heap.size, 1, none⟩ = some x.d.val ∧ w7.drew.cell? ⟨wr.heap.size, 2, none⟩ = some (.slice x.B x.ns.length x.e)) := Lib.hid ⟨hJ7.box.cell 5, blk3' k7.drew⟩
      have HK7 := Lib.hid k7.drew
      have HW7 := Lib.hid hw7
      have hB07 : Below w.heap.size w w7 := hB0w.trans (hB7.mono hB0w.size)
      have hX7 : X < w7.heap.size := Nat.lt_of_lt_of_le hX hB7.size
      have hBX7 : Below X w5 w7.drew := hBX.trans (hB7.drew.mono (Nat.le_of_lt hX))
      by_cases hno : ObjNo fr os x
      · have HFU : Hid (Full sp lp) := Lib.hid (by
          have h1 := hno.2
          have h2 := HP.out.writes
          have h3 := congrArg pgSum HTK.out
          have h4 := pgSum_take lp (k + 1)
          have h5 : pgSum [x.st] = cntN x.d.zs.length := by simp [pgSum]
          rw [pgSum_append, h5] at h3
          rw [List.length_map] at h2
          unfold Full need
          rw [HDN.out, HSEC.out, HFR0.out]
          omega)
        have HON : Hid (Calls Tryz.prog 53 #[.pointer (some ⟨X, 0, none⟩), x.val] w7.drew fun e w' => e = flt 17 ∧ Below w7.drew.heap.size w7.drew w') := Lib.hid (HOBJ.out.mono fun e w' h => by
          rcases h with ⟨y, he, hy⟩ | ⟨he, _, hB⟩
          · exfalso
            obtain ⟨_, _, _, _, F', fr', d', v', new, _, _, h2⟩ := hy
            rcases h2 with ⟨o, ho, h3, h4, _⟩ | ⟨_, h3, _⟩
            · exact hno.1 o ho h3 h4
            · have := hno.2; omega
          · exact ⟨he, hB⟩)
        clear HOBJ hx hxm hxf hxk hxd HTK hw7 k7 hJ7 hxU hos hks hno
        obtain ⟨key, ⟨xA, zs, xc⟩, xB, ns, xe⟩ := x
        dsimp only at *
        go_wp2
        rw [HW7.out]
        refine wp_region_last 8 (fun W => W.cell? ⟨w5.heap.size, 5, none⟩ = some vO ∧ W.cell? ⟨wr.heap.size, 0, none⟩ = some (.string key) ∧ W.cell? ⟨wr.heap.size, 1, none⟩ = some (.slice xA zs.length xc) ∧ W.cell? ⟨wr.heap.size, 2, none⟩ = some (.slice xB ns.length xe)) (by kernel_rfl) HS7.out (fun hHeld => ?_)
        refine wpAnyL_take 12 (i := 0) (oi := ⟨some 40, _, _, _, _, _⟩) (v := ?_) rfl (by kernel_rfl) (by kernel_rfl) (by kernel_rfl) (by kernel_rfl) (by kernel_rfl) (by kernel_rfl) (by kernel_rfl) (fun _ _ _ h => h) (Or.inl ⟨by rfl, ?_⟩) hHeld ?_
        rotate_left
        focus (intro w hSw; (try dsimp only at hSw); go_simp; try (with_reducible rfl))
        try simp only [Act.put, List.setIfInBounds_toArray, List.set_cons_zero, List.set_cons_succ]
        refine wpAnyL_take 12 (i := 1) (oi := ⟨some 41, _, _, _, _, _⟩) (v := ?_) rfl (by kernel_rfl) (by kernel_rfl) (by kernel_rfl) (by kernel_rfl) (by kernel_rfl) (by kernel_rfl) (by kernel_rfl) (fun _ _ _ h => h) (Or.inl ⟨by rfl, ?_⟩) hHeld ?_
        rotate_left
        focus (intro w hSw; (try dsimp only at hSw); go_simp; try (with_reducible rfl))
        try simp only [Act.put, List.setIfInBounds_toArray, List.set_cons_zero, List.set_cons_succ]
        refine wpAnyL_take 12 (i := 2) (oi := ⟨some 42, _, _, _, _, _⟩) (v := ?_) rfl (by kernel_rfl) (by kernel_rfl) (by kernel_rfl) (by kernel_rfl) (by kernel_rfl) (by kernel_rfl) (by kernel_rfl) (fun _ _ _ h => h) (Or.inl ⟨by rfl, ?_⟩) hHeld ?_
        rotate_left
        focus (intro w hSw; (try dsimp only at hSw); go_simp; try (with_reducible rfl))
        try simp only [Act.put, List.setIfInBounds_toArray, List.set_cons_zero, List.set_cons_succ]
        refine wpAnyL_take 12 (i := 3) (oi := ⟨some 43, _, _, _, _, _⟩) (v := ?_) rfl (by kernel_rfl) (by kernel_rfl) (by kernel_rfl) (by kernel_rfl) (by kernel_rfl) (by kernel_rfl) (by kernel_rfl) (fun _ _ _ h => h) (Or.inl ⟨by rfl, ?_⟩) hHeld ?_
        rotate_left
        focus (intro w hSw; (try dsimp only at hSw); go_simp; try (with_reducible rfl))
        try simp only [Act.put, List.setIfInBounds_toArray, List.set_cons_zero, List.set_cons_succ]
        refine wpAnyL_one (i := 4) (o := ⟨some 44, _, _, _, _, _⟩) (by kernel_rfl) rfl (fun K hK => ?_)
        clear hHeld
        go_simp
        refine HON.out.mono ?_
        rintro e w8 ⟨rfl, hB8⟩
        exact ⟨rfl, .inr (.inr (.inl ⟨HOK.out, HOE.out, .inr (.inr ⟨HFU.out, rfl⟩)⟩)), hB07.drew.trans (hB8.mono hB07.size)⟩
      · have HOY : Hid (Calls Tryz.prog 53 #[.pointer (some ⟨X, 0, none⟩), x.val] w7.drew fun e w' => ∃ y : Ob, e = .returned y.val ∧ ObjOk w4.heap.size X fr mb n D os l x w7.drew w' y) := Lib.hid (HOBJ.out.mono fun e w' h => by
          rcases h with h | ⟨_, h, _⟩
          · exact h
          · exact absurd h hno)
        have HPS : Hid (∀ y fr' new, y.key = x.key → y.d.zs = x.d.zs → ((∃ o ∈ os, o.key = x.key ∧ o.d.zs = x.d.zs ∧ y.ns = o.ns ∧ fr' = fr ∧ new = []) ∨
     ((∀ o ∈ os, o.key = x.key → o.d.zs ≠ x.d.zs) ∧ cntN x.d.zs.length ≤ fr.length ∧ y.ns = fr.take (cntN x.d.zs.length) ∧ fr' = fr.drop (cntN x.d.zs.length) ∧ new.map Ac.st = (List.range (cntN x.d.zs.length)).map (wact x.d.zs y.ns (List.replicate (cntN x.d.zs.length) 0)))) → Placing sp.os fr0 (lp.take (k + 1)) ((ys ++ [y]).map Ob.st) fr' ((l ++ new).map Ac.st)) := Lib.hid fun y fr' new h1 h2 h3 => by
          rw [HTK.out, HSPO.out]
          have h4 := HP.out
          rw [HSPO.out] at h4
          exact placing_step h4 x y h1 h2 h3
        clear HOBJ hx hxm hxf hxk hxd HTK hw7 k7 hJ7 hxU hos hks hno HP
        obtain ⟨key, ⟨xA, zs, xc⟩, xB, ns, xe⟩ := x
        dsimp only at *
        go_wp2
        rw [HW7.out]
        refine wp_region_noPanic ?_
        refine wp_region_last 8 (fun W => W.cell? ⟨w5.heap.size, 5, none⟩ = some vO ∧ W.cell? ⟨wr.heap.size, 0, none⟩ = some (.string key) ∧ W.cell? ⟨wr.heap.size, 1, none⟩ = some (.slice xA zs.length xc) ∧ W.cell? ⟨wr.heap.size, 2, none⟩ = some (.slice xB ns.length xe)) (by kernel_rfl) HS7.out (fun hHeld => ?_)
        refine wpAnyL_take 12 (i := 0) (oi := ⟨some 40, _, _, _, _, _⟩) (v := ?_) rfl (by kernel_rfl) (by kernel_rfl) (by kernel_rfl) (by kernel_rfl) (by kernel_rfl) (by kernel_rfl) (by kernel_rfl) (fun _ _ _ h => h) (Or.inl ⟨by rfl, ?_⟩) hHeld ?_
        rotate_left
        focus (intro w hSw; (try dsimp only at hSw); go_simp; try (with_reducible rfl))
        try simp only [Act.put, List.setIfInBounds_toArray, List.set_cons_zero, List.set_cons_succ]
        refine wpAnyL_take 12 (i := 1) (oi := ⟨some 41, _, _, _, _, _⟩) (v := ?_) rfl (by kernel_rfl) (by kernel_rfl) (by kernel_rfl) (by kernel_rfl) (by kernel_rfl) (by kernel_rfl) (by kernel_rfl) (fun _ _ _ h => h) (Or.inl ⟨by rfl, ?_⟩) hHeld ?_
        rotate_left
        focus (intro w hSw; (try dsimp only at hSw); go_simp; try (with_reducible rfl))
        try simp only [Act.put, List.setIfInBounds_toArray, List.set_cons_zero, List.set_cons_succ]
        refine wpAnyL_take 12 (i := 2) (oi := ⟨some 42, _, _, _, _, _⟩) (v := ?_) rfl (by kernel_rfl) (by kernel_rfl) (by kernel_rfl) (by kernel_rfl) (by kernel_rfl) (by kernel_rfl) (by kernel_rfl) (fun _ _ _ h => h) (Or.inl ⟨by rfl, ?_⟩) hHeld ?_
        rotate_left
        focus (intro w hSw; (try dsimp only at hSw); go_simp; try (with_reducible rfl))
        try simp only [Act.put, List.setIfInBounds_toArray, List.set_cons_zero, List.set_cons_succ]
        refine wpAnyL_take 12 (i := 3) (oi := ⟨some 43, _, _, _, _, _⟩) (v := ?_) rfl (by kernel_rfl) (by kernel_rfl) (by kernel_rfl) (by kernel_rfl) (by kernel_rfl) (by kernel_rfl) (by kernel_rfl) (fun _ _ _ h => h) (Or.inl ⟨by rfl, ?_⟩) hHeld ?_
        rotate_left
        focus (intro w hSw; (try dsimp only at hSw); go_simp; try (with_reducible rfl))
        try simp only [Act.put, List.setIfInBounds_toArray, List.set_cons_zero, List.set_cons_succ]
        refine wpAnyL_one (i := 4) (o := ⟨some 44, _, _, _, _, _⟩) (by kernel_rfl) rfl (fun K hK => ?_)
        clear hHeld
        go_simp
        refine HOY.out.mono ?_
        rintro e w8 ⟨⟨ykey, ⟨yA, yzs, yc⟩, yB, yns, ye⟩, rfl, hyk, hyd, hyo, hya, F', fr', d', v', new, hwr8, hon8, hway⟩
        dsimp only at hyk hyd hyo hya
        subst ykey
        subst yzs
        have HP8 := Lib.hid (HPS.out ⟨key, ⟨yA, zs, yc⟩, yB, yns, ye⟩ fr' new rfl rfl hway)
        have hJ8 := HJ7.out.only hon8 hwr8
        have HJ8 := Lib.hid hJ8
        have HYO := Lib.hid (own_base hyo (Nat.le_of_lt hX7))
        have HYA := Lib.hid (own_base hya (Nat.le_of_lt hX7))
        have hBX8 : Below X w5 w8 := hBX7.trans hon8.below
        have hX8 : X < w8.heap.size := hJ8.wr.pl.blk.lt
        have hB48 : Below w4.heap.size w4 w8 := (hB47.drew).trans (hon8.below.mono hXb)
        have k8 := hon8.blk HK7.out (by decide) (by decide)
        have hS8 : w8.cell? ⟨w5.heap.size, 5, none⟩ = some vO ∧ w8.cell? ⟨wr.heap.size, 0, none⟩ = some (.string key) ∧ w8.cell? ⟨wr.heap.size, 1, none⟩ = some (.slice xA zs.length xc) ∧ w8.cell? ⟨wr.heap.size, 2, none⟩ = some (.slice xB ns.length xe) := ⟨hJ8.box.cell 5, blk3' k8⟩
        have HK8 := Lib.hid k8
        clear hwr8 hon8 hJ8 k8 hyo hya hway
        go_wp2_with fail
        refine hK.out _ _ hS8 (fun hHeld => ?_)
        clear hK K
        try simp only [Act.put, List.setIfInBounds_toArray, List.set_cons_zero, List.set_cons_succ]
        refine wpAnyL_one (i := 5) (o := ⟨some 45, _, _, _, _, _⟩) (by kernel_rfl) rfl (fun K hK => ?_)
        clear hHeld
        go_simp
        have hB9 : Below w8.heap.size w8 (w8.alloc (.cells #[.string key, .slice yA zs.length yc, .slice yB yns.length ye] 58)) := (Below.refl _ _).alloc (Nat.le_refl _) _
        have hJ9 := HJ8.out.below hB9
        have hS9 : (w8.alloc (.cells #[.string key, .slice yA zs.length yc, .slice yB yns.length ye] 58)).cell? ⟨w5.heap.size, 5, none⟩ = some vO ∧ (w8.alloc (.cells #[.string key, .slice yA zs.length yc, .slice yB yns.length ye] 58)).cell? ⟨wr.heap.size, 0, none⟩ = some (.string key) ∧ (w8.alloc (.cells #[.string key, .slice yA zs.length yc, .slice yB yns.length ye] 58)).cell? ⟨wr.heap.size, 1, none⟩ = some (.slice xA zs.length xc) ∧ (w8.alloc (.cells #[.string key, .slice yA zs.length yc, .slice yB yns.length ye] 58)).cell? ⟨wr.heap.size, 2, none⟩ = some (.slice xB ns.length xe) := ⟨hJ9.box.cell 5, blk3' (HK8.out.below hB9 HK8.out.lt)⟩
        clear hJ9
        go_wp2_with fail
        refine hK.out _ _ hS9 (fun hHeld => ?_)
        clear hK K
        try simp only [Act.put, List.setIfInBounds_toArray, List.set_cons_zero, List.set_cons_succ]
        refine wpAnyL_one (i := 6) (o := ⟨some 46, _, _, _, _, _⟩) (by kernel_rfl) rfl (fun K hK => ?_)
        clear hHeld
        refine step_append_lies (o := ⟨some 46, _, _, _, _, _⟩) _ (by rfl) _ _ 22 (by rfl) X 58 i0 (.agg #[.string ByteArray.empty, .slice none 0 0, .slice none 0 0]) 3 64 Tryz.underlying22 hi hz0 hz1 hz2 rfl (by omega) vO ys.length (obCells ys) (by rfl) (own_below3 HJ8.out.row ((Below.refl _ _).alloc (Nat.le_refl _) _) (Nat.le_refl _)) ⟨w8.heap.size, 0, none⟩ 1 1 [.string key, .slice yA zs.length yc, .slice yB yns.length ye] (by rfl) rfl (news_new _ _ _) (by simp [Value.oneCell']) (by omega) (by unfold maxLen; omega) (by omega) (by simp; omega) _ rfl ?_
        intro g6 c6 w10 ho6 hg6 hg6' hl6
        obtain ⟨hJ11, hB11, hA10⟩ := HJ8.out.push (y := ⟨key, ⟨yA, zs, yc⟩, yB, yns, ye⟩) HYO.out HYA.out ho6 hg6
        have k10 := hA10.blk (HJ8.out.below ((Below.refl _ w8).alloc (Nat.le_refl _) (.cells #[.string key, .slice yA zs.length yc, .slice yB yns.length ye] 58))).box (by decide)
        have hc6 := k10.cell 5
        have hf6 := k10.frozen 5
        have HJ11 := Lib.hid hJ11
        have k8b : Blk w10 wr.heap.size 58 [.string key, .slice xA zs.length xc, .slice xB ns.length xe] := (hg6.block wr.heap.size (by have := HK8.out.lt; simp; omega) (fun e => by have := (HJ.out.row.lt _ e.symm).2; omega)).trans (HK8.out.alloc _)
        have hS10 : w10.cell? ⟨w5.heap.size, 5, none⟩ = some vO ∧ w10.cell? ⟨wr.heap.size, 0, none⟩ = some (.string key) ∧ w10.cell? ⟨wr.heap.size, 1, none⟩ = some (.slice xA zs.length xc) ∧ w10.cell? ⟨wr.heap.size, 2, none⟩ = some (.slice xB ns.length xe) := ⟨k10.cell 5, blk3' k8b⟩
        clear hJ11 ho6 hg6 hA10 k10 k8b
        refine hK.out _ _ hS10 (fun hHeld => ?_)
        clear hK K
        try simp only [Act.put, List.setIfInBounds_toArray, List.set_cons_zero, List.set_cons_succ]
        refine wpAnyL_take 12 (i := 7) (oi := ⟨some 47, _, _, _, _, _⟩) (v := ?_) rfl (by kernel_rfl) (by kernel_rfl) (by kernel_rfl) (by kernel_rfl) (by kernel_rfl) (by kernel_rfl) (by kernel_rfl) (fun _ _ _ h => h) (Or.inl ⟨by rfl, ?_⟩) hHeld ?_
        rotate_left
        focus (intro w hSw; (try dsimp only at hSw); go_simp; try (with_reducible rfl))
        try simp only [Act.put, List.setIfInBounds_toArray, List.set_cons_zero, List.set_cons_succ]
        refine wpAnyL_last (i := 8) (o := ⟨none, _, _, _, _, _⟩) (by kernel_rfl) rfl (by kernel_rfl) (fun K hK => ?_)
        clear hHeld
        go_simp
        go_wp2_with fail
        refine hK.out _ _ ?_
        clear hK K
        try simp only [Act.put, List.setIfInBounds_toArray, List.set_cons_zero, List.set_cons_succ]
        refine wpAnyL_done (by kernel_rfl) ?_ _
        refine NoPanic.normal ?_
        go_wp2
        go_round
        case rel => exact ⟨k + 1, F', fr', d', v', l ++ new, _, ys ++ [⟨key, ⟨yA, zs, yc⟩, yB, yns, ye⟩], by omega, by go_num, HJ11, HP8, hBX8.trans hB11⟩
        case measure => simp [intOf]; omega
    · obtain rfl : k = ls.length := by omega
      have HPL : Hid (Placing sp.os fr0 lp (ys.map Ob.st) fr (l.map Ac.st)) := Lib.hid (by
        have h1 := HP.out
        rw [List.take_of_length_le (by rw [← HLP.out, List.length_map]; exact Nat.le_refl _)] at h1
        exact h1)
      clear HP
      have HYN : Hid (ys.length = ls.length) := HYL
      clear HYL
      obtain ⟨AO, cO, rfl, hcO, hnO, hrO, _⟩ := own_any HJ.out.row
      have HYF : Hid (∀ y ∈ ys, y.key.size ≤ 96 ∧ y.d.zs.length ≤ 65536 ∧ y.ns.length ≤ 1261 ∧ y.ns.length ≤ y.e) := Lib.hid fun y hy => by
        obtain ⟨e1, e2, e3, _, _, _⟩ := HPL.out.facts HOK.out.at_
        have hym : y.st ∈ ys.map Ob.st := List.mem_map.2 ⟨y, hy, rfl⟩
        have h1 : y.key ∈ lp.map (·.key) := e1 ▸ List.mem_map.2 ⟨y.st, hym, rfl⟩
        have h2 : y.d.zs ∈ lp.map (·.data) := e2 ▸ List.mem_map.2 ⟨y.st, hym, rfl⟩
        obtain ⟨p, hp, hp2⟩ := List.mem_map.1 h1
        obtain ⟨q, hq, hq2⟩ := List.mem_map.1 h2
        have h3 := ((objE_keys HOE.out).1 p hp).1
        have h4 := (objE_ok HOE.out).2.2 q hq
        have h5 := e3 y.st hym
        have h6 : y.ns.length = cntN y.d.zs.length := h5
        have h7 : y.d.zs.length ≤ 65536 := by rw [← hq2]; exact h4
        obtain ⟨_, ye, e0, hye, _, _, _⟩ := own_any (HJ.out.at_ y hy)
        have h8 : y.e = ye := by injection e0
        refine ⟨by rw [← hp2]; exact h3, h7, ?_, by omega⟩
        rw [h6]
        unfold cntN
        omega
      obtain ⟨x0, x1, x2, x3, x4, x5, x6⟩ := blk7 HJ.out.box
      have HL8 : Hid (Dv.Lies 0 wr ⟨dA, ps, dc, B, ws, dd⟩) := Lib.hid (HL.out.below hB0w).dev
      have HKXr := Lib.hid (HKX.out.below (hB15.trans (hBX.mono (by have := hB14.size; omega))) HKX.out.lt)
      have HKRr := Lib.hid (HKR.out.below (hB15.trans (hBX.mono (by have := hB14.size; omega))) HKR.out.lt)
      by_cases h0 : ls.length = 0
      case' pos =>
        have hys : ys = [] := List.length_eq_zero_iff.1 (HYN.out.trans h0)
        have HPK : Hid (∃ (f9 : Int) (vs9 : List Value) (v9 : Value) (l9 : List Ac) (AI9 : Option Addr) (ix9 : List Int) (ci9 : Nat) (wi9 : List AcT), CT X w5.heap.size wr (.slice none 0 0) (.slice none 0 0) (t + 1) f9 ls.length vs9 v9 l9 (.slice AO ys.length cO) ys (.slice AI9 ix9.length ci9) ix9 ∧ Indexed fr (ys.map Ob.st) ix9 f9 wi9 ∧ l9.map Ac.st = l.map Ac.st ++ wi9 ∧ Below X w5 wr) := Lib.hid
          ⟨0, _, v, l, none, [], 0, [], ⟨HJ.out.wr.pl, HJ.out.box, HJ.out.row, HJ.out.data, HJ.out.at_, own_none' _ _ _ _, HJ.out.bY⟩, .inl ⟨by rw [hys]; rfl, rfl, rfl, rfl⟩, by simp, hBX⟩
        clear hys
        go_wp2_with fail
        obtain ⟨W9, hW9⟩ : ∃ W9, wr = W9 := ⟨_, rfl⟩
        rw [hW9] at HPK ⊢
        clear hW9
      case' neg =>
        have hpos : (0 : Int) < ls.length := by omega
        have HRO2 : Hid (Rd wr AO (obCells ys)) := Lib.hid hrO.1
        have HRN : Hid (∀ y ∈ ys, RdI wr y.B y.ns) := Lib.hid fun y hy => RdI.of_row (HJ.out.at_ y hy)
        have HFR8k : Hid (∀ z ∈ fr, 0 ≤ z ∧ z < 8192) := Lib.hid fun z hz => by
          obtain ⟨_, _, _, _, ⟨j, e5⟩, _⟩ := HPL.out.facts HOK.out.at_
          rw [e5] at hz
          have := HFR8.out z (List.mem_of_mem_drop hz)
          omega
        have hy0 : ys.map Ob.st ≠ [] := fun e => by
          have h1 := congrArg List.length e
          rw [List.length_map, HYN.out] at h1
          exact h0 h1
        have HY0 := Lib.hid hy0
        have hzl : (IDX ys).length ≤ 65536 := by
          obtain ⟨e1, e2, e3, _, _, _⟩ := HPL.out.facts HOK.out.at_
          have h1 := idx_sum hy0 e3
          rw [one_same e1 e2] at h1
          exact Nat.le_trans (Nat.le_of_eq h1) (by omega)
        clear hy0
        by_cases hfit : cntN (IDX ys).length ≤ fr.length
        rotate_left
        · have HFU : Hid (Full sp lp) := Lib.hid (by
            obtain ⟨e1, e2, e3, e4, _, _⟩ := HPL.out.facts HOK.out.at_
            have h1 := idx_sum HY0.out e3
            rw [one_same e1 e2] at h1
            have h2 := HPL.out.writes
            have h3 : lp ≠ [] := fun e => by rw [← HLP.out] at e; exact h0 (by simpa using e)
            have h4 : ¬ cntN (IDX ys).length ≤ fr.length := hfit
            have h5 : (IDX ys).length = idxSize lp := h1
            rw [h5] at h4
            unfold Full need
            rw [HDN.out, HSEC.out, HFR0.out, if_neg h3]
            omega)
          go_wp2_with fail
          refine (index_no w4.heap.size X F fr d mb n D os v l AO cO ys hyl HYF.out wr HJ.out.wr HRO2.out HRN.out (Nat.lt_of_not_le hfit) (Nat.le_trans hzl (by decide))).mono ?_
          rintro e w8 ⟨rfl, hB8⟩
          exact ⟨rfl, .inr (.inr (.inl ⟨HOK.out, HOE.out, .inr (.inr ⟨HFU.out, rfl⟩)⟩)), hB0w.trans (hB8.mono hB0w.size)⟩
        have HIO := Lib.hid (index_ok w4.heap.size X F fr d mb n D os v l (by omega) HFR8k.out (by omega) AO cO ys hyl HYF.out wr HJ.out.wr HRO2.out HRN.out hfit)
        have hc1 : 1 ≤ cntN (IDX ys).length := by
          have h5 : 2 ≤ (IDX ys).length := by rw [idx_len]; omega
          unfold cntN
          omega
        obtain ⟨cn, hcn⟩ : ∃ cn, cntN (IDX ys).length = cn := ⟨_, rfl⟩
        have HCN := Lib.hid hcn
        unfold IdxOk at HIO
        rw [hcn] at HIO hfit hc1
        clear hcn hzl
        obtain ⟨z0, zr, hz0⟩ : ∃ z0 zr, fr.take cn = z0 :: zr := by
          rcases hq : fr.take cn with _ | ⟨a, b⟩
          · have := congrArg List.length hq
            rw [List.length_take, List.length_nil] at this
            omega
          · exact ⟨a, b, rfl⟩
        have HZ0 := Lib.hid hz0
        clear hz0
        go_wp2_with fail
        refine HIO.out.mono ?_
        rintro e w8 ⟨AI, ci, rfl, F8, d8, v8, new8, hoI, hcI, hwr8, hnew8, hon8⟩
        have hJ8 := HJ.out.only hon8 hwr8
        have hBX8 : Below X w5 w8 := hBX.trans hon8.below
        rcases hoI.2 with ⟨e, _⟩ | ⟨g, cap, cur, e, hgl, hg, hgn, _⟩
        · exfalso
          injection e with _ e2
          omega
        obtain ⟨rfl, rfl⟩ : AI = some ⟨g, 0, none⟩ ∧ ci = cap := by injection e with e1 e2 e3; exact ⟨e1, e3⟩
        have hzc : w8.cell? ⟨g, 0, none⟩ = some (.int .i64 z0) := by
          obtain ⟨_, _, e0, _, _, hrI, _⟩ := own_any hoI
          injection e0 with e1
          rw [← e1] at hrI
          obtain ⟨b9, o9, e9, _, hc9⟩ := hrI.1 (by rw [HZ0.out]; exact ints_cons_ne)
          obtain ⟨rfl, rfl⟩ : g = b9 ∧ 0 = o9 := by injection e9 with e9; injection e9 with e9a e9b; exact ⟨e9a, e9b⟩
          exact hc9 0 (.int .i64 z0) (by rw [HZ0.out]; rfl)
        have hne1 : ¬ g = w5.heap.size := by omega
        have hne2 : ¬ w5.heap.size = g := by omega
        have hixl : (fr.take cn).length = cn := by rw [List.length_take]; omega
        have hkY8 := hJ8.box
        have hcn0 : (0 : Int) < cn := by omega
        have hA : Away 32 w8 ((w8.setCell ⟨w5.heap.size, 6, none⟩ (.slice (some ⟨g, 0, none⟩) cn ci)).setCell ⟨w5.heap.size, 3, none⟩ (.int .i64 z0)) := (away_set hkY8).trans (away_set (hkY8.set 6 _))
        have hB9 : Below X w8 ((w8.setCell ⟨w5.heap.size, 6, none⟩ (.slice (some ⟨g, 0, none⟩) cn ci)).setCell ⟨w5.heap.size, 3, none⟩ (.int .i64 z0)) := ((Below.refl _ _).setCell (p := ⟨w5.heap.size, 6, none⟩) (Nat.le_of_lt hX5) _).setCell (p := ⟨w5.heap.size, 3, none⟩) (Nat.le_of_lt hX5) _
        have HPK : Hid (∃ (f9 : Int) (vs9 : List Value) (v9 : Value) (l9 : List Ac) (AI9 : Option Addr) (ix9 : List Int) (ci9 : Nat) (wi9 : List AcT), CT X w5.heap.size ((w8.setCell ⟨w5.heap.size, 6, none⟩ (.slice (some ⟨g, 0, none⟩) cn ci)).setCell ⟨w5.heap.size, 3, none⟩ (.int .i64 z0)) (.slice none 0 0) (.slice none 0 0) (t + 1) f9 ls.length vs9 v9 l9 (.slice AO ys.length cO) ys (.slice AI9 ix9.length ci9) ix9 ∧ Indexed fr (ys.map Ob.st) ix9 f9 wi9 ∧ l9.map Ac.st = l.map Ac.st ++ wi9 ∧ Below X w5 ((w8.setCell ⟨w5.heap.size, 6, none⟩ (.slice (some ⟨g, 0, none⟩) cn ci)).setCell ⟨w5.heap.size, 3, none⟩ (.int .i64 z0))) := Lib.hid (by
          refine ⟨z0, _, v8, l ++ new8, some ⟨g, 0, none⟩, fr.take cn, ci, wrs (IDX ys) (fr.take cn) ((fr.take cn).drop 1 ++ [0]), ⟨hA.pl hwr8.pl (by decide) (by decide) (by decide), ?_, hA.own hJ8.row (by decide), fun y hy => hA.own (hJ8.data y hy) (by decide), fun y hy => hA.own (hJ8.at_ y hy) (by decide), ?_, hX5⟩, .inr ⟨HY0.out, ?_, ?_, ?_, rfl⟩, ?_, hBX8.trans hB9⟩
          · rw [hixl]
            exact (hkY8.set 6 _).set 3 _
          · rw [hixl]
            exact hA.own (own_base hoI (Nat.le_of_lt hX)) (by decide)
          · exact Nat.le_trans (Nat.le_of_eq HCN.out) hfit
          · rw [← HCN.out]
          · rw [HZ0.out]
            rfl
          · rw [List.map_append, hnew8]
            unfold wrs
            rw [HCN.out])
        obtain ⟨y0, y1, y2, y3, y4, y5, y6⟩ := blk7 hkY8
        have q6 := hkY8.frozen 6
        have q3 := hkY8.frozen 3
        clear hA hB9 hoI hwr8 hJ8 hon8 hkY8 hnew8 e hg hixl
        go_wp2_with fail
        obtain ⟨W9, hW9⟩ : ∃ W9, (w8.setCell ⟨w5.heap.size, 6, none⟩ (.slice (some ⟨g, 0, none⟩) cn ci)).setCell ⟨w5.heap.size, 3, none⟩ (.int .i64 z0) = W9 := ⟨_, rfl⟩
        rw [hW9] at HPK ⊢
        clear hW9 y0 y1 y2 y3 y4 y5 y6 q6 q3
      all_goals
        have HH0 := Lib.hid h0
        clear h0
        obtain ⟨f9, vs9, v9, l9, AI9, ix9, ci9, wi9, hC9, hI9, hl9, hB59⟩ := HPK.out
        have hfacts := HPL.out.facts HOK.out.at_
        have hN8 : ∀ z ∈ fr, 2 ≤ z ∧ z < (ps.length : Int) := fun z hz => by
          obtain ⟨_, _, _, _, ⟨j, e5⟩, _⟩ := hfacts
          rw [e5] at hz
          exact HFR8.out z (List.mem_of_mem_drop hz)
        have HV9 : Hid (∀ a ∈ l9, a.fl = false ∧ 2 ≤ a.at_ ∧ a.at_ < ps.length ∧ a.p.zs.length = 64) := Lib.hid (acts_right HPL.out HOK.out.at_ hI9 hl9 HFR8.out)
        have HUOK : Hid ((Ub.mk (t + 1) f9 ls.length).ok = true) := Lib.hid (by
          rw [Ub.ok_iff]
          have hne : ys.map Ob.st = [] ↔ ls.length = 0 := by
            rw [List.map_eq_nil_iff, ← List.length_eq_zero_iff, HYN.out]
          rcases indexed_first hI9 hN8 with ⟨h1, h2⟩ | ⟨h1, h2, h3⟩
          · have h4 := hne.1 h2
            refine ⟨by show 1 ≤ t + 1; omega, by show t + 1 ≤ _; omega, ?_⟩
            dsimp only
            omega
          · have h4 : ¬ ls.length = 0 := fun e => h3 (hne.2 e)
            refine ⟨by show 1 ≤ t + 1; omega, by show t + 1 ≤ _; omega, ?_⟩
            dsimp only
            omega)
        have hl9n : l9.length ≤ 100000 := by
          have h1 := congrArg List.length hl9
          rw [List.length_map, List.length_append, List.length_map] at h1
          have h2 := (indexed_acts hI9).2.1
          omega
        have HI9 := Lib.hid hI9
        have HLS9 := Lib.hid hl9
        have HC9 := Lib.hid hC9
        have hX9 := hC9.pl.blk.lt
        clear hI9 hl9 hC9 hfacts hN8 HPK
        refine (flush_any X 1 WT (by decide) (by decide) vs9 v9 l9 (by omega) W9 HC9.out.pl).mono ?_
        rintro e w10 ⟨v10, rfl, hP10, ho10⟩
        have hC10 := HC9.out.only ho10 hP10
        have hB10 : Below X w5 w10 := hB59.trans ho10.below
        have hC10d := hC10.below ((Below.refl w10.heap.size w10).drew)
        have HC10 := Lib.hid hC10d
        have HS10 : Hid (w10.drew.cell? ⟨w5.heap.size, 2, none⟩ = some (.int .i64 (t + 1)) ∧ w10.drew.cell? ⟨w5.heap.size, 3, none⟩ = some (.int .i64 f9) ∧ w10.drew.cell? ⟨w5.heap.size, 4, none⟩ = some (.int .i64 ls.length)) := Lib.hid ⟨hC10d.box.cell 2, hC10d.box.cell 3, hC10d.box.cell 4⟩
        have HUB := Lib.hid (uberblock_any ⟨t + 1, f9, ls.length⟩ HUOK.out X 1 WT (by decide) (by decide) _ _ _ (by simp; omega) _ hC10d.pl)
        obtain ⟨uo, huo⟩ : ∃ uo, (Ub.mk (t + 1) f9 ls.length).octs = uo := ⟨_, rfl⟩
        rw [huo] at HUB
        dsimp only [Ub.val] at HUB
        have HUO := Lib.hid huo
        clear hC10 hC10d hP10 ho10 huo
        go_wp2_with fail
        refine wp_region_noPanic ?_
        refine wp_region_last 5 (fun W => W.cell? ⟨w5.heap.size, 2, none⟩ = some (.int .i64 (t + 1)) ∧ W.cell? ⟨w5.heap.size, 3, none⟩ = some (.int .i64 f9) ∧ W.cell? ⟨w5.heap.size, 4, none⟩ = some (.int .i64 ls.length)) (by kernel_rfl) HS10.out (fun hHeld => ?_)
        refine wpAnyL_take 12 (i := 0) (oi := ⟨some 67, _, _, _, _, _⟩) (v := ?_) rfl (by kernel_rfl) (by kernel_rfl) (by kernel_rfl) (by kernel_rfl) (by kernel_rfl) (by kernel_rfl) (by kernel_rfl) (fun _ _ _ h => h) (Or.inl ⟨by rfl, ?_⟩) hHeld ?_
        rotate_left
        focus (intro w hSw; (try dsimp only at hSw); go_simp; try (with_reducible rfl))
        try simp only [Act.put, List.setIfInBounds_toArray, List.set_cons_zero, List.set_cons_succ]
        refine wpAnyL_take 12 (i := 1) (oi := ⟨some 68, _, _, _, _, _⟩) (v := ?_) rfl (by kernel_rfl) (by kernel_rfl) (by kernel_rfl) (by kernel_rfl) (by kernel_rfl) (by kernel_rfl) (by kernel_rfl) (fun _ _ _ h => h) (Or.inl ⟨by rfl, ?_⟩) hHeld ?_
        rotate_left
        focus (intro w hSw; (try dsimp only at hSw); go_simp; try (with_reducible rfl))
        try simp only [Act.put, List.setIfInBounds_toArray, List.set_cons_zero, List.set_cons_succ]
        refine wpAnyL_take 12 (i := 2) (oi := ⟨some 69, _, _, _, _, _⟩) (v := ?_) rfl (by kernel_rfl) (by kernel_rfl) (by kernel_rfl) (by kernel_rfl) (by kernel_rfl) (by kernel_rfl) (by kernel_rfl) (fun _ _ _ h => h) (Or.inl ⟨by rfl, ?_⟩) hHeld ?_
        rotate_left
        focus (intro w hSw; (try dsimp only at hSw); go_simp; try (with_reducible rfl))
        try simp only [Act.put, List.setIfInBounds_toArray, List.set_cons_zero, List.set_cons_succ]
        refine wpAnyL_take 12 (i := 3) (oi := ⟨some 70, _, _, _, _, _⟩) (v := ?_) rfl (by kernel_rfl) (by kernel_rfl) (by kernel_rfl) (by kernel_rfl) (by kernel_rfl) (by kernel_rfl) (by kernel_rfl) (fun _ _ _ h => h) (Or.inl ⟨by rfl, ?_⟩) hHeld ?_
        rotate_left
        focus (intro w hSw; (try dsimp only at hSw); go_simp; try (with_reducible rfl))
        try simp only [Act.put, List.setIfInBounds_toArray, List.set_cons_zero, List.set_cons_succ]
        refine wpAnyL_take 12 (i := 4) (oi := ⟨some 71, _, _, _, _, _⟩) (v := ?_) rfl (by kernel_rfl) (by kernel_rfl) (by kernel_rfl) (by kernel_rfl) (by kernel_rfl) (by kernel_rfl) (by kernel_rfl) (fun _ _ _ h => h) (Or.inl ⟨by rfl, ?_⟩) hHeld ?_
        rotate_left
        focus (intro w hSw; (try dsimp only at hSw); go_simp; try (with_reducible rfl))
        try simp only [Act.put, List.setIfInBounds_toArray, List.set_cons_zero, List.set_cons_succ]
        refine wpAnyL_last (i := 5) (o := ⟨some 72, _, _, _, _, _⟩) (by kernel_rfl) rfl (by kernel_rfl) (fun K hK => ?_)
        clear hHeld
        go_simp
        refine HUB.out.mono ?_
        rintro e w11 ⟨v11, p11, rfl, hz11, hP11, ho11⟩
        go_wp2_with fail
        refine hK.out _ _ ?_
        clear hK K
        try simp only [Act.put, List.setIfInBounds_toArray, List.set_cons_zero, List.set_cons_succ]
        refine wpAnyL_done (by kernel_rfl) ?_ _
        refine NoPanic.normal ?_
        have hB11 : Below X w5 w11 := hB10.drew.trans ho11.below
        have HC11 := Lib.hid (HC10.out.only ho11 hP11)
        have HZ11 := Lib.hid hz11
        clear HUB hP11 ho11 HC10 hz11 HS10
        go_wp2_with fail
        refine (flush_any X 1 WT (by decide) (by decide) _ _ _ (by simp; omega) w11 HC11.out.pl).mono ?_
        rintro e w12 ⟨v12, rfl, hP12, ho12⟩
        have HC12 := Lib.hid (HC11.out.only ho12 hP12)
        have hB12 : Below X w5 w12 := hB11.trans ho12.below
        clear hP12 ho12 HC11
        have hXw : w1.heap.size ≤ X := by have := hB14.size; omega
        have hs1w := hB1.size
        have hB012 : Below w.heap.size w w12 := hB05.trans (hB12.mono (by omega))
        have kx12 := HKX.out.below (hB15.trans (hB12.mono hXw)) HKX.out.lt
        have kr12 := HKR.out.below (hB15.trans (hB12.mono hXw)) HKR.out.lt
        have hwaits : ws = [] := by
          have h9 := HOK.out.waits
          rw [HDW.out] at h9
          exact List.map_eq_nil_iff.1 h9
        have hdok : (Dv.mk dA ps dc B ws dd).st.ok := by rw [← HSPD.out]; exact HOK.out.dev
        have hps2 : 2 ≤ ps.length := by have h9 := HOK.out.dev.1; rw [HDN.out] at h9; exact h9
        obtain ⟨l12, hl12⟩ : ∃ l12, l9 ++ [flushAc] ++ [⟨false, (t + 1) % 2, p11⟩] ++ [flushAc] = l12 := ⟨_, rfl⟩
        have hz64 : p11.zs.length = 64 := by rw [HZ11.out, ← HUO.out, Ub.octs_length]
        have hx12 : ∀ x ∈ l12, x.p.zs.length ≤ 64 ∧ actE ps.length x.fl x.at_ x.p.zs.length = 0 := by
          rw [← hl12]
          intro x hx
          simp only [List.append_assoc, List.mem_append, List.mem_cons, List.not_mem_nil, or_false] at hx
          rcases hx with hx | rfl | rfl | rfl
          · obtain ⟨q1, q2, q3, q4⟩ := HV9.out x hx
            rw [q1, q4]
            exact ⟨Nat.le_refl _, by simp [actE, wrtE]; omega⟩
          · simp [actE]
          · dsimp only
            rw [hz64]
            exact ⟨Nat.le_refl _, by simp [actE, wrtE]; omega⟩
          · simp [actE]
        have hl12n : l12.length ≤ 1000000 := by rw [← hl12]; simp; omega
        have hl12s : l12.map Ac.st = (l.map Ac.st ++ wi9) ++ lastActs ⟨t + 1, f9, ls.length⟩ := by
          rw [← hl12]
          simp only [List.map_append, List.map_cons, List.map_nil, HLS9.out, lastActs, List.append_assoc, List.cons_append, List.nil_append]
          simp [Ac.st, HZ11.out, HUO.out]
        have HC12' := Lib.hid HC12.out
        rw [hl12] at HC12'
        have HL12 := Lib.hid hl12s
        have HDO : Hid (∀ W, Below w12.heap.size w12 W → Calls Tryz.prog 57 #[.pointer (some ⟨X, 1, none⟩), .agg #[.slice dA ps.length dc, .slice B ws.length dd]] W fun e w' => ∃ E : Dv, e = .returned E.val ∧ E.st = doL sp.dev (l12.map Ac.st) ∧ E.Lies W.heap.size w' ∧ Below W.heap.size W w' ∧ E.Caps) := Lib.hid fun W hB => by
          rw [HSPD.out]
          exact does_any ⟨dA, ps, dc, B, ws, dd⟩ HF.out.dev hdok X 1 WT (by decide) _ v12 l12 (by omega) (actsE_none fun x hx => (hx12 x hx).2) hwaits (fun x hx => by have := (hx12 x hx).1; omega) W (HC12'.out.below hB).pl ((HL.out.below (hB012.trans (hB.mono hB012.size))).dev)
        have HS12 : Hid (∀ W, Below w12.heap.size w12 W → W.cell? ⟨w.heap.size, 0, none⟩ = some (.slice dA ps.length dc) ∧ W.cell? ⟨w.heap.size, 1, none⟩ = some (.slice B ws.length dd)) := Lib.hid fun W hB => by
          have h9 := kx12.below hB kx12.lt
          exact ⟨h9.cell 0, h9.cell 1⟩
        have HX12 := Lib.hid hx12
        have hY12 := HC12'.out.box.lt
        have HACT : Hid (∀ a ∈ l12.map Ac.st, a.1 = true ∨ (0 ≤ a.2.1 ∧ a.2.1 < sp.dev.secs.length ∧ a.2.2.length = 64)) := Lib.hid fun a ha => by
          obtain ⟨x, hx, rfl⟩ := List.mem_map.1 ha
          rw [HDN.out]
          rw [← hl12] at hx
          simp only [List.append_assoc, List.mem_append, List.mem_cons, List.not_mem_nil, or_false] at hx
          rcases hx with hx | rfl | rfl | rfl
          · obtain ⟨q1, q2, q3, q4⟩ := HV9.out x hx
            exact .inr ⟨by show 0 ≤ x.at_; omega, q3, q4⟩
          · exact .inl rfl
          · exact .inr ⟨by show 0 ≤ (t + 1) % 2; omega, by show (t + 1) % 2 < ps.length; omega, hz64⟩
          · exact .inl rfl
        have HKR12 := Lib.hid kr12
        have HDOK := Lib.hid hdok
        have hBd12 : Below w12.heap.size w12 w12.drew := (Below.refl _ _).drew
        clear kx12 kr12 hl12s hx12 hl12 HC12 hz64 hdok hwaits
        go_wp2_with fail
        refine wp_region_noPanic ?_
        refine wp_region_last 7 (fun W => W.cell? ⟨w.heap.size, 0, none⟩ = some (.slice dA ps.length dc) ∧ W.cell? ⟨w.heap.size, 1, none⟩ = some (.slice B ws.length dd)) (by kernel_rfl) (HS12.out _ hBd12) (fun hHeld => ?_)
        refine wpAnyL_take 12 (i := 0) (oi := ⟨some 77, _, _, _, _, _⟩) (v := ?_) rfl (by kernel_rfl) (by kernel_rfl) (by kernel_rfl) (by kernel_rfl) (by kernel_rfl) (by kernel_rfl) (by kernel_rfl) (fun _ _ _ h => h) (Or.inl ⟨by rfl, ?_⟩) hHeld ?_
        rotate_left
        focus (intro w hSw; (try dsimp only at hSw); go_simp; try (with_reducible rfl))
        try simp only [Act.put, List.setIfInBounds_toArray, List.set_cons_zero, List.set_cons_succ]
        refine wpAnyL_take 12 (i := 1) (oi := ⟨some 78, _, _, _, _, _⟩) (v := ?_) rfl (by kernel_rfl) (by kernel_rfl) (by kernel_rfl) (by kernel_rfl) (by kernel_rfl) (by kernel_rfl) (by kernel_rfl) (fun _ _ _ h => h) (Or.inl ⟨by rfl, ?_⟩) hHeld ?_
        rotate_left
        focus (intro w hSw; (try dsimp only at hSw); go_simp; try (with_reducible rfl))
        try simp only [Act.put, List.setIfInBounds_toArray, List.set_cons_zero, List.set_cons_succ]
        refine wpAnyL_take 12 (i := 2) (oi := ⟨some 79, _, _, _, _, _⟩) (v := ?_) rfl (by kernel_rfl) (by kernel_rfl) (by kernel_rfl) (by kernel_rfl) (by kernel_rfl) (by kernel_rfl) (by kernel_rfl) (fun _ _ _ h => h) (Or.inl ⟨by rfl, ?_⟩) hHeld ?_
        rotate_left
        focus (intro w hSw; (try dsimp only at hSw); go_simp; try (with_reducible rfl))
        try simp only [Act.put, List.setIfInBounds_toArray, List.set_cons_zero, List.set_cons_succ]
        refine wpAnyL_take 12 (i := 3) (oi := ⟨some 80, _, _, _, _, _⟩) (v := ?_) rfl (by kernel_rfl) (by kernel_rfl) (by kernel_rfl) (by kernel_rfl) (by kernel_rfl) (by kernel_rfl) (by kernel_rfl) (fun _ _ _ h => h) (Or.inl ⟨by rfl, ?_⟩) hHeld ?_
        rotate_left
        focus (intro w hSw; (try dsimp only at hSw); go_simp; try (with_reducible rfl))
        try simp only [Act.put, List.setIfInBounds_toArray, List.set_cons_zero, List.set_cons_succ]
        refine wpAnyL_take 12 (i := 4) (oi := ⟨some 81, _, _, _, _, _⟩) (v := ?_) rfl (by kernel_rfl) (by kernel_rfl) (by kernel_rfl) (by kernel_rfl) (by kernel_rfl) (by kernel_rfl) (by kernel_rfl) (fun _ _ _ h => h) (Or.inl ⟨by rfl, ?_⟩) hHeld ?_
        rotate_left
        focus (intro w hSw; (try dsimp only at hSw); go_simp; try (with_reducible rfl))
        try simp only [Act.put, List.setIfInBounds_toArray, List.set_cons_zero, List.set_cons_succ]
        refine wpAnyL_one (i := 5) (o := ⟨some 82, _, _, _, _, _⟩) (by kernel_rfl) rfl (fun K hK => ?_)
        clear hHeld
        go_simp
        refine (HDO.out _ hBd12).mono ?_
        rintro e w13 ⟨E, rfl, hE, hEL, hB13', hECp⟩
        have hB1213 : Below w12.heap.size w12 w13 := hBd12.trans (hB13'.mono hBd12.size)
        have hC13 := HC12'.out.below hB1213
        have hC13c := Lib.hid hC13
        obtain ⟨y0, y1, _, _, _, _, _⟩ := blk7 hC13.box
        have q0 := hC13.box.frozen 0
        have q1 := hC13.box.frozen 1
        go_wp2_with fail
        refine hK.out _ _ (HS12.out _ hB1213) (fun hHeld => ?_)
        clear hK K
        try simp only [Act.put, List.setIfInBounds_toArray, List.set_cons_zero, List.set_cons_succ]
        refine wpAnyL_take 12 (i := 6) (oi := ⟨some 83, _, _, _, _, _⟩) (v := ?_) rfl (by kernel_rfl) (by kernel_rfl) (by kernel_rfl) (by kernel_rfl) (by kernel_rfl) (by kernel_rfl) (by kernel_rfl) (fun _ _ _ h => h) (Or.inl ⟨by rfl, ?_⟩) hHeld ?_
        rotate_left
        focus (intro w hSw; (try dsimp only at hSw); go_simp; try (with_reducible rfl))
        try simp only [Act.put, List.setIfInBounds_toArray, List.set_cons_zero, List.set_cons_succ]
        refine wpAnyL_last (i := 7) (o := ⟨none, _, _, _, _, _⟩) (by kernel_rfl) rfl (by kernel_rfl) (fun K hK => ?_)
        clear hHeld
        go_simp
        go_wp2_with fail
        refine hK.out _ _ ?_
        clear hK K
        try simp only [Act.put, List.setIfInBounds_toArray, List.set_cons_zero, List.set_cons_succ]
        refine wpAnyL_done (by kernel_rfl) ?_ _
        refine NoPanic.normal ?_
        have hC14 := (hC13c.out.dev (.slice E.A E.ps.length E.c) (.slice E.B E.ws.length E.d)).1
        have hh14 : ∀ k, k ≠ w5.heap.size → ((w13.setCell ⟨w5.heap.size, 0, none⟩ (.slice E.A E.ps.length E.c)).setCell ⟨w5.heap.size, 1, none⟩ (.slice E.B E.ws.length E.d)).heap[k]? = w13.heap[k]? := fun k hk => (set_heap _ w5.heap.size 1 _ k hk).trans (set_heap _ w5.heap.size 0 _ k hk)
        have hs14 : ((w13.setCell ⟨w5.heap.size, 0, none⟩ (.slice E.A E.ps.length E.c)).setCell ⟨w5.heap.size, 1, none⟩ (.slice E.B E.ws.length E.d)).heap.size = w13.heap.size := by simp
        have hB1314 : Below X w13 ((w13.setCell ⟨w5.heap.size, 0, none⟩ (.slice E.A E.ps.length E.c)).setCell ⟨w5.heap.size, 1, none⟩ (.slice E.B E.ws.length E.d)) := ((Below.refl X w13).setCell (p := ⟨w5.heap.size, 0, none⟩) (Nat.le_of_lt hX5) _).setCell (p := ⟨w5.heap.size, 1, none⟩) (Nat.le_of_lt hX5) _
        obtain ⟨W14, hW14⟩ : ∃ W14, (w13.setCell ⟨w5.heap.size, 0, none⟩ (.slice E.A E.ps.length E.c)).setCell ⟨w5.heap.size, 1, none⟩ (.slice E.B E.ws.length E.d) = W14 := ⟨_, rfl⟩
        rw [hW14] at hC14 hh14 hs14 hB1314 ⊢
        have hB514 : Below X w5 W14 := (hB12.trans (hB1213.mono (by have := hC14.pl.blk.lt; have := hB12.size; omega))).trans hB1314
        have kr14 := HKR.out.below (hB15.trans (hB514.mono hXw)) HKR.out.lt
        obtain ⟨A12, c12, hv12, hcap12, _, _, _⟩ := own_any hC14.pl.row
        subst hv12
        have HS14 : Hid (∀ W, Below W14.heap.size W14 W → (W.cell? ⟨w5.heap.size, 0, none⟩ = some (.slice E.A E.ps.length E.c) ∧ W.cell? ⟨w5.heap.size, 1, none⟩ = some (.slice E.B E.ws.length E.d) ∧ W.cell? ⟨w5.heap.size, 2, none⟩ = some (.int .i64 (t + 1)) ∧ W.cell? ⟨w5.heap.size, 3, none⟩ = some (.int .i64 f9) ∧ W.cell? ⟨w5.heap.size, 4, none⟩ = some (.int .i64 ls.length) ∧ W.cell? ⟨w5.heap.size, 5, none⟩ = some (.slice AO ys.length cO) ∧ W.cell? ⟨w5.heap.size, 6, none⟩ = some (.slice AI9 ix9.length ci9)) ∧ W.cell? ⟨X, 1, none⟩ = some (.slice A12 l12.length c12)) := Lib.hid fun W hB =>
          ⟨blk7 (hC14.box.below hB hC14.box.lt), ((hC14.pl.blk.below hB hC14.pl.blk.lt).cell 1).trans hC14.pl.at_⟩
        obtain ⟨r0, r1, r2, r3, r4, r5, r6, r7⟩ := blk8 kr14
        have e0 := kr14.frozen 0
        have e1 := kr14.frozen 1
        have e2 := kr14.frozen 2
        have e3 := kr14.frozen 3
        have e4 := kr14.frozen 4
        have e5 := kr14.frozen 5
        have e6 := kr14.frozen 6
        have e7 := kr14.frozen 7
        have HKR14 := Lib.hid kr14
        have HC14 := Lib.hid hC14
        have HE := Lib.hid hE
        have HEL := Lib.hid hEL
        have hBd14 : Below W14.heap.size W14 W14.drew := (Below.refl _ _).drew
        clear hC14 kr14 hC13 hC13c y0 y1 q0 q1 hW14 hE hEL HDO HS12 HC12' HKR12 HX12
        go_wp2_with fail
        refine wp_region_noPanic ?_
        refine wp_region_last 7 (fun W => (W.cell? ⟨w5.heap.size, 0, none⟩ = some (.slice E.A E.ps.length E.c) ∧ W.cell? ⟨w5.heap.size, 1, none⟩ = some (.slice E.B E.ws.length E.d) ∧ W.cell? ⟨w5.heap.size, 2, none⟩ = some (.int .i64 (t + 1)) ∧ W.cell? ⟨w5.heap.size, 3, none⟩ = some (.int .i64 f9) ∧ W.cell? ⟨w5.heap.size, 4, none⟩ = some (.int .i64 ls.length) ∧ W.cell? ⟨w5.heap.size, 5, none⟩ = some (.slice AO ys.length cO) ∧ W.cell? ⟨w5.heap.size, 6, none⟩ = some (.slice AI9 ix9.length ci9)) ∧ W.cell? ⟨X, 1, none⟩ = some (.slice A12 l12.length c12)) (by kernel_rfl) (HS14.out _ hBd14) (fun hHeld => ?_)
        refine wpAnyL_take 12 (i := 0) (oi := ⟨some 84, _, _, _, _, _⟩) (v := ?_) rfl (by kernel_rfl) (by kernel_rfl) (by kernel_rfl) (by kernel_rfl) (by kernel_rfl) (by kernel_rfl) (by kernel_rfl) (fun _ _ _ h => h) (Or.inl ⟨by rfl, ?_⟩) hHeld ?_
        rotate_left
        focus (intro w hSw; (try dsimp only at hSw); go_simp; try (with_reducible rfl))
        try simp only [Act.put, List.setIfInBounds_toArray, List.set_cons_zero, List.set_cons_succ]
        refine wpAnyL_take 12 (i := 1) (oi := ⟨some 85, _, _, _, _, _⟩) (v := ?_) rfl (by kernel_rfl) (by kernel_rfl) (by kernel_rfl) (by kernel_rfl) (by kernel_rfl) (by kernel_rfl) (by kernel_rfl) (fun _ _ _ h => h) (Or.inl ⟨by rfl, ?_⟩) hHeld ?_
        rotate_left
        focus (intro w hSw; (try dsimp only at hSw); go_simp; try (with_reducible rfl))
        try simp only [Act.put, List.setIfInBounds_toArray, List.set_cons_zero, List.set_cons_succ]
        refine wpAnyL_take 12 (i := 2) (oi := ⟨some 86, _, _, _, _, _⟩) (v := ?_) rfl (by kernel_rfl) (by kernel_rfl) (by kernel_rfl) (by kernel_rfl) (by kernel_rfl) (by kernel_rfl) (by kernel_rfl) (fun _ _ _ h => h) (Or.inl ⟨by rfl, ?_⟩) hHeld ?_
        rotate_left
        focus (intro w hSw; (try dsimp only at hSw); go_simp; try (with_reducible rfl))
        try simp only [Act.put, List.setIfInBounds_toArray, List.set_cons_zero, List.set_cons_succ]
        refine wpAnyL_take 12 (i := 3) (oi := ⟨some 87, _, _, _, _, _⟩) (v := ?_) rfl (by kernel_rfl) (by kernel_rfl) (by kernel_rfl) (by kernel_rfl) (by kernel_rfl) (by kernel_rfl) (by kernel_rfl) (fun _ _ _ h => h) (Or.inl ⟨by rfl, ?_⟩) hHeld ?_
        rotate_left
        focus (intro w hSw; (try dsimp only at hSw); go_simp; try (with_reducible rfl))
        try simp only [Act.put, List.setIfInBounds_toArray, List.set_cons_zero, List.set_cons_succ]
        refine wpAnyL_take 12 (i := 4) (oi := ⟨some 88, _, _, _, _, _⟩) (v := ?_) rfl (by kernel_rfl) (by kernel_rfl) (by kernel_rfl) (by kernel_rfl) (by kernel_rfl) (by kernel_rfl) (by kernel_rfl) (fun _ _ _ h => h) (Or.inl ⟨by rfl, ?_⟩) hHeld ?_
        rotate_left
        focus (intro w hSw; (try dsimp only at hSw); go_simp; try (with_reducible rfl))
        try simp only [Act.put, List.setIfInBounds_toArray, List.set_cons_zero, List.set_cons_succ]
        refine wpAnyL_take 12 (i := 5) (oi := ⟨some 89, _, _, _, _, _⟩) (v := ?_) rfl (by kernel_rfl) (by kernel_rfl) (by kernel_rfl) (by kernel_rfl) (by kernel_rfl) (by kernel_rfl) (by kernel_rfl) (fun _ _ _ h => h) (Or.inl ⟨by rfl, ?_⟩) hHeld ?_
        rotate_left
        focus (intro w hSw; (try dsimp only at hSw); go_simp; try (with_reducible rfl))
        try simp only [Act.put, List.setIfInBounds_toArray, List.set_cons_zero, List.set_cons_succ]
        refine wpAnyL_take 12 (i := 6) (oi := ⟨some 90, _, _, _, _, _⟩) (v := ?_) rfl (by kernel_rfl) (by kernel_rfl) (by kernel_rfl) (by kernel_rfl) (by kernel_rfl) (by kernel_rfl) (by kernel_rfl) (fun _ _ _ h => h) (Or.inl ⟨by rfl, ?_⟩) hHeld ?_
        rotate_left
        focus (intro w hSw; (try dsimp only at hSw); go_simp; try (with_reducible rfl))
        try simp only [Act.put, List.setIfInBounds_toArray, List.set_cons_zero, List.set_cons_succ]
        refine wpAnyL_last (i := 7) (o := ⟨none, _, _, _, _, _⟩) (by kernel_rfl) rfl (by kernel_rfl) (fun K hK => ?_)
        clear hHeld
        go_simp
        go_wp2_with fail
        refine hK.out _ _ ?_
        clear hK K
        try simp only [Act.put, List.setIfInBounds_toArray, List.set_cons_zero, List.set_cons_succ]
        refine wpAnyL_done (by kernel_rfl) ?_ _
        refine NoPanic.normal ?_
        obtain ⟨W15, hW15⟩ : ∃ W15, set8 W14 (w.heap.size + 1) (.slice E.A E.ps.length E.c) (.slice E.B E.ws.length E.d) (.int .i64 (t + 1)) (.int .i64 f9) (.int .i64 ls.length) (.slice AO ys.length cO) (.slice AI9 ix9.length ci9) (.slice A12 l12.length c12) = W15 := ⟨_, rfl⟩
        have k15 : Blk W15 (w.heap.size + 1) 65 [.slice E.A E.ps.length E.c, .slice E.B E.ws.length E.d, .int .i64 (t + 1), .int .i64 f9, .int .i64 ls.length, .slice AO ys.length cO, .slice AI9 ix9.length ci9, .slice A12 l12.length c12] := hW15 ▸ set8_blk HKR14.out
        have hh15 : ∀ k, k ≠ w.heap.size + 1 → W15.heap[k]? = W14.heap[k]? := hW15 ▸ set8_heap W14 (w.heap.size + 1) (.slice E.A E.ps.length E.c) (.slice E.B E.ws.length E.d) (.int .i64 (t + 1)) (.int .i64 f9) (.int .i64 ls.length) (.slice AO ys.length cO) (.slice AI9 ix9.length ci9) (.slice A12 l12.length c12)
        have hs15 : W15.heap.size = W14.heap.size := hW15 ▸ set8_size W14 (w.heap.size + 1) (.slice E.A E.ps.length E.c) (.slice E.B E.ws.length E.d) (.int .i64 (t + 1)) (.int .i64 f9) (.int .i64 ls.length) (.slice AO ys.length cO) (.slice AI9 ix9.length ci9) (.slice A12 l12.length c12)
        have hB1415 : Below w.heap.size W14 W15 := hW15 ▸ set8_below W14 w.heap.size (w.heap.size + 1) (.slice E.A E.ps.length E.c) (.slice E.B E.ws.length E.d) (.int .i64 (t + 1)) (.int .i64 f9) (.int .i64 ls.length) (.slice AO ys.length cO) (.slice AI9 ix9.length ci9) (.slice A12 l12.length c12) (Nat.le_succ _)
        dsimp only [set8] at hW15
        rw [hW15]
        clear hW15 r0 r1 r2 r3 r4 r5 r6 r7 e0 e1 e2 e3 e4 e5 e6 e7
        have HK15 := Lib.hid k15.drew
        have HH15 := Lib.hid hh15
        clear k15 hh15
        go_wp2
        obtain ⟨d0, d1, d2, d3, d4, d5, d6, d7⟩ := blk8 HK15.out
        have hRX : w.heap.size + 1 < X := by omega
        have hfrom : ∀ (A : Option Addr) (vs : List Value), RdF X W14 A vs → RdF w.heap.size W15.drew A vs := fun A vs h =>
          (h.stays (w' := W15.drew) (by show W14.heap.size ≤ W15.heap.size; omega) (fun k h1 _ => HH15.out k (by omega))).mono (by omega)
        have HFROM := Lib.hid hfrom
        have hwt0 : E.st.waits = [] := by
          rw [HE.out, HL12.out, lastActs, show (l.map Ac.st ++ wi9) ++ [(true, 0, []), (false, (Ub.mk (t + 1) f9 ls.length).t % 2, (Ub.mk (t + 1) f9 ls.length).octs), (true, 0, [])] = ((l.map Ac.st ++ wi9) ++ [(true, 0, []), (false, (Ub.mk (t + 1) f9 ls.length).t % 2, (Ub.mk (t + 1) f9 ls.length).octs)]) ++ [(true, 0, [])] by simp, doL_snoc]
          rfl
        have hew : E.ws.length = 0 := by
          have h9 := congrArg List.length hwt0
          simpa [Dv.st] using h9
        have hEok : E.st.ok := by rw [HE.out]; exact (doL_ok HOK.out.dev HACT.out).1
        have hix9 : ix9.length ≤ 8192 := by have h9 := (indexed_acts HI9.out).2.2.1; omega
        have hBw15 : Below w.heap.size w W15.drew := ((hB05.trans (hB514.mono (by omega))).trans hB1415).drew
        clear hfrom hB1415
        refine bodyPost_ret (v := stepval E (t + 1) f9 ls.length AO ys.length cO AI9 ix9.length ci9 A12 l12.length c12) ?_ rfl ⟨.inr (.inr (.inr ⟨HOK.out, HOE.out, ⟨E, ⟨t + 1, f9, ls.length⟩, AO, ys, cO, AI9, ix9, ci9⟩, A12, c12, l12, rfl, ?_, ?_, ?_, ?_, ?_, hcap12, hECp⟩)), hBw15⟩
        · clear hBw15 hEok hew hwt0
          simp [results, Tryz.results26, go_sem, d0, d1, d2, d3, d4, d5, d6, d7]
        · refine ⟨⟨fr, l.map Ac.st, wi9, ?_, HI9.out, HL12.out⟩, ?_, ?_, HE.out⟩
          · have h9 := HPL.out
            rw [← HFR0.out, ← HDN.out, ← HSEC.out] at h9
            exact h9
          · rw [HSPU.out]
            rfl
          · show (ls.length : Int) = lp.length
            rw [← HLP.out, List.length_map]
        · refine ⟨?_, HFROM.out _ _ (RdF.of_own HC14.out.row), fun y hy => HFROM.out _ _ (RdF.of_own (HC14.out.data y hy)), fun y hy => HFROM.out _ _ (RdF.of_own (HC14.out.at_ y hy)), HFROM.out _ _ (RdF.of_own HC14.out.ix)⟩
          have h9 : Dv.Lies w12.heap.size w13 E := HEL.out
          refine (h9.stays (W' := W15.drew) (by show w13.heap.size ≤ W15.heap.size; omega) (fun k h1 _ => ?_)).mono hB012.size
          exact (HH15.out k (by have := hB012.size; omega)).trans (hh14 k (by omega))
        · refine ⟨dv_fits hEok (by show E.ws.length ≤ _; omega), by show ys.length ≤ _; omega, fun y hy => ?_, by show ix9.length ≤ _; omega⟩
          obtain ⟨q1, q2, q3, q4⟩ := HYF.out y hy
          obtain ⟨_, cd, ed, hd1, hd2, _, _⟩ := own_any (HC14.out.data y hy)
          obtain ⟨_, ca, ea, ha1, ha2, _, _⟩ := own_any (HC14.out.at_ y hy)
          injection ed with ed1 ed2 ed3
          injection ea with ea1 ea2 ea3
          refine ⟨by unfold maxLen; omega, by omega, by omega, fun h => by rw [ed3]; exact hd2 (by rw [← ed1]; exact h), by omega, q4, fun h => by rw [ea3]; exact ha2 (by rw [← ea1]; exact h), ?_⟩
          obtain ⟨_, e2, _⟩ := HPL.out.facts HOK.out.at_
          have hm : y.d.zs ∈ (ys.map Ob.st).map (·.data) := List.mem_map.2 ⟨y.st, List.mem_map.2 ⟨y, hy, rfl⟩, rfl⟩
          rw [e2, ← HLP.out] at hm
          obtain ⟨p9, hp9, e9⟩ := List.mem_map.1 hm
          obtain ⟨o9, ho9, rfl⟩ := List.mem_map.1 hp9
          rw [← e9]
          exact (HLF.out o9 ho9).octs
        · exact HFROM.out _ _ (RdF.of_own HC14.out.pl.row)
        · exact fun a ha => HFROM.out _ _ (RdF.of_own (HC14.out.pl.data a ha))

end Go.Proofs.YtmehjmkakkiedaaGreat
