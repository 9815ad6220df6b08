/-
  index: the index is written where it finds room. Conditions: at most 256 objects that a store may have.
-/
import Derived.Test.YtfeeejigedndcaaGreatMQR
import Derived.Test.YtfeeejigedndcaaGreatMQO
import Derived.Test.YtfeeejigedndcaaGreatMRL
namespace Go.Proofs.YtfeeejigedndcaaGreat
open Go.ChangeShapes Go.WideShapes Go.ChangeAt Go.RowKit
set_option maxRecDepth 100000

theorem RdI.of_row {w : World} {base n : Nat} {A : Option Addr} {c : Nat} {zs : List Int} (h : w.ownsRow base 3 1 (.slice A n c) n (ints zs)) : RdI w A zs := (RdF.of_own h).1
theorem RdB.of_row {w : World} {base n : Nat} {A : Option Addr} {c : Nat} {zs : List Int} (h : w.ownsRow base 5 1 (.slice A n c) n (zs.map (Value.int .u8))) : RdB w A zs := (RdF.of_own h).1

/-- What is known of a writer, whatever is written next. -/
theorem WrAt.move {base X : Nat} {W W' : World} {F F' : Option Addr} {fr fr' : List Int} {d d' mb n : Nat} {D : Dv2} {os : List Ob} {v v' : Value} {l l' : List Ac} (h : WrAt base X W F fr d mb n D os v l)
    (hp : Pl X 1 WT [.slice F' fr'.length d', v', .map (some mb)] v' W' l') (ho : Only X WT W W') (hfr : RdU X W F (ints fr) → RdU X W F' (ints fr')) (hd : fr'.length ≤ d') (hn : F' = none → d' = 0) : WrAt base X W' F' fr' d' mb n D os v' l' :=
  ⟨hp, (hfr h.free).belowX ho.below, hd, hn, h.mlt, own_map_block h.mp (ho.below.block mb h.mlt), h.mis, h.bX⟩
theorem ints_cons_ne {z : Int} {zs : List Int} : ints (z :: zs) ≠ [] := by simp [ints]
theorem RdU.int {X : Nat} {w : World} {A : Option Addr} {zs : List Int} (h : RdU X w A (ints zs)) : RdI w A zs := h.rd
theorem RdU.of_int {X : Nat} {w : World} {F F' : Option Addr} {fr : List Int} {n : Nat} (h : RdU X w F (ints fr)) (hF : ∀ W, RdI W F fr → RdI W F' (fr.drop n)) (hsame : ∀ a, F' = some a → ∃ b, F = some b ∧ a.block = b.block) : RdU X w F' (ints (fr.drop n)) := fun hv => by
  obtain ⟨b, off, e, hb, hc⟩ := hF w h.int hv
  subst e
  obtain ⟨a', ha', hbb⟩ := hsame _ rfl
  have hne : ints fr ≠ [] := by
    intro e
    apply hv
    have : fr = [] := by simpa [ints] using e
    subst this
    simp [ints]
  obtain ⟨b', off', e', hb', _⟩ := h hne
  rw [ha'] at e'
  injection e' with e'
  subst e'
  exact ⟨b, off, rfl, by simp at hbb; omega, hc⟩

/-- What index leaves. -/
def IdxOk (base X : Nat) (_F : Option Addr) (fr : List Int) (mb n : Nat) (D : Dv2) (os : List Ob) (l : List Ac) (zs : List Int) (w w' : World) (A : Option Addr) (c : Nat) : Prop :=
  ∃ F' d' v' new, w'.ownsRow w.heap.size 3 1 (.slice A (cntN zs.length) c) (cntN zs.length) (ints (fr.take (cntN zs.length))) ∧ cntN zs.length ≤ c ∧
    WrAt base X w' F' (fr.drop (cntN zs.length)) d' mb n D os v' (l ++ new) ∧ new.map Ac.st = (List.range (cntN zs.length)).map (wact zs (fr.take (cntN zs.length)) ((fr.take (cntN zs.length)).drop 1 ++ [0])) ∧ Only X WT w w'

set_option maxHeartbeats 2000000 in
theorem index_no (base X : Nat) (F : Option Addr) (fr : List Int) (d mb n : Nat) (D : Dv2) (os : List Ob) (v : Value) (l : List Ac) (A : Option Addr) (c : Nat) (ls : List Ob) (hl : ls.length ≤ 256) (hf : ∀ o ∈ ls, o.key.size ≤ 96 ∧ o.d.zs.length ≤ 65536 ∧ o.ns.length ≤ 1261 ∧ o.ns.length ≤ o.e)
    (w : World) (h : WrAt base X w F fr d mb n D os v l) (hr : Rd w A (obCells ls)) (hrn : ∀ o ∈ ls, RdI w o.B o.ns) (hno : fr.length < cntN (wr (idxT (ls.map Ob.st))).length) (hzl : (wr (idxT (ls.map Ob.st))).length ≤ 1000000000) :
    Calls Tryz.prog 54 #[.pointer (some ⟨X, 0, none⟩), .slice A ls.length c] w fun e w' => e = flt 17 ∧ Below w.heap.size w w' := by
  have HIX := Lib.hid (indexOf_any A c ls hl hf w hr hrn)
  have H := Lib.hid h
  have hXl := h.pl.blk.lt
  obtain ⟨zs, hzs⟩ : ∃ zs, wr (idxT (ls.map Ob.st)) = zs := ⟨_, rfl⟩
  rw [hzs] at HIX hno hzl
  have HCO : Hid (∀ w, Calls Tryz.prog 42 #[.int .i64 (zs.length : Int)] w fun e w' => e = .returned (.int .i64 (cntN zs.length : Nat)) ∧ w' = w) := Lib.hid (fun w => (count_any (zs.length : Int) (by omega) w).mono fun _ _ h => ⟨by rw [← cntI_nat]; exact h.1, h.2.symm⟩)
  have hcb : cntN zs.length ≤ 1000000000 := by unfold cntN; omega
  obtain ⟨cn, hcn⟩ : ∃ cn, cntN zs.length = cn := ⟨_, rfl⟩
  rw [hcn] at HCO hno hcb
  clear h hr hrn hf hzs
  go_enter Tryz.func54, Tryz.ntmps54
  go_wp2_with fail
  refine HIX.out.mono ?_
  rintro e w1 ⟨B, dB, rfl, hown, hB1⟩
  have hP1 := H.out.pl.below hB1
  have HP1 := Lib.hid hP1
  clear hown hP1
  go_wp2
  refine wp_region_last 6 (fun _ => True) (by kernel_rfl) trivial (fun hHeld => ?_)
  refine wpAnyL_take 12 (i := 0) (oi := ⟨some 9, _, _, _, _, _⟩) (v := ?_) rfl (by kernel_rfl) (by kernel_rfl) (by kernel_rfl) (by kernel_rfl) (by kernel_rfl) (by kernel_rfl) (by kernel_rfl) (fun _ _ _ h => h) (Or.inl ⟨by rfl, ?_⟩) hHeld ?_
  rotate_left
  focus (intro w hSw; (try dsimp only at hSw); go_simp; try (with_reducible rfl))
  try simp only [Act.put, List.setIfInBounds_toArray, List.set_cons_zero, List.set_cons_succ]
  refine wpAnyL_take 12 (i := 1) (oi := ⟨some 10, _, _, _, _, _⟩) (v := ?_) rfl (by kernel_rfl) (by kernel_rfl) (by kernel_rfl) (by kernel_rfl) (by kernel_rfl) (by kernel_rfl) (by kernel_rfl) (fun _ _ _ h => h) (Or.inl ⟨by rfl, ?_⟩) hHeld ?_
  rotate_left
  focus (intro w hSw; (try dsimp only at hSw); go_simp; try (with_reducible rfl))
  try simp only [Act.put, List.setIfInBounds_toArray, List.set_cons_zero, List.set_cons_succ]
  refine wpAnyL_take 12 (i := 2) (oi := ⟨some 11, _, _, _, _, _⟩) (v := ?_) rfl (by kernel_rfl) (by kernel_rfl) (by kernel_rfl) (by kernel_rfl) (by kernel_rfl) (by kernel_rfl) (by kernel_rfl) (fun _ _ _ h => h) (Or.inl ⟨by rfl, ?_⟩) hHeld ?_
  rotate_left
  focus (intro w hSw; (try dsimp only at hSw); go_simp; try (with_reducible rfl))
  try simp only [Act.put, List.setIfInBounds_toArray, List.set_cons_zero, List.set_cons_succ]
  refine wpAnyL_take 12 (i := 3) (oi := ⟨some 12, _, _, _, _, _⟩) (v := ?_) rfl (by kernel_rfl) (by kernel_rfl) (by kernel_rfl) (by kernel_rfl) (by kernel_rfl) (by kernel_rfl) (by kernel_rfl) (fun _ _ _ h => h) (Or.inl ⟨by rfl, ?_⟩) hHeld ?_
  rotate_left
  focus (intro w hSw; (try dsimp only at hSw); go_simp; try (with_reducible rfl))
  try simp only [Act.put, List.setIfInBounds_toArray, List.set_cons_zero, List.set_cons_succ]
  refine wpAnyL_take 12 (i := 4) (oi := ⟨some 13, _, _, _, _, _⟩) (v := ?_) rfl (by kernel_rfl) (by kernel_rfl) (by kernel_rfl) (by kernel_rfl) (by kernel_rfl) (by kernel_rfl) (by kernel_rfl) (fun _ _ _ h => h) (Or.inl ⟨by rfl, ?_⟩) hHeld ?_
  rotate_left
  focus (intro w hSw; (try dsimp only at hSw); go_simp; try (with_reducible rfl))
  try simp only [Act.put, List.setIfInBounds_toArray, List.set_cons_zero, List.set_cons_succ]
  refine wpAnyL_one (i := 5) (o := ⟨some 14, _, _, _, _, _⟩) (by kernel_rfl) rfl (fun K hK => ?_)
  clear hHeld
  go_simp
  refine (HCO.out _).mono ?_
  rintro e w2 ⟨rfl, rfl⟩
  go_wp2_with fail
  refine hK.out _ _ trivial (fun hHeld => ?_)
  clear hK K
  try simp only [Act.put, List.setIfInBounds_toArray, List.set_cons_zero, List.set_cons_succ]
  refine wpAnyL_last (i := 6) (o := ⟨some 15, _, _, _, _, _⟩) (by kernel_rfl) rfl (by kernel_rfl) (fun K hK => ?_)
  clear hHeld
  go_simp
  refine (take_no X _ v l F fr.length d cn hno (by omega) _ (HP1.out.below (Below.refl _ _).drew) rfl).mono ?_
  rintro e w3 ⟨rfl, rfl⟩
  exact ⟨rfl, rfl, hB1.drew⟩


set_option maxHeartbeats 4000000 in
theorem index_ok (base X : Nat) (F : Option Addr) (fr : List Int) (d mb n : Nat) (D : Dv2) (os : List Ob) (v : Value) (l : List Ac) (hll : l.length ≤ 1000000000) (hfr8 : ∀ z ∈ fr, 0 ≤ z ∧ z < 8192) (hfl : fr.length ≤ 1048576) (A : Option Addr) (c : Nat) (ls : List Ob) (hl : ls.length ≤ 256) (hf : ∀ o ∈ ls, o.key.size ≤ 96 ∧ o.d.zs.length ≤ 65536 ∧ o.ns.length ≤ 1261 ∧ o.ns.length ≤ o.e)
    (w : World) (h : WrAt base X w F fr d mb n D os v l) (hr : Rd w A (obCells ls)) (hrn : ∀ o ∈ ls, RdI w o.B o.ns) (hno : cntN (wr (idxT (ls.map Ob.st))).length ≤ fr.length) :
    Calls Tryz.prog 54 #[.pointer (some ⟨X, 0, none⟩), .slice A ls.length c] w fun e w' => ∃ A' c', e = .returned (.slice A' (cntN (wr (idxT (ls.map Ob.st))).length) c') ∧ IdxOk base X F fr mb n D os l (wr (idxT (ls.map Ob.st))) w w' A' c' := by
  obtain ⟨i0, hi, hz0, hz1, hz2⟩ := info_parts qinfo3
  have HIX := Lib.hid (indexOf_any A c ls hl hf w hr hrn)
  have H := Lib.hid h
  have hXl := h.pl.blk.lt
  have hfd := h.fd
  have hfn := h.fn
  have HZO : Hid (Octs (wr (idxT (ls.map Ob.st)))) := Lib.hid (wr_octs _)
  have hzpos : 2 ≤ (wr (idxT (ls.map Ob.st))).length := by unfold wr; rw [List.length_append, put_length]; omega
  obtain ⟨zs, hzs⟩ : ∃ zs, wr (idxT (ls.map Ob.st)) = zs := ⟨_, rfl⟩
  rw [hzs] at HIX hno HZO hzpos ⊢
  have hzl : zs.length ≤ 60000000 := by unfold cntN at hno; omega
  have HCO : Hid (∀ w, Calls Tryz.prog 42 #[.int .i64 (zs.length : Int)] w fun e w' => e = .returned (.int .i64 (cntN zs.length : Nat)) ∧ w' = w) := Lib.hid (fun w => (count_any (zs.length : Int) (by omega) w).mono fun _ _ h => ⟨by rw [← cntI_nat]; exact h.1, h.2.symm⟩)
  have hcp : 1 ≤ cntN zs.length := by unfold cntN; omega
  obtain ⟨cn, hcn⟩ : ∃ cn, cntN zs.length = cn := ⟨_, rfl⟩
  have HCN := Lib.hid hcn
  rw [hcn] at HCO hno hcp
  obtain ⟨ats, hats⟩ : ∃ ats, fr.take cn = ats := ⟨_, rfl⟩
  have hal : ats.length = cn := by rw [← hats, List.length_take]; omega
  obtain ⟨nxs, hnxs⟩ : ∃ nxs, ats.drop 1 ++ [0] = nxs := ⟨_, rfl⟩
  have hnl : nxs.length = cn := by rw [← hnxs]; simp; omega
  have hnx : ∀ z ∈ nxs, 0 ≤ z ∧ z < 8192 := fun z hz => by
    rw [← hnxs] at hz
    rcases List.mem_append.1 hz with hz | hz
    · rw [← hats] at hz
      exact hfr8 z (List.mem_of_mem_take (List.mem_of_mem_drop hz))
    · simp at hz; omega
  have HATS := Lib.hid hats
  have HNXS := Lib.hid hnxs
  have HNX := Lib.hid hnx
  have HAL := Lib.hid hal
  have HNL := Lib.hid hnl
  rw [hcn]
  clear h hr hrn hf hzs hcn hats hnxs hnx hal hnl hfr8
  go_enter Tryz.func54, Tryz.ntmps54
  go_wp2_with fail
  refine HIX.out.mono ?_
  rintro e w1 ⟨B, dB, rfl, hown, hB1⟩
  obtain ⟨_, _, e0, hBd', _, _, _⟩ := own_any hown
  have hdB : zs.length ≤ dB := by injection e0 with _ _ e3; omega
  have hP1 := H.out.pl.below hB1
  have HP1 := Lib.hid hP1
  have HOB := Lib.hid hown
  have hs1 := hB1.size
  clear hown hP1 e0
  go_wp2
  refine wp_region_noPanic ?_
  refine wp_region_last 6 (fun _ => True) (by kernel_rfl) trivial (fun hHeld => ?_)
  refine wpAnyL_take 12 (i := 0) (oi := ⟨some 9, _, _, _, _, _⟩) (v := ?_) rfl (by kernel_rfl) (by kernel_rfl) (by kernel_rfl) (by kernel_rfl) (by kernel_rfl) (by kernel_rfl) (by kernel_rfl) (fun _ _ _ h => h) (Or.inl ⟨by rfl, ?_⟩) hHeld ?_
  rotate_left
  focus (intro w hSw; (try dsimp only at hSw); go_simp; try (with_reducible rfl))
  try simp only [Act.put, List.setIfInBounds_toArray, List.set_cons_zero, List.set_cons_succ]
  refine wpAnyL_take 12 (i := 1) (oi := ⟨some 10, _, _, _, _, _⟩) (v := ?_) rfl (by kernel_rfl) (by kernel_rfl) (by kernel_rfl) (by kernel_rfl) (by kernel_rfl) (by kernel_rfl) (by kernel_rfl) (fun _ _ _ h => h) (Or.inl ⟨by rfl, ?_⟩) hHeld ?_
  rotate_left
  focus (intro w hSw; (try dsimp only at hSw); go_simp; try (with_reducible rfl))
  try simp only [Act.put, List.setIfInBounds_toArray, List.set_cons_zero, List.set_cons_succ]
  refine wpAnyL_take 12 (i := 2) (oi := ⟨some 11, _, _, _, _, _⟩) (v := ?_) rfl (by kernel_rfl) (by kernel_rfl) (by kernel_rfl) (by kernel_rfl) (by kernel_rfl) (by kernel_rfl) (by kernel_rfl) (fun _ _ _ h => h) (Or.inl ⟨by rfl, ?_⟩) hHeld ?_
  rotate_left
  focus (intro w hSw; (try dsimp only at hSw); go_simp; try (with_reducible rfl))
  try simp only [Act.put, List.setIfInBounds_toArray, List.set_cons_zero, List.set_cons_succ]
  refine wpAnyL_take 12 (i := 3) (oi := ⟨some 12, _, _, _, _, _⟩) (v := ?_) rfl (by kernel_rfl) (by kernel_rfl) (by kernel_rfl) (by kernel_rfl) (by kernel_rfl) (by kernel_rfl) (by kernel_rfl) (fun _ _ _ h => h) (Or.inl ⟨by rfl, ?_⟩) hHeld ?_
  rotate_left
  focus (intro w hSw; (try dsimp only at hSw); go_simp; try (with_reducible rfl))
  try simp only [Act.put, List.setIfInBounds_toArray, List.set_cons_zero, List.set_cons_succ]
  refine wpAnyL_take 12 (i := 4) (oi := ⟨some 13, _, _, _, _, _⟩) (v := ?_) rfl (by kernel_rfl) (by kernel_rfl) (by kernel_rfl) (by kernel_rfl) (by kernel_rfl) (by kernel_rfl) (by kernel_rfl) (fun _ _ _ h => h) (Or.inl ⟨by rfl, ?_⟩) hHeld ?_
  rotate_left
  focus (intro w hSw; (try dsimp only at hSw); go_simp; try (with_reducible rfl))
  try simp only [Act.put, List.setIfInBounds_toArray, List.set_cons_zero, List.set_cons_succ]
  refine wpAnyL_one (i := 5) (o := ⟨some 14, _, _, _, _, _⟩) (by kernel_rfl) rfl (fun K hK => ?_)
  clear hHeld
  go_simp
  refine (HCO.out _).mono ?_
  rintro e w2 ⟨rfl, rfl⟩
  go_wp2_with fail
  refine hK.out _ _ trivial (fun hHeld => ?_)
  clear hK K
  try simp only [Act.put, List.setIfInBounds_toArray, List.set_cons_zero, List.set_cons_succ]
  refine wpAnyL_last (i := 6) (o := ⟨some 15, _, _, _, _, _⟩) (by kernel_rfl) rfl (by kernel_rfl) (fun K hK => ?_)
  clear hHeld
  go_simp
  refine (take_ok2 X _ v l F fr d cn hno hfl hfd hfn _ (HP1.out.below (Below.refl _ _).drew) rfl (RdI.below H.out.free.int hB1.drew)).mono ?_
  rintro e w3 ⟨At, ac, rfl, F', d', hac, hAn, hoA, hpl3, hfd3, hFn3, hFr3, hFb3, hon3⟩
  go_wp2_with fail
  refine hK.out _ _ ?_
  clear hK K
  try simp only [Act.put, List.setIfInBounds_toArray, List.set_cons_zero, List.set_cons_succ]
  refine wpAnyL_takeW (i := 7) (oi := ⟨some 6, _, _, _, _, _⟩) (v := ?_) rfl (by kernel_rfl) (by kernel_rfl) (by kernel_rfl) (by kernel_rfl) (fun _ _ _ h => h) (Or.inl ⟨by rfl, ?_⟩) (.inl (by kernel_rfl)) ?_
  rotate_left
  focus (intro w hSw; (try dsimp only at hSw); go_simp; try (with_reducible rfl))
  try simp only [Act.put, List.setIfInBounds_toArray, List.set_cons_zero, List.set_cons_succ]
  refine wpAnyL_done (by kernel_rfl) ?_ _
  refine NoPanic.normal ?_
  have HP3 := Lib.hid hpl3
  have HOA := Lib.hid hoA
  have hs3 := hon3.size
  have hX3 : X < w3.heap.size := hpl3.blk.lt
  have hBd3 : Below w3.heap.size w3 w3.drew := (Below.refl _ _).drew
  have hwd : w1.drew.heap.size = w1.heap.size := rfl
  have HWR : Hid (∀ w6 g6 c6, Below w3.heap.size w3 w6 → w6.ownsRow w3.heap.size 3 1 (.slice (some ⟨g6, 0, none⟩) (cn - 1 + 1) c6) (cn - 1 + 1) (ints (ats.drop 1) ++ [.int .i64 0]) → Calls Tryz.prog 79 #[.pointer (some ⟨X, 1, none⟩), .slice B zs.length dB, .slice At cn ac, .slice (some ⟨g6, 0, none⟩) (cn - 1 + 1) c6] w6 fun e w' => e = .returned (.tuple #[]) ∧ ∃ v' new, Pl X 1 WT ([.slice F' (fr.drop cn).length d', v, .map (some mb)].set 1 v') v' w' (l ++ new) ∧ new.map Ac.st = (List.range cn).map (wact zs ats nxs) ∧ Only X WT w6 w') := Lib.hid fun w6 g6 c6 hB ho6 => by
    have hP6 := HP3.out.below hB
    have hb6 : w6.ownsRow w.heap.size 5 1 (.slice B zs.length dB) zs.length (zs.map (Value.int .u8)) := own_below3 (hon3.own (own_below3 HOB.out (Below.refl _ _).drew (Nat.le_refl _)) (by decide) (by decide)) hB (Nat.le_refl _)
    have ha6 : w6.ownsRow w1.drew.heap.size 3 1 (.slice At cn ac) cn (ints ats) := by
      have := own_below3 HOA.out hB (Nat.le_refl _)
      rw [HATS.out] at this
      exact this
    have hn6 : w6.ownsRow w3.heap.size 3 1 (.slice (some ⟨g6, 0, none⟩) (cn - 1 + 1) c6) (cn - 1 + 1) (ints nxs) := by
      have e : ints (ats.drop 1) ++ [.int .i64 0] = ints nxs := by rw [← HNXS.out, ints_snoc]
      rw [← e]
      exact ho6
    have hcn1 : cn - 1 + 1 = cn := by omega
    have := write_any_in X _ v l hll ⟨B, zs, dB⟩ (by show zs.length ≤ _; omega) hdB HZO.out At (some ⟨g6, 0, none⟩) ac c6 ats nxs (by rw [HAL.out]; exact HCN.out.symm) (by rw [HNL.out]; exact HCN.out.symm) HNX.out w6 hP6
      (fun W hW => RdB.of_row (hW.own hb6 (by decide) (by decide))) (fun W hW => RdI.of_row (hW.own ha6 (by decide) (by decide))) (fun W hW => RdI.of_row (hW.own hn6 (by decide) (by decide)))
    rw [HAL.out, HNL.out] at this
    rw [hcn1]
    simp only [HCN.out] at this
    exact this
  have HCPY : Hid (∀ A1 c1 W, (A1 = none → c1 = 0) → RdI W A1 (ats.drop 1) → Calls Tryz.prog 77 #[.slice A1 (cn - 1) c1] W fun e w' => ∃ v, e = .returned v ∧ w'.ownsRow W.heap.size 3 1 v (cn - 1) (ints (ats.drop 1)) ∧ Below W.heap.size W w') := Lib.hid fun A1 c1 W hA hr => copyI_any A1 (cn - 1) c1 (ats.drop 1) (by rw [List.length_drop, HAL.out]) hA (by omega) W hr
  have HRA : Hid (∀ W, Below w3.heap.size w3 W → RdI W At ats) := Lib.hid fun W hB => by
    have := RdI.of_row (own_below3 HOA.out hB (Nat.le_refl _))
    rw [HATS.out] at this
    exact this
  have HFIN : Hid (∀ w6 w7 v' new, Below w3.heap.size w3 w6 → Pl X 1 WT ([.slice F' (fr.drop cn).length d', v, .map (some mb)].set 1 v') v' w7 (l ++ new) → new.map Ac.st = (List.range cn).map (wact zs ats nxs) → Only X WT w6 w7 → IdxOk base X F fr mb n D os l zs w w7 At ac) := Lib.hid fun w6 w7 v' new hB6 hp7 hn7 ho7 => by
    have ho36 : Only X WT w3 w6 := Only.of_below hB6 (Nat.le_of_lt hX3)
    have ho1 : Only X WT w w1.drew := Only.of_below hB1.drew (Nat.le_of_lt hXl)
    have hoall := ((ho1.trans hon3).trans ho36).trans ho7
    refine ⟨F', d', v', new, ?_, by rw [HCN.out]; exact hac, ?_, ?_, hoall⟩
    · rw [HCN.out]
      refine own_base ((ho36.trans ho7).own HOA.out (by decide) (by decide)) ?_
      rw [hwd]; exact hs1
    · rw [HCN.out]
      exact H.out.move hp7 hoall (fun hu => hu.of_int hFr3 hFb3) hfd3 hFn3
    · rw [HCN.out, HATS.out, HNXS.out]
      exact hn7
  have HAC : Hid (At ≠ none) := Lib.hid fun e => by
    have h9 := HRA.out w3 (Below.refl _ _)
    rw [e] at h9
    obtain ⟨b, off, e2, _⟩ := h9 (by intro e3; have := congrArg List.length e3; simp [HAL.out] at this; omega)
    cases e2
  have hcni : (1 : Int) ≤ cn := by omega
  have haci : (1 : Int) ≤ ac := by omega
  have hcci : (cn : Int) ≤ ac := by omega
  clear hpl3 hoA
  by_cases hac1 : ac = 1
  · obtain rfl : cn = 1 := by omega
    subst hac1
    have hd0 : ats.drop 1 = [] := List.drop_eq_nil_of_le (by rw [HAL.out]; omega)
    have hr1 : ∀ W, RdI W At (ats.drop 1) := fun W => by rw [hd0]; exact RdI.nil _ _
    go_wp2
    refine wp_region_noPanic ?_
    refine wp_region_last 10 (fun _ => True) (by kernel_rfl) trivial (fun hHeld => ?_)
    refine wpAnyL_take 12 (i := 0) (oi := ⟨some 16, _, _, _, _, _⟩) (v := ?_) rfl (by kernel_rfl) (by kernel_rfl) (by kernel_rfl) (by kernel_rfl) (by kernel_rfl) (by kernel_rfl) (by kernel_rfl) (fun _ _ _ h => h) (Or.inl ⟨by rfl, ?_⟩) hHeld ?_
    rotate_left
    focus (intro w hSw; (try dsimp only at hSw); go_simp; try (with_reducible rfl))
    try simp only [Act.put, List.setIfInBounds_toArray, List.set_cons_zero, List.set_cons_succ]
    refine wpAnyL_take 12 (i := 1) (oi := ⟨some 17, _, _, _, _, _⟩) (v := ?_) rfl (by kernel_rfl) (by kernel_rfl) (by kernel_rfl) (by kernel_rfl) (by kernel_rfl) (by kernel_rfl) (by kernel_rfl) (fun _ _ _ h => h) (Or.inl ⟨by rfl, ?_⟩) hHeld ?_
    rotate_left
    focus (intro w hSw; (try dsimp only at hSw); go_simp; try (with_reducible rfl))
    try simp only [Act.put, List.setIfInBounds_toArray, List.set_cons_zero, List.set_cons_succ]
    refine wpAnyL_take 12 (i := 2) (oi := ⟨some 18, _, _, _, _, _⟩) (v := ?_) rfl (by kernel_rfl) (by kernel_rfl) (by kernel_rfl) (by kernel_rfl) (by kernel_rfl) (by kernel_rfl) (by kernel_rfl) (fun _ _ _ h => h) (Or.inl ⟨by rfl, ?_⟩) hHeld ?_
    rotate_left
    focus (intro w hSw; (try dsimp only at hSw); go_simp; try (with_reducible rfl))
    try simp only [Act.put, List.setIfInBounds_toArray, List.set_cons_zero, List.set_cons_succ]
    refine wpAnyL_take 12 (i := 3) (oi := ⟨some 19, _, _, _, _, _⟩) (v := ?_) rfl (by kernel_rfl) (by kernel_rfl) (by kernel_rfl) (by kernel_rfl) (by kernel_rfl) (by kernel_rfl) (by kernel_rfl) (fun _ _ _ h => h) (Or.inl ⟨by rfl, ?_⟩) hHeld ?_
    rotate_left
    focus (intro w hSw; (try dsimp only at hSw); go_simp; try (with_reducible rfl))
    try simp only [Act.put, List.setIfInBounds_toArray, List.set_cons_zero, List.set_cons_succ]
    refine wpAnyL_take 12 (i := 4) (oi := ⟨some 20, _, _, _, _, _⟩) (v := ?_) rfl (by kernel_rfl) (by kernel_rfl) (by kernel_rfl) (by kernel_rfl) (by kernel_rfl) (by kernel_rfl) (by kernel_rfl) (fun _ _ _ h => h) (Or.inl ⟨by rfl, ?_⟩) hHeld ?_
    rotate_left
    focus (intro w hSw; (try dsimp only at hSw); go_simp; try (with_reducible rfl))
    try simp only [Act.put, List.setIfInBounds_toArray, List.set_cons_zero, List.set_cons_succ]
    refine wpAnyL_take 12 (i := 5) (oi := ⟨some 21, _, _, _, _, _⟩) (v := ?_) rfl (by kernel_rfl) (by kernel_rfl) (by kernel_rfl) (by kernel_rfl) (by kernel_rfl) (by kernel_rfl) (by kernel_rfl) (fun _ _ _ h => h) (Or.inl ⟨by rfl, ?_⟩) hHeld ?_
    rotate_left
    focus (intro w hSw; (try dsimp only at hSw); go_simp; try (with_reducible rfl))
    try simp only [Act.put, List.setIfInBounds_toArray, List.set_cons_zero, List.set_cons_succ]
    refine wpAnyL_take 12 (i := 6) (oi := ⟨some 22, _, _, _, _, _⟩) (v := ?_) rfl (by kernel_rfl) (by kernel_rfl) (by kernel_rfl) (by kernel_rfl) (by kernel_rfl) (by kernel_rfl) (by kernel_rfl) (fun _ _ _ h => h) (Or.inl ⟨by rfl, ?_⟩) hHeld ?_
    rotate_left
    focus (intro w hSw; (try dsimp only at hSw); go_simp; try (with_reducible rfl))
    try simp only [Act.put, List.setIfInBounds_toArray, List.set_cons_zero, List.set_cons_succ]
    refine wpAnyL_two (i := 7) (k := 8) (o := ⟨some 23, _, _, _, _, _⟩) (p := ⟨some 24, _, _, _, _, _⟩) (by kernel_rfl) rfl rfl (fun K hK => ?_) (fun K hK => ?_)
    focus
      clear hHeld
      go_simp
      refine (HCPY.out At 0 _ (fun _ => rfl) (hr1 _)).mono ?_
      rintro e w4 ⟨u4, rfl, ho4, hB4⟩
      have hB34 : Below w3.heap.size w3 w4 := hBd3.trans hB4
      go_wp2_with fail
      refine hK.out _ _ trivial (fun hHeld => ?_)
      clear hK K
      try simp only [Act.put, List.setIfInBounds_toArray, List.set_cons_zero, List.set_cons_succ]
      refine wpAnyL_one (i := 8) (o := ⟨some 24, _, _, _, _, _⟩) (by kernel_rfl) rfl (fun K hK => ?_)
      clear hHeld
      go_simp
      have hB5 : Below w3.heap.size w3 (w4.alloc (.cells #[.int .i64 0] 3)) := hB34.alloc hB34.size _
      have HO5 := Lib.hid (own_below ho4 ((Below.refl _ _).alloc (Nat.le_refl _) (.cells #[.int .i64 0] 3)) (Nat.le_refl _))
      have HN5 := Lib.hid (news_new w4 [Value.int .i64 0] 3)
      have hW5s : w3.heap.size ≤ (w4.alloc (.cells #[.int .i64 0] 3)).heap.size := hB5.size
      go_wp2_with fail
      refine hK.out _ _ trivial (fun hHeld => ?_)
      clear hK K
      try simp only [Act.put, List.setIfInBounds_toArray, List.set_cons_zero, List.set_cons_succ]
      refine wpAnyL_one (i := 9) (o := ⟨some 25, _, _, _, _, _⟩) (by kernel_rfl) rfl (fun K hK => ?_)
      clear hHeld
      refine step_append_lies (o := ⟨some 25, _, _, _, _, _⟩) _ (by rfl) _ _ 30 (by rfl) w3.heap.size 3 i0 (.int .i64 0) 1 8 Tryz.underlying30 hi hz0 hz1 hz2 rfl (by omega) u4 0 (ints (ats.drop 1)) (by rfl) HO5.out ⟨w4.heap.size, 0, none⟩ 1 1 [.int .i64 0] (by rfl) rfl HN5.out (by simp [Value.oneCell']) (by omega) (by unfold maxLen; omega) (by omega) hW5s _ rfl ?_
      intro g6 c6 w6 ho6 hg6 hg6' hl6
      have hB6 : Below w3.heap.size w3 w6 := hB5.grown hg6 hW5s (fun j e => (HO5.out.lt j e).1)
      refine hK.out _ _ trivial (fun hHeld => ?_)
      clear hK K
      try simp only [Act.put, List.setIfInBounds_toArray, List.set_cons_zero, List.set_cons_succ]
      refine wpAnyL_last (i := 10) (o := ⟨some 26, _, _, _, _, _⟩) (by kernel_rfl) rfl (by kernel_rfl) (fun K hK => ?_)
      clear hHeld
      go_simp
      have HX := Lib.hid (HWR.out w6 g6 c6 hB6 ho6)
      refine HX.out.mono ?_
      rintro e w7 ⟨rfl, v', new, hp7, hn7, ho7⟩
      have HF7 := Lib.hid (HFIN.out w6 w7 v' new hB6 hp7 hn7 ho7)
      go_wp2_with fail
      refine hK.out _ _ ?_
      clear hK K
      try simp only [Act.put, List.setIfInBounds_toArray, List.set_cons_zero, List.set_cons_succ]
      refine wpAnyL_done (by kernel_rfl) ?_ _
      refine NoPanic.normal ?_
    rotate_left
    focus
      clear hHeld
      go_simp
      have hBa : Below w3.heap.size w3 (w3.drew.alloc (.cells #[.int .i64 0] 3)) := hBd3.alloc hBd3.size _
      go_wp2_with fail
      refine hK.out _ _ trivial (fun hHeld => ?_)
      clear hK K
      try simp only [Act.put, List.setIfInBounds_toArray, List.set_cons_zero, List.set_cons_succ]
      refine wpAnyL_one (i := 7) (o := ⟨some 23, _, _, _, _, _⟩) (by kernel_rfl) rfl (fun K hK => ?_)
      clear hHeld
      go_simp
      refine (HCPY.out At 0 _ (fun _ => rfl) (hr1 _)).mono ?_
      rintro e w4 ⟨u4, rfl, ho4, hB4⟩
      have hB5 : Below w3.heap.size w3 w4 := hBa.trans (hB4.mono hBa.size)
      have HO5 := Lib.hid (own_below ho4 (Below.refl _ _) hBa.size)
      have HN5 : Hid (∀ j u, [Value.int .i64 0][j]? = some u → w4.cell? (Addr.add ⟨w3.heap.size, 0, none⟩ j) = some u) := Lib.hid fun j u hu => (by rw [add_plain, Nat.zero_add]; exact (hB4.cell (p := ⟨w3.heap.size, j, none⟩) (by simp)).trans (((Blk.new w3.drew [Value.int .i64 0] 3).cell j).trans hu))
      have hW5s : w3.heap.size ≤ w4.heap.size := hB5.size
      go_wp2_with fail
      refine hK.out _ _ trivial (fun hHeld => ?_)
      clear hK K
      try simp only [Act.put, List.setIfInBounds_toArray, List.set_cons_zero, List.set_cons_succ]
      refine wpAnyL_one (i := 9) (o := ⟨some 25, _, _, _, _, _⟩) (by kernel_rfl) rfl (fun K hK => ?_)
      clear hHeld
      refine step_append_lies (o := ⟨some 25, _, _, _, _, _⟩) _ (by rfl) _ _ 30 (by rfl) w3.heap.size 3 i0 (.int .i64 0) 1 8 Tryz.underlying30 hi hz0 hz1 hz2 rfl (by omega) u4 0 (ints (ats.drop 1)) (by rfl) HO5.out ⟨w3.heap.size, 0, none⟩ 1 1 [.int .i64 0] (by rfl) rfl HN5.out (by simp [Value.oneCell']) (by omega) (by unfold maxLen; omega) (by omega) hW5s _ rfl ?_
      intro g6 c6 w6 ho6 hg6 hg6' hl6
      have hB6 : Below w3.heap.size w3 w6 := hB5.grown hg6 hW5s (fun j e => (HO5.out.lt j e).1)
      refine hK.out _ _ trivial (fun hHeld => ?_)
      clear hK K
      try simp only [Act.put, List.setIfInBounds_toArray, List.set_cons_zero, List.set_cons_succ]
      refine wpAnyL_last (i := 10) (o := ⟨some 26, _, _, _, _, _⟩) (by kernel_rfl) rfl (by kernel_rfl) (fun K hK => ?_)
      clear hHeld
      go_simp
      have HX := Lib.hid (HWR.out w6 g6 c6 hB6 ho6)
      refine HX.out.mono ?_
      rintro e w7 ⟨rfl, v', new, hp7, hn7, ho7⟩
      have HF7 := Lib.hid (HFIN.out w6 w7 v' new hB6 hp7 hn7 ho7)
      go_wp2_with fail
      refine hK.out _ _ ?_
      clear hK K
      try simp only [Act.put, List.setIfInBounds_toArray, List.set_cons_zero, List.set_cons_succ]
      refine wpAnyL_done (by kernel_rfl) ?_ _
      refine NoPanic.normal ?_
    rotate_left
    all_goals (go_wp2; go_ret; exact ⟨_, _, rfl, HF7.out⟩)
  · obtain ⟨ab, ao, rfl⟩ : ∃ b o, At = some ⟨b, o, none⟩ := by
      obtain ⟨b, off, e2, _⟩ := HRA.out w3 (Below.refl _ _) (by intro e3; have := congrArg List.length e3; simp [HAL.out] at this; omega)
      exact ⟨b, off, e2⟩
    have hr1 : ∀ W, Below w3.heap.size w3 W → RdI W (some ⟨ab, ao + 1, none⟩) (ats.drop 1) := fun W hB => rdI_dropAdd (HRA.out W hB) 1
    obtain ⟨m, rfl⟩ : ∃ m, cn = m + 1 := ⟨cn - 1, by omega⟩
    obtain ⟨q, rfl⟩ : ∃ q, ac = q + 1 := ⟨ac - 1, by omega⟩
    have hq0 : ¬ q = 0 := by omega
    have h1m : (1 : Int) ≤ (m : Int) + 1 := by omega
    have h1q : (1 : Int) ≤ (q : Int) + 1 := by omega
    have hmq : m ≤ q := by omega
    simp only [Nat.add_sub_cancel] at HWR HCPY
    go_wp2
    refine wp_region_noPanic ?_
    refine wp_region_last 10 (fun _ => True) (by kernel_rfl) trivial (fun hHeld => ?_)
    refine wpAnyL_take 12 (i := 0) (oi := ⟨some 16, _, _, _, _, _⟩) (v := ?_) rfl (by kernel_rfl) (by kernel_rfl) (by kernel_rfl) (by kernel_rfl) (by kernel_rfl) (by kernel_rfl) (by kernel_rfl) (fun _ _ _ h => h) (Or.inl ⟨by rfl, ?_⟩) hHeld ?_
    rotate_left
    focus (intro w hSw; (try dsimp only at hSw); go_simp; try (with_reducible rfl))
    try simp only [Act.put, List.setIfInBounds_toArray, List.set_cons_zero, List.set_cons_succ]
    refine wpAnyL_take 12 (i := 1) (oi := ⟨some 17, _, _, _, _, _⟩) (v := ?_) rfl (by kernel_rfl) (by kernel_rfl) (by kernel_rfl) (by kernel_rfl) (by kernel_rfl) (by kernel_rfl) (by kernel_rfl) (fun _ _ _ h => h) (Or.inl ⟨by rfl, ?_⟩) hHeld ?_
    rotate_left
    focus (intro w hSw; (try dsimp only at hSw); go_simp; try (with_reducible rfl))
    try simp only [Act.put, List.setIfInBounds_toArray, List.set_cons_zero, List.set_cons_succ]
    refine wpAnyL_take 12 (i := 2) (oi := ⟨some 18, _, _, _, _, _⟩) (v := ?_) rfl (by kernel_rfl) (by kernel_rfl) (by kernel_rfl) (by kernel_rfl) (by kernel_rfl) (by kernel_rfl) (by kernel_rfl) (fun _ _ _ h => h) (Or.inl ⟨by rfl, ?_⟩) hHeld ?_
    rotate_left
    focus (intro w hSw; (try dsimp only at hSw); go_simp; try (with_reducible rfl))
    try simp only [Act.put, List.setIfInBounds_toArray, List.set_cons_zero, List.set_cons_succ]
    refine wpAnyL_take 12 (i := 3) (oi := ⟨some 19, _, _, _, _, _⟩) (v := ?_) rfl (by kernel_rfl) (by kernel_rfl) (by kernel_rfl) (by kernel_rfl) (by kernel_rfl) (by kernel_rfl) (by kernel_rfl) (fun _ _ _ h => h) (Or.inl ⟨by rfl, ?_⟩) hHeld ?_
    rotate_left
    focus (intro w hSw; (try dsimp only at hSw); go_simp; try (with_reducible rfl))
    try simp only [Act.put, List.setIfInBounds_toArray, List.set_cons_zero, List.set_cons_succ]
    refine wpAnyL_take 12 (i := 4) (oi := ⟨some 20, _, _, _, _, _⟩) (v := ?_) rfl (by kernel_rfl) (by kernel_rfl) (by kernel_rfl) (by kernel_rfl) (by kernel_rfl) (by kernel_rfl) (by kernel_rfl) (fun _ _ _ h => h) (Or.inl ⟨by rfl, ?_⟩) hHeld ?_
    rotate_left
    focus (intro w hSw; (try dsimp only at hSw); go_simp; try (with_reducible rfl))
    try simp only [Act.put, List.setIfInBounds_toArray, List.set_cons_zero, List.set_cons_succ]
    refine wpAnyL_take 12 (i := 5) (oi := ⟨some 21, _, _, _, _, _⟩) (v := ?_) rfl (by kernel_rfl) (by kernel_rfl) (by kernel_rfl) (by kernel_rfl) (by kernel_rfl) (by kernel_rfl) (by kernel_rfl) (fun _ _ _ h => h) (Or.inl ⟨by rfl, ?_⟩) hHeld ?_
    rotate_left
    focus (intro w hSw; (try dsimp only at hSw); go_simp; try (with_reducible rfl))
    try simp only [Act.put, List.setIfInBounds_toArray, List.set_cons_zero, List.set_cons_succ]
    refine wpAnyL_take 12 (i := 6) (oi := ⟨some 22, _, _, _, _, _⟩) (v := ?_) rfl (by kernel_rfl) (by kernel_rfl) (by kernel_rfl) (by kernel_rfl) (by kernel_rfl) (by kernel_rfl) (by kernel_rfl) (fun _ _ _ h => h) (Or.inl ⟨by rfl, ?_⟩) hHeld ?_
    rotate_left
    focus (intro w hSw; (try dsimp only at hSw); go_simp; try (with_reducible rfl))
    try simp only [Act.put, List.setIfInBounds_toArray, List.set_cons_zero, List.set_cons_succ]
    refine wpAnyL_two (i := 7) (k := 8) (o := ⟨some 23, _, _, _, _, _⟩) (p := ⟨some 24, _, _, _, _, _⟩) (by kernel_rfl) rfl rfl (fun K hK => ?_) (fun K hK => ?_)
    focus
      clear hHeld
      go_simp
      refine (HCPY.out (some ⟨ab, ao + 1, none⟩) q _ (fun e => by cases e) (hr1 _ hBd3)).mono ?_
      rintro e w4 ⟨u4, rfl, ho4, hB4⟩
      have hB34 : Below w3.heap.size w3 w4 := hBd3.trans hB4
      go_wp2_with fail
      refine hK.out _ _ trivial (fun hHeld => ?_)
      clear hK K
      try simp only [Act.put, List.setIfInBounds_toArray, List.set_cons_zero, List.set_cons_succ]
      refine wpAnyL_one (i := 8) (o := ⟨some 24, _, _, _, _, _⟩) (by kernel_rfl) rfl (fun K hK => ?_)
      clear hHeld
      go_simp
      have hB5 : Below w3.heap.size w3 (w4.alloc (.cells #[.int .i64 0] 3)) := hB34.alloc hB34.size _
      have HO5 := Lib.hid (own_below ho4 ((Below.refl _ _).alloc (Nat.le_refl _) (.cells #[.int .i64 0] 3)) (Nat.le_refl _))
      have HN5 := Lib.hid (news_new w4 [Value.int .i64 0] 3)
      have hW5s : w3.heap.size ≤ (w4.alloc (.cells #[.int .i64 0] 3)).heap.size := hB5.size
      go_wp2_with fail
      refine hK.out _ _ trivial (fun hHeld => ?_)
      clear hK K
      try simp only [Act.put, List.setIfInBounds_toArray, List.set_cons_zero, List.set_cons_succ]
      refine wpAnyL_one (i := 9) (o := ⟨some 25, _, _, _, _, _⟩) (by kernel_rfl) rfl (fun K hK => ?_)
      clear hHeld
      refine step_append_lies (o := ⟨some 25, _, _, _, _, _⟩) _ (by rfl) _ _ 30 (by rfl) w3.heap.size 3 i0 (.int .i64 0) 1 8 Tryz.underlying30 hi hz0 hz1 hz2 rfl (by omega) u4 m (ints (ats.drop 1)) (by rfl) HO5.out ⟨w4.heap.size, 0, none⟩ 1 1 [.int .i64 0] (by rfl) rfl HN5.out (by simp [Value.oneCell']) (by omega) (by unfold maxLen; omega) (by omega) hW5s _ rfl ?_
      intro g6 c6 w6 ho6 hg6 hg6' hl6
      have hB6 : Below w3.heap.size w3 w6 := hB5.grown hg6 hW5s (fun j e => (HO5.out.lt j e).1)
      refine hK.out _ _ trivial (fun hHeld => ?_)
      clear hK K
      try simp only [Act.put, List.setIfInBounds_toArray, List.set_cons_zero, List.set_cons_succ]
      refine wpAnyL_last (i := 10) (o := ⟨some 26, _, _, _, _, _⟩) (by kernel_rfl) rfl (by kernel_rfl) (fun K hK => ?_)
      clear hHeld
      go_simp
      have HX := Lib.hid (HWR.out w6 g6 c6 hB6 ho6)
      refine HX.out.mono ?_
      rintro e w7 ⟨rfl, v', new, hp7, hn7, ho7⟩
      have HF7 := Lib.hid (HFIN.out w6 w7 v' new hB6 hp7 hn7 ho7)
      go_wp2_with fail
      refine hK.out _ _ ?_
      clear hK K
      try simp only [Act.put, List.setIfInBounds_toArray, List.set_cons_zero, List.set_cons_succ]
      refine wpAnyL_done (by kernel_rfl) ?_ _
      refine NoPanic.normal ?_
    rotate_left
    focus
      clear hHeld
      go_simp
      have hBa : Below w3.heap.size w3 (w3.drew.alloc (.cells #[.int .i64 0] 3)) := hBd3.alloc hBd3.size _
      go_wp2_with fail
      refine hK.out _ _ trivial (fun hHeld => ?_)
      clear hK K
      try simp only [Act.put, List.setIfInBounds_toArray, List.set_cons_zero, List.set_cons_succ]
      refine wpAnyL_one (i := 7) (o := ⟨some 23, _, _, _, _, _⟩) (by kernel_rfl) rfl (fun K hK => ?_)
      clear hHeld
      go_simp
      refine (HCPY.out (some ⟨ab, ao + 1, none⟩) q _ (fun e => by cases e) (hr1 _ hBa)).mono ?_
      rintro e w4 ⟨u4, rfl, ho4, hB4⟩
      have hB5 : Below w3.heap.size w3 w4 := hBa.trans (hB4.mono hBa.size)
      have HO5 := Lib.hid (own_below ho4 (Below.refl _ _) hBa.size)
      have HN5 : Hid (∀ j u, [Value.int .i64 0][j]? = some u → w4.cell? (Addr.add ⟨w3.heap.size, 0, none⟩ j) = some u) := Lib.hid fun j u hu => (by rw [add_plain, Nat.zero_add]; exact (hB4.cell (p := ⟨w3.heap.size, j, none⟩) (by simp)).trans (((Blk.new w3.drew [Value.int .i64 0] 3).cell j).trans hu))
      have hW5s : w3.heap.size ≤ w4.heap.size := hB5.size
      go_wp2_with fail
      refine hK.out _ _ trivial (fun hHeld => ?_)
      clear hK K
      try simp only [Act.put, List.setIfInBounds_toArray, List.set_cons_zero, List.set_cons_succ]
      refine wpAnyL_one (i := 9) (o := ⟨some 25, _, _, _, _, _⟩) (by kernel_rfl) rfl (fun K hK => ?_)
      clear hHeld
      refine step_append_lies (o := ⟨some 25, _, _, _, _, _⟩) _ (by rfl) _ _ 30 (by rfl) w3.heap.size 3 i0 (.int .i64 0) 1 8 Tryz.underlying30 hi hz0 hz1 hz2 rfl (by omega) u4 m (ints (ats.drop 1)) (by rfl) HO5.out ⟨w3.heap.size, 0, none⟩ 1 1 [.int .i64 0] (by rfl) rfl HN5.out (by simp [Value.oneCell']) (by omega) (by unfold maxLen; omega) (by omega) hW5s _ rfl ?_
      intro g6 c6 w6 ho6 hg6 hg6' hl6
      have hB6 : Below w3.heap.size w3 w6 := hB5.grown hg6 hW5s (fun j e => (HO5.out.lt j e).1)
      refine hK.out _ _ trivial (fun hHeld => ?_)
      clear hK K
      try simp only [Act.put, List.setIfInBounds_toArray, List.set_cons_zero, List.set_cons_succ]
      refine wpAnyL_last (i := 10) (o := ⟨some 26, _, _, _, _, _⟩) (by kernel_rfl) rfl (by kernel_rfl) (fun K hK => ?_)
      clear hHeld
      go_simp
      have HX := Lib.hid (HWR.out w6 g6 c6 hB6 ho6)
      refine HX.out.mono ?_
      rintro e w7 ⟨rfl, v', new, hp7, hn7, ho7⟩
      have HF7 := Lib.hid (HFIN.out w6 w7 v' new hB6 hp7 hn7 ho7)
      go_wp2_with fail
      refine hK.out _ _ ?_
      clear hK K
      try simp only [Act.put, List.setIfInBounds_toArray, List.set_cons_zero, List.set_cons_succ]
      refine wpAnyL_done (by kernel_rfl) ?_ _
      refine NoPanic.normal ?_
    rotate_left
    all_goals (go_wp2; go_ret; exact ⟨_, _, rfl, HF7.out⟩)

end Go.Proofs.YtfeeejigedndcaaGreat

namespace Go.Proofs.YtfeeejigedndcaaGreat
open Go.ChangeShapes Go.WideShapes Go.ChangeAt Go.RowKit Go.Maps
set_option maxRecDepth 100000

theorem clone2_any (s : ByteArray) (hs : s.size ≤ 281474976710656) (w : World) :
    Calls Tryz.prog 75 #[.string s] w fun e w' => e = .returned (.string s) ∧ Below w.heap.size w w' := by
  have HC := Lib.hid (Tryz.stringslite_Clone s w hs)
  go_enter Tryz.func75, Tryz.ntmps75
  go_wp2_with fail
  refine HC.out.mono ?_
  rintro e w1 ⟨rfl, hB⟩
  go_wp2
  go_ret
  exact ⟨rfl, hB⟩

/-- What object leaves: the object as it is laid. -/
def ObjOk (base X : Nat) (fr : List Int) (mb n : Nat) (D : Dv2) (os : List Ob) (l : List Ac) (x : Ob) (w w' : World) (y : Ob) : Prop :=
  y.key = x.key ∧ y.d.zs = x.d.zs ∧ w'.ownsRow w.heap.size 5 1 y.d.val y.d.zs.length (octCells y.d.zs) ∧ w'.ownsRow w.heap.size 3 1 (.slice y.B y.ns.length y.e) y.ns.length (ints y.ns) ∧
  ∃ F' fr' d' v' new, WrAt base X w' F' fr' d' mb n D os v' (l ++ new) ∧ Only X WT w w' ∧
    ((∃ o ∈ os, o.key = x.key ∧ o.d.zs = x.d.zs ∧ y.ns = o.ns ∧ fr' = fr ∧ new = []) ∨
     ((∀ o ∈ os, o.key = x.key → o.d.zs ≠ x.d.zs) ∧ cntN x.d.zs.length ≤ fr.length ∧ y.ns = fr.take (cntN x.d.zs.length) ∧ fr' = fr.drop (cntN x.d.zs.length) ∧ new.map Ac.st = (List.range (cntN x.d.zs.length)).map (wact x.d.zs y.ns (List.replicate (cntN x.d.zs.length) 0))))
/-- There is no room for it. -/
def ObjNo (fr : List Int) (os : List Ob) (x : Ob) : Prop := (∀ o ∈ os, o.key = x.key → o.d.zs ≠ x.d.zs) ∧ fr.length < cntN x.d.zs.length
/-- What is known of an object that is there. -/
structure OldOb (X : Nat) (w : World) (o : Ob) : Prop where
  d : RdU X w o.d.A (octCells o.d.zs)
  n : RdU X w o.B (ints o.ns)
  octs : Octs o.d.zs
  nl : o.ns.length ≤ 1048576
  en : o.B = none → o.e = 0

theorem set4_heap (w : World) (Y R : Nat) (a b c e : Value) : ∀ k, k ≠ Y → k ≠ R → ((((w.setCell ⟨Y, 2, none⟩ a).setCell ⟨R, 0, none⟩ b).setCell ⟨R, 1, none⟩ c).setCell ⟨R, 2, none⟩ e).heap[k]? = w.heap[k]? := fun k h1 h2 => by
  simp only [World.setCell, Array.getElem?_modify]
  rw [if_neg (Ne.symm h2), if_neg (Ne.symm h2), if_neg (Ne.symm h2), if_neg (Ne.symm h1)]
theorem set4_below (w : World) (n Y R : Nat) (a b c e : Value) (h1 : n ≤ Y) (h2 : n ≤ R) : Below n w ((((w.setCell ⟨Y, 2, none⟩ a).setCell ⟨R, 0, none⟩ b).setCell ⟨R, 1, none⟩ c).setCell ⟨R, 2, none⟩ e) :=
  ((((Below.refl n w).setCell (p := ⟨Y, 2, none⟩) h1 _).setCell (p := ⟨R, 0, none⟩) h2 _).setCell (p := ⟨R, 1, none⟩) h2 _).setCell (p := ⟨R, 2, none⟩) h2 _

theorem Only.setNew {X : Nat} {T : TypeId} {w W : World} (h : Only X T w W) {Y : Nat} (hX : X < w.heap.size) (hY : w.heap.size ≤ Y) (j : Nat) (u : Value) : Only X T w (W.setCell ⟨Y, j, none⟩ u) :=
  ⟨h.below.setCell (p := ⟨Y, j, none⟩) (by simp; omega) _, fun k cur t z hk h1 h2 => by
    have hkl := (Array.getElem?_eq_some_iff.1 hk).1
    rw [← h.other k cur t z hk h1 h2]
    simp only [World.setCell, Array.getElem?_modify]
    rw [if_neg (by omega)]⟩
theorem set_heap (W : World) (Y j : Nat) (u : Value) : ∀ k, k ≠ Y → (W.setCell ⟨Y, j, none⟩ u).heap[k]? = W.heap[k]? := fun k h => by
  simp only [World.setCell, Array.getElem?_modify]
  rw [if_neg (Ne.symm h)]
theorem own_setFar {W : World} {Y j : Nat} {u : Value} {t : TypeId} {us : List Value} (hY : Blk W Y t us) {base size k : Nat} {e : TypeId} {v : Value} {xs : List Value} (h : W.ownsRow base e size v k xs) (he : t ≠ e) : (W.setCell ⟨Y, j, none⟩ u).ownsRow base e size v k xs :=
  own_stay h fun b hb => set_heap W Y j u b fun e' => blk_apart hY h he (e' ▸ hb)
theorem Pl.setFar {X j i Y : Nat} {T t : TypeId} {vs us : List Value} {v u : Value} {W : World} {l : List Ac} (h : Pl X j T vs v W l) (hY : Blk W Y t us) (h1 : t ≠ T) (h2 : t ≠ 82) (h3 : t ≠ 5) : Pl X j T vs v (W.setCell ⟨Y, i, none⟩ u) l := by
  have hne : X ≠ Y := fun e => by
    subst e
    have := h.blk.symm.trans hY
    simp at this
    exact h1 this.2.symm
  exact ⟨(set_heap W Y i u X hne).trans h.blk, h.at_, own_setFar hY h.row h2, fun a ha => own_setFar hY (h.data a ha) h3⟩
theorem rd_blk {W : World} {g : Nat} {t : TypeId} {vs : List Value} (h : Blk W g t vs) : Rd W (some ⟨g, 0, none⟩) vs := fun _ => ⟨g, 0, rfl, h.lt, fun j u hu => by rw [Nat.zero_add]; exact (h.cell j).trans hu⟩
theorem key_one {os : List Ob} (hks : os.Pairwise fun a b => a.key ≠ b.key) {a b : Ob} (ha : a ∈ os) (hb : b ∈ os) (h : a.key = b.key) : a = b := by
  obtain ⟨i, hi, rfl⟩ := List.getElem_of_mem ha
  obtain ⟨j, hj, rfl⟩ := List.getElem_of_mem hb
  rcases Nat.lt_trichotomy i j with hij | rfl | hij
  · exact absurd h (List.pairwise_iff_getElem.1 hks i j hi hj hij)
  · rfl
  · exact absurd h.symm (List.pairwise_iff_getElem.1 hks j i hj hi hij)

theorem Pl.set3 {X j R : Nat} {T t : TypeId} {vs : List Value} {v a b c a' b' c' : Value} {W : World} {l : List Ac} (h : Pl X j T vs v W l) (hR : Blk W R t [a, b, c]) (h1 : t ≠ T) (h2 : t ≠ 82) (h3 : t ≠ 5) : Pl X j T vs v (((W.setCell ⟨R, 0, none⟩ a').setCell ⟨R, 1, none⟩ b').setCell ⟨R, 2, none⟩ c') l :=
  ((h.setFar (i := 0) (u := a') hR h1 h2 h3).setFar (i := 1) (u := b') (hR.set 0 a') h1 h2 h3).setFar (i := 2) (u := c') ((hR.set 0 a').set 1 b') h1 h2 h3
theorem own_set3 {R : Nat} {t : TypeId} {a b c a' b' c' : Value} {W : World} (hR : Blk W R t [a, b, c]) {base size k : Nat} {e : TypeId} {v : Value} {xs : List Value} (h : W.ownsRow base e size v k xs) (he : t ≠ e) : (((W.setCell ⟨R, 0, none⟩ a').setCell ⟨R, 1, none⟩ b').setCell ⟨R, 2, none⟩ c').ownsRow base e size v k xs :=
  own_setFar ((hR.set 0 a').set 1 b') (own_setFar (hR.set 0 a') (own_setFar hR h he) he) he

set_option maxHeartbeats 4000000 in
theorem object_any (base X : Nat) (F : Option Addr) (fr : List Int) (d mb n : Nat) (D : Dv2) (os : List Ob) (v : Value) (l : List Ac) (hll : l.length ≤ 900000000) (hfl : fr.length ≤ 1048576) (x : Ob) (hk : x.key.size ≤ 96) (hdl : x.d.zs.length ≤ 65536) (hdc : x.d.zs.length ≤ x.d.c) (hdn : x.d.A = none → x.d.c = 0) (hxo : Octs x.d.zs)
    (w : World) (h : WrAt base X w F fr d mb n D os v l) (hxU : RdU X w x.d.A (octCells x.d.zs)) (hos : ∀ o ∈ os, OldOb X w o) (hks : os.Pairwise fun a b => a.key ≠ b.key) :
    Calls Tryz.prog 53 #[.pointer (some ⟨X, 0, none⟩), x.val] w fun e w' => (∃ y : Ob, e = .returned y.val ∧ ObjOk base X fr mb n D os l x w w' y) ∨ (e = flt 17 ∧ ObjNo fr os x ∧ Below w.heap.size w w') := by
  have hX := h.pl.blk.lt
  have hxr : RdB w x.d.A x.d.zs := hxU.rd
  obtain ⟨vL, hsL, hrunL, hwayL⟩ := map_look h.mp h.mis (k := x.key) (by unfold maxLen; omega)
  have HLK : Hid (∀ W, Below X w W → (Instr.lookup 109 (.map (some mb)) (.string x.key) true).run Tryz.prog W = .ok (.tuple #[vL, .bool hsL]) W) := Lib.hid fun W hB => by
    obtain ⟨v2, hs2, hrun2, hway2⟩ := map_look (own_map_block h.mp (hB.block mb h.mlt)) h.mis (k := x.key) (by unfold maxLen; omega)
    rw [hrun2]
    rcases hwayL with ⟨rfl, o, ho, hko, rfl⟩ | ⟨rfl, hno, rfl⟩ <;> rcases hway2 with ⟨rfl, o2, ho2, hko2, rfl⟩ | ⟨rfl, hno2, rfl⟩
    · have e1 := h.mis.2.2.1 o ho
      have e2 := h.mis.2.2.1 o2 ho2
      rw [hko] at e1
      rw [hko2] at e2
      have e3 : o2.val = o.val := by
        have := e2.symm.trans e1
        injection this
      rw [e3]
    · exact absurd hko (hno2 o ho)
    · exact absurd hko2 (hno o2 ho2)
    · rfl
  have H := Lib.hid h
  have HOS := Lib.hid hos
  have HKS := Lib.hid hks
  have HXU := Lib.hid hxU
  have HWAY := Lib.hid hwayL
  clear h hos hxU hrunL hwayL hks
  have HCL := Lib.hid (fun w => clone2_any x.key (by omega) w)
  have HCP : Hid (∀ W, Below w.heap.size w W → Calls Tryz.prog 45 #[.slice x.d.A x.d.zs.length x.d.c] W fun e w' => ∃ v, e = .returned v ∧ w'.ownsRow W.heap.size 5 1 v x.d.zs.length (octCells x.d.zs) ∧ Below W.heap.size W w') := Lib.hid fun W hB => copyB_any x.d.A x.d.zs.length x.d.c x.d.zs rfl hdn (by omega) W (hxr.below hB)
  obtain ⟨key, ⟨dA, zs, dc⟩, oB, ns, oe⟩ := x
  dsimp only at *
  obtain ⟨w1, hw1⟩ : ∃ w1, (w.alloc (.cells #[.string key, .slice dA zs.length dc, .slice oB ns.length oe] 58)).alloc (.cells #[.string ⟨#[]⟩, .slice none 0 0, .slice none 0 0] 58) = w1 := ⟨_, rfl⟩
  have e1 : w1 = allocs w [([.string key, .slice dA zs.length dc, .slice oB ns.length oe], 58), ([.string ⟨#[]⟩, .slice none 0 0, .slice none 0 0], 58)] := by rw [← hw1]; rfl
  have hB1 : Below w.heap.size w w1 := by rw [e1]; exact allocs_below _ _
  have k0 : Blk w1 w.heap.size 58 [.string key, .slice dA zs.length dc, .slice oB ns.length oe] := by rw [e1]; exact allocs_blk _ w 0 rfl
  have k1 : Blk w1 (w.heap.size + 1) 58 [.string ⟨#[]⟩, .slice none 0 0, .slice none 0 0] := by rw [e1]; exact allocs_blk _ w 1 rfl
  have HK0 := Lib.hid k0
  have HK1 := Lib.hid k1
  have HW1 := Lib.hid hw1
  have hlt1 := k1.lt
  have hS0 : Hid (∀ W, Below w1.heap.size w1 W → W.cell? ⟨w.heap.size, 0, none⟩ = some (.string key) ∧ W.cell? ⟨w.heap.size, 1, none⟩ = some (.slice dA zs.length dc) ∧ W.cell? ⟨w.heap.size, 2, none⟩ = some (.slice oB ns.length oe)) := Lib.hid fun W hB => blk3' (HK0.out.below hB HK0.out.lt)
  clear e1 k0 k1 hw1 hxr
  go_enter Tryz.func53, Tryz.ntmps53
  go_upto_region 1 with fail
  rw [HW1.out]
  refine wp_region_noPanic ?_
  refine wp_region_last 8 (fun W => W.cell? ⟨w.heap.size, 0, none⟩ = some (.string key) ∧ W.cell? ⟨w.heap.size, 1, none⟩ = some (.slice dA zs.length dc) ∧ W.cell? ⟨w.heap.size, 2, none⟩ = some (.slice oB ns.length oe)) (by kernel_rfl) (hS0.out _ (Below.refl _ _).drew) (fun hHeld => ?_)
  refine wpAnyL_take 16 (i := 0) (oi := ⟨some 8, _, _, _, _, _⟩) (v := ?_) rfl (by kernel_rfl) (by kernel_rfl) (by kernel_rfl) (by kernel_rfl) (by kernel_rfl) (by kernel_rfl) (by kernel_rfl) (fun _ _ _ h => h) (Or.inl ⟨by rfl, ?_⟩) hHeld ?_
  rotate_left
  focus (intro w hSw; (try dsimp only at hSw); go_simp; try (with_reducible rfl))
  try simp only [Act.put, List.setIfInBounds_toArray, List.set_cons_zero, List.set_cons_succ]
  refine wpAnyL_take 16 (i := 1) (oi := ⟨some 9, _, _, _, _, _⟩) (v := ?_) rfl (by kernel_rfl) (by kernel_rfl) (by kernel_rfl) (by kernel_rfl) (by kernel_rfl) (by kernel_rfl) (by kernel_rfl) (fun _ _ _ h => h) (Or.inl ⟨by rfl, ?_⟩) hHeld ?_
  rotate_left
  focus (intro w hSw; (try dsimp only at hSw); go_simp; try (with_reducible rfl))
  try simp only [Act.put, List.setIfInBounds_toArray, List.set_cons_zero, List.set_cons_succ]
  refine wpAnyL_take 16 (i := 3) (oi := ⟨some 11, _, _, _, _, _⟩) (v := ?_) rfl (by kernel_rfl) (by kernel_rfl) (by kernel_rfl) (by kernel_rfl) (by kernel_rfl) (by kernel_rfl) (by kernel_rfl) (fun _ _ _ h => h) (Or.inl ⟨by rfl, ?_⟩) hHeld ?_
  rotate_left
  focus (intro w hSw; (try dsimp only at hSw); go_simp; try (with_reducible rfl))
  try simp only [Act.put, List.setIfInBounds_toArray, List.set_cons_zero, List.set_cons_succ]
  refine wpAnyL_take 16 (i := 4) (oi := ⟨some 12, _, _, _, _, _⟩) (v := ?_) rfl (by kernel_rfl) (by kernel_rfl) (by kernel_rfl) (by kernel_rfl) (by kernel_rfl) (by kernel_rfl) (by kernel_rfl) (fun _ _ _ h => h) (Or.inl ⟨by rfl, ?_⟩) hHeld ?_
  rotate_left
  focus (intro w hSw; (try dsimp only at hSw); go_simp; try (with_reducible rfl))
  try simp only [Act.put, List.setIfInBounds_toArray, List.set_cons_zero, List.set_cons_succ]
  clear hHeld
  refine wpAnyL_facts 16 4 1 [(2, 10), (5, 13), (6, 14), (7, 5)] (fun s v w => match s with
    | 10 => v = .string key
    | 13 => ∃ A c, v = .slice A zs.length c ∧ w.ownsRow w1.heap.size 5 1 (.slice A zs.length c) zs.length (octCells zs)
    | 14 => ∃ A c, v = obval key A zs.length c none 0 0 ∧ w.ownsRow w1.heap.size 5 1 (.slice A zs.length c) zs.length (octCells zs)
    | 5 => ∃ Y, v = .pointer (some ⟨Y, 0, none⟩) ∧ w1.heap.size ≤ Y ∧ Blk w Y 58 [.string ⟨#[]⟩, .slice none 0 0, .slice none 0 0]
    | _ => True) (fun w w' => Below w.heap.size w w') (by kernel_rfl) (by kernel_rfl) (fun w w' h h' => h.trans (h'.mono h.size)) ⟨?_, ?_, ?_, ?_, trivial⟩ (fun W h => hS0.out W ((Below.refl _ _).drew.trans h)) ⟨?_, ?_, ?_, ?_, trivial⟩ ?_
  focus
    intro v w w' h hB
    exact h
  focus
    intro v w w' h hB
    exact (by obtain ⟨A, c, e, hb⟩ := h; exact ⟨A, c, e, own_below hb hB (Nat.le_refl _)⟩)
  focus
    intro v w w' h hB
    exact (by obtain ⟨A, c, e, hb⟩ := h; exact ⟨A, c, e, own_below hb hB (Nat.le_refl _)⟩)
  focus
    intro v w w' h hB
    exact (by obtain ⟨X, e, hX, hb⟩ := h; exact ⟨X, e, hX, hb.below hB hb.lt⟩)
  focus
    intro vs w2 hBf hFf o ho K hK
    obtain rfl : (⟨some 10, _, _, _, _, _⟩ : Oper) = o := Option.some.inj ho
    clear ho
    (try simp only [fillL, List.foldl_cons, List.foldl_nil, Act.put, List.setIfInBounds_toArray, List.set_cons_zero, List.set_cons_succ] at hK ⊢)
    go_simp
    refine (HCL.out w2).mono ?_
    rintro e w3 ⟨rfl, hB3⟩
    refine hK.out _ _ ⟨rfl, hB3⟩
  focus
    intro vs w2 hBf hFf o ho K hK
    obtain rfl : (⟨some 13, _, _, _, _, _⟩ : Oper) = o := Option.some.inj ho
    clear ho
    (try simp only [fillL, List.foldl_cons, List.foldl_nil, Act.put, List.setIfInBounds_toArray, List.set_cons_zero, List.set_cons_succ] at hK ⊢)
    go_simp
    refine (HCP.out w2 (hB1.trans (((Below.refl _ _).drew.trans hBf).mono hB1.size))).mono ?_
    rintro e w3 ⟨u, rfl, hown, hB3⟩
    obtain ⟨A3, c3, rfl, _, _, _, _⟩ := own_any hown
    refine hK.out _ _ ⟨⟨A3, c3, rfl, own_below hown (Below.refl _ _) hBf.size⟩, hB3⟩
  focus
    intro vs w2 hBf hFf o ho K hK
    obtain rfl : (⟨some 14, _, _, _, _, _⟩ : Oper) = o := Option.some.inj ho
    clear ho
    (try simp only [fillL, List.foldl_cons, List.foldl_nil, Act.put, List.setIfInBounds_toArray, List.set_cons_zero, List.set_cons_succ] at hK ⊢)
    have e1 : vs 10 = .string key := (hFf (2, 10) (by simp) (by kernel_rfl))
    obtain ⟨A3, c3, e2, ho⟩ := (hFf (5, 13) (by simp) (by kernel_rfl))
    simp only [e1, e2] at hK ⊢
    go_simp
    refine hK.out _ _ ⟨⟨A3, c3, rfl, ho⟩, Below.refl _ _⟩
  focus
    intro vs w2 hBf hFf o ho K hK
    obtain rfl : (⟨some 5, _, _, _, _, _⟩ : Oper) = o := Option.some.inj ho
    clear ho
    (try simp only [fillL, List.foldl_cons, List.foldl_nil, Act.put, List.setIfInBounds_toArray, List.set_cons_zero, List.set_cons_succ] at hK ⊢)
    go_simp
    refine hK.out _ _ ⟨⟨_, rfl, hBf.size, Blk.new w2 [.string ⟨#[]⟩, .slice none 0 0, .slice none 0 0] 58⟩, (Below.refl _ _).alloc (Nat.le_refl _) _⟩
  intro vs w2 hBf hFf
  (try simp only [fillL, List.foldl_cons, List.foldl_nil, Act.put, List.setIfInBounds_toArray, List.set_cons_zero, List.set_cons_succ])
  obtain ⟨A3, c3, e3, ho3⟩ := (hFf (6, 14) (by simp))
  obtain ⟨Y, e4, hY, hKY⟩ := (hFf (7, 5) (by simp))
  simp only [e3, e4]
  obtain ⟨y0, y1, y2⟩ := blk3' hKY
  have q0 := hKY.frozen 0
  have q1 := hKY.frozen 1
  have q2 := hKY.frozen 2
  refine wpAnyL_last (i := 8) (o := ⟨none, _, _, _, _, _⟩) (by kernel_rfl) rfl (by kernel_rfl) (fun K hK => ?_)
  go_simp
  go_wp2_with fail
  refine hK.out _ _ ?_
  clear hK K
  try simp only [Act.put, List.setIfInBounds_toArray, List.set_cons_zero, List.set_cons_succ]
  refine wpAnyL_done (by kernel_rfl) ?_ _
  refine NoPanic.normal ?_
  have hB13 : Below w1.heap.size w1 w2 := (Below.refl _ _).drew.trans hBf
  have k3 := ((hKY.set 0 (.string key)).set 1 (.slice A3 zs.length c3)).set 2 (.slice none 0 0)
  have hB3 : Below w1.heap.size w1 (((w2.setCell ⟨Y, 0, none⟩ (.string key)).setCell ⟨Y, 1, none⟩ (.slice A3 zs.length c3)).setCell ⟨Y, 2, none⟩ (.slice none 0 0)) := ((hB13.setCell (p := ⟨Y, 0, none⟩) hY _).setCell (p := ⟨Y, 1, none⟩) hY _).setCell (p := ⟨Y, 2, none⟩) hY _
  have o3 := own_stay (W' := ((w2.setCell ⟨Y, 0, none⟩ (.string key)).setCell ⟨Y, 1, none⟩ (.slice A3 zs.length c3)).setCell ⟨Y, 2, none⟩ (.slice none 0 0)) ho3 (fun b hb => by
    have hne : b ≠ Y := fun e => blk_apart hKY ho3 (by decide) (e ▸ hb)
    simp only [World.setCell, Array.getElem?_modify]
    rw [if_neg (Ne.symm hne), if_neg (Ne.symm hne), if_neg (Ne.symm hne)])
  generalize hW3 : ((w2.setCell ⟨Y, 0, none⟩ (.string key)).setCell ⟨Y, 1, none⟩ (.slice A3 zs.length c3)).setCell ⟨Y, 2, none⟩ (.slice none 0 0) = w3 at *
  have HK3 : Hid (Blk w3 Y 58 [.string key, .slice A3 zs.length c3, .slice none 0 0]) := Lib.hid k3
  have HO3 := Lib.hid o3
  have hY3 := k3.lt
  have hB03 : Below w.heap.size w w3 := hB1.trans (hB3.mono hB1.size)
  clear k3 o3 hKY ho3 hBf hB13 y0 y1 y2 q0 q1 q2 e3 e4 hW3
  clear hFf
  have HS2 : Hid (∀ W, Below w1.heap.size w1 W → W.cell? ⟨X, 2, none⟩ = some (.map (some mb)) ∧ W.cell? ⟨w.heap.size, 0, none⟩ = some (.string key) ∧ (Instr.lookup 109 (.map (some mb)) (.string key) true).run Tryz.prog W = .ok (.tuple #[vL, .bool hsL]) W) := Lib.hid fun W hB => by
    have hBw := hB1.trans (hB.mono hB1.size)
    have hp := H.out.pl.below hBw
    exact ⟨hp.blk.cell 2, (hS0.out W hB).1, HLK.out W (hBw.mono (Nat.le_of_lt hX))⟩
  have hs3 := hB3.size
  rcases HWAY.out with ⟨rfl, o, ho, hko, rfl⟩ | ⟨rfl, hno, rfl⟩
  · have hold := HOS.out o ho
    obtain ⟨okey, ⟨oA, ozs, oc⟩, oB', ons, oe'⟩ := o
    dsimp only at hko hold HS2
    subst hko
    go_wp2
    refine wp_region_noPanic ?_
    refine wp_region_last 11 (fun W => W.cell? ⟨X, 2, none⟩ = some (.map (some mb)) ∧ W.cell? ⟨w.heap.size, 0, none⟩ = some (.string okey) ∧ (Instr.lookup 109 (.map (some mb)) (.string okey) true).run Tryz.prog W = .ok (.tuple #[obval okey oA ozs.length oc oB' ons.length oe', .bool true]) W) (by kernel_rfl) (HS2.out _ hB3.drew) (fun hHeld => ?_)
    refine wpAnyL_take 12 (i := 0) (oi := ⟨some 16, _, _, _, _, _⟩) (v := ?_) rfl (by kernel_rfl) (by kernel_rfl) (by kernel_rfl) (by kernel_rfl) (by kernel_rfl) (by kernel_rfl) (by kernel_rfl) (fun _ _ _ h => h) (Or.inl ⟨by rfl, ?_⟩) hHeld ?_
    rotate_left
    focus (intro w hSw; (try dsimp only at hSw); go_simp; try (with_reducible rfl))
    try simp only [Act.put, List.setIfInBounds_toArray, List.set_cons_zero, List.set_cons_succ]
    refine wpAnyL_take 12 (i := 1) (oi := ⟨some 17, _, _, _, _, _⟩) (v := ?_) rfl (by kernel_rfl) (by kernel_rfl) (by kernel_rfl) (by kernel_rfl) (by kernel_rfl) (by kernel_rfl) (by kernel_rfl) (fun _ _ _ h => h) (Or.inl ⟨by rfl, ?_⟩) hHeld ?_
    rotate_left
    focus (intro w hSw; (try dsimp only at hSw); go_simp; try (with_reducible rfl))
    try simp only [Act.put, List.setIfInBounds_toArray, List.set_cons_zero, List.set_cons_succ]
    refine wpAnyL_take 12 (i := 2) (oi := ⟨some 18, _, _, _, _, _⟩) (v := ?_) rfl (by kernel_rfl) (by kernel_rfl) (by kernel_rfl) (by kernel_rfl) (by kernel_rfl) (by kernel_rfl) (by kernel_rfl) (fun _ _ _ h => h) (Or.inl ⟨by rfl, ?_⟩) hHeld ?_
    rotate_left
    focus (intro w hSw; (try dsimp only at hSw); go_simp; try (with_reducible rfl))
    try simp only [Act.put, List.setIfInBounds_toArray, List.set_cons_zero, List.set_cons_succ]
    refine wpAnyL_take 12 (i := 3) (oi := ⟨some 19, _, _, _, _, _⟩) (v := ?_) rfl (by kernel_rfl) (by kernel_rfl) (by kernel_rfl) (by kernel_rfl) (by kernel_rfl) (by kernel_rfl) (by kernel_rfl) (fun _ _ _ h => h) (Or.inl ⟨by rfl, ?_⟩) hHeld ?_
    rotate_left
    focus (intro w hSw; (try dsimp only at hSw); go_simp; try (with_reducible rfl))
    try simp only [Act.put, List.setIfInBounds_toArray, List.set_cons_zero, List.set_cons_succ]
    refine wpAnyL_take 12 (i := 4) (oi := ⟨some 20, _, _, _, _, _⟩) (v := ?_) rfl (by kernel_rfl) (by kernel_rfl) (by kernel_rfl) (by kernel_rfl) (by kernel_rfl) (by kernel_rfl) (by kernel_rfl) (fun _ _ _ h => h) (Or.inl ⟨by rfl, ?_⟩) hHeld ?_
    rotate_left
    focus (intro w hSw; (try dsimp only at hSw); go_simp; try (with_reducible rfl))
    try simp only [Act.put, List.setIfInBounds_toArray, List.set_cons_zero, List.set_cons_succ]
    refine wpAnyL_take 12 (i := 5) (oi := ⟨some 21, _, _, _, _, _⟩) (v := ?_) rfl (by kernel_rfl) (by kernel_rfl) (by kernel_rfl) (by kernel_rfl) (by kernel_rfl) (by kernel_rfl) (by kernel_rfl) (fun _ _ _ h => h) (Or.inl ⟨by rfl, ?_⟩) hHeld ?_
    rotate_left
    focus (intro w hSw; (try dsimp only at hSw); go_simp; try (with_reducible rfl))
    try simp only [Act.put, List.setIfInBounds_toArray, List.set_cons_zero, List.set_cons_succ]
    refine wpAnyL_take 12 (i := 6) (oi := ⟨some 22, _, _, _, _, _⟩) (v := ?_) rfl (by kernel_rfl) (by kernel_rfl) (by kernel_rfl) (by kernel_rfl) (by kernel_rfl) (by kernel_rfl) (by kernel_rfl) (fun _ _ _ h => h) (Or.inl ⟨by rfl, ?_⟩) hHeld ?_
    rotate_left
    focus (intro w hSw; (try dsimp only at hSw); go_simp; try (with_reducible rfl))
    try simp only [Act.put, List.setIfInBounds_toArray, List.set_cons_zero, List.set_cons_succ]
    refine wpAnyL_take 12 (i := 7) (oi := ⟨some 15, _, _, _, _, _⟩) (v := ?_) rfl (by kernel_rfl) (by kernel_rfl) (by kernel_rfl) (by kernel_rfl) (by kernel_rfl) (by kernel_rfl) (by kernel_rfl) (fun _ _ _ h => h) (Or.inl ⟨by rfl, ?_⟩) hHeld ?_
    rotate_left
    focus (intro w hSw; (try dsimp only at hSw); go_simp; try (with_reducible rfl))
    try simp only [Act.put, List.setIfInBounds_toArray, List.set_cons_zero, List.set_cons_succ]
    refine wpAnyL_take 12 (i := 8) (oi := ⟨some 23, _, _, _, _, _⟩) (v := ?_) rfl (by kernel_rfl) (by kernel_rfl) (by kernel_rfl) (by kernel_rfl) (by kernel_rfl) (by kernel_rfl) (by kernel_rfl) (fun _ _ _ h => h) (Or.inl ⟨by rfl, ?_⟩) hHeld ?_
    rotate_left
    focus (intro w hSw; (try dsimp only at hSw); go_simp; try (with_reducible rfl))
    try simp only [Act.put, List.setIfInBounds_toArray, List.set_cons_zero, List.set_cons_succ]
    refine wpAnyL_takeW (i := 9) (oi := ⟨some 24, _, _, _, _, _⟩) (v := ?_) rfl (by kernel_rfl) (by kernel_rfl) (by kernel_rfl) (by kernel_rfl) (fun _ _ _ h => h) (Or.inl ⟨by rfl, ?_⟩) (.inr hHeld) ?_
    rotate_left
    focus (intro w hSw; (try dsimp only at hSw); go_simp; try (with_reducible rfl))
    try simp only [Act.put, List.setIfInBounds_toArray, List.set_cons_zero, List.set_cons_succ]
    refine wpAnyL_one (i := 10) (o := ⟨some 6, _, _, _, _, _⟩) (by kernel_rfl) rfl (fun K hK => ?_)
    clear hHeld
    go_simp
    go_wp2_with fail
    refine hK.out _ _ (HS2.out _ (hB3.drew.alloc hB3.drew.size _)) (fun hHeld => ?_)
    clear hK K
    try simp only [Act.put, List.setIfInBounds_toArray, List.set_cons_zero, List.set_cons_succ]
    refine wpAnyL_last (i := 11) (o := ⟨none, _, _, _, _, _⟩) (by kernel_rfl) rfl (by kernel_rfl) (fun K hK => ?_)
    clear hHeld
    go_simp
    go_wp2_with fail
    refine hK.out _ _ ?_
    clear hK K
    try simp only [Act.put, List.setIfInBounds_toArray, List.set_cons_zero, List.set_cons_succ]
    refine wpAnyL_takeW (i := 12) (oi := ⟨some 7, _, _, _, _, _⟩) (v := ?_) rfl (by kernel_rfl) (by kernel_rfl) (by kernel_rfl) (by kernel_rfl) (fun _ _ _ h => h) (Or.inl ⟨by rfl, ?_⟩) (.inl (by kernel_rfl)) ?_
    rotate_left
    focus (intro w hSw; (try dsimp only at hSw); go_simp; try (with_reducible rfl))
    try simp only [Act.put, List.setIfInBounds_toArray, List.set_cons_zero, List.set_cons_succ]
    refine wpAnyL_done (by kernel_rfl) ?_ _
    refine NoPanic.normal ?_
    obtain ⟨w4, hw4⟩ : ∃ w4, (w3.alloc (.cells #[.string okey, .slice oA ozs.length oc, .slice oB' ons.length oe'] 58)).drew = w4 := ⟨_, rfl⟩
    have k4 : Blk w4 w3.heap.size 58 [.string okey, .slice oA ozs.length oc, .slice oB' ons.length oe'] := hw4 ▸ Blk.new w3 _ _
    have hB34 : Below w3.heap.size w3 w4 := hw4 ▸ ((Below.refl w3.heap.size w3).alloc (Nat.le_refl _) _).drew
    rw [hw4]
    obtain ⟨z0, z1, z2⟩ := blk3' k4
    have hB14 := hB3.trans (hB34.mono hB3.size)
    have hB04 : Below w.heap.size w w4 := hB1.trans (hB14.mono hB1.size)
    obtain ⟨p0, p1, p2⟩ := hS0.out w4 hB14
    have HEQ := Lib.hid (equal_any oA ozs.length oc ozs rfl hold.octs dA zs.length dc zs rfl hxo w4 (hold.d.belowX (hB04.mono (Nat.le_of_lt hX))).rd (HXU.out.belowX (hB04.mono (Nat.le_of_lt hX))).rd)
    have HK4 := Lib.hid k4
    have HW4 := Lib.hid hw4
    clear hw4 k4
    go_wp2_with fail
    refine HEQ.out.mono ?_
    rintro e w4' ⟨rfl, rfl⟩
    by_cases hsame : ozs = zs
    · have hdt : decide (ozs = zs) = true := decide_eq_true hsame
      rw [hdt]
      have hY4 : Y < w4.heap.size := Nat.lt_of_lt_of_le hY3 hB34.size
      have hcp := copyI_any oB' ons.length oe' ons rfl hold.en (by have h9 : ons.length ≤ 1048576 := hold.nl; omega) w4 ((hold.n.belowX (hB04.mono (Nat.le_of_lt hX))).rd)
      have HCI := Lib.hid hcp
      clear hcp
      go_wp2_with fail
      refine HCI.out.mono ?_
      rintro e w5 ⟨u5, rfl, hown5, hB5⟩
      obtain ⟨A5, c5, rfl, _, _, _, _⟩ := own_any hown5
      have hB35 : Below w3.heap.size w3 w5 := hB34.trans (hB5.mono hB34.size)
      have hB15 := hB3.trans (hB35.mono hB3.size)
      have hB05 : Below w.heap.size w w5 := hB1.trans (hB15.mono hB1.size)
      have kY5 := HK3.out.below hB35 hY3
      obtain ⟨y0, y1, y2⟩ := blk3' kY5
      have q2 := kY5.frozen 2
      have kR5 := HK1.out.below hB15 hlt1
      obtain ⟨r0, r1, r2⟩ := blk3' kR5
      have s0 := kR5.frozen 0
      have s1 := kR5.frozen 1
      have s2 := kR5.frozen 2
      have HKY5 := Lib.hid kY5
      have HKR5 := Lib.hid kR5
      have HO5 := Lib.hid hown5
      have hne : ¬ Y = w.heap.size + 1 := by omega
      have hne2 : ¬ w.heap.size + 1 = Y := by omega
      clear kY5 kR5 hown5
      go_wp2
      have kR := ((HKR5.out.other (g' := Y) hne2 2 (.slice A5 ons.length c5)).set 0 (.string okey)).set 1 (.slice A3 zs.length c3)
      have kR2 := kR.set 2 (.slice A5 ons.length c5)
      obtain ⟨d0, d1, d2⟩ := blk3' kR2
      have hkW := set4_heap w5 Y (w.heap.size + 1) (.slice A5 ons.length c5) (.string okey) (.slice A3 zs.length c3) (.slice A5 ons.length c5)
      have hBW := hB05.trans (set4_below w5 w.heap.size Y (w.heap.size + 1) (.slice A5 ons.length c5) (.string okey) (.slice A3 zs.length c3) (.slice A5 ons.length c5) (by omega) (by omega))
      refine bodyPost_ret (v := obval okey A3 zs.length c3 A5 ons.length c5) (by simp [results, Tryz.results53, go_sem, d0, d1, d2]) rfl (.inl ⟨⟨okey, ⟨A3, zs, c3⟩, A5, ons, c5⟩, rfl, rfl, rfl, ?_, ?_, F, fr, d, v, [], ?_, Only.of_below hBW (Nat.le_of_lt hX), .inl ⟨_, ho, rfl, hsame, rfl, rfl, rfl⟩⟩)
      · refine own_base (own_stay (own_below3 HO3.out hB35 (Nat.le_refl _)) fun b hb => hkW b (fun e => blk_apart HKY5.out (own_below3 HO3.out hB35 (Nat.le_refl _)) (by decide) (e ▸ hb)) (fun e => blk_apart HKR5.out (own_below3 HO3.out hB35 (Nat.le_refl _)) (by decide) (e ▸ hb))) hB1.size
      · refine own_base (own_stay HO5.out fun b hb => hkW b (fun e => blk_apart HKY5.out HO5.out (by decide) (e ▸ hb)) (fun e => blk_apart HKR5.out HO5.out (by decide) (e ▸ hb))) hB04.size
      · rw [List.append_nil]
        exact H.out.move (H.out.pl.below hBW) (Only.of_below hBW (Nat.le_of_lt hX)) id H.out.fd H.out.fn
    · have hdt : decide (ozs = zs) = false := decide_eq_false hsame
      rw [hdt]
      have hdiff : ∀ o ∈ os, o.key = okey → o.d.zs ≠ zs := fun o' ho' hk' => by
        have e := key_one HKS.out ho' ho hk'
        rw [e]
        exact hsame
      obtain ⟨cn, hcn⟩ : ∃ cn, cntN zs.length = cn := ⟨_, rfl⟩
      have hcb : cn ≤ 1261 := by rw [← hcn]; unfold cntN; omega
      have HCO : Hid (∀ w, Calls Tryz.prog 42 #[.int .i64 (zs.length : Int)] w fun e w' => e = .returned (.int .i64 (cn : Nat)) ∧ w' = w) := Lib.hid (fun w => (count_any (zs.length : Int) (by omega) w).mono fun _ _ h => ⟨by rw [← hcn, ← cntI_nat]; exact h.1, h.2.symm⟩)
      have HCN := Lib.hid hcn
      have hP4 := H.out.pl.below hB04
      have HP4 := Lib.hid hP4
      have hY4 : Y < w4.heap.size := Nat.lt_of_lt_of_le hY3 hB34.size
      have HS6 : Hid (∀ W, Below w4.heap.size w4 W → W.cell? ⟨w.heap.size, 1, none⟩ = some (.slice dA zs.length dc)) := Lib.hid fun W hB => (hS0.out W (hB14.trans (hB.mono hB14.size))).2.1
      have hs4 := hB04.size
      have hs14 := hB14.size
      clear hP4 hcn
      by_cases hfit : cn ≤ fr.length
      rotate_left
      · have HDF := Lib.hid hdiff
        go_wp2
        clear hdiff
        refine wp_region_last 7 (fun W => W.cell? ⟨w.heap.size, 1, none⟩ = some (.slice dA zs.length dc)) (by kernel_rfl) (HS6.out _ (Below.refl _ _).drew) (fun hHeld => ?_)
        refine wpAnyL_take 12 (i := 0) (oi := ⟨some 38, _, _, _, _, _⟩) (v := ?_) rfl (by kernel_rfl) (by kernel_rfl) (by kernel_rfl) (by kernel_rfl) (by kernel_rfl) (by kernel_rfl) (by kernel_rfl) (fun _ _ _ h => h) (Or.inl ⟨by rfl, ?_⟩) hHeld ?_
        rotate_left
        focus (intro w hSw; (try dsimp only at hSw); go_simp; try (with_reducible rfl))
        try simp only [Act.put, List.setIfInBounds_toArray, List.set_cons_zero, List.set_cons_succ]
        refine wpAnyL_take 12 (i := 1) (oi := ⟨some 39, _, _, _, _, _⟩) (v := ?_) rfl (by kernel_rfl) (by kernel_rfl) (by kernel_rfl) (by kernel_rfl) (by kernel_rfl) (by kernel_rfl) (by kernel_rfl) (fun _ _ _ h => h) (Or.inl ⟨by rfl, ?_⟩) hHeld ?_
        rotate_left
        focus (intro w hSw; (try dsimp only at hSw); go_simp; try (with_reducible rfl))
        try simp only [Act.put, List.setIfInBounds_toArray, List.set_cons_zero, List.set_cons_succ]
        refine wpAnyL_take 12 (i := 2) (oi := ⟨some 40, _, _, _, _, _⟩) (v := ?_) rfl (by kernel_rfl) (by kernel_rfl) (by kernel_rfl) (by kernel_rfl) (by kernel_rfl) (by kernel_rfl) (by kernel_rfl) (fun _ _ _ h => h) (Or.inl ⟨by rfl, ?_⟩) hHeld ?_
        rotate_left
        focus (intro w hSw; (try dsimp only at hSw); go_simp; try (with_reducible rfl))
        try simp only [Act.put, List.setIfInBounds_toArray, List.set_cons_zero, List.set_cons_succ]
        refine wpAnyL_take 12 (i := 3) (oi := ⟨some 41, _, _, _, _, _⟩) (v := ?_) rfl (by kernel_rfl) (by kernel_rfl) (by kernel_rfl) (by kernel_rfl) (by kernel_rfl) (by kernel_rfl) (by kernel_rfl) (fun _ _ _ h => h) (Or.inl ⟨by rfl, ?_⟩) hHeld ?_
        rotate_left
        focus (intro w hSw; (try dsimp only at hSw); go_simp; try (with_reducible rfl))
        try simp only [Act.put, List.setIfInBounds_toArray, List.set_cons_zero, List.set_cons_succ]
        refine wpAnyL_take 12 (i := 4) (oi := ⟨some 42, _, _, _, _, _⟩) (v := ?_) rfl (by kernel_rfl) (by kernel_rfl) (by kernel_rfl) (by kernel_rfl) (by kernel_rfl) (by kernel_rfl) (by kernel_rfl) (fun _ _ _ h => h) (Or.inl ⟨by rfl, ?_⟩) hHeld ?_
        rotate_left
        focus (intro w hSw; (try dsimp only at hSw); go_simp; try (with_reducible rfl))
        try simp only [Act.put, List.setIfInBounds_toArray, List.set_cons_zero, List.set_cons_succ]
        refine wpAnyL_take 12 (i := 5) (oi := ⟨some 43, _, _, _, _, _⟩) (v := ?_) rfl (by kernel_rfl) (by kernel_rfl) (by kernel_rfl) (by kernel_rfl) (by kernel_rfl) (by kernel_rfl) (by kernel_rfl) (fun _ _ _ h => h) (Or.inl ⟨by rfl, ?_⟩) hHeld ?_
        rotate_left
        focus (intro w hSw; (try dsimp only at hSw); go_simp; try (with_reducible rfl))
        try simp only [Act.put, List.setIfInBounds_toArray, List.set_cons_zero, List.set_cons_succ]
        refine wpAnyL_one (i := 6) (o := ⟨some 44, _, _, _, _, _⟩) (by kernel_rfl) rfl (fun K hK => ?_)
        clear hHeld
        go_simp
        refine (HCO.out _).mono ?_
        rintro e w2' ⟨rfl, rfl⟩
        go_wp2_with fail
        refine hK.out _ _ (HS6.out _ (Below.refl _ _).drew) (fun hHeld => ?_)
        clear hK K
        try simp only [Act.put, List.setIfInBounds_toArray, List.set_cons_zero, List.set_cons_succ]
        refine wpAnyL_last (i := 7) (o := ⟨some 45, _, _, _, _, _⟩) (by kernel_rfl) rfl (by kernel_rfl) (fun K hK => ?_)
        clear hHeld
        go_simp
        refine (take_no X _ v l F fr.length d cn (by omega) (by omega) _ (HP4.out.below (Below.refl _ _).drew) rfl).mono ?_
        rintro e w3' ⟨rfl, rfl⟩
        exact ⟨rfl, .inr ⟨rfl, ⟨HDF.out, (by show fr.length < cntN zs.length; rw [HCN.out]; omega)⟩, hB04.drew⟩⟩
      have hfd := H.out.fd
      have hfn := H.out.fn
      have HTK := Lib.hid (take_ok2 X _ v l F fr d cn hfit hfl hfd hfn w4.drew (HP4.out.below (Below.refl _ _).drew) rfl (RdI.below H.out.free.int hB04.drew))
      have kY4 := HK3.out.below hB34 hY3
      have HKY4 := Lib.hid kY4
      have k04 := HK0.out.below hB14 HK0.out.lt
      have HK04 := Lib.hid k04
      have HDF := Lib.hid hdiff
      clear kY4 k04 hdiff
      go_wp2
      refine wp_region_noPanic ?_
      refine wp_region_last 9 (fun W => W.cell? ⟨w.heap.size, 1, none⟩ = some (.slice dA zs.length dc)) (by kernel_rfl) (HS6.out _ (Below.refl _ _).drew) (fun hHeld => ?_)
      refine wpAnyL_take 12 (i := 0) (oi := ⟨some 38, _, _, _, _, _⟩) (v := ?_) rfl (by kernel_rfl) (by kernel_rfl) (by kernel_rfl) (by kernel_rfl) (by kernel_rfl) (by kernel_rfl) (by kernel_rfl) (fun _ _ _ h => h) (Or.inl ⟨by rfl, ?_⟩) hHeld ?_
      rotate_left
      focus (intro w hSw; (try dsimp only at hSw); go_simp; try (with_reducible rfl))
      try simp only [Act.put, List.setIfInBounds_toArray, List.set_cons_zero, List.set_cons_succ]
      refine wpAnyL_take 12 (i := 1) (oi := ⟨some 39, _, _, _, _, _⟩) (v := ?_) rfl (by kernel_rfl) (by kernel_rfl) (by kernel_rfl) (by kernel_rfl) (by kernel_rfl) (by kernel_rfl) (by kernel_rfl) (fun _ _ _ h => h) (Or.inl ⟨by rfl, ?_⟩) hHeld ?_
      rotate_left
      focus (intro w hSw; (try dsimp only at hSw); go_simp; try (with_reducible rfl))
      try simp only [Act.put, List.setIfInBounds_toArray, List.set_cons_zero, List.set_cons_succ]
      refine wpAnyL_take 12 (i := 2) (oi := ⟨some 40, _, _, _, _, _⟩) (v := ?_) rfl (by kernel_rfl) (by kernel_rfl) (by kernel_rfl) (by kernel_rfl) (by kernel_rfl) (by kernel_rfl) (by kernel_rfl) (fun _ _ _ h => h) (Or.inl ⟨by rfl, ?_⟩) hHeld ?_
      rotate_left
      focus (intro w hSw; (try dsimp only at hSw); go_simp; try (with_reducible rfl))
      try simp only [Act.put, List.setIfInBounds_toArray, List.set_cons_zero, List.set_cons_succ]
      refine wpAnyL_take 12 (i := 3) (oi := ⟨some 41, _, _, _, _, _⟩) (v := ?_) rfl (by kernel_rfl) (by kernel_rfl) (by kernel_rfl) (by kernel_rfl) (by kernel_rfl) (by kernel_rfl) (by kernel_rfl) (fun _ _ _ h => h) (Or.inl ⟨by rfl, ?_⟩) hHeld ?_
      rotate_left
      focus (intro w hSw; (try dsimp only at hSw); go_simp; try (with_reducible rfl))
      try simp only [Act.put, List.setIfInBounds_toArray, List.set_cons_zero, List.set_cons_succ]
      refine wpAnyL_take 12 (i := 4) (oi := ⟨some 42, _, _, _, _, _⟩) (v := ?_) rfl (by kernel_rfl) (by kernel_rfl) (by kernel_rfl) (by kernel_rfl) (by kernel_rfl) (by kernel_rfl) (by kernel_rfl) (fun _ _ _ h => h) (Or.inl ⟨by rfl, ?_⟩) hHeld ?_
      rotate_left
      focus (intro w hSw; (try dsimp only at hSw); go_simp; try (with_reducible rfl))
      try simp only [Act.put, List.setIfInBounds_toArray, List.set_cons_zero, List.set_cons_succ]
      refine wpAnyL_take 12 (i := 5) (oi := ⟨some 43, _, _, _, _, _⟩) (v := ?_) rfl (by kernel_rfl) (by kernel_rfl) (by kernel_rfl) (by kernel_rfl) (by kernel_rfl) (by kernel_rfl) (by kernel_rfl) (fun _ _ _ h => h) (Or.inl ⟨by rfl, ?_⟩) hHeld ?_
      rotate_left
      focus (intro w hSw; (try dsimp only at hSw); go_simp; try (with_reducible rfl))
      try simp only [Act.put, List.setIfInBounds_toArray, List.set_cons_zero, List.set_cons_succ]
      refine wpAnyL_one (i := 6) (o := ⟨some 44, _, _, _, _, _⟩) (by kernel_rfl) rfl (fun K hK => ?_)
      clear hHeld
      go_simp
      refine (HCO.out _).mono ?_
      rintro e w2' ⟨rfl, rfl⟩
      go_wp2_with fail
      refine hK.out _ _ (HS6.out _ (Below.refl _ _).drew) (fun hHeld => ?_)
      clear hK K
      try simp only [Act.put, List.setIfInBounds_toArray, List.set_cons_zero, List.set_cons_succ]
      refine wpAnyL_one (i := 7) (o := ⟨some 45, _, _, _, _, _⟩) (by kernel_rfl) rfl (fun K hK => ?_)
      clear hHeld
      go_simp
      refine HTK.out.mono ?_
      rintro e w5 ⟨At, ac, rfl, F', d', hac, hAn, hoA, hpl5, hfd5, hFn5, hFr5, hFb5, hon5⟩
      have kY5 := hon5.blk HKY4.out (by decide) (by decide)
      obtain ⟨y0, y1, y2⟩ := blk3' kY5
      have q2 := kY5.frozen 2
      have HKY5 := Lib.hid kY5
      have HOA5 := Lib.hid hoA
      have HP5 := Lib.hid hpl5
      have k05 := hon5.blk HK04.out (by decide) (by decide)
      have HK05 := Lib.hid k05
      clear kY5 hoA hpl5
      go_wp2_with fail
      refine hK.out _ _ ((blk3' k05).2.1) (fun hHeld => ?_)
      clear hK K
      try simp only [Act.put, List.setIfInBounds_toArray, List.set_cons_zero, List.set_cons_succ]
      refine wpAnyL_take 12 (i := 8) (oi := ⟨some 46, _, _, _, _, _⟩) (v := ?_) rfl (by kernel_rfl) (by kernel_rfl) (by kernel_rfl) (by kernel_rfl) (by kernel_rfl) (by kernel_rfl) (by kernel_rfl) (fun _ _ _ h => h) (Or.inl ⟨by rfl, ?_⟩) hHeld ?_
      rotate_left
      focus (intro w hSw; (try dsimp only at hSw); go_simp; try (with_reducible rfl))
      try simp only [Act.put, List.setIfInBounds_toArray, List.set_cons_zero, List.set_cons_succ]
      refine wpAnyL_last (i := 9) (o := ⟨none, _, _, _, _, _⟩) (by kernel_rfl) rfl (by kernel_rfl) (fun K hK => ?_)
      clear hHeld
      go_simp
      go_wp2_with fail
      refine hK.out _ _ ?_
      clear hK K
      try simp only [Act.put, List.setIfInBounds_toArray, List.set_cons_zero, List.set_cons_succ]
      refine wpAnyL_done (by kernel_rfl) ?_ _
      refine NoPanic.normal ?_
      have hwd : w4.drew.heap.size = w4.heap.size := rfl
      have hX4 : X < w4.heap.size := Nat.lt_of_lt_of_le hX hs4
      have hYw : w.heap.size ≤ Y := by have := hB1.size; omega
      have hYX : X < Y := by omega
      have ho5 : Only X WT w w5 := (Only.of_below hB04.drew (Nat.le_of_lt hX)).trans hon5
      have ho6 : Only X WT w (w5.setCell ⟨Y, 2, none⟩ (.slice At cn ac)) := ho5.setNew hX hYw 2 _
      have hs5 := hon5.size
      have k6 := HKY5.out.set 2 (.slice At cn ac)
      have hp6 := HP5.out.setFar (i := 2) (u := .slice At cn ac) HKY5.out (by decide) (by decide) (by decide)
      have hoA6 := own_setFar (j := 2) (u := .slice At cn ac) HKY5.out HOA5.out (by decide)
      have hoD5 := hon5.own (own_below3 (own_below3 HO3.out hB34 (Nat.le_refl _)) (Below.refl _ _).drew (Nat.le_refl _)) (by decide) (by decide)
      have hoD6 := own_setFar (j := 2) (u := .slice At cn ac) HKY5.out hoD5 (by decide)
      have k06 : Blk (w5.setCell ⟨Y, 2, none⟩ (.slice At cn ac)) w.heap.size 58 _ := (set_heap w5 Y 2 (.slice At cn ac) w.heap.size (by have := hB1.size; omega)).trans HK05.out
      have kR5 := hon5.blk (HK1.out.below hB14 hlt1).drew (by decide) (by decide)
      have kR6 : Blk (w5.setCell ⟨Y, 2, none⟩ (.slice At cn ac)) (w.heap.size + 1) 58 _ := (set_heap w5 Y 2 (.slice At cn ac) (w.heap.size + 1) (by omega)).trans kR5
      generalize hW6 : w5.setCell ⟨Y, 2, none⟩ (.slice At cn ac) = w6 at *
      have HP6 := Lib.hid hp6
      have HOA6 := Lib.hid hoA6
      have HOD6 := Lib.hid hoD6
      have HK6 := Lib.hid k6
      have HK06 := Lib.hid k06
      have HKR6 := Lib.hid kR6
      have HON6 := Lib.hid ho6
      have hY6 := k6.lt
      have h06 := k06.lt
      have hR6 := kR6.lt
      have hs46 : w4.heap.size ≤ w6.heap.size := by rw [← hW6]; simp; exact hs5
      have HS7 : Hid (∀ W, Below w6.heap.size w6 W → W.cell? ⟨w.heap.size, 1, none⟩ = some (.slice dA zs.length dc) ∧ W.cell? ⟨Y, 2, none⟩ = some (.slice At cn ac)) := Lib.hid fun W hB => ⟨(blk3' (HK06.out.below hB h06)).2.1, (blk3' (HK6.out.below hB hY6)).2.2⟩
      have HRP : Hid (∀ W, W.cell? ⟨w6.heap.size, 0, none⟩ = some (.int .i64 0) → Calls Tryz.prog 80 #[.slice (some ⟨w6.heap.size, 0, none⟩) 1 1, .int .i64 cn] W fun e w' => e = .returned (.slice (some ⟨W.heap.size, 0, none⟩) cn cn) ∧ Blk w' W.heap.size 3 (zsI cn) ∧ Below W.heap.size W w') := Lib.hid fun W hc => repeat_any w6.heap.size 0 1 cn (by omega) W hc
      have HFT : Hid ((fr.take cn).length = cn) := Lib.hid (by rw [List.length_take]; omega)
      have HWR : Hid (∀ w7 g, Below w6.heap.size w6 w7 → Blk w7 g 3 (zsI cn) → Calls Tryz.prog 79 #[.pointer (some ⟨X, 1, none⟩), .slice dA zs.length dc, .slice At cn ac, .slice (some ⟨g, 0, none⟩) cn cn] w7 fun e w' => e = .returned (.tuple #[]) ∧ ∃ v' new, Pl X 1 WT ([.slice F' (fr.drop cn).length d', v, .map (some mb)].set 1 v') v' w' (l ++ new) ∧ new.map Ac.st = (List.range cn).map (wact zs (fr.take cn) (List.replicate cn 0)) ∧ Only X WT w7 w') := Lib.hid fun w7 g hB hg => by
        have hP7 := HP6.out.below hB
        have ho7 : Only X WT w w7 := HON6.out.trans (Only.of_below hB (by omega))
        have ha7 := own_below3 HOA6.out hB (Nat.le_refl _)
        have := write_any_in X _ v l (by omega) ⟨dA, zs, dc⟩ (by show zs.length ≤ _; omega) hdc hxo At (some ⟨g, 0, none⟩) ac cn (fr.take cn) (List.replicate cn 0) (by rw [HFT.out]; exact HCN.out.symm) (by rw [List.length_replicate]; exact HCN.out.symm) (fun z hz => by rw [(List.mem_replicate.1 hz).2]; omega) w7 hP7
          (fun W hW => (HXU.out.belowX (ho7.trans hW).below).rd) (fun W hW => RdI.of_row (hW.own ha7 (by decide) (by decide))) (fun W hW => by have := rd_blk (hW.blk hg (by decide) (by decide)); rw [zsI_ints] at this; exact this)
        rw [HFT.out, List.length_replicate] at this
        simp only [HCN.out] at this
        exact this
      clear hp6 hoA6 hoD6 k6 k06 kR6 ho6 hon5 ho5 hoD5 kR5 hW6 y0 y1 y2 q2
      have hBd6 : Below w6.heap.size w6 w6.drew := (Below.refl _ _).drew
      go_wp2
      refine wp_region_noPanic ?_
      refine wp_region_last 12 (fun W => W.cell? ⟨w.heap.size, 1, none⟩ = some (.slice dA zs.length dc) ∧ W.cell? ⟨Y, 2, none⟩ = some (.slice At cn ac)) (by kernel_rfl) (HS7.out _ hBd6) (fun hHeld => ?_)
      refine wpAnyL_take 12 (i := 0) (oi := ⟨some 47, _, _, _, _, _⟩) (v := ?_) rfl (by kernel_rfl) (by kernel_rfl) (by kernel_rfl) (by kernel_rfl) (by kernel_rfl) (by kernel_rfl) (by kernel_rfl) (fun _ _ _ h => h) (Or.inl ⟨by rfl, ?_⟩) hHeld ?_
      rotate_left
      focus (intro w hSw; (try dsimp only at hSw); go_simp; try (with_reducible rfl))
      try simp only [Act.put, List.setIfInBounds_toArray, List.set_cons_zero, List.set_cons_succ]
      refine wpAnyL_take 12 (i := 1) (oi := ⟨some 48, _, _, _, _, _⟩) (v := ?_) rfl (by kernel_rfl) (by kernel_rfl) (by kernel_rfl) (by kernel_rfl) (by kernel_rfl) (by kernel_rfl) (by kernel_rfl) (fun _ _ _ h => h) (Or.inl ⟨by rfl, ?_⟩) hHeld ?_
      rotate_left
      focus (intro w hSw; (try dsimp only at hSw); go_simp; try (with_reducible rfl))
      try simp only [Act.put, List.setIfInBounds_toArray, List.set_cons_zero, List.set_cons_succ]
      refine wpAnyL_take 12 (i := 2) (oi := ⟨some 49, _, _, _, _, _⟩) (v := ?_) rfl (by kernel_rfl) (by kernel_rfl) (by kernel_rfl) (by kernel_rfl) (by kernel_rfl) (by kernel_rfl) (by kernel_rfl) (fun _ _ _ h => h) (Or.inl ⟨by rfl, ?_⟩) hHeld ?_
      rotate_left
      focus (intro w hSw; (try dsimp only at hSw); go_simp; try (with_reducible rfl))
      try simp only [Act.put, List.setIfInBounds_toArray, List.set_cons_zero, List.set_cons_succ]
      refine wpAnyL_take 12 (i := 3) (oi := ⟨some 50, _, _, _, _, _⟩) (v := ?_) rfl (by kernel_rfl) (by kernel_rfl) (by kernel_rfl) (by kernel_rfl) (by kernel_rfl) (by kernel_rfl) (by kernel_rfl) (fun _ _ _ h => h) (Or.inl ⟨by rfl, ?_⟩) hHeld ?_
      rotate_left
      focus (intro w hSw; (try dsimp only at hSw); go_simp; try (with_reducible rfl))
      try simp only [Act.put, List.setIfInBounds_toArray, List.set_cons_zero, List.set_cons_succ]
      refine wpAnyL_take 12 (i := 4) (oi := ⟨some 51, _, _, _, _, _⟩) (v := ?_) rfl (by kernel_rfl) (by kernel_rfl) (by kernel_rfl) (by kernel_rfl) (by kernel_rfl) (by kernel_rfl) (by kernel_rfl) (fun _ _ _ h => h) (Or.inl ⟨by rfl, ?_⟩) hHeld ?_
      rotate_left
      focus (intro w hSw; (try dsimp only at hSw); go_simp; try (with_reducible rfl))
      try simp only [Act.put, List.setIfInBounds_toArray, List.set_cons_zero, List.set_cons_succ]
      refine wpAnyL_take 12 (i := 5) (oi := ⟨some 52, _, _, _, _, _⟩) (v := ?_) rfl (by kernel_rfl) (by kernel_rfl) (by kernel_rfl) (by kernel_rfl) (by kernel_rfl) (by kernel_rfl) (by kernel_rfl) (fun _ _ _ h => h) (Or.inl ⟨by rfl, ?_⟩) hHeld ?_
      rotate_left
      focus (intro w hSw; (try dsimp only at hSw); go_simp; try (with_reducible rfl))
      try simp only [Act.put, List.setIfInBounds_toArray, List.set_cons_zero, List.set_cons_succ]
      refine wpAnyL_take 12 (i := 6) (oi := ⟨some 53, _, _, _, _, _⟩) (v := ?_) rfl (by kernel_rfl) (by kernel_rfl) (by kernel_rfl) (by kernel_rfl) (by kernel_rfl) (by kernel_rfl) (by kernel_rfl) (fun _ _ _ h => h) (Or.inl ⟨by rfl, ?_⟩) hHeld ?_
      rotate_left
      focus (intro w hSw; (try dsimp only at hSw); go_simp; try (with_reducible rfl))
      try simp only [Act.put, List.setIfInBounds_toArray, List.set_cons_zero, List.set_cons_succ]
      refine wpAnyL_take 12 (i := 8) (oi := ⟨some 55, _, _, _, _, _⟩) (v := ?_) rfl (by kernel_rfl) (by kernel_rfl) (by kernel_rfl) (by kernel_rfl) (by kernel_rfl) (by kernel_rfl) (by kernel_rfl) (fun _ _ _ h => h) (Or.inl ⟨by rfl, ?_⟩) hHeld ?_
      rotate_left
      focus (intro w hSw; (try dsimp only at hSw); go_simp; try (with_reducible rfl))
      try simp only [Act.put, List.setIfInBounds_toArray, List.set_cons_zero, List.set_cons_succ]
      refine wpAnyL_take 12 (i := 9) (oi := ⟨some 56, _, _, _, _, _⟩) (v := ?_) rfl (by kernel_rfl) (by kernel_rfl) (by kernel_rfl) (by kernel_rfl) (by kernel_rfl) (by kernel_rfl) (by kernel_rfl) (fun _ _ _ h => h) (Or.inl ⟨by rfl, ?_⟩) hHeld ?_
      rotate_left
      focus (intro w hSw; (try dsimp only at hSw); go_simp; try (with_reducible rfl))
      try simp only [Act.put, List.setIfInBounds_toArray, List.set_cons_zero, List.set_cons_succ]
      refine wpAnyL_take 12 (i := 10) (oi := ⟨some 57, _, _, _, _, _⟩) (v := ?_) rfl (by kernel_rfl) (by kernel_rfl) (by kernel_rfl) (by kernel_rfl) (by kernel_rfl) (by kernel_rfl) (by kernel_rfl) (fun _ _ _ h => h) (Or.inl ⟨by rfl, ?_⟩) hHeld ?_
      rotate_left
      focus (intro w hSw; (try dsimp only at hSw); go_simp; try (with_reducible rfl))
      try simp only [Act.put, List.setIfInBounds_toArray, List.set_cons_zero, List.set_cons_succ]
      refine wpAnyL_one (i := 7) (o := ⟨some 54, _, _, _, _, _⟩) (by kernel_rfl) rfl (fun K hK => ?_)
      clear hHeld
      go_simp
      have hBa : Below w6.heap.size w6 (w6.drew.alloc (.cells #[.int .i64 0] 3)) := hBd6.alloc hBd6.size _
      have hc0 : (w6.drew.alloc (.cells #[.int .i64 0] 3)).cell? ⟨w6.heap.size, 0, none⟩ = some (.int .i64 0) := (Blk.new w6.drew [.int .i64 0] 3).cell 0
      go_wp2_with fail
      refine hK.out _ _ (HS7.out _ hBa) (fun hHeld => ?_)
      clear hK K
      try simp only [Act.put, List.setIfInBounds_toArray, List.set_cons_zero, List.set_cons_succ]
      refine wpAnyL_one (i := 11) (o := ⟨some 58, _, _, _, _, _⟩) (by kernel_rfl) rfl (fun K hK => ?_)
      clear hHeld
      go_simp
      refine (HRP.out _ hc0).mono ?_
      rintro e w7 ⟨rfl, hk7, hB7⟩
      have hB67 : Below w6.heap.size w6 w7 := hBa.trans (hB7.mono hBa.size)
      rw [World.size_alloc] at hk7
      have HWX := Lib.hid (HWR.out w7 (w6.heap.size + 1) hB67 hk7)
      go_wp2_with fail
      refine hK.out _ _ (HS7.out _ hB67) (fun hHeld => ?_)
      clear hK K
      try simp only [Act.put, List.setIfInBounds_toArray, List.set_cons_zero, List.set_cons_succ]
      refine wpAnyL_last (i := 12) (o := ⟨some 59, _, _, _, _, _⟩) (by kernel_rfl) rfl (by kernel_rfl) (fun K hK => ?_)
      clear hHeld
      go_simp
      refine HWX.out.mono ?_
      rintro e w8 ⟨rfl, v', new, hp8, hn8, ho78⟩
      go_wp2_with fail
      refine hK.out _ _ ?_
      clear hK K
      try simp only [Act.put, List.setIfInBounds_toArray, List.set_cons_zero, List.set_cons_succ]
      refine wpAnyL_done (by kernel_rfl) ?_ _
      refine NoPanic.normal ?_
      have k8 := ho78.blk (HK6.out.below hB67 hY6) (by decide) (by decide)
      have kR8 := ho78.blk (HKR6.out.below hB67 hR6) (by decide) (by decide)
      have oA8 := ho78.own (own_below3 HOA6.out hB67 (Nat.le_refl _)) (by decide) (by decide)
      have oD8 := ho78.own (own_below3 HOD6.out hB67 (Nat.le_refl _)) (by decide) (by decide)
      have ho8 : Only X WT w w8 := (HON6.out.trans (Only.of_below hB67 (by omega))).trans ho78
      obtain ⟨y0, y1, y2⟩ := blk3' k8
      obtain ⟨r0, r1, r2⟩ := blk3' kR8
      have s0 := kR8.frozen 0
      have s1 := kR8.frozen 1
      have s2 := kR8.frozen 2
      have HKR8 := Lib.hid kR8
      have HOA8 := Lib.hid oA8
      have HOD8 := Lib.hid oD8
      have HP8 := Lib.hid hp8
      clear k8 kR8 oA8 oD8 hp8
      go_wp2
      have kR := ((HKR8.out.set 0 (.string okey)).set 1 (.slice A3 zs.length c3)).set 2 (.slice At cn ac)
      obtain ⟨d0, d1, d2⟩ := blk3' kR
      have hoW : Only X WT w (((w8.setCell ⟨w.heap.size + 1, 0, none⟩ (.string okey)).setCell ⟨w.heap.size + 1, 1, none⟩ (.slice A3 zs.length c3)).setCell ⟨w.heap.size + 1, 2, none⟩ (.slice At cn ac)) := ((ho8.setNew hX (Nat.le_succ _) 0 _).setNew hX (Nat.le_succ _) 1 _).setNew hX (Nat.le_succ _) 2 _
      refine bodyPost_ret (v := obval okey A3 zs.length c3 At cn ac) (by simp [results, Tryz.results53, go_sem, d0, d1, d2]) rfl (.inl ⟨⟨okey, ⟨A3, zs, c3⟩, At, fr.take cn, ac⟩, ?_, rfl, rfl, ?_, ?_, F', fr.drop cn, d', v', new, ?_, hoW, .inr ⟨HDF.out, ?_, ?_, ?_, ?_⟩⟩)
      · show Ending.returned (obval okey A3 zs.length c3 At cn ac) = .returned (obval okey A3 zs.length c3 At (fr.take cn).length ac)
        rw [HFT.out]
      · exact own_base (own_set3 HKR8.out HOD8.out (by decide)) hB1.size
      · show World.ownsRow _ _ _ 1 (.slice At (fr.take cn).length ac) (fr.take cn).length (ints (fr.take cn))
        rw [HFT.out]
        exact own_base (own_set3 HKR8.out HOA8.out (by decide)) hs4
      · exact H.out.move (HP8.out.set3 HKR8.out (by decide) (by decide) (by decide)) hoW (fun hu => hu.of_int hFr5 hFb5) hfd5 hFn5
      · show cntN zs.length ≤ fr.length
        rw [HCN.out]; exact hfit
      · show fr.take cn = fr.take (cntN zs.length)
        rw [HCN.out]
      · show fr.drop cn = fr.drop (cntN zs.length)
        rw [HCN.out]
      · show new.map Ac.st = (List.range (cntN zs.length)).map (wact zs (fr.take cn) (List.replicate (cntN zs.length) 0))
        rw [HCN.out]
        exact hn8
  · have hdiff : ∀ o ∈ os, o.key = key → o.d.zs ≠ zs := fun o' ho' hk' => absurd hk' (hno o' ho')
    go_wp2
    refine wp_region_noPanic ?_
    refine wp_region_last 11 (fun W => W.cell? ⟨X, 2, none⟩ = some (.map (some mb)) ∧ W.cell? ⟨w.heap.size, 0, none⟩ = some (.string key) ∧ (Instr.lookup 109 (.map (some mb)) (.string key) true).run Tryz.prog W = .ok (.tuple #[ob0, .bool false]) W) (by kernel_rfl) (HS2.out _ hB3.drew) (fun hHeld => ?_)
    refine wpAnyL_take 12 (i := 0) (oi := ⟨some 16, _, _, _, _, _⟩) (v := ?_) rfl (by kernel_rfl) (by kernel_rfl) (by kernel_rfl) (by kernel_rfl) (by kernel_rfl) (by kernel_rfl) (by kernel_rfl) (fun _ _ _ h => h) (Or.inl ⟨by rfl, ?_⟩) hHeld ?_
    rotate_left
    focus (intro w hSw; (try dsimp only at hSw); go_simp; try (with_reducible rfl))
    try simp only [Act.put, List.setIfInBounds_toArray, List.set_cons_zero, List.set_cons_succ]
    refine wpAnyL_take 12 (i := 1) (oi := ⟨some 17, _, _, _, _, _⟩) (v := ?_) rfl (by kernel_rfl) (by kernel_rfl) (by kernel_rfl) (by kernel_rfl) (by kernel_rfl) (by kernel_rfl) (by kernel_rfl) (fun _ _ _ h => h) (Or.inl ⟨by rfl, ?_⟩) hHeld ?_
    rotate_left
    focus (intro w hSw; (try dsimp only at hSw); go_simp; try (with_reducible rfl))
    try simp only [Act.put, List.setIfInBounds_toArray, List.set_cons_zero, List.set_cons_succ]
    refine wpAnyL_take 12 (i := 2) (oi := ⟨some 18, _, _, _, _, _⟩) (v := ?_) rfl (by kernel_rfl) (by kernel_rfl) (by kernel_rfl) (by kernel_rfl) (by kernel_rfl) (by kernel_rfl) (by kernel_rfl) (fun _ _ _ h => h) (Or.inl ⟨by rfl, ?_⟩) hHeld ?_
    rotate_left
    focus (intro w hSw; (try dsimp only at hSw); go_simp; try (with_reducible rfl))
    try simp only [Act.put, List.setIfInBounds_toArray, List.set_cons_zero, List.set_cons_succ]
    refine wpAnyL_take 12 (i := 3) (oi := ⟨some 19, _, _, _, _, _⟩) (v := ?_) rfl (by kernel_rfl) (by kernel_rfl) (by kernel_rfl) (by kernel_rfl) (by kernel_rfl) (by kernel_rfl) (by kernel_rfl) (fun _ _ _ h => h) (Or.inl ⟨by rfl, ?_⟩) hHeld ?_
    rotate_left
    focus (intro w hSw; (try dsimp only at hSw); go_simp; try (with_reducible rfl))
    try simp only [Act.put, List.setIfInBounds_toArray, List.set_cons_zero, List.set_cons_succ]
    refine wpAnyL_take 12 (i := 4) (oi := ⟨some 20, _, _, _, _, _⟩) (v := ?_) rfl (by kernel_rfl) (by kernel_rfl) (by kernel_rfl) (by kernel_rfl) (by kernel_rfl) (by kernel_rfl) (by kernel_rfl) (fun _ _ _ h => h) (Or.inl ⟨by rfl, ?_⟩) hHeld ?_
    rotate_left
    focus (intro w hSw; (try dsimp only at hSw); go_simp; try (with_reducible rfl))
    try simp only [Act.put, List.setIfInBounds_toArray, List.set_cons_zero, List.set_cons_succ]
    refine wpAnyL_take 12 (i := 5) (oi := ⟨some 21, _, _, _, _, _⟩) (v := ?_) rfl (by kernel_rfl) (by kernel_rfl) (by kernel_rfl) (by kernel_rfl) (by kernel_rfl) (by kernel_rfl) (by kernel_rfl) (fun _ _ _ h => h) (Or.inl ⟨by rfl, ?_⟩) hHeld ?_
    rotate_left
    focus (intro w hSw; (try dsimp only at hSw); go_simp; try (with_reducible rfl))
    try simp only [Act.put, List.setIfInBounds_toArray, List.set_cons_zero, List.set_cons_succ]
    refine wpAnyL_take 12 (i := 6) (oi := ⟨some 22, _, _, _, _, _⟩) (v := ?_) rfl (by kernel_rfl) (by kernel_rfl) (by kernel_rfl) (by kernel_rfl) (by kernel_rfl) (by kernel_rfl) (by kernel_rfl) (fun _ _ _ h => h) (Or.inl ⟨by rfl, ?_⟩) hHeld ?_
    rotate_left
    focus (intro w hSw; (try dsimp only at hSw); go_simp; try (with_reducible rfl))
    try simp only [Act.put, List.setIfInBounds_toArray, List.set_cons_zero, List.set_cons_succ]
    refine wpAnyL_take 12 (i := 7) (oi := ⟨some 15, _, _, _, _, _⟩) (v := ?_) rfl (by kernel_rfl) (by kernel_rfl) (by kernel_rfl) (by kernel_rfl) (by kernel_rfl) (by kernel_rfl) (by kernel_rfl) (fun _ _ _ h => h) (Or.inl ⟨by rfl, ?_⟩) hHeld ?_
    rotate_left
    focus (intro w hSw; (try dsimp only at hSw); go_simp; try (with_reducible rfl))
    try simp only [Act.put, List.setIfInBounds_toArray, List.set_cons_zero, List.set_cons_succ]
    refine wpAnyL_take 12 (i := 8) (oi := ⟨some 23, _, _, _, _, _⟩) (v := ?_) rfl (by kernel_rfl) (by kernel_rfl) (by kernel_rfl) (by kernel_rfl) (by kernel_rfl) (by kernel_rfl) (by kernel_rfl) (fun _ _ _ h => h) (Or.inl ⟨by rfl, ?_⟩) hHeld ?_
    rotate_left
    focus (intro w hSw; (try dsimp only at hSw); go_simp; try (with_reducible rfl))
    try simp only [Act.put, List.setIfInBounds_toArray, List.set_cons_zero, List.set_cons_succ]
    refine wpAnyL_takeW (i := 9) (oi := ⟨some 24, _, _, _, _, _⟩) (v := ?_) rfl (by kernel_rfl) (by kernel_rfl) (by kernel_rfl) (by kernel_rfl) (fun _ _ _ h => h) (Or.inl ⟨by rfl, ?_⟩) (.inr hHeld) ?_
    rotate_left
    focus (intro w hSw; (try dsimp only at hSw); go_simp; try (with_reducible rfl))
    try simp only [Act.put, List.setIfInBounds_toArray, List.set_cons_zero, List.set_cons_succ]
    refine wpAnyL_one (i := 10) (o := ⟨some 6, _, _, _, _, _⟩) (by kernel_rfl) rfl (fun K hK => ?_)
    clear hHeld
    go_simp
    go_wp2_with fail
    refine hK.out _ _ (HS2.out _ (hB3.drew.alloc hB3.drew.size _)) (fun hHeld => ?_)
    clear hK K
    try simp only [Act.put, List.setIfInBounds_toArray, List.set_cons_zero, List.set_cons_succ]
    refine wpAnyL_last (i := 11) (o := ⟨none, _, _, _, _, _⟩) (by kernel_rfl) rfl (by kernel_rfl) (fun K hK => ?_)
    clear hHeld
    go_simp
    go_wp2_with fail
    refine hK.out _ _ ?_
    clear hK K
    try simp only [Act.put, List.setIfInBounds_toArray, List.set_cons_zero, List.set_cons_succ]
    refine wpAnyL_takeW (i := 12) (oi := ⟨some 7, _, _, _, _, _⟩) (v := ?_) rfl (by kernel_rfl) (by kernel_rfl) (by kernel_rfl) (by kernel_rfl) (fun _ _ _ h => h) (Or.inl ⟨by rfl, ?_⟩) (.inl (by kernel_rfl)) ?_
    rotate_left
    focus (intro w hSw; (try dsimp only at hSw); go_simp; try (with_reducible rfl))
    try simp only [Act.put, List.setIfInBounds_toArray, List.set_cons_zero, List.set_cons_succ]
    refine wpAnyL_done (by kernel_rfl) ?_ _
    refine NoPanic.normal ?_
    obtain ⟨w4, hw4⟩ : ∃ w4, (w3.alloc (.cells #[.string ⟨#[]⟩, .slice none 0 0, .slice none 0 0] 58)).drew = w4 := ⟨_, rfl⟩
    have hB34 : Below w3.heap.size w3 w4 := hw4 ▸ ((Below.refl w3.heap.size w3).alloc (Nat.le_refl _) _).drew
    rw [hw4]
    have hB14 := hB3.trans (hB34.mono hB3.size)
    have hB04 : Below w.heap.size w w4 := hB1.trans (hB14.mono hB1.size)
    clear hw4
    obtain ⟨cn, hcn⟩ : ∃ cn, cntN zs.length = cn := ⟨_, rfl⟩
    have hcb : cn ≤ 1261 := by rw [← hcn]; unfold cntN; omega
    have HCO : Hid (∀ w, Calls Tryz.prog 42 #[.int .i64 (zs.length : Int)] w fun e w' => e = .returned (.int .i64 (cn : Nat)) ∧ w' = w) := Lib.hid (fun w => (count_any (zs.length : Int) (by omega) w).mono fun _ _ h => ⟨by rw [← hcn, ← cntI_nat]; exact h.1, h.2.symm⟩)
    have HCN := Lib.hid hcn
    have hP4 := H.out.pl.below hB04
    have HP4 := Lib.hid hP4
    have hY4 : Y < w4.heap.size := Nat.lt_of_lt_of_le hY3 hB34.size
    have HS6 : Hid (∀ W, Below w4.heap.size w4 W → W.cell? ⟨w.heap.size, 1, none⟩ = some (.slice dA zs.length dc)) := Lib.hid fun W hB => (hS0.out W (hB14.trans (hB.mono hB14.size))).2.1
    have hs4 := hB04.size
    have hs14 := hB14.size
    clear hP4 hcn
    by_cases hfit : cn ≤ fr.length
    rotate_left
    · have HDF := Lib.hid hdiff
      go_wp2
      clear hdiff
      refine wp_region_last 7 (fun W => W.cell? ⟨w.heap.size, 1, none⟩ = some (.slice dA zs.length dc)) (by kernel_rfl) (HS6.out _ (Below.refl _ _).drew) (fun hHeld => ?_)
      refine wpAnyL_take 12 (i := 0) (oi := ⟨some 38, _, _, _, _, _⟩) (v := ?_) rfl (by kernel_rfl) (by kernel_rfl) (by kernel_rfl) (by kernel_rfl) (by kernel_rfl) (by kernel_rfl) (by kernel_rfl) (fun _ _ _ h => h) (Or.inl ⟨by rfl, ?_⟩) hHeld ?_
      rotate_left
      focus (intro w hSw; (try dsimp only at hSw); go_simp; try (with_reducible rfl))
      try simp only [Act.put, List.setIfInBounds_toArray, List.set_cons_zero, List.set_cons_succ]
      refine wpAnyL_take 12 (i := 1) (oi := ⟨some 39, _, _, _, _, _⟩) (v := ?_) rfl (by kernel_rfl) (by kernel_rfl) (by kernel_rfl) (by kernel_rfl) (by kernel_rfl) (by kernel_rfl) (by kernel_rfl) (fun _ _ _ h => h) (Or.inl ⟨by rfl, ?_⟩) hHeld ?_
      rotate_left
      focus (intro w hSw; (try dsimp only at hSw); go_simp; try (with_reducible rfl))
      try simp only [Act.put, List.setIfInBounds_toArray, List.set_cons_zero, List.set_cons_succ]
      refine wpAnyL_take 12 (i := 2) (oi := ⟨some 40, _, _, _, _, _⟩) (v := ?_) rfl (by kernel_rfl) (by kernel_rfl) (by kernel_rfl) (by kernel_rfl) (by kernel_rfl) (by kernel_rfl) (by kernel_rfl) (fun _ _ _ h => h) (Or.inl ⟨by rfl, ?_⟩) hHeld ?_
      rotate_left
      focus (intro w hSw; (try dsimp only at hSw); go_simp; try (with_reducible rfl))
      try simp only [Act.put, List.setIfInBounds_toArray, List.set_cons_zero, List.set_cons_succ]
      refine wpAnyL_take 12 (i := 3) (oi := ⟨some 41, _, _, _, _, _⟩) (v := ?_) rfl (by kernel_rfl) (by kernel_rfl) (by kernel_rfl) (by kernel_rfl) (by kernel_rfl) (by kernel_rfl) (by kernel_rfl) (fun _ _ _ h => h) (Or.inl ⟨by rfl, ?_⟩) hHeld ?_
      rotate_left
      focus (intro w hSw; (try dsimp only at hSw); go_simp; try (with_reducible rfl))
      try simp only [Act.put, List.setIfInBounds_toArray, List.set_cons_zero, List.set_cons_succ]
      refine wpAnyL_take 12 (i := 4) (oi := ⟨some 42, _, _, _, _, _⟩) (v := ?_) rfl (by kernel_rfl) (by kernel_rfl) (by kernel_rfl) (by kernel_rfl) (by kernel_rfl) (by kernel_rfl) (by kernel_rfl) (fun _ _ _ h => h) (Or.inl ⟨by rfl, ?_⟩) hHeld ?_
      rotate_left
      focus (intro w hSw; (try dsimp only at hSw); go_simp; try (with_reducible rfl))
      try simp only [Act.put, List.setIfInBounds_toArray, List.set_cons_zero, List.set_cons_succ]
      refine wpAnyL_take 12 (i := 5) (oi := ⟨some 43, _, _, _, _, _⟩) (v := ?_) rfl (by kernel_rfl) (by kernel_rfl) (by kernel_rfl) (by kernel_rfl) (by kernel_rfl) (by kernel_rfl) (by kernel_rfl) (fun _ _ _ h => h) (Or.inl ⟨by rfl, ?_⟩) hHeld ?_
      rotate_left
      focus (intro w hSw; (try dsimp only at hSw); go_simp; try (with_reducible rfl))
      try simp only [Act.put, List.setIfInBounds_toArray, List.set_cons_zero, List.set_cons_succ]
      refine wpAnyL_one (i := 6) (o := ⟨some 44, _, _, _, _, _⟩) (by kernel_rfl) rfl (fun K hK => ?_)
      clear hHeld
      go_simp
      refine (HCO.out _).mono ?_
      rintro e w2' ⟨rfl, rfl⟩
      go_wp2_with fail
      refine hK.out _ _ (HS6.out _ (Below.refl _ _).drew) (fun hHeld => ?_)
      clear hK K
      try simp only [Act.put, List.setIfInBounds_toArray, List.set_cons_zero, List.set_cons_succ]
      refine wpAnyL_last (i := 7) (o := ⟨some 45, _, _, _, _, _⟩) (by kernel_rfl) rfl (by kernel_rfl) (fun K hK => ?_)
      clear hHeld
      go_simp
      refine (take_no X _ v l F fr.length d cn (by omega) (by omega) _ (HP4.out.below (Below.refl _ _).drew) rfl).mono ?_
      rintro e w3' ⟨rfl, rfl⟩
      exact ⟨rfl, .inr ⟨rfl, ⟨HDF.out, (by show fr.length < cntN zs.length; rw [HCN.out]; omega)⟩, hB04.drew⟩⟩
    have hfd := H.out.fd
    have hfn := H.out.fn
    have HTK := Lib.hid (take_ok2 X _ v l F fr d cn hfit hfl hfd hfn w4.drew (HP4.out.below (Below.refl _ _).drew) rfl (RdI.below H.out.free.int hB04.drew))
    have kY4 := HK3.out.below hB34 hY3
    have HKY4 := Lib.hid kY4
    have k04 := HK0.out.below hB14 HK0.out.lt
    have HK04 := Lib.hid k04
    have HDF := Lib.hid hdiff
    clear kY4 k04 hdiff
    go_wp2
    refine wp_region_noPanic ?_
    refine wp_region_last 9 (fun W => W.cell? ⟨w.heap.size, 1, none⟩ = some (.slice dA zs.length dc)) (by kernel_rfl) (HS6.out _ (Below.refl _ _).drew) (fun hHeld => ?_)
    refine wpAnyL_take 12 (i := 0) (oi := ⟨some 38, _, _, _, _, _⟩) (v := ?_) rfl (by kernel_rfl) (by kernel_rfl) (by kernel_rfl) (by kernel_rfl) (by kernel_rfl) (by kernel_rfl) (by kernel_rfl) (fun _ _ _ h => h) (Or.inl ⟨by rfl, ?_⟩) hHeld ?_
    rotate_left
    focus (intro w hSw; (try dsimp only at hSw); go_simp; try (with_reducible rfl))
    try simp only [Act.put, List.setIfInBounds_toArray, List.set_cons_zero, List.set_cons_succ]
    refine wpAnyL_take 12 (i := 1) (oi := ⟨some 39, _, _, _, _, _⟩) (v := ?_) rfl (by kernel_rfl) (by kernel_rfl) (by kernel_rfl) (by kernel_rfl) (by kernel_rfl) (by kernel_rfl) (by kernel_rfl) (fun _ _ _ h => h) (Or.inl ⟨by rfl, ?_⟩) hHeld ?_
    rotate_left
    focus (intro w hSw; (try dsimp only at hSw); go_simp; try (with_reducible rfl))
    try simp only [Act.put, List.setIfInBounds_toArray, List.set_cons_zero, List.set_cons_succ]
    refine wpAnyL_take 12 (i := 2) (oi := ⟨some 40, _, _, _, _, _⟩) (v := ?_) rfl (by kernel_rfl) (by kernel_rfl) (by kernel_rfl) (by kernel_rfl) (by kernel_rfl) (by kernel_rfl) (by kernel_rfl) (fun _ _ _ h => h) (Or.inl ⟨by rfl, ?_⟩) hHeld ?_
    rotate_left
    focus (intro w hSw; (try dsimp only at hSw); go_simp; try (with_reducible rfl))
    try simp only [Act.put, List.setIfInBounds_toArray, List.set_cons_zero, List.set_cons_succ]
    refine wpAnyL_take 12 (i := 3) (oi := ⟨some 41, _, _, _, _, _⟩) (v := ?_) rfl (by kernel_rfl) (by kernel_rfl) (by kernel_rfl) (by kernel_rfl) (by kernel_rfl) (by kernel_rfl) (by kernel_rfl) (fun _ _ _ h => h) (Or.inl ⟨by rfl, ?_⟩) hHeld ?_
    rotate_left
    focus (intro w hSw; (try dsimp only at hSw); go_simp; try (with_reducible rfl))
    try simp only [Act.put, List.setIfInBounds_toArray, List.set_cons_zero, List.set_cons_succ]
    refine wpAnyL_take 12 (i := 4) (oi := ⟨some 42, _, _, _, _, _⟩) (v := ?_) rfl (by kernel_rfl) (by kernel_rfl) (by kernel_rfl) (by kernel_rfl) (by kernel_rfl) (by kernel_rfl) (by kernel_rfl) (fun _ _ _ h => h) (Or.inl ⟨by rfl, ?_⟩) hHeld ?_
    rotate_left
    focus (intro w hSw; (try dsimp only at hSw); go_simp; try (with_reducible rfl))
    try simp only [Act.put, List.setIfInBounds_toArray, List.set_cons_zero, List.set_cons_succ]
    refine wpAnyL_take 12 (i := 5) (oi := ⟨some 43, _, _, _, _, _⟩) (v := ?_) rfl (by kernel_rfl) (by kernel_rfl) (by kernel_rfl) (by kernel_rfl) (by kernel_rfl) (by kernel_rfl) (by kernel_rfl) (fun _ _ _ h => h) (Or.inl ⟨by rfl, ?_⟩) hHeld ?_
    rotate_left
    focus (intro w hSw; (try dsimp only at hSw); go_simp; try (with_reducible rfl))
    try simp only [Act.put, List.setIfInBounds_toArray, List.set_cons_zero, List.set_cons_succ]
    refine wpAnyL_one (i := 6) (o := ⟨some 44, _, _, _, _, _⟩) (by kernel_rfl) rfl (fun K hK => ?_)
    clear hHeld
    go_simp
    refine (HCO.out _).mono ?_
    rintro e w2' ⟨rfl, rfl⟩
    go_wp2_with fail
    refine hK.out _ _ (HS6.out _ (Below.refl _ _).drew) (fun hHeld => ?_)
    clear hK K
    try simp only [Act.put, List.setIfInBounds_toArray, List.set_cons_zero, List.set_cons_succ]
    refine wpAnyL_one (i := 7) (o := ⟨some 45, _, _, _, _, _⟩) (by kernel_rfl) rfl (fun K hK => ?_)
    clear hHeld
    go_simp
    refine HTK.out.mono ?_
    rintro e w5 ⟨At, ac, rfl, F', d', hac, hAn, hoA, hpl5, hfd5, hFn5, hFr5, hFb5, hon5⟩
    have kY5 := hon5.blk HKY4.out (by decide) (by decide)
    obtain ⟨y0, y1, y2⟩ := blk3' kY5
    have q2 := kY5.frozen 2
    have HKY5 := Lib.hid kY5
    have HOA5 := Lib.hid hoA
    have HP5 := Lib.hid hpl5
    have k05 := hon5.blk HK04.out (by decide) (by decide)
    have HK05 := Lib.hid k05
    clear kY5 hoA hpl5
    go_wp2_with fail
    refine hK.out _ _ ((blk3' k05).2.1) (fun hHeld => ?_)
    clear hK K
    try simp only [Act.put, List.setIfInBounds_toArray, List.set_cons_zero, List.set_cons_succ]
    refine wpAnyL_take 12 (i := 8) (oi := ⟨some 46, _, _, _, _, _⟩) (v := ?_) rfl (by kernel_rfl) (by kernel_rfl) (by kernel_rfl) (by kernel_rfl) (by kernel_rfl) (by kernel_rfl) (by kernel_rfl) (fun _ _ _ h => h) (Or.inl ⟨by rfl, ?_⟩) hHeld ?_
    rotate_left
    focus (intro w hSw; (try dsimp only at hSw); go_simp; try (with_reducible rfl))
    try simp only [Act.put, List.setIfInBounds_toArray, List.set_cons_zero, List.set_cons_succ]
    refine wpAnyL_last (i := 9) (o := ⟨none, _, _, _, _, _⟩) (by kernel_rfl) rfl (by kernel_rfl) (fun K hK => ?_)
    clear hHeld
    go_simp
    go_wp2_with fail
    refine hK.out _ _ ?_
    clear hK K
    try simp only [Act.put, List.setIfInBounds_toArray, List.set_cons_zero, List.set_cons_succ]
    refine wpAnyL_done (by kernel_rfl) ?_ _
    refine NoPanic.normal ?_
    have hwd : w4.drew.heap.size = w4.heap.size := rfl
    have hX4 : X < w4.heap.size := Nat.lt_of_lt_of_le hX hs4
    have hYw : w.heap.size ≤ Y := by have := hB1.size; omega
    have hYX : X < Y := by omega
    have ho5 : Only X WT w w5 := (Only.of_below hB04.drew (Nat.le_of_lt hX)).trans hon5
    have ho6 : Only X WT w (w5.setCell ⟨Y, 2, none⟩ (.slice At cn ac)) := ho5.setNew hX hYw 2 _
    have hs5 := hon5.size
    have k6 := HKY5.out.set 2 (.slice At cn ac)
    have hp6 := HP5.out.setFar (i := 2) (u := .slice At cn ac) HKY5.out (by decide) (by decide) (by decide)
    have hoA6 := own_setFar (j := 2) (u := .slice At cn ac) HKY5.out HOA5.out (by decide)
    have hoD5 := hon5.own (own_below3 (own_below3 HO3.out hB34 (Nat.le_refl _)) (Below.refl _ _).drew (Nat.le_refl _)) (by decide) (by decide)
    have hoD6 := own_setFar (j := 2) (u := .slice At cn ac) HKY5.out hoD5 (by decide)
    have k06 : Blk (w5.setCell ⟨Y, 2, none⟩ (.slice At cn ac)) w.heap.size 58 _ := (set_heap w5 Y 2 (.slice At cn ac) w.heap.size (by have := hB1.size; omega)).trans HK05.out
    have kR5 := hon5.blk (HK1.out.below hB14 hlt1).drew (by decide) (by decide)
    have kR6 : Blk (w5.setCell ⟨Y, 2, none⟩ (.slice At cn ac)) (w.heap.size + 1) 58 _ := (set_heap w5 Y 2 (.slice At cn ac) (w.heap.size + 1) (by omega)).trans kR5
    generalize hW6 : w5.setCell ⟨Y, 2, none⟩ (.slice At cn ac) = w6 at *
    have HP6 := Lib.hid hp6
    have HOA6 := Lib.hid hoA6
    have HOD6 := Lib.hid hoD6
    have HK6 := Lib.hid k6
    have HK06 := Lib.hid k06
    have HKR6 := Lib.hid kR6
    have HON6 := Lib.hid ho6
    have hY6 := k6.lt
    have h06 := k06.lt
    have hR6 := kR6.lt
    have hs46 : w4.heap.size ≤ w6.heap.size := by rw [← hW6]; simp; exact hs5
    have HS7 : Hid (∀ W, Below w6.heap.size w6 W → W.cell? ⟨w.heap.size, 1, none⟩ = some (.slice dA zs.length dc) ∧ W.cell? ⟨Y, 2, none⟩ = some (.slice At cn ac)) := Lib.hid fun W hB => ⟨(blk3' (HK06.out.below hB h06)).2.1, (blk3' (HK6.out.below hB hY6)).2.2⟩
    have HRP : Hid (∀ W, W.cell? ⟨w6.heap.size, 0, none⟩ = some (.int .i64 0) → Calls Tryz.prog 80 #[.slice (some ⟨w6.heap.size, 0, none⟩) 1 1, .int .i64 cn] W fun e w' => e = .returned (.slice (some ⟨W.heap.size, 0, none⟩) cn cn) ∧ Blk w' W.heap.size 3 (zsI cn) ∧ Below W.heap.size W w') := Lib.hid fun W hc => repeat_any w6.heap.size 0 1 cn (by omega) W hc
    have HFT : Hid ((fr.take cn).length = cn) := Lib.hid (by rw [List.length_take]; omega)
    have HWR : Hid (∀ w7 g, Below w6.heap.size w6 w7 → Blk w7 g 3 (zsI cn) → Calls Tryz.prog 79 #[.pointer (some ⟨X, 1, none⟩), .slice dA zs.length dc, .slice At cn ac, .slice (some ⟨g, 0, none⟩) cn cn] w7 fun e w' => e = .returned (.tuple #[]) ∧ ∃ v' new, Pl X 1 WT ([.slice F' (fr.drop cn).length d', v, .map (some mb)].set 1 v') v' w' (l ++ new) ∧ new.map Ac.st = (List.range cn).map (wact zs (fr.take cn) (List.replicate cn 0)) ∧ Only X WT w7 w') := Lib.hid fun w7 g hB hg => by
      have hP7 := HP6.out.below hB
      have ho7 : Only X WT w w7 := HON6.out.trans (Only.of_below hB (by omega))
      have ha7 := own_below3 HOA6.out hB (Nat.le_refl _)
      have := write_any_in X _ v l (by omega) ⟨dA, zs, dc⟩ (by show zs.length ≤ _; omega) hdc hxo At (some ⟨g, 0, none⟩) ac cn (fr.take cn) (List.replicate cn 0) (by rw [HFT.out]; exact HCN.out.symm) (by rw [List.length_replicate]; exact HCN.out.symm) (fun z hz => by rw [(List.mem_replicate.1 hz).2]; omega) w7 hP7
        (fun W hW => (HXU.out.belowX (ho7.trans hW).below).rd) (fun W hW => RdI.of_row (hW.own ha7 (by decide) (by decide))) (fun W hW => by have := rd_blk (hW.blk hg (by decide) (by decide)); rw [zsI_ints] at this; exact this)
      rw [HFT.out, List.length_replicate] at this
      simp only [HCN.out] at this
      exact this
    clear hp6 hoA6 hoD6 k6 k06 kR6 ho6 hon5 ho5 hoD5 kR5 hW6 y0 y1 y2 q2
    have hBd6 : Below w6.heap.size w6 w6.drew := (Below.refl _ _).drew
    go_wp2
    refine wp_region_noPanic ?_
    refine wp_region_last 12 (fun W => W.cell? ⟨w.heap.size, 1, none⟩ = some (.slice dA zs.length dc) ∧ W.cell? ⟨Y, 2, none⟩ = some (.slice At cn ac)) (by kernel_rfl) (HS7.out _ hBd6) (fun hHeld => ?_)
    refine wpAnyL_take 12 (i := 0) (oi := ⟨some 47, _, _, _, _, _⟩) (v := ?_) rfl (by kernel_rfl) (by kernel_rfl) (by kernel_rfl) (by kernel_rfl) (by kernel_rfl) (by kernel_rfl) (by kernel_rfl) (fun _ _ _ h => h) (Or.inl ⟨by rfl, ?_⟩) hHeld ?_
    rotate_left
    focus (intro w hSw; (try dsimp only at hSw); go_simp; try (with_reducible rfl))
    try simp only [Act.put, List.setIfInBounds_toArray, List.set_cons_zero, List.set_cons_succ]
    refine wpAnyL_take 12 (i := 1) (oi := ⟨some 48, _, _, _, _, _⟩) (v := ?_) rfl (by kernel_rfl) (by kernel_rfl) (by kernel_rfl) (by kernel_rfl) (by kernel_rfl) (by kernel_rfl) (by kernel_rfl) (fun _ _ _ h => h) (Or.inl ⟨by rfl, ?_⟩) hHeld ?_
    rotate_left
    focus (intro w hSw; (try dsimp only at hSw); go_simp; try (with_reducible rfl))
    try simp only [Act.put, List.setIfInBounds_toArray, List.set_cons_zero, List.set_cons_succ]
    refine wpAnyL_take 12 (i := 2) (oi := ⟨some 49, _, _, _, _, _⟩) (v := ?_) rfl (by kernel_rfl) (by kernel_rfl) (by kernel_rfl) (by kernel_rfl) (by kernel_rfl) (by kernel_rfl) (by kernel_rfl) (fun _ _ _ h => h) (Or.inl ⟨by rfl, ?_⟩) hHeld ?_
    rotate_left
    focus (intro w hSw; (try dsimp only at hSw); go_simp; try (with_reducible rfl))
    try simp only [Act.put, List.setIfInBounds_toArray, List.set_cons_zero, List.set_cons_succ]
    refine wpAnyL_take 12 (i := 3) (oi := ⟨some 50, _, _, _, _, _⟩) (v := ?_) rfl (by kernel_rfl) (by kernel_rfl) (by kernel_rfl) (by kernel_rfl) (by kernel_rfl) (by kernel_rfl) (by kernel_rfl) (fun _ _ _ h => h) (Or.inl ⟨by rfl, ?_⟩) hHeld ?_
    rotate_left
    focus (intro w hSw; (try dsimp only at hSw); go_simp; try (with_reducible rfl))
    try simp only [Act.put, List.setIfInBounds_toArray, List.set_cons_zero, List.set_cons_succ]
    refine wpAnyL_take 12 (i := 4) (oi := ⟨some 51, _, _, _, _, _⟩) (v := ?_) rfl (by kernel_rfl) (by kernel_rfl) (by kernel_rfl) (by kernel_rfl) (by kernel_rfl) (by kernel_rfl) (by kernel_rfl) (fun _ _ _ h => h) (Or.inl ⟨by rfl, ?_⟩) hHeld ?_
    rotate_left
    focus (intro w hSw; (try dsimp only at hSw); go_simp; try (with_reducible rfl))
    try simp only [Act.put, List.setIfInBounds_toArray, List.set_cons_zero, List.set_cons_succ]
    refine wpAnyL_take 12 (i := 5) (oi := ⟨some 52, _, _, _, _, _⟩) (v := ?_) rfl (by kernel_rfl) (by kernel_rfl) (by kernel_rfl) (by kernel_rfl) (by kernel_rfl) (by kernel_rfl) (by kernel_rfl) (fun _ _ _ h => h) (Or.inl ⟨by rfl, ?_⟩) hHeld ?_
    rotate_left
    focus (intro w hSw; (try dsimp only at hSw); go_simp; try (with_reducible rfl))
    try simp only [Act.put, List.setIfInBounds_toArray, List.set_cons_zero, List.set_cons_succ]
    refine wpAnyL_take 12 (i := 6) (oi := ⟨some 53, _, _, _, _, _⟩) (v := ?_) rfl (by kernel_rfl) (by kernel_rfl) (by kernel_rfl) (by kernel_rfl) (by kernel_rfl) (by kernel_rfl) (by kernel_rfl) (fun _ _ _ h => h) (Or.inl ⟨by rfl, ?_⟩) hHeld ?_
    rotate_left
    focus (intro w hSw; (try dsimp only at hSw); go_simp; try (with_reducible rfl))
    try simp only [Act.put, List.setIfInBounds_toArray, List.set_cons_zero, List.set_cons_succ]
    refine wpAnyL_take 12 (i := 8) (oi := ⟨some 55, _, _, _, _, _⟩) (v := ?_) rfl (by kernel_rfl) (by kernel_rfl) (by kernel_rfl) (by kernel_rfl) (by kernel_rfl) (by kernel_rfl) (by kernel_rfl) (fun _ _ _ h => h) (Or.inl ⟨by rfl, ?_⟩) hHeld ?_
    rotate_left
    focus (intro w hSw; (try dsimp only at hSw); go_simp; try (with_reducible rfl))
    try simp only [Act.put, List.setIfInBounds_toArray, List.set_cons_zero, List.set_cons_succ]
    refine wpAnyL_take 12 (i := 9) (oi := ⟨some 56, _, _, _, _, _⟩) (v := ?_) rfl (by kernel_rfl) (by kernel_rfl) (by kernel_rfl) (by kernel_rfl) (by kernel_rfl) (by kernel_rfl) (by kernel_rfl) (fun _ _ _ h => h) (Or.inl ⟨by rfl, ?_⟩) hHeld ?_
    rotate_left
    focus (intro w hSw; (try dsimp only at hSw); go_simp; try (with_reducible rfl))
    try simp only [Act.put, List.setIfInBounds_toArray, List.set_cons_zero, List.set_cons_succ]
    refine wpAnyL_take 12 (i := 10) (oi := ⟨some 57, _, _, _, _, _⟩) (v := ?_) rfl (by kernel_rfl) (by kernel_rfl) (by kernel_rfl) (by kernel_rfl) (by kernel_rfl) (by kernel_rfl) (by kernel_rfl) (fun _ _ _ h => h) (Or.inl ⟨by rfl, ?_⟩) hHeld ?_
    rotate_left
    focus (intro w hSw; (try dsimp only at hSw); go_simp; try (with_reducible rfl))
    try simp only [Act.put, List.setIfInBounds_toArray, List.set_cons_zero, List.set_cons_succ]
    refine wpAnyL_one (i := 7) (o := ⟨some 54, _, _, _, _, _⟩) (by kernel_rfl) rfl (fun K hK => ?_)
    clear hHeld
    go_simp
    have hBa : Below w6.heap.size w6 (w6.drew.alloc (.cells #[.int .i64 0] 3)) := hBd6.alloc hBd6.size _
    have hc0 : (w6.drew.alloc (.cells #[.int .i64 0] 3)).cell? ⟨w6.heap.size, 0, none⟩ = some (.int .i64 0) := (Blk.new w6.drew [.int .i64 0] 3).cell 0
    go_wp2_with fail
    refine hK.out _ _ (HS7.out _ hBa) (fun hHeld => ?_)
    clear hK K
    try simp only [Act.put, List.setIfInBounds_toArray, List.set_cons_zero, List.set_cons_succ]
    refine wpAnyL_one (i := 11) (o := ⟨some 58, _, _, _, _, _⟩) (by kernel_rfl) rfl (fun K hK => ?_)
    clear hHeld
    go_simp
    refine (HRP.out _ hc0).mono ?_
    rintro e w7 ⟨rfl, hk7, hB7⟩
    have hB67 : Below w6.heap.size w6 w7 := hBa.trans (hB7.mono hBa.size)
    rw [World.size_alloc] at hk7
    have HWX := Lib.hid (HWR.out w7 (w6.heap.size + 1) hB67 hk7)
    go_wp2_with fail
    refine hK.out _ _ (HS7.out _ hB67) (fun hHeld => ?_)
    clear hK K
    try simp only [Act.put, List.setIfInBounds_toArray, List.set_cons_zero, List.set_cons_succ]
    refine wpAnyL_last (i := 12) (o := ⟨some 59, _, _, _, _, _⟩) (by kernel_rfl) rfl (by kernel_rfl) (fun K hK => ?_)
    clear hHeld
    go_simp
    refine HWX.out.mono ?_
    rintro e w8 ⟨rfl, v', new, hp8, hn8, ho78⟩
    go_wp2_with fail
    refine hK.out _ _ ?_
    clear hK K
    try simp only [Act.put, List.setIfInBounds_toArray, List.set_cons_zero, List.set_cons_succ]
    refine wpAnyL_done (by kernel_rfl) ?_ _
    refine NoPanic.normal ?_
    have k8 := ho78.blk (HK6.out.below hB67 hY6) (by decide) (by decide)
    have kR8 := ho78.blk (HKR6.out.below hB67 hR6) (by decide) (by decide)
    have oA8 := ho78.own (own_below3 HOA6.out hB67 (Nat.le_refl _)) (by decide) (by decide)
    have oD8 := ho78.own (own_below3 HOD6.out hB67 (Nat.le_refl _)) (by decide) (by decide)
    have ho8 : Only X WT w w8 := (HON6.out.trans (Only.of_below hB67 (by omega))).trans ho78
    obtain ⟨y0, y1, y2⟩ := blk3' k8
    obtain ⟨r0, r1, r2⟩ := blk3' kR8
    have s0 := kR8.frozen 0
    have s1 := kR8.frozen 1
    have s2 := kR8.frozen 2
    have HKR8 := Lib.hid kR8
    have HOA8 := Lib.hid oA8
    have HOD8 := Lib.hid oD8
    have HP8 := Lib.hid hp8
    clear k8 kR8 oA8 oD8 hp8
    go_wp2
    have kR := ((HKR8.out.set 0 (.string key)).set 1 (.slice A3 zs.length c3)).set 2 (.slice At cn ac)
    obtain ⟨d0, d1, d2⟩ := blk3' kR
    have hoW : Only X WT w (((w8.setCell ⟨w.heap.size + 1, 0, none⟩ (.string key)).setCell ⟨w.heap.size + 1, 1, none⟩ (.slice A3 zs.length c3)).setCell ⟨w.heap.size + 1, 2, none⟩ (.slice At cn ac)) := ((ho8.setNew hX (Nat.le_succ _) 0 _).setNew hX (Nat.le_succ _) 1 _).setNew hX (Nat.le_succ _) 2 _
    refine bodyPost_ret (v := obval key A3 zs.length c3 At cn ac) (by simp [results, Tryz.results53, go_sem, d0, d1, d2]) rfl (.inl ⟨⟨key, ⟨A3, zs, c3⟩, At, fr.take cn, ac⟩, ?_, rfl, rfl, ?_, ?_, F', fr.drop cn, d', v', new, ?_, hoW, .inr ⟨HDF.out, ?_, ?_, ?_, ?_⟩⟩)
    · show Ending.returned (obval key A3 zs.length c3 At cn ac) = .returned (obval key A3 zs.length c3 At (fr.take cn).length ac)
      rw [HFT.out]
    · exact own_base (own_set3 HKR8.out HOD8.out (by decide)) hB1.size
    · show World.ownsRow _ _ _ 1 (.slice At (fr.take cn).length ac) (fr.take cn).length (ints (fr.take cn))
      rw [HFT.out]
      exact own_base (own_set3 HKR8.out HOA8.out (by decide)) hs4
    · exact H.out.move (HP8.out.set3 HKR8.out (by decide) (by decide) (by decide)) hoW (fun hu => hu.of_int hFr5 hFb5) hfd5 hFn5
    · show cntN zs.length ≤ fr.length
      rw [HCN.out]; exact hfit
    · show fr.take cn = fr.take (cntN zs.length)
      rw [HCN.out]
    · show fr.drop cn = fr.drop (cntN zs.length)
      rw [HCN.out]
    · show new.map Ac.st = (List.range (cntN zs.length)).map (wact zs (fr.take cn) (List.replicate (cntN zs.length) 0))
      rw [HCN.out]
      exact hn8

end Go.Proofs.YtfeeejigedndcaaGreat

namespace Go.Proofs.YtfeeejigedndcaaGreat
open Go.ChangeShapes Go.WideShapes Go.ChangeAt Go.RowKit
set_option maxRecDepth 100000

abbrev AcT : Type := Bool × Int × List Int

/-- The writes of octets. -/
def wrs (zs ats nxs : List Int) : List AcT := (List.range (cntN zs.length)).map (wact zs ats nxs)

/-- Objects are laid one by one: those that are there stay, the others go where there is room. -/
inductive Placing (old : List PO) (fr0 : List Int) : List PO → List PO → List Int → List AcT → Prop
  | nil : Placing old fr0 [] [] fr0 []
  | same {xs ys : List PO} {fr : List Int} {aw : List AcT} (x o : PO) : Placing old fr0 xs ys fr aw → o ∈ old → o.key = x.key → o.data = x.data → Placing old fr0 (xs ++ [x]) (ys ++ [⟨x.key, x.data, o.at_⟩]) fr aw
  | new {xs ys : List PO} {fr : List Int} {aw : List AcT} (x : PO) : Placing old fr0 xs ys fr aw → (∀ o ∈ old, o.key = x.key → o.data ≠ x.data) → cntN x.data.length ≤ fr.length →
      Placing old fr0 (xs ++ [x]) (ys ++ [⟨x.key, x.data, fr.take (cntN x.data.length)⟩]) (fr.drop (cntN x.data.length)) (aw ++ wrs x.data (fr.take (cntN x.data.length)) (List.replicate (cntN x.data.length) 0))

theorem wrs_length (zs ats nxs : List Int) : (wrs zs ats nxs).length = cntN zs.length := by simp [wrs]
theorem wrs_facts {zs ats nxs : List Int} (h : ats.length = cntN zs.length) : ∀ a ∈ wrs zs ats nxs, a.1 = false ∧ a.2.1 ∈ ats ∧ a.2.2.length = 64 := by
  intro a ha
  obtain ⟨i, hi, rfl⟩ := List.mem_map.1 ha
  have hi' : i < ats.length := by have := List.mem_range.1 hi; omega
  refine ⟨rfl, ?_, pgO_length _ (piece_le _ _)⟩
  show ats.getD i 0 ∈ ats
  rw [List.getD_eq_getElem?_getD, List.getElem?_eq_getElem hi']
  exact List.getElem_mem hi'

theorem Placing.facts {old : List PO} {fr0 : List Int} {xs ys : List PO} {fr : List Int} {aw : List AcT} (h : Placing old fr0 xs ys fr aw) (hold : ∀ o ∈ old, o.at_.length = cntN o.data.length) :
    ys.map (·.key) = xs.map (·.key) ∧ ys.map (·.data) = xs.map (·.data) ∧ (∀ y ∈ ys, y.at_.length = cntN y.data.length) ∧ aw.length + fr.length = fr0.length ∧ (∃ k, fr = fr0.drop k) ∧ ∀ a ∈ aw, a.1 = false ∧ a.2.1 ∈ fr0 ∧ a.2.2.length = 64 := by
  induction h with
  | nil => exact ⟨rfl, rfl, fun y hy => (by cases hy), by simp, ⟨0, rfl⟩, fun a ha => (by cases ha)⟩
  | same x o h1 h2 h3 h4 ih =>
    obtain ⟨e1, e2, e3, e4, e5, e6⟩ := ih
    refine ⟨by simp [e1], by simp [e2], fun y hy => ?_, e4, e5, e6⟩
    rcases List.mem_append.1 hy with hy | hy
    · exact e3 y hy
    · simp at hy
      subst hy
      show o.at_.length = cntN x.data.length
      rw [hold o h2, h4]
  | new x h1 h2 h3 ih =>
    obtain ⟨e1, e2, e3, e4, ⟨k, e5⟩, e6⟩ := ih
    rename_i fr' aw'
    have hl : (fr'.take (cntN x.data.length)).length = cntN x.data.length := by rw [List.length_take]; omega
    refine ⟨by simp [e1], by simp [e2], fun y hy => ?_, ?_, ⟨k + cntN x.data.length, by rw [e5, List.drop_drop]⟩, fun a ha => ?_⟩
    · rcases List.mem_append.1 hy with hy | hy
      · exact e3 y hy
      · simp at hy
        subst hy
        exact hl
    · rw [List.length_append, wrs_length, List.length_drop]
      omega
    · rcases List.mem_append.1 ha with ha | ha
      · exact e6 a ha
      · obtain ⟨f1, f2, f3⟩ := wrs_facts hl a ha
        refine ⟨f1, ?_, f3⟩
        have f4 := List.mem_of_mem_take f2
        rw [e5] at f4
        exact List.mem_of_mem_drop f4
theorem Placing.length {old : List PO} {fr0 : List Int} {xs ys : List PO} {fr : List Int} {aw : List AcT} (h : Placing old fr0 xs ys fr aw) : ys.length = xs.length := by
  induction h with
  | nil => rfl
  | same x o h1 h2 h3 h4 ih => simp [ih]
  | new x h1 h2 h3 ih => simp [ih]

/-- What is written last: all that is new stands ahead of it. -/
def lastActs (u : Ub) : List AcT := [(true, 0, []), (false, u.t % 2, u.octs), (true, 0, [])]

/-- The index of a commit. -/
def Indexed (fr : List Int) (ys : List PO) (ix : List Int) (f : Int) (wi : List AcT) : Prop :=
  (ys = [] ∧ ix = [] ∧ f = 0 ∧ wi = []) ∨
  (ys ≠ [] ∧ cntN (wr (idxT ys)).length ≤ fr.length ∧ ix = fr.take (cntN (wr (idxT ys)).length) ∧ f = ix.getD 0 0 ∧ wi = wrs (wr (idxT ys)) ix (ix.drop 1 ++ [0]))

/-- A store, behind a commit of objects to one. -/
structure Committed (s : PS) (l : List PO) (u : PS) (aw : List AcT) : Prop where
  lay : ∃ fr pl wi, Placing s.os (freeL s.dev.secs.length s.secs) l u.os fr pl ∧ Indexed fr u.os u.ix u.u.f wi ∧ aw = pl ++ wi ++ lastActs u.u
  t : u.u.t = s.u.t + 1
  o : u.u.o = l.length
  dev : u.dev = doL s.dev aw

/-- How many sectors objects need, with their index. -/
def pgSum (l : List PO) : Nat := (l.map fun o => cntN o.data.length).sum
def need (l : List PO) : Nat := pgSum l + if l = [] then 0 else cntN (idxSize l)
/-- There is no room. -/
def Full (s : PS) (l : List PO) : Prop := (freeL s.dev.secs.length s.secs).length < need l
theorem pgSum_append (a b : List PO) : pgSum (a ++ b) = pgSum a + pgSum b := by simp [pgSum]
theorem pgSum_take (l : List PO) (k : Nat) : pgSum (l.take k) ≤ pgSum l := by
  have h : pgSum l = pgSum (l.take k ++ l.drop k) := by rw [List.take_append_drop]
  rw [h, pgSum_append]
  omega
theorem Placing.writes {old : List PO} {fr0 : List Int} {xs ys : List PO} {fr : List Int} {aw : List AcT} (h : Placing old fr0 xs ys fr aw) : aw.length ≤ pgSum xs := by
  induction h with
  | nil => simp
  | same x o h1 h2 h3 h4 ih => rw [pgSum_append]; omega
  | new x h1 h2 h3 ih =>
    rw [pgSum_append, List.length_append, wrs_length]
    have : pgSum [x] = cntN x.data.length := by simp [pgSum]
    omega

theorem idx_len {ys : List PO} : (wr (idxT ys)).length = 2 + (ys.map fun y => 17 + y.key.size + 8 * y.at_.length).foldr (· + ·) 0 := by
  rw [wr_length]
  have : ∀ l : List PO, (body (idxT l)).length = (l.map fun y => 17 + y.key.size + 8 * y.at_.length).foldr (· + ·) 0 := by
    intro l
    induction l with
    | nil => rfl
    | cons x l ih =>
      have e : idxT (x :: l) = x.key :: numT x.data.length :: numsT x.at_ :: idxT l := rfl
      rw [e]
      simp only [body, List.length_append, part1_length, List.map_cons, List.foldr_cons, numT_size, numsT_size, ih]
      omega
  rw [this]
theorem idx_sum {ys : List PO} (h0 : ys ≠ []) (h : ∀ y ∈ ys, y.at_.length = cntN y.data.length) : (wr (idxT ys)).length = idxSize ys := by
  rw [idx_len]
  unfold idxSize sumOne
  rw [if_neg h0]
  congr 2
  refine List.map_congr_left fun y hy => ?_
  rw [h y hy]
  rfl
theorem one_same {xs ys : List PO} (h1 : ys.map (·.key) = xs.map (·.key)) (h2 : ys.map (·.data) = xs.map (·.data)) : idxSize ys = idxSize xs := by
  have hs : sumOne ys = sumOne xs := by
    unfold sumOne
    congr 1
    have hl : ys.length = xs.length := by have := congrArg List.length h1; simpa using this
    refine List.ext_getElem (by simpa using hl) fun i hi hj => ?_
    simp only [List.length_map] at hi hj
    have e1 := congrArg (fun l => l[i]?) h1
    have e2 := congrArg (fun l => l[i]?) h2
    simp only [List.getElem?_map, List.getElem?_eq_getElem hi, List.getElem?_eq_getElem hj, Option.map_some, Option.some.injEq] at e1 e2
    simp only [List.getElem_map, one, e1, e2]
  have h0 : ys = [] ↔ xs = [] := by
    have hl : ys.length = xs.length := by have := congrArg List.length h1; simpa using this
    rw [← List.length_eq_zero_iff, ← List.length_eq_zero_iff, hl]
  unfold idxSize
  rw [hs]
  by_cases h : ys = []
  · rw [if_pos h, if_pos (h0.1 h)]
  · rw [if_neg h, if_neg (fun h' => h (h0.2 h'))]

end Go.Proofs.YtfeeejigedndcaaGreat

namespace Go.Proofs.YtfeeejigedndcaaGreat
open Go.ChangeShapes Go.WideShapes Go.ChangeAt Go.RowKit Go.Maps
set_option maxRecDepth 100000

/-- Blocks of other types stay. -/
def Away (T : TypeId) (W W' : World) : Prop := ∀ (k : Nat) cur t z, W.heap[k]? = some (.cells cur t z) → t ≠ T → W'.heap[k]? = W.heap[k]?
theorem Away.trans {T : TypeId} {A B C : World} (h : Away T A B) (k : Away T B C) : Away T A C := fun i cur t z hi h1 => by
  have e := h i cur t z hi h1
  exact (k i cur t z (e.trans hi) h1).trans e
theorem Away.of_below {T : TypeId} {W W' : World} (h : Below W.heap.size W W') : Away T W W' := fun k _ _ _ hk _ => h.block k (Array.getElem?_eq_some_iff.1 hk).1
theorem Away.blk {T : TypeId} {W W' : World} (h : Away T W W') {g : Nat} {t : TypeId} {vs : List Value} (hb : Blk W g t vs) (h1 : t ≠ T) : Blk W' g t vs := (h g _ t _ hb h1).trans hb
theorem Away.own {T : TypeId} {W W' : World} (h : Away T W W') {base size k : Nat} {e : TypeId} {v : Value} {xs : List Value} (ho : W.ownsRow base e size v k xs) (h1 : e ≠ T) : W'.ownsRow base e size v k xs :=
  own_stay ho fun b hb => by
    rcases ho.2 with ⟨rfl, _⟩ | ⟨g, cap, cur, rfl, _, hg, _⟩
    · cases hb
    · simp only [Value.ownBlock, Option.some.injEq] at hb
      subst hb
      exact h g _ _ _ hg h1
theorem Away.pl {T : TypeId} {W W' : World} (h : Away T W W') {X j : Nat} {T' : TypeId} {vs : List Value} {v : Value} {l : List Ac} (hp : Pl X j T' vs v W l) (h1 : T' ≠ T) (h2 : 82 ≠ T) (h3 : 5 ≠ T) : Pl X j T' vs v W' l :=
  ⟨h.blk hp.blk h1, hp.at_, h.own hp.row h2, fun a ha => h.own (hp.data a ha) h3⟩
theorem WrAt.away {base X : Nat} {W W' : World} {F : Option Addr} {fr : List Int} {d mb n : Nat} {D : Dv2} {os : List Ob} {v : Value} {l : List Ac} (h : WrAt base X W F fr d mb n D os v l) {T : TypeId} (ha : Away T W W') (hB : Below X W W')
    (h1 : WT ≠ T) (h2 : 82 ≠ T) (h3 : 5 ≠ T) : WrAt base X W' F fr d mb n D os v l :=
  ⟨ha.pl h.pl h1 h2 h3, h.free.belowX hB, h.fd, h.fn, h.mlt, own_map_block h.mp (hB.block mb h.mlt), h.mis, h.bX⟩
/-- A row that grows is away from all other types. -/
theorem away_grown {T : TypeId} {W W' : World} {base size k : Nat} {v : Value} {xs : List Value} (ho : W.ownsRow base T size v k xs) (hg : W.grownBy W' v.ownBlock) : Away T W W' := fun i cur t z hi h1 =>
  hg.block i (Array.getElem?_eq_some_iff.1 hi).1 (fun e => by
    rcases ho.2 with ⟨rfl, _⟩ | ⟨g, cap, cur', rfl, _, hh, _⟩
    · cases e
    · simp only [Value.ownBlock, Option.some.injEq] at e
      subst e
      have := hh.symm.trans hi
      simp at this
      exact h1 this.2.1.symm)
theorem away_set {T : TypeId} {W : World} {Y j : Nat} {u : Value} {vs : List Value} (h : Blk W Y T vs) : Away T W (W.setCell ⟨Y, j, none⟩ u) := fun i cur t z hi h1 =>
  set_heap W Y j u i (fun e => by
    subst e
    have := h.symm.trans hi
    simp at this
    exact h1 this.2.1.symm)

/-- The box of the store that is made. -/
abbrev outCells (t f o : Int) (vO vI : Value) : List Value := [.slice none 0 0, .slice none 0 0, .int .i64 t, .int .i64 f, .int .i64 o, vO, vI]
/-- Objects that are laid. -/
structure CJ (base X Y : Nat) (W : World) (t o : Int) (F : Option Addr) (fr : List Int) (d mb n : Nat) (D : Dv2) (os : List Ob) (v : Value) (l : List Ac) (vO : Value) (ys : List Ob) : Prop where
  wr : WrAt base X W F fr d mb n D os v l
  box : Blk W Y 32 (outCells t 0 o vO (.slice none 0 0))
  row : W.ownsRow X 58 3 vO ys.length (obCells ys)
  data : ∀ y ∈ ys, W.ownsRow X 5 1 y.d.val y.d.zs.length (octCells y.d.zs)
  at_ : ∀ y ∈ ys, W.ownsRow X 3 1 (.slice y.B y.ns.length y.e) y.ns.length (ints y.ns)
  bY : X < Y
theorem CJ.below {base X Y : Nat} {W W' : World} {t o : Int} {F : Option Addr} {fr : List Int} {d mb n : Nat} {D : Dv2} {os : List Ob} {v : Value} {l : List Ac} {vO : Value} {ys : List Ob} (h : CJ base X Y W t o F fr d mb n D os v l vO ys) (hB : Below W.heap.size W W') : CJ base X Y W' t o F fr d mb n D os v l vO ys :=
  ⟨h.wr.away (T := 0) (Away.of_below hB) (hB.mono (Nat.le_of_lt h.wr.pl.blk.lt)) (by decide) (by decide) (by decide), h.box.below hB h.box.lt, own_below3 h.row hB (Nat.le_refl _), fun y hy => own_below3 (h.data y hy) hB (Nat.le_refl _), fun y hy => own_below3 (h.at_ y hy) hB (Nat.le_refl _), h.bY⟩
theorem CJ.only {base X Y : Nat} {W W' : World} {t o : Int} {F F' : Option Addr} {fr fr' : List Int} {d d' mb n : Nat} {D : Dv2} {os : List Ob} {v v' : Value} {l l' : List Ac} {vO : Value} {ys : List Ob} (h : CJ base X Y W t o F fr d mb n D os v l vO ys) (ho : Only X WT W W') (hw : WrAt base X W' F' fr' d' mb n D os v' l') : CJ base X Y W' t o F' fr' d' mb n D os v' l' vO ys :=
  ⟨hw, ho.blk h.box (by decide) (by decide), ho.own h.row (by decide) (by decide), fun y hy => ho.own (h.data y hy) (by decide) (by decide), fun y hy => ho.own (h.at_ y hy) (by decide) (by decide), h.bY⟩
theorem CJ.push {base X Y : Nat} {w2 w4 : World} {t o : Int} {F : Option Addr} {fr : List Int} {d mb n : Nat} {D : Dv2} {os : List Ob} {v : Value} {l : List Ac} {vO v' : Value} {ys : List Ob} {y : Ob} (h : CJ base X Y w2 t o F fr d mb n D os v l vO ys)
    (hd : w2.ownsRow X 5 1 y.d.val y.d.zs.length (octCells y.d.zs)) (ha : w2.ownsRow X 3 1 (.slice y.B y.ns.length y.e) y.ns.length (ints y.ns))
    (hown : w4.ownsRow X 58 3 v' (ys.length + 1) (obCells ys ++ [.string y.key, y.d.val, .slice y.B y.ns.length y.e])) (hgrow : (w2.alloc (.cells #[.string y.key, y.d.val, .slice y.B y.ns.length y.e] 58)).grownBy w4 vO.ownBlock) :
    CJ base X Y (w4.setCell ⟨Y, 5, none⟩ v') t o F fr d mb n D os v l v' (ys ++ [y]) ∧ Below X w2 (w4.setCell ⟨Y, 5, none⟩ v') ∧ Away 58 (w2.alloc (.cells #[.string y.key, y.d.val, .slice y.B y.ns.length y.e] 58)) w4 := by
  have hB3 : Below w2.heap.size w2 (w2.alloc (.cells #[.string y.key, y.d.val, .slice y.B y.ns.length y.e] 58)) := (Below.refl _ _).alloc (Nat.le_refl _) _
  have h3 := h.below hB3
  have hd3 := own_below3 hd hB3 (Nat.le_refl _)
  have ha3 := own_below3 ha hB3 (Nat.le_refl _)
  have hX := h.wr.pl.blk.lt
  have hX3 := h3.wr.pl.blk.lt
  generalize w2.alloc (.cells #[.string y.key, y.d.val, .slice y.B y.ns.length y.e] 58) = w3 at *
  have hA4 : Away 58 w3 w4 := away_grown h3.row hgrow
  have hB4 : Below X w3 w4 := (Below.refl _ _).grown hgrow (Nat.le_of_lt hX3) (fun k e => (h3.row.lt k e).1)
  have kY4 := hA4.blk h3.box (by decide)
  have hA5 : Away 32 w4 (w4.setCell ⟨Y, 5, none⟩ v') := away_set kY4
  have hB5 : Below X w4 (w4.setCell ⟨Y, 5, none⟩ v') := (Below.refl _ _).setCell (p := ⟨Y, 5, none⟩) (Nat.le_of_lt h.bY) _
  have dd : ∀ (p : Value) (n : Nat) (xs : List Value), w3.ownsRow X 5 1 p n xs → (w4.setCell ⟨Y, 5, none⟩ v').ownsRow X 5 1 p n xs := fun p n xs hh => hA5.own (hA4.own hh (by decide)) (by decide)
  have di : ∀ (p : Value) (n : Nat) (xs : List Value), w3.ownsRow X 3 1 p n xs → (w4.setCell ⟨Y, 5, none⟩ v').ownsRow X 3 1 p n xs := fun p n xs hh => hA5.own (hA4.own hh (by decide)) (by decide)
  refine ⟨⟨?_, ?_, ?_, ?_, ?_, h.bY⟩, (hB3.mono (Nat.le_of_lt hX)).trans (hB4.trans hB5), hA4⟩
  · exact (h3.wr.away hA4 hB4 (by decide) (by decide) (by decide)).away hA5 hB5 (by decide) (by decide) (by decide)
  · exact kY4.set 5 v'
  · rw [List.length_append, obCells_snoc]
    exact hA5.own hown (by decide)
  · intro z hz
    rcases List.mem_append.1 hz with hz | hz
    · exact dd _ _ _ (h3.data z hz)
    · simp at hz
      subst hz
      exact dd _ _ _ hd3
  · intro z hz
    rcases List.mem_append.1 hz with hz | hz
    · exact di _ _ _ (h3.at_ z hz)
    · simp at hz
      subst hz
      exact di _ _ _ ha3

theorem placing_step {os : List Ob} {fr0 fr fr' : List Int} {xs : List PO} {ys : List Ob} {l new : List Ac} (hP : Placing (os.map Ob.st) fr0 xs (ys.map Ob.st) fr (l.map Ac.st)) (x y : Ob) (hk : y.key = x.key) (hd : y.d.zs = x.d.zs)
    (hway : (∃ o ∈ os, o.key = x.key ∧ o.d.zs = x.d.zs ∧ y.ns = o.ns ∧ fr' = fr ∧ new = []) ∨
     ((∀ o ∈ os, o.key = x.key → o.d.zs ≠ x.d.zs) ∧ cntN x.d.zs.length ≤ fr.length ∧ y.ns = fr.take (cntN x.d.zs.length) ∧ fr' = fr.drop (cntN x.d.zs.length) ∧ new.map Ac.st = (List.range (cntN x.d.zs.length)).map (wact x.d.zs y.ns (List.replicate (cntN x.d.zs.length) 0)))) :
    Placing (os.map Ob.st) fr0 (xs ++ [x.st]) ((ys ++ [y]).map Ob.st) fr' ((l ++ new).map Ac.st) := by
  rcases hway with ⟨o, ho, h1, h2, h3, rfl, rfl⟩ | ⟨h1, h2, h3, rfl, h4⟩
  · have := Placing.same x.st o.st hP (List.mem_map.2 ⟨o, ho, rfl⟩) h1 h2
    rw [List.append_nil, List.map_append]
    have e : y.st = ⟨x.key, x.d.zs, o.ns⟩ := by show PO.mk y.key y.d.zs y.ns = _; rw [hk, hd, h3]
    show Placing _ _ _ (_ ++ [y.st]) _ _
    rw [e]
    exact this
  · have := Placing.new x.st hP (fun o ho => by
      obtain ⟨o', ho', rfl⟩ := List.mem_map.1 ho
      exact h1 o' ho') h2
    rw [List.map_append, List.map_append, h4]
    have e : y.st = ⟨x.key, x.d.zs, fr.take (cntN x.d.zs.length)⟩ := by show PO.mk y.key y.d.zs y.ns = _; rw [hk, hd, h3]
    show Placing _ _ _ (_ ++ [y.st]) _ _
    rw [e, h3]
    exact this

/-- All objects are laid, and the index. -/
structure CT (X Y : Nat) (W : World) (d0 d1 : Value) (t f o : Int) (vs : List Value) (v : Value) (l : List Ac) (vO : Value) (ys : List Ob) (vI : Value) (ix : List Int) : Prop where
  pl : Pl X 1 WT vs v W l
  box : Blk W Y 32 [d0, d1, .int .i64 t, .int .i64 f, .int .i64 o, vO, vI]
  row : W.ownsRow X 58 3 vO ys.length (obCells ys)
  data : ∀ y ∈ ys, W.ownsRow X 5 1 y.d.val y.d.zs.length (octCells y.d.zs)
  at_ : ∀ y ∈ ys, W.ownsRow X 3 1 (.slice y.B y.ns.length y.e) y.ns.length (ints y.ns)
  ix : W.ownsRow X 3 1 vI ix.length (ints ix)
  bY : X < Y
theorem CT.away {X Y : Nat} {W W' : World} {d0 d1 d0' d1' : Value} {t f o f' : Int} {vs : List Value} {v : Value} {l : List Ac} {vO : Value} {ys : List Ob} {vI : Value} {ix : List Int} (h : CT X Y W d0 d1 t f o vs v l vO ys vI ix) {T : TypeId} (ha : Away T W W')
    (h1 : WT ≠ T) (h2 : 82 ≠ T) (h3 : 5 ≠ T) (h4 : 58 ≠ T) (h5 : 3 ≠ T) (hb : Blk W' Y 32 [d0', d1', .int .i64 t, .int .i64 f', .int .i64 o, vO, vI]) : CT X Y W' d0' d1' t f' o vs v l vO ys vI ix :=
  ⟨ha.pl h.pl h1 h2 h3, hb, ha.own h.row h4, fun y hy => ha.own (h.data y hy) h3, fun y hy => ha.own (h.at_ y hy) h5, ha.own h.ix h5, h.bY⟩
theorem CT.below {X Y : Nat} {W W' : World} {d0 d1 : Value} {t f o : Int} {vs : List Value} {v : Value} {l : List Ac} {vO : Value} {ys : List Ob} {vI : Value} {ix : List Int} (h : CT X Y W d0 d1 t f o vs v l vO ys vI ix) (hB : Below W.heap.size W W') : CT X Y W' d0 d1 t f o vs v l vO ys vI ix :=
  h.away (T := 0) (Away.of_below hB) (by decide) (by decide) (by decide) (by decide) (by decide) (h.box.below hB h.box.lt)
theorem CT.only {X Y : Nat} {W W' : World} {d0 d1 : Value} {t f o : Int} {vs vs' : List Value} {v v' : Value} {l l' : List Ac} {vO : Value} {ys : List Ob} {vI : Value} {ix : List Int} (h : CT X Y W d0 d1 t f o vs v l vO ys vI ix) (ho : Only X WT W W') (hp : Pl X 1 WT vs' v' W' l') : CT X Y W' d0 d1 t f o vs' v' l' vO ys vI ix :=
  ⟨hp, ho.blk h.box (by decide) (by decide), ho.own h.row (by decide) (by decide), fun y hy => ho.own (h.data y hy) (by decide) (by decide), fun y hy => ho.own (h.at_ y hy) (by decide) (by decide), ho.own h.ix (by decide) (by decide), h.bY⟩
theorem CT.dev {X Y : Nat} {W : World} {d0 d1 : Value} {t f o : Int} {vs : List Value} {v : Value} {l : List Ac} {vO : Value} {ys : List Ob} {vI : Value} {ix : List Int} (h : CT X Y W d0 d1 t f o vs v l vO ys vI ix) (u0 u1 : Value) : CT X Y ((W.setCell ⟨Y, 0, none⟩ u0).setCell ⟨Y, 1, none⟩ u1) u0 u1 t f o vs v l vO ys vI ix ∧ Below X W ((W.setCell ⟨Y, 0, none⟩ u0).setCell ⟨Y, 1, none⟩ u1) :=
  ⟨h.away ((away_set (j := 0) (u := u0) h.box).trans (away_set (j := 1) (u := u1) (h.box.set 0 u0))) (by decide) (by decide) (by decide) (by decide) (by decide) ((h.box.set 0 u0).set 1 u1),
   ((Below.refl _ _).setCell (p := ⟨Y, 0, none⟩) (Nat.le_of_lt h.bY) _).setCell (p := ⟨Y, 1, none⟩) (Nat.le_of_lt h.bY) _⟩
theorem away_set8 {T : TypeId} {W W' : World} {R : Nat} {vs : List Value} (h : Blk W R T vs) (hh : ∀ k, k ≠ R → W'.heap[k]? = W.heap[k]?) : Away T W W' := fun i cur t z hi h1 => hh i fun e => by
  subst e
  have := h.symm.trans hi
  simp at this
  exact h1 this.2.1.symm

/-- The index's first page. -/
theorem indexed_first {fr : List Int} {ys : List PO} {ix : List Int} {f : Int} {wi : List AcT} {N : Int} (h : Indexed fr ys ix f wi) (hN : ∀ z ∈ fr, 2 ≤ z ∧ z < N) : (f = 0 ∧ ys = []) ∨ (2 ≤ f ∧ f < N ∧ ys ≠ []) := by
  rcases h with ⟨h1, _, h3, _⟩ | ⟨h1, h2, h3, h4, _⟩
  · exact .inl ⟨h3, h1⟩
  · refine .inr ?_
    have h5 : 2 ≤ (wr (idxT ys)).length := by rw [idx_len]; omega
    have h6 : 0 < ix.length := by
      rw [h3, List.length_take]
      unfold cntN at h2 ⊢
      omega
    have h7 : f ∈ fr := by
      rw [h4, List.getD_eq_getElem?_getD, List.getElem?_eq_getElem h6]
      have h8 : ∀ z ∈ ix, z ∈ fr := fun z hz => by
        rw [h3] at hz
        exact List.mem_of_mem_take hz
      exact h8 _ (List.getElem_mem h6)
    exact ⟨(hN f h7).1, (hN f h7).2, h1⟩

theorem indexed_acts {fr : List Int} {ys : List PO} {ix : List Int} {f : Int} {wi : List AcT} (h : Indexed fr ys ix f wi) : (∀ a ∈ wi, a.1 = false ∧ a.2.1 ∈ fr ∧ a.2.2.length = 64) ∧ wi.length ≤ fr.length ∧ ix.length ≤ fr.length ∧ ∀ z ∈ ix, z ∈ fr := by
  rcases h with ⟨_, h2, _, h4⟩ | ⟨h1, h2, h3, _, h5⟩
  · rw [h2, h4]
    exact ⟨fun a ha => (by cases ha), Nat.zero_le _, Nat.zero_le _, fun z hz => (by cases hz)⟩
  · have hl : ix.length = cntN (wr (idxT ys)).length := by rw [h3, List.length_take]; omega
    have hm : ∀ z ∈ ix, z ∈ fr := fun z hz => by
      rw [h3] at hz
      exact List.mem_of_mem_take hz
    refine ⟨fun a ha => ?_, by rw [h5, wrs_length]; exact h2, by omega, hm⟩
    rw [h5] at ha
    obtain ⟨f1, f2, f3⟩ := wrs_facts hl a ha
    exact ⟨f1, hm _ f2, f3⟩
/-- All acts are right. -/
theorem acts_right {old : List PO} {fr0 fr : List Int} {lp : List PO} {ys : List PO} {pl : List AcT} {ix : List Int} {f : Int} {wi : List AcT} {l : List Ac} {n : Nat} (hP : Placing old fr0 lp ys fr pl) (hold : ∀ o ∈ old, o.at_.length = cntN o.data.length) (hI : Indexed fr ys ix f wi)
    (hl : l.map Ac.st = pl ++ wi) (h0 : ∀ z ∈ fr0, 2 ≤ z ∧ z < (n : Int)) : ∀ a ∈ l, a.fl = false ∧ 2 ≤ a.at_ ∧ a.at_ < n ∧ a.p.zs.length = 64 := by
  intro a ha
  obtain ⟨_, _, _, _, ⟨j, e5⟩, e6⟩ := hP.facts hold
  have hm : a.st ∈ pl ++ wi := hl ▸ List.mem_map.2 ⟨a, ha, rfl⟩
  have h1 : a.st.1 = false ∧ a.st.2.1 ∈ fr0 ∧ a.st.2.2.length = 64 := by
    rcases List.mem_append.1 hm with hm | hm
    · exact e6 _ hm
    · obtain ⟨g1, g2, g3⟩ := (indexed_acts hI).1 _ hm
      refine ⟨g1, ?_, g3⟩
      rw [e5] at g2
      exact List.mem_of_mem_drop g2
  have h2 := h0 _ h1.2.1
  exact ⟨h1.1, h2.1, h2.2, h1.2.2⟩
theorem dv_fits {D : Dv} (h : D.st.ok) (hm : D.ws.length ≤ 4398046511104) : D.Fits := by
  obtain ⟨h1, h2, h3, h4⟩ := (Dv.ok_iff D).1 h
  refine ⟨by omega, hm, fun p hp => by rw [h3 p hp]; omega, fun x hx => ?_⟩
  have := h4 x hx
  unfold wrtE at this
  split at this
  · split at this
    · omega
    · omega
  · omega

end Go.Proofs.YtfeeejigedndcaaGreat
