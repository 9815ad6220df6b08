/-
  Do does all acts. Conditions: its lengths are a machine's.
-/
import Derived.Test.YtddkalcgijeldaaDVJ
namespace Go.Proofs.Ytddkalcgijeldaa
open Go.ChangeShapes Go.WideShapes Go.ChangeAt Go.RowKit Go.Shelf

theorem Dv.Own.stays {base lo hi : Nat} {W W' : World} {D : Dv} (h : D.Own base lo hi W) (hs : W.heap.size ≤ W'.heap.size)
    (hk : ∀ b, b < W.heap.size → (Value.slice D.B D.ws.length D.d).ownBlock = some b ∨ b < hi ∨ (∃ x ∈ D.ws, x.p.val.ownBlock = some b) → W'.heap[b]? = W.heap[b]?) : D.Own base lo hi W' := by
  obtain ⟨⟨G, hA, hG, harr⟩, hbl, hlh, hsecs, hrow, hwait, hroom⟩ := h
  refine ⟨⟨G, hA, hG, own_stay harr fun b hb => ?_⟩, hbl, hlh, hsecs.stay fun k h1 h2 => hk k (by omega) (.inr (.inl h2)), own_stay hrow fun b hb => hk b (hrow.lt b hb).2 (.inl hb), fun x hx => own_stay (hwait x hx) fun b hb => hk b ((hwait x hx).lt b hb).2 (.inr (.inr ⟨x, hx, hb⟩)), Nat.le_trans hroom hs⟩
  have h2 := harr.lt b hb
  have h3 : G = b := by rw [hA] at hb; simpa [Value.ownBlock] using hb
  exact hk b h2.2 (.inr (.inl (by omega)))
theorem Dv.Own.below {base lo hi : Nat} {W W' : World} {D : Dv} (h : D.Own base lo hi W) (hb : Below W.heap.size W W') : D.Own base lo hi W' := h.stays hb.size fun b h1 _ => hb.block b h1
theorem Dv.Own.setBox {base lo hi : Nat} {W : World} {D : Dv} (h : D.Own base lo hi W) {X : Nat} {vs : List Value} (hX : Blk W X 29 vs) (hh : hi ≤ X) (j : Nat) (u : Value) : D.Own base lo hi (W.setCell ⟨X, j, none⟩ u) := by
  refine h.stays (by simp) fun b h1 h2 => heap_setCell_other _ _ b _ ?_
  rintro rfl
  rcases h2 with h2 | h2 | ⟨x, hx, h2⟩
  · exact blk_apart hX h.row (by decide) h2
  · omega
  · exact blk_apart hX (h.wait x hx) (by decide) h2

/-- One more write waits. -/
theorem Dv.Own.push {base lo hi : Nat} {W W' : World} {D : Dv} (h : D.Own base lo hi W) {X : Nat} {vs : List Value} (hX : Blk W X 29 vs) (hh : hi ≤ X) (y : Wt) (g3 c3 : Nat)
    (hrow : W'.ownsRow hi 45 2 (.slice (some ⟨g3, 0, none⟩) (D.ws.length + 1) c3) (D.ws.length + 1) (wtCells D.ws ++ [.int .i64 y.at_, y.p.val])) (hy : W'.ownsRow hi 5 1 y.p.val y.p.zs.length (ocl y.p.zs)) (hs : W.heap.size ≤ W'.heap.size)
    (hk : ∀ b, b < W.heap.size → (Value.slice D.B D.ws.length D.d).ownBlock ≠ some b → b ≠ X → W'.heap[b]? = W.heap[b]?) : Dv.Own base lo hi W' ⟨D.A, D.ps, D.c, some ⟨g3, 0, none⟩, D.ws ++ [y], c3⟩ := by
  obtain ⟨⟨G, hA, hG, harr⟩, hbl, hlh, hsecs, hrow0, hwait, hroom⟩ := h
  have hj := fun b hb => (hrow0.lt b hb).1
  refine ⟨⟨G, hA, hG, own_stay harr fun b hb => ?_⟩, hbl, hlh, hsecs.stay fun k h1 h2 => hk k (by omega) (fun e => by have := hj _ e; omega) (by omega), ?_, fun x hx => ?_, Nat.le_trans hroom hs⟩
  · have h2 := harr.lt b hb
    have h3 : G = b := by rw [hA] at hb; simpa [Value.ownBlock] using hb
    exact hk b h2.2 (fun e => by have := hj _ e; omega) (by omega)
  · rw [wtCells_snoc, show (D.ws ++ [y]).length = D.ws.length + 1 by simp]
    exact hrow
  · simp at hx
    rcases hx with hx | rfl
    · have hq := hwait x hx
      exact own_stay hq fun b hb => hk b (hq.lt b hb).2 (own_apart hq hrow0 (by decide) b hb) (fun e => blk_apart hX hq (by decide) (by rw [hb, e]))
    · exact hy
theorem snoc_rec {α : Type} {p : List α → Prop} (h0 : p []) (h1 : ∀ l a, p l → p (l ++ [a])) (l : List α) : p l := by
  have key : ∀ m : List α, p m.reverse := by
    intro m
    induction m with
    | nil => exact h0
    | cons x xs ih => rw [List.reverse_cons]; exact h1 _ _ ih
  have := key l.reverse
  rwa [List.reverse_reverse] at this
theorem doA_ok {S : DS} (h : S.ok) {a : Bool × Int × List Int} (ha : a.1 = true ∨ (0 ≤ a.2.1 ∧ a.2.1 < S.secs.length ∧ a.2.2.length = 64)) : (doA S a).ok ∧ (doA S a).secs.length = S.secs.length := by
  obtain ⟨h1, h2, h3, h4⟩ := h
  unfold doA
  split
  · refine ⟨⟨by rw [applyW_length]; exact h1, by rw [applyW_length]; exact h2, ?_, fun x hx => by simp at hx⟩, applyW_length _ _⟩
    have key : ∀ (l : List (Int × List Int)) (T : List (List Int)), (∀ x ∈ l, x.2.length = 64) → (∀ s ∈ T, s.length = 64) → ∀ s ∈ applyW T l, s.length = 64 := by
      intro l
      induction l with
      | nil => intro T _ hT s hs; exact hT s hs
      | cons y ys ih =>
        intro T hy hT s hs
        refine ih (T.set y.1.toNat y.2) (fun x hx => hy x (by simp [hx])) (fun t ht => ?_) s hs
        rcases List.mem_or_eq_of_mem_set ht with ht | rfl
        · exact hT t ht
        · exact hy y (by simp)
    exact key _ _ (fun x hx => (h4 x hx).2.2) h3
  · rename_i hf
    refine ⟨⟨h1, h2, h3, fun x hx => ?_⟩, rfl⟩
    simp at hx
    rcases hx with hx | rfl
    · exact h4 x hx
    · rcases ha with ha | ha
      · exact absurd ha hf
      · exact ha
theorem doL_ok {S : DS} (h : S.ok) {l : List (Bool × Int × List Int)} (hl : ∀ a ∈ l, a.1 = true ∨ (0 ≤ a.2.1 ∧ a.2.1 < S.secs.length ∧ a.2.2.length = 64)) : (doL S l).ok ∧ (doL S l).secs.length = S.secs.length := by
  revert hl
  refine snoc_rec (p := fun (l : List (Bool × Int × List Int)) => (∀ a ∈ l, a.1 = true ∨ (0 ≤ a.2.1 ∧ a.2.1 < S.secs.length ∧ a.2.2.length = 64)) → (doL S l).ok ∧ (doL S l).secs.length = S.secs.length) ?_ ?_ l
  · exact fun _ => ⟨h, rfl⟩
  · intro l a ih hl
    obtain ⟨i1, i2⟩ := ih fun x hx => hl x (by simp [hx])
    rw [doL_snoc]
    have := doA_ok i1 (a := a) (by rw [i2]; exact hl a (by simp))
    exact ⟨this.1, this.2.trans i2⟩
theorem doL_waits (S : DS) (l : List (Bool × Int × List Int)) : (doL S l).waits.length ≤ S.waits.length + l.length := by
  refine snoc_rec (p := fun (l : List (Bool × Int × List Int)) => (doL S l).waits.length ≤ S.waits.length + l.length) ?_ ?_ l
  · simp [doL]
  · intro l a ih
    rw [doL_snoc]
    unfold doA
    split <;> simp <;> omega
theorem act_fine {n : Nat} {x : Ac} (h : actE n x.fl x.at_ x.p.zs.length = 0) : x.st.1 = true ∨ (0 ≤ x.st.2.1 ∧ x.st.2.1 < n ∧ x.st.2.2.length = 64) := by
  unfold actE wrtE at h
  unfold Ac.st
  split at h
  · exact .inl (by assumption)
  · refine .inr ?_
    split at h
    · rename_i h1
      split at h
      · exact ⟨h1.1, h1.2, by assumption⟩
      · omega
    · omega

/-- Cells of blocks below n stay. -/
theorem held3_at {W W' : World} {g g' n i j j' : Nat} {a b c : Value} (hg : g < n) (hg' : g' < n) (h0 : W.cell? ⟨g, i, none⟩ = some a) (h1 : W.cell? ⟨g', j, none⟩ = some b) (h2 : W.cell? ⟨g', j', none⟩ = some c) (hB : Below n W W') :
    W'.cell? ⟨g, i, none⟩ = some a ∧ W'.cell? ⟨g', j, none⟩ = some b ∧ W'.cell? ⟨g', j', none⟩ = some c :=
  ⟨(hB.cell (p := ⟨g, i, none⟩) hg).trans h0, (hB.cell (p := ⟨g', j, none⟩) hg').trans h1, (hB.cell (p := ⟨g', j', none⟩) hg').trans h2⟩

set_option maxHeartbeats 4000000 in
set_option maxRecDepth 100000 in
theorem do_ok (D : Dv) (hf : D.Fits) (hok : D.st.ok) (La : Option Addr) (l : List Ac) (lc : Nat) (he : actsE D.ps.length l = 0) (hm : D.ws.length + l.length ≤ 4398046511104) (w : World) (hD : D.Lies 0 w) (hl : Acts w La l) :
    Calls Try.prog 14 #[D.val, .slice La l.length lc] w fun e w' => ∃ E : Dv, e = .returned (ansD E.val 0) ∧ E.st = doL D.st (l.map Ac.st) ∧ E.Lies w.heap.size w' ∧ Below w.heap.size w w' := by
  obtain ⟨i0, hi, hz0, hz1, hz2⟩ := dinfo_parts dinfoW
  have hfine : ∀ a ∈ l.map Ac.st, a.1 = true ∨ (0 ≤ a.2.1 ∧ a.2.1 < D.st.secs.length ∧ a.2.2.length = 64) := fun a ha => by
    obtain ⟨x, hx, rfl⟩ := List.mem_map.1 ha
    have := act_fine (actsE_zero he x hx)
    simpa [Dv.st] using this
  have HFINE := Lib.hid hfine
  have HC := Lib.hid (fun w h1 h2 => check_ok D hf hok w h1 h2)
  have HCL := Lib.hid (fun w h => clone_dev D hok hf w h)
  have HD := Lib.hid hD
  have HL := Lib.hid hl
  have HZ := Lib.hid (actsE_zero he)
  have HOK := Lib.hid hok
  have hln := hl.n
  clear hD hok hf hl he hfine
  go_enter Try.func14, Try.ntmps14
  go_wp2_with fail
  obtain ⟨W0, hW0⟩ : ∃ W0, ((w.alloc (.cells #[.slice D.A D.ps.length D.c, .slice D.B D.ws.length D.d] 29)).alloc (.cells #[.slice none 0 0, .slice none 0 0] 29)) = W0 := ⟨_, rfl⟩
  rw [hW0]
  have hB0 : Below w.heap.size w W0 := by rw [← hW0]; exact allocs_below [([.slice D.A D.ps.length D.c, .slice D.B D.ws.length D.d], 29), ([.slice none 0 0, .slice none 0 0], 29)] w
  have k1 : Blk W0 w.heap.size 29 [.slice D.A D.ps.length D.c, .slice D.B D.ws.length D.d] := by rw [← hW0]; exact allocs_blk [([.slice D.A D.ps.length D.c, .slice D.B D.ws.length D.d], 29), ([.slice none 0 0, .slice none 0 0], 29)] w 0 rfl
  have k2 : Blk W0 (w.heap.size + 1) 29 [.slice none 0 0, .slice none 0 0] := by rw [← hW0]; exact allocs_blk [([.slice D.A D.ps.length D.c, .slice D.B D.ws.length D.d], 29), ([.slice none 0 0, .slice none 0 0], 29)] w 1 rfl
  refine (HC.out W0 (HD.out.below hB0).reads.1 (HD.out.below hB0).reads.2).mono ?_
  rintro e w1 ⟨rfl, hB1⟩
  have K1 := Lib.hid (k1.below hB1 k1.lt)
  have K2 := Lib.hid (k2.below hB1 k2.lt)
  have hlt2 := K2.out.lt
  have hB01 : Below w.heap.size w w1 := hB0.trans (hB1.mono hB0.size)
  clear k1 k2 hW0 hB0 hB1
  go_wp2
  go_loopw [21] (fun i wr => ∃ k : Nat, k ≤ l.length ∧ i = .int .i64 k ∧ Below w1.heap.size w1 wr) (fun i _ => l.length - (intOf i).toNat)
  case atStart =>
    exact ⟨0, Nat.zero_le _, rfl, Below.refl _ _⟩
  case round =>
    obtain ⟨k, hk, rfl, hB⟩ := hrel
    have hBw : Below w.heap.size w wr := hB01.trans (hB.mono hB01.size)
    have hsz := hB.size
    have hsz2 : w.heap.size < wr.heap.size := by omega
    have kd := K1.out.below hB (by omega)
    have hd0 := kd.cell 0
    have hd1 := kd.cell 1
    simp only [List.getElem?_cons_zero, List.getElem?_cons_succ] at hd0 hd1
    by_cases hlt : k < l.length
    · obtain ⟨x, hx⟩ : ∃ x, l[k]? = some x := ⟨_, List.getElem?_eq_getElem hlt⟩
      obtain ⟨b, off, rfl, hb, hc0, hc1, hc2⟩ := (HL.out.below hBw).arr.ac hx
      have hmem := List.mem_of_getElem? hx
      have hxl := HL.out.len x hmem
      have HA := Lib.hid (fun w => checkAct_any D.A D.ps.length D.c D.B D.ws.length D.d x.fl x.at_ x.p.A x.p.zs.length x.p.c (by omega) w)
      rw [HZ.out x hmem] at HA
      clear hx kd
      go_wp2_with (refine (HA.out _).mono ?_; rintro e w2 ⟨rfl, hB2⟩)
      go_roundw
      case rel => exact ⟨k + 1, by omega, by go_num, (hB.alloc (by first | omega | (simp; omega)) _).trans (hB2.mono (by first | omega | (simp; omega)))⟩
      case measure => simp [intOf]; omega
    · obtain rfl : k = l.length := by omega
      have kr := K2.out.below hB (by omega)
      have HKR := Lib.hid kr
      have HBW := Lib.hid hBw
      clear kr kd K1 K2 HC hB01
      go_wp2_with fail
      refine (HCL.out wr (HD.out.below hBw)).mono ?_
      rintro e w2 ⟨E, lo, hi0, rfl, hst, hO, hB2⟩
      have hlo : wr.heap.size ≤ lo := hO.base
      have hhi := hO.lohi
      have hroom := hO.room
      have HO := Lib.hid hO
      have HST := Lib.hid hst
      have HB2 := Lib.hid hB2
      clear hO hst hB2 hBw HCL
      go_wp2
      have kX : Blk (w2.alloc (.cells #[.slice E.A E.ps.length E.c, .slice E.B E.ws.length E.d] 29)) w2.heap.size 29 [.slice E.A E.ps.length E.c, .slice E.B E.ws.length E.d] := Blk.new w2 _ _
      have kR : Blk (w2.alloc (.cells #[.slice E.A E.ps.length E.c, .slice E.B E.ws.length E.d] 29)) (w.heap.size + 1) 29 [.slice none 0 0, .slice none 0 0] := (HKR.out.below HB2.out (by omega)).alloc _
      have hBX : Below w.heap.size w (w2.alloc (.cells #[.slice E.A E.ps.length E.c, .slice E.B E.ws.length E.d] 29)) := (HBW.out.trans (HB2.out.mono HBW.out.size)).alloc (by have := HBW.out.size; omega) _
      have hOX := HO.out.below ((Below.refl _ w2).alloc (Nat.le_refl _) (.cells #[.slice E.A E.ps.length E.c, .slice E.B E.ws.length E.d] 29))
      have HKX := Lib.hid kX
      have HKRX := Lib.hid kR
      have HBX := Lib.hid hBX
      have HOX := Lib.hid hOX
      obtain ⟨X, hX⟩ : ∃ X, w2.heap.size = X := ⟨_, rfl⟩
      obtain ⟨n0, hn0⟩ : ∃ n0, wr.heap.size = n0 := ⟨_, rfl⟩
      clear kX kR hBX hOX HO HKR HBW
      rw [hX] at HKX hroom ⊢
      rw [hn0] at HOX hlo hsz hsz2
      go_loopw [37] (fun i W => ∃ (k : Nat) (F : Dv), k ≤ l.length ∧ i = .int .i64 k ∧ Hid (F.Own n0 lo hi0 W) ∧ Hid (F.st = doL D.st ((l.take k).map Ac.st)) ∧ Hid (Blk W X 29 [.slice F.A F.ps.length F.c, .slice F.B F.ws.length F.d])
        ∧ Hid (Blk W (w.heap.size + 1) 29 [.slice none 0 0, .slice none 0 0]) ∧ Hid (Below w.heap.size w W) ∧ X < W.heap.size) (fun i _ => l.length - (intOf i).toNat)
      case atStart =>
        exact ⟨0, E, Nat.zero_le _, rfl, HOX.out, HST.out, HKX.out, HKRX.out, HBX.out, by simp; omega⟩
      case round =>
        clear HKX HKRX HBX HOX HST HB2 hX hn0 hd0 hd1 hB
        obtain ⟨k, F, hk2, rfl, HO, HST, HKX, HKR, HBW, hXl⟩ := hrel
        obtain ⟨hok2, hsl⟩ := doL_ok HOK.out (l := (l.take k).map Ac.st) (fun a ha => HFINE.out a (by
          obtain ⟨x, hx, rfl⟩ := List.mem_map.1 ha
          exact List.mem_map.2 ⟨x, List.mem_of_mem_take hx, rfl⟩))
        have hwl := doL_waits D.st ((l.take k).map Ac.st)
        rw [← HST.out] at hok2 hsl hwl
        simp only [Dv.st, List.length_map, List.length_take] at hsl hwl
        have hFm : F.ws.length ≤ 4398046511104 := by omega
        have HOK2 := Lib.hid hok2
        have HSL := Lib.hid hsl
        have HWL := Lib.hid hwl
        clear hsl hwl
        have kx := HKX.out
        have hX0 := kx.cell 0
        have hX1 := kx.cell 1
        have fX0 := kx.frozen 0
        have fX1 := kx.frozen 1
        simp only [List.getElem?_cons_zero, List.getElem?_cons_succ] at hX0 hX1
        clear kx hok2
        by_cases hlt2 : k < l.length
        · obtain ⟨x, hx⟩ : ∃ x, l[k]? = some x := ⟨_, List.getElem?_eq_getElem hlt2⟩
          obtain ⟨b, off, hLA, hb, hc0, hc1, hc2⟩ := (HL.out.below HBW.out).arr.ac hx
          have hmem := List.mem_of_getElem? hx
          have hxl := HL.out.len x hmem
          have htk : l.take (k + 1) = l.take k ++ [x] := by
            rw [List.take_succ_eq_append_getElem hlt2]
            rw [List.getElem?_eq_getElem hlt2] at hx
            injection hx with hx
            rw [hx]
          have hst1 : doL D.st ((l.take (k + 1)).map Ac.st) = doA F.st x.st := by rw [htk, List.map_append, List.map_singleton, doL_snoc, HST.out]
          have HST1 := Lib.hid hst1
          have HX := Lib.hid (HL.out.data x hmem)
          have hfx := act_fine (HZ.out x hmem)
          subst hLA
          clear htk hst1 hx
          cases hfl : x.fl
          · have hst2 : doA F.st x.st = ⟨F.st.secs, F.st.waits ++ [(x.at_, x.p.zs)]⟩ := by simp [doA, Ac.st, hfl]
            have HST2 := Lib.hid hst2
            have hpl : x.p.zs.length = 64 := by
              rcases hfx with h | h
              · simp [Ac.st, hfl] at h
              · exact h.2.2
            rw [hfl] at hc0
            have HCW := Lib.hid (fun w h => cloneWrite_any x.at_ x.p.A x.p.zs.length x.p.c x.p.zs rfl (by omega) (by omega) w h)
            rw [hpl] at HCW
            simp only [Pt.val, hpl] at hc2
            have HPR : Hid (Rd wr x.p.A (ocl x.p.zs)) := HX.out.below HBW.out
            clear hst2 hfx hfl
            go_wp2_with fail
            obtain ⟨w1', hw1⟩ : ∃ w1', wr.alloc (.cells #[.bool false, .int .i64 x.at_, .slice x.p.A 64 x.p.c] 36) = w1' := ⟨_, rfl⟩
            have hB10 : Below wr.heap.size wr w1' := hw1 ▸ (Below.refl _ wr).alloc (Nat.le_refl _) _
            have hsz1 : wr.heap.size < w1'.heap.size := by rw [← hw1]; simp
            have kx : Blk w1' wr.heap.size 36 [.bool false, .int .i64 x.at_, .slice x.p.A 64 x.p.c] := hw1 ▸ Blk.new wr _ _
            rw [hw1]
            have ko := HKX.out.below hB10 hXl
            have ha1 := kx.cell 1
            have ha2 := kx.cell 2
            have hd1 := ko.cell 1
            simp only [List.getElem?_cons_zero, List.getElem?_cons_succ] at ha1 ha2 hd1
            have hBr : Below w1'.heap.size w1' w1' := Below.refl _ _
            have hXl1 := ko.lt
            have HKO1 := Lib.hid ko
            have HROW := Lib.hid HO.out.row
            have hj : ∀ j, (Value.slice F.B F.ws.length F.d).ownBlock = some j → hi0 ≤ j ∧ j < wr.heap.size := fun j e => HROW.out.lt j e
            have hjX := blk_apart HKX.out HROW.out (by decide)
            have HJX := Lib.hid hjX
            clear hw1 kx ko hjX hX0 hX1 fX0 fX1 hc0 hc1 hc2
            refine wp_region_noPanic ?_
            refine wp_region_last 11 (fun w' => w'.cell? ⟨X, 1, none⟩ = some (.slice F.B F.ws.length F.d) ∧ w'.cell? ⟨wr.heap.size, 1, none⟩ = some (.int .i64 x.at_) ∧ w'.cell? ⟨wr.heap.size, 2, none⟩ = some (.slice x.p.A 64 x.p.c)) (by kernel_rfl) (held3_at hXl1 hsz1 hd1 ha1 ha2 hBr.drew) (fun hHeld => ?_)
            refine wpAnyL_take 12 (i := 0) (oi := ⟨some 45, _, _, _, _, _⟩) (v := ?_) rfl (by kernel_rfl) (by kernel_rfl) (by kernel_rfl) (by kernel_rfl) (by kernel_rfl) (by kernel_rfl) (by kernel_rfl) (fun _ _ _ h => h) (Or.inl ⟨by rfl, ?_⟩) hHeld ?_
            rotate_left
            focus (intro w hSw; (try dsimp only at hSw); go_simp; try (with_reducible rfl))
            try simp only [Act.put, List.setIfInBounds_toArray, List.set_cons_zero, List.set_cons_succ]
            refine wpAnyL_take 12 (i := 1) (oi := ⟨some 46, _, _, _, _, _⟩) (v := ?_) rfl (by kernel_rfl) (by kernel_rfl) (by kernel_rfl) (by kernel_rfl) (by kernel_rfl) (by kernel_rfl) (by kernel_rfl) (fun _ _ _ h => h) (Or.inl ⟨by rfl, ?_⟩) hHeld ?_
            rotate_left
            focus (intro w hSw; (try dsimp only at hSw); go_simp; try (with_reducible rfl))
            try simp only [Act.put, List.setIfInBounds_toArray, List.set_cons_zero, List.set_cons_succ]
            refine wpAnyL_take 12 (i := 2) (oi := ⟨some 47, _, _, _, _, _⟩) (v := ?_) rfl (by kernel_rfl) (by kernel_rfl) (by kernel_rfl) (by kernel_rfl) (by kernel_rfl) (by kernel_rfl) (by kernel_rfl) (fun _ _ _ h => h) (Or.inl ⟨by rfl, ?_⟩) hHeld ?_
            rotate_left
            focus (intro w hSw; (try dsimp only at hSw); go_simp; try (with_reducible rfl))
            try simp only [Act.put, List.setIfInBounds_toArray, List.set_cons_zero, List.set_cons_succ]
            refine wpAnyL_take 12 (i := 3) (oi := ⟨some 48, _, _, _, _, _⟩) (v := ?_) rfl (by kernel_rfl) (by kernel_rfl) (by kernel_rfl) (by kernel_rfl) (by kernel_rfl) (by kernel_rfl) (by kernel_rfl) (fun _ _ _ h => h) (Or.inl ⟨by rfl, ?_⟩) hHeld ?_
            rotate_left
            focus (intro w hSw; (try dsimp only at hSw); go_simp; try (with_reducible rfl))
            try simp only [Act.put, List.setIfInBounds_toArray, List.set_cons_zero, List.set_cons_succ]
            refine wpAnyL_take 12 (i := 4) (oi := ⟨some 49, _, _, _, _, _⟩) (v := ?_) rfl (by kernel_rfl) (by kernel_rfl) (by kernel_rfl) (by kernel_rfl) (by kernel_rfl) (by kernel_rfl) (by kernel_rfl) (fun _ _ _ h => h) (Or.inl ⟨by rfl, ?_⟩) hHeld ?_
            rotate_left
            focus (intro w hSw; (try dsimp only at hSw); go_simp; try (with_reducible rfl))
            try simp only [Act.put, List.setIfInBounds_toArray, List.set_cons_zero, List.set_cons_succ]
            refine wpAnyL_take 12 (i := 5) (oi := ⟨some 50, _, _, _, _, _⟩) (v := ?_) rfl (by kernel_rfl) (by kernel_rfl) (by kernel_rfl) (by kernel_rfl) (by kernel_rfl) (by kernel_rfl) (by kernel_rfl) (fun _ _ _ h => h) (Or.inl ⟨by rfl, ?_⟩) hHeld ?_
            rotate_left
            focus (intro w hSw; (try dsimp only at hSw); go_simp; try (with_reducible rfl))
            try simp only [Act.put, List.setIfInBounds_toArray, List.set_cons_zero, List.set_cons_succ]
            refine wpAnyL_take 12 (i := 6) (oi := ⟨some 51, _, _, _, _, _⟩) (v := ?_) rfl (by kernel_rfl) (by kernel_rfl) (by kernel_rfl) (by kernel_rfl) (by kernel_rfl) (by kernel_rfl) (by kernel_rfl) (fun _ _ _ h => h) (Or.inl ⟨by rfl, ?_⟩) hHeld ?_
            rotate_left
            focus (intro w hSw; (try dsimp only at hSw); go_simp; try (with_reducible rfl))
            try simp only [Act.put, List.setIfInBounds_toArray, List.set_cons_zero, List.set_cons_succ]
            refine wpAnyL_one (i := 7) (o := ⟨some 52, _, _, _, _, _⟩) (by kernel_rfl) rfl (fun K hK => ?_)
            clear hHeld
            go_simp
            go_at_call 32
            refine (HCW.out _ (Rd.below (Rd.below HPR.out hB10) hBr.drew)).mono ?_
            rintro e w2 ⟨g, cap, rfl, hown, hB1⟩
            have hBw2 : Below w1'.heap.size w1' w2 := hBr.drew.trans hB1
            have hs2 := hBw2.size
            have HN := Lib.hid hown
            have HY2 := Lib.hid (own_stay HROW.out (fun b hb => (hBw2.block b (by have := (HROW.out.lt b hb).2; omega)).trans (hB10.block b (HROW.out.lt b hb).2)))
            clear hown hB1
            go_wp2_with fail
            refine hK.out _ _ (held3_at hXl1 hsz1 hd1 ha1 ha2 hBw2) (fun hHeld => ?_)
            clear hK K
            try simp only [Act.put, List.setIfInBounds_toArray, List.set_cons_zero, List.set_cons_succ]
            refine wpAnyL_one (i := 8) (o := ⟨some 53, _, _, _, _, _⟩) (by kernel_rfl) rfl (fun K hK => ?_)
            clear hHeld
            go_simp
            go_wp2_with fail
            refine hK.out _ _ (held3_at hXl1 hsz1 hd1 ha1 ha2 (by (repeat (first | with_reducible exact Below.refl _ _ | with_reducible assumption | with_reducible refine Below.drew ?_ | with_reducible refine Below.alloc ?_ ?_ _ | with_reducible refine Below.setCell ?_ ?_ _ | (focus omega) | (focus (simp; done)) | (focus (simp; omega)))))) (fun hHeld => ?_)
            clear hK K
            try simp only [Act.put, List.setIfInBounds_toArray, List.set_cons_zero, List.set_cons_succ]
            refine wpAnyL_one (i := 9) (o := ⟨some 54, _, _, _, _, _⟩) (by kernel_rfl) rfl (fun K hK => ?_)
            clear hHeld
            refine step_append_lies (o := ⟨some 54, _, _, _, _, _⟩) _ (by rfl) _ _ _ (by rfl) hi0 45 i0 (.agg #[.int .i64 0, .slice none 0 0]) 2 32 Try.underlying27 hi hz0 hz1 hz2 rfl (by omega) (.slice F.B F.ws.length F.d) F.ws.length _ (by rfl) (own_stay HY2.out (fun b hb => Below.heap_alloc _ _ b (HY2.out.lt b hb).2)) ⟨w2.heap.size, 0, none⟩ 1 1 [.int .i64 x.at_, .slice (some ⟨g, 0, none⟩) 64 cap] (by rfl) rfl (news_new _ _ _) (by simp [Value.oneCell']) (by omega) (by unfold maxLen; omega) (by have := HWL.out; omega) (by simp; omega) _ rfl ?_
            intro g3 c3 w3 ho3 hg3 hg3' hl3
            have hk3 : ∀ b, b < w2.heap.size → (Value.slice F.B F.ws.length F.d).ownBlock ≠ some b → w3.heap[b]? = w2.heap[b]? := (fun b hb hne => (hg3.block b (by simp; omega) (fun e => hne e.symm)).trans (Below.heap_alloc _ _ b hb))
            have ko3 : Blk w3 X 29 [.slice F.A F.ps.length F.c, .slice F.B F.ws.length F.d] := ((hk3 _ (by omega) HJX.out).trans (HKO1.out.below hBw2 hXl1))
            have hS3 : w3.cell? ⟨X, 1, none⟩ = some (.slice F.B F.ws.length F.d) ∧ w3.cell? ⟨wr.heap.size, 1, none⟩ = some (.int .i64 x.at_) ∧ w3.cell? ⟨wr.heap.size, 2, none⟩ = some (.slice x.p.A 64 x.p.c) := ⟨ko3.cell 1, (World.cell?_of_block (hk3 wr.heap.size (by omega) (fun e => by have := hj _ e; omega))).trans ((hBw2.cell (p := ⟨wr.heap.size, 1, none⟩) hsz1).trans ha1), (World.cell?_of_block (hk3 wr.heap.size (by omega) (fun e => by have := hj _ e; omega))).trans ((hBw2.cell (p := ⟨wr.heap.size, 2, none⟩) hsz1).trans ha2)⟩
            have hf3 := ko3.frozen 1
            have hd3 := hS3.1
            have HKO3 := Lib.hid ko3
            have HO3 := Lib.hid ho3
            have HK3 := Lib.hid hk3
            have hsg3 := hg3.size
            have HG3 := Lib.hid hg3
            clear hg3 ho3 hk3 ko3
            refine hK.out _ _ hS3 (fun hHeld => ?_)
            clear hK K
            try simp only [Act.put, List.setIfInBounds_toArray, List.set_cons_zero, List.set_cons_succ]
            refine wpAnyL_take 12 (i := 10) (oi := ⟨some 55, _, _, _, _, _⟩) (v := ?_) rfl (by kernel_rfl) (by kernel_rfl) (by kernel_rfl) (by kernel_rfl) (by kernel_rfl) (by kernel_rfl) (by kernel_rfl) (fun _ _ _ h => h) (Or.inl ⟨by rfl, ?_⟩) hHeld ?_
            rotate_left
            focus (intro w hSw; (try dsimp only at hSw); go_simp; try (with_reducible rfl))
            try simp only [Act.put, List.setIfInBounds_toArray, List.set_cons_zero, List.set_cons_succ]
            refine wpAnyL_last (i := 11) (o := ⟨none, _, _, _, _, _⟩) (by kernel_rfl) rfl (by kernel_rfl) (fun K hK => ?_)
            clear hHeld
            go_simp
            go_wp2_with fail
            refine hK.out _ _ ?_
            clear hK K
            try simp only [Act.put, List.setIfInBounds_toArray, List.set_cons_zero, List.set_cons_succ]
            refine wpAnyL_done (by kernel_rfl) ?_ _
            refine NoPanic.normal ?_
            go_wp2
            go_roundw
            case rel =>
              have hkk : ∀ (u : Value) (b : Nat), b < wr.heap.size → (Value.slice F.B F.ws.length F.d).ownBlock ≠ some b → b ≠ X → (w3.setCell ⟨X, 1, none⟩ u).heap[b]? = wr.heap[b]? := fun u b h1 h2 h3 =>
                (heap_setCell_other _ _ b _ h3).trans ((HK3.out b (by omega) h2).trans ((hBw2.block b (by omega)).trans (hB10.block b h1)))
              have hg := HN.out.lt g rfl
              simp only [World.size_drew] at hg
              have hy : w2.ownsRow hi0 5 1 (.slice (some ⟨g, 0, none⟩) 64 cap) 64 (ocl x.p.zs) := own_base HN.out (by simp; omega)
              have hsw : wr.heap.size ≤ w3.heap.size := by simp at hsg3; omega
              refine ⟨k + 1, ⟨F.A, F.ps, F.c, some ⟨g3, 0, none⟩, F.ws ++ [⟨x.at_, ⟨some ⟨g, 0, none⟩, x.p.zs, cap⟩⟩], c3⟩, by omega, by go_num, ?_, ?_, ?_, ?_, ?_, by simp; omega⟩
              · refine HO.out.push HKX.out hroom _ g3 c3 ?_ ?_ (by simp; omega) (fun b h1 h2 h3 => hkk _ b h1 h2 h3)
                · simp only [Pt.val, hpl]
                  exact own_set HO3.out X 1 _ (fun b hb e => blk_apart HKO3.out HO3.out (by decide) (by rw [hb, e]))
                · simp only [Pt.val, hpl]
                  exact own_stay hy fun b hb => by
                    have h2 : g = b := by simpa [Value.ownBlock] using hb
                    subst h2
                    exact (heap_setCell_other _ _ _ _ (show g ≠ X by omega)).trans (HK3.out g hg.2 (fun e => by have := hj _ e; omega))
              · show _ = _
                rw [HST1.out, HST2.out]
                simp [Dv.st, Wt.st]
              · have := HKO3.out.set 1 (.slice (some ⟨g3, 0, none⟩) (F.ws.length + 1) c3)
                refine Lib.hid ?_
                simpa using this
              · exact (hkk _ _ (by omega) (fun e => by have := hj _ e; omega) (by omega)).trans HKR.out
              · have hb1 : Below w.heap.size w w2 := (HBW.out.trans (hB10.mono (by omega))).trans (hBw2.mono (by omega))
                exact ((hb1.alloc (by omega) _).grown HG3.out (by simp; omega) (fun j e => by have := hj j e; omega)).setCell (p := ⟨X, 1, none⟩) (by show w.heap.size ≤ X; omega) _
            case measure => simp [intOf]; omega
          · have hst2 : doA F.st x.st = ⟨applyW F.st.secs F.st.waits, []⟩ := by simp [doA, Ac.st, hfl]
            have HST2 := Lib.hid hst2
            rw [hfl] at hc0
            have HSE := Lib.hid (fun W h => settle_all F n0 lo hi0 W h HOK2.out hFm)
            clear hst2 hfx hfl
            go_wp2_with fail
            have hB0 : Below wr.heap.size wr (wr.alloc (.cells #[.bool true, .int .i64 x.at_, .slice x.p.A x.p.zs.length x.p.c] 36)) := (Below.refl _ wr).alloc (Nat.le_refl _) _
            refine (HSE.out _ (HO.out.below hB0)).mono ?_
            rintro e w3 ⟨G, rfl, hstG, hOG, hw3⟩
            have hsz3 := hw3.size
            simp only [World.size_alloc] at hsz3
            have kx3 : Blk w3 X 29 [.slice F.A F.ps.length F.c, .slice F.B F.ws.length F.d] := (hw3.block X (by simp; omega) (.inr hroom)).trans (HKX.out.alloc _)
            have kr3 : Blk w3 (w.heap.size + 1) 29 [.slice none 0 0, .slice none 0 0] := (hw3.block _ (by simp; omega) (.inl (by omega))).trans (HKR.out.alloc _)
            have hB3 : Below w.heap.size w w3 := (HBW.out.alloc (by omega) _).trans (hw3.below (by simp; omega) (by omega))
            have g0 := kx3.frozen 0
            have g1 := kx3.frozen 1
            have x0 := kx3.cell 0
            have x1 := kx3.cell 1
            simp only [List.getElem?_cons_zero, List.getElem?_cons_succ] at x0 x1
            have HSG := Lib.hid hstG
            have HOG := Lib.hid hOG
            have HK3 := Lib.hid kx3
            have HR3 := Lib.hid kr3
            have HB3 := Lib.hid hB3
            clear hstG hOG kx3 kr3 hB3 hX0 hX1 fX0 fX1 hc0 hc1 hc2 hB0
            go_wp2
            go_roundw
            case rel =>
              have hO1 := HOG.out.setBox HK3.out hroom 0 (.slice G.A G.ps.length G.c)
              have hO2 := hO1.setBox (HK3.out.set 0 (.slice G.A G.ps.length G.c)) hroom 1 (.slice G.B G.ws.length G.d)
              refine ⟨k + 1, G, by omega, by go_num, hO2, ?_, (HK3.out.set 0 _).set 1 _, (HR3.out.other (by omega) _ _).other (by omega) _ _, (HB3.out.setCell (p := ⟨X, 0, none⟩) (by show w.heap.size ≤ X; omega) _).setCell (p := ⟨X, 1, none⟩) (by show w.heap.size ≤ X; omega) _, by simp; omega⟩
              show _ = _
              rw [HSG.out, HST1.out, HST2.out]
            case measure => simp [intOf]; omega
        · obtain rfl : k = l.length := by omega
          have hr0 := HKR.out.cell 0
          have hr1 := HKR.out.cell 1
          have fr0 := HKR.out.frozen 0
          have fr1 := HKR.out.frozen 1
          simp only [List.getElem?_cons_zero, List.getElem?_cons_succ] at hr0 hr1
          have hst := HST.out
          rw [List.take_length] at hst
          have HSTF := Lib.hid hst
          clear hst HST
          go_wp2
          refine bodyPost_ret (v := ansD F.val 0) ?_ rfl ?_
          · simp [results, Try.results14, go_sem, hr0, hr1]
          · have hst' : ∀ (u v : Value) (b : Nat), b ≠ w.heap.size + 1 → ((wr.setCell ⟨w.heap.size + 1, 0, none⟩ u).setCell ⟨w.heap.size + 1, 1, none⟩ v).heap[b]? = wr.heap[b]? := fun u v b hb => (heap_setCell_other _ _ b _ hb).trans (heap_setCell_other _ _ b _ hb)
            refine ⟨F, rfl, HSTF.out, ?_, (HBW.out.setCell (p := ⟨w.heap.size + 1, 0, none⟩) (Nat.le_succ _) _).setCell (p := ⟨w.heap.size + 1, 1, none⟩) (Nat.le_succ _) _⟩
            have := HO.out.lies.stays (W' := (wr.setCell ⟨w.heap.size + 1, 0, none⟩ (.slice F.A F.ps.length F.c)).setCell ⟨w.heap.size + 1, 1, none⟩ (.slice F.B F.ws.length F.d)) (by simp) (fun k h1 _ => hst' _ _ _ (by omega))
            exact this.mono (by omega)

end Go.Proofs.Ytddkalcgijeldaa
