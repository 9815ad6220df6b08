/-
  BlocksApply's walk. No conditions.
-/
import Derived.Test.YtkebgfpghjgghaaBLR
namespace Go.Proofs.Ytkebgfpghjgghaa
open Go.ChangeShapes Go.WideShapes Go.ChangeAt Go.RowKit
set_option maxRecDepth 100000

theorem Rd.rc {w : World} {A : Option Addr} {l : List Rc} (h : Rd w A (rcs l)) {k : Nat} {r : Rc} (hk : l[k]? = some r) :
    ∃ b off, A = some ⟨b, off, none⟩ ∧ b < w.heap.size ∧ ∀ j v, (rcC r)[j]? = some v → j < 12 → w.cell? ⟨b, off + k * 12 + j, none⟩ = some v := by
  have h0 := rcs_at hk 0 (by omega)
  obtain ⟨b, off, e, hb, hc⟩ := h (by intro he; rw [he] at h0; simp at h0)
  exact ⟨b, off, e, hb, fun j v hv hj => by rw [Nat.add_assoc]; exact hc _ _ ((rcs_at hk j hj).trans hv)⟩
theorem doR_put {l : List Bk} {r : Rc} (hl : okK l = true) (hr : okR r) (h2 : r.k = 2) : putE l r.ix r.d.size = 0 ∧ putR l r.ix r.d = doR l r := by
  have hE : putE l r.ix r.d.size = 0 := by
    obtain ⟨h0, h1, h⟩ := hr
    rcases h with ⟨_, hd⟩ | ⟨h3, _⟩
    · unfold putE
      rw [if_neg (by rw [hl]; simp), if_neg (by omega), if_neg (by omega)]
    · omega
  exact ⟨hE, by unfold putR doR; rw [if_pos hE, if_pos h2]⟩
theorem doR_free {l : List Bk} {r : Rc} (hl : okK l = true) (hr : okR r) (h2 : ¬ r.k = 2) : freeE l r.ix r.ct = 0 ∧ freeR l r.ix r.ct = doR l r ∧ 1 ≤ r.ct ∧ r.ct ≤ 1024 - r.ix := by
  obtain ⟨h0, h1, h⟩ := hr
  rcases h with ⟨h3, hd⟩ | ⟨h3, h4, h5⟩
  · exact absurd h3 h2
  · have hE : freeE l r.ix r.ct = 0 := by
      unfold freeE
      rw [if_neg (by rw [hl]; simp), if_neg (by omega)]
    exact ⟨hE, by unfold freeR doR; rw [if_pos hE, if_neg h2], h4, h5⟩

/-- A content with the first records done. -/
def upM (a : List Bk) (R : List Rc) (k : Nat) : List Bk := (R.take k).foldl doR a
theorem goodR_take : ∀ {n : Int} {R : List Rc} {k : Nat} {r : Rc}, goodR n R → R[k]? = some r → endL n (R.take k) ≤ r.ix ∧ okR r := fun {n R k r} h hk => by
  obtain ⟨hl, rfl⟩ := List.getElem?_eq_some_iff.1 hk
  have e : R = R.take k ++ R[k] :: R.drop (k + 1) := by rw [← List.drop_eq_getElem_cons hl, List.take_append_drop]
  rw [e] at h
  exact goodR_at h
theorem upM_ok {a : List Bk} {R : List Rc} (ha : okK a = true) (h : goodR 0 R) : ∀ k, k ≤ R.length → okK (upM a R k) = true
  | 0, _ => by simpa [upM] using ha
  | k + 1, hk => by
    have hx : R[k]? = some R[k] := List.getElem?_eq_getElem (by omega)
    have ih := upM_ok ha h k (by omega)
    unfold upM at ih ⊢
    rw [List.take_add_one, hx, Option.toList_some, List.foldl_append]
    exact doR_ok ih (goodR_take h hx).2
theorem upM_succ {a : List Bk} {R : List Rc} {k : Nat} {r : Rc} (h : R[k]? = some r) : upM a R (k + 1) = doR (upM a R k) r := by
  unfold upM
  rw [List.take_add_one, h, Option.toList_some, List.foldl_append]
  rfl
theorem endL_succ {R : List Rc} {k : Nat} {r : Rc} (h : R[k]? = some r) : endL 0 (R.take (k + 1)) = endR r := by
  rw [List.take_add_one, h, Option.toList_some, endL_snoc]
theorem endL_bd {R : List Rc} (h : goodR 0 R) (k : Nat) (hk : k ≤ R.length) : 0 ≤ endL 0 (R.take k) ∧ endL 0 (R.take k) ≤ 1024 := by
  rcases k with _ | k
  · simp [endL]
  · have hx : R[k]? = some R[k] := List.getElem?_eq_getElem (by omega)
    obtain ⟨_, h0, h1, h2⟩ := goodR_take h hx
    rw [endL_succ hx]
    unfold endR
    rcases h2 with ⟨h3, _⟩ | ⟨h3, h4⟩
    · rw [if_pos h3]; omega
    · rw [if_neg (by omega)]; omega

set_option maxRecDepth 100000 in
set_option maxHeartbeats 8000000 in
theorem apply11_walk (A B : Option Addr) (c d : Nat) (a b : List Bk) (w : World) (ha : Came w A c a) (hb : Came w B d b) :
    Calls Try.prog 5 #[.slice A a.length c, .slice B b.length d] w fun e w' => e = .returned (.bool true) ∧ Below w.heap.size w w' := by
  have HA := Lib.hid ha
  have HB := Lib.hid hb
  clear ha hb
  have AL := Lib.hid (alive11_any w)
  have FD := Lib.hid (fun W (hW : Below w.heap.size w W) => blkDiff_any A B c d a b W (HA.out.below hW) (HB.out.below hW))
  by_cases hok : okK a = true ∧ okK b = true
  · have hE : diffE a b = 0 := by unfold diffE; rw [if_pos hok]
    have hR : diffR a b = recsOf a b := by unfold diffR; rw [if_pos hok]
    have hgood := recs_good hok.1 hok.2
    have hmake := recs_make hok.1 hok.2
    have hnone := recs_none hok.1 hok.2
    rw [hE, hR] at FD
    obtain ⟨R, hRR⟩ : ∃ R, recsOf a b = R := ⟨_, rfl⟩
    rw [hRR] at FD hgood hmake hnone
    have hRl := goodR_len R 0 (by omega) hgood
    have HG := Lib.hid hgood
    have HM := Lib.hid hmake
    have HN := Lib.hid hnone
    have HOA := Lib.hid hok.1
    have FO := Lib.hid (fun W (hW : Below w.heap.size w W) => refOwn_any A c a.length a rfl HA.out.by24 HA.out.nil W (HA.out.below hW).rd)
    clear hE hR hRR hgood hmake hnone hok
    go_enter Try.func5, Try.ntmps5
    go_wp2_with fail
    refine AL.out.mono ?_
    rintro e w0 ⟨rfl, B0⟩
    go_wp2_with fail
    refine (FD.out w0 B0).mono ?_
    rintro e w1 ⟨v1, rfl, ho1, B1⟩
    obtain ⟨A5, c5, rfl, _, _, r5, _⟩ := ownAny ho1
    have B01 := B0.trans (B1.mono B0.size)
    have R5 := Lib.hid r5.1
    clear ho1 r5 FD
    go_wp2_with fail
    refine (num11_any 0 w1).mono ?_
    rintro e w1' ⟨rfl, rfl⟩
    go_wp2_with fail
    refine (FO.out w1' B01).mono ?_
    rintro e w2 ⟨v2, rfl, ho2, B2⟩
    obtain ⟨A7, c7, rfl, q7, n7, r7, _⟩ := ownAny ho2
    have B02 := B01.trans (B2.mono B01.size)
    have HL := Lib.hid (fun W (hW : Below w2.heap.size w2 W) => R5.out.below (B2.trans (hW.mono B2.size)))
    have X7 := Lib.hid (Came.of_ok HOA.out q7 n7 r7.1)
    clear ho2 q7 n7 r7 FO
    go_wp2
    go_loopw [7, 8, 9] (fun vo vl vi W => ∃ (k : Nat) (M : List Bk) (A' : Option Addr) (c' : Nat) (t : Int), k ≤ R.length ∧ vi = .int .i64 k ∧ vl = .int .i64 t ∧ Hid (t = endL 0 (R.take k) - 1) ∧ vo = .slice A' M.length c' ∧ Hid (M = upM a R k) ∧ Hid (Came W A' c' M) ∧ Below w2.heap.size w2 W) (fun _ _ vi _ => R.length - (intOf vi).toNat)
    case atStart => exact ⟨0, a, A7, c7, -1, Nat.zero_le _, rfl, rfl, Lib.hid rfl, rfl, Lib.hid rfl, X7, Below.refl _ _⟩
    case round =>
      clear X7
      obtain ⟨k, M, A', c', t, hk, rfl, rfl, HT, rfl, HMM, HC, hB⟩ := hrel
      by_cases hlt : k < R.length
      · obtain ⟨r, hr⟩ : ∃ r, R[k]? = some r := ⟨R[k], List.getElem?_eq_getElem hlt⟩
        obtain ⟨g, o, rfl, hg, hcell⟩ := (HL.out wr hB).rc hr
        have x0 : wr.cell? ⟨g, o + k * 12, none⟩ = some (.int .i64 r.k) := hcell 0 (.int .i64 r.k) rfl (by omega)
        have x5 := hcell 5 (.int .i64 r.ix) rfl (by omega)
        have x6 := hcell 6 (.int .i64 r.ct) rfl (by omega)
        have x7 := hcell 7 (.string r.d) rfl (by omega)
        obtain ⟨g1, g2⟩ := goodR_take HG.out hr
        have hbd := endL_bd HG.out k (by omega)
        have htl : t < r.ix := by have := HT.out; omega
        have hMok : okK M = true := by rw [HMM.out]; exact upM_ok HOA.out HG.out k (by omega)
        have hix := g2.1
        have hix2 := g2.2.1
        have hS0 : Hid (∀ W, Below wr.heap.size wr W → W.cell? ⟨g, o + k * 12 + 5, none⟩ = some (.int .i64 r.ix) ∧ W.cell? ⟨g, o + k * 12 + 6, none⟩ = some (.int .i64 r.ct) ∧ W.cell? ⟨g, o + k * 12 + 7, none⟩ = some (.string r.d)) := Lib.hid fun W hW =>
          ⟨(hW.cell (p := ⟨g, _, none⟩) hg).trans x5, (hW.cell (p := ⟨g, _, none⟩) hg).trans x6, (hW.cell (p := ⟨g, _, none⟩) hg).trans x7⟩
        have HSU := Lib.hid (upM_succ (a := a) hr)
        have HEU := Lib.hid (endL_succ hr)
        have hBd : Below wr.heap.size wr wr.drew := (Below.refl _ _).drew
        have hBs := hB.size
        by_cases h2 : r.k = 2
        · have b2 : (r.k == 2) = true := beq_iff_eq.2 h2
          obtain ⟨p1, p2⟩ := doR_put hMok g2 h2
          have FP := Lib.hid (fun W (hW : Below wr.heap.size wr W) => (HC.out.below hW).put r.ix r.d (by rcases g2.2.2 with ⟨_, h⟩ | ⟨h, _⟩ <;> omega))
          rw [p1, p2] at FP
          have HDK := Lib.hid (doR_ok hMok g2)
          have HEQ : Hid (doR M r = upM a R (k + 1)) := Lib.hid (by rw [HSU.out, HMM.out])
          have HT' : Hid (r.ix = endL 0 (R.take (k + 1)) - 1) := Lib.hid (by rw [HEU.out]; unfold endR; rw [if_pos h2]; omega)
          clear hr hcell g1 g2 hMok HT h2 p1 p2 HMM HSU HEU
          go_wp2_with fail
          refine wp_region_noPanic ?_
          refine wp_region_last 11 (fun W => W.cell? ⟨g, o + k * 12 + 5, none⟩ = some (.int .i64 r.ix) ∧ W.cell? ⟨g, o + k * 12 + 6, none⟩ = some (.int .i64 r.ct) ∧ W.cell? ⟨g, o + k * 12 + 7, none⟩ = some (.string r.d)) (by kernel_rfl) (hS0.out _ hBd) (fun hHeld => ?_)
          refine wpAnyL_take 12 (i := 0) (oi := ⟨some 52, _, _, _, _, _⟩) (v := ?_) rfl (by kernel_rfl) (by kernel_rfl) (by kernel_rfl) (by kernel_rfl) (by kernel_rfl) (by kernel_rfl) (by kernel_rfl) (fun _ _ _ h => h) (Or.inl ⟨by rfl, ?_⟩) hHeld ?_
          rotate_left
          focus (intro w hSw; (try dsimp only at hSw); go_simp; try (with_reducible rfl))
          try simp only [Act.put, List.setIfInBounds_toArray, List.set_cons_zero, List.set_cons_succ]
          refine wpAnyL_take 12 (i := 1) (oi := ⟨some 53, _, _, _, _, _⟩) (v := ?_) rfl (by kernel_rfl) (by kernel_rfl) (by kernel_rfl) (by kernel_rfl) (by kernel_rfl) (by kernel_rfl) (by kernel_rfl) (fun _ _ _ h => h) (Or.inl ⟨by rfl, ?_⟩) hHeld ?_
          rotate_left
          focus (intro w hSw; (try dsimp only at hSw); go_simp; try (with_reducible rfl))
          try simp only [Act.put, List.setIfInBounds_toArray, List.set_cons_zero, List.set_cons_succ]
          refine wpAnyL_take 12 (i := 2) (oi := ⟨some 54, _, _, _, _, _⟩) (v := ?_) rfl (by kernel_rfl) (by kernel_rfl) (by kernel_rfl) (by kernel_rfl) (by kernel_rfl) (by kernel_rfl) (by kernel_rfl) (fun _ _ _ h => h) (Or.inl ⟨by rfl, ?_⟩) hHeld ?_
          rotate_left
          focus (intro w hSw; (try dsimp only at hSw); go_simp; try (with_reducible rfl))
          try simp only [Act.put, List.setIfInBounds_toArray, List.set_cons_zero, List.set_cons_succ]
          refine wpAnyL_take 12 (i := 3) (oi := ⟨some 55, _, _, _, _, _⟩) (v := ?_) rfl (by kernel_rfl) (by kernel_rfl) (by kernel_rfl) (by kernel_rfl) (by kernel_rfl) (by kernel_rfl) (by kernel_rfl) (fun _ _ _ h => h) (Or.inl ⟨by rfl, ?_⟩) hHeld ?_
          rotate_left
          focus (intro w hSw; (try dsimp only at hSw); go_simp; try (with_reducible rfl))
          try simp only [Act.put, List.setIfInBounds_toArray, List.set_cons_zero, List.set_cons_succ]
          refine wpAnyL_take 12 (i := 4) (oi := ⟨some 56, _, _, _, _, _⟩) (v := ?_) rfl (by kernel_rfl) (by kernel_rfl) (by kernel_rfl) (by kernel_rfl) (by kernel_rfl) (by kernel_rfl) (by kernel_rfl) (fun _ _ _ h => h) (Or.inl ⟨by rfl, ?_⟩) hHeld ?_
          rotate_left
          focus (intro w hSw; (try dsimp only at hSw); go_simp; try (with_reducible rfl))
          try simp only [Act.put, List.setIfInBounds_toArray, List.set_cons_zero, List.set_cons_succ]
          refine wpAnyL_take 12 (i := 5) (oi := ⟨some 57, _, _, _, _, _⟩) (v := ?_) rfl (by kernel_rfl) (by kernel_rfl) (by kernel_rfl) (by kernel_rfl) (by kernel_rfl) (by kernel_rfl) (by kernel_rfl) (fun _ _ _ h => h) (Or.inl ⟨by rfl, ?_⟩) hHeld ?_
          rotate_left
          focus (intro w hSw; (try dsimp only at hSw); go_simp; try (with_reducible rfl))
          try simp only [Act.put, List.setIfInBounds_toArray, List.set_cons_zero, List.set_cons_succ]
          refine wpAnyL_take 12 (i := 6) (oi := ⟨some 58, _, _, _, _, _⟩) (v := ?_) rfl (by kernel_rfl) (by kernel_rfl) (by kernel_rfl) (by kernel_rfl) (by kernel_rfl) (by kernel_rfl) (by kernel_rfl) (fun _ _ _ h => h) (Or.inl ⟨by rfl, ?_⟩) hHeld ?_
          rotate_left
          focus (intro w hSw; (try dsimp only at hSw); go_simp; try (with_reducible rfl))
          try simp only [Act.put, List.setIfInBounds_toArray, List.set_cons_zero, List.set_cons_succ]
          refine wpAnyL_take 12 (i := 7) (oi := ⟨some 59, _, _, _, _, _⟩) (v := ?_) rfl (by kernel_rfl) (by kernel_rfl) (by kernel_rfl) (by kernel_rfl) (by kernel_rfl) (by kernel_rfl) (by kernel_rfl) (fun _ _ _ h => h) (Or.inl ⟨by rfl, ?_⟩) hHeld ?_
          rotate_left
          focus (intro w hSw; (try dsimp only at hSw); go_simp; try (with_reducible rfl))
          try simp only [Act.put, List.setIfInBounds_toArray, List.set_cons_zero, List.set_cons_succ]
          refine wpAnyL_take 12 (i := 8) (oi := ⟨some 60, _, _, _, _, _⟩) (v := ?_) rfl (by kernel_rfl) (by kernel_rfl) (by kernel_rfl) (by kernel_rfl) (by kernel_rfl) (by kernel_rfl) (by kernel_rfl) (fun _ _ _ h => h) (Or.inl ⟨by rfl, ?_⟩) hHeld ?_
          rotate_left
          focus (intro w hSw; (try dsimp only at hSw); go_simp; try (with_reducible rfl))
          try simp only [Act.put, List.setIfInBounds_toArray, List.set_cons_zero, List.set_cons_succ]
          refine wpAnyL_take 12 (i := 9) (oi := ⟨some 61, _, _, _, _, _⟩) (v := ?_) rfl (by kernel_rfl) (by kernel_rfl) (by kernel_rfl) (by kernel_rfl) (by kernel_rfl) (by kernel_rfl) (by kernel_rfl) (fun _ _ _ h => h) (Or.inl ⟨by rfl, ?_⟩) hHeld ?_
          rotate_left
          focus (intro w hSw; (try dsimp only at hSw); go_simp; try (with_reducible rfl))
          try simp only [Act.put, List.setIfInBounds_toArray, List.set_cons_zero, List.set_cons_succ]
          refine wpAnyL_take 12 (i := 10) (oi := ⟨some 62, _, _, _, _, _⟩) (v := ?_) rfl (by kernel_rfl) (by kernel_rfl) (by kernel_rfl) (by kernel_rfl) (by kernel_rfl) (by kernel_rfl) (by kernel_rfl) (fun _ _ _ h => h) (Or.inl ⟨by rfl, ?_⟩) hHeld ?_
          rotate_left
          focus (intro w hSw; (try dsimp only at hSw); go_simp; try (with_reducible rfl))
          try simp only [Act.put, List.setIfInBounds_toArray, List.set_cons_zero, List.set_cons_succ]
          refine wpAnyL_last (i := 11) (o := ⟨some 63, _, _, _, _, _⟩) (by kernel_rfl) rfl (by kernel_rfl) (fun K hK => ?_)
          clear hHeld
          go_simp
          refine (FP.out _ hBd).mono ?_
          rintro e w4 ⟨A9, c9, rfl, q9, n9, r9, hB4⟩
          go_wp2_with fail
          refine hK.out _ _ ?_
          clear hK K
          try simp only [Act.put, List.setIfInBounds_toArray, List.set_cons_zero, List.set_cons_succ]
          refine wpAnyL_takeW (i := 12) (oi := ⟨some 51, _, _, _, _, _⟩) (v := ?_) rfl (by kernel_rfl) (by kernel_rfl) (by kernel_rfl) (by kernel_rfl) (fun _ _ _ h => h) (Or.inl ⟨by rfl, ?_⟩) (.inl (by kernel_rfl)) ?_
          rotate_left
          focus (intro w hSw; (try dsimp only at hSw); go_simp; try (with_reducible rfl))
          try simp only [Act.put, List.setIfInBounds_toArray, List.set_cons_zero, List.set_cons_succ]
          refine wpAnyL_takeW (i := 13) (oi := ⟨some 64, _, _, _, _, _⟩) (v := ?_) rfl (by kernel_rfl) (by kernel_rfl) (by kernel_rfl) (by kernel_rfl) (fun _ _ _ h => h) (Or.inl ⟨by rfl, ?_⟩) (.inl (by kernel_rfl)) ?_
          rotate_left
          focus (intro w hSw; (try dsimp only at hSw); go_simp; try (with_reducible rfl))
          try simp only [Act.put, List.setIfInBounds_toArray, List.set_cons_zero, List.set_cons_succ]
          refine wpAnyL_takeW (i := 14) (oi := ⟨some 65, _, _, _, _, _⟩) (v := ?_) rfl (by kernel_rfl) (by kernel_rfl) (by kernel_rfl) (by kernel_rfl) (fun _ _ _ h => h) (Or.inl ⟨by rfl, ?_⟩) (.inl (by kernel_rfl)) ?_
          rotate_left
          focus (intro w hSw; (try dsimp only at hSw); go_simp; try (with_reducible rfl))
          try simp only [Act.put, List.setIfInBounds_toArray, List.set_cons_zero, List.set_cons_succ]
          refine wpAnyL_takeW (i := 15) (oi := ⟨some 7, _, _, _, _, _⟩) (v := ?_) rfl (by kernel_rfl) (by kernel_rfl) (by kernel_rfl) (by kernel_rfl) (fun _ _ _ h => h) (Or.inl ⟨by rfl, ?_⟩) (.inl (by kernel_rfl)) ?_
          rotate_left
          focus (intro w hSw; (try dsimp only at hSw); go_simp; try (with_reducible rfl))
          try simp only [Act.put, List.setIfInBounds_toArray, List.set_cons_zero, List.set_cons_succ]
          refine wpAnyL_takeW (i := 16) (oi := ⟨some 10, _, _, _, _, _⟩) (v := ?_) rfl (by kernel_rfl) (by kernel_rfl) (by kernel_rfl) (by kernel_rfl) (fun _ _ _ h => h) (Or.inl ⟨by rfl, ?_⟩) (.inl (by kernel_rfl)) ?_
          rotate_left
          focus (intro w hSw; (try dsimp only at hSw); go_simp; try (with_reducible rfl))
          try simp only [Act.put, List.setIfInBounds_toArray, List.set_cons_zero, List.set_cons_succ]
          refine wpAnyL_done (by kernel_rfl) ?_ _
          refine NoPanic.normal ?_
          have HC' := Lib.hid (Came.of_ok HDK.out q9 n9 r9)
          have hB04 := hB.trans ((hBd.trans (hB4.mono hBd.size)).mono hBs)
          clear q9 n9 r9 hB4 FP HC HL
          go_wp2_with fail
          go_roundw
          case rel => exact ⟨k + 1, doR M r, A9, c9, r.ix, by omega, by go_num, rfl, HT', rfl, HEQ, HC', hB04⟩
          case measure => simp [intOf]; omega
        · have b2 : (r.k == 2) = false := beq_eq_false_iff_ne.2 h2
          obtain ⟨p1, p2, p3, p4⟩ := doR_free hMok g2 h2
          have FP := Lib.hid (fun W (hW : Below wr.heap.size wr W) => (HC.out.below hW).free r.ix r.ct)
          rw [p1, p2] at FP
          have HDK := Lib.hid (doR_ok hMok g2)
          have HEQ : Hid (doR M r = upM a R (k + 1)) := Lib.hid (by rw [HSU.out, HMM.out])
          have HT' : Hid (r.ix + r.ct - 1 = endL 0 (R.take (k + 1)) - 1) := Lib.hid (by rw [HEU.out]; unfold endR; rw [if_neg h2])
          have hw1 : wrap64 (r.ix + r.ct) = r.ix + r.ct := IntWalk.wrap64_in _ (by omega)
          have hw2 : wrap64 (r.ix + r.ct - 1) = r.ix + r.ct - 1 := IntWalk.wrap64_in _ (by omega)
          have hS0d : Hid (∀ n W, Below (wr.drewN n).heap.size (wr.drewN n) W → W.cell? ⟨g, o + k * 12 + 5, none⟩ = some (.int .i64 r.ix) ∧ W.cell? ⟨g, o + k * 12 + 6, none⟩ = some (.int .i64 r.ct) ∧ W.cell? ⟨g, o + k * 12 + 7, none⟩ = some (.string r.d)) := Lib.hid fun n W hW => hS0.out W ((belowDrewN wr n _).trans hW)
          have FPd := Lib.hid (fun n W (hW : Below (wr.drewN n).heap.size (wr.drewN n) W) => FP.out W ((belowDrewN wr n _).trans hW))
          have hBn := fun n => hB.trans (belowDrewN wr n w2.heap.size)
          clear hr hcell g1 g2 hMok HT h2 p1 p2 HMM HSU HEU
          go_wp2_with (go_quiet (fail))
          have hBd2 : Below (wr.drewN nq).heap.size (wr.drewN nq) (wr.drewN nq).drew := (Below.refl _ _).drew
          refine wp_region_noPanic ?_
          refine wp_region_last 11 (fun W => W.cell? ⟨g, o + k * 12 + 5, none⟩ = some (.int .i64 r.ix) ∧ W.cell? ⟨g, o + k * 12 + 6, none⟩ = some (.int .i64 r.ct) ∧ W.cell? ⟨g, o + k * 12 + 7, none⟩ = some (.string r.d)) (by kernel_rfl) (hS0d.out _ _ hBd2) (fun hHeld => ?_)
          refine wpAnyL_take 12 (i := 0) (oi := ⟨some 79, _, _, _, _, _⟩) (v := ?_) rfl (by kernel_rfl) (by kernel_rfl) (by kernel_rfl) (by kernel_rfl) (by kernel_rfl) (by kernel_rfl) (by kernel_rfl) (fun _ _ _ h => h) (Or.inl ⟨by rfl, ?_⟩) hHeld ?_
          rotate_left
          focus (intro w hSw; (try dsimp only at hSw); go_simp; try (with_reducible rfl))
          try simp only [Act.put, List.setIfInBounds_toArray, List.set_cons_zero, List.set_cons_succ]
          refine wpAnyL_take 12 (i := 1) (oi := ⟨some 80, _, _, _, _, _⟩) (v := ?_) rfl (by kernel_rfl) (by kernel_rfl) (by kernel_rfl) (by kernel_rfl) (by kernel_rfl) (by kernel_rfl) (by kernel_rfl) (fun _ _ _ h => h) (Or.inl ⟨by rfl, ?_⟩) hHeld ?_
          rotate_left
          focus (intro w hSw; (try dsimp only at hSw); go_simp; try (with_reducible rfl))
          try simp only [Act.put, List.setIfInBounds_toArray, List.set_cons_zero, List.set_cons_succ]
          refine wpAnyL_take 12 (i := 2) (oi := ⟨some 81, _, _, _, _, _⟩) (v := ?_) rfl (by kernel_rfl) (by kernel_rfl) (by kernel_rfl) (by kernel_rfl) (by kernel_rfl) (by kernel_rfl) (by kernel_rfl) (fun _ _ _ h => h) (Or.inl ⟨by rfl, ?_⟩) hHeld ?_
          rotate_left
          focus (intro w hSw; (try dsimp only at hSw); go_simp; try (with_reducible rfl))
          try simp only [Act.put, List.setIfInBounds_toArray, List.set_cons_zero, List.set_cons_succ]
          refine wpAnyL_take 12 (i := 3) (oi := ⟨some 82, _, _, _, _, _⟩) (v := ?_) rfl (by kernel_rfl) (by kernel_rfl) (by kernel_rfl) (by kernel_rfl) (by kernel_rfl) (by kernel_rfl) (by kernel_rfl) (fun _ _ _ h => h) (Or.inl ⟨by rfl, ?_⟩) hHeld ?_
          rotate_left
          focus (intro w hSw; (try dsimp only at hSw); go_simp; try (with_reducible rfl))
          try simp only [Act.put, List.setIfInBounds_toArray, List.set_cons_zero, List.set_cons_succ]
          refine wpAnyL_take 12 (i := 4) (oi := ⟨some 83, _, _, _, _, _⟩) (v := ?_) rfl (by kernel_rfl) (by kernel_rfl) (by kernel_rfl) (by kernel_rfl) (by kernel_rfl) (by kernel_rfl) (by kernel_rfl) (fun _ _ _ h => h) (Or.inl ⟨by rfl, ?_⟩) hHeld ?_
          rotate_left
          focus (intro w hSw; (try dsimp only at hSw); go_simp; try (with_reducible rfl))
          try simp only [Act.put, List.setIfInBounds_toArray, List.set_cons_zero, List.set_cons_succ]
          refine wpAnyL_take 12 (i := 5) (oi := ⟨some 84, _, _, _, _, _⟩) (v := ?_) rfl (by kernel_rfl) (by kernel_rfl) (by kernel_rfl) (by kernel_rfl) (by kernel_rfl) (by kernel_rfl) (by kernel_rfl) (fun _ _ _ h => h) (Or.inl ⟨by rfl, ?_⟩) hHeld ?_
          rotate_left
          focus (intro w hSw; (try dsimp only at hSw); go_simp; try (with_reducible rfl))
          try simp only [Act.put, List.setIfInBounds_toArray, List.set_cons_zero, List.set_cons_succ]
          refine wpAnyL_take 12 (i := 6) (oi := ⟨some 85, _, _, _, _, _⟩) (v := ?_) rfl (by kernel_rfl) (by kernel_rfl) (by kernel_rfl) (by kernel_rfl) (by kernel_rfl) (by kernel_rfl) (by kernel_rfl) (fun _ _ _ h => h) (Or.inl ⟨by rfl, ?_⟩) hHeld ?_
          rotate_left
          focus (intro w hSw; (try dsimp only at hSw); go_simp; try (with_reducible rfl))
          try simp only [Act.put, List.setIfInBounds_toArray, List.set_cons_zero, List.set_cons_succ]
          refine wpAnyL_take 12 (i := 7) (oi := ⟨some 86, _, _, _, _, _⟩) (v := ?_) rfl (by kernel_rfl) (by kernel_rfl) (by kernel_rfl) (by kernel_rfl) (by kernel_rfl) (by kernel_rfl) (by kernel_rfl) (fun _ _ _ h => h) (Or.inl ⟨by rfl, ?_⟩) hHeld ?_
          rotate_left
          focus (intro w hSw; (try dsimp only at hSw); go_simp; try (with_reducible rfl))
          try simp only [Act.put, List.setIfInBounds_toArray, List.set_cons_zero, List.set_cons_succ]
          refine wpAnyL_take 12 (i := 8) (oi := ⟨some 87, _, _, _, _, _⟩) (v := ?_) rfl (by kernel_rfl) (by kernel_rfl) (by kernel_rfl) (by kernel_rfl) (by kernel_rfl) (by kernel_rfl) (by kernel_rfl) (fun _ _ _ h => h) (Or.inl ⟨by rfl, ?_⟩) hHeld ?_
          rotate_left
          focus (intro w hSw; (try dsimp only at hSw); go_simp; try (with_reducible rfl))
          try simp only [Act.put, List.setIfInBounds_toArray, List.set_cons_zero, List.set_cons_succ]
          refine wpAnyL_take 12 (i := 9) (oi := ⟨some 88, _, _, _, _, _⟩) (v := ?_) rfl (by kernel_rfl) (by kernel_rfl) (by kernel_rfl) (by kernel_rfl) (by kernel_rfl) (by kernel_rfl) (by kernel_rfl) (fun _ _ _ h => h) (Or.inl ⟨by rfl, ?_⟩) hHeld ?_
          rotate_left
          focus (intro w hSw; (try dsimp only at hSw); go_simp; try (with_reducible rfl))
          try simp only [Act.put, List.setIfInBounds_toArray, List.set_cons_zero, List.set_cons_succ]
          refine wpAnyL_take 12 (i := 10) (oi := ⟨some 89, _, _, _, _, _⟩) (v := ?_) rfl (by kernel_rfl) (by kernel_rfl) (by kernel_rfl) (by kernel_rfl) (by kernel_rfl) (by kernel_rfl) (by kernel_rfl) (fun _ _ _ h => h) (Or.inl ⟨by rfl, ?_⟩) hHeld ?_
          rotate_left
          focus (intro w hSw; (try dsimp only at hSw); go_simp; try (with_reducible rfl))
          try simp only [Act.put, List.setIfInBounds_toArray, List.set_cons_zero, List.set_cons_succ]
          refine wpAnyL_last (i := 11) (o := ⟨some 90, _, _, _, _, _⟩) (by kernel_rfl) rfl (by kernel_rfl) (fun K hK => ?_)
          clear hHeld
          go_simp
          refine (FPd.out _ _ hBd2).mono ?_
          rintro e w4 ⟨A9, c9, rfl, q9, n9, r9, hB4⟩
          go_wp2_with fail
          refine hK.out _ _ ?_
          clear hK K
          try simp only [Act.put, List.setIfInBounds_toArray, List.set_cons_zero, List.set_cons_succ]
          refine wpAnyL_takeW (i := 12) (oi := ⟨some 78, _, _, _, _, _⟩) (v := ?_) rfl (by kernel_rfl) (by kernel_rfl) (by kernel_rfl) (by kernel_rfl) (fun _ _ _ h => h) (Or.inl ⟨by rfl, ?_⟩) (.inl (by kernel_rfl)) ?_
          rotate_left
          focus (intro w hSw; (try dsimp only at hSw); go_simp; try (with_reducible rfl))
          try simp only [Act.put, List.setIfInBounds_toArray, List.set_cons_zero, List.set_cons_succ]
          refine wpAnyL_takeW (i := 13) (oi := ⟨some 91, _, _, _, _, _⟩) (v := ?_) rfl (by kernel_rfl) (by kernel_rfl) (by kernel_rfl) (by kernel_rfl) (fun _ _ _ h => h) (Or.inl ⟨by rfl, ?_⟩) (.inl (by kernel_rfl)) ?_
          rotate_left
          focus (intro w hSw; (try dsimp only at hSw); go_simp; try (with_reducible rfl))
          try simp only [Act.put, List.setIfInBounds_toArray, List.set_cons_zero, List.set_cons_succ]
          refine wpAnyL_takeW (i := 14) (oi := ⟨some 92, _, _, _, _, _⟩) (v := ?_) rfl (by kernel_rfl) (by kernel_rfl) (by kernel_rfl) (by kernel_rfl) (fun _ _ _ h => h) (Or.inl ⟨by rfl, ?_⟩) (.inl (by kernel_rfl)) ?_
          rotate_left
          focus (intro w hSw; (try dsimp only at hSw); go_simp; try (with_reducible rfl))
          try simp only [Act.put, List.setIfInBounds_toArray, List.set_cons_zero, List.set_cons_succ]
          refine wpAnyL_takeW (i := 15) (oi := ⟨some 7, _, _, _, _, _⟩) (v := ?_) rfl (by kernel_rfl) (by kernel_rfl) (by kernel_rfl) (by kernel_rfl) (fun _ _ _ h => h) (Or.inl ⟨by rfl, ?_⟩) (.inl (by kernel_rfl)) ?_
          rotate_left
          focus (intro w hSw; (try dsimp only at hSw); go_simp; try (with_reducible rfl))
          try simp only [Act.put, List.setIfInBounds_toArray, List.set_cons_zero, List.set_cons_succ]
          refine wpAnyL_takeW (i := 16) (oi := ⟨some 10, _, _, _, _, _⟩) (v := ?_) rfl (by kernel_rfl) (by kernel_rfl) (by kernel_rfl) (by kernel_rfl) (fun _ _ _ h => h) (Or.inl ⟨by rfl, ?_⟩) (.inl (by kernel_rfl)) ?_
          rotate_left
          focus (intro w hSw; (try dsimp only at hSw); go_simp; try (with_reducible rfl))
          try simp only [Act.put, List.setIfInBounds_toArray, List.set_cons_zero, List.set_cons_succ]
          refine wpAnyL_done (by kernel_rfl) ?_ _
          refine NoPanic.normal ?_
          have HC' := Lib.hid (Came.of_ok HDK.out q9 n9 r9)
          have hB04 := (hBn nq).trans ((hBd2.trans (hB4.mono hBd2.size)).mono (hBn nq).size)
          clear q9 n9 r9 hB4 FP FPd HC HL
          go_wp2_with fail
          go_roundw
          case rel => exact ⟨k + 1, doR M r, A9, c9, r.ix + r.ct - 1, by omega, by go_num, rfl, HT', rfl, HEQ, HC', hB04⟩
          case measure => simp [intOf]; omega
      · obtain rfl : k = R.length := by omega
        have hMb : M = b := by rw [HMM.out, upM, List.take_length]; exact HM.out
        subst hMb
        have hB0 := B02.trans (hB.mono B02.size)
        have S1 := Lib.hid (HC.out.refSame (HB.out.below hB0))
        have S2 := Lib.hid (fun W (hW : Below wr.heap.size wr W) => (HA.out.below (hB0.trans (hW.mono hB0.size))).refSame (HB.out.below (hB0.trans (hW.mono hB0.size))))
        rw [decide_eq_true rfl] at S1
        have hq : Hid (((R.length : Int) == 0) = decide (a = M)) := Lib.hid (by
          by_cases h : a = M
          · rw [decide_eq_true h, HN.out.2 h]; rfl
          · rw [decide_eq_false h]
            refine beq_eq_false_iff_ne.2 fun h0 => h (HN.out.1 (List.eq_nil_of_length_eq_zero (by omega))))
        obtain ⟨D, hD⟩ : ∃ D, decide (a = M) = D := ⟨_, rfl⟩
        rw [hD] at S2 hq
        clear hD HM HMM HT HL
        go_wp2_with fail
        refine S1.out.mono ?_
        rintro e w4 ⟨rfl, B4⟩
        go_wp2_with fail
        refine (S2.out w4 B4).mono ?_
        rintro e w5 ⟨rfl, B5⟩
        have hqq := hq.out
        have hB5 := (hB0.trans (B4.mono hB0.size)).trans (B5.mono (hB0.trans (B4.mono hB0.size)).size)
        rcases D with _ | _
        · go_wp2
          go_ret
          exact ⟨rfl, hB5⟩
        · go_wp2
          go_ret
          exact ⟨rfl, hB5⟩
  · have hE : diffE a b = 9 := by unfold diffE; rw [if_neg hok]
    have hR : diffR a b = [] := by unfold diffR; rw [if_neg hok]
    rw [hE, hR] at FD
    clear hE hR hok
    go_enter Try.func5, Try.ntmps5
    go_wp2_with fail
    refine AL.out.mono ?_
    rintro e w0 ⟨rfl, B0⟩
    go_wp2_with fail
    refine (FD.out w0 B0).mono ?_
    rintro e w1 ⟨v1, rfl, ho1, B1⟩
    obtain ⟨A5, c5, rfl, _, _, _, _⟩ := ownAny ho1
    have B01 := B0.trans (B1.mono B0.size)
    clear ho1 FD
    go_wp2_with fail
    refine (num11_any 9 w1).mono ?_
    rintro e w1' ⟨rfl, rfl⟩
    go_wp2
    go_ret
    exact ⟨rfl, B01⟩

end Go.Proofs.Ytkebgfpghjgghaa
