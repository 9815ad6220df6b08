/-
  open. Conditions: a store stands on the device, and nothing waits.
-/
import Derived.Test.YtfeeejigedndcaaGreatMYH
import Derived.Test.YtfeeejigedndcaaGreatMYQ
import Derived.Test.YtfeeejigedndcaaGreatMQV
import Derived.Test.YtfeeejigedndcaaGreatMDVG
import Derived.Test.YtfeeejigedndcaaGreatMYK
import Derived.Test.YtfeeejigedndcaaGreatMQS
import Derived.Test.YtfeeejigedndcaaGreatMRL
import Derived.Test.YtfeeejigedndcaaGreatMYV
import Derived.Sort.CutIn
namespace Go.Proofs.YtfeeejigedndcaaGreat
open Go.ChangeShapes Go.WideShapes Go.ChangeAt Go.RowKit Go.Maps Go.Shelf
set_option maxRecDepth 100000
attribute [local go_sem] Oper.semAt_some

theorem chain_mk (X : Nat) (z : Int) (n : Nat) (w : World) :
    CallsIn Fence.wide n Tryz.prog 61 #[.pointer (some ⟨X, 0, none⟩), .int .i64 z] w fun e w' => e = .returned (.func (.func 85) #[] #[.pointer (some ⟨w.heap.size + 1, 0, none⟩), .pointer (some ⟨w.heap.size, 0, none⟩)]) ∧ w' = (w.alloc (.cells #[.pointer (some ⟨X, 0, none⟩)] 115)).alloc (.cells #[.int .i64 z] 3) := by
  have hmf : ∀ (fn : Fn) (first cap : Array Value) (w : World), (Instr.makeFunc fn first cap).run Tryz.prog w = .ok (.func fn first cap) w := fun _ _ _ _ => rfl
  refine callsIn_of_wp Tryz.func61 rfl trivial ?_ rfl
  simp only [Tryz.ntmps61, List.size_toArray, List.length_cons, List.length_nil, Nat.reduceAdd, Nat.reduceSub, Array.replicate_succ, Array.replicate_zero, List.push_toArray, List.append_toArray, List.nil_append, List.cons_append]
  gi_wp2
  go_ret
  exact ⟨rfl, rfl⟩
theorem infoOb : (Tryz.prog.info? 58).map (fun i => (i.zero, i.size, i.bytes)) = some (some (.agg #[.string ByteArray.empty, .slice none 0 0, .slice none 0 0]), 3, 64) := by kernel_rfl
theorem add_cell (w : World) (p : Nat × Nat) (k : Nat) : w.cell? ((⟨p.1, p.2, none⟩ : Addr).add k) = w.cell? ⟨p.1, p.2 + k, none⟩ := by
  unfold Addr.add
  split
  · subst_vars; rfl
  · rfl
theorem Rd.toU {w W : World} {A : Option Addr} {vs : List Value} (h : Rd w A vs) (hB : Below w.heap.size w W) : RdU w.heap.size W A vs := fun hv => by
  obtain ⟨b, off, e, hb, hc⟩ := h hv
  exact ⟨b, off, e, hb, fun j u hu => (hB.cell (p := ⟨b, off + j, none⟩) hb).trans (hc j u hu)⟩

set_option maxHeartbeats 4000000 in
theorem open_ok (D : Dv) (hf : D.Fits) (hok : D.st.ok) (hw : D.ws = []) (u : Ub) (os : List PO) (ix : List Int) (hS : Stands D.st.secs u os ix) (w : World) (hD : D.Lies 0 w) :
    Calls Tryz.prog 29 #[D.val] w fun e w' => ∃ T : St, e = .returned T.val ∧ T.st = ⟨D.st, u, os, ix⟩ ∧ T.Lies w.heap.size w' ∧ T.Fits ∧ Below w.heap.size w w' := by
  obtain ⟨i3, hi3, hz30, hz31, hz32⟩ := info_parts qinfo3
  obtain ⟨i5, hi5, hz50, hz51, hz52⟩ := info_parts info5
  obtain ⟨w2, hw2⟩ : ∃ w2, (w.alloc (.cells #[.slice D.A D.ps.length D.c, .slice D.B 0 D.d] 27)).alloc (.cells #[.slice none 0 0, .slice none 0 0, .int .i64 0, .int .i64 0, .int .i64 0, .slice none 0 0, .slice none 0 0] 32) = w2 := ⟨_, rfl⟩
  have e2 : w2 = allocs w [([.slice D.A D.ps.length D.c, .slice D.B 0 D.d], 27), ([.slice none 0 0, .slice none 0 0, .int .i64 0, .int .i64 0, .int .i64 0, .slice none 0 0, .slice none 0 0], 32)] := by rw [← hw2]; rfl
  have hB2 : Below w.heap.size w w2 := by rw [e2]; exact allocs_below _ _
  have hs2 : w2.heap.size = w.heap.size + 2 := by rw [e2, allocs_size]; rfl
  have kd : Blk w2 w.heap.size 27 [.slice D.A D.ps.length D.c, .slice D.B 0 D.d] := by rw [e2]; exact allocs_blk _ w 0 rfl
  have kr : Blk w2 (w.heap.size + 1) 32 [.slice none 0 0, .slice none 0 0, .int .i64 0, .int .i64 0, .int .i64 0, .slice none 0 0, .slice none 0 0] := by rw [e2]; exact allocs_blk _ w 1 rfl
  have HDO := Lib.hid (do_okc D hf hok none [] 0 rfl (by have := hf.m; simp; omega) w2 (hD.below hB2) ⟨Rd.nil _ _, fun a ha => by simp at ha, by simp, by simp⟩)
  have hDv : D.val = dval D.A D.ps.length D.c D.B 0 D.d := by unfold Dv.val; rw [hw]; rfl
  rw [hDv] at HDO ⊢
  have HS := Lib.hid hS
  have HOK := Lib.hid hok
  have HF := Lib.hid hf
  have HW2 := Lib.hid hw2
  have d0 := kd.cell 0
  have d1 := kd.cell 1
  simp only [List.getElem?_cons_zero, List.getElem?_cons_succ] at d0 d1
  clear hw2 e2 hS hD hok hf hDv
  refine (callsIn_wide (n := 4)).1 ?_
  refine callsIn_of_wp_marks Tryz.func29 rfl trivial ?_ rfl
  simp only [Tryz.ntmps29, List.size_toArray, List.length_cons, List.length_nil, Nat.reduceAdd, Nat.reduceSub, Array.replicate_succ, Array.replicate_zero, List.push_toArray, List.append_toArray, List.nil_append, List.cons_append]
  gi_wp2_with fail
  rw [HW2.out]
  refine ⟨trivial, ?_⟩
  refine (callsIn_wide.2 HDO.out).mono ?_
  rintro e w3 ⟨E, rfl, hE, hEL, hB3, hEC⟩
  have hE1 : E.st = D.st := hE
  have hEw : E.ws = [] := by
    have := congrArg DS.waits hE1
    simp only [Dv.st, hw, List.map_nil, List.map_eq_nil_iff] at this
    exact this
  have hs3 := hB3.size
  obtain ⟨EA, eps, ec, EB, ews, ed⟩ := E
  dsimp only at hEw
  subst hEw
  have HE1 := Lib.hid hE1
  have HEL := Lib.hid hEL
  have HEC := Lib.hid hEC
  have HB3 := Lib.hid (hB2.trans (hB3.mono (by omega)))
  have HKR := Lib.hid (kr.below hB3 kr.lt)
  clear hE hE1 hEL hEC d0 d1 kd kr HDO hw
  obtain ⟨w4, hw4⟩ : ∃ w4, w3.alloc (.cells #[.slice EA eps.length ec, .slice EB 0 ed] 27) = w4 := ⟨_, rfl⟩
  have hB34 : Below w3.heap.size w3 w4 := hw4 ▸ (Below.refl _ w3).alloc (Nat.le_refl _) _
  have kb : Blk w4 w3.heap.size 27 [.slice EA eps.length ec, .slice EB 0 ed] := hw4 ▸ Blk.new w3 [.slice EA eps.length ec, .slice EB 0 ed] 27
  have hs4 : w4.heap.size = w3.heap.size + 1 := by rw [← hw4, World.size_alloc]
  have HEL4 := Lib.hid (HEL.out.below hB34)
  have HKR4 := Lib.hid (HKR.out.below hB34 HKR.out.lt)
  have hsec : eps.map (·.zs) = D.st.secs := congrArg DS.secs HE1.out
  obtain ⟨kq, za, zb, hza, hzb, hoa, hob, hnew⟩ := HS.out.hu
  rw [← hsec, List.getElem?_map] at hza hzb
  obtain ⟨p0, hp0, rfl⟩ : ∃ p, eps[0]? = some p ∧ p.zs = za := by
    rcases h : eps[0]? with _ | p
    · rw [h] at hza; cases hza
    · rw [h] at hza; injection hza with e; exact ⟨p, rfl, e⟩
  obtain ⟨p1, hp1, rfl⟩ : ∃ p, eps[1]? = some p ∧ p.zs = zb := by
    rcases h : eps[1]? with _ | p
    · rw [h] at hzb; cases hzb
    · rw [h] at hzb; injection hzb with e; exact ⟨p, rfl, e⟩
  obtain ⟨ab, ao, rfl, hab, hc0⟩ := HEL4.out.secs.1.pt hp0
  obtain ⟨ab', ao', hA', _, hc1⟩ := HEL4.out.secs.1.pt hp1
  injection hA' with hA'
  injection hA' with hA1 hA2 _
  subst hA1 hA2
  have hl0 : (0 : Int) < eps.length := by have := (List.getElem?_eq_some_iff.1 hp0).1; omega
  have hl1 : (1 : Int) < eps.length := by have := (List.getElem?_eq_some_iff.1 hp1).1; omega
  have hl0n : 0 < eps.length := by omega
  have hl1n : 1 < eps.length := by omega
  have hen : eps.length ≤ 8192 := by
    have := HOK.out.2.1
    rw [← hsec, List.length_map] at this
    exact this
  have h64 : ∀ p ∈ eps, p.zs.length = 64 := fun p hp => HOK.out.2.2.1 p.zs (by rw [← hsec]; exact List.mem_map_of_mem hp)
  have HNW : Hid (∀ W, Below w4.heap.size w4 W → Calls Tryz.prog 59 #[.slice p0.A p0.zs.length p0.c, .slice p1.A p1.zs.length p1.c] W fun e w' => e = .returned (ansN3 (u, kq, 0)) ∧ Below W.heap.size W w') := Lib.hid fun W hW => by
    have m0 := List.mem_of_getElem? hp0
    have m1 := List.mem_of_getElem? hp1
    have := newestU_any ⟨p0.A, p0.zs, p0.c⟩ ⟨p1.A, p1.zs, p1.c⟩ W ⟨(HEC.out.sec p0 m0).1, by have := h64 p0 m0; unfold maxLen; show p0.zs.length ≤ _; omega, hoa, ((HEL4.out.sec p0 m0).below hW).1⟩ ⟨(HEC.out.sec p1 m1).1, by have := h64 p1 m1; unfold maxLen; show p1.zs.length ≤ _; omega, hob, ((HEL4.out.sec p1 m1).below hW).1⟩
    dsimp only at this
    rw [hnew] at this
    exact this
  have HSEC := Lib.hid hsec
  have H64 := Lib.hid h64
  have HW4 := Lib.hid hw4
  have HS4 := Lib.hid hs4
  have hS5 : Hid (∀ W', Below w4.heap.size w4 W' → W'.cell? ⟨w3.heap.size, 0, none⟩ = some (.slice (some ⟨ab, ao, none⟩) eps.length ec) ∧ W'.cell? ⟨ab, ao, none⟩ = some (.slice p0.A p0.zs.length p0.c) ∧ W'.cell? ⟨ab, ao + 1, none⟩ = some (.slice p1.A p1.zs.length p1.c)) := Lib.hid fun W' hB =>
    ⟨(hB.cell (p := ⟨w3.heap.size, 0, none⟩) kb.lt).trans (kb.cell 0), (hB.cell (p := ⟨ab, ao, none⟩) hab).trans hc0, (hB.cell (p := ⟨ab, ao + 1, none⟩) hab).trans hc1⟩
  have HKB := Lib.hid kb
  have x1 := kb.cell 1
  simp only [List.getElem?_cons_zero, List.getElem?_cons_succ] at x1
  obtain ⟨ut, uf, uo⟩ := u
  clear hs4 hw4 kb hza hzb hoa hob hnew hsec h64 hp0 hp1 hc0 hc1 HEL HKR
  gi_wp2_with fail
  rw [HW4.out]
  refine ⟨trivial, ?_⟩
  refine (callsIn_wide.2 (must_ok w4)).mono ?_
  rintro e w4' ⟨rfl, rfl⟩
  gi_upto_region 5 with fail
  gi_cut [4, 5, 6] from 4 (fun e p q wx => ∃ Y, e = .int .i64 0 ∧ p = .pointer (some ⟨Y, 0, none⟩) ∧ Hid (Blk wx Y 29 [.int .i64 ut, .int .i64 uf, .int .i64 uo]) ∧ w4.heap.size ≤ Y ∧ Below w4.heap.size w4 wx)
  case first =>
    have hBd : Below w4.heap.size w4 w4.drew := (Below.refl _ _).drew
    refine wpInW_region_noPanic ?_
    refine wpInW_region_last 14 (fun W' => W'.cell? ⟨w3.heap.size, 0, none⟩ = some (.slice (some ⟨ab, ao, none⟩) eps.length ec) ∧ W'.cell? ⟨ab, ao, none⟩ = some (.slice p0.A p0.zs.length p0.c) ∧ W'.cell? ⟨ab, ao + 1, none⟩ = some (.slice p1.A p1.zs.length p1.c)) (by kernel_rfl) (by kernel_rfl) (hS5.out _ hBd) (fun hHeld => ?_)
    refine wpAnyL_take 12 (i := 0) (oi := ⟨some 26, _, _, _, _, _⟩) (v := ?_) rfl (by kernel_rfl) (by kernel_rfl) (by kernel_rfl) (by kernel_rfl) (by kernel_rfl) (by kernel_rfl) (by kernel_rfl) (fun _ _ _ h => h) (Or.inl ⟨by rfl, ?_⟩) hHeld ?_
    rotate_left
    focus (intro w hSw; (try dsimp only at hSw); go_simp; try (with_reducible rfl))
    try simp only [Act.put, List.setIfInBounds_toArray, List.set_cons_zero, List.set_cons_succ]
    refine wpAnyL_take 12 (i := 1) (oi := ⟨some 27, _, _, _, _, _⟩) (v := ?_) rfl (by kernel_rfl) (by kernel_rfl) (by kernel_rfl) (by kernel_rfl) (by kernel_rfl) (by kernel_rfl) (by kernel_rfl) (fun _ _ _ h => h) (Or.inl ⟨by rfl, ?_⟩) hHeld ?_
    rotate_left
    focus (intro w hSw; (try dsimp only at hSw); go_simp; try (with_reducible rfl))
    try simp only [Act.put, List.setIfInBounds_toArray, List.set_cons_zero, List.set_cons_succ]
    refine wpAnyL_take 12 (i := 2) (oi := ⟨some 28, _, _, _, _, _⟩) (v := ?_) rfl (by kernel_rfl) (by kernel_rfl) (by kernel_rfl) (by kernel_rfl) (by kernel_rfl) (by kernel_rfl) (by kernel_rfl) (fun _ _ _ h => h) (Or.inl ⟨by rfl, ?_⟩) hHeld ?_
    rotate_left
    focus (intro w hSw; (try dsimp only at hSw); go_simp; try (with_reducible rfl))
    try simp only [Act.put, List.setIfInBounds_toArray, List.set_cons_zero, List.set_cons_succ]
    refine wpAnyL_take 12 (i := 3) (oi := ⟨some 29, _, _, _, _, _⟩) (v := ?_) rfl (by kernel_rfl) (by kernel_rfl) (by kernel_rfl) (by kernel_rfl) (by kernel_rfl) (by kernel_rfl) (by kernel_rfl) (fun _ _ _ h => h) (Or.inl ⟨by rfl, ?_⟩) hHeld ?_
    rotate_left
    focus (intro w hSw; (try dsimp only at hSw); go_simp; try (with_reducible rfl))
    try simp only [Act.put, List.setIfInBounds_toArray, List.set_cons_zero, List.set_cons_succ]
    refine wpAnyL_take 12 (i := 4) (oi := ⟨some 30, _, _, _, _, _⟩) (v := ?_) rfl (by kernel_rfl) (by kernel_rfl) (by kernel_rfl) (by kernel_rfl) (by kernel_rfl) (by kernel_rfl) (by kernel_rfl) (fun _ _ _ h => h) (Or.inl ⟨by rfl, ?_⟩) hHeld ?_
    rotate_left
    focus (intro w hSw; (try dsimp only at hSw); go_simp; try (with_reducible rfl))
    try simp only [Act.put, List.setIfInBounds_toArray, List.set_cons_zero, List.set_cons_succ]
    refine wpAnyL_take 12 (i := 5) (oi := ⟨some 31, _, _, _, _, _⟩) (v := ?_) rfl (by kernel_rfl) (by kernel_rfl) (by kernel_rfl) (by kernel_rfl) (by kernel_rfl) (by kernel_rfl) (by kernel_rfl) (fun _ _ _ h => h) (Or.inl ⟨by rfl, ?_⟩) hHeld ?_
    rotate_left
    focus (intro w hSw; (try dsimp only at hSw); go_simp; try (with_reducible rfl))
    try simp only [Act.put, List.setIfInBounds_toArray, List.set_cons_zero, List.set_cons_succ]
    refine wpAnyL_take 12 (i := 6) (oi := ⟨some 32, _, _, _, _, _⟩) (v := ?_) rfl (by kernel_rfl) (by kernel_rfl) (by kernel_rfl) (by kernel_rfl) (by kernel_rfl) (by kernel_rfl) (by kernel_rfl) (fun _ _ _ h => h) (Or.inl ⟨by rfl, ?_⟩) hHeld ?_
    rotate_left
    focus (intro w hSw; (try dsimp only at hSw); go_simp; try (with_reducible rfl))
    try simp only [Act.put, List.setIfInBounds_toArray, List.set_cons_zero, List.set_cons_succ]
    refine wpAnyL_take 12 (i := 7) (oi := ⟨some 33, _, _, _, _, _⟩) (v := ?_) rfl (by kernel_rfl) (by kernel_rfl) (by kernel_rfl) (by kernel_rfl) (by kernel_rfl) (by kernel_rfl) (by kernel_rfl) (fun _ _ _ h => h) (Or.inl ⟨by rfl, ?_⟩) hHeld ?_
    rotate_left
    focus (intro w hSw; (try dsimp only at hSw); go_simp; try (with_reducible rfl))
    try simp only [Act.put, List.setIfInBounds_toArray, List.set_cons_zero, List.set_cons_succ]
    refine wpAnyL_two (i := 8) (k := 13) (o := ⟨some 34, _, _, _, _, _⟩) (p := ⟨some 5, _, _, _, _, _⟩) (by kernel_rfl) rfl rfl (fun K hK => ?_) (fun K hK => ?_)
    focus
      clear hHeld
      go_simp
      refine (HNW.out _ hBd).mono ?_
      rintro e w5 ⟨rfl, hB5⟩
      have hB45 : Below w4.heap.size w4 w5 := hBd.trans hB5
      go_wp2_with fail
      refine hK.out _ _ (hS5.out _ hB45) (fun hHeld => ?_)
      clear hK K
      try simp only [Act.put, List.setIfInBounds_toArray, List.set_cons_zero, List.set_cons_succ]
      refine wpAnyL_take 12 (i := 9) (oi := ⟨some 25, _, _, _, _, _⟩) (v := ?_) rfl (by kernel_rfl) (by kernel_rfl) (by kernel_rfl) (by kernel_rfl) (by kernel_rfl) (by kernel_rfl) (by kernel_rfl) (fun _ _ _ h => h) (Or.inl ⟨by rfl, ?_⟩) hHeld ?_
      rotate_left
      focus (intro w hSw; (try dsimp only at hSw); go_simp; try (with_reducible rfl))
      try simp only [Act.put, List.setIfInBounds_toArray, List.set_cons_zero, List.set_cons_succ]
      refine wpAnyL_take 12 (i := 10) (oi := ⟨some 35, _, _, _, _, _⟩) (v := ?_) rfl (by kernel_rfl) (by kernel_rfl) (by kernel_rfl) (by kernel_rfl) (by kernel_rfl) (by kernel_rfl) (by kernel_rfl) (fun _ _ _ h => h) (Or.inl ⟨by rfl, ?_⟩) hHeld ?_
      rotate_left
      focus (intro w hSw; (try dsimp only at hSw); go_simp; try (with_reducible rfl))
      try simp only [Act.put, List.setIfInBounds_toArray, List.set_cons_zero, List.set_cons_succ]
      refine wpAnyL_takeW (i := 11) (oi := ⟨some 36, _, _, _, _, _⟩) (v := ?_) rfl (by kernel_rfl) (by kernel_rfl) (by kernel_rfl) (by kernel_rfl) (fun _ _ _ h => h) (Or.inl ⟨by rfl, ?_⟩) (.inr hHeld) ?_
      rotate_left
      focus (intro w hSw; (try dsimp only at hSw); go_simp; try (with_reducible rfl))
      try simp only [Act.put, List.setIfInBounds_toArray, List.set_cons_zero, List.set_cons_succ]
      refine wpAnyL_takeW (i := 12) (oi := ⟨some 37, _, _, _, _, _⟩) (v := ?_) rfl (by kernel_rfl) (by kernel_rfl) (by kernel_rfl) (by kernel_rfl) (fun _ _ _ h => h) (Or.inl ⟨by rfl, ?_⟩) (.inr hHeld) ?_
      rotate_left
      focus (intro w hSw; (try dsimp only at hSw); go_simp; try (with_reducible rfl))
      try simp only [Act.put, List.setIfInBounds_toArray, List.set_cons_zero, List.set_cons_succ]
      refine wpAnyL_one (i := 13) (o := ⟨some 5, _, _, _, _, _⟩) (by kernel_rfl) rfl (fun K hK => ?_)
      clear hHeld
      go_simp
      have kY := Blk.new w5 [.int .i64 0, .int .i64 0, .int .i64 0] 29
      have y0 := kY.cell 0
      have y1 := kY.cell 1
      have y2 := kY.cell 2
      have q0 := kY.frozen 0
      have q1 := kY.frozen 1
      have q2 := kY.frozen 2
      simp only [List.getElem?_cons_zero, List.getElem?_cons_succ] at y0 y1 y2
      have hYs : w4.heap.size ≤ w5.heap.size := hB45.size
      have hBY : Below w4.heap.size w4 (w5.alloc (.cells #[.int .i64 0, .int .i64 0, .int .i64 0] 29)) := hB45.alloc hB45.size _
      go_wp2_with fail
      refine hK.out _ _ (hS5.out _ hBY) (fun hHeld => ?_)
      clear hK K
      try simp only [Act.put, List.setIfInBounds_toArray, List.set_cons_zero, List.set_cons_succ]
      refine wpAnyL_last (i := 14) (o := ⟨none, _, _, _, _, _⟩) (by kernel_rfl) rfl (by kernel_rfl) (fun K hK => ?_)
      clear hHeld
      go_simp
      go_wp2_with fail
      refine hK.out _ _ ?_
      clear hK K
      try simp only [Act.put, List.setIfInBounds_toArray, List.set_cons_zero, List.set_cons_succ]
      refine wpAnyL_takeW (i := 15) (oi := ⟨some 6, _, _, _, _, _⟩) (v := ?_) rfl (by kernel_rfl) (by kernel_rfl) (by kernel_rfl) (by kernel_rfl) (fun _ _ _ h => h) (Or.inl ⟨by rfl, ?_⟩) (.inl (by kernel_rfl)) ?_
      rotate_left
      focus (intro w hSw; (try dsimp only at hSw); go_simp; try (with_reducible rfl))
      try simp only [Act.put, List.setIfInBounds_toArray, List.set_cons_zero, List.set_cons_succ]
      refine wpAnyL_takeW (i := 16) (oi := ⟨some 4, _, _, _, _, _⟩) (v := ?_) rfl (by kernel_rfl) (by kernel_rfl) (by kernel_rfl) (by kernel_rfl) (fun _ _ _ h => h) (Or.inl ⟨by rfl, ?_⟩) (.inl (by kernel_rfl)) ?_
      rotate_left
      focus (intro w hSw; (try dsimp only at hSw); go_simp; try (with_reducible rfl))
      try simp only [Act.put, List.setIfInBounds_toArray, List.set_cons_zero, List.set_cons_succ]
      refine wpAnyL_done (by kernel_rfl) ?_ _
      refine NoPanic.normal ?_
    rotate_left
    focus
      clear hHeld
      go_simp
      have kY : Blk (w4.drew.alloc (.cells #[.int .i64 0, .int .i64 0, .int .i64 0] 29)) w4.heap.size 29 [.int .i64 0, .int .i64 0, .int .i64 0] := Blk.new w4.drew [.int .i64 0, .int .i64 0, .int .i64 0] 29
      have hBY : Below w4.heap.size w4 (w4.drew.alloc (.cells #[.int .i64 0, .int .i64 0, .int .i64 0] 29)) := hBd.alloc hBd.size _
      go_wp2_with fail
      refine hK.out _ _ (hS5.out _ hBY) (fun hHeld => ?_)
      clear hK K
      try simp only [Act.put, List.setIfInBounds_toArray, List.set_cons_zero, List.set_cons_succ]
      refine wpAnyL_one (i := 8) (o := ⟨some 34, _, _, _, _, _⟩) (by kernel_rfl) rfl (fun K hK => ?_)
      clear hHeld
      go_simp
      refine (HNW.out _ hBY).mono ?_
      rintro e w5 ⟨rfl, hB5⟩
      have hB45 : Below w4.heap.size w4 w5 := hBY.trans (hB5.mono hBY.size)
      have kY3 := kY.below hB5 kY.lt
      have y0 := kY3.cell 0
      have y1 := kY3.cell 1
      have y2 := kY3.cell 2
      have q0 := kY3.frozen 0
      have q1 := kY3.frozen 1
      have q2 := kY3.frozen 2
      simp only [List.getElem?_cons_zero, List.getElem?_cons_succ] at y0 y1 y2
      go_wp2_with fail
      refine hK.out _ _ (hS5.out _ hB45) (fun hHeld => ?_)
      clear hK K
      try simp only [Act.put, List.setIfInBounds_toArray, List.set_cons_zero, List.set_cons_succ]
      refine wpAnyL_take 12 (i := 9) (oi := ⟨some 25, _, _, _, _, _⟩) (v := ?_) rfl (by kernel_rfl) (by kernel_rfl) (by kernel_rfl) (by kernel_rfl) (by kernel_rfl) (by kernel_rfl) (by kernel_rfl) (fun _ _ _ h => h) (Or.inl ⟨by rfl, ?_⟩) hHeld ?_
      rotate_left
      focus (intro w hSw; (try dsimp only at hSw); go_simp; try (with_reducible rfl))
      try simp only [Act.put, List.setIfInBounds_toArray, List.set_cons_zero, List.set_cons_succ]
      refine wpAnyL_take 12 (i := 10) (oi := ⟨some 35, _, _, _, _, _⟩) (v := ?_) rfl (by kernel_rfl) (by kernel_rfl) (by kernel_rfl) (by kernel_rfl) (by kernel_rfl) (by kernel_rfl) (by kernel_rfl) (fun _ _ _ h => h) (Or.inl ⟨by rfl, ?_⟩) hHeld ?_
      rotate_left
      focus (intro w hSw; (try dsimp only at hSw); go_simp; try (with_reducible rfl))
      try simp only [Act.put, List.setIfInBounds_toArray, List.set_cons_zero, List.set_cons_succ]
      refine wpAnyL_takeW (i := 11) (oi := ⟨some 36, _, _, _, _, _⟩) (v := ?_) rfl (by kernel_rfl) (by kernel_rfl) (by kernel_rfl) (by kernel_rfl) (fun _ _ _ h => h) (Or.inl ⟨by rfl, ?_⟩) (.inr hHeld) ?_
      rotate_left
      focus (intro w hSw; (try dsimp only at hSw); go_simp; try (with_reducible rfl))
      try simp only [Act.put, List.setIfInBounds_toArray, List.set_cons_zero, List.set_cons_succ]
      refine wpAnyL_takeW (i := 12) (oi := ⟨some 37, _, _, _, _, _⟩) (v := ?_) rfl (by kernel_rfl) (by kernel_rfl) (by kernel_rfl) (by kernel_rfl) (fun _ _ _ h => h) (Or.inl ⟨by rfl, ?_⟩) (.inr hHeld) ?_
      rotate_left
      focus (intro w hSw; (try dsimp only at hSw); go_simp; try (with_reducible rfl))
      try simp only [Act.put, List.setIfInBounds_toArray, List.set_cons_zero, List.set_cons_succ]
      refine wpAnyL_last (i := 14) (o := ⟨none, _, _, _, _, _⟩) (by kernel_rfl) rfl (by kernel_rfl) (fun K hK => ?_)
      clear hHeld
      go_simp
      go_wp2_with fail
      refine hK.out _ _ ?_
      clear hK K
      try simp only [Act.put, List.setIfInBounds_toArray, List.set_cons_zero, List.set_cons_succ]
      refine wpAnyL_takeW (i := 15) (oi := ⟨some 6, _, _, _, _, _⟩) (v := ?_) rfl (by kernel_rfl) (by kernel_rfl) (by kernel_rfl) (by kernel_rfl) (fun _ _ _ h => h) (Or.inl ⟨by rfl, ?_⟩) (.inl (by kernel_rfl)) ?_
      rotate_left
      focus (intro w hSw; (try dsimp only at hSw); go_simp; try (with_reducible rfl))
      try simp only [Act.put, List.setIfInBounds_toArray, List.set_cons_zero, List.set_cons_succ]
      refine wpAnyL_takeW (i := 16) (oi := ⟨some 4, _, _, _, _, _⟩) (v := ?_) rfl (by kernel_rfl) (by kernel_rfl) (by kernel_rfl) (by kernel_rfl) (fun _ _ _ h => h) (Or.inl ⟨by rfl, ?_⟩) (.inl (by kernel_rfl)) ?_
      rotate_left
      focus (intro w hSw; (try dsimp only at hSw); go_simp; try (with_reducible rfl))
      try simp only [Act.put, List.setIfInBounds_toArray, List.set_cons_zero, List.set_cons_succ]
      refine wpAnyL_done (by kernel_rfl) ?_ _
      refine NoPanic.normal ?_
    rotate_left
    all_goals (gi_wp2_with fail; gi_meet)
    · exact ⟨_, rfl, rfl, Lib.hid (Blk.new w5 [.int .i64 ut, .int .i64 uf, .int .i64 uo] _), hYs, hB45.alloc hB45.size _⟩
    · exact ⟨_, rfl, rfl, Lib.hid (((kY3.set 0 _).set 1 _).set 2 _), Nat.le_refl _, ((hB45.setCell (p := ⟨w4.heap.size, 0, none⟩) (Nat.le_refl _) _).setCell (p := ⟨w4.heap.size, 1, none⟩) (Nat.le_refl _) _).setCell (p := ⟨w4.heap.size, 2, none⟩) (Nat.le_refl _) _⟩
  case rest =>
    obtain ⟨Y, rfl, rfl, HY, hYs, hB4c⟩ := hcut
    have hkb := HKB.out.below hB4c HKB.out.lt
    have x0 := hkb.cell 0
    have x1 := hkb.cell 1
    simp only [List.getElem?_cons_zero, List.getElem?_cons_succ] at x0 x1
    have hsc := hB4c.size
    have HNR := Lib.hid (newReader_ok w4.heap.size ⟨some ⟨ab, ao, none⟩, eps, ec, EB, [], ed⟩ wc hsc (HEL4.out.secs.1.toU hB4c) (fun p hp => (HEL4.out.sec p hp).1.toU hB4c))
    have HU := Lib.hid HY
    clear hkb hS5 HNW
    gi_wp2_with fail
    refine ⟨trivial, ?_⟩
    refine (callsIn_wide.2 (must_ok wc)).mono ?_
    rintro e wc' ⟨rfl, rfl⟩
    gi_wp2_with fail
    refine ⟨trivial, ?_⟩
    refine (callsIn_wide.2 HNR.out).mono ?_
    rintro e w6 ⟨X, mb, rfl, hmb, hRd, hB6⟩
    have HRD := Lib.hid hRd
    have hkb6 := (HKB.out.below hB4c HKB.out.lt).below hB6 (Nat.lt_of_lt_of_le HKB.out.lt hsc)
    have hu6 := HY.out.below hB6 HY.out.lt
    have z0 := hkb6.cell 0
    have z1 := hkb6.cell 1
    have v0 := hu6.cell 0
    have v1 := hu6.cell 1
    have v2 := hu6.cell 2
    simp only [List.getElem?_cons_zero, List.getElem?_cons_succ] at z0 z1 v0 v1 v2
    have hs6 := hB6.size
    have hlY : Y < w6.heap.size := hu6.lt
    have hl3 : w3.heap.size < w6.heap.size := hkb6.lt
    have HKB6 := Lib.hid hkb6
    have HU6 := Lib.hid hu6
    clear hRd hkb6 hu6 x0 x1 HNR
    gi_upto_region 10 with fail
    obtain ⟨w9, hw9⟩ : ∃ w9, ((w6.alloc (.cells #[.pointer (some ⟨X, 0, none⟩)] 115)).alloc (.cells #[.slice (some ⟨ab, ao, none⟩) eps.length ec, .slice EB 0 ed, .int .i64 ut, .int .i64 uf, .int .i64 uo, .slice none 0 0, .slice none 0 0] STY)).alloc (.cells #[.slice none 0 0] 46) = w9 := ⟨_, rfl⟩
    have e9 : w9 = allocs w6 [([.pointer (some ⟨X, 0, none⟩)], 115), ([.slice (some ⟨ab, ao, none⟩) eps.length ec, .slice EB 0 ed, .int .i64 ut, .int .i64 uf, .int .i64 uo, .slice none 0 0, .slice none 0 0], STY), ([.slice none 0 0], 46)] := by rw [← hw9]; rfl
    have hs9 : w9.heap.size = w6.heap.size + 3 := by rw [e9, allocs_size]; rfl
    have hB9 : Below w6.heap.size w6 w9 := by rw [e9]; exact allocs_below _ _
    have kR : Blk w9 w6.heap.size 115 [.pointer (some ⟨X, 0, none⟩)] := by rw [e9]; exact allocs_blk _ w6 0 rfl
    have kS : Blk w9 (w6.heap.size + 1) STY [.slice (some ⟨ab, ao, none⟩) eps.length ec, .slice EB 0 ed, .int .i64 ut, .int .i64 uf, .int .i64 uo, .slice none 0 0, .slice none 0 0] := by rw [e9]; exact allocs_blk _ w6 1 rfl
    have kI : Blk w9 (w6.heap.size + 2) 46 [.slice none 0 0] := by rw [e9]; exact allocs_blk _ w6 2 rfl
    rw [hw9]
    obtain ⟨w11, hw11⟩ : ∃ w11, (w9.alloc (.cells #[.pointer (some ⟨X, 0, none⟩)] 115)).alloc (.cells #[.int .i64 uf] 3) = w11 := ⟨_, rfl⟩
    have e11 : w11 = allocs w9 [([.pointer (some ⟨X, 0, none⟩)], 115), ([.int .i64 uf], 3)] := by rw [← hw11]; rfl
    have hs11 : w11.heap.size = w9.heap.size + 2 := by rw [e11, allocs_size]; rfl
    have hB11 : Below w9.heap.size w9 w11 := by rw [e11]; exact allocs_below _ _
    have kp : Blk w11 w9.heap.size 115 [.pointer (some ⟨X, 0, none⟩)] := by rw [e11]; exact allocs_blk _ w9 0 rfl
    have kq' : Blk w11 (w9.heap.size + 1) 3 [.int .i64 uf] := by rw [e11]; exact allocs_blk _ w9 1 rfl
    have HUB9 := Lib.hid (HU6.out.below hB9 HU6.out.lt)
    have hRd11 : RdAt w4.heap.size X mb ⟨some ⟨ab, ao, none⟩, eps, ec, EB, [], ed⟩ [] w11 := (HRD.out.below hB9).below hB11
    have hix := HS.out.hix
    rw [← HSEC.out] at hix
    have huf : uf = ix.getD 0 0 := HS.out.hf
    have hcaps : ∀ p ∈ eps, p.zs.length ≤ p.c := fun p hp => (HEC.out.sec p hp).1
    have hpg : ∀ j, j < ix.length → ∃ k : Nat, ix[j]? = some (k : Int) ∧ PgAt ⟨some ⟨ab, ao, none⟩, eps, ec, EB, [], ed⟩ k (piece (idxZ os) j) (ix.getD (j + 1) 0) := fun j hj => by
      obtain ⟨k, h1, h2⟩ := hix.2 j hj
      exact ⟨k, h1, PgIn.at_ (D := ⟨some ⟨ab, ao, none⟩, eps, ec, EB, [], ed⟩) h2 hcaps⟩
    have HPGS : Hid (∀ o ∈ os, o.at_.length = cntN o.data.length ∧ ∀ j, j < o.at_.length → ∃ k : Nat, o.at_[j]? = some (k : Int) ∧ PgAt ⟨some ⟨ab, ao, none⟩, eps, ec, EB, [], ed⟩ k (piece o.data j) 0) := Lib.hid fun o ho => by
      have h := HS.out.hos o ho
      rw [← HSEC.out] at h
      exact ⟨h.1, fun j hj => by
        obtain ⟨k, h1, h2⟩ := h.2 j hj
        exact ⟨k, h1, PgIn.at_ (D := ⟨some ⟨ab, ao, none⟩, eps, ec, EB, [], ed⟩) h2 hcaps⟩⟩
    have hnd : (([] : List Int) ++ ix).Nodup := (List.nodup_append.1 HS.out.hnd).1
    have hall : os.flatMap (·.at_) ++ ix = PS.secs ⟨⟨D.st.secs, []⟩, (⟨ut, uf, uo⟩ : Ub), os, ix⟩ := rfl
    have htot : (os.flatMap (·.at_) ++ ix).length ≤ 8192 := by
      obtain ⟨⟨_, h2⟩, h3, h4⟩ := chk_ok.1 HS.out.hok.secs
      have := length_free h3 h4
      rw [hall]
      omega
    have HTOT := Lib.hid htot
    rw [List.length_append] at htot
    have hle : (([] : List Int) ++ ix).length ≤ 8192 := by simp; omega
    have hXl := HRD.out.blk.lt
    have hml := HRD.out.mlt
    have hc1 := kq'.cell 0
    have hc2 := kp.cell 0
    simp only [List.getElem?_cons_zero] at hc1 hc2
    rw [huf] at hc1
    have HCH := Lib.hid (chain_both 3 w4.heap.size X mb (w9.heap.size + 1) w9.heap.size ⟨some ⟨ab, ao, none⟩, eps, ec, EB, [], ed⟩ [] (idxZ os) ix hix.1 hpg hen hnd hle w11 hRd11 (by omega) (by omega) (by omega) (by omega) hc1 hc2)
    have HJ0 : Hid (OpJ w11 (w6.heap.size + 1) (w6.heap.size + 2) mb (.slice (some ⟨ab, ao, none⟩) eps.length ec) (.slice EB 0 ed) (.int .i64 ut) (.int .i64 uf) (.int .i64 uo) (.slice none 0 0) (idxZ os) ix [] w11 (.slice none 0 0) (.slice none 0 0)) :=
      Lib.hid ⟨kS.below hB11 (by omega), kI.below hB11 (by omega), own_none _ _ _, own_none _ _ _, Out3.refl _ _ _ _ _⟩
    have r0 := kR.cell 0
    have v1' := HUB9.out.cell 1
    simp only [List.getElem?_cons_zero, List.getElem?_cons_succ] at r0 v1'
    have HW11 := Lib.hid hw11
    have HS9 := Lib.hid hs9
    have HS11 := Lib.hid hs11
    have HB9 := Lib.hid hB9
    have HB11 := Lib.hid hB11
    have hsz9 : w6.heap.size + 3 ≤ w9.heap.size := by omega
    have hsz11 : w9.heap.size + 2 ≤ w11.heap.size := by omega
    have HLE := Lib.hid hle
    have HIX := Lib.hid hix.1
    clear hw9 e9 hs9 hB9 kR kS kI hw11 e11 hs11 hB11 kp kq' hRd11 hix hpg hnd hle hc1 hc2 huf hcaps z0 z1 v0 v1 v2
    gi_wp2_with fail
    refine ⟨trivial, ?_⟩
    refine (chain_mk X uf 3 w9).mono ?_
    rintro e w11' ⟨rfl, rfl⟩
    rw [HW11.out]
    gi_wp2
    refine wpIn_rangeFunc_both rfl (by omega) (gf := 85) (lb := #[.pointer (some ⟨w9.heap.size + 1, 0, none⟩), .pointer (some ⟨w9.heap.size, 0, none⟩)]) rfl trivial (enters_of Tryz.func85 (by kernel_rfl) rfl) HCH.out (fun _ => rfl) cKp.trans
      (fun W l o o' hl h hc => cKp.put (L := w11.heap.size) (by omega) (by omega) W l o o' hl h hc)
      (fun pre x W l o o' _ h hc k => cKn.put W l o o' h hc k)
      (fun xs W l o o' hl h hc hs => ⟨hs.1, hs.2.keep (World.putObj_heap_other (by omega)) (World.putObj_heap_other (by omega)) (KeepsLo.putObj W l o o' h hc)⟩)
      (fun hit k o hk ho => (hit.block k (Array.getElem?_eq_some_iff.1 ho).1 (.inr (by omega))).trans ho)
      (fun pre W => ∃ iv bv, OpJ w11 (w6.heap.size + 1) (w6.heap.size + 2) mb (.slice (some ⟨ab, ao, none⟩) eps.length ec) (.slice EB 0 ed) (.int .i64 ut) (.int .i64 uf) (.int .i64 uo) (.slice none 0 0) (idxZ os) ix pre W iv bv)
      ?own ?it ⟨_, _, HJ0.out⟩ ?a1 ?assign ?body ?done
    case own =>
      rintro pre W W' row ⟨iv, bv, h⟩ hg hr
      have hws := h.out.size
      have hk : ∀ {g : Nat} {t : TypeId} {us : List Value}, Blk W g t us → Blk W' g t us := fun hb => (hg.block _ hb.lt (fun e => by
        obtain ⟨_, o, ho, hc⟩ := hr _ e.symm
        rw [show W.heap[_]? = _ from hb] at ho
        cases ho
        cases hc)).trans hb
      exact ⟨iv, bv, hk h.st, hk h.ib, own_other2 h.irow hg (fun r e => (hr r e).2), own_other2 h.brow hg (fun r e => (hr r e).2), h.out.trans (Out3.grown hg (fun r e => (hr r e).1) hws)⟩
    case it =>
      rintro pre A B ⟨iv, bv, h⟩ hit
      have hws := h.out.size
      have hst : ∀ {size k : Nat} {e : TypeId} {v : Value} {xs : List Value}, A.ownsRow w11.heap.size e size v k xs → B.ownsRow w11.heap.size e size v k xs := fun ho => own_stay ho fun b hb => hit.block b (ho.lt b hb).2 (.inr (by have := (ho.lt b hb).1; omega))
      exact ⟨iv, bv, (hit.block _ h.st.lt (.inr (by omega))).trans h.st, (hit.block _ h.ib.lt (.inr (by omega))).trans h.ib, hst h.irow, hst h.brow, h.out.trans ⟨hit.os, hit.tape, hit.output, hit.size, fun k hk _ _ h3 => hit.block k (by omega) (by omega)⟩⟩
    case assign =>
      intro l x W K hK
      gi_wp2
      exact hK
    case body =>
      rintro lp pre ⟨j, A, c⟩ W ⟨iv, bv, hJ⟩ ⟨hat, hlt, hown⟩
      dsimp only at hat hlt hown ⊢
      have s6 := hJ.st.cell 6
      have hws := hJ.out.size
      simp only [List.getElem?_cons_zero, List.getElem?_cons_succ] at s6
      have hcl := catC_le (idxZ os) pre
      have hal := atC_length ix pre
      have hle2 := HLE.out
      have hpl := piece_le (idxZ os) j
      obtain ⟨pb, po, rfl, _, _⟩ : ∃ b off, A = some ⟨b, off, none⟩ ∧ True ∧ True := by
        have hp : 0 < (piece (idxZ os) j).length := piece_pos _ (by rw [← HIX.out]; exact hlt)
        obtain ⟨b, off, e, _, _⟩ := (RdF.of_own hown).1 (by intro h0; have := congrArg List.length h0; rw [octCells_length] at this; simp at this; rw [this] at hp; simp at hp)
        exact ⟨b, off, e, trivial, trivial⟩
      have HJ := Lib.hid hJ
      have HOW := Lib.hid hown
      have HB := Lib.hid (And.intro hcl (And.intro hal (And.intro hle2 (And.intro hpl (And.intro hat hlt)))))
      clear hJ hown hcl hal hle2 hpl hat hlt
      gi_wp2_with (gi_at_builtin; refine wpListIn_append_own _ rfl _ _ 30 rfl w11.heap.size 3 i3 (.int .i64 0) 1 8 Tryz.underlying30 hi3 hz30 hz31 hz32 rfl (by decide) iv (atC ix pre).length (ints (atC ix pre)) rfl (own_below HJ.out.irow ((Below.refl _ _).alloc (Nat.le_refl _) _) (Nat.le_refl _)) ⟨W.heap.size, 0, none⟩ 1 1 [.int .i64 (ix[j]?.getD 0)] rfl rfl (by exact cell_one_new _ _ _) (by simp [Value.oneCell']) (by obtain ⟨h1, h2, h3, h4, h5, h6⟩ := HB.out; unfold maxLen; simp at h3; omega) (by obtain ⟨h1, h2, h3, h4, h5, h6⟩ := HB.out; simp at h3; omega) (by simp; omega) ?_)
      intro v' W1 hown1 hg1 _
      obtain ⟨A1, c1, rfl, _, _, _, _⟩ := own_any hown1
      have hmid := opJ_mid (v' := .slice A1 ((atC ix pre).length + 1) c1) HJ.out.st HJ.out.ib HJ.out.irow HJ.out.brow HOW.out (by omega) hg1
      have s16 := hmid.1.cell 6
      have f16 := hmid.1.frozen 6
      have s20 : (W1.setCell ⟨w6.heap.size + 1, 6, none⟩ (.slice A1 ((atC ix pre).length + 1) c1)).cell? ⟨w6.heap.size + 1 + 1, 0, none⟩ = some bv := hmid.2.1.cell 0
      have HM := Lib.hid hmid
      have HO1 := Lib.hid hown1
      have HG1 := Lib.hid hg1
      clear hown1 hg1 hmid
      gi_wp2_with (gi_at_builtin; go_loud (refine wpListIn_append_own _ rfl _ _ 46 rfl w11.heap.size 5 i5 (.int .u8 0) 1 1 Tryz.underlying46 hi5 hz50 hz51 hz52 rfl (by decide) bv (catC (idxZ os) pre).length (octCells (catC (idxZ os) pre)) rfl HM.out.2.2.1 ⟨pb, po, none⟩ (piece (idxZ os) j).length c (octCells (piece (idxZ os) j)) rfl (by rw [octCells_length]; omega) (fun k u hu => (add_cell _ (pb, po) k).trans (rd_strs (RdF.of_own HM.out.2.2.2.1).1 hu).2) (octCells_one _) (by obtain ⟨h1, h2, h3, h4, h5, h6⟩ := HB.out; unfold maxLen; simp at h3; omega) (by obtain ⟨h1, h2, h3, h4, h5, h6⟩ := HB.out; simp at h3; omega) (by have := HM.out.2.2.2.2; omega) ?_))
      intro v3 W3 hown3 hg3 _
      obtain ⟨A3, c3, rfl, _, _, _, _⟩ := own_any hown3
      have k20 := grown_blk HM.out.2.1 HM.out.2.2.1 (by decide) hg3
      have y20 : W3.cell? ⟨w6.heap.size + 1 + 1, 0, none⟩ = some bv := k20.cell 0
      have f20 : W3.frozen? ⟨w6.heap.size + 1 + 1, 0, none⟩ = false := k20.frozen 0
      have hst := OpJ.step (L := w11.heap.size) (x := (⟨j, some ⟨pb, po, none⟩, c⟩ : CE)) (m := w4.heap.size) (X := X) (b1 := w9.heap.size + 1) (b2 := w9.heap.size) HJ.out (by omega) (by omega) (by omega) (by omega) (by omega) (by omega) (by omega) (by omega) (by omega) (by omega) (by omega) (by omega) (by omega) (by omega) (by omega) (by omega) (by omega) (by simpa only [List.getD_eq_getElem?_getD] using HG1.out) (by simpa only [List.getD_eq_getElem?_getD] using HO1.out) hg3 hown3
      have HST := Lib.hid hst
      clear hst hown3 hg3 k20
      gi_wp2
      exact ⟨HST.out.1, HST.out.2.1, _, _, HST.out.2.2⟩
    case done =>
      rintro Dd ys W hDd ⟨hys, hRd⟩ ⟨iv, bv, hJ⟩ hK
      rw [List.nil_append] at hRd
      obtain ⟨ec1, ec2⟩ := catC_all hys HIX.out
      obtain ⟨hst, hib, hir, hbr, hout⟩ := hJ
      rw [ec2] at hir
      rw [ec1] at hbr
      obtain ⟨bA, bc, rfl, hbc, _, hbR, _⟩ := own_any hbr
      obtain ⟨iA, ic, rfl, hic, _, hiR, _⟩ := own_any hir
      have hok := HS.out.hok
      have huo : (os.length : Int) = uo := hok.n
      have hol : os.length ≤ 256 := (objE_ok hok.os).1
      have hixl : ix.length ≤ 8192 := by have := HLE.out; simpa using this
      have hzl : (idxZ os).length ≤ 52 * 8192 := by have h1 := HIX.out; unfold cntN at h1; omega
      have HEN : Hid (Calls Tryz.prog 62 #[.slice bA (idxZ os).length bc, .int .i64 uo] W (EntAns os W)) := Lib.hid (by
        rw [← huo]
        by_cases hos : os = []
        · subst hos
          exact entries_none bA _ bc W
        · have e : idxZ os = wr (idxT os) := by unfold idxZ; rw [if_neg hos]
          rw [e] at hbc hbr hzl ⊢
          exact entries_some os hos hol HS.out.hwr bA bc hbc (by omega) W (RdF.of_own hbr).1)
      have hws := hout.size
      have hYc : Y < wc.heap.size := HY.out.lt
      have hYb : W.heap[Y]? = w9.heap[Y]? := (hout.block Y (by omega) (by omega) (by omega) (by omega)).trans (HB11.out.block Y (by omega))
      have kY := show Blk W Y 29 _ from hYb.trans HUB9.out
      have y2 := kY.cell 2
      have t9 : W.cell? ⟨w6.heap.size + 1 + 1, 0, none⟩ = some (.slice bA (idxZ os).length bc) := hib.cell 0
      simp only [List.getElem?_cons_zero, List.getElem?_cons_succ] at y2
      have r1 : W.cell? ⟨w6.heap.size, 0, none⟩ = some (.pointer (some ⟨X, 0, none⟩)) := (World.cell?_of_block ((hout.block w6.heap.size (by omega) (by omega) (by omega) (by omega)).trans (HB11.out.block w6.heap.size (by omega)))).trans r0
      have HR1 := Lib.hid r1
      have HRd := Lib.hid hRd
      have HST := Lib.hid hst
      have HIR := Lib.hid hir
      have HBR := Lib.hid hbr
      have HOUT := Lib.hid hout
      have HKD := Lib.hid hK
      clear hRd hst hir hbr hout hK hib ec1 ec2 hys hYb kY hbR hiR hok r0 r1
      gi_wp2_with fail
      refine ⟨trivial, ?_⟩
      refine (callsIn_wide.2 HEN.out).mono ?_
      rintro e w12 ⟨Bn, TA, tc, rfl, hBn, kb0, kb1, htr, hB12⟩
      have hws12 := hB12.size
      have hil := idxT_length os
      have hcnt : cntM 3 (idxT os).length = os.length := by rw [hil]; unfold cntM; omega
      obtain ⟨htc, hTR⟩ : (idxT os).length ≤ tc ∧ RdF W.heap.size w12 TA ((idxT os).map Value.string) := by
        obtain ⟨_, _, e, h1, _, h3, _⟩ := own_any htr
        injection e with e1 _ e3
        subst e1 e3
        exact ⟨h1, h3⟩
      obtain ⟨tb, tf, hTA⟩ : ∃ tb tf, 0 < (idxT os).length → TA = some ⟨tb, tf, none⟩ := by
        by_cases h : idxT os = []
        · exact ⟨0, 0, fun h1 => by rw [h] at h1; simp at h1⟩
        · obtain ⟨b, off, e, _, _⟩ := hTR.1 (by simpa using h)
          exact ⟨b, off, fun _ => e⟩
      have HCT := Lib.hid (chunkS_both 3 Bn (Bn + 1) tb tf tc (idxT os).length 3 (by omega) (by omega) (by omega) htc TA hTA w12 kb0.lt kb1.lt (kb0.cell 0) (kb1.cell 0))
      have hR12 := HRd.out.below hB12
      have HI0 : Hid (∃ vO yO, OpK w12 (w6.heap.size + 1) mb (.slice (some ⟨ab, ao, none⟩) eps.length ec) (.slice EB 0 ed) (.int .i64 ut) (.int .i64 uf) (.int .i64 uo) (.slice iA ix.length ic) w12 vO yO ∧ yO.map Ob.st = os.take ([] : List (CX (cntM 3 (idxT os).length))).length ∧ RdAt w4.heap.size X mb ⟨some ⟨ab, ao, none⟩, eps, ec, EB, [], ed⟩ (ix ++ (os.take ([] : List (CX (cntM 3 (idxT os).length))).length).flatMap (·.at_)) w12) :=
        Lib.hid ⟨_, [], ⟨HST.out.below hB12 HST.out.lt, own_none' _ _ _ _, fun y hy => (by cases hy), fun y hy => (by cases hy), Out3.refl _ _ _ _ _⟩, by simp, by simpa using hR12⟩
      have HTR := Lib.hid hTR
      have HTA := Lib.hid hTA
      have HB12 := Lib.hid hB12
      have HIL := Lib.hid hil
      have HCNT := Lib.hid hcnt
      have hB1l : Bn + 1 < w12.heap.size := kb1.lt
      have hbS : w6.heap.size + 1 < W.heap.size := HST.out.lt
      clear hR12 hTR htr kb0 kb1 hTA hB12 hil hcnt htc HEN t9 y2
      gi_wp2
      refine wpIn_rangeFunc_both rfl (by omega) (gf := 110) (lb := #[.pointer (some ⟨Bn, 0, none⟩), .pointer (some ⟨Bn + 1, 0, none⟩)]) rfl trivial (enters_of Tryz.func110 (by kernel_rfl) rfl) HCT.out (fun _ => rfl) KeepsTwo.trans
        (fun W l o o' _ h hc => KeepsTwo.putObj W l o o' h hc)
        (fun pre x W l o o' _ h hc k => k)
        (fun xs W l o o' hl h hc hs => hs)
        (fun hit k o hk ho => (hit.block k (Array.getElem?_eq_some_iff.1 ho).1).trans ho)
        (fun pre W => ∃ vO yO, OpK w12 (w6.heap.size + 1) mb (.slice (some ⟨ab, ao, none⟩) eps.length ec) (.slice EB 0 ed) (.int .i64 ut) (.int .i64 uf) (.int .i64 uo) (.slice iA ix.length ic) W vO yO ∧ yO.map Ob.st = os.take pre.length ∧ RdAt w4.heap.size X mb ⟨some ⟨ab, ao, none⟩, eps, ec, EB, [], ed⟩ (ix ++ (os.take pre.length).flatMap (·.at_)) W)
        ?own2 ?it2 HI0.out ?a12 ?assign2 ?body2 ?done2
      case own2 =>
        rintro pre A B row ⟨vO, yO, h1, h2, h3⟩ hg hr
        exact ⟨vO, yO, h1.own (Nat.le_refl _) hg hr, h2, h3.grown (L := w12.heap.size) (by omega) (by omega) hg (fun r e => (hr r e).1)⟩
      case it2 =>
        rintro pre A B ⟨vO, yO, h1, h2, h3⟩ hit
        exact ⟨vO, yO, h1.below hit, h2, h3.below hit⟩
      case assign2 =>
        intro l x W K hK
        gi_wp2
        exact hK
      case body2 =>
        rintro lp pre ⟨i, hi'⟩ W2 ⟨vO, yO, hK2, hys2, hR2⟩ hip
        dsimp only at hip ⊢
        subst hip
        obtain ⟨i0, hi, hz0, hz1, hz2⟩ := dinfo_parts infoOb
        have hlt : pre.length < os.length := by rw [← HCNT.out]; exact hi'
        obtain ⟨o, ho⟩ : ∃ o, os[pre.length]? = some o := ⟨_, List.getElem?_eq_getElem hlt⟩
        have hTAe := HTA.out (by have := HIL.out; omega)
        have hos2 := hK2.out.size
        have hTR2 : RdF W.heap.size W2 TA ((idxT os).map Value.string) := HTR.out.stays hos2 fun k h1 h2 => hK2.out.block k h2 (by omega) (by omega) (by omega)
        rw [hTAe] at hTR2
        have HOB : Hid (∀ Wd, Below W2.heap.size W2 Wd → Calls Tryz.prog 63 #[.pointer (some ⟨X, 0, none⟩), .slice (some ⟨tb, tf + 3 * pre.length, none⟩) 3 3] Wd fun e w' => ∃ A c B d, e = .returned (obval o.key A o.data.length c B o.at_.length d) ∧ w'.ownsRow Wd.heap.size 5 1 (.slice A o.data.length c) o.data.length (octCells o.data) ∧ w'.ownsRow Wd.heap.size 3 1 (.slice B o.at_.length d) o.at_.length (ints o.at_) ∧ RdAt w4.heap.size X mb ⟨some ⟨ab, ao, none⟩, eps, ec, EB, [], ed⟩ (ix ++ (os.take (pre.length + 1)).flatMap (·.at_)) w' ∧ Out mb (mb + 1) Wd.heap.size Wd w') := Lib.hid fun Wd hBd =>
          object_at w4.heap.size X mb ⟨some ⟨ab, ao, none⟩, eps, ec, EB, [], ed⟩ ix os pre.length tb tf o ho (objE_ok HS.out.hok.os).2.2 HPGS.out hen HS.out.hnd (by have := HTOT.out; rw [List.length_append] at this ⊢; omega) Wd (hR2.below hBd) (hTR2.1.below hBd)
        have hmin : min 3 ((idxT os).length - 3 * pre.length) = 3 := by have := HIL.out; omega
        have hyl : yO.length = pre.length := by
          have := congrArg List.length hys2
          rw [List.length_map, List.length_take] at this
          omega
        obtain ⟨vA, vc, rfl, _, _, _, _⟩ := own_any hK2.row
        rw [hyl] at hK2
        have hBd : Below W2.heap.size W2 W2.drew := (Below.refl _ _).drew
        have hkeep : ∀ V : World, (∀ k, k < W2.heap.size → k ≠ mb → V.heap[k]? = W2.heap[k]?) → V.cell? ⟨w6.heap.size + 1, 5, none⟩ = some (.slice vA pre.length vc) ∧ V.cell? ⟨w6.heap.size, 0, none⟩ = some (.pointer (some ⟨X, 0, none⟩)) := fun V hV =>
          ⟨(World.cell?_of_block (hV (w6.heap.size + 1) (by omega) (by omega))).trans (hK2.st.cell 5), (World.cell?_of_block (hV w6.heap.size (by omega) (by omega))).trans ((World.cell?_of_block (hK2.out.block w6.heap.size (by omega) (by omega) (by omega) (by omega))).trans ((World.cell?_of_block (HB12.out.block w6.heap.size (by omega))).trans HR1.out))⟩
        have x0 := hkeep W2.drew (fun _ _ _ => rfl)
        have HK2 := Lib.hid hK2
        have HKP := Lib.hid hkeep
        have HYS := Lib.hid hys2
        have HO := Lib.hid ho
        simp only [hmin]
        clear hK2 hkeep hys2 hR2 hTAe hTR2 ho hmin
        gi_wp2_with fail
        refine wpIn_region_last 8 (fun V => V.cell? ⟨w6.heap.size + 1, 5, none⟩ = some (.slice vA pre.length vc) ∧ V.cell? ⟨w6.heap.size, 0, none⟩ = some (.pointer (some ⟨X, 0, none⟩))) (by kernel_rfl) (by kernel_rfl) x0 (fun hHeld => ?_)
        refine wpAnyL_take 12 (i := 0) (oi := ⟨some 65, _, _, _, _, _⟩) (v := ?_) rfl (by kernel_rfl) (by kernel_rfl) (by kernel_rfl) (by kernel_rfl) (by kernel_rfl) (by kernel_rfl) (by kernel_rfl) (fun _ _ _ h => h) (Or.inl ⟨by rfl, ?_⟩) hHeld ?_
        rotate_left
        focus (intro w hSw; (try dsimp only at hSw); go_simp; try (with_reducible rfl))
        try simp only [Act.put, List.setIfInBounds_toArray, List.set_cons_zero, List.set_cons_succ]
        refine wpAnyL_take 12 (i := 1) (oi := ⟨some 66, _, _, _, _, _⟩) (v := ?_) rfl (by kernel_rfl) (by kernel_rfl) (by kernel_rfl) (by kernel_rfl) (by kernel_rfl) (by kernel_rfl) (by kernel_rfl) (fun _ _ _ h => h) (Or.inl ⟨by rfl, ?_⟩) hHeld ?_
        rotate_left
        focus (intro w hSw; (try dsimp only at hSw); go_simp; try (with_reducible rfl))
        try simp only [Act.put, List.setIfInBounds_toArray, List.set_cons_zero, List.set_cons_succ]
        refine wpAnyL_take 12 (i := 2) (oi := ⟨some 67, _, _, _, _, _⟩) (v := ?_) rfl (by kernel_rfl) (by kernel_rfl) (by kernel_rfl) (by kernel_rfl) (by kernel_rfl) (by kernel_rfl) (by kernel_rfl) (fun _ _ _ h => h) (Or.inl ⟨by rfl, ?_⟩) hHeld ?_
        rotate_left
        focus (intro w hSw; (try dsimp only at hSw); go_simp; try (with_reducible rfl))
        try simp only [Act.put, List.setIfInBounds_toArray, List.set_cons_zero, List.set_cons_succ]
        refine wpAnyL_take 12 (i := 3) (oi := ⟨some 68, _, _, _, _, _⟩) (v := ?_) rfl (by kernel_rfl) (by kernel_rfl) (by kernel_rfl) (by kernel_rfl) (by kernel_rfl) (by kernel_rfl) (by kernel_rfl) (fun _ _ _ h => h) (Or.inl ⟨by rfl, ?_⟩) hHeld ?_
        rotate_left
        focus (intro w hSw; (try dsimp only at hSw); go_simp; try (with_reducible rfl))
        try simp only [Act.put, List.setIfInBounds_toArray, List.set_cons_zero, List.set_cons_succ]
        refine wpAnyL_one (i := 4) (o := ⟨some 69, _, _, _, _, _⟩) (by kernel_rfl) rfl (fun K hK => ?_)
        clear hHeld
        go_simp
        refine (HOB.out _ hBd).mono ?_
        rintro e w5 ⟨oA, oc, oB, od, rfl, hd5, ha5, hR5, hO5⟩
        have x5 := HKP.out w5 (fun k h1 h2 => hO5.block k (by simp; omega) (by omega))
        have HD5 := Lib.hid hd5
        have HA5 := Lib.hid ha5
        have HR5 := Lib.hid hR5
        have HO5 := Lib.hid hO5
        clear hd5 ha5 hR5 hO5
        go_wp2_with fail
        refine hK.out _ _ x5 (fun hHeld => ?_)
        clear hK K
        try simp only [Act.put, List.setIfInBounds_toArray, List.set_cons_zero, List.set_cons_succ]
        refine wpAnyL_one (i := 5) (o := ⟨some 70, _, _, _, _, _⟩) (by kernel_rfl) rfl (fun K hK => ?_)
        clear hHeld
        go_simp
        have x6 := HKP.out (w5.alloc (.cells #[.string o.key, .slice oA o.data.length oc, .slice oB o.at_.length od] 58)) (fun k h1 h2 => (((Below.refl _ w5).alloc (Nat.le_refl _) _).block k (by have := HO5.out.size; simp at this; omega)).trans (HO5.out.block k (by simp; omega) (by omega)))
        go_wp2_with fail
        refine hK.out _ _ x6 (fun hHeld => ?_)
        clear hK K
        try simp only [Act.put, List.setIfInBounds_toArray, List.set_cons_zero, List.set_cons_succ]
        refine wpAnyL_one (i := 6) (o := ⟨some 71, _, _, _, _, _⟩) (by kernel_rfl) rfl (fun K hK => ?_)
        clear hHeld
        have hrow5 : w5.ownsRow w12.heap.size 58 3 (.slice vA pre.length vc) pre.length (obCells yO) := own_stay (by have := HK2.out.row; rw [hyl] at this; exact this) fun b hb => HO5.out.block b (by have := (HK2.out.row.lt b hb).2; simp; omega) (by have := (HK2.out.row.lt b hb).1; omega)
        refine step_append_lies (o := ⟨some 71, _, _, _, _, _⟩) _ (by rfl) _ _ 22 (by rfl) w12.heap.size 58 i0 (.agg #[.string ByteArray.empty, .slice none 0 0, .slice none 0 0]) 3 64 Tryz.underlying22 hi hz0 hz1 hz2 rfl (by omega) (.slice vA pre.length vc) pre.length (obCells yO) (by rfl) (own_below3 hrow5 ((Below.refl _ _).alloc (Nat.le_refl _) _) (Nat.le_refl _)) ⟨w5.heap.size, 0, none⟩ 1 1 [.string o.key, .slice oA o.data.length oc, .slice oB o.at_.length od] (by rfl) rfl (news_new _ _ _) (by simp [Value.oneCell']) (by omega) (by unfold maxLen; omega) (by omega) (by have := HO5.out.size; simp at this ⊢; omega) _ rfl ?_
        intro g6 c6 w10 ho6 hg6 hg6' hl6
        have hstp := HK2.out.step (L := w12.heap.size) (y := ⟨o.key, ⟨oA, o.data, oc⟩, oB, o.at_, od⟩) (Bn := Bn) (Bm := Bn + 1) (Nat.le_refl _) (by omega) (by omega) (by omega) (by omega) (by omega) (by omega) (by omega) (by omega) (by omega) hBd HO5.out HD5.out HA5.out (by rw [hyl]; exact ho6) hg6
        have k10 := hstp.2.2.2
        have x10 : w10.cell? ⟨w6.heap.size + 1, 5, none⟩ = some (.slice vA pre.length vc) ∧ w10.cell? ⟨w6.heap.size, 0, none⟩ = some (.pointer (some ⟨X, 0, none⟩)) := ⟨k10.cell 5, by
        refine (World.cell?_of_block ?_).trans x0.2
        refine (hg6.block w6.heap.size (by have := HO5.out.size; simp at this ⊢; omega) (fun e => by have := ((own_below3 hrow5 ((Below.refl _ _).alloc (Nat.le_refl _) (.cells #[.string o.key, .slice oA o.data.length oc, .slice oB o.at_.length od] 58)) (Nat.le_refl _)).lt _ e.symm).1; omega)).trans ?_
        exact (((Below.refl _ w5).alloc (Nat.le_refl _) _).block _ (by have := HO5.out.size; simp at this; omega)).trans (HO5.out.block _ (by simp; omega) (by omega))⟩
        have f10 : w10.frozen? ⟨w6.heap.size + 1, 5, none⟩ = false := k10.frozen 5
        have HSTP := Lib.hid hstp
        have HR10 : Hid (RdAt w4.heap.size X mb ⟨some ⟨ab, ao, none⟩, eps, ec, EB, [], ed⟩ (ix ++ (os.take (pre.length + 1)).flatMap (·.at_)) w10) := Lib.hid ((HR5.out.below ((Below.refl _ w5).alloc (Nat.le_refl _) (.cells #[.string o.key, .slice oA o.data.length oc, .slice oB o.at_.length od] 58))).grown (L := w12.heap.size) (by omega) (by omega) hg6 (fun r e => ((own_below3 hrow5 ((Below.refl _ _).alloc (Nat.le_refl _) (.cells #[.string o.key, .slice oA o.data.length oc, .slice oB o.at_.length od] 58)) (Nat.le_refl _)).lt _ e).1))
        clear ho6 hg6 hstp k10 hrow5
        refine hK.out _ _ x10 (fun hHeld => ?_)
        clear hK K
        try simp only [Act.put, List.setIfInBounds_toArray, List.set_cons_zero, List.set_cons_succ]
        refine wpAnyL_take 12 (i := 7) (oi := ⟨some 72, _, _, _, _, _⟩) (v := ?_) rfl (by kernel_rfl) (by kernel_rfl) (by kernel_rfl) (by kernel_rfl) (by kernel_rfl) (by kernel_rfl) (by kernel_rfl) (fun _ _ _ h => h) (Or.inl ⟨by rfl, ?_⟩) hHeld ?_
        rotate_left
        focus (intro w hSw; (try dsimp only at hSw); go_simp; try (with_reducible rfl))
        try simp only [Act.put, List.setIfInBounds_toArray, List.set_cons_zero, List.set_cons_succ]
        refine wpAnyL_last (i := 8) (o := ⟨none, _, _, _, _, _⟩) (by kernel_rfl) rfl (by kernel_rfl) (fun K hK => ?_)
        clear hHeld
        go_simp
        go_wp2_with fail
        refine hK.out _ _ ?_
        clear hK K
        try simp only [Act.put, List.setIfInBounds_toArray, List.set_cons_zero, List.set_cons_succ]
        refine wpAnyL_done (by kernel_rfl) ?_ _
        gi_wp2_with fail
        refine ⟨HSTP.out.1, HSTP.out.2.1, _, _, HSTP.out.2.2.1, ?_, ?_⟩
        · rw [List.map_append, HYS.out, List.length_append, List.length_singleton, List.take_add_one, HO.out]
          rfl
        · rw [List.length_append, List.length_singleton]
          exact HR10.out.set (by omega) (by omega) (by omega)
      case done2 =>
        rintro D2 xs2 W2 hD2 hS2 ⟨vO, yO, hK2, hys2, hR2⟩ hKD2
        have hxl : xs2.length = os.length := by
          have := congrArg List.length hS2
          rw [cvals_length, List.length_range] at this
          have h2 := HCNT.out
          omega
        rw [hxl, List.take_length] at hys2
        obtain ⟨vA, vc, rfl, _, _, _, _⟩ := own_any hK2.row
        have hsame : ∀ k, k < w6.heap.size → k ≠ mb → W2.heap[k]? = w6.heap[k]? := fun k h1 h2 =>
          ((hK2.out.block k (by omega) (by omega) h2 h2).trans (HB12.out.block k (by omega))).trans ((HOUT.out.block k (by omega) (by omega) (by omega) h2).trans ((HB11.out.block k (by omega)).trans (HB9.out.block k h1)))
        have hsame4 : ∀ k, k < w4.heap.size → W2.heap[k]? = w4.heap[k]? := fun k h1 => (hsame k (by omega) (by omega)).trans ((hB6.block k (by omega)).trans (hB4c.block k h1))
        have hos2 := hK2.out.size
        have hE2 := HEL4.out.stays (W' := W2) (by omega) (fun k _ h => hsame4 k h)
        have hI2 : RdF w2.heap.size W2 iA (ints ix) := ((((RdF.of_own HIR.out).below HB12.out).stays (w' := W2) hos2 (fun k h1 h2 => hK2.out.block k h2 (by omega) (by omega) (by omega)))).mono (by omega)
        have hEst : (⟨some ⟨ab, ao, none⟩, eps, ec, EB, [], ed⟩ : Dv).st = ⟨D.st.secs, []⟩ := by
          show DS.mk (eps.map (·.zs)) [] = _
          rw [HSEC.out]
        obtain ⟨hTL, hTF, hTS⟩ := opened_st (u := ⟨ut, uf, uo⟩) (iA := iA) (ic := ic) (ix := ix) hE2 hK2 hys2 hI2 (by omega) (by rw [hEst]; exact HS.out.hok) HS.out.hoc rfl
        have hTok := HS.out.hok
        rw [← hEst, ← hTS] at hTok
        have HCK := Lib.hid (storeCheck_any _ hTF W2 (hTL.mono (Nat.zero_le _)))
        have HTL := Lib.hid hTL
        have HTF := Lib.hid hTF
        have HTS := Lib.hid hTS
        have HTOK := Lib.hid hTok
        obtain ⟨g0, g1, g2, g3, g4, g5, g6⟩ := blk7 hK2.st
        have HK2 := Lib.hid hK2
        have HSM := Lib.hid hsame4
        have HKD2 := Lib.hid hKD2
        clear hK2 hsame hsame4 hE2 hI2 hEst hTL hTF hTS hTok hR2 hys2 hKD2
        gi_wp2_with fail
        refine ⟨trivial, ?_⟩
        refine (callsIn_wide.2 HCK.out).mono ?_
        rintro e W3 ⟨r, rfl, hr, hB3'⟩
        obtain rfl : r = 0 := by rcases hr with h | h; exact h.1; exact absurd HTOK.out h.2
        have hs3' := hB3'.size
        obtain ⟨g0, g1, g2, g3, g4, g5, g6⟩ := blk7 (HK2.out.st.below hB3' HK2.out.st.lt)
        have kR3 : Blk W3 (w.heap.size + 1) 32 [.slice none 0 0, .slice none 0 0, .int .i64 0, .int .i64 0, .int .i64 0, .slice none 0 0, .slice none 0 0] := ((hB3'.block (w.heap.size + 1) (by have := HS4.out; omega)).trans (HSM.out (w.heap.size + 1) (by have := HS4.out; omega))).trans HKR4.out
        obtain ⟨z0, z1, z2, z3, z4, z5, z6⟩ := blk7 kR3
        have q0 := kR3.frozen 0
        have q1 := kR3.frozen 1
        have q2 := kR3.frozen 2
        have q3 := kR3.frozen 3
        have q4 := kR3.frozen 4
        have q5 := kR3.frozen 5
        have q6 := kR3.frozen 6
        have HKR3 := Lib.hid kR3
        have HB3' := Lib.hid hB3'
        clear kR3 hB3' HCK
        gi_wp2_with fail
        have h4s := HS4.out
        have hDdW : Dd < W.heap.size := (Array.getElem?_eq_some_iff.1 HKD.out).1
        have hD2W : D2 < W2.heap.size := (Array.getElem?_eq_some_iff.1 HKD2.out).1
        have hd3 : W3.heap[Dd]? = some (.deferred (some [])) := (HB3'.out.block Dd (by omega)).trans ((HK2.out.out.block Dd (by omega) (by omega) (by omega) (by omega)).trans ((HB12.out.block Dd hDdW).trans HKD.out))
        have hd32 : W3.heap[D2]? = some (.deferred (some [])) := (HB3'.out.block D2 hD2W).trans HKD2.out
        obtain ⟨Wf, hWf⟩ : ∃ Wf, (((((((W3.setCell ⟨w.heap.size + 1, 0, none⟩ (.slice (some ⟨ab, ao, none⟩) eps.length ec)).setCell ⟨w.heap.size + 1, 1, none⟩ (.slice EB 0 ed)).setCell ⟨w.heap.size + 1, 2, none⟩ (.int .i64 ut)).setCell ⟨w.heap.size + 1, 3, none⟩ (.int .i64 uf)).setCell ⟨w.heap.size + 1, 4, none⟩ (.int .i64 uo)).setCell ⟨w.heap.size + 1, 5, none⟩ (.slice vA yO.length vc)).setCell ⟨w.heap.size + 1, 6, none⟩ (.slice iA ix.length ic)) = Wf := ⟨_, rfl⟩
        rw [hWf]
        have kf : Blk Wf (w.heap.size + 1) 32 [.slice (some ⟨ab, ao, none⟩) eps.length ec, .slice EB 0 ed, .int .i64 ut, .int .i64 uf, .int .i64 uo, .slice vA yO.length vc, .slice iA ix.length ic] :=
          hWf ▸ ((((((HKR3.out.set 0 (.slice (some ⟨ab, ao, none⟩) eps.length ec)).set 1 (.slice EB 0 ed)).set 2 (.int .i64 ut)).set 3 (.int .i64 uf)).set 4 (.int .i64 uo)).set 5 (.slice vA yO.length vc)).set 6 (.slice iA ix.length ic)
        have hof : ∀ k, k ≠ w.heap.size + 1 → Wf.heap[k]? = W3.heap[k]? := fun k hk => by
          rw [← hWf]
          exact (set_other hk).trans ((set_other hk).trans ((set_other hk).trans ((set_other hk).trans ((set_other hk).trans ((set_other hk).trans (set_other hk))))))
        have hBf : Below (w.heap.size + 1) W3 Wf := hWf ▸ (((((((Below.refl _ W3).setCell (p := ⟨w.heap.size + 1, 0, none⟩) (Nat.le_refl _) _).setCell (p := ⟨w.heap.size + 1, 1, none⟩) (Nat.le_refl _) _).setCell (p := ⟨w.heap.size + 1, 2, none⟩) (Nat.le_refl _) _).setCell (p := ⟨w.heap.size + 1, 3, none⟩) (Nat.le_refl _) _).setCell (p := ⟨w.heap.size + 1, 4, none⟩) (Nat.le_refl _) _).setCell (p := ⟨w.heap.size + 1, 5, none⟩) (Nat.le_refl _) _).setCell (p := ⟨w.heap.size + 1, 6, none⟩) (Nat.le_refl _) _
        have hf1 : Wf.heap[D2]? = some (.deferred (some [])) := (hof D2 (by omega)).trans hd32
        have hf2 : (Wf.putObj D2 (.deferred none)).heap[Dd]? = some (.deferred (some [])) := (World.putObj_heap_other (by omega)).trans ((hof Dd (by omega)).trans hd3)
        have hfs := hBf.size
        have hB2e : Below w.heap.size w W := by
          have h1 : Below w.heap.size w w4 := HB3.out.trans (hB34.mono (by omega))
          have h2 : Below w.heap.size w4 w11 := ((hB4c.mono (by omega)).trans (hB6.mono (by omega))).trans ((HB9.out.mono (by omega)).trans (HB11.out.mono (by omega)))
          exact (h1.trans h2).trans (HOUT.out.below (by omega) (by omega) (by omega) (by omega))
        have hB3e : Below w.heap.size w Wf := ((hB2e.trans (HB12.out.mono (by omega))).trans (HK2.out.out.below (by omega) (by omega) (by omega) (by omega))).trans ((HB3'.out.mono (by omega)).trans (hBf.mono (by omega)))
        have hLf : (⟨⟨some ⟨ab, ao, none⟩, eps, ec, EB, [], ed⟩, ⟨ut, uf, uo⟩, vA, yO, vc, iA, ix, ic⟩ : St).Lies w2.heap.size Wf := (HTL.out.below HB3'.out).stays hfs (fun k h1 _ => hof k (by omega))
        refine ⟨by simp, .inl ⟨_, _, rfl, run_takeDeferred hf1, by simp, .inl ⟨_, _, rfl, run_takeDeferred hf2, ?_⟩⟩⟩
        have ke : Blk ((Wf.putObj D2 (.deferred none)).putObj Dd (.deferred none)) (w.heap.size + 1) 32 [.slice (some ⟨ab, ao, none⟩) eps.length ec, .slice EB 0 ed, .int .i64 ut, .int .i64 uf, .int .i64 uo, .slice vA yO.length vc, .slice iA ix.length ic] := (World.putObj_heap_other (by omega)).trans ((World.putObj_heap_other (by omega)).trans kf)
        obtain ⟨e0, e1, e2, e3, e4, e5, e6⟩ := blk7 ke
        have hLe := (hLf.putObj D2 _ (.deferred none) hf1 rfl).putObj Dd _ (.deferred none) hf2 rfl
        have hBe : Below w.heap.size w ((Wf.putObj D2 (.deferred none)).putObj Dd (.deferred none)) := (hB3e.trans (belowK_b (w := w) (Nat.le_refl _) Wf D2 _ (.deferred none) (by omega) hf1 rfl rfl)).trans (belowK_b (w := w) (Nat.le_refl _) _ Dd _ (.deferred none) (by omega) hf2 rfl rfl)
        refine ⟨stval (some ⟨ab, ao, none⟩) eps.length ec EB 0 ed ut uf uo vA yO.length vc iA ix.length ic, by simp [results, Tryz.results29, go_sem, e0, e1, e2, e3, e4, e5, e6], ⟨⟨some ⟨ab, ao, none⟩, eps, ec, EB, [], ed⟩, ⟨ut, uf, uo⟩, vA, yO, vc, iA, ix, ic⟩, rfl, ?_, hLe.mono (by omega), HTF.out, hBe⟩
        have := HTS.out
        rw [HE1.out] at this
        exact this

end Go.Proofs.YtfeeejigedndcaaGreat

namespace Go.Proofs.YtfeeejigedndcaaGreat
open Go.ChangeShapes Go.WideShapes Go.ChangeAt Go.RowKit
set_option maxRecDepth 100000

theorem att2_idle (p : Addr) (w : World) :
    CallsD Tryz.prog 58 #[.pointer (some p)] .returning w fun e u' w' => e = .returned (.tuple #[]) ∧ u' = .returning ∧ w' = w := by
  refine callsD_of_wpS Tryz.func58 rfl fun c₀ cs hu => ?_
  apply wpS_seq
  apply wpS_region
  simp [wpOpsS, go_sem, recoverD, hu, Tryz.ntmps58, Exit.thenS]
  apply wpS_seq
  apply wpS_seq
  apply wpS_region
  simp [wpOpsS, go_sem, Exit.thenS]
  refine wpS_cond (t := true) (by simp [Act.eval]) ?_
  simp only [if_true]
  refine wpS_of_wp (wp_ret ?_)
  simp [Exit.thenS, bodyPostS, results, Tryz.results58]
  cases c₀
  simp_all

theorem att7_facts {w2 : World} {R : Nat} {T T' : TypeId} {a b c d e f g : Value} (kr : Blk w2 R T [a, b, c, d, e, f, g]) (ke : Blk w2 (R + 1) T' [.int .i64 0]) (a' b' c' d' e' f' g' : Value) :
    ∃ W9, (set7 w2 R a' b' c' d' e' f' g').setCell ⟨R + 1, 0, none⟩ (.int .i64 0) = W9 ∧ Blk W9 R T [a', b', c', d', e', f', g'] ∧ Blk W9 (R + 1) T' [.int .i64 0] ∧ (∀ k, k ≠ R → k ≠ R + 1 → W9.heap[k]? = w2.heap[k]?) ∧ w2.heap.size ≤ W9.heap.size ∧ Below R w2 W9 := by
  obtain ⟨W8, e8, k8, h8, s8, b8⟩ := set7_facts kr a' b' c' d' e' f' g'
  rw [e8]
  have ke8 : Blk W8 (R + 1) T' [.int .i64 0] := (h8 (R + 1) (by omega)).trans ke
  exact ⟨_, rfl, k8.other (by omega) 0 _, ke8.set 0 _, fun k h1 h2 => (set_heap W8 (R + 1) 0 _ k h2).trans (h8 k h1), by rw [World.size_setCell, s8]; exact Nat.le_refl _, b8.setCell (p := ⟨R + 1, 0, none⟩) (Nat.le_succ _) _⟩

/-- It answers a store of which P holds, in memory of the call's own. -/
def StAns (P : St → Prop) (w : World) (e : Ending) (w' : World) : Prop := ∃ T : St, e = .returned T.val ∧ P T ∧ T.Lies w.heap.size w' ∧ Below w.heap.size w w'

set_option maxHeartbeats 1000000 in
theorem attemptO_ok (f : Nat) (lb : Array Value) (eg : Enters Tryz.prog f) (w : World) (P : St → Prop)
    (hf : ∀ W, Below w.heap.size w W → W.heap.size = w.heap.size + 2 → Calls Tryz.prog f lb W (StAns P W)) :
    Calls Tryz.prog 27 #[.func (.func f) #[] lb] w fun e w' =>
      ∃ T : St, e = .returned (.tuple #[T.val, .int .i64 0]) ∧ P T ∧ T.Lies w.heap.size w' ∧ Below w.heap.size w w' := by
  have hmf : ∀ (fn : Fn) (first cap : Array Value) (w : World), (Instr.makeFunc fn first cap).run Tryz.prog w = .ok (.func fn first cap) w := fun _ _ _ _ => rfl
  have eg' : ∀ args w, (callFunc f args).run Tryz.prog w = .ok (.enter f args) w := eg
  go_enter_defers Tryz.func27, Tryz.ntmps27
  go_wp2
  obtain ⟨w1, hw1⟩ : ∃ w1, (w.alloc (.cells #[.slice none 0 0, .slice none 0 0, .int .i64 0, .int .i64 0, .int .i64 0, .slice none 0 0, .slice none 0 0] 32)).alloc (.cells #[.int .i64 0] 38) = w1 := ⟨_, rfl⟩
  have e1 : w1 = allocs w [([.slice none 0 0, .slice none 0 0, .int .i64 0, .int .i64 0, .int .i64 0, .slice none 0 0, .slice none 0 0], 32), ([.int .i64 0], 38)] := by rw [← hw1]; rfl
  have hB1 : Below w.heap.size w w1 := by rw [e1]; exact allocs_below _ _
  have kr : Blk w1 w.heap.size 32 [.slice none 0 0, .slice none 0 0, .int .i64 0, .int .i64 0, .int .i64 0, .slice none 0 0, .slice none 0 0] := by rw [e1]; exact allocs_blk _ w 0 rfl
  have ke : Blk w1 (w.heap.size + 1) 38 [.int .i64 0] := by rw [e1]; exact allocs_blk _ w 1 rfl
  have hs1 : w1.heap.size = w.heap.size + 2 := by rw [e1, allocs_size]; rfl
  rw [hw1]
  refine (hf w1 hB1 hs1).mono ?_
  rintro e w2 ⟨T, rfl, hP, hL, hB2⟩
  have kr2 := kr.below hB2 kr.lt
  have ke2 := ke.below hB2 ke.lt
  obtain ⟨r0, r1, r2, r3, r4, r5, r6⟩ := blk7 kr2
  have s0 := kr2.frozen 0
  have s1 := kr2.frozen 1
  have s2 := kr2.frozen 2
  have s3 := kr2.frozen 3
  have s4 := kr2.frozen 4
  have s5 := kr2.frozen 5
  have s6 := kr2.frozen 6
  have q0 : w2.cell? ⟨w.heap.size + 1, 0, none⟩ = some (.int .i64 0) := ke2.cell 0
  have qf := ke2.frozen 0
  have HKR := Lib.hid kr2
  have HKE := Lib.hid ke2
  have HP := Lib.hid hP
  have HL := Lib.hid hL
  clear hf kr ke kr2 ke2 hw1 e1 hP hL
  obtain ⟨⟨dA, ps, c, B, ws, d⟩, ⟨t, f', o⟩, O, os, oc, I, is, ic⟩ := T
  obtain ⟨W9, hW9, k9, ke9, hh9, hsz9, hB9⟩ := att7_facts HKR.out HKE.out (.slice dA ps.length c) (.slice B ws.length d) (.int .i64 t) (.int .i64 f') (.int .i64 o) (.slice O os.length oc) (.slice I is.length ic)
  have hB99 : Below w.heap.size w W9 := (hB1.trans (hB2.mono hB1.size)).trans hB9
  dsimp only [set7] at hW9
  have HW9 := Lib.hid hW9
  clear hW9
  go_wp2
  refine leaves_cons (f := 58) (args := #[.pointer (some ⟨w.heap.size + 1, 0, none⟩)]) (by simp) (by simp [go_sem]) ?_
  rw [HW9.out]
  refine (att2_idle ⟨w.heap.size + 1, 0, none⟩ W9).mono ?_
  rintro e u' w'' ⟨rfl, rfl, rfl⟩
  obtain ⟨d0, d1, d2, d3, d4, d5, d6⟩ := blk7 k9
  have d8 : w''.cell? ⟨w.heap.size + 1, 0, none⟩ = some (.int .i64 0) := ke9.cell 0
  clear r0 r1 r2 r3 r4 r5 r6 s0 s1 s2 s3 s4 s5 s6 q0 qf
  simp [Leaves, settle, results, Tryz.results27, go_sem, d0, d1, d2, d3, d4, d5, d6, d8]
  exact ⟨⟨⟨dA, ps, c, B, ws, d⟩, ⟨t, f', o⟩, O, os, oc, I, is, ic⟩, by simp, HP.out, (HL.out.stays hsz9 fun k h1 h2 => hh9 k (by omega) (by omega)).mono hB1.size, hB99⟩

/-- What is opened. -/
def Opened (D : Dv) (u : Ub) (os : List PO) (ix : List Int) (T : St) : Prop := T.st = ⟨D.st, u, os, ix⟩ ∧ T.Fits

set_option maxHeartbeats 1000000 in
theorem open1_ok (D : Dv) (hf : D.Fits) (hok : D.st.ok) (hw : D.ws = []) (u : Ub) (os : List PO) (ix : List Int) (hS : Stands D.st.secs u os ix) (w : World) (hD : D.Lies 0 w) (b : Nat) (hb : Blk w b 27 [.slice D.A D.ps.length D.c, .slice D.B D.ws.length D.d]) :
    Calls Tryz.prog 28 #[.pointer (some ⟨b, 0, none⟩)] w (StAns (Opened D u os ix) w) := by
  obtain ⟨w1, hw1⟩ : ∃ w1, w.alloc (.cells #[.slice none 0 0, .slice none 0 0, .int .i64 0, .int .i64 0, .int .i64 0, .slice none 0 0, .slice none 0 0] 32) = w1 := ⟨_, rfl⟩
  have hB1 : Below w.heap.size w w1 := hw1 ▸ (Below.refl _ w).alloc (Nat.le_refl _) _
  have kr : Blk w1 w.heap.size 32 [.slice none 0 0, .slice none 0 0, .int .i64 0, .int .i64 0, .int .i64 0, .slice none 0 0, .slice none 0 0] := hw1 ▸ Blk.new w _ _
  have HO := Lib.hid (open_ok D hf hok hw u os ix hS w1 (hD.below hB1))
  have kb := hb.below hB1 hb.lt
  have x0 := kb.cell 0
  have x1 := kb.cell 1
  simp only [List.getElem?_cons_zero, List.getElem?_cons_succ] at x0 x1
  obtain ⟨ds, hds⟩ : ∃ ds, D.st = ds := ⟨_, rfl⟩
  have HDS := Lib.hid hds
  have HW1 := Lib.hid hw1
  have hlt := kr.lt
  have HKR := Lib.hid kr
  clear hw1 kr hD hS hf hok hw hb kb
  have hOp : Opened D u os ix = fun T => T.st = ⟨ds, u, os, ix⟩ ∧ T.Fits := by unfold Opened; rw [hds]
  rw [hOp]
  rw [hds] at HO
  clear hOp hds HDS
  obtain ⟨dA, ps, dc, dB, ws, dd⟩ := D
  dsimp only [Dv.val] at *
  go_enter Tryz.func28, Tryz.ntmps28
  go_upto_region 1 with fail
  rw [HW1.out]
  go_wp2_with fail
  refine HO.out.mono ?_
  rintro e w2 ⟨T, rfl, hTS, hTL, hTF, hB2⟩
  have HTS := Lib.hid hTS
  have HTL := Lib.hid hTL
  have HTF := Lib.hid hTF
  have kr2 := HKR.out.below hB2 HKR.out.lt
  obtain ⟨r0, r1, r2, r3, r4, r5, r6⟩ := blk7 kr2
  have s0 := kr2.frozen 0
  have s1 := kr2.frozen 1
  have s2 := kr2.frozen 2
  have s3 := kr2.frozen 3
  have s4 := kr2.frozen 4
  have s5 := kr2.frozen 5
  have s6 := kr2.frozen 6
  clear hTS hTL hTF HO
  obtain ⟨⟨eA, qs, c, B, es, d⟩, ⟨t, f', o⟩, O, yo, oc, I, is, ic⟩ := T
  obtain ⟨W9, hW9, k9, hh9, hsz9, hB9⟩ := set7_facts kr2 (.slice eA qs.length c) (.slice B es.length d) (.int .i64 t) (.int .i64 f') (.int .i64 o) (.slice O yo.length oc) (.slice I is.length ic)
  dsimp only [set7] at hW9
  have HW9 := Lib.hid hW9
  have HH9 := Lib.hid hh9
  clear hW9 kr2 hh9 x0 x1
  go_wp2
  rw [HW9.out]
  obtain ⟨d0, d1, d2, d3, d4, d5, d6⟩ := blk7 k9
  have hBF : Below w.heap.size w W9 := (hB1.trans (hB2.mono hB1.size)).trans hB9
  refine bodyPost_ret (v := stval eA qs.length c B es.length d t f' o O yo.length oc I is.length ic) ?_ rfl ⟨⟨⟨eA, qs, c, B, es, d⟩, ⟨t, f', o⟩, O, yo, oc, I, is, ic⟩, rfl, ⟨HTS.out, HTF.out⟩, (HTL.out.stays (by rw [hsz9]; exact Nat.le_refl _) fun k h1 h2 => HH9.out k (by omega)).mono hB1.size, hBF⟩
  clear hBF hB9 hsz9
  simp [results, Tryz.results28, go_sem, d0, d1, d2, d3, d4, d5, d6]

set_option maxHeartbeats 1000000 in
theorem openTop_ok (D : Dv) (hf : D.Fits) (hok : D.st.ok) (hw : D.ws = []) (u : Ub) (os : List PO) (ix : List Int) (hS : Stands D.st.secs u os ix) (w : World) (hD : D.Lies 0 w) :
    Calls Tryz.prog 13 #[D.val] w fun e w' => ∃ T : St, e = .returned (.tuple #[T.val, .int .i64 0]) ∧ Opened D u os ix T ∧ T.Lies w.heap.size w' ∧ Below w.heap.size w w' := by
  have hmf : ∀ (fn : Fn) (first cap : Array Value) (w : World), (Instr.makeFunc fn first cap).run Tryz.prog w = .ok (.func fn first cap) w := fun _ _ _ _ => rfl
  obtain ⟨w1, hw1⟩ : ∃ w1, (w.alloc (.cells #[.slice D.A D.ps.length D.c, .slice D.B D.ws.length D.d] 27)).alloc (.cells #[.slice none 0 0, .slice none 0 0, .int .i64 0, .int .i64 0, .int .i64 0, .slice none 0 0, .slice none 0 0] 32) = w1 := ⟨_, rfl⟩
  have e1 : w1 = allocs w [([.slice D.A D.ps.length D.c, .slice D.B D.ws.length D.d], 27), ([.slice none 0 0, .slice none 0 0, .int .i64 0, .int .i64 0, .int .i64 0, .slice none 0 0, .slice none 0 0], 32)] := by rw [← hw1]; rfl
  have hB1 : Below w.heap.size w w1 := by rw [e1]; exact allocs_below _ _
  have hs1 : w1.heap.size = w.heap.size + 2 := by rw [e1, allocs_size]; rfl
  have kn : Blk w1 w.heap.size 27 [.slice D.A D.ps.length D.c, .slice D.B D.ws.length D.d] := by rw [e1]; exact allocs_blk _ w 0 rfl
  have kr : Blk w1 (w.heap.size + 1) 32 [.slice none 0 0, .slice none 0 0, .int .i64 0, .int .i64 0, .int .i64 0, .slice none 0 0, .slice none 0 0] := by rw [e1]; exact allocs_blk _ w 1 rfl
  have HAT := Lib.hid (attemptO_ok 28 #[.pointer (some ⟨w.heap.size, 0, none⟩)] (enters_of Tryz.func28 (by kernel_rfl) rfl) w1 (Opened D u os ix)
    (fun W hB hs => open1_ok D hf hok hw u os ix hS W (hD.below (hB1.trans (hB.mono hB1.size))) w.heap.size (kn.below hB kn.lt)))
  have HW1 := Lib.hid hw1
  have HKR := Lib.hid kr
  obtain ⟨P, hP⟩ : ∃ P, Opened D u os ix = P := ⟨_, rfl⟩
  rw [hP] at HAT ⊢
  clear hw1 e1 kn kr hD hS hf hok hw hP
  obtain ⟨dA, ps, dc, dB, ws, dd⟩ := D
  dsimp only [Dv.val] at *
  go_enter Tryz.func13, Tryz.ntmps13
  go_wp2_with fail
  rw [HW1.out]
  refine HAT.out.mono ?_
  rintro e w2 ⟨T, rfl, hTP, hTL, hB2⟩
  have HTL := Lib.hid hTL
  have HTP := Lib.hid hTP
  have kr2 := HKR.out.below hB2 HKR.out.lt
  obtain ⟨r0, r1, r2, r3, r4, r5, r6⟩ := blk7 kr2
  have s0 := kr2.frozen 0
  have s1 := kr2.frozen 1
  have s2 := kr2.frozen 2
  have s3 := kr2.frozen 3
  have s4 := kr2.frozen 4
  have s5 := kr2.frozen 5
  have s6 := kr2.frozen 6
  clear hTL hTP HAT
  obtain ⟨⟨eA, qs, c, B, es, d⟩, ⟨t, f', o⟩, O, yo, oc, I, is, ic⟩ := T
  obtain ⟨W9, hW9, k9, hh9, hsz9, hB9⟩ := set7_facts kr2 (.slice eA qs.length c) (.slice B es.length d) (.int .i64 t) (.int .i64 f') (.int .i64 o) (.slice O yo.length oc) (.slice I is.length ic)
  dsimp only [set7] at hW9
  have HW9 := Lib.hid hW9
  have HH9 := Lib.hid hh9
  clear hW9 kr2 hh9
  go_wp2
  rw [HW9.out]
  obtain ⟨d0, d1, d2, d3, d4, d5, d6⟩ := blk7 k9
  have hBF : Below w.heap.size w W9 := (hB1.trans (hB2.mono hB1.size)).trans (hB9.mono (Nat.le_succ _))
  refine bodyPost_ret (v := .tuple #[stval eA qs.length c B es.length d t f' o O yo.length oc I is.length ic, .int .i64 0]) ?_ rfl ⟨⟨⟨eA, qs, c, B, es, d⟩, ⟨t, f', o⟩, O, yo, oc, I, is, ic⟩, rfl, HTP.out, (HTL.out.stays (by rw [hsz9]; exact Nat.le_refl _) fun k h1 h2 => HH9.out k (by omega)).mono hB1.size, hBF⟩
  clear hBF hB9 hsz9
  simp [results, Tryz.results13, go_sem, d0, d1, d2, d3, d4, d5, d6]

end Go.Proofs.YtfeeejigedndcaaGreat

namespace Go.Proofs.YtfeeejigedndcaaGreat
open Go.ChangeShapes Go.WideShapes Go.ChangeAt Go.RowKit
set_option maxRecDepth 100000

/-- A store that stands, in memory. -/
structure Up (m : Nat) (W : World) (T : St) : Prop where
  lies : T.Lies m W
  fits : T.Fits
  st : StandsP T.st
theorem Up.below {m : Nat} {W W' : World} {T : St} (h : Up m W T) (hB : Below W.heap.size W W') : Up m W' T := ⟨h.lies.below hB, h.fits, h.st⟩
theorem Up.mono {m m' : Nat} {W : World} {T : St} (h : Up m W T) (hm : m' ≤ m) : Up m' W T := ⟨h.lies.mono hm, h.fits, h.st⟩
theorem Up.of_new {n m : Nat} {W : World} {E : Dv} (h : New n m W E) : Up m W (newSt E) := ⟨h.stl, h.fits, h.stands⟩
/-- Objects that came in, and may be. -/
structure In (W : World) (A : Option Addr) (ls : List Ob) : Prop where
  rd : Rd W A (obCells ls)
  data : ∀ o ∈ ls, Rd W o.d.A (octCells o.d.zs)
  fits : ∀ o ∈ ls, o.Fits
  len : ls.length ≤ 256
  ok : objE (ls.map Ob.st) = 0
  idx : idxSize (ls.map Ob.st) ≤ 65536
theorem In.below {W W' : World} {A : Option Addr} {ls : List Ob} (h : In W A ls) (hB : Below W.heap.size W W') : In W' A ls := ⟨h.rd.below hB, fun o ho => (h.data o ho).below hB, h.fits, h.len, h.ok, h.idx⟩

/-- What a commit to a store that stands answers. -/
structure Did (S : St) (ls : List Ob) (n : Nat) (W : World) (U : St) (A : Option Addr) (c : Nat) (l : List Ac) (aw1 : List AcT) (S1 : List (List Int)) : Prop where
  behind : Behind S.st U.st (l.map Ac.st) aw1 S1
  up : Up n W U
  kd : U.os.map kd = ls.map kd
  t : U.u.t = S.u.t + 1
  arr : RdF n W A (acCells l)
  data : ∀ a ∈ l, RdF n W a.p.A (ocl a.p.zs)
  cap : l.length ≤ c
  caps : U.dev.Caps
theorem Did.below {S : St} {ls : List Ob} {n : Nat} {W W' : World} {U : St} {A : Option Addr} {c : Nat} {l : List Ac} {aw1 : List AcT} {S1 : List (List Int)} (h : Did S ls n W U A c l aw1 S1) (hB : Below W.heap.size W W') : Did S ls n W' U A c l aw1 S1 :=
  ⟨h.behind, h.up.below hB, h.kd, h.t, h.arr.below hB, fun a ha => (h.data a ha).below hB, h.cap, h.caps⟩

abbrev noSt : Value := stval none 0 0 none 0 0 0 0 0 none 0 0 none 0 0
theorem commit_up (S : St) (A : Option Addr) (c : Nat) (ls : List Ob) (w : World) (hS : Up 0 w S) (ht : S.u.t < 1099511627776) (hI : In w A ls) :
    Calls Tryz.prog 11 #[S.val, .slice A ls.length c] w fun e w' => ((Full S.st (ls.map Ob.st) ∧ e = .returned (.tuple #[noSt, .slice none 0 0, .int .i64 17])) ∨
      ∃ U A' c' l aw1 S1, e = .returned (.tuple #[U.val, .slice A' l.length c', .int .i64 0]) ∧ Did S ls w.heap.size w' U A' c' l aw1 S1) ∧ Below w.heap.size w w' := by
  refine (commitTop_any S hS.fits A c ls (by have := hI.len; omega) hI.fits w hS.lies hI.rd hI.data).mono ?_
  rintro e w' ⟨h, hB⟩
  refine ⟨?_, hB⟩
  rcases h with ⟨x, hx, rfl⟩ | ⟨_, _, U, A', c', l, rfl, hcm, hL, hF, hA, hAd, hcap⟩
  · rcases hx with ⟨h1, _⟩ | ⟨_, h1, _⟩ | ⟨_, _, ⟨h1, _⟩ | ⟨h1, _⟩ | ⟨h1, rfl⟩⟩
    · exact absurd hS.st.ok h1
    · exact absurd hI.ok h1
    · have := hI.idx; omega
    · have : S.u.t = 1099511627776 := h1
      omega
    · exact .inl ⟨h1, rfl⟩
  · obtain ⟨aw1, S1, hbh⟩ := commit_behind hS.st hcm hI.ok ht fun o ho => by
      obtain ⟨x, hx, rfl⟩ := List.mem_map.1 ho
      exact (hI.fits x hx).octs
    obtain ⟨⟨fr, pl, wi, hP, _, _⟩, hT, _, _⟩ := hcm
    obtain ⟨f1, f2, _⟩ := hP.facts hS.st.ok.at_
    have hkd : U.os.map kd = ls.map kd := by
      have g1 : U.os.map (·.key) = ls.map (·.key) := by simpa [St.st, List.map_map, Function.comp_def] using f1
      have g2 : U.os.map (·.d.zs) = ls.map (·.d.zs) := by simpa [St.st, List.map_map, Function.comp_def] using f2
      have hl : U.os.length = ls.length := by simpa using congrArg List.length g1
      refine List.ext_getElem (by simpa using hl) fun i h1 h2 => ?_
      simp only [List.length_map] at h1 h2
      have e1 := congrArg (fun l => l[i]?) g1
      have e2 := congrArg (fun l => l[i]?) g2
      simp only [List.getElem?_map, List.getElem?_eq_getElem h1, List.getElem?_eq_getElem h2, Option.map_some, Option.some.injEq] at e1 e2
      simp only [List.getElem_map, kd, e1, e2]
    exact .inr ⟨U, A', c', l, aw1, S1, rfl, hbh, ⟨hL, hF, hbh.stands⟩, hkd, hT, hA, hAd, hcap.1, hcap.2⟩

theorem St.ws_nil {S : St} (h : S.st.dev.waits = []) : S.dev.ws = [] := by
  have : S.dev.ws.map Wt.st = [] := h
  simpa using this
theorem kd_st {xs ys : List Ob} (h : xs.map Ob.st = ys.map Ob.st) : xs.map kd = ys.map kd := by
  have h1 := congrArg (List.map fun o : PO => (o.key, o.data)) h
  rw [List.map_map, List.map_map] at h1
  exact h1
/-- Opening a store that stands. -/
theorem open_up (D : Dv) (hf : D.Fits) (hw : D.ws = []) (u : Ub) (os : List PO) (ix : List Int) (hS : Stands D.st.secs u os ix) (w : World) (hD : D.Lies 0 w) :
    Calls Tryz.prog 13 #[D.val] w fun e w' => ∃ T : St, e = .returned (.tuple #[T.val, .int .i64 0]) ∧ T.st = ⟨D.st, u, os, ix⟩ ∧ T.Lies w.heap.size w' ∧ T.Fits ∧ Below w.heap.size w w' := by
  have hok : D.st.ok := by
    have h1 := hS.hok.dev
    have h2 : D.st = ⟨D.st.secs, []⟩ := by
      have : D.st.waits = [] := by unfold Dv.st; rw [hw]; rfl
      exact congrArg (DS.mk D.st.secs) this
    rw [h2]
    exact h1
  refine (openTop_ok D hf hok hw u os ix hS w hD).mono ?_
  rintro e w' ⟨T, he, ⟨h1, h2⟩, h3, h4⟩
  exact ⟨T, he, h1, h3, h2, h4⟩

/-- The example's object. -/
def aKey : ByteArray := ⟨#[97]⟩
abbrev aOb (A : Option Addr) (c : Nat) : Ob := ⟨aKey, ⟨A, [98], c⟩, none, [], 0⟩
theorem aObj : objE [(⟨aKey, [98], []⟩ : PO)] = 0 := by
  have h : riseK ByteArray.empty [aKey] = true := riseK_cons.2 ⟨ltK_empty (by rw [ByteArray.toList_eq]; rfl), by decide, rfl⟩
  unfold objE
  rw [if_neg (by decide), if_neg (by rw [show ([(⟨aKey, [98], []⟩ : PO)].map (·.key)) = [aKey] from rfl, h]; decide)]
  rfl
theorem aIn {W : World} {A B : Option Addr} {c : Nat} (hc : 1 ≤ c) (hB : B = none → c = 0) (h1 : Rd W A (obCells [aOb B c])) (h2 : Rd W B (octCells [98])) : In W A [aOb B c] := by
  refine ⟨h1, fun o ho => ?_, fun o ho => ?_, by simp, aObj, show idxSize [(⟨aKey, [98], []⟩ : PO)] ≤ 65536 by decide⟩
  · simp at ho
    subst ho
    exact h2
  · simp at ho
    subst ho
    exact ⟨show aKey.size ≤ maxLen by decide, by simp, hc, hB, Nat.zero_le _, Nat.zero_le _, fun _ => rfl, fun z hz => by simp at hz; subst hz; decide⟩
theorem aRoom {E : Dv} (hp : E.ps.length = 20) (B : Option Addr) (c : Nat) : ¬ Full (newSt E).st ([aOb B c].map Ob.st) := by
  unfold Full
  have h1 : (newSt E).st.dev.secs.length = 20 := by simp [St.st, Dv.st, hp]
  have h2 : (newSt E).st.secs = [] := rfl
  rw [h1, h2]
  show ¬ (freeL 20 []).length < need [⟨aKey, [98], []⟩]
  decide

/-- Opening what is there. -/
theorem open_same (U : St) (n : Nat) (w : World) (hU : Up n w U) : Calls Tryz.prog 13 #[U.dev.val] w fun e w' => ∃ T : St, e = .returned (.tuple #[T.val, .int .i64 0]) ∧ T.st = U.st ∧ Up w.heap.size w' T ∧ Below w.heap.size w w' := by
  refine (open_up U.dev hU.fits.dev (St.ws_nil hU.st.w) U.u U.st.os U.is hU.st.st w (hU.lies.dev.mono (Nat.zero_le _))).mono ?_
  rintro e w' ⟨T, he, h1, h2, h3, h4⟩
  exact ⟨T, he, h1, ⟨h2, h3, by rw [h1]; exact hU.st⟩, h4⟩
theorem one_kd {os : List Ob} {k : ByteArray} {z : List Int} (h : os.map kd = [(k, z)]) : ∃ o, os = [o] ∧ o.key = k ∧ o.d.zs = z := by
  rcases os with _ | ⟨o, _ | ⟨p, t⟩⟩
  · cases h
  · injection h with h1 _
    injection h1 with h2 h3
    exact ⟨o, rfl, h2, h3⟩
  · simp at h
theorem strB : strOfNums [98] = ⟨#[98]⟩ := by decide

set_option maxHeartbeats 4000000 in
theorem alive10_any (w : World) : Calls Tryz.prog 7 #[] w fun e w' => e = .returned (.bool true) ∧ Below w.heap.size w w' := by
  have HF := Lib.hid (first10_any 20 (by decide) (by decide) w)
  have hak : (⟨#[97]⟩ : ByteArray) = aKey := rfl
  go_enter Tryz.func7, Tryz.ntmps7
  go_wp2_with fail
  refine HF.out.mono ?_
  rintro e w1 ⟨E, rfl, hN, hB1⟩
  have HN := Lib.hid hN
  clear hN HF
  obtain ⟨W, hW⟩ : ∃ W, (w1.alloc (.cells #[.slice E.A E.ps.length E.c, .slice E.B E.ws.length E.d, .int .i64 2, .int .i64 0, .int .i64 0, .slice none 0 0, .slice none 0 0] 32)).alloc (.cells #[.int .u8 98] 5) = W := ⟨_, rfl⟩
  have eW : W = allocs w1 [([.slice E.A E.ps.length E.c, .slice E.B E.ws.length E.d, .int .i64 2, .int .i64 0, .int .i64 0, .slice none 0 0, .slice none 0 0], 32), ([.int .u8 98], 5)] := by rw [← hW]; rfl
  have hBW : Below w1.heap.size w1 W := by rw [eW]; exact allocs_below _ _
  have hsW : W.heap.size = w1.heap.size + 2 := by rw [eW, allocs_size]; rfl
  have ks : Blk W w1.heap.size 32 [.slice E.A E.ps.length E.c, .slice E.B E.ws.length E.d, .int .i64 2, .int .i64 0, .int .i64 0, .slice none 0 0, .slice none 0 0] := by rw [eW]; exact allocs_blk _ w1 0 rfl
  have kb : Blk W (w1.heap.size + 1) 5 [.int .u8 98] := by rw [eW]; exact allocs_blk _ w1 1 rfl
  have hcv := run_conv_lit (P := Tryz.prog) W 46 5 (w1.heap.size + 1) 1 1 1 (shape_blk kb) Tryz.underlying46 Tryz.underlying5
  obtain ⟨w2, hw2⟩ : ∃ w2, W.freeze ⟨w1.heap.size + 1, 1, none⟩ 1 = w2 := ⟨_, rfl⟩
  have hst : Stays (w1.heap.size + 1) W w2 := hw2 ▸ Stays.freeze (Nat.le_refl _)
  rw [hw2, ← hW] at hcv
  have hrd := hst.rd (RdB.of_blk (zs := [98]) kb)
  have ks2 : Blk w2 w1.heap.size 32 _ := ks.below hst.1 (Nat.lt_succ_self _)
  obtain ⟨w3, hw3⟩ : ∃ w3, w2.alloc (.cells #[.string aKey, .slice (some ⟨w1.heap.size + 1, 0, none⟩) 1 1, .slice none 0 0] 58) = w3 := ⟨_, rfl⟩
  have hB23 : Below w2.heap.size w2 w3 := hw3 ▸ (Below.refl _ w2).alloc (Nat.le_refl _) _
  have k3 : Blk w3 w2.heap.size 58 [.string aKey, .slice (some ⟨w1.heap.size + 1, 0, none⟩) 1 1, .slice none 0 0] := hw3 ▸ Blk.new w2 _ _
  have hs2 := hst.1.size
  have ks3 := ks2.below hB23 ks2.lt
  have hB13 : Below w1.heap.size w1 w3 := (hBW.trans (hst.1.mono (Nat.le_succ _))).trans (hB23.mono (by omega))
  have hIn : In w3 (some ⟨w2.heap.size, 0, none⟩) [aOb (some ⟨w1.heap.size + 1, 0, none⟩) 1] := aIn (Nat.le_refl _) (fun e => nomatch e) (rd_blk k3) (hrd.below hB23)
  have HCM := Lib.hid (commit_up (newSt E) (some ⟨w2.heap.size, 0, none⟩) 1 [aOb (some ⟨w1.heap.size + 1, 0, none⟩) 1] w3 ((Up.of_new (HN.out.below hB13)).mono (Nat.zero_le _)) (show (2 : Int) < 1099511627776 by decide) hIn)
  have HW3 := Lib.hid hw3
  have HKS := Lib.hid ks3
  have hlt3 := ks3.lt
  have hB03 : Below w.heap.size w w3 := hB1.trans (hB13.mono hB1.size)
  clear hw3 hw2 hW eW hBW hsW ks kb hst hrd ks2 k3 ks3 hIn
  go_wp2_with fail
  rw [HW3.out]
  refine HCM.out.mono ?_
  rintro e w4 ⟨h, hB4⟩
  rcases h with ⟨hfull, _⟩ | ⟨U, A', c', l, aw1, S1, rfl, hD⟩
  · exact absurd hfull (aRoom HN.out.ps _ _)
  have HD := Lib.hid hD
  have k4 := HKS.out.below hB4 HKS.out.lt
  have hB04 : Below w.heap.size w w4 := hB03.trans (hB4.mono hB03.size)
  obtain ⟨r0, r1, r2, r3, r4, r5, r6⟩ := blk7 k4
  have s0 := k4.frozen 0
  have s1 := k4.frozen 1
  have s2 := k4.frozen 2
  have s3 := k4.frozen 3
  have s4 := k4.frozen 4
  have s5 := k4.frozen 5
  have s6 := k4.frozen 6
  obtain ⟨W5, hW5, k5, hh5, hsz5, hB5⟩ := set7_facts k4 (.slice U.dev.A U.dev.ps.length U.dev.c) (.slice U.dev.B U.dev.ws.length U.dev.d) (.int .i64 U.u.t) (.int .i64 U.u.f) (.int .i64 U.u.o) (.slice U.O U.os.length U.oc) (.slice U.I U.is.length U.ic)
  unfold set7 at hW5
  have HW5 := Lib.hid hW5
  have HK5 := Lib.hid k5
  clear hD hW5 HCM k4 hcv HKS
  go_upto_region 3 with fail
  rw [HW5.out]
  have hU5 : Up w3.heap.size W5 U := ⟨HD.out.up.lies.stays (by omega) (fun k h1 h2 => hh5 k (by omega)), HD.out.up.fits, HD.out.up.st⟩
  have hB05 : Below w.heap.size w W5 := hB04.trans (hB5.mono hB1.size)
  have HO := Lib.hid (open_same U w3.heap.size W5 hU5)
  have HKD := Lib.hid HD.out.kd
  obtain ⟨r0, r1, r2, r3, r4, r5, r6⟩ := blk7 k5
  have hlt5 := k5.lt
  clear hU5 hh5 hsz5 hB5 HD HW5 HK5 HW3 k5
  go_wp2_with fail
  refine HO.out.mono ?_
  rintro e w6 ⟨T, rfl, hTS, hTU, hB6⟩
  have hkT : T.os.map kd = [(aKey, [98])] := by
    have h1 : T.os.map Ob.st = U.os.map Ob.st := congrArg PS.os hTS
    rw [kd_st h1, HKD.out]
    rfl
  obtain ⟨o, ho, hok, hoz⟩ := one_kd hkT
  have hB06 : Below w.heap.size w w6 := hB05.trans (hB6.mono hB05.size)
  have hB67 : Below w6.heap.size w6 (w6.alloc (.cells #[.slice T.dev.A T.dev.ps.length T.dev.c, .slice T.dev.B T.dev.ws.length T.dev.d, .int .i64 T.u.t, .int .i64 T.u.f, .int .i64 T.u.o, .slice T.O T.os.length T.oc, .slice T.I T.is.length T.ic] 32)) := (Below.refl _ w6).alloc (Nat.le_refl _) _
  have hgt := get_any T hTU.fits aKey (w6.alloc (.cells #[.slice T.dev.A T.dev.ps.length T.dev.c, .slice T.dev.B T.dev.ws.length T.dev.d, .int .i64 T.u.t, .int .i64 T.u.f, .int .i64 T.u.o, .slice T.O T.os.length T.oc, .slice T.I T.is.length T.ic] 32)) ((hTU.lies.below hB67).mono (Nat.zero_le _))
  have hfo : findO T.os aKey = some o := by rw [ho]; simp [findO, hok]
  rw [hfo] at hgt
  have HG := Lib.hid hgt
  have hB07 := hB06.trans (hB67.mono hB06.size)
  clear hgt hfo ho hkT hTS hTU HO r0 r1 r2 r3 r4 r5 r6 hB67
  go_wp2_with fail
  refine HG.out.mono ?_
  rintro e w8 ⟨hB8, h⟩
  rcases h with ⟨o', v, h1, rfl, hov⟩ | ⟨h1, _⟩
  rotate_left
  · cases h1
  injection h1 with h1
  subst h1
  rw [hoz] at hov
  obtain ⟨A, c, rfl, _, _, hr, _⟩ := own_any hov
  have hcv : (convert 46 9 (.slice A 1 c)).run Tryz.prog w8 = .ok (.string ⟨#[98]⟩) w8 := by
    have := conv_oct w8 A c [98] hr.1
    rw [strB] at this
    exact this
  have hB08 := hB07.trans (hB8.mono hB07.size)
  clear hov hr HG hok hoz hak
  go_wp2_with (go_at_call 12; refine (num10_any _ _).mono ?_; rintro e w9 ⟨rfl, rfl⟩)
  go_ret
  exact ⟨rfl, hB08⟩

end Go.Proofs.YtfeeejigedndcaaGreat
