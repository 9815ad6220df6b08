/-
  Commit: a store of other objects, or an error. Conditions: the lists are as they come in, an index of less than 2^44 sectors.
-/
import Derived.Test.YtfeeejigedndcaaGreatMYC
import Derived.Test.YtfeeejigedndcaaGreatMQV
namespace Go.Proofs.YtfeeejigedndcaaGreat
open Go.ChangeShapes Go.WideShapes Go.ChangeAt Go.RowKit Go.Maps
set_option maxRecDepth 100000

/-- Why a commit is refused. -/
def CmtNo (s : PS) (lp : List PO) (x : Int) : Prop :=
  (¬ s.ok ∧ x = 9) ∨ (s.ok ∧ objE lp ≠ 0 ∧ x = objE lp) ∨ (s.ok ∧ objE lp = 0 ∧ (65536 < idxSize lp ∧ x = 5 ∨ s.u.t = 1099511627776 ∧ x = 15 ∨ Full s lp ∧ x = 17))
theorem objE_vals (l : List PO) : objE l = 0 ∨ objE l = 3 ∨ objE l = 31 ∨ objE l = 5 := by
  unfold objE
  split
  · exact .inr (.inl rfl)
  · split
    · exact .inr (.inr (.inl rfl))
    · split
      · exact .inl rfl
      · exact .inr (.inr (.inr rfl))
theorem cmtRes_iff {s : PS} {lp : List PO} {e : Ending} {w w' : World} (h : CmtRes s lp e w w') : (∃ x, CmtNo s lp x ∧ e = flt x) ∨ (s.ok ∧ objE lp = 0 ∧ CmtOk s lp e w w') := by
  rcases h with ⟨h1, h2⟩ | ⟨h1, h2, h3⟩ | ⟨h1, h2, h3⟩ | h
  · exact .inl ⟨9, .inl ⟨h1, rfl⟩, h2⟩
  · exact .inl ⟨_, .inr (.inl ⟨h1, h2, rfl⟩), h3⟩
  · rcases h3 with ⟨h4, h5⟩ | ⟨h4, h5⟩ | ⟨h4, h5⟩
    · exact .inl ⟨5, .inr (.inr ⟨h1, h2, .inl ⟨h4, rfl⟩⟩), h5⟩
    · exact .inl ⟨15, .inr (.inr ⟨h1, h2, .inr (.inl ⟨h4, rfl⟩)⟩), h5⟩
    · exact .inl ⟨17, .inr (.inr ⟨h1, h2, .inr (.inr ⟨h4, rfl⟩)⟩), h5⟩
  · exact .inr h
/-- What a commit comes to, as attempt has it. -/
def CmtTry (s : PS) (lp : List PO) (W : World) (e : Ending) (w' : World) : Prop := ((∃ x, CmtNo s lp x ∧ e = flt x) ∨ (s.ok ∧ objE lp = 0 ∧ CmtOk s lp e W w')) ∧ Below W.heap.size W w'

set_option maxHeartbeats 2000000 in
theorem commit1_any (s : St) (hf : s.Fits) (A : Option Addr) (c : Nat) (ls : List Ob) (hls : ls.length ≤ 4398046511104) (hlf : ∀ o ∈ ls, o.Fits) (Bs Bl : Nat) (w : World) (hL : s.Lies 0 w) (hr : Rd w A (obCells ls)) (hrd : ∀ o ∈ ls, Rd w o.d.A (octCells o.d.zs))
    (hs : Blk w Bs 32 (stcells s.dev.A s.dev.ps.length s.dev.c s.dev.B s.dev.ws.length s.dev.d s.u.t s.u.f s.u.o s.O s.os.length s.oc s.I s.is.length s.ic)) (hl : w.cell? ⟨Bl, 0, none⟩ = some (.slice A ls.length c)) :
    Calls Tryz.prog 25 #[.pointer (some ⟨Bs, 0, none⟩), .pointer (some ⟨Bl, 0, none⟩)] w (CmtTry s.st (ls.map Ob.st) w) := by
  obtain ⟨w1, hw1⟩ : ∃ w1, w.alloc (.cells #[.slice none 0 0, .slice none 0 0, .int .i64 0, .int .i64 0, .int .i64 0, .slice none 0 0, .slice none 0 0, .slice none 0 0] 65) = w1 := ⟨_, rfl⟩
  have hB1 : Below w.heap.size w w1 := hw1 ▸ (Below.refl _ w).alloc (Nat.le_refl _) _
  have kr : Blk w1 w.heap.size 65 [.slice none 0 0, .slice none 0 0, .int .i64 0, .int .i64 0, .int .i64 0, .slice none 0 0, .slice none 0 0, .slice none 0 0] := hw1 ▸ Blk.new w _ _
  have HC := Lib.hid (commit_any s hf A c ls hls hlf w1 (hL.below hB1) (hr.below hB1) (fun o ho => (hrd o ho).below hB1))
  obtain ⟨sp, hsp⟩ : ∃ sp, s.st = sp := ⟨_, rfl⟩
  obtain ⟨lp, hlp⟩ : ∃ lp, ls.map Ob.st = lp := ⟨_, rfl⟩
  rw [hsp, hlp] at HC ⊢
  obtain ⟨x0, x1, x2, x3, x4, x5, x6⟩ := blk7 hs
  have hlt := hs.lt
  have hlt2 := World.block_lt_of_cell? w ⟨Bl, 0, none⟩ hl
  have HW := Lib.hid hw1
  have HK := Lib.hid kr
  have hs1 := kr.lt
  clear hw1 kr hs hL hr hrd hf hlf hsp hlp
  go_enter Tryz.func25, Tryz.ntmps25
  go_wp2_with fail
  rw [HW.out]
  refine HC.out.mono ?_
  rintro e w2 ⟨hres, hB2⟩
  have hB02 := hB1.trans (hB2.mono hB1.size)
  rcases cmtRes_iff hres with ⟨x, hx, rfl⟩ | ⟨hok, hob, U, A', c', l, rfl, hcm, hLi, hFi, hA, hAd, hcap⟩
  · exact ⟨rfl, .inl ⟨x, hx, rfl⟩, hB02⟩
  · have kr2 := HK.out.below hB2 HK.out.lt
    obtain ⟨r0, r1, r2, r3, r4, r5, r6, r7⟩ := blk8 kr2
    have s0 := kr2.frozen 0
    have s1 := kr2.frozen 1
    have s2 := kr2.frozen 2
    have s3 := kr2.frozen 3
    have s4 := kr2.frozen 4
    have s5 := kr2.frozen 5
    have s6 := kr2.frozen 6
    have s7 := kr2.frozen 7
    obtain ⟨W9, hW9⟩ : ∃ W9, set8 w2 w.heap.size (.slice U.dev.A U.dev.ps.length U.dev.c) (.slice U.dev.B U.dev.ws.length U.dev.d) (.int .i64 U.u.t) (.int .i64 U.u.f) (.int .i64 U.u.o) (.slice U.O U.os.length U.oc) (.slice U.I U.is.length U.ic) (.slice A' l.length c') = W9 := ⟨_, rfl⟩
    have k9 : Blk W9 w.heap.size 65 [.slice U.dev.A U.dev.ps.length U.dev.c, .slice U.dev.B U.dev.ws.length U.dev.d, .int .i64 U.u.t, .int .i64 U.u.f, .int .i64 U.u.o, .slice U.O U.os.length U.oc, .slice U.I U.is.length U.ic, .slice A' l.length c'] := hW9 ▸ set8_blk kr2
    have hh9 : ∀ k, k ≠ w.heap.size → W9.heap[k]? = w2.heap[k]? := hW9 ▸ set8_heap w2 w.heap.size (.slice U.dev.A U.dev.ps.length U.dev.c) (.slice U.dev.B U.dev.ws.length U.dev.d) (.int .i64 U.u.t) (.int .i64 U.u.f) (.int .i64 U.u.o) (.slice U.O U.os.length U.oc) (.slice U.I U.is.length U.ic) (.slice A' l.length c')
    have hs9 : W9.heap.size = w2.heap.size := hW9 ▸ set8_size w2 w.heap.size (.slice U.dev.A U.dev.ps.length U.dev.c) (.slice U.dev.B U.dev.ws.length U.dev.d) (.int .i64 U.u.t) (.int .i64 U.u.f) (.int .i64 U.u.o) (.slice U.O U.os.length U.oc) (.slice U.I U.is.length U.ic) (.slice A' l.length c')
    have hB9 : Below w.heap.size w2 W9 := hW9 ▸ set8_below w2 w.heap.size w.heap.size (.slice U.dev.A U.dev.ps.length U.dev.c) (.slice U.dev.B U.dev.ws.length U.dev.d) (.int .i64 U.u.t) (.int .i64 U.u.f) (.int .i64 U.u.o) (.slice U.O U.os.length U.oc) (.slice U.I U.is.length U.ic) (.slice A' l.length c') (Nat.le_refl _)
    dsimp only [set8] at hW9
    have HW9 := Lib.hid hW9
    have HCM := Lib.hid hcm
    have HLI := Lib.hid hLi
    have HFI := Lib.hid hFi
    have HAA := Lib.hid hA
    have HAD := Lib.hid hAd
    have HH9 := Lib.hid hh9
    clear hW9 hcm hLi hFi hA hAd hh9 hres kr2 HC x0 x1 x2 x3 x4 x5 x6
    go_wp2
    rw [HW9.out]
    obtain ⟨d0, d1, d2, d3, d4, d5, d6, d7⟩ := blk8 k9
    have hstay : ∀ k, w1.heap.size ≤ k → k < w2.heap.size → W9.heap[k]? = w2.heap[k]? := fun k h1 _ => HH9.out k (by omega)
    refine bodyPost_ret (v := stepval U.dev U.u.t U.u.f U.u.o U.O U.os.length U.oc U.I U.is.length U.ic A' l.length c') ?_ rfl ⟨.inr ⟨hok, hob, U, A', c', l, rfl, HCM.out, (HLI.out.stays (by omega) hstay).mono hB1.size, HFI.out, (HAA.out.stays (by omega) hstay).mono hB1.size, fun a ha => ((HAD.out a ha).stays (by omega) hstay).mono hB1.size, hcap⟩, hB02.trans hB9⟩
    clear hB9 hs9 hstay hcap
    simp [results, Tryz.results25, go_sem, d0, d1, d2, d3, d4, d5, d6, d7]

/-- What Commit answers. -/
def CmtAns (s : PS) (lp : List PO) (w : World) (e : Ending) (w' : World) : Prop :=
  (∃ x, CmtNo s lp x ∧ e = .returned (.tuple #[stval none 0 0 none 0 0 0 0 0 none 0 0 none 0 0, .slice none 0 0, .int .i64 x])) ∨
  (s.ok ∧ objE lp = 0 ∧ ∃ (U : St) (A : Option Addr) (c : Nat) (l : List Ac), e = .returned (.tuple #[U.val, .slice A l.length c, .int .i64 0]) ∧ Committed s lp U.st (l.map Ac.st) ∧ U.Lies w.heap.size w' ∧ U.Fits ∧ RdF w.heap.size w' A (acCells l) ∧ (∀ a ∈ l, RdF w.heap.size w' a.p.A (ocl a.p.zs)) ∧ l.length ≤ c ∧ U.dev.Caps)

set_option maxHeartbeats 2000000 in
theorem commitTop_any (s : St) (hf : s.Fits) (A : Option Addr) (c : Nat) (ls : List Ob) (hls : ls.length ≤ 4398046511104) (hlf : ∀ o ∈ ls, o.Fits) (w : World) (hL : s.Lies 0 w) (hr : Rd w A (obCells ls)) (hrd : ∀ o ∈ ls, Rd w o.d.A (octCells o.d.zs)) :
    Calls Tryz.prog 11 #[s.val, .slice A ls.length c] w fun e w' => CmtAns s.st (ls.map Ob.st) w e w' ∧ Below w.heap.size w w' := by
  have hmf : ∀ (fn : Fn) (first cap : Array Value) (w : World), (Instr.makeFunc fn first cap).run Tryz.prog w = .ok (.func fn first cap) w := fun _ _ _ _ => rfl
  obtain ⟨w1, hw1⟩ : ∃ w1, ((w.alloc (.cells #[.slice s.dev.A s.dev.ps.length s.dev.c, .slice s.dev.B s.dev.ws.length s.dev.d, .int .i64 s.u.t, .int .i64 s.u.f, .int .i64 s.u.o, .slice s.O s.os.length s.oc, .slice s.I s.is.length s.ic] 32)).alloc (.cells #[.slice A ls.length c] 22)).alloc (.cells #[.slice none 0 0, .slice none 0 0, .int .i64 0, .int .i64 0, .int .i64 0, .slice none 0 0, .slice none 0 0] 32) = w1 := ⟨_, rfl⟩
  have e1 : w1 = allocs w [([.slice s.dev.A s.dev.ps.length s.dev.c, .slice s.dev.B s.dev.ws.length s.dev.d, .int .i64 s.u.t, .int .i64 s.u.f, .int .i64 s.u.o, .slice s.O s.os.length s.oc, .slice s.I s.is.length s.ic], 32), ([.slice A ls.length c], 22), ([.slice none 0 0, .slice none 0 0, .int .i64 0, .int .i64 0, .int .i64 0, .slice none 0 0, .slice none 0 0], 32)] := by rw [← hw1]; rfl
  have hB1 : Below w.heap.size w w1 := by rw [e1]; exact allocs_below _ _
  have hs1 : w1.heap.size = w.heap.size + 3 := by rw [e1, allocs_size]; rfl
  have ks : Blk w1 w.heap.size 32 [.slice s.dev.A s.dev.ps.length s.dev.c, .slice s.dev.B s.dev.ws.length s.dev.d, .int .i64 s.u.t, .int .i64 s.u.f, .int .i64 s.u.o, .slice s.O s.os.length s.oc, .slice s.I s.is.length s.ic] := by rw [e1]; exact allocs_blk _ w 0 rfl
  have kl : Blk w1 (w.heap.size + 1) 22 [.slice A ls.length c] := by rw [e1]; exact allocs_blk _ w 1 rfl
  have kr : Blk w1 (w.heap.size + 1 + 1) 32 [.slice none 0 0, .slice none 0 0, .int .i64 0, .int .i64 0, .int .i64 0, .slice none 0 0, .slice none 0 0] := by rw [e1]; exact allocs_blk _ w 2 rfl
  have HAT := Lib.hid (attemptS_any 25 #[.pointer (some ⟨w.heap.size, 0, none⟩), .pointer (some ⟨w.heap.size + 1, 0, none⟩)] (enters_of Tryz.func25 (by kernel_rfl) rfl) w1 (CmtTry s.st (ls.map Ob.st))
    (fun W hB hs => commit1_any s hf A c ls hls hlf w.heap.size (w.heap.size + 1) W (hL.below (hB1.trans (hB.mono hB1.size))) (hr.below (hB1.trans (hB.mono hB1.size))) (fun o ho => (hrd o ho).below (hB1.trans (hB.mono hB1.size))) (ks.below hB ks.lt) ((kl.below hB kl.lt).cell 0))
    (fun W e w' hB hs h => by
      rcases h with ⟨⟨x, _, he⟩ | ⟨_, _, U, A', c', l, he, _⟩, hBw⟩
      · exact .inr ⟨x, he, hBw⟩
      · exact .inl ⟨U.dev, U.u.t, U.u.f, U.u.o, U.O, U.os.length, U.oc, U.I, U.is.length, U.ic, A', l.length, c', he, hBw⟩))
  obtain ⟨sp, hsp⟩ : ∃ sp, s.st = sp := ⟨_, rfl⟩
  obtain ⟨lp, hlp⟩ : ∃ lp, ls.map Ob.st = lp := ⟨_, rfl⟩
  rw [hsp, hlp] at HAT ⊢
  have HW1 := Lib.hid hw1
  clear hw1 e1 hf hlf hL hr hrd hsp hlp ks kl
  obtain ⟨⟨dA, ps, dc, B, ws, dd⟩, ⟨t, f, o⟩, O, os, oc, I, is, ic⟩ := s
  dsimp only [St.val, stval] at *
  go_enter Tryz.func11, Tryz.ntmps11
  go_wp2_with fail
  rw [HW1.out]
  refine HAT.out.mono ?_
  rintro e w2 ⟨W, e0, w0, hBW, hsW, ⟨hres, hBw⟩, hk, hsz, hB2, hend⟩
  rcases hres with ⟨x, hno, rfl⟩ | ⟨hok, hob, U, A', c', l, rfl, hcm, hLi, hFi, hA, hAd, hcap⟩
  · obtain rfl : e = .returned (.tuple #[stp0, .int .i64 x]) := by
      rcases hend with ⟨v, hv, _⟩ | ⟨y, hy, rfl⟩
      · cases hv
      · have : x = y := by
          have h9 := hy
          simp only [flt, fltV] at h9
          injection h9 with h9
          simp at h9
          exact h9
        rw [this]
    have HNO := Lib.hid hno
    clear hend hno hBw hBW hk HAT
    have kr2 := kr.below hB2 kr.lt
    have HKR := Lib.hid kr2
    have hB02 : Below w.heap.size w w2 := hB1.trans (hB2.mono hB1.size)
    have hB23 : Below w2.heap.size w2 (w2.alloc (.cells #[.slice none 0 0, .slice none 0 0, .int .i64 0, .int .i64 0, .int .i64 0, .slice none 0 0, .slice none 0 0, .slice none 0 0] 65)) := (Below.refl _ _).alloc (Nat.le_refl _) _
    have kr3 : Blk (w2.alloc (.cells #[.slice none 0 0, .slice none 0 0, .int .i64 0, .int .i64 0, .int .i64 0, .slice none 0 0, .slice none 0 0, .slice none 0 0] 65)) (w.heap.size + 1 + 1) 32 _ := HKR.out.alloc _
    have kp3 : Blk (w2.alloc (.cells #[.slice none 0 0, .slice none 0 0, .int .i64 0, .int .i64 0, .int .i64 0, .slice none 0 0, .slice none 0 0, .slice none 0 0] 65)) w2.heap.size 65 [.slice none 0 0, .slice none 0 0, .int .i64 0, .int .i64 0, .int .i64 0, .slice none 0 0, .slice none 0 0, .slice none 0 0] := Blk.new w2 _ _
    obtain ⟨w3, hw3⟩ : ∃ w3, w2.alloc (.cells #[.slice none 0 0, .slice none 0 0, .int .i64 0, .int .i64 0, .int .i64 0, .slice none 0 0, .slice none 0 0, .slice none 0 0] 65) = w3 := ⟨_, rfl⟩
    rw [hw3] at hB23 kr3 kp3
    have hw23 : w2.heap.size < w3.heap.size := kp3.lt
    have HW3 := Lib.hid hw3
    clear hw3 kr kr2
    go_upto_region 2 with fail
    rw [HW3.out]
    obtain ⟨r0, r1, r2, r3, r4, r5, r6⟩ := blk7 kr3
    obtain ⟨p0, p1, p2, p3, p4, p5, p6, p7⟩ := blk8 kp3
    have s0 := kr3.frozen 0
    have s1 := kr3.frozen 1
    have s2 := kr3.frozen 2
    have s3 := kr3.frozen 3
    have s4 := kr3.frozen 4
    have s5 := kr3.frozen 5
    have s6 := kr3.frozen 6
    have hlt2 : ¬ w.heap.size + 1 + 1 = w2.heap.size := by have := HKR.out.lt; omega
    have hlt3 : ¬ w2.heap.size = w.heap.size + 1 + 1 := by have := HKR.out.lt; omega
    obtain ⟨W9, hW9, k9, hh9, hsz9, hB9⟩ := set7_facts kr3 (.slice none 0 0) (.slice none 0 0) (.int .i64 0) (.int .i64 0) (.int .i64 0) (.slice none 0 0) (.slice none 0 0)
    unfold set7 at hW9
    have HW9 := Lib.hid hW9
    clear hW9
    go_region
    go_wp2
    rw [HW9.out]
    obtain ⟨d0, d1, d2, d3, d4, d5, d6⟩ := blk7 k9
    have hs02 := hB02.size
    have hR : w.heap.size + 1 + 1 < w2.heap.size := HKR.out.lt
    have hBF : Below w.heap.size w W9 := (hB02.trans (hB23.mono hs02)).trans (hB9.mono (by omega))
    clear r0 r1 r2 r3 r4 r5 r6 s0 s1 s2 s3 s4 s5 s6 p0 p1 p2 p3 p4 p5 p6 p7 hlt2 hlt3
    refine bodyPost_ret (v := .tuple #[stval none 0 0 none 0 0 0 0 0 none 0 0 none 0 0, .slice none 0 0, .int .i64 x]) ?_ rfl ⟨.inl ⟨x, HNO.out, rfl⟩, hBF.drew⟩
    clear hBF hh9 hsz9
    simp [results, Tryz.results11, go_sem, d0, d1, d2, d3, d4, d5, d6]
  · obtain rfl : e = .returned (.tuple #[stepval U.dev U.u.t U.u.f U.u.o U.O U.os.length U.oc U.I U.is.length U.ic A' l.length c', .int .i64 0]) := by
      rcases hend with ⟨v, hv, rfl⟩ | ⟨y, hy, _⟩
      · injection hv with hv
        rw [← hv]
      · cases hy
    have hst : ∀ k, W.heap.size ≤ k → k < w0.heap.size → w2.heap[k]? = w0.heap[k]? := fun k h1 h2 => hk k (by omega) h2
    have HCM := Lib.hid hcm
    have HLI := Lib.hid (hLi.stays hsz hst)
    have HFI := Lib.hid hFi
    have HAA := Lib.hid (hA.stays hsz hst)
    have HAD := Lib.hid (fun a ha => (hAd a ha).stays hsz hst)
    clear hend hcm hLi hFi hA hAd hBw hBW hk hst HAT
    have kr2 := kr.below hB2 kr.lt
    have HKR := Lib.hid kr2
    have hB02 : Below w.heap.size w w2 := hB1.trans (hB2.mono hB1.size)
    have hB23 : Below w2.heap.size w2 (w2.alloc (.cells #[.slice U.dev.A U.dev.ps.length U.dev.c, .slice U.dev.B U.dev.ws.length U.dev.d, .int .i64 U.u.t, .int .i64 U.u.f, .int .i64 U.u.o, .slice U.O U.os.length U.oc, .slice U.I U.is.length U.ic, .slice A' l.length c'] 65)) := (Below.refl _ _).alloc (Nat.le_refl _) _
    have kr3 : Blk (w2.alloc (.cells #[.slice U.dev.A U.dev.ps.length U.dev.c, .slice U.dev.B U.dev.ws.length U.dev.d, .int .i64 U.u.t, .int .i64 U.u.f, .int .i64 U.u.o, .slice U.O U.os.length U.oc, .slice U.I U.is.length U.ic, .slice A' l.length c'] 65)) (w.heap.size + 1 + 1) 32 _ := HKR.out.alloc _
    have kp3 : Blk (w2.alloc (.cells #[.slice U.dev.A U.dev.ps.length U.dev.c, .slice U.dev.B U.dev.ws.length U.dev.d, .int .i64 U.u.t, .int .i64 U.u.f, .int .i64 U.u.o, .slice U.O U.os.length U.oc, .slice U.I U.is.length U.ic, .slice A' l.length c'] 65)) w2.heap.size 65 [.slice U.dev.A U.dev.ps.length U.dev.c, .slice U.dev.B U.dev.ws.length U.dev.d, .int .i64 U.u.t, .int .i64 U.u.f, .int .i64 U.u.o, .slice U.O U.os.length U.oc, .slice U.I U.is.length U.ic, .slice A' l.length c'] := Blk.new w2 _ _
    obtain ⟨w3, hw3⟩ : ∃ w3, w2.alloc (.cells #[.slice U.dev.A U.dev.ps.length U.dev.c, .slice U.dev.B U.dev.ws.length U.dev.d, .int .i64 U.u.t, .int .i64 U.u.f, .int .i64 U.u.o, .slice U.O U.os.length U.oc, .slice U.I U.is.length U.ic, .slice A' l.length c'] 65) = w3 := ⟨_, rfl⟩
    rw [hw3] at hB23 kr3 kp3
    have hw23 : w2.heap.size < w3.heap.size := kp3.lt
    have HW3 := Lib.hid hw3
    clear hw3 kr kr2
    go_upto_region 2 with fail
    rw [HW3.out]
    obtain ⟨r0, r1, r2, r3, r4, r5, r6⟩ := blk7 kr3
    obtain ⟨p0, p1, p2, p3, p4, p5, p6, p7⟩ := blk8 kp3
    have s0 := kr3.frozen 0
    have s1 := kr3.frozen 1
    have s2 := kr3.frozen 2
    have s3 := kr3.frozen 3
    have s4 := kr3.frozen 4
    have s5 := kr3.frozen 5
    have s6 := kr3.frozen 6
    have hlt2 : ¬ w.heap.size + 1 + 1 = w2.heap.size := by have := HKR.out.lt; omega
    have hlt3 : ¬ w2.heap.size = w.heap.size + 1 + 1 := by have := HKR.out.lt; omega
    obtain ⟨W9, hW9, k9, hh9, hsz9, hB9⟩ := set7_facts kr3 (.slice U.dev.A U.dev.ps.length U.dev.c) (.slice U.dev.B U.dev.ws.length U.dev.d) (.int .i64 U.u.t) (.int .i64 U.u.f) (.int .i64 U.u.o) (.slice U.O U.os.length U.oc) (.slice U.I U.is.length U.ic)
    unfold set7 at hW9
    have HW9 := Lib.hid hW9
    clear hW9
    go_region
    go_wp2
    rw [HW9.out]
    obtain ⟨d0, d1, d2, d3, d4, d5, d6⟩ := blk7 k9
    have hs02 := hB02.size
    have hR : w.heap.size + 1 + 1 < w2.heap.size := HKR.out.lt
    have hBF : Below w.heap.size w W9 := (hB02.trans (hB23.mono hs02)).trans (hB9.mono (by omega))
    clear r0 r1 r2 r3 r4 r5 r6 s0 s1 s2 s3 s4 s5 s6 p0 p1 p2 p3 p4 p5 p6 p7 hlt2 hlt3
    have hstay : ∀ k, W.heap.size ≤ k → k < w2.heap.size → W9.drew.heap[k]? = w2.heap[k]? := fun k h1 h2 => (hh9 k (by omega)).trans (hB23.block k h2)
    have hszd : w2.heap.size ≤ W9.drew.heap.size := by show w2.heap.size ≤ W9.heap.size; omega
    have hmn : w.heap.size ≤ W.heap.size := by omega
    refine bodyPost_ret (v := .tuple #[U.val, .slice A' l.length c', .int .i64 0]) ?_ rfl ⟨.inr ⟨hok, hob, U, A', c', l, rfl, HCM.out, (HLI.out.stays hszd hstay).mono hmn, HFI.out, (HAA.out.stays hszd hstay).mono hmn, fun a ha => ((HAD.out a ha).stays hszd hstay).mono hmn, hcap⟩, hBF.drew⟩
    clear hBF hh9 hsz9 hstay hszd hcap
    simp [results, Tryz.results11, go_sem, d0, d1, d2, d3, d4, d5, d6]

end Go.Proofs.YtfeeejigedndcaaGreat
