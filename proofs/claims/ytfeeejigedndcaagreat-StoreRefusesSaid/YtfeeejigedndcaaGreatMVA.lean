/-
  Objects that came in. No conditions.
-/
import Derived.Test.YtfeeejigedndcaaGreatMDVP
import Derived.Test.YtfeeejigedndcaaGreatMQE
import Derived.Test.YtfeeejigedndcaaGreatMRD
namespace Go.Proofs.YtfeeejigedndcaaGreat
open Go.ChangeShapes Go.WideShapes Go.ChangeAt Go.RowKit
set_option maxRecDepth 100000

section
variable {H : Type} {enc : TypeId × Value → H} {W : World}
set_option maxRecDepth 100000 in
theorem pcells9 : Tryz.prog.cellsOf 9 = 1 := by kernel_rfl
set_option maxRecDepth 100000 in
theorem pcellsI : Tryz.prog.cellsOf 30 = 1 := by kernel_rfl
set_option maxRecDepth 100000 in
theorem pcellsO : Tryz.prog.cellsOf 58 = 3 := by kernel_rfl
set_option maxRecDepth 100000 in
theorem pbytes3 : Tryz.prog.bytesOf 3 = 8 := by kernel_rfl
set_option maxRecDepth 100000 in
theorem pbytesO : Tryz.prog.bytesOf 58 = 64 := by kernel_rfl

/-- A list of numbers that came in. -/
structure IsCame (W : World) (A : Option Addr) (ns : List Int) (c : Nat) : Prop where
  rd : Rd W A (ints ns)
  cap : ns.length ≤ c
  nil : A = none → c = 0
  len : ns.length ≤ 17592186043904
theorem opens_ints : Opens enc Tryz.prog W 30 (fun p : Option Addr × List Int × Nat => [Value.slice p.1 p.2.1.length p.2.2]) (fun p => IsCame W p.1 p.2.1 p.2.2) := fun fuel cs x h hf => by
  obtain ⟨A, l, c, rfl, hc, hn, hr, hg, hb⟩ := opens_slice (t := 30) Tryz.underlying30 pcells3 (by omega) (fun _ => rfl) (opens_int Tryz.underlying3) h hf
  refine ⟨(A, l, c), rfl, ?_, hc, hn, ?_⟩
  · rw [flat_one] at hr
    exact hr
  · rw [pbytes3] at hb
    have hb2 : l.length * 8 ≤ 140737488351232 := hb
    show l.length ≤ _
    omega
theorem opens_str : Opens enc Tryz.prog W 9 (fun s : ByteArray => [Value.string s]) (fun s => s.size ≤ 140737488351232) := fun fuel cs x h hf => by
  obtain ⟨s, rfl, rfl, _⟩ := DataW.trod_string Tryz.underlying9 h
  refine ⟨s, rfl, ?_⟩
  have := hf s.data.toList.length (by simp [DataW.weights])
  show s.data.size ≤ _
  rw [← Array.length_toList]
  exact this

/-- An object that came in. -/
structure Ob.Came (W : World) (o : Ob) : Prop where
  fits : o.Fits
  data : Rd W o.d.A (octCells o.d.zs)
  at_ : Rd W o.B (ints o.ns)
theorem Ob.Came.below {W W' : World} {o : Ob} (h : o.Came W) (hB : Below W.heap.size W W') : o.Came W' := ⟨h.fits, h.data.below hB, h.at_.below hB⟩
theorem opens_object : Opens enc Tryz.prog W 58 (fun o : Ob => [.string o.key, o.d.val, .slice o.B o.ns.length o.e]) (Ob.Came W) := fun fuel cs x h hf => by
  obtain ⟨xs, n, _, rfl, hl, hxs, hel⟩ := DataW.trod_struct Tryz.underlying58 h
  rw [pcellsO] at hl
  obtain ⟨a, b, c, rfl⟩ : ∃ a b c, cs = [a, b, c] := by
    rcases cs with _ | ⟨a, _ | ⟨b, _ | ⟨c, _ | ⟨d, t⟩⟩⟩⟩ <;> simp at hl
    exact ⟨a, b, c, rfl⟩
  have h0 : DataW.trod enc Tryz.prog W 0 (fun _ => true) true n 9 (([a, b, c].drop 0).take (Tryz.prog.cellsOf 9)) = xs[0]? := hel 0 _ rfl
  have h1 : DataW.trod enc Tryz.prog W 0 (fun _ => true) true n 46 (([a, b, c].drop 1).take (Tryz.prog.cellsOf 46)) = xs[1]? := hel 1 _ rfl
  have h2 : DataW.trod enc Tryz.prog W 0 (fun _ => true) true n 30 (([a, b, c].drop 2).take (Tryz.prog.cellsOf 30)) = xs[2]? := hel 2 _ rfl
  rw [pcells9] at h0
  rw [pcellsB] at h1
  rw [pcellsI] at h2
  have hx0 : ∃ y, xs[0]? = some y := ⟨_, List.getElem?_eq_getElem (by rw [hxs]; decide)⟩
  have hx1 : ∃ y, xs[1]? = some y := ⟨_, List.getElem?_eq_getElem (by rw [hxs]; decide)⟩
  have hx2 : ∃ y, xs[2]? = some y := ⟨_, List.getElem?_eq_getElem (by rw [hxs]; decide)⟩
  obtain ⟨y0, e0⟩ := hx0
  obtain ⟨y1, e1⟩ := hx1
  obtain ⟨y2, e2⟩ := hx2
  rw [e0] at h0
  rw [e1] at h1
  rw [e2] at h2
  obtain ⟨s, k0, hs⟩ := opens_str n [a] y0 h0 (fit_part Tryz.underlying58 hf (i := 0) rfl (by rw [List.getElem?_map, e0]; rfl))
  obtain ⟨p, k1, hp⟩ := opens_octets n [b] y1 h1 (fit_part Tryz.underlying58 hf (i := 1) rfl (by rw [List.getElem?_map, e1]; rfl))
  obtain ⟨q, k2, hq⟩ := opens_ints n [c] y2 h2 (fit_part Tryz.underlying58 hf (i := 2) rfl (by rw [List.getElem?_map, e2]; rfl))
  injection k0 with k0
  injection k1 with k1
  injection k2 with k2
  subst k0
  subst k1
  subst k2
  exact ⟨⟨s, ⟨p.A, p.zs, p.c⟩, q.1, q.2.1, q.2.2⟩, rfl, ⟨by unfold maxLen; show s.size ≤ _; omega, hp.len, hp.cap, hp.nil, by have := hq.len; show q.2.1.length ≤ _; omega, hq.cap, hq.nil, hp.octs⟩, hp.reads, hq.rd⟩

/-- Objects that came in. -/
theorem open_objects {r : Reach} {b0 : Nat} {v : Value} {d : DataW H} {ps : List MemPlace} (hval : Value.okWide Tryz.prog W r b0 22 v) (hd : DataW.Trod enc Tryz.prog W 0 (fun _ => true) true 22 v d ps) (hf : Fit Tryz.prog 22 d) :
    ∃ A c l, v = .slice A l.length c ∧ l.length ≤ c ∧ (A = none → c = 0) ∧ Rd W A (obCells l) ∧ (∀ o ∈ l, o.Came W) ∧ l.length ≤ 2199023255488 := by
  obtain ⟨a0, len, cap, h0⟩ := okWide_slice Tryz.underlying22 hval
  obtain ⟨fuel, hx⟩ := hd
  obtain ⟨A, l, c, hcs, hc, hn, hr, hg, hb⟩ := opens_slice Tryz.underlying22 pcellsO (by omega) (fun _ => rfl) opens_object hx hf
  rw [pbytesO] at hb
  have hb2 : l.length * 64 ≤ 140737488351232 := hb
  exact ⟨A, c, l, cells_slice h0 hcs, hc, hn, hr, hg, by omega⟩

end
end Go.Proofs.YtfeeejigedndcaaGreat

namespace Go.Proofs.YtfeeejigedndcaaGreat
open Go.ChangeShapes Go.WideShapes Go.ChangeAt Go.RowKit
set_option maxRecDepth 100000

section
variable {H : Type} {enc : TypeId × Value → H} {W : World}
set_option maxRecDepth 100000 in
theorem pcellsU : Tryz.prog.cellsOf 29 = 3 := by kernel_rfl
set_option maxRecDepth 100000 in
theorem pcellsOS : Tryz.prog.cellsOf 22 = 1 := by kernel_rfl
set_option maxRecDepth 100000 in
theorem pcellsS : Tryz.prog.cellsOf 32 = 7 := by kernel_rfl

/-- A device that came in. -/
structure DvCame (W : World) (D : Dv) : Prop where
  lies : D.Lies 0 W
  fits : D.Fits
theorem opens_device : Opens enc Tryz.prog W 27 (fun D : Dv => [.slice D.A D.ps.length D.c, .slice D.B D.ws.length D.d]) (DvCame W) := fun fuel cs x h hf => by
  obtain ⟨xs, n, _, rfl, hl, hxs, hel⟩ := DataW.trod_struct Tryz.underlying27 h
  rw [pcellsD] at hl
  obtain ⟨a, b, rfl⟩ : ∃ a b, cs = [a, b] := by
    rcases cs with _ | ⟨a, _ | ⟨b, _ | ⟨d, t⟩⟩⟩ <;> simp at hl
    exact ⟨a, b, rfl⟩
  have h0 : DataW.trod enc Tryz.prog W 0 (fun _ => true) true n 24 (([a, b].drop 0).take (Tryz.prog.cellsOf 24)) = xs[0]? := hel 0 _ rfl
  have h1 : DataW.trod enc Tryz.prog W 0 (fun _ => true) true n 25 (([a, b].drop 1).take (Tryz.prog.cellsOf 25)) = xs[1]? := hel 1 _ rfl
  rw [pcellsBB] at h0
  rw [pcellsWS] at h1
  have hx0 : ∃ y, xs[0]? = some y := ⟨_, List.getElem?_eq_getElem (by rw [hxs]; decide)⟩
  have hx1 : ∃ y, xs[1]? = some y := ⟨_, List.getElem?_eq_getElem (by rw [hxs]; decide)⟩
  obtain ⟨y0, e0⟩ := hx0
  obtain ⟨y1, e1⟩ := hx1
  rw [e0] at h0
  rw [e1] at h1
  obtain ⟨A, l, c, hcs, hc, _, hr, hg, hb⟩ := opens_slice (t := 24) Tryz.underlying24 pcellsB (by omega) (fun _ => rfl) opens_octets h0 (fit_part Tryz.underlying27 hf (i := 0) rfl (by rw [List.getElem?_map, e0]; rfl))
  obtain ⟨B, ws, d, hcs', hc', _, hr', hg', hb'⟩ := opens_slice (t := 25) Tryz.underlying25 pcellsW (by omega) (fun _ => rfl) opens_write h1 (fit_part Tryz.underlying27 hf (i := 1) rfl (by rw [List.getElem?_map, e1]; rfl))
  injection hcs with hcs
  injection hcs' with hcs'
  subst hcs
  subst hcs'
  rw [pbytesB] at hb
  rw [pbytesW] at hb'
  rw [flat_one] at hr
  have g1 : l.length * 24 ≤ 140737488351232 := hb
  have g2 : ws.length * 32 ≤ 140737488351232 := hb'
  exact ⟨⟨A, l, c, B, ws, d⟩, rfl, ⟨RdF.zero hr, fun p hp => RdF.zero (hg p hp).reads, RdF.zero hr', fun x hx => RdF.zero (hg' x hx).reads⟩,
    ⟨by show l.length ≤ _; omega, by show ws.length ≤ _; omega, fun p hp => (hg p hp).len, fun x hx => (hg' x hx).len⟩⟩
theorem opens_uber : Opens enc Tryz.prog W 29 (fun u : Ub => [.int .i64 u.t, .int .i64 u.f, .int .i64 u.o]) (fun _ => True) := fun fuel cs x h hf => by
  obtain ⟨xs, n, _, rfl, hl, hxs, hel⟩ := DataW.trod_struct Tryz.underlying29 h
  rw [pcellsU] at hl
  obtain ⟨a, b, c, rfl⟩ : ∃ a b c, cs = [a, b, c] := by
    rcases cs with _ | ⟨a, _ | ⟨b, _ | ⟨c, _ | ⟨d, t⟩⟩⟩⟩ <;> simp at hl
    exact ⟨a, b, c, rfl⟩
  have h0 : DataW.trod enc Tryz.prog W 0 (fun _ => true) true n 3 (([a, b, c].drop 0).take (Tryz.prog.cellsOf 3)) = xs[0]? := hel 0 _ rfl
  have h1 : DataW.trod enc Tryz.prog W 0 (fun _ => true) true n 3 (([a, b, c].drop 1).take (Tryz.prog.cellsOf 3)) = xs[1]? := hel 1 _ rfl
  have h2 : DataW.trod enc Tryz.prog W 0 (fun _ => true) true n 3 (([a, b, c].drop 2).take (Tryz.prog.cellsOf 3)) = xs[2]? := hel 2 _ rfl
  rw [pcells3] at h0 h1 h2
  have hx0 : ∃ y, xs[0]? = some y := ⟨_, List.getElem?_eq_getElem (by rw [hxs]; decide)⟩
  have hx1 : ∃ y, xs[1]? = some y := ⟨_, List.getElem?_eq_getElem (by rw [hxs]; decide)⟩
  have hx2 : ∃ y, xs[2]? = some y := ⟨_, List.getElem?_eq_getElem (by rw [hxs]; decide)⟩
  obtain ⟨y0, e0⟩ := hx0
  obtain ⟨y1, e1⟩ := hx1
  obtain ⟨y2, e2⟩ := hx2
  rw [e0] at h0
  rw [e1] at h1
  rw [e2] at h2
  obtain ⟨i, k0, _⟩ := DataW.trod_int Tryz.underlying3 h0
  obtain ⟨j, k1, _⟩ := DataW.trod_int Tryz.underlying3 h1
  obtain ⟨k, k2, _⟩ := DataW.trod_int Tryz.underlying3 h2
  injection k0 with k0
  injection k1 with k1
  injection k2 with k2
  subst k0
  subst k1
  subst k2
  exact ⟨⟨i, j, k⟩, rfl, trivial⟩

/-- A store that came in. -/
structure StCame (W : World) (s : St) : Prop where
  lies : s.Lies 0 W
  fits : s.Fits
theorem open_store {r : Reach} {b0 : Nat} {v : Value} {d : DataW H} {ps : List MemPlace} (hval : Value.okWide Tryz.prog W r b0 32 v) (hd : DataW.Trod enc Tryz.prog W 0 (fun _ => true) true 32 v d ps) (hf : Fit Tryz.prog 32 d) :
    ∃ s : St, v = s.val ∧ StCame W s := by
  obtain ⟨cs, rfl, hsz⟩ := okWide_struct Tryz.underlying32 hval
  rw [pcellsS] at hsz
  obtain ⟨fuel, hx⟩ := hd
  have hcs : (Value.agg cs).cells.toList = cs.toList := rfl
  rw [hcs] at hx
  obtain ⟨xs, n, _, e, hl, hxs, hel⟩ := DataW.trod_struct Tryz.underlying32 hx
  injection e with e _
  subst e
  obtain ⟨a, b, c, d', e', f, g, hcl⟩ : ∃ a b c d' e' f g, cs = #[a, b, c, d', e', f, g] := by
    obtain ⟨l⟩ := cs
    rcases l with _ | ⟨a, _ | ⟨b, _ | ⟨c, _ | ⟨d, _ | ⟨e, _ | ⟨f, _ | ⟨g, _ | ⟨x, t⟩⟩⟩⟩⟩⟩⟩⟩ <;> simp at hsz
    exact ⟨a, b, c, d, e, f, g, rfl⟩
  subst hcl
  have h0 : DataW.trod enc Tryz.prog W 0 (fun _ => true) true n 27 (([a, b, c, d', e', f, g].drop 0).take (Tryz.prog.cellsOf 27)) = xs[0]? := hel 0 _ rfl
  have h1 : DataW.trod enc Tryz.prog W 0 (fun _ => true) true n 29 (([a, b, c, d', e', f, g].drop 2).take (Tryz.prog.cellsOf 29)) = xs[1]? := hel 1 _ rfl
  have h2 : DataW.trod enc Tryz.prog W 0 (fun _ => true) true n 22 (([a, b, c, d', e', f, g].drop 5).take (Tryz.prog.cellsOf 22)) = xs[2]? := hel 2 _ rfl
  have h3 : DataW.trod enc Tryz.prog W 0 (fun _ => true) true n 30 (([a, b, c, d', e', f, g].drop 6).take (Tryz.prog.cellsOf 30)) = xs[3]? := hel 3 _ rfl
  rw [pcellsD] at h0
  rw [pcellsU] at h1
  rw [pcellsOS] at h2
  rw [pcellsI] at h3
  have hx0 : ∃ y, xs[0]? = some y := ⟨_, List.getElem?_eq_getElem (by rw [hxs]; decide)⟩
  have hx1 : ∃ y, xs[1]? = some y := ⟨_, List.getElem?_eq_getElem (by rw [hxs]; decide)⟩
  have hx2 : ∃ y, xs[2]? = some y := ⟨_, List.getElem?_eq_getElem (by rw [hxs]; decide)⟩
  have hx3 : ∃ y, xs[3]? = some y := ⟨_, List.getElem?_eq_getElem (by rw [hxs]; decide)⟩
  obtain ⟨y0, e0⟩ := hx0
  obtain ⟨y1, e1⟩ := hx1
  obtain ⟨y2, e2⟩ := hx2
  obtain ⟨y3, e3⟩ := hx3
  rw [e0] at h0
  rw [e1] at h1
  rw [e2] at h2
  rw [e3] at h3
  obtain ⟨D, k0, hD⟩ := opens_device n [a, b] y0 h0 (fit_part Tryz.underlying32 hf (i := 0) rfl (by rw [List.getElem?_map, e0]; rfl))
  obtain ⟨u, k1, _⟩ := opens_uber n [c, d', e'] y1 h1 (fit_part Tryz.underlying32 hf (i := 1) rfl (by rw [List.getElem?_map, e1]; rfl))
  obtain ⟨O, os, oc, k2, _, _, hr, hg, hb⟩ := opens_slice (t := 22) Tryz.underlying22 pcellsO (by omega) (fun _ => rfl) opens_object h2 (fit_part Tryz.underlying32 hf (i := 2) rfl (by rw [List.getElem?_map, e2]; rfl))
  obtain ⟨q, k3, hq⟩ := opens_ints n [g] y3 h3 (fit_part Tryz.underlying32 hf (i := 3) rfl (by rw [List.getElem?_map, e3]; rfl))
  injection k0 with k0 k0'
  injection k0' with k0' _
  injection k1 with k1 k1'
  injection k1' with k1' k1''
  injection k1'' with k1'' _
  injection k2 with k2
  injection k3 with k3
  subst k0 k0' k1 k1' k1'' k2 k3
  rw [pbytesO] at hb
  have g1 : os.length * 64 ≤ 140737488351232 := hb
  exact ⟨⟨D, u, O, os, oc, q.1, q.2.1, q.2.2⟩, rfl, ⟨hD.lies, RdF.zero hr, fun o ho => RdF.zero (hg o ho).data, fun o ho => RdF.zero (hg o ho).at_, RdF.zero hq.rd⟩,
    ⟨hD.fits, by show os.length ≤ _; omega, fun o ho => (hg o ho).fits, hq.len⟩⟩

end
end Go.Proofs.YtfeeejigedndcaaGreat
