/-
  Devices and acts that came in. No conditions.
-/
import Derived.Test.YtfeeejigedndcaaGreatMRD
import Derived.Test.YtfeeejigedndcaaGreatMDVG
namespace Go.Proofs.YtfeeejigedndcaaGreat
open Go.ChangeShapes Go.WideShapes Go.ChangeAt Go.RowKit
set_option maxRecDepth 100000

section
variable {H : Type} {enc : TypeId × Value → H} {W : World}

set_option maxRecDepth 100000 in
theorem pcells5 : Tryz.prog.cellsOf 5 = 1 := by kernel_rfl
set_option maxRecDepth 100000 in
theorem pcellsB : Tryz.prog.cellsOf 46 = 1 := by kernel_rfl
set_option maxRecDepth 100000 in
theorem pcells4 : Tryz.prog.cellsOf 4 = 1 := by kernel_rfl
set_option maxRecDepth 100000 in
theorem pcells3 : Tryz.prog.cellsOf 3 = 1 := by kernel_rfl
set_option maxRecDepth 100000 in
theorem pcellsBB : Tryz.prog.cellsOf 24 = 1 := by kernel_rfl
set_option maxRecDepth 100000 in
theorem pcellsWS : Tryz.prog.cellsOf 25 = 1 := by kernel_rfl
set_option maxRecDepth 100000 in
theorem pcellsA : Tryz.prog.cellsOf 82 = 3 := by kernel_rfl
set_option maxRecDepth 100000 in
theorem pcellsW : Tryz.prog.cellsOf 87 = 2 := by kernel_rfl
set_option maxRecDepth 100000 in
theorem pcellsD : Tryz.prog.cellsOf 27 = 2 := by kernel_rfl
set_option maxRecDepth 100000 in
theorem pbytes5 : Tryz.prog.bytesOf 5 = 1 := by kernel_rfl
set_option maxRecDepth 100000 in
theorem pbytes4 : Tryz.prog.bytesOf 4 = 1 := by kernel_rfl
set_option maxRecDepth 100000 in
theorem pbytesA : Tryz.prog.bytesOf 82 = 40 := by kernel_rfl
set_option maxRecDepth 100000 in
theorem pbytesW : Tryz.prog.bytesOf 87 = 32 := by kernel_rfl
set_option maxRecDepth 100000 in
theorem pbytesB : Tryz.prog.bytesOf 46 = 24 := by kernel_rfl

/-- A list of octets that came in. -/
structure Pt.Came (W : World) (p : Pt) : Prop where
  reads : Rd W p.A (ocl p.zs)
  len : p.zs.length ≤ 140737488351232
  octs : Octs p.zs
  cap : p.zs.length ≤ p.c
  nil : p.A = none → p.c = 0

set_option maxRecDepth 100000 in
theorem flat_one {α : Type} (f : α → Value) (l : List α) : l.flatMap (fun x => [f x]) = l.map f := by
  induction l with
  | nil => rfl
  | cons x xs ih => rw [List.flatMap_cons, ih]; rfl

set_option maxRecDepth 100000 in
theorem opens_octets : Opens enc Tryz.prog W 46 (fun p : Pt => [p.val]) (Pt.Came W) := fun fuel cs x h hf => by
  obtain ⟨A, l, c, rfl, hc, hn, hr, hg, hb⟩ := opens_slice (t := 46) Tryz.underlying46 pcells5 (by omega) (fun _ => rfl) (opens_int Tryz.underlying5) h hf
  refine ⟨⟨A, l, c⟩, rfl, ?_, ?_, fun z hz => bounds_u8 (hg z hz), hc, hn⟩
  · rw [flat_one] at hr
    exact hr
  · rw [pbytes5, Nat.mul_one] at hb
    exact hb

set_option maxRecDepth 100000 in
theorem opens_act : Opens enc Tryz.prog W 82 (fun x : Ac => [.bool x.fl, .int .i64 x.at_, x.p.val]) (fun x => x.p.Came W ∧ -9223372036854775808 ≤ x.at_ ∧ x.at_ ≤ 9223372036854775807) := fun fuel cs x h hf => by
  obtain ⟨xs, n, _, rfl, hl, hxs, hel⟩ := DataW.trod_struct Tryz.underlying82 h
  rw [pcellsA] at hl
  obtain ⟨a, b, c, rfl⟩ : ∃ a b c, cs = [a, b, c] := by
    rcases cs with _ | ⟨a, _ | ⟨b, _ | ⟨c, _ | ⟨d, t⟩⟩⟩⟩ <;> simp at hl
    exact ⟨a, b, c, rfl⟩
  have h0 : DataW.trod enc Tryz.prog W 0 (fun _ => true) true n 4 (([a, b, c].drop 0).take (Tryz.prog.cellsOf 4)) = xs[0]? := hel 0 _ rfl
  have h1 : DataW.trod enc Tryz.prog W 0 (fun _ => true) true n 3 (([a, b, c].drop 1).take (Tryz.prog.cellsOf 3)) = xs[1]? := hel 1 _ rfl
  have h2 : DataW.trod enc Tryz.prog W 0 (fun _ => true) true n 46 (([a, b, c].drop 2).take (Tryz.prog.cellsOf 46)) = xs[2]? := hel 2 _ rfl
  rw [pcells4] at h0
  rw [pcells3] at h1
  rw [pcellsB] at h2
  have hx0 : ∃ y, xs[0]? = some y := ⟨_, List.getElem?_eq_getElem (by rw [hxs]; decide)⟩
  have hx1 : ∃ y, xs[1]? = some y := ⟨_, List.getElem?_eq_getElem (by rw [hxs]; decide)⟩
  have hx2 : ∃ y, xs[2]? = some y := ⟨_, List.getElem?_eq_getElem (by rw [hxs]; decide)⟩
  obtain ⟨y0, e0⟩ := hx0
  obtain ⟨y1, e1⟩ := hx1
  obtain ⟨y2, e2⟩ := hx2
  rw [e0] at h0
  rw [e1] at h1
  rw [e2] at h2
  obtain ⟨fl, k0, _⟩ := DataW.trod_bool Tryz.underlying4 h0
  obtain ⟨at_, k1, _, hw⟩ := DataW.trod_int Tryz.underlying3 h1
  obtain ⟨p, k2, hp⟩ := opens_octets n [c] y2 h2 (fit_part Tryz.underlying82 hf (i := 2) rfl (by rw [List.getElem?_map, e2]; rfl))
  injection k0 with k0
  injection k1 with k1
  injection k2 with k2
  subst k0
  subst k1
  subst k2
  exact ⟨⟨fl, at_, p⟩, rfl, hp, bounds_i64 hw⟩

set_option maxRecDepth 100000 in
theorem opens_write : Opens enc Tryz.prog W 87 (fun x : Wt => [.int .i64 x.at_, x.p.val]) (fun x => x.p.Came W) := fun fuel cs x h hf => by
  obtain ⟨xs, n, _, rfl, hl, hxs, hel⟩ := DataW.trod_struct Tryz.underlying87 h
  rw [pcellsW] at hl
  obtain ⟨a, b, rfl⟩ : ∃ a b, cs = [a, b] := by
    rcases cs with _ | ⟨a, _ | ⟨b, _ | ⟨d, t⟩⟩⟩ <;> simp at hl
    exact ⟨a, b, rfl⟩
  have h0 : DataW.trod enc Tryz.prog W 0 (fun _ => true) true n 3 (([a, b].drop 0).take (Tryz.prog.cellsOf 3)) = xs[0]? := hel 0 _ rfl
  have h1 : DataW.trod enc Tryz.prog W 0 (fun _ => true) true n 46 (([a, b].drop 1).take (Tryz.prog.cellsOf 46)) = xs[1]? := hel 1 _ rfl
  rw [pcells3] at h0
  rw [pcellsB] at h1
  have hx0 : ∃ y, xs[0]? = some y := ⟨_, List.getElem?_eq_getElem (by rw [hxs]; decide)⟩
  have hx1 : ∃ y, xs[1]? = some y := ⟨_, List.getElem?_eq_getElem (by rw [hxs]; decide)⟩
  obtain ⟨y0, e0⟩ := hx0
  obtain ⟨y1, e1⟩ := hx1
  rw [e0] at h0
  rw [e1] at h1
  obtain ⟨at_, k0, _, _⟩ := DataW.trod_int Tryz.underlying3 h0
  obtain ⟨p, k1, hp⟩ := opens_octets n [b] y1 h1 (fit_part Tryz.underlying87 hf (i := 1) rfl (by rw [List.getElem?_map, e1]; rfl))
  injection k0 with k0
  injection k1 with k1
  subst k0
  subst k1
  exact ⟨⟨at_, p⟩, rfl, hp⟩

set_option maxRecDepth 100000 in
theorem cells_slice {v : Value} {A : Option Addr} {n c : Nat} {a0 : Option Addr} {len cap : Nat} (h0 : v = .slice a0 len cap) (h : v.cells.toList = [.slice A n c]) : v = .slice A n c := by
  subst h0
  simpa [Value.cells] using h

set_option maxRecDepth 100000 in
/-- Acts that came in. -/
theorem open_acts {r : Reach} {b0 : Nat} {v : Value} {d : DataW H} {ps : List MemPlace} (hval : Value.okWide Tryz.prog W r b0 37 v) (hd : DataW.Trod enc Tryz.prog W 0 (fun _ => true) true 37 v d ps) (hf : Fit Tryz.prog 37 d) :
    ∃ A l c, v = .slice A l.length c ∧ l.length ≤ c ∧ (A = none → c = 0) ∧ Rd W A (acCells l) ∧ (∀ x ∈ l, x.p.Came W ∧ -9223372036854775808 ≤ x.at_ ∧ x.at_ ≤ 9223372036854775807) ∧ l.length * 40 ≤ 140737488351232 := by
  obtain ⟨a0, len, cap, h0⟩ := okWide_slice Tryz.underlying37 hval
  obtain ⟨fuel, hx⟩ := hd
  obtain ⟨A, l, c, hcs, hc, hn, hr, hg, hb⟩ := opens_slice Tryz.underlying37 pcellsA (by omega) (fun _ => rfl) opens_act hx hf
  rw [pbytesA] at hb
  exact ⟨A, l, c, cells_slice h0 hcs, hc, hn, hr, hg, hb⟩

set_option maxRecDepth 100000 in
/-- Truths that came in. -/
theorem open_bools {r : Reach} {b0 : Nat} {v : Value} {d : DataW H} {ps : List MemPlace} (hval : Value.okWide Tryz.prog W r b0 51 v) (hd : DataW.Trod enc Tryz.prog W 0 (fun _ => true) true 51 v d ps) (hf : Fit Tryz.prog 51 d) :
    ∃ A l c, v = .slice A l.length c ∧ l.length ≤ c ∧ (A = none → c = 0) ∧ Rd W A (bcl l) ∧ l.length ≤ 140737488351232 := by
  obtain ⟨a0, len, cap, h0⟩ := okWide_slice Tryz.underlying51 hval
  obtain ⟨fuel, hx⟩ := hd
  obtain ⟨A, l, c, hcs, hc, hn, hr, _, hb⟩ := opens_slice Tryz.underlying51 pcells4 (by omega) (fun _ => rfl) (opens_bool Tryz.underlying4) hx hf
  rw [pbytes4, Nat.mul_one] at hb
  rw [flat_one] at hr
  exact ⟨A, l, c, cells_slice h0 hcs, hc, hn, hr, hb⟩

end
end Go.Proofs.YtfeeejigedndcaaGreat
