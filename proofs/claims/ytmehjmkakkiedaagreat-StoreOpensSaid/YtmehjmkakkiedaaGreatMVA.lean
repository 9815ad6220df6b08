/-
  Objects that came in. No conditions.
-/
import Derived.Test.YtmehjmkakkiedaaGreatMDVP
import Derived.Test.YtmehjmkakkiedaaGreatMQE
namespace Go.Proofs.YtmehjmkakkiedaaGreat
open Go.ChangeShapes Go.WideShapes Go.ChangeAt Go.RowKit
set_option maxRecDepth 100000

section
variable {H : Type} {enc : TypeId × Value → H} {W : World}
set_option maxRecDepth 100000 in
theorem pcells9 : Tryz.prog.cellsOf 9 = 1 := by kernel_rfl
set_option maxRecDepth 100000 in
theorem pcellsI : Tryz.prog.cellsOf 30 = 1 := by kernel_rfl
set_option maxRecDepth 100000 in
theorem pcellsO : Tryz.prog.cellsOf 58 = 3 := by kernel_rfl
set_option maxRecDepth 100000 in
theorem pbytes3 : Tryz.prog.bytesOf 3 = 8 := by kernel_rfl
set_option maxRecDepth 100000 in
theorem pbytesO : Tryz.prog.bytesOf 58 = 64 := by kernel_rfl

/-- A list of numbers that came in. -/
structure IsCame (W : World) (A : Option Addr) (ns : List Int) (c : Nat) : Prop where
  rd : Rd W A (ints ns)
  cap : ns.length ≤ c
  nil : A = none → c = 0
  len : ns.length ≤ 17592186043904
theorem opens_ints : Opens enc Tryz.prog W 30 (fun p : Option Addr × List Int × Nat => [Value.slice p.1 p.2.1.length p.2.2]) (fun p => IsCame W p.1 p.2.1 p.2.2) := fun fuel cs x h hf => by
  obtain ⟨A, l, c, rfl, hc, hn, hr, hg, hb⟩ := opens_slice (t := 30) Tryz.underlying30 pcells3 (by omega) (fun _ => rfl) (opens_int Tryz.underlying3) h hf
  refine ⟨(A, l, c), rfl, ?_, hc, hn, ?_⟩
  · rw [flat_one] at hr
    exact hr
  · rw [pbytes3] at hb
    have hb2 : l.length * 8 ≤ 140737488351232 := hb
    show l.length ≤ _
    omega
theorem opens_str : Opens enc Tryz.prog W 9 (fun s : ByteArray => [Value.string s]) (fun s => s.size ≤ 140737488351232) := fun fuel cs x h hf => by
  obtain ⟨s, rfl, rfl, _⟩ := DataW.trod_string Tryz.underlying9 h
  refine ⟨s, rfl, ?_⟩
  have := hf s.data.toList.length (by simp [DataW.weights])
  show s.data.size ≤ _
  rw [← Array.length_toList]
  exact this

/-- An object that came in. -/
structure Ob.Came (W : World) (o : Ob) : Prop where
  fits : o.Fits
  data : Rd W o.d.A (octCells o.d.zs)
  at_ : Rd W o.B (ints o.ns)
theorem Ob.Came.below {W W' : World} {o : Ob} (h : o.Came W) (hB : Below W.heap.size W W') : o.Came W' := ⟨h.fits, h.data.below hB, h.at_.below hB⟩
theorem opens_object : Opens enc Tryz.prog W 58 (fun o : Ob => [.string o.key, o.d.val, .slice o.B o.ns.length o.e]) (Ob.Came W) := fun fuel cs x h hf => by
  obtain ⟨xs, n, _, rfl, hl, hxs, hel⟩ := DataW.trod_struct Tryz.underlying58 h
  rw [pcellsO] at hl
  obtain ⟨a, b, c, rfl⟩ : ∃ a b c, cs = [a, b, c] := by
    rcases cs with _ | ⟨a, _ | ⟨b, _ | ⟨c, _ | ⟨d, t⟩⟩⟩⟩ <;> simp at hl
    exact ⟨a, b, c, rfl⟩
  have h0 : DataW.trod enc Tryz.prog W 0 (fun _ => true) true n 9 (([a, b, c].drop 0).take (Tryz.prog.cellsOf 9)) = xs[0]? := hel 0 _ rfl
  have h1 : DataW.trod enc Tryz.prog W 0 (fun _ => true) true n 46 (([a, b, c].drop 1).take (Tryz.prog.cellsOf 46)) = xs[1]? := hel 1 _ rfl
  have h2 : DataW.trod enc Tryz.prog W 0 (fun _ => true) true n 30 (([a, b, c].drop 2).take (Tryz.prog.cellsOf 30)) = xs[2]? := hel 2 _ rfl
  rw [pcells9] at h0
  rw [pcellsB] at h1
  rw [pcellsI] at h2
  have hx0 : ∃ y, xs[0]? = some y := ⟨_, List.getElem?_eq_getElem (by rw [hxs]; decide)⟩
  have hx1 : ∃ y, xs[1]? = some y := ⟨_, List.getElem?_eq_getElem (by rw [hxs]; decide)⟩
  have hx2 : ∃ y, xs[2]? = some y := ⟨_, List.getElem?_eq_getElem (by rw [hxs]; decide)⟩
  obtain ⟨y0, e0⟩ := hx0
  obtain ⟨y1, e1⟩ := hx1
  obtain ⟨y2, e2⟩ := hx2
  rw [e0] at h0
  rw [e1] at h1
  rw [e2] at h2
  obtain ⟨s, k0, hs⟩ := opens_str n [a] y0 h0 (fit_part Tryz.underlying58 hf (i := 0) rfl (by rw [List.getElem?_map, e0]; rfl))
  obtain ⟨p, k1, hp⟩ := opens_octets n [b] y1 h1 (fit_part Tryz.underlying58 hf (i := 1) rfl (by rw [List.getElem?_map, e1]; rfl))
  obtain ⟨q, k2, hq⟩ := opens_ints n [c] y2 h2 (fit_part Tryz.underlying58 hf (i := 2) rfl (by rw [List.getElem?_map, e2]; rfl))
  injection k0 with k0
  injection k1 with k1
  injection k2 with k2
  subst k0
  subst k1
  subst k2
  exact ⟨⟨s, ⟨p.A, p.zs, p.c⟩, q.1, q.2.1, q.2.2⟩, rfl, ⟨by unfold maxLen; show s.size ≤ _; omega, hp.len, hp.cap, hp.nil, by have := hq.len; show q.2.1.length ≤ _; omega, hq.cap, hq.nil, hp.octs⟩, hp.reads, hq.rd⟩

/-- Objects that came in. -/
theorem open_objects {r : Reach} {b0 : Nat} {v : Value} {d : DataW H} {ps : List MemPlace} (hval : Value.okWide Tryz.prog W r b0 22 v) (hd : DataW.Trod enc Tryz.prog W 0 (fun _ => true) true 22 v d ps) (hf : Fit Tryz.prog 22 d) :
    ∃ A c l, v = .slice A l.length c ∧ l.length ≤ c ∧ (A = none → c = 0) ∧ Rd W A (obCells l) ∧ (∀ o ∈ l, o.Came W) ∧ l.length ≤ 2199023255488 := by
  obtain ⟨a0, len, cap, h0⟩ := okWide_slice Tryz.underlying22 hval
  obtain ⟨fuel, hx⟩ := hd
  obtain ⟨A, l, c, hcs, hc, hn, hr, hg, hb⟩ := opens_slice Tryz.underlying22 pcellsO (by omega) (fun _ => rfl) opens_object hx hf
  rw [pbytesO] at hb
  have hb2 : l.length * 64 ≤ 140737488351232 := hb
  exact ⟨A, c, l, cells_slice h0 hcs, hc, hn, hr, hg, by omega⟩

end
end Go.Proofs.YtmehjmkakkiedaaGreat
