/-
  Properties that came in; the page's example. No conditions.
-/
import Derived.Test.YteaohmlbddgfgaaEJ
import Derived.Test.YteaohmlbddgfgaaTX
namespace Go.Proofs.Yteaohmlbddgfgaa
open Go.ChangeShapes Go.WideShapes Go.ChangeAt Go.RowKit
set_option maxRecDepth 100000

section
variable {H : Type} {enc : TypeId × Value → H} {W : World}
set_option maxRecDepth 100000 in
theorem kcPr : Try.prog.cellsOf 50 = 2 := by kernel_rfl
set_option maxRecDepth 100000 in
theorem kbPr : Try.prog.bytesOf 50 = 32 := by kernel_rfl
set_option maxRecDepth 100000 in
theorem kcStr : Try.prog.cellsOf 9 = 1 := by kernel_rfl
set_option maxRecDepth 100000 in
theorem kbStr : Try.prog.bytesOf 9 = 16 := by kernel_rfl
/-- A property that came in. -/
def goodPr (x : Pr) : Prop := x.1.size ≤ 140737488351232 ∧ x.2.size ≤ 140737488351232
theorem opensPr : Opens enc Try.prog W 50 prC goodPr := fun fuel cs x h hf => by
  obtain ⟨xs, n, _, rfl, hl, hxs, hel⟩ := DataW.trod_struct Try.underlying50 h
  rw [kcPr] at hl
  obtain ⟨c0, c1, rfl⟩ : ∃ c0 c1, cs = [c0, c1] := by
    rcases cs with _ | ⟨a, _ | ⟨b, _ | ⟨d, t⟩⟩⟩ <;> simp at hl
    exact ⟨a, b, rfl⟩
  have h0 : DataW.trod enc Try.prog W 0 (fun _ => true) true n 9 (([c0, c1].drop 0).take (Try.prog.cellsOf 9)) = xs[0]? := hel 0 _ rfl
  have h1 : DataW.trod enc Try.prog W 0 (fun _ => true) true n 9 (([c0, c1].drop 1).take (Try.prog.cellsOf 9)) = xs[1]? := hel 1 _ rfl
  rw [kcStr] at h0 h1
  obtain ⟨y0, e0⟩ : ∃ y, xs[0]? = some y := ⟨_, List.getElem?_eq_getElem (by rw [hxs]; decide)⟩
  obtain ⟨y1, e1⟩ : ∃ y, xs[1]? = some y := ⟨_, List.getElem?_eq_getElem (by rw [hxs]; decide)⟩
  rw [e0] at h0
  rw [e1] at h1
  obtain ⟨a0, k0, g0⟩ := opensTx Try.underlying9 n [c0] y0 h0 (fit_part Try.underlying50 hf (i := 0) rfl (by rw [List.getElem?_map, e0]; rfl))
  obtain ⟨a1, k1, g1⟩ := opensTx Try.underlying9 n [c1] y1 h1 (fit_part Try.underlying50 hf (i := 1) rfl (by rw [List.getElem?_map, e1]; rfl))
  injection k0 with k0
  injection k1 with k1
  subst k0
  subst k1
  exact ⟨(a0, a1), rfl, g0, g1⟩
/-- A list of properties came in. -/
abbrev CameP (W : World) (s : Sl Pr) : Prop := SlGood W prC goodPr 32 s
theorem open_props {r : Reach} {b0 : Nat} {v : Value} {d : DataW H} {ps : List MemPlace} (hval : Value.okWide Try.prog W r b0 22 v) (hd : DataW.Trod enc Try.prog W 0 (fun _ => true) true 22 v d ps) (hf : Fit Try.prog 22 d) :
    ∃ s : Sl Pr, v = s.val ∧ CameP W s :=
  argSl Try.underlying22 (opensSl Try.underlying22 kcPr kbPr (by decide) (fun _ => rfl) opensPr) hval hd hf
/-- A list of texts came in. -/
abbrev CameT (W : World) (s : Sl ByteArray) : Prop := SlGood W (fun s => [Value.string s]) (fun s => s.size ≤ 140737488351232) 16 s
theorem open_strs {r : Reach} {b0 : Nat} {v : Value} {d : DataW H} {ps : List MemPlace} (hval : Value.okWide Try.prog W r b0 37 v) (hd : DataW.Trod enc Try.prog W 0 (fun _ => true) true 37 v d ps) (hf : Fit Try.prog 37 d) :
    ∃ s : Sl ByteArray, v = s.val ∧ CameT W s :=
  argSl Try.underlying37 (opensSl Try.underlying37 kcStr kbStr (by decide) (fun _ => rfl) (opensTx Try.underlying9)) hval hd hf
end
theorem CameP.len {W : World} {s : Sl Pr} (h : CameP W s) : s.l.length ≤ 4398046510976 := by have := SlGood.len h; omega
theorem CameP.sz {W : World} {s : Sl Pr} (h : CameP W s) : ∀ x ∈ s.l, x.1.size ≤ 140737488351232 ∧ x.2.size ≤ 140737488351232 := SlGood.el h
theorem CameP.rdp {W : World} {s : Sl Pr} (h : CameP W s) : Rd W s.A (prs s.l) := SlGood.rd h
theorem CameP.each {W : World} {s : Sl Pr} (h : CameP W s) {W' : World} (hB : Below W.heap.size W W') : Rd W' s.A (prs s.l) ∧ s.l.length ≤ 4398046511103 ∧ ∀ x ∈ s.l, x.1.size ≤ 140737488351232 ∧ x.2.size ≤ 140737488351232 := ⟨h.rdp.below hB, by have := h.len; omega, h.sz⟩
theorem CameT.len16 {W : World} {s : Sl ByteArray} (h : CameT W s) : s.l.length ≤ 8796093021952 := by have := SlGood.len h; omega
theorem CameT.rds {W : World} {s : Sl ByteArray} (h : CameT W s) : RdS W s.A s.l := by
  have := SlGood.rd h
  have e : s.l.flatMap (fun s => [Value.string s]) = s.l.map Value.string := by
    generalize s.l = l
    induction l with
    | nil => rfl
    | cons x l ih => rw [List.flatMap_cons, ih]; rfl
  rwa [e] at this

theorem num12_any (n : Int) (w : World) : Calls Try.prog 14 #[.int .i64 n] w fun e w' => e = .returned (.int .i64 n) ∧ w' = w := by
  go_enter Try.func14, Try.ntmps14
  go_wp2
  go_ret
  exact ⟨rfl, rfl⟩

def tA : ByteArray := ⟨#[97]⟩
def t1 : ByteArray := ⟨#[49]⟩
def t2 : ByteArray := ⟨#[50]⟩
set_option maxRecDepth 100000 in
theorem overEx : overE [[(tA, t1)], [(tA, t2)]] = 0 ∧ overR [[(tA, t1)], [(tA, t2)]] = [(tA, t2)] := by decide +kernel

set_option maxHeartbeats 1000000 in
theorem alive12_any (w : World) : Calls Try.prog 21 #[] w fun e w' => e = .returned (.bool true) ∧ Below w.heap.size w w' := by
  obtain ⟨w1, hw1⟩ : ∃ w1, w.alloc (.cells #[.string tA, .string t1] 50) = w1 := ⟨_, rfl⟩
  have hB1 : Below w.heap.size w w1 := hw1 ▸ (Below.refl _ w).alloc (Nat.le_refl _) _
  have k1 : Blk w1 w.heap.size 50 [.string tA, .string t1] := hw1 ▸ Blk.new w _ _
  have hs1 : w.heap.size + 1 = w1.heap.size := by rw [← hw1, World.size_alloc]
  obtain ⟨w2, hw2⟩ : ∃ w2, w1.alloc (.cells #[.string tA, .string t2] 50) = w2 := ⟨_, rfl⟩
  have hB2 : Below w1.heap.size w1 w2 := hw2 ▸ (Below.refl _ w1).alloc (Nat.le_refl _) _
  have k2 : Blk w2 w1.heap.size 50 [.string tA, .string t2] := hw2 ▸ Blk.new w1 _ _
  have hs2 : w1.heap.size + 1 = w2.heap.size := by rw [← hw2, World.size_alloc]
  have k12 := k1.below hB2 k1.lt
  have HOV := over_row [⟨some ⟨w.heap.size, 0, none⟩, [(tA, t1)], 1⟩, ⟨some ⟨w1.heap.size, 0, none⟩, [(tA, t2)], 1⟩] 2 rfl (by omega) w2 (fun s hs => by
    rcases List.mem_cons.1 hs with rfl | hs
    · exact ⟨fun _ => ⟨w.heap.size, 0, rfl, k12.lt, fun j u hu => by rw [Nat.zero_add, k12.cell j]; exact hu⟩, by simp, fun x hx => by simp at hx; subst hx; decide⟩
    · simp at hs
      subst hs
      exact ⟨fun _ => ⟨w1.heap.size, 0, rfl, k2.lt, fun j u hu => by rw [Nat.zero_add, k2.cell j]; exact hu⟩, by simp, fun x hx => by simp at hx; subst hx; decide⟩) 22
  have HOV' : Hid (∀ b W', b = w2.heap.size → W' = w2.alloc (.cells #[.slice (some ⟨w.heap.size, 0, none⟩) 1 1, .slice (some ⟨w1.heap.size, 0, none⟩) 1 1] 22) → Calls Try.prog 22 #[.slice (some ⟨b, 0, none⟩) 2 2] W' fun e w' => ∃ v, e = .returned (ansP v 0) ∧ ownP w' w2.heap.size v [(tA, t2)] ∧ Below w2.heap.size w2 w') := Lib.hid fun b W' hb hW => by
    subst hb hW
    refine HOV.mono ?_
    rintro e w' ⟨v, rfl, hv, hB⟩
    have h1 := overEx.1
    have h2 := overEx.2
    rw [show List.map (fun x : Sl Pr => x.l) [⟨some ⟨w.heap.size, 0, none⟩, [(tA, t1)], 1⟩, ⟨some ⟨w1.heap.size, 0, none⟩, [(tA, t2)], 1⟩] = [[(tA, t1)], [(tA, t2)]] from rfl] at hv ⊢
    rw [h1]
    rw [h2] at hv
    exact ⟨v, rfl, hv, hB⟩
  have hB02 : Below w.heap.size w w2 := hB1.trans (hB2.mono hB1.size)
  have hA : (⟨#[97]⟩ : ByteArray) = tA := rfl
  have h1 : (⟨#[49]⟩ : ByteArray) = t1 := rfl
  have h2 : (⟨#[50]⟩ : ByteArray) = t2 := rfl
  have heq := beqTE t2 t2
  rw [decide_eq_true rfl] at heq
  have HW1 := Lib.hid hw1
  have HW2 := Lib.hid hw2
  have HS1 := Lib.hid hs1
  have HS2 := Lib.hid hs2
  clear HOV k12 k1 k2 hw1 hw2 hs1 hs2
  generalize tA = a at *
  generalize t1 = v1 at *
  generalize t2 = v2 at *
  go_enter Try.func21, Try.ntmps21
  go_wp2_with fail
  rw [HW1.out, HS1.out, HW2.out]
  refine (HOV'.out _ _ HS2.out rfl).mono ?_
  rintro e w3 ⟨v, rfl, hv, hB3⟩
  obtain ⟨A3, c3, rfl, _, _, hr3, _⟩ := ownAny hv
  obtain ⟨b, off, rfl, hb, hc0, hc1⟩ := hr3.1.pr (k := 0) (x := (a, v2)) rfl
  have hN := Lib.hid (num12_any 0 w3)
  have hBw : Below w.heap.size w w3 := hB02.trans (hB3.mono hB02.size)
  dsimp only at hc0 hc1
  simp only [Nat.zero_mul, Nat.add_zero] at hc0 hc1
  clear hr3 hv HOV'
  go_wp2_with fail
  refine hN.out.mono ?_
  rintro e w4 ⟨rfl, rfl⟩
  go_wp2
  go_ret
  exact ⟨rfl, hBw⟩

end Go.Proofs.Yteaohmlbddgfgaa
