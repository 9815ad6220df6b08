/-
  A sum that came in. No conditions.
-/
import Derived.Test.YthchpjfnbcjjbaaFM
import Derived.Lib.SmallJoins
namespace Go.Proofs.Ythchpjfnbcjjbaa
open Go.Joins Go.ChangeShapes Go.WideShapes Go.ChangeAt Go.RowKit Go.Deep

theorem sum_one : oneCellFields Try.prog #[{ name := "A", type := 22, offset := 0, embedded := false, tag := "", pkgPath := "", byteOffset := 0 }, { name := "B", type := 22, offset := 1, embedded := false, tag := "", pkgPath := "", byteOffset := 8 }, { name := "C", type := 22, offset := 2, embedded := false, tag := "", pkgPath := "", byteOffset := 16 }, { name := "D", type := 22, offset := 3, embedded := false, tag := "", pkgPath := "", byteOffset := 24 }] = true := by kernel_rfl
theorem sum_cells : Try.prog.cellsOf 24 = 4 := by kernel_rfl
theorem readsSum : Try.prog.readableRec 24 = true ∧ 24 < Try.prog.types.size := ⟨by kernel_rfl, of_decide_eq_true (by kernel_rfl)⟩

theorem open_sum {H : Type} {enc : TypeId × Value → H} {W : World} {r : Reach} {b0 : Nat} {v : Value} {d : DataW H} {ps : List MemPlace} (hval : Value.okWide Try.prog W r b0 24 v)
    (hd : DataW.Trod enc Try.prog W 0 (fun _ => true) true 24 v d ps) : ∃ s : S4, v = s.val ∧ s.ok := by
  obtain ⟨v0, v1, v2, v3, y0, y1, y2, y3, n, rfl, _, _, h0, h1, h2, h3⟩ := open_agg4 Try.underlying24 sum_one sum_cells hval hd
  obtain ⟨a, ha, _, wa⟩ := DataW.trod_int Try.underlying22 h0
  obtain ⟨b, hb, _, wb⟩ := DataW.trod_int Try.underlying22 h1
  obtain ⟨c, hc, _, wc⟩ := DataW.trod_int Try.underlying22 h2
  obtain ⟨e, he, _, we⟩ := DataW.trod_int Try.underlying22 h3
  injection ha with ha
  injection hb with hb
  injection hc with hc
  injection he with he
  subst ha hb hc he
  refine ⟨⟨a, b, c, e⟩, rfl, ?_⟩
  have := bounds_u64 wa
  have := bounds_u64 wb
  have := bounds_u64 wc
  have := bounds_u64 we
  simp only [S4.ok]
  omega

end Go.Proofs.Ythchpjfnbcjjbaa
