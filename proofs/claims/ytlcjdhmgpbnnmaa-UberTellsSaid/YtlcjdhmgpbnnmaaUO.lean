/-
  An uberblock that came in. No conditions.
-/
import Derived.Test.YtlcjdhmgpbnnmaaUI
import Derived.Lib.SmallJoins
namespace Go.Proofs.Ytlcjdhmgpbnnmaa
open Go.Joins Go.ChangeShapes Go.WideShapes Go.ChangeAt Go.RowKit Go.Deep

theorem uber_one : oneCellFields Try.prog #[{ name := "Txg", type := 3, offset := 0, embedded := false, tag := "", pkgPath := "", byteOffset := 0 }, { name := "First", type := 3, offset := 1, embedded := false, tag := "", pkgPath := "", byteOffset := 8 }, { name := "Objects", type := 3, offset := 2, embedded := false, tag := "", pkgPath := "", byteOffset := 16 }] = true := by kernel_rfl
theorem uber_cells : Try.prog.cellsOf 23 = 3 := by kernel_rfl
theorem readsUber : Try.prog.readableRec 23 = true ∧ 23 < Try.prog.types.size := ⟨by kernel_rfl, of_decide_eq_true (by kernel_rfl)⟩

theorem open_uber {H : Type} {enc : TypeId × Value → H} {W : World} {r : Reach} {b0 : Nat} {v : Value} {d : DataW H} {ps : List MemPlace} (hval : Value.okWide Try.prog W r b0 23 v)
    (hd : DataW.Trod enc Try.prog W 0 (fun _ => true) true 23 v d ps) : ∃ u : Ub, v = u.val := by
  obtain ⟨v0, v1, v2, y0, y1, y2, n, rfl, _, _, h0, h1, h2⟩ := open_agg3 Try.underlying23 uber_one uber_cells hval hd
  obtain ⟨a, ha, _, _⟩ := DataW.trod_int Try.underlying3 h0
  obtain ⟨b, hb, _, _⟩ := DataW.trod_int Try.underlying3 h1
  obtain ⟨c, hc, _, _⟩ := DataW.trod_int Try.underlying3 h2
  injection ha with ha
  injection hb with hb
  injection hc with hc
  subst ha hb hc
  exact ⟨⟨a, b, c⟩, rfl⟩

theorem slc_ok {A : Option Addr} {c : Nat} {zs : List Int} {W : World} (hc : zs.length ≤ c) (ho : Octs zs) (hl : zs.length ≤ 140737488351232) (hr : RdB W A zs) : (Slc.mk A zs c).ok W := ⟨hc, by unfold maxLen; show zs.length ≤ _; omega, ho, hr⟩

end Go.Proofs.Ytlcjdhmgpbnnmaa
