/-
  What some library functions rest on at this program: the facts that the library of proofs asks. No conditions.
-/
import Derived.Shelf.SlicesE.Reverse
import Derived.Test.YtoonebbbgchkhaaGreatProg
namespace Go.Proofs
open Go.Shelf
def Tryz.reverseP_ren : Go.Shelf.Ren := ⟨fun | 35 => 57 | n => n, fun | 22 => 98 | 23 => 40 | 3 => 3 | 4 => 4 | 0 => 0 | n => n, fun | n => n⟩
theorem Tryz.reverseP : Go.Proofs.SlLaysE.n35 Tryz.prog Tryz.reverseP_ren := {
  mixed := by kernel_rfl
  f35 := ⟨Tryz.f57.name, by decide, Tryz.func57.trans (congrArg some (by kernel_rfl))⟩
  t0 := Tryz.underlying0
  a0 := Tryz.isAgg0
  z0 := Tryz.sizeOf0
  v0 := Tryz.zeroValue0
  t3 := Tryz.underlying3
  a3 := Tryz.isAgg3
  z3 := Tryz.sizeOf3
  v3 := Tryz.zeroValue3
  t4 := Tryz.underlying4
  a4 := Tryz.isAgg4
  z4 := Tryz.sizeOf4
  v4 := Tryz.zeroValue4
  t22 := Tryz.underlying98
  a22 := Tryz.isAgg98
  z22 := Tryz.sizeOf98
  v22 := Tryz.zeroValue98
  a23 := Tryz.isAgg40
  z23 := Tryz.sizeOf40 }
end Go.Proofs
