/-
  A slice of octets that may be. No conditions.
-/
import Derived.Test.YthelklgpabjfkaaGB
namespace Go.Proofs.Ythelklgpabjfkaa
open Go.ChangeShapes Go.WideShapes Go.ChangeAt Go.RowKit

structure Slc where
  A : Option Addr
  zs : List Int
  c : Nat
def Slc.ok (s : Slc) (w : World) : Prop := s.zs.length ≤ s.c ∧ s.zs.length ≤ maxLen ∧ Octs s.zs ∧ RdB w s.A s.zs
theorem Slc.ok.below {s : Slc} {w w' : World} (h : s.ok w) (hB : Below w.heap.size w w') : s.ok w' := ⟨h.1, h.2.1, h.2.2.1, h.2.2.2.below hB⟩
abbrev Slc.val (s : Slc) : Value := .slice s.A s.zs.length s.c
theorem slc_ok {A : Option Addr} {c : Nat} {zs : List Int} {W : World} (hc : zs.length ≤ c) (ho : Octs zs) (hl : zs.length ≤ 140737488351232) (hr : RdB W A zs) : (Slc.mk A zs c).ok W := ⟨hc, by unfold maxLen; show zs.length ≤ _; omega, ho, hr⟩

end Go.Proofs.Ythelklgpabjfkaa
