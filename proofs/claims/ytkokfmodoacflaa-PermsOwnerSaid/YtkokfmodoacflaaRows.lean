/-
  No cell of these rows narrows 'for every input' (looked for: loops, veiled, ifaces, maps, wideKeys, modest, calm, conditions, laid).
  DERIVED. THE GIVEN ROWS OF THIS SEAT. 3 by the template 'for every input the law returns true; each argument reads behind the call as it read before'; 0 by the template 'total and deterministic' (their statements: YtkokfmodoacflaaTotals.lean).
  GIVEN WITH THE SEED: the statements are not yours to turn. If you find one false, say at which input.
  Laid BY PROGRAM, IN A SANDBOX (cutbox-rows.mjs): the forced cells as the released guide's own fill.sh prints them over the translation 99ed6b828c74d788… (all of the seat's roots in one cut). By AI agents, Wed Nov 11 2026. No macro, syntax, notation, axiom, sorry.
-/
import Derived.Test.YtkokfmodoacflaaChecked
import GoSem.Claim
import GoSem.ClaimJoined
import GoSem.ClaimMapViews
import Derived.JoinedTies
import Derived.KernelRfl
namespace Go.Proofs.Ytkokfmodoacflaa
/- THE CELL 'sum', in the pinned program and in every row, IS THE sha256 OF THE DUMP (.gsa) THAT YtkokfmodoacflaaProg.lean LOADS. Nothing in Lean hashes anything: it is a label: what it is worth is what the hold of that sum in a sandbox is worth. -/
noncomputable def Try.pinned : Pinned := { name := "ytkokfmodoacflaa", sum := "99ed6b828c74d788341fe5fbe1477726b8833ae0eb53eb4a9f62559d8653fd0a", checked := Try.checked }
namespace Rows
def none {H : Type} : Left H := { results := [], args := [] }

/-- 'godownlaw13.PermsGives': WHATEVER THE INPUT: true; the input reads as it did. -/
def permsGivesSpec : ChangeSpec := { name := "permsGives", fn := fun _ => fun
  | [d1, d2, d3, d4, d5, d6] => { results := [.lit (.bool true)], args := [d1, d2, d3, d4, d5, d6] }
  | _ => none }
def permsGivesRow : OpenClaim := { program := "ytkokfmodoacflaa", sum := "99ed6b828c74d788341fe5fbe1477726b8833ae0eb53eb4a9f62559d8653fd0a", func := "godown/godownlaw13.PermsGives", spec := "permsGives", inPlace := ["internal/bytealg.IndexByteString", "internal/bytealg.IndexString"], unfollowed := true, recurses := true, named := ["internal/bytealg.MaxLen"], apart := false }
def PermsGivesSaid : Prop := permsGivesRow.holds Try.pinned (OpenSpec.ofChange permsGivesSpec)

/-- ITS FALSE NEIGHBOUR: 'it returns false'. Refute it at one input. -/
def permsGivesWrong : ChangeSpec := { name := "permsGives", fn := fun _ => fun
  | [d1, d2, d3, d4, d5, d6] => { results := [.lit (.bool false)], args := [d1, d2, d3, d4, d5, d6] }
  | _ => none }
def PermsGivesWrongFalsely : Prop := permsGivesRow.holds Try.pinned (OpenSpec.ofChange permsGivesWrong)

/-- 'godownlaw13.PermsTakes': WHATEVER THE INPUT: true; the input reads as it did. -/
def permsTakesSpec : ChangeSpec := { name := "permsTakes", fn := fun _ => fun
  | [d1, d2, d3, d4] => { results := [.lit (.bool true)], args := [d1, d2, d3, d4] }
  | _ => none }
def permsTakesRow : OpenClaim := { program := "ytkokfmodoacflaa", sum := "99ed6b828c74d788341fe5fbe1477726b8833ae0eb53eb4a9f62559d8653fd0a", func := "godown/godownlaw13.PermsTakes", spec := "permsTakes", inPlace := ["internal/bytealg.IndexByteString", "internal/bytealg.IndexString"], unfollowed := true, recurses := true, named := ["internal/bytealg.MaxLen"], apart := false }
def PermsTakesSaid : Prop := permsTakesRow.holds Try.pinned (OpenSpec.ofChange permsTakesSpec)

/-- ITS FALSE NEIGHBOUR: 'it returns false'. Refute it at one input. -/
def permsTakesWrong : ChangeSpec := { name := "permsTakes", fn := fun _ => fun
  | [d1, d2, d3, d4] => { results := [.lit (.bool false)], args := [d1, d2, d3, d4] }
  | _ => none }
def PermsTakesWrongFalsely : Prop := permsTakesRow.holds Try.pinned (OpenSpec.ofChange permsTakesWrong)

/-- 'godownlaw13.PermsOwner': WHATEVER THE INPUT: true; the input reads as it did. -/
def permsOwnerSpec : ChangeSpec := { name := "permsOwner", fn := fun _ => fun
  | [d1, d2, d3, d4] => { results := [.lit (.bool true)], args := [d1, d2, d3, d4] }
  | _ => none }
def permsOwnerRow : OpenClaim := { program := "ytkokfmodoacflaa", sum := "99ed6b828c74d788341fe5fbe1477726b8833ae0eb53eb4a9f62559d8653fd0a", func := "godown/godownlaw13.PermsOwner", spec := "permsOwner", inPlace := ["internal/bytealg.IndexByteString", "internal/bytealg.IndexString"], unfollowed := true, recurses := true, named := ["internal/bytealg.MaxLen"], apart := false }
def PermsOwnerSaid : Prop := permsOwnerRow.holds Try.pinned (OpenSpec.ofChange permsOwnerSpec)

/-- ITS FALSE NEIGHBOUR: 'it returns false'. Refute it at one input. -/
def permsOwnerWrong : ChangeSpec := { name := "permsOwner", fn := fun _ => fun
  | [d1, d2, d3, d4] => { results := [.lit (.bool false)], args := [d1, d2, d3, d4] }
  | _ => none }
def PermsOwnerWrongFalsely : Prop := permsOwnerRow.holds Try.pinned (OpenSpec.ofChange permsOwnerWrong)

/- THE SECOND FORM. 'bulk': how many values and letters a reading holds, each counted each time it is reached (what is shared counts as often as it is met; a slice's spare places count too). A statement '..UptoSaid' is the law's where the arguments, and the package variables that the reading takes, are together of bulk at most 1048576: NARROWER than '..Said'. Prove '..Said' where nothing that the law and all that it calls make is longer than what came in: it says more and counts as full. Else prove '..UptoSaid'. A law counts once. -/
mutual
def uptoBulk {H : Type} : DataW H → Nat
  | .lit (.string bytes) => bytes.length + 1
  | .lit _ => 1
  | .nil => 1
  | .ptr d => uptoBulk d + 1
  | .slice elems spare => uptoBulkAll elems + uptoBulkAll spare + 1
  | .agg parts => uptoBulkAll parts + 1
  | .iface _ d => uptoBulk d + 1
  | .map entries => uptoBulkEntries entries + 1
  | .held _ => 1
def uptoBulkAll {H : Type} : List (DataW H) → Nat
  | [] => 0
  | d :: r => uptoBulk d + uptoBulkAll r
def uptoBulkEntries {H : Type} : List (Lit × DataW H) → Nat
  | [] => 0
  | x :: r => uptoBulkEntry x + uptoBulkEntries r
def uptoBulkEntry {H : Type} : Lit × DataW H → Nat
  | (.string bytes, d) => bytes.length + uptoBulk d + 1
  | (_, d) => uptoBulk d + 1
 end
def uptoSmall : (H : Type) → List (DataW H) → Bool := fun _ ds => decide (uptoBulkAll ds ≤ 1048576)
def OpenSpec.upto (s : _root_.Go.ChangeSpec) : _root_.Go.OpenSpec := { _root_.Go.OpenSpec.ofChange s with cond := some uptoSmall }

/-- 'godownlaw13.PermsGives', WHERE WHAT IT READS IS OF BULK AT MOST 1048576: true; the input reads as it did. -/
def permsGivesUptoRow : OpenClaim := { program := "ytkokfmodoacflaa", sum := "99ed6b828c74d788341fe5fbe1477726b8833ae0eb53eb4a9f62559d8653fd0a", func := "godown/godownlaw13.PermsGives", spec := "permsGives", inPlace := ["internal/bytealg.IndexByteString", "internal/bytealg.IndexString"], unfollowed := true, recurses := true, named := ["internal/bytealg.MaxLen"], apart := false, narrowed := true }
def PermsGivesUptoSaid : Prop := permsGivesUptoRow.holds Try.pinned (OpenSpec.upto permsGivesSpec)

/-- 'godownlaw13.PermsTakes', WHERE WHAT IT READS IS OF BULK AT MOST 1048576: true; the input reads as it did. -/
def permsTakesUptoRow : OpenClaim := { program := "ytkokfmodoacflaa", sum := "99ed6b828c74d788341fe5fbe1477726b8833ae0eb53eb4a9f62559d8653fd0a", func := "godown/godownlaw13.PermsTakes", spec := "permsTakes", inPlace := ["internal/bytealg.IndexByteString", "internal/bytealg.IndexString"], unfollowed := true, recurses := true, named := ["internal/bytealg.MaxLen"], apart := false, narrowed := true }
def PermsTakesUptoSaid : Prop := permsTakesUptoRow.holds Try.pinned (OpenSpec.upto permsTakesSpec)

/-- 'godownlaw13.PermsOwner', WHERE WHAT IT READS IS OF BULK AT MOST 1048576: true; the input reads as it did. -/
def permsOwnerUptoRow : OpenClaim := { program := "ytkokfmodoacflaa", sum := "99ed6b828c74d788341fe5fbe1477726b8833ae0eb53eb4a9f62559d8653fd0a", func := "godown/godownlaw13.PermsOwner", spec := "permsOwner", inPlace := ["internal/bytealg.IndexByteString", "internal/bytealg.IndexString"], unfollowed := true, recurses := true, named := ["internal/bytealg.MaxLen"], apart := false, narrowed := true }
def PermsOwnerUptoSaid : Prop := permsOwnerUptoRow.holds Try.pinned (OpenSpec.upto permsOwnerSpec)

end Rows
end Go.Proofs.Ytkokfmodoacflaa
