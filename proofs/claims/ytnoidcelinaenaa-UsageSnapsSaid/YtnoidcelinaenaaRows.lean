/-
  No cell of these rows narrows 'for every input' (looked for: loops, veiled, ifaces, maps, wideKeys, modest, calm, conditions, laid).
  DERIVED. THE GIVEN ROWS OF THIS SEAT. 3 by the template 'for every input the law returns true; each argument reads behind the call as it read before'; 0 by the template 'total and deterministic' (their statements: YtnoidcelinaenaaTotals.lean).
  GIVEN WITH THE SEED: the statements are not yours to turn. If you find one false, say at which input.
  Laid BY PROGRAM, IN A SANDBOX (cutbox-rows.mjs): the forced cells as the released guide's own fill.sh prints them over the translation cad304fbb37e56c3… (all of the seat's roots in one cut). By AI agents, Wed Nov 11 2026. No macro, syntax, notation, axiom, sorry.
-/
import Derived.Test.YtnoidcelinaenaaChecked
import GoSem.Claim
import GoSem.ClaimJoined
import GoSem.ClaimMapViews
import Derived.JoinedTies
import Derived.KernelRfl
namespace Go.Proofs.Ytnoidcelinaenaa
/- THE CELL 'sum', in the pinned program and in every row, IS THE sha256 OF THE DUMP (.gsa) THAT YtnoidcelinaenaaProg.lean LOADS. Nothing in Lean hashes anything: it is a label: what it is worth is what the hold of that sum in a sandbox is worth. -/
noncomputable def Try.pinned : Pinned := { name := "ytnoidcelinaenaa", sum := "cad304fbb37e56c3fb9fc5157e7e2cbf92bafd878edc2bd64c1f2e7c99765ef6", checked := Try.checked }
namespace Rows
def none {H : Type} : Left H := { results := [], args := [] }

/-- 'godownlaw15.UsageTells': WHATEVER THE INPUT: true; the input reads as it did. -/
def usageTellsSpec : ChangeSpec := { name := "usageTells", fn := fun _ => fun
  | [d1, d2, d3] => { results := [.lit (.bool true)], args := [d1, d2, d3] }
  | _ => none }
def usageTellsRow : OpenClaim := { program := "ytnoidcelinaenaa", sum := "cad304fbb37e56c3fb9fc5157e7e2cbf92bafd878edc2bd64c1f2e7c99765ef6", func := "godown/godownlaw15.UsageTells", spec := "usageTells", inPlace := ["internal/bytealg.abigen_runtime_cmpstring"], unfollowed := true, recurses := true, apart := false }
def UsageTellsSaid : Prop := usageTellsRow.holds Try.pinned (OpenSpec.ofChange usageTellsSpec)

/-- ITS FALSE NEIGHBOUR: 'it returns false'. Refute it at one input. -/
def usageTellsWrong : ChangeSpec := { name := "usageTells", fn := fun _ => fun
  | [d1, d2, d3] => { results := [.lit (.bool false)], args := [d1, d2, d3] }
  | _ => none }
def UsageTellsWrongFalsely : Prop := usageTellsRow.holds Try.pinned (OpenSpec.ofChange usageTellsWrong)

/-- 'godownlaw15.UsageSnaps': WHATEVER THE INPUT: true; the input reads as it did. -/
def usageSnapsSpec : ChangeSpec := { name := "usageSnaps", fn := fun _ => fun
  | [d1, d2] => { results := [.lit (.bool true)], args := [d1, d2] }
  | _ => none }
def usageSnapsRow : OpenClaim := { program := "ytnoidcelinaenaa", sum := "cad304fbb37e56c3fb9fc5157e7e2cbf92bafd878edc2bd64c1f2e7c99765ef6", func := "godown/godownlaw15.UsageSnaps", spec := "usageSnaps", inPlace := ["internal/bytealg.abigen_runtime_cmpstring"], unfollowed := true, recurses := true, apart := false }
def UsageSnapsSaid : Prop := usageSnapsRow.holds Try.pinned (OpenSpec.ofChange usageSnapsSpec)

/-- ITS FALSE NEIGHBOUR: 'it returns false'. Refute it at one input. -/
def usageSnapsWrong : ChangeSpec := { name := "usageSnaps", fn := fun _ => fun
  | [d1, d2] => { results := [.lit (.bool false)], args := [d1, d2] }
  | _ => none }
def UsageSnapsWrongFalsely : Prop := usageSnapsRow.holds Try.pinned (OpenSpec.ofChange usageSnapsWrong)

/-- 'godownlaw15.UsageUnique': WHATEVER THE INPUT: true; the input reads as it did. -/
def usageUniqueSpec : ChangeSpec := { name := "usageUnique", fn := fun _ => fun
  | [d1, d2] => { results := [.lit (.bool true)], args := [d1, d2] }
  | _ => none }
def usageUniqueRow : OpenClaim := { program := "ytnoidcelinaenaa", sum := "cad304fbb37e56c3fb9fc5157e7e2cbf92bafd878edc2bd64c1f2e7c99765ef6", func := "godown/godownlaw15.UsageUnique", spec := "usageUnique", inPlace := ["internal/bytealg.abigen_runtime_cmpstring"], unfollowed := true, recurses := true, apart := false }
def UsageUniqueSaid : Prop := usageUniqueRow.holds Try.pinned (OpenSpec.ofChange usageUniqueSpec)

/-- ITS FALSE NEIGHBOUR: 'it returns false'. Refute it at one input. -/
def usageUniqueWrong : ChangeSpec := { name := "usageUnique", fn := fun _ => fun
  | [d1, d2] => { results := [.lit (.bool false)], args := [d1, d2] }
  | _ => none }
def UsageUniqueWrongFalsely : Prop := usageUniqueRow.holds Try.pinned (OpenSpec.ofChange usageUniqueWrong)

/- THE SECOND FORM. 'bulk': how many values and letters a reading holds, each counted each time it is reached (what is shared counts as often as it is met; a slice's spare places count too). A statement '..UptoSaid' is the law's where the arguments, and the package variables that the reading takes, are together of bulk at most 1048576: NARROWER than '..Said'. Prove '..Said' where nothing that the law and all that it calls make is longer than what came in: it says more and counts as full. Else prove '..UptoSaid'. A law counts once. -/
mutual
def uptoBulk {H : Type} : DataW H → Nat
  | .lit (.string bytes) => bytes.length + 1
  | .lit _ => 1
  | .nil => 1
  | .ptr d => uptoBulk d + 1
  | .slice elems spare => uptoBulkAll elems + uptoBulkAll spare + 1
  | .agg parts => uptoBulkAll parts + 1
  | .iface _ d => uptoBulk d + 1
  | .map entries => uptoBulkEntries entries + 1
  | .held _ => 1
def uptoBulkAll {H : Type} : List (DataW H) → Nat
  | [] => 0
  | d :: r => uptoBulk d + uptoBulkAll r
def uptoBulkEntries {H : Type} : List (Lit × DataW H) → Nat
  | [] => 0
  | x :: r => uptoBulkEntry x + uptoBulkEntries r
def uptoBulkEntry {H : Type} : Lit × DataW H → Nat
  | (.string bytes, d) => bytes.length + uptoBulk d + 1
  | (_, d) => uptoBulk d + 1
 end
def uptoSmall : (H : Type) → List (DataW H) → Bool := fun _ ds => decide (uptoBulkAll ds ≤ 1048576)
def OpenSpec.upto (s : _root_.Go.ChangeSpec) : _root_.Go.OpenSpec := { _root_.Go.OpenSpec.ofChange s with cond := some uptoSmall }

/-- 'godownlaw15.UsageTells', WHERE WHAT IT READS IS OF BULK AT MOST 1048576: true; the input reads as it did. -/
def usageTellsUptoRow : OpenClaim := { program := "ytnoidcelinaenaa", sum := "cad304fbb37e56c3fb9fc5157e7e2cbf92bafd878edc2bd64c1f2e7c99765ef6", func := "godown/godownlaw15.UsageTells", spec := "usageTells", inPlace := ["internal/bytealg.abigen_runtime_cmpstring"], unfollowed := true, recurses := true, apart := false, narrowed := true }
def UsageTellsUptoSaid : Prop := usageTellsUptoRow.holds Try.pinned (OpenSpec.upto usageTellsSpec)

/-- 'godownlaw15.UsageSnaps', WHERE WHAT IT READS IS OF BULK AT MOST 1048576: true; the input reads as it did. -/
def usageSnapsUptoRow : OpenClaim := { program := "ytnoidcelinaenaa", sum := "cad304fbb37e56c3fb9fc5157e7e2cbf92bafd878edc2bd64c1f2e7c99765ef6", func := "godown/godownlaw15.UsageSnaps", spec := "usageSnaps", inPlace := ["internal/bytealg.abigen_runtime_cmpstring"], unfollowed := true, recurses := true, apart := false, narrowed := true }
def UsageSnapsUptoSaid : Prop := usageSnapsUptoRow.holds Try.pinned (OpenSpec.upto usageSnapsSpec)

/-- 'godownlaw15.UsageUnique', WHERE WHAT IT READS IS OF BULK AT MOST 1048576: true; the input reads as it did. -/
def usageUniqueUptoRow : OpenClaim := { program := "ytnoidcelinaenaa", sum := "cad304fbb37e56c3fb9fc5157e7e2cbf92bafd878edc2bd64c1f2e7c99765ef6", func := "godown/godownlaw15.UsageUnique", spec := "usageUnique", inPlace := ["internal/bytealg.abigen_runtime_cmpstring"], unfollowed := true, recurses := true, apart := false, narrowed := true }
def UsageUniqueUptoSaid : Prop := usageUniqueUptoRow.holds Try.pinned (OpenSpec.upto usageUniqueSpec)

end Rows
end Go.Proofs.Ytnoidcelinaenaa
