/-
  No cell of these rows narrows 'for every input' (looked for: loops, veiled, ifaces, maps, wideKeys, modest, calm, conditions, laid).
  DERIVED. THE GIVEN ROWS OF THIS SEAT. 7 by the template 'for every input the law returns true; each argument reads behind the call as it read before'; 0 by the template 'total and deterministic' (their statements: YtimmcmjipmkebaaGreatTotals.lean).
  GIVEN WITH THE SEED: the statements are not yours to turn. If you find one false, say at which input.
  Laid BY PROGRAM, IN A SANDBOX (cutbox-rows.mjs): the forced cells as the released guide's own fill.sh prints them over the translation 69ff83b98a64826b… (all of the seat's roots in one cut). By AI agents, Wed Nov 11 2026. No macro, syntax, notation, axiom, sorry.
-/
import Derived.Test.YtimmcmjipmkebaaGreatChecked
import GoSem.Claim
import GoSem.ClaimJoined
import GoSem.ClaimMapViews
import Derived.JoinedTies
import Derived.KernelRfl
namespace Go.Proofs.YtimmcmjipmkebaaGreat
/- THE CELL 'sum', in the pinned program and in every row, IS THE sha256 OF THE DUMP (.gsa) THAT YtimmcmjipmkebaaGreatProg.lean LOADS. Nothing in Lean hashes anything: it is a label: what it is worth is what the hold of that sum in a sandbox is worth. -/
noncomputable def Tryz.pinned : Pinned := { name := "ytimmcmjipmkebaagreat", sum := "69ff83b98a64826b9b672f1cb7efb1a459b2e4d2c218eaa0158ca8082bc28bc8", checked := Tryz.checked }
namespace Rows
def none {H : Type} : Left H := { results := [], args := [] }

/-- 'godownlaw17.SnapsTells': WHATEVER THE INPUT: true; the input reads as it did. -/
def snapsTellsSpec : ChangeSpec := { name := "snapsTells", fn := fun _ => fun
  | [d1, d2, d3, d4] => { results := [.lit (.bool true)], args := [d1, d2, d3, d4] }
  | _ => none }
def snapsTellsRow : OpenClaim := { program := "ytimmcmjipmkebaagreat", sum := "69ff83b98a64826b9b672f1cb7efb1a459b2e4d2c218eaa0158ca8082bc28bc8", func := "godown/godownlaw17.SnapsTells", spec := "snapsTells", inPlace := ["internal/bytealg.IndexByteString", "internal/bytealg.IndexString"], unfollowed := true, recurses := true, named := ["internal/bytealg.MaxLen"], apart := false }
def SnapsTellsSaid : Prop := snapsTellsRow.holds Tryz.pinned (OpenSpec.ofChange snapsTellsSpec)

/-- ITS FALSE NEIGHBOUR: 'it returns false'. Refute it at one input. -/
def snapsTellsWrong : ChangeSpec := { name := "snapsTells", fn := fun _ => fun
  | [d1, d2, d3, d4] => { results := [.lit (.bool false)], args := [d1, d2, d3, d4] }
  | _ => none }
def SnapsTellsWrongFalsely : Prop := snapsTellsRow.holds Tryz.pinned (OpenSpec.ofChange snapsTellsWrong)

/-- 'godownlaw17.SnapsMay': WHATEVER THE INPUT: true; the input reads as it did. -/
def snapsMaySpec : ChangeSpec := { name := "snapsMay", fn := fun _ => fun
  | [d1, d2, d3, d4] => { results := [.lit (.bool true)], args := [d1, d2, d3, d4] }
  | _ => none }
def snapsMayRow : OpenClaim := { program := "ytimmcmjipmkebaagreat", sum := "69ff83b98a64826b9b672f1cb7efb1a459b2e4d2c218eaa0158ca8082bc28bc8", func := "godown/godownlaw17.SnapsMay", spec := "snapsMay", inPlace := ["internal/bytealg.IndexByteString", "internal/bytealg.IndexString"], unfollowed := true, recurses := true, named := ["internal/bytealg.MaxLen"], apart := false }
def SnapsMaySaid : Prop := snapsMayRow.holds Tryz.pinned (OpenSpec.ofChange snapsMaySpec)

/-- ITS FALSE NEIGHBOUR: 'it returns false'. Refute it at one input. -/
def snapsMayWrong : ChangeSpec := { name := "snapsMay", fn := fun _ => fun
  | [d1, d2, d3, d4] => { results := [.lit (.bool false)], args := [d1, d2, d3, d4] }
  | _ => none }
def SnapsMayWrongFalsely : Prop := snapsMayRow.holds Tryz.pinned (OpenSpec.ofChange snapsMayWrong)

/-- 'godownlaw17.SnapsClones': WHATEVER THE INPUT: true; the input reads as it did. -/
def snapsClonesSpec : ChangeSpec := { name := "snapsClones", fn := fun _ => fun
  | [d1, d2, d3, d4, d5] => { results := [.lit (.bool true)], args := [d1, d2, d3, d4, d5] }
  | _ => none }
def snapsClonesRow : OpenClaim := { program := "ytimmcmjipmkebaagreat", sum := "69ff83b98a64826b9b672f1cb7efb1a459b2e4d2c218eaa0158ca8082bc28bc8", func := "godown/godownlaw17.SnapsClones", spec := "snapsClones", inPlace := ["internal/bytealg.IndexByteString", "internal/bytealg.IndexString"], unfollowed := true, recurses := true, named := ["internal/bytealg.MaxLen"], apart := false }
def SnapsClonesSaid : Prop := snapsClonesRow.holds Tryz.pinned (OpenSpec.ofChange snapsClonesSpec)

/-- ITS FALSE NEIGHBOUR: 'it returns false'. Refute it at one input. -/
def snapsClonesWrong : ChangeSpec := { name := "snapsClones", fn := fun _ => fun
  | [d1, d2, d3, d4, d5] => { results := [.lit (.bool false)], args := [d1, d2, d3, d4, d5] }
  | _ => none }
def SnapsClonesWrongFalsely : Prop := snapsClonesRow.holds Tryz.pinned (OpenSpec.ofChange snapsClonesWrong)

/-- 'godownlaw17.SnapsOwn': WHATEVER THE INPUT: true; the input reads as it did. -/
def snapsOwnSpec : ChangeSpec := { name := "snapsOwn", fn := fun _ => fun
  | [d1, d2, d3, d4] => { results := [.lit (.bool true)], args := [d1, d2, d3, d4] }
  | _ => none }
def snapsOwnRow : OpenClaim := { program := "ytimmcmjipmkebaagreat", sum := "69ff83b98a64826b9b672f1cb7efb1a459b2e4d2c218eaa0158ca8082bc28bc8", func := "godown/godownlaw17.SnapsOwn", spec := "snapsOwn", inPlace := ["internal/bytealg.IndexByteString", "internal/bytealg.IndexString"], unfollowed := true, recurses := true, named := ["internal/bytealg.MaxLen"], apart := false }
def SnapsOwnSaid : Prop := snapsOwnRow.holds Tryz.pinned (OpenSpec.ofChange snapsOwnSpec)

/-- ITS FALSE NEIGHBOUR: 'it returns false'. Refute it at one input. -/
def snapsOwnWrong : ChangeSpec := { name := "snapsOwn", fn := fun _ => fun
  | [d1, d2, d3, d4] => { results := [.lit (.bool false)], args := [d1, d2, d3, d4] }
  | _ => none }
def SnapsOwnWrongFalsely : Prop := snapsOwnRow.holds Tryz.pinned (OpenSpec.ofChange snapsOwnWrong)

/-- 'godownlaw18.HoldsTells': WHATEVER THE INPUT: true; the input reads as it did. -/
def holdsTellsSpec : ChangeSpec := { name := "holdsTells", fn := fun _ => fun
  | [d1, d2, d3, d4] => { results := [.lit (.bool true)], args := [d1, d2, d3, d4] }
  | _ => none }
def holdsTellsRow : OpenClaim := { program := "ytimmcmjipmkebaagreat", sum := "69ff83b98a64826b9b672f1cb7efb1a459b2e4d2c218eaa0158ca8082bc28bc8", func := "godown/godownlaw18.HoldsTells", spec := "holdsTells", inPlace := ["slices.overlaps[string]", "internal/bytealg.IndexByteString", "internal/bytealg.IndexString"], unfollowed := true, recurses := true, named := ["internal/bytealg.MaxLen"], apart := false }
def HoldsTellsSaid : Prop := holdsTellsRow.holds Tryz.pinned (OpenSpec.ofChange holdsTellsSpec)

/-- ITS FALSE NEIGHBOUR: 'it returns false'. Refute it at one input. -/
def holdsTellsWrong : ChangeSpec := { name := "holdsTells", fn := fun _ => fun
  | [d1, d2, d3, d4] => { results := [.lit (.bool false)], args := [d1, d2, d3, d4] }
  | _ => none }
def HoldsTellsWrongFalsely : Prop := holdsTellsRow.holds Tryz.pinned (OpenSpec.ofChange holdsTellsWrong)

/-- 'godownlaw18.HoldsKeeps': WHATEVER THE INPUT: true; the input reads as it did. -/
def holdsKeepsSpec : ChangeSpec := { name := "holdsKeeps", fn := fun _ => fun
  | [d1, d2, d3, d4] => { results := [.lit (.bool true)], args := [d1, d2, d3, d4] }
  | _ => none }
def holdsKeepsRow : OpenClaim := { program := "ytimmcmjipmkebaagreat", sum := "69ff83b98a64826b9b672f1cb7efb1a459b2e4d2c218eaa0158ca8082bc28bc8", func := "godown/godownlaw18.HoldsKeeps", spec := "holdsKeeps", inPlace := ["internal/bytealg.IndexByteString", "internal/bytealg.IndexString", "slices.overlaps[string]"], unfollowed := true, recurses := true, named := ["internal/bytealg.MaxLen"], apart := false }
def HoldsKeepsSaid : Prop := holdsKeepsRow.holds Tryz.pinned (OpenSpec.ofChange holdsKeepsSpec)

/-- ITS FALSE NEIGHBOUR: 'it returns false'. Refute it at one input. -/
def holdsKeepsWrong : ChangeSpec := { name := "holdsKeeps", fn := fun _ => fun
  | [d1, d2, d3, d4] => { results := [.lit (.bool false)], args := [d1, d2, d3, d4] }
  | _ => none }
def HoldsKeepsWrongFalsely : Prop := holdsKeepsRow.holds Tryz.pinned (OpenSpec.ofChange holdsKeepsWrong)

/-- 'godownlaw18.HoldsNames': WHATEVER THE INPUT: true; the input reads as it did. -/
def holdsNamesSpec : ChangeSpec := { name := "holdsNames", fn := fun _ => fun
  | [d] => { results := [.lit (.bool true)], args := [d] }
  | _ => none }
def holdsNamesRow : OpenClaim := { program := "ytimmcmjipmkebaagreat", sum := "69ff83b98a64826b9b672f1cb7efb1a459b2e4d2c218eaa0158ca8082bc28bc8", func := "godown/godownlaw18.HoldsNames", spec := "holdsNames", inPlace := ["internal/bytealg.IndexByteString", "internal/bytealg.IndexString", "slices.overlaps[string]"], unfollowed := true, recurses := true, named := ["internal/bytealg.MaxLen"], apart := false }
def HoldsNamesSaid : Prop := holdsNamesRow.holds Tryz.pinned (OpenSpec.ofChange holdsNamesSpec)

/-- ITS FALSE NEIGHBOUR: 'it returns false'. Refute it at one input. -/
def holdsNamesWrong : ChangeSpec := { name := "holdsNames", fn := fun _ => fun
  | [d] => { results := [.lit (.bool false)], args := [d] }
  | _ => none }
def HoldsNamesWrongFalsely : Prop := holdsNamesRow.holds Tryz.pinned (OpenSpec.ofChange holdsNamesWrong)

/- THE SECOND FORM. 'bulk': how many values and letters a reading holds, each counted each time it is reached (what is shared counts as often as it is met; a slice's spare places count too). A statement '..UptoSaid' is the law's where the arguments, and the package variables that the reading takes, are together of bulk at most 1048576: NARROWER than '..Said'. Prove '..Said' where nothing that the law and all that it calls make is longer than what came in: it says more and counts as full. Else prove '..UptoSaid'. A law counts once. -/
mutual
def uptoBulk {H : Type} : DataW H → Nat
  | .lit (.string bytes) => bytes.length + 1
  | .lit _ => 1
  | .nil => 1
  | .ptr d => uptoBulk d + 1
  | .slice elems spare => uptoBulkAll elems + uptoBulkAll spare + 1
  | .agg parts => uptoBulkAll parts + 1
  | .iface _ d => uptoBulk d + 1
  | .map entries => uptoBulkEntries entries + 1
  | .held _ => 1
def uptoBulkAll {H : Type} : List (DataW H) → Nat
  | [] => 0
  | d :: r => uptoBulk d + uptoBulkAll r
def uptoBulkEntries {H : Type} : List (Lit × DataW H) → Nat
  | [] => 0
  | x :: r => uptoBulkEntry x + uptoBulkEntries r
def uptoBulkEntry {H : Type} : Lit × DataW H → Nat
  | (.string bytes, d) => bytes.length + uptoBulk d + 1
  | (_, d) => uptoBulk d + 1
 end
def uptoSmall : (H : Type) → List (DataW H) → Bool := fun _ ds => decide (uptoBulkAll ds ≤ 1048576)
def OpenSpec.upto (s : _root_.Go.ChangeSpec) : _root_.Go.OpenSpec := { _root_.Go.OpenSpec.ofChange s with cond := some uptoSmall }

/-- 'godownlaw17.SnapsTells', WHERE WHAT IT READS IS OF BULK AT MOST 1048576: true; the input reads as it did. -/
def snapsTellsUptoRow : OpenClaim := { program := "ytimmcmjipmkebaagreat", sum := "69ff83b98a64826b9b672f1cb7efb1a459b2e4d2c218eaa0158ca8082bc28bc8", func := "godown/godownlaw17.SnapsTells", spec := "snapsTells", inPlace := ["internal/bytealg.IndexByteString", "internal/bytealg.IndexString"], unfollowed := true, recurses := true, named := ["internal/bytealg.MaxLen"], apart := false, narrowed := true }
def SnapsTellsUptoSaid : Prop := snapsTellsUptoRow.holds Tryz.pinned (OpenSpec.upto snapsTellsSpec)

/-- 'godownlaw17.SnapsMay', WHERE WHAT IT READS IS OF BULK AT MOST 1048576: true; the input reads as it did. -/
def snapsMayUptoRow : OpenClaim := { program := "ytimmcmjipmkebaagreat", sum := "69ff83b98a64826b9b672f1cb7efb1a459b2e4d2c218eaa0158ca8082bc28bc8", func := "godown/godownlaw17.SnapsMay", spec := "snapsMay", inPlace := ["internal/bytealg.IndexByteString", "internal/bytealg.IndexString"], unfollowed := true, recurses := true, named := ["internal/bytealg.MaxLen"], apart := false, narrowed := true }
def SnapsMayUptoSaid : Prop := snapsMayUptoRow.holds Tryz.pinned (OpenSpec.upto snapsMaySpec)

/-- 'godownlaw17.SnapsClones', WHERE WHAT IT READS IS OF BULK AT MOST 1048576: true; the input reads as it did. -/
def snapsClonesUptoRow : OpenClaim := { program := "ytimmcmjipmkebaagreat", sum := "69ff83b98a64826b9b672f1cb7efb1a459b2e4d2c218eaa0158ca8082bc28bc8", func := "godown/godownlaw17.SnapsClones", spec := "snapsClones", inPlace := ["internal/bytealg.IndexByteString", "internal/bytealg.IndexString"], unfollowed := true, recurses := true, named := ["internal/bytealg.MaxLen"], apart := false, narrowed := true }
def SnapsClonesUptoSaid : Prop := snapsClonesUptoRow.holds Tryz.pinned (OpenSpec.upto snapsClonesSpec)

/-- 'godownlaw17.SnapsOwn', WHERE WHAT IT READS IS OF BULK AT MOST 1048576: true; the input reads as it did. -/
def snapsOwnUptoRow : OpenClaim := { program := "ytimmcmjipmkebaagreat", sum := "69ff83b98a64826b9b672f1cb7efb1a459b2e4d2c218eaa0158ca8082bc28bc8", func := "godown/godownlaw17.SnapsOwn", spec := "snapsOwn", inPlace := ["internal/bytealg.IndexByteString", "internal/bytealg.IndexString"], unfollowed := true, recurses := true, named := ["internal/bytealg.MaxLen"], apart := false, narrowed := true }
def SnapsOwnUptoSaid : Prop := snapsOwnUptoRow.holds Tryz.pinned (OpenSpec.upto snapsOwnSpec)

/-- 'godownlaw18.HoldsTells', WHERE WHAT IT READS IS OF BULK AT MOST 1048576: true; the input reads as it did. -/
def holdsTellsUptoRow : OpenClaim := { program := "ytimmcmjipmkebaagreat", sum := "69ff83b98a64826b9b672f1cb7efb1a459b2e4d2c218eaa0158ca8082bc28bc8", func := "godown/godownlaw18.HoldsTells", spec := "holdsTells", inPlace := ["slices.overlaps[string]", "internal/bytealg.IndexByteString", "internal/bytealg.IndexString"], unfollowed := true, recurses := true, named := ["internal/bytealg.MaxLen"], apart := false, narrowed := true }
def HoldsTellsUptoSaid : Prop := holdsTellsUptoRow.holds Tryz.pinned (OpenSpec.upto holdsTellsSpec)

/-- 'godownlaw18.HoldsKeeps', WHERE WHAT IT READS IS OF BULK AT MOST 1048576: true; the input reads as it did. -/
def holdsKeepsUptoRow : OpenClaim := { program := "ytimmcmjipmkebaagreat", sum := "69ff83b98a64826b9b672f1cb7efb1a459b2e4d2c218eaa0158ca8082bc28bc8", func := "godown/godownlaw18.HoldsKeeps", spec := "holdsKeeps", inPlace := ["internal/bytealg.IndexByteString", "internal/bytealg.IndexString", "slices.overlaps[string]"], unfollowed := true, recurses := true, named := ["internal/bytealg.MaxLen"], apart := false, narrowed := true }
def HoldsKeepsUptoSaid : Prop := holdsKeepsUptoRow.holds Tryz.pinned (OpenSpec.upto holdsKeepsSpec)

/-- 'godownlaw18.HoldsNames', WHERE WHAT IT READS IS OF BULK AT MOST 1048576: true; the input reads as it did. -/
def holdsNamesUptoRow : OpenClaim := { program := "ytimmcmjipmkebaagreat", sum := "69ff83b98a64826b9b672f1cb7efb1a459b2e4d2c218eaa0158ca8082bc28bc8", func := "godown/godownlaw18.HoldsNames", spec := "holdsNames", inPlace := ["internal/bytealg.IndexByteString", "internal/bytealg.IndexString", "slices.overlaps[string]"], unfollowed := true, recurses := true, named := ["internal/bytealg.MaxLen"], apart := false, narrowed := true }
def HoldsNamesUptoSaid : Prop := holdsNamesUptoRow.holds Tryz.pinned (OpenSpec.upto holdsNamesSpec)

end Rows
end Go.Proofs.YtimmcmjipmkebaaGreat
