/-
  No cell of these rows narrows 'for every input' (looked for: loops, veiled, ifaces, maps, wideKeys, modest, calm, conditions, laid).
  DERIVED. THE GIVEN ROWS OF THIS SEAT. 7 by the template 'for every input the law returns true; each argument reads behind the call as it read before'; 0 by the template 'total and deterministic' (their statements: YtoabkbnhdekbdaaGreatTotals.lean).
  GIVEN WITH THE SEED: the statements are not yours to turn. If you find one false, say at which input.
  Laid BY PROGRAM, IN A SANDBOX (cutbox-rows.mjs): the forced cells as the released guide's own fill.sh prints them over the translation 0cfb5fbc9234d72b… (all of the seat's roots in one cut). By AI agents, Wed Nov 11 2026. No macro, syntax, notation, axiom, sorry.
-/
import Derived.Test.YtoabkbnhdekbdaaGreatChecked
import GoSem.Claim
import GoSem.ClaimJoined
import GoSem.ClaimMapViews
import Derived.JoinedTies
import Derived.KernelRfl
namespace Go.Proofs.YtoabkbnhdekbdaaGreat
/- THE CELL 'sum', in the pinned program and in every row, IS THE sha256 OF THE DUMP (.gsa) THAT YtoabkbnhdekbdaaGreatProg.lean LOADS. Nothing in Lean hashes anything: it is a label: what it is worth is what the hold of that sum in a sandbox is worth. -/
noncomputable def Tryz.pinned : Pinned := { name := "ytoabkbnhdekbdaagreat", sum := "0cfb5fbc9234d72bde227c8b098d39b45e7413271619050fdaf2688cadea137a", checked := Tryz.checked }
namespace Rows
def none {H : Type} : Left H := { results := [], args := [] }

/-- 'godownlaw16.ShapeTurns': WHATEVER THE INPUT: true; the input reads as it did. -/
def shapeTurnsSpec : ChangeSpec := { name := "shapeTurns", fn := fun _ => fun
  | [d1, d2, d3, d4, d5, d6] => { results := [.lit (.bool true)], args := [d1, d2, d3, d4, d5, d6] }
  | _ => none }
def shapeTurnsRow : OpenClaim := { program := "ytoabkbnhdekbdaagreat", sum := "0cfb5fbc9234d72bde227c8b098d39b45e7413271619050fdaf2688cadea137a", func := "godown/godownlaw16.ShapeTurns", spec := "shapeTurns", inPlace := ["internal/bytealg.IndexByteString", "internal/bytealg.IndexString"], unfollowed := true, recurses := true, named := ["internal/bytealg.MaxLen"], apart := false }
def ShapeTurnsSaid : Prop := shapeTurnsRow.holds Tryz.pinned (OpenSpec.ofChange shapeTurnsSpec)

/-- ITS FALSE NEIGHBOUR: 'it returns false'. Refute it at one input. -/
def shapeTurnsWrong : ChangeSpec := { name := "shapeTurns", fn := fun _ => fun
  | [d1, d2, d3, d4, d5, d6] => { results := [.lit (.bool false)], args := [d1, d2, d3, d4, d5, d6] }
  | _ => none }
def ShapeTurnsWrongFalsely : Prop := shapeTurnsRow.holds Tryz.pinned (OpenSpec.ofChange shapeTurnsWrong)

/-- 'godownlaw16.ShapeOwn': WHATEVER THE INPUT: true; the input reads as it did. -/
def shapeOwnSpec : ChangeSpec := { name := "shapeOwn", fn := fun _ => fun
  | [d1, d2, d3, d4] => { results := [.lit (.bool true)], args := [d1, d2, d3, d4] }
  | _ => none }
def shapeOwnRow : OpenClaim := { program := "ytoabkbnhdekbdaagreat", sum := "0cfb5fbc9234d72bde227c8b098d39b45e7413271619050fdaf2688cadea137a", func := "godown/godownlaw16.ShapeOwn", spec := "shapeOwn", inPlace := ["internal/bytealg.IndexByteString", "internal/bytealg.IndexString"], unfollowed := true, recurses := true, named := ["internal/bytealg.MaxLen"], apart := false }
def ShapeOwnSaid : Prop := shapeOwnRow.holds Tryz.pinned (OpenSpec.ofChange shapeOwnSpec)

/-- ITS FALSE NEIGHBOUR: 'it returns false'. Refute it at one input. -/
def shapeOwnWrong : ChangeSpec := { name := "shapeOwn", fn := fun _ => fun
  | [d1, d2, d3, d4] => { results := [.lit (.bool false)], args := [d1, d2, d3, d4] }
  | _ => none }
def ShapeOwnWrongFalsely : Prop := shapeOwnRow.holds Tryz.pinned (OpenSpec.ofChange shapeOwnWrong)

/-- 'godownlaw17.SnapsTells': WHATEVER THE INPUT: true; the input reads as it did. -/
def snapsTellsSpec : ChangeSpec := { name := "snapsTells", fn := fun _ => fun
  | [d1, d2, d3, d4] => { results := [.lit (.bool true)], args := [d1, d2, d3, d4] }
  | _ => none }
def snapsTellsRow : OpenClaim := { program := "ytoabkbnhdekbdaagreat", sum := "0cfb5fbc9234d72bde227c8b098d39b45e7413271619050fdaf2688cadea137a", func := "godown/godownlaw17.SnapsTells", spec := "snapsTells", inPlace := ["internal/bytealg.IndexByteString", "internal/bytealg.IndexString"], unfollowed := true, recurses := true, named := ["internal/bytealg.MaxLen"], apart := false }
def SnapsTellsSaid : Prop := snapsTellsRow.holds Tryz.pinned (OpenSpec.ofChange snapsTellsSpec)

/-- ITS FALSE NEIGHBOUR: 'it returns false'. Refute it at one input. -/
def snapsTellsWrong : ChangeSpec := { name := "snapsTells", fn := fun _ => fun
  | [d1, d2, d3, d4] => { results := [.lit (.bool false)], args := [d1, d2, d3, d4] }
  | _ => none }
def SnapsTellsWrongFalsely : Prop := snapsTellsRow.holds Tryz.pinned (OpenSpec.ofChange snapsTellsWrong)

/-- 'godownlaw17.SnapsBack': WHATEVER THE INPUT: true; the input reads as it did. -/
def snapsBackSpec : ChangeSpec := { name := "snapsBack", fn := fun _ => fun
  | [d1, d2, d3, d4, d5] => { results := [.lit (.bool true)], args := [d1, d2, d3, d4, d5] }
  | _ => none }
def snapsBackRow : OpenClaim := { program := "ytoabkbnhdekbdaagreat", sum := "0cfb5fbc9234d72bde227c8b098d39b45e7413271619050fdaf2688cadea137a", func := "godown/godownlaw17.SnapsBack", spec := "snapsBack", inPlace := ["internal/bytealg.IndexByteString", "internal/bytealg.IndexString"], unfollowed := true, recurses := true, named := ["internal/bytealg.MaxLen"], apart := false }
def SnapsBackSaid : Prop := snapsBackRow.holds Tryz.pinned (OpenSpec.ofChange snapsBackSpec)

/-- ITS FALSE NEIGHBOUR: 'it returns false'. Refute it at one input. -/
def snapsBackWrong : ChangeSpec := { name := "snapsBack", fn := fun _ => fun
  | [d1, d2, d3, d4, d5] => { results := [.lit (.bool false)], args := [d1, d2, d3, d4, d5] }
  | _ => none }
def SnapsBackWrongFalsely : Prop := snapsBackRow.holds Tryz.pinned (OpenSpec.ofChange snapsBackWrong)

/-- 'godownlaw17.SnapsMay': WHATEVER THE INPUT: true; the input reads as it did. -/
def snapsMaySpec : ChangeSpec := { name := "snapsMay", fn := fun _ => fun
  | [d1, d2, d3, d4] => { results := [.lit (.bool true)], args := [d1, d2, d3, d4] }
  | _ => none }
def snapsMayRow : OpenClaim := { program := "ytoabkbnhdekbdaagreat", sum := "0cfb5fbc9234d72bde227c8b098d39b45e7413271619050fdaf2688cadea137a", func := "godown/godownlaw17.SnapsMay", spec := "snapsMay", inPlace := ["internal/bytealg.IndexByteString", "internal/bytealg.IndexString"], unfollowed := true, recurses := true, named := ["internal/bytealg.MaxLen"], apart := false }
def SnapsMaySaid : Prop := snapsMayRow.holds Tryz.pinned (OpenSpec.ofChange snapsMaySpec)

/-- ITS FALSE NEIGHBOUR: 'it returns false'. Refute it at one input. -/
def snapsMayWrong : ChangeSpec := { name := "snapsMay", fn := fun _ => fun
  | [d1, d2, d3, d4] => { results := [.lit (.bool false)], args := [d1, d2, d3, d4] }
  | _ => none }
def SnapsMayWrongFalsely : Prop := snapsMayRow.holds Tryz.pinned (OpenSpec.ofChange snapsMayWrong)

/-- 'godownlaw17.SnapsClones': WHATEVER THE INPUT: true; the input reads as it did. -/
def snapsClonesSpec : ChangeSpec := { name := "snapsClones", fn := fun _ => fun
  | [d1, d2, d3, d4, d5] => { results := [.lit (.bool true)], args := [d1, d2, d3, d4, d5] }
  | _ => none }
def snapsClonesRow : OpenClaim := { program := "ytoabkbnhdekbdaagreat", sum := "0cfb5fbc9234d72bde227c8b098d39b45e7413271619050fdaf2688cadea137a", func := "godown/godownlaw17.SnapsClones", spec := "snapsClones", inPlace := ["internal/bytealg.IndexByteString", "internal/bytealg.IndexString"], unfollowed := true, recurses := true, named := ["internal/bytealg.MaxLen"], apart := false }
def SnapsClonesSaid : Prop := snapsClonesRow.holds Tryz.pinned (OpenSpec.ofChange snapsClonesSpec)

/-- ITS FALSE NEIGHBOUR: 'it returns false'. Refute it at one input. -/
def snapsClonesWrong : ChangeSpec := { name := "snapsClones", fn := fun _ => fun
  | [d1, d2, d3, d4, d5] => { results := [.lit (.bool false)], args := [d1, d2, d3, d4, d5] }
  | _ => none }
def SnapsClonesWrongFalsely : Prop := snapsClonesRow.holds Tryz.pinned (OpenSpec.ofChange snapsClonesWrong)

/-- 'godownlaw17.SnapsOwn': WHATEVER THE INPUT: true; the input reads as it did. -/
def snapsOwnSpec : ChangeSpec := { name := "snapsOwn", fn := fun _ => fun
  | [d1, d2, d3, d4] => { results := [.lit (.bool true)], args := [d1, d2, d3, d4] }
  | _ => none }
def snapsOwnRow : OpenClaim := { program := "ytoabkbnhdekbdaagreat", sum := "0cfb5fbc9234d72bde227c8b098d39b45e7413271619050fdaf2688cadea137a", func := "godown/godownlaw17.SnapsOwn", spec := "snapsOwn", inPlace := ["internal/bytealg.IndexByteString", "internal/bytealg.IndexString"], unfollowed := true, recurses := true, named := ["internal/bytealg.MaxLen"], apart := false }
def SnapsOwnSaid : Prop := snapsOwnRow.holds Tryz.pinned (OpenSpec.ofChange snapsOwnSpec)

/-- ITS FALSE NEIGHBOUR: 'it returns false'. Refute it at one input. -/
def snapsOwnWrong : ChangeSpec := { name := "snapsOwn", fn := fun _ => fun
  | [d1, d2, d3, d4] => { results := [.lit (.bool false)], args := [d1, d2, d3, d4] }
  | _ => none }
def SnapsOwnWrongFalsely : Prop := snapsOwnRow.holds Tryz.pinned (OpenSpec.ofChange snapsOwnWrong)

/- THE SECOND FORM. 'bulk': how many values and letters a reading holds, each counted each time it is reached (what is shared counts as often as it is met; a slice's spare places count too). A statement '..UptoSaid' is the law's where the arguments, and the package variables that the reading takes, are together of bulk at most 1048576: NARROWER than '..Said'. Prove '..Said' where nothing that the law and all that it calls make is longer than what came in: it says more and counts as full. Else prove '..UptoSaid'. A law counts once. -/
mutual
def uptoBulk {H : Type} : DataW H → Nat
  | .lit (.string bytes) => bytes.length + 1
  | .lit _ => 1
  | .nil => 1
  | .ptr d => uptoBulk d + 1
  | .slice elems spare => uptoBulkAll elems + uptoBulkAll spare + 1
  | .agg parts => uptoBulkAll parts + 1
  | .iface _ d => uptoBulk d + 1
  | .map entries => uptoBulkEntries entries + 1
  | .held _ => 1
def uptoBulkAll {H : Type} : List (DataW H) → Nat
  | [] => 0
  | d :: r => uptoBulk d + uptoBulkAll r
def uptoBulkEntries {H : Type} : List (Lit × DataW H) → Nat
  | [] => 0
  | x :: r => uptoBulkEntry x + uptoBulkEntries r
def uptoBulkEntry {H : Type} : Lit × DataW H → Nat
  | (.string bytes, d) => bytes.length + uptoBulk d + 1
  | (_, d) => uptoBulk d + 1
 end
def uptoSmall : (H : Type) → List (DataW H) → Bool := fun _ ds => decide (uptoBulkAll ds ≤ 1048576)
def OpenSpec.upto (s : _root_.Go.ChangeSpec) : _root_.Go.OpenSpec := { _root_.Go.OpenSpec.ofChange s with cond := some uptoSmall }

/-- 'godownlaw16.ShapeTurns', WHERE WHAT IT READS IS OF BULK AT MOST 1048576: true; the input reads as it did. -/
def shapeTurnsUptoRow : OpenClaim := { program := "ytoabkbnhdekbdaagreat", sum := "0cfb5fbc9234d72bde227c8b098d39b45e7413271619050fdaf2688cadea137a", func := "godown/godownlaw16.ShapeTurns", spec := "shapeTurns", inPlace := ["internal/bytealg.IndexByteString", "internal/bytealg.IndexString"], unfollowed := true, recurses := true, named := ["internal/bytealg.MaxLen"], apart := false, narrowed := true }
def ShapeTurnsUptoSaid : Prop := shapeTurnsUptoRow.holds Tryz.pinned (OpenSpec.upto shapeTurnsSpec)

/-- 'godownlaw16.ShapeOwn', WHERE WHAT IT READS IS OF BULK AT MOST 1048576: true; the input reads as it did. -/
def shapeOwnUptoRow : OpenClaim := { program := "ytoabkbnhdekbdaagreat", sum := "0cfb5fbc9234d72bde227c8b098d39b45e7413271619050fdaf2688cadea137a", func := "godown/godownlaw16.ShapeOwn", spec := "shapeOwn", inPlace := ["internal/bytealg.IndexByteString", "internal/bytealg.IndexString"], unfollowed := true, recurses := true, named := ["internal/bytealg.MaxLen"], apart := false, narrowed := true }
def ShapeOwnUptoSaid : Prop := shapeOwnUptoRow.holds Tryz.pinned (OpenSpec.upto shapeOwnSpec)

/-- 'godownlaw17.SnapsTells', WHERE WHAT IT READS IS OF BULK AT MOST 1048576: true; the input reads as it did. -/
def snapsTellsUptoRow : OpenClaim := { program := "ytoabkbnhdekbdaagreat", sum := "0cfb5fbc9234d72bde227c8b098d39b45e7413271619050fdaf2688cadea137a", func := "godown/godownlaw17.SnapsTells", spec := "snapsTells", inPlace := ["internal/bytealg.IndexByteString", "internal/bytealg.IndexString"], unfollowed := true, recurses := true, named := ["internal/bytealg.MaxLen"], apart := false, narrowed := true }
def SnapsTellsUptoSaid : Prop := snapsTellsUptoRow.holds Tryz.pinned (OpenSpec.upto snapsTellsSpec)

/-- 'godownlaw17.SnapsBack', WHERE WHAT IT READS IS OF BULK AT MOST 1048576: true; the input reads as it did. -/
def snapsBackUptoRow : OpenClaim := { program := "ytoabkbnhdekbdaagreat", sum := "0cfb5fbc9234d72bde227c8b098d39b45e7413271619050fdaf2688cadea137a", func := "godown/godownlaw17.SnapsBack", spec := "snapsBack", inPlace := ["internal/bytealg.IndexByteString", "internal/bytealg.IndexString"], unfollowed := true, recurses := true, named := ["internal/bytealg.MaxLen"], apart := false, narrowed := true }
def SnapsBackUptoSaid : Prop := snapsBackUptoRow.holds Tryz.pinned (OpenSpec.upto snapsBackSpec)

/-- 'godownlaw17.SnapsMay', WHERE WHAT IT READS IS OF BULK AT MOST 1048576: true; the input reads as it did. -/
def snapsMayUptoRow : OpenClaim := { program := "ytoabkbnhdekbdaagreat", sum := "0cfb5fbc9234d72bde227c8b098d39b45e7413271619050fdaf2688cadea137a", func := "godown/godownlaw17.SnapsMay", spec := "snapsMay", inPlace := ["internal/bytealg.IndexByteString", "internal/bytealg.IndexString"], unfollowed := true, recurses := true, named := ["internal/bytealg.MaxLen"], apart := false, narrowed := true }
def SnapsMayUptoSaid : Prop := snapsMayUptoRow.holds Tryz.pinned (OpenSpec.upto snapsMaySpec)

/-- 'godownlaw17.SnapsClones', WHERE WHAT IT READS IS OF BULK AT MOST 1048576: true; the input reads as it did. -/
def snapsClonesUptoRow : OpenClaim := { program := "ytoabkbnhdekbdaagreat", sum := "0cfb5fbc9234d72bde227c8b098d39b45e7413271619050fdaf2688cadea137a", func := "godown/godownlaw17.SnapsClones", spec := "snapsClones", inPlace := ["internal/bytealg.IndexByteString", "internal/bytealg.IndexString"], unfollowed := true, recurses := true, named := ["internal/bytealg.MaxLen"], apart := false, narrowed := true }
def SnapsClonesUptoSaid : Prop := snapsClonesUptoRow.holds Tryz.pinned (OpenSpec.upto snapsClonesSpec)

/-- 'godownlaw17.SnapsOwn', WHERE WHAT IT READS IS OF BULK AT MOST 1048576: true; the input reads as it did. -/
def snapsOwnUptoRow : OpenClaim := { program := "ytoabkbnhdekbdaagreat", sum := "0cfb5fbc9234d72bde227c8b098d39b45e7413271619050fdaf2688cadea137a", func := "godown/godownlaw17.SnapsOwn", spec := "snapsOwn", inPlace := ["internal/bytealg.IndexByteString", "internal/bytealg.IndexString"], unfollowed := true, recurses := true, named := ["internal/bytealg.MaxLen"], apart := false, narrowed := true }
def SnapsOwnUptoSaid : Prop := snapsOwnUptoRow.holds Tryz.pinned (OpenSpec.upto snapsOwnSpec)

end Rows
end Go.Proofs.YtoabkbnhdekbdaaGreat
