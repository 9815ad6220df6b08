/-
  No cell of these rows narrows 'for every input' (looked for: loops, veiled, ifaces, maps, wideKeys, modest, calm, conditions, laid).
  DERIVED. THE GIVEN ROWS OF THIS SEAT. 4 by the template 'for every input the law returns true; each argument reads behind the call as it read before'; 0 by the template 'total and deterministic' (their statements: YtlcjdhmgpbnnmaaTotals.lean).
  GIVEN WITH THE SEED: the statements are not yours to turn. If you find one false, say at which input.
  Laid BY PROGRAM, IN A SANDBOX (cutbox-rows.mjs): the forced cells as the released guide's own fill.sh prints them over the translation af8fd0be547d3dbb… (all of the seat's roots in one cut). By AI agents, Wed Nov 11 2026. No macro, syntax, notation, axiom, sorry.
-/
import Derived.Test.YtlcjdhmgpbnnmaaChecked
import GoSem.Claim
import GoSem.ClaimJoined
import GoSem.ClaimMapViews
import Derived.JoinedTies
import Derived.KernelRfl
namespace Go.Proofs.Ytlcjdhmgpbnnmaa
/- THE CELL 'sum', in the pinned program and in every row, IS THE sha256 OF THE DUMP (.gsa) THAT YtlcjdhmgpbnnmaaProg.lean LOADS. Nothing in Lean hashes anything: it is a label: what it is worth is what the hold of that sum in a sandbox is worth. -/
noncomputable def Try.pinned : Pinned := { name := "ytlcjdhmgpbnnmaa", sum := "af8fd0be547d3dbb7746739bd25df7d040d762eb41369ff5275d91d39d3658a2", checked := Try.checked }
namespace Rows
def none {H : Type} : Left H := { results := [], args := [] }

/-- 'godownlaw08.UberTells': WHATEVER THE INPUT: true; the input reads as it did. -/
def uberTellsSpec : ChangeSpec := { name := "uberTells", fn := fun _ => fun
  | [d1, d2] => { results := [.lit (.bool true)], args := [d1, d2] }
  | _ => none }
def uberTellsRow : OpenClaim := { program := "ytlcjdhmgpbnnmaa", sum := "af8fd0be547d3dbb7746739bd25df7d040d762eb41369ff5275d91d39d3658a2", func := "godown/godownlaw08.UberTells", spec := "uberTells", unfollowed := true, recurses := true, apart := false }
def UberTellsSaid : Prop := uberTellsRow.holds Try.pinned (OpenSpec.ofChange uberTellsSpec)

/-- ITS FALSE NEIGHBOUR: 'it returns false'. Refute it at one input. -/
def uberTellsWrong : ChangeSpec := { name := "uberTells", fn := fun _ => fun
  | [d1, d2] => { results := [.lit (.bool false)], args := [d1, d2] }
  | _ => none }
def UberTellsWrongFalsely : Prop := uberTellsRow.holds Try.pinned (OpenSpec.ofChange uberTellsWrong)

/-- 'godownlaw08.UberBack': WHATEVER THE INPUT: true; the input reads as it did. -/
def uberBackSpec : ChangeSpec := { name := "uberBack", fn := fun _ => fun
  | [d1, d2] => { results := [.lit (.bool true)], args := [d1, d2] }
  | _ => none }
def uberBackRow : OpenClaim := { program := "ytlcjdhmgpbnnmaa", sum := "af8fd0be547d3dbb7746739bd25df7d040d762eb41369ff5275d91d39d3658a2", func := "godown/godownlaw08.UberBack", spec := "uberBack", unfollowed := true, recurses := true, apart := false }
def UberBackSaid : Prop := uberBackRow.holds Try.pinned (OpenSpec.ofChange uberBackSpec)

/-- ITS FALSE NEIGHBOUR: 'it returns false'. Refute it at one input. -/
def uberBackWrong : ChangeSpec := { name := "uberBack", fn := fun _ => fun
  | [d1, d2] => { results := [.lit (.bool false)], args := [d1, d2] }
  | _ => none }
def UberBackWrongFalsely : Prop := uberBackRow.holds Try.pinned (OpenSpec.ofChange uberBackWrong)

/-- 'godownlaw08.UberNewest': WHATEVER THE INPUT: true; the input reads as it did. -/
def uberNewestSpec : ChangeSpec := { name := "uberNewest", fn := fun _ => fun
  | [d1, d2] => { results := [.lit (.bool true)], args := [d1, d2] }
  | _ => none }
def uberNewestRow : OpenClaim := { program := "ytlcjdhmgpbnnmaa", sum := "af8fd0be547d3dbb7746739bd25df7d040d762eb41369ff5275d91d39d3658a2", func := "godown/godownlaw08.UberNewest", spec := "uberNewest", unfollowed := true, recurses := true, apart := false }
def UberNewestSaid : Prop := uberNewestRow.holds Try.pinned (OpenSpec.ofChange uberNewestSpec)

/-- ITS FALSE NEIGHBOUR: 'it returns false'. Refute it at one input. -/
def uberNewestWrong : ChangeSpec := { name := "uberNewest", fn := fun _ => fun
  | [d1, d2] => { results := [.lit (.bool false)], args := [d1, d2] }
  | _ => none }
def UberNewestWrongFalsely : Prop := uberNewestRow.holds Try.pinned (OpenSpec.ofChange uberNewestWrong)

/-- 'godownlaw08.UberSpoilt': WHATEVER THE INPUT: true; the input reads as it did. -/
def uberSpoiltSpec : ChangeSpec := { name := "uberSpoilt", fn := fun _ => fun
  | [d1, d2, d3] => { results := [.lit (.bool true)], args := [d1, d2, d3] }
  | _ => none }
def uberSpoiltRow : OpenClaim := { program := "ytlcjdhmgpbnnmaa", sum := "af8fd0be547d3dbb7746739bd25df7d040d762eb41369ff5275d91d39d3658a2", func := "godown/godownlaw08.UberSpoilt", spec := "uberSpoilt", unfollowed := true, recurses := true, apart := false }
def UberSpoiltSaid : Prop := uberSpoiltRow.holds Try.pinned (OpenSpec.ofChange uberSpoiltSpec)

/-- ITS FALSE NEIGHBOUR: 'it returns false'. Refute it at one input. -/
def uberSpoiltWrong : ChangeSpec := { name := "uberSpoilt", fn := fun _ => fun
  | [d1, d2, d3] => { results := [.lit (.bool false)], args := [d1, d2, d3] }
  | _ => none }
def UberSpoiltWrongFalsely : Prop := uberSpoiltRow.holds Try.pinned (OpenSpec.ofChange uberSpoiltWrong)

/- THE SECOND FORM. 'bulk': how many values and letters a reading holds, each counted each time it is reached (what is shared counts as often as it is met; a slice's spare places count too). A statement '..UptoSaid' is the law's where the arguments, and the package variables that the reading takes, are together of bulk at most 1048576: NARROWER than '..Said'. Prove '..Said' where nothing that the law and all that it calls make is longer than what came in: it says more and counts as full. Else prove '..UptoSaid'. A law counts once. -/
mutual
def uptoBulk {H : Type} : DataW H → Nat
  | .lit (.string bytes) => bytes.length + 1
  | .lit _ => 1
  | .nil => 1
  | .ptr d => uptoBulk d + 1
  | .slice elems spare => uptoBulkAll elems + uptoBulkAll spare + 1
  | .agg parts => uptoBulkAll parts + 1
  | .iface _ d => uptoBulk d + 1
  | .map entries => uptoBulkEntries entries + 1
  | .held _ => 1
def uptoBulkAll {H : Type} : List (DataW H) → Nat
  | [] => 0
  | d :: r => uptoBulk d + uptoBulkAll r
def uptoBulkEntries {H : Type} : List (Lit × DataW H) → Nat
  | [] => 0
  | x :: r => uptoBulkEntry x + uptoBulkEntries r
def uptoBulkEntry {H : Type} : Lit × DataW H → Nat
  | (.string bytes, d) => bytes.length + uptoBulk d + 1
  | (_, d) => uptoBulk d + 1
 end
def uptoSmall : (H : Type) → List (DataW H) → Bool := fun _ ds => decide (uptoBulkAll ds ≤ 1048576)
def OpenSpec.upto (s : _root_.Go.ChangeSpec) : _root_.Go.OpenSpec := { _root_.Go.OpenSpec.ofChange s with cond := some uptoSmall }

/-- 'godownlaw08.UberTells', WHERE WHAT IT READS IS OF BULK AT MOST 1048576: true; the input reads as it did. -/
def uberTellsUptoRow : OpenClaim := { program := "ytlcjdhmgpbnnmaa", sum := "af8fd0be547d3dbb7746739bd25df7d040d762eb41369ff5275d91d39d3658a2", func := "godown/godownlaw08.UberTells", spec := "uberTells", unfollowed := true, recurses := true, apart := false, narrowed := true }
def UberTellsUptoSaid : Prop := uberTellsUptoRow.holds Try.pinned (OpenSpec.upto uberTellsSpec)

/-- 'godownlaw08.UberBack', WHERE WHAT IT READS IS OF BULK AT MOST 1048576: true; the input reads as it did. -/
def uberBackUptoRow : OpenClaim := { program := "ytlcjdhmgpbnnmaa", sum := "af8fd0be547d3dbb7746739bd25df7d040d762eb41369ff5275d91d39d3658a2", func := "godown/godownlaw08.UberBack", spec := "uberBack", unfollowed := true, recurses := true, apart := false, narrowed := true }
def UberBackUptoSaid : Prop := uberBackUptoRow.holds Try.pinned (OpenSpec.upto uberBackSpec)

/-- 'godownlaw08.UberNewest', WHERE WHAT IT READS IS OF BULK AT MOST 1048576: true; the input reads as it did. -/
def uberNewestUptoRow : OpenClaim := { program := "ytlcjdhmgpbnnmaa", sum := "af8fd0be547d3dbb7746739bd25df7d040d762eb41369ff5275d91d39d3658a2", func := "godown/godownlaw08.UberNewest", spec := "uberNewest", unfollowed := true, recurses := true, apart := false, narrowed := true }
def UberNewestUptoSaid : Prop := uberNewestUptoRow.holds Try.pinned (OpenSpec.upto uberNewestSpec)

/-- 'godownlaw08.UberSpoilt', WHERE WHAT IT READS IS OF BULK AT MOST 1048576: true; the input reads as it did. -/
def uberSpoiltUptoRow : OpenClaim := { program := "ytlcjdhmgpbnnmaa", sum := "af8fd0be547d3dbb7746739bd25df7d040d762eb41369ff5275d91d39d3658a2", func := "godown/godownlaw08.UberSpoilt", spec := "uberSpoilt", unfollowed := true, recurses := true, apart := false, narrowed := true }
def UberSpoiltUptoSaid : Prop := uberSpoiltUptoRow.holds Try.pinned (OpenSpec.upto uberSpoiltSpec)

end Rows
end Go.Proofs.Ytlcjdhmgpbnnmaa
