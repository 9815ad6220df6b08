/-
  No cell of these rows narrows 'for every input' (looked for: loops, veiled, ifaces, maps, wideKeys, modest, calm, conditions, laid).
  DERIVED. THE GIVEN ROWS OF THIS SEAT. 4 by the template 'for every input the law returns true; each argument reads behind the call as it read before'; 0 by the template 'total and deterministic' (their statements: YtlondbfileohgaaTotals.lean).
  GIVEN WITH THE SEED: the statements are not yours to turn. If you find one false, say at which input.
  Laid BY PROGRAM, IN A SANDBOX (cutbox-rows.mjs): the forced cells as the released guide's own fill.sh prints them over the translation f80e19621e127df4… (all of the seat's roots in one cut). By AI agents, Wed Nov 11 2026. No macro, syntax, notation, axiom, sorry.
-/
import Derived.Test.YtlondbfileohgaaChecked
import GoSem.Claim
import GoSem.ClaimJoined
import GoSem.ClaimMapViews
import Derived.JoinedTies
import Derived.KernelRfl
namespace Go.Proofs.Ytlondbfileohgaa
/- THE CELL 'sum', in the pinned program and in every row, IS THE sha256 OF THE DUMP (.gsa) THAT YtlondbfileohgaaProg.lean LOADS. Nothing in Lean hashes anything: it is a label: what it is worth is what the hold of that sum in a sandbox is worth. -/
noncomputable def Try.pinned : Pinned := { name := "ytlondbfileohgaa", sum := "f80e19621e127df412e85c5302827735887c1a36a8c680f9663d8ef308994b8d", checked := Try.checked }
namespace Rows
def none {H : Type} : Left H := { results := [], args := [] }

/-- 'godownlaw05.FieldsTells': WHATEVER THE INPUT: true; the input reads as it did. -/
def fieldsTellsSpec : ChangeSpec := { name := "fieldsTells", fn := fun _ => fun
  | [d1, d2, d3, d4] => { results := [.lit (.bool true)], args := [d1, d2, d3, d4] }
  | _ => none }
def fieldsTellsRow : OpenClaim := { program := "ytlondbfileohgaa", sum := "f80e19621e127df412e85c5302827735887c1a36a8c680f9663d8ef308994b8d", func := "godown/godownlaw05.FieldsTells", spec := "fieldsTells", apart := false }
def FieldsTellsSaid : Prop := fieldsTellsRow.holds Try.pinned (OpenSpec.ofChange fieldsTellsSpec)

/-- ITS FALSE NEIGHBOUR: 'it returns false'. Refute it at one input. -/
def fieldsTellsWrong : ChangeSpec := { name := "fieldsTells", fn := fun _ => fun
  | [d1, d2, d3, d4] => { results := [.lit (.bool false)], args := [d1, d2, d3, d4] }
  | _ => none }
def FieldsTellsWrongFalsely : Prop := fieldsTellsRow.holds Try.pinned (OpenSpec.ofChange fieldsTellsWrong)

/-- 'godownlaw05.FieldsBack': WHATEVER THE INPUT: true; the input reads as it did. -/
def fieldsBackSpec : ChangeSpec := { name := "fieldsBack", fn := fun _ => fun
  | [d1, d2] => { results := [.lit (.bool true)], args := [d1, d2] }
  | _ => none }
def fieldsBackRow : OpenClaim := { program := "ytlondbfileohgaa", sum := "f80e19621e127df412e85c5302827735887c1a36a8c680f9663d8ef308994b8d", func := "godown/godownlaw05.FieldsBack", spec := "fieldsBack", apart := false }
def FieldsBackSaid : Prop := fieldsBackRow.holds Try.pinned (OpenSpec.ofChange fieldsBackSpec)

/-- ITS FALSE NEIGHBOUR: 'it returns false'. Refute it at one input. -/
def fieldsBackWrong : ChangeSpec := { name := "fieldsBack", fn := fun _ => fun
  | [d1, d2] => { results := [.lit (.bool false)], args := [d1, d2] }
  | _ => none }
def FieldsBackWrongFalsely : Prop := fieldsBackRow.holds Try.pinned (OpenSpec.ofChange fieldsBackWrong)

/-- 'godownlaw05.FieldsCuts': WHATEVER THE INPUT: true; the input reads as it did. -/
def fieldsCutsSpec : ChangeSpec := { name := "fieldsCuts", fn := fun _ => fun
  | [d1, d2, d3] => { results := [.lit (.bool true)], args := [d1, d2, d3] }
  | _ => none }
def fieldsCutsRow : OpenClaim := { program := "ytlondbfileohgaa", sum := "f80e19621e127df412e85c5302827735887c1a36a8c680f9663d8ef308994b8d", func := "godown/godownlaw05.FieldsCuts", spec := "fieldsCuts", apart := false }
def FieldsCutsSaid : Prop := fieldsCutsRow.holds Try.pinned (OpenSpec.ofChange fieldsCutsSpec)

/-- ITS FALSE NEIGHBOUR: 'it returns false'. Refute it at one input. -/
def fieldsCutsWrong : ChangeSpec := { name := "fieldsCuts", fn := fun _ => fun
  | [d1, d2, d3] => { results := [.lit (.bool false)], args := [d1, d2, d3] }
  | _ => none }
def FieldsCutsWrongFalsely : Prop := fieldsCutsRow.holds Try.pinned (OpenSpec.ofChange fieldsCutsWrong)

/-- 'godownlaw05.FieldsNumbers': WHATEVER THE INPUT: true; the input reads as it did. -/
def fieldsNumbersSpec : ChangeSpec := { name := "fieldsNumbers", fn := fun _ => fun
  | [d] => { results := [.lit (.bool true)], args := [d] }
  | _ => none }
def fieldsNumbersRow : OpenClaim := { program := "ytlondbfileohgaa", sum := "f80e19621e127df412e85c5302827735887c1a36a8c680f9663d8ef308994b8d", func := "godown/godownlaw05.FieldsNumbers", spec := "fieldsNumbers", apart := false }
def FieldsNumbersSaid : Prop := fieldsNumbersRow.holds Try.pinned (OpenSpec.ofChange fieldsNumbersSpec)

/-- ITS FALSE NEIGHBOUR: 'it returns false'. Refute it at one input. -/
def fieldsNumbersWrong : ChangeSpec := { name := "fieldsNumbers", fn := fun _ => fun
  | [d] => { results := [.lit (.bool false)], args := [d] }
  | _ => none }
def FieldsNumbersWrongFalsely : Prop := fieldsNumbersRow.holds Try.pinned (OpenSpec.ofChange fieldsNumbersWrong)

/- THE SECOND FORM. 'bulk': how many values and letters a reading holds, each counted each time it is reached (what is shared counts as often as it is met; a slice's spare places count too). A statement '..UptoSaid' is the law's where the arguments, and the package variables that the reading takes, are together of bulk at most 1048576: NARROWER than '..Said'. Prove '..Said' where nothing that the law and all that it calls make is longer than what came in: it says more and counts as full. Else prove '..UptoSaid'. A law counts once. -/
mutual
def uptoBulk {H : Type} : DataW H → Nat
  | .lit (.string bytes) => bytes.length + 1
  | .lit _ => 1
  | .nil => 1
  | .ptr d => uptoBulk d + 1
  | .slice elems spare => uptoBulkAll elems + uptoBulkAll spare + 1
  | .agg parts => uptoBulkAll parts + 1
  | .iface _ d => uptoBulk d + 1
  | .map entries => uptoBulkEntries entries + 1
  | .held _ => 1
def uptoBulkAll {H : Type} : List (DataW H) → Nat
  | [] => 0
  | d :: r => uptoBulk d + uptoBulkAll r
def uptoBulkEntries {H : Type} : List (Lit × DataW H) → Nat
  | [] => 0
  | x :: r => uptoBulkEntry x + uptoBulkEntries r
def uptoBulkEntry {H : Type} : Lit × DataW H → Nat
  | (.string bytes, d) => bytes.length + uptoBulk d + 1
  | (_, d) => uptoBulk d + 1
 end
def uptoSmall : (H : Type) → List (DataW H) → Bool := fun _ ds => decide (uptoBulkAll ds ≤ 1048576)
def OpenSpec.upto (s : _root_.Go.ChangeSpec) : _root_.Go.OpenSpec := { _root_.Go.OpenSpec.ofChange s with cond := some uptoSmall }

/-- 'godownlaw05.FieldsTells', WHERE WHAT IT READS IS OF BULK AT MOST 1048576: true; the input reads as it did. -/
def fieldsTellsUptoRow : OpenClaim := { program := "ytlondbfileohgaa", sum := "f80e19621e127df412e85c5302827735887c1a36a8c680f9663d8ef308994b8d", func := "godown/godownlaw05.FieldsTells", spec := "fieldsTells", apart := false, narrowed := true }
def FieldsTellsUptoSaid : Prop := fieldsTellsUptoRow.holds Try.pinned (OpenSpec.upto fieldsTellsSpec)

/-- 'godownlaw05.FieldsBack', WHERE WHAT IT READS IS OF BULK AT MOST 1048576: true; the input reads as it did. -/
def fieldsBackUptoRow : OpenClaim := { program := "ytlondbfileohgaa", sum := "f80e19621e127df412e85c5302827735887c1a36a8c680f9663d8ef308994b8d", func := "godown/godownlaw05.FieldsBack", spec := "fieldsBack", apart := false, narrowed := true }
def FieldsBackUptoSaid : Prop := fieldsBackUptoRow.holds Try.pinned (OpenSpec.upto fieldsBackSpec)

/-- 'godownlaw05.FieldsCuts', WHERE WHAT IT READS IS OF BULK AT MOST 1048576: true; the input reads as it did. -/
def fieldsCutsUptoRow : OpenClaim := { program := "ytlondbfileohgaa", sum := "f80e19621e127df412e85c5302827735887c1a36a8c680f9663d8ef308994b8d", func := "godown/godownlaw05.FieldsCuts", spec := "fieldsCuts", apart := false, narrowed := true }
def FieldsCutsUptoSaid : Prop := fieldsCutsUptoRow.holds Try.pinned (OpenSpec.upto fieldsCutsSpec)

/-- 'godownlaw05.FieldsNumbers', WHERE WHAT IT READS IS OF BULK AT MOST 1048576: true; the input reads as it did. -/
def fieldsNumbersUptoRow : OpenClaim := { program := "ytlondbfileohgaa", sum := "f80e19621e127df412e85c5302827735887c1a36a8c680f9663d8ef308994b8d", func := "godown/godownlaw05.FieldsNumbers", spec := "fieldsNumbers", apart := false, narrowed := true }
def FieldsNumbersUptoSaid : Prop := fieldsNumbersUptoRow.holds Try.pinned (OpenSpec.upto fieldsNumbersSpec)

end Rows
end Go.Proofs.Ytlondbfileohgaa
