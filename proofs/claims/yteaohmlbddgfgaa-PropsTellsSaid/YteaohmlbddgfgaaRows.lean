/-
  No cell of these rows narrows 'for every input' (looked for: loops, veiled, ifaces, maps, wideKeys, modest, calm, conditions, laid).
  DERIVED. THE GIVEN ROWS OF THIS SEAT. 4 by the template 'for every input the law returns true; each argument reads behind the call as it read before'; 0 by the template 'total and deterministic' (their statements: YteaohmlbddgfgaaTotals.lean).
  GIVEN WITH THE SEED: the statements are not yours to turn. If you find one false, say at which input.
  Laid BY PROGRAM, IN A SANDBOX (cutbox-rows.mjs): the forced cells as the released guide's own fill.sh prints them over the translation 52fc16d2b3b7ba61… (all of the seat's roots in one cut). By AI agents, Wed Nov 11 2026. No macro, syntax, notation, axiom, sorry.
-/
import Derived.Test.YteaohmlbddgfgaaChecked
import GoSem.Claim
import GoSem.ClaimJoined
import GoSem.ClaimMapViews
import Derived.JoinedTies
import Derived.KernelRfl
namespace Go.Proofs.Yteaohmlbddgfgaa
/- THE CELL 'sum', in the pinned program and in every row, IS THE sha256 OF THE DUMP (.gsa) THAT YteaohmlbddgfgaaProg.lean LOADS. Nothing in Lean hashes anything: it is a label: what it is worth is what the hold of that sum in a sandbox is worth. -/
noncomputable def Try.pinned : Pinned := { name := "yteaohmlbddgfgaa", sum := "52fc16d2b3b7ba61b0852dfa1b18cb88045f1e6d7a61cca19fc6607b2a8dcadc", checked := Try.checked }
namespace Rows
def none {H : Type} : Left H := { results := [], args := [] }

/-- 'godownlaw12.PropsTells': WHATEVER THE INPUT: true; the input reads as it did. -/
def propsTellsSpec : ChangeSpec := { name := "propsTells", fn := fun _ => fun
  | [d1, d2, d3] => { results := [.lit (.bool true)], args := [d1, d2, d3] }
  | _ => none }
def propsTellsRow : OpenClaim := { program := "yteaohmlbddgfgaa", sum := "52fc16d2b3b7ba61b0852dfa1b18cb88045f1e6d7a61cca19fc6607b2a8dcadc", func := "godown/godownlaw12.PropsTells", spec := "propsTells", unfollowed := true, recurses := true, apart := false }
def PropsTellsSaid : Prop := propsTellsRow.holds Try.pinned (OpenSpec.ofChange propsTellsSpec)

/-- ITS FALSE NEIGHBOUR: 'it returns false'. Refute it at one input. -/
def propsTellsWrong : ChangeSpec := { name := "propsTells", fn := fun _ => fun
  | [d1, d2, d3] => { results := [.lit (.bool false)], args := [d1, d2, d3] }
  | _ => none }
def PropsTellsWrongFalsely : Prop := propsTellsRow.holds Try.pinned (OpenSpec.ofChange propsTellsWrong)

/-- 'godownlaw12.PropsOver': WHATEVER THE INPUT: true; the input reads as it did. -/
def propsOverSpec : ChangeSpec := { name := "propsOver", fn := fun _ => fun
  | [d1, d2, d3] => { results := [.lit (.bool true)], args := [d1, d2, d3] }
  | _ => none }
def propsOverRow : OpenClaim := { program := "yteaohmlbddgfgaa", sum := "52fc16d2b3b7ba61b0852dfa1b18cb88045f1e6d7a61cca19fc6607b2a8dcadc", func := "godown/godownlaw12.PropsOver", spec := "propsOver", unfollowed := true, recurses := true, apart := false }
def PropsOverSaid : Prop := propsOverRow.holds Try.pinned (OpenSpec.ofChange propsOverSpec)

/-- ITS FALSE NEIGHBOUR: 'it returns false'. Refute it at one input. -/
def propsOverWrong : ChangeSpec := { name := "propsOver", fn := fun _ => fun
  | [d1, d2, d3] => { results := [.lit (.bool false)], args := [d1, d2, d3] }
  | _ => none }
def PropsOverWrongFalsely : Prop := propsOverRow.holds Try.pinned (OpenSpec.ofChange propsOverWrong)

/-- 'godownlaw12.PropsForce': WHATEVER THE INPUT: true; the input reads as it did. -/
def propsForceSpec : ChangeSpec := { name := "propsForce", fn := fun _ => fun
  | [d1, d2, d3] => { results := [.lit (.bool true)], args := [d1, d2, d3] }
  | _ => none }
def propsForceRow : OpenClaim := { program := "yteaohmlbddgfgaa", sum := "52fc16d2b3b7ba61b0852dfa1b18cb88045f1e6d7a61cca19fc6607b2a8dcadc", func := "godown/godownlaw12.PropsForce", spec := "propsForce", unfollowed := true, recurses := true, apart := false }
def PropsForceSaid : Prop := propsForceRow.holds Try.pinned (OpenSpec.ofChange propsForceSpec)

/-- ITS FALSE NEIGHBOUR: 'it returns false'. Refute it at one input. -/
def propsForceWrong : ChangeSpec := { name := "propsForce", fn := fun _ => fun
  | [d1, d2, d3] => { results := [.lit (.bool false)], args := [d1, d2, d3] }
  | _ => none }
def PropsForceWrongFalsely : Prop := propsForceRow.holds Try.pinned (OpenSpec.ofChange propsForceWrong)

/-- 'godownlaw12.PropsBack': WHATEVER THE INPUT: true; the input reads as it did. -/
def propsBackSpec : ChangeSpec := { name := "propsBack", fn := fun _ => fun
  | [d1, d2] => { results := [.lit (.bool true)], args := [d1, d2] }
  | _ => none }
def propsBackRow : OpenClaim := { program := "yteaohmlbddgfgaa", sum := "52fc16d2b3b7ba61b0852dfa1b18cb88045f1e6d7a61cca19fc6607b2a8dcadc", func := "godown/godownlaw12.PropsBack", spec := "propsBack", unfollowed := true, recurses := true, apart := false }
def PropsBackSaid : Prop := propsBackRow.holds Try.pinned (OpenSpec.ofChange propsBackSpec)

/-- ITS FALSE NEIGHBOUR: 'it returns false'. Refute it at one input. -/
def propsBackWrong : ChangeSpec := { name := "propsBack", fn := fun _ => fun
  | [d1, d2] => { results := [.lit (.bool false)], args := [d1, d2] }
  | _ => none }
def PropsBackWrongFalsely : Prop := propsBackRow.holds Try.pinned (OpenSpec.ofChange propsBackWrong)

/- THE SECOND FORM. 'bulk': how many values and letters a reading holds, each counted each time it is reached (what is shared counts as often as it is met; a slice's spare places count too). A statement '..UptoSaid' is the law's where the arguments, and the package variables that the reading takes, are together of bulk at most 1048576: NARROWER than '..Said'. Prove '..Said' where nothing that the law and all that it calls make is longer than what came in: it says more and counts as full. Else prove '..UptoSaid'. A law counts once. -/
mutual
def uptoBulk {H : Type} : DataW H → Nat
  | .lit (.string bytes) => bytes.length + 1
  | .lit _ => 1
  | .nil => 1
  | .ptr d => uptoBulk d + 1
  | .slice elems spare => uptoBulkAll elems + uptoBulkAll spare + 1
  | .agg parts => uptoBulkAll parts + 1
  | .iface _ d => uptoBulk d + 1
  | .map entries => uptoBulkEntries entries + 1
  | .held _ => 1
def uptoBulkAll {H : Type} : List (DataW H) → Nat
  | [] => 0
  | d :: r => uptoBulk d + uptoBulkAll r
def uptoBulkEntries {H : Type} : List (Lit × DataW H) → Nat
  | [] => 0
  | x :: r => uptoBulkEntry x + uptoBulkEntries r
def uptoBulkEntry {H : Type} : Lit × DataW H → Nat
  | (.string bytes, d) => bytes.length + uptoBulk d + 1
  | (_, d) => uptoBulk d + 1
 end
def uptoSmall : (H : Type) → List (DataW H) → Bool := fun _ ds => decide (uptoBulkAll ds ≤ 1048576)
def OpenSpec.upto (s : _root_.Go.ChangeSpec) : _root_.Go.OpenSpec := { _root_.Go.OpenSpec.ofChange s with cond := some uptoSmall }

/-- 'godownlaw12.PropsTells', WHERE WHAT IT READS IS OF BULK AT MOST 1048576: true; the input reads as it did. -/
def propsTellsUptoRow : OpenClaim := { program := "yteaohmlbddgfgaa", sum := "52fc16d2b3b7ba61b0852dfa1b18cb88045f1e6d7a61cca19fc6607b2a8dcadc", func := "godown/godownlaw12.PropsTells", spec := "propsTells", unfollowed := true, recurses := true, apart := false, narrowed := true }
def PropsTellsUptoSaid : Prop := propsTellsUptoRow.holds Try.pinned (OpenSpec.upto propsTellsSpec)

/-- 'godownlaw12.PropsOver', WHERE WHAT IT READS IS OF BULK AT MOST 1048576: true; the input reads as it did. -/
def propsOverUptoRow : OpenClaim := { program := "yteaohmlbddgfgaa", sum := "52fc16d2b3b7ba61b0852dfa1b18cb88045f1e6d7a61cca19fc6607b2a8dcadc", func := "godown/godownlaw12.PropsOver", spec := "propsOver", unfollowed := true, recurses := true, apart := false, narrowed := true }
def PropsOverUptoSaid : Prop := propsOverUptoRow.holds Try.pinned (OpenSpec.upto propsOverSpec)

/-- 'godownlaw12.PropsForce', WHERE WHAT IT READS IS OF BULK AT MOST 1048576: true; the input reads as it did. -/
def propsForceUptoRow : OpenClaim := { program := "yteaohmlbddgfgaa", sum := "52fc16d2b3b7ba61b0852dfa1b18cb88045f1e6d7a61cca19fc6607b2a8dcadc", func := "godown/godownlaw12.PropsForce", spec := "propsForce", unfollowed := true, recurses := true, apart := false, narrowed := true }
def PropsForceUptoSaid : Prop := propsForceUptoRow.holds Try.pinned (OpenSpec.upto propsForceSpec)

/-- 'godownlaw12.PropsBack', WHERE WHAT IT READS IS OF BULK AT MOST 1048576: true; the input reads as it did. -/
def propsBackUptoRow : OpenClaim := { program := "yteaohmlbddgfgaa", sum := "52fc16d2b3b7ba61b0852dfa1b18cb88045f1e6d7a61cca19fc6607b2a8dcadc", func := "godown/godownlaw12.PropsBack", spec := "propsBack", unfollowed := true, recurses := true, apart := false, narrowed := true }
def PropsBackUptoSaid : Prop := propsBackUptoRow.holds Try.pinned (OpenSpec.upto propsBackSpec)

end Rows
end Go.Proofs.Yteaohmlbddgfgaa
