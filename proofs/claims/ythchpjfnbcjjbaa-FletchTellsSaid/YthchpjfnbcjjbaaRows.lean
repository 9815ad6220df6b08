/-
  No cell of these rows narrows 'for every input' (looked for: loops, veiled, ifaces, maps, wideKeys, modest, calm, conditions, laid).
  DERIVED. THE GIVEN ROWS OF THIS SEAT. 4 by the template 'for every input the law returns true; each argument reads behind the call as it read before'; 0 by the template 'total and deterministic' (their statements: YthchpjfnbcjjbaaTotals.lean).
  GIVEN WITH THE SEED: the statements are not yours to turn. If you find one false, say at which input.
  Laid BY PROGRAM, IN A SANDBOX (cutbox-rows.mjs): the forced cells as the released guide's own fill.sh prints them over the translation fb2a1984d047a65d… (all of the seat's roots in one cut). By AI agents, Wed Nov 11 2026. No macro, syntax, notation, axiom, sorry.
-/
import Derived.Test.YthchpjfnbcjjbaaChecked
import GoSem.Claim
import GoSem.ClaimJoined
import GoSem.ClaimMapViews
import Derived.JoinedTies
import Derived.KernelRfl
namespace Go.Proofs.Ythchpjfnbcjjbaa
/- THE CELL 'sum', in the pinned program and in every row, IS THE sha256 OF THE DUMP (.gsa) THAT YthchpjfnbcjjbaaProg.lean LOADS. Nothing in Lean hashes anything: it is a label: what it is worth is what the hold of that sum in a sandbox is worth. -/
noncomputable def Try.pinned : Pinned := { name := "ythchpjfnbcjjbaa", sum := "fb2a1984d047a65d61f6ab19502a06e362840cbbd4062f8cc8665998c8be458b", checked := Try.checked }
namespace Rows
def none {H : Type} : Left H := { results := [], args := [] }

/-- 'godownlaw04.FletchTells': WHATEVER THE INPUT: true; the input reads as it did. -/
def fletchTellsSpec : ChangeSpec := { name := "fletchTells", fn := fun _ => fun
  | [d1, d2] => { results := [.lit (.bool true)], args := [d1, d2] }
  | _ => none }
def fletchTellsRow : OpenClaim := { program := "ythchpjfnbcjjbaa", sum := "fb2a1984d047a65d61f6ab19502a06e362840cbbd4062f8cc8665998c8be458b", func := "godown/godownlaw04.FletchTells", spec := "fletchTells", unfollowed := true, recurses := true, apart := false }
def FletchTellsSaid : Prop := fletchTellsRow.holds Try.pinned (OpenSpec.ofChange fletchTellsSpec)

/-- ITS FALSE NEIGHBOUR: 'it returns false'. Refute it at one input. -/
def fletchTellsWrong : ChangeSpec := { name := "fletchTells", fn := fun _ => fun
  | [d1, d2] => { results := [.lit (.bool false)], args := [d1, d2] }
  | _ => none }
def FletchTellsWrongFalsely : Prop := fletchTellsRow.holds Try.pinned (OpenSpec.ofChange fletchTellsWrong)

/-- 'godownlaw04.FletchBack': WHATEVER THE INPUT: true; the input reads as it did. -/
def fletchBackSpec : ChangeSpec := { name := "fletchBack", fn := fun _ => fun
  | [d] => { results := [.lit (.bool true)], args := [d] }
  | _ => none }
def fletchBackRow : OpenClaim := { program := "ythchpjfnbcjjbaa", sum := "fb2a1984d047a65d61f6ab19502a06e362840cbbd4062f8cc8665998c8be458b", func := "godown/godownlaw04.FletchBack", spec := "fletchBack", unfollowed := true, recurses := true, apart := false }
def FletchBackSaid : Prop := fletchBackRow.holds Try.pinned (OpenSpec.ofChange fletchBackSpec)

/-- ITS FALSE NEIGHBOUR: 'it returns false'. Refute it at one input. -/
def fletchBackWrong : ChangeSpec := { name := "fletchBack", fn := fun _ => fun
  | [d] => { results := [.lit (.bool false)], args := [d] }
  | _ => none }
def FletchBackWrongFalsely : Prop := fletchBackRow.holds Try.pinned (OpenSpec.ofChange fletchBackWrong)

/-- 'godownlaw04.FletchParts': WHATEVER THE INPUT: true; the input reads as it did. -/
def fletchPartsSpec : ChangeSpec := { name := "fletchParts", fn := fun _ => fun
  | [d1, d2, d3] => { results := [.lit (.bool true)], args := [d1, d2, d3] }
  | _ => none }
def fletchPartsRow : OpenClaim := { program := "ythchpjfnbcjjbaa", sum := "fb2a1984d047a65d61f6ab19502a06e362840cbbd4062f8cc8665998c8be458b", func := "godown/godownlaw04.FletchParts", spec := "fletchParts", apart := false }
def FletchPartsSaid : Prop := fletchPartsRow.holds Try.pinned (OpenSpec.ofChange fletchPartsSpec)

/-- ITS FALSE NEIGHBOUR: 'it returns false'. Refute it at one input. -/
def fletchPartsWrong : ChangeSpec := { name := "fletchParts", fn := fun _ => fun
  | [d1, d2, d3] => { results := [.lit (.bool false)], args := [d1, d2, d3] }
  | _ => none }
def FletchPartsWrongFalsely : Prop := fletchPartsRow.holds Try.pinned (OpenSpec.ofChange fletchPartsWrong)

/-- 'godownlaw04.FletchOne': WHATEVER THE INPUT: true; the input reads as it did. -/
def fletchOneSpec : ChangeSpec := { name := "fletchOne", fn := fun _ => fun
  | [d1, d2, d3, d4] => { results := [.lit (.bool true)], args := [d1, d2, d3, d4] }
  | _ => none }
def fletchOneRow : OpenClaim := { program := "ythchpjfnbcjjbaa", sum := "fb2a1984d047a65d61f6ab19502a06e362840cbbd4062f8cc8665998c8be458b", func := "godown/godownlaw04.FletchOne", spec := "fletchOne", apart := false }
def FletchOneSaid : Prop := fletchOneRow.holds Try.pinned (OpenSpec.ofChange fletchOneSpec)

/-- ITS FALSE NEIGHBOUR: 'it returns false'. Refute it at one input. -/
def fletchOneWrong : ChangeSpec := { name := "fletchOne", fn := fun _ => fun
  | [d1, d2, d3, d4] => { results := [.lit (.bool false)], args := [d1, d2, d3, d4] }
  | _ => none }
def FletchOneWrongFalsely : Prop := fletchOneRow.holds Try.pinned (OpenSpec.ofChange fletchOneWrong)

/- THE SECOND FORM. 'bulk': how many values and letters a reading holds, each counted each time it is reached (what is shared counts as often as it is met; a slice's spare places count too). A statement '..UptoSaid' is the law's where the arguments, and the package variables that the reading takes, are together of bulk at most 1048576: NARROWER than '..Said'. Prove '..Said' where nothing that the law and all that it calls make is longer than what came in: it says more and counts as full. Else prove '..UptoSaid'. A law counts once. -/
mutual
def uptoBulk {H : Type} : DataW H → Nat
  | .lit (.string bytes) => bytes.length + 1
  | .lit _ => 1
  | .nil => 1
  | .ptr d => uptoBulk d + 1
  | .slice elems spare => uptoBulkAll elems + uptoBulkAll spare + 1
  | .agg parts => uptoBulkAll parts + 1
  | .iface _ d => uptoBulk d + 1
  | .map entries => uptoBulkEntries entries + 1
  | .held _ => 1
def uptoBulkAll {H : Type} : List (DataW H) → Nat
  | [] => 0
  | d :: r => uptoBulk d + uptoBulkAll r
def uptoBulkEntries {H : Type} : List (Lit × DataW H) → Nat
  | [] => 0
  | x :: r => uptoBulkEntry x + uptoBulkEntries r
def uptoBulkEntry {H : Type} : Lit × DataW H → Nat
  | (.string bytes, d) => bytes.length + uptoBulk d + 1
  | (_, d) => uptoBulk d + 1
 end
def uptoSmall : (H : Type) → List (DataW H) → Bool := fun _ ds => decide (uptoBulkAll ds ≤ 1048576)
def OpenSpec.upto (s : _root_.Go.ChangeSpec) : _root_.Go.OpenSpec := { _root_.Go.OpenSpec.ofChange s with cond := some uptoSmall }

/-- 'godownlaw04.FletchTells', WHERE WHAT IT READS IS OF BULK AT MOST 1048576: true; the input reads as it did. -/
def fletchTellsUptoRow : OpenClaim := { program := "ythchpjfnbcjjbaa", sum := "fb2a1984d047a65d61f6ab19502a06e362840cbbd4062f8cc8665998c8be458b", func := "godown/godownlaw04.FletchTells", spec := "fletchTells", unfollowed := true, recurses := true, apart := false, narrowed := true }
def FletchTellsUptoSaid : Prop := fletchTellsUptoRow.holds Try.pinned (OpenSpec.upto fletchTellsSpec)

/-- 'godownlaw04.FletchBack', WHERE WHAT IT READS IS OF BULK AT MOST 1048576: true; the input reads as it did. -/
def fletchBackUptoRow : OpenClaim := { program := "ythchpjfnbcjjbaa", sum := "fb2a1984d047a65d61f6ab19502a06e362840cbbd4062f8cc8665998c8be458b", func := "godown/godownlaw04.FletchBack", spec := "fletchBack", unfollowed := true, recurses := true, apart := false, narrowed := true }
def FletchBackUptoSaid : Prop := fletchBackUptoRow.holds Try.pinned (OpenSpec.upto fletchBackSpec)

/-- 'godownlaw04.FletchParts', WHERE WHAT IT READS IS OF BULK AT MOST 1048576: true; the input reads as it did. -/
def fletchPartsUptoRow : OpenClaim := { program := "ythchpjfnbcjjbaa", sum := "fb2a1984d047a65d61f6ab19502a06e362840cbbd4062f8cc8665998c8be458b", func := "godown/godownlaw04.FletchParts", spec := "fletchParts", apart := false, narrowed := true }
def FletchPartsUptoSaid : Prop := fletchPartsUptoRow.holds Try.pinned (OpenSpec.upto fletchPartsSpec)

/-- 'godownlaw04.FletchOne', WHERE WHAT IT READS IS OF BULK AT MOST 1048576: true; the input reads as it did. -/
def fletchOneUptoRow : OpenClaim := { program := "ythchpjfnbcjjbaa", sum := "fb2a1984d047a65d61f6ab19502a06e362840cbbd4062f8cc8665998c8be458b", func := "godown/godownlaw04.FletchOne", spec := "fletchOne", apart := false, narrowed := true }
def FletchOneUptoSaid : Prop := fletchOneUptoRow.holds Try.pinned (OpenSpec.upto fletchOneSpec)

end Rows
end Go.Proofs.Ythchpjfnbcjjbaa
