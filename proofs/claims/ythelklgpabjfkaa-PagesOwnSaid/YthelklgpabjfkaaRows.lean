/-
  No cell of these rows narrows 'for every input' (looked for: loops, veiled, ifaces, maps, wideKeys, modest, calm, conditions, laid).
  DERIVED. THE GIVEN ROWS OF THIS SEAT. 4 by the template 'for every input the law returns true; each argument reads behind the call as it read before'; 0 by the template 'total and deterministic' (their statements: YthelklgpabjfkaaTotals.lean).
  GIVEN WITH THE SEED: the statements are not yours to turn. If you find one false, say at which input.
  Laid BY PROGRAM, IN A SANDBOX (cutbox-rows.mjs): the forced cells as the released guide's own fill.sh prints them over the translation 4d144dd060f272de… (all of the seat's roots in one cut). By AI agents, Wed Nov 11 2026. No macro, syntax, notation, axiom, sorry.
-/
import Derived.Test.YthelklgpabjfkaaChecked
import GoSem.Claim
import GoSem.ClaimJoined
import GoSem.ClaimMapViews
import Derived.JoinedTies
import Derived.KernelRfl
namespace Go.Proofs.Ythelklgpabjfkaa
/- THE CELL 'sum', in the pinned program and in every row, IS THE sha256 OF THE DUMP (.gsa) THAT YthelklgpabjfkaaProg.lean LOADS. Nothing in Lean hashes anything: it is a label: what it is worth is what the hold of that sum in a sandbox is worth. -/
noncomputable def Try.pinned : Pinned := { name := "ythelklgpabjfkaa", sum := "4d144dd060f272dec456cf7a2acb7cc1b2fa744b1eb1fd8258b82bbc0b84190f", checked := Try.checked }
namespace Rows
def none {H : Type} : Left H := { results := [], args := [] }

/-- 'godownlaw09.PagesTells': WHATEVER THE INPUT: true; the input reads as it did. -/
def pagesTellsSpec : ChangeSpec := { name := "pagesTells", fn := fun _ => fun
  | [d1, d2, d3, d4] => { results := [.lit (.bool true)], args := [d1, d2, d3, d4] }
  | _ => none }
def pagesTellsRow : OpenClaim := { program := "ythelklgpabjfkaa", sum := "4d144dd060f272dec456cf7a2acb7cc1b2fa744b1eb1fd8258b82bbc0b84190f", func := "godown/godownlaw09.PagesTells", spec := "pagesTells", unfollowed := true, recurses := true, apart := false }
def PagesTellsSaid : Prop := pagesTellsRow.holds Try.pinned (OpenSpec.ofChange pagesTellsSpec)

/-- ITS FALSE NEIGHBOUR: 'it returns false'. Refute it at one input. -/
def pagesTellsWrong : ChangeSpec := { name := "pagesTells", fn := fun _ => fun
  | [d1, d2, d3, d4] => { results := [.lit (.bool false)], args := [d1, d2, d3, d4] }
  | _ => none }
def PagesTellsWrongFalsely : Prop := pagesTellsRow.holds Try.pinned (OpenSpec.ofChange pagesTellsWrong)

/-- 'godownlaw09.PagesBack': WHATEVER THE INPUT: true; the input reads as it did. -/
def pagesBackSpec : ChangeSpec := { name := "pagesBack", fn := fun _ => fun
  | [d1, d2] => { results := [.lit (.bool true)], args := [d1, d2] }
  | _ => none }
def pagesBackRow : OpenClaim := { program := "ythelklgpabjfkaa", sum := "4d144dd060f272dec456cf7a2acb7cc1b2fa744b1eb1fd8258b82bbc0b84190f", func := "godown/godownlaw09.PagesBack", spec := "pagesBack", unfollowed := true, recurses := true, apart := false }
def PagesBackSaid : Prop := pagesBackRow.holds Try.pinned (OpenSpec.ofChange pagesBackSpec)

/-- ITS FALSE NEIGHBOUR: 'it returns false'. Refute it at one input. -/
def pagesBackWrong : ChangeSpec := { name := "pagesBack", fn := fun _ => fun
  | [d1, d2] => { results := [.lit (.bool false)], args := [d1, d2] }
  | _ => none }
def PagesBackWrongFalsely : Prop := pagesBackRow.holds Try.pinned (OpenSpec.ofChange pagesBackWrong)

/-- 'godownlaw09.PagesSpoilt': WHATEVER THE INPUT: true; the input reads as it did. -/
def pagesSpoiltSpec : ChangeSpec := { name := "pagesSpoilt", fn := fun _ => fun
  | [d1, d2, d3, d4] => { results := [.lit (.bool true)], args := [d1, d2, d3, d4] }
  | _ => none }
def pagesSpoiltRow : OpenClaim := { program := "ythelklgpabjfkaa", sum := "4d144dd060f272dec456cf7a2acb7cc1b2fa744b1eb1fd8258b82bbc0b84190f", func := "godown/godownlaw09.PagesSpoilt", spec := "pagesSpoilt", unfollowed := true, recurses := true, apart := false }
def PagesSpoiltSaid : Prop := pagesSpoiltRow.holds Try.pinned (OpenSpec.ofChange pagesSpoiltSpec)

/-- ITS FALSE NEIGHBOUR: 'it returns false'. Refute it at one input. -/
def pagesSpoiltWrong : ChangeSpec := { name := "pagesSpoilt", fn := fun _ => fun
  | [d1, d2, d3, d4] => { results := [.lit (.bool false)], args := [d1, d2, d3, d4] }
  | _ => none }
def PagesSpoiltWrongFalsely : Prop := pagesSpoiltRow.holds Try.pinned (OpenSpec.ofChange pagesSpoiltWrong)

/-- 'godownlaw09.PagesOwn': WHATEVER THE INPUT: true; the input reads as it did. -/
def pagesOwnSpec : ChangeSpec := { name := "pagesOwn", fn := fun _ => fun
  | [d] => { results := [.lit (.bool true)], args := [d] }
  | _ => none }
def pagesOwnRow : OpenClaim := { program := "ythelklgpabjfkaa", sum := "4d144dd060f272dec456cf7a2acb7cc1b2fa744b1eb1fd8258b82bbc0b84190f", func := "godown/godownlaw09.PagesOwn", spec := "pagesOwn", unfollowed := true, recurses := true, apart := false }
def PagesOwnSaid : Prop := pagesOwnRow.holds Try.pinned (OpenSpec.ofChange pagesOwnSpec)

/-- ITS FALSE NEIGHBOUR: 'it returns false'. Refute it at one input. -/
def pagesOwnWrong : ChangeSpec := { name := "pagesOwn", fn := fun _ => fun
  | [d] => { results := [.lit (.bool false)], args := [d] }
  | _ => none }
def PagesOwnWrongFalsely : Prop := pagesOwnRow.holds Try.pinned (OpenSpec.ofChange pagesOwnWrong)

/- THE SECOND FORM. 'bulk': how many values and letters a reading holds, each counted each time it is reached (what is shared counts as often as it is met; a slice's spare places count too). A statement '..UptoSaid' is the law's where the arguments, and the package variables that the reading takes, are together of bulk at most 1048576: NARROWER than '..Said'. Prove '..Said' where nothing that the law and all that it calls make is longer than what came in: it says more and counts as full. Else prove '..UptoSaid'. A law counts once. -/
mutual
def uptoBulk {H : Type} : DataW H → Nat
  | .lit (.string bytes) => bytes.length + 1
  | .lit _ => 1
  | .nil => 1
  | .ptr d => uptoBulk d + 1
  | .slice elems spare => uptoBulkAll elems + uptoBulkAll spare + 1
  | .agg parts => uptoBulkAll parts + 1
  | .iface _ d => uptoBulk d + 1
  | .map entries => uptoBulkEntries entries + 1
  | .held _ => 1
def uptoBulkAll {H : Type} : List (DataW H) → Nat
  | [] => 0
  | d :: r => uptoBulk d + uptoBulkAll r
def uptoBulkEntries {H : Type} : List (Lit × DataW H) → Nat
  | [] => 0
  | x :: r => uptoBulkEntry x + uptoBulkEntries r
def uptoBulkEntry {H : Type} : Lit × DataW H → Nat
  | (.string bytes, d) => bytes.length + uptoBulk d + 1
  | (_, d) => uptoBulk d + 1
 end
def uptoSmall : (H : Type) → List (DataW H) → Bool := fun _ ds => decide (uptoBulkAll ds ≤ 1048576)
def OpenSpec.upto (s : _root_.Go.ChangeSpec) : _root_.Go.OpenSpec := { _root_.Go.OpenSpec.ofChange s with cond := some uptoSmall }

/-- 'godownlaw09.PagesTells', WHERE WHAT IT READS IS OF BULK AT MOST 1048576: true; the input reads as it did. -/
def pagesTellsUptoRow : OpenClaim := { program := "ythelklgpabjfkaa", sum := "4d144dd060f272dec456cf7a2acb7cc1b2fa744b1eb1fd8258b82bbc0b84190f", func := "godown/godownlaw09.PagesTells", spec := "pagesTells", unfollowed := true, recurses := true, apart := false, narrowed := true }
def PagesTellsUptoSaid : Prop := pagesTellsUptoRow.holds Try.pinned (OpenSpec.upto pagesTellsSpec)

/-- 'godownlaw09.PagesBack', WHERE WHAT IT READS IS OF BULK AT MOST 1048576: true; the input reads as it did. -/
def pagesBackUptoRow : OpenClaim := { program := "ythelklgpabjfkaa", sum := "4d144dd060f272dec456cf7a2acb7cc1b2fa744b1eb1fd8258b82bbc0b84190f", func := "godown/godownlaw09.PagesBack", spec := "pagesBack", unfollowed := true, recurses := true, apart := false, narrowed := true }
def PagesBackUptoSaid : Prop := pagesBackUptoRow.holds Try.pinned (OpenSpec.upto pagesBackSpec)

/-- 'godownlaw09.PagesSpoilt', WHERE WHAT IT READS IS OF BULK AT MOST 1048576: true; the input reads as it did. -/
def pagesSpoiltUptoRow : OpenClaim := { program := "ythelklgpabjfkaa", sum := "4d144dd060f272dec456cf7a2acb7cc1b2fa744b1eb1fd8258b82bbc0b84190f", func := "godown/godownlaw09.PagesSpoilt", spec := "pagesSpoilt", unfollowed := true, recurses := true, apart := false, narrowed := true }
def PagesSpoiltUptoSaid : Prop := pagesSpoiltUptoRow.holds Try.pinned (OpenSpec.upto pagesSpoiltSpec)

/-- 'godownlaw09.PagesOwn', WHERE WHAT IT READS IS OF BULK AT MOST 1048576: true; the input reads as it did. -/
def pagesOwnUptoRow : OpenClaim := { program := "ythelklgpabjfkaa", sum := "4d144dd060f272dec456cf7a2acb7cc1b2fa744b1eb1fd8258b82bbc0b84190f", func := "godown/godownlaw09.PagesOwn", spec := "pagesOwn", unfollowed := true, recurses := true, apart := false, narrowed := true }
def PagesOwnUptoSaid : Prop := pagesOwnUptoRow.holds Try.pinned (OpenSpec.upto pagesOwnSpec)

end Rows
end Go.Proofs.Ythelklgpabjfkaa
