/-
  append of one property to a list of the call's own. No conditions.
-/
import Derived.Test.YteaohmlbddgfgaaEM
import Derived.Test.YteaohmlbddgfgaaAP
namespace Go.Proofs.Yteaohmlbddgfgaa
open Go.ChangeShapes Go.WideShapes Go.ChangeAt Go.RowKit
set_option maxRecDepth 100000

theorem wpAppP {W : World} {ops : Array Oper} {rest : List Oper} {o : Oper} {a : Act} {Q : Exit → Act → World → Prop} {s x : Operand} (hgd : o.guard = none)
    (ho : o.op = .call { callee := .builtin .append, args := #[s, x], argTypes := #[22, 22] }) {base : Nat} {w0 : World} {Av : Option Addr} {cv : Nat} {l : List Pr} (hB : Below base w0 W) (hsz : base ≤ W.heap.size)
    (hown : ownP W base (.slice Av l.length cv) l) (y : Pr) (hs : a.eval s = .slice Av l.length cv) (hx : a.eval x = .slice (some ⟨W.heap.size, 0, none⟩) 1 1) (hl : l.length < 4398046511104)
    (h : ∀ g c w', Hid (ownP w' base (.slice (some ⟨g, 0, none⟩) (l.length + 1) c) (l ++ [y])) → Hid (Below base w0 w') → wpList Try.prog ops Q rest (a.put o.dst (.slice (some ⟨g, 0, none⟩) (l.length + 1) c)) w') :
    wpList Try.prog ops Q (o :: rest) a (W.alloc (.cells #[.string y.1, .string y.2] 50)) :=
  wpAppend1 hgd ho Try.underlying22 prC (fun _ => rfl) (by decide) (fun y u hu => prs_one [y] u (by simpa [prs] using hu)) infoPr rfl hB hsz hown y hs hx (by unfold maxLen; omega) (by omega) h

end Go.Proofs.Yteaohmlbddgfgaa
