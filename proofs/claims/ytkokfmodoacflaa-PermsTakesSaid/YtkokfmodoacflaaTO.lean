/-
  Lists of texts of the call's own. No conditions.
-/
import Derived.Test.YtkokfmodoacflaaSL
import Derived.Test.YtkokfmodoacflaaAP
namespace Go.Proofs.Ytkokfmodoacflaa
open Go.ChangeShapes Go.WideShapes Go.ChangeAt Go.RowKit
set_option maxRecDepth 100000

set_option maxRecDepth 100000 in
theorem infoSt : (Try.prog.info? 9).map (fun i => (i.zero, i.size, i.bytes)) = some (some (.string ByteArray.empty), 1, 16) := by kernel_rfl
/-- An own list of texts. -/
abbrev ownT (w : World) (base : Nat) (v : Value) (l : List ByteArray) : Prop := w.ownsRow base 9 1 v l.length (l.map Value.string)
theorem flatT (l : List ByteArray) : l.flatMap (fun s => [Value.string s]) = l.map Value.string := by
  induction l with
  | nil => rfl
  | cons x l ih => rw [List.flatMap_cons, ih]; rfl
theorem wpAppT {W : World} {ops : Array Oper} {rest : List Oper} {o : Oper} {a : Act} {Q : Exit → Act → World → Prop} {s x : Operand} (hgd : o.guard = none)
    (ho : o.op = .call { callee := .builtin .append, args := #[s, x], argTypes := #[50, 50] }) {base : Nat} {w0 : World} {Av : Option Addr} {cv n : Nat} {l : List ByteArray} (hB : Below base w0 W) (hsz : base ≤ W.heap.size)
    (hown : ownT W base (.slice Av n cv) l) (hn : l.length = n) (y : ByteArray) (hs : a.eval s = .slice Av n cv) (hx : a.eval x = .slice (some ⟨W.heap.size, 0, none⟩) 1 1) (hl : n < 8796093022207)
    (h : ∀ g c w', Hid (ownT w' base (.slice (some ⟨g, 0, none⟩) (n + 1) c) (l ++ [y])) → Hid (Below base w0 w') → wpList Try.prog ops Q rest (a.put o.dst (.slice (some ⟨g, 0, none⟩) (n + 1) c)) w') :
    wpList Try.prog ops Q (o :: rest) a (W.alloc (.cells #[.string y] 9)) := by
  subst hn
  refine wpAppend1 hgd ho Try.underlying50 (fun s => [Value.string s]) (fun _ => rfl) (by decide) (fun y u hu => by rw [List.mem_singleton] at hu; subst hu; rfl) infoSt rfl hB hsz (by rw [flatT]; exact hown) y hs hx (by unfold maxLen; omega) (by omega) (fun g c w' h1 h2 => h g c w' (Lib.hid (by have := h1.out; rw [flatT] at this; exact this)) h2)

end Go.Proofs.Ytkokfmodoacflaa
