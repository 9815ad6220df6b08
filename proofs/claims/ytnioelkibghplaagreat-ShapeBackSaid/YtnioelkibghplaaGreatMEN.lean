/-
  The reference's values. No conditions but on the text's length.
-/
import Derived.Test.YtnioelkibghplaaGreatMEM
import Derived.Test.YtnioelkibghplaaGreatMENN
namespace Go.Proofs.YtnioelkibghplaaGreat
open Go.ChangeShapes Go.WideShapes Go.ChangeAt Go.RowKit
set_option maxRecDepth 100000

def okv (c : UInt8) : Bool := decide (32 ≤ c.toNat) && decide (c.toNat ≤ 126)
theorem valOk_eq (s : ByteArray) : valOk s = ((bs s).all okv && decide (s.size ≤ 32)) := rfl

end Go.Proofs.YtnioelkibghplaaGreat
