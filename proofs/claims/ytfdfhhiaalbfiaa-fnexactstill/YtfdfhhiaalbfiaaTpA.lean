/- Texts in order, on plain data. -/
import Derived.Test.YtfdfhhiaalbfiaaLsP
import Derived.Test.YtfdfhhiaalbfiaaNm
namespace Go.Proofs.Ytfdfhhiaalbfiaa.TpP
set_option maxRecDepth 8000
open Go.RowKit
open Ls Lp
set_option linter.unusedVariables false
/-- One text stands ahead of another. -/
def sl (a b : ByteArray) : Bool := Go.Op.bytesLess a.toList b.toList
def aheadO : Option ByteArray → ByteArray → Bool
  | none, _ => true
  | some a, b => sl a b
end Go.Proofs.Ytfdfhhiaalbfiaa.TpP
