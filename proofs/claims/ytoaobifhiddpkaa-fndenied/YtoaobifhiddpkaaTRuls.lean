/- Lists of Rule: what the law's helpers answer. -/
import Derived.Test.YtoaobifhiddpkaaTRul
namespace Go.Proofs.Ytoaobifhiddpkaa.Ls
set_option maxRecDepth 8000
open Go.RowKit
open Recs
set_option linter.unusedVariables false
end Go.Proofs.Ytoaobifhiddpkaa.Ls
