/- Lists of Schema: what the law's helpers answer. -/
import Derived.Test.YtfdfhhiaalbfiaaTSch
namespace Go.Proofs.Ytfdfhhiaalbfiaa.Ls
set_option maxRecDepth 8000
open Go.RowKit
open Recs
set_option linter.unusedVariables false
end Go.Proofs.Ytfdfhhiaalbfiaa.Ls
