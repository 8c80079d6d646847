/- Lists of Schema: what the law's helpers answer. -/
import Derived.Test.YtikfffeiemlnoabTSch
namespace Go.Proofs.Ytikfffeiemlnoab.Ls
set_option maxRecDepth 8000
open Go.RowKit
open Recs
set_option linter.unusedVariables false
end Go.Proofs.Ytikfffeiemlnoab.Ls
