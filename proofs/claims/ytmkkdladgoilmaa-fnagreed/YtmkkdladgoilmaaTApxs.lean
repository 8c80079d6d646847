/- Lists of Api: what the law's helpers answer. -/
import Derived.Test.YtmkkdladgoilmaaTApx
namespace Go.Proofs.Ytmkkdladgoilmaa.Ls
set_option maxRecDepth 8000
open Go.RowKit
open Recs
set_option linter.unusedVariables false
end Go.Proofs.Ytmkkdladgoilmaa.Ls
