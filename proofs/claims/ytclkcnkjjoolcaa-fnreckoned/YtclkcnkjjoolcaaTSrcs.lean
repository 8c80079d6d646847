/- Lists of Source: what the law's helpers answer. -/
import Derived.Test.YtclkcnkjjoolcaaTSrc
namespace Go.Proofs.Ytclkcnkjjoolcaa.Ls
set_option maxRecDepth 8000
open Go.RowKit
open Recs
set_option linter.unusedVariables false
end Go.Proofs.Ytclkcnkjjoolcaa.Ls
