/- Lists of Arrival with marks: the law's look at these. -/
import Derived.Test.YtekhidflncfeiaaOArr
import Derived.Test.YtekhidflncfeiaaMkNh
namespace Go.Proofs.Ytekhidflncfeiaa.Ow
set_option maxRecDepth 8000
open Go.RowKit
open Recs
open Ls
set_option linter.unusedVariables false
end Go.Proofs.Ytekhidflncfeiaa.Ow
