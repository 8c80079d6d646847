/- Transactions that are open in a log, and those that were aborted: on plain data. -/
import Derived.Test.YtidggillganafaaJS18
import Derived.Test.YtidggillganafaaJS12
import Derived.Test.YtidggillganafaaJS11
namespace Go.Proofs.Ytidggillganafaa.SdP
set_option maxRecDepth 8000
open Go.RowKit
open Ls SdQ
open Recs (Bat)
open LogW (Lg)
open BfP (flatB)
set_option linter.unusedVariables false
def settled (l : Lg) : List Gon × List Gon := runB ([], []) (flatB l.segs)
def stable (l : Lg) : Int := if LgP.logOk l = true then least l.next (settled l).1 else -1
def aborted (l : Lg) : List Gon := if LgP.logOk l = true then (settled l).2 else []
end Go.Proofs.Ytidggillganafaa.SdP
