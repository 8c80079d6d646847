/- Lists of numbers: what the law's helpers answer. -/
import Derived.Test.YtclkcnkjjoolcaaLs
namespace Go.Proofs.Ytclkcnkjjoolcaa.Ls
set_option maxRecDepth 8000
open Go.RowKit
open Recs
set_option linter.unusedVariables false
theorem infoI : (Try.prog.info? 3).map (fun i => (i.zero, i.size, i.bytes)) = some (some (.int .i64 0), 1, 8) := by kernel_rfl
end Go.Proofs.Ytclkcnkjjoolcaa.Ls
