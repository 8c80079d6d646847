/- Lists of texts: what the law's helpers answer. -/
import Derived.Test.YtclkcnkjjoolcaaLsTD
namespace Go.Proofs.Ytclkcnkjjoolcaa.Ls
set_option maxRecDepth 8000
open Go.RowKit
open Recs
set_option linter.unusedVariables false
theorem infoStr : (Try.prog.info? 9).map (fun i => (i.zero, i.size, i.bytes)) = some (some (.string ByteArray.empty), 1, 16) := by kernel_rfl
end Go.Proofs.Ytclkcnkjjoolcaa.Ls
