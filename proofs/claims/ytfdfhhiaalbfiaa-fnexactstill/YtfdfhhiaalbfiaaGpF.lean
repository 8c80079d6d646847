/- A group's value: two lists and four numbers. -/
import Derived.Test.YtfdfhhiaalbfiaaGpP
namespace Go.Proofs.Ytfdfhhiaalbfiaa.GpP
set_option maxRecDepth 8000
open Go.RowKit
open Ls
set_option linter.unusedVariables false
theorem form {w : World} {S : Nat → Prop} {v : Value} {t : Grp} (h : GrpAt w S v t) : ∃ A4 c4 A5 c5, v = .agg #[.int .i64 t.kind, .int .i64 t.timeout, .int .i64 t.now, .int .i64 t.round, .slice A4 t.topics.length c4, .slice A5 t.members.length c5] := by
  obtain ⟨A4, c4, A5, c5, h1, _, _⟩ := grp_form h
  exact ⟨A4, c4, A5, c5, h1⟩
end Go.Proofs.Ytfdfhhiaalbfiaa.GpP
