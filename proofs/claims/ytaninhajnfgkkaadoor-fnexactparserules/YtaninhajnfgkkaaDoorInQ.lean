/- A number that lies between two, in a region that draws. -/
import Derived.Test.YtaninhajnfgkkaaDoorInB
import Derived.Test.YtaninhajnfgkkaaDoorLsP
import Derived.Deep.QuietTactic
import Derived.BigQuiet
namespace Go.Proofs.YtaninhajnfgkkaaDoor.InB
set_option maxRecDepth 8000
open Go.RowKit
set_option linter.unusedVariables false
theorem l1In_q (x lo hi : Int) (b : Bool) (hb : Lp.inR lo x hi = b) (w : World) : Calls Tryd.prog 19 #[.int .i64 x, .int .i64 lo, .int .i64 hi] w fun e w' => e = .returned (.bool b) ∧ w' = w :=
  (InB.l1In_b x lo hi b hb w).mono fun e w' ⟨h1, h2⟩ => ⟨h1, h2.symm⟩
end Go.Proofs.YtaninhajnfgkkaaDoor.InB
