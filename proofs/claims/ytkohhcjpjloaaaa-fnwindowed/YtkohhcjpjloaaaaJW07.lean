/- A number that lies between two: the model's asker and the program's; A number that lies between two, in a region that draws. -/
import Derived.WalkLawsBesides
import Derived.WalkSmall
import Derived.RegionTactic
import Derived.Maps.AppendAt
import Derived.Laws.Rows
import Derived.Deep.RegionWith
import Derived.Outline
import Derived.Deep.QuietTactic
import Derived.BigQuiet
import Derived.Test.YtkohhcjpjloaaaaRows
import Derived.Test.YtkohhcjpjloaaaaJW01
import Derived.Test.YtkohhcjpjloaaaaJW05
namespace Go.Proofs.Ytkohhcjpjloaaaa.InB
set_option maxRecDepth 8000
open Go.RowKit
set_option linter.unusedVariables false
theorem l1In_any (x lo hi : Int) (w : World) : Calls Try.prog 37 #[.int .i64 x, .int .i64 lo, .int .i64 hi] w fun e w' => e = .returned (.bool (decide (lo ≤ x) && decide (x ≤ hi))) ∧ w = w' := by
  go_enter Try.func37, Try.ntmps37
  go_wp2
  all_goals
    go_ret
    exact ⟨Seg.ret_bool (by rw [Bool.eq_iff_iff]; simp; try omega), rfl⟩
theorem within_any (x lo hi : Int) (w : World) : Calls Try.prog 31 #[.int .i64 x, .int .i64 lo, .int .i64 hi] w fun e w' => e = .returned (.bool (decide (lo ≤ x) && decide (x ≤ hi))) ∧ w = w' := by
  go_enter Try.func31, Try.ntmps31
  go_wp2
  all_goals
    go_ret
    exact ⟨Seg.ret_bool (by rw [Bool.eq_iff_iff]; simp; try omega), rfl⟩
theorem l1In_b (x lo hi : Int) (b : Bool) (hb : (decide (lo ≤ x) && decide (x ≤ hi)) = b) (w : World) : Calls Try.prog 37 #[.int .i64 x, .int .i64 lo, .int .i64 hi] w fun e w' => e = .returned (.bool b) ∧ w = w' := by
  subst hb; exact l1In_any x lo hi w
theorem within_b (x lo hi : Int) (b : Bool) (hb : (decide (lo ≤ x) && decide (x ≤ hi)) = b) (w : World) : Calls Try.prog 31 #[.int .i64 x, .int .i64 lo, .int .i64 hi] w fun e w' => e = .returned (.bool b) ∧ w = w' := by
  subst hb; exact within_any x lo hi w
end Go.Proofs.Ytkohhcjpjloaaaa.InB
namespace Go.Proofs.Ytkohhcjpjloaaaa.InB
set_option maxRecDepth 8000
open Go.RowKit
set_option linter.unusedVariables false
theorem l1In_q (x lo hi : Int) (b : Bool) (hb : Lp.inR lo x hi = b) (w : World) : Calls Try.prog 37 #[.int .i64 x, .int .i64 lo, .int .i64 hi] w fun e w' => e = .returned (.bool b) ∧ w' = w :=
  (InB.l1In_b x lo hi b hb w).mono fun e w' ⟨h1, h2⟩ => ⟨h1, h2.symm⟩
end Go.Proofs.Ytkohhcjpjloaaaa.InB
