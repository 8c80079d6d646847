/- ShowRules of the program. -/
import Derived.Test.YtfdfhhiaalbfiaaRuT
namespace Go.Proofs.Ytfdfhhiaalbfiaa.ShI
set_option maxRecDepth 8000
open Go.RowKit
open Ls Lp RuP
open Recs (hsz below1 below2 chain)
set_option linter.unusedVariables false
theorem impl_any (x : Value) (l : List Rul) (w : World) (S : Nat → Prop) (hv : LAt 6 ERul w S x l) (hS : ∀ g, S g → g < w.heap.size) (hf : szL szRul l ≤ 1048576) :
    Calls Try.prog 18 #[x] w fun e w' => e = .returned (.string (text l)) ∧ Below w.heap.size w w' := by
  have CT := Seg.hid (RuI.text_any x l w S hv hS hf)
  clear hv hf
  generalize text l = tx at *
  generalize shows l = b at *
  go_enter Try.func18, Try.ntmps18
  go_wp2_with (go_at_call 51; refine CT.out.mono ?_; rintro e w9 ⟨rfl, b9⟩; have B9 := Seg.hid b9; clear b9)
  go_ret
  exact ⟨rfl, B9.out⟩
end Go.Proofs.Ytfdfhhiaalbfiaa.ShI
