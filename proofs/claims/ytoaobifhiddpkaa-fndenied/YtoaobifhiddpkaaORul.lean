/- Lists of Rule of the call's own; the law's marks on them. -/
import Derived.Test.YtoaobifhiddpkaaMkT
import Derived.Test.YtoaobifhiddpkaaTRuls
namespace Go.Proofs.Ytoaobifhiddpkaa.Ow
set_option maxRecDepth 8000
open Go.RowKit
open Recs
open Ls
set_option linter.unusedVariables false
def EORul : Elt Rul := ERul
theorem keepsORul : KeepsO 6 EORul := keepsO_of keepsRul
theorem atORul (w : World) (S : Nat → Prop) (f : Nat → Value) (u : Rul) (h : EORul w S f u) : ERul w S f u := h
abbrev RulsOwn := LOwn 30 6 EORul
def mRul (k : Nat) (u : Rul) : Rul := ⟨((((k + 0) : Nat) : Int) % 3 == 0), mt (k + 1), (((k + 2) : Nat) : Int), (((k + 3) : Nat) : Int), mt (k + 4), ((((k + 5) : Nat) : Int) % 3 == 0)⟩
def nRul (u : Rul) : Nat := 6
end Go.Proofs.Ytoaobifhiddpkaa.Ow
