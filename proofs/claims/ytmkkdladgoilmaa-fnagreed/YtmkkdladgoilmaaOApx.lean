/- Lists of Api of the call's own; the law's marks on them. -/
import Derived.Test.YtmkkdladgoilmaaOw
import Derived.Test.YtmkkdladgoilmaaTApxs
namespace Go.Proofs.Ytmkkdladgoilmaa.Ow
set_option maxRecDepth 8000
open Go.RowKit
open Recs
open Ls
set_option linter.unusedVariables false
def EOApx : Elt Apx := EApx
theorem keepsOApx : KeepsO 3 EOApx := keepsO_of keepsApx
theorem atOApx (w : World) (S : Nat → Prop) (f : Nat → Value) (u : Apx) (h : EOApx w S f u) : EApx w S f u := h
abbrev ApxsOwn := LOwn 38 3 EOApx
def mApx (k : Nat) (u : Apx) : Apx := ⟨(((k + 0) : Nat) : Int), (((k + 1) : Nat) : Int), (((k + 2) : Nat) : Int)⟩
def nApx (u : Apx) : Nat := 3
end Go.Proofs.Ytmkkdladgoilmaa.Ow
