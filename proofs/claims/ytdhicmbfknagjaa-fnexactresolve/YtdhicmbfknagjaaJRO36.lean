/- Lists of Schema: what the law's helpers answer; What the frame tells of a list of texts that came in. -/
import Derived.Test.YtdhicmbfknagjaaJRO15
import Derived.Test.YtdhicmbfknagjaaJRO34
import Derived.Test.YtdhicmbfknagjaaJRO12
namespace Go.Proofs.Ytdhicmbfknagjaa.Ls
set_option maxRecDepth 8000
open Go.RowKit
open Recs
set_option linter.unusedVariables false
end Go.Proofs.Ytdhicmbfknagjaa.Ls
namespace Go.Proofs.Ytdhicmbfknagjaa.Ls
set_option maxRecDepth 8000
open Go.ChangeShapes Go.WideShapes Go.ChangeAt Go.RowKit Go.Deep
open Recs
set_option linter.unusedVariables false
section
variable {H : Type} {enc : TypeId × Value → H} {W : World} {sp : Nat → Bool} {held : Bool}
theorem cellsStr : Try.prog.cellsOf 9 = 1 := by kernel_rfl
theorem open_strs {fuel : Nat} {cs : List Value} {x : DataW H × List MemPlace} (h : DataW.trod enc Try.prog W 0 sp held fuel 81 cs = some x) :
    ∃ (v : Value) (us : List ByteArray), cs = [v] ∧ StrsAt W (All W) v us ∧ FineL FineStr us :=
  open_list keepsStr (by omega) Try.underlying81 cellsStr (fun fuel cs x h => by
    obtain ⟨n, e, _, f⟩ := DataW.trod_string Try.underlying9 h
    subst e
    refine ⟨fun _ => .string n, n, fun q hq => ?_, rfl, f⟩
    match q, hq with
    | 0, _ => rfl) h
end
end Go.Proofs.Ytdhicmbfknagjaa.Ls
