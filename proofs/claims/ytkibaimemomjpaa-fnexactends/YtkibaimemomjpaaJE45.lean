/- What the frame tells of a list of numbers that came in; What the frame tells of a list of texts that came in. -/
import Derived.Test.YtkibaimemomjpaaJE27
import Derived.Test.YtkibaimemomjpaaJE06
namespace Go.Proofs.Ytkibaimemomjpaa.Ls
set_option maxRecDepth 8000
open Go.ChangeShapes Go.WideShapes Go.ChangeAt Go.RowKit Go.Deep
open Recs
set_option linter.unusedVariables false
section
variable {H : Type} {enc : TypeId × Value → H} {W : World} {sp : Nat → Bool} {held : Bool}
theorem open_ints {fuel : Nat} {cs : List Value} {x : DataW H × List MemPlace} (h : DataW.trod enc Try.prog W 0 sp held fuel 27 cs = some x) :
    ∃ (v : Value) (us : List Int), cs = [v] ∧ IntsAt W (All W) v us ∧ FineL I64 us :=
  open_list keepsI (by omega) Try.underlying27 cellsI (fun fuel cs x h => by
    obtain ⟨n, e, _, f⟩ := DataW.trod_int Try.underlying3 h
    subst e
    refine ⟨fun _ => .int .i64 n, n, fun q hq => ?_, rfl, bounds_i64 f⟩
    match q, hq with
    | 0, _ => rfl) h
end
end Go.Proofs.Ytkibaimemomjpaa.Ls
namespace Go.Proofs.Ytkibaimemomjpaa.Ls
set_option maxRecDepth 8000
open Go.ChangeShapes Go.WideShapes Go.ChangeAt Go.RowKit Go.Deep
open Recs
set_option linter.unusedVariables false
section
variable {H : Type} {enc : TypeId × Value → H} {W : World} {sp : Nat → Bool} {held : Bool}
theorem cellsStr : Try.prog.cellsOf 9 = 1 := by kernel_rfl
theorem open_strs {fuel : Nat} {cs : List Value} {x : DataW H × List MemPlace} (h : DataW.trod enc Try.prog W 0 sp held fuel 23 cs = some x) :
    ∃ (v : Value) (us : List ByteArray), cs = [v] ∧ StrsAt W (All W) v us ∧ FineL FineStr us :=
  open_list keepsStr (by omega) Try.underlying23 cellsStr (fun fuel cs x h => by
    obtain ⟨n, e, _, f⟩ := DataW.trod_string Try.underlying9 h
    subst e
    refine ⟨fun _ => .string n, n, fun q hq => ?_, rfl, f⟩
    match q, hq with
    | 0, _ => rfl) h
end
end Go.Proofs.Ytkibaimemomjpaa.Ls
