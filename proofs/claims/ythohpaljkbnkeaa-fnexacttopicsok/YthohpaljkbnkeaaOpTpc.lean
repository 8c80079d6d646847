/- What the frame tells of what came in. -/
import Derived.Test.YthohpaljkbnkeaaTTpcs
import Derived.Test.YthohpaljkbnkeaaLsO
namespace Go.Proofs.Ythohpaljkbnkeaa.Ls
set_option maxRecDepth 8000
open Go.ChangeShapes Go.WideShapes Go.ChangeAt Go.RowKit Go.Deep
open Recs
set_option linter.unusedVariables false
section
variable {H : Type} {enc : TypeId × Value → H} {W : World} {sp : Nat → Bool} {held : Bool}
theorem cellsS : Try.prog.cellsOf 9 = 1 := by kernel_rfl
theorem cells_Tpc : Try.prog.cellsOf 59 = 2 := by kernel_rfl
theorem open_Tpc_cells (fuel : Nat) (cs : List Value) (x : DataW H × List MemPlace) (h : DataW.trod enc Try.prog W 0 sp held fuel 59 cs = some x) :
    ∃ (f : Nat → Value) (u : Tpc), cs = [f 0, f 1] ∧ ETpc W (All W) f u ∧ FineTpc u := by
  obtain ⟨xs, n, _, _, hl, hxl, hf⟩ := DataW.trod_struct Try.underlying59 h
  rw [cells_Tpc] at hl
  match cs, hl with
  | [v0, v1], _ =>
  match xs, hxl with
  | [y0, y1], _ =>
    have g0 : DataW.trod enc Try.prog W 0 sp held n 9 [v0] = some y0 := by have := hf 0 _ rfl; simpa [cellsS] using this
    have g1 : DataW.trod enc Try.prog W 0 sp held n 3 [v1] = some y1 := by have := hf 1 _ rfl; simpa [cellsI] using this
    obtain ⟨n0, e0, _, z0⟩ := DataW.trod_string Try.underlying9 g0
    obtain ⟨n1, e1, _, f1⟩ := DataW.trod_int Try.underlying3 g1
    simp only [List.cons.injEq, and_true] at e0 e1
    subst e0 e1
    exact ⟨fun q => if q = 0 then .string n0 else .int .i64 n1, ⟨n0, n1⟩, rfl, ⟨rfl, rfl⟩, z0, bounds_i64 f1⟩
theorem array_Tpc {cs : Array Value} (h : cs.size = 2) : ∃ xa xb, cs = #[xa, xb] := by
  obtain ⟨l⟩ := cs
  match l, h with
  | [xa, xb], _ => exact ⟨xa, xb, rfl⟩
theorem open_Tpc {r0 : Reach} {b0 : Nat} {v : Value} {d : DataW H} {p : List MemPlace} (hv : Value.okWide Try.prog W r0 b0 59 v) (h : DataW.Trod enc Try.prog W 0 sp held 59 v d p) : ∃ u, TpcAt W (All W) v u ∧ FineTpc u := by
  obtain ⟨cs, rfl, hsz⟩ := okWide_struct Try.underlying59 hv
  rw [cells_Tpc] at hsz
  obtain ⟨xa, xb, rfl⟩ := array_Tpc hsz
  obtain ⟨fuel, hf⟩ := h
  obtain ⟨f, u, e0, hh, hfi⟩ := open_Tpc_cells _ _ _ hf
  simp only [Value.cells, List.cons.injEq, and_true] at e0
  obtain ⟨rfl, rfl⟩ := e0
  exact ⟨u, ⟨f, rfl, hh⟩, hfi⟩
theorem cells_Tpcs : Try.prog.cellsOf 23 = 1 := by kernel_rfl
theorem open_Tpcs {fuel : Nat} {cs : List Value} {x : DataW H × List MemPlace} (h : DataW.trod enc Try.prog W 0 sp held fuel 23 cs = some x) :
    ∃ (v : Value) (us : List Tpc), cs = [v] ∧ LAt 2 ETpc W (All W) v us ∧ FineL FineTpc us :=
  open_list keepsTpc (by omega) Try.underlying23 cells_Tpc (fun fuel cs x h => by
    obtain ⟨f, u, rfl, he, hf⟩ := open_Tpc_cells fuel cs x h
    refine ⟨f, u, fun q hq => ?_, he, hf⟩
    match q, hq with
    | 0, _ => rfl
    | 1, _ => rfl) h
end
end Go.Proofs.Ythohpaljkbnkeaa.Ls
