/- What the frame tells of what came in. -/
import Derived.Test.YtekhidflncfeiaaTStps
import Derived.Test.YtekhidflncfeiaaLsO
namespace Go.Proofs.Ytekhidflncfeiaa.Ls
set_option maxRecDepth 8000
open Go.ChangeShapes Go.WideShapes Go.ChangeAt Go.RowKit Go.Deep
open Recs
set_option linter.unusedVariables false
section
variable {H : Type} {enc : TypeId × Value → H} {W : World} {sp : Nat → Bool} {held : Bool}
theorem cellsS : Try.prog.cellsOf 9 = 1 := by kernel_rfl
theorem cells_Stp : Try.prog.cellsOf 103 = 3 := by kernel_rfl
theorem open_Stp_cells (fuel : Nat) (cs : List Value) (x : DataW H × List MemPlace) (h : DataW.trod enc Try.prog W 0 sp held fuel 103 cs = some x) :
    ∃ (f : Nat → Value) (u : Stp), cs = [f 0, f 1, f 2] ∧ EStp W (All W) f u ∧ FineStp u := by
  obtain ⟨xs, n, _, _, hl, hxl, hf⟩ := DataW.trod_struct Try.underlying103 h
  rw [cells_Stp] at hl
  match cs, hl with
  | [v0, v1, v2], _ =>
  match xs, hxl with
  | [y0, y1, y2], _ =>
    have g0 : DataW.trod enc Try.prog W 0 sp held n 3 [v0] = some y0 := by have := hf 0 _ rfl; simpa [cellsI] using this
    have g1 : DataW.trod enc Try.prog W 0 sp held n 3 [v1] = some y1 := by have := hf 1 _ rfl; simpa [cellsI] using this
    have g2 : DataW.trod enc Try.prog W 0 sp held n 9 [v2] = some y2 := by have := hf 2 _ rfl; simpa [cellsS] using this
    obtain ⟨n0, e0, _, f0⟩ := DataW.trod_int Try.underlying3 g0
    obtain ⟨n1, e1, _, f1⟩ := DataW.trod_int Try.underlying3 g1
    obtain ⟨n2, e2, _, z2⟩ := DataW.trod_string Try.underlying9 g2
    simp only [List.cons.injEq, and_true] at e0 e1 e2
    subst e0 e1 e2
    exact ⟨fun q => if q = 0 then .int .i64 n0 else if q = 1 then .int .i64 n1 else .string n2, ⟨n0, n1, n2⟩, rfl, ⟨rfl, rfl, rfl⟩, bounds_i64 f0, bounds_i64 f1, z2⟩
theorem array_Stp {cs : Array Value} (h : cs.size = 3) : ∃ xa xb xc, cs = #[xa, xb, xc] := by
  obtain ⟨l⟩ := cs
  match l, h with
  | [xa, xb, xc], _ => exact ⟨xa, xb, xc, rfl⟩
theorem open_Stp {r0 : Reach} {b0 : Nat} {v : Value} {d : DataW H} {p : List MemPlace} (hv : Value.okWide Try.prog W r0 b0 103 v) (h : DataW.Trod enc Try.prog W 0 sp held 103 v d p) : ∃ u, StpAt W (All W) v u ∧ FineStp u := by
  obtain ⟨cs, rfl, hsz⟩ := okWide_struct Try.underlying103 hv
  rw [cells_Stp] at hsz
  obtain ⟨xa, xb, xc, rfl⟩ := array_Stp hsz
  obtain ⟨fuel, hf⟩ := h
  obtain ⟨f, u, e0, hh, hfi⟩ := open_Stp_cells _ _ _ hf
  simp only [Value.cells, List.cons.injEq, and_true] at e0
  obtain ⟨rfl, rfl, rfl⟩ := e0
  exact ⟨u, ⟨f, rfl, hh⟩, hfi⟩
theorem cells_Stps : Try.prog.cellsOf 46 = 1 := by kernel_rfl
theorem open_Stps {fuel : Nat} {cs : List Value} {x : DataW H × List MemPlace} (h : DataW.trod enc Try.prog W 0 sp held fuel 46 cs = some x) :
    ∃ (v : Value) (us : List Stp), cs = [v] ∧ LAt 3 EStp W (All W) v us ∧ FineL FineStp us :=
  open_list keepsStp (by omega) Try.underlying46 cells_Stp (fun fuel cs x h => by
    obtain ⟨f, u, rfl, he, hf⟩ := open_Stp_cells fuel cs x h
    refine ⟨f, u, fun q hq => ?_, he, hf⟩
    match q, hq with
    | 0, _ => rfl
    | 1, _ => rfl
    | 2, _ => rfl) h
end
end Go.Proofs.Ytekhidflncfeiaa.Ls
