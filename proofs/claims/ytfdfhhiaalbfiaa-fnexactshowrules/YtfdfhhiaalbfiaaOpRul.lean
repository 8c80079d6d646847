/- What the frame tells of what came in. -/
import Derived.Test.YtfdfhhiaalbfiaaTRuls
import Derived.Test.YtfdfhhiaalbfiaaLsO
namespace Go.Proofs.Ytfdfhhiaalbfiaa.Ls
set_option maxRecDepth 8000
open Go.ChangeShapes Go.WideShapes Go.ChangeAt Go.RowKit Go.Deep
open Recs
set_option linter.unusedVariables false
section
variable {H : Type} {enc : TypeId × Value → H} {W : World} {sp : Nat → Bool} {held : Bool}
theorem cellsB : Try.prog.cellsOf 4 = 1 := by kernel_rfl
theorem cellsS : Try.prog.cellsOf 9 = 1 := by kernel_rfl
theorem cells_Rul : Try.prog.cellsOf 82 = 6 := by kernel_rfl
theorem open_Rul_cells (fuel : Nat) (cs : List Value) (x : DataW H × List MemPlace) (h : DataW.trod enc Try.prog W 0 sp held fuel 82 cs = some x) :
    ∃ (f : Nat → Value) (u : Rul), cs = [f 0, f 1, f 2, f 3, f 4, f 5] ∧ ERul W (All W) f u ∧ FineRul u := by
  obtain ⟨xs, n, _, _, hl, hxl, hf⟩ := DataW.trod_struct Try.underlying82 h
  rw [cells_Rul] at hl
  match cs, hl with
  | [v0, v1, v2, v3, v4, v5], _ =>
  match xs, hxl with
  | [y0, y1, y2, y3, y4, y5], _ =>
    have g0 : DataW.trod enc Try.prog W 0 sp held n 4 [v0] = some y0 := by have := hf 0 _ rfl; simpa [cellsB] using this
    have g1 : DataW.trod enc Try.prog W 0 sp held n 9 [v1] = some y1 := by have := hf 1 _ rfl; simpa [cellsS] using this
    have g2 : DataW.trod enc Try.prog W 0 sp held n 3 [v2] = some y2 := by have := hf 2 _ rfl; simpa [cellsI] using this
    have g3 : DataW.trod enc Try.prog W 0 sp held n 3 [v3] = some y3 := by have := hf 3 _ rfl; simpa [cellsI] using this
    have g4 : DataW.trod enc Try.prog W 0 sp held n 9 [v4] = some y4 := by have := hf 4 _ rfl; simpa [cellsS] using this
    have g5 : DataW.trod enc Try.prog W 0 sp held n 4 [v5] = some y5 := by have := hf 5 _ rfl; simpa [cellsB] using this
    obtain ⟨n0, e0, _⟩ := DataW.trod_bool Try.underlying4 g0
    obtain ⟨n1, e1, _, z1⟩ := DataW.trod_string Try.underlying9 g1
    obtain ⟨n2, e2, _, f2⟩ := DataW.trod_int Try.underlying3 g2
    obtain ⟨n3, e3, _, f3⟩ := DataW.trod_int Try.underlying3 g3
    obtain ⟨n4, e4, _, z4⟩ := DataW.trod_string Try.underlying9 g4
    obtain ⟨n5, e5, _⟩ := DataW.trod_bool Try.underlying4 g5
    simp only [List.cons.injEq, and_true] at e0 e1 e2 e3 e4 e5
    subst e0 e1 e2 e3 e4 e5
    exact ⟨fun q => if q = 0 then .bool n0 else if q = 1 then .string n1 else if q = 2 then .int .i64 n2 else if q = 3 then .int .i64 n3 else if q = 4 then .string n4 else .bool n5, ⟨n0, n1, n2, n3, n4, n5⟩, rfl, ⟨rfl, rfl, rfl, rfl, rfl, rfl⟩, trivial, z1, bounds_i64 f2, bounds_i64 f3, z4, trivial⟩
theorem array_Rul {cs : Array Value} (h : cs.size = 6) : ∃ xa xb xc xd xe xf, cs = #[xa, xb, xc, xd, xe, xf] := by
  obtain ⟨l⟩ := cs
  match l, h with
  | [xa, xb, xc, xd, xe, xf], _ => exact ⟨xa, xb, xc, xd, xe, xf, rfl⟩
theorem open_Rul {r0 : Reach} {b0 : Nat} {v : Value} {d : DataW H} {p : List MemPlace} (hv : Value.okWide Try.prog W r0 b0 82 v) (h : DataW.Trod enc Try.prog W 0 sp held 82 v d p) : ∃ u, RulAt W (All W) v u ∧ FineRul u := by
  obtain ⟨cs, rfl, hsz⟩ := okWide_struct Try.underlying82 hv
  rw [cells_Rul] at hsz
  obtain ⟨xa, xb, xc, xd, xe, xf, rfl⟩ := array_Rul hsz
  obtain ⟨fuel, hf⟩ := h
  obtain ⟨f, u, e0, hh, hfi⟩ := open_Rul_cells _ _ _ hf
  simp only [Value.cells, List.cons.injEq, and_true] at e0
  obtain ⟨rfl, rfl, rfl, rfl, rfl, rfl⟩ := e0
  exact ⟨u, ⟨f, rfl, hh⟩, hfi⟩
theorem cells_Ruls : Try.prog.cellsOf 35 = 1 := by kernel_rfl
theorem open_Ruls {fuel : Nat} {cs : List Value} {x : DataW H × List MemPlace} (h : DataW.trod enc Try.prog W 0 sp held fuel 35 cs = some x) :
    ∃ (v : Value) (us : List Rul), cs = [v] ∧ LAt 6 ERul W (All W) v us ∧ FineL FineRul us :=
  open_list keepsRul (by omega) Try.underlying35 cells_Rul (fun fuel cs x h => by
    obtain ⟨f, u, rfl, he, hf⟩ := open_Rul_cells fuel cs x h
    refine ⟨f, u, fun q hq => ?_, he, hf⟩
    match q, hq with
    | 0, _ => rfl
    | 1, _ => rfl
    | 2, _ => rfl
    | 3, _ => rfl
    | 4, _ => rfl
    | 5, _ => rfl) h
end
end Go.Proofs.Ytfdfhhiaalbfiaa.Ls
