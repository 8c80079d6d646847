/- What the frame tells of what came in. -/
import Derived.Test.YtjdhpampfnilaaaTSens
import Derived.Test.YtjdhpampfnilaaaLsO
namespace Go.Proofs.Ytjdhpampfnilaaa.Ls
set_option maxRecDepth 8000
open Go.ChangeShapes Go.WideShapes Go.ChangeAt Go.RowKit Go.Deep
open Recs
set_option linter.unusedVariables false
section
variable {H : Type} {enc : TypeId × Value → H} {W : World} {sp : Nat → Bool} {held : Bool}
theorem cells_Rct : Try.prog.cellsOf 46 = 3 := by kernel_rfl
theorem open_Rct_cells (fuel : Nat) (cs : List Value) (x : DataW H × List MemPlace) (h : DataW.trod enc Try.prog W 0 sp held fuel 46 cs = some x) :
    ∃ (f : Nat → Value) (u : Rct), cs = [f 0, f 1, f 2] ∧ ERct W (All W) f u ∧ FineRct u := by
  obtain ⟨xs, n, _, _, hl, hxl, hf⟩ := DataW.trod_struct Try.underlying46 h
  rw [cells_Rct] at hl
  match cs, hl with
  | [v0, v1, v2], _ =>
  match xs, hxl with
  | [y0, y1, y2], _ =>
    have g0 : DataW.trod enc Try.prog W 0 sp held n 3 [v0] = some y0 := by have := hf 0 _ rfl; simpa [cellsI] using this
    have g1 : DataW.trod enc Try.prog W 0 sp held n 3 [v1] = some y1 := by have := hf 1 _ rfl; simpa [cellsI] using this
    have g2 : DataW.trod enc Try.prog W 0 sp held n 3 [v2] = some y2 := by have := hf 2 _ rfl; simpa [cellsI] using this
    obtain ⟨n0, e0, _, f0⟩ := DataW.trod_int Try.underlying3 g0
    obtain ⟨n1, e1, _, f1⟩ := DataW.trod_int Try.underlying3 g1
    obtain ⟨n2, e2, _, f2⟩ := DataW.trod_int Try.underlying3 g2
    simp only [List.cons.injEq, and_true] at e0 e1 e2
    subst e0 e1 e2
    exact ⟨fun q => if q = 0 then .int .i64 n0 else if q = 1 then .int .i64 n1 else .int .i64 n2, ⟨n0, n1, n2⟩, rfl, ⟨rfl, rfl, rfl⟩, bounds_i64 f0, bounds_i64 f1, bounds_i64 f2⟩
theorem array_Rct {cs : Array Value} (h : cs.size = 3) : ∃ xa xb xc, cs = #[xa, xb, xc] := by
  obtain ⟨l⟩ := cs
  match l, h with
  | [xa, xb, xc], _ => exact ⟨xa, xb, xc, rfl⟩
theorem open_Rct {r0 : Reach} {b0 : Nat} {v : Value} {d : DataW H} {p : List MemPlace} (hv : Value.okWide Try.prog W r0 b0 46 v) (h : DataW.Trod enc Try.prog W 0 sp held 46 v d p) : ∃ u, RctAt W (All W) v u ∧ FineRct u := by
  obtain ⟨cs, rfl, hsz⟩ := okWide_struct Try.underlying46 hv
  rw [cells_Rct] at hsz
  obtain ⟨xa, xb, xc, rfl⟩ := array_Rct hsz
  obtain ⟨fuel, hf⟩ := h
  obtain ⟨f, u, e0, hh, hfi⟩ := open_Rct_cells _ _ _ hf
  simp only [Value.cells, List.cons.injEq, and_true] at e0
  obtain ⟨rfl, rfl, rfl⟩ := e0
  exact ⟨u, ⟨f, rfl, hh⟩, hfi⟩
theorem cells_Rcts : Try.prog.cellsOf 30 = 1 := by kernel_rfl
theorem open_Rcts {fuel : Nat} {cs : List Value} {x : DataW H × List MemPlace} (h : DataW.trod enc Try.prog W 0 sp held fuel 30 cs = some x) :
    ∃ (v : Value) (us : List Rct), cs = [v] ∧ LAt 3 ERct W (All W) v us ∧ FineL FineRct us :=
  open_list keepsRct (by omega) Try.underlying30 cells_Rct (fun fuel cs x h => by
    obtain ⟨f, u, rfl, he, hf⟩ := open_Rct_cells fuel cs x h
    refine ⟨f, u, fun q hq => ?_, he, hf⟩
    match q, hq with
    | 0, _ => rfl
    | 1, _ => rfl
    | 2, _ => rfl) h
theorem cells_Sen : Try.prog.cellsOf 32 = 4 := by kernel_rfl
theorem open_Sen_cells (fuel : Nat) (cs : List Value) (x : DataW H × List MemPlace) (h : DataW.trod enc Try.prog W 0 sp held fuel 32 cs = some x) :
    ∃ (f : Nat → Value) (u : Sen), cs = [f 0, f 1, f 2, f 3] ∧ ESen W (All W) f u ∧ FineSen u := by
  obtain ⟨xs, n, _, _, hl, hxl, hf⟩ := DataW.trod_struct Try.underlying32 h
  rw [cells_Sen] at hl
  match cs, hl with
  | [v0, v1, v2, v3], _ =>
  match xs, hxl with
  | [y0, y1, y2, y3], _ =>
    have g0 : DataW.trod enc Try.prog W 0 sp held n 3 [v0] = some y0 := by have := hf 0 _ rfl; simpa [cellsI] using this
    have g1 : DataW.trod enc Try.prog W 0 sp held n 3 [v1] = some y1 := by have := hf 1 _ rfl; simpa [cellsI] using this
    have g2 : DataW.trod enc Try.prog W 0 sp held n 3 [v2] = some y2 := by have := hf 2 _ rfl; simpa [cellsI] using this
    have g3 : DataW.trod enc Try.prog W 0 sp held n 30 [v3] = some y3 := by have := hf 3 _ rfl; simpa [cells_Rcts] using this
    obtain ⟨n0, e0, _, f0⟩ := DataW.trod_int Try.underlying3 g0
    obtain ⟨n1, e1, _, f1⟩ := DataW.trod_int Try.underlying3 g1
    obtain ⟨n2, e2, _, f2⟩ := DataW.trod_int Try.underlying3 g2
    obtain ⟨u3, r3, e3, a3, f3⟩ := open_Rcts g3
    simp only [List.cons.injEq, and_true] at e0 e1 e2 e3
    subst e0 e1 e2 e3
    exact ⟨fun q => if q = 0 then .int .i64 n0 else if q = 1 then .int .i64 n1 else if q = 2 then .int .i64 n2 else v3, ⟨n0, n1, n2, r3⟩, rfl, ⟨rfl, rfl, rfl, a3⟩, bounds_i64 f0, bounds_i64 f1, bounds_i64 f2, f3⟩
theorem array_Sen {cs : Array Value} (h : cs.size = 4) : ∃ xa xb xc xd, cs = #[xa, xb, xc, xd] := by
  obtain ⟨l⟩ := cs
  match l, h with
  | [xa, xb, xc, xd], _ => exact ⟨xa, xb, xc, xd, rfl⟩
theorem open_Sen {r0 : Reach} {b0 : Nat} {v : Value} {d : DataW H} {p : List MemPlace} (hv : Value.okWide Try.prog W r0 b0 32 v) (h : DataW.Trod enc Try.prog W 0 sp held 32 v d p) : ∃ u, SenAt W (All W) v u ∧ FineSen u := by
  obtain ⟨cs, rfl, hsz⟩ := okWide_struct Try.underlying32 hv
  rw [cells_Sen] at hsz
  obtain ⟨xa, xb, xc, xd, rfl⟩ := array_Sen hsz
  obtain ⟨fuel, hf⟩ := h
  obtain ⟨f, u, e0, hh, hfi⟩ := open_Sen_cells _ _ _ hf
  simp only [Value.cells, List.cons.injEq, and_true] at e0
  obtain ⟨rfl, rfl, rfl, rfl⟩ := e0
  exact ⟨u, ⟨f, rfl, hh⟩, hfi⟩
theorem cells_Sens : Try.prog.cellsOf 22 = 1 := by kernel_rfl
theorem open_Sens {fuel : Nat} {cs : List Value} {x : DataW H × List MemPlace} (h : DataW.trod enc Try.prog W 0 sp held fuel 22 cs = some x) :
    ∃ (v : Value) (us : List Sen), cs = [v] ∧ LAt 4 ESen W (All W) v us ∧ FineL FineSen us :=
  open_list keepsSen (by omega) Try.underlying22 cells_Sen (fun fuel cs x h => by
    obtain ⟨f, u, rfl, he, hf⟩ := open_Sen_cells fuel cs x h
    refine ⟨f, u, fun q hq => ?_, he, hf⟩
    match q, hq with
    | 0, _ => rfl
    | 1, _ => rfl
    | 2, _ => rfl
    | 3, _ => rfl) h
end
end Go.Proofs.Ytjdhpampfnilaaa.Ls
