/- What the frame tells of what came in. -/
import Derived.Test.YthohpaljkbnkeaaTWnts
import Derived.Test.YthohpaljkbnkeaaLsOS
namespace Go.Proofs.Ythohpaljkbnkeaa.Ls
set_option maxRecDepth 8000
open Go.ChangeShapes Go.WideShapes Go.ChangeAt Go.RowKit Go.Deep
open Recs
set_option linter.unusedVariables false
section
variable {H : Type} {enc : TypeId × Value → H} {W : World} {sp : Nat → Bool} {held : Bool}
theorem cellsS : Try.prog.cellsOf 9 = 1 := by kernel_rfl
theorem cells_strs : Try.prog.cellsOf 67 = 1 := by kernel_rfl
theorem cells_Slt : Try.prog.cellsOf 134 = 2 := by kernel_rfl
theorem open_Slt_cells (fuel : Nat) (cs : List Value) (x : DataW H × List MemPlace) (h : DataW.trod enc Try.prog W 0 sp held fuel 134 cs = some x) :
    ∃ (f : Nat → Value) (u : Slt), cs = [f 0, f 1] ∧ ESlt W (All W) f u ∧ FineSlt u := by
  obtain ⟨xs, n, _, _, hl, hxl, hf⟩ := DataW.trod_struct Try.underlying134 h
  rw [cells_Slt] at hl
  match cs, hl with
  | [v0, v1], _ =>
  match xs, hxl with
  | [y0, y1], _ =>
    have g0 : DataW.trod enc Try.prog W 0 sp held n 9 [v0] = some y0 := by have := hf 0 _ rfl; simpa [cellsS] using this
    have g1 : DataW.trod enc Try.prog W 0 sp held n 3 [v1] = some y1 := by have := hf 1 _ rfl; simpa [cellsI] using this
    obtain ⟨n0, e0, _, z0⟩ := DataW.trod_string Try.underlying9 g0
    obtain ⟨n1, e1, _, f1⟩ := DataW.trod_int Try.underlying3 g1
    simp only [List.cons.injEq, and_true] at e0 e1
    subst e0 e1
    exact ⟨fun q => if q = 0 then .string n0 else .int .i64 n1, ⟨n0, n1⟩, rfl, ⟨rfl, rfl⟩, z0, bounds_i64 f1⟩
theorem array_Slt {cs : Array Value} (h : cs.size = 2) : ∃ xa xb, cs = #[xa, xb] := by
  obtain ⟨l⟩ := cs
  match l, h with
  | [xa, xb], _ => exact ⟨xa, xb, rfl⟩
theorem open_Slt {r0 : Reach} {b0 : Nat} {v : Value} {d : DataW H} {p : List MemPlace} (hv : Value.okWide Try.prog W r0 b0 134 v) (h : DataW.Trod enc Try.prog W 0 sp held 134 v d p) : ∃ u, SltAt W (All W) v u ∧ FineSlt u := by
  obtain ⟨cs, rfl, hsz⟩ := okWide_struct Try.underlying134 hv
  rw [cells_Slt] at hsz
  obtain ⟨xa, xb, rfl⟩ := array_Slt hsz
  obtain ⟨fuel, hf⟩ := h
  obtain ⟨f, u, e0, hh, hfi⟩ := open_Slt_cells _ _ _ hf
  simp only [Value.cells, List.cons.injEq, and_true] at e0
  obtain ⟨rfl, rfl⟩ := e0
  exact ⟨u, ⟨f, rfl, hh⟩, hfi⟩
theorem cells_Slts : Try.prog.cellsOf 68 = 1 := by kernel_rfl
theorem open_Slts {fuel : Nat} {cs : List Value} {x : DataW H × List MemPlace} (h : DataW.trod enc Try.prog W 0 sp held fuel 68 cs = some x) :
    ∃ (v : Value) (us : List Slt), cs = [v] ∧ LAt 2 ESlt W (All W) v us ∧ FineL FineSlt us :=
  open_list keepsSlt (by omega) Try.underlying68 cells_Slt (fun fuel cs x h => by
    obtain ⟨f, u, rfl, he, hf⟩ := open_Slt_cells fuel cs x h
    refine ⟨f, u, fun q hq => ?_, he, hf⟩
    match q, hq with
    | 0, _ => rfl
    | 1, _ => rfl) h
theorem cells_Wnt : Try.prog.cellsOf 70 = 3 := by kernel_rfl
theorem open_Wnt_cells (fuel : Nat) (cs : List Value) (x : DataW H × List MemPlace) (h : DataW.trod enc Try.prog W 0 sp held fuel 70 cs = some x) :
    ∃ (f : Nat → Value) (u : Wnt), cs = [f 0, f 1, f 2] ∧ EWnt W (All W) f u ∧ FineWnt u := by
  obtain ⟨xs, n, _, _, hl, hxl, hf⟩ := DataW.trod_struct Try.underlying70 h
  rw [cells_Wnt] at hl
  match cs, hl with
  | [v0, v1, v2], _ =>
  match xs, hxl with
  | [y0, y1, y2], _ =>
    have g0 : DataW.trod enc Try.prog W 0 sp held n 9 [v0] = some y0 := by have := hf 0 _ rfl; simpa [cellsS] using this
    have g1 : DataW.trod enc Try.prog W 0 sp held n 67 [v1] = some y1 := by have := hf 1 _ rfl; simpa [cells_strs] using this
    have g2 : DataW.trod enc Try.prog W 0 sp held n 68 [v2] = some y2 := by have := hf 2 _ rfl; simpa [cells_Slts] using this
    obtain ⟨n0, e0, _, z0⟩ := DataW.trod_string Try.underlying9 g0
    obtain ⟨u1, r1, e1, a1, f1⟩ := open_strs g1
    obtain ⟨u2, r2, e2, a2, f2⟩ := open_Slts g2
    simp only [List.cons.injEq, and_true] at e0 e1 e2
    subst e0 e1 e2
    exact ⟨fun q => if q = 0 then .string n0 else if q = 1 then v1 else v2, ⟨n0, r1, r2⟩, rfl, ⟨rfl, a1, a2⟩, z0, f1, f2⟩
theorem array_Wnt {cs : Array Value} (h : cs.size = 3) : ∃ xa xb xc, cs = #[xa, xb, xc] := by
  obtain ⟨l⟩ := cs
  match l, h with
  | [xa, xb, xc], _ => exact ⟨xa, xb, xc, rfl⟩
theorem open_Wnt {r0 : Reach} {b0 : Nat} {v : Value} {d : DataW H} {p : List MemPlace} (hv : Value.okWide Try.prog W r0 b0 70 v) (h : DataW.Trod enc Try.prog W 0 sp held 70 v d p) : ∃ u, WntAt W (All W) v u ∧ FineWnt u := by
  obtain ⟨cs, rfl, hsz⟩ := okWide_struct Try.underlying70 hv
  rw [cells_Wnt] at hsz
  obtain ⟨xa, xb, xc, rfl⟩ := array_Wnt hsz
  obtain ⟨fuel, hf⟩ := h
  obtain ⟨f, u, e0, hh, hfi⟩ := open_Wnt_cells _ _ _ hf
  simp only [Value.cells, List.cons.injEq, and_true] at e0
  obtain ⟨rfl, rfl, rfl⟩ := e0
  exact ⟨u, ⟨f, rfl, hh⟩, hfi⟩
theorem cells_Wnts : Try.prog.cellsOf 30 = 1 := by kernel_rfl
theorem open_Wnts {fuel : Nat} {cs : List Value} {x : DataW H × List MemPlace} (h : DataW.trod enc Try.prog W 0 sp held fuel 30 cs = some x) :
    ∃ (v : Value) (us : List Wnt), cs = [v] ∧ LAt 3 EWnt W (All W) v us ∧ FineL FineWnt us :=
  open_list keepsWnt (by omega) Try.underlying30 cells_Wnt (fun fuel cs x h => by
    obtain ⟨f, u, rfl, he, hf⟩ := open_Wnt_cells fuel cs x h
    refine ⟨f, u, fun q hq => ?_, he, hf⟩
    match q, hq with
    | 0, _ => rfl
    | 1, _ => rfl
    | 2, _ => rfl) h
end
end Go.Proofs.Ythohpaljkbnkeaa.Ls
