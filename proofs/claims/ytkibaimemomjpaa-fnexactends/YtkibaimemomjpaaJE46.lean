/- What the frame tells of what came in. -/
import Derived.Test.YtkibaimemomjpaaJE08
import Derived.Test.YtkibaimemomjpaaJE10
import Derived.Test.YtkibaimemomjpaaJE45
namespace Go.Proofs.Ytkibaimemomjpaa.Ls
set_option maxRecDepth 8000
open Go.ChangeShapes Go.WideShapes Go.ChangeAt Go.RowKit Go.Deep
open Recs
set_option linter.unusedVariables false
section
variable {H : Type} {enc : TypeId × Value → H} {W : World} {sp : Nat → Bool} {held : Bool}
theorem cellsB : Try.prog.cellsOf 4 = 1 := by kernel_rfl
theorem cellsS : Try.prog.cellsOf 9 = 1 := by kernel_rfl
theorem cells_ints : Try.prog.cellsOf 27 = 1 := by kernel_rfl
theorem cells_strs : Try.prog.cellsOf 23 = 1 := by kernel_rfl
theorem cells_Arr : Try.prog.cellsOf 129 = 3 := by kernel_rfl
theorem open_Arr_cells (fuel : Nat) (cs : List Value) (x : DataW H × List MemPlace) (h : DataW.trod enc Try.prog W 0 sp held fuel 129 cs = some x) :
    ∃ (f : Nat → Value) (u : Arr), cs = [f 0, f 1, f 2] ∧ EArr W (All W) f u ∧ FineArr u := by
  obtain ⟨xs, n, _, _, hl, hxl, hf⟩ := DataW.trod_struct Try.underlying129 h
  rw [cells_Arr] at hl
  match cs, hl with
  | [v0, v1, v2], _ =>
  match xs, hxl with
  | [y0, y1, y2], _ =>
    have g0 : DataW.trod enc Try.prog W 0 sp held n 3 [v0] = some y0 := by have := hf 0 _ rfl; simpa [cellsI] using this
    have g1 : DataW.trod enc Try.prog W 0 sp held n 27 [v1] = some y1 := by have := hf 1 _ rfl; simpa [cells_ints] using this
    have g2 : DataW.trod enc Try.prog W 0 sp held n 4 [v2] = some y2 := by have := hf 2 _ rfl; simpa [cellsB] using this
    obtain ⟨n0, e0, _, f0⟩ := DataW.trod_int Try.underlying3 g0
    obtain ⟨u1, r1, e1, a1, f1⟩ := open_ints g1
    obtain ⟨n2, e2, _⟩ := DataW.trod_bool Try.underlying4 g2
    simp only [List.cons.injEq, and_true] at e0 e1 e2
    subst e0 e1 e2
    exact ⟨fun q => if q = 0 then .int .i64 n0 else if q = 1 then v1 else .bool n2, ⟨n0, r1, n2⟩, rfl, ⟨rfl, a1, rfl⟩, bounds_i64 f0, f1, trivial⟩
theorem array_Arr {cs : Array Value} (h : cs.size = 3) : ∃ xa xb xc, cs = #[xa, xb, xc] := by
  obtain ⟨l⟩ := cs
  match l, h with
  | [xa, xb, xc], _ => exact ⟨xa, xb, xc, rfl⟩
theorem open_Arr {r0 : Reach} {b0 : Nat} {v : Value} {d : DataW H} {p : List MemPlace} (hv : Value.okWide Try.prog W r0 b0 129 v) (h : DataW.Trod enc Try.prog W 0 sp held 129 v d p) : ∃ u, ArrAt W (All W) v u ∧ FineArr u := by
  obtain ⟨cs, rfl, hsz⟩ := okWide_struct Try.underlying129 hv
  rw [cells_Arr] at hsz
  obtain ⟨xa, xb, xc, rfl⟩ := array_Arr hsz
  obtain ⟨fuel, hf⟩ := h
  obtain ⟨f, u, e0, hh, hfi⟩ := open_Arr_cells _ _ _ hf
  simp only [Value.cells, List.cons.injEq, and_true] at e0
  obtain ⟨rfl, rfl, rfl⟩ := e0
  exact ⟨u, ⟨f, rfl, hh⟩, hfi⟩
theorem cells_Arrs : Try.prog.cellsOf 82 = 1 := by kernel_rfl
theorem open_Arrs {fuel : Nat} {cs : List Value} {x : DataW H × List MemPlace} (h : DataW.trod enc Try.prog W 0 sp held fuel 82 cs = some x) :
    ∃ (v : Value) (us : List Arr), cs = [v] ∧ LAt 3 EArr W (All W) v us ∧ FineL FineArr us :=
  open_list keepsArr (by omega) Try.underlying82 cells_Arr (fun fuel cs x h => by
    obtain ⟨f, u, rfl, he, hf⟩ := open_Arr_cells fuel cs x h
    refine ⟨f, u, fun q hq => ?_, he, hf⟩
    match q, hq with
    | 0, _ => rfl
    | 1, _ => rfl
    | 2, _ => rfl) h
theorem cells_Src : Try.prog.cellsOf 80 = 3 := by kernel_rfl
theorem open_Src_cells (fuel : Nat) (cs : List Value) (x : DataW H × List MemPlace) (h : DataW.trod enc Try.prog W 0 sp held fuel 80 cs = some x) :
    ∃ (f : Nat → Value) (u : Src), cs = [f 0, f 1, f 2] ∧ ESrc W (All W) f u ∧ FineSrc u := by
  obtain ⟨xs, n, _, _, hl, hxl, hf⟩ := DataW.trod_struct Try.underlying80 h
  rw [cells_Src] at hl
  match cs, hl with
  | [v0, v1, v2], _ =>
  match xs, hxl with
  | [y0, y1, y2], _ =>
    have g0 : DataW.trod enc Try.prog W 0 sp held n 9 [v0] = some y0 := by have := hf 0 _ rfl; simpa [cellsS] using this
    have g1 : DataW.trod enc Try.prog W 0 sp held n 4 [v1] = some y1 := by have := hf 1 _ rfl; simpa [cellsB] using this
    have g2 : DataW.trod enc Try.prog W 0 sp held n 23 [v2] = some y2 := by have := hf 2 _ rfl; simpa [cells_strs] using this
    obtain ⟨n0, e0, _, z0⟩ := DataW.trod_string Try.underlying9 g0
    obtain ⟨n1, e1, _⟩ := DataW.trod_bool Try.underlying4 g1
    obtain ⟨u2, r2, e2, a2, f2⟩ := open_strs g2
    simp only [List.cons.injEq, and_true] at e0 e1 e2
    subst e0 e1 e2
    exact ⟨fun q => if q = 0 then .string n0 else if q = 1 then .bool n1 else v2, ⟨n0, n1, r2⟩, rfl, ⟨rfl, rfl, a2⟩, z0, trivial, f2⟩
theorem array_Src {cs : Array Value} (h : cs.size = 3) : ∃ xa xb xc, cs = #[xa, xb, xc] := by
  obtain ⟨l⟩ := cs
  match l, h with
  | [xa, xb, xc], _ => exact ⟨xa, xb, xc, rfl⟩
theorem open_Src {r0 : Reach} {b0 : Nat} {v : Value} {d : DataW H} {p : List MemPlace} (hv : Value.okWide Try.prog W r0 b0 80 v) (h : DataW.Trod enc Try.prog W 0 sp held 80 v d p) : ∃ u, SrcAt W (All W) v u ∧ FineSrc u := by
  obtain ⟨cs, rfl, hsz⟩ := okWide_struct Try.underlying80 hv
  rw [cells_Src] at hsz
  obtain ⟨xa, xb, xc, rfl⟩ := array_Src hsz
  obtain ⟨fuel, hf⟩ := h
  obtain ⟨f, u, e0, hh, hfi⟩ := open_Src_cells _ _ _ hf
  simp only [Value.cells, List.cons.injEq, and_true] at e0
  obtain ⟨rfl, rfl, rfl⟩ := e0
  exact ⟨u, ⟨f, rfl, hh⟩, hfi⟩
theorem cells_Srcs : Try.prog.cellsOf 44 = 1 := by kernel_rfl
theorem open_Srcs {fuel : Nat} {cs : List Value} {x : DataW H × List MemPlace} (h : DataW.trod enc Try.prog W 0 sp held fuel 44 cs = some x) :
    ∃ (v : Value) (us : List Src), cs = [v] ∧ LAt 3 ESrc W (All W) v us ∧ FineL FineSrc us :=
  open_list keepsSrc (by omega) Try.underlying44 cells_Src (fun fuel cs x h => by
    obtain ⟨f, u, rfl, he, hf⟩ := open_Src_cells fuel cs x h
    refine ⟨f, u, fun q hq => ?_, he, hf⟩
    match q, hq with
    | 0, _ => rfl
    | 1, _ => rfl
    | 2, _ => rfl) h
theorem cells_Arr2s : Try.prog.cellsOf 45 = 1 := by kernel_rfl
theorem open_Arr2s {fuel : Nat} {cs : List Value} {x : DataW H × List MemPlace} (h : DataW.trod enc Try.prog W 0 sp held fuel 45 cs = some x) :
    ∃ (v : Value) (us : List (List Arr)), cs = [v] ∧ LAt 1 EArr2 W (All W) v us ∧ FineL (FineL FineArr) us :=
  open_list keepsArr2 (by omega) Try.underlying45 cells_Arr2s (fun fuel cs x h => by
    obtain ⟨v, u, rfl, he, hf⟩ := open_Arrs h
    refine ⟨fun _ => v, u, fun q hq => ?_, he, hf⟩
    match q, hq with
    | 0, _ => rfl) h
end
end Go.Proofs.Ytkibaimemomjpaa.Ls
