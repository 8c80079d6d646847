/- What the frame tells of what came in. -/
import Derived.Test.YtdhicmbfknagjaaJRO36
import Derived.Test.YtdhicmbfknagjaaJRO07
namespace Go.Proofs.Ytdhicmbfknagjaa.Ls
set_option maxRecDepth 8000
open Go.ChangeShapes Go.WideShapes Go.ChangeAt Go.RowKit Go.Deep
open Recs
set_option linter.unusedVariables false
section
variable {H : Type} {enc : TypeId × Value → H} {W : World} {sp : Nat → Bool} {held : Bool}
theorem cellsB : Try.prog.cellsOf 4 = 1 := by kernel_rfl
theorem cellsS : Try.prog.cellsOf 9 = 1 := by kernel_rfl
theorem cells_strs : Try.prog.cellsOf 81 = 1 := by kernel_rfl
theorem cells_Itm : Try.prog.cellsOf 175 = 2 := by kernel_rfl
theorem open_Itm_cells (fuel : Nat) (cs : List Value) (x : DataW H × List MemPlace) (h : DataW.trod enc Try.prog W 0 sp held fuel 175 cs = some x) :
    ∃ (f : Nat → Value) (u : Itm), cs = [f 0, f 1] ∧ EItm W (All W) f u ∧ FineItm u := by
  obtain ⟨xs, n, _, _, hl, hxl, hf⟩ := DataW.trod_struct Try.underlying175 h
  rw [cells_Itm] at hl
  match cs, hl with
  | [v0, v1], _ =>
  match xs, hxl with
  | [y0, y1], _ =>
    have g0 : DataW.trod enc Try.prog W 0 sp held n 3 [v0] = some y0 := by have := hf 0 _ rfl; simpa [cellsI] using this
    have g1 : DataW.trod enc Try.prog W 0 sp held n 9 [v1] = some y1 := by have := hf 1 _ rfl; simpa [cellsS] using this
    obtain ⟨n0, e0, _, f0⟩ := DataW.trod_int Try.underlying3 g0
    obtain ⟨n1, e1, _, z1⟩ := DataW.trod_string Try.underlying9 g1
    simp only [List.cons.injEq, and_true] at e0 e1
    subst e0 e1
    exact ⟨fun q => if q = 0 then .int .i64 n0 else .string n1, ⟨n0, n1⟩, rfl, ⟨rfl, rfl⟩, bounds_i64 f0, z1⟩
theorem array_Itm {cs : Array Value} (h : cs.size = 2) : ∃ xa xb, cs = #[xa, xb] := by
  obtain ⟨l⟩ := cs
  match l, h with
  | [xa, xb], _ => exact ⟨xa, xb, rfl⟩
theorem open_Itm {r0 : Reach} {b0 : Nat} {v : Value} {d : DataW H} {p : List MemPlace} (hv : Value.okWide Try.prog W r0 b0 175 v) (h : DataW.Trod enc Try.prog W 0 sp held 175 v d p) : ∃ u, ItmAt W (All W) v u ∧ FineItm u := by
  obtain ⟨cs, rfl, hsz⟩ := okWide_struct Try.underlying175 hv
  rw [cells_Itm] at hsz
  obtain ⟨xa, xb, rfl⟩ := array_Itm hsz
  obtain ⟨fuel, hf⟩ := h
  obtain ⟨f, u, e0, hh, hfi⟩ := open_Itm_cells _ _ _ hf
  simp only [Value.cells, List.cons.injEq, and_true] at e0
  obtain ⟨rfl, rfl⟩ := e0
  exact ⟨u, ⟨f, rfl, hh⟩, hfi⟩
theorem cells_Itms : Try.prog.cellsOf 92 = 1 := by kernel_rfl
theorem open_Itms {fuel : Nat} {cs : List Value} {x : DataW H × List MemPlace} (h : DataW.trod enc Try.prog W 0 sp held fuel 92 cs = some x) :
    ∃ (v : Value) (us : List Itm), cs = [v] ∧ LAt 2 EItm W (All W) v us ∧ FineL FineItm us :=
  open_list keepsItm (by omega) Try.underlying92 cells_Itm (fun fuel cs x h => by
    obtain ⟨f, u, rfl, he, hf⟩ := open_Itm_cells fuel cs x h
    refine ⟨f, u, fun q hq => ?_, he, hf⟩
    match q, hq with
    | 0, _ => rfl
    | 1, _ => rfl) h
theorem cells_Vlu : Try.prog.cellsOf 94 = 5 := by kernel_rfl
theorem open_Vlu_cells (fuel : Nat) (cs : List Value) (x : DataW H × List MemPlace) (h : DataW.trod enc Try.prog W 0 sp held fuel 94 cs = some x) :
    ∃ (f : Nat → Value) (u : Vlu), cs = [f 0, f 1, f 2, f 3, f 4] ∧ EVlu W (All W) f u ∧ FineVlu u := by
  obtain ⟨xs, n, _, _, hl, hxl, hf⟩ := DataW.trod_struct Try.underlying94 h
  rw [cells_Vlu] at hl
  match cs, hl with
  | [v0, v1, v2, v3, v4], _ =>
  match xs, hxl with
  | [y0, y1, y2, y3, y4], _ =>
    have g0 : DataW.trod enc Try.prog W 0 sp held n 3 [v0] = some y0 := by have := hf 0 _ rfl; simpa [cellsI] using this
    have g1 : DataW.trod enc Try.prog W 0 sp held n 3 [v1] = some y1 := by have := hf 1 _ rfl; simpa [cellsI] using this
    have g2 : DataW.trod enc Try.prog W 0 sp held n 9 [v2] = some y2 := by have := hf 2 _ rfl; simpa [cellsS] using this
    have g3 : DataW.trod enc Try.prog W 0 sp held n 4 [v3] = some y3 := by have := hf 3 _ rfl; simpa [cellsB] using this
    have g4 : DataW.trod enc Try.prog W 0 sp held n 92 [v4] = some y4 := by have := hf 4 _ rfl; simpa [cells_Itms] using this
    obtain ⟨n0, e0, _, f0⟩ := DataW.trod_int Try.underlying3 g0
    obtain ⟨n1, e1, _, f1⟩ := DataW.trod_int Try.underlying3 g1
    obtain ⟨n2, e2, _, z2⟩ := DataW.trod_string Try.underlying9 g2
    obtain ⟨n3, e3, _⟩ := DataW.trod_bool Try.underlying4 g3
    obtain ⟨u4, r4, e4, a4, f4⟩ := open_Itms g4
    simp only [List.cons.injEq, and_true] at e0 e1 e2 e3 e4
    subst e0 e1 e2 e3 e4
    exact ⟨fun q => if q = 0 then .int .i64 n0 else if q = 1 then .int .i64 n1 else if q = 2 then .string n2 else if q = 3 then .bool n3 else v4, ⟨n0, n1, n2, n3, r4⟩, rfl, ⟨rfl, rfl, rfl, rfl, a4⟩, bounds_i64 f0, bounds_i64 f1, z2, trivial, f4⟩
theorem array_Vlu {cs : Array Value} (h : cs.size = 5) : ∃ xa xb xc xd xe, cs = #[xa, xb, xc, xd, xe] := by
  obtain ⟨l⟩ := cs
  match l, h with
  | [xa, xb, xc, xd, xe], _ => exact ⟨xa, xb, xc, xd, xe, rfl⟩
theorem open_Vlu {r0 : Reach} {b0 : Nat} {v : Value} {d : DataW H} {p : List MemPlace} (hv : Value.okWide Try.prog W r0 b0 94 v) (h : DataW.Trod enc Try.prog W 0 sp held 94 v d p) : ∃ u, VluAt W (All W) v u ∧ FineVlu u := by
  obtain ⟨cs, rfl, hsz⟩ := okWide_struct Try.underlying94 hv
  rw [cells_Vlu] at hsz
  obtain ⟨xa, xb, xc, xd, xe, rfl⟩ := array_Vlu hsz
  obtain ⟨fuel, hf⟩ := h
  obtain ⟨f, u, e0, hh, hfi⟩ := open_Vlu_cells _ _ _ hf
  simp only [Value.cells, List.cons.injEq, and_true] at e0
  obtain ⟨rfl, rfl, rfl, rfl, rfl⟩ := e0
  exact ⟨u, ⟨f, rfl, hh⟩, hfi⟩
theorem cells_Vlus : Try.prog.cellsOf 50 = 1 := by kernel_rfl
theorem open_Vlus {fuel : Nat} {cs : List Value} {x : DataW H × List MemPlace} (h : DataW.trod enc Try.prog W 0 sp held fuel 50 cs = some x) :
    ∃ (v : Value) (us : List Vlu), cs = [v] ∧ LAt 5 EVlu W (All W) v us ∧ FineL FineVlu us :=
  open_list keepsVlu (by omega) Try.underlying50 cells_Vlu (fun fuel cs x h => by
    obtain ⟨f, u, rfl, he, hf⟩ := open_Vlu_cells fuel cs x h
    refine ⟨f, u, fun q hq => ?_, he, hf⟩
    match q, hq with
    | 0, _ => rfl
    | 1, _ => rfl
    | 2, _ => rfl
    | 3, _ => rfl
    | 4, _ => rfl) h
theorem cells_Fld : Try.prog.cellsOf 130 = 11 := by kernel_rfl
theorem open_Fld_cells (fuel : Nat) (cs : List Value) (x : DataW H × List MemPlace) (h : DataW.trod enc Try.prog W 0 sp held fuel 130 cs = some x) :
    ∃ (f : Nat → Value) (u : Fld), cs = [f 0, f 1, f 2, f 3, f 4, f 5, f 6, f 7, f 8, f 9, f 10] ∧ EFld W (All W) f u ∧ FineFld u := by
  obtain ⟨xs, n, _, _, hl, hxl, hf⟩ := DataW.trod_struct Try.underlying130 h
  rw [cells_Fld] at hl
  match cs, hl with
  | [v0, v1, v2, v3, v4, v5, v6, v7, v8, v9, v10], _ =>
  match xs, hxl with
  | [y0, y1, y2, y3, y4, y5, y6], _ =>
    have g0 : DataW.trod enc Try.prog W 0 sp held n 9 [v0] = some y0 := by have := hf 0 _ rfl; simpa [cellsS] using this
    have g1 : DataW.trod enc Try.prog W 0 sp held n 3 [v1] = some y1 := by have := hf 1 _ rfl; simpa [cellsI] using this
    have g2 : DataW.trod enc Try.prog W 0 sp held n 4 [v2] = some y2 := by have := hf 2 _ rfl; simpa [cellsB] using this
    have g3 : DataW.trod enc Try.prog W 0 sp held n 4 [v3] = some y3 := by have := hf 3 _ rfl; simpa [cellsB] using this
    have g4 : DataW.trod enc Try.prog W 0 sp held n 81 [v4] = some y4 := by have := hf 4 _ rfl; simpa [cells_strs] using this
    have g5 : DataW.trod enc Try.prog W 0 sp held n 4 [v5] = some y5 := by have := hf 5 _ rfl; simpa [cellsB] using this
    have g6 : DataW.trod enc Try.prog W 0 sp held n 94 [v6, v7, v8, v9, v10] = some y6 := by have := hf 6 _ rfl; simpa [cells_Vlu] using this
    obtain ⟨n0, e0, _, z0⟩ := DataW.trod_string Try.underlying9 g0
    obtain ⟨n1, e1, _, f1⟩ := DataW.trod_int Try.underlying3 g1
    obtain ⟨n2, e2, _⟩ := DataW.trod_bool Try.underlying4 g2
    obtain ⟨n3, e3, _⟩ := DataW.trod_bool Try.underlying4 g3
    obtain ⟨u4, r4, e4, a4, f4⟩ := open_strs g4
    obtain ⟨n5, e5, _⟩ := DataW.trod_bool Try.underlying4 g5
    obtain ⟨fg6, ug6, eg6, hg6, zg6⟩ := open_Vlu_cells _ _ _ g6
    simp only [List.cons.injEq, and_true] at eg6
    obtain ⟨eg6_0, eg6_1, eg6_2, eg6_3, eg6_4⟩ := eg6
    obtain ⟨hg6_0, hg6_1, hg6_2, hg6_3, hg6_4⟩ := hg6
    obtain ⟨zg6_0, zg6_1, zg6_2, zg6_3, zg6_4⟩ := zg6
    simp only [List.cons.injEq, and_true] at e0 e1 e2 e3 e4 e5
    subst e0 e1 e2 e3 e4 e5
    subst eg6_0 eg6_1 eg6_2 eg6_3 eg6_4
    exact ⟨fun q => if q = 0 then .string n0 else if q = 1 then .int .i64 n1 else if q = 2 then .bool n2 else if q = 3 then .bool n3 else if q = 4 then v4 else if q = 5 then .bool n5 else if q = 6 then fg6 0 else if q = 7 then fg6 1 else if q = 8 then fg6 2 else if q = 9 then fg6 3 else fg6 4, ⟨n0, n1, n2, n3, r4, n5, ug6.kind, ug6.num, ug6.text, ug6.lst, ug6.items⟩, rfl, ⟨rfl, rfl, rfl, rfl, a4, rfl, hg6_0, hg6_1, hg6_2, hg6_3, hg6_4⟩, z0, bounds_i64 f1, trivial, trivial, f4, trivial, zg6_0, zg6_1, zg6_2, zg6_3, zg6_4⟩
theorem array_Fld {cs : Array Value} (h : cs.size = 11) : ∃ xa xb xc xd xe xf xg xh xi xj xk, cs = #[xa, xb, xc, xd, xe, xf, xg, xh, xi, xj, xk] := by
  obtain ⟨l⟩ := cs
  match l, h with
  | [xa, xb, xc, xd, xe, xf, xg, xh, xi, xj, xk], _ => exact ⟨xa, xb, xc, xd, xe, xf, xg, xh, xi, xj, xk, rfl⟩
theorem open_Fld {r0 : Reach} {b0 : Nat} {v : Value} {d : DataW H} {p : List MemPlace} (hv : Value.okWide Try.prog W r0 b0 130 v) (h : DataW.Trod enc Try.prog W 0 sp held 130 v d p) : ∃ u, FldAt W (All W) v u ∧ FineFld u := by
  obtain ⟨cs, rfl, hsz⟩ := okWide_struct Try.underlying130 hv
  rw [cells_Fld] at hsz
  obtain ⟨xa, xb, xc, xd, xe, xf, xg, xh, xi, xj, xk, rfl⟩ := array_Fld hsz
  obtain ⟨fuel, hf⟩ := h
  obtain ⟨f, u, e0, hh, hfi⟩ := open_Fld_cells _ _ _ hf
  simp only [Value.cells, List.cons.injEq, and_true] at e0
  obtain ⟨rfl, rfl, rfl, rfl, rfl, rfl, rfl, rfl, rfl, rfl, rfl⟩ := e0
  exact ⟨u, ⟨f, rfl, hh⟩, hfi⟩
theorem cells_Flds : Try.prog.cellsOf 35 = 1 := by kernel_rfl
theorem open_Flds {fuel : Nat} {cs : List Value} {x : DataW H × List MemPlace} (h : DataW.trod enc Try.prog W 0 sp held fuel 35 cs = some x) :
    ∃ (v : Value) (us : List Fld), cs = [v] ∧ LAt 11 EFld W (All W) v us ∧ FineL FineFld us :=
  open_list keepsFld (by omega) Try.underlying35 cells_Fld (fun fuel cs x h => by
    obtain ⟨f, u, rfl, he, hf⟩ := open_Fld_cells fuel cs x h
    refine ⟨f, u, fun q hq => ?_, he, hf⟩
    match q, hq with
    | 0, _ => rfl
    | 1, _ => rfl
    | 2, _ => rfl
    | 3, _ => rfl
    | 4, _ => rfl
    | 5, _ => rfl
    | 6, _ => rfl
    | 7, _ => rfl
    | 8, _ => rfl
    | 9, _ => rfl
    | 10, _ => rfl) h
theorem cells_Sch : Try.prog.cellsOf 37 = 2 := by kernel_rfl
theorem open_Sch_cells (fuel : Nat) (cs : List Value) (x : DataW H × List MemPlace) (h : DataW.trod enc Try.prog W 0 sp held fuel 37 cs = some x) :
    ∃ (f : Nat → Value) (u : Sch), cs = [f 0, f 1] ∧ ESch W (All W) f u ∧ FineSch u := by
  obtain ⟨xs, n, _, _, hl, hxl, hf⟩ := DataW.trod_struct Try.underlying37 h
  rw [cells_Sch] at hl
  match cs, hl with
  | [v0, v1], _ =>
  match xs, hxl with
  | [y0, y1], _ =>
    have g0 : DataW.trod enc Try.prog W 0 sp held n 9 [v0] = some y0 := by have := hf 0 _ rfl; simpa [cellsS] using this
    have g1 : DataW.trod enc Try.prog W 0 sp held n 35 [v1] = some y1 := by have := hf 1 _ rfl; simpa [cells_Flds] using this
    obtain ⟨n0, e0, _, z0⟩ := DataW.trod_string Try.underlying9 g0
    obtain ⟨u1, r1, e1, a1, f1⟩ := open_Flds g1
    simp only [List.cons.injEq, and_true] at e0 e1
    subst e0 e1
    exact ⟨fun q => if q = 0 then .string n0 else v1, ⟨n0, r1⟩, rfl, ⟨rfl, a1⟩, z0, f1⟩
theorem array_Sch {cs : Array Value} (h : cs.size = 2) : ∃ xa xb, cs = #[xa, xb] := by
  obtain ⟨l⟩ := cs
  match l, h with
  | [xa, xb], _ => exact ⟨xa, xb, rfl⟩
theorem open_Sch {r0 : Reach} {b0 : Nat} {v : Value} {d : DataW H} {p : List MemPlace} (hv : Value.okWide Try.prog W r0 b0 37 v) (h : DataW.Trod enc Try.prog W 0 sp held 37 v d p) : ∃ u, SchAt W (All W) v u ∧ FineSch u := by
  obtain ⟨cs, rfl, hsz⟩ := okWide_struct Try.underlying37 hv
  rw [cells_Sch] at hsz
  obtain ⟨xa, xb, rfl⟩ := array_Sch hsz
  obtain ⟨fuel, hf⟩ := h
  obtain ⟨f, u, e0, hh, hfi⟩ := open_Sch_cells _ _ _ hf
  simp only [Value.cells, List.cons.injEq, and_true] at e0
  obtain ⟨rfl, rfl⟩ := e0
  exact ⟨u, ⟨f, rfl, hh⟩, hfi⟩
end
end Go.Proofs.Ytdhicmbfknagjaa.Ls
