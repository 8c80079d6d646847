/- What the frame tells of what came in. -/
import Derived.Test.YtfdfhhiaalbfiaaTGrp
import Derived.Test.YtfdfhhiaalbfiaaLsOS
namespace Go.Proofs.Ytfdfhhiaalbfiaa.Ls
set_option maxRecDepth 8000
open Go.ChangeShapes Go.WideShapes Go.ChangeAt Go.RowKit Go.Deep
open Recs
set_option linter.unusedVariables false
section
variable {H : Type} {enc : TypeId × Value → H} {W : World} {sp : Nat → Bool} {held : Bool}
theorem cellsS : Try.prog.cellsOf 9 = 1 := by kernel_rfl
theorem cells_strs : Try.prog.cellsOf 64 = 1 := by kernel_rfl
theorem cells_Tpc : Try.prog.cellsOf 109 = 2 := by kernel_rfl
theorem open_Tpc_cells (fuel : Nat) (cs : List Value) (x : DataW H × List MemPlace) (h : DataW.trod enc Try.prog W 0 sp held fuel 109 cs = some x) :
    ∃ (f : Nat → Value) (u : Tpc), cs = [f 0, f 1] ∧ ETpc W (All W) f u ∧ FineTpc u := by
  obtain ⟨xs, n, _, _, hl, hxl, hf⟩ := DataW.trod_struct Try.underlying109 h
  rw [cells_Tpc] at hl
  match cs, hl with
  | [v0, v1], _ =>
  match xs, hxl with
  | [y0, y1], _ =>
    have g0 : DataW.trod enc Try.prog W 0 sp held n 9 [v0] = some y0 := by have := hf 0 _ rfl; simpa [cellsS] using this
    have g1 : DataW.trod enc Try.prog W 0 sp held n 3 [v1] = some y1 := by have := hf 1 _ rfl; simpa [cellsI] using this
    obtain ⟨n0, e0, _, z0⟩ := DataW.trod_string Try.underlying9 g0
    obtain ⟨n1, e1, _, f1⟩ := DataW.trod_int Try.underlying3 g1
    simp only [List.cons.injEq, and_true] at e0 e1
    subst e0 e1
    exact ⟨fun q => if q = 0 then .string n0 else .int .i64 n1, ⟨n0, n1⟩, rfl, ⟨rfl, rfl⟩, z0, bounds_i64 f1⟩
theorem array_Tpc {cs : Array Value} (h : cs.size = 2) : ∃ xa xb, cs = #[xa, xb] := by
  obtain ⟨l⟩ := cs
  match l, h with
  | [xa, xb], _ => exact ⟨xa, xb, rfl⟩
theorem open_Tpc {r0 : Reach} {b0 : Nat} {v : Value} {d : DataW H} {p : List MemPlace} (hv : Value.okWide Try.prog W r0 b0 109 v) (h : DataW.Trod enc Try.prog W 0 sp held 109 v d p) : ∃ u, TpcAt W (All W) v u ∧ FineTpc u := by
  obtain ⟨cs, rfl, hsz⟩ := okWide_struct Try.underlying109 hv
  rw [cells_Tpc] at hsz
  obtain ⟨xa, xb, rfl⟩ := array_Tpc hsz
  obtain ⟨fuel, hf⟩ := h
  obtain ⟨f, u, e0, hh, hfi⟩ := open_Tpc_cells _ _ _ hf
  simp only [Value.cells, List.cons.injEq, and_true] at e0
  obtain ⟨rfl, rfl⟩ := e0
  exact ⟨u, ⟨f, rfl, hh⟩, hfi⟩
theorem cells_Tpcs : Try.prog.cellsOf 22 = 1 := by kernel_rfl
theorem open_Tpcs {fuel : Nat} {cs : List Value} {x : DataW H × List MemPlace} (h : DataW.trod enc Try.prog W 0 sp held fuel 22 cs = some x) :
    ∃ (v : Value) (us : List Tpc), cs = [v] ∧ LAt 2 ETpc W (All W) v us ∧ FineL FineTpc us :=
  open_list keepsTpc (by omega) Try.underlying22 cells_Tpc (fun fuel cs x h => by
    obtain ⟨f, u, rfl, he, hf⟩ := open_Tpc_cells fuel cs x h
    refine ⟨f, u, fun q hq => ?_, he, hf⟩
    match q, hq with
    | 0, _ => rfl
    | 1, _ => rfl) h
theorem cells_Slt : Try.prog.cellsOf 192 = 2 := by kernel_rfl
theorem open_Slt_cells (fuel : Nat) (cs : List Value) (x : DataW H × List MemPlace) (h : DataW.trod enc Try.prog W 0 sp held fuel 192 cs = some x) :
    ∃ (f : Nat → Value) (u : Slt), cs = [f 0, f 1] ∧ ESlt W (All W) f u ∧ FineSlt u := by
  obtain ⟨xs, n, _, _, hl, hxl, hf⟩ := DataW.trod_struct Try.underlying192 h
  rw [cells_Slt] at hl
  match cs, hl with
  | [v0, v1], _ =>
  match xs, hxl with
  | [y0, y1], _ =>
    have g0 : DataW.trod enc Try.prog W 0 sp held n 9 [v0] = some y0 := by have := hf 0 _ rfl; simpa [cellsS] using this
    have g1 : DataW.trod enc Try.prog W 0 sp held n 3 [v1] = some y1 := by have := hf 1 _ rfl; simpa [cellsI] using this
    obtain ⟨n0, e0, _, z0⟩ := DataW.trod_string Try.underlying9 g0
    obtain ⟨n1, e1, _, f1⟩ := DataW.trod_int Try.underlying3 g1
    simp only [List.cons.injEq, and_true] at e0 e1
    subst e0 e1
    exact ⟨fun q => if q = 0 then .string n0 else .int .i64 n1, ⟨n0, n1⟩, rfl, ⟨rfl, rfl⟩, z0, bounds_i64 f1⟩
theorem array_Slt {cs : Array Value} (h : cs.size = 2) : ∃ xa xb, cs = #[xa, xb] := by
  obtain ⟨l⟩ := cs
  match l, h with
  | [xa, xb], _ => exact ⟨xa, xb, rfl⟩
theorem open_Slt {r0 : Reach} {b0 : Nat} {v : Value} {d : DataW H} {p : List MemPlace} (hv : Value.okWide Try.prog W r0 b0 192 v) (h : DataW.Trod enc Try.prog W 0 sp held 192 v d p) : ∃ u, SltAt W (All W) v u ∧ FineSlt u := by
  obtain ⟨cs, rfl, hsz⟩ := okWide_struct Try.underlying192 hv
  rw [cells_Slt] at hsz
  obtain ⟨xa, xb, rfl⟩ := array_Slt hsz
  obtain ⟨fuel, hf⟩ := h
  obtain ⟨f, u, e0, hh, hfi⟩ := open_Slt_cells _ _ _ hf
  simp only [Value.cells, List.cons.injEq, and_true] at e0
  obtain ⟨rfl, rfl⟩ := e0
  exact ⟨u, ⟨f, rfl, hh⟩, hfi⟩
theorem cells_Slts : Try.prog.cellsOf 111 = 1 := by kernel_rfl
theorem open_Slts {fuel : Nat} {cs : List Value} {x : DataW H × List MemPlace} (h : DataW.trod enc Try.prog W 0 sp held fuel 111 cs = some x) :
    ∃ (v : Value) (us : List Slt), cs = [v] ∧ LAt 2 ESlt W (All W) v us ∧ FineL FineSlt us :=
  open_list keepsSlt (by omega) Try.underlying111 cells_Slt (fun fuel cs x h => by
    obtain ⟨f, u, rfl, he, hf⟩ := open_Slt_cells fuel cs x h
    refine ⟨f, u, fun q hq => ?_, he, hf⟩
    match q, hq with
    | 0, _ => rfl
    | 1, _ => rfl) h
theorem cells_Mbr : Try.prog.cellsOf 113 = 7 := by kernel_rfl
theorem open_Mbr_cells (fuel : Nat) (cs : List Value) (x : DataW H × List MemPlace) (h : DataW.trod enc Try.prog W 0 sp held fuel 113 cs = some x) :
    ∃ (f : Nat → Value) (u : Mbr), cs = [f 0, f 1, f 2, f 3, f 4, f 5, f 6] ∧ EMbr W (All W) f u ∧ FineMbr u := by
  obtain ⟨xs, n, _, _, hl, hxl, hf⟩ := DataW.trod_struct Try.underlying113 h
  rw [cells_Mbr] at hl
  match cs, hl with
  | [v0, v1, v2, v3, v4, v5, v6], _ =>
  match xs, hxl with
  | [y0, y1, y2, y3, y4, y5, y6], _ =>
    have g0 : DataW.trod enc Try.prog W 0 sp held n 9 [v0] = some y0 := by have := hf 0 _ rfl; simpa [cellsS] using this
    have g1 : DataW.trod enc Try.prog W 0 sp held n 9 [v1] = some y1 := by have := hf 1 _ rfl; simpa [cellsS] using this
    have g2 : DataW.trod enc Try.prog W 0 sp held n 64 [v2] = some y2 := by have := hf 2 _ rfl; simpa [cells_strs] using this
    have g3 : DataW.trod enc Try.prog W 0 sp held n 3 [v3] = some y3 := by have := hf 3 _ rfl; simpa [cellsI] using this
    have g4 : DataW.trod enc Try.prog W 0 sp held n 3 [v4] = some y4 := by have := hf 4 _ rfl; simpa [cellsI] using this
    have g5 : DataW.trod enc Try.prog W 0 sp held n 111 [v5] = some y5 := by have := hf 5 _ rfl; simpa [cells_Slts] using this
    have g6 : DataW.trod enc Try.prog W 0 sp held n 111 [v6] = some y6 := by have := hf 6 _ rfl; simpa [cells_Slts] using this
    obtain ⟨n0, e0, _, z0⟩ := DataW.trod_string Try.underlying9 g0
    obtain ⟨n1, e1, _, z1⟩ := DataW.trod_string Try.underlying9 g1
    obtain ⟨u2, r2, e2, a2, f2⟩ := open_strs g2
    obtain ⟨n3, e3, _, f3⟩ := DataW.trod_int Try.underlying3 g3
    obtain ⟨n4, e4, _, f4⟩ := DataW.trod_int Try.underlying3 g4
    obtain ⟨u5, r5, e5, a5, f5⟩ := open_Slts g5
    obtain ⟨u6, r6, e6, a6, f6⟩ := open_Slts g6
    simp only [List.cons.injEq, and_true] at e0 e1 e2 e3 e4 e5 e6
    subst e0 e1 e2 e3 e4 e5 e6
    exact ⟨fun q => if q = 0 then .string n0 else if q = 1 then .string n1 else if q = 2 then v2 else if q = 3 then .int .i64 n3 else if q = 4 then .int .i64 n4 else if q = 5 then v5 else v6, ⟨n0, n1, r2, n3, n4, r5, r6⟩, rfl, ⟨rfl, rfl, a2, rfl, rfl, a5, a6⟩, z0, z1, f2, bounds_i64 f3, bounds_i64 f4, f5, f6⟩
theorem array_Mbr {cs : Array Value} (h : cs.size = 7) : ∃ xa xb xc xd xe xf xg, cs = #[xa, xb, xc, xd, xe, xf, xg] := by
  obtain ⟨l⟩ := cs
  match l, h with
  | [xa, xb, xc, xd, xe, xf, xg], _ => exact ⟨xa, xb, xc, xd, xe, xf, xg, rfl⟩
theorem open_Mbr {r0 : Reach} {b0 : Nat} {v : Value} {d : DataW H} {p : List MemPlace} (hv : Value.okWide Try.prog W r0 b0 113 v) (h : DataW.Trod enc Try.prog W 0 sp held 113 v d p) : ∃ u, MbrAt W (All W) v u ∧ FineMbr u := by
  obtain ⟨cs, rfl, hsz⟩ := okWide_struct Try.underlying113 hv
  rw [cells_Mbr] at hsz
  obtain ⟨xa, xb, xc, xd, xe, xf, xg, rfl⟩ := array_Mbr hsz
  obtain ⟨fuel, hf⟩ := h
  obtain ⟨f, u, e0, hh, hfi⟩ := open_Mbr_cells _ _ _ hf
  simp only [Value.cells, List.cons.injEq, and_true] at e0
  obtain ⟨rfl, rfl, rfl, rfl, rfl, rfl, rfl⟩ := e0
  exact ⟨u, ⟨f, rfl, hh⟩, hfi⟩
theorem cells_Mbrs : Try.prog.cellsOf 23 = 1 := by kernel_rfl
theorem open_Mbrs {fuel : Nat} {cs : List Value} {x : DataW H × List MemPlace} (h : DataW.trod enc Try.prog W 0 sp held fuel 23 cs = some x) :
    ∃ (v : Value) (us : List Mbr), cs = [v] ∧ LAt 7 EMbr W (All W) v us ∧ FineL FineMbr us :=
  open_list keepsMbr (by omega) Try.underlying23 cells_Mbr (fun fuel cs x h => by
    obtain ⟨f, u, rfl, he, hf⟩ := open_Mbr_cells fuel cs x h
    refine ⟨f, u, fun q hq => ?_, he, hf⟩
    match q, hq with
    | 0, _ => rfl
    | 1, _ => rfl
    | 2, _ => rfl
    | 3, _ => rfl
    | 4, _ => rfl
    | 5, _ => rfl
    | 6, _ => rfl) h
theorem cells_Grp : Try.prog.cellsOf 25 = 6 := by kernel_rfl
theorem open_Grp_cells (fuel : Nat) (cs : List Value) (x : DataW H × List MemPlace) (h : DataW.trod enc Try.prog W 0 sp held fuel 25 cs = some x) :
    ∃ (f : Nat → Value) (u : Grp), cs = [f 0, f 1, f 2, f 3, f 4, f 5] ∧ EGrp W (All W) f u ∧ FineGrp u := by
  obtain ⟨xs, n, _, _, hl, hxl, hf⟩ := DataW.trod_struct Try.underlying25 h
  rw [cells_Grp] at hl
  match cs, hl with
  | [v0, v1, v2, v3, v4, v5], _ =>
  match xs, hxl with
  | [y0, y1, y2, y3, y4, y5], _ =>
    have g0 : DataW.trod enc Try.prog W 0 sp held n 3 [v0] = some y0 := by have := hf 0 _ rfl; simpa [cellsI] using this
    have g1 : DataW.trod enc Try.prog W 0 sp held n 3 [v1] = some y1 := by have := hf 1 _ rfl; simpa [cellsI] using this
    have g2 : DataW.trod enc Try.prog W 0 sp held n 3 [v2] = some y2 := by have := hf 2 _ rfl; simpa [cellsI] using this
    have g3 : DataW.trod enc Try.prog W 0 sp held n 3 [v3] = some y3 := by have := hf 3 _ rfl; simpa [cellsI] using this
    have g4 : DataW.trod enc Try.prog W 0 sp held n 22 [v4] = some y4 := by have := hf 4 _ rfl; simpa [cells_Tpcs] using this
    have g5 : DataW.trod enc Try.prog W 0 sp held n 23 [v5] = some y5 := by have := hf 5 _ rfl; simpa [cells_Mbrs] using this
    obtain ⟨n0, e0, _, f0⟩ := DataW.trod_int Try.underlying3 g0
    obtain ⟨n1, e1, _, f1⟩ := DataW.trod_int Try.underlying3 g1
    obtain ⟨n2, e2, _, f2⟩ := DataW.trod_int Try.underlying3 g2
    obtain ⟨n3, e3, _, f3⟩ := DataW.trod_int Try.underlying3 g3
    obtain ⟨u4, r4, e4, a4, f4⟩ := open_Tpcs g4
    obtain ⟨u5, r5, e5, a5, f5⟩ := open_Mbrs g5
    simp only [List.cons.injEq, and_true] at e0 e1 e2 e3 e4 e5
    subst e0 e1 e2 e3 e4 e5
    exact ⟨fun q => if q = 0 then .int .i64 n0 else if q = 1 then .int .i64 n1 else if q = 2 then .int .i64 n2 else if q = 3 then .int .i64 n3 else if q = 4 then v4 else v5, ⟨n0, n1, n2, n3, r4, r5⟩, rfl, ⟨rfl, rfl, rfl, rfl, a4, a5⟩, bounds_i64 f0, bounds_i64 f1, bounds_i64 f2, bounds_i64 f3, f4, f5⟩
theorem array_Grp {cs : Array Value} (h : cs.size = 6) : ∃ xa xb xc xd xe xf, cs = #[xa, xb, xc, xd, xe, xf] := by
  obtain ⟨l⟩ := cs
  match l, h with
  | [xa, xb, xc, xd, xe, xf], _ => exact ⟨xa, xb, xc, xd, xe, xf, rfl⟩
theorem open_Grp {r0 : Reach} {b0 : Nat} {v : Value} {d : DataW H} {p : List MemPlace} (hv : Value.okWide Try.prog W r0 b0 25 v) (h : DataW.Trod enc Try.prog W 0 sp held 25 v d p) : ∃ u, GrpAt W (All W) v u ∧ FineGrp u := by
  obtain ⟨cs, rfl, hsz⟩ := okWide_struct Try.underlying25 hv
  rw [cells_Grp] at hsz
  obtain ⟨xa, xb, xc, xd, xe, xf, rfl⟩ := array_Grp hsz
  obtain ⟨fuel, hf⟩ := h
  obtain ⟨f, u, e0, hh, hfi⟩ := open_Grp_cells _ _ _ hf
  simp only [Value.cells, List.cons.injEq, and_true] at e0
  obtain ⟨rfl, rfl, rfl, rfl, rfl, rfl⟩ := e0
  exact ⟨u, ⟨f, rfl, hh⟩, hfi⟩
end
end Go.Proofs.Ytfdfhhiaalbfiaa.Ls
