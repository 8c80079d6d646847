/- What the frame tells of a list of texts that came in; What the frame tells of what came in. -/
import Derived.Test.YtkibaimemomjpaaJQ16
import Derived.Test.YtkibaimemomjpaaJQ07
import Derived.Test.YtkibaimemomjpaaJQ29
import Derived.Test.YtkibaimemomjpaaJQ09
namespace Go.Proofs.Ytkibaimemomjpaa.Ls
set_option maxRecDepth 8000
open Go.ChangeShapes Go.WideShapes Go.ChangeAt Go.RowKit Go.Deep
open Recs
set_option linter.unusedVariables false
section
variable {H : Type} {enc : TypeId × Value → H} {W : World} {sp : Nat → Bool} {held : Bool}
theorem cellsStr : Try.prog.cellsOf 9 = 1 := by kernel_rfl
theorem open_strs {fuel : Nat} {cs : List Value} {x : DataW H × List MemPlace} (h : DataW.trod enc Try.prog W 0 sp held fuel 23 cs = some x) :
    ∃ (v : Value) (us : List ByteArray), cs = [v] ∧ StrsAt W (All W) v us ∧ FineL FineStr us :=
  open_list keepsStr (by omega) Try.underlying23 cellsStr (fun fuel cs x h => by
    obtain ⟨n, e, _, f⟩ := DataW.trod_string Try.underlying9 h
    subst e
    refine ⟨fun _ => .string n, n, fun q hq => ?_, rfl, f⟩
    match q, hq with
    | 0, _ => rfl) h
end
end Go.Proofs.Ytkibaimemomjpaa.Ls
namespace Go.Proofs.Ytkibaimemomjpaa.Ls
set_option maxRecDepth 8000
open Go.ChangeShapes Go.WideShapes Go.ChangeAt Go.RowKit Go.Deep
open Recs
set_option linter.unusedVariables false
section
variable {H : Type} {enc : TypeId × Value → H} {W : World} {sp : Nat → Bool} {held : Bool}
theorem cellsB : Try.prog.cellsOf 4 = 1 := by kernel_rfl
theorem cellsS : Try.prog.cellsOf 9 = 1 := by kernel_rfl
theorem cells_strs : Try.prog.cellsOf 23 = 1 := by kernel_rfl
theorem cells_Stp : Try.prog.cellsOf 109 = 3 := by kernel_rfl
theorem open_Stp_cells (fuel : Nat) (cs : List Value) (x : DataW H × List MemPlace) (h : DataW.trod enc Try.prog W 0 sp held fuel 109 cs = some x) :
    ∃ (f : Nat → Value) (u : Stp), cs = [f 0, f 1, f 2] ∧ EStp W (All W) f u ∧ FineStp u := by
  obtain ⟨xs, n, _, _, hl, hxl, hf⟩ := DataW.trod_struct Try.underlying109 h
  rw [cells_Stp] at hl
  match cs, hl with
  | [v0, v1, v2], _ =>
  match xs, hxl with
  | [y0, y1, y2], _ =>
    have g0 : DataW.trod enc Try.prog W 0 sp held n 3 [v0] = some y0 := by have := hf 0 _ rfl; simpa [cellsI] using this
    have g1 : DataW.trod enc Try.prog W 0 sp held n 3 [v1] = some y1 := by have := hf 1 _ rfl; simpa [cellsI] using this
    have g2 : DataW.trod enc Try.prog W 0 sp held n 9 [v2] = some y2 := by have := hf 2 _ rfl; simpa [cellsS] using this
    obtain ⟨n0, e0, _, f0⟩ := DataW.trod_int Try.underlying3 g0
    obtain ⟨n1, e1, _, f1⟩ := DataW.trod_int Try.underlying3 g1
    obtain ⟨n2, e2, _, z2⟩ := DataW.trod_string Try.underlying9 g2
    simp only [List.cons.injEq, and_true] at e0 e1 e2
    subst e0 e1 e2
    exact ⟨fun q => if q = 0 then .int .i64 n0 else if q = 1 then .int .i64 n1 else .string n2, ⟨n0, n1, n2⟩, rfl, ⟨rfl, rfl, rfl⟩, bounds_i64 f0, bounds_i64 f1, z2⟩
theorem array_Stp {cs : Array Value} (h : cs.size = 3) : ∃ xa xb xc, cs = #[xa, xb, xc] := by
  obtain ⟨l⟩ := cs
  match l, h with
  | [xa, xb, xc], _ => exact ⟨xa, xb, xc, rfl⟩
theorem open_Stp {r0 : Reach} {b0 : Nat} {v : Value} {d : DataW H} {p : List MemPlace} (hv : Value.okWide Try.prog W r0 b0 109 v) (h : DataW.Trod enc Try.prog W 0 sp held 109 v d p) : ∃ u, StpAt W (All W) v u ∧ FineStp u := by
  obtain ⟨cs, rfl, hsz⟩ := okWide_struct Try.underlying109 hv
  rw [cells_Stp] at hsz
  obtain ⟨xa, xb, xc, rfl⟩ := array_Stp hsz
  obtain ⟨fuel, hf⟩ := h
  obtain ⟨f, u, e0, hh, hfi⟩ := open_Stp_cells _ _ _ hf
  simp only [Value.cells, List.cons.injEq, and_true] at e0
  obtain ⟨rfl, rfl, rfl⟩ := e0
  exact ⟨u, ⟨f, rfl, hh⟩, hfi⟩
theorem cells_Stps : Try.prog.cellsOf 22 = 1 := by kernel_rfl
theorem open_Stps {fuel : Nat} {cs : List Value} {x : DataW H × List MemPlace} (h : DataW.trod enc Try.prog W 0 sp held fuel 22 cs = some x) :
    ∃ (v : Value) (us : List Stp), cs = [v] ∧ LAt 3 EStp W (All W) v us ∧ FineL FineStp us :=
  open_list keepsStp (by omega) Try.underlying22 cells_Stp (fun fuel cs x h => by
    obtain ⟨f, u, rfl, he, hf⟩ := open_Stp_cells fuel cs x h
    refine ⟨f, u, fun q hq => ?_, he, hf⟩
    match q, hq with
    | 0, _ => rfl
    | 1, _ => rfl
    | 2, _ => rfl) h
theorem cells_Gqt : Try.prog.cellsOf 112 = 3 := by kernel_rfl
theorem open_Gqt_cells (fuel : Nat) (cs : List Value) (x : DataW H × List MemPlace) (h : DataW.trod enc Try.prog W 0 sp held fuel 112 cs = some x) :
    ∃ (f : Nat → Value) (u : Gqt), cs = [f 0, f 1, f 2] ∧ EGqt W (All W) f u ∧ FineGqt u := by
  obtain ⟨xs, n, _, _, hl, hxl, hf⟩ := DataW.trod_struct Try.underlying112 h
  rw [cells_Gqt] at hl
  match cs, hl with
  | [v0, v1, v2], _ =>
  match xs, hxl with
  | [y0, y1, y2], _ =>
    have g0 : DataW.trod enc Try.prog W 0 sp held n 3 [v0] = some y0 := by have := hf 0 _ rfl; simpa [cellsI] using this
    have g1 : DataW.trod enc Try.prog W 0 sp held n 22 [v1] = some y1 := by have := hf 1 _ rfl; simpa [cells_Stps] using this
    have g2 : DataW.trod enc Try.prog W 0 sp held n 9 [v2] = some y2 := by have := hf 2 _ rfl; simpa [cellsS] using this
    obtain ⟨n0, e0, _, f0⟩ := DataW.trod_int Try.underlying3 g0
    obtain ⟨u1, r1, e1, a1, f1⟩ := open_Stps g1
    obtain ⟨n2, e2, _, z2⟩ := DataW.trod_string Try.underlying9 g2
    simp only [List.cons.injEq, and_true] at e0 e1 e2
    subst e0 e1 e2
    exact ⟨fun q => if q = 0 then .int .i64 n0 else if q = 1 then v1 else .string n2, ⟨n0, r1, n2⟩, rfl, ⟨rfl, a1, rfl⟩, bounds_i64 f0, f1, z2⟩
theorem array_Gqt {cs : Array Value} (h : cs.size = 3) : ∃ xa xb xc, cs = #[xa, xb, xc] := by
  obtain ⟨l⟩ := cs
  match l, h with
  | [xa, xb, xc], _ => exact ⟨xa, xb, xc, rfl⟩
theorem open_Gqt {r0 : Reach} {b0 : Nat} {v : Value} {d : DataW H} {p : List MemPlace} (hv : Value.okWide Try.prog W r0 b0 112 v) (h : DataW.Trod enc Try.prog W 0 sp held 112 v d p) : ∃ u, GqtAt W (All W) v u ∧ FineGqt u := by
  obtain ⟨cs, rfl, hsz⟩ := okWide_struct Try.underlying112 hv
  rw [cells_Gqt] at hsz
  obtain ⟨xa, xb, xc, rfl⟩ := array_Gqt hsz
  obtain ⟨fuel, hf⟩ := h
  obtain ⟨f, u, e0, hh, hfi⟩ := open_Gqt_cells _ _ _ hf
  simp only [Value.cells, List.cons.injEq, and_true] at e0
  obtain ⟨rfl, rfl, rfl⟩ := e0
  exact ⟨u, ⟨f, rfl, hh⟩, hfi⟩
theorem cells_Gqts : Try.prog.cellsOf 24 = 1 := by kernel_rfl
theorem open_Gqts {fuel : Nat} {cs : List Value} {x : DataW H × List MemPlace} (h : DataW.trod enc Try.prog W 0 sp held fuel 24 cs = some x) :
    ∃ (v : Value) (us : List Gqt), cs = [v] ∧ LAt 3 EGqt W (All W) v us ∧ FineL FineGqt us :=
  open_list keepsGqt (by omega) Try.underlying24 cells_Gqt (fun fuel cs x h => by
    obtain ⟨f, u, rfl, he, hf⟩ := open_Gqt_cells fuel cs x h
    refine ⟨f, u, fun q hq => ?_, he, hf⟩
    match q, hq with
    | 0, _ => rfl
    | 1, _ => rfl
    | 2, _ => rfl) h
theorem cells_Qry : Try.prog.cellsOf 26 = 11 := by kernel_rfl
theorem open_Qry_cells (fuel : Nat) (cs : List Value) (x : DataW H × List MemPlace) (h : DataW.trod enc Try.prog W 0 sp held fuel 26 cs = some x) :
    ∃ (f : Nat → Value) (u : Qry), cs = [f 0, f 1, f 2, f 3, f 4, f 5, f 6, f 7, f 8, f 9, f 10] ∧ EQry W (All W) f u ∧ FineQry u := by
  obtain ⟨xs, n, _, _, hl, hxl, hf⟩ := DataW.trod_struct Try.underlying26 h
  rw [cells_Qry] at hl
  match cs, hl with
  | [v0, v1, v2, v3, v4, v5, v6, v7, v8, v9, v10], _ =>
  match xs, hxl with
  | [y0, y1, y2, y3, y4, y5, y6, y7, y8, y9, y10], _ =>
    have g0 : DataW.trod enc Try.prog W 0 sp held n 9 [v0] = some y0 := by have := hf 0 _ rfl; simpa [cellsS] using this
    have g1 : DataW.trod enc Try.prog W 0 sp held n 9 [v1] = some y1 := by have := hf 1 _ rfl; simpa [cellsS] using this
    have g2 : DataW.trod enc Try.prog W 0 sp held n 3 [v2] = some y2 := by have := hf 2 _ rfl; simpa [cellsI] using this
    have g3 : DataW.trod enc Try.prog W 0 sp held n 9 [v3] = some y3 := by have := hf 3 _ rfl; simpa [cellsS] using this
    have g4 : DataW.trod enc Try.prog W 0 sp held n 9 [v4] = some y4 := by have := hf 4 _ rfl; simpa [cellsS] using this
    have g5 : DataW.trod enc Try.prog W 0 sp held n 22 [v5] = some y5 := by have := hf 5 _ rfl; simpa [cells_Stps] using this
    have g6 : DataW.trod enc Try.prog W 0 sp held n 23 [v6] = some y6 := by have := hf 6 _ rfl; simpa [cells_strs] using this
    have g7 : DataW.trod enc Try.prog W 0 sp held n 3 [v7] = some y7 := by have := hf 7 _ rfl; simpa [cellsI] using this
    have g8 : DataW.trod enc Try.prog W 0 sp held n 3 [v8] = some y8 := by have := hf 8 _ rfl; simpa [cellsI] using this
    have g9 : DataW.trod enc Try.prog W 0 sp held n 3 [v9] = some y9 := by have := hf 9 _ rfl; simpa [cellsI] using this
    have g10 : DataW.trod enc Try.prog W 0 sp held n 24 [v10] = some y10 := by have := hf 10 _ rfl; simpa [cells_Gqts] using this
    obtain ⟨n0, e0, _, z0⟩ := DataW.trod_string Try.underlying9 g0
    obtain ⟨n1, e1, _, z1⟩ := DataW.trod_string Try.underlying9 g1
    obtain ⟨n2, e2, _, f2⟩ := DataW.trod_int Try.underlying3 g2
    obtain ⟨n3, e3, _, z3⟩ := DataW.trod_string Try.underlying9 g3
    obtain ⟨n4, e4, _, z4⟩ := DataW.trod_string Try.underlying9 g4
    obtain ⟨u5, r5, e5, a5, f5⟩ := open_Stps g5
    obtain ⟨u6, r6, e6, a6, f6⟩ := open_strs g6
    obtain ⟨n7, e7, _, f7⟩ := DataW.trod_int Try.underlying3 g7
    obtain ⟨n8, e8, _, f8⟩ := DataW.trod_int Try.underlying3 g8
    obtain ⟨n9, e9, _, f9⟩ := DataW.trod_int Try.underlying3 g9
    obtain ⟨u10, r10, e10, a10, f10⟩ := open_Gqts g10
    simp only [List.cons.injEq, and_true] at e0 e1 e2 e3 e4 e5 e6 e7 e8 e9 e10
    subst e0 e1 e2 e3 e4 e5 e6 e7 e8 e9 e10
    exact ⟨fun q => if q = 0 then .string n0 else if q = 1 then .string n1 else if q = 2 then .int .i64 n2 else if q = 3 then .string n3 else if q = 4 then .string n4 else if q = 5 then v5 else if q = 6 then v6 else if q = 7 then .int .i64 n7 else if q = 8 then .int .i64 n8 else if q = 9 then .int .i64 n9 else v10, ⟨n0, n1, n2, n3, n4, r5, r6, n7, n8, n9, r10⟩, rfl, ⟨rfl, rfl, rfl, rfl, rfl, a5, a6, rfl, rfl, rfl, a10⟩, z0, z1, bounds_i64 f2, z3, z4, f5, f6, bounds_i64 f7, bounds_i64 f8, bounds_i64 f9, f10⟩
theorem array_Qry {cs : Array Value} (h : cs.size = 11) : ∃ xa xb xc xd xe xf xg xh xi xj xk, cs = #[xa, xb, xc, xd, xe, xf, xg, xh, xi, xj, xk] := by
  obtain ⟨l⟩ := cs
  match l, h with
  | [xa, xb, xc, xd, xe, xf, xg, xh, xi, xj, xk], _ => exact ⟨xa, xb, xc, xd, xe, xf, xg, xh, xi, xj, xk, rfl⟩
theorem open_Qry {r0 : Reach} {b0 : Nat} {v : Value} {d : DataW H} {p : List MemPlace} (hv : Value.okWide Try.prog W r0 b0 26 v) (h : DataW.Trod enc Try.prog W 0 sp held 26 v d p) : ∃ u, QryAt W (All W) v u ∧ FineQry u := by
  obtain ⟨cs, rfl, hsz⟩ := okWide_struct Try.underlying26 hv
  rw [cells_Qry] at hsz
  obtain ⟨xa, xb, xc, xd, xe, xf, xg, xh, xi, xj, xk, rfl⟩ := array_Qry hsz
  obtain ⟨fuel, hf⟩ := h
  obtain ⟨f, u, e0, hh, hfi⟩ := open_Qry_cells _ _ _ hf
  simp only [Value.cells, List.cons.injEq, and_true] at e0
  obtain ⟨rfl, rfl, rfl, rfl, rfl, rfl, rfl, rfl, rfl, rfl, rfl⟩ := e0
  exact ⟨u, ⟨f, rfl, hh⟩, hfi⟩
theorem cells_Src : Try.prog.cellsOf 80 = 3 := by kernel_rfl
theorem open_Src_cells (fuel : Nat) (cs : List Value) (x : DataW H × List MemPlace) (h : DataW.trod enc Try.prog W 0 sp held fuel 80 cs = some x) :
    ∃ (f : Nat → Value) (u : Src), cs = [f 0, f 1, f 2] ∧ ESrc W (All W) f u ∧ FineSrc u := by
  obtain ⟨xs, n, _, _, hl, hxl, hf⟩ := DataW.trod_struct Try.underlying80 h
  rw [cells_Src] at hl
  match cs, hl with
  | [v0, v1, v2], _ =>
  match xs, hxl with
  | [y0, y1, y2], _ =>
    have g0 : DataW.trod enc Try.prog W 0 sp held n 9 [v0] = some y0 := by have := hf 0 _ rfl; simpa [cellsS] using this
    have g1 : DataW.trod enc Try.prog W 0 sp held n 4 [v1] = some y1 := by have := hf 1 _ rfl; simpa [cellsB] using this
    have g2 : DataW.trod enc Try.prog W 0 sp held n 23 [v2] = some y2 := by have := hf 2 _ rfl; simpa [cells_strs] using this
    obtain ⟨n0, e0, _, z0⟩ := DataW.trod_string Try.underlying9 g0
    obtain ⟨n1, e1, _⟩ := DataW.trod_bool Try.underlying4 g1
    obtain ⟨u2, r2, e2, a2, f2⟩ := open_strs g2
    simp only [List.cons.injEq, and_true] at e0 e1 e2
    subst e0 e1 e2
    exact ⟨fun q => if q = 0 then .string n0 else if q = 1 then .bool n1 else v2, ⟨n0, n1, r2⟩, rfl, ⟨rfl, rfl, a2⟩, z0, trivial, f2⟩
theorem array_Src {cs : Array Value} (h : cs.size = 3) : ∃ xa xb xc, cs = #[xa, xb, xc] := by
  obtain ⟨l⟩ := cs
  match l, h with
  | [xa, xb, xc], _ => exact ⟨xa, xb, xc, rfl⟩
theorem open_Src {r0 : Reach} {b0 : Nat} {v : Value} {d : DataW H} {p : List MemPlace} (hv : Value.okWide Try.prog W r0 b0 80 v) (h : DataW.Trod enc Try.prog W 0 sp held 80 v d p) : ∃ u, SrcAt W (All W) v u ∧ FineSrc u := by
  obtain ⟨cs, rfl, hsz⟩ := okWide_struct Try.underlying80 hv
  rw [cells_Src] at hsz
  obtain ⟨xa, xb, xc, rfl⟩ := array_Src hsz
  obtain ⟨fuel, hf⟩ := h
  obtain ⟨f, u, e0, hh, hfi⟩ := open_Src_cells _ _ _ hf
  simp only [Value.cells, List.cons.injEq, and_true] at e0
  obtain ⟨rfl, rfl, rfl⟩ := e0
  exact ⟨u, ⟨f, rfl, hh⟩, hfi⟩
theorem cells_Srcs : Try.prog.cellsOf 44 = 1 := by kernel_rfl
theorem open_Srcs {fuel : Nat} {cs : List Value} {x : DataW H × List MemPlace} (h : DataW.trod enc Try.prog W 0 sp held fuel 44 cs = some x) :
    ∃ (v : Value) (us : List Src), cs = [v] ∧ LAt 3 ESrc W (All W) v us ∧ FineL FineSrc us :=
  open_list keepsSrc (by omega) Try.underlying44 cells_Src (fun fuel cs x h => by
    obtain ⟨f, u, rfl, he, hf⟩ := open_Src_cells fuel cs x h
    refine ⟨f, u, fun q hq => ?_, he, hf⟩
    match q, hq with
    | 0, _ => rfl
    | 1, _ => rfl
    | 2, _ => rfl) h
end
end Go.Proofs.Ytkibaimemomjpaa.Ls
