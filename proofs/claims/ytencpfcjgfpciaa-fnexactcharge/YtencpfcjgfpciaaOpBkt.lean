/- What the frame tells of what came in. -/
import Derived.Test.YtencpfcjgfpciaaTBkt
import Derived.Test.YtencpfcjgfpciaaLsO
namespace Go.Proofs.Ytencpfcjgfpciaa.Ls
set_option maxRecDepth 8000
open Go.ChangeShapes Go.WideShapes Go.ChangeAt Go.RowKit Go.Deep
open Recs
set_option linter.unusedVariables false
section
variable {H : Type} {enc : TypeId × Value → H} {W : World} {sp : Nat → Bool} {held : Bool}
theorem cells_Bkt : Try.prog.cellsOf 23 = 4 := by kernel_rfl
theorem open_Bkt_cells (fuel : Nat) (cs : List Value) (x : DataW H × List MemPlace) (h : DataW.trod enc Try.prog W 0 sp held fuel 23 cs = some x) :
    ∃ (f : Nat → Value) (u : Bkt), cs = [f 0, f 1, f 2, f 3] ∧ EBkt W (All W) f u ∧ FineBkt u := by
  obtain ⟨xs, n, _, _, hl, hxl, hf⟩ := DataW.trod_struct Try.underlying23 h
  rw [cells_Bkt] at hl
  match cs, hl with
  | [v0, v1, v2, v3], _ =>
  match xs, hxl with
  | [y0, y1, y2, y3], _ =>
    have g0 : DataW.trod enc Try.prog W 0 sp held n 3 [v0] = some y0 := by have := hf 0 _ rfl; simpa [cellsI] using this
    have g1 : DataW.trod enc Try.prog W 0 sp held n 3 [v1] = some y1 := by have := hf 1 _ rfl; simpa [cellsI] using this
    have g2 : DataW.trod enc Try.prog W 0 sp held n 3 [v2] = some y2 := by have := hf 2 _ rfl; simpa [cellsI] using this
    have g3 : DataW.trod enc Try.prog W 0 sp held n 3 [v3] = some y3 := by have := hf 3 _ rfl; simpa [cellsI] using this
    obtain ⟨n0, e0, _, f0⟩ := DataW.trod_int Try.underlying3 g0
    obtain ⟨n1, e1, _, f1⟩ := DataW.trod_int Try.underlying3 g1
    obtain ⟨n2, e2, _, f2⟩ := DataW.trod_int Try.underlying3 g2
    obtain ⟨n3, e3, _, f3⟩ := DataW.trod_int Try.underlying3 g3
    simp only [List.cons.injEq, and_true] at e0 e1 e2 e3
    subst e0 e1 e2 e3
    exact ⟨fun q => if q = 0 then .int .i64 n0 else if q = 1 then .int .i64 n1 else if q = 2 then .int .i64 n2 else .int .i64 n3, ⟨n0, n1, n2, n3⟩, rfl, ⟨rfl, rfl, rfl, rfl⟩, bounds_i64 f0, bounds_i64 f1, bounds_i64 f2, bounds_i64 f3⟩
theorem array_Bkt {cs : Array Value} (h : cs.size = 4) : ∃ xa xb xc xd, cs = #[xa, xb, xc, xd] := by
  obtain ⟨l⟩ := cs
  match l, h with
  | [xa, xb, xc, xd], _ => exact ⟨xa, xb, xc, xd, rfl⟩
theorem open_Bkt {r0 : Reach} {b0 : Nat} {v : Value} {d : DataW H} {p : List MemPlace} (hv : Value.okWide Try.prog W r0 b0 23 v) (h : DataW.Trod enc Try.prog W 0 sp held 23 v d p) : ∃ u, BktAt W (All W) v u ∧ FineBkt u := by
  obtain ⟨cs, rfl, hsz⟩ := okWide_struct Try.underlying23 hv
  rw [cells_Bkt] at hsz
  obtain ⟨xa, xb, xc, xd, rfl⟩ := array_Bkt hsz
  obtain ⟨fuel, hf⟩ := h
  obtain ⟨f, u, e0, hh, hfi⟩ := open_Bkt_cells _ _ _ hf
  simp only [Value.cells, List.cons.injEq, and_true] at e0
  obtain ⟨rfl, rfl, rfl, rfl⟩ := e0
  exact ⟨u, ⟨f, rfl, hh⟩, hfi⟩
end
end Go.Proofs.Ytencpfcjgfpciaa.Ls
