/- What the frame tells of what came in. -/
import Derived.Test.YtdkfhjcockkleaaTQrm
import Derived.Test.YtdkfhjcockkleaaLsO
namespace Go.Proofs.Ytdkfhjcockkleaa.Ls
set_option maxRecDepth 8000
open Go.ChangeShapes Go.WideShapes Go.ChangeAt Go.RowKit Go.Deep
open Recs
set_option linter.unusedVariables false
section
variable {H : Type} {enc : TypeId × Value → H} {W : World} {sp : Nat → Bool} {held : Bool}
theorem cellsB : Try.prog.cellsOf 4 = 1 := by kernel_rfl
theorem cellsS : Try.prog.cellsOf 9 = 1 := by kernel_rfl
theorem cells_ints : Try.prog.cellsOf 42 = 1 := by kernel_rfl
theorem cells_Cmd : Try.prog.cellsOf 92 = 2 := by kernel_rfl
theorem open_Cmd_cells (fuel : Nat) (cs : List Value) (x : DataW H × List MemPlace) (h : DataW.trod enc Try.prog W 0 sp held fuel 92 cs = some x) :
    ∃ (f : Nat → Value) (u : Cmd), cs = [f 0, f 1] ∧ ECmd W (All W) f u ∧ FineCmd u := by
  obtain ⟨xs, n, _, _, hl, hxl, hf⟩ := DataW.trod_struct Try.underlying92 h
  rw [cells_Cmd] at hl
  match cs, hl with
  | [v0, v1], _ =>
  match xs, hxl with
  | [y0, y1], _ =>
    have g0 : DataW.trod enc Try.prog W 0 sp held n 3 [v0] = some y0 := by have := hf 0 _ rfl; simpa [cellsI] using this
    have g1 : DataW.trod enc Try.prog W 0 sp held n 9 [v1] = some y1 := by have := hf 1 _ rfl; simpa [cellsS] using this
    obtain ⟨n0, e0, _, f0⟩ := DataW.trod_int Try.underlying3 g0
    obtain ⟨n1, e1, _, z1⟩ := DataW.trod_string Try.underlying9 g1
    simp only [List.cons.injEq, and_true] at e0 e1
    subst e0 e1
    exact ⟨fun q => if q = 0 then .int .i64 n0 else .string n1, ⟨n0, n1⟩, rfl, ⟨rfl, rfl⟩, bounds_i64 f0, z1⟩
theorem array_Cmd {cs : Array Value} (h : cs.size = 2) : ∃ xa xb, cs = #[xa, xb] := by
  obtain ⟨l⟩ := cs
  match l, h with
  | [xa, xb], _ => exact ⟨xa, xb, rfl⟩
theorem open_Cmd {r0 : Reach} {b0 : Nat} {v : Value} {d : DataW H} {p : List MemPlace} (hv : Value.okWide Try.prog W r0 b0 92 v) (h : DataW.Trod enc Try.prog W 0 sp held 92 v d p) : ∃ u, CmdAt W (All W) v u ∧ FineCmd u := by
  obtain ⟨cs, rfl, hsz⟩ := okWide_struct Try.underlying92 hv
  rw [cells_Cmd] at hsz
  obtain ⟨xa, xb, rfl⟩ := array_Cmd hsz
  obtain ⟨fuel, hf⟩ := h
  obtain ⟨f, u, e0, hh, hfi⟩ := open_Cmd_cells _ _ _ hf
  simp only [Value.cells, List.cons.injEq, and_true] at e0
  obtain ⟨rfl, rfl⟩ := e0
  exact ⟨u, ⟨f, rfl, hh⟩, hfi⟩
theorem cells_Cmds : Try.prog.cellsOf 62 = 1 := by kernel_rfl
theorem open_Cmds {fuel : Nat} {cs : List Value} {x : DataW H × List MemPlace} (h : DataW.trod enc Try.prog W 0 sp held fuel 62 cs = some x) :
    ∃ (v : Value) (us : List Cmd), cs = [v] ∧ LAt 2 ECmd W (All W) v us ∧ FineL FineCmd us :=
  open_list keepsCmd (by omega) Try.underlying62 cells_Cmd (fun fuel cs x h => by
    obtain ⟨f, u, rfl, he, hf⟩ := open_Cmd_cells fuel cs x h
    refine ⟨f, u, fun q hq => ?_, he, hf⟩
    match q, hq with
    | 0, _ => rfl
    | 1, _ => rfl) h
theorem cells_Vtr : Try.prog.cellsOf 64 = 8 := by kernel_rfl
theorem open_Vtr_cells (fuel : Nat) (cs : List Value) (x : DataW H × List MemPlace) (h : DataW.trod enc Try.prog W 0 sp held fuel 64 cs = some x) :
    ∃ (f : Nat → Value) (u : Vtr), cs = [f 0, f 1, f 2, f 3, f 4, f 5, f 6, f 7] ∧ EVtr W (All W) f u ∧ FineVtr u := by
  obtain ⟨xs, n, _, _, hl, hxl, hf⟩ := DataW.trod_struct Try.underlying64 h
  rw [cells_Vtr] at hl
  match cs, hl with
  | [v0, v1, v2, v3, v4, v5, v6, v7], _ =>
  match xs, hxl with
  | [y0, y1, y2, y3, y4, y5, y6, y7], _ =>
    have g0 : DataW.trod enc Try.prog W 0 sp held n 3 [v0] = some y0 := by have := hf 0 _ rfl; simpa [cellsI] using this
    have g1 : DataW.trod enc Try.prog W 0 sp held n 3 [v1] = some y1 := by have := hf 1 _ rfl; simpa [cellsI] using this
    have g2 : DataW.trod enc Try.prog W 0 sp held n 3 [v2] = some y2 := by have := hf 2 _ rfl; simpa [cellsI] using this
    have g3 : DataW.trod enc Try.prog W 0 sp held n 42 [v3] = some y3 := by have := hf 3 _ rfl; simpa [cells_ints] using this
    have g4 : DataW.trod enc Try.prog W 0 sp held n 62 [v4] = some y4 := by have := hf 4 _ rfl; simpa [cells_Cmds] using this
    have g5 : DataW.trod enc Try.prog W 0 sp held n 42 [v5] = some y5 := by have := hf 5 _ rfl; simpa [cells_ints] using this
    have g6 : DataW.trod enc Try.prog W 0 sp held n 42 [v6] = some y6 := by have := hf 6 _ rfl; simpa [cells_ints] using this
    have g7 : DataW.trod enc Try.prog W 0 sp held n 3 [v7] = some y7 := by have := hf 7 _ rfl; simpa [cellsI] using this
    obtain ⟨n0, e0, _, f0⟩ := DataW.trod_int Try.underlying3 g0
    obtain ⟨n1, e1, _, f1⟩ := DataW.trod_int Try.underlying3 g1
    obtain ⟨n2, e2, _, f2⟩ := DataW.trod_int Try.underlying3 g2
    obtain ⟨u3, r3, e3, a3, f3⟩ := open_ints g3
    obtain ⟨u4, r4, e4, a4, f4⟩ := open_Cmds g4
    obtain ⟨u5, r5, e5, a5, f5⟩ := open_ints g5
    obtain ⟨u6, r6, e6, a6, f6⟩ := open_ints g6
    obtain ⟨n7, e7, _, f7⟩ := DataW.trod_int Try.underlying3 g7
    simp only [List.cons.injEq, and_true] at e0 e1 e2 e3 e4 e5 e6 e7
    subst e0 e1 e2 e3 e4 e5 e6 e7
    exact ⟨fun q => if q = 0 then .int .i64 n0 else if q = 1 then .int .i64 n1 else if q = 2 then .int .i64 n2 else if q = 3 then v3 else if q = 4 then v4 else if q = 5 then v5 else if q = 6 then v6 else .int .i64 n7, ⟨n0, n1, n2, r3, r4, r5, r6, n7⟩, rfl, ⟨rfl, rfl, rfl, a3, a4, a5, a6, rfl⟩, bounds_i64 f0, bounds_i64 f1, bounds_i64 f2, f3, f4, f5, f6, bounds_i64 f7⟩
theorem array_Vtr {cs : Array Value} (h : cs.size = 8) : ∃ xa xb xc xd xe xf xg xh, cs = #[xa, xb, xc, xd, xe, xf, xg, xh] := by
  obtain ⟨l⟩ := cs
  match l, h with
  | [xa, xb, xc, xd, xe, xf, xg, xh], _ => exact ⟨xa, xb, xc, xd, xe, xf, xg, xh, rfl⟩
theorem open_Vtr {r0 : Reach} {b0 : Nat} {v : Value} {d : DataW H} {p : List MemPlace} (hv : Value.okWide Try.prog W r0 b0 64 v) (h : DataW.Trod enc Try.prog W 0 sp held 64 v d p) : ∃ u, VtrAt W (All W) v u ∧ FineVtr u := by
  obtain ⟨cs, rfl, hsz⟩ := okWide_struct Try.underlying64 hv
  rw [cells_Vtr] at hsz
  obtain ⟨xa, xb, xc, xd, xe, xf, xg, xh, rfl⟩ := array_Vtr hsz
  obtain ⟨fuel, hf⟩ := h
  obtain ⟨f, u, e0, hh, hfi⟩ := open_Vtr_cells _ _ _ hf
  simp only [Value.cells, List.cons.injEq, and_true] at e0
  obtain ⟨rfl, rfl, rfl, rfl, rfl, rfl, rfl, rfl⟩ := e0
  exact ⟨u, ⟨f, rfl, hh⟩, hfi⟩
theorem cells_Vtrs : Try.prog.cellsOf 22 = 1 := by kernel_rfl
theorem open_Vtrs {fuel : Nat} {cs : List Value} {x : DataW H × List MemPlace} (h : DataW.trod enc Try.prog W 0 sp held fuel 22 cs = some x) :
    ∃ (v : Value) (us : List Vtr), cs = [v] ∧ LAt 8 EVtr W (All W) v us ∧ FineL FineVtr us :=
  open_list keepsVtr (by omega) Try.underlying22 cells_Vtr (fun fuel cs x h => by
    obtain ⟨f, u, rfl, he, hf⟩ := open_Vtr_cells fuel cs x h
    refine ⟨f, u, fun q hq => ?_, he, hf⟩
    match q, hq with
    | 0, _ => rfl
    | 1, _ => rfl
    | 2, _ => rfl
    | 3, _ => rfl
    | 4, _ => rfl
    | 5, _ => rfl
    | 6, _ => rfl
    | 7, _ => rfl) h
theorem cells_Msg : Try.prog.cellsOf 67 = 9 := by kernel_rfl
theorem open_Msg_cells (fuel : Nat) (cs : List Value) (x : DataW H × List MemPlace) (h : DataW.trod enc Try.prog W 0 sp held fuel 67 cs = some x) :
    ∃ (f : Nat → Value) (u : Msg), cs = [f 0, f 1, f 2, f 3, f 4, f 5, f 6, f 7, f 8] ∧ EMsg W (All W) f u ∧ FineMsg u := by
  obtain ⟨xs, n, _, _, hl, hxl, hf⟩ := DataW.trod_struct Try.underlying67 h
  rw [cells_Msg] at hl
  match cs, hl with
  | [v0, v1, v2, v3, v4, v5, v6, v7, v8], _ =>
  match xs, hxl with
  | [y0, y1, y2, y3, y4, y5, y6, y7, y8], _ =>
    have g0 : DataW.trod enc Try.prog W 0 sp held n 3 [v0] = some y0 := by have := hf 0 _ rfl; simpa [cellsI] using this
    have g1 : DataW.trod enc Try.prog W 0 sp held n 3 [v1] = some y1 := by have := hf 1 _ rfl; simpa [cellsI] using this
    have g2 : DataW.trod enc Try.prog W 0 sp held n 3 [v2] = some y2 := by have := hf 2 _ rfl; simpa [cellsI] using this
    have g3 : DataW.trod enc Try.prog W 0 sp held n 3 [v3] = some y3 := by have := hf 3 _ rfl; simpa [cellsI] using this
    have g4 : DataW.trod enc Try.prog W 0 sp held n 3 [v4] = some y4 := by have := hf 4 _ rfl; simpa [cellsI] using this
    have g5 : DataW.trod enc Try.prog W 0 sp held n 3 [v5] = some y5 := by have := hf 5 _ rfl; simpa [cellsI] using this
    have g6 : DataW.trod enc Try.prog W 0 sp held n 62 [v6] = some y6 := by have := hf 6 _ rfl; simpa [cells_Cmds] using this
    have g7 : DataW.trod enc Try.prog W 0 sp held n 3 [v7] = some y7 := by have := hf 7 _ rfl; simpa [cellsI] using this
    have g8 : DataW.trod enc Try.prog W 0 sp held n 4 [v8] = some y8 := by have := hf 8 _ rfl; simpa [cellsB] using this
    obtain ⟨n0, e0, _, f0⟩ := DataW.trod_int Try.underlying3 g0
    obtain ⟨n1, e1, _, f1⟩ := DataW.trod_int Try.underlying3 g1
    obtain ⟨n2, e2, _, f2⟩ := DataW.trod_int Try.underlying3 g2
    obtain ⟨n3, e3, _, f3⟩ := DataW.trod_int Try.underlying3 g3
    obtain ⟨n4, e4, _, f4⟩ := DataW.trod_int Try.underlying3 g4
    obtain ⟨n5, e5, _, f5⟩ := DataW.trod_int Try.underlying3 g5
    obtain ⟨u6, r6, e6, a6, f6⟩ := open_Cmds g6
    obtain ⟨n7, e7, _, f7⟩ := DataW.trod_int Try.underlying3 g7
    obtain ⟨n8, e8, _⟩ := DataW.trod_bool Try.underlying4 g8
    simp only [List.cons.injEq, and_true] at e0 e1 e2 e3 e4 e5 e6 e7 e8
    subst e0 e1 e2 e3 e4 e5 e6 e7 e8
    exact ⟨fun q => if q = 0 then .int .i64 n0 else if q = 1 then .int .i64 n1 else if q = 2 then .int .i64 n2 else if q = 3 then .int .i64 n3 else if q = 4 then .int .i64 n4 else if q = 5 then .int .i64 n5 else if q = 6 then v6 else if q = 7 then .int .i64 n7 else .bool n8, ⟨n0, n1, n2, n3, n4, n5, r6, n7, n8⟩, rfl, ⟨rfl, rfl, rfl, rfl, rfl, rfl, a6, rfl, rfl⟩, bounds_i64 f0, bounds_i64 f1, bounds_i64 f2, bounds_i64 f3, bounds_i64 f4, bounds_i64 f5, f6, bounds_i64 f7, trivial⟩
theorem array_Msg {cs : Array Value} (h : cs.size = 9) : ∃ xa xb xc xd xe xf xg xh xi, cs = #[xa, xb, xc, xd, xe, xf, xg, xh, xi] := by
  obtain ⟨l⟩ := cs
  match l, h with
  | [xa, xb, xc, xd, xe, xf, xg, xh, xi], _ => exact ⟨xa, xb, xc, xd, xe, xf, xg, xh, xi, rfl⟩
theorem open_Msg {r0 : Reach} {b0 : Nat} {v : Value} {d : DataW H} {p : List MemPlace} (hv : Value.okWide Try.prog W r0 b0 67 v) (h : DataW.Trod enc Try.prog W 0 sp held 67 v d p) : ∃ u, MsgAt W (All W) v u ∧ FineMsg u := by
  obtain ⟨cs, rfl, hsz⟩ := okWide_struct Try.underlying67 hv
  rw [cells_Msg] at hsz
  obtain ⟨xa, xb, xc, xd, xe, xf, xg, xh, xi, rfl⟩ := array_Msg hsz
  obtain ⟨fuel, hf⟩ := h
  obtain ⟨f, u, e0, hh, hfi⟩ := open_Msg_cells _ _ _ hf
  simp only [Value.cells, List.cons.injEq, and_true] at e0
  obtain ⟨rfl, rfl, rfl, rfl, rfl, rfl, rfl, rfl, rfl⟩ := e0
  exact ⟨u, ⟨f, rfl, hh⟩, hfi⟩
theorem cells_Msgs : Try.prog.cellsOf 23 = 1 := by kernel_rfl
theorem open_Msgs {fuel : Nat} {cs : List Value} {x : DataW H × List MemPlace} (h : DataW.trod enc Try.prog W 0 sp held fuel 23 cs = some x) :
    ∃ (v : Value) (us : List Msg), cs = [v] ∧ LAt 9 EMsg W (All W) v us ∧ FineL FineMsg us :=
  open_list keepsMsg (by omega) Try.underlying23 cells_Msg (fun fuel cs x h => by
    obtain ⟨f, u, rfl, he, hf⟩ := open_Msg_cells fuel cs x h
    refine ⟨f, u, fun q hq => ?_, he, hf⟩
    match q, hq with
    | 0, _ => rfl
    | 1, _ => rfl
    | 2, _ => rfl
    | 3, _ => rfl
    | 4, _ => rfl
    | 5, _ => rfl
    | 6, _ => rfl
    | 7, _ => rfl
    | 8, _ => rfl) h
theorem cells_Qrm : Try.prog.cellsOf 25 = 2 := by kernel_rfl
theorem open_Qrm_cells (fuel : Nat) (cs : List Value) (x : DataW H × List MemPlace) (h : DataW.trod enc Try.prog W 0 sp held fuel 25 cs = some x) :
    ∃ (f : Nat → Value) (u : Qrm), cs = [f 0, f 1] ∧ EQrm W (All W) f u ∧ FineQrm u := by
  obtain ⟨xs, n, _, _, hl, hxl, hf⟩ := DataW.trod_struct Try.underlying25 h
  rw [cells_Qrm] at hl
  match cs, hl with
  | [v0, v1], _ =>
  match xs, hxl with
  | [y0, y1], _ =>
    have g0 : DataW.trod enc Try.prog W 0 sp held n 22 [v0] = some y0 := by have := hf 0 _ rfl; simpa [cells_Vtrs] using this
    have g1 : DataW.trod enc Try.prog W 0 sp held n 23 [v1] = some y1 := by have := hf 1 _ rfl; simpa [cells_Msgs] using this
    obtain ⟨u0, r0, e0, a0, f0⟩ := open_Vtrs g0
    obtain ⟨u1, r1, e1, a1, f1⟩ := open_Msgs g1
    simp only [List.cons.injEq, and_true] at e0 e1
    subst e0 e1
    exact ⟨fun q => if q = 0 then v0 else v1, ⟨r0, r1⟩, rfl, ⟨a0, a1⟩, f0, f1⟩
theorem array_Qrm {cs : Array Value} (h : cs.size = 2) : ∃ xa xb, cs = #[xa, xb] := by
  obtain ⟨l⟩ := cs
  match l, h with
  | [xa, xb], _ => exact ⟨xa, xb, rfl⟩
theorem open_Qrm {r0 : Reach} {b0 : Nat} {v : Value} {d : DataW H} {p : List MemPlace} (hv : Value.okWide Try.prog W r0 b0 25 v) (h : DataW.Trod enc Try.prog W 0 sp held 25 v d p) : ∃ u, QrmAt W (All W) v u ∧ FineQrm u := by
  obtain ⟨cs, rfl, hsz⟩ := okWide_struct Try.underlying25 hv
  rw [cells_Qrm] at hsz
  obtain ⟨xa, xb, rfl⟩ := array_Qrm hsz
  obtain ⟨fuel, hf⟩ := h
  obtain ⟨f, u, e0, hh, hfi⟩ := open_Qrm_cells _ _ _ hf
  simp only [Value.cells, List.cons.injEq, and_true] at e0
  obtain ⟨rfl, rfl⟩ := e0
  exact ⟨u, ⟨f, rfl, hh⟩, hfi⟩
end
end Go.Proofs.Ytdkfhjcockkleaa.Ls
