/- What the frame tells of what came in. -/
import Derived.Test.YticihnoekffelaaJS25
import Derived.Test.YticihnoekffelaaJS46
namespace Go.Proofs.Yticihnoekffelaa.Ls
set_option maxRecDepth 8000
open Go.ChangeShapes Go.WideShapes Go.ChangeAt Go.RowKit Go.Deep
open Recs
open SegW (Sg)
open LogW (Lg)
set_option linter.unusedVariables false
section
variable {H : Type} {enc : TypeId × Value → H} {W : World} {sp : Nat → Bool} {held : Bool}
theorem cellsB : Try.prog.cellsOf 4 = 1 := by kernel_rfl
theorem cellsS : Try.prog.cellsOf 9 = 1 := by kernel_rfl
theorem cells_ints : Try.prog.cellsOf 36 = 1 := by kernel_rfl
theorem cells_Hd : Try.prog.cellsOf 135 = 2 := by kernel_rfl
theorem open_Hd_cells (fuel : Nat) (cs : List Value) (x : DataW H × List MemPlace) (h : DataW.trod enc Try.prog W 0 sp held fuel 135 cs = some x) :
    ∃ (f : Nat → Value) (u : Hd), cs = [f 0, f 1] ∧ EHd W (All W) f u ∧ FineHd u := by
  obtain ⟨xs, n, _, _, hl, hxl, hf⟩ := DataW.trod_struct Try.underlying135 h
  rw [cells_Hd] at hl
  match cs, hl with
  | [v0, v1], _ =>
  match xs, hxl with
  | [y0, y1], _ =>
    have g0 : DataW.trod enc Try.prog W 0 sp held n 9 [v0] = some y0 := by have := hf 0 _ rfl; simpa [cellsS] using this
    have g1 : DataW.trod enc Try.prog W 0 sp held n 9 [v1] = some y1 := by have := hf 1 _ rfl; simpa [cellsS] using this
    obtain ⟨n0, e0, _, z0⟩ := DataW.trod_string Try.underlying9 g0
    obtain ⟨n1, e1, _, z1⟩ := DataW.trod_string Try.underlying9 g1
    simp only [List.cons.injEq, and_true] at e0 e1
    subst e0 e1
    exact ⟨fun q => if q = 0 then .string n0 else .string n1, ⟨n0, n1⟩, rfl, ⟨rfl, rfl⟩, z0, z1⟩
theorem array_Hd {cs : Array Value} (h : cs.size = 2) : ∃ xa xb, cs = #[xa, xb] := by
  obtain ⟨l⟩ := cs
  match l, h with
  | [xa, xb], _ => exact ⟨xa, xb, rfl⟩
theorem open_Hd {r0 : Reach} {b0 : Nat} {v : Value} {d : DataW H} {p : List MemPlace} (hv : Value.okWide Try.prog W r0 b0 135 v) (h : DataW.Trod enc Try.prog W 0 sp held 135 v d p) : ∃ u, HdAt W (All W) v u ∧ FineHd u := by
  obtain ⟨cs, rfl, hsz⟩ := okWide_struct Try.underlying135 hv
  rw [cells_Hd] at hsz
  obtain ⟨xa, xb, rfl⟩ := array_Hd hsz
  obtain ⟨fuel, hf⟩ := h
  obtain ⟨f, u, e0, hh, hfi⟩ := open_Hd_cells _ _ _ hf
  simp only [Value.cells, List.cons.injEq, and_true] at e0
  obtain ⟨rfl, rfl⟩ := e0
  exact ⟨u, ⟨f, rfl, hh⟩, hfi⟩
theorem cells_Hds : Try.prog.cellsOf 128 = 1 := by kernel_rfl
theorem open_Hds {fuel : Nat} {cs : List Value} {x : DataW H × List MemPlace} (h : DataW.trod enc Try.prog W 0 sp held fuel 128 cs = some x) :
    ∃ (v : Value) (us : List Hd), cs = [v] ∧ LAt 2 EHd W (All W) v us ∧ FineL FineHd us :=
  open_list keepsHd (by omega) Try.underlying128 cells_Hd (fun fuel cs x h => by
    obtain ⟨f, u, rfl, he, hf⟩ := open_Hd_cells fuel cs x h
    refine ⟨f, u, fun q hq => ?_, he, hf⟩
    match q, hq with
    | 0, _ => rfl
    | 1, _ => rfl) h
theorem cells_Rec : Try.prog.cellsOf 130 = 6 := by kernel_rfl
theorem open_Rec_cells (fuel : Nat) (cs : List Value) (x : DataW H × List MemPlace) (h : DataW.trod enc Try.prog W 0 sp held fuel 130 cs = some x) :
    ∃ (f : Nat → Value) (u : Rec), cs = [f 0, f 1, f 2, f 3, f 4, f 5] ∧ ERec W (All W) f u ∧ FineRec u := by
  obtain ⟨xs, n, _, _, hl, hxl, hf⟩ := DataW.trod_struct Try.underlying130 h
  rw [cells_Rec] at hl
  match cs, hl with
  | [v0, v1, v2, v3, v4, v5], _ =>
  match xs, hxl with
  | [y0, y1, y2, y3, y4, y5], _ =>
    have g0 : DataW.trod enc Try.prog W 0 sp held n 3 [v0] = some y0 := by have := hf 0 _ rfl; simpa [cellsI] using this
    have g1 : DataW.trod enc Try.prog W 0 sp held n 4 [v1] = some y1 := by have := hf 1 _ rfl; simpa [cellsB] using this
    have g2 : DataW.trod enc Try.prog W 0 sp held n 9 [v2] = some y2 := by have := hf 2 _ rfl; simpa [cellsS] using this
    have g3 : DataW.trod enc Try.prog W 0 sp held n 4 [v3] = some y3 := by have := hf 3 _ rfl; simpa [cellsB] using this
    have g4 : DataW.trod enc Try.prog W 0 sp held n 9 [v4] = some y4 := by have := hf 4 _ rfl; simpa [cellsS] using this
    have g5 : DataW.trod enc Try.prog W 0 sp held n 128 [v5] = some y5 := by have := hf 5 _ rfl; simpa [cells_Hds] using this
    obtain ⟨n0, e0, _, f0⟩ := DataW.trod_int Try.underlying3 g0
    obtain ⟨n1, e1, _⟩ := DataW.trod_bool Try.underlying4 g1
    obtain ⟨n2, e2, _, z2⟩ := DataW.trod_string Try.underlying9 g2
    obtain ⟨n3, e3, _⟩ := DataW.trod_bool Try.underlying4 g3
    obtain ⟨n4, e4, _, z4⟩ := DataW.trod_string Try.underlying9 g4
    obtain ⟨u5, r5, e5, a5, f5⟩ := open_Hds g5
    simp only [List.cons.injEq, and_true] at e0 e1 e2 e3 e4 e5
    subst e0 e1 e2 e3 e4 e5
    exact ⟨fun q => if q = 0 then .int .i64 n0 else if q = 1 then .bool n1 else if q = 2 then .string n2 else if q = 3 then .bool n3 else if q = 4 then .string n4 else v5, ⟨n0, n1, n2, n3, n4, r5⟩, rfl, ⟨rfl, rfl, rfl, rfl, rfl, a5⟩, bounds_i64 f0, trivial, z2, trivial, z4, f5⟩
theorem array_Rec {cs : Array Value} (h : cs.size = 6) : ∃ xa xb xc xd xe xf, cs = #[xa, xb, xc, xd, xe, xf] := by
  obtain ⟨l⟩ := cs
  match l, h with
  | [xa, xb, xc, xd, xe, xf], _ => exact ⟨xa, xb, xc, xd, xe, xf, rfl⟩
theorem open_Rec {r0 : Reach} {b0 : Nat} {v : Value} {d : DataW H} {p : List MemPlace} (hv : Value.okWide Try.prog W r0 b0 130 v) (h : DataW.Trod enc Try.prog W 0 sp held 130 v d p) : ∃ u, RecAt W (All W) v u ∧ FineRec u := by
  obtain ⟨cs, rfl, hsz⟩ := okWide_struct Try.underlying130 hv
  rw [cells_Rec] at hsz
  obtain ⟨xa, xb, xc, xd, xe, xf, rfl⟩ := array_Rec hsz
  obtain ⟨fuel, hf⟩ := h
  obtain ⟨f, u, e0, hh, hfi⟩ := open_Rec_cells _ _ _ hf
  simp only [Value.cells, List.cons.injEq, and_true] at e0
  obtain ⟨rfl, rfl, rfl, rfl, rfl, rfl⟩ := e0
  exact ⟨u, ⟨f, rfl, hh⟩, hfi⟩
theorem cells_Recs : Try.prog.cellsOf 118 = 1 := by kernel_rfl
theorem open_Recs {fuel : Nat} {cs : List Value} {x : DataW H × List MemPlace} (h : DataW.trod enc Try.prog W 0 sp held fuel 118 cs = some x) :
    ∃ (v : Value) (us : List Rec), cs = [v] ∧ LAt 6 ERec W (All W) v us ∧ FineL FineRec us :=
  open_list keepsRec (by omega) Try.underlying118 cells_Rec (fun fuel cs x h => by
    obtain ⟨f, u, rfl, he, hf⟩ := open_Rec_cells fuel cs x h
    refine ⟨f, u, fun q hq => ?_, he, hf⟩
    match q, hq with
    | 0, _ => rfl
    | 1, _ => rfl
    | 2, _ => rfl
    | 3, _ => rfl
    | 4, _ => rfl
    | 5, _ => rfl) h
theorem cells_Bat : Try.prog.cellsOf 120 = 7 := by kernel_rfl
theorem open_Bat_cells (fuel : Nat) (cs : List Value) (x : DataW H × List MemPlace) (h : DataW.trod enc Try.prog W 0 sp held fuel 120 cs = some x) :
    ∃ (f : Nat → Value) (u : Bat), cs = [f 0, f 1, f 2, f 3, f 4, f 5, f 6] ∧ EBat W (All W) f u ∧ FineBat u := by
  obtain ⟨xs, n, _, _, hl, hxl, hf⟩ := DataW.trod_struct Try.underlying120 h
  rw [cells_Bat] at hl
  match cs, hl with
  | [v0, v1, v2, v3, v4, v5, v6], _ =>
  match xs, hxl with
  | [y0, y1, y2, y3, y4, y5, y6], _ =>
    have g0 : DataW.trod enc Try.prog W 0 sp held n 3 [v0] = some y0 := by have := hf 0 _ rfl; simpa [cellsI] using this
    have g1 : DataW.trod enc Try.prog W 0 sp held n 3 [v1] = some y1 := by have := hf 1 _ rfl; simpa [cellsI] using this
    have g2 : DataW.trod enc Try.prog W 0 sp held n 3 [v2] = some y2 := by have := hf 2 _ rfl; simpa [cellsI] using this
    have g3 : DataW.trod enc Try.prog W 0 sp held n 3 [v3] = some y3 := by have := hf 3 _ rfl; simpa [cellsI] using this
    have g4 : DataW.trod enc Try.prog W 0 sp held n 3 [v4] = some y4 := by have := hf 4 _ rfl; simpa [cellsI] using this
    have g5 : DataW.trod enc Try.prog W 0 sp held n 3 [v5] = some y5 := by have := hf 5 _ rfl; simpa [cellsI] using this
    have g6 : DataW.trod enc Try.prog W 0 sp held n 118 [v6] = some y6 := by have := hf 6 _ rfl; simpa [cells_Recs] using this
    obtain ⟨n0, e0, _, f0⟩ := DataW.trod_int Try.underlying3 g0
    obtain ⟨n1, e1, _, f1⟩ := DataW.trod_int Try.underlying3 g1
    obtain ⟨n2, e2, _, f2⟩ := DataW.trod_int Try.underlying3 g2
    obtain ⟨n3, e3, _, f3⟩ := DataW.trod_int Try.underlying3 g3
    obtain ⟨n4, e4, _, f4⟩ := DataW.trod_int Try.underlying3 g4
    obtain ⟨n5, e5, _, f5⟩ := DataW.trod_int Try.underlying3 g5
    obtain ⟨u6, r6, e6, a6, f6⟩ := open_Recs g6
    simp only [List.cons.injEq, and_true] at e0 e1 e2 e3 e4 e5 e6
    subst e0 e1 e2 e3 e4 e5 e6
    exact ⟨fun q => if q = 0 then .int .i64 n0 else if q = 1 then .int .i64 n1 else if q = 2 then .int .i64 n2 else if q = 3 then .int .i64 n3 else if q = 4 then .int .i64 n4 else if q = 5 then .int .i64 n5 else v6, ⟨n0, n1, n2, n3, n4, n5, r6⟩, rfl, ⟨rfl, rfl, rfl, rfl, rfl, rfl, a6⟩, bounds_i64 f0, bounds_i64 f1, bounds_i64 f2, bounds_i64 f3, bounds_i64 f4, bounds_i64 f5, f6⟩
theorem array_Bat {cs : Array Value} (h : cs.size = 7) : ∃ xa xb xc xd xe xf xg, cs = #[xa, xb, xc, xd, xe, xf, xg] := by
  obtain ⟨l⟩ := cs
  match l, h with
  | [xa, xb, xc, xd, xe, xf, xg], _ => exact ⟨xa, xb, xc, xd, xe, xf, xg, rfl⟩
theorem open_Bat {r0 : Reach} {b0 : Nat} {v : Value} {d : DataW H} {p : List MemPlace} (hv : Value.okWide Try.prog W r0 b0 120 v) (h : DataW.Trod enc Try.prog W 0 sp held 120 v d p) : ∃ u, BatAt W (All W) v u ∧ FineBat u := by
  obtain ⟨cs, rfl, hsz⟩ := okWide_struct Try.underlying120 hv
  rw [cells_Bat] at hsz
  obtain ⟨xa, xb, xc, xd, xe, xf, xg, rfl⟩ := array_Bat hsz
  obtain ⟨fuel, hf⟩ := h
  obtain ⟨f, u, e0, hh, hfi⟩ := open_Bat_cells _ _ _ hf
  simp only [Value.cells, List.cons.injEq, and_true] at e0
  obtain ⟨rfl, rfl, rfl, rfl, rfl, rfl, rfl⟩ := e0
  exact ⟨u, ⟨f, rfl, hh⟩, hfi⟩
theorem cells_Bats : Try.prog.cellsOf 82 = 1 := by kernel_rfl
theorem open_Bats {fuel : Nat} {cs : List Value} {x : DataW H × List MemPlace} (h : DataW.trod enc Try.prog W 0 sp held fuel 82 cs = some x) :
    ∃ (v : Value) (us : List Bat), cs = [v] ∧ LAt 7 EBat W (All W) v us ∧ FineL FineBat us :=
  open_list keepsBat (by omega) Try.underlying82 cells_Bat (fun fuel cs x h => by
    obtain ⟨f, u, rfl, he, hf⟩ := open_Bat_cells fuel cs x h
    refine ⟨f, u, fun q hq => ?_, he, hf⟩
    match q, hq with
    | 0, _ => rfl
    | 1, _ => rfl
    | 2, _ => rfl
    | 3, _ => rfl
    | 4, _ => rfl
    | 5, _ => rfl
    | 6, _ => rfl) h
theorem cells_Sg : Try.prog.cellsOf 84 = 2 := by kernel_rfl
theorem open_Sg_cells (fuel : Nat) (cs : List Value) (x : DataW H × List MemPlace) (h : DataW.trod enc Try.prog W 0 sp held fuel 84 cs = some x) :
    ∃ (f : Nat → Value) (u : Sg), cs = [f 0, f 1] ∧ ESg W (All W) f u ∧ FineSg u := by
  obtain ⟨xs, n, _, _, hl, hxl, hf⟩ := DataW.trod_struct Try.underlying84 h
  rw [cells_Sg] at hl
  match cs, hl with
  | [v0, v1], _ =>
  match xs, hxl with
  | [y0, y1], _ =>
    have g0 : DataW.trod enc Try.prog W 0 sp held n 3 [v0] = some y0 := by have := hf 0 _ rfl; simpa [cellsI] using this
    have g1 : DataW.trod enc Try.prog W 0 sp held n 82 [v1] = some y1 := by have := hf 1 _ rfl; simpa [cells_Bats] using this
    obtain ⟨n0, e0, _, f0⟩ := DataW.trod_int Try.underlying3 g0
    obtain ⟨u1, r1, e1, a1, f1⟩ := open_Bats g1
    simp only [List.cons.injEq, and_true] at e0 e1
    subst e0 e1
    exact ⟨fun q => if q = 0 then .int .i64 n0 else v1, ⟨n0, r1⟩, rfl, ⟨rfl, a1⟩, bounds_i64 f0, f1⟩
theorem array_Sg {cs : Array Value} (h : cs.size = 2) : ∃ xa xb, cs = #[xa, xb] := by
  obtain ⟨l⟩ := cs
  match l, h with
  | [xa, xb], _ => exact ⟨xa, xb, rfl⟩
theorem open_Sg {r0 : Reach} {b0 : Nat} {v : Value} {d : DataW H} {p : List MemPlace} (hv : Value.okWide Try.prog W r0 b0 84 v) (h : DataW.Trod enc Try.prog W 0 sp held 84 v d p) : ∃ u, SgAt W (All W) v u ∧ FineSg u := by
  obtain ⟨cs, rfl, hsz⟩ := okWide_struct Try.underlying84 hv
  rw [cells_Sg] at hsz
  obtain ⟨xa, xb, rfl⟩ := array_Sg hsz
  obtain ⟨fuel, hf⟩ := h
  obtain ⟨f, u, e0, hh, hfi⟩ := open_Sg_cells _ _ _ hf
  simp only [Value.cells, List.cons.injEq, and_true] at e0
  obtain ⟨rfl, rfl⟩ := e0
  exact ⟨u, ⟨f, rfl, hh⟩, hfi⟩
theorem cells_Sgs : Try.prog.cellsOf 22 = 1 := by kernel_rfl
theorem open_Sgs {fuel : Nat} {cs : List Value} {x : DataW H × List MemPlace} (h : DataW.trod enc Try.prog W 0 sp held fuel 22 cs = some x) :
    ∃ (v : Value) (us : List Sg), cs = [v] ∧ LAt 2 ESg W (All W) v us ∧ FineL FineSg us :=
  open_list keepsSg (by omega) Try.underlying22 cells_Sg (fun fuel cs x h => by
    obtain ⟨f, u, rfl, he, hf⟩ := open_Sg_cells fuel cs x h
    refine ⟨f, u, fun q hq => ?_, he, hf⟩
    match q, hq with
    | 0, _ => rfl
    | 1, _ => rfl) h
theorem cells_Lg : Try.prog.cellsOf 24 = 4 := by kernel_rfl
theorem open_Lg_cells (fuel : Nat) (cs : List Value) (x : DataW H × List MemPlace) (h : DataW.trod enc Try.prog W 0 sp held fuel 24 cs = some x) :
    ∃ (f : Nat → Value) (u : Lg), cs = [f 0, f 1, f 2, f 3] ∧ ELg W (All W) f u ∧ FineLg u := by
  obtain ⟨xs, n, _, _, hl, hxl, hf⟩ := DataW.trod_struct Try.underlying24 h
  rw [cells_Lg] at hl
  match cs, hl with
  | [v0, v1, v2, v3], _ =>
  match xs, hxl with
  | [y0, y1, y2, y3], _ =>
    have g0 : DataW.trod enc Try.prog W 0 sp held n 3 [v0] = some y0 := by have := hf 0 _ rfl; simpa [cellsI] using this
    have g1 : DataW.trod enc Try.prog W 0 sp held n 3 [v1] = some y1 := by have := hf 1 _ rfl; simpa [cellsI] using this
    have g2 : DataW.trod enc Try.prog W 0 sp held n 3 [v2] = some y2 := by have := hf 2 _ rfl; simpa [cellsI] using this
    have g3 : DataW.trod enc Try.prog W 0 sp held n 22 [v3] = some y3 := by have := hf 3 _ rfl; simpa [cells_Sgs] using this
    obtain ⟨n0, e0, _, f0⟩ := DataW.trod_int Try.underlying3 g0
    obtain ⟨n1, e1, _, f1⟩ := DataW.trod_int Try.underlying3 g1
    obtain ⟨n2, e2, _, f2⟩ := DataW.trod_int Try.underlying3 g2
    obtain ⟨u3, r3, e3, a3, f3⟩ := open_Sgs g3
    simp only [List.cons.injEq, and_true] at e0 e1 e2 e3
    subst e0 e1 e2 e3
    exact ⟨fun q => if q = 0 then .int .i64 n0 else if q = 1 then .int .i64 n1 else if q = 2 then .int .i64 n2 else v3, ⟨n0, n1, n2, r3⟩, rfl, ⟨rfl, rfl, rfl, a3⟩, bounds_i64 f0, bounds_i64 f1, bounds_i64 f2, f3⟩
theorem array_Lg {cs : Array Value} (h : cs.size = 4) : ∃ xa xb xc xd, cs = #[xa, xb, xc, xd] := by
  obtain ⟨l⟩ := cs
  match l, h with
  | [xa, xb, xc, xd], _ => exact ⟨xa, xb, xc, xd, rfl⟩
theorem open_Lg {r0 : Reach} {b0 : Nat} {v : Value} {d : DataW H} {p : List MemPlace} (hv : Value.okWide Try.prog W r0 b0 24 v) (h : DataW.Trod enc Try.prog W 0 sp held 24 v d p) : ∃ u, LgAt W (All W) v u ∧ FineLg u := by
  obtain ⟨cs, rfl, hsz⟩ := okWide_struct Try.underlying24 hv
  rw [cells_Lg] at hsz
  obtain ⟨xa, xb, xc, xd, rfl⟩ := array_Lg hsz
  obtain ⟨fuel, hf⟩ := h
  obtain ⟨f, u, e0, hh, hfi⟩ := open_Lg_cells _ _ _ hf
  simp only [Value.cells, List.cons.injEq, and_true] at e0
  obtain ⟨rfl, rfl, rfl, rfl⟩ := e0
  exact ⟨u, ⟨f, rfl, hh⟩, hfi⟩
theorem cells_Rpl : Try.prog.cellsOf 97 = 6 := by kernel_rfl
theorem open_Rpl_cells (fuel : Nat) (cs : List Value) (x : DataW H × List MemPlace) (h : DataW.trod enc Try.prog W 0 sp held fuel 97 cs = some x) :
    ∃ (f : Nat → Value) (u : Rpl), cs = [f 0, f 1, f 2, f 3, f 4, f 5] ∧ ERpl W (All W) f u ∧ FineRpl u := by
  obtain ⟨xs, n, _, _, hl, hxl, hf⟩ := DataW.trod_struct Try.underlying97 h
  rw [cells_Rpl] at hl
  match cs, hl with
  | [v0, v1, v2, v3, v4, v5], _ =>
  match xs, hxl with
  | [y0, y1, y2], _ =>
    have g0 : DataW.trod enc Try.prog W 0 sp held n 24 [v0, v1, v2, v3] = some y0 := by have := hf 0 _ rfl; simpa [cells_Lg] using this
    have g4 : DataW.trod enc Try.prog W 0 sp held n 3 [v4] = some y1 := by have := hf 1 _ rfl; simpa [cellsI] using this
    have g5 : DataW.trod enc Try.prog W 0 sp held n 4 [v5] = some y2 := by have := hf 2 _ rfl; simpa [cellsB] using this
    obtain ⟨fg0, ug0, eg0, hg0, zg0⟩ := open_Lg_cells _ _ _ g0
    simp only [List.cons.injEq, and_true] at eg0
    obtain ⟨eg0_0, eg0_1, eg0_2, eg0_3⟩ := eg0
    obtain ⟨hg0_0, hg0_1, hg0_2, hg0_3⟩ := hg0
    obtain ⟨zg0_0, zg0_1, zg0_2, zg0_3⟩ := zg0
    obtain ⟨n4, e4, _, f4⟩ := DataW.trod_int Try.underlying3 g4
    obtain ⟨n5, e5, _⟩ := DataW.trod_bool Try.underlying4 g5
    simp only [List.cons.injEq, and_true] at e4 e5
    subst e4 e5
    subst eg0_0 eg0_1 eg0_2 eg0_3
    exact ⟨fun q => if q = 0 then fg0 0 else if q = 1 then fg0 1 else if q = 2 then fg0 2 else if q = 3 then fg0 3 else if q = 4 then .int .i64 n4 else .bool n5, ⟨ug0.start, ug0.next, ug0.roll, ug0.segs, n4, n5⟩, rfl, ⟨hg0_0, hg0_1, hg0_2, hg0_3, rfl, rfl⟩, zg0_0, zg0_1, zg0_2, zg0_3, bounds_i64 f4, trivial⟩
theorem array_Rpl {cs : Array Value} (h : cs.size = 6) : ∃ xa xb xc xd xe xf, cs = #[xa, xb, xc, xd, xe, xf] := by
  obtain ⟨l⟩ := cs
  match l, h with
  | [xa, xb, xc, xd, xe, xf], _ => exact ⟨xa, xb, xc, xd, xe, xf, rfl⟩
theorem open_Rpl {r0 : Reach} {b0 : Nat} {v : Value} {d : DataW H} {p : List MemPlace} (hv : Value.okWide Try.prog W r0 b0 97 v) (h : DataW.Trod enc Try.prog W 0 sp held 97 v d p) : ∃ u, RplAt W (All W) v u ∧ FineRpl u := by
  obtain ⟨cs, rfl, hsz⟩ := okWide_struct Try.underlying97 hv
  rw [cells_Rpl] at hsz
  obtain ⟨xa, xb, xc, xd, xe, xf, rfl⟩ := array_Rpl hsz
  obtain ⟨fuel, hf⟩ := h
  obtain ⟨f, u, e0, hh, hfi⟩ := open_Rpl_cells _ _ _ hf
  simp only [Value.cells, List.cons.injEq, and_true] at e0
  obtain ⟨rfl, rfl, rfl, rfl, rfl, rfl⟩ := e0
  exact ⟨u, ⟨f, rfl, hh⟩, hfi⟩
theorem cells_Rpls : Try.prog.cellsOf 35 = 1 := by kernel_rfl
theorem open_Rpls {fuel : Nat} {cs : List Value} {x : DataW H × List MemPlace} (h : DataW.trod enc Try.prog W 0 sp held fuel 35 cs = some x) :
    ∃ (v : Value) (us : List Rpl), cs = [v] ∧ LAt 6 ERpl W (All W) v us ∧ FineL FineRpl us :=
  open_list keepsRpl (by omega) Try.underlying35 cells_Rpl (fun fuel cs x h => by
    obtain ⟨f, u, rfl, he, hf⟩ := open_Rpl_cells fuel cs x h
    refine ⟨f, u, fun q hq => ?_, he, hf⟩
    match q, hq with
    | 0, _ => rfl
    | 1, _ => rfl
    | 2, _ => rfl
    | 3, _ => rfl
    | 4, _ => rfl
    | 5, _ => rfl) h
theorem cells_Prt : Try.prog.cellsOf 38 = 6 := by kernel_rfl
theorem open_Prt_cells (fuel : Nat) (cs : List Value) (x : DataW H × List MemPlace) (h : DataW.trod enc Try.prog W 0 sp held fuel 38 cs = some x) :
    ∃ (f : Nat → Value) (u : Prt), cs = [f 0, f 1, f 2, f 3, f 4, f 5] ∧ EPrt W (All W) f u ∧ FinePrt u := by
  obtain ⟨xs, n, _, _, hl, hxl, hf⟩ := DataW.trod_struct Try.underlying38 h
  rw [cells_Prt] at hl
  match cs, hl with
  | [v0, v1, v2, v3, v4, v5], _ =>
  match xs, hxl with
  | [y0, y1, y2, y3, y4, y5], _ =>
    have g0 : DataW.trod enc Try.prog W 0 sp held n 35 [v0] = some y0 := by have := hf 0 _ rfl; simpa [cells_Rpls] using this
    have g1 : DataW.trod enc Try.prog W 0 sp held n 3 [v1] = some y1 := by have := hf 1 _ rfl; simpa [cellsI] using this
    have g2 : DataW.trod enc Try.prog W 0 sp held n 3 [v2] = some y2 := by have := hf 2 _ rfl; simpa [cellsI] using this
    have g3 : DataW.trod enc Try.prog W 0 sp held n 36 [v3] = some y3 := by have := hf 3 _ rfl; simpa [cells_ints] using this
    have g4 : DataW.trod enc Try.prog W 0 sp held n 36 [v4] = some y4 := by have := hf 4 _ rfl; simpa [cells_ints] using this
    have g5 : DataW.trod enc Try.prog W 0 sp held n 3 [v5] = some y5 := by have := hf 5 _ rfl; simpa [cellsI] using this
    obtain ⟨u0, r0, e0, a0, f0⟩ := open_Rpls g0
    obtain ⟨n1, e1, _, f1⟩ := DataW.trod_int Try.underlying3 g1
    obtain ⟨n2, e2, _, f2⟩ := DataW.trod_int Try.underlying3 g2
    obtain ⟨u3, r3, e3, a3, f3⟩ := open_ints g3
    obtain ⟨u4, r4, e4, a4, f4⟩ := open_ints g4
    obtain ⟨n5, e5, _, f5⟩ := DataW.trod_int Try.underlying3 g5
    simp only [List.cons.injEq, and_true] at e0 e1 e2 e3 e4 e5
    subst e0 e1 e2 e3 e4 e5
    exact ⟨fun q => if q = 0 then v0 else if q = 1 then .int .i64 n1 else if q = 2 then .int .i64 n2 else if q = 3 then v3 else if q = 4 then v4 else .int .i64 n5, ⟨r0, n1, n2, r3, r4, n5⟩, rfl, ⟨a0, rfl, rfl, a3, a4, rfl⟩, f0, bounds_i64 f1, bounds_i64 f2, f3, f4, bounds_i64 f5⟩
theorem array_Prt {cs : Array Value} (h : cs.size = 6) : ∃ xa xb xc xd xe xf, cs = #[xa, xb, xc, xd, xe, xf] := by
  obtain ⟨l⟩ := cs
  match l, h with
  | [xa, xb, xc, xd, xe, xf], _ => exact ⟨xa, xb, xc, xd, xe, xf, rfl⟩
theorem open_Prt {r0 : Reach} {b0 : Nat} {v : Value} {d : DataW H} {p : List MemPlace} (hv : Value.okWide Try.prog W r0 b0 38 v) (h : DataW.Trod enc Try.prog W 0 sp held 38 v d p) : ∃ u, PrtAt W (All W) v u ∧ FinePrt u := by
  obtain ⟨cs, rfl, hsz⟩ := okWide_struct Try.underlying38 hv
  rw [cells_Prt] at hsz
  obtain ⟨xa, xb, xc, xd, xe, xf, rfl⟩ := array_Prt hsz
  obtain ⟨fuel, hf⟩ := h
  obtain ⟨f, u, e0, hh, hfi⟩ := open_Prt_cells _ _ _ hf
  simp only [Value.cells, List.cons.injEq, and_true] at e0
  obtain ⟨rfl, rfl, rfl, rfl, rfl, rfl⟩ := e0
  exact ⟨u, ⟨f, rfl, hh⟩, hfi⟩
end
end Go.Proofs.Yticihnoekffelaa.Ls
