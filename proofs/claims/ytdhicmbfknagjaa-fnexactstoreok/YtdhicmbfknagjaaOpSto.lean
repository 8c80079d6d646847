/- What the frame tells of what came in. -/
import Derived.Test.YtdhicmbfknagjaaTSto
import Derived.Test.YtdhicmbfknagjaaLsOI
namespace Go.Proofs.Ytdhicmbfknagjaa.Ls
set_option maxRecDepth 8000
open Go.ChangeShapes Go.WideShapes Go.ChangeAt Go.RowKit Go.Deep
open Recs
open SegW (Sg)
open LogW (Lg)
set_option linter.unusedVariables false
section
variable {H : Type} {enc : TypeId × Value → H} {W : World} {sp : Nat → Bool} {held : Bool}
theorem cellsB : Try.prog.cellsOf 4 = 1 := by kernel_rfl
theorem cellsS : Try.prog.cellsOf 9 = 1 := by kernel_rfl
theorem cells_ints : Try.prog.cellsOf 39 = 1 := by kernel_rfl
theorem cells_Hd : Try.prog.cellsOf 217 = 2 := by kernel_rfl
theorem open_Hd_cells (fuel : Nat) (cs : List Value) (x : DataW H × List MemPlace) (h : DataW.trod enc Try.prog W 0 sp held fuel 217 cs = some x) :
    ∃ (f : Nat → Value) (u : Hd), cs = [f 0, f 1] ∧ EHd W (All W) f u ∧ FineHd u := by
  obtain ⟨xs, n, _, _, hl, hxl, hf⟩ := DataW.trod_struct Try.underlying217 h
  rw [cells_Hd] at hl
  match cs, hl with
  | [v0, v1], _ =>
  match xs, hxl with
  | [y0, y1], _ =>
    have g0 : DataW.trod enc Try.prog W 0 sp held n 9 [v0] = some y0 := by have := hf 0 _ rfl; simpa [cellsS] using this
    have g1 : DataW.trod enc Try.prog W 0 sp held n 9 [v1] = some y1 := by have := hf 1 _ rfl; simpa [cellsS] using this
    obtain ⟨n0, e0, _, z0⟩ := DataW.trod_string Try.underlying9 g0
    obtain ⟨n1, e1, _, z1⟩ := DataW.trod_string Try.underlying9 g1
    simp only [List.cons.injEq, and_true] at e0 e1
    subst e0 e1
    exact ⟨fun q => if q = 0 then .string n0 else .string n1, ⟨n0, n1⟩, rfl, ⟨rfl, rfl⟩, z0, z1⟩
theorem array_Hd {cs : Array Value} (h : cs.size = 2) : ∃ xa xb, cs = #[xa, xb] := by
  obtain ⟨l⟩ := cs
  match l, h with
  | [xa, xb], _ => exact ⟨xa, xb, rfl⟩
theorem open_Hd {r0 : Reach} {b0 : Nat} {v : Value} {d : DataW H} {p : List MemPlace} (hv : Value.okWide Try.prog W r0 b0 217 v) (h : DataW.Trod enc Try.prog W 0 sp held 217 v d p) : ∃ u, HdAt W (All W) v u ∧ FineHd u := by
  obtain ⟨cs, rfl, hsz⟩ := okWide_struct Try.underlying217 hv
  rw [cells_Hd] at hsz
  obtain ⟨xa, xb, rfl⟩ := array_Hd hsz
  obtain ⟨fuel, hf⟩ := h
  obtain ⟨f, u, e0, hh, hfi⟩ := open_Hd_cells _ _ _ hf
  simp only [Value.cells, List.cons.injEq, and_true] at e0
  obtain ⟨rfl, rfl⟩ := e0
  exact ⟨u, ⟨f, rfl, hh⟩, hfi⟩
theorem cells_Hds : Try.prog.cellsOf 208 = 1 := by kernel_rfl
theorem open_Hds {fuel : Nat} {cs : List Value} {x : DataW H × List MemPlace} (h : DataW.trod enc Try.prog W 0 sp held fuel 208 cs = some x) :
    ∃ (v : Value) (us : List Hd), cs = [v] ∧ LAt 2 EHd W (All W) v us ∧ FineL FineHd us :=
  open_list keepsHd (by omega) Try.underlying208 cells_Hd (fun fuel cs x h => by
    obtain ⟨f, u, rfl, he, hf⟩ := open_Hd_cells fuel cs x h
    refine ⟨f, u, fun q hq => ?_, he, hf⟩
    match q, hq with
    | 0, _ => rfl
    | 1, _ => rfl) h
theorem cells_Rec : Try.prog.cellsOf 210 = 6 := by kernel_rfl
theorem open_Rec_cells (fuel : Nat) (cs : List Value) (x : DataW H × List MemPlace) (h : DataW.trod enc Try.prog W 0 sp held fuel 210 cs = some x) :
    ∃ (f : Nat → Value) (u : Rec), cs = [f 0, f 1, f 2, f 3, f 4, f 5] ∧ ERec W (All W) f u ∧ FineRec u := by
  obtain ⟨xs, n, _, _, hl, hxl, hf⟩ := DataW.trod_struct Try.underlying210 h
  rw [cells_Rec] at hl
  match cs, hl with
  | [v0, v1, v2, v3, v4, v5], _ =>
  match xs, hxl with
  | [y0, y1, y2, y3, y4, y5], _ =>
    have g0 : DataW.trod enc Try.prog W 0 sp held n 3 [v0] = some y0 := by have := hf 0 _ rfl; simpa [cellsI] using this
    have g1 : DataW.trod enc Try.prog W 0 sp held n 4 [v1] = some y1 := by have := hf 1 _ rfl; simpa [cellsB] using this
    have g2 : DataW.trod enc Try.prog W 0 sp held n 9 [v2] = some y2 := by have := hf 2 _ rfl; simpa [cellsS] using this
    have g3 : DataW.trod enc Try.prog W 0 sp held n 4 [v3] = some y3 := by have := hf 3 _ rfl; simpa [cellsB] using this
    have g4 : DataW.trod enc Try.prog W 0 sp held n 9 [v4] = some y4 := by have := hf 4 _ rfl; simpa [cellsS] using this
    have g5 : DataW.trod enc Try.prog W 0 sp held n 208 [v5] = some y5 := by have := hf 5 _ rfl; simpa [cells_Hds] using this
    obtain ⟨n0, e0, _, f0⟩ := DataW.trod_int Try.underlying3 g0
    obtain ⟨n1, e1, _⟩ := DataW.trod_bool Try.underlying4 g1
    obtain ⟨n2, e2, _, z2⟩ := DataW.trod_string Try.underlying9 g2
    obtain ⟨n3, e3, _⟩ := DataW.trod_bool Try.underlying4 g3
    obtain ⟨n4, e4, _, z4⟩ := DataW.trod_string Try.underlying9 g4
    obtain ⟨u5, r5, e5, a5, f5⟩ := open_Hds g5
    simp only [List.cons.injEq, and_true] at e0 e1 e2 e3 e4 e5
    subst e0 e1 e2 e3 e4 e5
    exact ⟨fun q => if q = 0 then .int .i64 n0 else if q = 1 then .bool n1 else if q = 2 then .string n2 else if q = 3 then .bool n3 else if q = 4 then .string n4 else v5, ⟨n0, n1, n2, n3, n4, r5⟩, rfl, ⟨rfl, rfl, rfl, rfl, rfl, a5⟩, bounds_i64 f0, trivial, z2, trivial, z4, f5⟩
theorem array_Rec {cs : Array Value} (h : cs.size = 6) : ∃ xa xb xc xd xe xf, cs = #[xa, xb, xc, xd, xe, xf] := by
  obtain ⟨l⟩ := cs
  match l, h with
  | [xa, xb, xc, xd, xe, xf], _ => exact ⟨xa, xb, xc, xd, xe, xf, rfl⟩
theorem open_Rec {r0 : Reach} {b0 : Nat} {v : Value} {d : DataW H} {p : List MemPlace} (hv : Value.okWide Try.prog W r0 b0 210 v) (h : DataW.Trod enc Try.prog W 0 sp held 210 v d p) : ∃ u, RecAt W (All W) v u ∧ FineRec u := by
  obtain ⟨cs, rfl, hsz⟩ := okWide_struct Try.underlying210 hv
  rw [cells_Rec] at hsz
  obtain ⟨xa, xb, xc, xd, xe, xf, rfl⟩ := array_Rec hsz
  obtain ⟨fuel, hf⟩ := h
  obtain ⟨f, u, e0, hh, hfi⟩ := open_Rec_cells _ _ _ hf
  simp only [Value.cells, List.cons.injEq, and_true] at e0
  obtain ⟨rfl, rfl, rfl, rfl, rfl, rfl⟩ := e0
  exact ⟨u, ⟨f, rfl, hh⟩, hfi⟩
theorem cells_Recs : Try.prog.cellsOf 199 = 1 := by kernel_rfl
theorem open_Recs {fuel : Nat} {cs : List Value} {x : DataW H × List MemPlace} (h : DataW.trod enc Try.prog W 0 sp held fuel 199 cs = some x) :
    ∃ (v : Value) (us : List Rec), cs = [v] ∧ LAt 6 ERec W (All W) v us ∧ FineL FineRec us :=
  open_list keepsRec (by omega) Try.underlying199 cells_Rec (fun fuel cs x h => by
    obtain ⟨f, u, rfl, he, hf⟩ := open_Rec_cells fuel cs x h
    refine ⟨f, u, fun q hq => ?_, he, hf⟩
    match q, hq with
    | 0, _ => rfl
    | 1, _ => rfl
    | 2, _ => rfl
    | 3, _ => rfl
    | 4, _ => rfl
    | 5, _ => rfl) h
theorem cells_Bat : Try.prog.cellsOf 201 = 7 := by kernel_rfl
theorem open_Bat_cells (fuel : Nat) (cs : List Value) (x : DataW H × List MemPlace) (h : DataW.trod enc Try.prog W 0 sp held fuel 201 cs = some x) :
    ∃ (f : Nat → Value) (u : Bat), cs = [f 0, f 1, f 2, f 3, f 4, f 5, f 6] ∧ EBat W (All W) f u ∧ FineBat u := by
  obtain ⟨xs, n, _, _, hl, hxl, hf⟩ := DataW.trod_struct Try.underlying201 h
  rw [cells_Bat] at hl
  match cs, hl with
  | [v0, v1, v2, v3, v4, v5, v6], _ =>
  match xs, hxl with
  | [y0, y1, y2, y3, y4, y5, y6], _ =>
    have g0 : DataW.trod enc Try.prog W 0 sp held n 3 [v0] = some y0 := by have := hf 0 _ rfl; simpa [cellsI] using this
    have g1 : DataW.trod enc Try.prog W 0 sp held n 3 [v1] = some y1 := by have := hf 1 _ rfl; simpa [cellsI] using this
    have g2 : DataW.trod enc Try.prog W 0 sp held n 3 [v2] = some y2 := by have := hf 2 _ rfl; simpa [cellsI] using this
    have g3 : DataW.trod enc Try.prog W 0 sp held n 3 [v3] = some y3 := by have := hf 3 _ rfl; simpa [cellsI] using this
    have g4 : DataW.trod enc Try.prog W 0 sp held n 3 [v4] = some y4 := by have := hf 4 _ rfl; simpa [cellsI] using this
    have g5 : DataW.trod enc Try.prog W 0 sp held n 3 [v5] = some y5 := by have := hf 5 _ rfl; simpa [cellsI] using this
    have g6 : DataW.trod enc Try.prog W 0 sp held n 199 [v6] = some y6 := by have := hf 6 _ rfl; simpa [cells_Recs] using this
    obtain ⟨n0, e0, _, f0⟩ := DataW.trod_int Try.underlying3 g0
    obtain ⟨n1, e1, _, f1⟩ := DataW.trod_int Try.underlying3 g1
    obtain ⟨n2, e2, _, f2⟩ := DataW.trod_int Try.underlying3 g2
    obtain ⟨n3, e3, _, f3⟩ := DataW.trod_int Try.underlying3 g3
    obtain ⟨n4, e4, _, f4⟩ := DataW.trod_int Try.underlying3 g4
    obtain ⟨n5, e5, _, f5⟩ := DataW.trod_int Try.underlying3 g5
    obtain ⟨u6, r6, e6, a6, f6⟩ := open_Recs g6
    simp only [List.cons.injEq, and_true] at e0 e1 e2 e3 e4 e5 e6
    subst e0 e1 e2 e3 e4 e5 e6
    exact ⟨fun q => if q = 0 then .int .i64 n0 else if q = 1 then .int .i64 n1 else if q = 2 then .int .i64 n2 else if q = 3 then .int .i64 n3 else if q = 4 then .int .i64 n4 else if q = 5 then .int .i64 n5 else v6, ⟨n0, n1, n2, n3, n4, n5, r6⟩, rfl, ⟨rfl, rfl, rfl, rfl, rfl, rfl, a6⟩, bounds_i64 f0, bounds_i64 f1, bounds_i64 f2, bounds_i64 f3, bounds_i64 f4, bounds_i64 f5, f6⟩
theorem array_Bat {cs : Array Value} (h : cs.size = 7) : ∃ xa xb xc xd xe xf xg, cs = #[xa, xb, xc, xd, xe, xf, xg] := by
  obtain ⟨l⟩ := cs
  match l, h with
  | [xa, xb, xc, xd, xe, xf, xg], _ => exact ⟨xa, xb, xc, xd, xe, xf, xg, rfl⟩
theorem open_Bat {r0 : Reach} {b0 : Nat} {v : Value} {d : DataW H} {p : List MemPlace} (hv : Value.okWide Try.prog W r0 b0 201 v) (h : DataW.Trod enc Try.prog W 0 sp held 201 v d p) : ∃ u, BatAt W (All W) v u ∧ FineBat u := by
  obtain ⟨cs, rfl, hsz⟩ := okWide_struct Try.underlying201 hv
  rw [cells_Bat] at hsz
  obtain ⟨xa, xb, xc, xd, xe, xf, xg, rfl⟩ := array_Bat hsz
  obtain ⟨fuel, hf⟩ := h
  obtain ⟨f, u, e0, hh, hfi⟩ := open_Bat_cells _ _ _ hf
  simp only [Value.cells, List.cons.injEq, and_true] at e0
  obtain ⟨rfl, rfl, rfl, rfl, rfl, rfl, rfl⟩ := e0
  exact ⟨u, ⟨f, rfl, hh⟩, hfi⟩
theorem cells_Bats : Try.prog.cellsOf 184 = 1 := by kernel_rfl
theorem open_Bats {fuel : Nat} {cs : List Value} {x : DataW H × List MemPlace} (h : DataW.trod enc Try.prog W 0 sp held fuel 184 cs = some x) :
    ∃ (v : Value) (us : List Bat), cs = [v] ∧ LAt 7 EBat W (All W) v us ∧ FineL FineBat us :=
  open_list keepsBat (by omega) Try.underlying184 cells_Bat (fun fuel cs x h => by
    obtain ⟨f, u, rfl, he, hf⟩ := open_Bat_cells fuel cs x h
    refine ⟨f, u, fun q hq => ?_, he, hf⟩
    match q, hq with
    | 0, _ => rfl
    | 1, _ => rfl
    | 2, _ => rfl
    | 3, _ => rfl
    | 4, _ => rfl
    | 5, _ => rfl
    | 6, _ => rfl) h
theorem cells_Sg : Try.prog.cellsOf 186 = 2 := by kernel_rfl
theorem open_Sg_cells (fuel : Nat) (cs : List Value) (x : DataW H × List MemPlace) (h : DataW.trod enc Try.prog W 0 sp held fuel 186 cs = some x) :
    ∃ (f : Nat → Value) (u : Sg), cs = [f 0, f 1] ∧ ESg W (All W) f u ∧ FineSg u := by
  obtain ⟨xs, n, _, _, hl, hxl, hf⟩ := DataW.trod_struct Try.underlying186 h
  rw [cells_Sg] at hl
  match cs, hl with
  | [v0, v1], _ =>
  match xs, hxl with
  | [y0, y1], _ =>
    have g0 : DataW.trod enc Try.prog W 0 sp held n 3 [v0] = some y0 := by have := hf 0 _ rfl; simpa [cellsI] using this
    have g1 : DataW.trod enc Try.prog W 0 sp held n 184 [v1] = some y1 := by have := hf 1 _ rfl; simpa [cells_Bats] using this
    obtain ⟨n0, e0, _, f0⟩ := DataW.trod_int Try.underlying3 g0
    obtain ⟨u1, r1, e1, a1, f1⟩ := open_Bats g1
    simp only [List.cons.injEq, and_true] at e0 e1
    subst e0 e1
    exact ⟨fun q => if q = 0 then .int .i64 n0 else v1, ⟨n0, r1⟩, rfl, ⟨rfl, a1⟩, bounds_i64 f0, f1⟩
theorem array_Sg {cs : Array Value} (h : cs.size = 2) : ∃ xa xb, cs = #[xa, xb] := by
  obtain ⟨l⟩ := cs
  match l, h with
  | [xa, xb], _ => exact ⟨xa, xb, rfl⟩
theorem open_Sg {r0 : Reach} {b0 : Nat} {v : Value} {d : DataW H} {p : List MemPlace} (hv : Value.okWide Try.prog W r0 b0 186 v) (h : DataW.Trod enc Try.prog W 0 sp held 186 v d p) : ∃ u, SgAt W (All W) v u ∧ FineSg u := by
  obtain ⟨cs, rfl, hsz⟩ := okWide_struct Try.underlying186 hv
  rw [cells_Sg] at hsz
  obtain ⟨xa, xb, rfl⟩ := array_Sg hsz
  obtain ⟨fuel, hf⟩ := h
  obtain ⟨f, u, e0, hh, hfi⟩ := open_Sg_cells _ _ _ hf
  simp only [Value.cells, List.cons.injEq, and_true] at e0
  obtain ⟨rfl, rfl⟩ := e0
  exact ⟨u, ⟨f, rfl, hh⟩, hfi⟩
theorem cells_Sgs : Try.prog.cellsOf 108 = 1 := by kernel_rfl
theorem open_Sgs {fuel : Nat} {cs : List Value} {x : DataW H × List MemPlace} (h : DataW.trod enc Try.prog W 0 sp held fuel 108 cs = some x) :
    ∃ (v : Value) (us : List Sg), cs = [v] ∧ LAt 2 ESg W (All W) v us ∧ FineL FineSg us :=
  open_list keepsSg (by omega) Try.underlying108 cells_Sg (fun fuel cs x h => by
    obtain ⟨f, u, rfl, he, hf⟩ := open_Sg_cells fuel cs x h
    refine ⟨f, u, fun q hq => ?_, he, hf⟩
    match q, hq with
    | 0, _ => rfl
    | 1, _ => rfl) h
theorem cells_Lg : Try.prog.cellsOf 110 = 4 := by kernel_rfl
theorem open_Lg_cells (fuel : Nat) (cs : List Value) (x : DataW H × List MemPlace) (h : DataW.trod enc Try.prog W 0 sp held fuel 110 cs = some x) :
    ∃ (f : Nat → Value) (u : Lg), cs = [f 0, f 1, f 2, f 3] ∧ ELg W (All W) f u ∧ FineLg u := by
  obtain ⟨xs, n, _, _, hl, hxl, hf⟩ := DataW.trod_struct Try.underlying110 h
  rw [cells_Lg] at hl
  match cs, hl with
  | [v0, v1, v2, v3], _ =>
  match xs, hxl with
  | [y0, y1, y2, y3], _ =>
    have g0 : DataW.trod enc Try.prog W 0 sp held n 3 [v0] = some y0 := by have := hf 0 _ rfl; simpa [cellsI] using this
    have g1 : DataW.trod enc Try.prog W 0 sp held n 3 [v1] = some y1 := by have := hf 1 _ rfl; simpa [cellsI] using this
    have g2 : DataW.trod enc Try.prog W 0 sp held n 3 [v2] = some y2 := by have := hf 2 _ rfl; simpa [cellsI] using this
    have g3 : DataW.trod enc Try.prog W 0 sp held n 108 [v3] = some y3 := by have := hf 3 _ rfl; simpa [cells_Sgs] using this
    obtain ⟨n0, e0, _, f0⟩ := DataW.trod_int Try.underlying3 g0
    obtain ⟨n1, e1, _, f1⟩ := DataW.trod_int Try.underlying3 g1
    obtain ⟨n2, e2, _, f2⟩ := DataW.trod_int Try.underlying3 g2
    obtain ⟨u3, r3, e3, a3, f3⟩ := open_Sgs g3
    simp only [List.cons.injEq, and_true] at e0 e1 e2 e3
    subst e0 e1 e2 e3
    exact ⟨fun q => if q = 0 then .int .i64 n0 else if q = 1 then .int .i64 n1 else if q = 2 then .int .i64 n2 else v3, ⟨n0, n1, n2, r3⟩, rfl, ⟨rfl, rfl, rfl, a3⟩, bounds_i64 f0, bounds_i64 f1, bounds_i64 f2, f3⟩
theorem array_Lg {cs : Array Value} (h : cs.size = 4) : ∃ xa xb xc xd, cs = #[xa, xb, xc, xd] := by
  obtain ⟨l⟩ := cs
  match l, h with
  | [xa, xb, xc, xd], _ => exact ⟨xa, xb, xc, xd, rfl⟩
theorem open_Lg {r0 : Reach} {b0 : Nat} {v : Value} {d : DataW H} {p : List MemPlace} (hv : Value.okWide Try.prog W r0 b0 110 v) (h : DataW.Trod enc Try.prog W 0 sp held 110 v d p) : ∃ u, LgAt W (All W) v u ∧ FineLg u := by
  obtain ⟨cs, rfl, hsz⟩ := okWide_struct Try.underlying110 hv
  rw [cells_Lg] at hsz
  obtain ⟨xa, xb, xc, xd, rfl⟩ := array_Lg hsz
  obtain ⟨fuel, hf⟩ := h
  obtain ⟨f, u, e0, hh, hfi⟩ := open_Lg_cells _ _ _ hf
  simp only [Value.cells, List.cons.injEq, and_true] at e0
  obtain ⟨rfl, rfl, rfl, rfl⟩ := e0
  exact ⟨u, ⟨f, rfl, hh⟩, hfi⟩
theorem cells_Lgs : Try.prog.cellsOf 22 = 1 := by kernel_rfl
theorem open_Lgs {fuel : Nat} {cs : List Value} {x : DataW H × List MemPlace} (h : DataW.trod enc Try.prog W 0 sp held fuel 22 cs = some x) :
    ∃ (v : Value) (us : List Lg), cs = [v] ∧ LAt 4 ELg W (All W) v us ∧ FineL FineLg us :=
  open_list keepsLg (by omega) Try.underlying22 cells_Lg (fun fuel cs x h => by
    obtain ⟨f, u, rfl, he, hf⟩ := open_Lg_cells fuel cs x h
    refine ⟨f, u, fun q hq => ?_, he, hf⟩
    match q, hq with
    | 0, _ => rfl
    | 1, _ => rfl
    | 2, _ => rfl
    | 3, _ => rfl) h
theorem cells_Txn : Try.prog.cellsOf 112 = 5 := by kernel_rfl
theorem open_Txn_cells (fuel : Nat) (cs : List Value) (x : DataW H × List MemPlace) (h : DataW.trod enc Try.prog W 0 sp held fuel 112 cs = some x) :
    ∃ (f : Nat → Value) (u : Txn), cs = [f 0, f 1, f 2, f 3, f 4] ∧ ETxn W (All W) f u ∧ FineTxn u := by
  obtain ⟨xs, n, _, _, hl, hxl, hf⟩ := DataW.trod_struct Try.underlying112 h
  rw [cells_Txn] at hl
  match cs, hl with
  | [v0, v1, v2, v3, v4], _ =>
  match xs, hxl with
  | [y0, y1, y2, y3, y4], _ =>
    have g0 : DataW.trod enc Try.prog W 0 sp held n 9 [v0] = some y0 := by have := hf 0 _ rfl; simpa [cellsS] using this
    have g1 : DataW.trod enc Try.prog W 0 sp held n 3 [v1] = some y1 := by have := hf 1 _ rfl; simpa [cellsI] using this
    have g2 : DataW.trod enc Try.prog W 0 sp held n 3 [v2] = some y2 := by have := hf 2 _ rfl; simpa [cellsI] using this
    have g3 : DataW.trod enc Try.prog W 0 sp held n 4 [v3] = some y3 := by have := hf 3 _ rfl; simpa [cellsB] using this
    have g4 : DataW.trod enc Try.prog W 0 sp held n 39 [v4] = some y4 := by have := hf 4 _ rfl; simpa [cells_ints] using this
    obtain ⟨n0, e0, _, z0⟩ := DataW.trod_string Try.underlying9 g0
    obtain ⟨n1, e1, _, f1⟩ := DataW.trod_int Try.underlying3 g1
    obtain ⟨n2, e2, _, f2⟩ := DataW.trod_int Try.underlying3 g2
    obtain ⟨n3, e3, _⟩ := DataW.trod_bool Try.underlying4 g3
    obtain ⟨u4, r4, e4, a4, f4⟩ := open_ints g4
    simp only [List.cons.injEq, and_true] at e0 e1 e2 e3 e4
    subst e0 e1 e2 e3 e4
    exact ⟨fun q => if q = 0 then .string n0 else if q = 1 then .int .i64 n1 else if q = 2 then .int .i64 n2 else if q = 3 then .bool n3 else v4, ⟨n0, n1, n2, n3, r4⟩, rfl, ⟨rfl, rfl, rfl, rfl, a4⟩, z0, bounds_i64 f1, bounds_i64 f2, trivial, f4⟩
theorem array_Txn {cs : Array Value} (h : cs.size = 5) : ∃ xa xb xc xd xe, cs = #[xa, xb, xc, xd, xe] := by
  obtain ⟨l⟩ := cs
  match l, h with
  | [xa, xb, xc, xd, xe], _ => exact ⟨xa, xb, xc, xd, xe, rfl⟩
theorem open_Txn {r0 : Reach} {b0 : Nat} {v : Value} {d : DataW H} {p : List MemPlace} (hv : Value.okWide Try.prog W r0 b0 112 v) (h : DataW.Trod enc Try.prog W 0 sp held 112 v d p) : ∃ u, TxnAt W (All W) v u ∧ FineTxn u := by
  obtain ⟨cs, rfl, hsz⟩ := okWide_struct Try.underlying112 hv
  rw [cells_Txn] at hsz
  obtain ⟨xa, xb, xc, xd, xe, rfl⟩ := array_Txn hsz
  obtain ⟨fuel, hf⟩ := h
  obtain ⟨f, u, e0, hh, hfi⟩ := open_Txn_cells _ _ _ hf
  simp only [Value.cells, List.cons.injEq, and_true] at e0
  obtain ⟨rfl, rfl, rfl, rfl, rfl⟩ := e0
  exact ⟨u, ⟨f, rfl, hh⟩, hfi⟩
theorem cells_Txns : Try.prog.cellsOf 23 = 1 := by kernel_rfl
theorem open_Txns {fuel : Nat} {cs : List Value} {x : DataW H × List MemPlace} (h : DataW.trod enc Try.prog W 0 sp held fuel 23 cs = some x) :
    ∃ (v : Value) (us : List Txn), cs = [v] ∧ LAt 5 ETxn W (All W) v us ∧ FineL FineTxn us :=
  open_list keepsTxn (by omega) Try.underlying23 cells_Txn (fun fuel cs x h => by
    obtain ⟨f, u, rfl, he, hf⟩ := open_Txn_cells fuel cs x h
    refine ⟨f, u, fun q hq => ?_, he, hf⟩
    match q, hq with
    | 0, _ => rfl
    | 1, _ => rfl
    | 2, _ => rfl
    | 3, _ => rfl
    | 4, _ => rfl) h
theorem cells_Sto : Try.prog.cellsOf 25 = 3 := by kernel_rfl
theorem open_Sto_cells (fuel : Nat) (cs : List Value) (x : DataW H × List MemPlace) (h : DataW.trod enc Try.prog W 0 sp held fuel 25 cs = some x) :
    ∃ (f : Nat → Value) (u : Sto), cs = [f 0, f 1, f 2] ∧ ESto W (All W) f u ∧ FineSto u := by
  obtain ⟨xs, n, _, _, hl, hxl, hf⟩ := DataW.trod_struct Try.underlying25 h
  rw [cells_Sto] at hl
  match cs, hl with
  | [v0, v1, v2], _ =>
  match xs, hxl with
  | [y0, y1, y2], _ =>
    have g0 : DataW.trod enc Try.prog W 0 sp held n 22 [v0] = some y0 := by have := hf 0 _ rfl; simpa [cells_Lgs] using this
    have g1 : DataW.trod enc Try.prog W 0 sp held n 23 [v1] = some y1 := by have := hf 1 _ rfl; simpa [cells_Txns] using this
    have g2 : DataW.trod enc Try.prog W 0 sp held n 3 [v2] = some y2 := by have := hf 2 _ rfl; simpa [cellsI] using this
    obtain ⟨u0, r0, e0, a0, f0⟩ := open_Lgs g0
    obtain ⟨u1, r1, e1, a1, f1⟩ := open_Txns g1
    obtain ⟨n2, e2, _, f2⟩ := DataW.trod_int Try.underlying3 g2
    simp only [List.cons.injEq, and_true] at e0 e1 e2
    subst e0 e1 e2
    exact ⟨fun q => if q = 0 then v0 else if q = 1 then v1 else .int .i64 n2, ⟨r0, r1, n2⟩, rfl, ⟨a0, a1, rfl⟩, f0, f1, bounds_i64 f2⟩
theorem array_Sto {cs : Array Value} (h : cs.size = 3) : ∃ xa xb xc, cs = #[xa, xb, xc] := by
  obtain ⟨l⟩ := cs
  match l, h with
  | [xa, xb, xc], _ => exact ⟨xa, xb, xc, rfl⟩
theorem open_Sto {r0 : Reach} {b0 : Nat} {v : Value} {d : DataW H} {p : List MemPlace} (hv : Value.okWide Try.prog W r0 b0 25 v) (h : DataW.Trod enc Try.prog W 0 sp held 25 v d p) : ∃ u, StoAt W (All W) v u ∧ FineSto u := by
  obtain ⟨cs, rfl, hsz⟩ := okWide_struct Try.underlying25 hv
  rw [cells_Sto] at hsz
  obtain ⟨xa, xb, xc, rfl⟩ := array_Sto hsz
  obtain ⟨fuel, hf⟩ := h
  obtain ⟨f, u, e0, hh, hfi⟩ := open_Sto_cells _ _ _ hf
  simp only [Value.cells, List.cons.injEq, and_true] at e0
  obtain ⟨rfl, rfl, rfl⟩ := e0
  exact ⟨u, ⟨f, rfl, hh⟩, hfi⟩
end
end Go.Proofs.Ytdhicmbfknagjaa.Ls
