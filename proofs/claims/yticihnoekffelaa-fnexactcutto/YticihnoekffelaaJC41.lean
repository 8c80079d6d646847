/- What the frame tells of a Batch that came in; What the frame tells of Segments and Logs that came in. -/
import Derived.Deep.MidRow
import Derived.Test.YticihnoekffelaaJC40
import Derived.Test.YticihnoekffelaaJC12
namespace Go.Proofs.Yticihnoekffelaa.OpenR
set_option maxRecDepth 8000
open Go.ChangeShapes Go.WideShapes Go.ChangeAt Go.RowKit Go.Deep
open Recs
set_option linter.unusedVariables false
section
variable {H : Type} {enc : TypeId × Value → H} {W : World} {sp : Nat → Bool} {held : Bool}
theorem cellsRS : Try.prog.cellsOf 118 = 1 := by kernel_rfl
theorem cellsBt : Try.prog.cellsOf 120 = 7 := by kernel_rfl

theorem open_recs {fuel : Nat} {cs : List Value} {x : DataW H × List MemPlace} (h : DataW.trod enc Try.prog W 0 sp held fuel 118 cs = some x) :
    ∃ (u : Value) (rs : List Rec), cs = [u] ∧ RecsAt W 0 W.heap.size u rs ∧ rs.length ≤ maxLen ∧ ∀ i, i < rs.length → FineR (rs.getD i default) := by
  rcases open_slice Try.underlying118 h with ⟨rfl, _⟩ | ⟨a, len, cap, m, n, D, Pl, rfl, _, hl, hm, hmm, _, hx⟩
  · exact ⟨_, [], rfl, ⟨fun _ => default, ⟨by simp, none, 0, rfl, .inl rfl⟩, fun i hi => by simp at hi⟩, by simp, fun i hi => by simp at hi⟩
  have hlm : len ≤ m := by rw [hmm]; split <;> omega
  rw [cellsR] at hx
  obtain ⟨f, hf⟩ := choose_lt (α := Rec × Value) (n := len) (p := fun i q => W.cells? 0 (a.add (i * 6)) 6 = some [.int .i64 q.1.time, .bool q.1.keyed, .string q.1.key, .bool q.1.gone, .string q.1.val, q.2] ∧ Heads W 0 W.heap.size q.2 q.1.heads ∧ FineR q.1) (fun i hi => by
    obtain ⟨cs', h1, h2⟩ := hx i (by omega)
    obtain ⟨r, u, rfl, hh, hfi⟩ := open_rec_cells h2
    exact ⟨(r, u), h1, hh, hfi⟩)
  have hlen : ((List.range len).map fun i => (f i).1).length = len := by simp
  have hget : ∀ i, i < len → ((List.range len).map fun i => (f i).1).getD i default = (f i).1 := fun i hi => by simp [hi]
  refine ⟨_, (List.range len).map fun i => (f i).1, rfl, ⟨fun i => (f i).2, ⟨?_, some a, cap, by rw [hlen], ?_⟩, ?_⟩, ?_, ?_⟩
  · rw [hlen]; unfold maxLen at hm; omega
  · by_cases hz : len = 0
    · left; rw [hlen]; exact hz
    · right
      obtain ⟨b, off, spot⟩ := a
      have cell : ∀ i, i < len → ∀ j, j < 6 → W.cell? (((⟨b, off, spot⟩ : Addr).add (i * 6)).add j) = [Value.int .i64 (f i).1.time, .bool (f i).1.keyed, .string (f i).1.key, .bool (f i).1.gone, .string (f i).1.val, (f i).2][j]? := fun i hi j hj => (World.cells?_some (hf i hi).1).2.2 j hj
      have hc := cell 0 (by omega) 0 (by omega)
      have hspot : spot = none := by simpa [Addr.add] using World.cell?_spot (hc.trans rfl)
      subst hspot
      have hlt : b < W.heap.size := by have := World.block_lt_of_cell? W _ (hc.trans rfl); simpa [Addr.add] using this
      refine ⟨b, off, rfl, hlt, by rw [hlen]; exact hl, ?_, Nat.zero_le _⟩
      rw [hlen]
      intro i hi j hj
      have := cell i hi j hj
      rw [add_add, Addr.add_mid, ← Nat.add_assoc] at this
      rw [this]
      unfold recCells
      rw [hget i hi]
      match j, hj with
      | 0, _ => rfl
      | 1, _ => rfl
      | 2, _ => rfl
      | 3, _ => rfl
      | 4, _ => rfl
      | 5, _ => rfl
  · rw [hlen]
    intro i hi
    rw [hget i hi]
    exact (hf i hi).2.1
  · rw [hlen]; omega
  · rw [hlen]
    intro i hi
    rw [hget i hi]
    exact (hf i hi).2.2

theorem array7 {cs : Array Value} (h : cs.size = 7) : ∃ a b c d e f g, cs = #[a, b, c, d, e, f, g] := by
  obtain ⟨l⟩ := cs
  match l, h with
  | [a, b, c, d, e, f, g], _ => exact ⟨a, b, c, d, e, f, g, rfl⟩

theorem open_bat {r0 : Reach} {b0 : Nat} {v : Value} {d : DataW H} {p : List MemPlace} (hv : Value.okWide Try.prog W r0 b0 120 v) (h : DataW.Trod enc Try.prog W 0 sp held 120 v d p) : ∃ t, BatAt W 0 W.heap.size v t ∧ FineB t := by
  obtain ⟨cs, rfl, hsz⟩ := okWide_struct Try.underlying120 hv
  rw [cellsBt] at hsz
  obtain ⟨v0, v1, v2, v3, v4, v5, v6, rfl⟩ := array7 hsz
  obtain ⟨fuel, hf⟩ := h
  obtain ⟨xs, n, _, _, hl, hxl, hf⟩ := DataW.trod_struct Try.underlying120 hf
  match xs, hxl with
  | [y0, y1, y2, y3, y4, y5, y6], _ =>
    have g0 : DataW.trod enc Try.prog W 0 sp held n 3 [v0] = some y0 := by have := hf 0 _ rfl; simpa [Value.cells, cellsI] using this
    have g1 : DataW.trod enc Try.prog W 0 sp held n 3 [v1] = some y1 := by have := hf 1 _ rfl; simpa [Value.cells, cellsI] using this
    have g2 : DataW.trod enc Try.prog W 0 sp held n 3 [v2] = some y2 := by have := hf 2 _ rfl; simpa [Value.cells, cellsI] using this
    have g3 : DataW.trod enc Try.prog W 0 sp held n 3 [v3] = some y3 := by have := hf 3 _ rfl; simpa [Value.cells, cellsI] using this
    have g4 : DataW.trod enc Try.prog W 0 sp held n 3 [v4] = some y4 := by have := hf 4 _ rfl; simpa [Value.cells, cellsI] using this
    have g5 : DataW.trod enc Try.prog W 0 sp held n 3 [v5] = some y5 := by have := hf 5 _ rfl; simpa [Value.cells, cellsI] using this
    have g6 : DataW.trod enc Try.prog W 0 sp held n 118 [v6] = some y6 := by have := hf 6 _ rfl; simpa [Value.cells, cellsRS] using this
    obtain ⟨n0, e0, _, _⟩ := DataW.trod_int Try.underlying3 g0
    obtain ⟨n1, e1, _, _⟩ := DataW.trod_int Try.underlying3 g1
    obtain ⟨n2, e2, _, _⟩ := DataW.trod_int Try.underlying3 g2
    obtain ⟨n3, e3, _, _⟩ := DataW.trod_int Try.underlying3 g3
    obtain ⟨n4, e4, _, _⟩ := DataW.trod_int Try.underlying3 g4
    obtain ⟨n5, e5, _, _⟩ := DataW.trod_int Try.underlying3 g5
    obtain ⟨u, rs, e6, hh, hl6, hf6⟩ := open_recs g6
    simp only [List.cons.injEq, and_true] at e0 e1 e2 e3 e4 e5 e6
    subst e0 e1 e2 e3 e4 e5 e6
    exact ⟨⟨n0, n1, n2, n3, n4, n5, rs⟩, ⟨_, rfl, hh⟩, hl6, hf6⟩
end
end Go.Proofs.Yticihnoekffelaa.OpenR
namespace Go.Proofs.Yticihnoekffelaa.OpenR
set_option maxRecDepth 8000
open Go.ChangeShapes Go.WideShapes Go.ChangeAt Go.RowKit Go.Deep
open Recs Bats SegW Segs LogW
set_option linter.unusedVariables false
section
variable {H : Type} {enc : TypeId × Value → H} {W : World} {sp : Nat → Bool} {held : Bool}
theorem cellsBt2 : Try.prog.cellsOf 120 = 7 := by kernel_rfl
theorem open_bat_cells {fuel : Nat} {cs : List Value} {x : DataW H × List MemPlace} (h : DataW.trod enc Try.prog W 0 sp held fuel 120 cs = some x) :
    ∃ (r : Bat) (u : Value), cs = [.int .i64 r.base, .int .i64 r.epoch, .int .i64 r.producer, .int .i64 r.turn, .int .i64 r.seq, .int .i64 r.flags, u] ∧ RecsAt W 0 W.heap.size u r.recs ∧ FineB r := by
  obtain ⟨xs, n, _, _, hl, hxl, hf⟩ := DataW.trod_struct Try.underlying120 h
  rw [cellsBt2] at hl
  match cs, hl with
  | [v0, v1, v2, v3, v4, v5, v6], _ =>
  match xs, hxl with
  | [y0, y1, y2, y3, y4, y5, y6], _ =>
    have g0 : DataW.trod enc Try.prog W 0 sp held n 3 [v0] = some y0 := by have := hf 0 _ rfl; simpa [cellsI] using this
    have g1 : DataW.trod enc Try.prog W 0 sp held n 3 [v1] = some y1 := by have := hf 1 _ rfl; simpa [cellsI] using this
    have g2 : DataW.trod enc Try.prog W 0 sp held n 3 [v2] = some y2 := by have := hf 2 _ rfl; simpa [cellsI] using this
    have g3 : DataW.trod enc Try.prog W 0 sp held n 3 [v3] = some y3 := by have := hf 3 _ rfl; simpa [cellsI] using this
    have g4 : DataW.trod enc Try.prog W 0 sp held n 3 [v4] = some y4 := by have := hf 4 _ rfl; simpa [cellsI] using this
    have g5 : DataW.trod enc Try.prog W 0 sp held n 3 [v5] = some y5 := by have := hf 5 _ rfl; simpa [cellsI] using this
    have g6 : DataW.trod enc Try.prog W 0 sp held n 118 [v6] = some y6 := by have := hf 6 _ rfl; simpa [cellsRS] using this
    obtain ⟨n0, e0, _, f0⟩ := DataW.trod_int Try.underlying3 g0
    obtain ⟨n1, e1, _, f1⟩ := DataW.trod_int Try.underlying3 g1
    obtain ⟨n2, e2, _, f2⟩ := DataW.trod_int Try.underlying3 g2
    obtain ⟨n3, e3, _, f3⟩ := DataW.trod_int Try.underlying3 g3
    obtain ⟨n4, e4, _, f4⟩ := DataW.trod_int Try.underlying3 g4
    obtain ⟨n5, e5, _, f5⟩ := DataW.trod_int Try.underlying3 g5
    obtain ⟨u, rs, e6, hh, hlN, hfN⟩ := open_recs g6
    simp only [List.cons.injEq, and_true] at e0 e1 e2 e3 e4 e5 e6
    subst e0 e1 e2 e3 e4 e5 e6
    exact ⟨⟨n0, n1, n2, n3, n4, n5, rs⟩, _, rfl, hh, hlN, hfN⟩
theorem cellsBS : Try.prog.cellsOf 82 = 1 := by kernel_rfl
theorem open_bats {fuel : Nat} {cs : List Value} {x : DataW H × List MemPlace} (h : DataW.trod enc Try.prog W 0 sp held fuel 82 cs = some x) :
    ∃ (u : Value) (rs : List Bat), cs = [u] ∧ BatsAt W 0 W.heap.size u rs ∧ rs.length ≤ maxLen ∧ ∀ i, i < rs.length → FineB (rs.getD i default) := by
  rcases open_slice Try.underlying82 h with ⟨rfl, _⟩ | ⟨a, len, cap, m, n, D, Pl, rfl, _, hl, hm, hmm, _, hx⟩
  · exact ⟨_, [], rfl, ⟨fun _ => default, ⟨by simp, none, 0, rfl, .inl rfl⟩, fun i hi => by simp at hi⟩, by simp, fun i hi => by simp at hi⟩
  have hlm : len ≤ m := by rw [hmm]; split <;> omega
  rw [cellsBt2] at hx
  obtain ⟨f, hf⟩ := choose_lt (α := Bat × Value) (n := len) (p := fun i q => W.cells? 0 (a.add (i * 7)) 7 = some [.int .i64 q.1.base, .int .i64 q.1.epoch, .int .i64 q.1.producer, .int .i64 q.1.turn, .int .i64 q.1.seq, .int .i64 q.1.flags, q.2] ∧ RecsAt W 0 W.heap.size q.2 q.1.recs ∧ FineB q.1) (fun i hi => by
    obtain ⟨cs', h1, h2⟩ := hx i (by omega)
    obtain ⟨r, u, rfl, hh, hfi⟩ := open_bat_cells h2
    exact ⟨(r, u), h1, hh, hfi⟩)
  have hlen : ((List.range len).map fun i => (f i).1).length = len := by simp
  have hget : ∀ i, i < len → ((List.range len).map fun i => (f i).1).getD i default = (f i).1 := fun i hi => by simp [hi]
  refine ⟨_, (List.range len).map fun i => (f i).1, rfl, ⟨fun i => (f i).2, ⟨?_, some a, cap, by rw [hlen], ?_⟩, ?_⟩, ?_, ?_⟩
  · rw [hlen]; unfold maxLen at hm; omega
  · by_cases hz : len = 0
    · left; rw [hlen]; exact hz
    · right
      obtain ⟨b, off, spot⟩ := a
      have cell : ∀ i, i < len → ∀ j, j < 7 → W.cell? (((⟨b, off, spot⟩ : Addr).add (i * 7)).add j) = [Value.int .i64 (f i).1.base, .int .i64 (f i).1.epoch, .int .i64 (f i).1.producer, .int .i64 (f i).1.turn, .int .i64 (f i).1.seq, .int .i64 (f i).1.flags, (f i).2][j]? := fun i hi j hj => (World.cells?_some (hf i hi).1).2.2 j hj
      have hc := cell 0 (by omega) 0 (by omega)
      have hspot : spot = none := by simpa [Addr.add] using World.cell?_spot (hc.trans rfl)
      subst hspot
      have hlt : b < W.heap.size := by have := World.block_lt_of_cell? W _ (hc.trans rfl); simpa [Addr.add] using this
      refine ⟨b, off, rfl, hlt, by rw [hlen]; exact hl, ?_, Nat.zero_le _⟩
      rw [hlen]
      intro i hi j hj
      have := cell i hi j hj
      rw [add_add, Addr.add_mid, ← Nat.add_assoc] at this
      rw [this]
      unfold batsCells
      rw [hget i hi]
      match j, hj with
      | 0, _ => rfl
      | 1, _ => rfl
      | 2, _ => rfl
      | 3, _ => rfl
      | 4, _ => rfl
      | 5, _ => rfl
      | 6, _ => rfl
  · rw [hlen]
    intro i hi
    rw [hget i hi]
    exact (hf i hi).2.1
  · rw [hlen]; omega
  · rw [hlen]
    intro i hi
    rw [hget i hi]
    exact (hf i hi).2.2
theorem cellsSg : Try.prog.cellsOf 84 = 2 := by kernel_rfl
theorem open_seg_cells {fuel : Nat} {cs : List Value} {x : DataW H × List MemPlace} (h : DataW.trod enc Try.prog W 0 sp held fuel 84 cs = some x) :
    ∃ (r : Sg) (u : Value), cs = [.int .i64 r.base, u] ∧ BatsAt W 0 W.heap.size u r.bats ∧ FineS r := by
  obtain ⟨xs, n, _, _, hl, hxl, hf⟩ := DataW.trod_struct Try.underlying84 h
  rw [cellsSg] at hl
  match cs, hl with
  | [v0, v1], _ =>
  match xs, hxl with
  | [y0, y1], _ =>
    have g0 : DataW.trod enc Try.prog W 0 sp held n 3 [v0] = some y0 := by have := hf 0 _ rfl; simpa [cellsI] using this
    have g1 : DataW.trod enc Try.prog W 0 sp held n 82 [v1] = some y1 := by have := hf 1 _ rfl; simpa [cellsBS] using this
    obtain ⟨n0, e0, _, f0⟩ := DataW.trod_int Try.underlying3 g0
    obtain ⟨u, rs, e1, hh, hlN, hfN⟩ := open_bats g1
    simp only [List.cons.injEq, and_true] at e0 e1
    subst e0 e1
    exact ⟨⟨n0, rs⟩, _, rfl, hh, ⟨hlN, hfN⟩, bounds_i64 f0⟩
theorem array_open_seg {cs : Array Value} (h : cs.size = 2) : ∃ a b, cs = #[a, b] := by
  obtain ⟨l⟩ := cs
  match l, h with
  | [a, b], _ => exact ⟨a, b, rfl⟩
theorem open_seg {r0 : Reach} {b0 : Nat} {v : Value} {d : DataW H} {p : List MemPlace} (hv : Value.okWide Try.prog W r0 b0 84 v) (h : DataW.Trod enc Try.prog W 0 sp held 84 v d p) : ∃ r, SegAt W 0 W.heap.size v r ∧ FineS r := by
  obtain ⟨cs, rfl, hsz⟩ := okWide_struct Try.underlying84 hv
  rw [cellsSg] at hsz
  obtain ⟨xa, xb, rfl⟩ := array_open_seg hsz
  obtain ⟨fuel, hf⟩ := h
  obtain ⟨r, u, e0, hh, hfi⟩ := open_seg_cells hf
  simp only [Value.cells, List.cons.injEq, and_true] at e0
  obtain ⟨rfl, rfl⟩ := e0
  exact ⟨r, ⟨_, rfl, hh⟩, hfi⟩
theorem cellsSS : Try.prog.cellsOf 22 = 1 := by kernel_rfl
theorem open_segs {fuel : Nat} {cs : List Value} {x : DataW H × List MemPlace} (h : DataW.trod enc Try.prog W 0 sp held fuel 22 cs = some x) :
    ∃ (u : Value) (rs : List Sg), cs = [u] ∧ SegsAt W 0 W.heap.size u rs ∧ rs.length ≤ maxLen ∧ ∀ i, i < rs.length → FineS (rs.getD i default) := by
  rcases open_slice Try.underlying22 h with ⟨rfl, _⟩ | ⟨a, len, cap, m, n, D, Pl, rfl, _, hl, hm, hmm, _, hx⟩
  · exact ⟨_, [], rfl, ⟨fun _ => default, ⟨by simp, none, 0, rfl, .inl rfl⟩, fun i hi => by simp at hi⟩, by simp, fun i hi => by simp at hi⟩
  have hlm : len ≤ m := by rw [hmm]; split <;> omega
  rw [cellsSg] at hx
  obtain ⟨f, hf⟩ := choose_lt (α := Sg × Value) (n := len) (p := fun i q => W.cells? 0 (a.add (i * 2)) 2 = some [.int .i64 q.1.base, q.2] ∧ BatsAt W 0 W.heap.size q.2 q.1.bats ∧ FineS q.1) (fun i hi => by
    obtain ⟨cs', h1, h2⟩ := hx i (by omega)
    obtain ⟨r, u, rfl, hh, hfi⟩ := open_seg_cells h2
    exact ⟨(r, u), h1, hh, hfi⟩)
  have hlen : ((List.range len).map fun i => (f i).1).length = len := by simp
  have hget : ∀ i, i < len → ((List.range len).map fun i => (f i).1).getD i default = (f i).1 := fun i hi => by simp [hi]
  refine ⟨_, (List.range len).map fun i => (f i).1, rfl, ⟨fun i => (f i).2, ⟨?_, some a, cap, by rw [hlen], ?_⟩, ?_⟩, ?_, ?_⟩
  · rw [hlen]; unfold maxLen at hm; omega
  · by_cases hz : len = 0
    · left; rw [hlen]; exact hz
    · right
      obtain ⟨b, off, spot⟩ := a
      have cell : ∀ i, i < len → ∀ j, j < 2 → W.cell? (((⟨b, off, spot⟩ : Addr).add (i * 2)).add j) = [Value.int .i64 (f i).1.base, (f i).2][j]? := fun i hi j hj => (World.cells?_some (hf i hi).1).2.2 j hj
      have hc := cell 0 (by omega) 0 (by omega)
      have hspot : spot = none := by simpa [Addr.add] using World.cell?_spot (hc.trans rfl)
      subst hspot
      have hlt : b < W.heap.size := by have := World.block_lt_of_cell? W _ (hc.trans rfl); simpa [Addr.add] using this
      refine ⟨b, off, rfl, hlt, by rw [hlen]; exact hl, ?_, Nat.zero_le _⟩
      rw [hlen]
      intro i hi j hj
      have := cell i hi j hj
      rw [add_add, Addr.add_mid, ← Nat.add_assoc] at this
      rw [this]
      unfold segsCells
      rw [hget i hi]
      match j, hj with
      | 0, _ => rfl
      | 1, _ => rfl
  · rw [hlen]
    intro i hi
    rw [hget i hi]
    exact (hf i hi).2.1
  · rw [hlen]; omega
  · rw [hlen]
    intro i hi
    rw [hget i hi]
    exact (hf i hi).2.2
theorem cellsLg : Try.prog.cellsOf 24 = 4 := by kernel_rfl
theorem open_log_cells {fuel : Nat} {cs : List Value} {x : DataW H × List MemPlace} (h : DataW.trod enc Try.prog W 0 sp held fuel 24 cs = some x) :
    ∃ (r : Lg) (u : Value), cs = [.int .i64 r.start, .int .i64 r.next, .int .i64 r.roll, u] ∧ SegsAt W 0 W.heap.size u r.segs ∧ FineL r := by
  obtain ⟨xs, n, _, _, hl, hxl, hf⟩ := DataW.trod_struct Try.underlying24 h
  rw [cellsLg] at hl
  match cs, hl with
  | [v0, v1, v2, v3], _ =>
  match xs, hxl with
  | [y0, y1, y2, y3], _ =>
    have g0 : DataW.trod enc Try.prog W 0 sp held n 3 [v0] = some y0 := by have := hf 0 _ rfl; simpa [cellsI] using this
    have g1 : DataW.trod enc Try.prog W 0 sp held n 3 [v1] = some y1 := by have := hf 1 _ rfl; simpa [cellsI] using this
    have g2 : DataW.trod enc Try.prog W 0 sp held n 3 [v2] = some y2 := by have := hf 2 _ rfl; simpa [cellsI] using this
    have g3 : DataW.trod enc Try.prog W 0 sp held n 22 [v3] = some y3 := by have := hf 3 _ rfl; simpa [cellsSS] using this
    obtain ⟨n0, e0, _, f0⟩ := DataW.trod_int Try.underlying3 g0
    obtain ⟨n1, e1, _, f1⟩ := DataW.trod_int Try.underlying3 g1
    obtain ⟨n2, e2, _, f2⟩ := DataW.trod_int Try.underlying3 g2
    obtain ⟨u, rs, e3, hh, hlN, hfN⟩ := open_segs g3
    simp only [List.cons.injEq, and_true] at e0 e1 e2 e3
    subst e0 e1 e2 e3
    exact ⟨⟨n0, n1, n2, rs⟩, _, rfl, hh, hlN, hfN⟩
theorem array_open_log {cs : Array Value} (h : cs.size = 4) : ∃ a b c d, cs = #[a, b, c, d] := by
  obtain ⟨l⟩ := cs
  match l, h with
  | [a, b, c, d], _ => exact ⟨a, b, c, d, rfl⟩
theorem open_log {r0 : Reach} {b0 : Nat} {v : Value} {d : DataW H} {p : List MemPlace} (hv : Value.okWide Try.prog W r0 b0 24 v) (h : DataW.Trod enc Try.prog W 0 sp held 24 v d p) : ∃ r, LogAt W 0 W.heap.size v r ∧ FineL r := by
  obtain ⟨cs, rfl, hsz⟩ := okWide_struct Try.underlying24 hv
  rw [cellsLg] at hsz
  obtain ⟨xa, xb, xc, xd, rfl⟩ := array_open_log hsz
  obtain ⟨fuel, hf⟩ := h
  obtain ⟨r, u, e0, hh, hfi⟩ := open_log_cells hf
  simp only [Value.cells, List.cons.injEq, and_true] at e0
  obtain ⟨rfl, rfl, rfl, rfl⟩ := e0
  exact ⟨r, ⟨_, rfl, hh⟩, hfi⟩
end
end Go.Proofs.Yticihnoekffelaa.OpenR
