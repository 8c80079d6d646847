/- What the frame tells of Entries that came in: as plain data that lie in memory. -/
import Derived.Test.YtnbecgngghjfkaaEnt
import Derived.Test.YtnbecgngghjfkaaRows
import Derived.ProofKit
import Derived.Deep.SlicePairs
import Derived.Deep.MidRow
namespace Go.Proofs.Ytnbecgngghjfkaa.OpenE
set_option maxRecDepth 8000
open Go.ChangeShapes Go.WideShapes Go.ChangeAt Go.RowKit Go.Deep
open Ent
set_option linter.unusedVariables false
section
variable {H : Type} {enc : TypeId × Value → H} {W : World} {sp : Nat → Bool} {held : Bool}
theorem cellsE : Try.prog.cellsOf 44 = 3 := by kernel_rfl
theorem cellsI : Try.prog.cellsOf 3 = 1 := by kernel_rfl
theorem open_entry_cells {fuel : Nat} {cs : List Value} {x : DataW H × List MemPlace} (h : DataW.trod enc Try.prog W 0 sp held fuel 44 cs = some x) :
    ∃ r : En, cs = [.int .i64 r.off, .int .i64 r.time, .int .i64 r.place] := by
  obtain ⟨xs, n, _, _, hl, hxl, hf⟩ := DataW.trod_struct Try.underlying44 h
  rw [cellsE] at hl
  match cs, hl with
  | [v0, v1, v2], _ =>
  match xs, hxl with
  | [y0, y1, y2], _ =>
    have g0 : DataW.trod enc Try.prog W 0 sp held n 3 [v0] = some y0 := by have := hf 0 _ rfl; simpa [cellsI] using this
    have g1 : DataW.trod enc Try.prog W 0 sp held n 3 [v1] = some y1 := by have := hf 1 _ rfl; simpa [cellsI] using this
    have g2 : DataW.trod enc Try.prog W 0 sp held n 3 [v2] = some y2 := by have := hf 2 _ rfl; simpa [cellsI] using this
    obtain ⟨a, e0, _, _⟩ := DataW.trod_int Try.underlying3 g0
    obtain ⟨b, e1, _, _⟩ := DataW.trod_int Try.underlying3 g1
    obtain ⟨c, e2, _, _⟩ := DataW.trod_int Try.underlying3 g2
    simp only [List.cons.injEq, and_true] at e0 e1 e2
    subst e0 e1 e2
    exact ⟨⟨a, b, c⟩, rfl⟩
theorem open_entries {fuel : Nat} {cs : List Value} {x : DataW H × List MemPlace} (h : DataW.trod enc Try.prog W 0 sp held fuel 29 cs = some x) :
    ∃ (u : Value) (es : List En), cs = [u] ∧ Ens W 0 W.heap.size u es := by
  rcases open_slice Try.underlying29 h with ⟨rfl, _⟩ | ⟨a, len, cap, m, n, D, Pl, rfl, _, hl, hm, hmm, _, hx⟩
  · exact ⟨_, [], rfl, by simp, none, 0, rfl, .inl rfl⟩
  have hlm : len ≤ m := by rw [hmm]; split <;> omega
  rw [cellsE] at hx
  obtain ⟨f, hf⟩ := choose_lt (α := En) (n := len) (p := fun i q => W.cells? 0 (a.add (i * 3)) 3 = some [.int .i64 q.off, .int .i64 q.time, .int .i64 q.place]) (fun i hi => by
    obtain ⟨cs', h1, h2⟩ := hx i (by omega)
    obtain ⟨r, rfl⟩ := open_entry_cells h2
    exact ⟨r, h1⟩)
  have hlen : ((List.range len).map f).length = len := by simp
  have hget : ∀ i, i < len → ((List.range len).map f).getD i default = f i := fun i hi => by simp [hi]
  refine ⟨_, (List.range len).map f, rfl, ?_, some a, cap, by rw [hlen], ?_⟩
  · rw [hlen]; unfold maxLen at hm; omega
  · by_cases hz : len = 0
    · left; rw [hlen]; exact hz
    · right
      obtain ⟨b, off, spot⟩ := a
      have cell : ∀ i, i < len → ∀ j, j < 3 → W.cell? (((⟨b, off, spot⟩ : Addr).add (i * 3)).add j) = [Value.int .i64 (f i).off, .int .i64 (f i).time, .int .i64 (f i).place][j]? := fun i hi j hj => (World.cells?_some (hf i hi)).2.2 j hj
      have hc := cell 0 (by omega) 0 (by omega)
      have hspot : spot = none := by simpa [Addr.add] using World.cell?_spot (hc.trans rfl)
      subst hspot
      have hlt : b < W.heap.size := by have := World.block_lt_of_cell? W _ (hc.trans rfl); simpa [Addr.add] using this
      refine ⟨b, off, rfl, hlt, by rw [hlen]; exact hl, ?_, Nat.zero_le _⟩
      rw [hlen]
      intro i hi j hj
      have := cell i hi j hj
      rw [add_add, Addr.add_mid, ← Nat.add_assoc] at this
      rw [this]
      unfold enCells
      rw [hget i hi]
      match j, hj with
      | 0, _ => rfl
      | 1, _ => rfl
      | 2, _ => rfl
theorem open_es {v : Value} {d : DataW H} {p : List MemPlace} (h : DataW.Trod enc Try.prog W 0 sp held 29 v d p) (hv : ∃ A n c, v = .slice A n c) : ∃ es, Ens W 0 W.heap.size v es := by
  obtain ⟨A, n, c, rfl⟩ := hv
  obtain ⟨fuel, hf⟩ := h
  obtain ⟨u, es, e, hh⟩ := open_entries hf
  simp only [Value.cells, List.cons.injEq, and_true] at e
  subst e
  exact ⟨es, hh⟩
end
end Go.Proofs.Ytnbecgngghjfkaa.OpenE
