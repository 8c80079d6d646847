/- A row of numbers of the call's own: opened, its cells written, its end taken away. -/
import Derived.Test.YtclkcnkjjoolcaaLsI
import Derived.Test.YtclkcnkjjoolcaaLsP
import Derived.WalkSmall
namespace Go.Proofs.Ytclkcnkjjoolcaa.RkP
set_option maxRecDepth 8000
open Go.RowKit
open Ls Lp
set_option linter.unusedVariables false
abbrev NRow (w : World) (B : Nat) (v : Value) (ns : List Int) : Prop := w.ownsRow B 3 1 v ns.length (ns.map (Value.int .i64))
theorem NRow.keep {w w' : World} {B : Nat} {v : Value} {ns : List Int} (h : NRow w B v ns) (hb : Below w.heap.size w w') : NRow w' B v ns := by
  refine ⟨h.1, ?_⟩
  rcases h.2 with ⟨h1, h2⟩ | ⟨g, cap, cur, h1, hb', hg, r⟩
  · exact .inl ⟨h1, h2⟩
  · exact .inr ⟨g, cap, cur, h1, hb', (hb.block g (Array.getElem?_eq_some_iff.1 hg).1).trans hg, r⟩
theorem NRow.open {w : World} {B : Nat} {v : Value} {ns : List Int} (h : NRow w B v ns) (h0 : 0 < ns.length) : ∃ g cap, v = .slice (some ⟨g, 0, none⟩) ns.length cap ∧ B ≤ g ∧ g < w.heap.size ∧ (∀ i, i < ns.length → w.cell? ⟨g, i, none⟩ = some (.int .i64 (ns.getD i 0))) ∧ (∀ i, w.frozen? ⟨g, i, none⟩ = false) ∧ ns.length ≤ cap := by
  rcases h.2 with ⟨h1, h2⟩ | ⟨g, cap, cur, h1, hb', hg, hnc, hcm, hcs, htake⟩
  · omega
  · subst h1
    refine ⟨g, cap, rfl, hb', (Array.getElem?_eq_some_iff.1 hg).1, fun i hi => ?_, fun i => frozen_of_row w g i _ _ hg, by simpa using hnc⟩
    have := World.ownsRow.cellAt h i (by simpa using hi)
    rw [this]
    simp [hi]
theorem NRow.put {w : World} {B : Nat} {v : Value} {ns : List Int} {a : Int} (h : w.ownsRow B 3 1 v (ns.length + 1) (ns.map (Value.int .i64) ++ [Value.int .i64 a])) : NRow w B v (ns ++ [a]) := by
  unfold NRow
  rw [List.length_append, List.length_singleton, List.map_append]
  exact h
theorem NRow.set {w : World} {B g cap j : Nat} {ns : List Int} {a : Int} (h : NRow w B (.slice (some ⟨g, 0, none⟩) ns.length cap) ns) (hj : j < ns.length) : NRow (w.setCell ⟨g, j, none⟩ (.int .i64 a)) B (.slice (some ⟨g, 0, none⟩) ns.length cap) (ns.set j a) := by
  rcases h.2 with ⟨h1, h2⟩ | ⟨g', cap', cur, h1, hb', hg, hnc, hcm, hcs, htake⟩
  · omega
  · cases h1
    refine ⟨by simp, .inr ⟨g, cap, cur.setIfInBounds j (.int .i64 a), by simp, hb', heap_setCell_same w g j cur _ (.int .i64 a) hg, by simpa using hnc, hcm, by simpa using hcs, ?_⟩⟩
    simp only [List.length_set]
    rw [Array.toList_setIfInBounds, List.take_set, htake, List.map_set]
theorem NRow.pop {w : World} {B g cap n : Nat} {ns : List Int} (hn : ns.length = n + 1) (h : NRow w B (.slice (some ⟨g, 0, none⟩) ns.length cap) ns) : NRow w B (.slice (some ⟨g, 0, none⟩) n cap) (ns.take n) := by
  have e : ns.map (Value.int .i64) = (ns.take n).map (Value.int .i64) ++ (ns.drop n).map (Value.int .i64) := by rw [← List.map_append, List.take_append_drop]
  unfold NRow at *
  rw [hn, e] at h
  have hl : (ns.take n).length = n := by rw [List.length_take]; omega
  rw [hl]
  exact Go.ownsRow_pop (by rw [List.length_map, hl]; omega) h
end Go.Proofs.Ytclkcnkjjoolcaa.RkP
