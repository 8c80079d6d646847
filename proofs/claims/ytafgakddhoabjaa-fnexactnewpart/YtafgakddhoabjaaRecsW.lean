/- What the law's helpers over a list of Records answer. -/
import Derived.Test.YtafgakddhoabjaaRecW
namespace Go.Proofs.Ytafgakddhoabjaa.RecsW
set_option maxRecDepth 8000
open Go.RowKit
open Recs
set_option linter.unusedVariables false

/-- The six cells of element i. -/
theorem six {w : World} {g o n : Nat} {rs : List Rec} {H : Nat → Value} (h : ∀ i, i < n → ∀ j, j < 6 → w.cell? ⟨g, o + i * 6 + j, none⟩ = some (recCells rs H i j)) (i : Nat) (hi : i < n) :
    w.cell? ⟨g, o + i * 6, none⟩ = some (.int .i64 (rs.getD i default).time) ∧ w.cell? ⟨g, o + i * 6 + 1, none⟩ = some (.bool (rs.getD i default).keyed) ∧ w.cell? ⟨g, o + i * 6 + 2, none⟩ = some (.string (rs.getD i default).key) ∧
    w.cell? ⟨g, o + i * 6 + 3, none⟩ = some (.bool (rs.getD i default).gone) ∧ w.cell? ⟨g, o + i * 6 + 4, none⟩ = some (.string (rs.getD i default).val) ∧ w.cell? ⟨g, o + i * 6 + 5, none⟩ = some (H i) :=
  ⟨h i hi 0 (by omega), h i hi 1 (by omega), h i hi 2 (by omega), h i hi 3 (by omega), h i hi 4 (by omega), h i hi 5 (by omega)⟩
/-- .. in a later world. -/
theorem six' {w w' : World} {g o n : Nat} {rs : List Rec} {H : Nat → Value} (h : ∀ i, i < n → ∀ j, j < 6 → w.cell? ⟨g, o + i * 6 + j, none⟩ = some (recCells rs H i j)) (hb : Below w.heap.size w w') (hg : g < w.heap.size) :
    ∀ i, i < n → ∀ j, j < 6 → w'.cell? ⟨g, o + i * 6 + j, none⟩ = some (recCells rs H i j) := fun i hi j hj => by rw [hb.cell (p := ⟨g, o + i * 6 + j, none⟩) hg]; exact h i hi j hj

end Go.Proofs.Ytafgakddhoabjaa.RecsW
