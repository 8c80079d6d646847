/- Lists of lists of Slot: what stands in memory. -/
import Derived.Test.YtfdfhhiaalbfiaaTSlts
namespace Go.Proofs.Ytfdfhhiaalbfiaa.Ls
set_option maxRecDepth 8000
open Go.RowKit
open Recs
set_option linter.unusedVariables false
def ESlt2 : Elt (List Slt) := fun w S f u => LAt 2 ESlt w S (f 0) u
theorem keepsSlt2 : Keeps 1 ESlt2 := fun w w' S f f' t h hk hf => by show LAt _ _ _ _ (f' 0) _; rw [hf 0 (by omega)]; exact LAt.keep keepsSlt h hk
theorem growsSlt2 : Grows ESlt2 := fun w S S' f t h hs => LAt.mono growsSlt h hs
theorem infoZSlt2 : (Try.prog.info? 65).map (fun i => (i.zero, i.size, i.bytes)) = some (some (.slice none 0 0), 1, 24) := by kernel_rfl
theorem cells1 {w : World} {g o n : Nat} {F : Nat → Nat → Value} (h : ∀ i, i < n → ∀ j, j < 1 → w.cell? ⟨g, o + i * 1 + j, none⟩ = some (F i j)) : ∀ i, i < n → w.cell? ⟨g, o + i, none⟩ = some (F i 0) := fun i hi => by
  have := h i hi 0 (by omega)
  rw [show o + i * 1 + 0 = o + i by omega] at this
  exact this
end Go.Proofs.Ytfdfhhiaalbfiaa.Ls
