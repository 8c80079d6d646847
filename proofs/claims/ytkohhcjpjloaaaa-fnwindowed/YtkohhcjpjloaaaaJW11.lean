/- Lists of texts: how they lie; Lists of texts: what the law's helpers answer. -/
import Derived.Test.YtkohhcjpjloaaaaJW04
namespace Go.Proofs.Ytkohhcjpjloaaaa.Ls
set_option maxRecDepth 8000
open Go.RowKit
open Recs
set_option linter.unusedVariables false
def EStr : Elt ByteArray := fun _ _ f n => f 0 = .string n
theorem keepsStr : Keeps 1 EStr := fun w w' S f f' t h hk hf => by show f' 0 = _; rw [hf 0 (by omega)]; exact h
theorem growsStr : Grows EStr := fun w S S' f t h hs => h
abbrev StrsAt := LAt 1 EStr
theorem str_cell {w : World} {S : Nat → Prop} {g o n : Nat} {ns : List ByteArray} {F : Nat → Nat → Value} (h : ∀ i, i < n → ∀ j, j < 1 → w.cell? ⟨g, o + i * 1 + j, none⟩ = some (F i j)) (he : ∀ i, i < n → EStr w S (F i) (ns.getD i default)) : ∀ i, i < n → w.cell? ⟨g, o + i, none⟩ = some (.string (ns.getD i default)) := fun i hi => by
  have := h i hi 0 (by omega)
  rw [show o + i * 1 + 0 = o + i by omega] at this
  rw [this, show F i 0 = .string (ns.getD i default) from he i hi]
def FineStr (s : ByteArray) : Prop := s.size ≤ maxLen
end Go.Proofs.Ytkohhcjpjloaaaa.Ls
namespace Go.Proofs.Ytkohhcjpjloaaaa.Ls
set_option maxRecDepth 8000
open Go.RowKit
open Recs
set_option linter.unusedVariables false
theorem infoStr : (Try.prog.info? 9).map (fun i => (i.zero, i.size, i.bytes)) = some (some (.string ByteArray.empty), 1, 16) := by kernel_rfl
end Go.Proofs.Ytkohhcjpjloaaaa.Ls
