/- Lists of lists of Int: what the law's helpers answer; Lists of lists of Int of the call's own; the law's marks on them. -/
import Derived.Test.YtkohhcjpjloaaaaJW24
import Derived.Test.YtkohhcjpjloaaaaJW33
namespace Go.Proofs.Ytkohhcjpjloaaaa.Ls
set_option maxRecDepth 8000
open Go.RowKit
open Recs
set_option linter.unusedVariables false
def EI2 : Elt (List Int) := fun w S f u => LAt 1 EI w S (f 0) u
theorem keepsI2 : Keeps 1 EI2 := fun w w' S f f' t h hk hf => by show LAt _ _ _ _ (f' 0) _; rw [hf 0 (by omega)]; exact LAt.keep keepsI h hk
theorem growsI2 : Grows EI2 := fun w S S' f t h hs => LAt.mono growsI h hs
theorem infoZI2 : (Try.prog.info? 29).map (fun i => (i.zero, i.size, i.bytes)) = some (some (.slice none 0 0), 1, 24) := by kernel_rfl
theorem cells1i {w : World} {g o n : Nat} {F : Nat → Nat → Value} (h : ∀ i, i < n → ∀ j, j < 1 → w.cell? ⟨g, o + i * 1 + j, none⟩ = some (F i j)) : ∀ i, i < n → w.cell? ⟨g, o + i, none⟩ = some (F i 0) := fun i hi => by
  have := h i hi 0 (by omega)
  rw [show o + i * 1 + 0 = o + i by omega] at this
  exact this
end Go.Proofs.Ytkohhcjpjloaaaa.Ls
namespace Go.Proofs.Ytkohhcjpjloaaaa.Ow
set_option maxRecDepth 8000
open Go.RowKit
open Recs
open Ls
set_option linter.unusedVariables false
def EOI2 : Elt (List Int) := fun w S f u => IntsOwn w S (f 0) u
theorem keepsOI2 : KeepsO 1 EOI2 := fun w w' S f f' t h hs hk hf => by
  show IntsOwn w' S (f' 0) t
  rw [hf 0 (by omega)]
  exact LOwn.keep keepsOI h hs hk
theorem atOI2 (w : World) (S : Nat → Prop) (f : Nat → Value) (u : List Int) (h : EOI2 w S f u) : EI2 w S f u := LOwn.lat growsI (fun _ _ _ _ h => h) h
abbrev I2sOwn := LOwn 29 1 EOI2
def mI2 (k : Nat) (u : List Int) : List Int := mL mI nI k u
def nI2 (u : List Int) : Nat := tot nI u
end Go.Proofs.Ytkohhcjpjloaaaa.Ow
