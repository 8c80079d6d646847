/- Lists of lists of Arrival: what the law's helpers answer; Columns that an expression sees, the place of a source: plain. -/
import Derived.Test.YtkohhcjpjloaaaaJW28
import Derived.Test.YtkohhcjpjloaaaaJW08
import Derived.Test.YtkohhcjpjloaaaaJW13
namespace Go.Proofs.Ytkohhcjpjloaaaa.Ls
set_option maxRecDepth 8000
open Go.RowKit
open Recs
set_option linter.unusedVariables false
def EArr2 : Elt (List Arr) := fun w S f u => LAt 3 EArr w S (f 0) u
theorem keepsArr2 : Keeps 1 EArr2 := fun w w' S f f' t h hk hf => by show LAt _ _ _ _ (f' 0) _; rw [hf 0 (by omega)]; exact LAt.keep keepsArr h hk
theorem growsArr2 : Grows EArr2 := fun w S S' f t h hs => LAt.mono growsArr h hs
theorem cells1 {w : World} {g o n : Nat} {F : Nat → Nat → Value} (h : ∀ i, i < n → ∀ j, j < 1 → w.cell? ⟨g, o + i * 1 + j, none⟩ = some (F i j)) : ∀ i, i < n → w.cell? ⟨g, o + i, none⟩ = some (F i 0) := fun i hi => by
  have := h i hi 0 (by omega)
  rw [show o + i * 1 + 0 = o + i by omega] at this
  exact this
end Go.Proofs.Ytkohhcjpjloaaaa.Ls
namespace Go.Proofs.Ytkohhcjpjloaaaa.QuP
set_option maxRecDepth 8000
open Go.RowKit
open Ls Lp QyP QsP QtP
set_option linter.unusedVariables false
def see (cols : List ByteArray) (s : Stp) : Bool := !decide (s.op = 2) || hasT cols s.name
def sees (l : List Stp) (cols : List ByteArray) : Bool := l.all (see cols)
/-- The first source of that name, -1: none. -/
def srcAt (l : List Src) (n : ByteArray) : Int := match l.findIdx? fun s => s.name.toList == n.toList with
  | none => -1
  | some i => i
theorem src_hit {l : List Src} {n : ByteArray} {k : Nat} (hk : k < l.length) (h : ∀ j, j < k → ((l.getD j default).name.toList == n.toList) = false) (hb : ((l.getD k default).name.toList == n.toList) = true) : srcAt l n = k := by
  unfold srcAt
  have : l.findIdx? (fun s => s.name.toList == n.toList) = some k := by
    rw [List.findIdx?_eq_some_iff_getElem]
    refine ⟨hk, by simpa [hk] using hb, fun j hj => ?_⟩
    have h1 := h j hj
    have hj' : j < l.length := by omega
    simp [hj'] at h1
    simpa using h1
  rw [this]
theorem src_miss {l : List Src} {n : ByteArray} (h : ∀ j, j < l.length → ((l.getD j default).name.toList == n.toList) = false) : srcAt l n = -1 := by
  unfold srcAt
  have : l.findIdx? (fun s => s.name.toList == n.toList) = none := by
    rw [List.findIdx?_eq_none_iff]
    intro s hs
    obtain ⟨j, hj, rfl⟩ := List.mem_iff_getElem.1 hs
    have h1 := h j hj
    simpa [hj] using h1
  rw [this]
end Go.Proofs.Ytkohhcjpjloaaaa.QuP
