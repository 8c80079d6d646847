/- A still group, on plain data. -/
import Derived.Test.YtfdfhhiaalbfiaaGpP
namespace Go.Proofs.Ytfdfhhiaalbfiaa.StlP
set_option maxRecDepth 8000
open Go.RowKit
open Ls Lp WnP GpP
set_option linter.unusedVariables false
def sameL : List Slt → List Slt → Bool
  | [], [] => true
  | x :: a, y :: b => sameS x y && sameL a b
  | _, _ => false
theorem sameL_len : ∀ a b : List Slt, a.length ≠ b.length → sameL a b = false
  | [], [], h => absurd rfl h
  | [], _ :: _, _ => rfl
  | _ :: _, [], _ => rfl
  | x :: a, y :: b, h => by
    simp only [sameL]
    rw [sameL_len a b (by simpa using h)]
    simp
theorem sameL_step {a b : List Slt} {k : Nat} (h1 : k < a.length) (h2 : k < b.length) : sameL (a.drop k) (b.drop k) = (sameS (a.getD k default) (b.getD k default) && sameL (a.drop (k + 1)) (b.drop (k + 1))) := by
  rw [drop_cons h1, drop_cons h2]; rfl
def stm (m : Mbr) : Bool := sameL m.owns m.target
def still (g : Grp) : Bool := groupOk g && g.members.all stm
theorem all_step {T : Type} [Inhabited T] (p : T → Bool) {l : List T} {k : Nat} (h : k < l.length) : (l.drop k).all p = (p (l.getD k default) && (l.drop (k + 1)).all p) := by
  rw [drop_cons h]; rfl
end Go.Proofs.Ytfdfhhiaalbfiaa.StlP
