/- The answer of an Expand, and what is out so far. -/
import Derived.Test.YtbilpicolfpoaaaExpM
namespace Go.Proofs.Ytbilpicolfpoaaa.ExpS
open Go.RowKit
open Seg (B)
set_option linter.unusedVariables false

/-- What is out so far, in memory of its own. -/
structure Out (w wr : World) (v : Value) (out : List Int) : Prop where
  own : wr.ownsRow w.heap.size 5 1 v out.length (B out)
  bl : Below w.heap.size w wr
theorem Out.drew {w wr : World} {v : Value} {out : List Int} (h : Out w wr v out) : Out w wr.drew v out := ⟨h.own, h.bl.drew⟩
theorem Out.push {w wr w1 : World} {v v' : Value} {out new : List Int} {k : Nat} (h : Out w wr v out) (ho : w1.ownsRow w.heap.size 5 1 v' (out.length + k) (B out ++ B new)) (hk : new.length = k) (hg : wr.grownBy w1 v.ownBlock) : Out w w1 v' (out ++ new) :=
  ⟨by subst hk; simpa [B] using ho, h.bl.grown hg h.bl.size (fun j hj => (h.own.lt j hj).1)⟩
theorem Out.alloc {w wr : World} {v : Value} {out : List Int} (h : Out w wr v out) (o : Obj) : Out w (wr.alloc o) v out := ⟨h.own.alloc o, h.bl.alloc h.bl.size o⟩

/-- The answer: a new list and true, or an empty one and false. -/
def Ans (w : World) (r : Option (List Int)) (e : Ending) (w' : World) : Prop :=
  match r with
  | none => ∃ g, e = .returned (.tuple #[.slice (some ⟨g, 0, none⟩) 0 0, .bool false]) ∧ w'.ownsRow w.heap.size 5 1 (.slice (some ⟨g, 0, none⟩) 0 0) 0 (B []) ∧ Below w.heap.size w w'
  | some out => ∃ g cap, e = .returned (.tuple #[.slice (some ⟨g, 0, none⟩) out.length cap, .bool true]) ∧ w'.ownsRow w.heap.size 5 1 (.slice (some ⟨g, 0, none⟩) out.length cap) out.length (B out) ∧ Below w.heap.size w w'

end Go.Proofs.Ytbilpicolfpoaaa.ExpS
