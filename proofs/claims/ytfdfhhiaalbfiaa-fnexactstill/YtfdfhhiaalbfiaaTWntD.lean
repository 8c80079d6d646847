/- Want: how it lies in memory. -/
import Derived.Test.YtfdfhhiaalbfiaaLsT
import Derived.Test.YtfdfhhiaalbfiaaTSlts
namespace Go.Proofs.Ytfdfhhiaalbfiaa.Ls
set_option maxRecDepth 8000
open Go.RowKit
open Recs
set_option linter.unusedVariables false
structure Wnt where
  name : ByteArray
  wants : List ByteArray
  has : List Slt
  deriving Inhabited
def EWnt : Elt Wnt := fun w S f u => f 0 = .string u.name ∧ StrsAt w S (f 1) u.wants ∧ LAt 2 ESlt w S (f 2) u.has
theorem keepsWnt : Keeps 3 EWnt := fun w w' S f f' t h hk hf => by
  obtain ⟨h0, h1, h2⟩ := h
  exact ⟨by rw [hf 0 (by omega)]; exact h0, by rw [hf 1 (by omega)]; exact h1.keep keepsStr hk, by rw [hf 2 (by omega)]; exact h2.keep keepsSlt hk⟩
theorem growsWnt : Grows EWnt := fun w S S' f t h hs => by
  obtain ⟨h0, h1, h2⟩ := h
  exact ⟨h0, h1.mono growsStr hs, h2.mono growsSlt hs⟩
def arrWnt (f : Nat → Value) : Array Value := #[f 0, f 1, f 2]
theorem oneWnt {w : World} {S : Nat → Prop} {f : Nat → Value} {u : Wnt} (h : EWnt w S f u) : (arrWnt f).all (·.oneCell') = true := by
  obtain ⟨h0, h1, h2⟩ := h
  have o0 : (f 0).oneCell' = true := by rw [h0]; rfl
  have o1 : (f 1).oneCell' = true := h1.one
  have o2 : (f 2).oneCell' = true := h2.one
  simp [arrWnt, o0, o1, o2]
def WntAt (w : World) (S : Nat → Prop) (v : Value) (u : Wnt) : Prop := ∃ f, v = .agg (arrWnt f) ∧ EWnt w S f u
abbrev WntsAt := LAt 3 EWnt
theorem WntAt.keep {w w' : World} {S : Nat → Prop} {v : Value} {u : Wnt} (h : WntAt w S v u) (hk : ∀ g, S g → w'.heap[g]? = w.heap[g]?) : WntAt w' S v u := by
  obtain ⟨f, h1, h2⟩ := h
  exact ⟨f, h1, keepsWnt _ _ _ _ _ _ h2 hk (fun _ _ => rfl)⟩
theorem WntAt.mono {w : World} {S S' : Nat → Prop} {v : Value} {u : Wnt} (h : WntAt w S v u) (hs : ∀ g, S g → S' g) : WntAt w S' v u := by
  obtain ⟨f, h1, h2⟩ := h
  exact ⟨f, h1, growsWnt _ _ _ _ _ h2 hs⟩
theorem WntAt.below {w w' : World} {B : Nat} {S : Nat → Prop} {v : Value} {u : Wnt} (h : WntAt w S v u) (hb : Below B w w') (hs : ∀ g, S g → g < B) : WntAt w' S v u := h.keep fun g hg => hb.block g (hs g hg)
def szWnt (u : Wnt) : Nat := u.name.size + szL ByteArray.size (u.wants) + szL szSlt (u.has)
def FineWnt (u : Wnt) : Prop := u.name.size ≤ maxLen ∧ FineL FineStr u.wants ∧ FineL FineSlt u.has
theorem infoWnt : (Try.prog.info? 157).map (·.size) = some 3 := by kernel_rfl
theorem infoZWnt : (Try.prog.info? 157).map (fun i => (i.zero, i.size, i.bytes)) = some (some (.agg #[.string ByteArray.empty, .slice none 0 0, .slice none 0 0]), 3, 64) := by kernel_rfl
end Go.Proofs.Ytfdfhhiaalbfiaa.Ls
