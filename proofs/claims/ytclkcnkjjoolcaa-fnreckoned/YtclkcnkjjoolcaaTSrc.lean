/- Source: how it lies in memory; what the law's measure and copier answer. -/
import Derived.Test.YtclkcnkjjoolcaaLsT
namespace Go.Proofs.Ytclkcnkjjoolcaa.Ls
set_option maxRecDepth 8000
open Go.RowKit
open Recs
set_option linter.unusedVariables false
structure Src where
  name : ByteArray
  tab : Bool
  cols : List ByteArray
  deriving Inhabited
def ESrc : Elt Src := fun w S f u => f 0 = .string u.name ∧ f 1 = .bool u.tab ∧ StrsAt w S (f 2) u.cols
theorem keepsSrc : Keeps 3 ESrc := fun w w' S f f' t h hk hf => by
  obtain ⟨h0, h1, h2⟩ := h
  exact ⟨by rw [hf 0 (by omega)]; exact h0, by rw [hf 1 (by omega)]; exact h1, by rw [hf 2 (by omega)]; exact h2.keep keepsStr hk⟩
theorem growsSrc : Grows ESrc := fun w S S' f t h hs => by
  obtain ⟨h0, h1, h2⟩ := h
  exact ⟨h0, h1, h2.mono growsStr hs⟩
def arrSrc (f : Nat → Value) : Array Value := #[f 0, f 1, f 2]
theorem oneSrc {w : World} {S : Nat → Prop} {f : Nat → Value} {u : Src} (h : ESrc w S f u) : (arrSrc f).all (·.oneCell') = true := by
  obtain ⟨h0, h1, h2⟩ := h
  have o0 : (f 0).oneCell' = true := by rw [h0]; rfl
  have o1 : (f 1).oneCell' = true := by rw [h1]; rfl
  have o2 : (f 2).oneCell' = true := h2.one
  simp [arrSrc, o0, o1, o2]
def SrcAt (w : World) (S : Nat → Prop) (v : Value) (u : Src) : Prop := ∃ f, v = .agg (arrSrc f) ∧ ESrc w S f u
abbrev SrcsAt := LAt 3 ESrc
theorem SrcAt.keep {w w' : World} {S : Nat → Prop} {v : Value} {u : Src} (h : SrcAt w S v u) (hk : ∀ g, S g → w'.heap[g]? = w.heap[g]?) : SrcAt w' S v u := by
  obtain ⟨f, h1, h2⟩ := h
  exact ⟨f, h1, keepsSrc _ _ _ _ _ _ h2 hk (fun _ _ => rfl)⟩
theorem SrcAt.mono {w : World} {S S' : Nat → Prop} {v : Value} {u : Src} (h : SrcAt w S v u) (hs : ∀ g, S g → S' g) : SrcAt w S' v u := by
  obtain ⟨f, h1, h2⟩ := h
  exact ⟨f, h1, growsSrc _ _ _ _ _ h2 hs⟩
theorem SrcAt.below {w w' : World} {B : Nat} {S : Nat → Prop} {v : Value} {u : Src} (h : SrcAt w S v u) (hb : Below B w w') (hs : ∀ g, S g → g < B) : SrcAt w' S v u := h.keep fun g hg => hb.block g (hs g hg)
def szSrc (u : Src) : Nat := u.name.size + szL ByteArray.size (u.cols)
def FineSrc (u : Src) : Prop := u.name.size ≤ maxLen ∧ True ∧ FineL FineStr u.cols
end Go.Proofs.Ytclkcnkjjoolcaa.Ls
