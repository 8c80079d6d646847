/- Step: how it lies in memory; what the law's measure and copier answer; Lists of Step: what the law's helpers answer. -/
import Derived.Test.YtkohhcjpjloaaaaJW04
namespace Go.Proofs.Ytkohhcjpjloaaaa.Ls
set_option maxRecDepth 8000
open Go.RowKit
open Recs
set_option linter.unusedVariables false
structure Stp where
  op : Int
  num : Int
  name : ByteArray
  deriving Inhabited
def EStp : Elt Stp := fun w S f u => f 0 = .int .i64 u.op ∧ f 1 = .int .i64 u.num ∧ f 2 = .string u.name
theorem keepsStp : Keeps 3 EStp := fun w w' S f f' t h hk hf => by
  obtain ⟨h0, h1, h2⟩ := h
  exact ⟨by rw [hf 0 (by omega)]; exact h0, by rw [hf 1 (by omega)]; exact h1, by rw [hf 2 (by omega)]; exact h2⟩
theorem growsStp : Grows EStp := fun w S S' f t h hs => by
  obtain ⟨h0, h1, h2⟩ := h
  exact ⟨h0, h1, h2⟩
def arrStp (f : Nat → Value) : Array Value := #[f 0, f 1, f 2]
theorem oneStp {w : World} {S : Nat → Prop} {f : Nat → Value} {u : Stp} (h : EStp w S f u) : (arrStp f).all (·.oneCell') = true := by
  obtain ⟨h0, h1, h2⟩ := h
  have o0 : (f 0).oneCell' = true := by rw [h0]; rfl
  have o1 : (f 1).oneCell' = true := by rw [h1]; rfl
  have o2 : (f 2).oneCell' = true := by rw [h2]; rfl
  simp [arrStp, o0, o1, o2]
def StpAt (w : World) (S : Nat → Prop) (v : Value) (u : Stp) : Prop := ∃ f, v = .agg (arrStp f) ∧ EStp w S f u
abbrev StpsAt := LAt 3 EStp
theorem StpAt.keep {w w' : World} {S : Nat → Prop} {v : Value} {u : Stp} (h : StpAt w S v u) (hk : ∀ g, S g → w'.heap[g]? = w.heap[g]?) : StpAt w' S v u := by
  obtain ⟨f, h1, h2⟩ := h
  exact ⟨f, h1, keepsStp _ _ _ _ _ _ h2 hk (fun _ _ => rfl)⟩
theorem StpAt.mono {w : World} {S S' : Nat → Prop} {v : Value} {u : Stp} (h : StpAt w S v u) (hs : ∀ g, S g → S' g) : StpAt w S' v u := by
  obtain ⟨f, h1, h2⟩ := h
  exact ⟨f, h1, growsStp _ _ _ _ _ h2 hs⟩
theorem StpAt.below {w w' : World} {B : Nat} {S : Nat → Prop} {v : Value} {u : Stp} (h : StpAt w S v u) (hb : Below B w w') (hs : ∀ g, S g → g < B) : StpAt w' S v u := h.keep fun g hg => hb.block g (hs g hg)
def szStp (u : Stp) : Nat := u.name.size
def FineStp (u : Stp) : Prop := I64 u.op ∧ I64 u.num ∧ u.name.size ≤ maxLen
theorem infoStp : (Try.prog.info? 55).map (·.size) = some 3 := by kernel_rfl
theorem infoZStp : (Try.prog.info? 55).map (fun i => (i.zero, i.size, i.bytes)) = some (some (.agg #[.int .i64 0, .int .i64 0, .string ByteArray.empty]), 3, 32) := by kernel_rfl
end Go.Proofs.Ytkohhcjpjloaaaa.Ls
namespace Go.Proofs.Ytkohhcjpjloaaaa.Ls
set_option maxRecDepth 8000
open Go.RowKit
open Recs
set_option linter.unusedVariables false
end Go.Proofs.Ytkohhcjpjloaaaa.Ls
