/- Api: how it lies in memory; what the law's measure and copier answer. -/
import Derived.Test.YtmkkdladgoilmaaLs
namespace Go.Proofs.Ytmkkdladgoilmaa.Ls
set_option maxRecDepth 8000
open Go.RowKit
open Recs
set_option linter.unusedVariables false
structure Apx where
  key : Int
  least : Int
  most : Int
  deriving Inhabited
def EApx : Elt Apx := fun w S f u => f 0 = .int .i64 u.key ∧ f 1 = .int .i64 u.least ∧ f 2 = .int .i64 u.most
theorem keepsApx : Keeps 3 EApx := fun w w' S f f' t h hk hf => by
  obtain ⟨h0, h1, h2⟩ := h
  exact ⟨by rw [hf 0 (by omega)]; exact h0, by rw [hf 1 (by omega)]; exact h1, by rw [hf 2 (by omega)]; exact h2⟩
theorem growsApx : Grows EApx := fun w S S' f t h hs => by
  obtain ⟨h0, h1, h2⟩ := h
  exact ⟨h0, h1, h2⟩
def arrApx (f : Nat → Value) : Array Value := #[f 0, f 1, f 2]
theorem oneApx {w : World} {S : Nat → Prop} {f : Nat → Value} {u : Apx} (h : EApx w S f u) : (arrApx f).all (·.oneCell') = true := by
  obtain ⟨h0, h1, h2⟩ := h
  have o0 : (f 0).oneCell' = true := by rw [h0]; rfl
  have o1 : (f 1).oneCell' = true := by rw [h1]; rfl
  have o2 : (f 2).oneCell' = true := by rw [h2]; rfl
  simp [arrApx, o0, o1, o2]
def ApxAt (w : World) (S : Nat → Prop) (v : Value) (u : Apx) : Prop := ∃ f, v = .agg (arrApx f) ∧ EApx w S f u
abbrev ApxsAt := LAt 3 EApx
theorem ApxAt.keep {w w' : World} {S : Nat → Prop} {v : Value} {u : Apx} (h : ApxAt w S v u) (hk : ∀ g, S g → w'.heap[g]? = w.heap[g]?) : ApxAt w' S v u := by
  obtain ⟨f, h1, h2⟩ := h
  exact ⟨f, h1, keepsApx _ _ _ _ _ _ h2 hk (fun _ _ => rfl)⟩
theorem ApxAt.mono {w : World} {S S' : Nat → Prop} {v : Value} {u : Apx} (h : ApxAt w S v u) (hs : ∀ g, S g → S' g) : ApxAt w S' v u := by
  obtain ⟨f, h1, h2⟩ := h
  exact ⟨f, h1, growsApx _ _ _ _ _ h2 hs⟩
theorem ApxAt.below {w w' : World} {B : Nat} {S : Nat → Prop} {v : Value} {u : Apx} (h : ApxAt w S v u) (hb : Below B w w') (hs : ∀ g, S g → g < B) : ApxAt w' S v u := h.keep fun g hg => hb.block g (hs g hg)
def szApx (u : Apx) : Nat := 0
def FineApx (u : Apx) : Prop := I64 u.key ∧ I64 u.least ∧ I64 u.most
theorem infoApx : (Try.prog.info? 38).map (·.size) = some 3 := by kernel_rfl
theorem infoZApx : (Try.prog.info? 38).map (fun i => (i.zero, i.size, i.bytes)) = some (some (.agg #[.int .i64 0, .int .i64 0, .int .i64 0]), 3, 24) := by kernel_rfl
end Go.Proofs.Ytmkkdladgoilmaa.Ls
