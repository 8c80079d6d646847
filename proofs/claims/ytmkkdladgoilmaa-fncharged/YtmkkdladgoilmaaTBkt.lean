/- Bucket: how it lies in memory; what the law's measure and copier answer. -/
import Derived.Test.YtmkkdladgoilmaaLs
namespace Go.Proofs.Ytmkkdladgoilmaa.Ls
set_option maxRecDepth 8000
open Go.RowKit
open Recs
set_option linter.unusedVariables false
structure Bkt where
  rate : Int
  burst : Int
  level : Int
  time : Int
  deriving Inhabited
def EBkt : Elt Bkt := fun w S f u => f 0 = .int .i64 u.rate ∧ f 1 = .int .i64 u.burst ∧ f 2 = .int .i64 u.level ∧ f 3 = .int .i64 u.time
theorem keepsBkt : Keeps 4 EBkt := fun w w' S f f' t h hk hf => by
  obtain ⟨h0, h1, h2, h3⟩ := h
  exact ⟨by rw [hf 0 (by omega)]; exact h0, by rw [hf 1 (by omega)]; exact h1, by rw [hf 2 (by omega)]; exact h2, by rw [hf 3 (by omega)]; exact h3⟩
theorem growsBkt : Grows EBkt := fun w S S' f t h hs => by
  obtain ⟨h0, h1, h2, h3⟩ := h
  exact ⟨h0, h1, h2, h3⟩
def arrBkt (f : Nat → Value) : Array Value := #[f 0, f 1, f 2, f 3]
theorem oneBkt {w : World} {S : Nat → Prop} {f : Nat → Value} {u : Bkt} (h : EBkt w S f u) : (arrBkt f).all (·.oneCell') = true := by
  obtain ⟨h0, h1, h2, h3⟩ := h
  have o0 : (f 0).oneCell' = true := by rw [h0]; rfl
  have o1 : (f 1).oneCell' = true := by rw [h1]; rfl
  have o2 : (f 2).oneCell' = true := by rw [h2]; rfl
  have o3 : (f 3).oneCell' = true := by rw [h3]; rfl
  simp [arrBkt, o0, o1, o2, o3]
def BktAt (w : World) (S : Nat → Prop) (v : Value) (u : Bkt) : Prop := ∃ f, v = .agg (arrBkt f) ∧ EBkt w S f u
abbrev BktsAt := LAt 4 EBkt
theorem BktAt.keep {w w' : World} {S : Nat → Prop} {v : Value} {u : Bkt} (h : BktAt w S v u) (hk : ∀ g, S g → w'.heap[g]? = w.heap[g]?) : BktAt w' S v u := by
  obtain ⟨f, h1, h2⟩ := h
  exact ⟨f, h1, keepsBkt _ _ _ _ _ _ h2 hk (fun _ _ => rfl)⟩
theorem BktAt.mono {w : World} {S S' : Nat → Prop} {v : Value} {u : Bkt} (h : BktAt w S v u) (hs : ∀ g, S g → S' g) : BktAt w S' v u := by
  obtain ⟨f, h1, h2⟩ := h
  exact ⟨f, h1, growsBkt _ _ _ _ _ h2 hs⟩
theorem BktAt.below {w w' : World} {B : Nat} {S : Nat → Prop} {v : Value} {u : Bkt} (h : BktAt w S v u) (hb : Below B w w') (hs : ∀ g, S g → g < B) : BktAt w' S v u := h.keep fun g hg => hb.block g (hs g hg)
def szBkt (u : Bkt) : Nat := 0
def FineBkt (u : Bkt) : Prop := I64 u.rate ∧ I64 u.burst ∧ I64 u.level ∧ I64 u.time
theorem infoBkt : (Try.prog.info? 25).map (·.size) = some 4 := by kernel_rfl
theorem infoZBkt : (Try.prog.info? 25).map (fun i => (i.zero, i.size, i.bytes)) = some (some (.agg #[.int .i64 0, .int .i64 0, .int .i64 0, .int .i64 0]), 4, 32) := by kernel_rfl
end Go.Proofs.Ytmkkdladgoilmaa.Ls
