/- Head: how it lies in memory; what the law's measure and copier answer. -/
import Derived.Test.YtafgakddhoabjaaLs
namespace Go.Proofs.Ytafgakddhoabjaa.Ls
set_option maxRecDepth 8000
open Go.RowKit
open Recs
set_option linter.unusedVariables false
def EHd : Elt Hd := fun w S f u => f 0 = .string u.key ∧ f 1 = .string u.val
theorem keepsHd : Keeps 2 EHd := fun w w' S f f' t h hk hf => by
  obtain ⟨h0, h1⟩ := h
  exact ⟨by rw [hf 0 (by omega)]; exact h0, by rw [hf 1 (by omega)]; exact h1⟩
theorem growsHd : Grows EHd := fun w S S' f t h hs => by
  obtain ⟨h0, h1⟩ := h
  exact ⟨h0, h1⟩
def arrHd (f : Nat → Value) : Array Value := #[f 0, f 1]
theorem oneHd {w : World} {S : Nat → Prop} {f : Nat → Value} {u : Hd} (h : EHd w S f u) : (arrHd f).all (·.oneCell') = true := by
  obtain ⟨h0, h1⟩ := h
  have o0 : (f 0).oneCell' = true := by rw [h0]; rfl
  have o1 : (f 1).oneCell' = true := by rw [h1]; rfl
  simp [arrHd, o0, o1]
def HdAt (w : World) (S : Nat → Prop) (v : Value) (u : Hd) : Prop := ∃ f, v = .agg (arrHd f) ∧ EHd w S f u
abbrev HdsAt := LAt 2 EHd
theorem HdAt.keep {w w' : World} {S : Nat → Prop} {v : Value} {u : Hd} (h : HdAt w S v u) (hk : ∀ g, S g → w'.heap[g]? = w.heap[g]?) : HdAt w' S v u := by
  obtain ⟨f, h1, h2⟩ := h
  exact ⟨f, h1, keepsHd _ _ _ _ _ _ h2 hk (fun _ _ => rfl)⟩
theorem HdAt.mono {w : World} {S S' : Nat → Prop} {v : Value} {u : Hd} (h : HdAt w S v u) (hs : ∀ g, S g → S' g) : HdAt w S' v u := by
  obtain ⟨f, h1, h2⟩ := h
  exact ⟨f, h1, growsHd _ _ _ _ _ h2 hs⟩
theorem HdAt.below {w w' : World} {B : Nat} {S : Nat → Prop} {v : Value} {u : Hd} (h : HdAt w S v u) (hb : Below B w w') (hs : ∀ g, S g → g < B) : HdAt w' S v u := h.keep fun g hg => hb.block g (hs g hg)
def szHd (u : Hd) : Nat := u.key.size + u.val.size
def FineHd (u : Hd) : Prop := u.key.size ≤ maxLen ∧ u.val.size ≤ maxLen
theorem infoHd : (Try.prog.info? 62).map (·.size) = some 2 := by kernel_rfl
theorem infoZHd : (Try.prog.info? 62).map (fun i => (i.zero, i.size, i.bytes)) = some (some (.agg #[.string ByteArray.empty, .string ByteArray.empty]), 2, 32) := by kernel_rfl
set_option maxHeartbeats 1600000 in
theorem eqHead_any (v v' : Value) (u : Hd) (w : World) (S S' : Nat → Prop) (hv : HdAt w S v u) (hv' : HdAt w S' v' u) (hS : ∀ g, S g → g < w.heap.size) (hS' : ∀ g, S' g → g < w.heap.size) :
    Calls Try.prog 38 #[v, v'] w fun e w' => e = .returned (.bool true) ∧ Below w.heap.size w w' := by
  obtain ⟨f, rfl, y0, y1⟩ := hv
  obtain ⟨f', rfl, y0', y1'⟩ := hv'
  try simp only [arrHd]
  rw [show f 0 = _ from y0]
  clear y0
  rw [show f 1 = _ from y1]
  clear y1
  try simp only [arrHd]
  rw [show f' 0 = _ from y0']
  clear y0'
  rw [show f' 1 = _ from y1']
  clear y1'
  go_enter Try.func38, Try.ntmps38
  go_wp2
  go_ret
  exact ⟨rfl, below2 _ _ _⟩
end Go.Proofs.Ytafgakddhoabjaa.Ls
