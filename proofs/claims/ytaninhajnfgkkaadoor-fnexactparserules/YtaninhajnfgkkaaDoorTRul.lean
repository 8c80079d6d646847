/- Rule: how it lies in memory; what the law's measure and copier answer. -/
import Derived.Test.YtaninhajnfgkkaaDoorLs
namespace Go.Proofs.YtaninhajnfgkkaaDoor.Ls
set_option maxRecDepth 8000
open Go.RowKit
open Recs
set_option linter.unusedVariables false
structure Rul where
  deny : Bool
  who : ByteArray
  may : Int
  on : Int
  name : ByteArray
  begins : Bool
  deriving Inhabited
def ERul : Elt Rul := fun w S f u => f 0 = .bool u.deny ∧ f 1 = .string u.who ∧ f 2 = .int .i64 u.may ∧ f 3 = .int .i64 u.on ∧ f 4 = .string u.name ∧ f 5 = .bool u.begins
theorem keepsRul : Keeps 6 ERul := fun w w' S f f' t h hk hf => by
  obtain ⟨h0, h1, h2, h3, h4, h5⟩ := h
  exact ⟨by rw [hf 0 (by omega)]; exact h0, by rw [hf 1 (by omega)]; exact h1, by rw [hf 2 (by omega)]; exact h2, by rw [hf 3 (by omega)]; exact h3, by rw [hf 4 (by omega)]; exact h4, by rw [hf 5 (by omega)]; exact h5⟩
theorem growsRul : Grows ERul := fun w S S' f t h hs => by
  obtain ⟨h0, h1, h2, h3, h4, h5⟩ := h
  exact ⟨h0, h1, h2, h3, h4, h5⟩
def arrRul (f : Nat → Value) : Array Value := #[f 0, f 1, f 2, f 3, f 4, f 5]
theorem oneRul {w : World} {S : Nat → Prop} {f : Nat → Value} {u : Rul} (h : ERul w S f u) : (arrRul f).all (·.oneCell') = true := by
  obtain ⟨h0, h1, h2, h3, h4, h5⟩ := h
  have o0 : (f 0).oneCell' = true := by rw [h0]; rfl
  have o1 : (f 1).oneCell' = true := by rw [h1]; rfl
  have o2 : (f 2).oneCell' = true := by rw [h2]; rfl
  have o3 : (f 3).oneCell' = true := by rw [h3]; rfl
  have o4 : (f 4).oneCell' = true := by rw [h4]; rfl
  have o5 : (f 5).oneCell' = true := by rw [h5]; rfl
  simp [arrRul, o0, o1, o2, o3, o4, o5]
def RulAt (w : World) (S : Nat → Prop) (v : Value) (u : Rul) : Prop := ∃ f, v = .agg (arrRul f) ∧ ERul w S f u
abbrev RulsAt := LAt 6 ERul
theorem RulAt.keep {w w' : World} {S : Nat → Prop} {v : Value} {u : Rul} (h : RulAt w S v u) (hk : ∀ g, S g → w'.heap[g]? = w.heap[g]?) : RulAt w' S v u := by
  obtain ⟨f, h1, h2⟩ := h
  exact ⟨f, h1, keepsRul _ _ _ _ _ _ h2 hk (fun _ _ => rfl)⟩
theorem RulAt.mono {w : World} {S S' : Nat → Prop} {v : Value} {u : Rul} (h : RulAt w S v u) (hs : ∀ g, S g → S' g) : RulAt w S' v u := by
  obtain ⟨f, h1, h2⟩ := h
  exact ⟨f, h1, growsRul _ _ _ _ _ h2 hs⟩
theorem RulAt.below {w w' : World} {B : Nat} {S : Nat → Prop} {v : Value} {u : Rul} (h : RulAt w S v u) (hb : Below B w w') (hs : ∀ g, S g → g < B) : RulAt w' S v u := h.keep fun g hg => hb.block g (hs g hg)
def szRul (u : Rul) : Nat := u.who.size + u.name.size
def FineRul (u : Rul) : Prop := True ∧ u.who.size ≤ maxLen ∧ I64 u.may ∧ I64 u.on ∧ u.name.size ≤ maxLen ∧ True
theorem infoRul : (Tryd.prog.info? 33).map (·.size) = some 6 := by kernel_rfl
theorem infoZRul : (Tryd.prog.info? 33).map (fun i => (i.zero, i.size, i.bytes)) = some (some (.agg #[.bool false, .string ByteArray.empty, .int .i64 0, .int .i64 0, .string ByteArray.empty, .bool false]), 6, 64) := by kernel_rfl
set_option maxHeartbeats 1600000 in
theorem eqRule_any (v v' : Value) (u : Rul) (w : World) (S S' : Nat → Prop) (hv : RulAt w S v u) (hv' : RulAt w S' v' u) (hS : ∀ g, S g → g < w.heap.size) (hS' : ∀ g, S' g → g < w.heap.size) :
    Calls Tryd.prog 16 #[v, v'] w fun e w' => e = .returned (.bool true) ∧ Below w.heap.size w w' := by
  obtain ⟨f, rfl, y0, y1, y2, y3, y4, y5⟩ := hv
  obtain ⟨f', rfl, y0', y1', y2', y3', y4', y5'⟩ := hv'
  try simp only [arrRul]
  rw [show f 0 = _ from y0]
  clear y0
  rw [show f 1 = _ from y1]
  clear y1
  rw [show f 2 = _ from y2]
  clear y2
  rw [show f 3 = _ from y3]
  clear y3
  rw [show f 4 = _ from y4]
  clear y4
  rw [show f 5 = _ from y5]
  clear y5
  try simp only [arrRul]
  rw [show f' 0 = _ from y0']
  clear y0'
  rw [show f' 1 = _ from y1']
  clear y1'
  rw [show f' 2 = _ from y2']
  clear y2'
  rw [show f' 3 = _ from y3']
  clear y3'
  rw [show f' 4 = _ from y4']
  clear y4'
  rw [show f' 5 = _ from y5']
  clear y5'
  go_enter Tryd.func16, Tryd.ntmps16
  go_wp2
  go_ret
  exact ⟨rfl, below2 _ _ _⟩
end Go.Proofs.YtaninhajnfgkkaaDoor.Ls
