/- Slot: how it lies in memory; what the law's measure and copier answer. -/
import Derived.Test.YtfdfhhiaalbfiaaLs
namespace Go.Proofs.Ytfdfhhiaalbfiaa.Ls
set_option maxRecDepth 8000
open Go.RowKit
open Recs
set_option linter.unusedVariables false
structure Slt where
  topic : ByteArray
  part : Int
  deriving Inhabited
def ESlt : Elt Slt := fun w S f u => f 0 = .string u.topic ∧ f 1 = .int .i64 u.part
theorem keepsSlt : Keeps 2 ESlt := fun w w' S f f' t h hk hf => by
  obtain ⟨h0, h1⟩ := h
  exact ⟨by rw [hf 0 (by omega)]; exact h0, by rw [hf 1 (by omega)]; exact h1⟩
theorem growsSlt : Grows ESlt := fun w S S' f t h hs => by
  obtain ⟨h0, h1⟩ := h
  exact ⟨h0, h1⟩
def arrSlt (f : Nat → Value) : Array Value := #[f 0, f 1]
theorem oneSlt {w : World} {S : Nat → Prop} {f : Nat → Value} {u : Slt} (h : ESlt w S f u) : (arrSlt f).all (·.oneCell') = true := by
  obtain ⟨h0, h1⟩ := h
  have o0 : (f 0).oneCell' = true := by rw [h0]; rfl
  have o1 : (f 1).oneCell' = true := by rw [h1]; rfl
  simp [arrSlt, o0, o1]
def SltAt (w : World) (S : Nat → Prop) (v : Value) (u : Slt) : Prop := ∃ f, v = .agg (arrSlt f) ∧ ESlt w S f u
abbrev SltsAt := LAt 2 ESlt
theorem SltAt.keep {w w' : World} {S : Nat → Prop} {v : Value} {u : Slt} (h : SltAt w S v u) (hk : ∀ g, S g → w'.heap[g]? = w.heap[g]?) : SltAt w' S v u := by
  obtain ⟨f, h1, h2⟩ := h
  exact ⟨f, h1, keepsSlt _ _ _ _ _ _ h2 hk (fun _ _ => rfl)⟩
theorem SltAt.mono {w : World} {S S' : Nat → Prop} {v : Value} {u : Slt} (h : SltAt w S v u) (hs : ∀ g, S g → S' g) : SltAt w S' v u := by
  obtain ⟨f, h1, h2⟩ := h
  exact ⟨f, h1, growsSlt _ _ _ _ _ h2 hs⟩
theorem SltAt.below {w w' : World} {B : Nat} {S : Nat → Prop} {v : Value} {u : Slt} (h : SltAt w S v u) (hb : Below B w w') (hs : ∀ g, S g → g < B) : SltAt w' S v u := h.keep fun g hg => hb.block g (hs g hg)
def szSlt (u : Slt) : Nat := u.topic.size
def FineSlt (u : Slt) : Prop := u.topic.size ≤ maxLen ∧ I64 u.part
theorem infoSlt : (Try.prog.info? 73).map (·.size) = some 2 := by kernel_rfl
theorem infoLSlt : (Try.prog.info? 192).map (·.size) = some 2 := by kernel_rfl
theorem infoZSlt : (Try.prog.info? 73).map (fun i => (i.zero, i.size, i.bytes)) = some (some (.agg #[.string ByteArray.empty, .int .i64 0]), 2, 24) := by kernel_rfl
set_option maxHeartbeats 800000 in
theorem szSlot_any (v : Value) (u : Slt) (l : Int) (w : World) (S : Nat → Prop) (h3 : -1 ≤ l) (h4 : l ≤ 1048576) (hv : SltAt w S v u) (hS : ∀ g, S g → g < w.heap.size) (hf : FineSlt u) :
    Calls Try.prog 132 #[v, .int .i64 l] w fun e w' => ∃ q, e = .returned (.int .i64 q) ∧ -1 ≤ q ∧ q ≤ l ∧ Lf l (szSlt u) q ∧ Below w.heap.size w w' := by
  obtain ⟨f, rfl, y0, y1⟩ := hv
  try simp only [arrSlt]
  rw [show f 0 = _ from y0]
  clear y0
  rw [show f 1 = _ from y1]
  clear y1
  obtain ⟨z0, z1⟩ := hf
  unfold maxLen at z0
  clear z1
  go_enter Try.func132, Try.ntmps132
  by_cases k0 : l - (u.topic.size : Int) < 0
  · go_wp2
    go_ret
    exact ⟨_, rfl, by omega, by omega, by simp only [szSlt]; exact ⟨fun _ => by omega, fun _ => by omega⟩, below1 _ _⟩
  go_wp2
  go_ret
  exact ⟨_, rfl, by omega, by omega, by simp only [szSlt]; exact ⟨fun _ => by omega, fun _ => by omega⟩, below1 _ _⟩
set_option maxHeartbeats 1600000 in
theorem toSlot_any (v : Value) (u : Slt) (w : World) (S : Nat → Prop) (hv : SltAt w S v u) (hS : ∀ g, S g → g < w.heap.size) (hf : szSlt u ≤ 1048576) :
    Calls Try.prog 133 #[v] w fun e w' => ∃ v', e = .returned v' ∧ SltAt w' (seg w.heap.size w'.heap.size) v' u ∧ Below w.heap.size w w' := by
  obtain ⟨f, rfl, y0, y1⟩ := hv
  try simp only [arrSlt]
  rw [show f 0 = _ from y0]
  clear y0
  rw [show f 1 = _ from y1]
  clear y1
  go_enter Try.func133, Try.ntmps133
  go_wp2
  exact bodyPost_ret (v := .agg #[.string u.topic, .int .i64 u.part]) (results_cell_row rfl _ _ (w.heap.size + 1) _ _ _ _ rfl (at3 _ _ _ _) Try.underlying73 rfl infoSlt) rfl ⟨_, rfl, ⟨fun q => if q = 0 then .string u.topic else .int .i64 u.part, rfl, rfl, rfl⟩, below3 _ _ _ _⟩
set_option maxHeartbeats 1600000 in
theorem eqSlot_any (v v' : Value) (u : Slt) (w : World) (S S' : Nat → Prop) (hv : SltAt w S v u) (hv' : SltAt w S' v' u) (hS : ∀ g, S g → g < w.heap.size) (hS' : ∀ g, S' g → g < w.heap.size) :
    Calls Try.prog 140 #[v, v'] w fun e w' => e = .returned (.bool true) ∧ Below w.heap.size w w' := by
  obtain ⟨f, rfl, y0, y1⟩ := hv
  obtain ⟨f', rfl, y0', y1'⟩ := hv'
  try simp only [arrSlt]
  rw [show f 0 = _ from y0]
  clear y0
  rw [show f 1 = _ from y1]
  clear y1
  try simp only [arrSlt]
  rw [show f' 0 = _ from y0']
  clear y0'
  rw [show f' 1 = _ from y1']
  clear y1'
  go_enter Try.func140, Try.ntmps140
  go_wp2
  go_ret
  exact ⟨rfl, below2 _ _ _⟩
end Go.Proofs.Ytfdfhhiaalbfiaa.Ls
