/- Step: how it lies in memory; what the law's measure and copier answer. -/
import Derived.Test.YtekhidflncfeiaaLs
namespace Go.Proofs.Ytekhidflncfeiaa.Ls
set_option maxRecDepth 8000
open Go.RowKit
open Recs
set_option linter.unusedVariables false
structure Stp where
  op : Int
  num : Int
  name : ByteArray
  deriving Inhabited
def EStp : Elt Stp := fun w S f u => f 0 = .int .i64 u.op ∧ f 1 = .int .i64 u.num ∧ f 2 = .string u.name
theorem keepsStp : Keeps 3 EStp := fun w w' S f f' t h hk hf => by
  obtain ⟨h0, h1, h2⟩ := h
  exact ⟨by rw [hf 0 (by omega)]; exact h0, by rw [hf 1 (by omega)]; exact h1, by rw [hf 2 (by omega)]; exact h2⟩
theorem growsStp : Grows EStp := fun w S S' f t h hs => by
  obtain ⟨h0, h1, h2⟩ := h
  exact ⟨h0, h1, h2⟩
def arrStp (f : Nat → Value) : Array Value := #[f 0, f 1, f 2]
theorem oneStp {w : World} {S : Nat → Prop} {f : Nat → Value} {u : Stp} (h : EStp w S f u) : (arrStp f).all (·.oneCell') = true := by
  obtain ⟨h0, h1, h2⟩ := h
  have o0 : (f 0).oneCell' = true := by rw [h0]; rfl
  have o1 : (f 1).oneCell' = true := by rw [h1]; rfl
  have o2 : (f 2).oneCell' = true := by rw [h2]; rfl
  simp [arrStp, o0, o1, o2]
def StpAt (w : World) (S : Nat → Prop) (v : Value) (u : Stp) : Prop := ∃ f, v = .agg (arrStp f) ∧ EStp w S f u
abbrev StpsAt := LAt 3 EStp
theorem StpAt.keep {w w' : World} {S : Nat → Prop} {v : Value} {u : Stp} (h : StpAt w S v u) (hk : ∀ g, S g → w'.heap[g]? = w.heap[g]?) : StpAt w' S v u := by
  obtain ⟨f, h1, h2⟩ := h
  exact ⟨f, h1, keepsStp _ _ _ _ _ _ h2 hk (fun _ _ => rfl)⟩
theorem StpAt.mono {w : World} {S S' : Nat → Prop} {v : Value} {u : Stp} (h : StpAt w S v u) (hs : ∀ g, S g → S' g) : StpAt w S' v u := by
  obtain ⟨f, h1, h2⟩ := h
  exact ⟨f, h1, growsStp _ _ _ _ _ h2 hs⟩
theorem StpAt.below {w w' : World} {B : Nat} {S : Nat → Prop} {v : Value} {u : Stp} (h : StpAt w S v u) (hb : Below B w w') (hs : ∀ g, S g → g < B) : StpAt w' S v u := h.keep fun g hg => hb.block g (hs g hg)
def szStp (u : Stp) : Nat := u.name.size
def FineStp (u : Stp) : Prop := I64 u.op ∧ I64 u.num ∧ u.name.size ≤ maxLen
theorem infoStp : (Try.prog.info? 106).map (·.size) = some 3 := by kernel_rfl
theorem infoLStp : (Try.prog.info? 103).map (·.size) = some 3 := by kernel_rfl
theorem infoZStp : (Try.prog.info? 106).map (fun i => (i.zero, i.size, i.bytes)) = some (some (.agg #[.int .i64 0, .int .i64 0, .string ByteArray.empty]), 3, 32) := by kernel_rfl
set_option maxHeartbeats 800000 in
theorem szStep_any (v : Value) (u : Stp) (l : Int) (w : World) (S : Nat → Prop) (h3 : -1 ≤ l) (h4 : l ≤ 1048576) (hv : StpAt w S v u) (hS : ∀ g, S g → g < w.heap.size) (hf : FineStp u) :
    Calls Try.prog 68 #[v, .int .i64 l] w fun e w' => ∃ q, e = .returned (.int .i64 q) ∧ -1 ≤ q ∧ q ≤ l ∧ Lf l (szStp u) q ∧ Below w.heap.size w w' := by
  obtain ⟨f, rfl, y0, y1, y2⟩ := hv
  try simp only [arrStp]
  rw [show f 0 = _ from y0]
  clear y0
  rw [show f 1 = _ from y1]
  clear y1
  rw [show f 2 = _ from y2]
  clear y2
  obtain ⟨z0, z1, z2⟩ := hf
  unfold maxLen at z2
  clear z0 z1
  go_enter Try.func68, Try.ntmps68
  by_cases k2 : l - (u.name.size : Int) < 0
  · go_wp2
    go_ret
    exact ⟨_, rfl, by omega, by omega, by simp only [szStp]; exact ⟨fun _ => by omega, fun _ => by omega⟩, below1 _ _⟩
  go_wp2
  go_ret
  exact ⟨_, rfl, by omega, by omega, by simp only [szStp]; exact ⟨fun _ => by omega, fun _ => by omega⟩, below1 _ _⟩
set_option maxHeartbeats 1600000 in
theorem toStep_any (v : Value) (u : Stp) (w : World) (S : Nat → Prop) (hv : StpAt w S v u) (hS : ∀ g, S g → g < w.heap.size) (hf : szStp u ≤ 1048576) :
    Calls Try.prog 73 #[v] w fun e w' => ∃ v', e = .returned v' ∧ StpAt w' (seg w.heap.size w'.heap.size) v' u ∧ Below w.heap.size w w' := by
  obtain ⟨f, rfl, y0, y1, y2⟩ := hv
  try simp only [arrStp]
  rw [show f 0 = _ from y0]
  clear y0
  rw [show f 1 = _ from y1]
  clear y1
  rw [show f 2 = _ from y2]
  clear y2
  go_enter Try.func73, Try.ntmps73
  go_wp2
  exact bodyPost_ret (v := .agg #[.int .i64 u.op, .int .i64 u.num, .string u.name]) (results_cell_row rfl _ _ (w.heap.size + 1) _ _ _ _ rfl (at3 _ _ _ _) Try.underlying106 rfl infoStp) rfl ⟨_, rfl, ⟨fun q => if q = 0 then .int .i64 u.op else if q = 1 then .int .i64 u.num else .string u.name, rfl, rfl, rfl, rfl⟩, below3 _ _ _ _⟩
set_option maxHeartbeats 1600000 in
theorem eqStep_any (v v' : Value) (u : Stp) (w : World) (S S' : Nat → Prop) (hv : StpAt w S v u) (hv' : StpAt w S' v' u) (hS : ∀ g, S g → g < w.heap.size) (hS' : ∀ g, S' g → g < w.heap.size) :
    Calls Try.prog 79 #[v, v'] w fun e w' => e = .returned (.bool true) ∧ Below w.heap.size w w' := by
  obtain ⟨f, rfl, y0, y1, y2⟩ := hv
  obtain ⟨f', rfl, y0', y1', y2'⟩ := hv'
  try simp only [arrStp]
  rw [show f 0 = _ from y0]
  clear y0
  rw [show f 1 = _ from y1]
  clear y1
  rw [show f 2 = _ from y2]
  clear y2
  try simp only [arrStp]
  rw [show f' 0 = _ from y0']
  clear y0'
  rw [show f' 1 = _ from y1']
  clear y1'
  rw [show f' 2 = _ from y2']
  clear y2'
  go_enter Try.func79, Try.ntmps79
  go_wp2
  go_ret
  exact ⟨rfl, below2 _ _ _⟩
end Go.Proofs.Ytekhidflncfeiaa.Ls
