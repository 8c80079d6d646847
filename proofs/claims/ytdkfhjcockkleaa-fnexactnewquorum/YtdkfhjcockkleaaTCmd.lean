/- Command: how it lies in memory; what the law's measure and copier answer. -/
import Derived.Test.YtdkfhjcockkleaaLsI
namespace Go.Proofs.Ytdkfhjcockkleaa.Ls
set_option maxRecDepth 8000
open Go.RowKit
open Recs
set_option linter.unusedVariables false
structure Cmd where
  term : Int
  text : ByteArray
  deriving Inhabited
def ECmd : Elt Cmd := fun w S f u => f 0 = .int .i64 u.term ∧ f 1 = .string u.text
theorem keepsCmd : Keeps 2 ECmd := fun w w' S f f' t h hk hf => by
  obtain ⟨h0, h1⟩ := h
  exact ⟨by rw [hf 0 (by omega)]; exact h0, by rw [hf 1 (by omega)]; exact h1⟩
theorem growsCmd : Grows ECmd := fun w S S' f t h hs => by
  obtain ⟨h0, h1⟩ := h
  exact ⟨h0, h1⟩
def arrCmd (f : Nat → Value) : Array Value := #[f 0, f 1]
theorem oneCmd {w : World} {S : Nat → Prop} {f : Nat → Value} {u : Cmd} (h : ECmd w S f u) : (arrCmd f).all (·.oneCell') = true := by
  obtain ⟨h0, h1⟩ := h
  have o0 : (f 0).oneCell' = true := by rw [h0]; rfl
  have o1 : (f 1).oneCell' = true := by rw [h1]; rfl
  simp [arrCmd, o0, o1]
def CmdAt (w : World) (S : Nat → Prop) (v : Value) (u : Cmd) : Prop := ∃ f, v = .agg (arrCmd f) ∧ ECmd w S f u
abbrev CmdsAt := LAt 2 ECmd
theorem CmdAt.keep {w w' : World} {S : Nat → Prop} {v : Value} {u : Cmd} (h : CmdAt w S v u) (hk : ∀ g, S g → w'.heap[g]? = w.heap[g]?) : CmdAt w' S v u := by
  obtain ⟨f, h1, h2⟩ := h
  exact ⟨f, h1, keepsCmd _ _ _ _ _ _ h2 hk (fun _ _ => rfl)⟩
theorem CmdAt.mono {w : World} {S S' : Nat → Prop} {v : Value} {u : Cmd} (h : CmdAt w S v u) (hs : ∀ g, S g → S' g) : CmdAt w S' v u := by
  obtain ⟨f, h1, h2⟩ := h
  exact ⟨f, h1, growsCmd _ _ _ _ _ h2 hs⟩
theorem CmdAt.below {w w' : World} {B : Nat} {S : Nat → Prop} {v : Value} {u : Cmd} (h : CmdAt w S v u) (hb : Below B w w') (hs : ∀ g, S g → g < B) : CmdAt w' S v u := h.keep fun g hg => hb.block g (hs g hg)
def szCmd (u : Cmd) : Nat := u.text.size
def FineCmd (u : Cmd) : Prop := I64 u.term ∧ u.text.size ≤ maxLen
theorem infoCmd : (Try.prog.info? 51).map (·.size) = some 2 := by kernel_rfl
theorem infoLCmd : (Try.prog.info? 92).map (·.size) = some 2 := by kernel_rfl
theorem infoZCmd : (Try.prog.info? 51).map (fun i => (i.zero, i.size, i.bytes)) = some (some (.agg #[.int .i64 0, .string ByteArray.empty]), 2, 24) := by kernel_rfl
set_option maxHeartbeats 800000 in
theorem szCommand_any (v : Value) (u : Cmd) (l : Int) (w : World) (S : Nat → Prop) (h3 : -1 ≤ l) (h4 : l ≤ 1048576) (hv : CmdAt w S v u) (hS : ∀ g, S g → g < w.heap.size) (hf : FineCmd u) :
    Calls Try.prog 58 #[v, .int .i64 l] w fun e w' => ∃ q, e = .returned (.int .i64 q) ∧ -1 ≤ q ∧ q ≤ l ∧ Lf l (szCmd u) q ∧ Below w.heap.size w w' := by
  obtain ⟨f, rfl, y0, y1⟩ := hv
  try simp only [arrCmd]
  rw [show f 0 = _ from y0]
  clear y0
  rw [show f 1 = _ from y1]
  clear y1
  obtain ⟨z0, z1⟩ := hf
  unfold maxLen at z1
  clear z0
  go_enter Try.func58, Try.ntmps58
  by_cases k1 : l - (u.text.size : Int) < 0
  · go_wp2
    go_ret
    exact ⟨_, rfl, by omega, by omega, by simp only [szCmd]; exact ⟨fun _ => by omega, fun _ => by omega⟩, below1 _ _⟩
  go_wp2
  go_ret
  exact ⟨_, rfl, by omega, by omega, by simp only [szCmd]; exact ⟨fun _ => by omega, fun _ => by omega⟩, below1 _ _⟩
set_option maxHeartbeats 1600000 in
theorem toCommand_any (v : Value) (u : Cmd) (w : World) (S : Nat → Prop) (hv : CmdAt w S v u) (hS : ∀ g, S g → g < w.heap.size) (hf : szCmd u ≤ 1048576) :
    Calls Try.prog 59 #[v] w fun e w' => ∃ v', e = .returned v' ∧ CmdAt w' (seg w.heap.size w'.heap.size) v' u ∧ Below w.heap.size w w' := by
  obtain ⟨f, rfl, y0, y1⟩ := hv
  try simp only [arrCmd]
  rw [show f 0 = _ from y0]
  clear y0
  rw [show f 1 = _ from y1]
  clear y1
  go_enter Try.func59, Try.ntmps59
  go_wp2
  exact bodyPost_ret (v := .agg #[.int .i64 u.term, .string u.text]) (results_cell_row rfl _ _ (w.heap.size + 1) _ _ _ _ rfl (at3 _ _ _ _) Try.underlying51 rfl infoCmd) rfl ⟨_, rfl, ⟨fun q => if q = 0 then .int .i64 u.term else .string u.text, rfl, rfl, rfl⟩, below3 _ _ _ _⟩
set_option maxHeartbeats 1600000 in
theorem eqCommand_any (v v' : Value) (u : Cmd) (w : World) (S S' : Nat → Prop) (hv : CmdAt w S v u) (hv' : CmdAt w S' v' u) (hS : ∀ g, S g → g < w.heap.size) (hS' : ∀ g, S' g → g < w.heap.size) :
    Calls Try.prog 60 #[v, v'] w fun e w' => e = .returned (.bool true) ∧ Below w.heap.size w w' := by
  obtain ⟨f, rfl, y0, y1⟩ := hv
  obtain ⟨f', rfl, y0', y1'⟩ := hv'
  try simp only [arrCmd]
  rw [show f 0 = _ from y0]
  clear y0
  rw [show f 1 = _ from y1]
  clear y1
  try simp only [arrCmd]
  rw [show f' 0 = _ from y0']
  clear y0'
  rw [show f' 1 = _ from y1']
  clear y1'
  go_enter Try.func60, Try.ntmps60
  go_wp2
  go_ret
  exact ⟨rfl, below2 _ _ _⟩
end Go.Proofs.Ytdkfhjcockkleaa.Ls
