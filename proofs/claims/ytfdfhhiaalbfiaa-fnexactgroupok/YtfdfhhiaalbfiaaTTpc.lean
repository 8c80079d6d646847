/- Topic: how it lies in memory; what the law's measure and copier answer. -/
import Derived.Test.YtfdfhhiaalbfiaaLs
namespace Go.Proofs.Ytfdfhhiaalbfiaa.Ls
set_option maxRecDepth 8000
open Go.RowKit
open Recs
set_option linter.unusedVariables false
structure Tpc where
  name : ByteArray
  parts : Int
  deriving Inhabited
def ETpc : Elt Tpc := fun w S f u => f 0 = .string u.name ∧ f 1 = .int .i64 u.parts
theorem keepsTpc : Keeps 2 ETpc := fun w w' S f f' t h hk hf => by
  obtain ⟨h0, h1⟩ := h
  exact ⟨by rw [hf 0 (by omega)]; exact h0, by rw [hf 1 (by omega)]; exact h1⟩
theorem growsTpc : Grows ETpc := fun w S S' f t h hs => by
  obtain ⟨h0, h1⟩ := h
  exact ⟨h0, h1⟩
def arrTpc (f : Nat → Value) : Array Value := #[f 0, f 1]
theorem oneTpc {w : World} {S : Nat → Prop} {f : Nat → Value} {u : Tpc} (h : ETpc w S f u) : (arrTpc f).all (·.oneCell') = true := by
  obtain ⟨h0, h1⟩ := h
  have o0 : (f 0).oneCell' = true := by rw [h0]; rfl
  have o1 : (f 1).oneCell' = true := by rw [h1]; rfl
  simp [arrTpc, o0, o1]
def TpcAt (w : World) (S : Nat → Prop) (v : Value) (u : Tpc) : Prop := ∃ f, v = .agg (arrTpc f) ∧ ETpc w S f u
abbrev TpcsAt := LAt 2 ETpc
theorem TpcAt.keep {w w' : World} {S : Nat → Prop} {v : Value} {u : Tpc} (h : TpcAt w S v u) (hk : ∀ g, S g → w'.heap[g]? = w.heap[g]?) : TpcAt w' S v u := by
  obtain ⟨f, h1, h2⟩ := h
  exact ⟨f, h1, keepsTpc _ _ _ _ _ _ h2 hk (fun _ _ => rfl)⟩
theorem TpcAt.mono {w : World} {S S' : Nat → Prop} {v : Value} {u : Tpc} (h : TpcAt w S v u) (hs : ∀ g, S g → S' g) : TpcAt w S' v u := by
  obtain ⟨f, h1, h2⟩ := h
  exact ⟨f, h1, growsTpc _ _ _ _ _ h2 hs⟩
theorem TpcAt.below {w w' : World} {B : Nat} {S : Nat → Prop} {v : Value} {u : Tpc} (h : TpcAt w S v u) (hb : Below B w w') (hs : ∀ g, S g → g < B) : TpcAt w' S v u := h.keep fun g hg => hb.block g (hs g hg)
def szTpc (u : Tpc) : Nat := u.name.size
def FineTpc (u : Tpc) : Prop := u.name.size ≤ maxLen ∧ I64 u.parts
theorem infoTpc : (Try.prog.info? 114).map (·.size) = some 2 := by kernel_rfl
theorem infoLTpc : (Try.prog.info? 109).map (·.size) = some 2 := by kernel_rfl
theorem infoZTpc : (Try.prog.info? 114).map (fun i => (i.zero, i.size, i.bytes)) = some (some (.agg #[.string ByteArray.empty, .int .i64 0]), 2, 24) := by kernel_rfl
set_option maxHeartbeats 800000 in
theorem szTopic_any (v : Value) (u : Tpc) (l : Int) (w : World) (S : Nat → Prop) (h3 : -1 ≤ l) (h4 : l ≤ 1048576) (hv : TpcAt w S v u) (hS : ∀ g, S g → g < w.heap.size) (hf : FineTpc u) :
    Calls Try.prog 65 #[v, .int .i64 l] w fun e w' => ∃ q, e = .returned (.int .i64 q) ∧ -1 ≤ q ∧ q ≤ l ∧ Lf l (szTpc u) q ∧ Below w.heap.size w w' := by
  obtain ⟨f, rfl, y0, y1⟩ := hv
  try simp only [arrTpc]
  rw [show f 0 = _ from y0]
  clear y0
  rw [show f 1 = _ from y1]
  clear y1
  obtain ⟨z0, z1⟩ := hf
  unfold maxLen at z0
  clear z1
  go_enter Try.func65, Try.ntmps65
  by_cases k0 : l - (u.name.size : Int) < 0
  · go_wp2
    go_ret
    exact ⟨_, rfl, by omega, by omega, by simp only [szTpc]; exact ⟨fun _ => by omega, fun _ => by omega⟩, below1 _ _⟩
  go_wp2
  go_ret
  exact ⟨_, rfl, by omega, by omega, by simp only [szTpc]; exact ⟨fun _ => by omega, fun _ => by omega⟩, below1 _ _⟩
set_option maxHeartbeats 1600000 in
theorem toTopic_any (v : Value) (u : Tpc) (w : World) (S : Nat → Prop) (hv : TpcAt w S v u) (hS : ∀ g, S g → g < w.heap.size) (hf : szTpc u ≤ 1048576) :
    Calls Try.prog 68 #[v] w fun e w' => ∃ v', e = .returned v' ∧ TpcAt w' (seg w.heap.size w'.heap.size) v' u ∧ Below w.heap.size w w' := by
  obtain ⟨f, rfl, y0, y1⟩ := hv
  try simp only [arrTpc]
  rw [show f 0 = _ from y0]
  clear y0
  rw [show f 1 = _ from y1]
  clear y1
  go_enter Try.func68, Try.ntmps68
  go_wp2
  exact bodyPost_ret (v := .agg #[.string u.name, .int .i64 u.parts]) (results_cell_row rfl _ _ (w.heap.size + 1) _ _ _ _ rfl (at3 _ _ _ _) Try.underlying114 rfl infoTpc) rfl ⟨_, rfl, ⟨fun q => if q = 0 then .string u.name else .int .i64 u.parts, rfl, rfl, rfl⟩, below3 _ _ _ _⟩
set_option maxHeartbeats 1600000 in
theorem eqTopic_any (v v' : Value) (u : Tpc) (w : World) (S S' : Nat → Prop) (hv : TpcAt w S v u) (hv' : TpcAt w S' v' u) (hS : ∀ g, S g → g < w.heap.size) (hS' : ∀ g, S' g → g < w.heap.size) :
    Calls Try.prog 78 #[v, v'] w fun e w' => e = .returned (.bool true) ∧ Below w.heap.size w w' := by
  obtain ⟨f, rfl, y0, y1⟩ := hv
  obtain ⟨f', rfl, y0', y1'⟩ := hv'
  try simp only [arrTpc]
  rw [show f 0 = _ from y0]
  clear y0
  rw [show f 1 = _ from y1]
  clear y1
  try simp only [arrTpc]
  rw [show f' 0 = _ from y0']
  clear y0'
  rw [show f' 1 = _ from y1']
  clear y1'
  go_enter Try.func78, Try.ntmps78
  go_wp2
  go_ret
  exact ⟨rfl, below2 _ _ _⟩
end Go.Proofs.Ytfdfhhiaalbfiaa.Ls
