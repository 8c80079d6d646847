/- Recent: how it lies in memory; what the law's measure and copier answer. -/
import Derived.Test.YtjdhpampfnilaaaLs
namespace Go.Proofs.Ytjdhpampfnilaaa.Ls
set_option maxRecDepth 8000
open Go.RowKit
open Recs
set_option linter.unusedVariables false
structure Rct where
  seq : Int
  many : Int
  offset : Int
  deriving Inhabited
def ERct : Elt Rct := fun w S f u => f 0 = .int .i64 u.seq ∧ f 1 = .int .i64 u.many ∧ f 2 = .int .i64 u.offset
theorem keepsRct : Keeps 3 ERct := fun w w' S f f' t h hk hf => by
  obtain ⟨h0, h1, h2⟩ := h
  exact ⟨by rw [hf 0 (by omega)]; exact h0, by rw [hf 1 (by omega)]; exact h1, by rw [hf 2 (by omega)]; exact h2⟩
theorem growsRct : Grows ERct := fun w S S' f t h hs => by
  obtain ⟨h0, h1, h2⟩ := h
  exact ⟨h0, h1, h2⟩
def arrRct (f : Nat → Value) : Array Value := #[f 0, f 1, f 2]
theorem oneRct {w : World} {S : Nat → Prop} {f : Nat → Value} {u : Rct} (h : ERct w S f u) : (arrRct f).all (·.oneCell') = true := by
  obtain ⟨h0, h1, h2⟩ := h
  have o0 : (f 0).oneCell' = true := by rw [h0]; rfl
  have o1 : (f 1).oneCell' = true := by rw [h1]; rfl
  have o2 : (f 2).oneCell' = true := by rw [h2]; rfl
  simp [arrRct, o0, o1, o2]
def RctAt (w : World) (S : Nat → Prop) (v : Value) (u : Rct) : Prop := ∃ f, v = .agg (arrRct f) ∧ ERct w S f u
abbrev RctsAt := LAt 3 ERct
theorem RctAt.keep {w w' : World} {S : Nat → Prop} {v : Value} {u : Rct} (h : RctAt w S v u) (hk : ∀ g, S g → w'.heap[g]? = w.heap[g]?) : RctAt w' S v u := by
  obtain ⟨f, h1, h2⟩ := h
  exact ⟨f, h1, keepsRct _ _ _ _ _ _ h2 hk (fun _ _ => rfl)⟩
theorem RctAt.mono {w : World} {S S' : Nat → Prop} {v : Value} {u : Rct} (h : RctAt w S v u) (hs : ∀ g, S g → S' g) : RctAt w S' v u := by
  obtain ⟨f, h1, h2⟩ := h
  exact ⟨f, h1, growsRct _ _ _ _ _ h2 hs⟩
theorem RctAt.below {w w' : World} {B : Nat} {S : Nat → Prop} {v : Value} {u : Rct} (h : RctAt w S v u) (hb : Below B w w') (hs : ∀ g, S g → g < B) : RctAt w' S v u := h.keep fun g hg => hb.block g (hs g hg)
def szRct (u : Rct) : Nat := 0
def FineRct (u : Rct) : Prop := I64 u.seq ∧ I64 u.many ∧ I64 u.offset
theorem infoRct : (Try.prog.info? 38).map (·.size) = some 3 := by kernel_rfl
theorem infoLRct : (Try.prog.info? 46).map (·.size) = some 3 := by kernel_rfl
theorem infoZRct : (Try.prog.info? 38).map (fun i => (i.zero, i.size, i.bytes)) = some (some (.agg #[.int .i64 0, .int .i64 0, .int .i64 0]), 3, 24) := by kernel_rfl
set_option maxHeartbeats 1600000 in
theorem toRecent_any (v : Value) (u : Rct) (w : World) (S : Nat → Prop) (hv : RctAt w S v u) (hS : ∀ g, S g → g < w.heap.size) (hf : szRct u ≤ 1048576) :
    Calls Try.prog 18 #[v] w fun e w' => ∃ v', e = .returned v' ∧ RctAt w' (seg w.heap.size w'.heap.size) v' u ∧ Below w.heap.size w w' := by
  obtain ⟨f, rfl, y0, y1, y2⟩ := hv
  try simp only [arrRct]
  rw [show f 0 = _ from y0]
  clear y0
  rw [show f 1 = _ from y1]
  clear y1
  rw [show f 2 = _ from y2]
  clear y2
  go_enter Try.func18, Try.ntmps18
  go_wp2
  exact bodyPost_ret (v := .agg #[.int .i64 u.seq, .int .i64 u.many, .int .i64 u.offset]) (results_cell_row rfl _ _ (w.heap.size + 1) _ _ _ _ rfl (at3 _ _ _ _) Try.underlying38 rfl infoRct) rfl ⟨_, rfl, ⟨fun q => if q = 0 then .int .i64 u.seq else if q = 1 then .int .i64 u.many else .int .i64 u.offset, rfl, rfl, rfl, rfl⟩, below3 _ _ _ _⟩
set_option maxHeartbeats 1600000 in
theorem eqRecent_any (v v' : Value) (u : Rct) (w : World) (S S' : Nat → Prop) (hv : RctAt w S v u) (hv' : RctAt w S' v' u) (hS : ∀ g, S g → g < w.heap.size) (hS' : ∀ g, S' g → g < w.heap.size) :
    Calls Try.prog 19 #[v, v'] w fun e w' => e = .returned (.bool true) ∧ Below w.heap.size w w' := by
  obtain ⟨f, rfl, y0, y1, y2⟩ := hv
  obtain ⟨f', rfl, y0', y1', y2'⟩ := hv'
  try simp only [arrRct]
  rw [show f 0 = _ from y0]
  clear y0
  rw [show f 1 = _ from y1]
  clear y1
  rw [show f 2 = _ from y2]
  clear y2
  try simp only [arrRct]
  rw [show f' 0 = _ from y0']
  clear y0'
  rw [show f' 1 = _ from y1']
  clear y1'
  rw [show f' 2 = _ from y2']
  clear y2'
  go_enter Try.func19, Try.ntmps19
  go_wp2
  go_ret
  exact ⟨rfl, below2 _ _ _⟩
end Go.Proofs.Ytjdhpampfnilaaa.Ls
