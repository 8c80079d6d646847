/- Item: how it lies in memory; what the law's measure and copier answer. -/
import Derived.Test.YtfdfhhiaalbfiaaLs
namespace Go.Proofs.Ytfdfhhiaalbfiaa.Ls
set_option maxRecDepth 8000
open Go.RowKit
open Recs
set_option linter.unusedVariables false
structure Itm where
  num : Int
  text : ByteArray
  deriving Inhabited
def EItm : Elt Itm := fun w S f u => f 0 = .int .i64 u.num ∧ f 1 = .string u.text
theorem keepsItm : Keeps 2 EItm := fun w w' S f f' t h hk hf => by
  obtain ⟨h0, h1⟩ := h
  exact ⟨by rw [hf 0 (by omega)]; exact h0, by rw [hf 1 (by omega)]; exact h1⟩
theorem growsItm : Grows EItm := fun w S S' f t h hs => by
  obtain ⟨h0, h1⟩ := h
  exact ⟨h0, h1⟩
def arrItm (f : Nat → Value) : Array Value := #[f 0, f 1]
theorem oneItm {w : World} {S : Nat → Prop} {f : Nat → Value} {u : Itm} (h : EItm w S f u) : (arrItm f).all (·.oneCell') = true := by
  obtain ⟨h0, h1⟩ := h
  have o0 : (f 0).oneCell' = true := by rw [h0]; rfl
  have o1 : (f 1).oneCell' = true := by rw [h1]; rfl
  simp [arrItm, o0, o1]
def ItmAt (w : World) (S : Nat → Prop) (v : Value) (u : Itm) : Prop := ∃ f, v = .agg (arrItm f) ∧ EItm w S f u
abbrev ItmsAt := LAt 2 EItm
theorem ItmAt.keep {w w' : World} {S : Nat → Prop} {v : Value} {u : Itm} (h : ItmAt w S v u) (hk : ∀ g, S g → w'.heap[g]? = w.heap[g]?) : ItmAt w' S v u := by
  obtain ⟨f, h1, h2⟩ := h
  exact ⟨f, h1, keepsItm _ _ _ _ _ _ h2 hk (fun _ _ => rfl)⟩
theorem ItmAt.mono {w : World} {S S' : Nat → Prop} {v : Value} {u : Itm} (h : ItmAt w S v u) (hs : ∀ g, S g → S' g) : ItmAt w S' v u := by
  obtain ⟨f, h1, h2⟩ := h
  exact ⟨f, h1, growsItm _ _ _ _ _ h2 hs⟩
theorem ItmAt.below {w w' : World} {B : Nat} {S : Nat → Prop} {v : Value} {u : Itm} (h : ItmAt w S v u) (hb : Below B w w') (hs : ∀ g, S g → g < B) : ItmAt w' S v u := h.keep fun g hg => hb.block g (hs g hg)
def szItm (u : Itm) : Nat := u.text.size
def FineItm (u : Itm) : Prop := I64 u.num ∧ u.text.size ≤ maxLen
theorem infoItm : (Try.prog.info? 179).map (·.size) = some 2 := by kernel_rfl
theorem infoLItm : (Try.prog.info? 178).map (·.size) = some 2 := by kernel_rfl
theorem infoZItm : (Try.prog.info? 179).map (fun i => (i.zero, i.size, i.bytes)) = some (some (.agg #[.int .i64 0, .string ByteArray.empty]), 2, 24) := by kernel_rfl
set_option maxHeartbeats 800000 in
theorem szItem_any (v : Value) (u : Itm) (l : Int) (w : World) (S : Nat → Prop) (h3 : -1 ≤ l) (h4 : l ≤ 1048576) (hv : ItmAt w S v u) (hS : ∀ g, S g → g < w.heap.size) (hf : FineItm u) :
    Calls Try.prog 126 #[v, .int .i64 l] w fun e w' => ∃ q, e = .returned (.int .i64 q) ∧ -1 ≤ q ∧ q ≤ l ∧ Lf l (szItm u) q ∧ Below w.heap.size w w' := by
  obtain ⟨f, rfl, y0, y1⟩ := hv
  try simp only [arrItm]
  rw [show f 0 = _ from y0]
  clear y0
  rw [show f 1 = _ from y1]
  clear y1
  obtain ⟨z0, z1⟩ := hf
  unfold maxLen at z1
  clear z0
  go_enter Try.func126, Try.ntmps126
  by_cases k1 : l - (u.text.size : Int) < 0
  · go_wp2
    go_ret
    exact ⟨_, rfl, by omega, by omega, by simp only [szItm]; exact ⟨fun _ => by omega, fun _ => by omega⟩, below1 _ _⟩
  go_wp2
  go_ret
  exact ⟨_, rfl, by omega, by omega, by simp only [szItm]; exact ⟨fun _ => by omega, fun _ => by omega⟩, below1 _ _⟩
set_option maxHeartbeats 1600000 in
theorem toItem_any (v : Value) (u : Itm) (w : World) (S : Nat → Prop) (hv : ItmAt w S v u) (hS : ∀ g, S g → g < w.heap.size) (hf : szItm u ≤ 1048576) :
    Calls Try.prog 128 #[v] w fun e w' => ∃ v', e = .returned v' ∧ ItmAt w' (seg w.heap.size w'.heap.size) v' u ∧ Below w.heap.size w w' := by
  obtain ⟨f, rfl, y0, y1⟩ := hv
  try simp only [arrItm]
  rw [show f 0 = _ from y0]
  clear y0
  rw [show f 1 = _ from y1]
  clear y1
  go_enter Try.func128, Try.ntmps128
  go_wp2
  exact bodyPost_ret (v := .agg #[.int .i64 u.num, .string u.text]) (results_cell_row rfl _ _ (w.heap.size + 1) _ _ _ _ rfl (at3 _ _ _ _) Try.underlying179 rfl infoItm) rfl ⟨_, rfl, ⟨fun q => if q = 0 then .int .i64 u.num else .string u.text, rfl, rfl, rfl⟩, below3 _ _ _ _⟩
set_option maxHeartbeats 1600000 in
theorem eqItem_any (v v' : Value) (u : Itm) (w : World) (S S' : Nat → Prop) (hv : ItmAt w S v u) (hv' : ItmAt w S' v' u) (hS : ∀ g, S g → g < w.heap.size) (hS' : ∀ g, S' g → g < w.heap.size) :
    Calls Try.prog 131 #[v, v'] w fun e w' => e = .returned (.bool true) ∧ Below w.heap.size w w' := by
  obtain ⟨f, rfl, y0, y1⟩ := hv
  obtain ⟨f', rfl, y0', y1'⟩ := hv'
  try simp only [arrItm]
  rw [show f 0 = _ from y0]
  clear y0
  rw [show f 1 = _ from y1]
  clear y1
  try simp only [arrItm]
  rw [show f' 0 = _ from y0']
  clear y0'
  rw [show f' 1 = _ from y1']
  clear y1'
  go_enter Try.func131, Try.ntmps131
  go_wp2
  go_ret
  exact ⟨rfl, below2 _ _ _⟩
end Go.Proofs.Ytfdfhhiaalbfiaa.Ls
