/- Batch: how it lies in memory; what the law's measure and copier answer. -/
import Derived.Test.YtafgakddhoabjaaTRecs
namespace Go.Proofs.Ytafgakddhoabjaa.Ls
set_option maxRecDepth 8000
open Go.RowKit
open Recs
set_option linter.unusedVariables false
def EBat : Elt Bat := fun w S f u => f 0 = .int .i64 u.base ∧ f 1 = .int .i64 u.epoch ∧ f 2 = .int .i64 u.producer ∧ f 3 = .int .i64 u.turn ∧ f 4 = .int .i64 u.seq ∧ f 5 = .int .i64 u.flags ∧ LAt 6 ERec w S (f 6) u.recs
theorem keepsBat : Keeps 7 EBat := fun w w' S f f' t h hk hf => by
  obtain ⟨h0, h1, h2, h3, h4, h5, h6⟩ := h
  exact ⟨by rw [hf 0 (by omega)]; exact h0, by rw [hf 1 (by omega)]; exact h1, by rw [hf 2 (by omega)]; exact h2, by rw [hf 3 (by omega)]; exact h3, by rw [hf 4 (by omega)]; exact h4, by rw [hf 5 (by omega)]; exact h5, by rw [hf 6 (by omega)]; exact h6.keep keepsRec hk⟩
theorem growsBat : Grows EBat := fun w S S' f t h hs => by
  obtain ⟨h0, h1, h2, h3, h4, h5, h6⟩ := h
  exact ⟨h0, h1, h2, h3, h4, h5, h6.mono growsRec hs⟩
def arrBat (f : Nat → Value) : Array Value := #[f 0, f 1, f 2, f 3, f 4, f 5, f 6]
theorem oneBat {w : World} {S : Nat → Prop} {f : Nat → Value} {u : Bat} (h : EBat w S f u) : (arrBat f).all (·.oneCell') = true := by
  obtain ⟨h0, h1, h2, h3, h4, h5, h6⟩ := h
  have o0 : (f 0).oneCell' = true := by rw [h0]; rfl
  have o1 : (f 1).oneCell' = true := by rw [h1]; rfl
  have o2 : (f 2).oneCell' = true := by rw [h2]; rfl
  have o3 : (f 3).oneCell' = true := by rw [h3]; rfl
  have o4 : (f 4).oneCell' = true := by rw [h4]; rfl
  have o5 : (f 5).oneCell' = true := by rw [h5]; rfl
  have o6 : (f 6).oneCell' = true := h6.one
  simp [arrBat, o0, o1, o2, o3, o4, o5, o6]
def BatAt (w : World) (S : Nat → Prop) (v : Value) (u : Bat) : Prop := ∃ f, v = .agg (arrBat f) ∧ EBat w S f u
abbrev BatsAt := LAt 7 EBat
theorem BatAt.keep {w w' : World} {S : Nat → Prop} {v : Value} {u : Bat} (h : BatAt w S v u) (hk : ∀ g, S g → w'.heap[g]? = w.heap[g]?) : BatAt w' S v u := by
  obtain ⟨f, h1, h2⟩ := h
  exact ⟨f, h1, keepsBat _ _ _ _ _ _ h2 hk (fun _ _ => rfl)⟩
theorem BatAt.mono {w : World} {S S' : Nat → Prop} {v : Value} {u : Bat} (h : BatAt w S v u) (hs : ∀ g, S g → S' g) : BatAt w S' v u := by
  obtain ⟨f, h1, h2⟩ := h
  exact ⟨f, h1, growsBat _ _ _ _ _ h2 hs⟩
theorem BatAt.below {w w' : World} {B : Nat} {S : Nat → Prop} {v : Value} {u : Bat} (h : BatAt w S v u) (hb : Below B w w') (hs : ∀ g, S g → g < B) : BatAt w' S v u := h.keep fun g hg => hb.block g (hs g hg)
def szBat (u : Bat) : Nat := szL szRec (u.recs)
def FineBat (u : Bat) : Prop := I64 u.base ∧ I64 u.epoch ∧ I64 u.producer ∧ I64 u.turn ∧ I64 u.seq ∧ I64 u.flags ∧ FineL FineRec u.recs
theorem infoBat : (Try.prog.info? 51).map (·.size) = some 7 := by kernel_rfl
theorem infoZBat : (Try.prog.info? 51).map (fun i => (i.zero, i.size, i.bytes)) = some (some (.agg #[.int .i64 0, .int .i64 0, .int .i64 0, .int .i64 0, .int .i64 0, .int .i64 0, .slice none 0 0]), 7, 72) := by kernel_rfl
set_option maxHeartbeats 1600000 in
theorem eqBatch_any (v v' : Value) (u : Bat) (w : World) (S S' : Nat → Prop) (hv : BatAt w S v u) (hv' : BatAt w S' v' u) (hS : ∀ g, S g → g < w.heap.size) (hS' : ∀ g, S' g → g < w.heap.size) :
    Calls Try.prog 34 #[v, v'] w fun e w' => e = .returned (.bool true) ∧ Below w.heap.size w w' := by
  obtain ⟨f, rfl, y0, y1, y2, y3, y4, y5, y6⟩ := hv
  obtain ⟨f', rfl, y0', y1', y2', y3', y4', y5', y6'⟩ := hv'
  try simp only [arrBat]
  rw [show f 0 = _ from y0]
  clear y0
  rw [show f 1 = _ from y1]
  clear y1
  rw [show f 2 = _ from y2]
  clear y2
  rw [show f 3 = _ from y3]
  clear y3
  rw [show f 4 = _ from y4]
  clear y4
  rw [show f 5 = _ from y5]
  clear y5
  obtain ⟨A6, c6, g6⟩ := y6.form
  rw [g6] at y6 ⊢
  have H6 := Seg.hid y6
  clear y6 g6
  try simp only [arrBat]
  rw [show f' 0 = _ from y0']
  clear y0'
  rw [show f' 1 = _ from y1']
  clear y1'
  rw [show f' 2 = _ from y2']
  clear y2'
  rw [show f' 3 = _ from y3']
  clear y3'
  rw [show f' 4 = _ from y4']
  clear y4'
  rw [show f' 5 = _ from y5']
  clear y5'
  obtain ⟨A6', c6', g6'⟩ := y6'.form
  rw [g6'] at y6' ⊢
  have H6' := Seg.hid y6'
  clear y6' g6'
  go_enter Try.func34, Try.ntmps34
  go_wp2_with fail
  refine (eqRecordS_any _ _ u.recs ((w.alloc _).alloc _) S S' (H6.out.below keepsRec (below2 w _ _) hS) (H6'.out.below keepsRec (below2 w _ _) hS') (fun g hg => by rw [hsz, hsz]; have := hS g hg; omega) (fun g hg => by rw [hsz, hsz]; have := hS' g hg; omega)).mono ?_
  rintro e w1 ⟨rfl, b1⟩
  have B1 := Seg.hid (chain (below2 w _ _) b1)
  clear b1
  go_wp2
  go_ret
  exact ⟨rfl, B1.out⟩
end Go.Proofs.Ytafgakddhoabjaa.Ls
