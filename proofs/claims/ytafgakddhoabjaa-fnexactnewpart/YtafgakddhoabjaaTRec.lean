/- Record: how it lies in memory; what the law's measure and copier answer. -/
import Derived.Test.YtafgakddhoabjaaTHds
namespace Go.Proofs.Ytafgakddhoabjaa.Ls
set_option maxRecDepth 8000
open Go.RowKit
open Recs
set_option linter.unusedVariables false
def ERec : Elt Rec := fun w S f u => f 0 = .int .i64 u.time ∧ f 1 = .bool u.keyed ∧ f 2 = .string u.key ∧ f 3 = .bool u.gone ∧ f 4 = .string u.val ∧ LAt 2 EHd w S (f 5) u.heads
theorem keepsRec : Keeps 6 ERec := fun w w' S f f' t h hk hf => by
  obtain ⟨h0, h1, h2, h3, h4, h5⟩ := h
  exact ⟨by rw [hf 0 (by omega)]; exact h0, by rw [hf 1 (by omega)]; exact h1, by rw [hf 2 (by omega)]; exact h2, by rw [hf 3 (by omega)]; exact h3, by rw [hf 4 (by omega)]; exact h4, by rw [hf 5 (by omega)]; exact h5.keep keepsHd hk⟩
theorem growsRec : Grows ERec := fun w S S' f t h hs => by
  obtain ⟨h0, h1, h2, h3, h4, h5⟩ := h
  exact ⟨h0, h1, h2, h3, h4, h5.mono growsHd hs⟩
def arrRec (f : Nat → Value) : Array Value := #[f 0, f 1, f 2, f 3, f 4, f 5]
theorem oneRec {w : World} {S : Nat → Prop} {f : Nat → Value} {u : Rec} (h : ERec w S f u) : (arrRec f).all (·.oneCell') = true := by
  obtain ⟨h0, h1, h2, h3, h4, h5⟩ := h
  have o0 : (f 0).oneCell' = true := by rw [h0]; rfl
  have o1 : (f 1).oneCell' = true := by rw [h1]; rfl
  have o2 : (f 2).oneCell' = true := by rw [h2]; rfl
  have o3 : (f 3).oneCell' = true := by rw [h3]; rfl
  have o4 : (f 4).oneCell' = true := by rw [h4]; rfl
  have o5 : (f 5).oneCell' = true := h5.one
  simp [arrRec, o0, o1, o2, o3, o4, o5]
def RecAt (w : World) (S : Nat → Prop) (v : Value) (u : Rec) : Prop := ∃ f, v = .agg (arrRec f) ∧ ERec w S f u
abbrev RecsAt := LAt 6 ERec
theorem RecAt.keep {w w' : World} {S : Nat → Prop} {v : Value} {u : Rec} (h : RecAt w S v u) (hk : ∀ g, S g → w'.heap[g]? = w.heap[g]?) : RecAt w' S v u := by
  obtain ⟨f, h1, h2⟩ := h
  exact ⟨f, h1, keepsRec _ _ _ _ _ _ h2 hk (fun _ _ => rfl)⟩
theorem RecAt.mono {w : World} {S S' : Nat → Prop} {v : Value} {u : Rec} (h : RecAt w S v u) (hs : ∀ g, S g → S' g) : RecAt w S' v u := by
  obtain ⟨f, h1, h2⟩ := h
  exact ⟨f, h1, growsRec _ _ _ _ _ h2 hs⟩
theorem RecAt.below {w w' : World} {B : Nat} {S : Nat → Prop} {v : Value} {u : Rec} (h : RecAt w S v u) (hb : Below B w w') (hs : ∀ g, S g → g < B) : RecAt w' S v u := h.keep fun g hg => hb.block g (hs g hg)
def szRec (u : Rec) : Nat := u.key.size + u.val.size + szL szHd (u.heads)
def FineRec (u : Rec) : Prop := I64 u.time ∧ True ∧ u.key.size ≤ maxLen ∧ True ∧ u.val.size ≤ maxLen ∧ FineL FineHd u.heads
theorem infoRec : (Try.prog.info? 56).map (·.size) = some 6 := by kernel_rfl
theorem infoZRec : (Try.prog.info? 56).map (fun i => (i.zero, i.size, i.bytes)) = some (some (.agg #[.int .i64 0, .bool false, .string ByteArray.empty, .bool false, .string ByteArray.empty, .slice none 0 0]), 6, 80) := by kernel_rfl
set_option maxHeartbeats 1600000 in
theorem eqRecord_any (v v' : Value) (u : Rec) (w : World) (S S' : Nat → Prop) (hv : RecAt w S v u) (hv' : RecAt w S' v' u) (hS : ∀ g, S g → g < w.heap.size) (hS' : ∀ g, S' g → g < w.heap.size) :
    Calls Try.prog 36 #[v, v'] w fun e w' => e = .returned (.bool true) ∧ Below w.heap.size w w' := by
  obtain ⟨f, rfl, y0, y1, y2, y3, y4, y5⟩ := hv
  obtain ⟨f', rfl, y0', y1', y2', y3', y4', y5'⟩ := hv'
  try simp only [arrRec]
  rw [show f 0 = _ from y0]
  clear y0
  rw [show f 1 = _ from y1]
  clear y1
  rw [show f 2 = _ from y2]
  clear y2
  rw [show f 3 = _ from y3]
  clear y3
  rw [show f 4 = _ from y4]
  clear y4
  obtain ⟨A5, c5, g5⟩ := y5.form
  rw [g5] at y5 ⊢
  have H5 := Seg.hid y5
  clear y5 g5
  try simp only [arrRec]
  rw [show f' 0 = _ from y0']
  clear y0'
  rw [show f' 1 = _ from y1']
  clear y1'
  rw [show f' 2 = _ from y2']
  clear y2'
  rw [show f' 3 = _ from y3']
  clear y3'
  rw [show f' 4 = _ from y4']
  clear y4'
  obtain ⟨A5', c5', g5'⟩ := y5'.form
  rw [g5'] at y5' ⊢
  have H5' := Seg.hid y5'
  clear y5' g5'
  go_enter Try.func36, Try.ntmps36
  go_wp2_with fail
  refine (eqHeadS_any _ _ u.heads ((w.alloc _).alloc _) S S' (H5.out.below keepsHd (below2 w _ _) hS) (H5'.out.below keepsHd (below2 w _ _) hS') (fun g hg => by rw [hsz, hsz]; have := hS g hg; omega) (fun g hg => by rw [hsz, hsz]; have := hS' g hg; omega)).mono ?_
  rintro e w1 ⟨rfl, b1⟩
  have B1 := Seg.hid (chain (below2 w _ _) b1)
  clear b1
  go_wp2
  go_ret
  exact ⟨rfl, B1.out⟩
end Go.Proofs.Ytafgakddhoabjaa.Ls
