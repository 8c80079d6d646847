/- Segment: how it lies in memory; what the law's measure and copier answer. -/
import Derived.Test.YtafgakddhoabjaaTBats
import Derived.Test.YtafgakddhoabjaaSegW
namespace Go.Proofs.Ytafgakddhoabjaa.Ls
set_option maxRecDepth 8000
open Go.RowKit
open Recs
open SegW (Sg)
set_option linter.unusedVariables false
def ESg : Elt Sg := fun w S f u => f 0 = .int .i64 u.base ∧ LAt 7 EBat w S (f 1) u.bats
theorem keepsSg : Keeps 2 ESg := fun w w' S f f' t h hk hf => by
  obtain ⟨h0, h1⟩ := h
  exact ⟨by rw [hf 0 (by omega)]; exact h0, by rw [hf 1 (by omega)]; exact h1.keep keepsBat hk⟩
theorem growsSg : Grows ESg := fun w S S' f t h hs => by
  obtain ⟨h0, h1⟩ := h
  exact ⟨h0, h1.mono growsBat hs⟩
def arrSg (f : Nat → Value) : Array Value := #[f 0, f 1]
theorem oneSg {w : World} {S : Nat → Prop} {f : Nat → Value} {u : Sg} (h : ESg w S f u) : (arrSg f).all (·.oneCell') = true := by
  obtain ⟨h0, h1⟩ := h
  have o0 : (f 0).oneCell' = true := by rw [h0]; rfl
  have o1 : (f 1).oneCell' = true := h1.one
  simp [arrSg, o0, o1]
def SgAt (w : World) (S : Nat → Prop) (v : Value) (u : Sg) : Prop := ∃ f, v = .agg (arrSg f) ∧ ESg w S f u
abbrev SgsAt := LAt 2 ESg
theorem SgAt.keep {w w' : World} {S : Nat → Prop} {v : Value} {u : Sg} (h : SgAt w S v u) (hk : ∀ g, S g → w'.heap[g]? = w.heap[g]?) : SgAt w' S v u := by
  obtain ⟨f, h1, h2⟩ := h
  exact ⟨f, h1, keepsSg _ _ _ _ _ _ h2 hk (fun _ _ => rfl)⟩
theorem SgAt.mono {w : World} {S S' : Nat → Prop} {v : Value} {u : Sg} (h : SgAt w S v u) (hs : ∀ g, S g → S' g) : SgAt w S' v u := by
  obtain ⟨f, h1, h2⟩ := h
  exact ⟨f, h1, growsSg _ _ _ _ _ h2 hs⟩
theorem SgAt.below {w w' : World} {B : Nat} {S : Nat → Prop} {v : Value} {u : Sg} (h : SgAt w S v u) (hb : Below B w w') (hs : ∀ g, S g → g < B) : SgAt w' S v u := h.keep fun g hg => hb.block g (hs g hg)
def szSg (u : Sg) : Nat := szL szBat (u.bats)
def FineSg (u : Sg) : Prop := I64 u.base ∧ FineL FineBat u.bats
theorem infoSg : (Try.prog.info? 46).map (·.size) = some 2 := by kernel_rfl
theorem infoZSg : (Try.prog.info? 46).map (fun i => (i.zero, i.size, i.bytes)) = some (some (.agg #[.int .i64 0, .slice none 0 0]), 2, 32) := by kernel_rfl
set_option maxHeartbeats 1600000 in
theorem eqSegment_any (v v' : Value) (u : Sg) (w : World) (S S' : Nat → Prop) (hv : SgAt w S v u) (hv' : SgAt w S' v' u) (hS : ∀ g, S g → g < w.heap.size) (hS' : ∀ g, S' g → g < w.heap.size) :
    Calls Try.prog 29 #[v, v'] w fun e w' => e = .returned (.bool true) ∧ Below w.heap.size w w' := by
  obtain ⟨f, rfl, y0, y1⟩ := hv
  obtain ⟨f', rfl, y0', y1'⟩ := hv'
  try simp only [arrSg]
  rw [show f 0 = _ from y0]
  clear y0
  obtain ⟨A1, c1, g1⟩ := y1.form
  rw [g1] at y1 ⊢
  have H1 := Seg.hid y1
  clear y1 g1
  try simp only [arrSg]
  rw [show f' 0 = _ from y0']
  clear y0'
  obtain ⟨A1', c1', g1'⟩ := y1'.form
  rw [g1'] at y1' ⊢
  have H1' := Seg.hid y1'
  clear y1' g1'
  go_enter Try.func29, Try.ntmps29
  go_wp2_with fail
  refine (eqBatchS_any _ _ u.bats ((w.alloc _).alloc _) S S' (H1.out.below keepsBat (below2 w _ _) hS) (H1'.out.below keepsBat (below2 w _ _) hS') (fun g hg => by rw [hsz, hsz]; have := hS g hg; omega) (fun g hg => by rw [hsz, hsz]; have := hS' g hg; omega)).mono ?_
  rintro e w1 ⟨rfl, b1⟩
  have B1 := Seg.hid (chain (below2 w _ _) b1)
  clear b1
  go_wp2
  go_ret
  exact ⟨rfl, B1.out⟩
end Go.Proofs.Ytafgakddhoabjaa.Ls
