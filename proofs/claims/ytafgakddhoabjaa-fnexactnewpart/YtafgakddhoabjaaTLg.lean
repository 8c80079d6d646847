/- Log: how it lies in memory; what the law's measure and copier answer. -/
import Derived.Test.YtafgakddhoabjaaTSgs
import Derived.Test.YtafgakddhoabjaaLogW
namespace Go.Proofs.Ytafgakddhoabjaa.Ls
set_option maxRecDepth 8000
open Go.RowKit
open Recs
open SegW (Sg)
open LogW (Lg)
set_option linter.unusedVariables false
def ELg : Elt Lg := fun w S f u => f 0 = .int .i64 u.start ∧ f 1 = .int .i64 u.next ∧ f 2 = .int .i64 u.roll ∧ LAt 2 ESg w S (f 3) u.segs
theorem keepsLg : Keeps 4 ELg := fun w w' S f f' t h hk hf => by
  obtain ⟨h0, h1, h2, h3⟩ := h
  exact ⟨by rw [hf 0 (by omega)]; exact h0, by rw [hf 1 (by omega)]; exact h1, by rw [hf 2 (by omega)]; exact h2, by rw [hf 3 (by omega)]; exact h3.keep keepsSg hk⟩
theorem growsLg : Grows ELg := fun w S S' f t h hs => by
  obtain ⟨h0, h1, h2, h3⟩ := h
  exact ⟨h0, h1, h2, h3.mono growsSg hs⟩
def arrLg (f : Nat → Value) : Array Value := #[f 0, f 1, f 2, f 3]
theorem oneLg {w : World} {S : Nat → Prop} {f : Nat → Value} {u : Lg} (h : ELg w S f u) : (arrLg f).all (·.oneCell') = true := by
  obtain ⟨h0, h1, h2, h3⟩ := h
  have o0 : (f 0).oneCell' = true := by rw [h0]; rfl
  have o1 : (f 1).oneCell' = true := by rw [h1]; rfl
  have o2 : (f 2).oneCell' = true := by rw [h2]; rfl
  have o3 : (f 3).oneCell' = true := h3.one
  simp [arrLg, o0, o1, o2, o3]
def LgAt (w : World) (S : Nat → Prop) (v : Value) (u : Lg) : Prop := ∃ f, v = .agg (arrLg f) ∧ ELg w S f u
abbrev LgsAt := LAt 4 ELg
theorem LgAt.keep {w w' : World} {S : Nat → Prop} {v : Value} {u : Lg} (h : LgAt w S v u) (hk : ∀ g, S g → w'.heap[g]? = w.heap[g]?) : LgAt w' S v u := by
  obtain ⟨f, h1, h2⟩ := h
  exact ⟨f, h1, keepsLg _ _ _ _ _ _ h2 hk (fun _ _ => rfl)⟩
theorem LgAt.mono {w : World} {S S' : Nat → Prop} {v : Value} {u : Lg} (h : LgAt w S v u) (hs : ∀ g, S g → S' g) : LgAt w S' v u := by
  obtain ⟨f, h1, h2⟩ := h
  exact ⟨f, h1, growsLg _ _ _ _ _ h2 hs⟩
theorem LgAt.below {w w' : World} {B : Nat} {S : Nat → Prop} {v : Value} {u : Lg} (h : LgAt w S v u) (hb : Below B w w') (hs : ∀ g, S g → g < B) : LgAt w' S v u := h.keep fun g hg => hb.block g (hs g hg)
def szLg (u : Lg) : Nat := szL szSg (u.segs)
def FineLg (u : Lg) : Prop := I64 u.start ∧ I64 u.next ∧ I64 u.roll ∧ FineL FineSg u.segs
theorem infoLg : (Try.prog.info? 32).map (·.size) = some 4 := by kernel_rfl
theorem infoZLg : (Try.prog.info? 32).map (fun i => (i.zero, i.size, i.bytes)) = some (some (.agg #[.int .i64 0, .int .i64 0, .int .i64 0, .slice none 0 0]), 4, 48) := by kernel_rfl
set_option maxHeartbeats 1600000 in
theorem eqLog_any (v v' : Value) (u : Lg) (w : World) (S S' : Nat → Prop) (hv : LgAt w S v u) (hv' : LgAt w S' v' u) (hS : ∀ g, S g → g < w.heap.size) (hS' : ∀ g, S' g → g < w.heap.size) :
    Calls Try.prog 23 #[v, v'] w fun e w' => e = .returned (.bool true) ∧ Below w.heap.size w w' := by
  obtain ⟨f, rfl, y0, y1, y2, y3⟩ := hv
  obtain ⟨f', rfl, y0', y1', y2', y3'⟩ := hv'
  try simp only [arrLg]
  rw [show f 0 = _ from y0]
  clear y0
  rw [show f 1 = _ from y1]
  clear y1
  rw [show f 2 = _ from y2]
  clear y2
  obtain ⟨A3, c3, g3⟩ := y3.form
  rw [g3] at y3 ⊢
  have H3 := Seg.hid y3
  clear y3 g3
  try simp only [arrLg]
  rw [show f' 0 = _ from y0']
  clear y0'
  rw [show f' 1 = _ from y1']
  clear y1'
  rw [show f' 2 = _ from y2']
  clear y2'
  obtain ⟨A3', c3', g3'⟩ := y3'.form
  rw [g3'] at y3' ⊢
  have H3' := Seg.hid y3'
  clear y3' g3'
  go_enter Try.func23, Try.ntmps23
  go_wp2_with fail
  refine (eqSegmentS_any _ _ u.segs ((w.alloc _).alloc _) S S' (H3.out.below keepsSg (below2 w _ _) hS) (H3'.out.below keepsSg (below2 w _ _) hS') (fun g hg => by rw [hsz, hsz]; have := hS g hg; omega) (fun g hg => by rw [hsz, hsz]; have := hS' g hg; omega)).mono ?_
  rintro e w1 ⟨rfl, b1⟩
  have B1 := Seg.hid (chain (below2 w _ _) b1)
  clear b1
  go_wp2
  go_ret
  exact ⟨rfl, B1.out⟩
end Go.Proofs.Ytafgakddhoabjaa.Ls
