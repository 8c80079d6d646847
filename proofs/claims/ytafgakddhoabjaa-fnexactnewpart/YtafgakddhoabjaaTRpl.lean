/- Replica: how it lies in memory; what the law's measure and copier answer. -/
import Derived.Test.YtafgakddhoabjaaTLg
namespace Go.Proofs.Ytafgakddhoabjaa.Ls
set_option maxRecDepth 8000
open Go.RowKit
open Recs
open SegW (Sg)
open LogW (Lg)
set_option linter.unusedVariables false
structure Rpl where
  start : Int
  next : Int
  roll : Int
  segs : List Sg
  mark : Int
  up : Bool
  deriving Inhabited
def ERpl : Elt Rpl := fun w S f u => f 0 = .int .i64 u.start ∧ f 1 = .int .i64 u.next ∧ f 2 = .int .i64 u.roll ∧ LAt 2 ESg w S (f 3) u.segs ∧ f 4 = .int .i64 u.mark ∧ f 5 = .bool u.up
theorem keepsRpl : Keeps 6 ERpl := fun w w' S f f' t h hk hf => by
  obtain ⟨h0, h1, h2, h3, h4, h5⟩ := h
  exact ⟨by rw [hf 0 (by omega)]; exact h0, by rw [hf 1 (by omega)]; exact h1, by rw [hf 2 (by omega)]; exact h2, by rw [hf 3 (by omega)]; exact h3.keep keepsSg hk, by rw [hf 4 (by omega)]; exact h4, by rw [hf 5 (by omega)]; exact h5⟩
theorem growsRpl : Grows ERpl := fun w S S' f t h hs => by
  obtain ⟨h0, h1, h2, h3, h4, h5⟩ := h
  exact ⟨h0, h1, h2, h3.mono growsSg hs, h4, h5⟩
def arrRpl (f : Nat → Value) : Array Value := #[f 0, f 1, f 2, f 3, f 4, f 5]
theorem oneRpl {w : World} {S : Nat → Prop} {f : Nat → Value} {u : Rpl} (h : ERpl w S f u) : (arrRpl f).all (·.oneCell') = true := by
  obtain ⟨h0, h1, h2, h3, h4, h5⟩ := h
  have o0 : (f 0).oneCell' = true := by rw [h0]; rfl
  have o1 : (f 1).oneCell' = true := by rw [h1]; rfl
  have o2 : (f 2).oneCell' = true := by rw [h2]; rfl
  have o3 : (f 3).oneCell' = true := h3.one
  have o4 : (f 4).oneCell' = true := by rw [h4]; rfl
  have o5 : (f 5).oneCell' = true := by rw [h5]; rfl
  simp [arrRpl, o0, o1, o2, o3, o4, o5]
def RplAt (w : World) (S : Nat → Prop) (v : Value) (u : Rpl) : Prop := ∃ f, v = .agg (arrRpl f) ∧ ERpl w S f u
abbrev RplsAt := LAt 6 ERpl
theorem RplAt.keep {w w' : World} {S : Nat → Prop} {v : Value} {u : Rpl} (h : RplAt w S v u) (hk : ∀ g, S g → w'.heap[g]? = w.heap[g]?) : RplAt w' S v u := by
  obtain ⟨f, h1, h2⟩ := h
  exact ⟨f, h1, keepsRpl _ _ _ _ _ _ h2 hk (fun _ _ => rfl)⟩
theorem RplAt.mono {w : World} {S S' : Nat → Prop} {v : Value} {u : Rpl} (h : RplAt w S v u) (hs : ∀ g, S g → S' g) : RplAt w S' v u := by
  obtain ⟨f, h1, h2⟩ := h
  exact ⟨f, h1, growsRpl _ _ _ _ _ h2 hs⟩
theorem RplAt.below {w w' : World} {B : Nat} {S : Nat → Prop} {v : Value} {u : Rpl} (h : RplAt w S v u) (hb : Below B w w') (hs : ∀ g, S g → g < B) : RplAt w' S v u := h.keep fun g hg => hb.block g (hs g hg)
def szRpl (u : Rpl) : Nat := szLg (⟨u.start, u.next, u.roll, u.segs⟩ : Lg)
def FineRpl (u : Rpl) : Prop := I64 u.start ∧ I64 u.next ∧ I64 u.roll ∧ FineL FineSg u.segs ∧ I64 u.mark ∧ True
theorem infoRpl : (Try.prog.info? 35).map (·.size) = some 6 := by kernel_rfl
theorem infoZRpl : (Try.prog.info? 35).map (fun i => (i.zero, i.size, i.bytes)) = some (some (.agg #[.int .i64 0, .int .i64 0, .int .i64 0, .slice none 0 0, .int .i64 0, .bool false]), 6, 64) := by kernel_rfl
set_option maxHeartbeats 1600000 in
theorem eqReplica_any (v v' : Value) (u : Rpl) (w : World) (S S' : Nat → Prop) (hv : RplAt w S v u) (hv' : RplAt w S' v' u) (hS : ∀ g, S g → g < w.heap.size) (hS' : ∀ g, S' g → g < w.heap.size) :
    Calls Try.prog 20 #[v, v'] w fun e w' => e = .returned (.bool true) ∧ Below w.heap.size w w' := by
  obtain ⟨f, rfl, y0, y1, y2, y3, y4, y5⟩ := hv
  obtain ⟨f', rfl, y0', y1', y2', y3', y4', y5'⟩ := hv'
  try simp only [arrRpl]
  rw [show f 0 = _ from y0]
  clear y0
  rw [show f 1 = _ from y1]
  clear y1
  rw [show f 2 = _ from y2]
  clear y2
  obtain ⟨A3, c3, g3⟩ := y3.form
  rw [g3] at y3 ⊢
  have H3 := Seg.hid y3
  clear y3 g3
  rw [show f 4 = _ from y4]
  clear y4
  rw [show f 5 = _ from y5]
  clear y5
  try simp only [arrRpl]
  rw [show f' 0 = _ from y0']
  clear y0'
  rw [show f' 1 = _ from y1']
  clear y1'
  rw [show f' 2 = _ from y2']
  clear y2'
  obtain ⟨A3', c3', g3'⟩ := y3'.form
  rw [g3'] at y3' ⊢
  have H3' := Seg.hid y3'
  clear y3' g3'
  rw [show f' 4 = _ from y4']
  clear y4'
  rw [show f' 5 = _ from y5']
  clear y5'
  have G0 : Hid (LgAt w S (.agg #[.int .i64 u.start, .int .i64 u.next, .int .i64 u.roll, .slice A3 u.segs.length c3]) (⟨u.start, u.next, u.roll, u.segs⟩ : Lg)) := ⟨fun q => if q = 0 then .int .i64 u.start else if q = 1 then .int .i64 u.next else if q = 2 then .int .i64 u.roll else .slice A3 u.segs.length c3, rfl, rfl, rfl, rfl, H3.out⟩
  have G0' : Hid (LgAt w S' (.agg #[.int .i64 u.start, .int .i64 u.next, .int .i64 u.roll, .slice A3' u.segs.length c3']) (⟨u.start, u.next, u.roll, u.segs⟩ : Lg)) := ⟨fun q => if q = 0 then .int .i64 u.start else if q = 1 then .int .i64 u.next else if q = 2 then .int .i64 u.roll else .slice A3' u.segs.length c3', rfl, rfl, rfl, rfl, H3'.out⟩
  go_enter Try.func20, Try.ntmps20
  go_wp2_with fail
  refine (eqLog_any _ _ (⟨u.start, u.next, u.roll, u.segs⟩ : Lg) ((w.alloc _).alloc _) S S' (G0.out.below (below2 w _ _) hS) (G0'.out.below (below2 w _ _) hS') (fun g hg => by rw [hsz, hsz]; have := hS g hg; omega) (fun g hg => by rw [hsz, hsz]; have := hS' g hg; omega)).mono ?_
  rintro e w1 ⟨rfl, b1⟩
  have B1 := Seg.hid (chain (below2 w _ _) b1)
  have Ta1 : Hid (w1.heap[w.heap.size]? = some (.cells #[.int .i64 u.start, .int .i64 u.next, .int .i64 u.roll, .slice A3 u.segs.length c3, .int .i64 u.mark, .bool u.up] 35 (0, 0))) := (b1.block w.heap.size (by rw [hsz, hsz]; omega)).trans (at2z w _ _)
  have Tb1 : Hid (w1.heap[w.heap.size + 1]? = some (.cells #[.int .i64 u.start, .int .i64 u.next, .int .i64 u.roll, .slice A3' u.segs.length c3', .int .i64 u.mark, .bool u.up] 35 (0, 0))) := (b1.block (w.heap.size + 1) (by rw [hsz, hsz]; omega)).trans (at2y w _ _)
  have s1 : w.heap.size + 1 < w1.heap.size := (Array.getElem?_eq_some_iff.1 Tb1.out).1
  have pa14 : w1.cell? ⟨w.heap.size, 4, none⟩ = some (.int .i64 u.mark) := cell_of_row w1 _ 4 _ _ (0, 0) Ta1.out
  have pb14 : w1.cell? ⟨w.heap.size + 1, 4, none⟩ = some (.int .i64 u.mark) := cell_of_row w1 _ 4 _ _ (0, 0) Tb1.out
  have pa15 : w1.cell? ⟨w.heap.size, 5, none⟩ = some (.bool u.up) := cell_of_row w1 _ 5 _ _ (0, 0) Ta1.out
  have pb15 : w1.cell? ⟨w.heap.size + 1, 5, none⟩ = some (.bool u.up) := cell_of_row w1 _ 5 _ _ (0, 0) Tb1.out
  clear b1
  go_wp2
  go_ret
  exact ⟨rfl, B1.out⟩
end Go.Proofs.Ytafgakddhoabjaa.Ls
