/- Log: how it lies in memory; what the law's measure and copier answer. -/
import Derived.Test.YtdhicmbfknagjaaTSgs
import Derived.Test.YtdhicmbfknagjaaLogW
namespace Go.Proofs.Ytdhicmbfknagjaa.Ls
set_option maxRecDepth 8000
open Go.RowKit
open Recs
open SegW (Sg)
open LogW (Lg)
set_option linter.unusedVariables false
def ELg : Elt Lg := fun w S f u => f 0 = .int .i64 u.start ∧ f 1 = .int .i64 u.next ∧ f 2 = .int .i64 u.roll ∧ LAt 2 ESg w S (f 3) u.segs
theorem keepsLg : Keeps 4 ELg := fun w w' S f f' t h hk hf => by
  obtain ⟨h0, h1, h2, h3⟩ := h
  exact ⟨by rw [hf 0 (by omega)]; exact h0, by rw [hf 1 (by omega)]; exact h1, by rw [hf 2 (by omega)]; exact h2, by rw [hf 3 (by omega)]; exact h3.keep keepsSg hk⟩
theorem growsLg : Grows ELg := fun w S S' f t h hs => by
  obtain ⟨h0, h1, h2, h3⟩ := h
  exact ⟨h0, h1, h2, h3.mono growsSg hs⟩
def arrLg (f : Nat → Value) : Array Value := #[f 0, f 1, f 2, f 3]
theorem oneLg {w : World} {S : Nat → Prop} {f : Nat → Value} {u : Lg} (h : ELg w S f u) : (arrLg f).all (·.oneCell') = true := by
  obtain ⟨h0, h1, h2, h3⟩ := h
  have o0 : (f 0).oneCell' = true := by rw [h0]; rfl
  have o1 : (f 1).oneCell' = true := by rw [h1]; rfl
  have o2 : (f 2).oneCell' = true := by rw [h2]; rfl
  have o3 : (f 3).oneCell' = true := h3.one
  simp [arrLg, o0, o1, o2, o3]
def LgAt (w : World) (S : Nat → Prop) (v : Value) (u : Lg) : Prop := ∃ f, v = .agg (arrLg f) ∧ ELg w S f u
abbrev LgsAt := LAt 4 ELg
theorem LgAt.keep {w w' : World} {S : Nat → Prop} {v : Value} {u : Lg} (h : LgAt w S v u) (hk : ∀ g, S g → w'.heap[g]? = w.heap[g]?) : LgAt w' S v u := by
  obtain ⟨f, h1, h2⟩ := h
  exact ⟨f, h1, keepsLg _ _ _ _ _ _ h2 hk (fun _ _ => rfl)⟩
theorem LgAt.mono {w : World} {S S' : Nat → Prop} {v : Value} {u : Lg} (h : LgAt w S v u) (hs : ∀ g, S g → S' g) : LgAt w S' v u := by
  obtain ⟨f, h1, h2⟩ := h
  exact ⟨f, h1, growsLg _ _ _ _ _ h2 hs⟩
theorem LgAt.below {w w' : World} {B : Nat} {S : Nat → Prop} {v : Value} {u : Lg} (h : LgAt w S v u) (hb : Below B w w') (hs : ∀ g, S g → g < B) : LgAt w' S v u := h.keep fun g hg => hb.block g (hs g hg)
def szLg (u : Lg) : Nat := szL szSg (u.segs)
def FineLg (u : Lg) : Prop := I64 u.start ∧ I64 u.next ∧ I64 u.roll ∧ FineL FineSg u.segs
theorem infoLg : (Try.prog.info? 70).map (·.size) = some 4 := by kernel_rfl
theorem infoLLg : (Try.prog.info? 110).map (·.size) = some 4 := by kernel_rfl
theorem infoZLg : (Try.prog.info? 70).map (fun i => (i.zero, i.size, i.bytes)) = some (some (.agg #[.int .i64 0, .int .i64 0, .int .i64 0, .slice none 0 0]), 4, 48) := by kernel_rfl
set_option maxHeartbeats 800000 in
theorem szLog_any (v : Value) (u : Lg) (l : Int) (w : World) (S : Nat → Prop) (h3 : -1 ≤ l) (h4 : l ≤ 1048576) (hv : LgAt w S v u) (hS : ∀ g, S g → g < w.heap.size) (hf : FineLg u) :
    Calls Try.prog 70 #[v, .int .i64 l] w fun e w' => ∃ q, e = .returned (.int .i64 q) ∧ -1 ≤ q ∧ q ≤ l ∧ Lf l (szLg u) q ∧ Below w.heap.size w w' := by
  obtain ⟨f, rfl, y0, y1, y2, y3⟩ := hv
  try simp only [arrLg]
  rw [show f 0 = _ from y0]
  clear y0
  rw [show f 1 = _ from y1]
  clear y1
  rw [show f 2 = _ from y2]
  clear y2
  obtain ⟨A3, c3, g3⟩ := y3.form
  rw [g3] at y3 ⊢
  have H3 := Seg.hid y3
  clear y3 g3
  obtain ⟨z0, z1, z2, z3⟩ := hf
  have Z3 := Seg.hid z3
  clear z0 z1 z2 z3
  go_enter Try.func70, Try.ntmps70
  go_wp2_with fail
  refine (szSegmentS_any _ u.segs _ (w.alloc _) S (by omega) (by omega) (H3.out.below keepsSg (below1 w _) hS) (fun g hg => by rw [hsz]; have := hS g hg; omega) Z3.out).mono ?_
  rintro e w1 ⟨q1, rfl, a1, b1, L1', d1⟩
  have B1 := Seg.hid (chain (below1 w _) d1)
  have L1 := Seg.hid L1'
  clear d1 L1'
  by_cases k3 : q1 < 0
  · go_wp2
    go_ret
    exact ⟨_, rfl, by omega, by omega, by have m0 := L1.out.2 (by omega); simp only [szLg]; exact ⟨fun _ => by omega, fun _ => by omega⟩, B1.out⟩
  go_wp2
  go_ret
  exact ⟨_, rfl, by omega, by omega, by have m0 := L1.out.1 (by omega); simp only [szLg]; exact ⟨fun _ => by omega, fun _ => by omega⟩, B1.out⟩
set_option maxHeartbeats 1600000 in
theorem toLog_any (v : Value) (u : Lg) (w : World) (S : Nat → Prop) (hv : LgAt w S v u) (hS : ∀ g, S g → g < w.heap.size) (hf : szLg u ≤ 1048576) :
    Calls Try.prog 74 #[v] w fun e w' => ∃ v', e = .returned v' ∧ LgAt w' (seg w.heap.size w'.heap.size) v' u ∧ Below w.heap.size w w' := by
  obtain ⟨f, rfl, y0, y1, y2, y3⟩ := hv
  try simp only [arrLg]
  rw [show f 0 = _ from y0]
  clear y0
  rw [show f 1 = _ from y1]
  clear y1
  rw [show f 2 = _ from y2]
  clear y2
  obtain ⟨A3, c3, g3⟩ := y3.form
  rw [g3] at y3 ⊢
  have H3 := Seg.hid y3
  clear y3 g3
  unfold szLg at hf
  go_enter Try.func74, Try.ntmps74
  go_wp2_with fail
  refine (toSegmentS_any _ u.segs (((w.alloc _).alloc _).alloc _) S (H3.out.below keepsSg (below3 w _ _ _) hS) (fun g hg => by rw [hsz, hsz, hsz]; have := hS g hg; omega) (by omega)).mono ?_
  rintro e w1 ⟨v1, rfl, l1, b1⟩
  have B1 := Seg.hid (chain (below3 w _ _ _) b1)
  have Ta1 : Hid (w1.heap[w.heap.size]? = some (.cells #[.int .i64 u.start, .int .i64 u.next, .int .i64 u.roll, .slice A3 u.segs.length c3] 110 (0, 0))) := (b1.block w.heap.size (by rw [hsz, hsz, hsz]; omega)).trans (at3z w _ _ _)
  have Tr1 : Hid (w1.heap[w.heap.size + 1]? = some (.cells #[.int .i64 0, .int .i64 0, .int .i64 0, .slice none 0 0] 70 (0, 0))) := (b1.block (w.heap.size + 1) (by rw [hsz, hsz, hsz]; omega)).trans (at3 w _ _ _)
  have To1 : Hid (w1.heap[w.heap.size + 1 + 1]? = some (.cells #[.int .i64 u.start, .int .i64 u.next, .int .i64 u.roll, .slice none 0 0] 70 (0, 0))) := (b1.block (w.heap.size + 1 + 1) (by rw [hsz, hsz, hsz]; omega)).trans (Cells.at3' w _ _ _)
  have s1 : w.heap.size + 3 ≤ w1.heap.size := by have := b1.size; rw [hsz, hsz, hsz] at this; omega
  have M1 : Hid (LAt 2 ESg w1 (seg (w.heap.size + 3) w1.heap.size) v1 u.segs) := by
    rw [hsz, hsz, hsz] at l1
    exact l1
  obtain ⟨Y1, x1, r1⟩ := M1.out.form
  subst r1
  clear b1 l1
  have N11 := M1
  have po13 : (w1).cell? ⟨w.heap.size + 1 + 1, 3, none⟩ = some (.slice none 0 0) := cell_of_row (w1) _ 3 _ _ (0, 0) (To1.out)
  have pf13 : (w1).frozen? ⟨w.heap.size + 1 + 1, 3, none⟩ = false := frozen_of_row (w1) _ 3 _ _ (To1.out)
  have qo13 : Hid (((w1.setCell ⟨w.heap.size + 1 + 1, 3, none⟩ (.slice Y1 u.segs.length x1))).heap[w.heap.size + 1 + 1]? = some (.cells #[.int .i64 u.start, .int .i64 u.next, .int .i64 u.roll, .slice Y1 u.segs.length x1] 70 (0, 0))) := heap_setCell_same (w1) (w.heap.size + 1 + 1) 3 _ _ (.slice Y1 u.segs.length x1) (To1.out)
  have Uo1 := Seg.hid (qo13.out)
  have Ur1 := Seg.hid ((heap_setCell_other (w1) ⟨w.heap.size + 1 + 1, 3, none⟩ (w.heap.size + 1) (.slice Y1 u.segs.length x1) (by simp)).trans (Tr1.out))
  have Ua1 := Seg.hid ((heap_setCell_other (w1) ⟨w.heap.size + 1 + 1, 3, none⟩ w.heap.size (.slice Y1 u.segs.length x1) (by simp; omega)).trans (Ta1.out))
  have D1 : Hid (Below w.heap.size w (w1.setCell ⟨w.heap.size + 1 + 1, 3, none⟩ (.slice Y1 u.segs.length x1))) := (B1.out).setCell (p := ⟨w.heap.size + 1 + 1, 3, none⟩) (by simp; omega) (.slice Y1 u.segs.length x1)
  have N11' : Hid (LAt 2 ESg (w1.setCell ⟨w.heap.size + 1 + 1, 3, none⟩ (.slice Y1 u.segs.length x1)) (seg (w.heap.size + 3) w1.heap.size) (.slice Y1 u.segs.length x1) u.segs) := N11.out.keep keepsSg (fun g hg => by have := hg.1; rw [heap_setCell_other _ _ _ _ (by show _ ≠ w.heap.size + 1 + 1; omega)])
  obtain ⟨fx, hfx⟩ : ∃ fx : Nat → Value, fx = (fun q => if q = 0 then .int .i64 u.start else if q = 1 then .int .i64 u.next else if q = 2 then .int .i64 u.roll else .slice Y1 u.segs.length x1) := ⟨_, rfl⟩
  have HX := Seg.hid hfx
  have Uz : Hid ((w1.setCell ⟨w.heap.size + 1 + 1, 3, none⟩ (.slice Y1 u.segs.length x1)).heap[w.heap.size + 1 + 1]? = some (.cells (arrLg fx) 70 (0, 0))) := by
    show _ = _
    rw [hfx]
    exact Uo1.out
  clear hfx
  have H5a := Cells.there_of Ur1.out
  have H5 : Hid ((w1.setCell ⟨w.heap.size + 1 + 1, 3, none⟩ (.slice Y1 u.segs.length x1)).there (w.heap.size + 1) 0 (arrLg fx).size) := H5a
  clear H5a
  have H4 := Seg.hid (Cells.whole (vs := arrLg fx) Ur1.out rfl)
  have B9 := Seg.hid (Cells.below_setCells (g := w.heap.size + 1) (by omega) (arrLg fx).toList 0 _ _ D1.out)
  have F1 : Hid (LAt 2 ESg ((w1.setCell ⟨w.heap.size + 1 + 1, 3, none⟩ (.slice Y1 u.segs.length x1)).setCells (w.heap.size + 1) 0 (arrLg fx).toList) (seg w.heap.size ((w1.setCell ⟨w.heap.size + 1 + 1, 3, none⟩ (.slice Y1 u.segs.length x1)).setCells (w.heap.size + 1) 0 (arrLg fx).toList).heap.size) (fx 3) u.segs) := by
    show LAt 2 ESg _ _ _ _
    rw [show fx 3 = .slice Y1 u.segs.length x1 by rw [HX.out]; rfl]
    refine (N11'.out.keep keepsSg (fun g hg => ?_)).mono growsSg (fun g hg => ⟨by have := hg.1; omega, ?_⟩)
    · have := hg.1
      rw [Cells.heap_setCells_other _ _ (by omega)]
    · rw [Cells.size_setCells]
      have := hg.2
      simpa using this
  have EX : Hid (ELg ((w1.setCell ⟨w.heap.size + 1 + 1, 3, none⟩ (.slice Y1 u.segs.length x1)).setCells (w.heap.size + 1) 0 (arrLg fx).toList) (seg w.heap.size ((w1.setCell ⟨w.heap.size + 1 + 1, 3, none⟩ (.slice Y1 u.segs.length x1)).setCells (w.heap.size + 1) 0 (arrLg fx).toList).heap.size) fx u) := ⟨by rw [HX.out]; rfl, by rw [HX.out]; rfl, by rw [HX.out]; rfl, F1.out⟩
  have ON := Seg.hid (oneLg EX.out)
  clear Ta1 Tr1 To1 Ua1 M1
  go_upto_region 6 with fail
  clear po13 pf13
  generalize (w1.setCell ⟨w.heap.size + 1 + 1, 3, none⟩ (.slice Y1 u.segs.length x1)) = wz at *
  go_wp2_with (first | (refine wpList_load_row rfl 70 _ rfl (w.heap.size + 1 + 1) rfl _ _ _ _ Uz.out Try.underlying70 rfl infoLg ?_) | (refine wpList_store_mid rfl 70 _ _ rfl (w.heap.size + 1) 0 (arrLg fx) rfl rfl H5.out infoLg ON.out ?_))
  exact bodyPost_ret (v := .agg (arrLg fx)) (results_cell_row rfl _ _ (w.heap.size + 1) _ _ _ _ rfl H4.out Try.underlying70 rfl infoLg) rfl ⟨_, rfl, ⟨fx, rfl, EX.out⟩, B9.out⟩
set_option maxHeartbeats 1600000 in
theorem eqLog_any (v v' : Value) (u : Lg) (w : World) (S S' : Nat → Prop) (hv : LgAt w S v u) (hv' : LgAt w S' v' u) (hS : ∀ g, S g → g < w.heap.size) (hS' : ∀ g, S' g → g < w.heap.size) :
    Calls Try.prog 80 #[v, v'] w fun e w' => e = .returned (.bool true) ∧ Below w.heap.size w w' := by
  obtain ⟨f, rfl, y0, y1, y2, y3⟩ := hv
  obtain ⟨f', rfl, y0', y1', y2', y3'⟩ := hv'
  try simp only [arrLg]
  rw [show f 0 = _ from y0]
  clear y0
  rw [show f 1 = _ from y1]
  clear y1
  rw [show f 2 = _ from y2]
  clear y2
  obtain ⟨A3, c3, g3⟩ := y3.form
  rw [g3] at y3 ⊢
  have H3 := Seg.hid y3
  clear y3 g3
  try simp only [arrLg]
  rw [show f' 0 = _ from y0']
  clear y0'
  rw [show f' 1 = _ from y1']
  clear y1'
  rw [show f' 2 = _ from y2']
  clear y2'
  obtain ⟨A3', c3', g3'⟩ := y3'.form
  rw [g3'] at y3' ⊢
  have H3' := Seg.hid y3'
  clear y3' g3'
  go_enter Try.func80, Try.ntmps80
  go_wp2_with fail
  refine (eqSegmentS_any _ _ u.segs ((w.alloc _).alloc _) S S' (H3.out.below keepsSg (below2 w _ _) hS) (H3'.out.below keepsSg (below2 w _ _) hS') (fun g hg => by rw [hsz, hsz]; have := hS g hg; omega) (fun g hg => by rw [hsz, hsz]; have := hS' g hg; omega)).mono ?_
  rintro e w1 ⟨rfl, b1⟩
  have B1 := Seg.hid (chain (below2 w _ _) b1)
  clear b1
  go_wp2
  go_ret
  exact ⟨rfl, B1.out⟩
end Go.Proofs.Ytdhicmbfknagjaa.Ls
