/- Batch: how it lies in memory; what the law's measure and copier answer. -/
import Derived.Test.YtdhicmbfknagjaaTRecs
namespace Go.Proofs.Ytdhicmbfknagjaa.Ls
set_option maxRecDepth 8000
open Go.RowKit
open Recs
set_option linter.unusedVariables false
def EBat : Elt Bat := fun w S f u => f 0 = .int .i64 u.base ∧ f 1 = .int .i64 u.epoch ∧ f 2 = .int .i64 u.producer ∧ f 3 = .int .i64 u.turn ∧ f 4 = .int .i64 u.seq ∧ f 5 = .int .i64 u.flags ∧ LAt 6 ERec w S (f 6) u.recs
theorem keepsBat : Keeps 7 EBat := fun w w' S f f' t h hk hf => by
  obtain ⟨h0, h1, h2, h3, h4, h5, h6⟩ := h
  exact ⟨by rw [hf 0 (by omega)]; exact h0, by rw [hf 1 (by omega)]; exact h1, by rw [hf 2 (by omega)]; exact h2, by rw [hf 3 (by omega)]; exact h3, by rw [hf 4 (by omega)]; exact h4, by rw [hf 5 (by omega)]; exact h5, by rw [hf 6 (by omega)]; exact h6.keep keepsRec hk⟩
theorem growsBat : Grows EBat := fun w S S' f t h hs => by
  obtain ⟨h0, h1, h2, h3, h4, h5, h6⟩ := h
  exact ⟨h0, h1, h2, h3, h4, h5, h6.mono growsRec hs⟩
def arrBat (f : Nat → Value) : Array Value := #[f 0, f 1, f 2, f 3, f 4, f 5, f 6]
theorem oneBat {w : World} {S : Nat → Prop} {f : Nat → Value} {u : Bat} (h : EBat w S f u) : (arrBat f).all (·.oneCell') = true := by
  obtain ⟨h0, h1, h2, h3, h4, h5, h6⟩ := h
  have o0 : (f 0).oneCell' = true := by rw [h0]; rfl
  have o1 : (f 1).oneCell' = true := by rw [h1]; rfl
  have o2 : (f 2).oneCell' = true := by rw [h2]; rfl
  have o3 : (f 3).oneCell' = true := by rw [h3]; rfl
  have o4 : (f 4).oneCell' = true := by rw [h4]; rfl
  have o5 : (f 5).oneCell' = true := by rw [h5]; rfl
  have o6 : (f 6).oneCell' = true := h6.one
  simp [arrBat, o0, o1, o2, o3, o4, o5, o6]
def BatAt (w : World) (S : Nat → Prop) (v : Value) (u : Bat) : Prop := ∃ f, v = .agg (arrBat f) ∧ EBat w S f u
abbrev BatsAt := LAt 7 EBat
theorem BatAt.keep {w w' : World} {S : Nat → Prop} {v : Value} {u : Bat} (h : BatAt w S v u) (hk : ∀ g, S g → w'.heap[g]? = w.heap[g]?) : BatAt w' S v u := by
  obtain ⟨f, h1, h2⟩ := h
  exact ⟨f, h1, keepsBat _ _ _ _ _ _ h2 hk (fun _ _ => rfl)⟩
theorem BatAt.mono {w : World} {S S' : Nat → Prop} {v : Value} {u : Bat} (h : BatAt w S v u) (hs : ∀ g, S g → S' g) : BatAt w S' v u := by
  obtain ⟨f, h1, h2⟩ := h
  exact ⟨f, h1, growsBat _ _ _ _ _ h2 hs⟩
theorem BatAt.below {w w' : World} {B : Nat} {S : Nat → Prop} {v : Value} {u : Bat} (h : BatAt w S v u) (hb : Below B w w') (hs : ∀ g, S g → g < B) : BatAt w' S v u := h.keep fun g hg => hb.block g (hs g hg)
def szBat (u : Bat) : Nat := szL szRec (u.recs)
def FineBat (u : Bat) : Prop := I64 u.base ∧ I64 u.epoch ∧ I64 u.producer ∧ I64 u.turn ∧ I64 u.seq ∧ I64 u.flags ∧ FineL FineRec u.recs
theorem infoBat : (Try.prog.info? 118).map (·.size) = some 7 := by kernel_rfl
theorem infoLBat : (Try.prog.info? 201).map (·.size) = some 7 := by kernel_rfl
theorem infoZBat : (Try.prog.info? 118).map (fun i => (i.zero, i.size, i.bytes)) = some (some (.agg #[.int .i64 0, .int .i64 0, .int .i64 0, .int .i64 0, .int .i64 0, .int .i64 0, .slice none 0 0]), 7, 72) := by kernel_rfl
set_option maxHeartbeats 800000 in
theorem szBatch_any (v : Value) (u : Bat) (l : Int) (w : World) (S : Nat → Prop) (h3 : -1 ≤ l) (h4 : l ≤ 1048576) (hv : BatAt w S v u) (hS : ∀ g, S g → g < w.heap.size) (hf : FineBat u) :
    Calls Try.prog 142 #[v, .int .i64 l] w fun e w' => ∃ q, e = .returned (.int .i64 q) ∧ -1 ≤ q ∧ q ≤ l ∧ Lf l (szBat u) q ∧ Below w.heap.size w w' := by
  obtain ⟨f, rfl, y0, y1, y2, y3, y4, y5, y6⟩ := hv
  try simp only [arrBat]
  rw [show f 0 = _ from y0]
  clear y0
  rw [show f 1 = _ from y1]
  clear y1
  rw [show f 2 = _ from y2]
  clear y2
  rw [show f 3 = _ from y3]
  clear y3
  rw [show f 4 = _ from y4]
  clear y4
  rw [show f 5 = _ from y5]
  clear y5
  obtain ⟨A6, c6, g6⟩ := y6.form
  rw [g6] at y6 ⊢
  have H6 := Seg.hid y6
  clear y6 g6
  obtain ⟨z0, z1, z2, z3, z4, z5, z6⟩ := hf
  have Z6 := Seg.hid z6
  clear z0 z1 z2 z3 z4 z5 z6
  go_enter Try.func142, Try.ntmps142
  go_wp2_with fail
  refine (szRecordS_any _ u.recs _ (w.alloc _) S (by omega) (by omega) (H6.out.below keepsRec (below1 w _) hS) (fun g hg => by rw [hsz]; have := hS g hg; omega) Z6.out).mono ?_
  rintro e w1 ⟨q1, rfl, a1, b1, L1', d1⟩
  have B1 := Seg.hid (chain (below1 w _) d1)
  have L1 := Seg.hid L1'
  clear d1 L1'
  by_cases k6 : q1 < 0
  · go_wp2
    go_ret
    exact ⟨_, rfl, by omega, by omega, by have m0 := L1.out.2 (by omega); simp only [szBat]; exact ⟨fun _ => by omega, fun _ => by omega⟩, B1.out⟩
  go_wp2
  go_ret
  exact ⟨_, rfl, by omega, by omega, by have m0 := L1.out.1 (by omega); simp only [szBat]; exact ⟨fun _ => by omega, fun _ => by omega⟩, B1.out⟩
set_option maxHeartbeats 1600000 in
theorem toBatch_any (v : Value) (u : Bat) (w : World) (S : Nat → Prop) (hv : BatAt w S v u) (hS : ∀ g, S g → g < w.heap.size) (hf : szBat u ≤ 1048576) :
    Calls Try.prog 143 #[v] w fun e w' => ∃ v', e = .returned v' ∧ BatAt w' (seg w.heap.size w'.heap.size) v' u ∧ Below w.heap.size w w' := by
  obtain ⟨f, rfl, y0, y1, y2, y3, y4, y5, y6⟩ := hv
  try simp only [arrBat]
  rw [show f 0 = _ from y0]
  clear y0
  rw [show f 1 = _ from y1]
  clear y1
  rw [show f 2 = _ from y2]
  clear y2
  rw [show f 3 = _ from y3]
  clear y3
  rw [show f 4 = _ from y4]
  clear y4
  rw [show f 5 = _ from y5]
  clear y5
  obtain ⟨A6, c6, g6⟩ := y6.form
  rw [g6] at y6 ⊢
  have H6 := Seg.hid y6
  clear y6 g6
  unfold szBat at hf
  go_enter Try.func143, Try.ntmps143
  go_wp2_with fail
  refine (toRecordS_any _ u.recs (((w.alloc _).alloc _).alloc _) S (H6.out.below keepsRec (below3 w _ _ _) hS) (fun g hg => by rw [hsz, hsz, hsz]; have := hS g hg; omega) (by omega)).mono ?_
  rintro e w1 ⟨v1, rfl, l1, b1⟩
  have B1 := Seg.hid (chain (below3 w _ _ _) b1)
  have Ta1 : Hid (w1.heap[w.heap.size]? = some (.cells #[.int .i64 u.base, .int .i64 u.epoch, .int .i64 u.producer, .int .i64 u.turn, .int .i64 u.seq, .int .i64 u.flags, .slice A6 u.recs.length c6] 201 (0, 0))) := (b1.block w.heap.size (by rw [hsz, hsz, hsz]; omega)).trans (at3z w _ _ _)
  have Tr1 : Hid (w1.heap[w.heap.size + 1]? = some (.cells #[.int .i64 0, .int .i64 0, .int .i64 0, .int .i64 0, .int .i64 0, .int .i64 0, .slice none 0 0] 118 (0, 0))) := (b1.block (w.heap.size + 1) (by rw [hsz, hsz, hsz]; omega)).trans (at3 w _ _ _)
  have To1 : Hid (w1.heap[w.heap.size + 1 + 1]? = some (.cells #[.int .i64 u.base, .int .i64 u.epoch, .int .i64 u.producer, .int .i64 u.turn, .int .i64 u.seq, .int .i64 u.flags, .slice none 0 0] 118 (0, 0))) := (b1.block (w.heap.size + 1 + 1) (by rw [hsz, hsz, hsz]; omega)).trans (Cells.at3' w _ _ _)
  have s1 : w.heap.size + 3 ≤ w1.heap.size := by have := b1.size; rw [hsz, hsz, hsz] at this; omega
  have M1 : Hid (LAt 6 ERec w1 (seg (w.heap.size + 3) w1.heap.size) v1 u.recs) := by
    rw [hsz, hsz, hsz] at l1
    exact l1
  obtain ⟨Y1, x1, r1⟩ := M1.out.form
  subst r1
  clear b1 l1
  have N11 := M1
  have po16 : (w1).cell? ⟨w.heap.size + 1 + 1, 6, none⟩ = some (.slice none 0 0) := cell_of_row (w1) _ 6 _ _ (0, 0) (To1.out)
  have pf16 : (w1).frozen? ⟨w.heap.size + 1 + 1, 6, none⟩ = false := frozen_of_row (w1) _ 6 _ _ (To1.out)
  have qo16 : Hid (((w1.setCell ⟨w.heap.size + 1 + 1, 6, none⟩ (.slice Y1 u.recs.length x1))).heap[w.heap.size + 1 + 1]? = some (.cells #[.int .i64 u.base, .int .i64 u.epoch, .int .i64 u.producer, .int .i64 u.turn, .int .i64 u.seq, .int .i64 u.flags, .slice Y1 u.recs.length x1] 118 (0, 0))) := heap_setCell_same (w1) (w.heap.size + 1 + 1) 6 _ _ (.slice Y1 u.recs.length x1) (To1.out)
  have Uo1 := Seg.hid (qo16.out)
  have Ur1 := Seg.hid ((heap_setCell_other (w1) ⟨w.heap.size + 1 + 1, 6, none⟩ (w.heap.size + 1) (.slice Y1 u.recs.length x1) (by simp)).trans (Tr1.out))
  have Ua1 := Seg.hid ((heap_setCell_other (w1) ⟨w.heap.size + 1 + 1, 6, none⟩ w.heap.size (.slice Y1 u.recs.length x1) (by simp; omega)).trans (Ta1.out))
  have D1 : Hid (Below w.heap.size w (w1.setCell ⟨w.heap.size + 1 + 1, 6, none⟩ (.slice Y1 u.recs.length x1))) := (B1.out).setCell (p := ⟨w.heap.size + 1 + 1, 6, none⟩) (by simp; omega) (.slice Y1 u.recs.length x1)
  have N11' : Hid (LAt 6 ERec (w1.setCell ⟨w.heap.size + 1 + 1, 6, none⟩ (.slice Y1 u.recs.length x1)) (seg (w.heap.size + 3) w1.heap.size) (.slice Y1 u.recs.length x1) u.recs) := N11.out.keep keepsRec (fun g hg => by have := hg.1; rw [heap_setCell_other _ _ _ _ (by show _ ≠ w.heap.size + 1 + 1; omega)])
  obtain ⟨fx, hfx⟩ : ∃ fx : Nat → Value, fx = (fun q => if q = 0 then .int .i64 u.base else if q = 1 then .int .i64 u.epoch else if q = 2 then .int .i64 u.producer else if q = 3 then .int .i64 u.turn else if q = 4 then .int .i64 u.seq else if q = 5 then .int .i64 u.flags else .slice Y1 u.recs.length x1) := ⟨_, rfl⟩
  have HX := Seg.hid hfx
  have Uz : Hid ((w1.setCell ⟨w.heap.size + 1 + 1, 6, none⟩ (.slice Y1 u.recs.length x1)).heap[w.heap.size + 1 + 1]? = some (.cells (arrBat fx) 118 (0, 0))) := by
    show _ = _
    rw [hfx]
    exact Uo1.out
  clear hfx
  have H5a := Cells.there_of Ur1.out
  have H5 : Hid ((w1.setCell ⟨w.heap.size + 1 + 1, 6, none⟩ (.slice Y1 u.recs.length x1)).there (w.heap.size + 1) 0 (arrBat fx).size) := H5a
  clear H5a
  have H4 := Seg.hid (Cells.whole (vs := arrBat fx) Ur1.out rfl)
  have B9 := Seg.hid (Cells.below_setCells (g := w.heap.size + 1) (by omega) (arrBat fx).toList 0 _ _ D1.out)
  have F1 : Hid (LAt 6 ERec ((w1.setCell ⟨w.heap.size + 1 + 1, 6, none⟩ (.slice Y1 u.recs.length x1)).setCells (w.heap.size + 1) 0 (arrBat fx).toList) (seg w.heap.size ((w1.setCell ⟨w.heap.size + 1 + 1, 6, none⟩ (.slice Y1 u.recs.length x1)).setCells (w.heap.size + 1) 0 (arrBat fx).toList).heap.size) (fx 6) u.recs) := by
    show LAt 6 ERec _ _ _ _
    rw [show fx 6 = .slice Y1 u.recs.length x1 by rw [HX.out]; rfl]
    refine (N11'.out.keep keepsRec (fun g hg => ?_)).mono growsRec (fun g hg => ⟨by have := hg.1; omega, ?_⟩)
    · have := hg.1
      rw [Cells.heap_setCells_other _ _ (by omega)]
    · rw [Cells.size_setCells]
      have := hg.2
      simpa using this
  have EX : Hid (EBat ((w1.setCell ⟨w.heap.size + 1 + 1, 6, none⟩ (.slice Y1 u.recs.length x1)).setCells (w.heap.size + 1) 0 (arrBat fx).toList) (seg w.heap.size ((w1.setCell ⟨w.heap.size + 1 + 1, 6, none⟩ (.slice Y1 u.recs.length x1)).setCells (w.heap.size + 1) 0 (arrBat fx).toList).heap.size) fx u) := ⟨by rw [HX.out]; rfl, by rw [HX.out]; rfl, by rw [HX.out]; rfl, by rw [HX.out]; rfl, by rw [HX.out]; rfl, by rw [HX.out]; rfl, F1.out⟩
  have ON := Seg.hid (oneBat EX.out)
  clear Ta1 Tr1 To1 Ua1 M1
  go_upto_region 9 with fail
  clear po16 pf16
  generalize (w1.setCell ⟨w.heap.size + 1 + 1, 6, none⟩ (.slice Y1 u.recs.length x1)) = wz at *
  go_wp2_with (first | (refine wpList_load_row rfl 118 _ rfl (w.heap.size + 1 + 1) rfl _ _ _ _ Uz.out Try.underlying118 rfl infoBat ?_) | (refine wpList_store_mid rfl 118 _ _ rfl (w.heap.size + 1) 0 (arrBat fx) rfl rfl H5.out infoBat ON.out ?_))
  exact bodyPost_ret (v := .agg (arrBat fx)) (results_cell_row rfl _ _ (w.heap.size + 1) _ _ _ _ rfl H4.out Try.underlying118 rfl infoBat) rfl ⟨_, rfl, ⟨fx, rfl, EX.out⟩, B9.out⟩
set_option maxHeartbeats 1600000 in
theorem eqBatch_any (v v' : Value) (u : Bat) (w : World) (S S' : Nat → Prop) (hv : BatAt w S v u) (hv' : BatAt w S' v' u) (hS : ∀ g, S g → g < w.heap.size) (hS' : ∀ g, S' g → g < w.heap.size) :
    Calls Try.prog 145 #[v, v'] w fun e w' => e = .returned (.bool true) ∧ Below w.heap.size w w' := by
  obtain ⟨f, rfl, y0, y1, y2, y3, y4, y5, y6⟩ := hv
  obtain ⟨f', rfl, y0', y1', y2', y3', y4', y5', y6'⟩ := hv'
  try simp only [arrBat]
  rw [show f 0 = _ from y0]
  clear y0
  rw [show f 1 = _ from y1]
  clear y1
  rw [show f 2 = _ from y2]
  clear y2
  rw [show f 3 = _ from y3]
  clear y3
  rw [show f 4 = _ from y4]
  clear y4
  rw [show f 5 = _ from y5]
  clear y5
  obtain ⟨A6, c6, g6⟩ := y6.form
  rw [g6] at y6 ⊢
  have H6 := Seg.hid y6
  clear y6 g6
  try simp only [arrBat]
  rw [show f' 0 = _ from y0']
  clear y0'
  rw [show f' 1 = _ from y1']
  clear y1'
  rw [show f' 2 = _ from y2']
  clear y2'
  rw [show f' 3 = _ from y3']
  clear y3'
  rw [show f' 4 = _ from y4']
  clear y4'
  rw [show f' 5 = _ from y5']
  clear y5'
  obtain ⟨A6', c6', g6'⟩ := y6'.form
  rw [g6'] at y6' ⊢
  have H6' := Seg.hid y6'
  clear y6' g6'
  go_enter Try.func145, Try.ntmps145
  go_wp2_with fail
  refine (eqRecordS_any _ _ u.recs ((w.alloc _).alloc _) S S' (H6.out.below keepsRec (below2 w _ _) hS) (H6'.out.below keepsRec (below2 w _ _) hS') (fun g hg => by rw [hsz, hsz]; have := hS g hg; omega) (fun g hg => by rw [hsz, hsz]; have := hS' g hg; omega)).mono ?_
  rintro e w1 ⟨rfl, b1⟩
  have B1 := Seg.hid (chain (below2 w _ _) b1)
  clear b1
  go_wp2
  go_ret
  exact ⟨rfl, B1.out⟩
end Go.Proofs.Ytdhicmbfknagjaa.Ls
