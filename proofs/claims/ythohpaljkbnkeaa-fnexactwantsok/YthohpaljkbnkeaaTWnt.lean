/- Want: what the law's measure and copier answer. -/
import Derived.Test.YthohpaljkbnkeaaTWntD
namespace Go.Proofs.Ythohpaljkbnkeaa.Ls
set_option maxRecDepth 8000
open Go.RowKit
open Recs
set_option linter.unusedVariables false
theorem infoLWnt : (Try.prog.info? 70).map (·.size) = some 3 := by kernel_rfl
set_option maxHeartbeats 800000 in
theorem szWant_any (v : Value) (u : Wnt) (l : Int) (w : World) (S : Nat → Prop) (h3 : -1 ≤ l) (h4 : l ≤ 1048576) (hv : WntAt w S v u) (hS : ∀ g, S g → g < w.heap.size) (hf : FineWnt u) :
    Calls Try.prog 42 #[v, .int .i64 l] w fun e w' => ∃ q, e = .returned (.int .i64 q) ∧ -1 ≤ q ∧ q ≤ l ∧ Lf l (szWnt u) q ∧ Below w.heap.size w w' := by
  obtain ⟨f, rfl, y0, y1, y2⟩ := hv
  try simp only [arrWnt]
  rw [show f 0 = _ from y0]
  clear y0
  obtain ⟨A1, c1, g1⟩ := y1.form
  rw [g1] at y1 ⊢
  have H1 := Seg.hid y1
  clear y1 g1
  obtain ⟨A2, c2, g2⟩ := y2.form
  rw [g2] at y2 ⊢
  have H2 := Seg.hid y2
  clear y2 g2
  obtain ⟨z0, z1, z2⟩ := hf
  unfold maxLen at z0
  have Z1 := Seg.hid z1
  have Z2 := Seg.hid z2
  clear z1 z2
  go_enter Try.func42, Try.ntmps42
  by_cases k0 : l - (u.name.size : Int) < 0
  · go_wp2
    go_ret
    exact ⟨_, rfl, by omega, by omega, by simp only [szWnt]; exact ⟨fun _ => by omega, fun _ => by omega⟩, below1 _ _⟩
  go_wp2_with fail
  refine (szStringS_any _ u.wants _ (w.alloc _) S (by omega) (by omega) (H1.out.below keepsStr (below1 w _) hS) (fun g hg => by rw [hsz]; have := hS g hg; omega) Z1.out).mono ?_
  rintro e w1 ⟨q1, rfl, a1, b1, L1', d1⟩
  have B1 := Seg.hid (chain (below1 w _) d1)
  have L1 := Seg.hid L1'
  have T1 : Hid (w1.heap[w.heap.size]? = some (.cells #[.string u.name, .slice A1 u.wants.length c1, .slice A2 u.has.length c2] 70 (0, 0))) := (d1.block w.heap.size (by rw [hsz]; omega)).trans (heap_alloc_new _ _)
  have s1 : w.heap.size < w1.heap.size := (Array.getElem?_eq_some_iff.1 T1.out).1
  have p12 : w1.cell? ⟨w.heap.size, 2, none⟩ = some (.slice A2 u.has.length c2) := cell_of_row w1 _ 2 _ _ (0, 0) T1.out
  clear d1 L1'
  by_cases k1 : q1 < 0
  · go_wp2
    go_ret
    exact ⟨_, rfl, by omega, by omega, by have m0 := L1.out.2 (by omega); simp only [szWnt]; exact ⟨fun _ => by omega, fun _ => by omega⟩, B1.out⟩
  go_wp2_with fail
  refine (szSlotS_any _ u.has _ w1 S (by omega) (by omega) (H2.out.below keepsSlt B1.out hS) (fun g hg => Nat.lt_of_lt_of_le (hS g hg) B1.out.size) Z2.out).mono ?_
  rintro e w2 ⟨q2, rfl, a2, b2, L2', d2⟩
  have B2 := Seg.hid (chain B1.out d2)
  have L2 := Seg.hid L2'
  clear d2 L2'
  by_cases k2 : q2 < 0
  · go_wp2
    go_ret
    exact ⟨_, rfl, by omega, by omega, by have m0 := L1.out.1 (by omega); have m1 := L2.out.2 (by omega); simp only [szWnt]; exact ⟨fun _ => by omega, fun _ => by omega⟩, B2.out⟩
  go_wp2
  go_ret
  exact ⟨_, rfl, by omega, by omega, by have m0 := L1.out.1 (by omega); have m1 := L2.out.1 (by omega); simp only [szWnt]; exact ⟨fun _ => by omega, fun _ => by omega⟩, B2.out⟩
set_option maxHeartbeats 1600000 in
theorem toWant_any (v : Value) (u : Wnt) (w : World) (S : Nat → Prop) (hv : WntAt w S v u) (hS : ∀ g, S g → g < w.heap.size) (hf : szWnt u ≤ 1048576) :
    Calls Try.prog 46 #[v] w fun e w' => ∃ v', e = .returned v' ∧ WntAt w' (seg w.heap.size w'.heap.size) v' u ∧ Below w.heap.size w w' := by
  obtain ⟨f, rfl, y0, y1, y2⟩ := hv
  try simp only [arrWnt]
  rw [show f 0 = _ from y0]
  clear y0
  obtain ⟨A1, c1, g1⟩ := y1.form
  rw [g1] at y1 ⊢
  have H1 := Seg.hid y1
  clear y1 g1
  obtain ⟨A2, c2, g2⟩ := y2.form
  rw [g2] at y2 ⊢
  have H2 := Seg.hid y2
  clear y2 g2
  unfold szWnt at hf
  go_enter Try.func46, Try.ntmps46
  go_wp2_with fail
  refine (toStringS_any _ u.wants (((w.alloc _).alloc _).alloc _) S (H1.out.below keepsStr (below3 w _ _ _) hS) (fun g hg => by rw [hsz, hsz, hsz]; have := hS g hg; omega) (by omega)).mono ?_
  rintro e w1 ⟨v1, rfl, l1, b1⟩
  have B1 := Seg.hid (chain (below3 w _ _ _) b1)
  have Ta1 : Hid (w1.heap[w.heap.size]? = some (.cells #[.string u.name, .slice A1 u.wants.length c1, .slice A2 u.has.length c2] 70 (0, 0))) := (b1.block w.heap.size (by rw [hsz, hsz, hsz]; omega)).trans (at3z w _ _ _)
  have Tr1 : Hid (w1.heap[w.heap.size + 1]? = some (.cells #[.string ByteArray.empty, .slice none 0 0, .slice none 0 0] 73 (0, 0))) := (b1.block (w.heap.size + 1) (by rw [hsz, hsz, hsz]; omega)).trans (at3 w _ _ _)
  have To1 : Hid (w1.heap[w.heap.size + 1 + 1]? = some (.cells #[.string u.name, .slice none 0 0, .slice none 0 0] 73 (0, 0))) := (b1.block (w.heap.size + 1 + 1) (by rw [hsz, hsz, hsz]; omega)).trans (Cells.at3' w _ _ _)
  have s1 : w.heap.size + 3 ≤ w1.heap.size := by have := b1.size; rw [hsz, hsz, hsz] at this; omega
  have M1 : Hid (StrsAt w1 (seg (w.heap.size + 3) w1.heap.size) v1 u.wants) := by
    rw [hsz, hsz, hsz] at l1
    exact l1
  obtain ⟨Y1, x1, r1⟩ := M1.out.form
  subst r1
  clear b1 l1
  have N11 := M1
  have pa12 : w1.cell? ⟨w.heap.size, 2, none⟩ = some (.slice A2 u.has.length c2) := cell_of_row w1 _ 2 _ _ (0, 0) Ta1.out
  have po11 : (w1).cell? ⟨w.heap.size + 1 + 1, 1, none⟩ = some (.slice none 0 0) := cell_of_row (w1) _ 1 _ _ (0, 0) (To1.out)
  have pf11 : (w1).frozen? ⟨w.heap.size + 1 + 1, 1, none⟩ = false := frozen_of_row (w1) _ 1 _ _ (To1.out)
  have qo11 : Hid (((w1.setCell ⟨w.heap.size + 1 + 1, 1, none⟩ (.slice Y1 u.wants.length x1))).heap[w.heap.size + 1 + 1]? = some (.cells #[.string u.name, .slice Y1 u.wants.length x1, .slice none 0 0] 73 (0, 0))) := heap_setCell_same (w1) (w.heap.size + 1 + 1) 1 _ _ (.slice Y1 u.wants.length x1) (To1.out)
  have Uo1 := Seg.hid (qo11.out)
  have Ur1 := Seg.hid ((heap_setCell_other (w1) ⟨w.heap.size + 1 + 1, 1, none⟩ (w.heap.size + 1) (.slice Y1 u.wants.length x1) (by simp)).trans (Tr1.out))
  have Ua1 := Seg.hid ((heap_setCell_other (w1) ⟨w.heap.size + 1 + 1, 1, none⟩ w.heap.size (.slice Y1 u.wants.length x1) (by simp; omega)).trans (Ta1.out))
  have D1 : Hid (Below w.heap.size w (w1.setCell ⟨w.heap.size + 1 + 1, 1, none⟩ (.slice Y1 u.wants.length x1))) := (B1.out).setCell (p := ⟨w.heap.size + 1 + 1, 1, none⟩) (by simp; omega) (.slice Y1 u.wants.length x1)
  have N11' : Hid (StrsAt (w1.setCell ⟨w.heap.size + 1 + 1, 1, none⟩ (.slice Y1 u.wants.length x1)) (seg (w.heap.size + 3) w1.heap.size) (.slice Y1 u.wants.length x1) u.wants) := N11.out.keep keepsStr (fun g hg => by have := hg.1; rw [heap_setCell_other _ _ _ _ (by show _ ≠ w.heap.size + 1 + 1; omega)])
  go_wp2_with fail
  refine (toSlotS_any _ u.has (w1.setCell ⟨w.heap.size + 1 + 1, 1, none⟩ (.slice Y1 u.wants.length x1)) S (H2.out.below keepsSlt D1.out hS) (fun g hg => Nat.lt_of_lt_of_le (hS g hg) D1.out.size) (by omega)).mono ?_
  rintro e w2 ⟨v2, rfl, l2, b2⟩
  have B2 := Seg.hid (chain D1.out b2)
  have z2 : (w1.setCell ⟨w.heap.size + 1 + 1, 1, none⟩ (.slice Y1 u.wants.length x1)).heap.size = w1.heap.size := by simp
  have Ta2 := Seg.hid ((b2.block w.heap.size (by omega)).trans Ua1.out)
  have Tr2 := Seg.hid ((b2.block (w.heap.size + 1) (by omega)).trans Ur1.out)
  have To2 := Seg.hid ((b2.block (w.heap.size + 1 + 1) (by omega)).trans Uo1.out)
  have s2 : w.heap.size + 3 ≤ w2.heap.size := by have := b2.size; omega
  have M2 : Hid (LAt 2 ESlt w2 (seg (w.heap.size + 3) w2.heap.size) v2 u.has) := l2.mono growsSlt (fun g hg => ⟨by have := hg.1; omega, hg.2⟩)
  have N21 : Hid (StrsAt w2 (seg (w.heap.size + 3) w2.heap.size) (.slice Y1 u.wants.length x1) u.wants) := ((N11'.out.keep keepsStr (fun g hg => b2.block g (by have := hg.2; omega))).mono growsStr (fun g hg => ⟨hg.1, by have := b2.size; have := hg.2; omega⟩))
  clear z2
  obtain ⟨Y2, x2, r2⟩ := M2.out.form
  subst r2
  clear b2 l2
  have N22 := M2
  have po22 : (w2).cell? ⟨w.heap.size + 1 + 1, 2, none⟩ = some (.slice none 0 0) := cell_of_row (w2) _ 2 _ _ (0, 0) (To2.out)
  have pf22 : (w2).frozen? ⟨w.heap.size + 1 + 1, 2, none⟩ = false := frozen_of_row (w2) _ 2 _ _ (To2.out)
  have qo22 : Hid (((w2.setCell ⟨w.heap.size + 1 + 1, 2, none⟩ (.slice Y2 u.has.length x2))).heap[w.heap.size + 1 + 1]? = some (.cells #[.string u.name, .slice Y1 u.wants.length x1, .slice Y2 u.has.length x2] 73 (0, 0))) := heap_setCell_same (w2) (w.heap.size + 1 + 1) 2 _ _ (.slice Y2 u.has.length x2) (To2.out)
  have Uo2 := Seg.hid (qo22.out)
  have Ur2 := Seg.hid ((heap_setCell_other (w2) ⟨w.heap.size + 1 + 1, 2, none⟩ (w.heap.size + 1) (.slice Y2 u.has.length x2) (by simp)).trans (Tr2.out))
  have Ua2 := Seg.hid ((heap_setCell_other (w2) ⟨w.heap.size + 1 + 1, 2, none⟩ w.heap.size (.slice Y2 u.has.length x2) (by simp; omega)).trans (Ta2.out))
  have D2 : Hid (Below w.heap.size w (w2.setCell ⟨w.heap.size + 1 + 1, 2, none⟩ (.slice Y2 u.has.length x2))) := (B2.out).setCell (p := ⟨w.heap.size + 1 + 1, 2, none⟩) (by simp; omega) (.slice Y2 u.has.length x2)
  have N21' : Hid (StrsAt (w2.setCell ⟨w.heap.size + 1 + 1, 2, none⟩ (.slice Y2 u.has.length x2)) (seg (w.heap.size + 3) w2.heap.size) (.slice Y1 u.wants.length x1) u.wants) := N21.out.keep keepsStr (fun g hg => by have := hg.1; rw [heap_setCell_other _ _ _ _ (by show _ ≠ w.heap.size + 1 + 1; omega)])
  have N22' : Hid (LAt 2 ESlt (w2.setCell ⟨w.heap.size + 1 + 1, 2, none⟩ (.slice Y2 u.has.length x2)) (seg (w.heap.size + 3) w2.heap.size) (.slice Y2 u.has.length x2) u.has) := N22.out.keep keepsSlt (fun g hg => by have := hg.1; rw [heap_setCell_other _ _ _ _ (by show _ ≠ w.heap.size + 1 + 1; omega)])
  obtain ⟨fx, hfx⟩ : ∃ fx : Nat → Value, fx = (fun q => if q = 0 then .string u.name else if q = 1 then .slice Y1 u.wants.length x1 else .slice Y2 u.has.length x2) := ⟨_, rfl⟩
  have HX := Seg.hid hfx
  have Uz : Hid ((w2.setCell ⟨w.heap.size + 1 + 1, 2, none⟩ (.slice Y2 u.has.length x2)).heap[w.heap.size + 1 + 1]? = some (.cells (arrWnt fx) 73 (0, 0))) := by
    show _ = _
    rw [hfx]
    exact Uo2.out
  clear hfx
  have H5a := Cells.there_of Ur2.out
  have H5 : Hid ((w2.setCell ⟨w.heap.size + 1 + 1, 2, none⟩ (.slice Y2 u.has.length x2)).there (w.heap.size + 1) 0 (arrWnt fx).size) := H5a
  clear H5a
  have H4 := Seg.hid (Cells.whole (vs := arrWnt fx) Ur2.out rfl)
  have B9 := Seg.hid (Cells.below_setCells (g := w.heap.size + 1) (by omega) (arrWnt fx).toList 0 _ _ D2.out)
  have F1 : Hid (StrsAt ((w2.setCell ⟨w.heap.size + 1 + 1, 2, none⟩ (.slice Y2 u.has.length x2)).setCells (w.heap.size + 1) 0 (arrWnt fx).toList) (seg w.heap.size ((w2.setCell ⟨w.heap.size + 1 + 1, 2, none⟩ (.slice Y2 u.has.length x2)).setCells (w.heap.size + 1) 0 (arrWnt fx).toList).heap.size) (fx 1) u.wants) := by
    show StrsAt _ _ _ _
    rw [show fx 1 = .slice Y1 u.wants.length x1 by rw [HX.out]; rfl]
    refine (N21'.out.keep keepsStr (fun g hg => ?_)).mono growsStr (fun g hg => ⟨by have := hg.1; omega, ?_⟩)
    · have := hg.1
      rw [Cells.heap_setCells_other _ _ (by omega)]
    · rw [Cells.size_setCells]
      have := hg.2
      simpa using this
  have F2 : Hid (LAt 2 ESlt ((w2.setCell ⟨w.heap.size + 1 + 1, 2, none⟩ (.slice Y2 u.has.length x2)).setCells (w.heap.size + 1) 0 (arrWnt fx).toList) (seg w.heap.size ((w2.setCell ⟨w.heap.size + 1 + 1, 2, none⟩ (.slice Y2 u.has.length x2)).setCells (w.heap.size + 1) 0 (arrWnt fx).toList).heap.size) (fx 2) u.has) := by
    show LAt 2 ESlt _ _ _ _
    rw [show fx 2 = .slice Y2 u.has.length x2 by rw [HX.out]; rfl]
    refine (N22'.out.keep keepsSlt (fun g hg => ?_)).mono growsSlt (fun g hg => ⟨by have := hg.1; omega, ?_⟩)
    · have := hg.1
      rw [Cells.heap_setCells_other _ _ (by omega)]
    · rw [Cells.size_setCells]
      have := hg.2
      simpa using this
  have EX : Hid (EWnt ((w2.setCell ⟨w.heap.size + 1 + 1, 2, none⟩ (.slice Y2 u.has.length x2)).setCells (w.heap.size + 1) 0 (arrWnt fx).toList) (seg w.heap.size ((w2.setCell ⟨w.heap.size + 1 + 1, 2, none⟩ (.slice Y2 u.has.length x2)).setCells (w.heap.size + 1) 0 (arrWnt fx).toList).heap.size) fx u) := ⟨by rw [HX.out]; rfl, F1.out, F2.out⟩
  have ON := Seg.hid (oneWnt EX.out)
  clear Ta1 Tr1 To1 Ua1 M1 Ta2 Tr2 To2 Ua2 M2
  go_upto_region 5 with fail
  clear po22 pf22
  generalize (w2.setCell ⟨w.heap.size + 1 + 1, 2, none⟩ (.slice Y2 u.has.length x2)) = wz at *
  go_wp2_with (first | (refine wpList_load_row rfl 73 _ rfl (w.heap.size + 1 + 1) rfl _ _ _ _ Uz.out Try.underlying73 rfl infoWnt ?_) | (refine wpList_store_mid rfl 73 _ _ rfl (w.heap.size + 1) 0 (arrWnt fx) rfl rfl H5.out infoWnt ON.out ?_))
  exact bodyPost_ret (v := .agg (arrWnt fx)) (results_cell_row rfl _ _ (w.heap.size + 1) _ _ _ _ rfl H4.out Try.underlying73 rfl infoWnt) rfl ⟨_, rfl, ⟨fx, rfl, EX.out⟩, B9.out⟩
set_option maxHeartbeats 1600000 in
theorem eqWant_any (v v' : Value) (u : Wnt) (w : World) (S S' : Nat → Prop) (hv : WntAt w S v u) (hv' : WntAt w S' v' u) (hS : ∀ g, S g → g < w.heap.size) (hS' : ∀ g, S' g → g < w.heap.size) :
    Calls Try.prog 53 #[v, v'] w fun e w' => e = .returned (.bool true) ∧ Below w.heap.size w w' := by
  obtain ⟨f, rfl, y0, y1, y2⟩ := hv
  obtain ⟨f', rfl, y0', y1', y2'⟩ := hv'
  try simp only [arrWnt]
  rw [show f 0 = _ from y0]
  clear y0
  obtain ⟨A1, c1, g1⟩ := y1.form
  rw [g1] at y1 ⊢
  have H1 := Seg.hid y1
  clear y1 g1
  obtain ⟨A2, c2, g2⟩ := y2.form
  rw [g2] at y2 ⊢
  have H2 := Seg.hid y2
  clear y2 g2
  try simp only [arrWnt]
  rw [show f' 0 = _ from y0']
  clear y0'
  obtain ⟨A1', c1', g1'⟩ := y1'.form
  rw [g1'] at y1' ⊢
  have H1' := Seg.hid y1'
  clear y1' g1'
  obtain ⟨A2', c2', g2'⟩ := y2'.form
  rw [g2'] at y2' ⊢
  have H2' := Seg.hid y2'
  clear y2' g2'
  go_enter Try.func53, Try.ntmps53
  go_wp2_with fail
  refine (eqStringS_any _ _ u.wants ((w.alloc _).alloc _) S S' (H1.out.below keepsStr (below2 w _ _) hS) (H1'.out.below keepsStr (below2 w _ _) hS') (fun g hg => by rw [hsz, hsz]; have := hS g hg; omega) (fun g hg => by rw [hsz, hsz]; have := hS' g hg; omega)).mono ?_
  rintro e w1 ⟨rfl, b1⟩
  have B1 := Seg.hid (chain (below2 w _ _) b1)
  have Ta1 : Hid (w1.heap[w.heap.size]? = some (.cells #[.string u.name, .slice A1 u.wants.length c1, .slice A2 u.has.length c2] 73 (0, 0))) := (b1.block w.heap.size (by rw [hsz, hsz]; omega)).trans (at2z w _ _)
  have Tb1 : Hid (w1.heap[w.heap.size + 1]? = some (.cells #[.string u.name, .slice A1' u.wants.length c1', .slice A2' u.has.length c2'] 73 (0, 0))) := (b1.block (w.heap.size + 1) (by rw [hsz, hsz]; omega)).trans (at2y w _ _)
  have s1 : w.heap.size + 1 < w1.heap.size := (Array.getElem?_eq_some_iff.1 Tb1.out).1
  have pa12 : w1.cell? ⟨w.heap.size, 2, none⟩ = some (.slice A2 u.has.length c2) := cell_of_row w1 _ 2 _ _ (0, 0) Ta1.out
  have pb12 : w1.cell? ⟨w.heap.size + 1, 2, none⟩ = some (.slice A2' u.has.length c2') := cell_of_row w1 _ 2 _ _ (0, 0) Tb1.out
  clear b1
  go_wp2_with fail
  refine (eqSlotS_any _ _ u.has w1 S S' (H2.out.below keepsSlt B1.out hS) (H2'.out.below keepsSlt B1.out hS') (fun g hg => Nat.lt_of_lt_of_le (hS g hg) B1.out.size) (fun g hg => Nat.lt_of_lt_of_le (hS' g hg) B1.out.size)).mono ?_
  rintro e w2 ⟨rfl, b2⟩
  have B2 := Seg.hid (chain B1.out b2)
  clear b2
  go_wp2
  go_ret
  exact ⟨rfl, B2.out⟩
end Go.Proofs.Ythohpaljkbnkeaa.Ls
