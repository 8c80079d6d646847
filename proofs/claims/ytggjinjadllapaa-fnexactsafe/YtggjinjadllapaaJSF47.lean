/- Part: the law's copier answers memory of its own; Lists of Head with marks: the law's look at these; Lists of Record with marks: the law's look at these. -/
import Derived.Test.YtggjinjadllapaaJSF44
import Derived.Test.YtggjinjadllapaaJSF46
import Derived.Test.YtggjinjadllapaaJSF41
import Derived.Test.YtggjinjadllapaaJSF42
namespace Go.Proofs.Ytggjinjadllapaa.Ow
set_option maxRecDepth 8000
open Go.RowKit
open Recs
open Ls
open SegW (Sg)
set_option linter.unusedVariables false
set_option maxHeartbeats 1600000 in
theorem toPart_own (v : Value) (u : Prt) (w : World) (S : Nat → Prop) (hv : PrtAt w S v u) (hS : ∀ g, S g → g < w.heap.size) (hf : szPrt u ≤ 1048576) :
    Calls Try.prog 6 #[v] w fun e w' => ∃ v', e = .returned v' ∧ PrtOwn w' (seg w.heap.size w'.heap.size) v' u ∧ Below w.heap.size w w' := by
  obtain ⟨f, rfl, y0, y1, y2, y3, y4, y5⟩ := hv
  try simp only [arrPrt]
  obtain ⟨A0, c0, g0⟩ := y0.form
  rw [g0] at y0 ⊢
  have H0 := Seg.hid y0
  clear y0 g0
  rw [show f 1 = _ from y1]
  clear y1
  rw [show f 2 = _ from y2]
  clear y2
  obtain ⟨A3, c3, g3⟩ := y3.form
  rw [g3] at y3 ⊢
  have H3 := Seg.hid y3
  clear y3 g3
  obtain ⟨A4, c4, g4⟩ := y4.form
  rw [g4] at y4 ⊢
  have H4 := Seg.hid y4
  clear y4 g4
  rw [show f 5 = _ from y5]
  clear y5
  unfold szPrt at hf
  go_enter Try.func6, Try.ntmps6
  go_wp2_with fail
  refine (toReplicaS_own _ u.reps (((w.alloc _).alloc _).alloc _) S (H0.out.below keepsRpl (below3 w _ _ _) hS) (fun g hg => by rw [hsz, hsz, hsz]; have := hS g hg; omega) (by omega)).mono ?_
  rintro e w1 ⟨v1, rfl, l1, b1⟩
  have B1 := Seg.hid (chain (below3 w _ _ _) b1)
  have Ta1 : Hid (w1.heap[w.heap.size]? = some (.cells #[.slice A0 u.reps.length c0, .int .i64 u.leader, .int .i64 u.epoch, .slice A3 u.insync.length c3, .slice A4 u.known.length c4, .int .i64 u.least] 25 (0, 0))) := (b1.block w.heap.size (by rw [hsz, hsz, hsz]; omega)).trans (at3z w _ _ _)
  have Tr1 : Hid (w1.heap[w.heap.size + 1]? = some (.cells #[.slice none 0 0, .int .i64 0, .int .i64 0, .slice none 0 0, .slice none 0 0, .int .i64 0] 31 (0, 0))) := (b1.block (w.heap.size + 1) (by rw [hsz, hsz, hsz]; omega)).trans (at3 w _ _ _)
  have To1 : Hid (w1.heap[w.heap.size + 1 + 1]? = some (.cells #[.slice none 0 0, .int .i64 0, .int .i64 0, .slice none 0 0, .slice none 0 0, .int .i64 0] 31 (0, 0))) := (b1.block (w.heap.size + 1 + 1) (by rw [hsz, hsz, hsz]; omega)).trans (Cells.at3' w _ _ _)
  have s1 : w.heap.size + 3 ≤ w1.heap.size := by have := b1.size; rw [hsz, hsz, hsz] at this; omega
  have M1 : Hid (RplsOwn w1 (seg (w.heap.size + 3) w1.heap.size) v1 u.reps) := by
    rw [hsz, hsz, hsz] at l1
    exact l1
  obtain ⟨Y1, x1, r1⟩ := LOwn.form M1.out
  subst r1
  clear b1 l1
  have N11 := M1
  have pa11 : w1.cell? ⟨w.heap.size, 1, none⟩ = some (.int .i64 u.leader) := cell_of_row w1 _ 1 _ _ (0, 0) Ta1.out
  have pa12 : w1.cell? ⟨w.heap.size, 2, none⟩ = some (.int .i64 u.epoch) := cell_of_row w1 _ 2 _ _ (0, 0) Ta1.out
  have pa13 : w1.cell? ⟨w.heap.size, 3, none⟩ = some (.slice A3 u.insync.length c3) := cell_of_row w1 _ 3 _ _ (0, 0) Ta1.out
  have po10 : (w1).cell? ⟨w.heap.size + 1 + 1, 0, none⟩ = some (.slice none 0 0) := cell_of_row (w1) _ 0 _ _ (0, 0) (To1.out)
  have pf10 : (w1).frozen? ⟨w.heap.size + 1 + 1, 0, none⟩ = false := frozen_of_row (w1) _ 0 _ _ (To1.out)
  have qo10 : Hid (((w1.setCell ⟨w.heap.size + 1 + 1, 0, none⟩ (.slice Y1 u.reps.length x1))).heap[w.heap.size + 1 + 1]? = some (.cells #[.slice Y1 u.reps.length x1, .int .i64 0, .int .i64 0, .slice none 0 0, .slice none 0 0, .int .i64 0] 31 (0, 0))) := heap_setCell_same (w1) (w.heap.size + 1 + 1) 0 _ _ (.slice Y1 u.reps.length x1) (To1.out)
  have po11 : ((w1.setCell ⟨w.heap.size + 1 + 1, 0, none⟩ (.slice Y1 u.reps.length x1))).cell? ⟨w.heap.size + 1 + 1, 1, none⟩ = some (.int .i64 0) := cell_of_row ((w1.setCell ⟨w.heap.size + 1 + 1, 0, none⟩ (.slice Y1 u.reps.length x1))) _ 1 _ _ (0, 0) (qo10.out)
  have pf11 : ((w1.setCell ⟨w.heap.size + 1 + 1, 0, none⟩ (.slice Y1 u.reps.length x1))).frozen? ⟨w.heap.size + 1 + 1, 1, none⟩ = false := frozen_of_row ((w1.setCell ⟨w.heap.size + 1 + 1, 0, none⟩ (.slice Y1 u.reps.length x1))) _ 1 _ _ (qo10.out)
  have qo11 : Hid ((((w1.setCell ⟨w.heap.size + 1 + 1, 0, none⟩ (.slice Y1 u.reps.length x1)).setCell ⟨w.heap.size + 1 + 1, 1, none⟩ (.int .i64 u.leader))).heap[w.heap.size + 1 + 1]? = some (.cells #[.slice Y1 u.reps.length x1, .int .i64 u.leader, .int .i64 0, .slice none 0 0, .slice none 0 0, .int .i64 0] 31 (0, 0))) := heap_setCell_same ((w1.setCell ⟨w.heap.size + 1 + 1, 0, none⟩ (.slice Y1 u.reps.length x1))) (w.heap.size + 1 + 1) 1 _ _ (.int .i64 u.leader) (qo10.out)
  have po12 : (((w1.setCell ⟨w.heap.size + 1 + 1, 0, none⟩ (.slice Y1 u.reps.length x1)).setCell ⟨w.heap.size + 1 + 1, 1, none⟩ (.int .i64 u.leader))).cell? ⟨w.heap.size + 1 + 1, 2, none⟩ = some (.int .i64 0) := cell_of_row (((w1.setCell ⟨w.heap.size + 1 + 1, 0, none⟩ (.slice Y1 u.reps.length x1)).setCell ⟨w.heap.size + 1 + 1, 1, none⟩ (.int .i64 u.leader))) _ 2 _ _ (0, 0) (qo11.out)
  have pf12 : (((w1.setCell ⟨w.heap.size + 1 + 1, 0, none⟩ (.slice Y1 u.reps.length x1)).setCell ⟨w.heap.size + 1 + 1, 1, none⟩ (.int .i64 u.leader))).frozen? ⟨w.heap.size + 1 + 1, 2, none⟩ = false := frozen_of_row (((w1.setCell ⟨w.heap.size + 1 + 1, 0, none⟩ (.slice Y1 u.reps.length x1)).setCell ⟨w.heap.size + 1 + 1, 1, none⟩ (.int .i64 u.leader))) _ 2 _ _ (qo11.out)
  have qo12 : Hid (((((w1.setCell ⟨w.heap.size + 1 + 1, 0, none⟩ (.slice Y1 u.reps.length x1)).setCell ⟨w.heap.size + 1 + 1, 1, none⟩ (.int .i64 u.leader)).setCell ⟨w.heap.size + 1 + 1, 2, none⟩ (.int .i64 u.epoch))).heap[w.heap.size + 1 + 1]? = some (.cells #[.slice Y1 u.reps.length x1, .int .i64 u.leader, .int .i64 u.epoch, .slice none 0 0, .slice none 0 0, .int .i64 0] 31 (0, 0))) := heap_setCell_same (((w1.setCell ⟨w.heap.size + 1 + 1, 0, none⟩ (.slice Y1 u.reps.length x1)).setCell ⟨w.heap.size + 1 + 1, 1, none⟩ (.int .i64 u.leader))) (w.heap.size + 1 + 1) 2 _ _ (.int .i64 u.epoch) (qo11.out)
  have Uo1 := Seg.hid (qo12.out)
  have Ur1 := Seg.hid ((heap_setCell_other (((w1.setCell ⟨w.heap.size + 1 + 1, 0, none⟩ (.slice Y1 u.reps.length x1)).setCell ⟨w.heap.size + 1 + 1, 1, none⟩ (.int .i64 u.leader))) ⟨w.heap.size + 1 + 1, 2, none⟩ (w.heap.size + 1) (.int .i64 u.epoch) (by simp)).trans ((heap_setCell_other ((w1.setCell ⟨w.heap.size + 1 + 1, 0, none⟩ (.slice Y1 u.reps.length x1))) ⟨w.heap.size + 1 + 1, 1, none⟩ (w.heap.size + 1) (.int .i64 u.leader) (by simp)).trans ((heap_setCell_other (w1) ⟨w.heap.size + 1 + 1, 0, none⟩ (w.heap.size + 1) (.slice Y1 u.reps.length x1) (by simp)).trans (Tr1.out))))
  have Ua1 := Seg.hid ((heap_setCell_other (((w1.setCell ⟨w.heap.size + 1 + 1, 0, none⟩ (.slice Y1 u.reps.length x1)).setCell ⟨w.heap.size + 1 + 1, 1, none⟩ (.int .i64 u.leader))) ⟨w.heap.size + 1 + 1, 2, none⟩ w.heap.size (.int .i64 u.epoch) (by simp; omega)).trans ((heap_setCell_other ((w1.setCell ⟨w.heap.size + 1 + 1, 0, none⟩ (.slice Y1 u.reps.length x1))) ⟨w.heap.size + 1 + 1, 1, none⟩ w.heap.size (.int .i64 u.leader) (by simp; omega)).trans ((heap_setCell_other (w1) ⟨w.heap.size + 1 + 1, 0, none⟩ w.heap.size (.slice Y1 u.reps.length x1) (by simp; omega)).trans (Ta1.out))))
  have D1 : Hid (Below w.heap.size w (((w1.setCell ⟨w.heap.size + 1 + 1, 0, none⟩ (.slice Y1 u.reps.length x1)).setCell ⟨w.heap.size + 1 + 1, 1, none⟩ (.int .i64 u.leader)).setCell ⟨w.heap.size + 1 + 1, 2, none⟩ (.int .i64 u.epoch))) := (((B1.out).setCell (p := ⟨w.heap.size + 1 + 1, 0, none⟩) (by simp; omega) (.slice Y1 u.reps.length x1)).setCell (p := ⟨w.heap.size + 1 + 1, 1, none⟩) (by simp; omega) (.int .i64 u.leader)).setCell (p := ⟨w.heap.size + 1 + 1, 2, none⟩) (by simp; omega) (.int .i64 u.epoch)
  have N11' : Hid (RplsOwn (((w1.setCell ⟨w.heap.size + 1 + 1, 0, none⟩ (.slice Y1 u.reps.length x1)).setCell ⟨w.heap.size + 1 + 1, 1, none⟩ (.int .i64 u.leader)).setCell ⟨w.heap.size + 1 + 1, 2, none⟩ (.int .i64 u.epoch)) (seg (w.heap.size + 3) w1.heap.size) (.slice Y1 u.reps.length x1) u.reps) := LOwn.keep keepsORpl N11.out (by simp) (fun g hg => by have := hg.1; rw [heap_setCell_other _ _ _ _ (by show _ ≠ w.heap.size + 1 + 1; omega), heap_setCell_other _ _ _ _ (by show _ ≠ w.heap.size + 1 + 1; omega), heap_setCell_other _ _ _ _ (by show _ ≠ w.heap.size + 1 + 1; omega)])
  go_wp2_with fail
  refine (toIntS_own _ u.insync (((w1.setCell ⟨w.heap.size + 1 + 1, 0, none⟩ (.slice Y1 u.reps.length x1)).setCell ⟨w.heap.size + 1 + 1, 1, none⟩ (.int .i64 u.leader)).setCell ⟨w.heap.size + 1 + 1, 2, none⟩ (.int .i64 u.epoch)) S (H3.out.below keepsI D1.out hS) (fun g hg => Nat.lt_of_lt_of_le (hS g hg) D1.out.size) (by omega)).mono ?_
  rintro e w2 ⟨v2, rfl, l2, b2⟩
  have B2 := Seg.hid (chain D1.out b2)
  have z2 : (((w1.setCell ⟨w.heap.size + 1 + 1, 0, none⟩ (.slice Y1 u.reps.length x1)).setCell ⟨w.heap.size + 1 + 1, 1, none⟩ (.int .i64 u.leader)).setCell ⟨w.heap.size + 1 + 1, 2, none⟩ (.int .i64 u.epoch)).heap.size = w1.heap.size := by simp
  have Ta2 := Seg.hid ((b2.block w.heap.size (by omega)).trans Ua1.out)
  have Tr2 := Seg.hid ((b2.block (w.heap.size + 1) (by omega)).trans Ur1.out)
  have To2 := Seg.hid ((b2.block (w.heap.size + 1 + 1) (by omega)).trans Uo1.out)
  have s2 : w1.heap.size ≤ w2.heap.size := by have := b2.size; omega
  have M2 : Hid (IntsOwn w2 (seg (w1.heap.size) w2.heap.size) v2 u.insync) := by
    rw [z2] at l2
    exact l2
  have N21 : Hid (RplsOwn w2 (seg (w.heap.size + 3) w1.heap.size) (.slice Y1 u.reps.length x1) u.reps) := LOwn.keep keepsORpl N11'.out b2.size (fun g hg => b2.block g (by have := hg.2; omega))
  clear z2
  obtain ⟨Y2, x2, r2⟩ := LOwn.form M2.out
  subst r2
  clear b2 l2
  have N22 := M2
  have pa24 : w2.cell? ⟨w.heap.size, 4, none⟩ = some (.slice A4 u.known.length c4) := cell_of_row w2 _ 4 _ _ (0, 0) Ta2.out
  have po23 : (w2).cell? ⟨w.heap.size + 1 + 1, 3, none⟩ = some (.slice none 0 0) := cell_of_row (w2) _ 3 _ _ (0, 0) (To2.out)
  have pf23 : (w2).frozen? ⟨w.heap.size + 1 + 1, 3, none⟩ = false := frozen_of_row (w2) _ 3 _ _ (To2.out)
  have qo23 : Hid (((w2.setCell ⟨w.heap.size + 1 + 1, 3, none⟩ (.slice Y2 u.insync.length x2))).heap[w.heap.size + 1 + 1]? = some (.cells #[.slice Y1 u.reps.length x1, .int .i64 u.leader, .int .i64 u.epoch, .slice Y2 u.insync.length x2, .slice none 0 0, .int .i64 0] 31 (0, 0))) := heap_setCell_same (w2) (w.heap.size + 1 + 1) 3 _ _ (.slice Y2 u.insync.length x2) (To2.out)
  have Uo2 := Seg.hid (qo23.out)
  have Ur2 := Seg.hid ((heap_setCell_other (w2) ⟨w.heap.size + 1 + 1, 3, none⟩ (w.heap.size + 1) (.slice Y2 u.insync.length x2) (by simp)).trans (Tr2.out))
  have Ua2 := Seg.hid ((heap_setCell_other (w2) ⟨w.heap.size + 1 + 1, 3, none⟩ w.heap.size (.slice Y2 u.insync.length x2) (by simp; omega)).trans (Ta2.out))
  have D2 : Hid (Below w.heap.size w (w2.setCell ⟨w.heap.size + 1 + 1, 3, none⟩ (.slice Y2 u.insync.length x2))) := (B2.out).setCell (p := ⟨w.heap.size + 1 + 1, 3, none⟩) (by simp; omega) (.slice Y2 u.insync.length x2)
  have N21' : Hid (RplsOwn (w2.setCell ⟨w.heap.size + 1 + 1, 3, none⟩ (.slice Y2 u.insync.length x2)) (seg (w.heap.size + 3) w1.heap.size) (.slice Y1 u.reps.length x1) u.reps) := LOwn.keep keepsORpl N21.out (by simp) (fun g hg => by have := hg.1; rw [heap_setCell_other _ _ _ _ (by show _ ≠ w.heap.size + 1 + 1; omega)])
  have N22' : Hid (IntsOwn (w2.setCell ⟨w.heap.size + 1 + 1, 3, none⟩ (.slice Y2 u.insync.length x2)) (seg (w1.heap.size) w2.heap.size) (.slice Y2 u.insync.length x2) u.insync) := LOwn.keep keepsOI N22.out (by simp) (fun g hg => by have := hg.1; rw [heap_setCell_other _ _ _ _ (by show _ ≠ w.heap.size + 1 + 1; omega)])
  go_wp2_with fail
  refine (toIntS_own _ u.known (w2.setCell ⟨w.heap.size + 1 + 1, 3, none⟩ (.slice Y2 u.insync.length x2)) S (H4.out.below keepsI D2.out hS) (fun g hg => Nat.lt_of_lt_of_le (hS g hg) D2.out.size) (by omega)).mono ?_
  rintro e w3 ⟨v3, rfl, l3, b3⟩
  have B3 := Seg.hid (chain D2.out b3)
  have z3 : (w2.setCell ⟨w.heap.size + 1 + 1, 3, none⟩ (.slice Y2 u.insync.length x2)).heap.size = w2.heap.size := by simp
  have Ta3 := Seg.hid ((b3.block w.heap.size (by omega)).trans Ua2.out)
  have Tr3 := Seg.hid ((b3.block (w.heap.size + 1) (by omega)).trans Ur2.out)
  have To3 := Seg.hid ((b3.block (w.heap.size + 1 + 1) (by omega)).trans Uo2.out)
  have s3 : w2.heap.size ≤ w3.heap.size := by have := b3.size; omega
  have M3 : Hid (IntsOwn w3 (seg (w2.heap.size) w3.heap.size) v3 u.known) := by
    rw [z3] at l3
    exact l3
  have N31 : Hid (RplsOwn w3 (seg (w.heap.size + 3) w1.heap.size) (.slice Y1 u.reps.length x1) u.reps) := LOwn.keep keepsORpl N21'.out b3.size (fun g hg => b3.block g (by have := hg.2; omega))
  have N32 : Hid (IntsOwn w3 (seg (w1.heap.size) w2.heap.size) (.slice Y2 u.insync.length x2) u.insync) := LOwn.keep keepsOI N22'.out b3.size (fun g hg => b3.block g (by have := hg.2; omega))
  clear z3
  obtain ⟨Y3, x3, r3⟩ := LOwn.form M3.out
  subst r3
  clear b3 l3
  have N33 := M3
  have pa35 : w3.cell? ⟨w.heap.size, 5, none⟩ = some (.int .i64 u.least) := cell_of_row w3 _ 5 _ _ (0, 0) Ta3.out
  have po34 : (w3).cell? ⟨w.heap.size + 1 + 1, 4, none⟩ = some (.slice none 0 0) := cell_of_row (w3) _ 4 _ _ (0, 0) (To3.out)
  have pf34 : (w3).frozen? ⟨w.heap.size + 1 + 1, 4, none⟩ = false := frozen_of_row (w3) _ 4 _ _ (To3.out)
  have qo34 : Hid (((w3.setCell ⟨w.heap.size + 1 + 1, 4, none⟩ (.slice Y3 u.known.length x3))).heap[w.heap.size + 1 + 1]? = some (.cells #[.slice Y1 u.reps.length x1, .int .i64 u.leader, .int .i64 u.epoch, .slice Y2 u.insync.length x2, .slice Y3 u.known.length x3, .int .i64 0] 31 (0, 0))) := heap_setCell_same (w3) (w.heap.size + 1 + 1) 4 _ _ (.slice Y3 u.known.length x3) (To3.out)
  have po35 : ((w3.setCell ⟨w.heap.size + 1 + 1, 4, none⟩ (.slice Y3 u.known.length x3))).cell? ⟨w.heap.size + 1 + 1, 5, none⟩ = some (.int .i64 0) := cell_of_row ((w3.setCell ⟨w.heap.size + 1 + 1, 4, none⟩ (.slice Y3 u.known.length x3))) _ 5 _ _ (0, 0) (qo34.out)
  have pf35 : ((w3.setCell ⟨w.heap.size + 1 + 1, 4, none⟩ (.slice Y3 u.known.length x3))).frozen? ⟨w.heap.size + 1 + 1, 5, none⟩ = false := frozen_of_row ((w3.setCell ⟨w.heap.size + 1 + 1, 4, none⟩ (.slice Y3 u.known.length x3))) _ 5 _ _ (qo34.out)
  have qo35 : Hid ((((w3.setCell ⟨w.heap.size + 1 + 1, 4, none⟩ (.slice Y3 u.known.length x3)).setCell ⟨w.heap.size + 1 + 1, 5, none⟩ (.int .i64 u.least))).heap[w.heap.size + 1 + 1]? = some (.cells #[.slice Y1 u.reps.length x1, .int .i64 u.leader, .int .i64 u.epoch, .slice Y2 u.insync.length x2, .slice Y3 u.known.length x3, .int .i64 u.least] 31 (0, 0))) := heap_setCell_same ((w3.setCell ⟨w.heap.size + 1 + 1, 4, none⟩ (.slice Y3 u.known.length x3))) (w.heap.size + 1 + 1) 5 _ _ (.int .i64 u.least) (qo34.out)
  have Uo3 := Seg.hid (qo35.out)
  have Ur3 := Seg.hid ((heap_setCell_other ((w3.setCell ⟨w.heap.size + 1 + 1, 4, none⟩ (.slice Y3 u.known.length x3))) ⟨w.heap.size + 1 + 1, 5, none⟩ (w.heap.size + 1) (.int .i64 u.least) (by simp)).trans ((heap_setCell_other (w3) ⟨w.heap.size + 1 + 1, 4, none⟩ (w.heap.size + 1) (.slice Y3 u.known.length x3) (by simp)).trans (Tr3.out)))
  have Ua3 := Seg.hid ((heap_setCell_other ((w3.setCell ⟨w.heap.size + 1 + 1, 4, none⟩ (.slice Y3 u.known.length x3))) ⟨w.heap.size + 1 + 1, 5, none⟩ w.heap.size (.int .i64 u.least) (by simp; omega)).trans ((heap_setCell_other (w3) ⟨w.heap.size + 1 + 1, 4, none⟩ w.heap.size (.slice Y3 u.known.length x3) (by simp; omega)).trans (Ta3.out)))
  have D3 : Hid (Below w.heap.size w ((w3.setCell ⟨w.heap.size + 1 + 1, 4, none⟩ (.slice Y3 u.known.length x3)).setCell ⟨w.heap.size + 1 + 1, 5, none⟩ (.int .i64 u.least))) := ((B3.out).setCell (p := ⟨w.heap.size + 1 + 1, 4, none⟩) (by simp; omega) (.slice Y3 u.known.length x3)).setCell (p := ⟨w.heap.size + 1 + 1, 5, none⟩) (by simp; omega) (.int .i64 u.least)
  have N31' : Hid (RplsOwn ((w3.setCell ⟨w.heap.size + 1 + 1, 4, none⟩ (.slice Y3 u.known.length x3)).setCell ⟨w.heap.size + 1 + 1, 5, none⟩ (.int .i64 u.least)) (seg (w.heap.size + 3) w1.heap.size) (.slice Y1 u.reps.length x1) u.reps) := LOwn.keep keepsORpl N31.out (by simp) (fun g hg => by have := hg.1; rw [heap_setCell_other _ _ _ _ (by show _ ≠ w.heap.size + 1 + 1; omega), heap_setCell_other _ _ _ _ (by show _ ≠ w.heap.size + 1 + 1; omega)])
  have N32' : Hid (IntsOwn ((w3.setCell ⟨w.heap.size + 1 + 1, 4, none⟩ (.slice Y3 u.known.length x3)).setCell ⟨w.heap.size + 1 + 1, 5, none⟩ (.int .i64 u.least)) (seg (w1.heap.size) w2.heap.size) (.slice Y2 u.insync.length x2) u.insync) := LOwn.keep keepsOI N32.out (by simp) (fun g hg => by have := hg.1; rw [heap_setCell_other _ _ _ _ (by show _ ≠ w.heap.size + 1 + 1; omega), heap_setCell_other _ _ _ _ (by show _ ≠ w.heap.size + 1 + 1; omega)])
  have N33' : Hid (IntsOwn ((w3.setCell ⟨w.heap.size + 1 + 1, 4, none⟩ (.slice Y3 u.known.length x3)).setCell ⟨w.heap.size + 1 + 1, 5, none⟩ (.int .i64 u.least)) (seg (w2.heap.size) w3.heap.size) (.slice Y3 u.known.length x3) u.known) := LOwn.keep keepsOI N33.out (by simp) (fun g hg => by have := hg.1; rw [heap_setCell_other _ _ _ _ (by show _ ≠ w.heap.size + 1 + 1; omega), heap_setCell_other _ _ _ _ (by show _ ≠ w.heap.size + 1 + 1; omega)])
  obtain ⟨fx, hfx⟩ : ∃ fx : Nat → Value, fx = (fun q => if q = 0 then .slice Y1 u.reps.length x1 else if q = 1 then .int .i64 u.leader else if q = 2 then .int .i64 u.epoch else if q = 3 then .slice Y2 u.insync.length x2 else if q = 4 then .slice Y3 u.known.length x3 else .int .i64 u.least) := ⟨_, rfl⟩
  have HX := Seg.hid hfx
  have Uz : Hid (((w3.setCell ⟨w.heap.size + 1 + 1, 4, none⟩ (.slice Y3 u.known.length x3)).setCell ⟨w.heap.size + 1 + 1, 5, none⟩ (.int .i64 u.least)).heap[w.heap.size + 1 + 1]? = some (.cells (arrPrt fx) 31 (0, 0))) := by
    show _ = _
    rw [hfx]
    exact Uo3.out
  clear hfx
  have H5a := Cells.there_of Ur3.out
  have H5 : Hid (((w3.setCell ⟨w.heap.size + 1 + 1, 4, none⟩ (.slice Y3 u.known.length x3)).setCell ⟨w.heap.size + 1 + 1, 5, none⟩ (.int .i64 u.least)).there (w.heap.size + 1) 0 (arrPrt fx).size) := H5a
  clear H5a
  have H4 := Seg.hid (Cells.whole (vs := arrPrt fx) Ur3.out rfl)
  have B9 := Seg.hid (Cells.below_setCells (g := w.heap.size + 1) (by omega) (arrPrt fx).toList 0 _ _ D3.out)
  have ZS : (((w3.setCell ⟨w.heap.size + 1 + 1, 4, none⟩ (.slice Y3 u.known.length x3)).setCell ⟨w.heap.size + 1 + 1, 5, none⟩ (.int .i64 u.least)).setCells (w.heap.size + 1) 0 (arrPrt fx).toList).heap.size = w3.heap.size := by rw [Cells.size_setCells]; simp
  have F1 : Hid (RplsOwn (((w3.setCell ⟨w.heap.size + 1 + 1, 4, none⟩ (.slice Y3 u.known.length x3)).setCell ⟨w.heap.size + 1 + 1, 5, none⟩ (.int .i64 u.least)).setCells (w.heap.size + 1) 0 (arrPrt fx).toList) (seg (w.heap.size + 3) w1.heap.size) (fx 0) u.reps) := by
    show RplsOwn _ _ _ _
    rw [show fx 0 = .slice Y1 u.reps.length x1 by rw [HX.out]; rfl]
    refine LOwn.keep keepsORpl N31'.out (by rw [Cells.size_setCells]; exact Nat.le_refl _) (fun g hg => ?_)
    have := hg.1
    rw [Cells.heap_setCells_other _ _ (by omega)]
  have F2 : Hid (IntsOwn (((w3.setCell ⟨w.heap.size + 1 + 1, 4, none⟩ (.slice Y3 u.known.length x3)).setCell ⟨w.heap.size + 1 + 1, 5, none⟩ (.int .i64 u.least)).setCells (w.heap.size + 1) 0 (arrPrt fx).toList) (seg (w1.heap.size) w2.heap.size) (fx 3) u.insync) := by
    show IntsOwn _ _ _ _
    rw [show fx 3 = .slice Y2 u.insync.length x2 by rw [HX.out]; rfl]
    refine LOwn.keep keepsOI N32'.out (by rw [Cells.size_setCells]; exact Nat.le_refl _) (fun g hg => ?_)
    have := hg.1
    rw [Cells.heap_setCells_other _ _ (by omega)]
  have F3 : Hid (IntsOwn (((w3.setCell ⟨w.heap.size + 1 + 1, 4, none⟩ (.slice Y3 u.known.length x3)).setCell ⟨w.heap.size + 1 + 1, 5, none⟩ (.int .i64 u.least)).setCells (w.heap.size + 1) 0 (arrPrt fx).toList) (seg (w2.heap.size) w3.heap.size) (fx 4) u.known) := by
    show IntsOwn _ _ _ _
    rw [show fx 4 = .slice Y3 u.known.length x3 by rw [HX.out]; rfl]
    refine LOwn.keep keepsOI N33'.out (by rw [Cells.size_setCells]; exact Nat.le_refl _) (fun g hg => ?_)
    have := hg.1
    rw [Cells.heap_setCells_other _ _ (by omega)]
  obtain ⟨Q, hQ⟩ : ∃ Q : Nat → Nat → Prop, Q = (fun i => if i = 0 then (seg (w.heap.size + 3) w1.heap.size) else if i = 3 then (seg (w1.heap.size) w2.heap.size) else if i = 4 then (seg (w2.heap.size) w3.heap.size) else fun _ => False) := ⟨_, rfl⟩
  have hq1 : Q 0 = (seg (w.heap.size + 3) w1.heap.size) := by rw [hQ]; rfl
  have hq2 : Q 3 = (seg (w1.heap.size) w2.heap.size) := by rw [hQ]; rfl
  have hq3 : Q 4 = (seg (w2.heap.size) w3.heap.size) := by rw [hQ]; rfl
  have hq0 : ∀ i y, i ≠ 0 → i ≠ 3 → i ≠ 4 → ¬ Q i y := by
    intro i y n1 n2 n3 hy
    rw [hQ] at hy
    simp only [if_neg n1, if_neg n2, if_neg n3] at hy
  clear hQ
  have EX : Hid (EOPrt (((w3.setCell ⟨w.heap.size + 1 + 1, 4, none⟩ (.slice Y3 u.known.length x3)).setCell ⟨w.heap.size + 1 + 1, 5, none⟩ (.int .i64 u.least)).setCells (w.heap.size + 1) 0 (arrPrt fx).toList) (seg w.heap.size (((w3.setCell ⟨w.heap.size + 1 + 1, 4, none⟩ (.slice Y3 u.known.length x3)).setCell ⟨w.heap.size + 1 + 1, 5, none⟩ (.int .i64 u.least)).setCells (w.heap.size + 1) 0 (arrPrt fx).toList).heap.size) fx u) := by
    refine ⟨⟨by rw [HX.out]; rfl, by rw [HX.out]; rfl, by rw [HX.out]; rfl⟩, Q, ?_, ?_, ?_, ?_, ?_⟩
    · intro i y hy
      by_cases e1 : i = 0
      · subst e1; rw [hq1] at hy
        exact ⟨by have := hy.1; omega, by rw [ZS]; have := hy.2; omega⟩
      by_cases e2 : i = 3
      · subst e2; rw [hq2] at hy
        exact ⟨by have := hy.1; omega, by rw [ZS]; have := hy.2; omega⟩
      by_cases e3 : i = 4
      · subst e3; rw [hq3] at hy
        exact ⟨by have := hy.1; omega, by rw [ZS]; have := hy.2; omega⟩
      exact absurd hy (hq0 i y e1 e2 e3)
    · intro i j hij y hi hj
      by_cases e1 : i = 0
      · subst e1; rw [hq1] at hi
        by_cases f1 : j = 0
        · subst f1
          exact absurd rfl hij
        by_cases f2 : j = 3
        · subst f2
          rw [hq2] at hj
          have a1 := hi.1; have a2 := hi.2; have a3 := hj.1; have a4 := hj.2; omega
        by_cases f3 : j = 4
        · subst f3
          rw [hq3] at hj
          have a1 := hi.1; have a2 := hi.2; have a3 := hj.1; have a4 := hj.2; omega
        exact absurd hj (hq0 j y f1 f2 f3)
      by_cases e2 : i = 3
      · subst e2; rw [hq2] at hi
        by_cases f1 : j = 0
        · subst f1
          rw [hq1] at hj
          have a1 := hi.1; have a2 := hi.2; have a3 := hj.1; have a4 := hj.2; omega
        by_cases f2 : j = 3
        · subst f2
          exact absurd rfl hij
        by_cases f3 : j = 4
        · subst f3
          rw [hq3] at hj
          have a1 := hi.1; have a2 := hi.2; have a3 := hj.1; have a4 := hj.2; omega
        exact absurd hj (hq0 j y f1 f2 f3)
      by_cases e3 : i = 4
      · subst e3; rw [hq3] at hi
        by_cases f1 : j = 0
        · subst f1
          rw [hq1] at hj
          have a1 := hi.1; have a2 := hi.2; have a3 := hj.1; have a4 := hj.2; omega
        by_cases f2 : j = 3
        · subst f2
          rw [hq2] at hj
          have a1 := hi.1; have a2 := hi.2; have a3 := hj.1; have a4 := hj.2; omega
        by_cases f3 : j = 4
        · subst f3
          exact absurd rfl hij
        exact absurd hj (hq0 j y f1 f2 f3)
      exact absurd hi (hq0 i y e1 e2 e3)
    · rw [hq1]; exact F1.out
    · rw [hq2]; exact F2.out
    · rw [hq3]; exact F3.out
  clear hq0 hq1 hq2 hq3
  have ON := Seg.hid (onePrt (atOPrt _ _ _ _ EX.out))
  clear Ta1 Tr1 To1 Ua1 M1 Ta2 Tr2 To2 Ua2 M2 Ta3 Tr3 To3 Ua3 M3 ZS
  go_upto_region 8 with fail
  clear po34 pf34 po35 pf35
  generalize ((w3.setCell ⟨w.heap.size + 1 + 1, 4, none⟩ (.slice Y3 u.known.length x3)).setCell ⟨w.heap.size + 1 + 1, 5, none⟩ (.int .i64 u.least)) = wz at *
  go_wp2_with (first | (refine wpList_load_row rfl 31 _ rfl (w.heap.size + 1 + 1) rfl _ _ _ _ Uz.out Try.underlying31 rfl infoPrt ?_) | (refine wpList_store_mid rfl 31 _ _ rfl (w.heap.size + 1) 0 (arrPrt fx) rfl rfl H5.out infoPrt ON.out ?_))
  exact bodyPost_ret (v := .agg (arrPrt fx)) (results_cell_row rfl _ _ (w.heap.size + 1) _ _ _ _ rfl H4.out Try.underlying31 rfl infoPrt) rfl ⟨_, rfl, ⟨fx, rfl, EX.out⟩, B9.out⟩
end Go.Proofs.Ytggjinjadllapaa.Ow
namespace Go.Proofs.Ytggjinjadllapaa.Ow
set_option maxRecDepth 8000
open Go.RowKit
open Recs
open Ls
set_option linter.unusedVariables false
theorem heldHeadS_none (A : Option Addr) (c : Nat) (k : Int) (w : World) : Calls Try.prog 55 #[.slice A 0 c, .int .i64 k] w fun e w' => e = .returned (.int .i64 k) ∧ Below w.heap.size w w' := by
  go_enter Try.func55, Try.ntmps55
  go_wp2
  go_loop [1, 5] (fun x i => i = .int .i64 0 ∧ x = .int .i64 k) (fun _ _ => 0)
  case atStart => exact ⟨rfl, rfl⟩
  case round =>
    obtain ⟨rfl, rfl⟩ := hrel
    go_wp2
    go_ret
    exact ⟨rfl, Below.refl _ _⟩
set_option maxHeartbeats 3200000 in
theorem heldHeadS_core (g o n c k : Nat) (us : List Hd) (F : Nat → Nat → Value) (w : World) (S : Nat → Prop) (hn : n ≤ 9223372036854775807) (hc : n ≤ c) (hg : g < w.heap.size) (hS : ∀ g, S g → g < w.heap.size) (hnl : us.length = n) (hk : 0 < k) (hk1 : k + tot nHd us ≤ 4000000000000000000)
    (ha : ∀ i, i < n → ∀ j, j < 2 → w.cell? ⟨g, o + i * 2 + j, none⟩ = some (F i j)) (he : ∀ i, i < n → EHd w S (F i) (mHd (k + tot nHd (us.take i)) (us.getD i default))) :
    Calls Try.prog 55 #[.slice (some ⟨g, o, none⟩) n c, .int .i64 k] w fun e w' => e = .returned (.int .i64 ((k + tot nHd us : Nat) : Int)) ∧ Below w.heap.size w w' := by
  have HA := Seg.hid ha; have HE := Seg.hid he
  have HN := Seg.hid hnl
  have KL : Hid (∀ j, j < n → k + tot nHd (us.take j) + nHd (us.getD j default) ≤ 4000000000000000000) := fun j hj => by
    have a1 := tot_take nHd (ts := us) (j := j) (by rw [HN.out]; exact hj)
    have a2 := tot_le nHd us (j + 1)
    omega
  have KE : Hid (k + tot nHd (us.take n) = k + tot nHd us) := by show _ = _; rw [← HN.out, List.take_length]
  clear ha he hk1 hnl
  go_enter Try.func55, Try.ntmps55
  go_wp2
  go_loopw [1, 5] (fun x i wr => ∃ (j : Nat), j ≤ n ∧ i = .int .i64 j ∧ x = .int .i64 ((k + tot nHd (us.take j) : Nat) : Int) ∧ Hid (Below w.heap.size w wr)) (fun _ i _ => n - (intOf i).toNat)
  case atStart => exact ⟨0, Nat.zero_le _, rfl, rfl, Below.refl _ _⟩
  case round =>
    obtain ⟨j, hj, rfl, rfl, HR⟩ := hrel
    by_cases hlt : j < n
    · have h0 : (0 : Int) ≤ (j : Int) := by omega
      have h1 : (j : Int) < (n : Int) := by omega
      have EL := HE.out j hlt
      have TK := Seg.hid (tot_take nHd (ts := us) (j := j) (by rw [HN.out]; exact hlt))
      have hxb := KL.out j hlt
      have HC : Hid (∀ w', Below w.heap.size w w' → ∀ q, q < 2 → w'.cell? ⟨g, o + j * 2 + q, none⟩ = some (F j q)) := fun w' hb q hq => by rw [hb.cell (p := ⟨g, o + j * 2 + q, none⟩) hg]; exact HA.out j hlt q hq
      obtain ⟨x, hx⟩ : ∃ x, k + tot nHd (us.take j) = x := ⟨_, rfl⟩
      have HX := Seg.hid hx
      rw [hx] at hxb EL ⊢
      have hx0 : 0 < x := by omega
      clear hx
      generalize us.getD j default = u at *
      have HXB := Seg.hid hxb
      clear hxb
      obtain ⟨s0, s1⟩ := EL
      have HB_x : Hid (x + 2 ≤ 4000000000000000000) := by show _ ≤ _; have := HXB.out; simp only [nHd] at this; omega
      have hd_x : x + 2 ≤ 4000000000000000000 := by have := HB_x.out; omega
      have S0 := Seg.hid s0
      have S1 := Seg.hid s1
      clear s0 s1
      have c0 : wr.cell? ⟨g, o + j * 2, none⟩ = some (.string (mt (x + 0))) := (HC.out _ HR.out 0 (by omega)).trans (by rw [S0.out]; exact congrArg (fun z : Nat => some (Value.string (mt z))) (show (x + 0) = x + 0 by omega))
      have c0d : wr.drew.cell? ⟨g, o + j * 2, none⟩ = some (.string (mt (x + 0))) := c0
      go_wp2_with fail
      go_region_with (go_at_call 53; refine (markText_at _ (x + 0) (by omega) wr.drew (by omega) (by omega)).mono ?_; rintro e w1 ⟨rfl, b1⟩; have B1 : Hid (Below w.heap.size w w1) := chainD HR.out b1; clear b1; have c0e : w1.cell? ⟨g, o + j * 2, none⟩ = some (.string (mt (x + 0))) := (HC.out _ B1.out 0 (by omega)).trans ((HC.out _ HR.out 0 (by omega)).symm.trans c0))
      all_goals
        try clear c0
        try clear c0d
        try clear c0e
        have c1 : w1.cell? ⟨g, o + j * 2 + 1, none⟩ = some (.string (mt (x + 1))) := (HC.out _ B1.out 1 (by omega)).trans (by rw [S1.out]; exact congrArg (fun z : Nat => some (Value.string (mt z))) (show (x + 1) = x + 1 by omega))
        have c1d : w1.drew.cell? ⟨g, o + j * 2 + 1, none⟩ = some (.string (mt (x + 1))) := c1
        go_wp2_with fail
        go_region_with (go_at_call 53; refine (markText_at _ (x + 1) (by omega) w1.drew (by omega) (by omega)).mono ?_; rintro e w2 ⟨rfl, b2⟩; have B2 : Hid (Below w.heap.size w w2) := chainD B1.out b2; clear b2; have c1e : w2.cell? ⟨g, o + j * 2 + 1, none⟩ = some (.string (mt (x + 1))) := (HC.out _ B2.out 1 (by omega)).trans ((HC.out _ B1.out 1 (by omega)).symm.trans c1))
        all_goals
          try clear c1
          try clear c1d
          try clear c1e
          have HKK : Hid ((x : Int) + 1 + 1 = ((k + tot nHd (us.take (j + 1)) : Nat) : Int)) := by
            show _ = _
            have a1 := TK.out; have a2 := HX.out; simp only [nHd] at a1; omega
          go_wp2
          go_roundw
          case rel => exact ⟨j + 1, by omega, by go_num, congrArg (Value.int .i64) HKK.out, B2.out⟩
          case measure => simp [intOf]; omega
    · have : j = n := by omega
      subst this
      rw [KE.out]
      go_wp2
      go_ret
      exact ⟨rfl, HR.out⟩
theorem heldHeadS_at (x : Int) (k : Nat) (hx : x = (k : Int)) (S : Nat → Prop) (us : List Hd) (w : World) {v : Value} (hk : 0 < k) (hk1 : k + tot nHd us ≤ 4000000000000000000) (hS : ∀ g, S g → g < w.heap.size) (hv : LAt 2 EHd w S v (mL mHd nHd k us)) :
    Calls Try.prog 55 #[v, .int .i64 x] w fun e w' => e = .returned (.int .i64 ((k + tot nHd us : Nat) : Int)) ∧ Below w.heap.size w w' := by
  subst hx
  obtain ⟨hn, A, c, rfl, h⟩ := hv
  rw [mL_len] at hn h ⊢
  by_cases hz : us.length = 0
  · obtain rfl := List.length_eq_zero_iff.1 hz
    exact heldHeadS_none A c k w
  obtain ⟨g, o, F, rfl, hg, hc, hcell, hel⟩ := h.resolve_left hz
  exact heldHeadS_core g o us.length c k us F w S hn hc (hS g hg) hS rfl hk hk1 hcell (fun i hi => by have := hel i hi; rw [mL_get mHd nHd hi] at this; exact this)
end Go.Proofs.Ytggjinjadllapaa.Ow
namespace Go.Proofs.Ytggjinjadllapaa.Ow
set_option maxRecDepth 8000
open Go.RowKit
open Recs
open Ls
set_option linter.unusedVariables false
theorem heldRecordS_none (A : Option Addr) (c : Nat) (k : Int) (w : World) : Calls Try.prog 30 #[.slice A 0 c, .int .i64 k] w fun e w' => e = .returned (.int .i64 k) ∧ Below w.heap.size w w' := by
  go_enter Try.func30, Try.ntmps30
  go_wp2
  go_loop [1, 5] (fun x i => i = .int .i64 0 ∧ x = .int .i64 k) (fun _ _ => 0)
  case atStart => exact ⟨rfl, rfl⟩
  case round =>
    obtain ⟨rfl, rfl⟩ := hrel
    go_wp2
    go_ret
    exact ⟨rfl, Below.refl _ _⟩
set_option maxHeartbeats 3200000 in
theorem heldRecordS_core (g o n c k : Nat) (us : List Rec) (F : Nat → Nat → Value) (w : World) (S : Nat → Prop) (hn : n ≤ 9223372036854775807) (hc : n ≤ c) (hg : g < w.heap.size) (hS : ∀ g, S g → g < w.heap.size) (hnl : us.length = n) (hk : 0 < k) (hk1 : k + tot nRec us ≤ 4000000000000000000)
    (ha : ∀ i, i < n → ∀ j, j < 6 → w.cell? ⟨g, o + i * 6 + j, none⟩ = some (F i j)) (he : ∀ i, i < n → ERec w S (F i) (mRec (k + tot nRec (us.take i)) (us.getD i default))) :
    Calls Try.prog 30 #[.slice (some ⟨g, o, none⟩) n c, .int .i64 k] w fun e w' => e = .returned (.int .i64 ((k + tot nRec us : Nat) : Int)) ∧ Below w.heap.size w w' := by
  have HA := Seg.hid ha; have HE := Seg.hid he
  have HN := Seg.hid hnl
  have KL : Hid (∀ j, j < n → k + tot nRec (us.take j) + nRec (us.getD j default) ≤ 4000000000000000000) := fun j hj => by
    have a1 := tot_take nRec (ts := us) (j := j) (by rw [HN.out]; exact hj)
    have a2 := tot_le nRec us (j + 1)
    omega
  have KE : Hid (k + tot nRec (us.take n) = k + tot nRec us) := by show _ = _; rw [← HN.out, List.take_length]
  clear ha he hk1 hnl
  go_enter Try.func30, Try.ntmps30
  go_wp2
  go_loopw [1, 5] (fun x i wr => ∃ (j : Nat), j ≤ n ∧ i = .int .i64 j ∧ x = .int .i64 ((k + tot nRec (us.take j) : Nat) : Int) ∧ Hid (Below w.heap.size w wr)) (fun _ i _ => n - (intOf i).toNat)
  case atStart => exact ⟨0, Nat.zero_le _, rfl, rfl, Below.refl _ _⟩
  case round =>
    obtain ⟨j, hj, rfl, rfl, HR⟩ := hrel
    by_cases hlt : j < n
    · have h0 : (0 : Int) ≤ (j : Int) := by omega
      have h1 : (j : Int) < (n : Int) := by omega
      have EL := HE.out j hlt
      have TK := Seg.hid (tot_take nRec (ts := us) (j := j) (by rw [HN.out]; exact hlt))
      have hxb := KL.out j hlt
      have HC : Hid (∀ w', Below w.heap.size w w' → ∀ q, q < 6 → w'.cell? ⟨g, o + j * 6 + q, none⟩ = some (F j q)) := fun w' hb q hq => by rw [hb.cell (p := ⟨g, o + j * 6 + q, none⟩) hg]; exact HA.out j hlt q hq
      obtain ⟨x, hx⟩ : ∃ x, k + tot nRec (us.take j) = x := ⟨_, rfl⟩
      have HX := Seg.hid hx
      rw [hx] at hxb EL ⊢
      have hx0 : 0 < x := by omega
      clear hx
      generalize us.getD j default = u at *
      have HXB := Seg.hid hxb
      clear hxb
      obtain ⟨s0, s1, s2, s3, s4, s5⟩ := EL
      obtain ⟨A5, c5, g5⟩ := s5.form
      have M5 : Hid (LAt 2 EHd w S (.slice A5 u.heads.length c5) (mL mHd nHd (x + 5) u.heads) ∧ F j 5 = .slice A5 u.heads.length c5) := by
        have hl : (mRec x u).heads.length = u.heads.length := mL_len _ _ _ _
        rw [hl] at g5
        have h := s5
        rw [g5] at h
        exact ⟨h, g5⟩
      have HB_x : Hid (x + 5 + tot nHd u.heads ≤ 4000000000000000000) := by show _ ≤ _; have := HXB.out; simp only [nRec] at this; omega
      have hd_x : x + 5 ≤ 4000000000000000000 := by have := HB_x.out; omega
      have S0 := Seg.hid s0
      have S1 := Seg.hid s1
      have S2 := Seg.hid s2
      have S3 := Seg.hid s3
      have S4 := Seg.hid s4
      clear s0 s1 s2 s3 s4 s5 g5
      have c0 : wr.cell? ⟨g, o + j * 6, none⟩ = some (.int .i64 ((x : Int))) := (HC.out _ HR.out 0 (by omega)).trans (by rw [S0.out]; exact congrArg (fun z : Int => some (Value.int .i64 z)) (show (((x + 0) : Nat) : Int) = (x : Int) by omega))
      have c1 : wr.cell? ⟨g, o + j * 6 + 1, none⟩ = some (.bool (((x : Int) + 1) % 3 == 0)) := (HC.out _ HR.out 1 (by omega)).trans (by rw [S1.out]; exact congrArg (fun z : Int => some (Value.bool (z % 3 == 0))) (show (((x + 1) : Nat) : Int) = (x : Int) + 1 by omega))
      have c2 : wr.cell? ⟨g, o + j * 6 + 2, none⟩ = some (.string (mt (x + 2))) := (HC.out _ HR.out 2 (by omega)).trans (by rw [S2.out]; exact congrArg (fun z : Nat => some (Value.string (mt z))) (show (x + 2) = x + 2 by omega))
      have c2d : wr.drew.cell? ⟨g, o + j * 6 + 2, none⟩ = some (.string (mt (x + 2))) := c2
      go_wp2_with fail
      go_region_with (go_at_call 53; refine (markText_at _ (x + 2) (by omega) wr.drew (by omega) (by omega)).mono ?_; rintro e w1 ⟨rfl, b1⟩; have B1 : Hid (Below w.heap.size w w1) := chainD HR.out b1; clear b1; have c2e : w1.cell? ⟨g, o + j * 6 + 2, none⟩ = some (.string (mt (x + 2))) := (HC.out _ B1.out 2 (by omega)).trans ((HC.out _ HR.out 2 (by omega)).symm.trans c2))
      all_goals
        try clear c0
        try clear c1
        try clear c2
        try clear c2d
        try clear c2e
        have c3 : w1.cell? ⟨g, o + j * 6 + 3, none⟩ = some (.bool (((x : Int) + 1 + 1 + 1) % 3 == 0)) := (HC.out _ B1.out 3 (by omega)).trans (by rw [S3.out]; exact congrArg (fun z : Int => some (Value.bool (z % 3 == 0))) (show (((x + 3) : Nat) : Int) = (x : Int) + 1 + 1 + 1 by omega))
        have c4 : w1.cell? ⟨g, o + j * 6 + 4, none⟩ = some (.string (mt (x + 4))) := (HC.out _ B1.out 4 (by omega)).trans (by rw [S4.out]; exact congrArg (fun z : Nat => some (Value.string (mt z))) (show (x + 4) = x + 4 by omega))
        have c4d : w1.drew.cell? ⟨g, o + j * 6 + 4, none⟩ = some (.string (mt (x + 4))) := c4
        go_wp2_with fail
        go_region_with (go_at_call 53; refine (markText_at _ (x + 4) (by omega) w1.drew (by omega) (by omega)).mono ?_; rintro e w2 ⟨rfl, b2⟩; have B2 : Hid (Below w.heap.size w w2) := chainD B1.out b2; clear b2; have c4e : w2.cell? ⟨g, o + j * 6 + 4, none⟩ = some (.string (mt (x + 4))) := (HC.out _ B2.out 4 (by omega)).trans ((HC.out _ B1.out 4 (by omega)).symm.trans c4))
        all_goals
          try clear c3
          try clear c4
          try clear c4d
          try clear c4e
          have c5 : w2.cell? ⟨g, o + j * 6 + 5, none⟩ = some (.slice A5 u.heads.length c5) := (HC.out _ B2.out 5 (by omega)).trans (congrArg some M5.out.2)
          go_wp2_with fail
          clear c5
          refine (heldHeadS_at _ (x + 5) (by omega) S u.heads w2 (by omega) (by have := HB_x.out; omega) (fun g hg => Nat.lt_of_lt_of_le (hS g hg) B2.out.size) (by have h := M5.out.1; rw [show (x + 5) = x + 5 by omega] at h; exact h.below keepsHd B2.out hS)).mono ?_
          rintro e w3 ⟨rfl, b3⟩
          have B3 := Seg.hid (chain B2.out b3)
          clear b3
          obtain ⟨y3, hy3⟩ : ∃ y3, x + 5 + tot nHd u.heads = y3 := ⟨_, rfl⟩
          rw [hy3]
          have Hy3 := Seg.hid hy3
          have HB_y3 : Hid (y3 + 0 ≤ 4000000000000000000) := by show _ ≤ _; have := HB_x.out; omega
          have hd_y3 : y3 + 0 ≤ 4000000000000000000 := by have := HB_y3.out; omega
          have hp_y3 : 0 < y3 := by omega
          have hq_y3 : ¬ (y3 : Int) < 0 := by omega
          clear hy3
          have HKK : Hid ((y3 : Int) = ((k + tot nRec (us.take (j + 1)) : Nat) : Int)) := by
            show _ = _
            have z0 := Hy3.out; have a1 := TK.out; have a2 := HX.out; simp only [nRec] at a1; omega
          go_wp2
          go_roundw
          case rel => exact ⟨j + 1, by omega, by go_num, congrArg (Value.int .i64) HKK.out, B3.out⟩
          case measure => simp [intOf]; omega
    · have : j = n := by omega
      subst this
      rw [KE.out]
      go_wp2
      go_ret
      exact ⟨rfl, HR.out⟩
theorem heldRecordS_at (x : Int) (k : Nat) (hx : x = (k : Int)) (S : Nat → Prop) (us : List Rec) (w : World) {v : Value} (hk : 0 < k) (hk1 : k + tot nRec us ≤ 4000000000000000000) (hS : ∀ g, S g → g < w.heap.size) (hv : LAt 6 ERec w S v (mL mRec nRec k us)) :
    Calls Try.prog 30 #[v, .int .i64 x] w fun e w' => e = .returned (.int .i64 ((k + tot nRec us : Nat) : Int)) ∧ Below w.heap.size w w' := by
  subst hx
  obtain ⟨hn, A, c, rfl, h⟩ := hv
  rw [mL_len] at hn h ⊢
  by_cases hz : us.length = 0
  · obtain rfl := List.length_eq_zero_iff.1 hz
    exact heldRecordS_none A c k w
  obtain ⟨g, o, F, rfl, hg, hc, hcell, hel⟩ := h.resolve_left hz
  exact heldRecordS_core g o us.length c k us F w S hn hc (hS g hg) hS rfl hk hk1 hcell (fun i hi => by have := hel i hi; rw [mL_get mRec nRec hi] at this; exact this)
end Go.Proofs.Ytggjinjadllapaa.Ow
