/- Query: the law's copier answers memory of its own; The law's copier of numbers: what it answers is its own. -/
import Derived.Test.YtkibaimemomjpaaJQ42
import Derived.Test.YtkibaimemomjpaaJQ44
import Derived.Test.YtkibaimemomjpaaJQ43
import Derived.Test.YtkibaimemomjpaaJQ04
namespace Go.Proofs.Ytkibaimemomjpaa.Ow
set_option maxRecDepth 8000
open Go.RowKit
open Recs
open Ls
set_option linter.unusedVariables false
set_option maxHeartbeats 1600000 in
theorem toQuery_own (v : Value) (u : Qry) (w : World) (S : Nat → Prop) (hv : QryAt w S v u) (hS : ∀ g, S g → g < w.heap.size) (hf : szQry u ≤ 1048576) :
    Calls Try.prog 7 #[v] w fun e w' => ∃ v', e = .returned v' ∧ QryOwn w' (seg w.heap.size w'.heap.size) v' u ∧ Below w.heap.size w w' := by
  obtain ⟨f, rfl, y0, y1, y2, y3, y4, y5, y6, y7, y8, y9, y10⟩ := hv
  try simp only [arrQry]
  rw [show f 0 = _ from y0]
  clear y0
  rw [show f 1 = _ from y1]
  clear y1
  rw [show f 2 = _ from y2]
  clear y2
  rw [show f 3 = _ from y3]
  clear y3
  rw [show f 4 = _ from y4]
  clear y4
  obtain ⟨A5, c5, g5⟩ := y5.form
  rw [g5] at y5 ⊢
  have H5 := Seg.hid y5
  clear y5 g5
  obtain ⟨A6, c6, g6⟩ := y6.form
  rw [g6] at y6 ⊢
  have H6 := Seg.hid y6
  clear y6 g6
  rw [show f 7 = _ from y7]
  clear y7
  rw [show f 8 = _ from y8]
  clear y8
  rw [show f 9 = _ from y9]
  clear y9
  obtain ⟨A10, c10, g10⟩ := y10.form
  rw [g10] at y10 ⊢
  have H10 := Seg.hid y10
  clear y10 g10
  unfold szQry at hf
  go_enter Try.func7, Try.ntmps7
  go_wp2_with fail
  refine (toStepS_own _ u.wh (((w.alloc _).alloc _).alloc _) S (H5.out.below keepsStp (below3 w _ _ _) hS) (fun g hg => by rw [hsz, hsz, hsz]; have := hS g hg; omega) (by omega)).mono ?_
  rintro e w1 ⟨v1, rfl, l1, b1⟩
  have B1 := Seg.hid (chain (below3 w _ _ _) b1)
  have Ta1 : Hid (w1.heap[w.heap.size]? = some (.cells #[.string u.fr, .string u.jn, .int .i64 u.wn, .string u.on, .string u.lk, .slice A5 u.wh.length c5, .slice A6 u.gps.length c6, .int .i64 u.win, .int .i64 u.size, .int .i64 u.every, .slice A10 u.gets.length c10] 26 (0, 0))) := (b1.block w.heap.size (by rw [hsz, hsz, hsz]; omega)).trans (at3z w _ _ _)
  have Tr1 : Hid (w1.heap[w.heap.size + 1]? = some (.cells #[.string ByteArray.empty, .string ByteArray.empty, .int .i64 0, .string ByteArray.empty, .string ByteArray.empty, .slice none 0 0, .slice none 0 0, .int .i64 0, .int .i64 0, .int .i64 0, .slice none 0 0] 34 (0, 0))) := (b1.block (w.heap.size + 1) (by rw [hsz, hsz, hsz]; omega)).trans (at3 w _ _ _)
  have To1 : Hid (w1.heap[w.heap.size + 1 + 1]? = some (.cells #[.string u.fr, .string u.jn, .int .i64 u.wn, .string u.on, .string u.lk, .slice none 0 0, .slice none 0 0, .int .i64 0, .int .i64 0, .int .i64 0, .slice none 0 0] 34 (0, 0))) := (b1.block (w.heap.size + 1 + 1) (by rw [hsz, hsz, hsz]; omega)).trans (Cells.at3' w _ _ _)
  have s1 : w.heap.size + 3 ≤ w1.heap.size := by have := b1.size; rw [hsz, hsz, hsz] at this; omega
  have M1 : Hid (StpsOwn w1 (seg (w.heap.size + 3) w1.heap.size) v1 u.wh) := by
    rw [hsz, hsz, hsz] at l1
    exact l1
  obtain ⟨Y1, x1, r1⟩ := LOwn.form M1.out
  subst r1
  clear b1 l1
  have N11 := M1
  have pa16 : w1.cell? ⟨w.heap.size, 6, none⟩ = some (.slice A6 u.gps.length c6) := cell_of_row w1 _ 6 _ _ (0, 0) Ta1.out
  have po15 : (w1).cell? ⟨w.heap.size + 1 + 1, 5, none⟩ = some (.slice none 0 0) := cell_of_row (w1) _ 5 _ _ (0, 0) (To1.out)
  have pf15 : (w1).frozen? ⟨w.heap.size + 1 + 1, 5, none⟩ = false := frozen_of_row (w1) _ 5 _ _ (To1.out)
  have qo15 : Hid (((w1.setCell ⟨w.heap.size + 1 + 1, 5, none⟩ (.slice Y1 u.wh.length x1))).heap[w.heap.size + 1 + 1]? = some (.cells #[.string u.fr, .string u.jn, .int .i64 u.wn, .string u.on, .string u.lk, .slice Y1 u.wh.length x1, .slice none 0 0, .int .i64 0, .int .i64 0, .int .i64 0, .slice none 0 0] 34 (0, 0))) := heap_setCell_same (w1) (w.heap.size + 1 + 1) 5 _ _ (.slice Y1 u.wh.length x1) (To1.out)
  have Uo1 := Seg.hid (qo15.out)
  have Ur1 := Seg.hid ((heap_setCell_other (w1) ⟨w.heap.size + 1 + 1, 5, none⟩ (w.heap.size + 1) (.slice Y1 u.wh.length x1) (by simp)).trans (Tr1.out))
  have Ua1 := Seg.hid ((heap_setCell_other (w1) ⟨w.heap.size + 1 + 1, 5, none⟩ w.heap.size (.slice Y1 u.wh.length x1) (by simp; omega)).trans (Ta1.out))
  have D1 : Hid (Below w.heap.size w (w1.setCell ⟨w.heap.size + 1 + 1, 5, none⟩ (.slice Y1 u.wh.length x1))) := (B1.out).setCell (p := ⟨w.heap.size + 1 + 1, 5, none⟩) (by simp; omega) (.slice Y1 u.wh.length x1)
  have N11' : Hid (StpsOwn (w1.setCell ⟨w.heap.size + 1 + 1, 5, none⟩ (.slice Y1 u.wh.length x1)) (seg (w.heap.size + 3) w1.heap.size) (.slice Y1 u.wh.length x1) u.wh) := LOwn.keep keepsOStp N11.out (by simp) (fun g hg => by have := hg.1; rw [heap_setCell_other _ _ _ _ (by show _ ≠ w.heap.size + 1 + 1; omega)])
  go_wp2_with fail
  refine (toStringS_own _ u.gps (w1.setCell ⟨w.heap.size + 1 + 1, 5, none⟩ (.slice Y1 u.wh.length x1)) S (H6.out.below keepsStr D1.out hS) (fun g hg => Nat.lt_of_lt_of_le (hS g hg) D1.out.size) (by omega)).mono ?_
  rintro e w2 ⟨v2, rfl, l2, b2⟩
  have B2 := Seg.hid (chain D1.out b2)
  have z2 : (w1.setCell ⟨w.heap.size + 1 + 1, 5, none⟩ (.slice Y1 u.wh.length x1)).heap.size = w1.heap.size := by simp
  have Ta2 := Seg.hid ((b2.block w.heap.size (by omega)).trans Ua1.out)
  have Tr2 := Seg.hid ((b2.block (w.heap.size + 1) (by omega)).trans Ur1.out)
  have To2 := Seg.hid ((b2.block (w.heap.size + 1 + 1) (by omega)).trans Uo1.out)
  have s2 : w1.heap.size ≤ w2.heap.size := by have := b2.size; omega
  have M2 : Hid (StrsOwn w2 (seg (w1.heap.size) w2.heap.size) v2 u.gps) := by
    rw [z2] at l2
    exact l2
  have N21 : Hid (StpsOwn w2 (seg (w.heap.size + 3) w1.heap.size) (.slice Y1 u.wh.length x1) u.wh) := LOwn.keep keepsOStp N11'.out b2.size (fun g hg => b2.block g (by have := hg.2; omega))
  clear z2
  obtain ⟨Y2, x2, r2⟩ := LOwn.form M2.out
  subst r2
  clear b2 l2
  have N22 := M2
  have pa27 : w2.cell? ⟨w.heap.size, 7, none⟩ = some (.int .i64 u.win) := cell_of_row w2 _ 7 _ _ (0, 0) Ta2.out
  have pa28 : w2.cell? ⟨w.heap.size, 8, none⟩ = some (.int .i64 u.size) := cell_of_row w2 _ 8 _ _ (0, 0) Ta2.out
  have pa29 : w2.cell? ⟨w.heap.size, 9, none⟩ = some (.int .i64 u.every) := cell_of_row w2 _ 9 _ _ (0, 0) Ta2.out
  have pa210 : w2.cell? ⟨w.heap.size, 10, none⟩ = some (.slice A10 u.gets.length c10) := cell_of_row w2 _ 10 _ _ (0, 0) Ta2.out
  have po26 : (w2).cell? ⟨w.heap.size + 1 + 1, 6, none⟩ = some (.slice none 0 0) := cell_of_row (w2) _ 6 _ _ (0, 0) (To2.out)
  have pf26 : (w2).frozen? ⟨w.heap.size + 1 + 1, 6, none⟩ = false := frozen_of_row (w2) _ 6 _ _ (To2.out)
  have qo26 : Hid (((w2.setCell ⟨w.heap.size + 1 + 1, 6, none⟩ (.slice Y2 u.gps.length x2))).heap[w.heap.size + 1 + 1]? = some (.cells #[.string u.fr, .string u.jn, .int .i64 u.wn, .string u.on, .string u.lk, .slice Y1 u.wh.length x1, .slice Y2 u.gps.length x2, .int .i64 0, .int .i64 0, .int .i64 0, .slice none 0 0] 34 (0, 0))) := heap_setCell_same (w2) (w.heap.size + 1 + 1) 6 _ _ (.slice Y2 u.gps.length x2) (To2.out)
  have po27 : ((w2.setCell ⟨w.heap.size + 1 + 1, 6, none⟩ (.slice Y2 u.gps.length x2))).cell? ⟨w.heap.size + 1 + 1, 7, none⟩ = some (.int .i64 0) := cell_of_row ((w2.setCell ⟨w.heap.size + 1 + 1, 6, none⟩ (.slice Y2 u.gps.length x2))) _ 7 _ _ (0, 0) (qo26.out)
  have pf27 : ((w2.setCell ⟨w.heap.size + 1 + 1, 6, none⟩ (.slice Y2 u.gps.length x2))).frozen? ⟨w.heap.size + 1 + 1, 7, none⟩ = false := frozen_of_row ((w2.setCell ⟨w.heap.size + 1 + 1, 6, none⟩ (.slice Y2 u.gps.length x2))) _ 7 _ _ (qo26.out)
  have qo27 : Hid ((((w2.setCell ⟨w.heap.size + 1 + 1, 6, none⟩ (.slice Y2 u.gps.length x2)).setCell ⟨w.heap.size + 1 + 1, 7, none⟩ (.int .i64 u.win))).heap[w.heap.size + 1 + 1]? = some (.cells #[.string u.fr, .string u.jn, .int .i64 u.wn, .string u.on, .string u.lk, .slice Y1 u.wh.length x1, .slice Y2 u.gps.length x2, .int .i64 u.win, .int .i64 0, .int .i64 0, .slice none 0 0] 34 (0, 0))) := heap_setCell_same ((w2.setCell ⟨w.heap.size + 1 + 1, 6, none⟩ (.slice Y2 u.gps.length x2))) (w.heap.size + 1 + 1) 7 _ _ (.int .i64 u.win) (qo26.out)
  have po28 : (((w2.setCell ⟨w.heap.size + 1 + 1, 6, none⟩ (.slice Y2 u.gps.length x2)).setCell ⟨w.heap.size + 1 + 1, 7, none⟩ (.int .i64 u.win))).cell? ⟨w.heap.size + 1 + 1, 8, none⟩ = some (.int .i64 0) := cell_of_row (((w2.setCell ⟨w.heap.size + 1 + 1, 6, none⟩ (.slice Y2 u.gps.length x2)).setCell ⟨w.heap.size + 1 + 1, 7, none⟩ (.int .i64 u.win))) _ 8 _ _ (0, 0) (qo27.out)
  have pf28 : (((w2.setCell ⟨w.heap.size + 1 + 1, 6, none⟩ (.slice Y2 u.gps.length x2)).setCell ⟨w.heap.size + 1 + 1, 7, none⟩ (.int .i64 u.win))).frozen? ⟨w.heap.size + 1 + 1, 8, none⟩ = false := frozen_of_row (((w2.setCell ⟨w.heap.size + 1 + 1, 6, none⟩ (.slice Y2 u.gps.length x2)).setCell ⟨w.heap.size + 1 + 1, 7, none⟩ (.int .i64 u.win))) _ 8 _ _ (qo27.out)
  have qo28 : Hid (((((w2.setCell ⟨w.heap.size + 1 + 1, 6, none⟩ (.slice Y2 u.gps.length x2)).setCell ⟨w.heap.size + 1 + 1, 7, none⟩ (.int .i64 u.win)).setCell ⟨w.heap.size + 1 + 1, 8, none⟩ (.int .i64 u.size))).heap[w.heap.size + 1 + 1]? = some (.cells #[.string u.fr, .string u.jn, .int .i64 u.wn, .string u.on, .string u.lk, .slice Y1 u.wh.length x1, .slice Y2 u.gps.length x2, .int .i64 u.win, .int .i64 u.size, .int .i64 0, .slice none 0 0] 34 (0, 0))) := heap_setCell_same (((w2.setCell ⟨w.heap.size + 1 + 1, 6, none⟩ (.slice Y2 u.gps.length x2)).setCell ⟨w.heap.size + 1 + 1, 7, none⟩ (.int .i64 u.win))) (w.heap.size + 1 + 1) 8 _ _ (.int .i64 u.size) (qo27.out)
  have po29 : ((((w2.setCell ⟨w.heap.size + 1 + 1, 6, none⟩ (.slice Y2 u.gps.length x2)).setCell ⟨w.heap.size + 1 + 1, 7, none⟩ (.int .i64 u.win)).setCell ⟨w.heap.size + 1 + 1, 8, none⟩ (.int .i64 u.size))).cell? ⟨w.heap.size + 1 + 1, 9, none⟩ = some (.int .i64 0) := cell_of_row ((((w2.setCell ⟨w.heap.size + 1 + 1, 6, none⟩ (.slice Y2 u.gps.length x2)).setCell ⟨w.heap.size + 1 + 1, 7, none⟩ (.int .i64 u.win)).setCell ⟨w.heap.size + 1 + 1, 8, none⟩ (.int .i64 u.size))) _ 9 _ _ (0, 0) (qo28.out)
  have pf29 : ((((w2.setCell ⟨w.heap.size + 1 + 1, 6, none⟩ (.slice Y2 u.gps.length x2)).setCell ⟨w.heap.size + 1 + 1, 7, none⟩ (.int .i64 u.win)).setCell ⟨w.heap.size + 1 + 1, 8, none⟩ (.int .i64 u.size))).frozen? ⟨w.heap.size + 1 + 1, 9, none⟩ = false := frozen_of_row ((((w2.setCell ⟨w.heap.size + 1 + 1, 6, none⟩ (.slice Y2 u.gps.length x2)).setCell ⟨w.heap.size + 1 + 1, 7, none⟩ (.int .i64 u.win)).setCell ⟨w.heap.size + 1 + 1, 8, none⟩ (.int .i64 u.size))) _ 9 _ _ (qo28.out)
  have qo29 : Hid ((((((w2.setCell ⟨w.heap.size + 1 + 1, 6, none⟩ (.slice Y2 u.gps.length x2)).setCell ⟨w.heap.size + 1 + 1, 7, none⟩ (.int .i64 u.win)).setCell ⟨w.heap.size + 1 + 1, 8, none⟩ (.int .i64 u.size)).setCell ⟨w.heap.size + 1 + 1, 9, none⟩ (.int .i64 u.every))).heap[w.heap.size + 1 + 1]? = some (.cells #[.string u.fr, .string u.jn, .int .i64 u.wn, .string u.on, .string u.lk, .slice Y1 u.wh.length x1, .slice Y2 u.gps.length x2, .int .i64 u.win, .int .i64 u.size, .int .i64 u.every, .slice none 0 0] 34 (0, 0))) := heap_setCell_same ((((w2.setCell ⟨w.heap.size + 1 + 1, 6, none⟩ (.slice Y2 u.gps.length x2)).setCell ⟨w.heap.size + 1 + 1, 7, none⟩ (.int .i64 u.win)).setCell ⟨w.heap.size + 1 + 1, 8, none⟩ (.int .i64 u.size))) (w.heap.size + 1 + 1) 9 _ _ (.int .i64 u.every) (qo28.out)
  have Uo2 := Seg.hid (qo29.out)
  have Ur2 := Seg.hid ((heap_setCell_other ((((w2.setCell ⟨w.heap.size + 1 + 1, 6, none⟩ (.slice Y2 u.gps.length x2)).setCell ⟨w.heap.size + 1 + 1, 7, none⟩ (.int .i64 u.win)).setCell ⟨w.heap.size + 1 + 1, 8, none⟩ (.int .i64 u.size))) ⟨w.heap.size + 1 + 1, 9, none⟩ (w.heap.size + 1) (.int .i64 u.every) (by simp)).trans ((heap_setCell_other (((w2.setCell ⟨w.heap.size + 1 + 1, 6, none⟩ (.slice Y2 u.gps.length x2)).setCell ⟨w.heap.size + 1 + 1, 7, none⟩ (.int .i64 u.win))) ⟨w.heap.size + 1 + 1, 8, none⟩ (w.heap.size + 1) (.int .i64 u.size) (by simp)).trans ((heap_setCell_other ((w2.setCell ⟨w.heap.size + 1 + 1, 6, none⟩ (.slice Y2 u.gps.length x2))) ⟨w.heap.size + 1 + 1, 7, none⟩ (w.heap.size + 1) (.int .i64 u.win) (by simp)).trans ((heap_setCell_other (w2) ⟨w.heap.size + 1 + 1, 6, none⟩ (w.heap.size + 1) (.slice Y2 u.gps.length x2) (by simp)).trans (Tr2.out)))))
  have Ua2 := Seg.hid ((heap_setCell_other ((((w2.setCell ⟨w.heap.size + 1 + 1, 6, none⟩ (.slice Y2 u.gps.length x2)).setCell ⟨w.heap.size + 1 + 1, 7, none⟩ (.int .i64 u.win)).setCell ⟨w.heap.size + 1 + 1, 8, none⟩ (.int .i64 u.size))) ⟨w.heap.size + 1 + 1, 9, none⟩ w.heap.size (.int .i64 u.every) (by simp; omega)).trans ((heap_setCell_other (((w2.setCell ⟨w.heap.size + 1 + 1, 6, none⟩ (.slice Y2 u.gps.length x2)).setCell ⟨w.heap.size + 1 + 1, 7, none⟩ (.int .i64 u.win))) ⟨w.heap.size + 1 + 1, 8, none⟩ w.heap.size (.int .i64 u.size) (by simp; omega)).trans ((heap_setCell_other ((w2.setCell ⟨w.heap.size + 1 + 1, 6, none⟩ (.slice Y2 u.gps.length x2))) ⟨w.heap.size + 1 + 1, 7, none⟩ w.heap.size (.int .i64 u.win) (by simp; omega)).trans ((heap_setCell_other (w2) ⟨w.heap.size + 1 + 1, 6, none⟩ w.heap.size (.slice Y2 u.gps.length x2) (by simp; omega)).trans (Ta2.out)))))
  have D2 : Hid (Below w.heap.size w ((((w2.setCell ⟨w.heap.size + 1 + 1, 6, none⟩ (.slice Y2 u.gps.length x2)).setCell ⟨w.heap.size + 1 + 1, 7, none⟩ (.int .i64 u.win)).setCell ⟨w.heap.size + 1 + 1, 8, none⟩ (.int .i64 u.size)).setCell ⟨w.heap.size + 1 + 1, 9, none⟩ (.int .i64 u.every))) := ((((B2.out).setCell (p := ⟨w.heap.size + 1 + 1, 6, none⟩) (by simp; omega) (.slice Y2 u.gps.length x2)).setCell (p := ⟨w.heap.size + 1 + 1, 7, none⟩) (by simp; omega) (.int .i64 u.win)).setCell (p := ⟨w.heap.size + 1 + 1, 8, none⟩) (by simp; omega) (.int .i64 u.size)).setCell (p := ⟨w.heap.size + 1 + 1, 9, none⟩) (by simp; omega) (.int .i64 u.every)
  have N21' : Hid (StpsOwn ((((w2.setCell ⟨w.heap.size + 1 + 1, 6, none⟩ (.slice Y2 u.gps.length x2)).setCell ⟨w.heap.size + 1 + 1, 7, none⟩ (.int .i64 u.win)).setCell ⟨w.heap.size + 1 + 1, 8, none⟩ (.int .i64 u.size)).setCell ⟨w.heap.size + 1 + 1, 9, none⟩ (.int .i64 u.every)) (seg (w.heap.size + 3) w1.heap.size) (.slice Y1 u.wh.length x1) u.wh) := LOwn.keep keepsOStp N21.out (by simp) (fun g hg => by have := hg.1; rw [heap_setCell_other _ _ _ _ (by show _ ≠ w.heap.size + 1 + 1; omega), heap_setCell_other _ _ _ _ (by show _ ≠ w.heap.size + 1 + 1; omega), heap_setCell_other _ _ _ _ (by show _ ≠ w.heap.size + 1 + 1; omega), heap_setCell_other _ _ _ _ (by show _ ≠ w.heap.size + 1 + 1; omega)])
  have N22' : Hid (StrsOwn ((((w2.setCell ⟨w.heap.size + 1 + 1, 6, none⟩ (.slice Y2 u.gps.length x2)).setCell ⟨w.heap.size + 1 + 1, 7, none⟩ (.int .i64 u.win)).setCell ⟨w.heap.size + 1 + 1, 8, none⟩ (.int .i64 u.size)).setCell ⟨w.heap.size + 1 + 1, 9, none⟩ (.int .i64 u.every)) (seg (w1.heap.size) w2.heap.size) (.slice Y2 u.gps.length x2) u.gps) := LOwn.keep keepsOStr N22.out (by simp) (fun g hg => by have := hg.1; rw [heap_setCell_other _ _ _ _ (by show _ ≠ w.heap.size + 1 + 1; omega), heap_setCell_other _ _ _ _ (by show _ ≠ w.heap.size + 1 + 1; omega), heap_setCell_other _ _ _ _ (by show _ ≠ w.heap.size + 1 + 1; omega), heap_setCell_other _ _ _ _ (by show _ ≠ w.heap.size + 1 + 1; omega)])
  go_wp2_with fail
  refine (toGetS_own _ u.gets ((((w2.setCell ⟨w.heap.size + 1 + 1, 6, none⟩ (.slice Y2 u.gps.length x2)).setCell ⟨w.heap.size + 1 + 1, 7, none⟩ (.int .i64 u.win)).setCell ⟨w.heap.size + 1 + 1, 8, none⟩ (.int .i64 u.size)).setCell ⟨w.heap.size + 1 + 1, 9, none⟩ (.int .i64 u.every)) S (H10.out.below keepsGqt D2.out hS) (fun g hg => Nat.lt_of_lt_of_le (hS g hg) D2.out.size) (by omega)).mono ?_
  rintro e w3 ⟨v3, rfl, l3, b3⟩
  have B3 := Seg.hid (chain D2.out b3)
  have z3 : ((((w2.setCell ⟨w.heap.size + 1 + 1, 6, none⟩ (.slice Y2 u.gps.length x2)).setCell ⟨w.heap.size + 1 + 1, 7, none⟩ (.int .i64 u.win)).setCell ⟨w.heap.size + 1 + 1, 8, none⟩ (.int .i64 u.size)).setCell ⟨w.heap.size + 1 + 1, 9, none⟩ (.int .i64 u.every)).heap.size = w2.heap.size := by simp
  have Ta3 := Seg.hid ((b3.block w.heap.size (by omega)).trans Ua2.out)
  have Tr3 := Seg.hid ((b3.block (w.heap.size + 1) (by omega)).trans Ur2.out)
  have To3 := Seg.hid ((b3.block (w.heap.size + 1 + 1) (by omega)).trans Uo2.out)
  have s3 : w2.heap.size ≤ w3.heap.size := by have := b3.size; omega
  have M3 : Hid (GqtsOwn w3 (seg (w2.heap.size) w3.heap.size) v3 u.gets) := by
    rw [z3] at l3
    exact l3
  have N31 : Hid (StpsOwn w3 (seg (w.heap.size + 3) w1.heap.size) (.slice Y1 u.wh.length x1) u.wh) := LOwn.keep keepsOStp N21'.out b3.size (fun g hg => b3.block g (by have := hg.2; omega))
  have N32 : Hid (StrsOwn w3 (seg (w1.heap.size) w2.heap.size) (.slice Y2 u.gps.length x2) u.gps) := LOwn.keep keepsOStr N22'.out b3.size (fun g hg => b3.block g (by have := hg.2; omega))
  clear z3
  obtain ⟨Y3, x3, r3⟩ := LOwn.form M3.out
  subst r3
  clear b3 l3
  have N33 := M3
  have po310 : (w3).cell? ⟨w.heap.size + 1 + 1, 10, none⟩ = some (.slice none 0 0) := cell_of_row (w3) _ 10 _ _ (0, 0) (To3.out)
  have pf310 : (w3).frozen? ⟨w.heap.size + 1 + 1, 10, none⟩ = false := frozen_of_row (w3) _ 10 _ _ (To3.out)
  have qo310 : Hid (((w3.setCell ⟨w.heap.size + 1 + 1, 10, none⟩ (.slice Y3 u.gets.length x3))).heap[w.heap.size + 1 + 1]? = some (.cells #[.string u.fr, .string u.jn, .int .i64 u.wn, .string u.on, .string u.lk, .slice Y1 u.wh.length x1, .slice Y2 u.gps.length x2, .int .i64 u.win, .int .i64 u.size, .int .i64 u.every, .slice Y3 u.gets.length x3] 34 (0, 0))) := heap_setCell_same (w3) (w.heap.size + 1 + 1) 10 _ _ (.slice Y3 u.gets.length x3) (To3.out)
  have Uo3 := Seg.hid (qo310.out)
  have Ur3 := Seg.hid ((heap_setCell_other (w3) ⟨w.heap.size + 1 + 1, 10, none⟩ (w.heap.size + 1) (.slice Y3 u.gets.length x3) (by simp)).trans (Tr3.out))
  have Ua3 := Seg.hid ((heap_setCell_other (w3) ⟨w.heap.size + 1 + 1, 10, none⟩ w.heap.size (.slice Y3 u.gets.length x3) (by simp; omega)).trans (Ta3.out))
  have D3 : Hid (Below w.heap.size w (w3.setCell ⟨w.heap.size + 1 + 1, 10, none⟩ (.slice Y3 u.gets.length x3))) := (B3.out).setCell (p := ⟨w.heap.size + 1 + 1, 10, none⟩) (by simp; omega) (.slice Y3 u.gets.length x3)
  have N31' : Hid (StpsOwn (w3.setCell ⟨w.heap.size + 1 + 1, 10, none⟩ (.slice Y3 u.gets.length x3)) (seg (w.heap.size + 3) w1.heap.size) (.slice Y1 u.wh.length x1) u.wh) := LOwn.keep keepsOStp N31.out (by simp) (fun g hg => by have := hg.1; rw [heap_setCell_other _ _ _ _ (by show _ ≠ w.heap.size + 1 + 1; omega)])
  have N32' : Hid (StrsOwn (w3.setCell ⟨w.heap.size + 1 + 1, 10, none⟩ (.slice Y3 u.gets.length x3)) (seg (w1.heap.size) w2.heap.size) (.slice Y2 u.gps.length x2) u.gps) := LOwn.keep keepsOStr N32.out (by simp) (fun g hg => by have := hg.1; rw [heap_setCell_other _ _ _ _ (by show _ ≠ w.heap.size + 1 + 1; omega)])
  have N33' : Hid (GqtsOwn (w3.setCell ⟨w.heap.size + 1 + 1, 10, none⟩ (.slice Y3 u.gets.length x3)) (seg (w2.heap.size) w3.heap.size) (.slice Y3 u.gets.length x3) u.gets) := LOwn.keep keepsOGqt N33.out (by simp) (fun g hg => by have := hg.1; rw [heap_setCell_other _ _ _ _ (by show _ ≠ w.heap.size + 1 + 1; omega)])
  obtain ⟨fx, hfx⟩ : ∃ fx : Nat → Value, fx = (fun q => if q = 0 then .string u.fr else if q = 1 then .string u.jn else if q = 2 then .int .i64 u.wn else if q = 3 then .string u.on else if q = 4 then .string u.lk else if q = 5 then .slice Y1 u.wh.length x1 else if q = 6 then .slice Y2 u.gps.length x2 else if q = 7 then .int .i64 u.win else if q = 8 then .int .i64 u.size else if q = 9 then .int .i64 u.every else .slice Y3 u.gets.length x3) := ⟨_, rfl⟩
  have HX := Seg.hid hfx
  have Uz : Hid ((w3.setCell ⟨w.heap.size + 1 + 1, 10, none⟩ (.slice Y3 u.gets.length x3)).heap[w.heap.size + 1 + 1]? = some (.cells (arrQry fx) 34 (0, 0))) := by
    show _ = _
    rw [hfx]
    exact Uo3.out
  clear hfx
  have H5a := Cells.there_of Ur3.out
  have H5 : Hid ((w3.setCell ⟨w.heap.size + 1 + 1, 10, none⟩ (.slice Y3 u.gets.length x3)).there (w.heap.size + 1) 0 (arrQry fx).size) := H5a
  clear H5a
  have H4 := Seg.hid (Cells.whole (vs := arrQry fx) Ur3.out rfl)
  have B9 := Seg.hid (Cells.below_setCells (g := w.heap.size + 1) (by omega) (arrQry fx).toList 0 _ _ D3.out)
  have ZS : ((w3.setCell ⟨w.heap.size + 1 + 1, 10, none⟩ (.slice Y3 u.gets.length x3)).setCells (w.heap.size + 1) 0 (arrQry fx).toList).heap.size = w3.heap.size := by rw [Cells.size_setCells]; simp
  have F1 : Hid (StpsOwn ((w3.setCell ⟨w.heap.size + 1 + 1, 10, none⟩ (.slice Y3 u.gets.length x3)).setCells (w.heap.size + 1) 0 (arrQry fx).toList) (seg (w.heap.size + 3) w1.heap.size) (fx 5) u.wh) := by
    show StpsOwn _ _ _ _
    rw [show fx 5 = .slice Y1 u.wh.length x1 by rw [HX.out]; rfl]
    refine LOwn.keep keepsOStp N31'.out (by rw [Cells.size_setCells]; exact Nat.le_refl _) (fun g hg => ?_)
    have := hg.1
    rw [Cells.heap_setCells_other _ _ (by omega)]
  have F2 : Hid (StrsOwn ((w3.setCell ⟨w.heap.size + 1 + 1, 10, none⟩ (.slice Y3 u.gets.length x3)).setCells (w.heap.size + 1) 0 (arrQry fx).toList) (seg (w1.heap.size) w2.heap.size) (fx 6) u.gps) := by
    show StrsOwn _ _ _ _
    rw [show fx 6 = .slice Y2 u.gps.length x2 by rw [HX.out]; rfl]
    refine LOwn.keep keepsOStr N32'.out (by rw [Cells.size_setCells]; exact Nat.le_refl _) (fun g hg => ?_)
    have := hg.1
    rw [Cells.heap_setCells_other _ _ (by omega)]
  have F3 : Hid (GqtsOwn ((w3.setCell ⟨w.heap.size + 1 + 1, 10, none⟩ (.slice Y3 u.gets.length x3)).setCells (w.heap.size + 1) 0 (arrQry fx).toList) (seg (w2.heap.size) w3.heap.size) (fx 10) u.gets) := by
    show GqtsOwn _ _ _ _
    rw [show fx 10 = .slice Y3 u.gets.length x3 by rw [HX.out]; rfl]
    refine LOwn.keep keepsOGqt N33'.out (by rw [Cells.size_setCells]; exact Nat.le_refl _) (fun g hg => ?_)
    have := hg.1
    rw [Cells.heap_setCells_other _ _ (by omega)]
  obtain ⟨Q, hQ⟩ : ∃ Q : Nat → Nat → Prop, Q = (fun i => if i = 5 then (seg (w.heap.size + 3) w1.heap.size) else if i = 6 then (seg (w1.heap.size) w2.heap.size) else if i = 10 then (seg (w2.heap.size) w3.heap.size) else fun _ => False) := ⟨_, rfl⟩
  have hq1 : Q 5 = (seg (w.heap.size + 3) w1.heap.size) := by rw [hQ]; rfl
  have hq2 : Q 6 = (seg (w1.heap.size) w2.heap.size) := by rw [hQ]; rfl
  have hq3 : Q 10 = (seg (w2.heap.size) w3.heap.size) := by rw [hQ]; rfl
  have hq0 : ∀ i y, i ≠ 5 → i ≠ 6 → i ≠ 10 → ¬ Q i y := by
    intro i y n1 n2 n3 hy
    rw [hQ] at hy
    simp only [if_neg n1, if_neg n2, if_neg n3] at hy
  clear hQ
  have EX : Hid (EOQry ((w3.setCell ⟨w.heap.size + 1 + 1, 10, none⟩ (.slice Y3 u.gets.length x3)).setCells (w.heap.size + 1) 0 (arrQry fx).toList) (seg w.heap.size ((w3.setCell ⟨w.heap.size + 1 + 1, 10, none⟩ (.slice Y3 u.gets.length x3)).setCells (w.heap.size + 1) 0 (arrQry fx).toList).heap.size) fx u) := by
    refine ⟨⟨by rw [HX.out]; rfl, by rw [HX.out]; rfl, by rw [HX.out]; rfl, by rw [HX.out]; rfl, by rw [HX.out]; rfl, by rw [HX.out]; rfl, by rw [HX.out]; rfl, by rw [HX.out]; rfl⟩, Q, ?_, ?_, ?_, ?_, ?_⟩
    · intro i y hy
      by_cases e1 : i = 5
      · subst e1; rw [hq1] at hy
        exact ⟨by have := hy.1; omega, by rw [ZS]; have := hy.2; omega⟩
      by_cases e2 : i = 6
      · subst e2; rw [hq2] at hy
        exact ⟨by have := hy.1; omega, by rw [ZS]; have := hy.2; omega⟩
      by_cases e3 : i = 10
      · subst e3; rw [hq3] at hy
        exact ⟨by have := hy.1; omega, by rw [ZS]; have := hy.2; omega⟩
      exact absurd hy (hq0 i y e1 e2 e3)
    · intro i j hij y hi hj
      by_cases e1 : i = 5
      · subst e1; rw [hq1] at hi
        by_cases f1 : j = 5
        · subst f1
          exact absurd rfl hij
        by_cases f2 : j = 6
        · subst f2
          rw [hq2] at hj
          have a1 := hi.1; have a2 := hi.2; have a3 := hj.1; have a4 := hj.2; omega
        by_cases f3 : j = 10
        · subst f3
          rw [hq3] at hj
          have a1 := hi.1; have a2 := hi.2; have a3 := hj.1; have a4 := hj.2; omega
        exact absurd hj (hq0 j y f1 f2 f3)
      by_cases e2 : i = 6
      · subst e2; rw [hq2] at hi
        by_cases f1 : j = 5
        · subst f1
          rw [hq1] at hj
          have a1 := hi.1; have a2 := hi.2; have a3 := hj.1; have a4 := hj.2; omega
        by_cases f2 : j = 6
        · subst f2
          exact absurd rfl hij
        by_cases f3 : j = 10
        · subst f3
          rw [hq3] at hj
          have a1 := hi.1; have a2 := hi.2; have a3 := hj.1; have a4 := hj.2; omega
        exact absurd hj (hq0 j y f1 f2 f3)
      by_cases e3 : i = 10
      · subst e3; rw [hq3] at hi
        by_cases f1 : j = 5
        · subst f1
          rw [hq1] at hj
          have a1 := hi.1; have a2 := hi.2; have a3 := hj.1; have a4 := hj.2; omega
        by_cases f2 : j = 6
        · subst f2
          rw [hq2] at hj
          have a1 := hi.1; have a2 := hi.2; have a3 := hj.1; have a4 := hj.2; omega
        by_cases f3 : j = 10
        · subst f3
          exact absurd rfl hij
        exact absurd hj (hq0 j y f1 f2 f3)
      exact absurd hi (hq0 i y e1 e2 e3)
    · rw [hq1]; exact F1.out
    · rw [hq2]; exact F2.out
    · rw [hq3]; exact F3.out
  clear hq0 hq1 hq2 hq3
  have ON := Seg.hid (oneQry (atOQry _ _ _ _ EX.out))
  clear Ta1 Tr1 To1 Ua1 M1 Ta2 Tr2 To2 Ua2 M2 Ta3 Tr3 To3 Ua3 M3 ZS
  go_upto_region 13 with fail
  clear po310 pf310
  generalize (w3.setCell ⟨w.heap.size + 1 + 1, 10, none⟩ (.slice Y3 u.gets.length x3)) = wz at *
  go_wp2_with (first | (refine wpList_load_row rfl 34 _ rfl (w.heap.size + 1 + 1) rfl _ _ _ _ Uz.out Try.underlying34 rfl infoQry ?_) | (refine wpList_store_mid rfl 34 _ _ rfl (w.heap.size + 1) 0 (arrQry fx) rfl rfl H5.out infoQry ON.out ?_))
  exact bodyPost_ret (v := .agg (arrQry fx)) (results_cell_row rfl _ _ (w.heap.size + 1) _ _ _ _ rfl H4.out Try.underlying34 rfl infoQry) rfl ⟨_, rfl, ⟨fx, rfl, EX.out⟩, B9.out⟩
end Go.Proofs.Ytkibaimemomjpaa.Ow
namespace Go.Proofs.Ytkibaimemomjpaa.Ow
set_option maxRecDepth 8000
open Go.RowKit
open Recs
open Ls
set_option linter.unusedVariables false
set_option maxHeartbeats 400000 in
theorem toIntS_ocore (g o n c : Nat) (ns : List Int) (w : World) (hn : n ≤ 1048576) (hc : n ≤ c) (hg : g < w.heap.size) (hnl : ns.length = n)
    (ha : ∀ i, i < n → w.cell? ⟨g, o + i, none⟩ = some (.int .i64 (ns.getD i default))) :
    Calls Try.prog 8 #[.slice (some ⟨g, o, none⟩) n c] w fun e w' => ∃ v, e = .returned v ∧ IntsOwn w' (seg w.heap.size w'.heap.size) v ns ∧ Below w.heap.size w w' := by
  obtain ⟨i0, hi, hz0, hz1, hz2⟩ := info_parts infoI
  have HA := Seg.hid ha
  have HN := Seg.hid hnl
  clear ha hnl
  go_enter Try.func8, Try.ntmps8
  go_wp2_with (at_make; refine wpList_make_full _ rfl _ _ 27 rfl w.heap.size 3 i0 _ 1 Try.underlying27 hi hz0 hz1 .i64 .i64 _ _ n rfl rfl rfl rfl (by rw [hz2]; omega) (by unfold maxLen; omega) (Nat.le_refl _) ?_; intro w1 hown hgr)
  have hb1 := (Below.refl w.heap.size w).grown hgr (Nat.le_refl _) (fun k hk => by cases hk)
  have HM := Seg.hid (Mine.of_made hown hown.1)
  have HB := Seg.hid hb1
  clear hown hgr hb1 hi hz0 hz1 hz2
  go_loopw [4] (fun i wr => ∃ (j : Nat) (F : Nat → Value), j ≤ n ∧ i = .int .i64 j ∧ Hid (Mine wr 3 1 w.heap.size n F ∧ Below w.heap.size w wr ∧ ∀ i, i < j → F i = .int .i64 (ns.getD i default))) (fun i _ => n - (intOf i).toNat)
  case atStart => exact ⟨0, _, Nat.zero_le _, rfl, HM.out, HB.out, fun i hi => absurd hi (by omega)⟩
  case round =>
    clear HM HB
    obtain ⟨j, F, hj, rfl, HR⟩ := hrel
    by_cases hlt : j < n
    · have c1 : wr.cell? ⟨g, o + j, none⟩ = some (.int .i64 (ns.getD j default)) := by rw [HR.out.2.1.cell (p := ⟨g, o + j, none⟩) hg]; exact HA.out j hlt
      have h0 : (0 : Int) ≤ (j : Int) := by omega
      have h1 : (j : Int) < (n : Int) := by omega
      have d1 := HR.out.1.cell j (by omega)
      have f1 := HR.out.1.frozen j
      have M2 := Seg.hid (HR.out.1.set j (.int .i64 (ns.getD j default)))
      have B2 := Seg.hid (HR.out.2.1.setCell (p := ⟨w.heap.size, j, none⟩) (Nat.le_refl _) (.int .i64 (ns.getD j default)))
      have R2 : Hid (∀ i, i < j + 1 → (fun i => if i = j then (.int .i64 (ns.getD j default)) else F i) i = Value.int .i64 (ns.getD i default)) := fun i hi => by
        by_cases he : i = j
        · subst he; simp
        · simp [he]; simpa using HR.out.2.2 i (by omega)
      generalize ns.getD j default = nj at *
      go_wp2
      go_roundw
      case rel => exact ⟨j + 1, _, by omega, by go_num, M2.out, B2.out, R2.out⟩
      case measure => simp [intOf]; omega
    · have : j = n := by omega
      subst this
      go_wp2
      go_ret
      refine ⟨.slice (some ⟨w.heap.size, 0, none⟩) j j, rfl, ⟨by rw [HN.out]; omega, _, _, by rw [HN.out], .inr ⟨w.heap.size, F, fun _ _ => False, rfl, ⟨Nat.le_refl _, HR.out.1.lt⟩, fun i hi x hx => hx.elim, ?_, rfl, fun i hi => ?_, fun i hi x hx => hx.elim, fun i k hi hk hik x hx => hx.elim⟩⟩, HR.out.2.1⟩
      · rw [HN.out]; exact HR.out.1
      · rw [HN.out] at hi
        show F (i * 1 + 0) = _
        rw [Nat.mul_one, Nat.add_zero]
        exact HR.out.2.2 i hi
theorem toIntS_own (v : Value) (ns : List Int) (w : World) (S : Nat → Prop) (hv : IntsAt w S v ns) (hS : ∀ g, S g → g < w.heap.size) (hl : ns.length ≤ 1048576) :
    Calls Try.prog 8 #[v] w fun e w' => ∃ v', e = .returned v' ∧ IntsOwn w' (seg w.heap.size w'.heap.size) v' ns ∧ Below w.heap.size w w' := by
  obtain ⟨hn, A, c, rfl, h⟩ := hv
  by_cases hz : ns.length = 0
  · obtain rfl := List.length_eq_zero_iff.1 hz
    refine (toIntS_none A c w).mono fun e w' ⟨v', a1, ⟨A', c', a2⟩, a3⟩ => ⟨v', a1, ?_, a3⟩
    rw [a2]
    exact LOwn.nil _ _ _ _
  obtain ⟨g, o, F, rfl, hg, hc, hcell, hel⟩ := h.resolve_left hz
  exact toIntS_ocore g o ns.length c ns w hl hc (hS g hg) rfl (int_cell hcell hel)
end Go.Proofs.Ytkibaimemomjpaa.Ow
