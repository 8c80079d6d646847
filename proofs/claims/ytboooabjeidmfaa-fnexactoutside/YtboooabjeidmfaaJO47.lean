/- Query: the law's copier answers memory of its own; Lists of Source of the call's own; the law's marks on them. -/
import Derived.Test.YtboooabjeidmfaaJO44
import Derived.Test.YtboooabjeidmfaaJO46
import Derived.Test.YtboooabjeidmfaaJO41
import Derived.Test.YtboooabjeidmfaaJO09
namespace Go.Proofs.Ytboooabjeidmfaa.Ow
set_option maxRecDepth 8000
open Go.RowKit
open Recs
open Ls
set_option linter.unusedVariables false
set_option maxHeartbeats 1600000 in
theorem toQuery_own (v : Value) (u : Qry) (w : World) (S : Nat → Prop) (hv : QryAt w S v u) (hS : ∀ g, S g → g < w.heap.size) (hf : szQry u ≤ 1048576) :
    Calls Try.prog 15 #[v] w fun e w' => ∃ v', e = .returned v' ∧ QryOwn w' (seg w.heap.size w'.heap.size) v' u ∧ Below w.heap.size w w' := by
  obtain ⟨f, rfl, y0, y1, y2, y3, y4, y5, y6, y7, y8, y9, y10⟩ := hv
  try simp only [arrQry]
  rw [show f 0 = _ from y0]
  clear y0
  rw [show f 1 = _ from y1]
  clear y1
  rw [show f 2 = _ from y2]
  clear y2
  rw [show f 3 = _ from y3]
  clear y3
  rw [show f 4 = _ from y4]
  clear y4
  obtain ⟨A5, c5, g5⟩ := y5.form
  rw [g5] at y5 ⊢
  have H5 := Seg.hid y5
  clear y5 g5
  obtain ⟨A6, c6, g6⟩ := y6.form
  rw [g6] at y6 ⊢
  have H6 := Seg.hid y6
  clear y6 g6
  rw [show f 7 = _ from y7]
  clear y7
  rw [show f 8 = _ from y8]
  clear y8
  rw [show f 9 = _ from y9]
  clear y9
  obtain ⟨A10, c10, g10⟩ := y10.form
  rw [g10] at y10 ⊢
  have H10 := Seg.hid y10
  clear y10 g10
  unfold szQry at hf
  go_enter Try.func15, Try.ntmps15
  go_wp2_with fail
  refine (toStepS_own _ u.wh (((w.alloc _).alloc _).alloc _) S (H5.out.below keepsStp (below3 w _ _ _) hS) (fun g hg => by rw [hsz, hsz, hsz]; have := hS g hg; omega) (by omega)).mono ?_
  rintro e w1 ⟨v1, rfl, l1, b1⟩
  have B1 := Seg.hid (chain (below3 w _ _ _) b1)
  have Ta1 : Hid (w1.heap[w.heap.size]? = some (.cells #[.string u.fr, .string u.jn, .int .i64 u.wn, .string u.on, .string u.lk, .slice A5 u.wh.length c5, .slice A6 u.gps.length c6, .int .i64 u.win, .int .i64 u.size, .int .i64 u.every, .slice A10 u.gets.length c10] 33 (0, 0))) := (b1.block w.heap.size (by rw [hsz, hsz, hsz]; omega)).trans (at3z w _ _ _)
  have Tr1 : Hid (w1.heap[w.heap.size + 1]? = some (.cells #[.string ByteArray.empty, .string ByteArray.empty, .int .i64 0, .string ByteArray.empty, .string ByteArray.empty, .slice none 0 0, .slice none 0 0, .int .i64 0, .int .i64 0, .int .i64 0, .slice none 0 0] 39 (0, 0))) := (b1.block (w.heap.size + 1) (by rw [hsz, hsz, hsz]; omega)).trans (at3 w _ _ _)
  have To1 : Hid (w1.heap[w.heap.size + 1 + 1]? = some (.cells #[.string u.fr, .string u.jn, .int .i64 u.wn, .string u.on, .string u.lk, .slice none 0 0, .slice none 0 0, .int .i64 0, .int .i64 0, .int .i64 0, .slice none 0 0] 39 (0, 0))) := (b1.block (w.heap.size + 1 + 1) (by rw [hsz, hsz, hsz]; omega)).trans (Cells.at3' w _ _ _)
  have s1 : w.heap.size + 3 ≤ w1.heap.size := by have := b1.size; rw [hsz, hsz, hsz] at this; omega
  have M1 : Hid (StpsOwn w1 (seg (w.heap.size + 3) w1.heap.size) v1 u.wh) := by
    rw [hsz, hsz, hsz] at l1
    exact l1
  obtain ⟨Y1, x1, r1⟩ := LOwn.form M1.out
  subst r1
  clear b1 l1
  have N11 := M1
  have pa16 : w1.cell? ⟨w.heap.size, 6, none⟩ = some (.slice A6 u.gps.length c6) := cell_of_row w1 _ 6 _ _ (0, 0) Ta1.out
  have po15 : (w1).cell? ⟨w.heap.size + 1 + 1, 5, none⟩ = some (.slice none 0 0) := cell_of_row (w1) _ 5 _ _ (0, 0) (To1.out)
  have pf15 : (w1).frozen? ⟨w.heap.size + 1 + 1, 5, none⟩ = false := frozen_of_row (w1) _ 5 _ _ (To1.out)
  have qo15 : Hid (((w1.setCell ⟨w.heap.size + 1 + 1, 5, none⟩ (.slice Y1 u.wh.length x1))).heap[w.heap.size + 1 + 1]? = some (.cells #[.string u.fr, .string u.jn, .int .i64 u.wn, .string u.on, .string u.lk, .slice Y1 u.wh.length x1, .slice none 0 0, .int .i64 0, .int .i64 0, .int .i64 0, .slice none 0 0] 39 (0, 0))) := heap_setCell_same (w1) (w.heap.size + 1 + 1) 5 _ _ (.slice Y1 u.wh.length x1) (To1.out)
  have Uo1 := Seg.hid (qo15.out)
  have Ur1 := Seg.hid ((heap_setCell_other (w1) ⟨w.heap.size + 1 + 1, 5, none⟩ (w.heap.size + 1) (.slice Y1 u.wh.length x1) (by simp)).trans (Tr1.out))
  have Ua1 := Seg.hid ((heap_setCell_other (w1) ⟨w.heap.size + 1 + 1, 5, none⟩ w.heap.size (.slice Y1 u.wh.length x1) (by simp; omega)).trans (Ta1.out))
  have D1 : Hid (Below w.heap.size w (w1.setCell ⟨w.heap.size + 1 + 1, 5, none⟩ (.slice Y1 u.wh.length x1))) := (B1.out).setCell (p := ⟨w.heap.size + 1 + 1, 5, none⟩) (by simp; omega) (.slice Y1 u.wh.length x1)
  have N11' : Hid (StpsOwn (w1.setCell ⟨w.heap.size + 1 + 1, 5, none⟩ (.slice Y1 u.wh.length x1)) (seg (w.heap.size + 3) w1.heap.size) (.slice Y1 u.wh.length x1) u.wh) := LOwn.keep keepsOStp N11.out (by simp) (fun g hg => by have := hg.1; rw [heap_setCell_other _ _ _ _ (by show _ ≠ w.heap.size + 1 + 1; omega)])
  go_wp2_with fail
  refine (toStringS_own _ u.gps (w1.setCell ⟨w.heap.size + 1 + 1, 5, none⟩ (.slice Y1 u.wh.length x1)) S (H6.out.below keepsStr D1.out hS) (fun g hg => Nat.lt_of_lt_of_le (hS g hg) D1.out.size) (by omega)).mono ?_
  rintro e w2 ⟨v2, rfl, l2, b2⟩
  have B2 := Seg.hid (chain D1.out b2)
  have z2 : (w1.setCell ⟨w.heap.size + 1 + 1, 5, none⟩ (.slice Y1 u.wh.length x1)).heap.size = w1.heap.size := by simp
  have Ta2 := Seg.hid ((b2.block w.heap.size (by omega)).trans Ua1.out)
  have Tr2 := Seg.hid ((b2.block (w.heap.size + 1) (by omega)).trans Ur1.out)
  have To2 := Seg.hid ((b2.block (w.heap.size + 1 + 1) (by omega)).trans Uo1.out)
  have s2 : w1.heap.size ≤ w2.heap.size := by have := b2.size; omega
  have M2 : Hid (StrsOwn w2 (seg (w1.heap.size) w2.heap.size) v2 u.gps) := by
    rw [z2] at l2
    exact l2
  have N21 : Hid (StpsOwn w2 (seg (w.heap.size + 3) w1.heap.size) (.slice Y1 u.wh.length x1) u.wh) := LOwn.keep keepsOStp N11'.out b2.size (fun g hg => b2.block g (by have := hg.2; omega))
  clear z2
  obtain ⟨Y2, x2, r2⟩ := LOwn.form M2.out
  subst r2
  clear b2 l2
  have N22 := M2
  have pa27 : w2.cell? ⟨w.heap.size, 7, none⟩ = some (.int .i64 u.win) := cell_of_row w2 _ 7 _ _ (0, 0) Ta2.out
  have pa28 : w2.cell? ⟨w.heap.size, 8, none⟩ = some (.int .i64 u.size) := cell_of_row w2 _ 8 _ _ (0, 0) Ta2.out
  have pa29 : w2.cell? ⟨w.heap.size, 9, none⟩ = some (.int .i64 u.every) := cell_of_row w2 _ 9 _ _ (0, 0) Ta2.out
  have pa210 : w2.cell? ⟨w.heap.size, 10, none⟩ = some (.slice A10 u.gets.length c10) := cell_of_row w2 _ 10 _ _ (0, 0) Ta2.out
  have po26 : (w2).cell? ⟨w.heap.size + 1 + 1, 6, none⟩ = some (.slice none 0 0) := cell_of_row (w2) _ 6 _ _ (0, 0) (To2.out)
  have pf26 : (w2).frozen? ⟨w.heap.size + 1 + 1, 6, none⟩ = false := frozen_of_row (w2) _ 6 _ _ (To2.out)
  have qo26 : Hid (((w2.setCell ⟨w.heap.size + 1 + 1, 6, none⟩ (.slice Y2 u.gps.length x2))).heap[w.heap.size + 1 + 1]? = some (.cells #[.string u.fr, .string u.jn, .int .i64 u.wn, .string u.on, .string u.lk, .slice Y1 u.wh.length x1, .slice Y2 u.gps.length x2, .int .i64 0, .int .i64 0, .int .i64 0, .slice none 0 0] 39 (0, 0))) := heap_setCell_same (w2) (w.heap.size + 1 + 1) 6 _ _ (.slice Y2 u.gps.length x2) (To2.out)
  have po27 : ((w2.setCell ⟨w.heap.size + 1 + 1, 6, none⟩ (.slice Y2 u.gps.length x2))).cell? ⟨w.heap.size + 1 + 1, 7, none⟩ = some (.int .i64 0) := cell_of_row ((w2.setCell ⟨w.heap.size + 1 + 1, 6, none⟩ (.slice Y2 u.gps.length x2))) _ 7 _ _ (0, 0) (qo26.out)
  have pf27 : ((w2.setCell ⟨w.heap.size + 1 + 1, 6, none⟩ (.slice Y2 u.gps.length x2))).frozen? ⟨w.heap.size + 1 + 1, 7, none⟩ = false := frozen_of_row ((w2.setCell ⟨w.heap.size + 1 + 1, 6, none⟩ (.slice Y2 u.gps.length x2))) _ 7 _ _ (qo26.out)
  have qo27 : Hid ((((w2.setCell ⟨w.heap.size + 1 + 1, 6, none⟩ (.slice Y2 u.gps.length x2)).setCell ⟨w.heap.size + 1 + 1, 7, none⟩ (.int .i64 u.win))).heap[w.heap.size + 1 + 1]? = some (.cells #[.string u.fr, .string u.jn, .int .i64 u.wn, .string u.on, .string u.lk, .slice Y1 u.wh.length x1, .slice Y2 u.gps.length x2, .int .i64 u.win, .int .i64 0, .int .i64 0, .slice none 0 0] 39 (0, 0))) := heap_setCell_same ((w2.setCell ⟨w.heap.size + 1 + 1, 6, none⟩ (.slice Y2 u.gps.length x2))) (w.heap.size + 1 + 1) 7 _ _ (.int .i64 u.win) (qo26.out)
  have po28 : (((w2.setCell ⟨w.heap.size + 1 + 1, 6, none⟩ (.slice Y2 u.gps.length x2)).setCell ⟨w.heap.size + 1 + 1, 7, none⟩ (.int .i64 u.win))).cell? ⟨w.heap.size + 1 + 1, 8, none⟩ = some (.int .i64 0) := cell_of_row (((w2.setCell ⟨w.heap.size + 1 + 1, 6, none⟩ (.slice Y2 u.gps.length x2)).setCell ⟨w.heap.size + 1 + 1, 7, none⟩ (.int .i64 u.win))) _ 8 _ _ (0, 0) (qo27.out)
  have pf28 : (((w2.setCell ⟨w.heap.size + 1 + 1, 6, none⟩ (.slice Y2 u.gps.length x2)).setCell ⟨w.heap.size + 1 + 1, 7, none⟩ (.int .i64 u.win))).frozen? ⟨w.heap.size + 1 + 1, 8, none⟩ = false := frozen_of_row (((w2.setCell ⟨w.heap.size + 1 + 1, 6, none⟩ (.slice Y2 u.gps.length x2)).setCell ⟨w.heap.size + 1 + 1, 7, none⟩ (.int .i64 u.win))) _ 8 _ _ (qo27.out)
  have qo28 : Hid (((((w2.setCell ⟨w.heap.size + 1 + 1, 6, none⟩ (.slice Y2 u.gps.length x2)).setCell ⟨w.heap.size + 1 + 1, 7, none⟩ (.int .i64 u.win)).setCell ⟨w.heap.size + 1 + 1, 8, none⟩ (.int .i64 u.size))).heap[w.heap.size + 1 + 1]? = some (.cells #[.string u.fr, .string u.jn, .int .i64 u.wn, .string u.on, .string u.lk, .slice Y1 u.wh.length x1, .slice Y2 u.gps.length x2, .int .i64 u.win, .int .i64 u.size, .int .i64 0, .slice none 0 0] 39 (0, 0))) := heap_setCell_same (((w2.setCell ⟨w.heap.size + 1 + 1, 6, none⟩ (.slice Y2 u.gps.length x2)).setCell ⟨w.heap.size + 1 + 1, 7, none⟩ (.int .i64 u.win))) (w.heap.size + 1 + 1) 8 _ _ (.int .i64 u.size) (qo27.out)
  have po29 : ((((w2.setCell ⟨w.heap.size + 1 + 1, 6, none⟩ (.slice Y2 u.gps.length x2)).setCell ⟨w.heap.size + 1 + 1, 7, none⟩ (.int .i64 u.win)).setCell ⟨w.heap.size + 1 + 1, 8, none⟩ (.int .i64 u.size))).cell? ⟨w.heap.size + 1 + 1, 9, none⟩ = some (.int .i64 0) := cell_of_row ((((w2.setCell ⟨w.heap.size + 1 + 1, 6, none⟩ (.slice Y2 u.gps.length x2)).setCell ⟨w.heap.size + 1 + 1, 7, none⟩ (.int .i64 u.win)).setCell ⟨w.heap.size + 1 + 1, 8, none⟩ (.int .i64 u.size))) _ 9 _ _ (0, 0) (qo28.out)
  have pf29 : ((((w2.setCell ⟨w.heap.size + 1 + 1, 6, none⟩ (.slice Y2 u.gps.length x2)).setCell ⟨w.heap.size + 1 + 1, 7, none⟩ (.int .i64 u.win)).setCell ⟨w.heap.size + 1 + 1, 8, none⟩ (.int .i64 u.size))).frozen? ⟨w.heap.size + 1 + 1, 9, none⟩ = false := frozen_of_row ((((w2.setCell ⟨w.heap.size + 1 + 1, 6, none⟩ (.slice Y2 u.gps.length x2)).setCell ⟨w.heap.size + 1 + 1, 7, none⟩ (.int .i64 u.win)).setCell ⟨w.heap.size + 1 + 1, 8, none⟩ (.int .i64 u.size))) _ 9 _ _ (qo28.out)
  have qo29 : Hid ((((((w2.setCell ⟨w.heap.size + 1 + 1, 6, none⟩ (.slice Y2 u.gps.length x2)).setCell ⟨w.heap.size + 1 + 1, 7, none⟩ (.int .i64 u.win)).setCell ⟨w.heap.size + 1 + 1, 8, none⟩ (.int .i64 u.size)).setCell ⟨w.heap.size + 1 + 1, 9, none⟩ (.int .i64 u.every))).heap[w.heap.size + 1 + 1]? = some (.cells #[.string u.fr, .string u.jn, .int .i64 u.wn, .string u.on, .string u.lk, .slice Y1 u.wh.length x1, .slice Y2 u.gps.length x2, .int .i64 u.win, .int .i64 u.size, .int .i64 u.every, .slice none 0 0] 39 (0, 0))) := heap_setCell_same ((((w2.setCell ⟨w.heap.size + 1 + 1, 6, none⟩ (.slice Y2 u.gps.length x2)).setCell ⟨w.heap.size + 1 + 1, 7, none⟩ (.int .i64 u.win)).setCell ⟨w.heap.size + 1 + 1, 8, none⟩ (.int .i64 u.size))) (w.heap.size + 1 + 1) 9 _ _ (.int .i64 u.every) (qo28.out)
  have Uo2 := Seg.hid (qo29.out)
  have Ur2 := Seg.hid ((heap_setCell_other ((((w2.setCell ⟨w.heap.size + 1 + 1, 6, none⟩ (.slice Y2 u.gps.length x2)).setCell ⟨w.heap.size + 1 + 1, 7, none⟩ (.int .i64 u.win)).setCell ⟨w.heap.size + 1 + 1, 8, none⟩ (.int .i64 u.size))) ⟨w.heap.size + 1 + 1, 9, none⟩ (w.heap.size + 1) (.int .i64 u.every) (by simp)).trans ((heap_setCell_other (((w2.setCell ⟨w.heap.size + 1 + 1, 6, none⟩ (.slice Y2 u.gps.length x2)).setCell ⟨w.heap.size + 1 + 1, 7, none⟩ (.int .i64 u.win))) ⟨w.heap.size + 1 + 1, 8, none⟩ (w.heap.size + 1) (.int .i64 u.size) (by simp)).trans ((heap_setCell_other ((w2.setCell ⟨w.heap.size + 1 + 1, 6, none⟩ (.slice Y2 u.gps.length x2))) ⟨w.heap.size + 1 + 1, 7, none⟩ (w.heap.size + 1) (.int .i64 u.win) (by simp)).trans ((heap_setCell_other (w2) ⟨w.heap.size + 1 + 1, 6, none⟩ (w.heap.size + 1) (.slice Y2 u.gps.length x2) (by simp)).trans (Tr2.out)))))
  have Ua2 := Seg.hid ((heap_setCell_other ((((w2.setCell ⟨w.heap.size + 1 + 1, 6, none⟩ (.slice Y2 u.gps.length x2)).setCell ⟨w.heap.size + 1 + 1, 7, none⟩ (.int .i64 u.win)).setCell ⟨w.heap.size + 1 + 1, 8, none⟩ (.int .i64 u.size))) ⟨w.heap.size + 1 + 1, 9, none⟩ w.heap.size (.int .i64 u.every) (by simp; omega)).trans ((heap_setCell_other (((w2.setCell ⟨w.heap.size + 1 + 1, 6, none⟩ (.slice Y2 u.gps.length x2)).setCell ⟨w.heap.size + 1 + 1, 7, none⟩ (.int .i64 u.win))) ⟨w.heap.size + 1 + 1, 8, none⟩ w.heap.size (.int .i64 u.size) (by simp; omega)).trans ((heap_setCell_other ((w2.setCell ⟨w.heap.size + 1 + 1, 6, none⟩ (.slice Y2 u.gps.length x2))) ⟨w.heap.size + 1 + 1, 7, none⟩ w.heap.size (.int .i64 u.win) (by simp; omega)).trans ((heap_setCell_other (w2) ⟨w.heap.size + 1 + 1, 6, none⟩ w.heap.size (.slice Y2 u.gps.length x2) (by simp; omega)).trans (Ta2.out)))))
  have D2 : Hid (Below w.heap.size w ((((w2.setCell ⟨w.heap.size + 1 + 1, 6, none⟩ (.slice Y2 u.gps.length x2)).setCell ⟨w.heap.size + 1 + 1, 7, none⟩ (.int .i64 u.win)).setCell ⟨w.heap.size + 1 + 1, 8, none⟩ (.int .i64 u.size)).setCell ⟨w.heap.size + 1 + 1, 9, none⟩ (.int .i64 u.every))) := ((((B2.out).setCell (p := ⟨w.heap.size + 1 + 1, 6, none⟩) (by simp; omega) (.slice Y2 u.gps.length x2)).setCell (p := ⟨w.heap.size + 1 + 1, 7, none⟩) (by simp; omega) (.int .i64 u.win)).setCell (p := ⟨w.heap.size + 1 + 1, 8, none⟩) (by simp; omega) (.int .i64 u.size)).setCell (p := ⟨w.heap.size + 1 + 1, 9, none⟩) (by simp; omega) (.int .i64 u.every)
  have N21' : Hid (StpsOwn ((((w2.setCell ⟨w.heap.size + 1 + 1, 6, none⟩ (.slice Y2 u.gps.length x2)).setCell ⟨w.heap.size + 1 + 1, 7, none⟩ (.int .i64 u.win)).setCell ⟨w.heap.size + 1 + 1, 8, none⟩ (.int .i64 u.size)).setCell ⟨w.heap.size + 1 + 1, 9, none⟩ (.int .i64 u.every)) (seg (w.heap.size + 3) w1.heap.size) (.slice Y1 u.wh.length x1) u.wh) := LOwn.keep keepsOStp N21.out (by simp) (fun g hg => by have := hg.1; rw [heap_setCell_other _ _ _ _ (by show _ ≠ w.heap.size + 1 + 1; omega), heap_setCell_other _ _ _ _ (by show _ ≠ w.heap.size + 1 + 1; omega), heap_setCell_other _ _ _ _ (by show _ ≠ w.heap.size + 1 + 1; omega), heap_setCell_other _ _ _ _ (by show _ ≠ w.heap.size + 1 + 1; omega)])
  have N22' : Hid (StrsOwn ((((w2.setCell ⟨w.heap.size + 1 + 1, 6, none⟩ (.slice Y2 u.gps.length x2)).setCell ⟨w.heap.size + 1 + 1, 7, none⟩ (.int .i64 u.win)).setCell ⟨w.heap.size + 1 + 1, 8, none⟩ (.int .i64 u.size)).setCell ⟨w.heap.size + 1 + 1, 9, none⟩ (.int .i64 u.every)) (seg (w1.heap.size) w2.heap.size) (.slice Y2 u.gps.length x2) u.gps) := LOwn.keep keepsOStr N22.out (by simp) (fun g hg => by have := hg.1; rw [heap_setCell_other _ _ _ _ (by show _ ≠ w.heap.size + 1 + 1; omega), heap_setCell_other _ _ _ _ (by show _ ≠ w.heap.size + 1 + 1; omega), heap_setCell_other _ _ _ _ (by show _ ≠ w.heap.size + 1 + 1; omega), heap_setCell_other _ _ _ _ (by show _ ≠ w.heap.size + 1 + 1; omega)])
  go_wp2_with fail
  refine (toGetS_own _ u.gets ((((w2.setCell ⟨w.heap.size + 1 + 1, 6, none⟩ (.slice Y2 u.gps.length x2)).setCell ⟨w.heap.size + 1 + 1, 7, none⟩ (.int .i64 u.win)).setCell ⟨w.heap.size + 1 + 1, 8, none⟩ (.int .i64 u.size)).setCell ⟨w.heap.size + 1 + 1, 9, none⟩ (.int .i64 u.every)) S (H10.out.below keepsGqt D2.out hS) (fun g hg => Nat.lt_of_lt_of_le (hS g hg) D2.out.size) (by omega)).mono ?_
  rintro e w3 ⟨v3, rfl, l3, b3⟩
  have B3 := Seg.hid (chain D2.out b3)
  have z3 : ((((w2.setCell ⟨w.heap.size + 1 + 1, 6, none⟩ (.slice Y2 u.gps.length x2)).setCell ⟨w.heap.size + 1 + 1, 7, none⟩ (.int .i64 u.win)).setCell ⟨w.heap.size + 1 + 1, 8, none⟩ (.int .i64 u.size)).setCell ⟨w.heap.size + 1 + 1, 9, none⟩ (.int .i64 u.every)).heap.size = w2.heap.size := by simp
  have Ta3 := Seg.hid ((b3.block w.heap.size (by omega)).trans Ua2.out)
  have Tr3 := Seg.hid ((b3.block (w.heap.size + 1) (by omega)).trans Ur2.out)
  have To3 := Seg.hid ((b3.block (w.heap.size + 1 + 1) (by omega)).trans Uo2.out)
  have s3 : w2.heap.size ≤ w3.heap.size := by have := b3.size; omega
  have M3 : Hid (GqtsOwn w3 (seg (w2.heap.size) w3.heap.size) v3 u.gets) := by
    rw [z3] at l3
    exact l3
  have N31 : Hid (StpsOwn w3 (seg (w.heap.size + 3) w1.heap.size) (.slice Y1 u.wh.length x1) u.wh) := LOwn.keep keepsOStp N21'.out b3.size (fun g hg => b3.block g (by have := hg.2; omega))
  have N32 : Hid (StrsOwn w3 (seg (w1.heap.size) w2.heap.size) (.slice Y2 u.gps.length x2) u.gps) := LOwn.keep keepsOStr N22'.out b3.size (fun g hg => b3.block g (by have := hg.2; omega))
  clear z3
  obtain ⟨Y3, x3, r3⟩ := LOwn.form M3.out
  subst r3
  clear b3 l3
  have N33 := M3
  have po310 : (w3).cell? ⟨w.heap.size + 1 + 1, 10, none⟩ = some (.slice none 0 0) := cell_of_row (w3) _ 10 _ _ (0, 0) (To3.out)
  have pf310 : (w3).frozen? ⟨w.heap.size + 1 + 1, 10, none⟩ = false := frozen_of_row (w3) _ 10 _ _ (To3.out)
  have qo310 : Hid (((w3.setCell ⟨w.heap.size + 1 + 1, 10, none⟩ (.slice Y3 u.gets.length x3))).heap[w.heap.size + 1 + 1]? = some (.cells #[.string u.fr, .string u.jn, .int .i64 u.wn, .string u.on, .string u.lk, .slice Y1 u.wh.length x1, .slice Y2 u.gps.length x2, .int .i64 u.win, .int .i64 u.size, .int .i64 u.every, .slice Y3 u.gets.length x3] 39 (0, 0))) := heap_setCell_same (w3) (w.heap.size + 1 + 1) 10 _ _ (.slice Y3 u.gets.length x3) (To3.out)
  have Uo3 := Seg.hid (qo310.out)
  have Ur3 := Seg.hid ((heap_setCell_other (w3) ⟨w.heap.size + 1 + 1, 10, none⟩ (w.heap.size + 1) (.slice Y3 u.gets.length x3) (by simp)).trans (Tr3.out))
  have Ua3 := Seg.hid ((heap_setCell_other (w3) ⟨w.heap.size + 1 + 1, 10, none⟩ w.heap.size (.slice Y3 u.gets.length x3) (by simp; omega)).trans (Ta3.out))
  have D3 : Hid (Below w.heap.size w (w3.setCell ⟨w.heap.size + 1 + 1, 10, none⟩ (.slice Y3 u.gets.length x3))) := (B3.out).setCell (p := ⟨w.heap.size + 1 + 1, 10, none⟩) (by simp; omega) (.slice Y3 u.gets.length x3)
  have N31' : Hid (StpsOwn (w3.setCell ⟨w.heap.size + 1 + 1, 10, none⟩ (.slice Y3 u.gets.length x3)) (seg (w.heap.size + 3) w1.heap.size) (.slice Y1 u.wh.length x1) u.wh) := LOwn.keep keepsOStp N31.out (by simp) (fun g hg => by have := hg.1; rw [heap_setCell_other _ _ _ _ (by show _ ≠ w.heap.size + 1 + 1; omega)])
  have N32' : Hid (StrsOwn (w3.setCell ⟨w.heap.size + 1 + 1, 10, none⟩ (.slice Y3 u.gets.length x3)) (seg (w1.heap.size) w2.heap.size) (.slice Y2 u.gps.length x2) u.gps) := LOwn.keep keepsOStr N32.out (by simp) (fun g hg => by have := hg.1; rw [heap_setCell_other _ _ _ _ (by show _ ≠ w.heap.size + 1 + 1; omega)])
  have N33' : Hid (GqtsOwn (w3.setCell ⟨w.heap.size + 1 + 1, 10, none⟩ (.slice Y3 u.gets.length x3)) (seg (w2.heap.size) w3.heap.size) (.slice Y3 u.gets.length x3) u.gets) := LOwn.keep keepsOGqt N33.out (by simp) (fun g hg => by have := hg.1; rw [heap_setCell_other _ _ _ _ (by show _ ≠ w.heap.size + 1 + 1; omega)])
  obtain ⟨fx, hfx⟩ : ∃ fx : Nat → Value, fx = (fun q => if q = 0 then .string u.fr else if q = 1 then .string u.jn else if q = 2 then .int .i64 u.wn else if q = 3 then .string u.on else if q = 4 then .string u.lk else if q = 5 then .slice Y1 u.wh.length x1 else if q = 6 then .slice Y2 u.gps.length x2 else if q = 7 then .int .i64 u.win else if q = 8 then .int .i64 u.size else if q = 9 then .int .i64 u.every else .slice Y3 u.gets.length x3) := ⟨_, rfl⟩
  have HX := Seg.hid hfx
  have Uz : Hid ((w3.setCell ⟨w.heap.size + 1 + 1, 10, none⟩ (.slice Y3 u.gets.length x3)).heap[w.heap.size + 1 + 1]? = some (.cells (arrQry fx) 39 (0, 0))) := by
    show _ = _
    rw [hfx]
    exact Uo3.out
  clear hfx
  have H5a := Cells.there_of Ur3.out
  have H5 : Hid ((w3.setCell ⟨w.heap.size + 1 + 1, 10, none⟩ (.slice Y3 u.gets.length x3)).there (w.heap.size + 1) 0 (arrQry fx).size) := H5a
  clear H5a
  have H4 := Seg.hid (Cells.whole (vs := arrQry fx) Ur3.out rfl)
  have B9 := Seg.hid (Cells.below_setCells (g := w.heap.size + 1) (by omega) (arrQry fx).toList 0 _ _ D3.out)
  have ZS : ((w3.setCell ⟨w.heap.size + 1 + 1, 10, none⟩ (.slice Y3 u.gets.length x3)).setCells (w.heap.size + 1) 0 (arrQry fx).toList).heap.size = w3.heap.size := by rw [Cells.size_setCells]; simp
  have F1 : Hid (StpsOwn ((w3.setCell ⟨w.heap.size + 1 + 1, 10, none⟩ (.slice Y3 u.gets.length x3)).setCells (w.heap.size + 1) 0 (arrQry fx).toList) (seg (w.heap.size + 3) w1.heap.size) (fx 5) u.wh) := by
    show StpsOwn _ _ _ _
    rw [show fx 5 = .slice Y1 u.wh.length x1 by rw [HX.out]; rfl]
    refine LOwn.keep keepsOStp N31'.out (by rw [Cells.size_setCells]; exact Nat.le_refl _) (fun g hg => ?_)
    have := hg.1
    rw [Cells.heap_setCells_other _ _ (by omega)]
  have F2 : Hid (StrsOwn ((w3.setCell ⟨w.heap.size + 1 + 1, 10, none⟩ (.slice Y3 u.gets.length x3)).setCells (w.heap.size + 1) 0 (arrQry fx).toList) (seg (w1.heap.size) w2.heap.size) (fx 6) u.gps) := by
    show StrsOwn _ _ _ _
    rw [show fx 6 = .slice Y2 u.gps.length x2 by rw [HX.out]; rfl]
    refine LOwn.keep keepsOStr N32'.out (by rw [Cells.size_setCells]; exact Nat.le_refl _) (fun g hg => ?_)
    have := hg.1
    rw [Cells.heap_setCells_other _ _ (by omega)]
  have F3 : Hid (GqtsOwn ((w3.setCell ⟨w.heap.size + 1 + 1, 10, none⟩ (.slice Y3 u.gets.length x3)).setCells (w.heap.size + 1) 0 (arrQry fx).toList) (seg (w2.heap.size) w3.heap.size) (fx 10) u.gets) := by
    show GqtsOwn _ _ _ _
    rw [show fx 10 = .slice Y3 u.gets.length x3 by rw [HX.out]; rfl]
    refine LOwn.keep keepsOGqt N33'.out (by rw [Cells.size_setCells]; exact Nat.le_refl _) (fun g hg => ?_)
    have := hg.1
    rw [Cells.heap_setCells_other _ _ (by omega)]
  obtain ⟨Q, hQ⟩ : ∃ Q : Nat → Nat → Prop, Q = (fun i => if i = 5 then (seg (w.heap.size + 3) w1.heap.size) else if i = 6 then (seg (w1.heap.size) w2.heap.size) else if i = 10 then (seg (w2.heap.size) w3.heap.size) else fun _ => False) := ⟨_, rfl⟩
  have hq1 : Q 5 = (seg (w.heap.size + 3) w1.heap.size) := by rw [hQ]; rfl
  have hq2 : Q 6 = (seg (w1.heap.size) w2.heap.size) := by rw [hQ]; rfl
  have hq3 : Q 10 = (seg (w2.heap.size) w3.heap.size) := by rw [hQ]; rfl
  have hq0 : ∀ i y, i ≠ 5 → i ≠ 6 → i ≠ 10 → ¬ Q i y := by
    intro i y n1 n2 n3 hy
    rw [hQ] at hy
    simp only [if_neg n1, if_neg n2, if_neg n3] at hy
  clear hQ
  have EX : Hid (EOQry ((w3.setCell ⟨w.heap.size + 1 + 1, 10, none⟩ (.slice Y3 u.gets.length x3)).setCells (w.heap.size + 1) 0 (arrQry fx).toList) (seg w.heap.size ((w3.setCell ⟨w.heap.size + 1 + 1, 10, none⟩ (.slice Y3 u.gets.length x3)).setCells (w.heap.size + 1) 0 (arrQry fx).toList).heap.size) fx u) := by
    refine ⟨⟨by rw [HX.out]; rfl, by rw [HX.out]; rfl, by rw [HX.out]; rfl, by rw [HX.out]; rfl, by rw [HX.out]; rfl, by rw [HX.out]; rfl, by rw [HX.out]; rfl, by rw [HX.out]; rfl⟩, Q, ?_, ?_, ?_, ?_, ?_⟩
    · intro i y hy
      by_cases e1 : i = 5
      · subst e1; rw [hq1] at hy
        exact ⟨by have := hy.1; omega, by rw [ZS]; have := hy.2; omega⟩
      by_cases e2 : i = 6
      · subst e2; rw [hq2] at hy
        exact ⟨by have := hy.1; omega, by rw [ZS]; have := hy.2; omega⟩
      by_cases e3 : i = 10
      · subst e3; rw [hq3] at hy
        exact ⟨by have := hy.1; omega, by rw [ZS]; have := hy.2; omega⟩
      exact absurd hy (hq0 i y e1 e2 e3)
    · intro i j hij y hi hj
      by_cases e1 : i = 5
      · subst e1; rw [hq1] at hi
        by_cases f1 : j = 5
        · subst f1
          exact absurd rfl hij
        by_cases f2 : j = 6
        · subst f2
          rw [hq2] at hj
          have a1 := hi.1; have a2 := hi.2; have a3 := hj.1; have a4 := hj.2; omega
        by_cases f3 : j = 10
        · subst f3
          rw [hq3] at hj
          have a1 := hi.1; have a2 := hi.2; have a3 := hj.1; have a4 := hj.2; omega
        exact absurd hj (hq0 j y f1 f2 f3)
      by_cases e2 : i = 6
      · subst e2; rw [hq2] at hi
        by_cases f1 : j = 5
        · subst f1
          rw [hq1] at hj
          have a1 := hi.1; have a2 := hi.2; have a3 := hj.1; have a4 := hj.2; omega
        by_cases f2 : j = 6
        · subst f2
          exact absurd rfl hij
        by_cases f3 : j = 10
        · subst f3
          rw [hq3] at hj
          have a1 := hi.1; have a2 := hi.2; have a3 := hj.1; have a4 := hj.2; omega
        exact absurd hj (hq0 j y f1 f2 f3)
      by_cases e3 : i = 10
      · subst e3; rw [hq3] at hi
        by_cases f1 : j = 5
        · subst f1
          rw [hq1] at hj
          have a1 := hi.1; have a2 := hi.2; have a3 := hj.1; have a4 := hj.2; omega
        by_cases f2 : j = 6
        · subst f2
          rw [hq2] at hj
          have a1 := hi.1; have a2 := hi.2; have a3 := hj.1; have a4 := hj.2; omega
        by_cases f3 : j = 10
        · subst f3
          exact absurd rfl hij
        exact absurd hj (hq0 j y f1 f2 f3)
      exact absurd hi (hq0 i y e1 e2 e3)
    · rw [hq1]; exact F1.out
    · rw [hq2]; exact F2.out
    · rw [hq3]; exact F3.out
  clear hq0 hq1 hq2 hq3
  have ON := Seg.hid (oneQry (atOQry _ _ _ _ EX.out))
  clear Ta1 Tr1 To1 Ua1 M1 Ta2 Tr2 To2 Ua2 M2 Ta3 Tr3 To3 Ua3 M3 ZS
  go_upto_region 13 with fail
  clear po310 pf310
  generalize (w3.setCell ⟨w.heap.size + 1 + 1, 10, none⟩ (.slice Y3 u.gets.length x3)) = wz at *
  go_wp2_with (first | (refine wpList_load_row rfl 39 _ rfl (w.heap.size + 1 + 1) rfl _ _ _ _ Uz.out Try.underlying39 rfl infoQry ?_) | (refine wpList_store_mid rfl 39 _ _ rfl (w.heap.size + 1) 0 (arrQry fx) rfl rfl H5.out infoQry ON.out ?_))
  exact bodyPost_ret (v := .agg (arrQry fx)) (results_cell_row rfl _ _ (w.heap.size + 1) _ _ _ _ rfl H4.out Try.underlying39 rfl infoQry) rfl ⟨_, rfl, ⟨fx, rfl, EX.out⟩, B9.out⟩
end Go.Proofs.Ytboooabjeidmfaa.Ow
namespace Go.Proofs.Ytboooabjeidmfaa.Ow
set_option maxRecDepth 8000
open Go.RowKit
open Recs
open Ls
set_option linter.unusedVariables false
def EOSrc : Elt Src := fun w S f u => (f 0 = .string u.name ∧ f 1 = .bool u.tab) ∧ ∃ Q : Nat → Nat → Prop, (∀ i y, Q i y → S y) ∧ (∀ i j, i ≠ j → ∀ y, Q i y → ¬ Q j y) ∧ StrsOwn w (Q 2) (f 2) u.cols
theorem keepsOSrc : KeepsO 3 EOSrc := fun w w' S f f' t h hs hk hf => by
  obtain ⟨⟨s0, s1⟩, Q, q1, q2, l2⟩ := h
  exact ⟨⟨by rw [hf 0 (by omega)]; exact s0, by rw [hf 1 (by omega)]; exact s1⟩, Q, q1, q2, by rw [hf 2 (by omega)]; exact l2.keep keepsOStr hs (fun g hg => hk g (q1 _ g hg))⟩
theorem atOSrc (w : World) (S : Nat → Prop) (f : Nat → Value) (u : Src) (h : EOSrc w S f u) : ESrc w S f u := by
  obtain ⟨⟨s0, s1⟩, Q, q1, q2, l2⟩ := h
  exact ⟨s0, s1, (LOwn.lat growsStr (fun _ _ _ _ h => h) l2).mono growsStr (q1 2)⟩
abbrev SrcsOwn := LOwn 62 3 EOSrc
def mSrc (k : Nat) (u : Src) : Src := ⟨mt (k + 0), ((((k + 1) : Nat) : Int) % 3 == 0), mL mX nX (k + 2) u.cols⟩
def nSrc (u : Src) : Nat := 2 + tot nX u.cols
theorem markSourceS_none (A : Option Addr) (c : Nat) (k : Int) (w : World) : Calls Try.prog 31 #[.slice A 0 c, .int .i64 k] w fun e w' => e = .returned (.int .i64 k) ∧ w = w' := by
  go_enter Try.func31, Try.ntmps31
  go_wp2
  go_loop [1, 5] (fun x i => i = .int .i64 0 ∧ x = .int .i64 k) (fun _ _ => 0)
  case atStart => exact ⟨rfl, rfl⟩
  case round =>
    obtain ⟨rfl, rfl⟩ := hrel
    go_wp2
    go_ret
    exact ⟨rfl, rfl⟩
set_option maxHeartbeats 3200000 in
theorem markSourceS_core (g n c k : Nat) (S : Nat → Prop) (P : Nat → Nat → Prop) (F0 : Nat → Value) (us : List Src) (w : World) (hn : n ≤ 1048576) (hk : 0 < k) (hk1 : k + tot nSrc us ≤ 4000000000000000000) (hSg : S g) (hSP : ∀ i, i < n → ∀ y, P i y → S y) (ho : LOpen 62 3 EOSrc w g n c F0 P us) :
    Calls Try.prog 31 #[.slice (some ⟨g, 0, none⟩) n c, .int .i64 k] w fun e w' => ∃ F, e = .returned (.int .i64 ((k + tot nSrc us : Nat) : Int)) ∧ LOpen 62 3 EOSrc w' g n c F P (mL mSrc nSrc k us) ∧ Foot w w' S := by
  have hc := ho.mine.le
  have hlen := Seg.hid ho.len
  have HM : Hid (LOpen 62 3 EOSrc w g n c F0 P (mid mSrc nSrc k 0 us) ∧ Foot w w S) := ⟨by rw [mid_zero]; exact ho, Foot.refl _ _⟩
  have HSG := Seg.hid hSg; have HSP := Seg.hid hSP
  have KL : Hid (∀ j, j < n → k + tot nSrc (us.take j) + nSrc (us.getD j default) ≤ 4000000000000000000) := fun j hj => by
    have a1 := tot_take nSrc (ts := us) (j := j) (by rw [hlen.out]; exact hj)
    have a2 := tot_le nSrc us (j + 1)
    omega
  have KE : Hid (k + tot nSrc (us.take n) = k + tot nSrc us) := by show _ = _; rw [← hlen.out, List.take_length]
  clear ho hSg hSP hk1
  go_enter Try.func31, Try.ntmps31
  go_wp2
  go_loopw [1, 5] (fun x i wr => ∃ (j : Nat) (F : Nat → Value), j ≤ n ∧ i = .int .i64 j ∧ x = .int .i64 ((k + tot nSrc (us.take j) : Nat) : Int) ∧ Hid (LOpen 62 3 EOSrc wr g n c F P (mid mSrc nSrc k j us) ∧ Foot w wr S)) (fun _ i _ => n - (intOf i).toNat)
  case atStart => exact ⟨0, F0, Nat.zero_le _, rfl, rfl, HM.out⟩
  case round =>
    clear HM
    obtain ⟨j, F, hj, rfl, rfl, HR⟩ := hrel
    by_cases hlt : j < n
    · have h0 : (0 : Int) ≤ (j : Int) := by omega
      have h1 : (j : Int) < (n : Int) := by omega
      have EL := HR.out.1.el j hlt
      rw [mid_get mSrc nSrc (by rw [hlen.out]; exact hlt)] at EL
      have MS := mid_step mSrc nSrc (k := k) (ts := us) (j := j) (by rw [hlen.out]; exact hlt)
      have TK := Seg.hid (tot_take nSrc (ts := us) (j := j) (by rw [hlen.out]; exact hlt))
      have hxb := KL.out j hlt
      have HAP := Seg.hid (HR.out.1.apart j hlt)
      obtain ⟨x, hx⟩ : ∃ x, k + tot nSrc (us.take j) = x := ⟨_, rfl⟩
      have HX := Seg.hid hx
      rw [hx] at hxb MS ⊢
      have hx0 : 0 < x := by omega
      clear hx
      have MS' := Seg.hid MS
      clear MS
      generalize us.getD j default = u at *
      have HXB := Seg.hid hxb
      clear hxb
      obtain ⟨⟨s0, s1⟩, Q, q1, q2, l2⟩ := EL
      obtain ⟨A2, c2, g2⟩ := l2.form
      have O0_2 : Hid (StrsOwn wr (Q 2) (.slice A2 u.cols.length c2) u.cols) := by
        have := l2
        rw [g2] at this
        exact this
      have QP := Seg.hid q1
      have QD := Seg.hid q2
      have R0 : Hid (Rnd 62 3 g n c (P j) w wr wr S F j [.string u.name, .bool u.tab, .slice A2 u.cols.length c2]) := Rnd.start HR.out.1.mine HR.out.2 rfl (fun q hq => by
        match q, hq with
        | 0, _ => exact s0
        | 1, _ => exact s1
        | 2, _ => exact g2)
      clear s0 s1 l2 g2 q1 q2
      have QG : Hid (∀ i y, Q i y → y ≠ g) := fun i y hy => (HAP.out y (QP.out i y hy)).1
      have QL : Hid (∀ i y, Q i y → y < wr.heap.size) := fun i y hy => (HAP.out y (QP.out i y hy)).2
      have HB_x : Hid (x + 2 + tot nX u.cols ≤ 4000000000000000000) := by show _ ≤ _; have := HXB.out; simp only [nSrc] at this; omega
      have hc_x : x + 3 ≤ 4000000000000000000 + 3 := by have := HB_x.out; omega
      have hd_x : x + 2 ≤ 4000000000000000000 := by have := HB_x.out; omega
      go_wp2_with fail
      refine (markText_at _ (x) (by omega) wr (by omega) (by omega)).mono ?_
      rintro e w1 ⟨rfl, b1⟩
      have R1 : Hid (Rnd 62 3 g n c (P j) w wr w1 S F j [.string u.name, .bool u.tab, .slice A2 u.cols.length c2]) := R0.out.below b1
      have O1_2 : Hid (StrsOwn w1 (Q 2) (.slice A2 u.cols.length c2) (u.cols)) := O0_2.out.belowO keepsOStr b1 (fun y hy => Nat.lt_of_lt_of_le (QL.out 2 y hy) R0.out.le)
      clear b1
      have d0 : (w1).cell? ⟨g, j * 3, none⟩ = some (.string u.name) := R1.out.cell hlt 0 (by omega)
      have f0 : (w1).frozen? ⟨g, j * 3, none⟩ = false := R1.out.frozen _
      have R2 : Hid (Rnd 62 3 g n c (P j) w wr (w1.setCell ⟨g, j * 3, none⟩ (.string (mt (x)))) S F j [.string (mt (x)), .bool u.tab, .slice A2 u.cols.length c2]) := R1.out.set HSG.out 0 (by omega) (.string (mt (x)))
      have O2_2 : Hid (StrsOwn (w1.setCell ⟨g, j * 3, none⟩ (.string (mt (x)))) (Q 2) (.slice A2 u.cols.length c2) (u.cols)) := O1_2.out.set keepsOStr _ (QG.out 2) _
      have d1 : ((w1.setCell ⟨g, j * 3, none⟩ (.string (mt (x))))).cell? ⟨g, j * 3 + 1, none⟩ = some (.bool u.tab) := R2.out.cell hlt 1 (by omega)
      have f1 : ((w1.setCell ⟨g, j * 3, none⟩ (.string (mt (x))))).frozen? ⟨g, j * 3 + 1, none⟩ = false := R2.out.frozen _
      have R3 : Hid (Rnd 62 3 g n c (P j) w wr ((w1.setCell ⟨g, j * 3, none⟩ (.string (mt (x)))).setCell ⟨g, j * 3 + 1, none⟩ (.bool (((x : Int) + 1) % 3 == 0))) S F j [.string (mt (x)), .bool (((x : Int) + 1) % 3 == 0), .slice A2 u.cols.length c2]) := R2.out.set HSG.out 1 (by omega) (.bool (((x : Int) + 1) % 3 == 0))
      have O3_2 : Hid (StrsOwn ((w1.setCell ⟨g, j * 3, none⟩ (.string (mt (x)))).setCell ⟨g, j * 3 + 1, none⟩ (.bool (((x : Int) + 1) % 3 == 0))) (Q 2) (.slice A2 u.cols.length c2) (u.cols)) := O2_2.out.set keepsOStr _ (QG.out 2) _
      have d2 : (((w1.setCell ⟨g, j * 3, none⟩ (.string (mt (x)))).setCell ⟨g, j * 3 + 1, none⟩ (.bool (((x : Int) + 1) % 3 == 0)))).cell? ⟨g, j * 3 + 2, none⟩ = some (.slice A2 u.cols.length c2) := R3.out.cell hlt 2 (by omega)
      go_wp2_with fail
      clear d0 f0 d1 f1 d2
      refine (markStringS_own _ (x + 2) (by omega) (Q 2) u.cols ((w1.setCell ⟨g, j * 3, none⟩ (.string (mt (x)))).setCell ⟨g, j * 3 + 1, none⟩ (.bool (((x : Int) + 1) % 3 == 0))) (by omega) (by have := HB_x.out; omega) O3_2.out).mono ?_
      rintro e w2 ⟨rfl, o2, t2⟩
      have R4 : Hid (Rnd 62 3 g n c (P j) w wr w2 S F j [.string (mt (x)), .bool (((x : Int) + 1) % 3 == 0), .slice A2 u.cols.length c2]) := R3.out.foot t2 (QP.out 2) (fun h => (HAP.out g h).1 rfl) (HSP.out j hlt)
      have O4_2 : Hid (StrsOwn w2 (Q 2) (.slice A2 u.cols.length c2) (mL mX nX (x + 2) u.cols)) := o2
      clear o2 t2
      obtain ⟨y2, hy2⟩ : ∃ y2, x + 2 + tot nX u.cols = y2 := ⟨_, rfl⟩
      rw [hy2]
      have Hy2 := Seg.hid hy2
      have HB_y2 : Hid (y2 + 0 ≤ 4000000000000000000) := by show _ ≤ _; have := HB_x.out; omega
      have hd_y2 : y2 + 0 ≤ 4000000000000000000 := by have := HB_y2.out; omega
      have hp_y2 : 0 < y2 := by omega
      clear hy2
      have EE : Hid (EOSrc w2 (P j) (fun q => [.string (mt (x)), .bool (((x : Int) + 1) % 3 == 0), .slice A2 u.cols.length c2].getD q default) (mSrc x u)) := by
        refine ⟨⟨?_, ?_⟩, Q, QP.out, QD.out, ?_⟩
        · exact congrArg (fun z : Nat => Value.string (mt z)) (show x = (x + 0) by have z0 := Hy2.out; omega)
        · exact congrArg (fun z : Int => Value.bool (z % 3 == 0)) (show (x : Int) + 1 = (((x + 1) : Nat) : Int) by have z0 := Hy2.out; omega)
        · have hz : x + 2 = (x + 2) := by (have z0 := Hy2.out; omega)
          have ho := O4_2.out
          rw [hz] at ho
          exact ho
      obtain ⟨F', L', F2⟩ := Rnd.done keepsOSrc (t := mSrc x u) HR.out.1 hlt R4.out EE.out
      rw [MS'.out] at L'
      have L2 := Seg.hid L'
      have F3 := Seg.hid F2
      clear L' F2
      have HKK : Hid ((y2 : Int) = ((k + tot nSrc (us.take (j + 1)) : Nat) : Int)) := by
        show _ = _
        have z0 := Hy2.out; have a1 := TK.out; have a2 := HX.out; simp only [nSrc] at a1; omega
      go_wp2
      go_roundw
      case rel => exact ⟨j + 1, F', by omega, by go_num, congrArg (Value.int .i64) HKK.out, L2.out, F3.out⟩
      case measure => simp [intOf]; omega
    · have : j = n := by omega
      subst this
      have E := HR.out
      rw [show mid mSrc nSrc k j us = mL mSrc nSrc k us by rw [← hlen.out]; exact mid_all _ _ _ _] at E
      have EH' := Seg.hid E
      clear E
      rw [KE.out]
      go_wp2
      go_ret
      exact ⟨F, rfl, EH'.out⟩
theorem markSourceS_own (x : Int) (k : Nat) (hx : x = (k : Int)) (S : Nat → Prop) (us : List Src) (w : World) {v : Value} (hk : 0 < k) (hk1 : k + tot nSrc us ≤ 4000000000000000000) (hv : SrcsOwn w S v us) :
    Calls Try.prog 31 #[v, .int .i64 x] w fun e w' => e = .returned (.int .i64 ((k + tot nSrc us : Nat) : Int)) ∧ SrcsOwn w' S v (mL mSrc nSrc k us) ∧ Foot w w' S := by
  subst hx
  obtain ⟨h0, A, c, rfl, h⟩ := hv
  by_cases hz : us.length = 0
  · obtain rfl := List.length_eq_zero_iff.1 hz
    exact (markSourceS_none A c k w).mono fun e w' ⟨h1, h2⟩ => by
      subst h2
      exact ⟨by rw [h1]; rfl, LOwn.nil _ _ _ _, Foot.refl _ _⟩
  obtain ⟨g, F, P, rfl, h3, h4, h5⟩ := h.resolve_left hz
  refine (markSourceS_core g us.length c k S P F us w h0 hk hk1 h3 h4 h5).mono fun e w' ⟨F', a1, a2, a3⟩ => ⟨a1, ⟨by rw [mL_len]; exact h0, _, c, by rw [mL_len], .inr ⟨g, F', P, rfl, h3, fun i hi => h4 i (by rw [mL_len] at hi; exact hi), ?_⟩⟩, a3⟩
  rw [mL_len]
  exact a2
end Go.Proofs.Ytboooabjeidmfaa.Ow
