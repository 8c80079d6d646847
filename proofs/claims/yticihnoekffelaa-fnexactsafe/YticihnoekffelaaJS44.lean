/- Replica: the law's copiers answer memory of their own; The law's copier of numbers: what it answers is its own; Part: the law's copier answers memory of its own. -/
import Derived.Test.YticihnoekffelaaJS41
import Derived.Test.YticihnoekffelaaJS43
import Derived.Test.YticihnoekffelaaJS42
import Derived.Test.YticihnoekffelaaJS23
namespace Go.Proofs.Yticihnoekffelaa.Ow
set_option maxRecDepth 8000
open Go.RowKit
open Recs
open Ls
open LogW (Lg)
open SegW (Sg)
set_option linter.unusedVariables false
def RplOwn (w : World) (S : Nat → Prop) (v : Value) (u : Rpl) : Prop := ∃ f, v = .agg (arrRpl f) ∧ EORpl w S f u
set_option maxHeartbeats 1600000 in
theorem toReplica_own (v : Value) (u : Rpl) (w : World) (S : Nat → Prop) (hv : RplAt w S v u) (hS : ∀ g, S g → g < w.heap.size) (hf : szRpl u ≤ 1048576) :
    Calls Try.prog 66 #[v] w fun e w' => ∃ v', e = .returned v' ∧ RplOwn w' (seg w.heap.size w'.heap.size) v' u ∧ Below w.heap.size w w' := by
  obtain ⟨f, rfl, y0, y1, y2, y3, y4, y5⟩ := hv
  try simp only [arrRpl]
  rw [show f 0 = _ from y0]
  clear y0
  rw [show f 1 = _ from y1]
  clear y1
  rw [show f 2 = _ from y2]
  clear y2
  obtain ⟨A3, c3, g3⟩ := y3.form
  rw [g3] at y3 ⊢
  have H3 := Seg.hid y3
  clear y3 g3
  rw [show f 4 = _ from y4]
  clear y4
  rw [show f 5 = _ from y5]
  clear y5
  unfold szRpl at hf
  have G0 : Hid (LgAt w S (.agg #[.int .i64 u.start, .int .i64 u.next, .int .i64 u.roll, .slice A3 u.segs.length c3]) (⟨u.start, u.next, u.roll, u.segs⟩ : Lg)) := ⟨fun q => if q = 0 then .int .i64 u.start else if q = 1 then .int .i64 u.next else if q = 2 then .int .i64 u.roll else .slice A3 u.segs.length c3, rfl, rfl, rfl, rfl, H3.out⟩
  go_enter Try.func66, Try.ntmps66
  go_wp2_with fail
  refine (toLog_own _ (⟨u.start, u.next, u.roll, u.segs⟩ : Lg) (((w.alloc _).alloc _).alloc _) S (G0.out.below (below3 w _ _ _) hS) (fun g hg => by rw [hsz, hsz, hsz]; have := hS g hg; omega) (by omega)).mono ?_
  rintro e w1 ⟨vg1, rfl, ⟨fg1, rfl, ⟨a1_0, a1_1, a1_2⟩, Qg1, qg1, _, a1_3⟩, b1⟩
  obtain ⟨v1, hvv1⟩ : ∃ v, fg1 3 = v := ⟨_, rfl⟩
  rw [hvv1] at a1_3
  have l1 : SgsOwn w1 (seg (((w.alloc _).alloc _).alloc _).heap.size w1.heap.size) v1 u.segs := LOwn.mono a1_3 (fun x hx => qg1 _ x hx)
  have hag1 : arrLg fg1 = #[.int .i64 u.start, .int .i64 u.next, .int .i64 u.roll, v1] := by unfold arrLg; rw [show fg1 0 = .int .i64 u.start from a1_0, show fg1 1 = .int .i64 u.next from a1_1, show fg1 2 = .int .i64 u.roll from a1_2, hvv1]
  rw [hag1]
  clear hag1 hvv1 a1_0 a1_1 a1_2 a1_3
  have B1 := Seg.hid (chain (below3 w _ _ _) b1)
  have Ta1 : Hid (w1.heap[w.heap.size]? = some (.cells #[.int .i64 u.start, .int .i64 u.next, .int .i64 u.roll, .slice A3 u.segs.length c3, .int .i64 u.mark, .bool u.up] 97 (0, 0))) := (b1.block w.heap.size (by rw [hsz, hsz, hsz]; omega)).trans (at3z w _ _ _)
  have Tr1 : Hid (w1.heap[w.heap.size + 1]? = some (.cells #[.int .i64 0, .int .i64 0, .int .i64 0, .slice none 0 0, .int .i64 0, .bool false] 69 (0, 0))) := (b1.block (w.heap.size + 1) (by rw [hsz, hsz, hsz]; omega)).trans (at3 w _ _ _)
  have To1 : Hid (w1.heap[w.heap.size + 1 + 1]? = some (.cells #[.int .i64 0, .int .i64 0, .int .i64 0, .slice none 0 0, .int .i64 0, .bool false] 69 (0, 0))) := (b1.block (w.heap.size + 1 + 1) (by rw [hsz, hsz, hsz]; omega)).trans (Cells.at3' w _ _ _)
  have s1 : w.heap.size + 3 ≤ w1.heap.size := by have := b1.size; rw [hsz, hsz, hsz] at this; omega
  have M1 : Hid (SgsOwn w1 (seg (w.heap.size + 3) w1.heap.size) v1 u.segs) := by
    rw [hsz, hsz, hsz] at l1
    exact l1
  obtain ⟨Y1, x1, r1⟩ := LOwn.form M1.out
  subst r1
  clear b1 l1
  have N11 := M1
  have pa14 : w1.cell? ⟨w.heap.size, 4, none⟩ = some (.int .i64 u.mark) := cell_of_row w1 _ 4 _ _ (0, 0) Ta1.out
  have pa15 : w1.cell? ⟨w.heap.size, 5, none⟩ = some (.bool u.up) := cell_of_row w1 _ 5 _ _ (0, 0) Ta1.out
  have po10 : (w1).cell? ⟨w.heap.size + 1 + 1, 0, none⟩ = some (.int .i64 0) := cell_of_row (w1) _ 0 _ _ (0, 0) (To1.out)
  have pf10 : (w1).frozen? ⟨w.heap.size + 1 + 1, 0, none⟩ = false := frozen_of_row (w1) _ 0 _ _ (To1.out)
  have qo10 : Hid (((w1.setCell ⟨w.heap.size + 1 + 1, 0, none⟩ (.int .i64 u.start))).heap[w.heap.size + 1 + 1]? = some (.cells #[.int .i64 u.start, .int .i64 0, .int .i64 0, .slice none 0 0, .int .i64 0, .bool false] 69 (0, 0))) := heap_setCell_same (w1) (w.heap.size + 1 + 1) 0 _ _ (.int .i64 u.start) (To1.out)
  have po11 : ((w1.setCell ⟨w.heap.size + 1 + 1, 0, none⟩ (.int .i64 u.start))).cell? ⟨w.heap.size + 1 + 1, 1, none⟩ = some (.int .i64 0) := cell_of_row ((w1.setCell ⟨w.heap.size + 1 + 1, 0, none⟩ (.int .i64 u.start))) _ 1 _ _ (0, 0) (qo10.out)
  have pf11 : ((w1.setCell ⟨w.heap.size + 1 + 1, 0, none⟩ (.int .i64 u.start))).frozen? ⟨w.heap.size + 1 + 1, 1, none⟩ = false := frozen_of_row ((w1.setCell ⟨w.heap.size + 1 + 1, 0, none⟩ (.int .i64 u.start))) _ 1 _ _ (qo10.out)
  have qo11 : Hid ((((w1.setCell ⟨w.heap.size + 1 + 1, 0, none⟩ (.int .i64 u.start)).setCell ⟨w.heap.size + 1 + 1, 1, none⟩ (.int .i64 u.next))).heap[w.heap.size + 1 + 1]? = some (.cells #[.int .i64 u.start, .int .i64 u.next, .int .i64 0, .slice none 0 0, .int .i64 0, .bool false] 69 (0, 0))) := heap_setCell_same ((w1.setCell ⟨w.heap.size + 1 + 1, 0, none⟩ (.int .i64 u.start))) (w.heap.size + 1 + 1) 1 _ _ (.int .i64 u.next) (qo10.out)
  have po12 : (((w1.setCell ⟨w.heap.size + 1 + 1, 0, none⟩ (.int .i64 u.start)).setCell ⟨w.heap.size + 1 + 1, 1, none⟩ (.int .i64 u.next))).cell? ⟨w.heap.size + 1 + 1, 2, none⟩ = some (.int .i64 0) := cell_of_row (((w1.setCell ⟨w.heap.size + 1 + 1, 0, none⟩ (.int .i64 u.start)).setCell ⟨w.heap.size + 1 + 1, 1, none⟩ (.int .i64 u.next))) _ 2 _ _ (0, 0) (qo11.out)
  have pf12 : (((w1.setCell ⟨w.heap.size + 1 + 1, 0, none⟩ (.int .i64 u.start)).setCell ⟨w.heap.size + 1 + 1, 1, none⟩ (.int .i64 u.next))).frozen? ⟨w.heap.size + 1 + 1, 2, none⟩ = false := frozen_of_row (((w1.setCell ⟨w.heap.size + 1 + 1, 0, none⟩ (.int .i64 u.start)).setCell ⟨w.heap.size + 1 + 1, 1, none⟩ (.int .i64 u.next))) _ 2 _ _ (qo11.out)
  have qo12 : Hid (((((w1.setCell ⟨w.heap.size + 1 + 1, 0, none⟩ (.int .i64 u.start)).setCell ⟨w.heap.size + 1 + 1, 1, none⟩ (.int .i64 u.next)).setCell ⟨w.heap.size + 1 + 1, 2, none⟩ (.int .i64 u.roll))).heap[w.heap.size + 1 + 1]? = some (.cells #[.int .i64 u.start, .int .i64 u.next, .int .i64 u.roll, .slice none 0 0, .int .i64 0, .bool false] 69 (0, 0))) := heap_setCell_same (((w1.setCell ⟨w.heap.size + 1 + 1, 0, none⟩ (.int .i64 u.start)).setCell ⟨w.heap.size + 1 + 1, 1, none⟩ (.int .i64 u.next))) (w.heap.size + 1 + 1) 2 _ _ (.int .i64 u.roll) (qo11.out)
  have po13 : ((((w1.setCell ⟨w.heap.size + 1 + 1, 0, none⟩ (.int .i64 u.start)).setCell ⟨w.heap.size + 1 + 1, 1, none⟩ (.int .i64 u.next)).setCell ⟨w.heap.size + 1 + 1, 2, none⟩ (.int .i64 u.roll))).cell? ⟨w.heap.size + 1 + 1, 3, none⟩ = some (.slice none 0 0) := cell_of_row ((((w1.setCell ⟨w.heap.size + 1 + 1, 0, none⟩ (.int .i64 u.start)).setCell ⟨w.heap.size + 1 + 1, 1, none⟩ (.int .i64 u.next)).setCell ⟨w.heap.size + 1 + 1, 2, none⟩ (.int .i64 u.roll))) _ 3 _ _ (0, 0) (qo12.out)
  have pf13 : ((((w1.setCell ⟨w.heap.size + 1 + 1, 0, none⟩ (.int .i64 u.start)).setCell ⟨w.heap.size + 1 + 1, 1, none⟩ (.int .i64 u.next)).setCell ⟨w.heap.size + 1 + 1, 2, none⟩ (.int .i64 u.roll))).frozen? ⟨w.heap.size + 1 + 1, 3, none⟩ = false := frozen_of_row ((((w1.setCell ⟨w.heap.size + 1 + 1, 0, none⟩ (.int .i64 u.start)).setCell ⟨w.heap.size + 1 + 1, 1, none⟩ (.int .i64 u.next)).setCell ⟨w.heap.size + 1 + 1, 2, none⟩ (.int .i64 u.roll))) _ 3 _ _ (qo12.out)
  have qo13 : Hid ((((((w1.setCell ⟨w.heap.size + 1 + 1, 0, none⟩ (.int .i64 u.start)).setCell ⟨w.heap.size + 1 + 1, 1, none⟩ (.int .i64 u.next)).setCell ⟨w.heap.size + 1 + 1, 2, none⟩ (.int .i64 u.roll)).setCell ⟨w.heap.size + 1 + 1, 3, none⟩ (.slice Y1 u.segs.length x1))).heap[w.heap.size + 1 + 1]? = some (.cells #[.int .i64 u.start, .int .i64 u.next, .int .i64 u.roll, .slice Y1 u.segs.length x1, .int .i64 0, .bool false] 69 (0, 0))) := heap_setCell_same ((((w1.setCell ⟨w.heap.size + 1 + 1, 0, none⟩ (.int .i64 u.start)).setCell ⟨w.heap.size + 1 + 1, 1, none⟩ (.int .i64 u.next)).setCell ⟨w.heap.size + 1 + 1, 2, none⟩ (.int .i64 u.roll))) (w.heap.size + 1 + 1) 3 _ _ (.slice Y1 u.segs.length x1) (qo12.out)
  have po14 : (((((w1.setCell ⟨w.heap.size + 1 + 1, 0, none⟩ (.int .i64 u.start)).setCell ⟨w.heap.size + 1 + 1, 1, none⟩ (.int .i64 u.next)).setCell ⟨w.heap.size + 1 + 1, 2, none⟩ (.int .i64 u.roll)).setCell ⟨w.heap.size + 1 + 1, 3, none⟩ (.slice Y1 u.segs.length x1))).cell? ⟨w.heap.size + 1 + 1, 4, none⟩ = some (.int .i64 0) := cell_of_row (((((w1.setCell ⟨w.heap.size + 1 + 1, 0, none⟩ (.int .i64 u.start)).setCell ⟨w.heap.size + 1 + 1, 1, none⟩ (.int .i64 u.next)).setCell ⟨w.heap.size + 1 + 1, 2, none⟩ (.int .i64 u.roll)).setCell ⟨w.heap.size + 1 + 1, 3, none⟩ (.slice Y1 u.segs.length x1))) _ 4 _ _ (0, 0) (qo13.out)
  have pf14 : (((((w1.setCell ⟨w.heap.size + 1 + 1, 0, none⟩ (.int .i64 u.start)).setCell ⟨w.heap.size + 1 + 1, 1, none⟩ (.int .i64 u.next)).setCell ⟨w.heap.size + 1 + 1, 2, none⟩ (.int .i64 u.roll)).setCell ⟨w.heap.size + 1 + 1, 3, none⟩ (.slice Y1 u.segs.length x1))).frozen? ⟨w.heap.size + 1 + 1, 4, none⟩ = false := frozen_of_row (((((w1.setCell ⟨w.heap.size + 1 + 1, 0, none⟩ (.int .i64 u.start)).setCell ⟨w.heap.size + 1 + 1, 1, none⟩ (.int .i64 u.next)).setCell ⟨w.heap.size + 1 + 1, 2, none⟩ (.int .i64 u.roll)).setCell ⟨w.heap.size + 1 + 1, 3, none⟩ (.slice Y1 u.segs.length x1))) _ 4 _ _ (qo13.out)
  have qo14 : Hid (((((((w1.setCell ⟨w.heap.size + 1 + 1, 0, none⟩ (.int .i64 u.start)).setCell ⟨w.heap.size + 1 + 1, 1, none⟩ (.int .i64 u.next)).setCell ⟨w.heap.size + 1 + 1, 2, none⟩ (.int .i64 u.roll)).setCell ⟨w.heap.size + 1 + 1, 3, none⟩ (.slice Y1 u.segs.length x1)).setCell ⟨w.heap.size + 1 + 1, 4, none⟩ (.int .i64 u.mark))).heap[w.heap.size + 1 + 1]? = some (.cells #[.int .i64 u.start, .int .i64 u.next, .int .i64 u.roll, .slice Y1 u.segs.length x1, .int .i64 u.mark, .bool false] 69 (0, 0))) := heap_setCell_same (((((w1.setCell ⟨w.heap.size + 1 + 1, 0, none⟩ (.int .i64 u.start)).setCell ⟨w.heap.size + 1 + 1, 1, none⟩ (.int .i64 u.next)).setCell ⟨w.heap.size + 1 + 1, 2, none⟩ (.int .i64 u.roll)).setCell ⟨w.heap.size + 1 + 1, 3, none⟩ (.slice Y1 u.segs.length x1))) (w.heap.size + 1 + 1) 4 _ _ (.int .i64 u.mark) (qo13.out)
  have po15 : ((((((w1.setCell ⟨w.heap.size + 1 + 1, 0, none⟩ (.int .i64 u.start)).setCell ⟨w.heap.size + 1 + 1, 1, none⟩ (.int .i64 u.next)).setCell ⟨w.heap.size + 1 + 1, 2, none⟩ (.int .i64 u.roll)).setCell ⟨w.heap.size + 1 + 1, 3, none⟩ (.slice Y1 u.segs.length x1)).setCell ⟨w.heap.size + 1 + 1, 4, none⟩ (.int .i64 u.mark))).cell? ⟨w.heap.size + 1 + 1, 5, none⟩ = some (.bool false) := cell_of_row ((((((w1.setCell ⟨w.heap.size + 1 + 1, 0, none⟩ (.int .i64 u.start)).setCell ⟨w.heap.size + 1 + 1, 1, none⟩ (.int .i64 u.next)).setCell ⟨w.heap.size + 1 + 1, 2, none⟩ (.int .i64 u.roll)).setCell ⟨w.heap.size + 1 + 1, 3, none⟩ (.slice Y1 u.segs.length x1)).setCell ⟨w.heap.size + 1 + 1, 4, none⟩ (.int .i64 u.mark))) _ 5 _ _ (0, 0) (qo14.out)
  have pf15 : ((((((w1.setCell ⟨w.heap.size + 1 + 1, 0, none⟩ (.int .i64 u.start)).setCell ⟨w.heap.size + 1 + 1, 1, none⟩ (.int .i64 u.next)).setCell ⟨w.heap.size + 1 + 1, 2, none⟩ (.int .i64 u.roll)).setCell ⟨w.heap.size + 1 + 1, 3, none⟩ (.slice Y1 u.segs.length x1)).setCell ⟨w.heap.size + 1 + 1, 4, none⟩ (.int .i64 u.mark))).frozen? ⟨w.heap.size + 1 + 1, 5, none⟩ = false := frozen_of_row ((((((w1.setCell ⟨w.heap.size + 1 + 1, 0, none⟩ (.int .i64 u.start)).setCell ⟨w.heap.size + 1 + 1, 1, none⟩ (.int .i64 u.next)).setCell ⟨w.heap.size + 1 + 1, 2, none⟩ (.int .i64 u.roll)).setCell ⟨w.heap.size + 1 + 1, 3, none⟩ (.slice Y1 u.segs.length x1)).setCell ⟨w.heap.size + 1 + 1, 4, none⟩ (.int .i64 u.mark))) _ 5 _ _ (qo14.out)
  have qo15 : Hid ((((((((w1.setCell ⟨w.heap.size + 1 + 1, 0, none⟩ (.int .i64 u.start)).setCell ⟨w.heap.size + 1 + 1, 1, none⟩ (.int .i64 u.next)).setCell ⟨w.heap.size + 1 + 1, 2, none⟩ (.int .i64 u.roll)).setCell ⟨w.heap.size + 1 + 1, 3, none⟩ (.slice Y1 u.segs.length x1)).setCell ⟨w.heap.size + 1 + 1, 4, none⟩ (.int .i64 u.mark)).setCell ⟨w.heap.size + 1 + 1, 5, none⟩ (.bool u.up))).heap[w.heap.size + 1 + 1]? = some (.cells #[.int .i64 u.start, .int .i64 u.next, .int .i64 u.roll, .slice Y1 u.segs.length x1, .int .i64 u.mark, .bool u.up] 69 (0, 0))) := heap_setCell_same ((((((w1.setCell ⟨w.heap.size + 1 + 1, 0, none⟩ (.int .i64 u.start)).setCell ⟨w.heap.size + 1 + 1, 1, none⟩ (.int .i64 u.next)).setCell ⟨w.heap.size + 1 + 1, 2, none⟩ (.int .i64 u.roll)).setCell ⟨w.heap.size + 1 + 1, 3, none⟩ (.slice Y1 u.segs.length x1)).setCell ⟨w.heap.size + 1 + 1, 4, none⟩ (.int .i64 u.mark))) (w.heap.size + 1 + 1) 5 _ _ (.bool u.up) (qo14.out)
  have Uo1 := Seg.hid (qo15.out)
  have Ur1 := Seg.hid ((heap_setCell_other ((((((w1.setCell ⟨w.heap.size + 1 + 1, 0, none⟩ (.int .i64 u.start)).setCell ⟨w.heap.size + 1 + 1, 1, none⟩ (.int .i64 u.next)).setCell ⟨w.heap.size + 1 + 1, 2, none⟩ (.int .i64 u.roll)).setCell ⟨w.heap.size + 1 + 1, 3, none⟩ (.slice Y1 u.segs.length x1)).setCell ⟨w.heap.size + 1 + 1, 4, none⟩ (.int .i64 u.mark))) ⟨w.heap.size + 1 + 1, 5, none⟩ (w.heap.size + 1) (.bool u.up) (by simp)).trans ((heap_setCell_other (((((w1.setCell ⟨w.heap.size + 1 + 1, 0, none⟩ (.int .i64 u.start)).setCell ⟨w.heap.size + 1 + 1, 1, none⟩ (.int .i64 u.next)).setCell ⟨w.heap.size + 1 + 1, 2, none⟩ (.int .i64 u.roll)).setCell ⟨w.heap.size + 1 + 1, 3, none⟩ (.slice Y1 u.segs.length x1))) ⟨w.heap.size + 1 + 1, 4, none⟩ (w.heap.size + 1) (.int .i64 u.mark) (by simp)).trans ((heap_setCell_other ((((w1.setCell ⟨w.heap.size + 1 + 1, 0, none⟩ (.int .i64 u.start)).setCell ⟨w.heap.size + 1 + 1, 1, none⟩ (.int .i64 u.next)).setCell ⟨w.heap.size + 1 + 1, 2, none⟩ (.int .i64 u.roll))) ⟨w.heap.size + 1 + 1, 3, none⟩ (w.heap.size + 1) (.slice Y1 u.segs.length x1) (by simp)).trans ((heap_setCell_other (((w1.setCell ⟨w.heap.size + 1 + 1, 0, none⟩ (.int .i64 u.start)).setCell ⟨w.heap.size + 1 + 1, 1, none⟩ (.int .i64 u.next))) ⟨w.heap.size + 1 + 1, 2, none⟩ (w.heap.size + 1) (.int .i64 u.roll) (by simp)).trans ((heap_setCell_other ((w1.setCell ⟨w.heap.size + 1 + 1, 0, none⟩ (.int .i64 u.start))) ⟨w.heap.size + 1 + 1, 1, none⟩ (w.heap.size + 1) (.int .i64 u.next) (by simp)).trans ((heap_setCell_other (w1) ⟨w.heap.size + 1 + 1, 0, none⟩ (w.heap.size + 1) (.int .i64 u.start) (by simp)).trans (Tr1.out)))))))
  have Ua1 := Seg.hid ((heap_setCell_other ((((((w1.setCell ⟨w.heap.size + 1 + 1, 0, none⟩ (.int .i64 u.start)).setCell ⟨w.heap.size + 1 + 1, 1, none⟩ (.int .i64 u.next)).setCell ⟨w.heap.size + 1 + 1, 2, none⟩ (.int .i64 u.roll)).setCell ⟨w.heap.size + 1 + 1, 3, none⟩ (.slice Y1 u.segs.length x1)).setCell ⟨w.heap.size + 1 + 1, 4, none⟩ (.int .i64 u.mark))) ⟨w.heap.size + 1 + 1, 5, none⟩ w.heap.size (.bool u.up) (by simp; omega)).trans ((heap_setCell_other (((((w1.setCell ⟨w.heap.size + 1 + 1, 0, none⟩ (.int .i64 u.start)).setCell ⟨w.heap.size + 1 + 1, 1, none⟩ (.int .i64 u.next)).setCell ⟨w.heap.size + 1 + 1, 2, none⟩ (.int .i64 u.roll)).setCell ⟨w.heap.size + 1 + 1, 3, none⟩ (.slice Y1 u.segs.length x1))) ⟨w.heap.size + 1 + 1, 4, none⟩ w.heap.size (.int .i64 u.mark) (by simp; omega)).trans ((heap_setCell_other ((((w1.setCell ⟨w.heap.size + 1 + 1, 0, none⟩ (.int .i64 u.start)).setCell ⟨w.heap.size + 1 + 1, 1, none⟩ (.int .i64 u.next)).setCell ⟨w.heap.size + 1 + 1, 2, none⟩ (.int .i64 u.roll))) ⟨w.heap.size + 1 + 1, 3, none⟩ w.heap.size (.slice Y1 u.segs.length x1) (by simp; omega)).trans ((heap_setCell_other (((w1.setCell ⟨w.heap.size + 1 + 1, 0, none⟩ (.int .i64 u.start)).setCell ⟨w.heap.size + 1 + 1, 1, none⟩ (.int .i64 u.next))) ⟨w.heap.size + 1 + 1, 2, none⟩ w.heap.size (.int .i64 u.roll) (by simp; omega)).trans ((heap_setCell_other ((w1.setCell ⟨w.heap.size + 1 + 1, 0, none⟩ (.int .i64 u.start))) ⟨w.heap.size + 1 + 1, 1, none⟩ w.heap.size (.int .i64 u.next) (by simp; omega)).trans ((heap_setCell_other (w1) ⟨w.heap.size + 1 + 1, 0, none⟩ w.heap.size (.int .i64 u.start) (by simp; omega)).trans (Ta1.out)))))))
  have D1 : Hid (Below w.heap.size w ((((((w1.setCell ⟨w.heap.size + 1 + 1, 0, none⟩ (.int .i64 u.start)).setCell ⟨w.heap.size + 1 + 1, 1, none⟩ (.int .i64 u.next)).setCell ⟨w.heap.size + 1 + 1, 2, none⟩ (.int .i64 u.roll)).setCell ⟨w.heap.size + 1 + 1, 3, none⟩ (.slice Y1 u.segs.length x1)).setCell ⟨w.heap.size + 1 + 1, 4, none⟩ (.int .i64 u.mark)).setCell ⟨w.heap.size + 1 + 1, 5, none⟩ (.bool u.up))) := ((((((B1.out).setCell (p := ⟨w.heap.size + 1 + 1, 0, none⟩) (by simp; omega) (.int .i64 u.start)).setCell (p := ⟨w.heap.size + 1 + 1, 1, none⟩) (by simp; omega) (.int .i64 u.next)).setCell (p := ⟨w.heap.size + 1 + 1, 2, none⟩) (by simp; omega) (.int .i64 u.roll)).setCell (p := ⟨w.heap.size + 1 + 1, 3, none⟩) (by simp; omega) (.slice Y1 u.segs.length x1)).setCell (p := ⟨w.heap.size + 1 + 1, 4, none⟩) (by simp; omega) (.int .i64 u.mark)).setCell (p := ⟨w.heap.size + 1 + 1, 5, none⟩) (by simp; omega) (.bool u.up)
  have N11' : Hid (SgsOwn ((((((w1.setCell ⟨w.heap.size + 1 + 1, 0, none⟩ (.int .i64 u.start)).setCell ⟨w.heap.size + 1 + 1, 1, none⟩ (.int .i64 u.next)).setCell ⟨w.heap.size + 1 + 1, 2, none⟩ (.int .i64 u.roll)).setCell ⟨w.heap.size + 1 + 1, 3, none⟩ (.slice Y1 u.segs.length x1)).setCell ⟨w.heap.size + 1 + 1, 4, none⟩ (.int .i64 u.mark)).setCell ⟨w.heap.size + 1 + 1, 5, none⟩ (.bool u.up)) (seg (w.heap.size + 3) w1.heap.size) (.slice Y1 u.segs.length x1) u.segs) := LOwn.keep keepsOSg N11.out (by simp) (fun g hg => by have := hg.1; rw [heap_setCell_other _ _ _ _ (by show _ ≠ w.heap.size + 1 + 1; omega), heap_setCell_other _ _ _ _ (by show _ ≠ w.heap.size + 1 + 1; omega), heap_setCell_other _ _ _ _ (by show _ ≠ w.heap.size + 1 + 1; omega), heap_setCell_other _ _ _ _ (by show _ ≠ w.heap.size + 1 + 1; omega), heap_setCell_other _ _ _ _ (by show _ ≠ w.heap.size + 1 + 1; omega), heap_setCell_other _ _ _ _ (by show _ ≠ w.heap.size + 1 + 1; omega)])
  obtain ⟨fx, hfx⟩ : ∃ fx : Nat → Value, fx = (fun q => if q = 0 then .int .i64 u.start else if q = 1 then .int .i64 u.next else if q = 2 then .int .i64 u.roll else if q = 3 then .slice Y1 u.segs.length x1 else if q = 4 then .int .i64 u.mark else .bool u.up) := ⟨_, rfl⟩
  have HX := Seg.hid hfx
  have Uz : Hid (((((((w1.setCell ⟨w.heap.size + 1 + 1, 0, none⟩ (.int .i64 u.start)).setCell ⟨w.heap.size + 1 + 1, 1, none⟩ (.int .i64 u.next)).setCell ⟨w.heap.size + 1 + 1, 2, none⟩ (.int .i64 u.roll)).setCell ⟨w.heap.size + 1 + 1, 3, none⟩ (.slice Y1 u.segs.length x1)).setCell ⟨w.heap.size + 1 + 1, 4, none⟩ (.int .i64 u.mark)).setCell ⟨w.heap.size + 1 + 1, 5, none⟩ (.bool u.up)).heap[w.heap.size + 1 + 1]? = some (.cells (arrRpl fx) 69 (0, 0))) := by
    show _ = _
    rw [hfx]
    exact Uo1.out
  clear hfx
  have H5a := Cells.there_of Ur1.out
  have H5 : Hid (((((((w1.setCell ⟨w.heap.size + 1 + 1, 0, none⟩ (.int .i64 u.start)).setCell ⟨w.heap.size + 1 + 1, 1, none⟩ (.int .i64 u.next)).setCell ⟨w.heap.size + 1 + 1, 2, none⟩ (.int .i64 u.roll)).setCell ⟨w.heap.size + 1 + 1, 3, none⟩ (.slice Y1 u.segs.length x1)).setCell ⟨w.heap.size + 1 + 1, 4, none⟩ (.int .i64 u.mark)).setCell ⟨w.heap.size + 1 + 1, 5, none⟩ (.bool u.up)).there (w.heap.size + 1) 0 (arrRpl fx).size) := H5a
  clear H5a
  have H4 := Seg.hid (Cells.whole (vs := arrRpl fx) Ur1.out rfl)
  have B9 := Seg.hid (Cells.below_setCells (g := w.heap.size + 1) (by omega) (arrRpl fx).toList 0 _ _ D1.out)
  have ZS : (((((((w1.setCell ⟨w.heap.size + 1 + 1, 0, none⟩ (.int .i64 u.start)).setCell ⟨w.heap.size + 1 + 1, 1, none⟩ (.int .i64 u.next)).setCell ⟨w.heap.size + 1 + 1, 2, none⟩ (.int .i64 u.roll)).setCell ⟨w.heap.size + 1 + 1, 3, none⟩ (.slice Y1 u.segs.length x1)).setCell ⟨w.heap.size + 1 + 1, 4, none⟩ (.int .i64 u.mark)).setCell ⟨w.heap.size + 1 + 1, 5, none⟩ (.bool u.up)).setCells (w.heap.size + 1) 0 (arrRpl fx).toList).heap.size = w1.heap.size := by rw [Cells.size_setCells]; simp
  have F1 : Hid (SgsOwn (((((((w1.setCell ⟨w.heap.size + 1 + 1, 0, none⟩ (.int .i64 u.start)).setCell ⟨w.heap.size + 1 + 1, 1, none⟩ (.int .i64 u.next)).setCell ⟨w.heap.size + 1 + 1, 2, none⟩ (.int .i64 u.roll)).setCell ⟨w.heap.size + 1 + 1, 3, none⟩ (.slice Y1 u.segs.length x1)).setCell ⟨w.heap.size + 1 + 1, 4, none⟩ (.int .i64 u.mark)).setCell ⟨w.heap.size + 1 + 1, 5, none⟩ (.bool u.up)).setCells (w.heap.size + 1) 0 (arrRpl fx).toList) (seg (w.heap.size + 3) w1.heap.size) (fx 3) u.segs) := by
    show SgsOwn _ _ _ _
    rw [show fx 3 = .slice Y1 u.segs.length x1 by rw [HX.out]; rfl]
    refine LOwn.keep keepsOSg N11'.out (by rw [Cells.size_setCells]; exact Nat.le_refl _) (fun g hg => ?_)
    have := hg.1
    rw [Cells.heap_setCells_other _ _ (by omega)]
  obtain ⟨Q, hQ⟩ : ∃ Q : Nat → Nat → Prop, Q = (fun i => if i = 3 then (seg (w.heap.size + 3) w1.heap.size) else fun _ => False) := ⟨_, rfl⟩
  have hq1 : Q 3 = (seg (w.heap.size + 3) w1.heap.size) := by rw [hQ]; rfl
  have hq0 : ∀ i y, i ≠ 3 → ¬ Q i y := by
    intro i y n1 hy
    rw [hQ] at hy
    simp only [if_neg n1] at hy
  clear hQ
  have EX : Hid (EORpl (((((((w1.setCell ⟨w.heap.size + 1 + 1, 0, none⟩ (.int .i64 u.start)).setCell ⟨w.heap.size + 1 + 1, 1, none⟩ (.int .i64 u.next)).setCell ⟨w.heap.size + 1 + 1, 2, none⟩ (.int .i64 u.roll)).setCell ⟨w.heap.size + 1 + 1, 3, none⟩ (.slice Y1 u.segs.length x1)).setCell ⟨w.heap.size + 1 + 1, 4, none⟩ (.int .i64 u.mark)).setCell ⟨w.heap.size + 1 + 1, 5, none⟩ (.bool u.up)).setCells (w.heap.size + 1) 0 (arrRpl fx).toList) (seg w.heap.size (((((((w1.setCell ⟨w.heap.size + 1 + 1, 0, none⟩ (.int .i64 u.start)).setCell ⟨w.heap.size + 1 + 1, 1, none⟩ (.int .i64 u.next)).setCell ⟨w.heap.size + 1 + 1, 2, none⟩ (.int .i64 u.roll)).setCell ⟨w.heap.size + 1 + 1, 3, none⟩ (.slice Y1 u.segs.length x1)).setCell ⟨w.heap.size + 1 + 1, 4, none⟩ (.int .i64 u.mark)).setCell ⟨w.heap.size + 1 + 1, 5, none⟩ (.bool u.up)).setCells (w.heap.size + 1) 0 (arrRpl fx).toList).heap.size) fx u) := by
    refine ⟨⟨by rw [HX.out]; rfl, by rw [HX.out]; rfl, by rw [HX.out]; rfl, by rw [HX.out]; rfl, by rw [HX.out]; rfl⟩, Q, ?_, ?_, ?_⟩
    · intro i y hy
      by_cases e1 : i = 3
      · subst e1; rw [hq1] at hy
        exact ⟨by have := hy.1; omega, by rw [ZS]; have := hy.2; omega⟩
      exact absurd hy (hq0 i y e1)
    · intro i j hij y hi hj
      by_cases e1 : i = 3
      · subst e1; rw [hq1] at hi
        by_cases f1 : j = 3
        · subst f1
          exact absurd rfl hij
        exact absurd hj (hq0 j y f1)
      exact absurd hi (hq0 i y e1)
    · rw [hq1]; exact F1.out
  clear hq0 hq1
  have ON := Seg.hid (oneRpl (atORpl _ _ _ _ EX.out))
  clear Ta1 Tr1 To1 Ua1 M1 ZS
  go_upto_region 5 with fail
  clear po10 pf10 po11 pf11 po12 pf12 po13 pf13 po14 pf14 po15 pf15
  generalize ((((((w1.setCell ⟨w.heap.size + 1 + 1, 0, none⟩ (.int .i64 u.start)).setCell ⟨w.heap.size + 1 + 1, 1, none⟩ (.int .i64 u.next)).setCell ⟨w.heap.size + 1 + 1, 2, none⟩ (.int .i64 u.roll)).setCell ⟨w.heap.size + 1 + 1, 3, none⟩ (.slice Y1 u.segs.length x1)).setCell ⟨w.heap.size + 1 + 1, 4, none⟩ (.int .i64 u.mark)).setCell ⟨w.heap.size + 1 + 1, 5, none⟩ (.bool u.up)) = wz at *
  go_wp2_with (first | (refine wpList_load_row rfl 69 _ rfl (w.heap.size + 1 + 1) rfl _ _ _ _ Uz.out Try.underlying69 rfl infoRpl ?_) | (refine wpList_store_mid rfl 69 _ _ rfl (w.heap.size + 1) 0 (arrRpl fx) rfl rfl H5.out infoRpl ON.out ?_))
  exact bodyPost_ret (v := .agg (arrRpl fx)) (results_cell_row rfl _ _ (w.heap.size + 1) _ _ _ _ rfl H4.out Try.underlying69 rfl infoRpl) rfl ⟨_, rfl, ⟨fx, rfl, EX.out⟩, B9.out⟩
set_option maxHeartbeats 800000 in
theorem toReplicaS_ocore (g o n c : Nat) (us : List Rpl) (F0 : Nat → Nat → Value) (w : World) (S : Nat → Prop) (hn : n ≤ 1048576) (hc : n ≤ c) (hg : g < w.heap.size) (hS : ∀ g, S g → g < w.heap.size)
    (hf : ∀ i, i < n → szRpl (us.getD i default) ≤ 1048576) (he : ∀ i, i < n → ERpl w S (F0 i) (us.getD i default))
    (ha : ∀ i, i < n → ∀ j, j < 6 → w.cell? ⟨g, o + i * 6 + j, none⟩ = some (F0 i j)) :
    Calls Try.prog 39 #[.slice (some ⟨g, o, none⟩) n c] w fun e w' => ∃ F P, e = .returned (.slice (some ⟨w.heap.size, 0, none⟩) n n) ∧ LPart 69 6 EORpl w w' us n n F P := by
  obtain ⟨i0, hi, hz0, hz1, hz2⟩ := info_parts infoZRpl
  have HA := Seg.hid ha; have HK := Seg.hid hf; have HH := Seg.hid he
  clear ha hf he
  go_enter Try.func39, Try.ntmps39
  go_wp2_with (at_make; refine wpList_make_full _ rfl _ _ 42 rfl w.heap.size 69 i0 _ 6 Try.underlying42 hi hz0 hz1 .i64 .i64 _ _ n rfl rfl rfl rfl (by rw [hz2]; omega) (by unfold maxLen; omega) (Nat.le_refl _) ?_; intro w1 hown hgr)
  have hb1 := (Below.refl w.heap.size w).grown hgr (Nat.le_refl _) (fun k hk => by cases hk)
  have HM := Seg.hid (Mine.of_made hown hown.1)
  have HB := Seg.hid hb1
  clear hown hgr hb1 hi hz0 hz1 hz2
  go_loopw [4] (fun i wr => ∃ (j : Nat) (F : Nat → Value) (P : Nat → Nat → Prop), j ≤ n ∧ i = .int .i64 j ∧ LPart 69 6 EORpl w wr us n j F P) (fun i _ => n - (intOf i).toNat)
  case atStart => exact ⟨0, _, fun _ _ => False, Nat.zero_le _, rfl, HM.out, HB.out, fun i hi => absurd hi (by omega), fun i hi => absurd hi (by omega), fun i k hi => absurd hi (by omega)⟩
  case round =>
    clear HM HB
    obtain ⟨j, F, P, hj, rfl, HR⟩ := hrel
    by_cases hlt : j < n
    · have CL := cells_later HA.out HR.bel hg
      have c0 : wr.cell? ⟨g, o + j * 6, none⟩ = some (F0 j 0) := CL j ‹j < n› 0 (by omega)
      have c1 : wr.cell? ⟨g, o + j * 6 + 1, none⟩ = some (F0 j 1) := CL j ‹j < n› 1 (by omega)
      have c2 : wr.cell? ⟨g, o + j * 6 + 2, none⟩ = some (F0 j 2) := CL j ‹j < n› 2 (by omega)
      have c3 : wr.cell? ⟨g, o + j * 6 + 3, none⟩ = some (F0 j 3) := CL j ‹j < n› 3 (by omega)
      have c4 : wr.cell? ⟨g, o + j * 6 + 4, none⟩ = some (F0 j 4) := CL j ‹j < n› 4 (by omega)
      have c5 : wr.cell? ⟨g, o + j * 6 + 5, none⟩ = some (F0 j 5) := CL j ‹j < n› 5 (by omega)
      clear CL
      have RA : Hid (RplAt wr S (.agg (arrRpl (F0 j))) (us.getD j default)) := ⟨_, rfl, keepsRpl _ _ _ _ _ _ (HH.out j hlt) (fun g hg => HR.bel.block g (hS g hg)) (fun _ _ => rfl)⟩
      have FW := Seg.hid (HK.out j hlt)
      have hbr : Hid (∀ g, S g → g < wr.heap.size) := fun g hg => Nat.lt_of_lt_of_le (hS g hg) HR.bel.size
      have ST := Seg.hid (fun w1 vs hv b1 he => LPart.step keepsORpl (w1 := w1) HR vs hv b1 he)
      have HM := Seg.hid HR.mine
      have h0 : (0 : Int) ≤ (j : Int) := by omega
      have h1 : (j : Int) < (n : Int) := by omega
      clear HR
      generalize us.getD j default = uj at *
      go_wp2_with fail
      refine (toReplica_own _ uj wr S RA.out hbr.out FW.out).mono ?_
      rintro e w1 ⟨v1, rfl, ⟨f1, rfl, he1⟩, b1⟩
      have S1 := Seg.hid (ST.out w1 (arrRpl f1).toList rfl b1 (keepsORpl _ _ _ _ _ _ he1 (Nat.le_refl _) (fun _ _ => rfl) (fun q hq => by
        match q, hq with
        | 0, _ => rfl
        | 1, _ => rfl
        | 2, _ => rfl
        | 3, _ => rfl
        | 4, _ => rfl
        | 5, _ => rfl
        )))
      have M1 : Hid (w1.there w.heap.size (j * 6) (arrRpl f1).size) := Own.mine_there (o := j * 6) (m := 6) (HM.out.below b1 HM.out.lt) (by omega)
      have ON := Seg.hid (oneRpl (atORpl _ _ _ _ he1))
      clear b1 he1
      go_wp2_with (refine wpList_store_mid rfl 69 _ _ rfl w.heap.size (j * 6) (arrRpl f1) rfl rfl ?ht infoRpl ON.out ?_; case ht => exact M1.out)
      go_roundw
      case rel => exact ⟨j + 1, _, _, by omega, by go_num, S1.out⟩
      case measure => simp [intOf]; omega
    · have : j = n := by omega
      subst this
      go_wp2
      go_ret
      exact ⟨F, P, rfl, HR⟩
theorem toReplicaS_own (v : Value) (us : List Rpl) (w : World) (S : Nat → Prop) (hv : LAt 6 ERpl w S v us) (hS : ∀ g, S g → g < w.heap.size) (hf : szL szRpl us ≤ 1048576) :
    Calls Try.prog 39 #[v] w fun e w' => ∃ v', e = .returned v' ∧ RplsOwn w' (seg w.heap.size w'.heap.size) v' us ∧ Below w.heap.size w w' := by
  obtain ⟨hn, A, c, rfl, h⟩ := hv
  by_cases hz : us.length = 0
  · obtain rfl := List.length_eq_zero_iff.1 hz
    refine (toReplicaS_none A c w).mono fun e w' ⟨v', a1, ⟨A', c', a2⟩, a3⟩ => ⟨v', a1, ?_, a3⟩
    rw [a2]
    exact LOwn.nil _ _ _ _
  obtain ⟨g, o, F, rfl, hg, hc, hcell, hel⟩ := h.resolve_left hz
  exact (toReplicaS_ocore g o us.length c us F w S (szL_len _ hf) hc (hS g hg) hS (fun i hi => szL_one _ hf hi) hel hcell).mono fun e w' ⟨F, P, a1, a2⟩ => ⟨_, a1, a2.own (szL_len _ hf), a2.bel⟩
end Go.Proofs.Yticihnoekffelaa.Ow
namespace Go.Proofs.Yticihnoekffelaa.Ow
set_option maxRecDepth 8000
open Go.RowKit
open Recs
open Ls
set_option linter.unusedVariables false
set_option maxHeartbeats 400000 in
theorem toIntS_ocore (g o n c : Nat) (ns : List Int) (w : World) (hn : n ≤ 1048576) (hc : n ≤ c) (hg : g < w.heap.size) (hnl : ns.length = n)
    (ha : ∀ i, i < n → w.cell? ⟨g, o + i, none⟩ = some (.int .i64 (ns.getD i default))) :
    Calls Try.prog 40 #[.slice (some ⟨g, o, none⟩) n c] w fun e w' => ∃ v, e = .returned v ∧ IntsOwn w' (seg w.heap.size w'.heap.size) v ns ∧ Below w.heap.size w w' := by
  obtain ⟨i0, hi, hz0, hz1, hz2⟩ := info_parts infoI
  have HA := Seg.hid ha
  have HN := Seg.hid hnl
  clear ha hnl
  go_enter Try.func40, Try.ntmps40
  go_wp2_with (at_make; refine wpList_make_full _ rfl _ _ 36 rfl w.heap.size 3 i0 _ 1 Try.underlying36 hi hz0 hz1 .i64 .i64 _ _ n rfl rfl rfl rfl (by rw [hz2]; omega) (by unfold maxLen; omega) (Nat.le_refl _) ?_; intro w1 hown hgr)
  have hb1 := (Below.refl w.heap.size w).grown hgr (Nat.le_refl _) (fun k hk => by cases hk)
  have HM := Seg.hid (Mine.of_made hown hown.1)
  have HB := Seg.hid hb1
  clear hown hgr hb1 hi hz0 hz1 hz2
  go_loopw [4] (fun i wr => ∃ (j : Nat) (F : Nat → Value), j ≤ n ∧ i = .int .i64 j ∧ Hid (Mine wr 3 1 w.heap.size n F ∧ Below w.heap.size w wr ∧ ∀ i, i < j → F i = .int .i64 (ns.getD i default))) (fun i _ => n - (intOf i).toNat)
  case atStart => exact ⟨0, _, Nat.zero_le _, rfl, HM.out, HB.out, fun i hi => absurd hi (by omega)⟩
  case round =>
    clear HM HB
    obtain ⟨j, F, hj, rfl, HR⟩ := hrel
    by_cases hlt : j < n
    · have c1 : wr.cell? ⟨g, o + j, none⟩ = some (.int .i64 (ns.getD j default)) := by rw [HR.out.2.1.cell (p := ⟨g, o + j, none⟩) hg]; exact HA.out j hlt
      have h0 : (0 : Int) ≤ (j : Int) := by omega
      have h1 : (j : Int) < (n : Int) := by omega
      have d1 := HR.out.1.cell j (by omega)
      have f1 := HR.out.1.frozen j
      have M2 := Seg.hid (HR.out.1.set j (.int .i64 (ns.getD j default)))
      have B2 := Seg.hid (HR.out.2.1.setCell (p := ⟨w.heap.size, j, none⟩) (Nat.le_refl _) (.int .i64 (ns.getD j default)))
      have R2 : Hid (∀ i, i < j + 1 → (fun i => if i = j then (.int .i64 (ns.getD j default)) else F i) i = Value.int .i64 (ns.getD i default)) := fun i hi => by
        by_cases he : i = j
        · subst he; simp
        · simp [he]; simpa using HR.out.2.2 i (by omega)
      generalize ns.getD j default = nj at *
      go_wp2
      go_roundw
      case rel => exact ⟨j + 1, _, by omega, by go_num, M2.out, B2.out, R2.out⟩
      case measure => simp [intOf]; omega
    · have : j = n := by omega
      subst this
      go_wp2
      go_ret
      refine ⟨.slice (some ⟨w.heap.size, 0, none⟩) j j, rfl, ⟨by rw [HN.out]; omega, _, _, by rw [HN.out], .inr ⟨w.heap.size, F, fun _ _ => False, rfl, ⟨Nat.le_refl _, HR.out.1.lt⟩, fun i hi x hx => hx.elim, ?_, rfl, fun i hi => ?_, fun i hi x hx => hx.elim, fun i k hi hk hik x hx => hx.elim⟩⟩, HR.out.2.1⟩
      · rw [HN.out]; exact HR.out.1
      · rw [HN.out] at hi
        show F (i * 1 + 0) = _
        rw [Nat.mul_one, Nat.add_zero]
        exact HR.out.2.2 i hi
theorem toIntS_own (v : Value) (ns : List Int) (w : World) (S : Nat → Prop) (hv : IntsAt w S v ns) (hS : ∀ g, S g → g < w.heap.size) (hl : ns.length ≤ 1048576) :
    Calls Try.prog 40 #[v] w fun e w' => ∃ v', e = .returned v' ∧ IntsOwn w' (seg w.heap.size w'.heap.size) v' ns ∧ Below w.heap.size w w' := by
  obtain ⟨hn, A, c, rfl, h⟩ := hv
  by_cases hz : ns.length = 0
  · obtain rfl := List.length_eq_zero_iff.1 hz
    refine (toIntS_none A c w).mono fun e w' ⟨v', a1, ⟨A', c', a2⟩, a3⟩ => ⟨v', a1, ?_, a3⟩
    rw [a2]
    exact LOwn.nil _ _ _ _
  obtain ⟨g, o, F, rfl, hg, hc, hcell, hel⟩ := h.resolve_left hz
  exact toIntS_ocore g o ns.length c ns w hl hc (hS g hg) rfl (int_cell hcell hel)
end Go.Proofs.Yticihnoekffelaa.Ow
namespace Go.Proofs.Yticihnoekffelaa.Ow
set_option maxRecDepth 8000
open Go.RowKit
open Recs
open Ls
open SegW (Sg)
set_option linter.unusedVariables false
set_option maxHeartbeats 1600000 in
theorem toPart_own (v : Value) (u : Prt) (w : World) (S : Nat → Prop) (hv : PrtAt w S v u) (hS : ∀ g, S g → g < w.heap.size) (hf : szPrt u ≤ 1048576) :
    Calls Try.prog 14 #[v] w fun e w' => ∃ v', e = .returned v' ∧ PrtOwn w' (seg w.heap.size w'.heap.size) v' u ∧ Below w.heap.size w w' := by
  obtain ⟨f, rfl, y0, y1, y2, y3, y4, y5⟩ := hv
  try simp only [arrPrt]
  obtain ⟨A0, c0, g0⟩ := y0.form
  rw [g0] at y0 ⊢
  have H0 := Seg.hid y0
  clear y0 g0
  rw [show f 1 = _ from y1]
  clear y1
  rw [show f 2 = _ from y2]
  clear y2
  obtain ⟨A3, c3, g3⟩ := y3.form
  rw [g3] at y3 ⊢
  have H3 := Seg.hid y3
  clear y3 g3
  obtain ⟨A4, c4, g4⟩ := y4.form
  rw [g4] at y4 ⊢
  have H4 := Seg.hid y4
  clear y4 g4
  rw [show f 5 = _ from y5]
  clear y5
  unfold szPrt at hf
  go_enter Try.func14, Try.ntmps14
  go_wp2_with fail
  refine (toReplicaS_own _ u.reps (((w.alloc _).alloc _).alloc _) S (H0.out.below keepsRpl (below3 w _ _ _) hS) (fun g hg => by rw [hsz, hsz, hsz]; have := hS g hg; omega) (by omega)).mono ?_
  rintro e w1 ⟨v1, rfl, l1, b1⟩
  have B1 := Seg.hid (chain (below3 w _ _ _) b1)
  have Ta1 : Hid (w1.heap[w.heap.size]? = some (.cells #[.slice A0 u.reps.length c0, .int .i64 u.leader, .int .i64 u.epoch, .slice A3 u.insync.length c3, .slice A4 u.known.length c4, .int .i64 u.least] 38 (0, 0))) := (b1.block w.heap.size (by rw [hsz, hsz, hsz]; omega)).trans (at3z w _ _ _)
  have Tr1 : Hid (w1.heap[w.heap.size + 1]? = some (.cells #[.slice none 0 0, .int .i64 0, .int .i64 0, .slice none 0 0, .slice none 0 0, .int .i64 0] 44 (0, 0))) := (b1.block (w.heap.size + 1) (by rw [hsz, hsz, hsz]; omega)).trans (at3 w _ _ _)
  have To1 : Hid (w1.heap[w.heap.size + 1 + 1]? = some (.cells #[.slice none 0 0, .int .i64 0, .int .i64 0, .slice none 0 0, .slice none 0 0, .int .i64 0] 44 (0, 0))) := (b1.block (w.heap.size + 1 + 1) (by rw [hsz, hsz, hsz]; omega)).trans (Cells.at3' w _ _ _)
  have s1 : w.heap.size + 3 ≤ w1.heap.size := by have := b1.size; rw [hsz, hsz, hsz] at this; omega
  have M1 : Hid (RplsOwn w1 (seg (w.heap.size + 3) w1.heap.size) v1 u.reps) := by
    rw [hsz, hsz, hsz] at l1
    exact l1
  obtain ⟨Y1, x1, r1⟩ := LOwn.form M1.out
  subst r1
  clear b1 l1
  have N11 := M1
  have pa11 : w1.cell? ⟨w.heap.size, 1, none⟩ = some (.int .i64 u.leader) := cell_of_row w1 _ 1 _ _ (0, 0) Ta1.out
  have pa12 : w1.cell? ⟨w.heap.size, 2, none⟩ = some (.int .i64 u.epoch) := cell_of_row w1 _ 2 _ _ (0, 0) Ta1.out
  have pa13 : w1.cell? ⟨w.heap.size, 3, none⟩ = some (.slice A3 u.insync.length c3) := cell_of_row w1 _ 3 _ _ (0, 0) Ta1.out
  have po10 : (w1).cell? ⟨w.heap.size + 1 + 1, 0, none⟩ = some (.slice none 0 0) := cell_of_row (w1) _ 0 _ _ (0, 0) (To1.out)
  have pf10 : (w1).frozen? ⟨w.heap.size + 1 + 1, 0, none⟩ = false := frozen_of_row (w1) _ 0 _ _ (To1.out)
  have qo10 : Hid (((w1.setCell ⟨w.heap.size + 1 + 1, 0, none⟩ (.slice Y1 u.reps.length x1))).heap[w.heap.size + 1 + 1]? = some (.cells #[.slice Y1 u.reps.length x1, .int .i64 0, .int .i64 0, .slice none 0 0, .slice none 0 0, .int .i64 0] 44 (0, 0))) := heap_setCell_same (w1) (w.heap.size + 1 + 1) 0 _ _ (.slice Y1 u.reps.length x1) (To1.out)
  have po11 : ((w1.setCell ⟨w.heap.size + 1 + 1, 0, none⟩ (.slice Y1 u.reps.length x1))).cell? ⟨w.heap.size + 1 + 1, 1, none⟩ = some (.int .i64 0) := cell_of_row ((w1.setCell ⟨w.heap.size + 1 + 1, 0, none⟩ (.slice Y1 u.reps.length x1))) _ 1 _ _ (0, 0) (qo10.out)
  have pf11 : ((w1.setCell ⟨w.heap.size + 1 + 1, 0, none⟩ (.slice Y1 u.reps.length x1))).frozen? ⟨w.heap.size + 1 + 1, 1, none⟩ = false := frozen_of_row ((w1.setCell ⟨w.heap.size + 1 + 1, 0, none⟩ (.slice Y1 u.reps.length x1))) _ 1 _ _ (qo10.out)
  have qo11 : Hid ((((w1.setCell ⟨w.heap.size + 1 + 1, 0, none⟩ (.slice Y1 u.reps.length x1)).setCell ⟨w.heap.size + 1 + 1, 1, none⟩ (.int .i64 u.leader))).heap[w.heap.size + 1 + 1]? = some (.cells #[.slice Y1 u.reps.length x1, .int .i64 u.leader, .int .i64 0, .slice none 0 0, .slice none 0 0, .int .i64 0] 44 (0, 0))) := heap_setCell_same ((w1.setCell ⟨w.heap.size + 1 + 1, 0, none⟩ (.slice Y1 u.reps.length x1))) (w.heap.size + 1 + 1) 1 _ _ (.int .i64 u.leader) (qo10.out)
  have po12 : (((w1.setCell ⟨w.heap.size + 1 + 1, 0, none⟩ (.slice Y1 u.reps.length x1)).setCell ⟨w.heap.size + 1 + 1, 1, none⟩ (.int .i64 u.leader))).cell? ⟨w.heap.size + 1 + 1, 2, none⟩ = some (.int .i64 0) := cell_of_row (((w1.setCell ⟨w.heap.size + 1 + 1, 0, none⟩ (.slice Y1 u.reps.length x1)).setCell ⟨w.heap.size + 1 + 1, 1, none⟩ (.int .i64 u.leader))) _ 2 _ _ (0, 0) (qo11.out)
  have pf12 : (((w1.setCell ⟨w.heap.size + 1 + 1, 0, none⟩ (.slice Y1 u.reps.length x1)).setCell ⟨w.heap.size + 1 + 1, 1, none⟩ (.int .i64 u.leader))).frozen? ⟨w.heap.size + 1 + 1, 2, none⟩ = false := frozen_of_row (((w1.setCell ⟨w.heap.size + 1 + 1, 0, none⟩ (.slice Y1 u.reps.length x1)).setCell ⟨w.heap.size + 1 + 1, 1, none⟩ (.int .i64 u.leader))) _ 2 _ _ (qo11.out)
  have qo12 : Hid (((((w1.setCell ⟨w.heap.size + 1 + 1, 0, none⟩ (.slice Y1 u.reps.length x1)).setCell ⟨w.heap.size + 1 + 1, 1, none⟩ (.int .i64 u.leader)).setCell ⟨w.heap.size + 1 + 1, 2, none⟩ (.int .i64 u.epoch))).heap[w.heap.size + 1 + 1]? = some (.cells #[.slice Y1 u.reps.length x1, .int .i64 u.leader, .int .i64 u.epoch, .slice none 0 0, .slice none 0 0, .int .i64 0] 44 (0, 0))) := heap_setCell_same (((w1.setCell ⟨w.heap.size + 1 + 1, 0, none⟩ (.slice Y1 u.reps.length x1)).setCell ⟨w.heap.size + 1 + 1, 1, none⟩ (.int .i64 u.leader))) (w.heap.size + 1 + 1) 2 _ _ (.int .i64 u.epoch) (qo11.out)
  have Uo1 := Seg.hid (qo12.out)
  have Ur1 := Seg.hid ((heap_setCell_other (((w1.setCell ⟨w.heap.size + 1 + 1, 0, none⟩ (.slice Y1 u.reps.length x1)).setCell ⟨w.heap.size + 1 + 1, 1, none⟩ (.int .i64 u.leader))) ⟨w.heap.size + 1 + 1, 2, none⟩ (w.heap.size + 1) (.int .i64 u.epoch) (by simp)).trans ((heap_setCell_other ((w1.setCell ⟨w.heap.size + 1 + 1, 0, none⟩ (.slice Y1 u.reps.length x1))) ⟨w.heap.size + 1 + 1, 1, none⟩ (w.heap.size + 1) (.int .i64 u.leader) (by simp)).trans ((heap_setCell_other (w1) ⟨w.heap.size + 1 + 1, 0, none⟩ (w.heap.size + 1) (.slice Y1 u.reps.length x1) (by simp)).trans (Tr1.out))))
  have Ua1 := Seg.hid ((heap_setCell_other (((w1.setCell ⟨w.heap.size + 1 + 1, 0, none⟩ (.slice Y1 u.reps.length x1)).setCell ⟨w.heap.size + 1 + 1, 1, none⟩ (.int .i64 u.leader))) ⟨w.heap.size + 1 + 1, 2, none⟩ w.heap.size (.int .i64 u.epoch) (by simp; omega)).trans ((heap_setCell_other ((w1.setCell ⟨w.heap.size + 1 + 1, 0, none⟩ (.slice Y1 u.reps.length x1))) ⟨w.heap.size + 1 + 1, 1, none⟩ w.heap.size (.int .i64 u.leader) (by simp; omega)).trans ((heap_setCell_other (w1) ⟨w.heap.size + 1 + 1, 0, none⟩ w.heap.size (.slice Y1 u.reps.length x1) (by simp; omega)).trans (Ta1.out))))
  have D1 : Hid (Below w.heap.size w (((w1.setCell ⟨w.heap.size + 1 + 1, 0, none⟩ (.slice Y1 u.reps.length x1)).setCell ⟨w.heap.size + 1 + 1, 1, none⟩ (.int .i64 u.leader)).setCell ⟨w.heap.size + 1 + 1, 2, none⟩ (.int .i64 u.epoch))) := (((B1.out).setCell (p := ⟨w.heap.size + 1 + 1, 0, none⟩) (by simp; omega) (.slice Y1 u.reps.length x1)).setCell (p := ⟨w.heap.size + 1 + 1, 1, none⟩) (by simp; omega) (.int .i64 u.leader)).setCell (p := ⟨w.heap.size + 1 + 1, 2, none⟩) (by simp; omega) (.int .i64 u.epoch)
  have N11' : Hid (RplsOwn (((w1.setCell ⟨w.heap.size + 1 + 1, 0, none⟩ (.slice Y1 u.reps.length x1)).setCell ⟨w.heap.size + 1 + 1, 1, none⟩ (.int .i64 u.leader)).setCell ⟨w.heap.size + 1 + 1, 2, none⟩ (.int .i64 u.epoch)) (seg (w.heap.size + 3) w1.heap.size) (.slice Y1 u.reps.length x1) u.reps) := LOwn.keep keepsORpl N11.out (by simp) (fun g hg => by have := hg.1; rw [heap_setCell_other _ _ _ _ (by show _ ≠ w.heap.size + 1 + 1; omega), heap_setCell_other _ _ _ _ (by show _ ≠ w.heap.size + 1 + 1; omega), heap_setCell_other _ _ _ _ (by show _ ≠ w.heap.size + 1 + 1; omega)])
  go_wp2_with fail
  refine (toIntS_own _ u.insync (((w1.setCell ⟨w.heap.size + 1 + 1, 0, none⟩ (.slice Y1 u.reps.length x1)).setCell ⟨w.heap.size + 1 + 1, 1, none⟩ (.int .i64 u.leader)).setCell ⟨w.heap.size + 1 + 1, 2, none⟩ (.int .i64 u.epoch)) S (H3.out.below keepsI D1.out hS) (fun g hg => Nat.lt_of_lt_of_le (hS g hg) D1.out.size) (by omega)).mono ?_
  rintro e w2 ⟨v2, rfl, l2, b2⟩
  have B2 := Seg.hid (chain D1.out b2)
  have z2 : (((w1.setCell ⟨w.heap.size + 1 + 1, 0, none⟩ (.slice Y1 u.reps.length x1)).setCell ⟨w.heap.size + 1 + 1, 1, none⟩ (.int .i64 u.leader)).setCell ⟨w.heap.size + 1 + 1, 2, none⟩ (.int .i64 u.epoch)).heap.size = w1.heap.size := by simp
  have Ta2 := Seg.hid ((b2.block w.heap.size (by omega)).trans Ua1.out)
  have Tr2 := Seg.hid ((b2.block (w.heap.size + 1) (by omega)).trans Ur1.out)
  have To2 := Seg.hid ((b2.block (w.heap.size + 1 + 1) (by omega)).trans Uo1.out)
  have s2 : w1.heap.size ≤ w2.heap.size := by have := b2.size; omega
  have M2 : Hid (IntsOwn w2 (seg (w1.heap.size) w2.heap.size) v2 u.insync) := by
    rw [z2] at l2
    exact l2
  have N21 : Hid (RplsOwn w2 (seg (w.heap.size + 3) w1.heap.size) (.slice Y1 u.reps.length x1) u.reps) := LOwn.keep keepsORpl N11'.out b2.size (fun g hg => b2.block g (by have := hg.2; omega))
  clear z2
  obtain ⟨Y2, x2, r2⟩ := LOwn.form M2.out
  subst r2
  clear b2 l2
  have N22 := M2
  have pa24 : w2.cell? ⟨w.heap.size, 4, none⟩ = some (.slice A4 u.known.length c4) := cell_of_row w2 _ 4 _ _ (0, 0) Ta2.out
  have po23 : (w2).cell? ⟨w.heap.size + 1 + 1, 3, none⟩ = some (.slice none 0 0) := cell_of_row (w2) _ 3 _ _ (0, 0) (To2.out)
  have pf23 : (w2).frozen? ⟨w.heap.size + 1 + 1, 3, none⟩ = false := frozen_of_row (w2) _ 3 _ _ (To2.out)
  have qo23 : Hid (((w2.setCell ⟨w.heap.size + 1 + 1, 3, none⟩ (.slice Y2 u.insync.length x2))).heap[w.heap.size + 1 + 1]? = some (.cells #[.slice Y1 u.reps.length x1, .int .i64 u.leader, .int .i64 u.epoch, .slice Y2 u.insync.length x2, .slice none 0 0, .int .i64 0] 44 (0, 0))) := heap_setCell_same (w2) (w.heap.size + 1 + 1) 3 _ _ (.slice Y2 u.insync.length x2) (To2.out)
  have Uo2 := Seg.hid (qo23.out)
  have Ur2 := Seg.hid ((heap_setCell_other (w2) ⟨w.heap.size + 1 + 1, 3, none⟩ (w.heap.size + 1) (.slice Y2 u.insync.length x2) (by simp)).trans (Tr2.out))
  have Ua2 := Seg.hid ((heap_setCell_other (w2) ⟨w.heap.size + 1 + 1, 3, none⟩ w.heap.size (.slice Y2 u.insync.length x2) (by simp; omega)).trans (Ta2.out))
  have D2 : Hid (Below w.heap.size w (w2.setCell ⟨w.heap.size + 1 + 1, 3, none⟩ (.slice Y2 u.insync.length x2))) := (B2.out).setCell (p := ⟨w.heap.size + 1 + 1, 3, none⟩) (by simp; omega) (.slice Y2 u.insync.length x2)
  have N21' : Hid (RplsOwn (w2.setCell ⟨w.heap.size + 1 + 1, 3, none⟩ (.slice Y2 u.insync.length x2)) (seg (w.heap.size + 3) w1.heap.size) (.slice Y1 u.reps.length x1) u.reps) := LOwn.keep keepsORpl N21.out (by simp) (fun g hg => by have := hg.1; rw [heap_setCell_other _ _ _ _ (by show _ ≠ w.heap.size + 1 + 1; omega)])
  have N22' : Hid (IntsOwn (w2.setCell ⟨w.heap.size + 1 + 1, 3, none⟩ (.slice Y2 u.insync.length x2)) (seg (w1.heap.size) w2.heap.size) (.slice Y2 u.insync.length x2) u.insync) := LOwn.keep keepsOI N22.out (by simp) (fun g hg => by have := hg.1; rw [heap_setCell_other _ _ _ _ (by show _ ≠ w.heap.size + 1 + 1; omega)])
  go_wp2_with fail
  refine (toIntS_own _ u.known (w2.setCell ⟨w.heap.size + 1 + 1, 3, none⟩ (.slice Y2 u.insync.length x2)) S (H4.out.below keepsI D2.out hS) (fun g hg => Nat.lt_of_lt_of_le (hS g hg) D2.out.size) (by omega)).mono ?_
  rintro e w3 ⟨v3, rfl, l3, b3⟩
  have B3 := Seg.hid (chain D2.out b3)
  have z3 : (w2.setCell ⟨w.heap.size + 1 + 1, 3, none⟩ (.slice Y2 u.insync.length x2)).heap.size = w2.heap.size := by simp
  have Ta3 := Seg.hid ((b3.block w.heap.size (by omega)).trans Ua2.out)
  have Tr3 := Seg.hid ((b3.block (w.heap.size + 1) (by omega)).trans Ur2.out)
  have To3 := Seg.hid ((b3.block (w.heap.size + 1 + 1) (by omega)).trans Uo2.out)
  have s3 : w2.heap.size ≤ w3.heap.size := by have := b3.size; omega
  have M3 : Hid (IntsOwn w3 (seg (w2.heap.size) w3.heap.size) v3 u.known) := by
    rw [z3] at l3
    exact l3
  have N31 : Hid (RplsOwn w3 (seg (w.heap.size + 3) w1.heap.size) (.slice Y1 u.reps.length x1) u.reps) := LOwn.keep keepsORpl N21'.out b3.size (fun g hg => b3.block g (by have := hg.2; omega))
  have N32 : Hid (IntsOwn w3 (seg (w1.heap.size) w2.heap.size) (.slice Y2 u.insync.length x2) u.insync) := LOwn.keep keepsOI N22'.out b3.size (fun g hg => b3.block g (by have := hg.2; omega))
  clear z3
  obtain ⟨Y3, x3, r3⟩ := LOwn.form M3.out
  subst r3
  clear b3 l3
  have N33 := M3
  have pa35 : w3.cell? ⟨w.heap.size, 5, none⟩ = some (.int .i64 u.least) := cell_of_row w3 _ 5 _ _ (0, 0) Ta3.out
  have po34 : (w3).cell? ⟨w.heap.size + 1 + 1, 4, none⟩ = some (.slice none 0 0) := cell_of_row (w3) _ 4 _ _ (0, 0) (To3.out)
  have pf34 : (w3).frozen? ⟨w.heap.size + 1 + 1, 4, none⟩ = false := frozen_of_row (w3) _ 4 _ _ (To3.out)
  have qo34 : Hid (((w3.setCell ⟨w.heap.size + 1 + 1, 4, none⟩ (.slice Y3 u.known.length x3))).heap[w.heap.size + 1 + 1]? = some (.cells #[.slice Y1 u.reps.length x1, .int .i64 u.leader, .int .i64 u.epoch, .slice Y2 u.insync.length x2, .slice Y3 u.known.length x3, .int .i64 0] 44 (0, 0))) := heap_setCell_same (w3) (w.heap.size + 1 + 1) 4 _ _ (.slice Y3 u.known.length x3) (To3.out)
  have po35 : ((w3.setCell ⟨w.heap.size + 1 + 1, 4, none⟩ (.slice Y3 u.known.length x3))).cell? ⟨w.heap.size + 1 + 1, 5, none⟩ = some (.int .i64 0) := cell_of_row ((w3.setCell ⟨w.heap.size + 1 + 1, 4, none⟩ (.slice Y3 u.known.length x3))) _ 5 _ _ (0, 0) (qo34.out)
  have pf35 : ((w3.setCell ⟨w.heap.size + 1 + 1, 4, none⟩ (.slice Y3 u.known.length x3))).frozen? ⟨w.heap.size + 1 + 1, 5, none⟩ = false := frozen_of_row ((w3.setCell ⟨w.heap.size + 1 + 1, 4, none⟩ (.slice Y3 u.known.length x3))) _ 5 _ _ (qo34.out)
  have qo35 : Hid ((((w3.setCell ⟨w.heap.size + 1 + 1, 4, none⟩ (.slice Y3 u.known.length x3)).setCell ⟨w.heap.size + 1 + 1, 5, none⟩ (.int .i64 u.least))).heap[w.heap.size + 1 + 1]? = some (.cells #[.slice Y1 u.reps.length x1, .int .i64 u.leader, .int .i64 u.epoch, .slice Y2 u.insync.length x2, .slice Y3 u.known.length x3, .int .i64 u.least] 44 (0, 0))) := heap_setCell_same ((w3.setCell ⟨w.heap.size + 1 + 1, 4, none⟩ (.slice Y3 u.known.length x3))) (w.heap.size + 1 + 1) 5 _ _ (.int .i64 u.least) (qo34.out)
  have Uo3 := Seg.hid (qo35.out)
  have Ur3 := Seg.hid ((heap_setCell_other ((w3.setCell ⟨w.heap.size + 1 + 1, 4, none⟩ (.slice Y3 u.known.length x3))) ⟨w.heap.size + 1 + 1, 5, none⟩ (w.heap.size + 1) (.int .i64 u.least) (by simp)).trans ((heap_setCell_other (w3) ⟨w.heap.size + 1 + 1, 4, none⟩ (w.heap.size + 1) (.slice Y3 u.known.length x3) (by simp)).trans (Tr3.out)))
  have Ua3 := Seg.hid ((heap_setCell_other ((w3.setCell ⟨w.heap.size + 1 + 1, 4, none⟩ (.slice Y3 u.known.length x3))) ⟨w.heap.size + 1 + 1, 5, none⟩ w.heap.size (.int .i64 u.least) (by simp; omega)).trans ((heap_setCell_other (w3) ⟨w.heap.size + 1 + 1, 4, none⟩ w.heap.size (.slice Y3 u.known.length x3) (by simp; omega)).trans (Ta3.out)))
  have D3 : Hid (Below w.heap.size w ((w3.setCell ⟨w.heap.size + 1 + 1, 4, none⟩ (.slice Y3 u.known.length x3)).setCell ⟨w.heap.size + 1 + 1, 5, none⟩ (.int .i64 u.least))) := ((B3.out).setCell (p := ⟨w.heap.size + 1 + 1, 4, none⟩) (by simp; omega) (.slice Y3 u.known.length x3)).setCell (p := ⟨w.heap.size + 1 + 1, 5, none⟩) (by simp; omega) (.int .i64 u.least)
  have N31' : Hid (RplsOwn ((w3.setCell ⟨w.heap.size + 1 + 1, 4, none⟩ (.slice Y3 u.known.length x3)).setCell ⟨w.heap.size + 1 + 1, 5, none⟩ (.int .i64 u.least)) (seg (w.heap.size + 3) w1.heap.size) (.slice Y1 u.reps.length x1) u.reps) := LOwn.keep keepsORpl N31.out (by simp) (fun g hg => by have := hg.1; rw [heap_setCell_other _ _ _ _ (by show _ ≠ w.heap.size + 1 + 1; omega), heap_setCell_other _ _ _ _ (by show _ ≠ w.heap.size + 1 + 1; omega)])
  have N32' : Hid (IntsOwn ((w3.setCell ⟨w.heap.size + 1 + 1, 4, none⟩ (.slice Y3 u.known.length x3)).setCell ⟨w.heap.size + 1 + 1, 5, none⟩ (.int .i64 u.least)) (seg (w1.heap.size) w2.heap.size) (.slice Y2 u.insync.length x2) u.insync) := LOwn.keep keepsOI N32.out (by simp) (fun g hg => by have := hg.1; rw [heap_setCell_other _ _ _ _ (by show _ ≠ w.heap.size + 1 + 1; omega), heap_setCell_other _ _ _ _ (by show _ ≠ w.heap.size + 1 + 1; omega)])
  have N33' : Hid (IntsOwn ((w3.setCell ⟨w.heap.size + 1 + 1, 4, none⟩ (.slice Y3 u.known.length x3)).setCell ⟨w.heap.size + 1 + 1, 5, none⟩ (.int .i64 u.least)) (seg (w2.heap.size) w3.heap.size) (.slice Y3 u.known.length x3) u.known) := LOwn.keep keepsOI N33.out (by simp) (fun g hg => by have := hg.1; rw [heap_setCell_other _ _ _ _ (by show _ ≠ w.heap.size + 1 + 1; omega), heap_setCell_other _ _ _ _ (by show _ ≠ w.heap.size + 1 + 1; omega)])
  obtain ⟨fx, hfx⟩ : ∃ fx : Nat → Value, fx = (fun q => if q = 0 then .slice Y1 u.reps.length x1 else if q = 1 then .int .i64 u.leader else if q = 2 then .int .i64 u.epoch else if q = 3 then .slice Y2 u.insync.length x2 else if q = 4 then .slice Y3 u.known.length x3 else .int .i64 u.least) := ⟨_, rfl⟩
  have HX := Seg.hid hfx
  have Uz : Hid (((w3.setCell ⟨w.heap.size + 1 + 1, 4, none⟩ (.slice Y3 u.known.length x3)).setCell ⟨w.heap.size + 1 + 1, 5, none⟩ (.int .i64 u.least)).heap[w.heap.size + 1 + 1]? = some (.cells (arrPrt fx) 44 (0, 0))) := by
    show _ = _
    rw [hfx]
    exact Uo3.out
  clear hfx
  have H5a := Cells.there_of Ur3.out
  have H5 : Hid (((w3.setCell ⟨w.heap.size + 1 + 1, 4, none⟩ (.slice Y3 u.known.length x3)).setCell ⟨w.heap.size + 1 + 1, 5, none⟩ (.int .i64 u.least)).there (w.heap.size + 1) 0 (arrPrt fx).size) := H5a
  clear H5a
  have H4 := Seg.hid (Cells.whole (vs := arrPrt fx) Ur3.out rfl)
  have B9 := Seg.hid (Cells.below_setCells (g := w.heap.size + 1) (by omega) (arrPrt fx).toList 0 _ _ D3.out)
  have ZS : (((w3.setCell ⟨w.heap.size + 1 + 1, 4, none⟩ (.slice Y3 u.known.length x3)).setCell ⟨w.heap.size + 1 + 1, 5, none⟩ (.int .i64 u.least)).setCells (w.heap.size + 1) 0 (arrPrt fx).toList).heap.size = w3.heap.size := by rw [Cells.size_setCells]; simp
  have F1 : Hid (RplsOwn (((w3.setCell ⟨w.heap.size + 1 + 1, 4, none⟩ (.slice Y3 u.known.length x3)).setCell ⟨w.heap.size + 1 + 1, 5, none⟩ (.int .i64 u.least)).setCells (w.heap.size + 1) 0 (arrPrt fx).toList) (seg (w.heap.size + 3) w1.heap.size) (fx 0) u.reps) := by
    show RplsOwn _ _ _ _
    rw [show fx 0 = .slice Y1 u.reps.length x1 by rw [HX.out]; rfl]
    refine LOwn.keep keepsORpl N31'.out (by rw [Cells.size_setCells]; exact Nat.le_refl _) (fun g hg => ?_)
    have := hg.1
    rw [Cells.heap_setCells_other _ _ (by omega)]
  have F2 : Hid (IntsOwn (((w3.setCell ⟨w.heap.size + 1 + 1, 4, none⟩ (.slice Y3 u.known.length x3)).setCell ⟨w.heap.size + 1 + 1, 5, none⟩ (.int .i64 u.least)).setCells (w.heap.size + 1) 0 (arrPrt fx).toList) (seg (w1.heap.size) w2.heap.size) (fx 3) u.insync) := by
    show IntsOwn _ _ _ _
    rw [show fx 3 = .slice Y2 u.insync.length x2 by rw [HX.out]; rfl]
    refine LOwn.keep keepsOI N32'.out (by rw [Cells.size_setCells]; exact Nat.le_refl _) (fun g hg => ?_)
    have := hg.1
    rw [Cells.heap_setCells_other _ _ (by omega)]
  have F3 : Hid (IntsOwn (((w3.setCell ⟨w.heap.size + 1 + 1, 4, none⟩ (.slice Y3 u.known.length x3)).setCell ⟨w.heap.size + 1 + 1, 5, none⟩ (.int .i64 u.least)).setCells (w.heap.size + 1) 0 (arrPrt fx).toList) (seg (w2.heap.size) w3.heap.size) (fx 4) u.known) := by
    show IntsOwn _ _ _ _
    rw [show fx 4 = .slice Y3 u.known.length x3 by rw [HX.out]; rfl]
    refine LOwn.keep keepsOI N33'.out (by rw [Cells.size_setCells]; exact Nat.le_refl _) (fun g hg => ?_)
    have := hg.1
    rw [Cells.heap_setCells_other _ _ (by omega)]
  obtain ⟨Q, hQ⟩ : ∃ Q : Nat → Nat → Prop, Q = (fun i => if i = 0 then (seg (w.heap.size + 3) w1.heap.size) else if i = 3 then (seg (w1.heap.size) w2.heap.size) else if i = 4 then (seg (w2.heap.size) w3.heap.size) else fun _ => False) := ⟨_, rfl⟩
  have hq1 : Q 0 = (seg (w.heap.size + 3) w1.heap.size) := by rw [hQ]; rfl
  have hq2 : Q 3 = (seg (w1.heap.size) w2.heap.size) := by rw [hQ]; rfl
  have hq3 : Q 4 = (seg (w2.heap.size) w3.heap.size) := by rw [hQ]; rfl
  have hq0 : ∀ i y, i ≠ 0 → i ≠ 3 → i ≠ 4 → ¬ Q i y := by
    intro i y n1 n2 n3 hy
    rw [hQ] at hy
    simp only [if_neg n1, if_neg n2, if_neg n3] at hy
  clear hQ
  have EX : Hid (EOPrt (((w3.setCell ⟨w.heap.size + 1 + 1, 4, none⟩ (.slice Y3 u.known.length x3)).setCell ⟨w.heap.size + 1 + 1, 5, none⟩ (.int .i64 u.least)).setCells (w.heap.size + 1) 0 (arrPrt fx).toList) (seg w.heap.size (((w3.setCell ⟨w.heap.size + 1 + 1, 4, none⟩ (.slice Y3 u.known.length x3)).setCell ⟨w.heap.size + 1 + 1, 5, none⟩ (.int .i64 u.least)).setCells (w.heap.size + 1) 0 (arrPrt fx).toList).heap.size) fx u) := by
    refine ⟨⟨by rw [HX.out]; rfl, by rw [HX.out]; rfl, by rw [HX.out]; rfl⟩, Q, ?_, ?_, ?_, ?_, ?_⟩
    · intro i y hy
      by_cases e1 : i = 0
      · subst e1; rw [hq1] at hy
        exact ⟨by have := hy.1; omega, by rw [ZS]; have := hy.2; omega⟩
      by_cases e2 : i = 3
      · subst e2; rw [hq2] at hy
        exact ⟨by have := hy.1; omega, by rw [ZS]; have := hy.2; omega⟩
      by_cases e3 : i = 4
      · subst e3; rw [hq3] at hy
        exact ⟨by have := hy.1; omega, by rw [ZS]; have := hy.2; omega⟩
      exact absurd hy (hq0 i y e1 e2 e3)
    · intro i j hij y hi hj
      by_cases e1 : i = 0
      · subst e1; rw [hq1] at hi
        by_cases f1 : j = 0
        · subst f1
          exact absurd rfl hij
        by_cases f2 : j = 3
        · subst f2
          rw [hq2] at hj
          have a1 := hi.1; have a2 := hi.2; have a3 := hj.1; have a4 := hj.2; omega
        by_cases f3 : j = 4
        · subst f3
          rw [hq3] at hj
          have a1 := hi.1; have a2 := hi.2; have a3 := hj.1; have a4 := hj.2; omega
        exact absurd hj (hq0 j y f1 f2 f3)
      by_cases e2 : i = 3
      · subst e2; rw [hq2] at hi
        by_cases f1 : j = 0
        · subst f1
          rw [hq1] at hj
          have a1 := hi.1; have a2 := hi.2; have a3 := hj.1; have a4 := hj.2; omega
        by_cases f2 : j = 3
        · subst f2
          exact absurd rfl hij
        by_cases f3 : j = 4
        · subst f3
          rw [hq3] at hj
          have a1 := hi.1; have a2 := hi.2; have a3 := hj.1; have a4 := hj.2; omega
        exact absurd hj (hq0 j y f1 f2 f3)
      by_cases e3 : i = 4
      · subst e3; rw [hq3] at hi
        by_cases f1 : j = 0
        · subst f1
          rw [hq1] at hj
          have a1 := hi.1; have a2 := hi.2; have a3 := hj.1; have a4 := hj.2; omega
        by_cases f2 : j = 3
        · subst f2
          rw [hq2] at hj
          have a1 := hi.1; have a2 := hi.2; have a3 := hj.1; have a4 := hj.2; omega
        by_cases f3 : j = 4
        · subst f3
          exact absurd rfl hij
        exact absurd hj (hq0 j y f1 f2 f3)
      exact absurd hi (hq0 i y e1 e2 e3)
    · rw [hq1]; exact F1.out
    · rw [hq2]; exact F2.out
    · rw [hq3]; exact F3.out
  clear hq0 hq1 hq2 hq3
  have ON := Seg.hid (onePrt (atOPrt _ _ _ _ EX.out))
  clear Ta1 Tr1 To1 Ua1 M1 Ta2 Tr2 To2 Ua2 M2 Ta3 Tr3 To3 Ua3 M3 ZS
  go_upto_region 8 with fail
  clear po34 pf34 po35 pf35
  generalize ((w3.setCell ⟨w.heap.size + 1 + 1, 4, none⟩ (.slice Y3 u.known.length x3)).setCell ⟨w.heap.size + 1 + 1, 5, none⟩ (.int .i64 u.least)) = wz at *
  go_wp2_with (first | (refine wpList_load_row rfl 44 _ rfl (w.heap.size + 1 + 1) rfl _ _ _ _ Uz.out Try.underlying44 rfl infoPrt ?_) | (refine wpList_store_mid rfl 44 _ _ rfl (w.heap.size + 1) 0 (arrPrt fx) rfl rfl H5.out infoPrt ON.out ?_))
  exact bodyPost_ret (v := .agg (arrPrt fx)) (results_cell_row rfl _ _ (w.heap.size + 1) _ _ _ _ rfl H4.out Try.underlying44 rfl infoPrt) rfl ⟨_, rfl, ⟨fx, rfl, EX.out⟩, B9.out⟩
end Go.Proofs.Yticihnoekffelaa.Ow
