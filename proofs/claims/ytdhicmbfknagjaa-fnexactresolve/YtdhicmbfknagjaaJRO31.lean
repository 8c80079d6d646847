/- Field: the law's copiers answer memory of their own; Schema: the law's copier answers memory of its own. -/
import Derived.Test.YtdhicmbfknagjaaJRO29
import Derived.Test.YtdhicmbfknagjaaJRO30
namespace Go.Proofs.Ytdhicmbfknagjaa.Ow
set_option maxRecDepth 8000
open Go.RowKit
open Recs
open Ls
set_option linter.unusedVariables false
def FldOwn (w : World) (S : Nat → Prop) (v : Value) (u : Fld) : Prop := ∃ f, v = .agg (arrFld f) ∧ EOFld w S f u
set_option maxHeartbeats 1600000 in
theorem toField_own (v : Value) (u : Fld) (w : World) (S : Nat → Prop) (hv : FldAt w S v u) (hS : ∀ g, S g → g < w.heap.size) (hf : szFld u ≤ 1048576) :
    Calls Try.prog 85 #[v] w fun e w' => ∃ v', e = .returned v' ∧ FldOwn w' (seg w.heap.size w'.heap.size) v' u ∧ Below w.heap.size w w' := by
  obtain ⟨f, rfl, y0, y1, y2, y3, y4, y5, y6, y7, y8, y9, y10⟩ := hv
  try simp only [arrFld]
  rw [show f 0 = _ from y0]
  clear y0
  rw [show f 1 = _ from y1]
  clear y1
  rw [show f 2 = _ from y2]
  clear y2
  rw [show f 3 = _ from y3]
  clear y3
  obtain ⟨A4, c4, g4⟩ := y4.form
  rw [g4] at y4 ⊢
  have H4 := Seg.hid y4
  clear y4 g4
  rw [show f 5 = _ from y5]
  clear y5
  rw [show f 6 = _ from y6]
  clear y6
  rw [show f 7 = _ from y7]
  clear y7
  rw [show f 8 = _ from y8]
  clear y8
  rw [show f 9 = _ from y9]
  clear y9
  obtain ⟨A10, c10, g10⟩ := y10.form
  rw [g10] at y10 ⊢
  have H10 := Seg.hid y10
  clear y10 g10
  unfold szFld at hf
  have G6 : Hid (VluAt w S (.agg #[.int .i64 u.vk, .int .i64 u.vn, .string u.vt, .bool u.vl, .slice A10 u.vi.length c10]) (⟨u.vk, u.vn, u.vt, u.vl, u.vi⟩ : Vlu)) := ⟨fun q => if q = 0 then .int .i64 u.vk else if q = 1 then .int .i64 u.vn else if q = 2 then .string u.vt else if q = 3 then .bool u.vl else .slice A10 u.vi.length c10, rfl, rfl, rfl, rfl, rfl, H10.out⟩
  go_enter Try.func85, Try.ntmps85
  go_wp2_with fail
  refine (toStringS_own _ u.was (((w.alloc _).alloc _).alloc _) S (H4.out.below keepsStr (below3 w _ _ _) hS) (fun g hg => by rw [hsz, hsz, hsz]; have := hS g hg; omega) (by omega)).mono ?_
  rintro e w1 ⟨v1, rfl, l1, b1⟩
  have B1 := Seg.hid (chain (below3 w _ _ _) b1)
  have Ta1 : Hid (w1.heap[w.heap.size]? = some (.cells #[.string u.name, .int .i64 u.kind, .bool u.lst, .bool u.may, .slice A4 u.was.length c4, .bool u.fixd, .int .i64 u.vk, .int .i64 u.vn, .string u.vt, .bool u.vl, .slice A10 u.vi.length c10] 130 (0, 0))) := (b1.block w.heap.size (by rw [hsz, hsz, hsz]; omega)).trans (at3z w _ _ _)
  have Tr1 : Hid (w1.heap[w.heap.size + 1]? = some (.cells #[.string ByteArray.empty, .int .i64 0, .bool false, .bool false, .slice none 0 0, .bool false, .int .i64 0, .int .i64 0, .string ByteArray.empty, .bool false, .slice none 0 0] 86 (0, 0))) := (b1.block (w.heap.size + 1) (by rw [hsz, hsz, hsz]; omega)).trans (at3 w _ _ _)
  have To1 : Hid (w1.heap[w.heap.size + 1 + 1]? = some (.cells #[.string u.name, .int .i64 u.kind, .bool u.lst, .bool u.may, .slice none 0 0, .bool false, .int .i64 0, .int .i64 0, .string ByteArray.empty, .bool false, .slice none 0 0] 86 (0, 0))) := (b1.block (w.heap.size + 1 + 1) (by rw [hsz, hsz, hsz]; omega)).trans (Cells.at3' w _ _ _)
  have s1 : w.heap.size + 3 ≤ w1.heap.size := by have := b1.size; rw [hsz, hsz, hsz] at this; omega
  have M1 : Hid (StrsOwn w1 (seg (w.heap.size + 3) w1.heap.size) v1 u.was) := by
    rw [hsz, hsz, hsz] at l1
    exact l1
  obtain ⟨Y1, x1, r1⟩ := LOwn.form M1.out
  subst r1
  clear b1 l1
  have N11 := M1
  have pa15 : w1.cell? ⟨w.heap.size, 5, none⟩ = some (.bool u.fixd) := cell_of_row w1 _ 5 _ _ (0, 0) Ta1.out
  have pa16 : w1.cell? ⟨w.heap.size, 6, none⟩ = some (.int .i64 u.vk) := cell_of_row w1 _ 6 _ _ (0, 0) Ta1.out
  have pa17 : w1.cell? ⟨w.heap.size, 7, none⟩ = some (.int .i64 u.vn) := cell_of_row w1 _ 7 _ _ (0, 0) Ta1.out
  have pa18 : w1.cell? ⟨w.heap.size, 8, none⟩ = some (.string u.vt) := cell_of_row w1 _ 8 _ _ (0, 0) Ta1.out
  have pa19 : w1.cell? ⟨w.heap.size, 9, none⟩ = some (.bool u.vl) := cell_of_row w1 _ 9 _ _ (0, 0) Ta1.out
  have pa110 : w1.cell? ⟨w.heap.size, 10, none⟩ = some (.slice A10 u.vi.length c10) := cell_of_row w1 _ 10 _ _ (0, 0) Ta1.out
  have po14 : (w1).cell? ⟨w.heap.size + 1 + 1, 4, none⟩ = some (.slice none 0 0) := cell_of_row (w1) _ 4 _ _ (0, 0) (To1.out)
  have pf14 : (w1).frozen? ⟨w.heap.size + 1 + 1, 4, none⟩ = false := frozen_of_row (w1) _ 4 _ _ (To1.out)
  have qo14 : Hid (((w1.setCell ⟨w.heap.size + 1 + 1, 4, none⟩ (.slice Y1 u.was.length x1))).heap[w.heap.size + 1 + 1]? = some (.cells #[.string u.name, .int .i64 u.kind, .bool u.lst, .bool u.may, .slice Y1 u.was.length x1, .bool false, .int .i64 0, .int .i64 0, .string ByteArray.empty, .bool false, .slice none 0 0] 86 (0, 0))) := heap_setCell_same (w1) (w.heap.size + 1 + 1) 4 _ _ (.slice Y1 u.was.length x1) (To1.out)
  have po15 : ((w1.setCell ⟨w.heap.size + 1 + 1, 4, none⟩ (.slice Y1 u.was.length x1))).cell? ⟨w.heap.size + 1 + 1, 5, none⟩ = some (.bool false) := cell_of_row ((w1.setCell ⟨w.heap.size + 1 + 1, 4, none⟩ (.slice Y1 u.was.length x1))) _ 5 _ _ (0, 0) (qo14.out)
  have pf15 : ((w1.setCell ⟨w.heap.size + 1 + 1, 4, none⟩ (.slice Y1 u.was.length x1))).frozen? ⟨w.heap.size + 1 + 1, 5, none⟩ = false := frozen_of_row ((w1.setCell ⟨w.heap.size + 1 + 1, 4, none⟩ (.slice Y1 u.was.length x1))) _ 5 _ _ (qo14.out)
  have qo15 : Hid ((((w1.setCell ⟨w.heap.size + 1 + 1, 4, none⟩ (.slice Y1 u.was.length x1)).setCell ⟨w.heap.size + 1 + 1, 5, none⟩ (.bool u.fixd))).heap[w.heap.size + 1 + 1]? = some (.cells #[.string u.name, .int .i64 u.kind, .bool u.lst, .bool u.may, .slice Y1 u.was.length x1, .bool u.fixd, .int .i64 0, .int .i64 0, .string ByteArray.empty, .bool false, .slice none 0 0] 86 (0, 0))) := heap_setCell_same ((w1.setCell ⟨w.heap.size + 1 + 1, 4, none⟩ (.slice Y1 u.was.length x1))) (w.heap.size + 1 + 1) 5 _ _ (.bool u.fixd) (qo14.out)
  have Uo1 := Seg.hid (qo15.out)
  have Ur1 := Seg.hid ((heap_setCell_other ((w1.setCell ⟨w.heap.size + 1 + 1, 4, none⟩ (.slice Y1 u.was.length x1))) ⟨w.heap.size + 1 + 1, 5, none⟩ (w.heap.size + 1) (.bool u.fixd) (by simp)).trans ((heap_setCell_other (w1) ⟨w.heap.size + 1 + 1, 4, none⟩ (w.heap.size + 1) (.slice Y1 u.was.length x1) (by simp)).trans (Tr1.out)))
  have Ua1 := Seg.hid ((heap_setCell_other ((w1.setCell ⟨w.heap.size + 1 + 1, 4, none⟩ (.slice Y1 u.was.length x1))) ⟨w.heap.size + 1 + 1, 5, none⟩ w.heap.size (.bool u.fixd) (by simp; omega)).trans ((heap_setCell_other (w1) ⟨w.heap.size + 1 + 1, 4, none⟩ w.heap.size (.slice Y1 u.was.length x1) (by simp; omega)).trans (Ta1.out)))
  have D1 : Hid (Below w.heap.size w ((w1.setCell ⟨w.heap.size + 1 + 1, 4, none⟩ (.slice Y1 u.was.length x1)).setCell ⟨w.heap.size + 1 + 1, 5, none⟩ (.bool u.fixd))) := ((B1.out).setCell (p := ⟨w.heap.size + 1 + 1, 4, none⟩) (by simp; omega) (.slice Y1 u.was.length x1)).setCell (p := ⟨w.heap.size + 1 + 1, 5, none⟩) (by simp; omega) (.bool u.fixd)
  have N11' : Hid (StrsOwn ((w1.setCell ⟨w.heap.size + 1 + 1, 4, none⟩ (.slice Y1 u.was.length x1)).setCell ⟨w.heap.size + 1 + 1, 5, none⟩ (.bool u.fixd)) (seg (w.heap.size + 3) w1.heap.size) (.slice Y1 u.was.length x1) u.was) := LOwn.keep keepsOStr N11.out (by simp) (fun g hg => by have := hg.1; rw [heap_setCell_other _ _ _ _ (by show _ ≠ w.heap.size + 1 + 1; omega), heap_setCell_other _ _ _ _ (by show _ ≠ w.heap.size + 1 + 1; omega)])
  go_wp2_with fail
  refine (toValue_own _ (⟨u.vk, u.vn, u.vt, u.vl, u.vi⟩ : Vlu) ((w1.setCell ⟨w.heap.size + 1 + 1, 4, none⟩ (.slice Y1 u.was.length x1)).setCell ⟨w.heap.size + 1 + 1, 5, none⟩ (.bool u.fixd)) S (G6.out.below D1.out hS) (fun g hg => Nat.lt_of_lt_of_le (hS g hg) D1.out.size) (by omega)).mono ?_
  rintro e w2 ⟨vg2, rfl, ⟨fg2, rfl, ⟨a2_0, a2_1, a2_2, a2_3⟩, Qg2, qg2, _, a2_4⟩, b2⟩
  obtain ⟨v2, hvv2⟩ : ∃ v, fg2 4 = v := ⟨_, rfl⟩
  rw [hvv2] at a2_4
  have l2 : ItmsOwn w2 (seg ((w1.setCell ⟨w.heap.size + 1 + 1, 4, none⟩ (.slice Y1 u.was.length x1)).setCell ⟨w.heap.size + 1 + 1, 5, none⟩ (.bool u.fixd)).heap.size w2.heap.size) v2 u.vi := LOwn.mono a2_4 (fun x hx => qg2 _ x hx)
  have hag2 : arrVlu fg2 = #[.int .i64 u.vk, .int .i64 u.vn, .string u.vt, .bool u.vl, v2] := by unfold arrVlu; rw [show fg2 0 = .int .i64 u.vk from a2_0, show fg2 1 = .int .i64 u.vn from a2_1, show fg2 2 = .string u.vt from a2_2, show fg2 3 = .bool u.vl from a2_3, hvv2]
  rw [hag2]
  clear hag2 hvv2 a2_0 a2_1 a2_2 a2_3 a2_4
  have B2 := Seg.hid (chain D1.out b2)
  have z2 : ((w1.setCell ⟨w.heap.size + 1 + 1, 4, none⟩ (.slice Y1 u.was.length x1)).setCell ⟨w.heap.size + 1 + 1, 5, none⟩ (.bool u.fixd)).heap.size = w1.heap.size := by simp
  have Ta2 := Seg.hid ((b2.block w.heap.size (by omega)).trans Ua1.out)
  have Tr2 := Seg.hid ((b2.block (w.heap.size + 1) (by omega)).trans Ur1.out)
  have To2 := Seg.hid ((b2.block (w.heap.size + 1 + 1) (by omega)).trans Uo1.out)
  have s2 : w1.heap.size ≤ w2.heap.size := by have := b2.size; omega
  have M2 : Hid (ItmsOwn w2 (seg (w1.heap.size) w2.heap.size) v2 u.vi) := by
    rw [z2] at l2
    exact l2
  have N21 : Hid (StrsOwn w2 (seg (w.heap.size + 3) w1.heap.size) (.slice Y1 u.was.length x1) u.was) := LOwn.keep keepsOStr N11'.out b2.size (fun g hg => b2.block g (by have := hg.2; omega))
  clear z2
  obtain ⟨Y2, x2, r2⟩ := LOwn.form M2.out
  subst r2
  clear b2 l2
  have N22 := M2
  have po26 : (w2).cell? ⟨w.heap.size + 1 + 1, 6, none⟩ = some (.int .i64 0) := cell_of_row (w2) _ 6 _ _ (0, 0) (To2.out)
  have pf26 : (w2).frozen? ⟨w.heap.size + 1 + 1, 6, none⟩ = false := frozen_of_row (w2) _ 6 _ _ (To2.out)
  have qo26 : Hid (((w2.setCell ⟨w.heap.size + 1 + 1, 6, none⟩ (.int .i64 u.vk))).heap[w.heap.size + 1 + 1]? = some (.cells #[.string u.name, .int .i64 u.kind, .bool u.lst, .bool u.may, .slice Y1 u.was.length x1, .bool u.fixd, .int .i64 u.vk, .int .i64 0, .string ByteArray.empty, .bool false, .slice none 0 0] 86 (0, 0))) := heap_setCell_same (w2) (w.heap.size + 1 + 1) 6 _ _ (.int .i64 u.vk) (To2.out)
  have po27 : ((w2.setCell ⟨w.heap.size + 1 + 1, 6, none⟩ (.int .i64 u.vk))).cell? ⟨w.heap.size + 1 + 1, 7, none⟩ = some (.int .i64 0) := cell_of_row ((w2.setCell ⟨w.heap.size + 1 + 1, 6, none⟩ (.int .i64 u.vk))) _ 7 _ _ (0, 0) (qo26.out)
  have pf27 : ((w2.setCell ⟨w.heap.size + 1 + 1, 6, none⟩ (.int .i64 u.vk))).frozen? ⟨w.heap.size + 1 + 1, 7, none⟩ = false := frozen_of_row ((w2.setCell ⟨w.heap.size + 1 + 1, 6, none⟩ (.int .i64 u.vk))) _ 7 _ _ (qo26.out)
  have qo27 : Hid ((((w2.setCell ⟨w.heap.size + 1 + 1, 6, none⟩ (.int .i64 u.vk)).setCell ⟨w.heap.size + 1 + 1, 7, none⟩ (.int .i64 u.vn))).heap[w.heap.size + 1 + 1]? = some (.cells #[.string u.name, .int .i64 u.kind, .bool u.lst, .bool u.may, .slice Y1 u.was.length x1, .bool u.fixd, .int .i64 u.vk, .int .i64 u.vn, .string ByteArray.empty, .bool false, .slice none 0 0] 86 (0, 0))) := heap_setCell_same ((w2.setCell ⟨w.heap.size + 1 + 1, 6, none⟩ (.int .i64 u.vk))) (w.heap.size + 1 + 1) 7 _ _ (.int .i64 u.vn) (qo26.out)
  have po28 : (((w2.setCell ⟨w.heap.size + 1 + 1, 6, none⟩ (.int .i64 u.vk)).setCell ⟨w.heap.size + 1 + 1, 7, none⟩ (.int .i64 u.vn))).cell? ⟨w.heap.size + 1 + 1, 8, none⟩ = some (.string ByteArray.empty) := cell_of_row (((w2.setCell ⟨w.heap.size + 1 + 1, 6, none⟩ (.int .i64 u.vk)).setCell ⟨w.heap.size + 1 + 1, 7, none⟩ (.int .i64 u.vn))) _ 8 _ _ (0, 0) (qo27.out)
  have pf28 : (((w2.setCell ⟨w.heap.size + 1 + 1, 6, none⟩ (.int .i64 u.vk)).setCell ⟨w.heap.size + 1 + 1, 7, none⟩ (.int .i64 u.vn))).frozen? ⟨w.heap.size + 1 + 1, 8, none⟩ = false := frozen_of_row (((w2.setCell ⟨w.heap.size + 1 + 1, 6, none⟩ (.int .i64 u.vk)).setCell ⟨w.heap.size + 1 + 1, 7, none⟩ (.int .i64 u.vn))) _ 8 _ _ (qo27.out)
  have qo28 : Hid (((((w2.setCell ⟨w.heap.size + 1 + 1, 6, none⟩ (.int .i64 u.vk)).setCell ⟨w.heap.size + 1 + 1, 7, none⟩ (.int .i64 u.vn)).setCell ⟨w.heap.size + 1 + 1, 8, none⟩ (.string u.vt))).heap[w.heap.size + 1 + 1]? = some (.cells #[.string u.name, .int .i64 u.kind, .bool u.lst, .bool u.may, .slice Y1 u.was.length x1, .bool u.fixd, .int .i64 u.vk, .int .i64 u.vn, .string u.vt, .bool false, .slice none 0 0] 86 (0, 0))) := heap_setCell_same (((w2.setCell ⟨w.heap.size + 1 + 1, 6, none⟩ (.int .i64 u.vk)).setCell ⟨w.heap.size + 1 + 1, 7, none⟩ (.int .i64 u.vn))) (w.heap.size + 1 + 1) 8 _ _ (.string u.vt) (qo27.out)
  have po29 : ((((w2.setCell ⟨w.heap.size + 1 + 1, 6, none⟩ (.int .i64 u.vk)).setCell ⟨w.heap.size + 1 + 1, 7, none⟩ (.int .i64 u.vn)).setCell ⟨w.heap.size + 1 + 1, 8, none⟩ (.string u.vt))).cell? ⟨w.heap.size + 1 + 1, 9, none⟩ = some (.bool false) := cell_of_row ((((w2.setCell ⟨w.heap.size + 1 + 1, 6, none⟩ (.int .i64 u.vk)).setCell ⟨w.heap.size + 1 + 1, 7, none⟩ (.int .i64 u.vn)).setCell ⟨w.heap.size + 1 + 1, 8, none⟩ (.string u.vt))) _ 9 _ _ (0, 0) (qo28.out)
  have pf29 : ((((w2.setCell ⟨w.heap.size + 1 + 1, 6, none⟩ (.int .i64 u.vk)).setCell ⟨w.heap.size + 1 + 1, 7, none⟩ (.int .i64 u.vn)).setCell ⟨w.heap.size + 1 + 1, 8, none⟩ (.string u.vt))).frozen? ⟨w.heap.size + 1 + 1, 9, none⟩ = false := frozen_of_row ((((w2.setCell ⟨w.heap.size + 1 + 1, 6, none⟩ (.int .i64 u.vk)).setCell ⟨w.heap.size + 1 + 1, 7, none⟩ (.int .i64 u.vn)).setCell ⟨w.heap.size + 1 + 1, 8, none⟩ (.string u.vt))) _ 9 _ _ (qo28.out)
  have qo29 : Hid ((((((w2.setCell ⟨w.heap.size + 1 + 1, 6, none⟩ (.int .i64 u.vk)).setCell ⟨w.heap.size + 1 + 1, 7, none⟩ (.int .i64 u.vn)).setCell ⟨w.heap.size + 1 + 1, 8, none⟩ (.string u.vt)).setCell ⟨w.heap.size + 1 + 1, 9, none⟩ (.bool u.vl))).heap[w.heap.size + 1 + 1]? = some (.cells #[.string u.name, .int .i64 u.kind, .bool u.lst, .bool u.may, .slice Y1 u.was.length x1, .bool u.fixd, .int .i64 u.vk, .int .i64 u.vn, .string u.vt, .bool u.vl, .slice none 0 0] 86 (0, 0))) := heap_setCell_same ((((w2.setCell ⟨w.heap.size + 1 + 1, 6, none⟩ (.int .i64 u.vk)).setCell ⟨w.heap.size + 1 + 1, 7, none⟩ (.int .i64 u.vn)).setCell ⟨w.heap.size + 1 + 1, 8, none⟩ (.string u.vt))) (w.heap.size + 1 + 1) 9 _ _ (.bool u.vl) (qo28.out)
  have po210 : (((((w2.setCell ⟨w.heap.size + 1 + 1, 6, none⟩ (.int .i64 u.vk)).setCell ⟨w.heap.size + 1 + 1, 7, none⟩ (.int .i64 u.vn)).setCell ⟨w.heap.size + 1 + 1, 8, none⟩ (.string u.vt)).setCell ⟨w.heap.size + 1 + 1, 9, none⟩ (.bool u.vl))).cell? ⟨w.heap.size + 1 + 1, 10, none⟩ = some (.slice none 0 0) := cell_of_row (((((w2.setCell ⟨w.heap.size + 1 + 1, 6, none⟩ (.int .i64 u.vk)).setCell ⟨w.heap.size + 1 + 1, 7, none⟩ (.int .i64 u.vn)).setCell ⟨w.heap.size + 1 + 1, 8, none⟩ (.string u.vt)).setCell ⟨w.heap.size + 1 + 1, 9, none⟩ (.bool u.vl))) _ 10 _ _ (0, 0) (qo29.out)
  have pf210 : (((((w2.setCell ⟨w.heap.size + 1 + 1, 6, none⟩ (.int .i64 u.vk)).setCell ⟨w.heap.size + 1 + 1, 7, none⟩ (.int .i64 u.vn)).setCell ⟨w.heap.size + 1 + 1, 8, none⟩ (.string u.vt)).setCell ⟨w.heap.size + 1 + 1, 9, none⟩ (.bool u.vl))).frozen? ⟨w.heap.size + 1 + 1, 10, none⟩ = false := frozen_of_row (((((w2.setCell ⟨w.heap.size + 1 + 1, 6, none⟩ (.int .i64 u.vk)).setCell ⟨w.heap.size + 1 + 1, 7, none⟩ (.int .i64 u.vn)).setCell ⟨w.heap.size + 1 + 1, 8, none⟩ (.string u.vt)).setCell ⟨w.heap.size + 1 + 1, 9, none⟩ (.bool u.vl))) _ 10 _ _ (qo29.out)
  have qo210 : Hid (((((((w2.setCell ⟨w.heap.size + 1 + 1, 6, none⟩ (.int .i64 u.vk)).setCell ⟨w.heap.size + 1 + 1, 7, none⟩ (.int .i64 u.vn)).setCell ⟨w.heap.size + 1 + 1, 8, none⟩ (.string u.vt)).setCell ⟨w.heap.size + 1 + 1, 9, none⟩ (.bool u.vl)).setCell ⟨w.heap.size + 1 + 1, 10, none⟩ (.slice Y2 u.vi.length x2))).heap[w.heap.size + 1 + 1]? = some (.cells #[.string u.name, .int .i64 u.kind, .bool u.lst, .bool u.may, .slice Y1 u.was.length x1, .bool u.fixd, .int .i64 u.vk, .int .i64 u.vn, .string u.vt, .bool u.vl, .slice Y2 u.vi.length x2] 86 (0, 0))) := heap_setCell_same (((((w2.setCell ⟨w.heap.size + 1 + 1, 6, none⟩ (.int .i64 u.vk)).setCell ⟨w.heap.size + 1 + 1, 7, none⟩ (.int .i64 u.vn)).setCell ⟨w.heap.size + 1 + 1, 8, none⟩ (.string u.vt)).setCell ⟨w.heap.size + 1 + 1, 9, none⟩ (.bool u.vl))) (w.heap.size + 1 + 1) 10 _ _ (.slice Y2 u.vi.length x2) (qo29.out)
  have Uo2 := Seg.hid (qo210.out)
  have Ur2 := Seg.hid ((heap_setCell_other (((((w2.setCell ⟨w.heap.size + 1 + 1, 6, none⟩ (.int .i64 u.vk)).setCell ⟨w.heap.size + 1 + 1, 7, none⟩ (.int .i64 u.vn)).setCell ⟨w.heap.size + 1 + 1, 8, none⟩ (.string u.vt)).setCell ⟨w.heap.size + 1 + 1, 9, none⟩ (.bool u.vl))) ⟨w.heap.size + 1 + 1, 10, none⟩ (w.heap.size + 1) (.slice Y2 u.vi.length x2) (by simp)).trans ((heap_setCell_other ((((w2.setCell ⟨w.heap.size + 1 + 1, 6, none⟩ (.int .i64 u.vk)).setCell ⟨w.heap.size + 1 + 1, 7, none⟩ (.int .i64 u.vn)).setCell ⟨w.heap.size + 1 + 1, 8, none⟩ (.string u.vt))) ⟨w.heap.size + 1 + 1, 9, none⟩ (w.heap.size + 1) (.bool u.vl) (by simp)).trans ((heap_setCell_other (((w2.setCell ⟨w.heap.size + 1 + 1, 6, none⟩ (.int .i64 u.vk)).setCell ⟨w.heap.size + 1 + 1, 7, none⟩ (.int .i64 u.vn))) ⟨w.heap.size + 1 + 1, 8, none⟩ (w.heap.size + 1) (.string u.vt) (by simp)).trans ((heap_setCell_other ((w2.setCell ⟨w.heap.size + 1 + 1, 6, none⟩ (.int .i64 u.vk))) ⟨w.heap.size + 1 + 1, 7, none⟩ (w.heap.size + 1) (.int .i64 u.vn) (by simp)).trans ((heap_setCell_other (w2) ⟨w.heap.size + 1 + 1, 6, none⟩ (w.heap.size + 1) (.int .i64 u.vk) (by simp)).trans (Tr2.out))))))
  have Ua2 := Seg.hid ((heap_setCell_other (((((w2.setCell ⟨w.heap.size + 1 + 1, 6, none⟩ (.int .i64 u.vk)).setCell ⟨w.heap.size + 1 + 1, 7, none⟩ (.int .i64 u.vn)).setCell ⟨w.heap.size + 1 + 1, 8, none⟩ (.string u.vt)).setCell ⟨w.heap.size + 1 + 1, 9, none⟩ (.bool u.vl))) ⟨w.heap.size + 1 + 1, 10, none⟩ w.heap.size (.slice Y2 u.vi.length x2) (by simp; omega)).trans ((heap_setCell_other ((((w2.setCell ⟨w.heap.size + 1 + 1, 6, none⟩ (.int .i64 u.vk)).setCell ⟨w.heap.size + 1 + 1, 7, none⟩ (.int .i64 u.vn)).setCell ⟨w.heap.size + 1 + 1, 8, none⟩ (.string u.vt))) ⟨w.heap.size + 1 + 1, 9, none⟩ w.heap.size (.bool u.vl) (by simp; omega)).trans ((heap_setCell_other (((w2.setCell ⟨w.heap.size + 1 + 1, 6, none⟩ (.int .i64 u.vk)).setCell ⟨w.heap.size + 1 + 1, 7, none⟩ (.int .i64 u.vn))) ⟨w.heap.size + 1 + 1, 8, none⟩ w.heap.size (.string u.vt) (by simp; omega)).trans ((heap_setCell_other ((w2.setCell ⟨w.heap.size + 1 + 1, 6, none⟩ (.int .i64 u.vk))) ⟨w.heap.size + 1 + 1, 7, none⟩ w.heap.size (.int .i64 u.vn) (by simp; omega)).trans ((heap_setCell_other (w2) ⟨w.heap.size + 1 + 1, 6, none⟩ w.heap.size (.int .i64 u.vk) (by simp; omega)).trans (Ta2.out))))))
  have D2 : Hid (Below w.heap.size w (((((w2.setCell ⟨w.heap.size + 1 + 1, 6, none⟩ (.int .i64 u.vk)).setCell ⟨w.heap.size + 1 + 1, 7, none⟩ (.int .i64 u.vn)).setCell ⟨w.heap.size + 1 + 1, 8, none⟩ (.string u.vt)).setCell ⟨w.heap.size + 1 + 1, 9, none⟩ (.bool u.vl)).setCell ⟨w.heap.size + 1 + 1, 10, none⟩ (.slice Y2 u.vi.length x2))) := (((((B2.out).setCell (p := ⟨w.heap.size + 1 + 1, 6, none⟩) (by simp; omega) (.int .i64 u.vk)).setCell (p := ⟨w.heap.size + 1 + 1, 7, none⟩) (by simp; omega) (.int .i64 u.vn)).setCell (p := ⟨w.heap.size + 1 + 1, 8, none⟩) (by simp; omega) (.string u.vt)).setCell (p := ⟨w.heap.size + 1 + 1, 9, none⟩) (by simp; omega) (.bool u.vl)).setCell (p := ⟨w.heap.size + 1 + 1, 10, none⟩) (by simp; omega) (.slice Y2 u.vi.length x2)
  have N21' : Hid (StrsOwn (((((w2.setCell ⟨w.heap.size + 1 + 1, 6, none⟩ (.int .i64 u.vk)).setCell ⟨w.heap.size + 1 + 1, 7, none⟩ (.int .i64 u.vn)).setCell ⟨w.heap.size + 1 + 1, 8, none⟩ (.string u.vt)).setCell ⟨w.heap.size + 1 + 1, 9, none⟩ (.bool u.vl)).setCell ⟨w.heap.size + 1 + 1, 10, none⟩ (.slice Y2 u.vi.length x2)) (seg (w.heap.size + 3) w1.heap.size) (.slice Y1 u.was.length x1) u.was) := LOwn.keep keepsOStr N21.out (by simp) (fun g hg => by have := hg.1; rw [heap_setCell_other _ _ _ _ (by show _ ≠ w.heap.size + 1 + 1; omega), heap_setCell_other _ _ _ _ (by show _ ≠ w.heap.size + 1 + 1; omega), heap_setCell_other _ _ _ _ (by show _ ≠ w.heap.size + 1 + 1; omega), heap_setCell_other _ _ _ _ (by show _ ≠ w.heap.size + 1 + 1; omega), heap_setCell_other _ _ _ _ (by show _ ≠ w.heap.size + 1 + 1; omega)])
  have N22' : Hid (ItmsOwn (((((w2.setCell ⟨w.heap.size + 1 + 1, 6, none⟩ (.int .i64 u.vk)).setCell ⟨w.heap.size + 1 + 1, 7, none⟩ (.int .i64 u.vn)).setCell ⟨w.heap.size + 1 + 1, 8, none⟩ (.string u.vt)).setCell ⟨w.heap.size + 1 + 1, 9, none⟩ (.bool u.vl)).setCell ⟨w.heap.size + 1 + 1, 10, none⟩ (.slice Y2 u.vi.length x2)) (seg (w1.heap.size) w2.heap.size) (.slice Y2 u.vi.length x2) u.vi) := LOwn.keep keepsOItm N22.out (by simp) (fun g hg => by have := hg.1; rw [heap_setCell_other _ _ _ _ (by show _ ≠ w.heap.size + 1 + 1; omega), heap_setCell_other _ _ _ _ (by show _ ≠ w.heap.size + 1 + 1; omega), heap_setCell_other _ _ _ _ (by show _ ≠ w.heap.size + 1 + 1; omega), heap_setCell_other _ _ _ _ (by show _ ≠ w.heap.size + 1 + 1; omega), heap_setCell_other _ _ _ _ (by show _ ≠ w.heap.size + 1 + 1; omega)])
  obtain ⟨fx, hfx⟩ : ∃ fx : Nat → Value, fx = (fun q => if q = 0 then .string u.name else if q = 1 then .int .i64 u.kind else if q = 2 then .bool u.lst else if q = 3 then .bool u.may else if q = 4 then .slice Y1 u.was.length x1 else if q = 5 then .bool u.fixd else if q = 6 then .int .i64 u.vk else if q = 7 then .int .i64 u.vn else if q = 8 then .string u.vt else if q = 9 then .bool u.vl else .slice Y2 u.vi.length x2) := ⟨_, rfl⟩
  have HX := Seg.hid hfx
  have Uz : Hid ((((((w2.setCell ⟨w.heap.size + 1 + 1, 6, none⟩ (.int .i64 u.vk)).setCell ⟨w.heap.size + 1 + 1, 7, none⟩ (.int .i64 u.vn)).setCell ⟨w.heap.size + 1 + 1, 8, none⟩ (.string u.vt)).setCell ⟨w.heap.size + 1 + 1, 9, none⟩ (.bool u.vl)).setCell ⟨w.heap.size + 1 + 1, 10, none⟩ (.slice Y2 u.vi.length x2)).heap[w.heap.size + 1 + 1]? = some (.cells (arrFld fx) 86 (0, 0))) := by
    show _ = _
    rw [hfx]
    exact Uo2.out
  clear hfx
  have H5a := Cells.there_of Ur2.out
  have H5 : Hid ((((((w2.setCell ⟨w.heap.size + 1 + 1, 6, none⟩ (.int .i64 u.vk)).setCell ⟨w.heap.size + 1 + 1, 7, none⟩ (.int .i64 u.vn)).setCell ⟨w.heap.size + 1 + 1, 8, none⟩ (.string u.vt)).setCell ⟨w.heap.size + 1 + 1, 9, none⟩ (.bool u.vl)).setCell ⟨w.heap.size + 1 + 1, 10, none⟩ (.slice Y2 u.vi.length x2)).there (w.heap.size + 1) 0 (arrFld fx).size) := H5a
  clear H5a
  have H4 := Seg.hid (Cells.whole (vs := arrFld fx) Ur2.out rfl)
  have B9 := Seg.hid (Cells.below_setCells (g := w.heap.size + 1) (by omega) (arrFld fx).toList 0 _ _ D2.out)
  have ZS : ((((((w2.setCell ⟨w.heap.size + 1 + 1, 6, none⟩ (.int .i64 u.vk)).setCell ⟨w.heap.size + 1 + 1, 7, none⟩ (.int .i64 u.vn)).setCell ⟨w.heap.size + 1 + 1, 8, none⟩ (.string u.vt)).setCell ⟨w.heap.size + 1 + 1, 9, none⟩ (.bool u.vl)).setCell ⟨w.heap.size + 1 + 1, 10, none⟩ (.slice Y2 u.vi.length x2)).setCells (w.heap.size + 1) 0 (arrFld fx).toList).heap.size = w2.heap.size := by rw [Cells.size_setCells]; simp
  have F1 : Hid (StrsOwn ((((((w2.setCell ⟨w.heap.size + 1 + 1, 6, none⟩ (.int .i64 u.vk)).setCell ⟨w.heap.size + 1 + 1, 7, none⟩ (.int .i64 u.vn)).setCell ⟨w.heap.size + 1 + 1, 8, none⟩ (.string u.vt)).setCell ⟨w.heap.size + 1 + 1, 9, none⟩ (.bool u.vl)).setCell ⟨w.heap.size + 1 + 1, 10, none⟩ (.slice Y2 u.vi.length x2)).setCells (w.heap.size + 1) 0 (arrFld fx).toList) (seg (w.heap.size + 3) w1.heap.size) (fx 4) u.was) := by
    show StrsOwn _ _ _ _
    rw [show fx 4 = .slice Y1 u.was.length x1 by rw [HX.out]; rfl]
    refine LOwn.keep keepsOStr N21'.out (by rw [Cells.size_setCells]; exact Nat.le_refl _) (fun g hg => ?_)
    have := hg.1
    rw [Cells.heap_setCells_other _ _ (by omega)]
  have F2 : Hid (ItmsOwn ((((((w2.setCell ⟨w.heap.size + 1 + 1, 6, none⟩ (.int .i64 u.vk)).setCell ⟨w.heap.size + 1 + 1, 7, none⟩ (.int .i64 u.vn)).setCell ⟨w.heap.size + 1 + 1, 8, none⟩ (.string u.vt)).setCell ⟨w.heap.size + 1 + 1, 9, none⟩ (.bool u.vl)).setCell ⟨w.heap.size + 1 + 1, 10, none⟩ (.slice Y2 u.vi.length x2)).setCells (w.heap.size + 1) 0 (arrFld fx).toList) (seg (w1.heap.size) w2.heap.size) (fx 10) u.vi) := by
    show ItmsOwn _ _ _ _
    rw [show fx 10 = .slice Y2 u.vi.length x2 by rw [HX.out]; rfl]
    refine LOwn.keep keepsOItm N22'.out (by rw [Cells.size_setCells]; exact Nat.le_refl _) (fun g hg => ?_)
    have := hg.1
    rw [Cells.heap_setCells_other _ _ (by omega)]
  obtain ⟨Q, hQ⟩ : ∃ Q : Nat → Nat → Prop, Q = (fun i => if i = 4 then (seg (w.heap.size + 3) w1.heap.size) else if i = 10 then (seg (w1.heap.size) w2.heap.size) else fun _ => False) := ⟨_, rfl⟩
  have hq1 : Q 4 = (seg (w.heap.size + 3) w1.heap.size) := by rw [hQ]; rfl
  have hq2 : Q 10 = (seg (w1.heap.size) w2.heap.size) := by rw [hQ]; rfl
  have hq0 : ∀ i y, i ≠ 4 → i ≠ 10 → ¬ Q i y := by
    intro i y n1 n2 hy
    rw [hQ] at hy
    simp only [if_neg n1, if_neg n2] at hy
  clear hQ
  have EX : Hid (EOFld ((((((w2.setCell ⟨w.heap.size + 1 + 1, 6, none⟩ (.int .i64 u.vk)).setCell ⟨w.heap.size + 1 + 1, 7, none⟩ (.int .i64 u.vn)).setCell ⟨w.heap.size + 1 + 1, 8, none⟩ (.string u.vt)).setCell ⟨w.heap.size + 1 + 1, 9, none⟩ (.bool u.vl)).setCell ⟨w.heap.size + 1 + 1, 10, none⟩ (.slice Y2 u.vi.length x2)).setCells (w.heap.size + 1) 0 (arrFld fx).toList) (seg w.heap.size ((((((w2.setCell ⟨w.heap.size + 1 + 1, 6, none⟩ (.int .i64 u.vk)).setCell ⟨w.heap.size + 1 + 1, 7, none⟩ (.int .i64 u.vn)).setCell ⟨w.heap.size + 1 + 1, 8, none⟩ (.string u.vt)).setCell ⟨w.heap.size + 1 + 1, 9, none⟩ (.bool u.vl)).setCell ⟨w.heap.size + 1 + 1, 10, none⟩ (.slice Y2 u.vi.length x2)).setCells (w.heap.size + 1) 0 (arrFld fx).toList).heap.size) fx u) := by
    refine ⟨⟨by rw [HX.out]; rfl, by rw [HX.out]; rfl, by rw [HX.out]; rfl, by rw [HX.out]; rfl, by rw [HX.out]; rfl, by rw [HX.out]; rfl, by rw [HX.out]; rfl, by rw [HX.out]; rfl, by rw [HX.out]; rfl⟩, Q, ?_, ?_, ?_, ?_⟩
    · intro i y hy
      by_cases e1 : i = 4
      · subst e1; rw [hq1] at hy
        exact ⟨by have := hy.1; omega, by rw [ZS]; have := hy.2; omega⟩
      by_cases e2 : i = 10
      · subst e2; rw [hq2] at hy
        exact ⟨by have := hy.1; omega, by rw [ZS]; have := hy.2; omega⟩
      exact absurd hy (hq0 i y e1 e2)
    · intro i j hij y hi hj
      by_cases e1 : i = 4
      · subst e1; rw [hq1] at hi
        by_cases f1 : j = 4
        · subst f1
          exact absurd rfl hij
        by_cases f2 : j = 10
        · subst f2
          rw [hq2] at hj
          have a1 := hi.1; have a2 := hi.2; have a3 := hj.1; have a4 := hj.2; omega
        exact absurd hj (hq0 j y f1 f2)
      by_cases e2 : i = 10
      · subst e2; rw [hq2] at hi
        by_cases f1 : j = 4
        · subst f1
          rw [hq1] at hj
          have a1 := hi.1; have a2 := hi.2; have a3 := hj.1; have a4 := hj.2; omega
        by_cases f2 : j = 10
        · subst f2
          exact absurd rfl hij
        exact absurd hj (hq0 j y f1 f2)
      exact absurd hi (hq0 i y e1 e2)
    · rw [hq1]; exact F1.out
    · rw [hq2]; exact F2.out
  clear hq0 hq1 hq2
  have ON := Seg.hid (oneFld (atOFld _ _ _ _ EX.out))
  clear Ta1 Tr1 To1 Ua1 M1 Ta2 Tr2 To2 Ua2 M2 ZS
  go_upto_region 9 with fail
  clear po26 pf26 po27 pf27 po28 pf28 po29 pf29 po210 pf210
  generalize (((((w2.setCell ⟨w.heap.size + 1 + 1, 6, none⟩ (.int .i64 u.vk)).setCell ⟨w.heap.size + 1 + 1, 7, none⟩ (.int .i64 u.vn)).setCell ⟨w.heap.size + 1 + 1, 8, none⟩ (.string u.vt)).setCell ⟨w.heap.size + 1 + 1, 9, none⟩ (.bool u.vl)).setCell ⟨w.heap.size + 1 + 1, 10, none⟩ (.slice Y2 u.vi.length x2)) = wz at *
  go_wp2_with (first | (refine wpList_load_row rfl 86 _ rfl (w.heap.size + 1 + 1) rfl _ _ _ _ Uz.out Try.underlying86 rfl infoFld ?_) | (refine wpList_store_mid rfl 86 _ _ rfl (w.heap.size + 1) 0 (arrFld fx) rfl rfl H5.out infoFld ON.out ?_))
  exact bodyPost_ret (v := .agg (arrFld fx)) (results_cell_row rfl _ _ (w.heap.size + 1) _ _ _ _ rfl H4.out Try.underlying86 rfl infoFld) rfl ⟨_, rfl, ⟨fx, rfl, EX.out⟩, B9.out⟩
set_option maxHeartbeats 800000 in
theorem toFieldS_ocore (g o n c : Nat) (us : List Fld) (F0 : Nat → Nat → Value) (w : World) (S : Nat → Prop) (hn : n ≤ 1048576) (hc : n ≤ c) (hg : g < w.heap.size) (hS : ∀ g, S g → g < w.heap.size)
    (hf : ∀ i, i < n → szFld (us.getD i default) ≤ 1048576) (he : ∀ i, i < n → EFld w S (F0 i) (us.getD i default))
    (ha : ∀ i, i < n → ∀ j, j < 11 → w.cell? ⟨g, o + i * 11 + j, none⟩ = some (F0 i j)) :
    Calls Try.prog 48 #[.slice (some ⟨g, o, none⟩) n c] w fun e w' => ∃ F P, e = .returned (.slice (some ⟨w.heap.size, 0, none⟩) n n) ∧ LPart 86 11 EOFld w w' us n n F P := by
  obtain ⟨i0, hi, hz0, hz1, hz2⟩ := info_parts infoZFld
  have HA := Seg.hid ha; have HK := Seg.hid hf; have HH := Seg.hid he
  clear ha hf he
  go_enter Try.func48, Try.ntmps48
  go_wp2_with (at_make; refine wpList_make_full _ rfl _ _ 41 rfl w.heap.size 86 i0 _ 11 Try.underlying41 hi hz0 hz1 .i64 .i64 _ _ n rfl rfl rfl rfl (by rw [hz2]; omega) (by unfold maxLen; omega) (Nat.le_refl _) ?_; intro w1 hown hgr)
  have hb1 := (Below.refl w.heap.size w).grown hgr (Nat.le_refl _) (fun k hk => by cases hk)
  have HM := Seg.hid (Mine.of_made hown hown.1)
  have HB := Seg.hid hb1
  clear hown hgr hb1 hi hz0 hz1 hz2
  go_loopw [4] (fun i wr => ∃ (j : Nat) (F : Nat → Value) (P : Nat → Nat → Prop), j ≤ n ∧ i = .int .i64 j ∧ LPart 86 11 EOFld w wr us n j F P) (fun i _ => n - (intOf i).toNat)
  case atStart => exact ⟨0, _, fun _ _ => False, Nat.zero_le _, rfl, HM.out, HB.out, fun i hi => absurd hi (by omega), fun i hi => absurd hi (by omega), fun i k hi => absurd hi (by omega)⟩
  case round =>
    clear HM HB
    obtain ⟨j, F, P, hj, rfl, HR⟩ := hrel
    by_cases hlt : j < n
    · have CL := cells_later HA.out HR.bel hg
      have c0 : wr.cell? ⟨g, o + j * 11, none⟩ = some (F0 j 0) := CL j ‹j < n› 0 (by omega)
      have c1 : wr.cell? ⟨g, o + j * 11 + 1, none⟩ = some (F0 j 1) := CL j ‹j < n› 1 (by omega)
      have c2 : wr.cell? ⟨g, o + j * 11 + 2, none⟩ = some (F0 j 2) := CL j ‹j < n› 2 (by omega)
      have c3 : wr.cell? ⟨g, o + j * 11 + 3, none⟩ = some (F0 j 3) := CL j ‹j < n› 3 (by omega)
      have c4 : wr.cell? ⟨g, o + j * 11 + 4, none⟩ = some (F0 j 4) := CL j ‹j < n› 4 (by omega)
      have c5 : wr.cell? ⟨g, o + j * 11 + 5, none⟩ = some (F0 j 5) := CL j ‹j < n› 5 (by omega)
      have c6 : wr.cell? ⟨g, o + j * 11 + 6, none⟩ = some (F0 j 6) := CL j ‹j < n› 6 (by omega)
      have c7 : wr.cell? ⟨g, o + j * 11 + 7, none⟩ = some (F0 j 7) := CL j ‹j < n› 7 (by omega)
      have c8 : wr.cell? ⟨g, o + j * 11 + 8, none⟩ = some (F0 j 8) := CL j ‹j < n› 8 (by omega)
      have c9 : wr.cell? ⟨g, o + j * 11 + 9, none⟩ = some (F0 j 9) := CL j ‹j < n› 9 (by omega)
      have c10 : wr.cell? ⟨g, o + j * 11 + 10, none⟩ = some (F0 j 10) := CL j ‹j < n› 10 (by omega)
      clear CL
      have RA : Hid (FldAt wr S (.agg (arrFld (F0 j))) (us.getD j default)) := ⟨_, rfl, keepsFld _ _ _ _ _ _ (HH.out j hlt) (fun g hg => HR.bel.block g (hS g hg)) (fun _ _ => rfl)⟩
      have FW := Seg.hid (HK.out j hlt)
      have hbr : Hid (∀ g, S g → g < wr.heap.size) := fun g hg => Nat.lt_of_lt_of_le (hS g hg) HR.bel.size
      have ST := Seg.hid (fun w1 vs hv b1 he => LPart.step keepsOFld (w1 := w1) HR vs hv b1 he)
      have HM := Seg.hid HR.mine
      have h0 : (0 : Int) ≤ (j : Int) := by omega
      have h1 : (j : Int) < (n : Int) := by omega
      clear HR
      generalize us.getD j default = uj at *
      go_wp2_with fail
      refine (toField_own _ uj wr S RA.out hbr.out FW.out).mono ?_
      rintro e w1 ⟨v1, rfl, ⟨f1, rfl, he1⟩, b1⟩
      have S1 := Seg.hid (ST.out w1 (arrFld f1).toList rfl b1 (keepsOFld _ _ _ _ _ _ he1 (Nat.le_refl _) (fun _ _ => rfl) (fun q hq => by
        match q, hq with
        | 0, _ => rfl
        | 1, _ => rfl
        | 2, _ => rfl
        | 3, _ => rfl
        | 4, _ => rfl
        | 5, _ => rfl
        | 6, _ => rfl
        | 7, _ => rfl
        | 8, _ => rfl
        | 9, _ => rfl
        | 10, _ => rfl
        )))
      have M1 : Hid (w1.there w.heap.size (j * 11) (arrFld f1).size) := Own.mine_there (o := j * 11) (m := 11) (HM.out.below b1 HM.out.lt) (by omega)
      have ON := Seg.hid (oneFld (atOFld _ _ _ _ he1))
      clear b1 he1
      go_wp2_with (refine wpList_store_mid rfl 86 _ _ rfl w.heap.size (j * 11) (arrFld f1) rfl rfl ?ht infoFld ON.out ?_; case ht => exact M1.out)
      go_roundw
      case rel => exact ⟨j + 1, _, _, by omega, by go_num, S1.out⟩
      case measure => simp [intOf]; omega
    · have : j = n := by omega
      subst this
      go_wp2
      go_ret
      exact ⟨F, P, rfl, HR⟩
theorem toFieldS_own (v : Value) (us : List Fld) (w : World) (S : Nat → Prop) (hv : LAt 11 EFld w S v us) (hS : ∀ g, S g → g < w.heap.size) (hf : szL szFld us ≤ 1048576) :
    Calls Try.prog 48 #[v] w fun e w' => ∃ v', e = .returned v' ∧ FldsOwn w' (seg w.heap.size w'.heap.size) v' us ∧ Below w.heap.size w w' := by
  obtain ⟨hn, A, c, rfl, h⟩ := hv
  by_cases hz : us.length = 0
  · obtain rfl := List.length_eq_zero_iff.1 hz
    refine (toFieldS_none A c w).mono fun e w' ⟨v', a1, ⟨A', c', a2⟩, a3⟩ => ⟨v', a1, ?_, a3⟩
    rw [a2]
    exact LOwn.nil _ _ _ _
  obtain ⟨g, o, F, rfl, hg, hc, hcell, hel⟩ := h.resolve_left hz
  exact (toFieldS_ocore g o us.length c us F w S (szL_len _ hf) hc (hS g hg) hS (fun i hi => szL_one _ hf hi) hel hcell).mono fun e w' ⟨F, P, a1, a2⟩ => ⟨_, a1, a2.own (szL_len _ hf), a2.bel⟩
end Go.Proofs.Ytdhicmbfknagjaa.Ow
namespace Go.Proofs.Ytdhicmbfknagjaa.Ow
set_option maxRecDepth 8000
open Go.RowKit
open Recs
open Ls
set_option linter.unusedVariables false
set_option maxHeartbeats 1600000 in
theorem toSchema_own (v : Value) (u : Sch) (w : World) (S : Nat → Prop) (hv : SchAt w S v u) (hS : ∀ g, S g → g < w.heap.size) (hf : szSch u ≤ 1048576) :
    Calls Try.prog 14 #[v] w fun e w' => ∃ v', e = .returned v' ∧ SchOwn w' (seg w.heap.size w'.heap.size) v' u ∧ Below w.heap.size w w' := by
  obtain ⟨f, rfl, y0, y1⟩ := hv
  try simp only [arrSch]
  rw [show f 0 = _ from y0]
  clear y0
  obtain ⟨A1, c1, g1⟩ := y1.form
  rw [g1] at y1 ⊢
  have H1 := Seg.hid y1
  clear y1 g1
  unfold szSch at hf
  go_enter Try.func14, Try.ntmps14
  go_wp2_with fail
  refine (toFieldS_own _ u.fields (((w.alloc _).alloc _).alloc _) S (H1.out.below keepsFld (below3 w _ _ _) hS) (fun g hg => by rw [hsz, hsz, hsz]; have := hS g hg; omega) (by omega)).mono ?_
  rintro e w1 ⟨v1, rfl, l1, b1⟩
  have B1 := Seg.hid (chain (below3 w _ _ _) b1)
  have Ta1 : Hid (w1.heap[w.heap.size]? = some (.cells #[.string u.name, .slice A1 u.fields.length c1] 37 (0, 0))) := (b1.block w.heap.size (by rw [hsz, hsz, hsz]; omega)).trans (at3z w _ _ _)
  have Tr1 : Hid (w1.heap[w.heap.size + 1]? = some (.cells #[.string ByteArray.empty, .slice none 0 0] 43 (0, 0))) := (b1.block (w.heap.size + 1) (by rw [hsz, hsz, hsz]; omega)).trans (at3 w _ _ _)
  have To1 : Hid (w1.heap[w.heap.size + 1 + 1]? = some (.cells #[.string u.name, .slice none 0 0] 43 (0, 0))) := (b1.block (w.heap.size + 1 + 1) (by rw [hsz, hsz, hsz]; omega)).trans (Cells.at3' w _ _ _)
  have s1 : w.heap.size + 3 ≤ w1.heap.size := by have := b1.size; rw [hsz, hsz, hsz] at this; omega
  have M1 : Hid (FldsOwn w1 (seg (w.heap.size + 3) w1.heap.size) v1 u.fields) := by
    rw [hsz, hsz, hsz] at l1
    exact l1
  obtain ⟨Y1, x1, r1⟩ := LOwn.form M1.out
  subst r1
  clear b1 l1
  have N11 := M1
  have po11 : (w1).cell? ⟨w.heap.size + 1 + 1, 1, none⟩ = some (.slice none 0 0) := cell_of_row (w1) _ 1 _ _ (0, 0) (To1.out)
  have pf11 : (w1).frozen? ⟨w.heap.size + 1 + 1, 1, none⟩ = false := frozen_of_row (w1) _ 1 _ _ (To1.out)
  have qo11 : Hid (((w1.setCell ⟨w.heap.size + 1 + 1, 1, none⟩ (.slice Y1 u.fields.length x1))).heap[w.heap.size + 1 + 1]? = some (.cells #[.string u.name, .slice Y1 u.fields.length x1] 43 (0, 0))) := heap_setCell_same (w1) (w.heap.size + 1 + 1) 1 _ _ (.slice Y1 u.fields.length x1) (To1.out)
  have Uo1 := Seg.hid (qo11.out)
  have Ur1 := Seg.hid ((heap_setCell_other (w1) ⟨w.heap.size + 1 + 1, 1, none⟩ (w.heap.size + 1) (.slice Y1 u.fields.length x1) (by simp)).trans (Tr1.out))
  have Ua1 := Seg.hid ((heap_setCell_other (w1) ⟨w.heap.size + 1 + 1, 1, none⟩ w.heap.size (.slice Y1 u.fields.length x1) (by simp; omega)).trans (Ta1.out))
  have D1 : Hid (Below w.heap.size w (w1.setCell ⟨w.heap.size + 1 + 1, 1, none⟩ (.slice Y1 u.fields.length x1))) := (B1.out).setCell (p := ⟨w.heap.size + 1 + 1, 1, none⟩) (by simp; omega) (.slice Y1 u.fields.length x1)
  have N11' : Hid (FldsOwn (w1.setCell ⟨w.heap.size + 1 + 1, 1, none⟩ (.slice Y1 u.fields.length x1)) (seg (w.heap.size + 3) w1.heap.size) (.slice Y1 u.fields.length x1) u.fields) := LOwn.keep keepsOFld N11.out (by simp) (fun g hg => by have := hg.1; rw [heap_setCell_other _ _ _ _ (by show _ ≠ w.heap.size + 1 + 1; omega)])
  obtain ⟨fx, hfx⟩ : ∃ fx : Nat → Value, fx = (fun q => if q = 0 then .string u.name else .slice Y1 u.fields.length x1) := ⟨_, rfl⟩
  have HX := Seg.hid hfx
  have Uz : Hid ((w1.setCell ⟨w.heap.size + 1 + 1, 1, none⟩ (.slice Y1 u.fields.length x1)).heap[w.heap.size + 1 + 1]? = some (.cells (arrSch fx) 43 (0, 0))) := by
    show _ = _
    rw [hfx]
    exact Uo1.out
  clear hfx
  have H5a := Cells.there_of Ur1.out
  have H5 : Hid ((w1.setCell ⟨w.heap.size + 1 + 1, 1, none⟩ (.slice Y1 u.fields.length x1)).there (w.heap.size + 1) 0 (arrSch fx).size) := H5a
  clear H5a
  have H4 := Seg.hid (Cells.whole (vs := arrSch fx) Ur1.out rfl)
  have B9 := Seg.hid (Cells.below_setCells (g := w.heap.size + 1) (by omega) (arrSch fx).toList 0 _ _ D1.out)
  have ZS : ((w1.setCell ⟨w.heap.size + 1 + 1, 1, none⟩ (.slice Y1 u.fields.length x1)).setCells (w.heap.size + 1) 0 (arrSch fx).toList).heap.size = w1.heap.size := by rw [Cells.size_setCells]; simp
  have F1 : Hid (FldsOwn ((w1.setCell ⟨w.heap.size + 1 + 1, 1, none⟩ (.slice Y1 u.fields.length x1)).setCells (w.heap.size + 1) 0 (arrSch fx).toList) (seg (w.heap.size + 3) w1.heap.size) (fx 1) u.fields) := by
    show FldsOwn _ _ _ _
    rw [show fx 1 = .slice Y1 u.fields.length x1 by rw [HX.out]; rfl]
    refine LOwn.keep keepsOFld N11'.out (by rw [Cells.size_setCells]; exact Nat.le_refl _) (fun g hg => ?_)
    have := hg.1
    rw [Cells.heap_setCells_other _ _ (by omega)]
  obtain ⟨Q, hQ⟩ : ∃ Q : Nat → Nat → Prop, Q = (fun i => if i = 1 then (seg (w.heap.size + 3) w1.heap.size) else fun _ => False) := ⟨_, rfl⟩
  have hq1 : Q 1 = (seg (w.heap.size + 3) w1.heap.size) := by rw [hQ]; rfl
  have hq0 : ∀ i y, i ≠ 1 → ¬ Q i y := by
    intro i y n1 hy
    rw [hQ] at hy
    simp only [if_neg n1] at hy
  clear hQ
  have EX : Hid (EOSch ((w1.setCell ⟨w.heap.size + 1 + 1, 1, none⟩ (.slice Y1 u.fields.length x1)).setCells (w.heap.size + 1) 0 (arrSch fx).toList) (seg w.heap.size ((w1.setCell ⟨w.heap.size + 1 + 1, 1, none⟩ (.slice Y1 u.fields.length x1)).setCells (w.heap.size + 1) 0 (arrSch fx).toList).heap.size) fx u) := by
    refine ⟨by rw [HX.out]; rfl, Q, ?_, ?_, ?_⟩
    · intro i y hy
      by_cases e1 : i = 1
      · subst e1; rw [hq1] at hy
        exact ⟨by have := hy.1; omega, by rw [ZS]; have := hy.2; omega⟩
      exact absurd hy (hq0 i y e1)
    · intro i j hij y hi hj
      by_cases e1 : i = 1
      · subst e1; rw [hq1] at hi
        by_cases f1 : j = 1
        · subst f1
          exact absurd rfl hij
        exact absurd hj (hq0 j y f1)
      exact absurd hi (hq0 i y e1)
    · rw [hq1]; exact F1.out
  clear hq0 hq1
  have ON := Seg.hid (oneSch (atOSch _ _ _ _ EX.out))
  clear Ta1 Tr1 To1 Ua1 M1 ZS
  go_upto_region 4 with fail
  clear po11 pf11
  generalize (w1.setCell ⟨w.heap.size + 1 + 1, 1, none⟩ (.slice Y1 u.fields.length x1)) = wz at *
  go_wp2_with (first | (refine wpList_load_row rfl 43 _ rfl (w.heap.size + 1 + 1) rfl _ _ _ _ Uz.out Try.underlying43 rfl infoSch ?_) | (refine wpList_store_mid rfl 43 _ _ rfl (w.heap.size + 1) 0 (arrSch fx) rfl rfl H5.out infoSch ON.out ?_))
  exact bodyPost_ret (v := .agg (arrSch fx)) (results_cell_row rfl _ _ (w.heap.size + 1) _ _ _ _ rfl H4.out Try.underlying43 rfl infoSch) rfl ⟨_, rfl, ⟨fx, rfl, EX.out⟩, B9.out⟩
end Go.Proofs.Ytdhicmbfknagjaa.Ow
