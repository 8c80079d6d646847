/- Schema: the law's copier answers memory of its own; How many marks a Schema takes. -/
import Derived.Test.YtdhicmbfknagjaaJMC23
import Derived.Test.YtdhicmbfknagjaaJMC26
namespace Go.Proofs.Ytdhicmbfknagjaa.Ow
set_option maxRecDepth 8000
open Go.RowKit
open Recs
open Ls
set_option linter.unusedVariables false
set_option maxHeartbeats 1600000 in
theorem toSchema_own (v : Value) (u : Sch) (w : World) (S : Nat → Prop) (hv : SchAt w S v u) (hS : ∀ g, S g → g < w.heap.size) (hf : szSch u ≤ 1048576) :
    Calls Try.prog 14 #[v] w fun e w' => ∃ v', e = .returned v' ∧ SchOwn w' (seg w.heap.size w'.heap.size) v' u ∧ Below w.heap.size w w' := by
  obtain ⟨f, rfl, y0, y1⟩ := hv
  try simp only [arrSch]
  rw [show f 0 = _ from y0]
  clear y0
  obtain ⟨A1, c1, g1⟩ := y1.form
  rw [g1] at y1 ⊢
  have H1 := Seg.hid y1
  clear y1 g1
  unfold szSch at hf
  go_enter Try.func14, Try.ntmps14
  go_wp2_with fail
  refine (toFieldS_own _ u.fields (((w.alloc _).alloc _).alloc _) S (H1.out.below keepsFld (below3 w _ _ _) hS) (fun g hg => by rw [hsz, hsz, hsz]; have := hS g hg; omega) (by omega)).mono ?_
  rintro e w1 ⟨v1, rfl, l1, b1⟩
  have B1 := Seg.hid (chain (below3 w _ _ _) b1)
  have Ta1 : Hid (w1.heap[w.heap.size]? = some (.cells #[.string u.name, .slice A1 u.fields.length c1] 37 (0, 0))) := (b1.block w.heap.size (by rw [hsz, hsz, hsz]; omega)).trans (at3z w _ _ _)
  have Tr1 : Hid (w1.heap[w.heap.size + 1]? = some (.cells #[.string ByteArray.empty, .slice none 0 0] 43 (0, 0))) := (b1.block (w.heap.size + 1) (by rw [hsz, hsz, hsz]; omega)).trans (at3 w _ _ _)
  have To1 : Hid (w1.heap[w.heap.size + 1 + 1]? = some (.cells #[.string u.name, .slice none 0 0] 43 (0, 0))) := (b1.block (w.heap.size + 1 + 1) (by rw [hsz, hsz, hsz]; omega)).trans (Cells.at3' w _ _ _)
  have s1 : w.heap.size + 3 ≤ w1.heap.size := by have := b1.size; rw [hsz, hsz, hsz] at this; omega
  have M1 : Hid (FldsOwn w1 (seg (w.heap.size + 3) w1.heap.size) v1 u.fields) := by
    rw [hsz, hsz, hsz] at l1
    exact l1
  obtain ⟨Y1, x1, r1⟩ := LOwn.form M1.out
  subst r1
  clear b1 l1
  have N11 := M1
  have po11 : (w1).cell? ⟨w.heap.size + 1 + 1, 1, none⟩ = some (.slice none 0 0) := cell_of_row (w1) _ 1 _ _ (0, 0) (To1.out)
  have pf11 : (w1).frozen? ⟨w.heap.size + 1 + 1, 1, none⟩ = false := frozen_of_row (w1) _ 1 _ _ (To1.out)
  have qo11 : Hid (((w1.setCell ⟨w.heap.size + 1 + 1, 1, none⟩ (.slice Y1 u.fields.length x1))).heap[w.heap.size + 1 + 1]? = some (.cells #[.string u.name, .slice Y1 u.fields.length x1] 43 (0, 0))) := heap_setCell_same (w1) (w.heap.size + 1 + 1) 1 _ _ (.slice Y1 u.fields.length x1) (To1.out)
  have Uo1 := Seg.hid (qo11.out)
  have Ur1 := Seg.hid ((heap_setCell_other (w1) ⟨w.heap.size + 1 + 1, 1, none⟩ (w.heap.size + 1) (.slice Y1 u.fields.length x1) (by simp)).trans (Tr1.out))
  have Ua1 := Seg.hid ((heap_setCell_other (w1) ⟨w.heap.size + 1 + 1, 1, none⟩ w.heap.size (.slice Y1 u.fields.length x1) (by simp; omega)).trans (Ta1.out))
  have D1 : Hid (Below w.heap.size w (w1.setCell ⟨w.heap.size + 1 + 1, 1, none⟩ (.slice Y1 u.fields.length x1))) := (B1.out).setCell (p := ⟨w.heap.size + 1 + 1, 1, none⟩) (by simp; omega) (.slice Y1 u.fields.length x1)
  have N11' : Hid (FldsOwn (w1.setCell ⟨w.heap.size + 1 + 1, 1, none⟩ (.slice Y1 u.fields.length x1)) (seg (w.heap.size + 3) w1.heap.size) (.slice Y1 u.fields.length x1) u.fields) := LOwn.keep keepsOFld N11.out (by simp) (fun g hg => by have := hg.1; rw [heap_setCell_other _ _ _ _ (by show _ ≠ w.heap.size + 1 + 1; omega)])
  obtain ⟨fx, hfx⟩ : ∃ fx : Nat → Value, fx = (fun q => if q = 0 then .string u.name else .slice Y1 u.fields.length x1) := ⟨_, rfl⟩
  have HX := Seg.hid hfx
  have Uz : Hid ((w1.setCell ⟨w.heap.size + 1 + 1, 1, none⟩ (.slice Y1 u.fields.length x1)).heap[w.heap.size + 1 + 1]? = some (.cells (arrSch fx) 43 (0, 0))) := by
    show _ = _
    rw [hfx]
    exact Uo1.out
  clear hfx
  have H5a := Cells.there_of Ur1.out
  have H5 : Hid ((w1.setCell ⟨w.heap.size + 1 + 1, 1, none⟩ (.slice Y1 u.fields.length x1)).there (w.heap.size + 1) 0 (arrSch fx).size) := H5a
  clear H5a
  have H4 := Seg.hid (Cells.whole (vs := arrSch fx) Ur1.out rfl)
  have B9 := Seg.hid (Cells.below_setCells (g := w.heap.size + 1) (by omega) (arrSch fx).toList 0 _ _ D1.out)
  have ZS : ((w1.setCell ⟨w.heap.size + 1 + 1, 1, none⟩ (.slice Y1 u.fields.length x1)).setCells (w.heap.size + 1) 0 (arrSch fx).toList).heap.size = w1.heap.size := by rw [Cells.size_setCells]; simp
  have F1 : Hid (FldsOwn ((w1.setCell ⟨w.heap.size + 1 + 1, 1, none⟩ (.slice Y1 u.fields.length x1)).setCells (w.heap.size + 1) 0 (arrSch fx).toList) (seg (w.heap.size + 3) w1.heap.size) (fx 1) u.fields) := by
    show FldsOwn _ _ _ _
    rw [show fx 1 = .slice Y1 u.fields.length x1 by rw [HX.out]; rfl]
    refine LOwn.keep keepsOFld N11'.out (by rw [Cells.size_setCells]; exact Nat.le_refl _) (fun g hg => ?_)
    have := hg.1
    rw [Cells.heap_setCells_other _ _ (by omega)]
  obtain ⟨Q, hQ⟩ : ∃ Q : Nat → Nat → Prop, Q = (fun i => if i = 1 then (seg (w.heap.size + 3) w1.heap.size) else fun _ => False) := ⟨_, rfl⟩
  have hq1 : Q 1 = (seg (w.heap.size + 3) w1.heap.size) := by rw [hQ]; rfl
  have hq0 : ∀ i y, i ≠ 1 → ¬ Q i y := by
    intro i y n1 hy
    rw [hQ] at hy
    simp only [if_neg n1] at hy
  clear hQ
  have EX : Hid (EOSch ((w1.setCell ⟨w.heap.size + 1 + 1, 1, none⟩ (.slice Y1 u.fields.length x1)).setCells (w.heap.size + 1) 0 (arrSch fx).toList) (seg w.heap.size ((w1.setCell ⟨w.heap.size + 1 + 1, 1, none⟩ (.slice Y1 u.fields.length x1)).setCells (w.heap.size + 1) 0 (arrSch fx).toList).heap.size) fx u) := by
    refine ⟨by rw [HX.out]; rfl, Q, ?_, ?_, ?_⟩
    · intro i y hy
      by_cases e1 : i = 1
      · subst e1; rw [hq1] at hy
        exact ⟨by have := hy.1; omega, by rw [ZS]; have := hy.2; omega⟩
      exact absurd hy (hq0 i y e1)
    · intro i j hij y hi hj
      by_cases e1 : i = 1
      · subst e1; rw [hq1] at hi
        by_cases f1 : j = 1
        · subst f1
          exact absurd rfl hij
        exact absurd hj (hq0 j y f1)
      exact absurd hi (hq0 i y e1)
    · rw [hq1]; exact F1.out
  clear hq0 hq1
  have ON := Seg.hid (oneSch (atOSch _ _ _ _ EX.out))
  clear Ta1 Tr1 To1 Ua1 M1 ZS
  go_upto_region 4 with fail
  clear po11 pf11
  generalize (w1.setCell ⟨w.heap.size + 1 + 1, 1, none⟩ (.slice Y1 u.fields.length x1)) = wz at *
  go_wp2_with (first | (refine wpList_load_row rfl 43 _ rfl (w.heap.size + 1 + 1) rfl _ _ _ _ Uz.out Try.underlying43 rfl infoSch ?_) | (refine wpList_store_mid rfl 43 _ _ rfl (w.heap.size + 1) 0 (arrSch fx) rfl rfl H5.out infoSch ON.out ?_))
  exact bodyPost_ret (v := .agg (arrSch fx)) (results_cell_row rfl _ _ (w.heap.size + 1) _ _ _ _ rfl H4.out Try.underlying43 rfl infoSch) rfl ⟨_, rfl, ⟨fx, rfl, EX.out⟩, B9.out⟩
end Go.Proofs.Ytdhicmbfknagjaa.Ow
namespace Go.Proofs.Ytdhicmbfknagjaa.FwS
set_option maxRecDepth 8000
open Go.RowKit
open Ls
theorem itms : ∀ us : List Itm, tot Ow.nItm us = 2 * us.length
  | [] => rfl
  | t :: r => by simp only [tot, itms r, Ow.nItm, List.length_cons]; omega
theorem fld (f : Fld) : Ow.nFld f ≤ 9 + 2 * szFld f := by
  unfold Ow.nFld szFld szVlu szL
  rw [Ow.nX_tot, itms]
  simp only []
  omega
theorem flds : ∀ us : List Fld, tot Ow.nFld us ≤ 9 * us.length + 2 * tot szFld us
  | [] => by simp [tot]
  | f :: r => by
    have h1 := flds r
    have h2 := fld f
    simp only [tot, List.length_cons]
    omega
theorem sch (u : Sch) (h : szSch u ≤ 1048576) : Ow.nSch u ≤ 1000000000 := by
  have := flds u.fields
  unfold szSch szL at h
  unfold Ow.nSch
  omega
end Go.Proofs.Ytdhicmbfknagjaa.FwS
