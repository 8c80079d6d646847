/- The law's copier of numbers: what it answers is its own; Arrival: the law's copiers answer memory of their own. -/
import Derived.Test.YtkibaimemomjpaaJE40
import Derived.Test.YtkibaimemomjpaaJE03
import Derived.Test.YtkibaimemomjpaaJE21
namespace Go.Proofs.Ytkibaimemomjpaa.Ow
set_option maxRecDepth 8000
open Go.RowKit
open Recs
open Ls
set_option linter.unusedVariables false
set_option maxHeartbeats 400000 in
theorem toIntS_ocore (g o n c : Nat) (ns : List Int) (w : World) (hn : n ≤ 1048576) (hc : n ≤ c) (hg : g < w.heap.size) (hnl : ns.length = n)
    (ha : ∀ i, i < n → w.cell? ⟨g, o + i, none⟩ = some (.int .i64 (ns.getD i default))) :
    Calls Try.prog 8 #[.slice (some ⟨g, o, none⟩) n c] w fun e w' => ∃ v, e = .returned v ∧ IntsOwn w' (seg w.heap.size w'.heap.size) v ns ∧ Below w.heap.size w w' := by
  obtain ⟨i0, hi, hz0, hz1, hz2⟩ := info_parts infoI
  have HA := Seg.hid ha
  have HN := Seg.hid hnl
  clear ha hnl
  go_enter Try.func8, Try.ntmps8
  go_wp2_with (at_make; refine wpList_make_full _ rfl _ _ 27 rfl w.heap.size 3 i0 _ 1 Try.underlying27 hi hz0 hz1 .i64 .i64 _ _ n rfl rfl rfl rfl (by rw [hz2]; omega) (by unfold maxLen; omega) (Nat.le_refl _) ?_; intro w1 hown hgr)
  have hb1 := (Below.refl w.heap.size w).grown hgr (Nat.le_refl _) (fun k hk => by cases hk)
  have HM := Seg.hid (Mine.of_made hown hown.1)
  have HB := Seg.hid hb1
  clear hown hgr hb1 hi hz0 hz1 hz2
  go_loopw [4] (fun i wr => ∃ (j : Nat) (F : Nat → Value), j ≤ n ∧ i = .int .i64 j ∧ Hid (Mine wr 3 1 w.heap.size n F ∧ Below w.heap.size w wr ∧ ∀ i, i < j → F i = .int .i64 (ns.getD i default))) (fun i _ => n - (intOf i).toNat)
  case atStart => exact ⟨0, _, Nat.zero_le _, rfl, HM.out, HB.out, fun i hi => absurd hi (by omega)⟩
  case round =>
    clear HM HB
    obtain ⟨j, F, hj, rfl, HR⟩ := hrel
    by_cases hlt : j < n
    · have c1 : wr.cell? ⟨g, o + j, none⟩ = some (.int .i64 (ns.getD j default)) := by rw [HR.out.2.1.cell (p := ⟨g, o + j, none⟩) hg]; exact HA.out j hlt
      have h0 : (0 : Int) ≤ (j : Int) := by omega
      have h1 : (j : Int) < (n : Int) := by omega
      have d1 := HR.out.1.cell j (by omega)
      have f1 := HR.out.1.frozen j
      have M2 := Seg.hid (HR.out.1.set j (.int .i64 (ns.getD j default)))
      have B2 := Seg.hid (HR.out.2.1.setCell (p := ⟨w.heap.size, j, none⟩) (Nat.le_refl _) (.int .i64 (ns.getD j default)))
      have R2 : Hid (∀ i, i < j + 1 → (fun i => if i = j then (.int .i64 (ns.getD j default)) else F i) i = Value.int .i64 (ns.getD i default)) := fun i hi => by
        by_cases he : i = j
        · subst he; simp
        · simp [he]; simpa using HR.out.2.2 i (by omega)
      generalize ns.getD j default = nj at *
      go_wp2
      go_roundw
      case rel => exact ⟨j + 1, _, by omega, by go_num, M2.out, B2.out, R2.out⟩
      case measure => simp [intOf]; omega
    · have : j = n := by omega
      subst this
      go_wp2
      go_ret
      refine ⟨.slice (some ⟨w.heap.size, 0, none⟩) j j, rfl, ⟨by rw [HN.out]; omega, _, _, by rw [HN.out], .inr ⟨w.heap.size, F, fun _ _ => False, rfl, ⟨Nat.le_refl _, HR.out.1.lt⟩, fun i hi x hx => hx.elim, ?_, rfl, fun i hi => ?_, fun i hi x hx => hx.elim, fun i k hi hk hik x hx => hx.elim⟩⟩, HR.out.2.1⟩
      · rw [HN.out]; exact HR.out.1
      · rw [HN.out] at hi
        show F (i * 1 + 0) = _
        rw [Nat.mul_one, Nat.add_zero]
        exact HR.out.2.2 i hi
theorem toIntS_own (v : Value) (ns : List Int) (w : World) (S : Nat → Prop) (hv : IntsAt w S v ns) (hS : ∀ g, S g → g < w.heap.size) (hl : ns.length ≤ 1048576) :
    Calls Try.prog 8 #[v] w fun e w' => ∃ v', e = .returned v' ∧ IntsOwn w' (seg w.heap.size w'.heap.size) v' ns ∧ Below w.heap.size w w' := by
  obtain ⟨hn, A, c, rfl, h⟩ := hv
  by_cases hz : ns.length = 0
  · obtain rfl := List.length_eq_zero_iff.1 hz
    refine (toIntS_none A c w).mono fun e w' ⟨v', a1, ⟨A', c', a2⟩, a3⟩ => ⟨v', a1, ?_, a3⟩
    rw [a2]
    exact LOwn.nil _ _ _ _
  obtain ⟨g, o, F, rfl, hg, hc, hcell, hel⟩ := h.resolve_left hz
  exact toIntS_ocore g o ns.length c ns w hl hc (hS g hg) rfl (int_cell hcell hel)
end Go.Proofs.Ytkibaimemomjpaa.Ow
namespace Go.Proofs.Ytkibaimemomjpaa.Ow
set_option maxRecDepth 8000
open Go.RowKit
open Recs
open Ls
set_option linter.unusedVariables false
def ArrOwn (w : World) (S : Nat → Prop) (v : Value) (u : Arr) : Prop := ∃ f, v = .agg (arrArr f) ∧ EOArr w S f u
set_option maxHeartbeats 1600000 in
theorem toArrival_own (v : Value) (u : Arr) (w : World) (S : Nat → Prop) (hv : ArrAt w S v u) (hS : ∀ g, S g → g < w.heap.size) (hf : szArr u ≤ 1048576) :
    Calls Try.prog 91 #[v] w fun e w' => ∃ v', e = .returned v' ∧ ArrOwn w' (seg w.heap.size w'.heap.size) v' u ∧ Below w.heap.size w w' := by
  obtain ⟨f, rfl, y0, y1, y2⟩ := hv
  try simp only [arrArr]
  rw [show f 0 = _ from y0]
  clear y0
  obtain ⟨A1, c1, g1⟩ := y1.form
  rw [g1] at y1 ⊢
  have H1 := Seg.hid y1
  clear y1 g1
  rw [show f 2 = _ from y2]
  clear y2
  unfold szArr at hf
  go_enter Try.func91, Try.ntmps91
  go_wp2_with fail
  refine (toIntS_own _ u.row (((w.alloc _).alloc _).alloc _) S (H1.out.below keepsI (below3 w _ _ _) hS) (fun g hg => by rw [hsz, hsz, hsz]; have := hS g hg; omega) (by omega)).mono ?_
  rintro e w1 ⟨v1, rfl, l1, b1⟩
  have B1 := Seg.hid (chain (below3 w _ _ _) b1)
  have Ta1 : Hid (w1.heap[w.heap.size]? = some (.cells #[.int .i64 u.time, .slice A1 u.row.length c1, .bool u.gone] 129 (0, 0))) := (b1.block w.heap.size (by rw [hsz, hsz, hsz]; omega)).trans (at3z w _ _ _)
  have Tr1 : Hid (w1.heap[w.heap.size + 1]? = some (.cells #[.int .i64 0, .slice none 0 0, .bool false] 88 (0, 0))) := (b1.block (w.heap.size + 1) (by rw [hsz, hsz, hsz]; omega)).trans (at3 w _ _ _)
  have To1 : Hid (w1.heap[w.heap.size + 1 + 1]? = some (.cells #[.int .i64 u.time, .slice none 0 0, .bool false] 88 (0, 0))) := (b1.block (w.heap.size + 1 + 1) (by rw [hsz, hsz, hsz]; omega)).trans (Cells.at3' w _ _ _)
  have s1 : w.heap.size + 3 ≤ w1.heap.size := by have := b1.size; rw [hsz, hsz, hsz] at this; omega
  have M1 : Hid (IntsOwn w1 (seg (w.heap.size + 3) w1.heap.size) v1 u.row) := by
    rw [hsz, hsz, hsz] at l1
    exact l1
  obtain ⟨Y1, x1, r1⟩ := LOwn.form M1.out
  subst r1
  clear b1 l1
  have N11 := M1
  have pa12 : w1.cell? ⟨w.heap.size, 2, none⟩ = some (.bool u.gone) := cell_of_row w1 _ 2 _ _ (0, 0) Ta1.out
  have po11 : (w1).cell? ⟨w.heap.size + 1 + 1, 1, none⟩ = some (.slice none 0 0) := cell_of_row (w1) _ 1 _ _ (0, 0) (To1.out)
  have pf11 : (w1).frozen? ⟨w.heap.size + 1 + 1, 1, none⟩ = false := frozen_of_row (w1) _ 1 _ _ (To1.out)
  have qo11 : Hid (((w1.setCell ⟨w.heap.size + 1 + 1, 1, none⟩ (.slice Y1 u.row.length x1))).heap[w.heap.size + 1 + 1]? = some (.cells #[.int .i64 u.time, .slice Y1 u.row.length x1, .bool false] 88 (0, 0))) := heap_setCell_same (w1) (w.heap.size + 1 + 1) 1 _ _ (.slice Y1 u.row.length x1) (To1.out)
  have po12 : ((w1.setCell ⟨w.heap.size + 1 + 1, 1, none⟩ (.slice Y1 u.row.length x1))).cell? ⟨w.heap.size + 1 + 1, 2, none⟩ = some (.bool false) := cell_of_row ((w1.setCell ⟨w.heap.size + 1 + 1, 1, none⟩ (.slice Y1 u.row.length x1))) _ 2 _ _ (0, 0) (qo11.out)
  have pf12 : ((w1.setCell ⟨w.heap.size + 1 + 1, 1, none⟩ (.slice Y1 u.row.length x1))).frozen? ⟨w.heap.size + 1 + 1, 2, none⟩ = false := frozen_of_row ((w1.setCell ⟨w.heap.size + 1 + 1, 1, none⟩ (.slice Y1 u.row.length x1))) _ 2 _ _ (qo11.out)
  have qo12 : Hid ((((w1.setCell ⟨w.heap.size + 1 + 1, 1, none⟩ (.slice Y1 u.row.length x1)).setCell ⟨w.heap.size + 1 + 1, 2, none⟩ (.bool u.gone))).heap[w.heap.size + 1 + 1]? = some (.cells #[.int .i64 u.time, .slice Y1 u.row.length x1, .bool u.gone] 88 (0, 0))) := heap_setCell_same ((w1.setCell ⟨w.heap.size + 1 + 1, 1, none⟩ (.slice Y1 u.row.length x1))) (w.heap.size + 1 + 1) 2 _ _ (.bool u.gone) (qo11.out)
  have Uo1 := Seg.hid (qo12.out)
  have Ur1 := Seg.hid ((heap_setCell_other ((w1.setCell ⟨w.heap.size + 1 + 1, 1, none⟩ (.slice Y1 u.row.length x1))) ⟨w.heap.size + 1 + 1, 2, none⟩ (w.heap.size + 1) (.bool u.gone) (by simp)).trans ((heap_setCell_other (w1) ⟨w.heap.size + 1 + 1, 1, none⟩ (w.heap.size + 1) (.slice Y1 u.row.length x1) (by simp)).trans (Tr1.out)))
  have Ua1 := Seg.hid ((heap_setCell_other ((w1.setCell ⟨w.heap.size + 1 + 1, 1, none⟩ (.slice Y1 u.row.length x1))) ⟨w.heap.size + 1 + 1, 2, none⟩ w.heap.size (.bool u.gone) (by simp; omega)).trans ((heap_setCell_other (w1) ⟨w.heap.size + 1 + 1, 1, none⟩ w.heap.size (.slice Y1 u.row.length x1) (by simp; omega)).trans (Ta1.out)))
  have D1 : Hid (Below w.heap.size w ((w1.setCell ⟨w.heap.size + 1 + 1, 1, none⟩ (.slice Y1 u.row.length x1)).setCell ⟨w.heap.size + 1 + 1, 2, none⟩ (.bool u.gone))) := ((B1.out).setCell (p := ⟨w.heap.size + 1 + 1, 1, none⟩) (by simp; omega) (.slice Y1 u.row.length x1)).setCell (p := ⟨w.heap.size + 1 + 1, 2, none⟩) (by simp; omega) (.bool u.gone)
  have N11' : Hid (IntsOwn ((w1.setCell ⟨w.heap.size + 1 + 1, 1, none⟩ (.slice Y1 u.row.length x1)).setCell ⟨w.heap.size + 1 + 1, 2, none⟩ (.bool u.gone)) (seg (w.heap.size + 3) w1.heap.size) (.slice Y1 u.row.length x1) u.row) := LOwn.keep keepsOI N11.out (by simp) (fun g hg => by have := hg.1; rw [heap_setCell_other _ _ _ _ (by show _ ≠ w.heap.size + 1 + 1; omega), heap_setCell_other _ _ _ _ (by show _ ≠ w.heap.size + 1 + 1; omega)])
  obtain ⟨fx, hfx⟩ : ∃ fx : Nat → Value, fx = (fun q => if q = 0 then .int .i64 u.time else if q = 1 then .slice Y1 u.row.length x1 else .bool u.gone) := ⟨_, rfl⟩
  have HX := Seg.hid hfx
  have Uz : Hid (((w1.setCell ⟨w.heap.size + 1 + 1, 1, none⟩ (.slice Y1 u.row.length x1)).setCell ⟨w.heap.size + 1 + 1, 2, none⟩ (.bool u.gone)).heap[w.heap.size + 1 + 1]? = some (.cells (arrArr fx) 88 (0, 0))) := by
    show _ = _
    rw [hfx]
    exact Uo1.out
  clear hfx
  have H5a := Cells.there_of Ur1.out
  have H5 : Hid (((w1.setCell ⟨w.heap.size + 1 + 1, 1, none⟩ (.slice Y1 u.row.length x1)).setCell ⟨w.heap.size + 1 + 1, 2, none⟩ (.bool u.gone)).there (w.heap.size + 1) 0 (arrArr fx).size) := H5a
  clear H5a
  have H4 := Seg.hid (Cells.whole (vs := arrArr fx) Ur1.out rfl)
  have B9 := Seg.hid (Cells.below_setCells (g := w.heap.size + 1) (by omega) (arrArr fx).toList 0 _ _ D1.out)
  have ZS : (((w1.setCell ⟨w.heap.size + 1 + 1, 1, none⟩ (.slice Y1 u.row.length x1)).setCell ⟨w.heap.size + 1 + 1, 2, none⟩ (.bool u.gone)).setCells (w.heap.size + 1) 0 (arrArr fx).toList).heap.size = w1.heap.size := by rw [Cells.size_setCells]; simp
  have F1 : Hid (IntsOwn (((w1.setCell ⟨w.heap.size + 1 + 1, 1, none⟩ (.slice Y1 u.row.length x1)).setCell ⟨w.heap.size + 1 + 1, 2, none⟩ (.bool u.gone)).setCells (w.heap.size + 1) 0 (arrArr fx).toList) (seg (w.heap.size + 3) w1.heap.size) (fx 1) u.row) := by
    show IntsOwn _ _ _ _
    rw [show fx 1 = .slice Y1 u.row.length x1 by rw [HX.out]; rfl]
    refine LOwn.keep keepsOI N11'.out (by rw [Cells.size_setCells]; exact Nat.le_refl _) (fun g hg => ?_)
    have := hg.1
    rw [Cells.heap_setCells_other _ _ (by omega)]
  obtain ⟨Q, hQ⟩ : ∃ Q : Nat → Nat → Prop, Q = (fun i => if i = 1 then (seg (w.heap.size + 3) w1.heap.size) else fun _ => False) := ⟨_, rfl⟩
  have hq1 : Q 1 = (seg (w.heap.size + 3) w1.heap.size) := by rw [hQ]; rfl
  have hq0 : ∀ i y, i ≠ 1 → ¬ Q i y := by
    intro i y n1 hy
    rw [hQ] at hy
    simp only [if_neg n1] at hy
  clear hQ
  have EX : Hid (EOArr (((w1.setCell ⟨w.heap.size + 1 + 1, 1, none⟩ (.slice Y1 u.row.length x1)).setCell ⟨w.heap.size + 1 + 1, 2, none⟩ (.bool u.gone)).setCells (w.heap.size + 1) 0 (arrArr fx).toList) (seg w.heap.size (((w1.setCell ⟨w.heap.size + 1 + 1, 1, none⟩ (.slice Y1 u.row.length x1)).setCell ⟨w.heap.size + 1 + 1, 2, none⟩ (.bool u.gone)).setCells (w.heap.size + 1) 0 (arrArr fx).toList).heap.size) fx u) := by
    refine ⟨⟨by rw [HX.out]; rfl, by rw [HX.out]; rfl⟩, Q, ?_, ?_, ?_⟩
    · intro i y hy
      by_cases e1 : i = 1
      · subst e1; rw [hq1] at hy
        exact ⟨by have := hy.1; omega, by rw [ZS]; have := hy.2; omega⟩
      exact absurd hy (hq0 i y e1)
    · intro i j hij y hi hj
      by_cases e1 : i = 1
      · subst e1; rw [hq1] at hi
        by_cases f1 : j = 1
        · subst f1
          exact absurd rfl hij
        exact absurd hj (hq0 j y f1)
      exact absurd hi (hq0 i y e1)
    · rw [hq1]; exact F1.out
  clear hq0 hq1
  have ON := Seg.hid (oneArr (atOArr _ _ _ _ EX.out))
  clear Ta1 Tr1 To1 Ua1 M1 ZS
  go_upto_region 5 with fail
  clear po11 pf11 po12 pf12
  generalize ((w1.setCell ⟨w.heap.size + 1 + 1, 1, none⟩ (.slice Y1 u.row.length x1)).setCell ⟨w.heap.size + 1 + 1, 2, none⟩ (.bool u.gone)) = wz at *
  go_wp2_with (first | (refine wpList_load_row rfl 88 _ rfl (w.heap.size + 1 + 1) rfl _ _ _ _ Uz.out Try.underlying88 rfl infoArr ?_) | (refine wpList_store_mid rfl 88 _ _ rfl (w.heap.size + 1) 0 (arrArr fx) rfl rfl H5.out infoArr ON.out ?_))
  exact bodyPost_ret (v := .agg (arrArr fx)) (results_cell_row rfl _ _ (w.heap.size + 1) _ _ _ _ rfl H4.out Try.underlying88 rfl infoArr) rfl ⟨_, rfl, ⟨fx, rfl, EX.out⟩, B9.out⟩
set_option maxHeartbeats 800000 in
theorem toArrivalS_ocore (g o n c : Nat) (us : List Arr) (F0 : Nat → Nat → Value) (w : World) (S : Nat → Prop) (hn : n ≤ 1048576) (hc : n ≤ c) (hg : g < w.heap.size) (hS : ∀ g, S g → g < w.heap.size)
    (hf : ∀ i, i < n → szArr (us.getD i default) ≤ 1048576) (he : ∀ i, i < n → EArr w S (F0 i) (us.getD i default))
    (ha : ∀ i, i < n → ∀ j, j < 3 → w.cell? ⟨g, o + i * 3 + j, none⟩ = some (F0 i j)) :
    Calls Try.prog 58 #[.slice (some ⟨g, o, none⟩) n c] w fun e w' => ∃ F P, e = .returned (.slice (some ⟨w.heap.size, 0, none⟩) n n) ∧ LPart 88 3 EOArr w w' us n n F P := by
  obtain ⟨i0, hi, hz0, hz1, hz2⟩ := info_parts infoZArr
  have HA := Seg.hid ha; have HK := Seg.hid hf; have HH := Seg.hid he
  clear ha hf he
  go_enter Try.func58, Try.ntmps58
  go_wp2_with (at_make; refine wpList_make_full _ rfl _ _ 85 rfl w.heap.size 88 i0 _ 3 Try.underlying85 hi hz0 hz1 .i64 .i64 _ _ n rfl rfl rfl rfl (by rw [hz2]; omega) (by unfold maxLen; omega) (Nat.le_refl _) ?_; intro w1 hown hgr)
  have hb1 := (Below.refl w.heap.size w).grown hgr (Nat.le_refl _) (fun k hk => by cases hk)
  have HM := Seg.hid (Mine.of_made hown hown.1)
  have HB := Seg.hid hb1
  clear hown hgr hb1 hi hz0 hz1 hz2
  go_loopw [4] (fun i wr => ∃ (j : Nat) (F : Nat → Value) (P : Nat → Nat → Prop), j ≤ n ∧ i = .int .i64 j ∧ LPart 88 3 EOArr w wr us n j F P) (fun i _ => n - (intOf i).toNat)
  case atStart => exact ⟨0, _, fun _ _ => False, Nat.zero_le _, rfl, HM.out, HB.out, fun i hi => absurd hi (by omega), fun i hi => absurd hi (by omega), fun i k hi => absurd hi (by omega)⟩
  case round =>
    clear HM HB
    obtain ⟨j, F, P, hj, rfl, HR⟩ := hrel
    by_cases hlt : j < n
    · have CL := cells_later HA.out HR.bel hg
      have c0 : wr.cell? ⟨g, o + j * 3, none⟩ = some (F0 j 0) := CL j ‹j < n› 0 (by omega)
      have c1 : wr.cell? ⟨g, o + j * 3 + 1, none⟩ = some (F0 j 1) := CL j ‹j < n› 1 (by omega)
      have c2 : wr.cell? ⟨g, o + j * 3 + 2, none⟩ = some (F0 j 2) := CL j ‹j < n› 2 (by omega)
      clear CL
      have RA : Hid (ArrAt wr S (.agg (arrArr (F0 j))) (us.getD j default)) := ⟨_, rfl, keepsArr _ _ _ _ _ _ (HH.out j hlt) (fun g hg => HR.bel.block g (hS g hg)) (fun _ _ => rfl)⟩
      have FW := Seg.hid (HK.out j hlt)
      have hbr : Hid (∀ g, S g → g < wr.heap.size) := fun g hg => Nat.lt_of_lt_of_le (hS g hg) HR.bel.size
      have ST := Seg.hid (fun w1 vs hv b1 he => LPart.step keepsOArr (w1 := w1) HR vs hv b1 he)
      have HM := Seg.hid HR.mine
      have h0 : (0 : Int) ≤ (j : Int) := by omega
      have h1 : (j : Int) < (n : Int) := by omega
      clear HR
      generalize us.getD j default = uj at *
      go_wp2_with fail
      refine (toArrival_own _ uj wr S RA.out hbr.out FW.out).mono ?_
      rintro e w1 ⟨v1, rfl, ⟨f1, rfl, he1⟩, b1⟩
      have S1 := Seg.hid (ST.out w1 (arrArr f1).toList rfl b1 (keepsOArr _ _ _ _ _ _ he1 (Nat.le_refl _) (fun _ _ => rfl) (fun q hq => by
        match q, hq with
        | 0, _ => rfl
        | 1, _ => rfl
        | 2, _ => rfl
        )))
      have M1 : Hid (w1.there w.heap.size (j * 3) (arrArr f1).size) := Own.mine_there (o := j * 3) (m := 3) (HM.out.below b1 HM.out.lt) (by omega)
      have ON := Seg.hid (oneArr (atOArr _ _ _ _ he1))
      clear b1 he1
      go_wp2_with (refine wpList_store_mid rfl 88 _ _ rfl w.heap.size (j * 3) (arrArr f1) rfl rfl ?ht infoArr ON.out ?_; case ht => exact M1.out)
      go_roundw
      case rel => exact ⟨j + 1, _, _, by omega, by go_num, S1.out⟩
      case measure => simp [intOf]; omega
    · have : j = n := by omega
      subst this
      go_wp2
      go_ret
      exact ⟨F, P, rfl, HR⟩
theorem toArrivalS_own (v : Value) (us : List Arr) (w : World) (S : Nat → Prop) (hv : LAt 3 EArr w S v us) (hS : ∀ g, S g → g < w.heap.size) (hf : szL szArr us ≤ 1048576) :
    Calls Try.prog 58 #[v] w fun e w' => ∃ v', e = .returned v' ∧ ArrsOwn w' (seg w.heap.size w'.heap.size) v' us ∧ Below w.heap.size w w' := by
  obtain ⟨hn, A, c, rfl, h⟩ := hv
  by_cases hz : us.length = 0
  · obtain rfl := List.length_eq_zero_iff.1 hz
    refine (toArrivalS_none A c w).mono fun e w' ⟨v', a1, ⟨A', c', a2⟩, a3⟩ => ⟨v', a1, ?_, a3⟩
    rw [a2]
    exact LOwn.nil _ _ _ _
  obtain ⟨g, o, F, rfl, hg, hc, hcell, hel⟩ := h.resolve_left hz
  exact (toArrivalS_ocore g o us.length c us F w S (szL_len _ hf) hc (hS g hg) hS (fun i hi => szL_one _ hf hi) hel hcell).mono fun e w' ⟨F, P, a1, a2⟩ => ⟨_, a1, a2.own (szL_len _ hf), a2.bel⟩
end Go.Proofs.Ytkibaimemomjpaa.Ow
