/- Batch: the law's copiers answer memory of their own; Segment: the law's copiers answer memory of their own; Log: the law's copier answers memory of its own. -/
import Derived.Test.YticihnoekffelaaJS40
import Derived.Test.YticihnoekffelaaJS42
import Derived.Test.YticihnoekffelaaJS23
namespace Go.Proofs.Yticihnoekffelaa.Ow
set_option maxRecDepth 8000
open Go.RowKit
open Recs
open Ls
set_option linter.unusedVariables false
def BatOwn (w : World) (S : Nat → Prop) (v : Value) (u : Bat) : Prop := ∃ f, v = .agg (arrBat f) ∧ EOBat w S f u
set_option maxHeartbeats 1600000 in
theorem toBatch_own (v : Value) (u : Bat) (w : World) (S : Nat → Prop) (hv : BatAt w S v u) (hS : ∀ g, S g → g < w.heap.size) (hf : szBat u ≤ 1048576) :
    Calls Try.prog 93 #[v] w fun e w' => ∃ v', e = .returned v' ∧ BatOwn w' (seg w.heap.size w'.heap.size) v' u ∧ Below w.heap.size w w' := by
  obtain ⟨f, rfl, y0, y1, y2, y3, y4, y5, y6⟩ := hv
  try simp only [arrBat]
  rw [show f 0 = _ from y0]
  clear y0
  rw [show f 1 = _ from y1]
  clear y1
  rw [show f 2 = _ from y2]
  clear y2
  rw [show f 3 = _ from y3]
  clear y3
  rw [show f 4 = _ from y4]
  clear y4
  rw [show f 5 = _ from y5]
  clear y5
  obtain ⟨A6, c6, g6⟩ := y6.form
  rw [g6] at y6 ⊢
  have H6 := Seg.hid y6
  clear y6 g6
  unfold szBat at hf
  go_enter Try.func93, Try.ntmps93
  go_wp2_with fail
  refine (toRecordS_own _ u.recs (((w.alloc _).alloc _).alloc _) S (H6.out.below keepsRec (below3 w _ _ _) hS) (fun g hg => by rw [hsz, hsz, hsz]; have := hS g hg; omega) (by omega)).mono ?_
  rintro e w1 ⟨v1, rfl, l1, b1⟩
  have B1 := Seg.hid (chain (below3 w _ _ _) b1)
  have Ta1 : Hid (w1.heap[w.heap.size]? = some (.cells #[.int .i64 u.base, .int .i64 u.epoch, .int .i64 u.producer, .int .i64 u.turn, .int .i64 u.seq, .int .i64 u.flags, .slice A6 u.recs.length c6] 120 (0, 0))) := (b1.block w.heap.size (by rw [hsz, hsz, hsz]; omega)).trans (at3z w _ _ _)
  have Tr1 : Hid (w1.heap[w.heap.size + 1]? = some (.cells #[.int .i64 0, .int .i64 0, .int .i64 0, .int .i64 0, .int .i64 0, .int .i64 0, .slice none 0 0] 58 (0, 0))) := (b1.block (w.heap.size + 1) (by rw [hsz, hsz, hsz]; omega)).trans (at3 w _ _ _)
  have To1 : Hid (w1.heap[w.heap.size + 1 + 1]? = some (.cells #[.int .i64 u.base, .int .i64 u.epoch, .int .i64 u.producer, .int .i64 u.turn, .int .i64 u.seq, .int .i64 u.flags, .slice none 0 0] 58 (0, 0))) := (b1.block (w.heap.size + 1 + 1) (by rw [hsz, hsz, hsz]; omega)).trans (Cells.at3' w _ _ _)
  have s1 : w.heap.size + 3 ≤ w1.heap.size := by have := b1.size; rw [hsz, hsz, hsz] at this; omega
  have M1 : Hid (RecsOwn w1 (seg (w.heap.size + 3) w1.heap.size) v1 u.recs) := by
    rw [hsz, hsz, hsz] at l1
    exact l1
  obtain ⟨Y1, x1, r1⟩ := LOwn.form M1.out
  subst r1
  clear b1 l1
  have N11 := M1
  have po16 : (w1).cell? ⟨w.heap.size + 1 + 1, 6, none⟩ = some (.slice none 0 0) := cell_of_row (w1) _ 6 _ _ (0, 0) (To1.out)
  have pf16 : (w1).frozen? ⟨w.heap.size + 1 + 1, 6, none⟩ = false := frozen_of_row (w1) _ 6 _ _ (To1.out)
  have qo16 : Hid (((w1.setCell ⟨w.heap.size + 1 + 1, 6, none⟩ (.slice Y1 u.recs.length x1))).heap[w.heap.size + 1 + 1]? = some (.cells #[.int .i64 u.base, .int .i64 u.epoch, .int .i64 u.producer, .int .i64 u.turn, .int .i64 u.seq, .int .i64 u.flags, .slice Y1 u.recs.length x1] 58 (0, 0))) := heap_setCell_same (w1) (w.heap.size + 1 + 1) 6 _ _ (.slice Y1 u.recs.length x1) (To1.out)
  have Uo1 := Seg.hid (qo16.out)
  have Ur1 := Seg.hid ((heap_setCell_other (w1) ⟨w.heap.size + 1 + 1, 6, none⟩ (w.heap.size + 1) (.slice Y1 u.recs.length x1) (by simp)).trans (Tr1.out))
  have Ua1 := Seg.hid ((heap_setCell_other (w1) ⟨w.heap.size + 1 + 1, 6, none⟩ w.heap.size (.slice Y1 u.recs.length x1) (by simp; omega)).trans (Ta1.out))
  have D1 : Hid (Below w.heap.size w (w1.setCell ⟨w.heap.size + 1 + 1, 6, none⟩ (.slice Y1 u.recs.length x1))) := (B1.out).setCell (p := ⟨w.heap.size + 1 + 1, 6, none⟩) (by simp; omega) (.slice Y1 u.recs.length x1)
  have N11' : Hid (RecsOwn (w1.setCell ⟨w.heap.size + 1 + 1, 6, none⟩ (.slice Y1 u.recs.length x1)) (seg (w.heap.size + 3) w1.heap.size) (.slice Y1 u.recs.length x1) u.recs) := LOwn.keep keepsORec N11.out (by simp) (fun g hg => by have := hg.1; rw [heap_setCell_other _ _ _ _ (by show _ ≠ w.heap.size + 1 + 1; omega)])
  obtain ⟨fx, hfx⟩ : ∃ fx : Nat → Value, fx = (fun q => if q = 0 then .int .i64 u.base else if q = 1 then .int .i64 u.epoch else if q = 2 then .int .i64 u.producer else if q = 3 then .int .i64 u.turn else if q = 4 then .int .i64 u.seq else if q = 5 then .int .i64 u.flags else .slice Y1 u.recs.length x1) := ⟨_, rfl⟩
  have HX := Seg.hid hfx
  have Uz : Hid ((w1.setCell ⟨w.heap.size + 1 + 1, 6, none⟩ (.slice Y1 u.recs.length x1)).heap[w.heap.size + 1 + 1]? = some (.cells (arrBat fx) 58 (0, 0))) := by
    show _ = _
    rw [hfx]
    exact Uo1.out
  clear hfx
  have H5a := Cells.there_of Ur1.out
  have H5 : Hid ((w1.setCell ⟨w.heap.size + 1 + 1, 6, none⟩ (.slice Y1 u.recs.length x1)).there (w.heap.size + 1) 0 (arrBat fx).size) := H5a
  clear H5a
  have H4 := Seg.hid (Cells.whole (vs := arrBat fx) Ur1.out rfl)
  have B9 := Seg.hid (Cells.below_setCells (g := w.heap.size + 1) (by omega) (arrBat fx).toList 0 _ _ D1.out)
  have ZS : ((w1.setCell ⟨w.heap.size + 1 + 1, 6, none⟩ (.slice Y1 u.recs.length x1)).setCells (w.heap.size + 1) 0 (arrBat fx).toList).heap.size = w1.heap.size := by rw [Cells.size_setCells]; simp
  have F1 : Hid (RecsOwn ((w1.setCell ⟨w.heap.size + 1 + 1, 6, none⟩ (.slice Y1 u.recs.length x1)).setCells (w.heap.size + 1) 0 (arrBat fx).toList) (seg (w.heap.size + 3) w1.heap.size) (fx 6) u.recs) := by
    show RecsOwn _ _ _ _
    rw [show fx 6 = .slice Y1 u.recs.length x1 by rw [HX.out]; rfl]
    refine LOwn.keep keepsORec N11'.out (by rw [Cells.size_setCells]; exact Nat.le_refl _) (fun g hg => ?_)
    have := hg.1
    rw [Cells.heap_setCells_other _ _ (by omega)]
  obtain ⟨Q, hQ⟩ : ∃ Q : Nat → Nat → Prop, Q = (fun i => if i = 6 then (seg (w.heap.size + 3) w1.heap.size) else fun _ => False) := ⟨_, rfl⟩
  have hq1 : Q 6 = (seg (w.heap.size + 3) w1.heap.size) := by rw [hQ]; rfl
  have hq0 : ∀ i y, i ≠ 6 → ¬ Q i y := by
    intro i y n1 hy
    rw [hQ] at hy
    simp only [if_neg n1] at hy
  clear hQ
  have EX : Hid (EOBat ((w1.setCell ⟨w.heap.size + 1 + 1, 6, none⟩ (.slice Y1 u.recs.length x1)).setCells (w.heap.size + 1) 0 (arrBat fx).toList) (seg w.heap.size ((w1.setCell ⟨w.heap.size + 1 + 1, 6, none⟩ (.slice Y1 u.recs.length x1)).setCells (w.heap.size + 1) 0 (arrBat fx).toList).heap.size) fx u) := by
    refine ⟨⟨by rw [HX.out]; rfl, by rw [HX.out]; rfl, by rw [HX.out]; rfl, by rw [HX.out]; rfl, by rw [HX.out]; rfl, by rw [HX.out]; rfl⟩, Q, ?_, ?_, ?_⟩
    · intro i y hy
      by_cases e1 : i = 6
      · subst e1; rw [hq1] at hy
        exact ⟨by have := hy.1; omega, by rw [ZS]; have := hy.2; omega⟩
      exact absurd hy (hq0 i y e1)
    · intro i j hij y hi hj
      by_cases e1 : i = 6
      · subst e1; rw [hq1] at hi
        by_cases f1 : j = 6
        · subst f1
          exact absurd rfl hij
        exact absurd hj (hq0 j y f1)
      exact absurd hi (hq0 i y e1)
    · rw [hq1]; exact F1.out
  clear hq0 hq1
  have ON := Seg.hid (oneBat (atOBat _ _ _ _ EX.out))
  clear Ta1 Tr1 To1 Ua1 M1 ZS
  go_upto_region 9 with fail
  clear po16 pf16
  generalize (w1.setCell ⟨w.heap.size + 1 + 1, 6, none⟩ (.slice Y1 u.recs.length x1)) = wz at *
  go_wp2_with (first | (refine wpList_load_row rfl 58 _ rfl (w.heap.size + 1 + 1) rfl _ _ _ _ Uz.out Try.underlying58 rfl infoBat ?_) | (refine wpList_store_mid rfl 58 _ _ rfl (w.heap.size + 1) 0 (arrBat fx) rfl rfl H5.out infoBat ON.out ?_))
  exact bodyPost_ret (v := .agg (arrBat fx)) (results_cell_row rfl _ _ (w.heap.size + 1) _ _ _ _ rfl H4.out Try.underlying58 rfl infoBat) rfl ⟨_, rfl, ⟨fx, rfl, EX.out⟩, B9.out⟩
set_option maxHeartbeats 800000 in
theorem toBatchS_ocore (g o n c : Nat) (us : List Bat) (F0 : Nat → Nat → Value) (w : World) (S : Nat → Prop) (hn : n ≤ 1048576) (hc : n ≤ c) (hg : g < w.heap.size) (hS : ∀ g, S g → g < w.heap.size)
    (hf : ∀ i, i < n → szBat (us.getD i default) ≤ 1048576) (he : ∀ i, i < n → EBat w S (F0 i) (us.getD i default))
    (ha : ∀ i, i < n → ∀ j, j < 7 → w.cell? ⟨g, o + i * 7 + j, none⟩ = some (F0 i j)) :
    Calls Try.prog 79 #[.slice (some ⟨g, o, none⟩) n c] w fun e w' => ∃ F P, e = .returned (.slice (some ⟨w.heap.size, 0, none⟩) n n) ∧ LPart 58 7 EOBat w w' us n n F P := by
  obtain ⟨i0, hi, hz0, hz1, hz2⟩ := info_parts infoZBat
  have HA := Seg.hid ha; have HK := Seg.hid hf; have HH := Seg.hid he
  clear ha hf he
  go_enter Try.func79, Try.ntmps79
  go_wp2_with (at_make; refine wpList_make_full _ rfl _ _ 40 rfl w.heap.size 58 i0 _ 7 Try.underlying40 hi hz0 hz1 .i64 .i64 _ _ n rfl rfl rfl rfl (by rw [hz2]; omega) (by unfold maxLen; omega) (Nat.le_refl _) ?_; intro w1 hown hgr)
  have hb1 := (Below.refl w.heap.size w).grown hgr (Nat.le_refl _) (fun k hk => by cases hk)
  have HM := Seg.hid (Mine.of_made hown hown.1)
  have HB := Seg.hid hb1
  clear hown hgr hb1 hi hz0 hz1 hz2
  go_loopw [4] (fun i wr => ∃ (j : Nat) (F : Nat → Value) (P : Nat → Nat → Prop), j ≤ n ∧ i = .int .i64 j ∧ LPart 58 7 EOBat w wr us n j F P) (fun i _ => n - (intOf i).toNat)
  case atStart => exact ⟨0, _, fun _ _ => False, Nat.zero_le _, rfl, HM.out, HB.out, fun i hi => absurd hi (by omega), fun i hi => absurd hi (by omega), fun i k hi => absurd hi (by omega)⟩
  case round =>
    clear HM HB
    obtain ⟨j, F, P, hj, rfl, HR⟩ := hrel
    by_cases hlt : j < n
    · have CL := cells_later HA.out HR.bel hg
      have c0 : wr.cell? ⟨g, o + j * 7, none⟩ = some (F0 j 0) := CL j ‹j < n› 0 (by omega)
      have c1 : wr.cell? ⟨g, o + j * 7 + 1, none⟩ = some (F0 j 1) := CL j ‹j < n› 1 (by omega)
      have c2 : wr.cell? ⟨g, o + j * 7 + 2, none⟩ = some (F0 j 2) := CL j ‹j < n› 2 (by omega)
      have c3 : wr.cell? ⟨g, o + j * 7 + 3, none⟩ = some (F0 j 3) := CL j ‹j < n› 3 (by omega)
      have c4 : wr.cell? ⟨g, o + j * 7 + 4, none⟩ = some (F0 j 4) := CL j ‹j < n› 4 (by omega)
      have c5 : wr.cell? ⟨g, o + j * 7 + 5, none⟩ = some (F0 j 5) := CL j ‹j < n› 5 (by omega)
      have c6 : wr.cell? ⟨g, o + j * 7 + 6, none⟩ = some (F0 j 6) := CL j ‹j < n› 6 (by omega)
      clear CL
      have RA : Hid (BatAt wr S (.agg (arrBat (F0 j))) (us.getD j default)) := ⟨_, rfl, keepsBat _ _ _ _ _ _ (HH.out j hlt) (fun g hg => HR.bel.block g (hS g hg)) (fun _ _ => rfl)⟩
      have FW := Seg.hid (HK.out j hlt)
      have hbr : Hid (∀ g, S g → g < wr.heap.size) := fun g hg => Nat.lt_of_lt_of_le (hS g hg) HR.bel.size
      have ST := Seg.hid (fun w1 vs hv b1 he => LPart.step keepsOBat (w1 := w1) HR vs hv b1 he)
      have HM := Seg.hid HR.mine
      have h0 : (0 : Int) ≤ (j : Int) := by omega
      have h1 : (j : Int) < (n : Int) := by omega
      clear HR
      generalize us.getD j default = uj at *
      go_wp2_with fail
      refine (toBatch_own _ uj wr S RA.out hbr.out FW.out).mono ?_
      rintro e w1 ⟨v1, rfl, ⟨f1, rfl, he1⟩, b1⟩
      have S1 := Seg.hid (ST.out w1 (arrBat f1).toList rfl b1 (keepsOBat _ _ _ _ _ _ he1 (Nat.le_refl _) (fun _ _ => rfl) (fun q hq => by
        match q, hq with
        | 0, _ => rfl
        | 1, _ => rfl
        | 2, _ => rfl
        | 3, _ => rfl
        | 4, _ => rfl
        | 5, _ => rfl
        | 6, _ => rfl
        )))
      have M1 : Hid (w1.there w.heap.size (j * 7) (arrBat f1).size) := Own.mine_there (o := j * 7) (m := 7) (HM.out.below b1 HM.out.lt) (by omega)
      have ON := Seg.hid (oneBat (atOBat _ _ _ _ he1))
      clear b1 he1
      go_wp2_with (refine wpList_store_mid rfl 58 _ _ rfl w.heap.size (j * 7) (arrBat f1) rfl rfl ?ht infoBat ON.out ?_; case ht => exact M1.out)
      go_roundw
      case rel => exact ⟨j + 1, _, _, by omega, by go_num, S1.out⟩
      case measure => simp [intOf]; omega
    · have : j = n := by omega
      subst this
      go_wp2
      go_ret
      exact ⟨F, P, rfl, HR⟩
theorem toBatchS_own (v : Value) (us : List Bat) (w : World) (S : Nat → Prop) (hv : LAt 7 EBat w S v us) (hS : ∀ g, S g → g < w.heap.size) (hf : szL szBat us ≤ 1048576) :
    Calls Try.prog 79 #[v] w fun e w' => ∃ v', e = .returned v' ∧ BatsOwn w' (seg w.heap.size w'.heap.size) v' us ∧ Below w.heap.size w w' := by
  obtain ⟨hn, A, c, rfl, h⟩ := hv
  by_cases hz : us.length = 0
  · obtain rfl := List.length_eq_zero_iff.1 hz
    refine (toBatchS_none A c w).mono fun e w' ⟨v', a1, ⟨A', c', a2⟩, a3⟩ => ⟨v', a1, ?_, a3⟩
    rw [a2]
    exact LOwn.nil _ _ _ _
  obtain ⟨g, o, F, rfl, hg, hc, hcell, hel⟩ := h.resolve_left hz
  exact (toBatchS_ocore g o us.length c us F w S (szL_len _ hf) hc (hS g hg) hS (fun i hi => szL_one _ hf hi) hel hcell).mono fun e w' ⟨F, P, a1, a2⟩ => ⟨_, a1, a2.own (szL_len _ hf), a2.bel⟩
end Go.Proofs.Yticihnoekffelaa.Ow
namespace Go.Proofs.Yticihnoekffelaa.Ow
set_option maxRecDepth 8000
open Go.RowKit
open Recs
open Ls
open SegW (Sg)
set_option linter.unusedVariables false
def SgOwn (w : World) (S : Nat → Prop) (v : Value) (u : Sg) : Prop := ∃ f, v = .agg (arrSg f) ∧ EOSg w S f u
set_option maxHeartbeats 1600000 in
theorem toSegment_own (v : Value) (u : Sg) (w : World) (S : Nat → Prop) (hv : SgAt w S v u) (hS : ∀ g, S g → g < w.heap.size) (hf : szSg u ≤ 1048576) :
    Calls Try.prog 52 #[v] w fun e w' => ∃ v', e = .returned v' ∧ SgOwn w' (seg w.heap.size w'.heap.size) v' u ∧ Below w.heap.size w w' := by
  obtain ⟨f, rfl, y0, y1⟩ := hv
  try simp only [arrSg]
  rw [show f 0 = _ from y0]
  clear y0
  obtain ⟨A1, c1, g1⟩ := y1.form
  rw [g1] at y1 ⊢
  have H1 := Seg.hid y1
  clear y1 g1
  unfold szSg at hf
  go_enter Try.func52, Try.ntmps52
  go_wp2_with fail
  refine (toBatchS_own _ u.bats (((w.alloc _).alloc _).alloc _) S (H1.out.below keepsBat (below3 w _ _ _) hS) (fun g hg => by rw [hsz, hsz, hsz]; have := hS g hg; omega) (by omega)).mono ?_
  rintro e w1 ⟨v1, rfl, l1, b1⟩
  have B1 := Seg.hid (chain (below3 w _ _ _) b1)
  have Ta1 : Hid (w1.heap[w.heap.size]? = some (.cells #[.int .i64 u.base, .slice A1 u.bats.length c1] 84 (0, 0))) := (b1.block w.heap.size (by rw [hsz, hsz, hsz]; omega)).trans (at3z w _ _ _)
  have Tr1 : Hid (w1.heap[w.heap.size + 1]? = some (.cells #[.int .i64 0, .slice none 0 0] 55 (0, 0))) := (b1.block (w.heap.size + 1) (by rw [hsz, hsz, hsz]; omega)).trans (at3 w _ _ _)
  have To1 : Hid (w1.heap[w.heap.size + 1 + 1]? = some (.cells #[.int .i64 u.base, .slice none 0 0] 55 (0, 0))) := (b1.block (w.heap.size + 1 + 1) (by rw [hsz, hsz, hsz]; omega)).trans (Cells.at3' w _ _ _)
  have s1 : w.heap.size + 3 ≤ w1.heap.size := by have := b1.size; rw [hsz, hsz, hsz] at this; omega
  have M1 : Hid (BatsOwn w1 (seg (w.heap.size + 3) w1.heap.size) v1 u.bats) := by
    rw [hsz, hsz, hsz] at l1
    exact l1
  obtain ⟨Y1, x1, r1⟩ := LOwn.form M1.out
  subst r1
  clear b1 l1
  have N11 := M1
  have po11 : (w1).cell? ⟨w.heap.size + 1 + 1, 1, none⟩ = some (.slice none 0 0) := cell_of_row (w1) _ 1 _ _ (0, 0) (To1.out)
  have pf11 : (w1).frozen? ⟨w.heap.size + 1 + 1, 1, none⟩ = false := frozen_of_row (w1) _ 1 _ _ (To1.out)
  have qo11 : Hid (((w1.setCell ⟨w.heap.size + 1 + 1, 1, none⟩ (.slice Y1 u.bats.length x1))).heap[w.heap.size + 1 + 1]? = some (.cells #[.int .i64 u.base, .slice Y1 u.bats.length x1] 55 (0, 0))) := heap_setCell_same (w1) (w.heap.size + 1 + 1) 1 _ _ (.slice Y1 u.bats.length x1) (To1.out)
  have Uo1 := Seg.hid (qo11.out)
  have Ur1 := Seg.hid ((heap_setCell_other (w1) ⟨w.heap.size + 1 + 1, 1, none⟩ (w.heap.size + 1) (.slice Y1 u.bats.length x1) (by simp)).trans (Tr1.out))
  have Ua1 := Seg.hid ((heap_setCell_other (w1) ⟨w.heap.size + 1 + 1, 1, none⟩ w.heap.size (.slice Y1 u.bats.length x1) (by simp; omega)).trans (Ta1.out))
  have D1 : Hid (Below w.heap.size w (w1.setCell ⟨w.heap.size + 1 + 1, 1, none⟩ (.slice Y1 u.bats.length x1))) := (B1.out).setCell (p := ⟨w.heap.size + 1 + 1, 1, none⟩) (by simp; omega) (.slice Y1 u.bats.length x1)
  have N11' : Hid (BatsOwn (w1.setCell ⟨w.heap.size + 1 + 1, 1, none⟩ (.slice Y1 u.bats.length x1)) (seg (w.heap.size + 3) w1.heap.size) (.slice Y1 u.bats.length x1) u.bats) := LOwn.keep keepsOBat N11.out (by simp) (fun g hg => by have := hg.1; rw [heap_setCell_other _ _ _ _ (by show _ ≠ w.heap.size + 1 + 1; omega)])
  obtain ⟨fx, hfx⟩ : ∃ fx : Nat → Value, fx = (fun q => if q = 0 then .int .i64 u.base else .slice Y1 u.bats.length x1) := ⟨_, rfl⟩
  have HX := Seg.hid hfx
  have Uz : Hid ((w1.setCell ⟨w.heap.size + 1 + 1, 1, none⟩ (.slice Y1 u.bats.length x1)).heap[w.heap.size + 1 + 1]? = some (.cells (arrSg fx) 55 (0, 0))) := by
    show _ = _
    rw [hfx]
    exact Uo1.out
  clear hfx
  have H5a := Cells.there_of Ur1.out
  have H5 : Hid ((w1.setCell ⟨w.heap.size + 1 + 1, 1, none⟩ (.slice Y1 u.bats.length x1)).there (w.heap.size + 1) 0 (arrSg fx).size) := H5a
  clear H5a
  have H4 := Seg.hid (Cells.whole (vs := arrSg fx) Ur1.out rfl)
  have B9 := Seg.hid (Cells.below_setCells (g := w.heap.size + 1) (by omega) (arrSg fx).toList 0 _ _ D1.out)
  have ZS : ((w1.setCell ⟨w.heap.size + 1 + 1, 1, none⟩ (.slice Y1 u.bats.length x1)).setCells (w.heap.size + 1) 0 (arrSg fx).toList).heap.size = w1.heap.size := by rw [Cells.size_setCells]; simp
  have F1 : Hid (BatsOwn ((w1.setCell ⟨w.heap.size + 1 + 1, 1, none⟩ (.slice Y1 u.bats.length x1)).setCells (w.heap.size + 1) 0 (arrSg fx).toList) (seg (w.heap.size + 3) w1.heap.size) (fx 1) u.bats) := by
    show BatsOwn _ _ _ _
    rw [show fx 1 = .slice Y1 u.bats.length x1 by rw [HX.out]; rfl]
    refine LOwn.keep keepsOBat N11'.out (by rw [Cells.size_setCells]; exact Nat.le_refl _) (fun g hg => ?_)
    have := hg.1
    rw [Cells.heap_setCells_other _ _ (by omega)]
  obtain ⟨Q, hQ⟩ : ∃ Q : Nat → Nat → Prop, Q = (fun i => if i = 1 then (seg (w.heap.size + 3) w1.heap.size) else fun _ => False) := ⟨_, rfl⟩
  have hq1 : Q 1 = (seg (w.heap.size + 3) w1.heap.size) := by rw [hQ]; rfl
  have hq0 : ∀ i y, i ≠ 1 → ¬ Q i y := by
    intro i y n1 hy
    rw [hQ] at hy
    simp only [if_neg n1] at hy
  clear hQ
  have EX : Hid (EOSg ((w1.setCell ⟨w.heap.size + 1 + 1, 1, none⟩ (.slice Y1 u.bats.length x1)).setCells (w.heap.size + 1) 0 (arrSg fx).toList) (seg w.heap.size ((w1.setCell ⟨w.heap.size + 1 + 1, 1, none⟩ (.slice Y1 u.bats.length x1)).setCells (w.heap.size + 1) 0 (arrSg fx).toList).heap.size) fx u) := by
    refine ⟨by rw [HX.out]; rfl, Q, ?_, ?_, ?_⟩
    · intro i y hy
      by_cases e1 : i = 1
      · subst e1; rw [hq1] at hy
        exact ⟨by have := hy.1; omega, by rw [ZS]; have := hy.2; omega⟩
      exact absurd hy (hq0 i y e1)
    · intro i j hij y hi hj
      by_cases e1 : i = 1
      · subst e1; rw [hq1] at hi
        by_cases f1 : j = 1
        · subst f1
          exact absurd rfl hij
        exact absurd hj (hq0 j y f1)
      exact absurd hi (hq0 i y e1)
    · rw [hq1]; exact F1.out
  clear hq0 hq1
  have ON := Seg.hid (oneSg (atOSg _ _ _ _ EX.out))
  clear Ta1 Tr1 To1 Ua1 M1 ZS
  go_upto_region 4 with fail
  clear po11 pf11
  generalize (w1.setCell ⟨w.heap.size + 1 + 1, 1, none⟩ (.slice Y1 u.bats.length x1)) = wz at *
  go_wp2_with (first | (refine wpList_load_row rfl 55 _ rfl (w.heap.size + 1 + 1) rfl _ _ _ _ Uz.out Try.underlying55 rfl infoSg ?_) | (refine wpList_store_mid rfl 55 _ _ rfl (w.heap.size + 1) 0 (arrSg fx) rfl rfl H5.out infoSg ON.out ?_))
  exact bodyPost_ret (v := .agg (arrSg fx)) (results_cell_row rfl _ _ (w.heap.size + 1) _ _ _ _ rfl H4.out Try.underlying55 rfl infoSg) rfl ⟨_, rfl, ⟨fx, rfl, EX.out⟩, B9.out⟩
set_option maxHeartbeats 800000 in
theorem toSegmentS_ocore (g o n c : Nat) (us : List Sg) (F0 : Nat → Nat → Value) (w : World) (S : Nat → Prop) (hn : n ≤ 1048576) (hc : n ≤ c) (hg : g < w.heap.size) (hS : ∀ g, S g → g < w.heap.size)
    (hf : ∀ i, i < n → szSg (us.getD i default) ≤ 1048576) (he : ∀ i, i < n → ESg w S (F0 i) (us.getD i default))
    (ha : ∀ i, i < n → ∀ j, j < 2 → w.cell? ⟨g, o + i * 2 + j, none⟩ = some (F0 i j)) :
    Calls Try.prog 25 #[.slice (some ⟨g, o, none⟩) n c] w fun e w' => ∃ F P, e = .returned (.slice (some ⟨w.heap.size, 0, none⟩) n n) ∧ LPart 55 2 EOSg w w' us n n F P := by
  obtain ⟨i0, hi, hz0, hz1, hz2⟩ := info_parts infoZSg
  have HA := Seg.hid ha; have HK := Seg.hid hf; have HH := Seg.hid he
  clear ha hf he
  go_enter Try.func25, Try.ntmps25
  go_wp2_with (at_make; refine wpList_make_full _ rfl _ _ 26 rfl w.heap.size 55 i0 _ 2 Try.underlying26 hi hz0 hz1 .i64 .i64 _ _ n rfl rfl rfl rfl (by rw [hz2]; omega) (by unfold maxLen; omega) (Nat.le_refl _) ?_; intro w1 hown hgr)
  have hb1 := (Below.refl w.heap.size w).grown hgr (Nat.le_refl _) (fun k hk => by cases hk)
  have HM := Seg.hid (Mine.of_made hown hown.1)
  have HB := Seg.hid hb1
  clear hown hgr hb1 hi hz0 hz1 hz2
  go_loopw [4] (fun i wr => ∃ (j : Nat) (F : Nat → Value) (P : Nat → Nat → Prop), j ≤ n ∧ i = .int .i64 j ∧ LPart 55 2 EOSg w wr us n j F P) (fun i _ => n - (intOf i).toNat)
  case atStart => exact ⟨0, _, fun _ _ => False, Nat.zero_le _, rfl, HM.out, HB.out, fun i hi => absurd hi (by omega), fun i hi => absurd hi (by omega), fun i k hi => absurd hi (by omega)⟩
  case round =>
    clear HM HB
    obtain ⟨j, F, P, hj, rfl, HR⟩ := hrel
    by_cases hlt : j < n
    · have CL := cells_later HA.out HR.bel hg
      have c0 : wr.cell? ⟨g, o + j * 2, none⟩ = some (F0 j 0) := CL j ‹j < n› 0 (by omega)
      have c1 : wr.cell? ⟨g, o + j * 2 + 1, none⟩ = some (F0 j 1) := CL j ‹j < n› 1 (by omega)
      clear CL
      have RA : Hid (SgAt wr S (.agg (arrSg (F0 j))) (us.getD j default)) := ⟨_, rfl, keepsSg _ _ _ _ _ _ (HH.out j hlt) (fun g hg => HR.bel.block g (hS g hg)) (fun _ _ => rfl)⟩
      have FW := Seg.hid (HK.out j hlt)
      have hbr : Hid (∀ g, S g → g < wr.heap.size) := fun g hg => Nat.lt_of_lt_of_le (hS g hg) HR.bel.size
      have ST := Seg.hid (fun w1 vs hv b1 he => LPart.step keepsOSg (w1 := w1) HR vs hv b1 he)
      have HM := Seg.hid HR.mine
      have h0 : (0 : Int) ≤ (j : Int) := by omega
      have h1 : (j : Int) < (n : Int) := by omega
      clear HR
      generalize us.getD j default = uj at *
      go_wp2_with fail
      refine (toSegment_own _ uj wr S RA.out hbr.out FW.out).mono ?_
      rintro e w1 ⟨v1, rfl, ⟨f1, rfl, he1⟩, b1⟩
      have S1 := Seg.hid (ST.out w1 (arrSg f1).toList rfl b1 (keepsOSg _ _ _ _ _ _ he1 (Nat.le_refl _) (fun _ _ => rfl) (fun q hq => by
        match q, hq with
        | 0, _ => rfl
        | 1, _ => rfl
        )))
      have M1 : Hid (w1.there w.heap.size (j * 2) (arrSg f1).size) := Own.mine_there (o := j * 2) (m := 2) (HM.out.below b1 HM.out.lt) (by omega)
      have ON := Seg.hid (oneSg (atOSg _ _ _ _ he1))
      clear b1 he1
      go_wp2_with (refine wpList_store_mid rfl 55 _ _ rfl w.heap.size (j * 2) (arrSg f1) rfl rfl ?ht infoSg ON.out ?_; case ht => exact M1.out)
      go_roundw
      case rel => exact ⟨j + 1, _, _, by omega, by go_num, S1.out⟩
      case measure => simp [intOf]; omega
    · have : j = n := by omega
      subst this
      go_wp2
      go_ret
      exact ⟨F, P, rfl, HR⟩
theorem toSegmentS_own (v : Value) (us : List Sg) (w : World) (S : Nat → Prop) (hv : LAt 2 ESg w S v us) (hS : ∀ g, S g → g < w.heap.size) (hf : szL szSg us ≤ 1048576) :
    Calls Try.prog 25 #[v] w fun e w' => ∃ v', e = .returned v' ∧ SgsOwn w' (seg w.heap.size w'.heap.size) v' us ∧ Below w.heap.size w w' := by
  obtain ⟨hn, A, c, rfl, h⟩ := hv
  by_cases hz : us.length = 0
  · obtain rfl := List.length_eq_zero_iff.1 hz
    refine (toSegmentS_none A c w).mono fun e w' ⟨v', a1, ⟨A', c', a2⟩, a3⟩ => ⟨v', a1, ?_, a3⟩
    rw [a2]
    exact LOwn.nil _ _ _ _
  obtain ⟨g, o, F, rfl, hg, hc, hcell, hel⟩ := h.resolve_left hz
  exact (toSegmentS_ocore g o us.length c us F w S (szL_len _ hf) hc (hS g hg) hS (fun i hi => szL_one _ hf hi) hel hcell).mono fun e w' ⟨F, P, a1, a2⟩ => ⟨_, a1, a2.own (szL_len _ hf), a2.bel⟩
end Go.Proofs.Yticihnoekffelaa.Ow
namespace Go.Proofs.Yticihnoekffelaa.Ow
set_option maxRecDepth 8000
open Go.RowKit
open Recs
open Ls
open LogW (Lg)
open SegW (Sg)
set_option linter.unusedVariables false
def EOLg : Elt Lg := fun w S f u => (f 0 = .int .i64 u.start ∧ f 1 = .int .i64 u.next ∧ f 2 = .int .i64 u.roll) ∧ ∃ Q : Nat → Nat → Prop, (∀ i y, Q i y → S y) ∧ (∀ i j, i ≠ j → ∀ y, Q i y → ¬ Q j y) ∧ SgsOwn w (Q 3) (f 3) u.segs
theorem keepsOLg : KeepsO 4 EOLg := fun w w' S f f' t h hs hk hf => by
  obtain ⟨⟨s0, s1, s2⟩, Q, q1, q2, l3⟩ := h
  exact ⟨⟨by rw [hf 0 (by omega)]; exact s0, by rw [hf 1 (by omega)]; exact s1, by rw [hf 2 (by omega)]; exact s2⟩, Q, q1, q2, by rw [hf 3 (by omega)]; exact l3.keep keepsOSg hs (fun g hg => hk g (q1 _ g hg))⟩
theorem atOLg (w : World) (S : Nat → Prop) (f : Nat → Value) (u : Lg) (h : EOLg w S f u) : ELg w S f u := by
  obtain ⟨⟨s0, s1, s2⟩, Q, q1, q2, l3⟩ := h
  exact ⟨s0, s1, s2, (LOwn.lat growsSg atOSg l3).mono growsSg (q1 3)⟩
abbrev LgsOwn := LOwn 28 4 EOLg
def LgOwn (w : World) (S : Nat → Prop) (v : Value) (u : Lg) : Prop := ∃ f, v = .agg (arrLg f) ∧ EOLg w S f u
set_option maxHeartbeats 1600000 in
theorem toLog_own (v : Value) (u : Lg) (w : World) (S : Nat → Prop) (hv : LgAt w S v u) (hS : ∀ g, S g → g < w.heap.size) (hf : szLg u ≤ 1048576) :
    Calls Try.prog 7 #[v] w fun e w' => ∃ v', e = .returned v' ∧ LgOwn w' (seg w.heap.size w'.heap.size) v' u ∧ Below w.heap.size w w' := by
  obtain ⟨f, rfl, y0, y1, y2, y3⟩ := hv
  try simp only [arrLg]
  rw [show f 0 = _ from y0]
  clear y0
  rw [show f 1 = _ from y1]
  clear y1
  rw [show f 2 = _ from y2]
  clear y2
  obtain ⟨A3, c3, g3⟩ := y3.form
  rw [g3] at y3 ⊢
  have H3 := Seg.hid y3
  clear y3 g3
  unfold szLg at hf
  go_enter Try.func7, Try.ntmps7
  go_wp2_with fail
  refine (toSegmentS_own _ u.segs (((w.alloc _).alloc _).alloc _) S (H3.out.below keepsSg (below3 w _ _ _) hS) (fun g hg => by rw [hsz, hsz, hsz]; have := hS g hg; omega) (by omega)).mono ?_
  rintro e w1 ⟨v1, rfl, l1, b1⟩
  have B1 := Seg.hid (chain (below3 w _ _ _) b1)
  have Ta1 : Hid (w1.heap[w.heap.size]? = some (.cells #[.int .i64 u.start, .int .i64 u.next, .int .i64 u.roll, .slice A3 u.segs.length c3] 24 (0, 0))) := (b1.block w.heap.size (by rw [hsz, hsz, hsz]; omega)).trans (at3z w _ _ _)
  have Tr1 : Hid (w1.heap[w.heap.size + 1]? = some (.cells #[.int .i64 0, .int .i64 0, .int .i64 0, .slice none 0 0] 28 (0, 0))) := (b1.block (w.heap.size + 1) (by rw [hsz, hsz, hsz]; omega)).trans (at3 w _ _ _)
  have To1 : Hid (w1.heap[w.heap.size + 1 + 1]? = some (.cells #[.int .i64 u.start, .int .i64 u.next, .int .i64 u.roll, .slice none 0 0] 28 (0, 0))) := (b1.block (w.heap.size + 1 + 1) (by rw [hsz, hsz, hsz]; omega)).trans (Cells.at3' w _ _ _)
  have s1 : w.heap.size + 3 ≤ w1.heap.size := by have := b1.size; rw [hsz, hsz, hsz] at this; omega
  have M1 : Hid (SgsOwn w1 (seg (w.heap.size + 3) w1.heap.size) v1 u.segs) := by
    rw [hsz, hsz, hsz] at l1
    exact l1
  obtain ⟨Y1, x1, r1⟩ := LOwn.form M1.out
  subst r1
  clear b1 l1
  have N11 := M1
  have po13 : (w1).cell? ⟨w.heap.size + 1 + 1, 3, none⟩ = some (.slice none 0 0) := cell_of_row (w1) _ 3 _ _ (0, 0) (To1.out)
  have pf13 : (w1).frozen? ⟨w.heap.size + 1 + 1, 3, none⟩ = false := frozen_of_row (w1) _ 3 _ _ (To1.out)
  have qo13 : Hid (((w1.setCell ⟨w.heap.size + 1 + 1, 3, none⟩ (.slice Y1 u.segs.length x1))).heap[w.heap.size + 1 + 1]? = some (.cells #[.int .i64 u.start, .int .i64 u.next, .int .i64 u.roll, .slice Y1 u.segs.length x1] 28 (0, 0))) := heap_setCell_same (w1) (w.heap.size + 1 + 1) 3 _ _ (.slice Y1 u.segs.length x1) (To1.out)
  have Uo1 := Seg.hid (qo13.out)
  have Ur1 := Seg.hid ((heap_setCell_other (w1) ⟨w.heap.size + 1 + 1, 3, none⟩ (w.heap.size + 1) (.slice Y1 u.segs.length x1) (by simp)).trans (Tr1.out))
  have Ua1 := Seg.hid ((heap_setCell_other (w1) ⟨w.heap.size + 1 + 1, 3, none⟩ w.heap.size (.slice Y1 u.segs.length x1) (by simp; omega)).trans (Ta1.out))
  have D1 : Hid (Below w.heap.size w (w1.setCell ⟨w.heap.size + 1 + 1, 3, none⟩ (.slice Y1 u.segs.length x1))) := (B1.out).setCell (p := ⟨w.heap.size + 1 + 1, 3, none⟩) (by simp; omega) (.slice Y1 u.segs.length x1)
  have N11' : Hid (SgsOwn (w1.setCell ⟨w.heap.size + 1 + 1, 3, none⟩ (.slice Y1 u.segs.length x1)) (seg (w.heap.size + 3) w1.heap.size) (.slice Y1 u.segs.length x1) u.segs) := LOwn.keep keepsOSg N11.out (by simp) (fun g hg => by have := hg.1; rw [heap_setCell_other _ _ _ _ (by show _ ≠ w.heap.size + 1 + 1; omega)])
  obtain ⟨fx, hfx⟩ : ∃ fx : Nat → Value, fx = (fun q => if q = 0 then .int .i64 u.start else if q = 1 then .int .i64 u.next else if q = 2 then .int .i64 u.roll else .slice Y1 u.segs.length x1) := ⟨_, rfl⟩
  have HX := Seg.hid hfx
  have Uz : Hid ((w1.setCell ⟨w.heap.size + 1 + 1, 3, none⟩ (.slice Y1 u.segs.length x1)).heap[w.heap.size + 1 + 1]? = some (.cells (arrLg fx) 28 (0, 0))) := by
    show _ = _
    rw [hfx]
    exact Uo1.out
  clear hfx
  have H5a := Cells.there_of Ur1.out
  have H5 : Hid ((w1.setCell ⟨w.heap.size + 1 + 1, 3, none⟩ (.slice Y1 u.segs.length x1)).there (w.heap.size + 1) 0 (arrLg fx).size) := H5a
  clear H5a
  have H4 := Seg.hid (Cells.whole (vs := arrLg fx) Ur1.out rfl)
  have B9 := Seg.hid (Cells.below_setCells (g := w.heap.size + 1) (by omega) (arrLg fx).toList 0 _ _ D1.out)
  have ZS : ((w1.setCell ⟨w.heap.size + 1 + 1, 3, none⟩ (.slice Y1 u.segs.length x1)).setCells (w.heap.size + 1) 0 (arrLg fx).toList).heap.size = w1.heap.size := by rw [Cells.size_setCells]; simp
  have F1 : Hid (SgsOwn ((w1.setCell ⟨w.heap.size + 1 + 1, 3, none⟩ (.slice Y1 u.segs.length x1)).setCells (w.heap.size + 1) 0 (arrLg fx).toList) (seg (w.heap.size + 3) w1.heap.size) (fx 3) u.segs) := by
    show SgsOwn _ _ _ _
    rw [show fx 3 = .slice Y1 u.segs.length x1 by rw [HX.out]; rfl]
    refine LOwn.keep keepsOSg N11'.out (by rw [Cells.size_setCells]; exact Nat.le_refl _) (fun g hg => ?_)
    have := hg.1
    rw [Cells.heap_setCells_other _ _ (by omega)]
  obtain ⟨Q, hQ⟩ : ∃ Q : Nat → Nat → Prop, Q = (fun i => if i = 3 then (seg (w.heap.size + 3) w1.heap.size) else fun _ => False) := ⟨_, rfl⟩
  have hq1 : Q 3 = (seg (w.heap.size + 3) w1.heap.size) := by rw [hQ]; rfl
  have hq0 : ∀ i y, i ≠ 3 → ¬ Q i y := by
    intro i y n1 hy
    rw [hQ] at hy
    simp only [if_neg n1] at hy
  clear hQ
  have EX : Hid (EOLg ((w1.setCell ⟨w.heap.size + 1 + 1, 3, none⟩ (.slice Y1 u.segs.length x1)).setCells (w.heap.size + 1) 0 (arrLg fx).toList) (seg w.heap.size ((w1.setCell ⟨w.heap.size + 1 + 1, 3, none⟩ (.slice Y1 u.segs.length x1)).setCells (w.heap.size + 1) 0 (arrLg fx).toList).heap.size) fx u) := by
    refine ⟨⟨by rw [HX.out]; rfl, by rw [HX.out]; rfl, by rw [HX.out]; rfl⟩, Q, ?_, ?_, ?_⟩
    · intro i y hy
      by_cases e1 : i = 3
      · subst e1; rw [hq1] at hy
        exact ⟨by have := hy.1; omega, by rw [ZS]; have := hy.2; omega⟩
      exact absurd hy (hq0 i y e1)
    · intro i j hij y hi hj
      by_cases e1 : i = 3
      · subst e1; rw [hq1] at hi
        by_cases f1 : j = 3
        · subst f1
          exact absurd rfl hij
        exact absurd hj (hq0 j y f1)
      exact absurd hi (hq0 i y e1)
    · rw [hq1]; exact F1.out
  clear hq0 hq1
  have ON := Seg.hid (oneLg (atOLg _ _ _ _ EX.out))
  clear Ta1 Tr1 To1 Ua1 M1 ZS
  go_upto_region 6 with fail
  clear po13 pf13
  generalize (w1.setCell ⟨w.heap.size + 1 + 1, 3, none⟩ (.slice Y1 u.segs.length x1)) = wz at *
  go_wp2_with (first | (refine wpList_load_row rfl 28 _ rfl (w.heap.size + 1 + 1) rfl _ _ _ _ Uz.out Try.underlying28 rfl infoLg ?_) | (refine wpList_store_mid rfl 28 _ _ rfl (w.heap.size + 1) 0 (arrLg fx) rfl rfl H5.out infoLg ON.out ?_))
  exact bodyPost_ret (v := .agg (arrLg fx)) (results_cell_row rfl _ _ (w.heap.size + 1) _ _ _ _ rfl H4.out Try.underlying28 rfl infoLg) rfl ⟨_, rfl, ⟨fx, rfl, EX.out⟩, B9.out⟩
end Go.Proofs.Yticihnoekffelaa.Ow
