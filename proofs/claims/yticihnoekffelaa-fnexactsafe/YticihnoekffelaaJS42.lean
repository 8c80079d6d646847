/- A copier's list of its own, filled one by one, by sets; Head: the law's copiers answer memory of their own; Record: the law's copiers answer memory of their own. -/
import Derived.Test.YticihnoekffelaaJS38
import Derived.Test.YticihnoekffelaaJS39
import Derived.Test.YticihnoekffelaaJS20
namespace Go.Proofs.Yticihnoekffelaa.Ow
set_option maxRecDepth 8000
open Go.RowKit
open Recs
open Ls
set_option linter.unusedVariables false
/-- A row of one's own that is filled one by one: m elements stand. -/
structure LPart {T : Type} [Inhabited T] (ty nf : Nat) (EO : Elt T) (w wr : World) (us : List T) (n m : Nat) (F : Nat → Value) (P : Nat → Nat → Prop) : Prop where
  mine : Mine wr ty nf w.heap.size n F
  bel : Below w.heap.size w wr
  el : ∀ i, i < m → EO wr (P i) (fun q => F (i * nf + q)) (us.getD i default)
  apart : ∀ i, i < m → ∀ x, P i x → w.heap.size < x ∧ x < wr.heap.size
  disj : ∀ i j, i < m → j < m → i ≠ j → ∀ x, P i x → ¬ P j x
section
variable {T : Type} [Inhabited T] {ty nf : Nat} {EO : Elt T}
theorem LPart.step (hE : KeepsO nf EO) {w wr w1 : World} {n m : Nat} {F : Nat → Value} {P : Nat → Nat → Prop} {us : List T} (h : LPart ty nf EO w wr us n m F P) (vs : List Value) (hv : vs.length = nf) (b1 : Below wr.heap.size wr w1)
    (he : EO w1 (seg wr.heap.size w1.heap.size) (fun q => vs.getD q default) (us.getD m default)) :
    LPart ty nf EO w (w1.setCells w.heap.size (m * nf) vs) us n (m + 1) (Own.upd F (m * nf) vs) (fun i => if i = m then seg wr.heap.size w1.heap.size else P i) := by
  have hlt := h.mine.lt
  have keep : ∀ g, g ≠ w.heap.size → (w1.setCells w.heap.size (m * nf) vs).heap[g]? = w1.heap[g]? := fun g hg => Cells.heap_setCells_other _ _ hg
  have hsize := Cells.size_setCells (g := w.heap.size) vs (o := m * nf) w1
  have b1s := b1.size
  refine ⟨Own.mine_setCells _ _ _ _ (h.mine.below b1 hlt), Cells.below_setCells (Nat.le_refl _) _ _ _ _ (chain h.bel b1), fun i hi => ?_, fun i hi x hx => ?_, fun i j hi hj hij x hx hx' => ?_⟩
  · by_cases e : i = m
    · subst e
      rw [if_pos rfl]
      exact hE _ _ _ _ _ _ he (by rw [hsize]; exact Nat.le_refl _) (fun g hg => keep g (by have := hg.1; omega)) (fun q hq => Own.upd_in (by omega))
    · rw [if_neg e]
      refine hE _ _ _ _ _ _ (h.el i (by omega)) (by rw [hsize]; exact b1s) (fun g hg => ?_) (fun q hq => ?_)
      · have := h.apart i (by omega) g hg
        exact (keep g (by omega)).trans (b1.block g (by omega))
      · refine Own.upd_out (.inl ?_)
        have : (i + 1) * nf ≤ m * nf := Nat.mul_le_mul_right nf (by omega)
        rw [Nat.succ_mul] at this
        omega
  · rw [hsize]
    by_cases e : i = m
    · subst e
      rw [if_pos rfl] at hx
      have := hx.1; have := hx.2
      exact ⟨by omega, by omega⟩
    · rw [if_neg e] at hx
      have := h.apart i (by omega) x hx
      exact ⟨by omega, by omega⟩
  · by_cases e : i = m
    · subst e
      rw [if_pos rfl] at hx
      rw [if_neg (Ne.symm hij)] at hx'
      have a1 := hx.1
      have a2 := h.apart j (by omega) x hx'
      omega
    · rw [if_neg e] at hx
      by_cases e2 : j = m
      · subst e2
        rw [if_pos rfl] at hx'
        have a1 := hx'.1
        have a2 := h.apart i (by omega) x hx
        omega
      · rw [if_neg e2] at hx'
        exact h.disj i j (by omega) (by omega) hij x hx hx'
theorem LPart.own {w wr : World} {F : Nat → Value} {P : Nat → Nat → Prop} {us : List T} (h : LPart ty nf EO w wr us us.length us.length F P) (hn : us.length ≤ 1048576) : LOwn ty nf EO wr (seg w.heap.size wr.heap.size) (.slice (some ⟨w.heap.size, 0, none⟩) us.length us.length) us :=
  ⟨hn, _, _, rfl, .inr ⟨w.heap.size, F, P, rfl, ⟨Nat.le_refl _, h.mine.lt⟩, fun i hi x hx => ⟨by have := h.apart i hi x hx; omega, (h.apart i hi x hx).2⟩, h.mine, rfl, h.el, fun i hi x hx => ⟨by have := h.apart i hi x hx; omega, (h.apart i hi x hx).2⟩, h.disj⟩⟩
end
end Go.Proofs.Yticihnoekffelaa.Ow
namespace Go.Proofs.Yticihnoekffelaa.Ow
set_option maxRecDepth 8000
open Go.RowKit
open Recs
open Ls
set_option linter.unusedVariables false
def HdOwn (w : World) (S : Nat → Prop) (v : Value) (u : Hd) : Prop := ∃ f, v = .agg (arrHd f) ∧ EOHd w S f u
set_option maxHeartbeats 1600000 in
theorem toHead_own (v : Value) (u : Hd) (w : World) (S : Nat → Prop) (hv : HdAt w S v u) (hS : ∀ g, S g → g < w.heap.size) (hf : szHd u ≤ 1048576) :
    Calls Try.prog 107 #[v] w fun e w' => ∃ v', e = .returned v' ∧ HdOwn w' (seg w.heap.size w'.heap.size) v' u ∧ Below w.heap.size w w' := by
  exact (toHead_any v u w S hv hS hf).mono fun e w' ⟨v', h1, h2, h3⟩ => ⟨v', h1, h2, h3⟩
set_option maxHeartbeats 800000 in
theorem toHeadS_ocore (g o n c : Nat) (us : List Hd) (F0 : Nat → Nat → Value) (w : World) (S : Nat → Prop) (hn : n ≤ 1048576) (hc : n ≤ c) (hg : g < w.heap.size) (hS : ∀ g, S g → g < w.heap.size)
    (hf : ∀ i, i < n → szHd (us.getD i default) ≤ 1048576) (he : ∀ i, i < n → EHd w S (F0 i) (us.getD i default))
    (ha : ∀ i, i < n → ∀ j, j < 2 → w.cell? ⟨g, o + i * 2 + j, none⟩ = some (F0 i j)) :
    Calls Try.prog 105 #[.slice (some ⟨g, o, none⟩) n c] w fun e w' => ∃ F P, e = .returned (.slice (some ⟨w.heap.size, 0, none⟩) n n) ∧ LPart 116 2 EOHd w w' us n n F P := by
  obtain ⟨i0, hi, hz0, hz1, hz2⟩ := info_parts infoZHd
  have HA := Seg.hid ha; have HK := Seg.hid hf; have HH := Seg.hid he
  clear ha hf he
  go_enter Try.func105, Try.ntmps105
  go_wp2_with (at_make; refine wpList_make_full _ rfl _ _ 86 rfl w.heap.size 116 i0 _ 2 Try.underlying86 hi hz0 hz1 .i64 .i64 _ _ n rfl rfl rfl rfl (by rw [hz2]; omega) (by unfold maxLen; omega) (Nat.le_refl _) ?_; intro w1 hown hgr)
  have hb1 := (Below.refl w.heap.size w).grown hgr (Nat.le_refl _) (fun k hk => by cases hk)
  have HM := Seg.hid (Mine.of_made hown hown.1)
  have HB := Seg.hid hb1
  clear hown hgr hb1 hi hz0 hz1 hz2
  go_loopw [4] (fun i wr => ∃ (j : Nat) (F : Nat → Value) (P : Nat → Nat → Prop), j ≤ n ∧ i = .int .i64 j ∧ LPart 116 2 EOHd w wr us n j F P) (fun i _ => n - (intOf i).toNat)
  case atStart => exact ⟨0, _, fun _ _ => False, Nat.zero_le _, rfl, HM.out, HB.out, fun i hi => absurd hi (by omega), fun i hi => absurd hi (by omega), fun i k hi => absurd hi (by omega)⟩
  case round =>
    clear HM HB
    obtain ⟨j, F, P, hj, rfl, HR⟩ := hrel
    by_cases hlt : j < n
    · have CL := cells_later HA.out HR.bel hg
      have c0 : wr.cell? ⟨g, o + j * 2, none⟩ = some (F0 j 0) := CL j ‹j < n› 0 (by omega)
      have c1 : wr.cell? ⟨g, o + j * 2 + 1, none⟩ = some (F0 j 1) := CL j ‹j < n› 1 (by omega)
      clear CL
      have RA : Hid (HdAt wr S (.agg (arrHd (F0 j))) (us.getD j default)) := ⟨_, rfl, keepsHd _ _ _ _ _ _ (HH.out j hlt) (fun g hg => HR.bel.block g (hS g hg)) (fun _ _ => rfl)⟩
      have FW := Seg.hid (HK.out j hlt)
      have hbr : Hid (∀ g, S g → g < wr.heap.size) := fun g hg => Nat.lt_of_lt_of_le (hS g hg) HR.bel.size
      have ST := Seg.hid (fun w1 vs hv b1 he => LPart.step keepsOHd (w1 := w1) HR vs hv b1 he)
      have HM := Seg.hid HR.mine
      have h0 : (0 : Int) ≤ (j : Int) := by omega
      have h1 : (j : Int) < (n : Int) := by omega
      clear HR
      generalize us.getD j default = uj at *
      go_wp2_with fail
      refine (toHead_own _ uj wr S RA.out hbr.out FW.out).mono ?_
      rintro e w1 ⟨v1, rfl, ⟨f1, rfl, he1⟩, b1⟩
      have S1 := Seg.hid (ST.out w1 (arrHd f1).toList rfl b1 (keepsOHd _ _ _ _ _ _ he1 (Nat.le_refl _) (fun _ _ => rfl) (fun q hq => by
        match q, hq with
        | 0, _ => rfl
        | 1, _ => rfl
        )))
      have M1 : Hid (w1.there w.heap.size (j * 2) (arrHd f1).size) := Own.mine_there (o := j * 2) (m := 2) (HM.out.below b1 HM.out.lt) (by omega)
      have ON := Seg.hid (oneHd (atOHd _ _ _ _ he1))
      clear b1 he1
      go_wp2_with (refine wpList_store_mid rfl 116 _ _ rfl w.heap.size (j * 2) (arrHd f1) rfl rfl ?ht infoHd ON.out ?_; case ht => exact M1.out)
      go_roundw
      case rel => exact ⟨j + 1, _, _, by omega, by go_num, S1.out⟩
      case measure => simp [intOf]; omega
    · have : j = n := by omega
      subst this
      go_wp2
      go_ret
      exact ⟨F, P, rfl, HR⟩
theorem toHeadS_own (v : Value) (us : List Hd) (w : World) (S : Nat → Prop) (hv : LAt 2 EHd w S v us) (hS : ∀ g, S g → g < w.heap.size) (hf : szL szHd us ≤ 1048576) :
    Calls Try.prog 105 #[v] w fun e w' => ∃ v', e = .returned v' ∧ HdsOwn w' (seg w.heap.size w'.heap.size) v' us ∧ Below w.heap.size w w' := by
  obtain ⟨hn, A, c, rfl, h⟩ := hv
  by_cases hz : us.length = 0
  · obtain rfl := List.length_eq_zero_iff.1 hz
    refine (toHeadS_none A c w).mono fun e w' ⟨v', a1, ⟨A', c', a2⟩, a3⟩ => ⟨v', a1, ?_, a3⟩
    rw [a2]
    exact LOwn.nil _ _ _ _
  obtain ⟨g, o, F, rfl, hg, hc, hcell, hel⟩ := h.resolve_left hz
  exact (toHeadS_ocore g o us.length c us F w S (szL_len _ hf) hc (hS g hg) hS (fun i hi => szL_one _ hf hi) hel hcell).mono fun e w' ⟨F, P, a1, a2⟩ => ⟨_, a1, a2.own (szL_len _ hf), a2.bel⟩
end Go.Proofs.Yticihnoekffelaa.Ow
namespace Go.Proofs.Yticihnoekffelaa.Ow
set_option maxRecDepth 8000
open Go.RowKit
open Recs
open Ls
set_option linter.unusedVariables false
def RecOwn (w : World) (S : Nat → Prop) (v : Value) (u : Rec) : Prop := ∃ f, v = .agg (arrRec f) ∧ EORec w S f u
set_option maxHeartbeats 1600000 in
theorem toRecord_own (v : Value) (u : Rec) (w : World) (S : Nat → Prop) (hv : RecAt w S v u) (hS : ∀ g, S g → g < w.heap.size) (hf : szRec u ≤ 1048576) :
    Calls Try.prog 103 #[v] w fun e w' => ∃ v', e = .returned v' ∧ RecOwn w' (seg w.heap.size w'.heap.size) v' u ∧ Below w.heap.size w w' := by
  obtain ⟨f, rfl, y0, y1, y2, y3, y4, y5⟩ := hv
  try simp only [arrRec]
  rw [show f 0 = _ from y0]
  clear y0
  rw [show f 1 = _ from y1]
  clear y1
  rw [show f 2 = _ from y2]
  clear y2
  rw [show f 3 = _ from y3]
  clear y3
  rw [show f 4 = _ from y4]
  clear y4
  obtain ⟨A5, c5, g5⟩ := y5.form
  rw [g5] at y5 ⊢
  have H5 := Seg.hid y5
  clear y5 g5
  unfold szRec at hf
  go_enter Try.func103, Try.ntmps103
  go_wp2_with fail
  refine (toHeadS_own _ u.heads (((w.alloc _).alloc _).alloc _) S (H5.out.below keepsHd (below3 w _ _ _) hS) (fun g hg => by rw [hsz, hsz, hsz]; have := hS g hg; omega) (by omega)).mono ?_
  rintro e w1 ⟨v1, rfl, l1, b1⟩
  have B1 := Seg.hid (chain (below3 w _ _ _) b1)
  have Ta1 : Hid (w1.heap[w.heap.size]? = some (.cells #[.int .i64 u.time, .bool u.keyed, .string u.key, .bool u.gone, .string u.val, .slice A5 u.heads.length c5] 130 (0, 0))) := (b1.block w.heap.size (by rw [hsz, hsz, hsz]; omega)).trans (at3z w _ _ _)
  have Tr1 : Hid (w1.heap[w.heap.size + 1]? = some (.cells #[.int .i64 0, .bool false, .string ByteArray.empty, .bool false, .string ByteArray.empty, .slice none 0 0] 88 (0, 0))) := (b1.block (w.heap.size + 1) (by rw [hsz, hsz, hsz]; omega)).trans (at3 w _ _ _)
  have To1 : Hid (w1.heap[w.heap.size + 1 + 1]? = some (.cells #[.int .i64 u.time, .bool u.keyed, .string u.key, .bool u.gone, .string u.val, .slice none 0 0] 88 (0, 0))) := (b1.block (w.heap.size + 1 + 1) (by rw [hsz, hsz, hsz]; omega)).trans (Cells.at3' w _ _ _)
  have s1 : w.heap.size + 3 ≤ w1.heap.size := by have := b1.size; rw [hsz, hsz, hsz] at this; omega
  have M1 : Hid (HdsOwn w1 (seg (w.heap.size + 3) w1.heap.size) v1 u.heads) := by
    rw [hsz, hsz, hsz] at l1
    exact l1
  obtain ⟨Y1, x1, r1⟩ := LOwn.form M1.out
  subst r1
  clear b1 l1
  have N11 := M1
  have po15 : (w1).cell? ⟨w.heap.size + 1 + 1, 5, none⟩ = some (.slice none 0 0) := cell_of_row (w1) _ 5 _ _ (0, 0) (To1.out)
  have pf15 : (w1).frozen? ⟨w.heap.size + 1 + 1, 5, none⟩ = false := frozen_of_row (w1) _ 5 _ _ (To1.out)
  have qo15 : Hid (((w1.setCell ⟨w.heap.size + 1 + 1, 5, none⟩ (.slice Y1 u.heads.length x1))).heap[w.heap.size + 1 + 1]? = some (.cells #[.int .i64 u.time, .bool u.keyed, .string u.key, .bool u.gone, .string u.val, .slice Y1 u.heads.length x1] 88 (0, 0))) := heap_setCell_same (w1) (w.heap.size + 1 + 1) 5 _ _ (.slice Y1 u.heads.length x1) (To1.out)
  have Uo1 := Seg.hid (qo15.out)
  have Ur1 := Seg.hid ((heap_setCell_other (w1) ⟨w.heap.size + 1 + 1, 5, none⟩ (w.heap.size + 1) (.slice Y1 u.heads.length x1) (by simp)).trans (Tr1.out))
  have Ua1 := Seg.hid ((heap_setCell_other (w1) ⟨w.heap.size + 1 + 1, 5, none⟩ w.heap.size (.slice Y1 u.heads.length x1) (by simp; omega)).trans (Ta1.out))
  have D1 : Hid (Below w.heap.size w (w1.setCell ⟨w.heap.size + 1 + 1, 5, none⟩ (.slice Y1 u.heads.length x1))) := (B1.out).setCell (p := ⟨w.heap.size + 1 + 1, 5, none⟩) (by simp; omega) (.slice Y1 u.heads.length x1)
  have N11' : Hid (HdsOwn (w1.setCell ⟨w.heap.size + 1 + 1, 5, none⟩ (.slice Y1 u.heads.length x1)) (seg (w.heap.size + 3) w1.heap.size) (.slice Y1 u.heads.length x1) u.heads) := LOwn.keep keepsOHd N11.out (by simp) (fun g hg => by have := hg.1; rw [heap_setCell_other _ _ _ _ (by show _ ≠ w.heap.size + 1 + 1; omega)])
  obtain ⟨fx, hfx⟩ : ∃ fx : Nat → Value, fx = (fun q => if q = 0 then .int .i64 u.time else if q = 1 then .bool u.keyed else if q = 2 then .string u.key else if q = 3 then .bool u.gone else if q = 4 then .string u.val else .slice Y1 u.heads.length x1) := ⟨_, rfl⟩
  have HX := Seg.hid hfx
  have Uz : Hid ((w1.setCell ⟨w.heap.size + 1 + 1, 5, none⟩ (.slice Y1 u.heads.length x1)).heap[w.heap.size + 1 + 1]? = some (.cells (arrRec fx) 88 (0, 0))) := by
    show _ = _
    rw [hfx]
    exact Uo1.out
  clear hfx
  have H5a := Cells.there_of Ur1.out
  have H5 : Hid ((w1.setCell ⟨w.heap.size + 1 + 1, 5, none⟩ (.slice Y1 u.heads.length x1)).there (w.heap.size + 1) 0 (arrRec fx).size) := H5a
  clear H5a
  have H4 := Seg.hid (Cells.whole (vs := arrRec fx) Ur1.out rfl)
  have B9 := Seg.hid (Cells.below_setCells (g := w.heap.size + 1) (by omega) (arrRec fx).toList 0 _ _ D1.out)
  have ZS : ((w1.setCell ⟨w.heap.size + 1 + 1, 5, none⟩ (.slice Y1 u.heads.length x1)).setCells (w.heap.size + 1) 0 (arrRec fx).toList).heap.size = w1.heap.size := by rw [Cells.size_setCells]; simp
  have F1 : Hid (HdsOwn ((w1.setCell ⟨w.heap.size + 1 + 1, 5, none⟩ (.slice Y1 u.heads.length x1)).setCells (w.heap.size + 1) 0 (arrRec fx).toList) (seg (w.heap.size + 3) w1.heap.size) (fx 5) u.heads) := by
    show HdsOwn _ _ _ _
    rw [show fx 5 = .slice Y1 u.heads.length x1 by rw [HX.out]; rfl]
    refine LOwn.keep keepsOHd N11'.out (by rw [Cells.size_setCells]; exact Nat.le_refl _) (fun g hg => ?_)
    have := hg.1
    rw [Cells.heap_setCells_other _ _ (by omega)]
  obtain ⟨Q, hQ⟩ : ∃ Q : Nat → Nat → Prop, Q = (fun i => if i = 5 then (seg (w.heap.size + 3) w1.heap.size) else fun _ => False) := ⟨_, rfl⟩
  have hq1 : Q 5 = (seg (w.heap.size + 3) w1.heap.size) := by rw [hQ]; rfl
  have hq0 : ∀ i y, i ≠ 5 → ¬ Q i y := by
    intro i y n1 hy
    rw [hQ] at hy
    simp only [if_neg n1] at hy
  clear hQ
  have EX : Hid (EORec ((w1.setCell ⟨w.heap.size + 1 + 1, 5, none⟩ (.slice Y1 u.heads.length x1)).setCells (w.heap.size + 1) 0 (arrRec fx).toList) (seg w.heap.size ((w1.setCell ⟨w.heap.size + 1 + 1, 5, none⟩ (.slice Y1 u.heads.length x1)).setCells (w.heap.size + 1) 0 (arrRec fx).toList).heap.size) fx u) := by
    refine ⟨⟨by rw [HX.out]; rfl, by rw [HX.out]; rfl, by rw [HX.out]; rfl, by rw [HX.out]; rfl, by rw [HX.out]; rfl⟩, Q, ?_, ?_, ?_⟩
    · intro i y hy
      by_cases e1 : i = 5
      · subst e1; rw [hq1] at hy
        exact ⟨by have := hy.1; omega, by rw [ZS]; have := hy.2; omega⟩
      exact absurd hy (hq0 i y e1)
    · intro i j hij y hi hj
      by_cases e1 : i = 5
      · subst e1; rw [hq1] at hi
        by_cases f1 : j = 5
        · subst f1
          exact absurd rfl hij
        exact absurd hj (hq0 j y f1)
      exact absurd hi (hq0 i y e1)
    · rw [hq1]; exact F1.out
  clear hq0 hq1
  have ON := Seg.hid (oneRec (atORec _ _ _ _ EX.out))
  clear Ta1 Tr1 To1 Ua1 M1 ZS
  go_upto_region 8 with fail
  clear po15 pf15
  generalize (w1.setCell ⟨w.heap.size + 1 + 1, 5, none⟩ (.slice Y1 u.heads.length x1)) = wz at *
  go_wp2_with (first | (refine wpList_load_row rfl 88 _ rfl (w.heap.size + 1 + 1) rfl _ _ _ _ Uz.out Try.underlying88 rfl infoRec ?_) | (refine wpList_store_mid rfl 88 _ _ rfl (w.heap.size + 1) 0 (arrRec fx) rfl rfl H5.out infoRec ON.out ?_))
  exact bodyPost_ret (v := .agg (arrRec fx)) (results_cell_row rfl _ _ (w.heap.size + 1) _ _ _ _ rfl H4.out Try.underlying88 rfl infoRec) rfl ⟨_, rfl, ⟨fx, rfl, EX.out⟩, B9.out⟩
set_option maxHeartbeats 800000 in
theorem toRecordS_ocore (g o n c : Nat) (us : List Rec) (F0 : Nat → Nat → Value) (w : World) (S : Nat → Prop) (hn : n ≤ 1048576) (hc : n ≤ c) (hg : g < w.heap.size) (hS : ∀ g, S g → g < w.heap.size)
    (hf : ∀ i, i < n → szRec (us.getD i default) ≤ 1048576) (he : ∀ i, i < n → ERec w S (F0 i) (us.getD i default))
    (ha : ∀ i, i < n → ∀ j, j < 6 → w.cell? ⟨g, o + i * 6 + j, none⟩ = some (F0 i j)) :
    Calls Try.prog 99 #[.slice (some ⟨g, o, none⟩) n c] w fun e w' => ∃ F P, e = .returned (.slice (some ⟨w.heap.size, 0, none⟩) n n) ∧ LPart 88 6 EORec w w' us n n F P := by
  obtain ⟨i0, hi, hz0, hz1, hz2⟩ := info_parts infoZRec
  have HA := Seg.hid ha; have HK := Seg.hid hf; have HH := Seg.hid he
  clear ha hf he
  go_enter Try.func99, Try.ntmps99
  go_wp2_with (at_make; refine wpList_make_full _ rfl _ _ 56 rfl w.heap.size 88 i0 _ 6 Try.underlying56 hi hz0 hz1 .i64 .i64 _ _ n rfl rfl rfl rfl (by rw [hz2]; omega) (by unfold maxLen; omega) (Nat.le_refl _) ?_; intro w1 hown hgr)
  have hb1 := (Below.refl w.heap.size w).grown hgr (Nat.le_refl _) (fun k hk => by cases hk)
  have HM := Seg.hid (Mine.of_made hown hown.1)
  have HB := Seg.hid hb1
  clear hown hgr hb1 hi hz0 hz1 hz2
  go_loopw [4] (fun i wr => ∃ (j : Nat) (F : Nat → Value) (P : Nat → Nat → Prop), j ≤ n ∧ i = .int .i64 j ∧ LPart 88 6 EORec w wr us n j F P) (fun i _ => n - (intOf i).toNat)
  case atStart => exact ⟨0, _, fun _ _ => False, Nat.zero_le _, rfl, HM.out, HB.out, fun i hi => absurd hi (by omega), fun i hi => absurd hi (by omega), fun i k hi => absurd hi (by omega)⟩
  case round =>
    clear HM HB
    obtain ⟨j, F, P, hj, rfl, HR⟩ := hrel
    by_cases hlt : j < n
    · have CL := cells_later HA.out HR.bel hg
      have c0 : wr.cell? ⟨g, o + j * 6, none⟩ = some (F0 j 0) := CL j ‹j < n› 0 (by omega)
      have c1 : wr.cell? ⟨g, o + j * 6 + 1, none⟩ = some (F0 j 1) := CL j ‹j < n› 1 (by omega)
      have c2 : wr.cell? ⟨g, o + j * 6 + 2, none⟩ = some (F0 j 2) := CL j ‹j < n› 2 (by omega)
      have c3 : wr.cell? ⟨g, o + j * 6 + 3, none⟩ = some (F0 j 3) := CL j ‹j < n› 3 (by omega)
      have c4 : wr.cell? ⟨g, o + j * 6 + 4, none⟩ = some (F0 j 4) := CL j ‹j < n› 4 (by omega)
      have c5 : wr.cell? ⟨g, o + j * 6 + 5, none⟩ = some (F0 j 5) := CL j ‹j < n› 5 (by omega)
      clear CL
      have RA : Hid (RecAt wr S (.agg (arrRec (F0 j))) (us.getD j default)) := ⟨_, rfl, keepsRec _ _ _ _ _ _ (HH.out j hlt) (fun g hg => HR.bel.block g (hS g hg)) (fun _ _ => rfl)⟩
      have FW := Seg.hid (HK.out j hlt)
      have hbr : Hid (∀ g, S g → g < wr.heap.size) := fun g hg => Nat.lt_of_lt_of_le (hS g hg) HR.bel.size
      have ST := Seg.hid (fun w1 vs hv b1 he => LPart.step keepsORec (w1 := w1) HR vs hv b1 he)
      have HM := Seg.hid HR.mine
      have h0 : (0 : Int) ≤ (j : Int) := by omega
      have h1 : (j : Int) < (n : Int) := by omega
      clear HR
      generalize us.getD j default = uj at *
      go_wp2_with fail
      refine (toRecord_own _ uj wr S RA.out hbr.out FW.out).mono ?_
      rintro e w1 ⟨v1, rfl, ⟨f1, rfl, he1⟩, b1⟩
      have S1 := Seg.hid (ST.out w1 (arrRec f1).toList rfl b1 (keepsORec _ _ _ _ _ _ he1 (Nat.le_refl _) (fun _ _ => rfl) (fun q hq => by
        match q, hq with
        | 0, _ => rfl
        | 1, _ => rfl
        | 2, _ => rfl
        | 3, _ => rfl
        | 4, _ => rfl
        | 5, _ => rfl
        )))
      have M1 : Hid (w1.there w.heap.size (j * 6) (arrRec f1).size) := Own.mine_there (o := j * 6) (m := 6) (HM.out.below b1 HM.out.lt) (by omega)
      have ON := Seg.hid (oneRec (atORec _ _ _ _ he1))
      clear b1 he1
      go_wp2_with (refine wpList_store_mid rfl 88 _ _ rfl w.heap.size (j * 6) (arrRec f1) rfl rfl ?ht infoRec ON.out ?_; case ht => exact M1.out)
      go_roundw
      case rel => exact ⟨j + 1, _, _, by omega, by go_num, S1.out⟩
      case measure => simp [intOf]; omega
    · have : j = n := by omega
      subst this
      go_wp2
      go_ret
      exact ⟨F, P, rfl, HR⟩
theorem toRecordS_own (v : Value) (us : List Rec) (w : World) (S : Nat → Prop) (hv : LAt 6 ERec w S v us) (hS : ∀ g, S g → g < w.heap.size) (hf : szL szRec us ≤ 1048576) :
    Calls Try.prog 99 #[v] w fun e w' => ∃ v', e = .returned v' ∧ RecsOwn w' (seg w.heap.size w'.heap.size) v' us ∧ Below w.heap.size w w' := by
  obtain ⟨hn, A, c, rfl, h⟩ := hv
  by_cases hz : us.length = 0
  · obtain rfl := List.length_eq_zero_iff.1 hz
    refine (toRecordS_none A c w).mono fun e w' ⟨v', a1, ⟨A', c', a2⟩, a3⟩ => ⟨v', a1, ?_, a3⟩
    rw [a2]
    exact LOwn.nil _ _ _ _
  obtain ⟨g, o, F, rfl, hg, hc, hcell, hel⟩ := h.resolve_left hz
  exact (toRecordS_ocore g o us.length c us F w S (szL_len _ hf) hc (hS g hg) hS (fun i hi => szL_one _ hf hi) hel hcell).mono fun e w' ⟨F, P, a1, a2⟩ => ⟨_, a1, a2.own (szL_len _ hf), a2.bel⟩
end Go.Proofs.Yticihnoekffelaa.Ow
