/- Segments in lists of the call's own; the law's copiers of Segments and of a Log. -/
import Derived.Test.YtidggillganafaaJS30
import Derived.Test.YtidggillganafaaJS07
namespace Go.Proofs.Ytidggillganafaa.Ft
set_option maxRecDepth 8000
open Go.RowKit
open Recs
open ToO (MineC)
open Bats (BatsAt)
open SegW
open Segs (SegsAt segsCells)
open LogW
set_option linter.unusedVariables false
def ES (w : World) (S : Nat → Prop) (f : Nat → Value) (t : Sg) : Prop := f 0 = .int .i64 t.base ∧ OwnB w S (f 1) t.bats
def OwnS (w : World) (S : Nat → Prop) (v : Value) (ts : List Sg) : Prop := LOwn 59 2 ES w S v ts
theorem keepsS : Keeps 2 ES := fun w w' S f f' t h hs hk hf => by
  obtain ⟨h0, h1⟩ := h
  refine ⟨by rw [hf 0 (by omega)]; exact h0, ?_⟩
  rw [hf 1 (by omega)]
  exact LOwn.keep keepsB h1 hs hk
theorem segs_of {w : World} {S : Nat → Prop} {v : Value} {ts : List Sg} {lo b : Nat} (h : OwnS w S v ts) (hS : ∀ x, S x → lo ≤ x ∧ x < b) : SegsAt w lo b v ts := by
  obtain ⟨F, P, hr, he⟩ := row_of h hS
  refine ⟨fun i => F (i * 2 + 1), row_eqf hr fun i hi j hj => ?_, fun i hi => bats_of (he i hi).1.2 (he i hi).2⟩
  obtain ⟨⟨e0, _⟩, _⟩ := he i hi
  match j, hj with
  | 0, _ => exact e0
  | 1, _ => rfl

set_option maxHeartbeats 800000 in
theorem toSegmentS_core (g o n c b lo : Nat) (ts : List Sg) (H : Nat → Value) (w : World) (hn : n ≤ 1048576) (hc : n ≤ c) (hg : g < w.heap.size) (hb : b ≤ w.heap.size)
    (hf : ∀ i, i < n → FewS (ts.getD i default)) (hh : ∀ i, i < n → BatsAt w lo b (H i) (ts.getD i default).bats)
    (ha : ∀ i, i < n → ∀ j, j < 2 → w.cell? ⟨g, o + i * 2 + j, none⟩ = some (segsCells ts H i j)) :
    Calls Try.prog 21 #[.slice (some ⟨g, o, none⟩) n c] w fun e w' => ∃ F P, e = .returned (.slice (some ⟨w.heap.size, 0, none⟩) n n) ∧ LPart 59 2 ES w w' n F P ts n := by
  obtain ⟨i0, hi, hz0, hz1, hz2⟩ := info_parts Segs.info6
  have HA := Seg.hid ha; have HK := Seg.hid hf; have HH := Seg.hid hh
  clear ha hf hh
  go_enter Try.func21, Try.ntmps21
  go_wp2_with (at_make; refine wpList_make_full _ rfl _ _ 27 rfl w.heap.size 59 i0 _ 2 Try.underlying27 hi hz0 hz1 .i64 .i64 _ _ n rfl rfl rfl rfl (by rw [hz2]; omega) (by unfold maxLen; omega) (Nat.le_refl _) ?_; intro w1 hown hgr)
  have hb1 := (Below.refl w.heap.size w).grown hgr (Nat.le_refl _) (fun k hk => by cases hk)
  have HM := Seg.hid (Mine.of_made hown hown.1)
  have HB := Seg.hid hb1
  clear hown hgr hb1 hi hz0 hz1 hz2
  go_loopw [4] (fun i wr => ∃ (j : Nat) (F : Nat → Value) (P : Nat → Nat → Prop), j ≤ n ∧ i = .int .i64 j ∧ LPart 59 2 ES w wr n F P ts j) (fun i _ => n - (intOf i).toNat)
  case atStart => exact ⟨0, _, fun _ _ => False, Nat.zero_le _, rfl, HM.out, HB.out, fun i hi => absurd hi (by omega), fun i hi => absurd hi (by omega), fun i j hi => absurd hi (by omega)⟩
  case round =>
    clear HM HB
    obtain ⟨j, F, P, hj, rfl, HR⟩ := hrel
    by_cases hlt : j < n
    · obtain ⟨c0, c1⟩ := Segs.six (Segs.six' HA.out HR.bel hg) j hlt
      have RA : Hid (SegAt wr lo b (.agg #[.int .i64 (ts.getD j default).base, H j]) (ts.getD j default)) := ⟨_, rfl, (HH.out j hlt).below (HR.bel.mono hb)⟩
      have FW := Seg.hid (HK.out j hlt)
      have hbr : b ≤ wr.heap.size := Nat.le_trans hb HR.bel.size
      have ST : Hid (∀ w1 hv, Below wr.heap.size wr w1 → OwnB w1 (seg wr.heap.size w1.heap.size) hv (ts.getD j default).bats → LPart 59 2 ES w (w1.setCells w.heap.size (j * 2) (segArr (ts.getD j default) hv).toList) n (Own.upd F (j * 2) (segArr (ts.getD j default) hv).toList) (fun i => if i = j then seg wr.heap.size w1.heap.size else P i) ts (j + 1)) := fun w1 hv b1 ho => by
        have hcell : ∀ q, q < 2 → Own.upd F (j * 2) (segArr (ts.getD j default) hv).toList (j * 2 + q) = (segArr (ts.getD j default) hv).toList.getD q default := fun q hq => Own.upd_in (by simp [segArr]; omega)
        refine LPart.push keepsS HR (by simp [segArr]) b1 (fun x hx => hx) ⟨?_, ?_⟩
        · show Own.upd _ _ _ _ = _; rw [hcell 0 (by omega)]; rfl
        · show OwnB _ _ (Own.upd _ _ _ _) _
          rw [hcell 1 (by omega)]
          show OwnB _ _ hv _
          have hl := HR.mine.lt
          exact LOwn.keep keepsB ho (by rw [Cells.size_setCells]; exact Nat.le_refl _) (fun g hg => Cells.heap_setCells_other _ _ (by have := hg.1; omega))
      have HM := Seg.hid HR.mine
      have h0 : (0 : Int) ≤ (j : Int) := by omega
      have h1 : (j : Int) < (n : Int) := by omega
      clear HR
      generalize ts.getD j default = rj at *
      go_wp2_with fail
      refine (toSegment_own _ rj wr lo b RA.out hbr FW.out).mono ?_
      rintro e w1 ⟨hv1, rfl, ho1, b1⟩
      have S1 := Seg.hid (ST.out w1 hv1 b1 ho1)
      have M1 := Seg.hid (Own.mine_there (o := j * 2) (m := 2) (HM.out.below b1 HM.out.lt) (by omega))
      obtain ⟨A1, k1, rfl⟩ := LOwn.form ho1
      clear b1 ho1
      have M2 : Hid (w1.there w.heap.size (j * 2) (segArr rj (.slice A1 rj.bats.length k1)).size) := M1.out
      clear M1
      rw [show segVal rj (.slice A1 rj.bats.length k1) = .agg (segArr rj (.slice A1 rj.bats.length k1)) from rfl]
      go_wp2_with (refine wpList_store_mid rfl 59 _ _ rfl w.heap.size (j * 2) (segArr rj (.slice A1 rj.bats.length k1)) rfl rfl ?ht infoN (segArr_one _ _ rfl) ?_; case ht => exact M2.out)
      go_roundw
      case rel => exact ⟨j + 1, _, _, by omega, by go_num, S1.out⟩
      case measure => simp [intOf]; omega
    · have : j = n := by omega
      subst this
      go_wp2
      go_ret
      exact ⟨F, P, rfl, HR⟩

theorem toSegmentS_own (v : Value) (ts : List Sg) (w : World) (lo b : Nat) (hv : SegsAt w lo b v ts) (hb : b ≤ w.heap.size) (hl : ts.length ≤ 1048576) (hf : ∀ i, i < ts.length → FewS (ts.getD i default)) :
    Calls Try.prog 21 #[v] w fun e w' => ∃ v', e = .returned v' ∧ OwnS w' (seg w.heap.size w'.heap.size) v' ts ∧ Below w.heap.size w w' := by
  obtain ⟨H, ⟨hn, A, c, rfl, h⟩, hh⟩ := hv
  by_cases hz : ts.length = 0
  · have : ts = [] := List.length_eq_zero_iff.1 hz
    subst this
    refine (Segs.toSegmentS_none A c w).mono fun e w' ⟨v', a1, ⟨A', c', a2⟩, a3⟩ => ⟨v', a1, ?_, a3⟩
    rw [a2]
    exact LOwn.nil _ _ _ _
  obtain ⟨g, o, rfl, hg, hc, hcell, _⟩ := h.resolve_left hz
  exact (toSegmentS_core g o ts.length c b lo ts H w hl hc (by omega) hb hf hh hcell).mono fun e w' ⟨F, P, a1, a2⟩ => ⟨_, a1, a2.own hl, a2.bel⟩

set_option maxHeartbeats 400000 in
theorem toLog_own (v : Value) (t : Lg) (w : World) (lo b : Nat) (hv : LogAt w lo b v t) (hb : b ≤ w.heap.size) (hf : FewL t) :
    Calls Try.prog 7 #[v] w fun e w' => ∃ sv, e = .returned (logVal t sv) ∧ OwnS w' (seg w.heap.size w'.heap.size) sv t.segs ∧ Below w.heap.size w w' := by
  obtain ⟨hv, rfl, hh⟩ := hv
  have HH := Seg.hid hh
  obtain ⟨H, ⟨hn, A, c, hve, _⟩, _⟩ := id hh
  clear hh
  unfold logVal
  subst hve
  go_enter Try.func7, Try.ntmps7
  go_wp2_with fail
  refine (toSegmentS_own _ t.segs (((w.alloc _).alloc _).alloc _) lo b (HH.out.below ((below3 w _ _ _).mono hb)) (by rw [hsz, hsz, hsz]; omega) hf.1.1 hf.1.2).mono ?_
  rintro e w1 ⟨v', rfl, hh1, b1⟩
  have B1 := Seg.hid (chain (below3 w _ _ _) b1)
  have T1 := (b1.block (w.heap.size + 1) (by rw [hsz, hsz, hsz]; omega)).trans (at3 w _ _ _)
  have T2 := (b1.block (w.heap.size + 1 + 1) (by rw [hsz, hsz, hsz]; omega)).trans (Cells.at3' w _ _ _)
  have HH1 := Seg.hid hh1
  obtain ⟨A', c', hve⟩ := LOwn.form hh1
  clear hh1 b1
  subst hve
  have cN := cell_of_row w1 (w.heap.size + 1 + 1) 3 _ _ _ T2
  have zN := frozen_of_row w1 (w.heap.size + 1 + 1) 3 _ _ T2
  have H3 : Hid ((w1.setCell ⟨w.heap.size + 1 + 1, 3, none⟩ (.slice A' t.segs.length c')).heap[w.heap.size + 1 + 1]? = some (.cells (logArr t (.slice A' t.segs.length c')) 29 (0, 0))) := heap_setCell_same w1 (w.heap.size + 1 + 1) 3 _ _ (.slice A' t.segs.length c') T2
  have T4 := (heap_setCell_other w1 ⟨w.heap.size + 1 + 1, 3, none⟩ (w.heap.size + 1) (.slice A' t.segs.length c') (by simp)).trans T1
  have H5 := Seg.hid (Cells.there_of T4)
  have H4 := Seg.hid (Cells.whole (vs := logArr t (.slice A' t.segs.length c')) T4 rfl)
  have B2 := Seg.hid (Cells.below_setCells (g := w.heap.size + 1) (by omega) (logArr t (.slice A' t.segs.length c')).toList 0 _ _ (B1.out.setCell (p := ⟨w.heap.size + 1 + 1, 3, none⟩) (by simp; omega) (.slice A' t.segs.length c')))
  have HF : Hid (OwnS ((w1.setCell ⟨w.heap.size + 1 + 1, 3, none⟩ (.slice A' t.segs.length c')).setCells (w.heap.size + 1) 0 (logArr t (.slice A' t.segs.length c')).toList) (seg w.heap.size ((w1.setCell ⟨w.heap.size + 1 + 1, 3, none⟩ (.slice A' t.segs.length c')).setCells (w.heap.size + 1) 0 (logArr t (.slice A' t.segs.length c')).toList).heap.size) (.slice A' t.segs.length c') t.segs) := by
    refine (LOwn.keep keepsS HH1.out (by rw [Cells.size_setCells]; simp) (fun g h1 => ?_)).mono (fun x hx => ?_)
    · have := h1.1
      rw [hsz, hsz, hsz] at this
      rw [Cells.heap_setCells_other _ _ (by omega), heap_setCell_other _ _ _ _ (by show _ ≠ w.heap.size + 1 + 1; omega)]
    · obtain ⟨x1, x2⟩ := hx
      rw [hsz, hsz, hsz] at x1
      refine ⟨by omega, ?_⟩
      rw [Cells.size_setCells]
      simpa using x2
  clear T1 T2 T4
  simp at cN
  go_wp2_with (first | (refine wpList_load_row rfl 29 _ rfl (w.heap.size + 1 + 1) rfl _ _ _ _ H3.out Try.underlying29 rfl LogW.infoN ?_) | (refine wpList_store_mid rfl 29 _ _ rfl (w.heap.size + 1) 0 (logArr t (.slice A' t.segs.length c')) rfl rfl H5.out LogW.infoN (LogW.logArr_one _ _ rfl) ?_))
  exact bodyPost_ret (v := logVal t (.slice A' t.segs.length c')) (results_cell_row rfl _ _ (w.heap.size + 1) _ _ _ _ rfl H4.out Try.underlying29 rfl LogW.infoN) rfl ⟨_, rfl, HF.out, B2.out⟩
end Go.Proofs.Ytidggillganafaa.Ft
