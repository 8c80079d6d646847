/- Segments in lists of the call's own; the law's copiers of Segments and of a Log; The law's marks on lists of Segments of the call's own (written by gen_mark.py). -/
import Derived.Test.YticihnoekffelaaJC08
import Derived.Test.YticihnoekffelaaJC12
import Derived.Test.YticihnoekffelaaJC11
namespace Go.Proofs.Yticihnoekffelaa.Ft
set_option maxRecDepth 8000
open Go.RowKit
open Recs
open ToO (MineC)
open Bats (BatsAt)
open SegW
open Segs (SegsAt segsCells)
open LogW
set_option linter.unusedVariables false
def ES (w : World) (S : Nat → Prop) (f : Nat → Value) (t : Sg) : Prop := f 0 = .int .i64 t.base ∧ OwnB w S (f 1) t.bats
def OwnS (w : World) (S : Nat → Prop) (v : Value) (ts : List Sg) : Prop := LOwn 55 2 ES w S v ts
theorem keepsS : Keeps 2 ES := fun w w' S f f' t h hs hk hf => by
  obtain ⟨h0, h1⟩ := h
  refine ⟨by rw [hf 0 (by omega)]; exact h0, ?_⟩
  rw [hf 1 (by omega)]
  exact LOwn.keep keepsB h1 hs hk
theorem segs_of {w : World} {S : Nat → Prop} {v : Value} {ts : List Sg} {lo b : Nat} (h : OwnS w S v ts) (hS : ∀ x, S x → lo ≤ x ∧ x < b) : SegsAt w lo b v ts := by
  obtain ⟨F, P, hr, he⟩ := row_of h hS
  refine ⟨fun i => F (i * 2 + 1), row_eqf hr fun i hi j hj => ?_, fun i hi => bats_of (he i hi).1.2 (he i hi).2⟩
  obtain ⟨⟨e0, _⟩, _⟩ := he i hi
  match j, hj with
  | 0, _ => exact e0
  | 1, _ => rfl

set_option maxHeartbeats 800000 in
theorem toSegmentS_core (g o n c b lo : Nat) (ts : List Sg) (H : Nat → Value) (w : World) (hn : n ≤ 1048576) (hc : n ≤ c) (hg : g < w.heap.size) (hb : b ≤ w.heap.size)
    (hf : ∀ i, i < n → FewS (ts.getD i default)) (hh : ∀ i, i < n → BatsAt w lo b (H i) (ts.getD i default).bats)
    (ha : ∀ i, i < n → ∀ j, j < 2 → w.cell? ⟨g, o + i * 2 + j, none⟩ = some (segsCells ts H i j)) :
    Calls Try.prog 25 #[.slice (some ⟨g, o, none⟩) n c] w fun e w' => ∃ F P, e = .returned (.slice (some ⟨w.heap.size, 0, none⟩) n n) ∧ LPart 55 2 ES w w' n F P ts n := by
  obtain ⟨i0, hi, hz0, hz1, hz2⟩ := info_parts Segs.info6
  have HA := Seg.hid ha; have HK := Seg.hid hf; have HH := Seg.hid hh
  clear ha hf hh
  go_enter Try.func25, Try.ntmps25
  go_wp2_with (at_make; refine wpList_make_full _ rfl _ _ 26 rfl w.heap.size 55 i0 _ 2 Try.underlying26 hi hz0 hz1 .i64 .i64 _ _ n rfl rfl rfl rfl (by rw [hz2]; omega) (by unfold maxLen; omega) (Nat.le_refl _) ?_; intro w1 hown hgr)
  have hb1 := (Below.refl w.heap.size w).grown hgr (Nat.le_refl _) (fun k hk => by cases hk)
  have HM := Seg.hid (Mine.of_made hown hown.1)
  have HB := Seg.hid hb1
  clear hown hgr hb1 hi hz0 hz1 hz2
  go_loopw [4] (fun i wr => ∃ (j : Nat) (F : Nat → Value) (P : Nat → Nat → Prop), j ≤ n ∧ i = .int .i64 j ∧ LPart 55 2 ES w wr n F P ts j) (fun i _ => n - (intOf i).toNat)
  case atStart => exact ⟨0, _, fun _ _ => False, Nat.zero_le _, rfl, HM.out, HB.out, fun i hi => absurd hi (by omega), fun i hi => absurd hi (by omega), fun i j hi => absurd hi (by omega)⟩
  case round =>
    clear HM HB
    obtain ⟨j, F, P, hj, rfl, HR⟩ := hrel
    by_cases hlt : j < n
    · obtain ⟨c0, c1⟩ := Segs.six (Segs.six' HA.out HR.bel hg) j hlt
      have RA : Hid (SegAt wr lo b (.agg #[.int .i64 (ts.getD j default).base, H j]) (ts.getD j default)) := ⟨_, rfl, (HH.out j hlt).below (HR.bel.mono hb)⟩
      have FW := Seg.hid (HK.out j hlt)
      have hbr : b ≤ wr.heap.size := Nat.le_trans hb HR.bel.size
      have ST : Hid (∀ w1 hv, Below wr.heap.size wr w1 → OwnB w1 (seg wr.heap.size w1.heap.size) hv (ts.getD j default).bats → LPart 55 2 ES w (w1.setCells w.heap.size (j * 2) (segArr (ts.getD j default) hv).toList) n (Own.upd F (j * 2) (segArr (ts.getD j default) hv).toList) (fun i => if i = j then seg wr.heap.size w1.heap.size else P i) ts (j + 1)) := fun w1 hv b1 ho => by
        have hcell : ∀ q, q < 2 → Own.upd F (j * 2) (segArr (ts.getD j default) hv).toList (j * 2 + q) = (segArr (ts.getD j default) hv).toList.getD q default := fun q hq => Own.upd_in (by simp [segArr]; omega)
        refine LPart.push keepsS HR (by simp [segArr]) b1 (fun x hx => hx) ⟨?_, ?_⟩
        · show Own.upd _ _ _ _ = _; rw [hcell 0 (by omega)]; rfl
        · show OwnB _ _ (Own.upd _ _ _ _) _
          rw [hcell 1 (by omega)]
          show OwnB _ _ hv _
          have hl := HR.mine.lt
          exact LOwn.keep keepsB ho (by rw [Cells.size_setCells]; exact Nat.le_refl _) (fun g hg => Cells.heap_setCells_other _ _ (by have := hg.1; omega))
      have HM := Seg.hid HR.mine
      have h0 : (0 : Int) ≤ (j : Int) := by omega
      have h1 : (j : Int) < (n : Int) := by omega
      clear HR
      generalize ts.getD j default = rj at *
      go_wp2_with fail
      refine (toSegment_own _ rj wr lo b RA.out hbr FW.out).mono ?_
      rintro e w1 ⟨hv1, rfl, ho1, b1⟩
      have S1 := Seg.hid (ST.out w1 hv1 b1 ho1)
      have M1 := Seg.hid (Own.mine_there (o := j * 2) (m := 2) (HM.out.below b1 HM.out.lt) (by omega))
      obtain ⟨A1, k1, rfl⟩ := LOwn.form ho1
      clear b1 ho1
      have M2 : Hid (w1.there w.heap.size (j * 2) (segArr rj (.slice A1 rj.bats.length k1)).size) := M1.out
      clear M1
      rw [show segVal rj (.slice A1 rj.bats.length k1) = .agg (segArr rj (.slice A1 rj.bats.length k1)) from rfl]
      go_wp2_with (refine wpList_store_mid rfl 55 _ _ rfl w.heap.size (j * 2) (segArr rj (.slice A1 rj.bats.length k1)) rfl rfl ?ht infoN (segArr_one _ _ rfl) ?_; case ht => exact M2.out)
      go_roundw
      case rel => exact ⟨j + 1, _, _, by omega, by go_num, S1.out⟩
      case measure => simp [intOf]; omega
    · have : j = n := by omega
      subst this
      go_wp2
      go_ret
      exact ⟨F, P, rfl, HR⟩

theorem toSegmentS_own (v : Value) (ts : List Sg) (w : World) (lo b : Nat) (hv : SegsAt w lo b v ts) (hb : b ≤ w.heap.size) (hl : ts.length ≤ 1048576) (hf : ∀ i, i < ts.length → FewS (ts.getD i default)) :
    Calls Try.prog 25 #[v] w fun e w' => ∃ v', e = .returned v' ∧ OwnS w' (seg w.heap.size w'.heap.size) v' ts ∧ Below w.heap.size w w' := by
  obtain ⟨H, ⟨hn, A, c, rfl, h⟩, hh⟩ := hv
  by_cases hz : ts.length = 0
  · have : ts = [] := List.length_eq_zero_iff.1 hz
    subst this
    refine (Segs.toSegmentS_none A c w).mono fun e w' ⟨v', a1, ⟨A', c', a2⟩, a3⟩ => ⟨v', a1, ?_, a3⟩
    rw [a2]
    exact LOwn.nil _ _ _ _
  obtain ⟨g, o, rfl, hg, hc, hcell, _⟩ := h.resolve_left hz
  exact (toSegmentS_core g o ts.length c b lo ts H w hl hc (by omega) hb hf hh hcell).mono fun e w' ⟨F, P, a1, a2⟩ => ⟨_, a1, a2.own hl, a2.bel⟩

set_option maxHeartbeats 400000 in
theorem toLog_own (v : Value) (t : Lg) (w : World) (lo b : Nat) (hv : LogAt w lo b v t) (hb : b ≤ w.heap.size) (hf : FewL t) :
    Calls Try.prog 7 #[v] w fun e w' => ∃ sv, e = .returned (logVal t sv) ∧ OwnS w' (seg w.heap.size w'.heap.size) sv t.segs ∧ Below w.heap.size w w' := by
  obtain ⟨hv, rfl, hh⟩ := hv
  have HH := Seg.hid hh
  obtain ⟨H, ⟨hn, A, c, hve, _⟩, _⟩ := id hh
  clear hh
  unfold logVal
  subst hve
  go_enter Try.func7, Try.ntmps7
  go_wp2_with fail
  refine (toSegmentS_own _ t.segs (((w.alloc _).alloc _).alloc _) lo b (HH.out.below ((below3 w _ _ _).mono hb)) (by rw [hsz, hsz, hsz]; omega) hf.1.1 hf.1.2).mono ?_
  rintro e w1 ⟨v', rfl, hh1, b1⟩
  have B1 := Seg.hid (chain (below3 w _ _ _) b1)
  have T1 := (b1.block (w.heap.size + 1) (by rw [hsz, hsz, hsz]; omega)).trans (at3 w _ _ _)
  have T2 := (b1.block (w.heap.size + 1 + 1) (by rw [hsz, hsz, hsz]; omega)).trans (Cells.at3' w _ _ _)
  have HH1 := Seg.hid hh1
  obtain ⟨A', c', hve⟩ := LOwn.form hh1
  clear hh1 b1
  subst hve
  have cN := cell_of_row w1 (w.heap.size + 1 + 1) 3 _ _ _ T2
  have zN := frozen_of_row w1 (w.heap.size + 1 + 1) 3 _ _ T2
  have H3 : Hid ((w1.setCell ⟨w.heap.size + 1 + 1, 3, none⟩ (.slice A' t.segs.length c')).heap[w.heap.size + 1 + 1]? = some (.cells (logArr t (.slice A' t.segs.length c')) 28 (0, 0))) := heap_setCell_same w1 (w.heap.size + 1 + 1) 3 _ _ (.slice A' t.segs.length c') T2
  have T4 := (heap_setCell_other w1 ⟨w.heap.size + 1 + 1, 3, none⟩ (w.heap.size + 1) (.slice A' t.segs.length c') (by simp)).trans T1
  have H5 := Seg.hid (Cells.there_of T4)
  have H4 := Seg.hid (Cells.whole (vs := logArr t (.slice A' t.segs.length c')) T4 rfl)
  have B2 := Seg.hid (Cells.below_setCells (g := w.heap.size + 1) (by omega) (logArr t (.slice A' t.segs.length c')).toList 0 _ _ (B1.out.setCell (p := ⟨w.heap.size + 1 + 1, 3, none⟩) (by simp; omega) (.slice A' t.segs.length c')))
  have HF : Hid (OwnS ((w1.setCell ⟨w.heap.size + 1 + 1, 3, none⟩ (.slice A' t.segs.length c')).setCells (w.heap.size + 1) 0 (logArr t (.slice A' t.segs.length c')).toList) (seg w.heap.size ((w1.setCell ⟨w.heap.size + 1 + 1, 3, none⟩ (.slice A' t.segs.length c')).setCells (w.heap.size + 1) 0 (logArr t (.slice A' t.segs.length c')).toList).heap.size) (.slice A' t.segs.length c') t.segs) := by
    refine (LOwn.keep keepsS HH1.out (by rw [Cells.size_setCells]; simp) (fun g h1 => ?_)).mono (fun x hx => ?_)
    · have := h1.1
      rw [hsz, hsz, hsz] at this
      rw [Cells.heap_setCells_other _ _ (by omega), heap_setCell_other _ _ _ _ (by show _ ≠ w.heap.size + 1 + 1; omega)]
    · obtain ⟨x1, x2⟩ := hx
      rw [hsz, hsz, hsz] at x1
      refine ⟨by omega, ?_⟩
      rw [Cells.size_setCells]
      simpa using x2
  clear T1 T2 T4
  simp at cN
  go_wp2_with (first | (refine wpList_load_row rfl 28 _ rfl (w.heap.size + 1 + 1) rfl _ _ _ _ H3.out Try.underlying28 rfl LogW.infoN ?_) | (refine wpList_store_mid rfl 28 _ _ rfl (w.heap.size + 1) 0 (logArr t (.slice A' t.segs.length c')) rfl rfl H5.out LogW.infoN (LogW.logArr_one _ _ rfl) ?_))
  exact bodyPost_ret (v := logVal t (.slice A' t.segs.length c')) (results_cell_row rfl _ _ (w.heap.size + 1) _ _ _ _ rfl H4.out Try.underlying28 rfl LogW.infoN) rfl ⟨_, rfl, HF.out, B2.out⟩
end Go.Proofs.Yticihnoekffelaa.Ft
namespace Go.Proofs.Yticihnoekffelaa.Ft
set_option maxRecDepth 8000
open Go.RowKit
open Recs
open ToO (MineC)
open Mk (mt markText_at)
open SegW
set_option linter.unusedVariables false
def mS1 (k : Nat) (t : Sg) : Sg := ⟨(k : Int), mL mB1 nB1 (k + 1) t.bats⟩
def nS1 (t : Sg) : Nat := 1 + nL nB1 t.bats
theorem markSegmentS_none (A : Option Addr) (c : Nat) (k : Int) (w : World) : Calls Try.prog 32 #[.slice A 0 c, .int .i64 k] w fun e w' => e = .returned (.int .i64 k) ∧ w = w' := by
  go_enter Try.func32, Try.ntmps32
  go_wp2
  go_loop [1, 5] (fun x i => i = .int .i64 0 ∧ x = .int .i64 k) (fun _ _ => 0)
  case atStart => exact ⟨rfl, rfl⟩
  case round =>
    obtain ⟨rfl, rfl⟩ := hrel
    go_wp2
    go_ret
    exact ⟨rfl, rfl⟩

set_option maxHeartbeats 1600000 in
theorem markSegmentS_core (g n c k : Nat) (S : Nat → Prop) (P : Nat → Nat → Prop) (F0 : Nat → Value) (ts : List Sg) (w : World) (hn : n ≤ 1048576) (hk : 0 < k) (hk1 : k + nL nS1 ts ≤ 4000000000000000000) (hSg : S g) (hSP : ∀ i, i < n → ∀ x, P i x → S x) (ho : LOpen 55 2 ES w g n c F0 P ts) :
    Calls Try.prog 32 #[.slice (some ⟨g, 0, none⟩) n c, .int .i64 k] w fun e w' => ∃ F, e = .returned (.int .i64 ((k + nL nS1 ts : Nat) : Int)) ∧ LOpen 55 2 ES w' g n c F P (mL mS1 nS1 k ts) ∧ Foot w w' S := by
  have hc := ho.mine.le
  have hlen := Seg.hid ho.len
  have HM : Hid (LOpen 55 2 ES w g n c F0 P (mid mS1 nS1 k 0 ts) ∧ Foot w w S) := ⟨by rw [mid_zero]; exact ho, Foot.refl _ _⟩
  have HSG := Seg.hid hSg; have HSP := Seg.hid hSP
  have KL : Hid (∀ j, j < n → k + nL nS1 (ts.take j) + 1 + nL nB1 (ts.getD j default).bats ≤ 4000000000000000000) := fun j hj => by
    have a1 := nL_take nS1 (ts := ts) (j := j) (by rw [hlen.out]; exact hj)
    have a2 := nL_le nS1 ts (j + 1)
    have a3 : nS1 (ts.getD j default) = 1 + nL nB1 (ts.getD j default).bats := rfl
    omega
  have KE : Hid (k + nL nS1 (ts.take n) = k + nL nS1 ts) := by show _ = _; rw [← hlen.out, List.take_length]
  clear ho hSg hSP hk1
  go_enter Try.func32, Try.ntmps32
  go_wp2
  go_loopw [1, 5] (fun x i wr => ∃ (j : Nat) (F : Nat → Value), j ≤ n ∧ i = .int .i64 j ∧ x = .int .i64 ((k + nL nS1 (ts.take j) : Nat) : Int) ∧ Hid (LOpen 55 2 ES wr g n c F P (mid mS1 nS1 k j ts) ∧ Foot w wr S)) (fun _ i _ => n - (intOf i).toNat)
  case atStart => exact ⟨0, F0, Nat.zero_le _, rfl, rfl, HM.out⟩
  case round =>
    clear HM
    obtain ⟨j, F, hj, rfl, rfl, HR⟩ := hrel
    by_cases hlt : j < n
    · have h0 : (0 : Int) ≤ (j : Int) := by omega
      have h1 : (j : Int) < (n : Int) := by omega
      obtain ⟨x, hx⟩ : ∃ x, k + nL nS1 (ts.take j) = x := ⟨_, rfl⟩
      have hxb := KL.out j hlt
      have hx0 : 0 < x := by omega
      have HX := Seg.hid hx
      rw [hx] at hxb ⊢
      clear hx
      have hgr := HR.out.1.mine.lt
      have hxc : x + 1 ≤ 4000000000000000000 := by omega
      have HXB := Seg.hid hxb
      clear hxb
      have d0 := (HR.out.1.mine).cell (j * 2) (by omega)
      have f0 := (HR.out.1.mine).frozen (j * 2)
      have M5 := Seg.hid ((HR.out.1.mine).set (j * 2) (.int .i64 ((x : Int))))
      have B5 := Seg.hid ((HR.out.2).set (q := j * 2) HSG.out (.int .i64 ((x : Int))))
      have K5 : Hid (∀ q, q ≠ g → (wr.setCell ⟨g, j * 2, none⟩ (.int .i64 ((x : Int)))).heap[q]? = wr.heap[q]?) := fun q hq => by rw [heap_setCell_other _ _ _ _ hq]
      have Z5 : Hid (wr.heap.size ≤ (wr.setCell ⟨g, j * 2, none⟩ (.int .i64 ((x : Int)))).heap.size) := by show _ ≤ _; simp
      have E5 : Hid (OwnB wr (P j) (F (j * 2 + 1)) (ts.getD j default).bats) := by
        have := (HR.out.1.el j hlt).2
        rw [mid_get mS1 nS1 (by rw [hlen.out]; exact hlt)] at this
        exact this
      have d1 : (wr.setCell ⟨g, j * 2, none⟩ (.int .i64 ((x : Int)))).cell? ⟨g, j * 2 + 1, none⟩ = some (F (j * 2 + 1)) := by
        have := M5.out.cell (j * 2 + 1) (by omega)
        simp only [show ¬ j * 2 + 1 = j * 2 by omega, if_false] at this
        exact this
      have OW : Hid (OwnB (wr.setCell ⟨g, j * 2, none⟩ (.int .i64 ((x : Int)))) (P j) (F (j * 2 + 1)) (ts.getD j default).bats) :=
        LOwn.keep keepsB E5.out Z5.out fun q hq => K5.out q (HR.out.1.apart j hlt q hq).1
      have ST : Hid (∀ w3, OwnB w3 (P j) (F (j * 2 + 1)) (mL mB1 nB1 (x + 1) (ts.getD j default).bats) → Foot (wr.setCell ⟨g, j * 2, none⟩ (.int .i64 ((x : Int)))) w3 (P j) → LOpen 55 2 ES w3 g n c _ P (mid mS1 nS1 k (j + 1) ts) ∧ Foot w w3 S) := fun w3 H W => by
        rw [← mid_step mS1 nS1 (by rw [hlen.out]; exact hlt), HX.out]
        refine ⟨LOpen.step keepsS (j := j) HR.out.1 hlt (M5.out.keep (W.block g M5.out.lt (fun e => (HR.out.1.apart j hlt g e).1 rfl))) (fun i hi hij q hq => ?_) (Nat.le_trans Z5.out W.size) (fun _ _ _ => rfl) (fun y hy => ⟨(HR.out.1.apart j hlt y hy).1, Nat.lt_of_lt_of_le (HR.out.1.apart j hlt y hy).2 (Nat.le_trans Z5.out W.size)⟩) (fun i hi hij y hy => HR.out.1.disj j i hlt hi (Ne.symm hij) y hy) (fun i hi hij y hy => ?_) ⟨?_, ?_⟩, B5.out.trans W (HSP.out j hlt)⟩
        · rw [if_neg (by omega)]
        · have a1 := HR.out.1.apart i hi y hy
          exact (W.block y (Nat.lt_of_lt_of_le a1.2 Z5.out) (HR.out.1.disj i j hi hlt hij y hy)).trans (K5.out y a1.1)
        · simp [mS1]
        · simp only [show ¬ j * 2 + 1 = j * 2 by omega, if_false]
          exact H
      have HKK : Hid (((x + 1 + nL nB1 (ts.getD j default).bats : Nat) : Int) = ((k + nL nS1 (ts.take (j + 1)) : Nat) : Int)) := by
        show _ = _
        rw [nL_take nS1 (by rw [hlen.out]; exact hlt), ← HX.out]
        have a3 : nS1 (ts.getD j default) = 1 + nL nB1 (ts.getD j default).bats := rfl
        omega
      have IB : Hid (x + 1 + nL nB1 (ts.getD j default).bats ≤ 4000000000000000000) := HXB.out
      obtain ⟨_, Ah, ch, hsl, _⟩ := OW.out
      have HSL := Seg.hid hsl
      rw [hsl] at d1
      clear hsl
      go_wp2_with fail
      refine (markBatchS_at _ (x + 1) (by omega) (P j) (ts.getD j default).bats _ (by omega) IB.out (HSL.out ▸ OW.out)).mono ?_
      rintro e w3 ⟨rfl, hH, hW⟩
      have S3 := Seg.hid (ST.out w3 (by rw [HSL.out]; exact hH) hW)
      rw [HKK.out]
      clear hH hW d0 d1 f0
      go_wp2
      go_roundw
      case rel => exact ⟨j + 1, _, by omega, by go_num, rfl, S3.out⟩
      case measure => simp [intOf]; omega
    · have : j = n := by omega
      subst this
      have E := HR.out
      rw [show mid mS1 nS1 k j ts = mL mS1 nS1 k ts by rw [← hlen.out]; exact mid_all _ _ _ _] at E
      have EH' := Seg.hid E
      clear E
      rw [KE.out]
      go_wp2
      go_ret
      exact ⟨F, rfl, EH'.out⟩

theorem markSegmentS_own (v : Value) (k : Nat) (S : Nat → Prop) (ts : List Sg) (w : World) (hk : 0 < k) (hk1 : k + nL nS1 ts ≤ 4000000000000000000) (hv : OwnS w S v ts) :
    Calls Try.prog 32 #[v, .int .i64 k] w fun e w' => e = .returned (.int .i64 ((k + nL nS1 ts : Nat) : Int)) ∧ OwnS w' S v (mL mS1 nS1 k ts) ∧ Foot w w' S := by
  obtain ⟨h0, A, c, rfl, h⟩ := hv
  by_cases hz : ts.length = 0
  · have : ts = [] := List.length_eq_zero_iff.1 hz
    subst this
    exact (markSegmentS_none A c k w).mono fun e w' ⟨h1, h2⟩ => by
      subst h2
      exact ⟨by rw [h1]; rfl, LOwn.nil _ _ _ _, Foot.refl _ _⟩
  obtain ⟨g, F, P, rfl, h3, h4, h5⟩ := h.resolve_left hz
  refine (markSegmentS_core g ts.length c k S P F ts w h0 hk hk1 h3 h4 h5).mono fun e w' ⟨F', a1, a2, a3⟩ => ⟨a1, ⟨by rw [mL_len]; exact h0, _, c, by rw [mL_len], .inr ⟨g, F', P, rfl, h3, fun i hi => h4 i (by rw [mL_len] at hi; exact hi), ?_⟩⟩, a3⟩
  rw [mL_len]
  exact a2
theorem markSegmentS_at (y : Int) (k : Nat) (hy : y = (k : Int)) (S : Nat → Prop) (ts : List Sg) (w : World) {v : Value} (hk : 0 < k) (hk1 : k + nL nS1 ts ≤ 4000000000000000000) (hv : OwnS w S v ts) :
    Calls Try.prog 32 #[v, .int .i64 y] w fun e w' => e = .returned (.int .i64 ((k + nL nS1 ts : Nat) : Int)) ∧ OwnS w' S v (mL mS1 nS1 k ts) ∧ Foot w w' S := by
  subst hy
  exact markSegmentS_own v k S ts w hk hk1 hv
end Go.Proofs.Yticihnoekffelaa.Ft
