/- Segments in lists of the call's own; the law's copiers of Segments and of a Log; The program's copies of a Segment and of a list of Segments; A list of the call's own that may still grow, told by the set of its blocks; Segments whose Batches are such lists. -/
import Derived.Deep.RegionLaw
import Derived.Test.YtfekhpegfbjleaaJJ25
import Derived.Test.YtfekhpegfbjleaaJJ05
import Derived.Test.YtfekhpegfbjleaaJJ26
namespace Go.Proofs.Ytfekhpegfbjleaa.Ft
set_option maxRecDepth 8000
open Go.RowKit
open Recs
open ToO (MineC)
open Bats (BatsAt)
open SegW
open Segs (SegsAt segsCells)
open LogW
set_option linter.unusedVariables false
def ES (w : World) (S : Nat → Prop) (f : Nat → Value) (t : Sg) : Prop := f 0 = .int .i64 t.base ∧ OwnB w S (f 1) t.bats
def OwnS (w : World) (S : Nat → Prop) (v : Value) (ts : List Sg) : Prop := LOwn 39 2 ES w S v ts
theorem keepsS : Keeps 2 ES := fun w w' S f f' t h hs hk hf => by
  obtain ⟨h0, h1⟩ := h
  refine ⟨by rw [hf 0 (by omega)]; exact h0, ?_⟩
  rw [hf 1 (by omega)]
  exact LOwn.keep keepsB h1 hs hk
theorem segs_of {w : World} {S : Nat → Prop} {v : Value} {ts : List Sg} {lo b : Nat} (h : OwnS w S v ts) (hS : ∀ x, S x → lo ≤ x ∧ x < b) : SegsAt w lo b v ts := by
  obtain ⟨F, P, hr, he⟩ := row_of h hS
  refine ⟨fun i => F (i * 2 + 1), row_eqf hr fun i hi j hj => ?_, fun i hi => bats_of (he i hi).1.2 (he i hi).2⟩
  obtain ⟨⟨e0, _⟩, _⟩ := he i hi
  match j, hj with
  | 0, _ => exact e0
  | 1, _ => rfl

set_option maxHeartbeats 800000 in
theorem toSegmentS_core (g o n c b lo : Nat) (ts : List Sg) (H : Nat → Value) (w : World) (hn : n ≤ 1048576) (hc : n ≤ c) (hg : g < w.heap.size) (hb : b ≤ w.heap.size)
    (hf : ∀ i, i < n → FewS (ts.getD i default)) (hh : ∀ i, i < n → BatsAt w lo b (H i) (ts.getD i default).bats)
    (ha : ∀ i, i < n → ∀ j, j < 2 → w.cell? ⟨g, o + i * 2 + j, none⟩ = some (segsCells ts H i j)) :
    Calls Try.prog 15 #[.slice (some ⟨g, o, none⟩) n c] w fun e w' => ∃ F P, e = .returned (.slice (some ⟨w.heap.size, 0, none⟩) n n) ∧ LPart 39 2 ES w w' n F P ts n := by
  obtain ⟨i0, hi, hz0, hz1, hz2⟩ := info_parts Segs.info6
  have HA := Seg.hid ha; have HK := Seg.hid hf; have HH := Seg.hid hh
  clear ha hf hh
  go_enter Try.func15, Try.ntmps15
  go_wp2_with (at_make; refine wpList_make_full _ rfl _ _ 26 rfl w.heap.size 39 i0 _ 2 Try.underlying26 hi hz0 hz1 .i64 .i64 _ _ n rfl rfl rfl rfl (by rw [hz2]; omega) (by unfold maxLen; omega) (Nat.le_refl _) ?_; intro w1 hown hgr)
  have hb1 := (Below.refl w.heap.size w).grown hgr (Nat.le_refl _) (fun k hk => by cases hk)
  have HM := Seg.hid (Mine.of_made hown hown.1)
  have HB := Seg.hid hb1
  clear hown hgr hb1 hi hz0 hz1 hz2
  go_loopw [4] (fun i wr => ∃ (j : Nat) (F : Nat → Value) (P : Nat → Nat → Prop), j ≤ n ∧ i = .int .i64 j ∧ LPart 39 2 ES w wr n F P ts j) (fun i _ => n - (intOf i).toNat)
  case atStart => exact ⟨0, _, fun _ _ => False, Nat.zero_le _, rfl, HM.out, HB.out, fun i hi => absurd hi (by omega), fun i hi => absurd hi (by omega), fun i j hi => absurd hi (by omega)⟩
  case round =>
    clear HM HB
    obtain ⟨j, F, P, hj, rfl, HR⟩ := hrel
    by_cases hlt : j < n
    · obtain ⟨c0, c1⟩ := Segs.six (Segs.six' HA.out HR.bel hg) j hlt
      have RA : Hid (SegAt wr lo b (.agg #[.int .i64 (ts.getD j default).base, H j]) (ts.getD j default)) := ⟨_, rfl, (HH.out j hlt).below (HR.bel.mono hb)⟩
      have FW := Seg.hid (HK.out j hlt)
      have hbr : b ≤ wr.heap.size := Nat.le_trans hb HR.bel.size
      have ST : Hid (∀ w1 hv, Below wr.heap.size wr w1 → OwnB w1 (seg wr.heap.size w1.heap.size) hv (ts.getD j default).bats → LPart 39 2 ES w (w1.setCells w.heap.size (j * 2) (segArr (ts.getD j default) hv).toList) n (Own.upd F (j * 2) (segArr (ts.getD j default) hv).toList) (fun i => if i = j then seg wr.heap.size w1.heap.size else P i) ts (j + 1)) := fun w1 hv b1 ho => by
        have hcell : ∀ q, q < 2 → Own.upd F (j * 2) (segArr (ts.getD j default) hv).toList (j * 2 + q) = (segArr (ts.getD j default) hv).toList.getD q default := fun q hq => Own.upd_in (by simp [segArr]; omega)
        refine LPart.push keepsS HR (by simp [segArr]) b1 (fun x hx => hx) ⟨?_, ?_⟩
        · show Own.upd _ _ _ _ = _; rw [hcell 0 (by omega)]; rfl
        · show OwnB _ _ (Own.upd _ _ _ _) _
          rw [hcell 1 (by omega)]
          show OwnB _ _ hv _
          have hl := HR.mine.lt
          exact LOwn.keep keepsB ho (by rw [Cells.size_setCells]; exact Nat.le_refl _) (fun g hg => Cells.heap_setCells_other _ _ (by have := hg.1; omega))
      have HM := Seg.hid HR.mine
      have h0 : (0 : Int) ≤ (j : Int) := by omega
      have h1 : (j : Int) < (n : Int) := by omega
      clear HR
      generalize ts.getD j default = rj at *
      go_wp2_with fail
      refine (toSegment_own _ rj wr lo b RA.out hbr FW.out).mono ?_
      rintro e w1 ⟨hv1, rfl, ho1, b1⟩
      have S1 := Seg.hid (ST.out w1 hv1 b1 ho1)
      have M1 := Seg.hid (Own.mine_there (o := j * 2) (m := 2) (HM.out.below b1 HM.out.lt) (by omega))
      obtain ⟨A1, k1, rfl⟩ := LOwn.form ho1
      clear b1 ho1
      have M2 : Hid (w1.there w.heap.size (j * 2) (segArr rj (.slice A1 rj.bats.length k1)).size) := M1.out
      clear M1
      rw [show segVal rj (.slice A1 rj.bats.length k1) = .agg (segArr rj (.slice A1 rj.bats.length k1)) from rfl]
      go_wp2_with (refine wpList_store_mid rfl 39 _ _ rfl w.heap.size (j * 2) (segArr rj (.slice A1 rj.bats.length k1)) rfl rfl ?ht infoN (segArr_one _ _ rfl) ?_; case ht => exact M2.out)
      go_roundw
      case rel => exact ⟨j + 1, _, _, by omega, by go_num, S1.out⟩
      case measure => simp [intOf]; omega
    · have : j = n := by omega
      subst this
      go_wp2
      go_ret
      exact ⟨F, P, rfl, HR⟩

theorem toSegmentS_own (v : Value) (ts : List Sg) (w : World) (lo b : Nat) (hv : SegsAt w lo b v ts) (hb : b ≤ w.heap.size) (hl : ts.length ≤ 1048576) (hf : ∀ i, i < ts.length → FewS (ts.getD i default)) :
    Calls Try.prog 15 #[v] w fun e w' => ∃ v', e = .returned v' ∧ OwnS w' (seg w.heap.size w'.heap.size) v' ts ∧ Below w.heap.size w w' := by
  obtain ⟨H, ⟨hn, A, c, rfl, h⟩, hh⟩ := hv
  by_cases hz : ts.length = 0
  · have : ts = [] := List.length_eq_zero_iff.1 hz
    subst this
    refine (Segs.toSegmentS_none A c w).mono fun e w' ⟨v', a1, ⟨A', c', a2⟩, a3⟩ => ⟨v', a1, ?_, a3⟩
    rw [a2]
    exact LOwn.nil _ _ _ _
  obtain ⟨g, o, rfl, hg, hc, hcell, _⟩ := h.resolve_left hz
  exact (toSegmentS_core g o ts.length c b lo ts H w hl hc (by omega) hb hf hh hcell).mono fun e w' ⟨F, P, a1, a2⟩ => ⟨_, a1, a2.own hl, a2.bel⟩

set_option maxHeartbeats 400000 in
theorem toLog_own (v : Value) (t : Lg) (w : World) (lo b : Nat) (hv : LogAt w lo b v t) (hb : b ≤ w.heap.size) (hf : FewL t) :
    Calls Try.prog 6 #[v] w fun e w' => ∃ sv, e = .returned (logVal t sv) ∧ OwnS w' (seg w.heap.size w'.heap.size) sv t.segs ∧ Below w.heap.size w w' := by
  obtain ⟨hv, rfl, hh⟩ := hv
  have HH := Seg.hid hh
  obtain ⟨H, ⟨hn, A, c, hve, _⟩, _⟩ := id hh
  clear hh
  unfold logVal
  subst hve
  go_enter Try.func6, Try.ntmps6
  go_wp2_with fail
  refine (toSegmentS_own _ t.segs (((w.alloc _).alloc _).alloc _) lo b (HH.out.below ((below3 w _ _ _).mono hb)) (by rw [hsz, hsz, hsz]; omega) hf.1.1 hf.1.2).mono ?_
  rintro e w1 ⟨v', rfl, hh1, b1⟩
  have B1 := Seg.hid (chain (below3 w _ _ _) b1)
  have T1 := (b1.block (w.heap.size + 1) (by rw [hsz, hsz, hsz]; omega)).trans (at3 w _ _ _)
  have T2 := (b1.block (w.heap.size + 1 + 1) (by rw [hsz, hsz, hsz]; omega)).trans (Cells.at3' w _ _ _)
  have HH1 := Seg.hid hh1
  obtain ⟨A', c', hve⟩ := LOwn.form hh1
  clear hh1 b1
  subst hve
  have cN := cell_of_row w1 (w.heap.size + 1 + 1) 3 _ _ _ T2
  have zN := frozen_of_row w1 (w.heap.size + 1 + 1) 3 _ _ T2
  have H3 : Hid ((w1.setCell ⟨w.heap.size + 1 + 1, 3, none⟩ (.slice A' t.segs.length c')).heap[w.heap.size + 1 + 1]? = some (.cells (logArr t (.slice A' t.segs.length c')) 28 (0, 0))) := heap_setCell_same w1 (w.heap.size + 1 + 1) 3 _ _ (.slice A' t.segs.length c') T2
  have T4 := (heap_setCell_other w1 ⟨w.heap.size + 1 + 1, 3, none⟩ (w.heap.size + 1) (.slice A' t.segs.length c') (by simp)).trans T1
  have H5 := Seg.hid (Cells.there_of T4)
  have H4 := Seg.hid (Cells.whole (vs := logArr t (.slice A' t.segs.length c')) T4 rfl)
  have B2 := Seg.hid (Cells.below_setCells (g := w.heap.size + 1) (by omega) (logArr t (.slice A' t.segs.length c')).toList 0 _ _ (B1.out.setCell (p := ⟨w.heap.size + 1 + 1, 3, none⟩) (by simp; omega) (.slice A' t.segs.length c')))
  have HF : Hid (OwnS ((w1.setCell ⟨w.heap.size + 1 + 1, 3, none⟩ (.slice A' t.segs.length c')).setCells (w.heap.size + 1) 0 (logArr t (.slice A' t.segs.length c')).toList) (seg w.heap.size ((w1.setCell ⟨w.heap.size + 1 + 1, 3, none⟩ (.slice A' t.segs.length c')).setCells (w.heap.size + 1) 0 (logArr t (.slice A' t.segs.length c')).toList).heap.size) (.slice A' t.segs.length c') t.segs) := by
    refine (LOwn.keep keepsS HH1.out (by rw [Cells.size_setCells]; simp) (fun g h1 => ?_)).mono (fun x hx => ?_)
    · have := h1.1
      rw [hsz, hsz, hsz] at this
      rw [Cells.heap_setCells_other _ _ (by omega), heap_setCell_other _ _ _ _ (by show _ ≠ w.heap.size + 1 + 1; omega)]
    · obtain ⟨x1, x2⟩ := hx
      rw [hsz, hsz, hsz] at x1
      refine ⟨by omega, ?_⟩
      rw [Cells.size_setCells]
      simpa using x2
  clear T1 T2 T4
  simp at cN
  go_wp2_with (first | (refine wpList_load_row rfl 28 _ rfl (w.heap.size + 1 + 1) rfl _ _ _ _ H3.out Try.underlying28 rfl LogW.infoN ?_) | (refine wpList_store_mid rfl 28 _ _ rfl (w.heap.size + 1) 0 (logArr t (.slice A' t.segs.length c')) rfl rfl H5.out LogW.infoN (LogW.logArr_one _ _ rfl) ?_))
  exact bodyPost_ret (v := logVal t (.slice A' t.segs.length c')) (results_cell_row rfl _ _ (w.heap.size + 1) _ _ _ _ rfl H4.out Try.underlying28 rfl LogW.infoN) rfl ⟨_, rfl, HF.out, B2.out⟩
end Go.Proofs.Ytfekhpegfbjleaa.Ft
namespace Go.Proofs.Ytfekhpegfbjleaa.Ft
set_option maxRecDepth 8000
open Go.RowKit
open Recs
open ToO (MineC)
open Bats (BatsAt batsCells)
open SegW
open Segs (SegsAt segsCells)
set_option linter.unusedVariables false
/-- How far a Segment is copied. -/
structure CS (w wr : World) (s : Sg) (v : Value) (us : List Bat) : Prop where
  grow : LGrow 52 7 EB wr (w.heap.size + 3) v us
  out : wr.heap[w.heap.size + 1 + 1]? = some (.cells (segArr s v) 39 (0, 0))
  res : wr.heap[w.heap.size + 1]? = some (.cells (segArr ⟨0, []⟩ (.slice none 0 0)) 39 (0, 0))
  bel : Below w.heap.size w wr
  size : w.heap.size + 3 ≤ wr.heap.size
/-- One Batch more: wb: behind the round's own variable; w8: behind its copy; w9: behind append. -/
theorem CS.push {w wr w8 w9 : World} {s : Sg} {v : Value} {us : List Bat} {F : Nat → Value} {P : Nat → Nat → Prop} {t : Bat} {rv : Value} {o : Obj} {g cap : Nat} (h : CS w wr s v us) (hG : LGr 52 7 EB wr (w.heap.size + 3) v us F P) (b8 : Below wr.heap.size wr w8) (ho : OwnR w8 (seg wr.heap.size w8.heap.size) rv t.recs)
    (hown : w9.ownsRow (w.heap.size + 3) 52 7 (.slice (some ⟨g, 0, none⟩) (us.length + 1) cap) (us.length + 1) ((List.range (us.length * 7)).map F ++ (BatW.batArr t rv).toList)) (gr : (w8.alloc o).grownBy w9 v.ownBlock) (hg : v.ownBlock = some g ∨ g = w8.heap.size + 1) :
    CS w (w9.setCell ⟨w.heap.size + 1 + 1, 1, none⟩ (.slice (some ⟨g, 0, none⟩) (us.length + 1) cap)) s (.slice (some ⟨g, 0, none⟩) (us.length + 1) cap) (us ++ [t]) ∧ w9.cell? ⟨w.heap.size + 1 + 1, 1, none⟩ = some v ∧ w9.frozen? ⟨w.heap.size + 1 + 1, 1, none⟩ = false := by
  have s8 := b8.size
  have hz := h.size
  have gs := gr.size
  rw [hsz] at gs
  have hvb : ∀ x, v.ownBlock = some x → w.heap.size + 3 ≤ x ∧ x < wr.heap.size := fun x hx => World.ownsRow.lt hG.own x hx
  have k9 : ∀ x, x < w.heap.size + 3 → w9.heap[x]? = wr.heap[x]? := fun x hx => by
    rw [gr.block x (by rw [hsz]; omega) (fun e => by have := hvb x e.symm; omega), heap_alloc_old _ _ (by omega), b8.block x (by omega)]
  have O9 := (k9 (w.heap.size + 1 + 1) (by omega)).trans h.out
  have R9 := (k9 (w.heap.size + 1) (by omega)).trans h.res
  have D9 := LGr.push keepsB (w2 := w8.alloc o) (w3 := w9) (g := g) (cap := cap) (Q := seg wr.heap.size w8.heap.size) (t := t) (news := (BatW.batArr t rv).toList) hG h.size (by rw [hsz]; omega) (fun x _ hx => by rw [heap_alloc_old _ _ (by omega), b8.block x hx]) (bat_el (LOwn.keep keepsR ho (by rw [hsz]; omega) (fun x hx => heap_alloc_old _ _ hx.2))) (fun x hx => by rw [hsz]; obtain ⟨x1, x2⟩ := hx; exact ⟨x1, by omega⟩) rfl hown gr (by rw [hsz]; exact hg)
  have B9 : Below w.heap.size w w9 := ⟨gr.os.trans (b8.os.trans h.bel.os), gr.tape.trans (b8.tape.trans h.bel.tape), gr.output.trans (b8.output.trans h.bel.output), by omega, fun x hx => (k9 x (by omega)).trans (h.bel.block x hx)⟩
  refine ⟨⟨D9.keep keepsB (by simp) (fun x hx _ => heap_setCell_other _ _ _ _ (by show x ≠ w.heap.size + 1 + 1; omega)), ?_, (heap_setCell_other _ _ _ _ (by show w.heap.size + 1 ≠ w.heap.size + 1 + 1; omega)).trans R9, B9.setCell (p := ⟨w.heap.size + 1 + 1, 1, none⟩) (by show w.heap.size ≤ w.heap.size + 1 + 1; omega) _, by simp; omega⟩, ?_, ?_⟩
  · exact heap_setCell_same w9 (w.heap.size + 1 + 1) 1 _ _ _ O9
  · exact cell_of_row w9 (w.heap.size + 1 + 1) 1 _ _ (0, 0) O9
  · exact frozen_of_row w9 (w.heap.size + 1 + 1) 1 _ _ O9
set_option maxHeartbeats 3200000 in
theorem copySegment_core (s : Sg) (A : Option Addr) (c : Nat) (w : World) (lo b : Nat) (hb : b ≤ w.heap.size) (hf : FewS s) (hv : BatsAt w lo b (.slice A s.bats.length c) s.bats) :
    Calls Try.prog 33 #[segVal s (.slice A s.bats.length c)] w fun e w' => ∃ bv, e = .returned (segVal s bv) ∧ LGrow 52 7 EB w' (w.heap.size + 3) bv s.bats ∧ Below w.heap.size w w' ∧ w.heap.size + 3 ≤ w'.heap.size := by
  obtain ⟨i0, hi, hz0, hz1, hz2⟩ := info_parts infoB
  have HF := Seg.hid hf.2
  have hl := hf.1
  obtain ⟨H, ⟨_, A', c', hsl, hrow⟩, hh⟩ := hv
  simp only [Value.slice.injEq] at hsl
  obtain ⟨rfl, _, rfl⟩ := hsl
  have HROW := Seg.hid hrow; have HH := Seg.hid hh
  clear hrow hh hf
  unfold segVal
  go_enter Try.func33, Try.ntmps33
  go_wp2_with fail
  have C0 : Hid (CS w (((w.alloc (.cells (segArr s (.slice A s.bats.length c)) 39 (0, 0))).alloc (.cells (segArr ⟨0, []⟩ (.slice none 0 0)) 39 (0, 0))).alloc (.cells (segArr s (.slice none 0 0)) 39 (0, 0))) s (.slice none 0 0) []) :=
    ⟨LGrow.nil _ _, Cells.at3' w _ _ _, at3 w _ _ _, below3 w _ _ _, by rw [hsz, hsz, hsz]; omega⟩
  go_loopw [12] (fun i wr => ∃ (j : Nat) (us : List Bat) (A1 : Option Addr) (c1 : Nat), j ≤ s.bats.length ∧ i = .int .i64 j ∧ Hid (us = s.bats.take j ∧ CS w wr s (.slice A1 us.length c1) us)) (fun i _ => s.bats.length - (intOf i).toNat)
  case atStart => exact ⟨0, [], none, 0, Nat.zero_le _, rfl, by simp, C0.out⟩
  case round =>
    clear C0
    obtain ⟨j, us, A1, c1, hj, rfl, HW⟩ := hrel
    by_cases hlt : j < s.bats.length
    · have h0 : (0 : Int) ≤ (j : Int) := by omega
      have h1 : (j : Int) < (s.bats.length : Int) := by omega
      obtain ⟨g, o, rfl, hg, hc, hcell, _⟩ := HROW.out.resolve_left (by omega)
      have hgw : g < w.heap.size := by omega
      obtain ⟨e0, e1, e2, e3, e4, e5, e6⟩ := Bats.six (fun i hi q hq => by rw [HW.out.2.bel.cell (p := ⟨g, o + i * 7 + q, none⟩) hgw]; exact hcell i hi q hq) j hlt
      have UL : Hid (us.length = j) := by show _ = _; rw [HW.out.1, List.length_take]; omega
      have UN : Hid (us ++ [s.bats.getD j default] = s.bats.take (j + 1)) := by show _ = _; rw [HW.out.1]; exact (take_one hlt).symm
      have WC := Seg.hid HW.out.2
      obtain ⟨F, P, hG⟩ := HW.out.2.grow
      have HG := Seg.hid hG
      have hz := HW.out.2.size
      have hul : us.length ≤ 1048576 := by rw [UL.out]; omega
      have BT : Hid (∀ wx, Below wr.heap.size wr wx → BatAt wx lo b (.agg (BatW.batArr (s.bats.getD j default) (H j))) (s.bats.getD j default)) := fun wx bx => ⟨_, rfl, (HH.out j hlt).below ((chain HW.out.2.bel bx).mono hb)⟩
      have FB := Seg.hid (HF.out j hlt)
      obtain ⟨_, ⟨_, Ah, ch, hHj, _⟩, _⟩ := HH.out j hlt
      have d1 : (wr.alloc (.cells (BatW.batArr (s.bats.getD j default) (H j)) 52 (0, 0))).cell? ⟨w.heap.size + 1 + 1, 1, none⟩ = some (.slice A1 us.length c1) := by
        rw [World.cell?_of_block (w := wr) (heap_alloc_old _ _ (by show w.heap.size + 1 + 1 < _; omega))]
        exact cell_of_row wr (w.heap.size + 1 + 1) 1 _ _ (0, 0) HW.out.2.out
      have LR : Hid ((wr.alloc (.cells (BatW.batArr (s.bats.getD j default) (H j)) 52 (0, 0))).heap[wr.heap.size]? = some (.cells (BatW.batArr (s.bats.getD j default) (H j)) 52 (0, 0))) := heap_alloc_new _ _
      clear hcell HW hG
      generalize s.bats.getD j default = tj at *
      rw [hHj] at e6 d1 LR BT
      clear hHj
      have LR' : Hid ((wr.alloc (.cells #[.int .i64 tj.base, .int .i64 tj.epoch, .int .i64 tj.producer, .int .i64 tj.turn, .int .i64 tj.seq, .int .i64 tj.flags, .slice Ah tj.recs.length ch] 52 (0, 0))).heap[wr.heap.size]? = some (.cells (BatW.batArr tj (.slice Ah tj.recs.length ch)) 52 (0, 0))) := LR.out
      have d1' : (wr.alloc (.cells #[.int .i64 tj.base, .int .i64 tj.epoch, .int .i64 tj.producer, .int .i64 tj.turn, .int .i64 tj.seq, .int .i64 tj.flags, .slice Ah tj.recs.length ch] 52 (0, 0))).cell? ⟨w.heap.size + 1 + 1, 1, none⟩ = some (.slice A1 us.length c1) := d1
      obtain ⟨y0, y1, y2, y3, y4, y5, y6⟩ := seven LR'.out
      clear d1
      go_wp2_with fail
      go_region_law
        ((first | (go_simp; go_at_call 49; refine (copyBatch_any _ tj (wr.alloc (.cells (BatW.batArr tj (.slice Ah tj.recs.length ch)) 52 (0, 0))).drew lo b (BT.out _ (below1 wr _).drew) (by show b ≤ (wr.alloc _).heap.size; rw [hsz]; omega) FB.out).mono ?_; rintro e w8 ⟨rv8, rfl, ow8, b8'⟩; have b8 := Seg.hid (chainD (below1 wr (.cells (BatW.batArr tj (.slice Ah tj.recs.length ch)) 52 (0, 0))) b8'); have O8 := Seg.hid (LOwn.mono ow8 (S' := seg wr.heap.size w8.heap.size) (fun x hx => ⟨Nat.le_trans (by show _ ≤ (wr.alloc _).heap.size; rw [hsz]; omega) hx.1, hx.2⟩)); have s8 := b8.out.size; obtain ⟨A8, c8, hA8⟩ := LOwn.form ow8; subst hA8; clear ow8 b8'; have K8 : w8.cell? ⟨w.heap.size + 1 + 1, 1, none⟩ = some (.slice A1 us.length c1) := (b8.out.cell (p := ⟨w.heap.size + 1 + 1, 1, none⟩) (by show w.heap.size + 1 + 1 < wr.heap.size; omega)).trans (cell_of_row wr (w.heap.size + 1 + 1) 1 _ _ (0, 0) WC.out.out); have hl8 : w.heap.size + 1 + 1 < w8.heap.size := (by omega); unfold batVal) | (refine step_append_lies _ (by rfl) _ _ _ (by rfl) (w.heap.size + 3) 52 i0 _ 7 72 Try.underlying37 hi hz0 hz1 hz2 rfl (by decide) (.slice A1 us.length c1) us.length ((List.range (us.length * 7)).map F) (by rfl) (World.ownsRow.alloc (own_keep HG.out.own (fun x _ hx => b8.out.block x hx)) _) ⟨w8.heap.size, 0, none⟩ 1 1 (BatW.batArr tj (.slice A8 tj.recs.length c8)).toList (by rfl) (by rfl) (World.news_of_block (cs := BatW.batArr tj (.slice A8 tj.recs.length c8)) (heap_alloc_new w8 _)) (by simp [BatW.batArr, Value.oneCell']) (by decide) (by unfold maxLen; omega) (by omega) (by rw [hsz]; omega) (w8.heap.size + 1) (hsz w8 _) ?_; intro g9 cap9 w9 hown9 gr9 hat9 hlt9; have D9 := Seg.hid (CS.push WC.out HG.out b8.out O8.out hown9 gr9 hat9); have q6 := D9.out.2.1; have p6 := D9.out.2.2; clear hown9 gr9 hat9 hlt9)))
      all_goals
        clear WC HG K8 O8 q6 p6 d1' y0 y1 y2 y3 y4 y5 y6 e0 e1 e2 e3 e4 e5 e6
        go_wp2
        go_roundw
        case rel => exact ⟨j + 1, us ++ [tj], some ⟨g9, 0, none⟩, cap9, by omega, by go_num, UN.out, by rw [List.length_append]; exact D9.out.1⟩
        case measure => simp [intOf]; omega
    · have G1 : Hid (LGrow 52 7 EB wr (w.heap.size + 3) (.slice A1 s.bats.length c1) s.bats) := by
        have := HW.out
        rw [show j = s.bats.length by omega, List.take_length] at this
        obtain ⟨rfl, h2⟩ := this
        exact h2.grow
      have hul : us.length = s.bats.length := by rw [HW.out.1, show j = s.bats.length by omega, List.take_length]
      have O1 : Hid (wr.heap[w.heap.size + 1 + 1]? = some (.cells (segArr s (.slice A1 s.bats.length c1)) 39 (0, 0))) := by rw [← hul]; exact HW.out.2.out
      have R1 := Seg.hid HW.out.2.res
      have BL := Seg.hid HW.out.2.bel
      have ZS := Seg.hid HW.out.2.size
      have : j = s.bats.length := by omega
      clear HW hul
      subst this
      have H5 := Seg.hid (Cells.there_of R1.out)
      have H4 := Seg.hid (Cells.whole (vs := segArr s (.slice A1 s.bats.length c1)) R1.out rfl)
      have B2 := Seg.hid (Cells.below_setCells (g := w.heap.size + 1) (by omega) (segArr s (.slice A1 s.bats.length c1)).toList 0 _ _ BL.out)
      have HF' : Hid (LGrow 52 7 EB (wr.setCells (w.heap.size + 1) 0 (segArr s (.slice A1 s.bats.length c1)).toList) (w.heap.size + 3) (.slice A1 s.bats.length c1) s.bats) := G1.out.keep keepsB (by rw [Cells.size_setCells]; exact Nat.le_refl _) (fun g h1 _ => Cells.heap_setCells_other _ _ (by omega))
      go_wp2_with (first | (refine wpList_load_row rfl 39 _ rfl (w.heap.size + 1 + 1) rfl _ _ _ _ O1.out Try.underlying39 rfl infoN ?_) | (refine wpList_store_mid rfl 39 _ _ rfl (w.heap.size + 1) 0 (segArr s (.slice A1 s.bats.length c1)) rfl rfl H5.out infoN (segArr_one _ _ rfl) ?_))
      exact bodyPost_ret (v := segVal s (.slice A1 s.bats.length c1)) (results_cell_row rfl _ _ (w.heap.size + 1) _ _ _ _ rfl H4.out Try.underlying39 rfl infoN) rfl ⟨_, rfl, HF'.out, B2.out, by rw [Cells.size_setCells]; exact ZS.out⟩
theorem copySegment_grow (v : Value) (s : Sg) (w : World) (lo b : Nat) (hv : SegAt w lo b v s) (hb : b ≤ w.heap.size) (hf : FewS s) :
    Calls Try.prog 33 #[v] w fun e w' => ∃ bv, e = .returned (segVal s bv) ∧ LGrow 52 7 EB w' (w.heap.size + 3) bv s.bats ∧ Below w.heap.size w w' ∧ w.heap.size + 3 ≤ w'.heap.size := by
  obtain ⟨bv, rfl, hh⟩ := hv
  obtain ⟨_, ⟨_, A, c, rfl, _⟩, _⟩ := id hh
  exact copySegment_core s A c w lo b hb hf hh
theorem copySegment_any (v : Value) (s : Sg) (w : World) (lo b : Nat) (hv : SegAt w lo b v s) (hb : b ≤ w.heap.size) (hf : FewS s) :
    Calls Try.prog 33 #[v] w fun e w' => ∃ bv, e = .returned (segVal s bv) ∧ OwnB w' (seg w.heap.size w'.heap.size) bv s.bats ∧ Below w.heap.size w w' :=
  (copySegment_grow v s w lo b hv hb hf).mono fun e w' ⟨bv, a1, a2, a3, _⟩ => ⟨bv, a1, (LGrow.own a2 hf.1).mono (fun x hx => ⟨by have := hx.1; omega, hx.2⟩), a3⟩
end Go.Proofs.Ytfekhpegfbjleaa.Ft
namespace Go.Proofs.Ytfekhpegfbjleaa.Ft
set_option maxRecDepth 8000
open Go.RowKit
open Recs
open ToO (MineC)
open Bats (BatsAt batsCells)
open SegW
open Segs (SegsAt segsCells)
set_option linter.unusedVariables false
section
variable {T : Type} [Inhabited T] {ty nf : Nat} {EO EO' : World → (Nat → Prop) → (Nat → Value) → T → Prop}
theorem LGr.keepV (hE : Keeps nf EO) {w w' : World} {base : Nat} {v : Value} {us : List T} {F : Nat → Value} {P : Nat → Nat → Prop} (h : LGr ty nf EO w base v us F P) (hs : w.heap.size ≤ w'.heap.size) (ho : ∀ g, v.ownBlock = some g → w'.heap[g]? = w.heap[g]?) (hk : ∀ i, i < us.length → ∀ x, P i x → w'.heap[x]? = w.heap[x]?) : LGr ty nf EO w' base v us F P := by
  refine ⟨⟨h.own.1, ?_⟩, fun i hi => hE _ _ _ _ _ _ (h.el i hi) hs (hk i hi) (fun _ _ => rfl), fun i hi x hx => ⟨(h.apart i hi x hx).1, Nat.lt_of_lt_of_le (h.apart i hi x hx).2.1 hs, (h.apart i hi x hx).2.2⟩, h.disj⟩
  rcases h.own.2 with hn | ⟨g', cap, cur, h1, hbs, hgg, rest⟩
  · exact .inl hn
  · exact .inr ⟨g', cap, cur, h1, hbs, by rw [ho g' (by rw [h1]; rfl)]; exact hgg, rest⟩
theorem own_base {w : World} {base base' : Nat} {v : Value} {n : Nat} {xs : List Value} (h : w.ownsRow base ty nf v n xs) (hb : base' ≤ base) : w.ownsRow base' ty nf v n xs := by
  refine ⟨h.1, ?_⟩
  rcases h.2 with hn | ⟨g', cap, cur, h1, hbs, hgg, rest⟩
  · exact .inl hn
  · exact .inr ⟨g', cap, cur, h1, Nat.le_trans hb hbs, hgg, rest⟩
theorem LGr.base {w : World} {base base' : Nat} {v : Value} {us : List T} {F : Nat → Value} {P : Nat → Nat → Prop} (h : LGr ty nf EO w base v us F P) (hb : base' ≤ base) : LGr ty nf EO w base' v us F P :=
  ⟨own_base h.own hb, h.el, fun i hi x hx => ⟨Nat.le_trans hb (h.apart i hi x hx).1, (h.apart i hi x hx).2⟩, h.disj⟩
theorem LGr.weak (he : ∀ w S f t, EO w S f t → EO' w S f t) {w : World} {base : Nat} {v : Value} {us : List T} {F : Nat → Value} {P : Nat → Nat → Prop} (h : LGr ty nf EO w base v us F P) : LGr ty nf EO' w base v us F P :=
  ⟨h.own, fun i hi => he _ _ _ _ (h.el i hi), h.apart, h.disj⟩
theorem LGr.form {w : World} {base : Nat} {v : Value} {us : List T} {F : Nat → Value} {P : Nat → Nat → Prop} (h : LGr ty nf EO w base v us F P) : ∃ A c, v = .slice A us.length c := LGrow.form ⟨F, P, h⟩
theorem LGr.ownL {w : World} {base : Nat} {v : Value} {us : List T} {F : Nat → Value} {P : Nat → Nat → Prop} (h : LGr ty nf EO w base v us F P) (hn : us.length ≤ 1048576) : LOwn ty nf EO w (fun x => v.ownBlock = some x ∨ ∃ i, i < us.length ∧ P i x) v us := by
  refine ⟨hn, ?_⟩
  rcases h.own.2 with ⟨h1, h2⟩ | ⟨g, cap, cur, h1, h2, h3, h4⟩
  · exact ⟨none, 0, by rw [h1, h2], .inl h2⟩
  · refine ⟨_, cap, h1, .inr ⟨g, F, P, rfl, .inl (by rw [h1]; rfl), fun i hi x hx => .inr ⟨i, hi, hx⟩, ⟨h.own.1, .inr ⟨g, cap, cur, rfl, Nat.le_refl _, h3, h4⟩⟩, rfl, h.el, fun i hi x hx => ⟨fun e => (h.apart i hi x hx).2.2 ?_, (h.apart i hi x hx).2.1⟩, h.disj⟩⟩
    rw [h1, e]
    rfl
/-- The list may grow; its blocks and its elements' lie in S. -/
def LGrS (ty nf : Nat) (EO : World → (Nat → Prop) → (Nat → Value) → T → Prop) (w : World) (S : Nat → Prop) (v : Value) (us : List T) : Prop :=
  us.length ≤ 1048576 ∧ ∃ F P, LGr ty nf EO w 0 v us F P ∧ (∀ x, v.ownBlock = some x → S x) ∧ ∀ i, i < us.length → ∀ x, P i x → S x
theorem LGrS.keep (hE : Keeps nf EO) {w w' : World} {S : Nat → Prop} {v : Value} {us : List T} (h : LGrS ty nf EO w S v us) (hs : w.heap.size ≤ w'.heap.size) (hk : ∀ g, S g → w'.heap[g]? = w.heap[g]?) : LGrS ty nf EO w' S v us := by
  obtain ⟨h0, F, P, h1, h2, h3⟩ := h
  exact ⟨h0, F, P, h1.keepV hE hs (fun g hg => hk g (h2 g hg)) (fun i hi x hx => hk x (h3 i hi x hx)), h2, h3⟩
theorem LGrS.mono {w : World} {S S' : Nat → Prop} {v : Value} {us : List T} (h : LGrS ty nf EO w S v us) (hs : ∀ x, S x → S' x) : LGrS ty nf EO w S' v us := by
  obtain ⟨h0, F, P, h1, h2, h3⟩ := h
  exact ⟨h0, F, P, h1, fun x hx => hs x (h2 x hx), fun i hi x hx => hs x (h3 i hi x hx)⟩
theorem LGrS.own {w : World} {S : Nat → Prop} {v : Value} {us : List T} (h : LGrS ty nf EO w S v us) : LOwn ty nf EO w S v us := by
  obtain ⟨h0, F, P, h1, h2, h3⟩ := h
  exact (h1.ownL h0).mono (fun x hx => by
    rcases hx with hx | ⟨i, hi, hx⟩
    · exact h2 x hx
    · exact h3 i hi x hx)
theorem LGrS.nil (w : World) (S : Nat → Prop) : LGrS ty nf EO w S (.slice none 0 0) ([] : List T) := by
  obtain ⟨F, P, h⟩ := LGrow.nil (ty := ty) (nf := nf) (EO := EO) w 0
  exact ⟨by simp, F, P, h, fun x hx => by simp [Value.ownBlock] at hx, fun i hi => absurd hi (by simp)⟩
theorem LGrS.form {w : World} {S : Nat → Prop} {v : Value} {us : List T} (h : LGrS ty nf EO w S v us) : ∃ A c, v = .slice A us.length c := by
  obtain ⟨h0, F, P, h1, h2, h3⟩ := h
  exact h1.form
theorem LGrow.grS {w : World} {base : Nat} {v : Value} {us : List T} (h : LGrow ty nf EO w base v us) (hn : us.length ≤ 1048576) : LGrS ty nf EO w (seg base w.heap.size) v us := by
  obtain ⟨F, P, h⟩ := h
  exact ⟨hn, F, P, h.base (Nat.zero_le _), fun x hx => World.ownsRow.lt h.own x hx, fun i hi x hx => ⟨(h.apart i hi x hx).1, (h.apart i hi x hx).2.1⟩⟩
/-- One element is written anew; its set of blocks may be another one. -/
theorem LGr.step (hE : Keeps nf EO) {w w' : World} {base j : Nat} {v : Value} {F F' : Nat → Value} {P P' : Nat → Nat → Prop} {us : List T} {t : T} (h : LGr ty nf EO w base v us F P) (hj : j < us.length) (hM : w'.ownsRow base ty nf v us.length ((List.range (us.length * nf)).map F'))
    (hF : ∀ i, i < us.length → i ≠ j → ∀ q, q < nf → F' (i * nf + q) = F (i * nf + q)) (hs : w.heap.size ≤ w'.heap.size) (hP : ∀ i, i < us.length → i ≠ j → P' i = P i) (hQ : ∀ x, P' j x → base ≤ x ∧ x < w'.heap.size ∧ v.ownBlock ≠ some x) (hD : ∀ i, i < us.length → i ≠ j → ∀ x, P' j x → ¬ P i x)
    (hk : ∀ i, i < us.length → i ≠ j → ∀ x, P i x → w'.heap[x]? = w.heap[x]?) (he : EO w' (P' j) (fun q => F' (j * nf + q)) t) : LGr ty nf EO w' base v (us.set j t) F' P' := by
  refine ⟨by rw [List.length_set]; exact hM, fun i hi => ?_, fun i hi x hx => ?_, fun i k hi hk' hik x hx => ?_⟩
  · rw [List.length_set] at hi
    by_cases e : i = j
    · subst e
      rw [getD_set_same t hi]
      exact he
    · rw [getD_set_other t e, hP i hi e]
      exact hE _ _ _ _ _ _ (h.el i hi) hs (hk i hi e) (fun q hq => hF i hi e q hq)
  · rw [List.length_set] at hi
    by_cases e : i = j
    · subst e
      exact hQ x hx
    · rw [hP i hi e] at hx
      exact ⟨(h.apart i hi x hx).1, Nat.lt_of_lt_of_le (h.apart i hi x hx).2.1 hs, (h.apart i hi x hx).2.2⟩
  · rw [List.length_set] at hi hk'
    by_cases e : i = j
    · subst e
      rw [hP k hk' (Ne.symm hik)]
      exact hD k hk' (Ne.symm hik) x hx
    · rw [hP i hi e] at hx
      by_cases e2 : k = j
      · subst e2
        exact fun hx' => hD i hi e x hx' hx
      · rw [hP k hk' e2]
        exact h.disj i k hi hk' hik x hx
/-- One element more, its sets told. -/
theorem LGr.push_v (hE : Keeps nf EO) {wr w2 w3 : World} {base g cap : Nat} {v : Value} {us : List T} {F : Nat → Value} {P : Nat → Nat → Prop} {Q : Nat → Prop} {t : T} {news : List Value} (h : LGr ty nf EO wr base v us F P) (hs : wr.heap.size ≤ w2.heap.size) (ho : ∀ g, v.ownBlock = some g → w2.heap[g]? = wr.heap[g]?) (hk : ∀ i, i < us.length → ∀ x, P i x → w2.heap[x]? = wr.heap[x]?)
    (he : EO w2 Q (fun q => news.getD q default) t) (hQ : ∀ x, Q x → wr.heap.size ≤ x ∧ x < w2.heap.size) (hbase : base ≤ wr.heap.size) (hl : news.length = nf) (hown : w3.ownsRow base ty nf (.slice (some ⟨g, 0, none⟩) (us.length + 1) cap) (us.length + 1) ((List.range (us.length * nf)).map F ++ news)) (gr : w2.grownBy w3 v.ownBlock) (hg : v.ownBlock = some g ∨ g = w2.heap.size) :
    LGr ty nf EO w3 base (.slice (some ⟨g, 0, none⟩) (us.length + 1) cap) (us ++ [t]) (fun q => if q < us.length * nf then F q else news.getD (q - us.length * nf) default) (fun i => if i = us.length then Q else P i) := by
  have h2 := h.keepV hE hs ho hk
  have hvb : ∀ x, v.ownBlock = some x → base ≤ x ∧ x < wr.heap.size := fun x hx => World.ownsRow.lt h.own x hx
  have gs := gr.size
  refine ⟨?_, fun i hi => ?_, fun i hi x hx => ?_, fun i j hi hj hij x hx hx' => ?_⟩
  · show w3.ownsRow _ _ _ _ _ _
    rw [List.length_append, List.length_singleton, ← map_push F us.length nf news hl]
    exact hown
  · show EO w3 (if i = us.length then Q else P i) (fun q => if i * nf + q < us.length * nf then F (i * nf + q) else news.getD (i * nf + q - us.length * nf) default) _
    by_cases e : i = us.length
    · subst e
      rw [if_pos rfl, getD_app_last]
      refine hE _ _ _ _ _ _ he gs (fun x hx => gr.block x (hQ x hx).2 (fun e => ?_)) (fun q hq => ?_)
      · have a1 := hvb x e.symm
        have a2 := hQ x hx
        omega
      · rw [if_neg (by omega), Nat.add_sub_cancel_left]
    · have hi' : i < us.length := by rw [List.length_append, List.length_singleton] at hi; omega
      rw [if_neg e, getD_app_left hi']
      refine hE _ _ _ _ _ _ (h2.el i hi') gs (fun x hx => gr.block x (h2.apart i hi' x hx).2.1 (fun e => (h2.apart i hi' x hx).2.2 e.symm)) (fun q hq => ?_)
      have : (i + 1) * nf ≤ us.length * nf := Nat.mul_le_mul_right nf (by omega)
      rw [Nat.succ_mul] at this
      rw [if_pos (by omega)]
  · replace hx : (if i = us.length then Q else P i) x := hx
    by_cases e : i = us.length
    · subst e
      rw [if_pos rfl] at hx
      have a1 := hQ x hx
      refine ⟨by omega, by omega, fun e => ?_⟩
      simp only [Value.ownBlock, Option.some.injEq] at e
      rcases hg with hg | hg
      · have := hvb g hg; omega
      · omega
    · have hi' : i < us.length := by rw [List.length_append, List.length_singleton] at hi; omega
      rw [if_neg e] at hx
      have a1 := h2.apart i hi' x hx
      refine ⟨a1.1, by omega, fun e => ?_⟩
      simp only [Value.ownBlock, Option.some.injEq] at e
      rcases hg with hg | hg
      · exact a1.2.2 (by rw [hg, e])
      · omega
  · replace hx : (if i = us.length then Q else P i) x := hx
    replace hx' : (if j = us.length then Q else P j) x := hx'
    rw [List.length_append, List.length_singleton] at hi hj
    by_cases e : i = us.length
    · subst e
      rw [if_pos rfl] at hx
      rw [if_neg (Ne.symm hij)] at hx'
      have a1 := hQ x hx
      have a2 := h.apart j (by omega) x hx'
      omega
    · rw [if_neg e] at hx
      by_cases e2 : j = us.length
      · subst e2
        rw [if_pos rfl] at hx'
        have a1 := hQ x hx'
        have a2 := h.apart i (by omega) x hx
        omega
      · rw [if_neg e2] at hx'
        exact h.disj i j (by omega) (by omega) hij x hx hx'
end
/-- A Segment whose list of Batches may grow. -/
def EG (w : World) (S : Nat → Prop) (f : Nat → Value) (t : Sg) : Prop := f 0 = .int .i64 t.base ∧ LGrS 52 7 EB w S (f 1) t.bats
theorem keepsG : Keeps 2 EG := fun w w' S f f' t h hs hk hf => by
  obtain ⟨h0, h1⟩ := h
  refine ⟨by rw [hf 0 (by omega)]; exact h0, ?_⟩
  rw [hf 1 (by omega)]
  exact LGrS.keep keepsB h1 hs hk
theorem EG.es {w : World} {S : Nat → Prop} {f : Nat → Value} {t : Sg} (h : EG w S f t) : ES w S f t := ⟨h.1, h.2.own⟩
theorem seg_elG {w : World} {t : Sg} {bv : Value} {Q : Nat → Prop} (h : LGrS 52 7 EB w Q bv t.bats) : EG w Q (fun q => (segArr t bv).toList.getD q default) t := ⟨rfl, h⟩
end Go.Proofs.Ytfekhpegfbjleaa.Ft
