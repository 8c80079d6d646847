/- The program's copyLog and Append. -/
import Derived.Test.YtoplbemolnpngaaGreatJP34
import Derived.Test.YtoplbemolnpngaaGreatJP44
namespace Go.Proofs.YtoplbemolnpngaaGreat.Ft
set_option maxRecDepth 8000
open Go.RowKit
open Recs
open Bats SegW Segs LogW JoP BfP ApP
open LgP (logOk)
set_option linter.unusedVariables false
set_option maxHeartbeats 3200000 in
theorem copyLog_core (l : Lg) (A : Option Addr) (c : Nat) (w : World) (lo b : Nat) (hb : b ≤ w.heap.size) (hf : FewL l) (hs : SegsAt w lo b (.slice A l.segs.length c) l.segs) :
    Calls Tryz.prog 28 #[logVal l (.slice A l.segs.length c)] w fun e w' => ∃ sv, e = .returned (logVal l sv) ∧ LGrow 55 2 EG w' (w.heap.size + 2) sv l.segs ∧ Below w.heap.size w w' ∧ w.heap.size + 2 ≤ w'.heap.size := by
  have HS := Seg.hid hs
  have HF := Seg.hid hf
  clear hs hf
  unfold logVal
  go_enter Tryz.func28, Tryz.ntmps28
  go_wp2_with fail
  refine (copySegments_grow _ l.segs ((w.alloc _).alloc _) lo b (by rw [hsz, hsz]; omega) HF.out.1.1 HF.out.1.2 (HS.out.below ((below2 w _ _).mono hb))).mono ?_
  rintro e w1 ⟨sv, rfl, hG, b1⟩
  have B1 := Seg.hid (chain (below2 w _ _) b1)
  have T1 : Hid (w1.heap[w.heap.size]? = some (.cells (logArr l (.slice A l.segs.length c)) 32 (0, 0))) := (b1.block w.heap.size (by rw [hsz, hsz]; omega)).trans (at1 w _ _)
  have R1 : Hid (w1.heap[w.heap.size + 1]? = some (.cells (logArr ⟨0, 0, 0, []⟩ (.slice none 0 0)) 32 (0, 0))) := (b1.block (w.heap.size + 1) (by rw [hsz, hsz]; omega)).trans (at2 w _ _)
  have s1 := b1.size
  rw [hsz, hsz] at hG s1
  obtain ⟨A3, c3, rfl⟩ := LGrow.form hG
  have HG := Seg.hid hG
  clear b1 hG
  obtain ⟨c0, c1, c2, c3'⟩ := four T1.out
  have f3 := frozen_of_row w1 w.heap.size 3 _ _ T1.out
  have hw1 : w.heap.size < w1.heap.size := by omega
  have TZ : Hid ((w1.setCell ⟨w.heap.size, 3, none⟩ (.slice A3 l.segs.length c3)).heap[w.heap.size]? = some (.cells (logArr l (.slice A3 l.segs.length c3)) 32 (0, 0))) := heap_setCell_same w1 w.heap.size 3 _ _ _ T1.out
  have RZ : Hid ((w1.setCell ⟨w.heap.size, 3, none⟩ (.slice A3 l.segs.length c3)).heap[w.heap.size + 1]? = some (.cells (logArr ⟨0, 0, 0, []⟩ (.slice none 0 0)) 32 (0, 0))) := (heap_setCell_other _ _ _ _ (by show w.heap.size + 1 ≠ w.heap.size; omega)).trans R1.out
  have H5 := Seg.hid (Cells.there_of RZ.out)
  have H4 := Seg.hid (Cells.whole (vs := logArr l (.slice A3 l.segs.length c3)) RZ.out rfl)
  have BZ : Hid (Below w.heap.size w (w1.setCell ⟨w.heap.size, 3, none⟩ (.slice A3 l.segs.length c3))) := B1.out.setCell (p := ⟨w.heap.size, 3, none⟩) (Nat.le_refl _) _
  have B3 := Seg.hid (Cells.below_setCells (g := w.heap.size + 1) (by omega) (logArr l (.slice A3 l.segs.length c3)).toList 0 _ _ BZ.out)
  have HF' : Hid (LGrow 55 2 EG ((w1.setCell ⟨w.heap.size, 3, none⟩ (.slice A3 l.segs.length c3)).setCells (w.heap.size + 1) 0 (logArr l (.slice A3 l.segs.length c3)).toList) (w.heap.size + 2) (.slice A3 l.segs.length c3) l.segs) := (HG.out.keep (w' := w1.setCell ⟨w.heap.size, 3, none⟩ (.slice A3 l.segs.length c3)) keepsG (by simp) (fun x hx _ => heap_setCell_other _ _ _ _ (by show x ≠ w.heap.size; omega))).keep keepsG (by rw [Cells.size_setCells]; exact Nat.le_refl _) (fun x hx _ => Cells.heap_setCells_other _ _ (by omega))
  go_wp2_with (first | (refine wpList_load_row rfl 32 _ rfl w.heap.size rfl _ _ _ _ TZ.out Tryz.underlying32 rfl infoN ?_) | (refine wpList_store_mid rfl 32 _ _ rfl (w.heap.size + 1) 0 (logArr l (.slice A3 l.segs.length c3)) rfl rfl H5.out infoN (logArr_one _ _ rfl) ?_))
  exact bodyPost_ret (v := logVal l (.slice A3 l.segs.length c3)) (results_cell_row rfl _ _ (w.heap.size + 1) _ _ _ _ rfl H4.out Tryz.underlying32 rfl infoN) rfl ⟨_, rfl, HF'.out, B3.out, by rw [Cells.size_setCells]; simpa using s1⟩
theorem put_len (l : Lg) (t : Bat) : (put l t).1.segs.length ≤ l.segs.length + 1 := by
  unfold put
  split
  · show (grow l (setB l.next t)).length ≤ _
    unfold grow
    split
    · rw [List.length_set]; omega
    · simp
  · show l.segs.length ≤ _
    omega
set_option maxHeartbeats 12800000 in
theorem append_core (l : Lg) (t : Bat) (A A6 : Option Addr) (c c6 : Nat) (w : World) (lo b lo2 b2 : Nat) (hb : b ≤ w.heap.size) (hb2 : b2 ≤ w.heap.size) (hf : FewL l) (hft : FewB t) (hs : SegsAt w lo b (.slice A l.segs.length c) l.segs) (ht : RecsAt w lo2 b2 (.slice A6 t.recs.length c6) t.recs) :
    Calls Tryz.prog 9 #[logVal l (.slice A l.segs.length c), .agg (BatW.batArr t (.slice A6 t.recs.length c6))] w fun e w' => ∃ sv, e = .returned (.tuple #[logVal (appended l t).1 sv, .int .i64 (appended l t).2]) ∧ OwnS w' (seg w.heap.size w'.heap.size) sv (appended l t).1.segs ∧ Below w.heap.size w w' := by
  have HS := Seg.hid hs; have HT := Seg.hid ht
  have HV : Hid (LogAt w lo b (logVal l (.slice A l.segs.length c)) l) := ⟨_, rfl, hs⟩
  have HF := Seg.hid hf; have HFT := Seg.hid hft
  clear hs ht hf hft
  unfold logVal at HV ⊢
  unfold BatW.batArr
  go_enter Tryz.func9, Tryz.ntmps9
  go_wp2_with fail
  refine (LgI.impl_any _ l (((w.alloc _).alloc _).alloc _) lo b (HV.out.below ((below3 w _ _ _).mono hb)) (by rw [hsz, hsz, hsz]; omega) HF.out).mono ?_
  rintro e w1 ⟨rfl, b1⟩
  have B1 := Seg.hid (chain (below3 w _ _ _) b1)
  have T1 : Hid (w1.heap[w.heap.size]? = some (.cells (logArr l (.slice A l.segs.length c)) 32 (0, 0))) := (b1.block w.heap.size (by rw [hsz, hsz, hsz]; omega)).trans (((below1 _ _).block _ (by rw [hsz, hsz]; omega)).trans (((below1 _ _).block _ (by rw [hsz]; omega)).trans (heap_alloc_new _ _)))
  have X1 : Hid (w1.heap[w.heap.size + 1]? = some (.cells (BatW.batArr t (.slice A6 t.recs.length c6)) 38 (0, 0))) := (b1.block (w.heap.size + 1) (by rw [hsz, hsz, hsz]; omega)).trans (at3 w _ _ _)
  have R1 : Hid (w1.heap[w.heap.size + 1 + 1]? = some (.cells (logArr ⟨0, 0, 0, []⟩ (.slice none 0 0)) 32 (0, 0))) := (b1.block (w.heap.size + 1 + 1) (by rw [hsz, hsz, hsz]; omega)).trans (Cells.at3' w _ _ _)
  have s1 := b1.size
  rw [hsz, hsz, hsz] at s1
  clear b1
  cases hok : logOk l with
  | false =>
    have HC : Hid (appended l t = (⟨0, 0, 0, []⟩, 1)) := by show _ = _; simp [appended, hok]
    have H5 := Seg.hid (Cells.there_of R1.out)
    have H4 := Seg.hid (Cells.whole (vs := logArr ⟨0, 0, 0, []⟩ (.slice none 0 0)) R1.out rfl)
    have B2 := Seg.hid (Cells.below_setCells (g := w.heap.size + 1 + 1) (by omega) (logArr ⟨0, 0, 0, []⟩ (.slice none 0 0)).toList 0 _ _ B1.out)
    clear hok
    go_wp2_with (first | (refine wpList_store_mid rfl 32 _ _ rfl (w.heap.size + 1 + 1) 0 (logArr ⟨0, 0, 0, []⟩ (.slice none 0 0)) rfl rfl H5.out infoN (logArr_one _ _ rfl) ?_))
    exact bodyPost_ret (v := .tuple #[logVal ⟨0, 0, 0, []⟩ (.slice none 0 0), .int .i64 1]) (results_row_tmp rfl _ _ (w.heap.size + 1 + 1) _ _ _ _ _ rfl rfl H4.out Tryz.underlying32 rfl infoN) rfl ⟨.slice none 0 0, by rw [HC.out]; rfl, by rw [HC.out]; exact LOwn.nil _ _ _ _, B2.out⟩
  | true =>
  have HC : Hid (appended l t = put l t) := by show _ = _; simp [appended, hok]
  have HOK := Seg.hid hok
  clear hok
  obtain ⟨c0, c1, c2, c3⟩ := four T1.out
  have hw1 : w.heap.size < w1.heap.size := by omega
  go_wp2_with fail
  refine (copyLog_core l A c w1 lo b (by omega) HF.out (HS.out.below (B1.out.mono hb))).mono ?_
  rintro e w2 ⟨sv, rfl, hG, b2', s2⟩
  obtain ⟨F0, P0, hG0⟩ := hG
  obtain ⟨A0, c0', hA0⟩ := LGr.form hG0
  subst hA0
  have B2 := Seg.hid (chain B1.out b2')
  have X2 := Seg.hid ((b2'.block (w.heap.size + 1) (by omega)).trans X1.out)
  have R2 := Seg.hid ((b2'.block (w.heap.size + 1 + 1) (by omega)).trans R1.out)
  clear c0 c1 c2 c3 b2'
  unfold logVal
  have PV0 : Hid (PV (w2.alloc (.cells (logArr l (.slice A0 l.segs.length c0')) 32 (0, 0))) (w2.alloc (.cells (logArr l (.slice A0 l.segs.length c0')) 32 (0, 0))) w2.heap.size (w1.heap.size + 2) l (.slice A0 l.segs.length c0') l.segs F0 P0) := by
    have ba := below1 w2 (.cells (logArr l (.slice A0 l.segs.length c0')) 32 (0, 0))
    exact ⟨heap_alloc_new _ _, hG0.keepV keepsG ba.size (fun g hg => ba.block g (World.ownsRow.lt hG0.own g hg).2) (fun i hi x hx => ba.block x (hG0.apart i hi x hx).2.1), s2, fun e => by have := (World.ownsRow.lt hG0.own _ e).2; omega, fun i hi hx => by have := (hG0.apart i hi _ hx).2.1; omega, Below.refl _ _⟩
  have B3 : Hid (Below w.heap.size w (w2.alloc (.cells (logArr l (.slice A0 l.segs.length c0')) 32 (0, 0)))) := chain B2.out (below1 w2 _)
  have X3 : Hid ((w2.alloc (.cells (logArr l (.slice A0 l.segs.length c0')) 32 (0, 0))).heap[w.heap.size + 1]? = some (.cells (BatW.batArr t (.slice A6 t.recs.length c6)) 38 (0, 0))) := ((below1 _ _).block _ (by omega)).trans X2.out
  have R3 : Hid ((w2.alloc (.cells (logArr l (.slice A0 l.segs.length c0')) 32 (0, 0))).heap[w.heap.size + 1 + 1]? = some (.cells (logArr ⟨0, 0, 0, []⟩ (.slice none 0 0)) 32 (0, 0))) := ((below1 _ _).block _ (by omega)).trans R2.out
  have z3 := hsz w2 (.cells (logArr l (.slice A0 l.segs.length c0')) 32 (0, 0))
  unfold logArr at PV0 B3 X3 z3
  obtain ⟨y0, y1, y2, y3, y4, y5, y6⟩ := seven X3.out
  clear hG0
  go_wp2_with fail
  have R3' : Hid ((w2.alloc (.cells #[.int .i64 l.start, .int .i64 l.next, .int .i64 l.roll, .slice A0 l.segs.length c0'] 32 (0, 0))).heap[w.heap.size + 1 + 1]? = some (.cells (logArr ⟨0, 0, 0, []⟩ (.slice none 0 0)) 32 (0, 0))) := R3.out
  clear R3
  refine (put_any _ l t _ (w2.alloc _) w2.heap.size (w1.heap.size + 2) lo2 b2 F0 P0 HOK.out HF.out HFT.out (by omega) (by rw [z3]; omega) PV0.out ⟨_, rfl, HT.out.keep fun g _ hg => B3.out.block g (by omega)⟩).mono ?_
  rintro e w4 ⟨rfl, v4, F4, P4, hP4⟩
  obtain ⟨A4, c4, hA4⟩ := LGr.form hP4.grow
  subst hA4
  have LL := put_len l t
  have LF := HF.out.1.1
  obtain ⟨f, k1, k2, k3, _⟩ := ok_parts HOK.out
  obtain ⟨L, cd, hL⟩ : ∃ L cd, put l t = (L, cd) := ⟨_, _, rfl⟩
  rw [hL] at HC hP4 LL ⊢
  have P4h := Seg.hid hP4
  have O4 := Seg.hid hP4.out
  have R4 := Seg.hid ((hP4.bel.block (w.heap.size + 1 + 1) (by omega)).trans R3'.out)
  have B4 : Hid (Below w.heap.size w w4) := B3.out.trans (hP4.bel.mono (by omega))
  clear hL hP4 y0 y1 y2 y3 y4 y5 y6
  dsimp only at P4h O4 ⊢
  have H5 := Seg.hid (Cells.there_of R4.out)
  have H4 := Seg.hid (Cells.whole (vs := logArr L (.slice A4 L.segs.length c4)) R4.out rfl)
  have B5 := Seg.hid (Cells.below_setCells (g := w.heap.size + 1 + 1) (by omega) (logArr L (.slice A4 L.segs.length c4)).toList 0 _ _ B4.out)
  have SX : Hid (∀ x, ((Value.slice A4 L.segs.length c4).ownBlock = some x ∨ ∃ i, i < L.segs.length ∧ P4 i x) → w1.heap.size + 2 ≤ x ∧ x < w4.heap.size) := fun x hx => by
    rcases hx with hx | ⟨i, hi, hx⟩
    · exact World.ownsRow.lt P4h.out.grow.own x hx
    · have a1 := P4h.out.grow.apart i hi x hx
      exact ⟨a1.1, a1.2.1⟩
  have OW : Hid (OwnS w4 (fun x => (Value.slice A4 L.segs.length c4).ownBlock = some x ∨ ∃ i, i < L.segs.length ∧ P4 i x) (.slice A4 L.segs.length c4) L.segs) := LGr.ownL (LGr.weak (fun _ _ _ _ h => EG.es h) P4h.out.grow) (by dsimp only at LL; omega)
  have HF' : Hid (OwnS (w4.setCells (w.heap.size + 1 + 1) 0 (logArr L (.slice A4 L.segs.length c4)).toList) (seg w.heap.size (w4.setCells (w.heap.size + 1 + 1) 0 (logArr L (.slice A4 L.segs.length c4)).toList).heap.size) (.slice A4 L.segs.length c4) L.segs) := by
    refine (LOwn.keep keepsS OW.out (by rw [Cells.size_setCells]; exact Nat.le_refl _) (fun x hx => Cells.heap_setCells_other _ _ (by have := (SX.out x hx).1; omega))).mono (fun x hx => ?_)
    have a1 := SX.out x hx
    refine ⟨by omega, ?_⟩
    rw [Cells.size_setCells]
    exact a1.2
  clear OW SX P4h
  go_wp2_with (first | (refine wpList_load_row rfl 32 _ rfl w2.heap.size rfl _ _ _ _ O4.out Tryz.underlying32 rfl infoN ?_) | (refine wpList_store_mid rfl 32 _ _ rfl (w.heap.size + 1 + 1) 0 (logArr L (.slice A4 L.segs.length c4)) rfl rfl H5.out infoN (logArr_one _ _ rfl) ?_))
  exact bodyPost_ret (v := .tuple #[logVal L (.slice A4 L.segs.length c4), .int .i64 cd]) (results_row_tmp rfl _ _ (w.heap.size + 1 + 1) _ _ _ _ _ rfl rfl H4.out Tryz.underlying32 rfl infoN) rfl ⟨.slice A4 L.segs.length c4, by rw [HC.out]; rfl, by rw [HC.out]; exact HF'.out, B5.out⟩
theorem append_any (v vb : Value) (l : Lg) (t : Bat) (w : World) (lo b lo2 b2 : Nat) (hv : LogAt w lo b v l) (ht : BatAt w lo2 b2 vb t) (hb : b ≤ w.heap.size) (hb2 : b2 ≤ w.heap.size) (hf : FewL l) (hft : FewB t) :
    Calls Tryz.prog 9 #[v, vb] w fun e w' => ∃ sv, e = .returned (.tuple #[logVal (appended l t).1 sv, .int .i64 (appended l t).2]) ∧ OwnS w' (seg w.heap.size w'.heap.size) sv (appended l t).1.segs ∧ Below w.heap.size w w' := by
  obtain ⟨sv, rfl, hs⟩ := hv
  obtain ⟨_, ⟨_, A, c, rfl, _⟩, _⟩ := id hs
  obtain ⟨rv, rfl, hr⟩ := ht
  obtain ⟨_, ⟨_, A6, c6, rfl, _⟩, _⟩ := id hr
  exact append_core l t A A6 c c6 w lo b lo2 b2 hb hb2 hf hft hs hr
end Go.Proofs.YtoplbemolnpngaaGreat.Ft
