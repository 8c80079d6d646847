/- The model's Append. -/
import Derived.Test.YtoplbemolnpngaaGreatJP24
import Derived.Test.YtoplbemolnpngaaGreatJApQ
import Derived.Test.YtoplbemolnpngaaGreatJP26
import Derived.Test.YtoplbemolnpngaaGreatJP28
import Derived.Test.YtoplbemolnpngaaGreatJP35
import Derived.Test.YtoplbemolnpngaaGreatJP37
import Derived.Test.YtoplbemolnpngaaGreatJP38
import Derived.Test.YtoplbemolnpngaaGreatJP42
import Derived.Test.YtoplbemolnpngaaGreatJP44
import Derived.Test.YtoplbemolnpngaaGreatJP10
import Derived.Deep.RegionLaw
import Derived.Deep.RegionHeld3
import Derived.BigQuiet
import Derived.Deep.Cut
namespace Go.Proofs.YtoplbemolnpngaaGreat.Ft
set_option maxRecDepth 8000
open Go.RowKit
open Recs
open Bats SegW Segs LogW JoP Zs BfP ApP EoP
open LgP (logOk)
set_option linter.unusedVariables false
set_option maxHeartbeats 64000000 in
theorem appendS_core (l : Lg) (t : Bat) (A A6 : Option Addr) (c c6 : Nat) (w : World) (lo b lo2 b2 : Nat) (hb : b ≤ w.heap.size) (hb2 : b2 ≤ w.heap.size) (hf : FewL l) (hft : FewB t) (hw : ∀ i, i < l.segs.length → -9223372036854775808 ≤ (l.segs.getD i default).base ∧ (l.segs.getD i default).base ≤ 9223372036854775807) (hs : SegsAt w lo b (.slice A l.segs.length c) l.segs) (ht : RecsAt w lo2 b2 (.slice A6 t.recs.length c6) t.recs) :
    Calls Tryz.prog 6 #[logVal l (.slice A l.segs.length c), .agg (BatW.batArr t (.slice A6 t.recs.length c6))] w fun e w' => ∃ sv, e = .returned (.tuple #[logVal (appended l t).1 sv, .int .i64 (appended l t).2]) ∧ SegsAt w' w.heap.size w'.heap.size sv (appended l t).1.segs ∧ Below w.heap.size w w' := by
  obtain ⟨i0, hi, hz0, hz1, hz2⟩ := info_parts infoSgG
  obtain ⟨i1, hi1, hy0, hy1, hy2⟩ := info_parts infoB
  have HS := Seg.hid hs; have HT := Seg.hid ht
  have HV : Hid (LogAt w lo b (logVal l (.slice A l.segs.length c)) l) := ⟨_, rfl, hs⟩
  have HF := Seg.hid hf; have HFT := Seg.hid hft; have HWW := Seg.hid hw
  clear hs ht hf hft hw
  unfold logVal at HV ⊢
  unfold BatW.batArr
  go_enter Tryz.func6, Tryz.ntmps6
  go_wp2_with fail
  refine (LgS.spec_any _ l (((w.alloc _).alloc _).alloc _) lo b (HV.out.below ((below3 w _ _ _).mono hb)) (by rw [hsz, hsz, hsz]; omega) HF.out HWW.out).mono ?_
  rintro e w1 ⟨rfl, b1⟩
  have B1 := Seg.hid (chain (below3 w _ _ _) b1)
  have T1 : Hid (w1.heap[w.heap.size]? = some (.cells (logArr l (.slice A l.segs.length c)) 32 (0, 0))) := (b1.block w.heap.size (by rw [hsz, hsz, hsz]; omega)).trans (((below1 _ _).block _ (by rw [hsz, hsz]; omega)).trans (((below1 _ _).block _ (by rw [hsz]; omega)).trans (heap_alloc_new _ _)))
  have X1 : Hid (w1.heap[w.heap.size + 1]? = some (.cells (BatW.batArr t (.slice A6 t.recs.length c6)) 38 (0, 0))) := (b1.block (w.heap.size + 1) (by rw [hsz, hsz, hsz]; omega)).trans (at3 w _ _ _)
  have R1 : Hid (w1.heap[w.heap.size + 1 + 1]? = some (.cells (logArr ⟨0, 0, 0, []⟩ (.slice none 0 0)) 32 (0, 0))) := (b1.block (w.heap.size + 1 + 1) (by rw [hsz, hsz, hsz]; omega)).trans (Cells.at3' w _ _ _)
  have s1 := b1.size
  rw [hsz, hsz, hsz] at s1
  clear b1
  cases hok : logOk l with
  | false =>
    have HC : Hid (appended l t = (⟨0, 0, 0, []⟩, 1)) := by show _ = _; simp [appended, hok]
    have H5 := Seg.hid (Cells.there_of R1.out)
    have H4 := Seg.hid (Cells.whole (vs := logArr ⟨0, 0, 0, []⟩ (.slice none 0 0)) R1.out rfl)
    have B2 := Seg.hid (Cells.below_setCells (g := w.heap.size + 1 + 1) (by omega) (logArr ⟨0, 0, 0, []⟩ (.slice none 0 0)).toList 0 _ _ B1.out)
    clear hok
    go_wp2_with (first | (refine wpList_store_mid rfl 32 _ _ rfl (w.heap.size + 1 + 1) 0 (logArr ⟨0, 0, 0, []⟩ (.slice none 0 0)) rfl rfl H5.out infoN (logArr_one _ _ rfl) ?_))
    exact bodyPost_ret (v := .tuple #[logVal ⟨0, 0, 0, []⟩ (.slice none 0 0), .int .i64 1]) (results_row_tmp rfl _ _ (w.heap.size + 1 + 1) _ _ _ _ _ rfl rfl H4.out Tryz.underlying32 rfl infoN) rfl ⟨.slice none 0 0, by rw [HC.out]; rfl, by rw [HC.out]; exact segs_nil, B2.out⟩
  | true =>
  have HC0 : Hid (appended l t = put l t) := by show _ = _; simp [appended, hok]
  obtain ⟨f, k1, k2, k3, k4, k5, k6⟩ := ok_parts hok
  have SO := Seg.hid (okAllS k1)
  have FC := ok_many hok
  have K1 := Seg.hid k1
  clear hok k1 k2 k4 k5
  obtain ⟨u, hu⟩ : ∃ u, setB l.next t = u := ⟨_, rfl⟩
  have hu0 : u.base = l.next := by rw [← hu]; rfl
  have hu6 : u.recs = t.recs := by rw [← hu]; rfl
  have hu1 : u.epoch = t.epoch := by rw [← hu]; rfl
  have PUT : Hid (put l t = if code l u = 0 then (⟨l.start, l.next + (t.recs.length : Int), l.roll, grow l u⟩, 0) else (l, code l u)) := by show _ = _; unfold put; rw [hu]
  have UARR : Hid (∀ rv, BatW.batArr u rv = #[.int .i64 l.next, .int .i64 t.epoch, .int .i64 t.producer, .int .i64 t.turn, .int .i64 t.seq, .int .i64 t.flags, rv]) := fun rv => by rw [← hu]; rfl
  have HU0 := Seg.hid hu0; have HU6 := Seg.hid hu6; have HU1 := Seg.hid hu1
  clear hu hu0 hu1 hu6
  obtain ⟨y0, y1, y2, y3, y4, y5, y6⟩ := seven X1.out
  have hw1 : w.heap.size < w1.heap.size := by omega
  have hw11 : w.heap.size + 1 < w1.heap.size := by omega
  go_wp2_with fail
  refine (l3Batch_any _ t w1 lo2 b2 ⟨_, rfl, HT.out.keep fun g _ hg => B1.out.block g (by omega)⟩ (by omega) HFT.out).mono ?_
  rintro e w2 ⟨rv, rfl, ow2, b2'⟩
  obtain ⟨A7, c7, hA7⟩ := LOwn.form ow2
  subst hA7
  have B2 := Seg.hid (chain B1.out b2')
  have s2 := b2'.size
  have T2 := Seg.hid ((b2'.block w.heap.size hw1).trans T1.out)
  have X2 := Seg.hid ((b2'.block (w.heap.size + 1) hw11).trans X1.out)
  have R2 := Seg.hid ((b2'.block (w.heap.size + 1 + 1) (by omega)).trans R1.out)
  have OW2 := Seg.hid ow2
  clear ow2 b2' y0 y1 y2 y3 y4 y5 y6
  have H5 := Seg.hid (Cells.there_of X2.out)
  have XW : Hid ((w2.setCells (w.heap.size + 1) 0 (BatW.batArr t (.slice A7 t.recs.length c7)).toList).heap[w.heap.size + 1]? = some (.cells (BatW.batArr t (.slice A7 t.recs.length c7)) 38 (0, 0))) := Cells.whole (vs := BatW.batArr t (.slice A7 t.recs.length c7)) X2.out rfl
  have TW : Hid ((w2.setCells (w.heap.size + 1) 0 (BatW.batArr t (.slice A7 t.recs.length c7)).toList).heap[w.heap.size]? = some (.cells (logArr l (.slice A l.segs.length c)) 32 (0, 0))) := (Cells.heap_setCells_other _ _ (by omega)).trans T2.out
  have RW : Hid ((w2.setCells (w.heap.size + 1) 0 (BatW.batArr t (.slice A7 t.recs.length c7)).toList).heap[w.heap.size + 1 + 1]? = some (.cells (logArr ⟨0, 0, 0, []⟩ (.slice none 0 0)) 32 (0, 0))) := (Cells.heap_setCells_other _ _ (by omega)).trans R2.out
  have BW : Hid (Below w.heap.size w (w2.setCells (w.heap.size + 1) 0 (BatW.batArr t (.slice A7 t.recs.length c7)).toList)) := Cells.below_setCells (by omega) _ _ _ _ B2.out
  have OWW : Hid (OwnR (w2.setCells (w.heap.size + 1) 0 (BatW.batArr t (.slice A7 t.recs.length c7)).toList) (seg w1.heap.size w2.heap.size) (.slice A7 t.recs.length c7) t.recs) := LOwn.keep keepsR OW2.out (by rw [Cells.size_setCells]; exact Nat.le_refl _) (fun x hx => Cells.heap_setCells_other _ _ (by have := hx.1; omega))
  have sW : (w2.setCells (w.heap.size + 1) 0 (BatW.batArr t (.slice A7 t.recs.length c7)).toList).heap.size = w2.heap.size := Cells.size_setCells _ _
  unfold batVal
  go_upto_region 4 with (first | (refine wpList_store_mid rfl 38 _ _ rfl (w.heap.size + 1) 0 (BatW.batArr t (.slice A7 t.recs.length c7)) rfl rfl H5.out BatW.info40 (BatW.batArr_one _ _ rfl) ?_))
  clear T2 X2 R2 OW2 H5 T1 X1 R1
  generalize (w2.setCells (w.heap.size + 1) 0 (BatW.batArr t (.slice A7 t.recs.length c7)).toList) = ws at *
  obtain ⟨c0, c1, c2, c3⟩ := four TW.out
  have x0 : ws.cell? ⟨w.heap.size + 1, 0, none⟩ = some (.int .i64 t.base) := cell_of_row _ (w.heap.size + 1) 0 _ _ (0, 0) XW.out
  have f0 := frozen_of_row ws (w.heap.size + 1) 0 _ _ XW.out
  have X3 : Hid ((ws.setCell ⟨w.heap.size + 1, 0, none⟩ (.int .i64 l.next)).heap[w.heap.size + 1]? = some (.cells #[.int .i64 l.next, .int .i64 t.epoch, .int .i64 t.producer, .int .i64 t.turn, .int .i64 t.seq, .int .i64 t.flags, .slice A7 t.recs.length c7] 38 (0, 0))) := heap_setCell_same ws (w.heap.size + 1) 0 _ _ _ XW.out
  have T3 : Hid ((ws.setCell ⟨w.heap.size + 1, 0, none⟩ (.int .i64 l.next)).heap[w.heap.size]? = some (.cells (logArr l (.slice A l.segs.length c)) 32 (0, 0))) := (heap_setCell_other _ _ _ _ (by show w.heap.size ≠ w.heap.size + 1; omega)).trans TW.out
  have R3 : Hid ((ws.setCell ⟨w.heap.size + 1, 0, none⟩ (.int .i64 l.next)).heap[w.heap.size + 1 + 1]? = some (.cells (logArr ⟨0, 0, 0, []⟩ (.slice none 0 0)) 32 (0, 0))) := (heap_setCell_other _ _ _ _ (by show w.heap.size + 1 + 1 ≠ w.heap.size + 1; omega)).trans RW.out
  have B3 : Hid (Below w.heap.size w (ws.setCell ⟨w.heap.size + 1, 0, none⟩ (.int .i64 l.next))) := BW.out.setCell (p := ⟨w.heap.size + 1, 0, none⟩) (by show w.heap.size ≤ w.heap.size + 1; omega) _
  have OW3 : Hid (OwnR (ws.setCell ⟨w.heap.size + 1, 0, none⟩ (.int .i64 l.next)) (seg w1.heap.size w2.heap.size) (.slice A7 t.recs.length c7) t.recs) := LOwn.keep keepsR OWW.out (by simp) (fun x hx => heap_setCell_other _ _ _ _ (by show x ≠ w.heap.size + 1; have := hx.1; omega))
  have s3 : (ws.setCell ⟨w.heap.size + 1, 0, none⟩ (.int .i64 l.next)).heap.size = w2.heap.size := by rw [World.size_setCell, sW]
  have SEV : Hid (∀ wx : World, wx.heap[w.heap.size + 1]? = some (.cells #[.int .i64 l.next, .int .i64 t.epoch, .int .i64 t.producer, .int .i64 t.turn, .int .i64 t.seq, .int .i64 t.flags, .slice A7 t.recs.length c7] 38 (0, 0)) → wx.cell? ⟨w.heap.size + 1, 0, none⟩ = some (.int .i64 l.next) ∧ wx.cell? ⟨w.heap.size + 1, 1, none⟩ = some (.int .i64 t.epoch) ∧ wx.cell? ⟨w.heap.size + 1, 2, none⟩ = some (.int .i64 t.producer) ∧ wx.cell? ⟨w.heap.size + 1, 3, none⟩ = some (.int .i64 t.turn) ∧ wx.cell? ⟨w.heap.size + 1, 4, none⟩ = some (.int .i64 t.seq) ∧ wx.cell? ⟨w.heap.size + 1, 5, none⟩ = some (.int .i64 t.flags) ∧ wx.cell? ⟨w.heap.size + 1, 6, none⟩ = some (.slice A7 t.recs.length c7)) := fun wx h => ⟨cell_of_row wx _ 0 _ _ (0, 0) h, cell_of_row wx _ 1 _ _ (0, 0) h, cell_of_row wx _ 2 _ _ (0, 0) h, cell_of_row wx _ 3 _ _ (0, 0) h, cell_of_row wx _ 4 _ _ (0, 0) h, cell_of_row wx _ 5 _ _ (0, 0) h, cell_of_row wx _ 6 _ _ (0, 0) h⟩
  go_upto_region 5 with fail
  clear c0 c1 c2 c3 x0 f0 XW TW RW BW OWW sW
  generalize ws.setCell ⟨w.heap.size + 1, 0, none⟩ (.int .i64 l.next) = w3 at *
  have s3' := Seg.hid s3
  have s3b : w2.heap.size ≤ w3.heap.size := by omega
  have s3c : w3.heap.size ≤ w2.heap.size := by omega
  clear s3
  obtain ⟨y0, y1, y2, y3, y4, y5, y6⟩ := SEV.out _ X3.out
  have hw31 : w.heap.size + 1 < w3.heap.size := by omega
  go_wp2_with fail
  clear y0 y1 y2 y3 y4 y5 y6
  have U3 : Hid (∀ wx, Below w3.heap.size w3 wx → BatAt wx 0 w3.heap.size (.agg #[.int .i64 l.next, .int .i64 t.epoch, .int .i64 t.producer, .int .i64 t.turn, .int .i64 t.seq, .int .i64 t.flags, .slice A7 t.recs.length c7]) u) := fun wx bx => by
    rw [← UARR.out]
    exact ⟨_, rfl, by rw [HU6.out]; exact (recs_of OW3.out (fun x hx => ⟨Nat.zero_le _, by have := hx.2; omega⟩)).keep fun g _ hg => bx.block g hg⟩
  have LC : Hid (∀ wx, Below w3.heap.size w3 wx → LogAt wx lo b (.agg #[.int .i64 l.start, .int .i64 l.next, .int .i64 l.roll, .slice A l.segs.length c]) l) := fun wx bx => HV.out.below ((chain B3.out bx).mono hb)
  have CEL : Hid (∀ wx, Below w3.heap.size w3 wx → (wx.cell? ⟨w.heap.size, 0, none⟩ = some (.int .i64 l.start) ∧ wx.cell? ⟨w.heap.size, 1, none⟩ = some (.int .i64 l.next) ∧ wx.cell? ⟨w.heap.size, 2, none⟩ = some (.int .i64 l.roll) ∧ wx.cell? ⟨w.heap.size, 3, none⟩ = some (.slice A l.segs.length c)) ∧ wx.cell? ⟨w.heap.size + 1, 0, none⟩ = some (.int .i64 l.next) ∧ wx.cell? ⟨w.heap.size + 1, 1, none⟩ = some (.int .i64 t.epoch) ∧ wx.cell? ⟨w.heap.size + 1, 2, none⟩ = some (.int .i64 t.producer) ∧ wx.cell? ⟨w.heap.size + 1, 3, none⟩ = some (.int .i64 t.turn) ∧ wx.cell? ⟨w.heap.size + 1, 4, none⟩ = some (.int .i64 t.seq) ∧ wx.cell? ⟨w.heap.size + 1, 5, none⟩ = some (.int .i64 t.flags) ∧ wx.cell? ⟨w.heap.size + 1, 6, none⟩ = some (.slice A7 t.recs.length c7)) := fun wx bx => ⟨four ((bx.block w.heap.size (by omega)).trans T3.out), SEV.out wx ((bx.block (w.heap.size + 1) (by omega)).trans X3.out)⟩
  have RES : Hid (∀ (wx : World) (L : Lg) (v : Value), Below w3.heap.size w3 wx → wx.there (w.heap.size + 1 + 1) 0 (logArr L v).size ∧ (wx.setCells (w.heap.size + 1 + 1) 0 (logArr L v).toList).heap[w.heap.size + 1 + 1]? = some (.cells (logArr L v) 32 (0, 0)) ∧ Below w.heap.size w (wx.setCells (w.heap.size + 1 + 1) 0 (logArr L v).toList)) := fun wx L v bx => by
    have R := (bx.block (w.heap.size + 1 + 1) (by omega)).trans R3.out
    exact ⟨(show wx.there (w.heap.size + 1 + 1) 0 4 from Cells.there_of R), Cells.whole (vs := logArr L v) R rfl, Cells.below_setCells (by omega) _ _ _ _ (chain B3.out bx)⟩
  have CPY : Hid (∀ wx, Below w3.heap.size w3 wx → Calls Tryz.prog 21 #[.agg #[.int .i64 l.start, .int .i64 l.next, .int .i64 l.roll, .slice A l.segs.length c]] wx fun e w' => ∃ A9 c9, e = .returned (.agg #[.int .i64 l.start, .int .i64 l.next, .int .i64 l.roll, .slice A9 l.segs.length c9]) ∧ LGrow 55 2 EG w' (wx.heap.size + 3) (.slice A9 l.segs.length c9) l.segs ∧ Below wx.heap.size wx w' ∧ wx.heap.size + 3 ≤ w'.heap.size) := fun wx bx => (l3Copy_grow _ l wx lo b (LC.out wx bx) (by have := bx.size; omega) HF.out).mono fun e w' ⟨sv, x1, x2, x3, x4⟩ => by
    obtain ⟨A9, c9, rfl⟩ := LGrow.form x2
    exact ⟨A9, c9, x1, x2, x3, x4⟩
  have FIN : Hid (∀ (wx w' : World) (cd : Int) (A9 : Option Addr) (c9 : Nat), Below w3.heap.size w3 wx → put l t = (l, cd) → LGrow 55 2 EG w' (wx.heap.size + 3) (.slice A9 l.segs.length c9) l.segs → Below wx.heap.size wx w' → ∃ sv, Ending.returned (.tuple #[.agg #[.int .i64 l.start, .int .i64 l.next, .int .i64 l.roll, .slice A9 l.segs.length c9], .int .i64 cd]) = Ending.returned (.tuple #[.agg #[.int .i64 (appended l t).1.start, .int .i64 (appended l t).1.next, .int .i64 (appended l t).1.roll, sv], .int .i64 (appended l t).2]) ∧ SegsAt (w'.setCells (w.heap.size + 1 + 1) 0 (logArr l (.slice A9 l.segs.length c9)).toList) w.heap.size (w'.setCells (w.heap.size + 1 + 1) 0 (logArr l (.slice A9 l.segs.length c9)).toList).heap.size sv (appended l t).1.segs ∧ Below w.heap.size w (w'.setCells (w.heap.size + 1 + 1) 0 (logArr l (.slice A9 l.segs.length c9)).toList)) := fun wx w' cd A9 c9 bx hp hG bw => by
    have hz := bx.size
    refine ⟨.slice A9 l.segs.length c9, by rw [HC0.out, hp], ?_, (RES.out w' l (.slice A9 l.segs.length c9) (chain bx bw)).2.2⟩
    rw [HC0.out, hp]
    show SegsAt _ _ _ _ l.segs
    obtain ⟨F9, P9, hG9⟩ := hG
    refine segs_of (LOwn.keep keepsS (LGr.ownL (LGr.weak (fun _ _ _ _ h => EG.es h) hG9) (by omega)) (by rw [Cells.size_setCells]; exact Nat.le_refl _) (fun x hx => Cells.heap_setCells_other _ _ ?_)) (fun x hx => ?_)
    · rcases hx with hx | ⟨i, hi, hx⟩
      · have := (World.ownsRow.lt hG9.own x hx).1; omega
      · have := (hG9.apart i hi x hx).1; omega
    · rw [Cells.size_setCells]
      rcases hx with hx | ⟨i, hi, hx⟩
      · have := World.ownsRow.lt hG9.own x hx; exact ⟨by omega, this.2⟩
      · have := hG9.apart i hi x hx; exact ⟨by omega, this.2.1⟩
  have b33 := Below.refl w3.heap.size w3
  refine (BOk.spec_any _ u w3 0 w3.heap.size (U3.out w3 b33) (Nat.le_refl _)).mono ?_
  rintro e w4 ⟨rfl, b4⟩
  have B4 := Seg.hid b4
  clear b4
  have hb3 : w.heap.size + 1 + 1 < w3.heap.size := by omega
  cases hbo : BOk.batOk u with
  | false =>
    have HC : Hid (put l t = (l, 2)) := by
      show _ = _
      have : code l u = 2 := by unfold code; rw [if_pos (.inl hbo)]
      rw [PUT.out, if_neg (by rw [this]; decide), this]
    clear hbo
    obtain ⟨⟨c0, c1, c2, c3⟩, y0, y1, y2, y3, y4, y5, y6⟩ := CEL.out w4 B4.out
    have hwx : w.heap.size < w4.heap.size := by have := B4.out.size; omega
    go_wp2_with fail
    refine (CPY.out w4 B4.out).mono ?_
    rintro e wy ⟨A9, c9, rfl, hG, by9, sy9⟩
    have FN := Seg.hid (FIN.out w4 wy 2 A9 c9 B4.out HC.out hG by9)
    have RR := Seg.hid (RES.out wy l (.slice A9 l.segs.length c9) (chain B4.out by9))
    clear hG by9 c0 c1 c2 c3 y0 y1 y2 y3 y4 y5 y6
    go_wp2_with (first | (refine wpList_store_mid rfl 32 _ _ rfl (w.heap.size + 1 + 1) 0 (logArr l (.slice A9 l.segs.length c9)) rfl rfl RR.out.1 infoN (logArr_one _ _ rfl) ?_))
    exact bodyPost_ret (v := .tuple #[.agg #[.int .i64 l.start, .int .i64 l.next, .int .i64 l.roll, .slice A9 l.segs.length c9], .int .i64 2]) (results_row_tmp rfl _ _ (w.heap.size + 1 + 1) _ (logArr l (.slice A9 l.segs.length c9)) _ _ _ rfl rfl RR.out.2.1 Tryz.underlying32 rfl infoN) rfl FN.out
  | true =>
  have HBO := Seg.hid hbo
  have okl := LgP.okLen hbo
  rw [HU0.out, HU6.out] at okl
  have LST : Hid (BOk.last u = l.next + (t.recs.length : Int) - 1) := by show _ = _; unfold BOk.last; rw [if_pos hbo, HU0.out, HU6.out]
  clear hbo
  obtain ⟨⟨c0, c1, c2, c3⟩, y0, y1, y2, y3, y4, y5, y6⟩ := CEL.out w4 B4.out
  have hw4 : w.heap.size + 1 < w4.heap.size := by have := B4.out.size; omega
  go_wp2_with fail
  refine (BOk.specLast_any _ u w4 0 w3.heap.size (U3.out w4 B4.out) B4.out.size).mono ?_
  rintro e w5 ⟨rfl, b5⟩
  rw [LST.out]
  have B5 := Seg.hid (chain B4.out b5)
  clear b5 c0 c1 c2 c3 y0 y1 y2 y3 y4 y5 y6
  have wq1 : IntKind.i64.wrap (l.next + (t.recs.length : Int) - 1 + 1) = l.next + (t.recs.length : Int) := by rw [IntKind.wrap_i64]; omega
  by_cases hmo : 1000000000 < l.next + (t.recs.length : Int)
  · have HC : Hid (put l t = (l, 2)) := by
      show _ = _
      have : code l u = 2 := by unfold code; rw [if_pos (.inr (by rw [HU0.out, HU6.out]; exact hmo))]
      rw [PUT.out, if_neg (by rw [this]; decide), this]
    have g1 : decide (1000000000 < l.next + (t.recs.length : Int)) = true := decide_eq_true hmo
    obtain ⟨⟨c0, c1, c2, c3⟩, y0, y1, y2, y3, y4, y5, y6⟩ := CEL.out w5 B5.out
    have hwx : w.heap.size < w5.heap.size := by have := B5.out.size; omega
    go_wp2_with fail
    refine (CPY.out w5 B5.out).mono ?_
    rintro e wy ⟨A9, c9, rfl, hG, by9, sy9⟩
    have FN := Seg.hid (FIN.out w5 wy 2 A9 c9 B5.out HC.out hG by9)
    have RR := Seg.hid (RES.out wy l (.slice A9 l.segs.length c9) (chain B5.out by9))
    clear hG by9 c0 c1 c2 c3 y0 y1 y2 y3 y4 y5 y6
    go_wp2_with (first | (refine wpList_store_mid rfl 32 _ _ rfl (w.heap.size + 1 + 1) 0 (logArr l (.slice A9 l.segs.length c9)) rfl rfl RR.out.1 infoN (logArr_one _ _ rfl) ?_))
    exact bodyPost_ret (v := .tuple #[.agg #[.int .i64 l.start, .int .i64 l.next, .int .i64 l.roll, .slice A9 l.segs.length c9], .int .i64 2]) (results_row_tmp rfl _ _ (w.heap.size + 1 + 1) _ (logArr l (.slice A9 l.segs.length c9)) _ _ _ rfl rfl RR.out.2.1 Tryz.underlying32 rfl infoN) rfl FN.out
  have g1 : decide (1000000000 < l.next + (t.recs.length : Int)) = false := decide_eq_false hmo
  have CD : Hid (code l u = if t.epoch < lastE 0 (flatB l.segs) then 3 else if (flatB l.segs).length = 400 ∨ fits l u = false ∧ l.segs.length = 60 then 4 else 0) := by
    show _ = _
    unfold code
    rw [if_neg (by rw [HBO.out, HU0.out, HU6.out]; intro h; rcases h with h | h; cases h; exact hmo h), HU1.out]
  obtain ⟨⟨c0, c1, c2, c3⟩, y0, y1, y2, y3, y4, y5, y6⟩ := CEL.out w5 B5.out
  have hw5 : w.heap.size + 1 < w5.heap.size := by have := B5.out.size; omega
  have hw50 : w.heap.size < w5.heap.size := by omega
  go_wp2_with fail
  refine (l3All_any _ l w5 lo b (LC.out w5 B5.out) (by have := B5.out.size; omega) (by omega) (by omega)).mono ?_
  rintro e w6 ⟨va, rfl, hbs, b6⟩
  have B6 := Seg.hid (chain B5.out b6)
  have s6 := B6.out.size
  clear b6 c0 c1 c2 c3 y0 y1 y2 y3 y4 y5 y6
  obtain ⟨H, ⟨_, Aa, ca, rfl, hrow⟩, hh⟩ := hbs
  have LEG := lastE_get (flatB l.segs) 0
  have E0 : 0 ≤ t.epoch := by have := epoch0 HBO.out; rw [HU1.out] at this; exact this
  obtain ⟨bd1, bd2, bd3⟩ := last_flat' l.segs SO.out FC
  have MNF := many_flat l.segs
  have FL := flat_last l.segs
  have NZ : l.segs.length = 0 → (flatB l.segs).length = 0 := fun h => by rw [List.length_eq_zero_iff.1 h]; rfl
  obtain ⟨fl, hfl⟩ : ∃ fl, flatB l.segs = fl := ⟨_, rfl⟩
  rw [hfl] at LEG hrow hh CD FC NZ FL ⊢
  have HFL := Seg.hid hfl
  obtain ⟨le, hle⟩ : ∃ le, lastE 0 fl = le := ⟨_, rfl⟩
  rw [hle] at LEG CD
  have HLE := Seg.hid hle
  obtain ⟨fb, hfb⟩ : ∃ fb, fits l u = fb := ⟨_, rfl⟩
  rw [hfb] at CD
  have HFB := Seg.hid hfb
  have PT3 : Hid (t.epoch < le → put l t = (l, 3)) := fun h => by
    have : code l u = 3 := by rw [CD.out, if_pos h]
    rw [PUT.out, if_neg (by rw [this]; decide), this]
  have PT4 : Hid (¬ t.epoch < le → (fl.length = 400 ∨ fb = false ∧ l.segs.length = 60) → put l t = (l, 4)) := fun h0 h => by
    have : code l u = 4 := by rw [CD.out, if_neg h0, if_pos h]
    rw [PUT.out, if_neg (by rw [this]; decide), this]
  have PT0 : Hid (¬ t.epoch < le → ¬ (fl.length = 400 ∨ fb = false ∧ l.segs.length = 60) → put l t = (⟨l.start, l.next + (t.recs.length : Int), l.roll, grow l u⟩, 0)) := fun h0 h => by
    have : code l u = 0 := by rw [CD.out, if_neg h0, if_neg h]
    rw [PUT.out, if_pos this]
  have LEGH := Seg.hid LEG; have NZH := Seg.hid NZ
  clear hfl hle hfb hh MNF LEG NZ
  have HROW := Seg.hid hrow
  clear hrow
  have hfc : (fl.length : Int) ≤ 400 := by omega
  by_cases hm0 : fl.length = 0
  · have hle0 : le = 0 := by
      have := List.length_eq_zero_iff.1 hm0
      rw [← HLE.out, this]
      rfl
    have hne : ¬ t.epoch < le := by omega
    have g2 : decide (0 < fl.length) = false := decide_eq_false (by omega)
    have HM0 := Seg.hid hm0
    clear hm0 hle0
    obtain ⟨⟨c0, c1, c2, c3⟩, y0, y1, y2, y3, y4, y5, y6⟩ := CEL.out w6 B6.out
    go_wp2_with fail
    go_quiet (fail)
    obtain ⟨w7, hw7⟩ : ∃ w7, w6.drewN nq = w7 := ⟨_, rfl⟩
    have B7 : Hid (Below w3.heap.size w3 w7) := by rw [← hw7]; exact ⟨B6.out.os, B6.out.tape, B6.out.output, B6.out.size, B6.out.block⟩
    rw [hw7]
    clear hw7
    clear c0 c1 c2 c3 y0 y1 y2 y3 y4 y5 y6
    obtain ⟨⟨c0, c1, c2, c3⟩, y0, y1, y2, y3, y4, y5, y6⟩ := CEL.out w7 B7.out
    have hw71 : w.heap.size + 1 < w7.heap.size := by have := B7.out.size; omega
    have hw70 : w.heap.size < w7.heap.size := by omega
    by_cases hn0 : l.segs.length = 0
    · have hfbf : fb = false := by rw [← HFB.out]; simp [fits, hn0]
      have HC := Seg.hid (PT0.out (by omega) (fun h => by have := HM0.out; rcases h with h | ⟨_, h⟩ <;> omega))
      have g3 : ((l.segs.length : Int) == 0) = true := by rw [hn0]; rfl
      have g4 : (l.segs.length : Int) = 0 := by omega
      have g5a : ¬ 60 ≤ l.segs.length := by omega
      have g5 : decide (60 ≤ l.segs.length) = false := decide_eq_false g5a
      have g5b : ¬ (60 : Int) ≤ (l.segs.length : Int) := by omega
      have g5c : decide ((60 : Int) ≤ (l.segs.length : Int)) = false := decide_eq_false g5b
      have g6a : ¬ 400 ≤ fl.length := by have := HM0.out; omega
      have g6 : decide (400 ≤ fl.length) = false := decide_eq_false g6a
      have g6b : ¬ (400 : Int) ≤ (fl.length : Int) := by omega
      have g6c : decide ((400 : Int) ≤ (fl.length : Int)) = false := decide_eq_false g6b
      have hGR : Hid (grow l u = l.segs ++ [(⟨u.base, [u]⟩ : Sg)]) := by show _ = _; unfold grow; rw [HFB.out, hfbf]; rfl
      have HN0 := Seg.hid hn0
      have n60 : l.segs.length ≤ 60 := k3
      clear hn0 hfbf
      go_wp2_with fail
      go_quiet (fail)
      obtain ⟨w8, hw8⟩ : ∃ w8, w7.drewN nq = w8 := ⟨_, rfl⟩
      have B8 : Hid (Below w3.heap.size w3 w8) := by rw [← hw8]; exact ⟨B7.out.os, B7.out.tape, B7.out.output, B7.out.size, B7.out.block⟩
      rw [hw8]
      clear hw8 c0 c1 c2 c3 y0 y1 y2 y3 y4 y5 y6
      obtain ⟨⟨c0, c1, c2, c3⟩, y0, y1, y2, y3, y4, y5, y6⟩ := CEL.out w8 B8.out
      have hwx : w.heap.size < w8.heap.size := by have := B8.out.size; omega
      go_wp2_with fail
      refine (CPY.out w8 B8.out).mono ?_
      rintro e wy ⟨A9, c9, rfl, hG, by9, sy9⟩
      have szW := B8.out.size
      clear g3 g4 g5 g6 g5a g5b g5c g6a g6b g6c
      obtain ⟨F9, P9, hG9⟩ := hG
      have BY := Seg.hid (chain B8.out by9)
      have ba : Hid (Below wy.heap.size wy (wy.alloc (.cells #[.int .i64 l.start, .int .i64 l.next, .int .i64 l.roll, .slice A9 l.segs.length c9] 32 (0, 0)))) := below1 wy _
      have PV0 : Hid (PV (wy.alloc (.cells #[.int .i64 l.start, .int .i64 l.next, .int .i64 l.roll, .slice A9 l.segs.length c9] 32 (0, 0))) (wy.alloc (.cells #[.int .i64 l.start, .int .i64 l.next, .int .i64 l.roll, .slice A9 l.segs.length c9] 32 (0, 0))) wy.heap.size w1.heap.size l (.slice A9 l.segs.length c9) l.segs F9 P9) := ⟨heap_alloc_new _ _, (hG9.base (base' := w1.heap.size) (by omega)).keepV keepsG ba.out.size (fun g hg => ba.out.block g (World.ownsRow.lt hG9.own g hg).2) (fun i hi x hx => ba.out.block x (hG9.apart i hi x hx).2.1), by omega, fun e => by have := (World.ownsRow.lt hG9.own _ e).2; omega, fun i hi hx => by have := (hG9.apart i hi _ hx).2.1; omega, Below.refl _ _⟩
      have OWo : Hid (OwnR (wy.alloc (.cells #[.int .i64 l.start, .int .i64 l.next, .int .i64 l.roll, .slice A9 l.segs.length c9] 32 (0, 0))) (seg w1.heap.size w2.heap.size) (.slice A7 t.recs.length c7) t.recs) := LOwn.keep keepsR OW3.out (by have := BY.out.size; have := ba.out.size; omega) (fun x hx => (ba.out.block x (by have := hx.2; have := BY.out.size; omega)).trans (BY.out.block x (by have := hx.2; omega)))
      have PLOW : Hid (∀ i, i < l.segs.length → ∀ x, P9 i x → w2.heap.size ≤ x) := fun i hi x hx => by have := (hG9.apart i hi x hx).1; omega
      have ROWL : Hid (∀ x, (Value.slice A9 l.segs.length c9).ownBlock = some x → w2.heap.size ≤ x ∧ x < wy.heap.size) := fun x hx => by have := World.ownsRow.lt hG9.own x hx; exact ⟨by omega, this.2⟩
      have Xo : Hid ((wy.alloc (.cells #[.int .i64 l.start, .int .i64 l.next, .int .i64 l.roll, .slice A9 l.segs.length c9] 32 (0, 0))).heap[w.heap.size + 1]? = some (.cells #[.int .i64 l.next, .int .i64 t.epoch, .int .i64 t.producer, .int .i64 t.turn, .int .i64 t.seq, .int .i64 t.flags, .slice A7 t.recs.length c7] 38 (0, 0))) := (ba.out.block _ (by have := BY.out.size; omega)).trans ((BY.out.block _ (by omega)).trans X3.out)
      have Ro : Hid ((wy.alloc (.cells #[.int .i64 l.start, .int .i64 l.next, .int .i64 l.roll, .slice A9 l.segs.length c9] 32 (0, 0))).heap[w.heap.size + 1 + 1]? = some (.cells (logArr ⟨0, 0, 0, []⟩ (.slice none 0 0)) 32 (0, 0))) := (ba.out.block _ (by have := BY.out.size; omega)).trans ((BY.out.block _ (by omega)).trans R3.out)
      have Bo : Hid (Below w.heap.size w (wy.alloc (.cells #[.int .i64 l.start, .int .i64 l.next, .int .i64 l.roll, .slice A9 l.segs.length c9] 32 (0, 0)))) := chain (chain B3.out BY.out) ba.out
      have OBlo : w2.heap.size ≤ wy.heap.size := by have := BY.out.size; omega
      have wol : wy.heap.size < (wy.alloc (.cells #[.int .i64 l.start, .int .i64 l.next, .int .i64 l.roll, .slice A9 l.segs.length c9] 32 (0, 0))).heap.size := by rw [hsz]; omega
      clear hG9 by9 c0 c1 c2 c3 y0 y1 y2 y3 y4 y5 y6
      go_upto_region 16 with fail
      generalize wy.alloc (.cells #[.int .i64 l.start, .int .i64 l.next, .int .i64 l.roll, .slice A9 l.segs.length c9] 32 (0, 0)) = wo at *
      obtain ⟨y0, y1, y2, y3, y4, y5, y6⟩ := SEV.out wo Xo.out
      have o3 : wo.cell? ⟨wy.heap.size, 3, none⟩ = some (.slice A9 l.segs.length c9) := (four PV0.out.out).2.2.2
      have hwo1 : w.heap.size + 1 < wo.heap.size := by omega
      have PSH : Hid (∀ g9 cap9 w9 o9, w9.ownsRow w1.heap.size 55 2 (.slice (some ⟨g9, 0, none⟩) (l.segs.length + 1) cap9) (l.segs.length + 1) ((List.range (l.segs.length * 2)).map F9 ++ (segArr ⟨l.next, []⟩ (.slice none 0 0)).toList) → (wo.alloc o9).grownBy w9 (Value.slice A9 l.segs.length c9).ownBlock → ((Value.slice A9 l.segs.length c9).ownBlock = some g9 ∨ g9 = wo.heap.size + 1) → ((∃ F' P', PV wo (w9.setCell ⟨wy.heap.size, 3, none⟩ (.slice (some ⟨g9, 0, none⟩) (l.segs.length + 1) cap9)) wy.heap.size w1.heap.size l (.slice (some ⟨g9, 0, none⟩) (l.segs.length + 1) cap9) (l.segs ++ [⟨l.next, []⟩]) F' P' ∧ ∀ i, i < l.segs.length + 1 → ∀ x, P' i x → w2.heap.size ≤ x) ∧ w2.heap.size ≤ g9 ∧ OwnR (w9.setCell ⟨wy.heap.size, 3, none⟩ (.slice (some ⟨g9, 0, none⟩) (l.segs.length + 1) cap9)) (seg w1.heap.size w2.heap.size) (.slice A7 t.recs.length c7) t.recs) ∧ w9.cell? ⟨wy.heap.size, 3, none⟩ = some (.slice A9 l.segs.length c9) ∧ w9.frozen? ⟨wy.heap.size, 3, none⟩ = false) := fun g9 cap9 w9 o9 x1 x2 x3 => by
        obtain ⟨z1, z2, z3⟩ := PV.push PV0.out (t := ⟨l.next, []⟩) rfl x1 x2 x3
        have gs := x2.size
        rw [hsz] at gs
        refine ⟨⟨?_, ?_, LOwn.keep keepsR OWo.out (by simp; omega) (fun x hx => ?_)⟩, z2, z3⟩
        · obtain ⟨F', P', z4, z5⟩ := z1
          exact ⟨F', P', z4, fun i hi x hx => by obtain ⟨i', hi', hx'⟩ := z5 i hi _ hx; exact PLOW.out i' hi' x hx'⟩
        · rcases x3 with x3 | x3
          · exact (ROWL.out _ x3).1
          · omega
        · have hx2 := hx.2
          rw [heap_setCell_other _ _ _ _ (by show x ≠ wy.heap.size; omega), x2.block x (by rw [hsz]; omega) (fun e => by have := (ROWL.out x e.symm).1; omega), (below1 _ _).block _ (by omega)]
      have OWN5 : Hid (∀ o9, (wo.alloc o9).ownsRow w1.heap.size 55 2 (.slice A9 l.segs.length c9) l.segs.length ((List.range (l.segs.length * 2)).map F9)) := fun o9 => World.ownsRow.alloc PV0.out.grow.own _
      have bw5 : w1.heap.size ≤ wo.heap.size + 1 := by omega
      go_upto_region 17 with (at_builtin; (refine wpList_append_lies _ rfl _ _ 30 rfl w1.heap.size 55 i0 _ 2 32 Tryz.underlying30 hi hz0 hz1 hz2 rfl (by decide) (.slice A9 l.segs.length c9) l.segs.length ((List.range (l.segs.length * 2)).map F9) rfl (OWN5.out _) ⟨wo.heap.size, 0, none⟩ 1 1 (segArr ⟨l.next, []⟩ (.slice none 0 0)).toList rfl rfl (World.news_of_block (cs := segArr ⟨l.next, []⟩ (.slice none 0 0)) (heap_alloc_new wo _)) (by simp [segArr, Value.oneCell']) (by decide) (by unfold maxLen; omega) (by omega) (by rw [hsz]; exact bw5) (wo.heap.size + 1) (hsz wo _) ?_; intro g9 cap9 w9 hown9 gr9 hat9 hlt9; have D9 := Seg.hid (PSH.out _ _ _ _ hown9 gr9 hat9); have q6 := D9.out.2.1; have p6 := D9.out.2.2; clear hown9 gr9 hat9 hlt9))
      clear q6 p6 y0 y1 y2 y3 y4 y5 y6 o3
      obtain ⟨wq, hwq⟩ : ∃ wq, w9.setCell ⟨wy.heap.size, 3, none⟩ (.slice (some ⟨g9, 0, none⟩) (l.segs.length + 1) cap9) = wq := ⟨_, rfl⟩
      have D10 := Seg.hid D9.out.1
      rw [hwq] at D10 ⊢
      clear hwq D9
      obtain ⟨F8, P8, hP8, hN8⟩ := D10.out.1
      have GLOW : Hid (w2.heap.size ≤ g9) := D10.out.2.1
      have OQ := Seg.hid D10.out.2.2
      obtain ⟨us, hus⟩ : ∃ us, l.segs ++ [(⟨l.next, []⟩ : Sg)] = us := ⟨_, rfl⟩
      have hul : us.length = l.segs.length + 1 := by rw [← hus]; simp
      have PQ : Hid (PV wo wq wy.heap.size w1.heap.size l (.slice (some ⟨g9, 0, none⟩) us.length cap9) us F8 P8) := by show PV _ _ _ _ _ _ _ _ _; rw [hul, ← hus]; exact hP8
      have QLOW : Hid (∀ i, i < us.length → ∀ x, P8 i x → w2.heap.size ≤ x) := by rw [hul]; exact hN8
      obtain ⟨bl, hbl⟩ : ∃ bl : List Bat, bl = [] := ⟨_, rfl⟩
      have hb4 : bl.length ≤ 400 := by rw [hbl]; simp
      have BLQ : Hid ((us.getD (us.length - 1) default).bats = bl) := by show _ = _; rw [hbl, hul, ← hus]; simp
      have GQ : Hid (grow l u = us.set (us.length - 1) ⟨(us.getD (us.length - 1) default).base, bl ++ [u]⟩) := by
        show _ = _
        rw [hbl, hGR.out, hul, ← hus, Nat.add_sub_cancel, HU0.out, ← put_last' (segs := l.segs) (b := l.next) (u := u)]
        simp
      obtain ⟨cq, hcq⟩ : ∃ cq, cq = cap9 := ⟨_, rfl⟩
      obtain ⟨g, hgg⟩ : ∃ g, g = g9 := ⟨_, rfl⟩
      subst hcq hgg
      have ul6 : us.length ≤ 61 := by omega
      have un : us.length ≠ 0 := by omega
      clear hP8 D10 hN8 hbl hus hul hGR PSH OWN5 PV0 OWo PLOW ROWL
      have OBq := PQ.out.hi
      have Xq := Seg.hid ((PQ.out.bel.block (w.heap.size + 1) (by omega)).trans Xo.out)
      have oq3 : wq.cell? ⟨wy.heap.size, 3, none⟩ = some (.slice (some ⟨g, 0, none⟩) us.length cq) := (four PQ.out.out).2.2.2
      have zw : IntKind.i64.wrap ((us.length : Int) - 1) = (us.length : Int) - 1 := by rw [IntKind.wrap_i64]; omega
      have u0 : (0 : Int) ≤ (us.length : Int) - 1 := by omega
      have u1 : (1 : Int) ≤ (us.length : Int) := by omega
      have u2 : us.length - 1 < us.length := by omega
      have u3 : 1 ≤ us.length := by omega
      have u4 : 0 < us.length := by omega
      have u5 : (us.length : Int) - 1 < (us.length : Int) := by omega
      have PTd := Seg.hid (PQ.out.later (w8 := wq.drew) ((Below.refl _ _).drew))
      have EJ := PTd.out.grow.el (us.length - 1) u2
      obtain ⟨A3, c3', hF3⟩ := EJ.2.form
      obtain ⟨_, F1, P1, hL1, o1', p1'⟩ := EJ.2
      replace hF3 : F8 ((us.length - 1) * 2 + 1) = .slice A3 (us.getD (us.length - 1) default).bats.length c3' := hF3
      replace hL1 : LGr 38 7 EB wq.drew 0 (F8 ((us.length - 1) * 2 + 1)) (us.getD (us.length - 1) default).bats F1 P1 := hL1
      replace o1' : ∀ x, (F8 ((us.length - 1) * 2 + 1)).ownBlock = some x → P8 (us.length - 1) x := o1'
      replace p1' : ∀ i, i < (us.getD (us.length - 1) default).bats.length → ∀ x, P1 i x → P8 (us.length - 1) x := p1'
      rw [BLQ.out] at hF3 hL1 p1'
      rw [hF3] at hL1 o1'
      have ctg : ∀ wx : World, wx.ownsRow w1.heap.size 55 2 (.slice (some ⟨g, 0, none⟩) us.length cq) us.length ((List.range (us.length * 2)).map F8) → wx.cell? ⟨g, (us.length - 1) * 2 + 1, none⟩ = some (.slice A3 bl.length c3') := fun wx hx => by
        rw [World.ownsRow.cellAt hx ((us.length - 1) * 2 + 1) (by omega), List.getElem?_map, List.getElem?_range (by omega), ← hF3]
        rfl
      have t3 := ctg wq PQ.out.grow.own
      have HL1 := Seg.hid hL1
      have glg : g < wq.heap.size := (World.ownsRow.lt PQ.out.grow.own g rfl).2
      have wql : w.heap.size + 1 < wq.heap.size := (Array.getElem?_eq_some_iff.1 Xq.out).1
      obtain ⟨y0, y1, y2, y3, y4, y5, y6⟩ := SEV.out wq Xq.out
      have AFT : Hid (∀ g9 cap9 w9 o9, w9.ownsRow 0 38 7 (.slice (some ⟨g9, 0, none⟩) (bl.length + 1) cap9) (bl.length + 1) ((List.range (bl.length * 7)).map F1 ++ (#[.int .i64 l.next, .int .i64 t.epoch, .int .i64 t.producer, .int .i64 t.turn, .int .i64 t.seq, .int .i64 t.flags, .slice A7 t.recs.length c7] : Array Value).toList) → (wq.drew.alloc o9).grownBy w9 (Value.slice A3 bl.length c3').ownBlock → ((Value.slice A3 bl.length c3').ownBlock = some g9 ∨ g9 = wq.drew.heap.size + 1) → ((∃ F' P', PV wo (w9.setCell ⟨g, (us.length - 1) * 2 + 1, none⟩ (.slice (some ⟨g9, 0, none⟩) (bl.length + 1) cap9)) wy.heap.size w1.heap.size l (.slice (some ⟨g, 0, none⟩) us.length cq) (us.set (us.length - 1) ⟨(us.getD (us.length - 1) default).base, bl ++ [u]⟩) F' P') ∧ OwnR (w9.setCell ⟨g, (us.length - 1) * 2 + 1, none⟩ (.slice (some ⟨g9, 0, none⟩) (bl.length + 1) cap9)) (seg w1.heap.size w2.heap.size) (.slice A7 t.recs.length c7) t.recs) ∧ w9.cell? ⟨g, (us.length - 1) * 2 + 1, none⟩ = some (.slice A3 bl.length c3') ∧ w9.frozen? ⟨g, (us.length - 1) * 2 + 1, none⟩ = false) := fun g9 cap9 w9 o9 x1 x2 x3 => by
        have OQd : OwnR wq.drew (seg w1.heap.size w2.heap.size) (.slice A7 t.recs.length c7) u.recs := by rw [HU6.out]; exact LOwn.keep keepsR OQ.out (Nat.le_refl _) (fun _ _ => rfl)
        have gs := x2.size
        rw [hsz] at gs
        replace gs : wq.heap.size + 1 ≤ w9.heap.size := gs
        have wqs := PQ.out.bel.size
        obtain ⟨z1, z2, z3⟩ := PV.appO (t := u) (rv := (.slice A7 t.recs.length c7)) PTd.out u2 HL1.out o1' p1' OQd (fun x hx => by
          obtain ⟨hx1, hx2⟩ := hx
          refine ⟨hx1, ?_, ?_, ?_, fun i hi hp => ?_⟩
          · show x < wq.heap.size; omega
          · have := GLOW.out; omega
          · omega
          · have := QLOW.out i hi x hp; omega) (by omega) (by rw [UARR.out]; exact x1) x2 x3
        refine ⟨⟨z1, LOwn.keep keepsR OQ.out (by simp; omega) (fun x hx => ?_)⟩, ctg w9 z2, World.ownsRow.frozenAt z2 _⟩
        have hx2 := hx.2
        have hgl := GLOW.out
        rw [heap_setCell_other _ _ _ _ (by show x ≠ g; omega), x2.block x (by rw [hsz]; show _ < wq.heap.size + 1; omega) (fun e => by have := QLOW.out _ u2 x (o1' x e.symm); omega), (below1 _ _).block _ (by show _ < wq.heap.size; omega)]
        rfl
      have OWN6 : Hid (∀ o9, (wq.drew.alloc o9).ownsRow 0 38 7 (.slice A3 bl.length c3') bl.length ((List.range (bl.length * 7)).map F1)) := fun o9 => World.ownsRow.alloc HL1.out.own _
      have hl63 : Hid (bl.length + 1 ≤ maxLen) := by show _ ≤ _; unfold maxLen; omega
      have hby : Hid ((bl.length + 1) * 72 ≤ 140737488355328) := by show _ ≤ _; omega
      clear hL1 hF3 o1' p1' EJ PTd PQ ctg HL1 OQ GLOW QLOW
      go_wp2_with fail
      go_region_law
        ((first | (refine step_append_lies _ (by rfl) _ _ _ (by rfl) 0 38 i1 _ 7 72 Tryz.underlying52 hi1 hy0 hy1 hy2 rfl (by decide) (.slice A3 bl.length c3') bl.length ((List.range (bl.length * 7)).map F1) (by rfl) (OWN6.out _) ⟨wq.heap.size, 0, none⟩ 1 1 (#[.int .i64 l.next, .int .i64 t.epoch, .int .i64 t.producer, .int .i64 t.turn, .int .i64 t.seq, .int .i64 t.flags, .slice A7 t.recs.length c7] : Array Value).toList (by rfl) (by rfl) (World.news_of_block (cs := #[.int .i64 l.next, .int .i64 t.epoch, .int .i64 t.producer, .int .i64 t.turn, .int .i64 t.seq, .int .i64 t.flags, .slice A7 t.recs.length c7]) (heap_alloc_new wq.drew _)) (by simp [Value.oneCell']) (by decide) hl63.out hby.out (Nat.zero_le _) (wq.heap.size + 1) (hsz wq.drew _) ?_; intro g9 cap9 w9 hown9 gr9 hat9 hlt9; have D9 := Seg.hid (AFT.out _ _ _ _ hown9 gr9 hat9); have q6 := D9.out.2.1; have p6 := D9.out.2.2; clear hown9 gr9 hat9 hlt9)))
      all_goals
        clear q6 p6 t3 y0 y1 y2 y3 y4 y5 y6 AFT OWN6 oq3
        obtain ⟨wn, hwn⟩ : ∃ wn, w9.setCell ⟨g, (us.length - 1) * 2 + 1, none⟩ (.slice (some ⟨g9, 0, none⟩) (bl.length + 1) cap9) = wn := ⟨_, rfl⟩
        have D10 := Seg.hid D9.out.1
        rw [hwn] at D10 ⊢
        clear hwn D9
        obtain ⟨F10, P10, hP10⟩ := D10.out.1
        have PN := Seg.hid hP10
        have ON := Seg.hid D10.out.2
        clear hP10 D10
        have Xn := Seg.hid ((PN.out.bel.block (w.heap.size + 1) (by omega)).trans Xo.out)
        obtain ⟨y0, y1, y2, y3, y4, y5, y6⟩ := SEV.out wn Xn.out
        have wnl : w.heap.size + 1 < wn.heap.size := (Array.getElem?_eq_some_iff.1 Xn.out).1
        have snn := PN.out.bel.size
        have BN : BatAt wn 0 wn.heap.size (.agg #[.int .i64 l.next, .int .i64 t.epoch, .int .i64 t.producer, .int .i64 t.turn, .int .i64 t.seq, .int .i64 t.flags, .slice A7 t.recs.length c7]) u := by
          rw [← UARR.out]
          exact ⟨_, rfl, by rw [HU6.out]; exact recs_of ON.out (fun x hx => ⟨Nat.zero_le _, by have := hx.2; omega⟩)⟩
        go_wp2_with fail
        refine (BOk.specLast_any _ u wn 0 wn.heap.size BN (Nat.le_refl _)).mono ?_
        rintro e wm ⟨rfl, bm⟩
        rw [LST.out]
        have PM := Seg.hid (PN.out.later bm)
        clear bm BN y0 y1 y2 y3 y4 y5 y6 PN
        obtain ⟨o0, o1, o2, o3⟩ := four PM.out.out
        have f1 := frozen_of_row wm wy.heap.size 1 _ _ PM.out.out
        have OBm := PM.out.hi
        go_upto_region 20 with fail
        have PL := Seg.hid (PM.out.next (l.next + (t.recs.length : Int)) (us.set (us.length - 1) ⟨(us.getD (us.length - 1) default).base, bl ++ [u]⟩))
        clear o0 o1 o2 o3 f1 PM
        generalize wm.setCell ⟨wy.heap.size, 1, none⟩ (.int .i64 (l.next + (t.recs.length : Int))) = wl at *
        have OL := Seg.hid PL.out.out
        have RL := Seg.hid ((PL.out.bel.block (w.heap.size + 1 + 1) (by omega)).trans Ro.out)
        have BL9 : Hid (Below w.heap.size w wl) := Bo.out.trans (PL.out.bel.mono (by omega))
        have H5 := Seg.hid (Cells.there_of RL.out)
        have H4 := Seg.hid (Cells.whole (vs := logArr ⟨l.start, l.next + (t.recs.length : Int), l.roll, []⟩ (.slice (some ⟨g, 0, none⟩) us.length cq)) RL.out rfl)
        have B9 := Seg.hid (Cells.below_setCells (g := w.heap.size + 1 + 1) (by omega) (logArr ⟨l.start, l.next + (t.recs.length : Int), l.roll, []⟩ (.slice (some ⟨g, 0, none⟩) us.length cq)).toList 0 _ _ BL9.out)
        have SGF : Hid (SegsAt (wl.setCells (w.heap.size + 1 + 1) 0 (logArr ⟨l.start, l.next + (t.recs.length : Int), l.roll, []⟩ (.slice (some ⟨g, 0, none⟩) us.length cq)).toList) w.heap.size (wl.setCells (w.heap.size + 1 + 1) 0 (logArr ⟨l.start, l.next + (t.recs.length : Int), l.roll, []⟩ (.slice (some ⟨g, 0, none⟩) us.length cq)).toList).heap.size (.slice (some ⟨g, 0, none⟩) us.length cq) (grow l u)) := by
          rw [GQ.out]
          refine ((PL.out.segs (by rw [List.length_set]; omega)).keep fun x h1 h2 => Cells.heap_setCells_other _ _ (by omega)).mono (by omega) (by rw [Cells.size_setCells]; exact Nat.le_refl _)
        clear PL
        go_wp2_with (first | (refine wpList_load_row rfl 32 _ rfl wy.heap.size rfl _ _ _ _ OL.out Tryz.underlying32 rfl infoN ?_) | (refine wpList_store_mid rfl 32 _ _ rfl (w.heap.size + 1 + 1) 0 (logArr ⟨l.start, l.next + (t.recs.length : Int), l.roll, []⟩ (.slice (some ⟨g, 0, none⟩) us.length cq)) rfl rfl H5.out infoN (logArr_one _ _ rfl) ?_))
        exact bodyPost_ret (v := .tuple #[logVal ⟨l.start, l.next + (t.recs.length : Int), l.roll, []⟩ (.slice (some ⟨g, 0, none⟩) us.length cq), .int .i64 0]) (results_row_tmp rfl _ _ (w.heap.size + 1 + 1) _ (logArr ⟨l.start, l.next + (t.recs.length : Int), l.roll, []⟩ (.slice (some ⟨g, 0, none⟩) us.length cq)) _ _ _ rfl rfl H4.out Tryz.underlying32 rfl infoN) rfl ⟨.slice (some ⟨g, 0, none⟩) us.length cq, by rw [HC0.out, HC.out]; rfl, by rw [HC0.out, HC.out]; exact SGF.out, B9.out⟩
    obtain ⟨Hs, ⟨_, As, cs, hsl, hrows⟩, hhs⟩ := id HS.out
    simp only [Value.slice.injEq] at hsl
    obtain ⟨rfl, _, rfl⟩ := hsl
    obtain ⟨gs, os, rfl, hgs, hcs, hcells, _⟩ := hrows.resolve_left hn0
    obtain ⟨_, es1⟩ := Segs.six hcells (l.segs.length - 1) (by omega)
    have BTs : BatsAt w lo b (Hs (l.segs.length - 1)) (lastS l.segs).bats := hhs (l.segs.length - 1) (by omega)
    obtain ⟨_, ⟨_, A3s, c3s, hH3, _⟩, _⟩ := id BTs
    replace hH3 : Hs (l.segs.length - 1) = .slice A3s (lastS l.segs).bats.length c3s := hH3
    rw [hH3] at es1 BTs
    clear hcells hhs hrows hH3
    have LCE : Hid (∀ wx, Below w3.heap.size w3 wx → wx.cell? ⟨gs, os + (l.segs.length - 1) * 2 + 1, none⟩ = some (.slice A3s (lastS l.segs).bats.length c3s)) := fun wx bx => ((chain B3.out bx).cell (p := ⟨gs, os + (l.segs.length - 1) * 2 + 1, none⟩) (by show gs < _; omega)).trans es1
    have BTH := Seg.hid BTs
    have gs7 : gs < w7.heap.size := by have := B7.out.size; omega
    have zws : IntKind.i64.wrap ((l.segs.length : Int) - 1) = (l.segs.length : Int) - 1 := by rw [IntKind.wrap_i64]; omega
    have us0 : (0 : Int) ≤ (l.segs.length : Int) - 1 := by omega
    have us1 : (1 : Int) ≤ (l.segs.length : Int) := by omega
    have us2 : l.segs.length - 1 < l.segs.length := by omega
    have us3 : 1 ≤ l.segs.length := by omega
    have us4 : 0 < l.segs.length := by omega
    have us5 : (l.segs.length : Int) - 1 < (l.segs.length : Int) := by omega
    have g4 : ¬ (l.segs.length : Int) = 0 := by omega
    have g3 : ((l.segs.length : Int) == 0) = false := beq_false_of_ne g4
    have FTS : Hid (fb = (decide ((lastS l.segs).bats.length = 0) || decide ((sizes (lastS l.segs).bats : Int) + (size u : Int) ≤ l.roll))) := by show _ = _; rw [← HFB.out]; unfold fits; rw [decide_eq_true hn0, Bool.true_and]
    clear es1 BTs
    have hl0 : (lastS l.segs).bats.length = 0 := by have := FL.2; have := HM0.out; omega
    have hfbt : fb = true := by rw [FTS.out, decide_eq_true hl0, Bool.true_or]
    have HFT2 : Hid (fits l u = true) := by show _ = _; rw [HFB.out, hfbt]
    have es2 := LCE.out w7 B7.out
    have g7 : decide (0 < (lastS l.segs).bats.length) = false := decide_eq_false (by omega)
    obtain ⟨bls, hbls⟩ : ∃ bls, (lastS l.segs).bats.length = bls := ⟨_, rfl⟩
    rw [hbls] at es2 g7
    clear hl0 hbls
    go_wp2_with fail
    go_quiet (fail)
    obtain ⟨w8, hw8⟩ : ∃ w8, w7.drewN nq = w8 := ⟨_, rfl⟩
    have B8 : Hid (Below w3.heap.size w3 w8) := by rw [← hw8]; exact ⟨B7.out.os, B7.out.tape, B7.out.output, B7.out.size, B7.out.block⟩
    rw [hw8]
    clear hw8 c0 c1 c2 c3 y0 y1 y2 y3 y4 y5 y6
    clear es2
    have HC := Seg.hid (PT0.out (by omega) (fun h => h.elim (fun h => by have := HM0.out; omega) (fun h => Bool.noConfusion (hfbt.symm.trans h.1))))
    have g6a : ¬ 400 ≤ fl.length := by have := HM0.out; omega
    have g6 : decide (400 ≤ fl.length) = false := decide_eq_false g6a
    have g6b : ¬ (400 : Int) ≤ (fl.length : Int) := by omega
    have g6c : decide ((400 : Int) ≤ (fl.length : Int)) = false := decide_eq_false g6b
    have g5 : True := trivial
    have g5a : True := trivial
    have g5b : True := trivial
    have g5c : True := trivial
    obtain ⟨⟨c0, c1, c2, c3⟩, y0, y1, y2, y3, y4, y5, y6⟩ := CEL.out w8 B8.out
    have hwx : w.heap.size < w8.heap.size := by have := B8.out.size; omega
    go_wp2_with fail
    refine (CPY.out w8 B8.out).mono ?_
    rintro e wy ⟨A9, c9, rfl, hG, by9, sy9⟩
    have szW := B8.out.size
    clear g3 g4 g5 g6 g5a g5b g5c g6a g6b g6c
    obtain ⟨F9, P9, hG9⟩ := hG
    have BY := Seg.hid (chain B8.out by9)
    have ba : Hid (Below wy.heap.size wy (wy.alloc (.cells #[.int .i64 l.start, .int .i64 l.next, .int .i64 l.roll, .slice A9 l.segs.length c9] 32 (0, 0)))) := below1 wy _
    have PV0 : Hid (PV (wy.alloc (.cells #[.int .i64 l.start, .int .i64 l.next, .int .i64 l.roll, .slice A9 l.segs.length c9] 32 (0, 0))) (wy.alloc (.cells #[.int .i64 l.start, .int .i64 l.next, .int .i64 l.roll, .slice A9 l.segs.length c9] 32 (0, 0))) wy.heap.size w1.heap.size l (.slice A9 l.segs.length c9) l.segs F9 P9) := ⟨heap_alloc_new _ _, (hG9.base (base' := w1.heap.size) (by omega)).keepV keepsG ba.out.size (fun g hg => ba.out.block g (World.ownsRow.lt hG9.own g hg).2) (fun i hi x hx => ba.out.block x (hG9.apart i hi x hx).2.1), by omega, fun e => by have := (World.ownsRow.lt hG9.own _ e).2; omega, fun i hi hx => by have := (hG9.apart i hi _ hx).2.1; omega, Below.refl _ _⟩
    have OWo : Hid (OwnR (wy.alloc (.cells #[.int .i64 l.start, .int .i64 l.next, .int .i64 l.roll, .slice A9 l.segs.length c9] 32 (0, 0))) (seg w1.heap.size w2.heap.size) (.slice A7 t.recs.length c7) t.recs) := LOwn.keep keepsR OW3.out (by have := BY.out.size; have := ba.out.size; omega) (fun x hx => (ba.out.block x (by have := hx.2; have := BY.out.size; omega)).trans (BY.out.block x (by have := hx.2; omega)))
    have PLOW : Hid (∀ i, i < l.segs.length → ∀ x, P9 i x → w2.heap.size ≤ x) := fun i hi x hx => by have := (hG9.apart i hi x hx).1; omega
    have ROWL : Hid (∀ x, (Value.slice A9 l.segs.length c9).ownBlock = some x → w2.heap.size ≤ x ∧ x < wy.heap.size) := fun x hx => by have := World.ownsRow.lt hG9.own x hx; exact ⟨by omega, this.2⟩
    have Xo : Hid ((wy.alloc (.cells #[.int .i64 l.start, .int .i64 l.next, .int .i64 l.roll, .slice A9 l.segs.length c9] 32 (0, 0))).heap[w.heap.size + 1]? = some (.cells #[.int .i64 l.next, .int .i64 t.epoch, .int .i64 t.producer, .int .i64 t.turn, .int .i64 t.seq, .int .i64 t.flags, .slice A7 t.recs.length c7] 38 (0, 0))) := (ba.out.block _ (by have := BY.out.size; omega)).trans ((BY.out.block _ (by omega)).trans X3.out)
    have Ro : Hid ((wy.alloc (.cells #[.int .i64 l.start, .int .i64 l.next, .int .i64 l.roll, .slice A9 l.segs.length c9] 32 (0, 0))).heap[w.heap.size + 1 + 1]? = some (.cells (logArr ⟨0, 0, 0, []⟩ (.slice none 0 0)) 32 (0, 0))) := (ba.out.block _ (by have := BY.out.size; omega)).trans ((BY.out.block _ (by omega)).trans R3.out)
    have Bo : Hid (Below w.heap.size w (wy.alloc (.cells #[.int .i64 l.start, .int .i64 l.next, .int .i64 l.roll, .slice A9 l.segs.length c9] 32 (0, 0)))) := chain (chain B3.out BY.out) ba.out
    have OBlo : w2.heap.size ≤ wy.heap.size := by have := BY.out.size; omega
    have wol : wy.heap.size < (wy.alloc (.cells #[.int .i64 l.start, .int .i64 l.next, .int .i64 l.roll, .slice A9 l.segs.length c9] 32 (0, 0))).heap.size := by rw [hsz]; omega
    clear hG9 by9 c0 c1 c2 c3 y0 y1 y2 y3 y4 y5 y6
    go_upto_region 17 with fail
    try clear g7
    try clear g8
    generalize wy.alloc (.cells #[.int .i64 l.start, .int .i64 l.next, .int .i64 l.roll, .slice A9 l.segs.length c9] 32 (0, 0)) = wo at *
    obtain ⟨g, e9⟩ : ∃ g, A9 = some ⟨g, 0, none⟩ := by
      rcases PV0.out.grow.own.2 with ⟨x1, x2⟩ | ⟨g, cap, cur, x1, _⟩
      · omega
      · simp only [Value.slice.injEq] at x1
        exact ⟨g, x1.1⟩
    subst e9
    have GLOW : Hid (w2.heap.size ≤ g) := (ROWL.out g rfl).1
    have GQ : Hid (grow l u = l.segs.set (l.segs.length - 1) ⟨(l.segs.getD (l.segs.length - 1) default).base, (l.segs.getD (l.segs.length - 1) default).bats ++ [u]⟩) := by show _ = _; unfold grow; rw [HFT2.out, if_pos rfl]; rfl
    have hb4 : (l.segs.getD (l.segs.length - 1) default).bats.length ≤ 400 := bd2
    obtain ⟨bl, hbl⟩ : ∃ bl : List Bat, (l.segs.getD (l.segs.length - 1) default).bats = bl := ⟨_, rfl⟩
    have BLQ := Seg.hid hbl
    rw [hbl] at GQ hb4
    clear hbl
    have ul6 : l.segs.length ≤ 61 := by omega
    obtain ⟨wq, hwq⟩ : ∃ wq, wq = wo := ⟨_, rfl⟩
    obtain ⟨F8, hF8⟩ : ∃ F8, F8 = F9 := ⟨_, rfl⟩
    obtain ⟨P8, hP8⟩ : ∃ P8, P8 = P9 := ⟨_, rfl⟩
    obtain ⟨cq, hcq⟩ : ∃ cq, cq = c9 := ⟨_, rfl⟩
    obtain ⟨us, hus⟩ : ∃ us, us = l.segs := ⟨_, rfl⟩
    have un : l.segs.length ≠ 0 := hn0
    have PQ : Hid (PV wo wq wy.heap.size w1.heap.size l (.slice (some ⟨g, 0, none⟩) us.length cq) us F8 P8) := by show PV _ _ _ _ _ _ _ _ _; rw [hwq, hF8, hP8, hcq, hus]; exact PV0.out
    have QLOW : Hid (∀ i, i < us.length → ∀ x, P8 i x → w2.heap.size ≤ x) := by rw [hus, hP8]; exact PLOW.out
    have OQ : Hid (OwnR wq (seg w1.heap.size w2.heap.size) (.slice A7 t.recs.length c7) t.recs) := by show OwnR _ _ _ _; rw [hwq]; exact OWo.out
    rw [← hus] at BLQ GQ ul6 un
    rw [← hwq]
    clear hus hwq hF8 hP8 hcq PV0 OWo PLOW ROWL
    have OBq := PQ.out.hi
    have Xq := Seg.hid ((PQ.out.bel.block (w.heap.size + 1) (by omega)).trans Xo.out)
    have oq3 : wq.cell? ⟨wy.heap.size, 3, none⟩ = some (.slice (some ⟨g, 0, none⟩) us.length cq) := (four PQ.out.out).2.2.2
    have zw : IntKind.i64.wrap ((us.length : Int) - 1) = (us.length : Int) - 1 := by rw [IntKind.wrap_i64]; omega
    have u0 : (0 : Int) ≤ (us.length : Int) - 1 := by omega
    have u1 : (1 : Int) ≤ (us.length : Int) := by omega
    have u2 : us.length - 1 < us.length := by omega
    have u3 : 1 ≤ us.length := by omega
    have u4 : 0 < us.length := by omega
    have u5 : (us.length : Int) - 1 < (us.length : Int) := by omega
    have PTd := Seg.hid (PQ.out.later (w8 := wq.drew) ((Below.refl _ _).drew))
    have EJ := PTd.out.grow.el (us.length - 1) u2
    obtain ⟨A3, c3', hF3⟩ := EJ.2.form
    obtain ⟨_, F1, P1, hL1, o1', p1'⟩ := EJ.2
    replace hF3 : F8 ((us.length - 1) * 2 + 1) = .slice A3 (us.getD (us.length - 1) default).bats.length c3' := hF3
    replace hL1 : LGr 38 7 EB wq.drew 0 (F8 ((us.length - 1) * 2 + 1)) (us.getD (us.length - 1) default).bats F1 P1 := hL1
    replace o1' : ∀ x, (F8 ((us.length - 1) * 2 + 1)).ownBlock = some x → P8 (us.length - 1) x := o1'
    replace p1' : ∀ i, i < (us.getD (us.length - 1) default).bats.length → ∀ x, P1 i x → P8 (us.length - 1) x := p1'
    rw [BLQ.out] at hF3 hL1 p1'
    rw [hF3] at hL1 o1'
    have ctg : ∀ wx : World, wx.ownsRow w1.heap.size 55 2 (.slice (some ⟨g, 0, none⟩) us.length cq) us.length ((List.range (us.length * 2)).map F8) → wx.cell? ⟨g, (us.length - 1) * 2 + 1, none⟩ = some (.slice A3 bl.length c3') := fun wx hx => by
      rw [World.ownsRow.cellAt hx ((us.length - 1) * 2 + 1) (by omega), List.getElem?_map, List.getElem?_range (by omega), ← hF3]
      rfl
    have t3 := ctg wq PQ.out.grow.own
    have HL1 := Seg.hid hL1
    have glg : g < wq.heap.size := (World.ownsRow.lt PQ.out.grow.own g rfl).2
    have wql : w.heap.size + 1 < wq.heap.size := (Array.getElem?_eq_some_iff.1 Xq.out).1
    obtain ⟨y0, y1, y2, y3, y4, y5, y6⟩ := SEV.out wq Xq.out
    have AFT : Hid (∀ g9 cap9 w9 o9, w9.ownsRow 0 38 7 (.slice (some ⟨g9, 0, none⟩) (bl.length + 1) cap9) (bl.length + 1) ((List.range (bl.length * 7)).map F1 ++ (#[.int .i64 l.next, .int .i64 t.epoch, .int .i64 t.producer, .int .i64 t.turn, .int .i64 t.seq, .int .i64 t.flags, .slice A7 t.recs.length c7] : Array Value).toList) → (wq.drew.alloc o9).grownBy w9 (Value.slice A3 bl.length c3').ownBlock → ((Value.slice A3 bl.length c3').ownBlock = some g9 ∨ g9 = wq.drew.heap.size + 1) → ((∃ F' P', PV wo (w9.setCell ⟨g, (us.length - 1) * 2 + 1, none⟩ (.slice (some ⟨g9, 0, none⟩) (bl.length + 1) cap9)) wy.heap.size w1.heap.size l (.slice (some ⟨g, 0, none⟩) us.length cq) (us.set (us.length - 1) ⟨(us.getD (us.length - 1) default).base, bl ++ [u]⟩) F' P') ∧ OwnR (w9.setCell ⟨g, (us.length - 1) * 2 + 1, none⟩ (.slice (some ⟨g9, 0, none⟩) (bl.length + 1) cap9)) (seg w1.heap.size w2.heap.size) (.slice A7 t.recs.length c7) t.recs) ∧ w9.cell? ⟨g, (us.length - 1) * 2 + 1, none⟩ = some (.slice A3 bl.length c3') ∧ w9.frozen? ⟨g, (us.length - 1) * 2 + 1, none⟩ = false) := fun g9 cap9 w9 o9 x1 x2 x3 => by
      have OQd : OwnR wq.drew (seg w1.heap.size w2.heap.size) (.slice A7 t.recs.length c7) u.recs := by rw [HU6.out]; exact LOwn.keep keepsR OQ.out (Nat.le_refl _) (fun _ _ => rfl)
      have gs := x2.size
      rw [hsz] at gs
      replace gs : wq.heap.size + 1 ≤ w9.heap.size := gs
      have wqs := PQ.out.bel.size
      obtain ⟨z1, z2, z3⟩ := PV.appO (t := u) (rv := (.slice A7 t.recs.length c7)) PTd.out u2 HL1.out o1' p1' OQd (fun x hx => by
        obtain ⟨hx1, hx2⟩ := hx
        refine ⟨hx1, ?_, ?_, ?_, fun i hi hp => ?_⟩
        · show x < wq.heap.size; omega
        · have := GLOW.out; omega
        · omega
        · have := QLOW.out i hi x hp; omega) (by omega) (by rw [UARR.out]; exact x1) x2 x3
      refine ⟨⟨z1, LOwn.keep keepsR OQ.out (by simp; omega) (fun x hx => ?_)⟩, ctg w9 z2, World.ownsRow.frozenAt z2 _⟩
      have hx2 := hx.2
      have hgl := GLOW.out
      rw [heap_setCell_other _ _ _ _ (by show x ≠ g; omega), x2.block x (by rw [hsz]; show _ < wq.heap.size + 1; omega) (fun e => by have := QLOW.out _ u2 x (o1' x e.symm); omega), (below1 _ _).block _ (by show _ < wq.heap.size; omega)]
      rfl
    have OWN6 : Hid (∀ o9, (wq.drew.alloc o9).ownsRow 0 38 7 (.slice A3 bl.length c3') bl.length ((List.range (bl.length * 7)).map F1)) := fun o9 => World.ownsRow.alloc HL1.out.own _
    have hl63 : Hid (bl.length + 1 ≤ maxLen) := by show _ ≤ _; unfold maxLen; omega
    have hby : Hid ((bl.length + 1) * 72 ≤ 140737488355328) := by show _ ≤ _; omega
    clear hL1 hF3 o1' p1' EJ PTd PQ ctg HL1 OQ GLOW QLOW
    go_wp2_with fail
    go_region_law
      ((first | (refine step_append_lies _ (by rfl) _ _ _ (by rfl) 0 38 i1 _ 7 72 Tryz.underlying52 hi1 hy0 hy1 hy2 rfl (by decide) (.slice A3 bl.length c3') bl.length ((List.range (bl.length * 7)).map F1) (by rfl) (OWN6.out _) ⟨wq.heap.size, 0, none⟩ 1 1 (#[.int .i64 l.next, .int .i64 t.epoch, .int .i64 t.producer, .int .i64 t.turn, .int .i64 t.seq, .int .i64 t.flags, .slice A7 t.recs.length c7] : Array Value).toList (by rfl) (by rfl) (World.news_of_block (cs := #[.int .i64 l.next, .int .i64 t.epoch, .int .i64 t.producer, .int .i64 t.turn, .int .i64 t.seq, .int .i64 t.flags, .slice A7 t.recs.length c7]) (heap_alloc_new wq.drew _)) (by simp [Value.oneCell']) (by decide) hl63.out hby.out (Nat.zero_le _) (wq.heap.size + 1) (hsz wq.drew _) ?_; intro g9 cap9 w9 hown9 gr9 hat9 hlt9; have D9 := Seg.hid (AFT.out _ _ _ _ hown9 gr9 hat9); have q6 := D9.out.2.1; have p6 := D9.out.2.2; clear hown9 gr9 hat9 hlt9)))
    all_goals
      clear q6 p6 t3 y0 y1 y2 y3 y4 y5 y6 AFT OWN6 oq3
      obtain ⟨wn, hwn⟩ : ∃ wn, w9.setCell ⟨g, (us.length - 1) * 2 + 1, none⟩ (.slice (some ⟨g9, 0, none⟩) (bl.length + 1) cap9) = wn := ⟨_, rfl⟩
      have D10 := Seg.hid D9.out.1
      rw [hwn] at D10 ⊢
      clear hwn D9
      obtain ⟨F10, P10, hP10⟩ := D10.out.1
      have PN := Seg.hid hP10
      have ON := Seg.hid D10.out.2
      clear hP10 D10
      have Xn := Seg.hid ((PN.out.bel.block (w.heap.size + 1) (by omega)).trans Xo.out)
      obtain ⟨y0, y1, y2, y3, y4, y5, y6⟩ := SEV.out wn Xn.out
      have wnl : w.heap.size + 1 < wn.heap.size := (Array.getElem?_eq_some_iff.1 Xn.out).1
      have snn := PN.out.bel.size
      have BN : BatAt wn 0 wn.heap.size (.agg #[.int .i64 l.next, .int .i64 t.epoch, .int .i64 t.producer, .int .i64 t.turn, .int .i64 t.seq, .int .i64 t.flags, .slice A7 t.recs.length c7]) u := by
        rw [← UARR.out]
        exact ⟨_, rfl, by rw [HU6.out]; exact recs_of ON.out (fun x hx => ⟨Nat.zero_le _, by have := hx.2; omega⟩)⟩
      go_wp2_with fail
      refine (BOk.specLast_any _ u wn 0 wn.heap.size BN (Nat.le_refl _)).mono ?_
      rintro e wm ⟨rfl, bm⟩
      rw [LST.out]
      have PM := Seg.hid (PN.out.later bm)
      clear bm BN y0 y1 y2 y3 y4 y5 y6 PN
      obtain ⟨o0, o1, o2, o3⟩ := four PM.out.out
      have f1 := frozen_of_row wm wy.heap.size 1 _ _ PM.out.out
      have OBm := PM.out.hi
      go_upto_region 20 with fail
      have PL := Seg.hid (PM.out.next (l.next + (t.recs.length : Int)) (us.set (us.length - 1) ⟨(us.getD (us.length - 1) default).base, bl ++ [u]⟩))
      clear o0 o1 o2 o3 f1 PM
      generalize wm.setCell ⟨wy.heap.size, 1, none⟩ (.int .i64 (l.next + (t.recs.length : Int))) = wl at *
      have OL := Seg.hid PL.out.out
      have RL := Seg.hid ((PL.out.bel.block (w.heap.size + 1 + 1) (by omega)).trans Ro.out)
      have BL9 : Hid (Below w.heap.size w wl) := Bo.out.trans (PL.out.bel.mono (by omega))
      have H5 := Seg.hid (Cells.there_of RL.out)
      have H4 := Seg.hid (Cells.whole (vs := logArr ⟨l.start, l.next + (t.recs.length : Int), l.roll, []⟩ (.slice (some ⟨g, 0, none⟩) us.length cq)) RL.out rfl)
      have B9 := Seg.hid (Cells.below_setCells (g := w.heap.size + 1 + 1) (by omega) (logArr ⟨l.start, l.next + (t.recs.length : Int), l.roll, []⟩ (.slice (some ⟨g, 0, none⟩) us.length cq)).toList 0 _ _ BL9.out)
      have SGF : Hid (SegsAt (wl.setCells (w.heap.size + 1 + 1) 0 (logArr ⟨l.start, l.next + (t.recs.length : Int), l.roll, []⟩ (.slice (some ⟨g, 0, none⟩) us.length cq)).toList) w.heap.size (wl.setCells (w.heap.size + 1 + 1) 0 (logArr ⟨l.start, l.next + (t.recs.length : Int), l.roll, []⟩ (.slice (some ⟨g, 0, none⟩) us.length cq)).toList).heap.size (.slice (some ⟨g, 0, none⟩) us.length cq) (grow l u)) := by
        rw [GQ.out]
        refine ((PL.out.segs (by rw [List.length_set]; omega)).keep fun x h1 h2 => Cells.heap_setCells_other _ _ (by omega)).mono (by omega) (by rw [Cells.size_setCells]; exact Nat.le_refl _)
      clear PL
      go_wp2_with (first | (refine wpList_load_row rfl 32 _ rfl wy.heap.size rfl _ _ _ _ OL.out Tryz.underlying32 rfl infoN ?_) | (refine wpList_store_mid rfl 32 _ _ rfl (w.heap.size + 1 + 1) 0 (logArr ⟨l.start, l.next + (t.recs.length : Int), l.roll, []⟩ (.slice (some ⟨g, 0, none⟩) us.length cq)) rfl rfl H5.out infoN (logArr_one _ _ rfl) ?_))
      exact bodyPost_ret (v := .tuple #[logVal ⟨l.start, l.next + (t.recs.length : Int), l.roll, []⟩ (.slice (some ⟨g, 0, none⟩) us.length cq), .int .i64 0]) (results_row_tmp rfl _ _ (w.heap.size + 1 + 1) _ (logArr ⟨l.start, l.next + (t.recs.length : Int), l.roll, []⟩ (.slice (some ⟨g, 0, none⟩) us.length cq)) _ _ _ rfl rfl H4.out Tryz.underlying32 rfl infoN) rfl ⟨.slice (some ⟨g, 0, none⟩) us.length cq, by rw [HC0.out, HC.out]; rfl, by rw [HC0.out, HC.out]; exact SGF.out, B9.out⟩
  · have hmp : 0 < fl.length := by omega
    obtain ⟨ga, oa, rfl, hga, hca, hcella, _⟩ := HROW.out.resolve_left hm0
    obtain ⟨_, ea1, _⟩ := Bats.six hcella (fl.length - 1) (by omega)
    rw [← LEGH.out hm0] at ea1
    have gal : ga < w6.heap.size := by omega
    have g2 : decide (0 < fl.length) = true := decide_eq_true hmp
    have zwa : IntKind.i64.wrap ((fl.length : Int) - 1) = (fl.length : Int) - 1 := by rw [IntKind.wrap_i64]; omega
    have ua0 : (0 : Int) ≤ (fl.length : Int) - 1 := by omega
    have ua1 : (1 : Int) ≤ (fl.length : Int) := by omega
    have ua2 : fl.length - 1 < fl.length := by omega
    have ua3 : 1 ≤ fl.length := by omega
    have ua5 : (fl.length : Int) - 1 < (fl.length : Int) := by omega
    obtain ⟨⟨c0, c1, c2, c3⟩, y0, y1, y2, y3, y4, y5, y6⟩ := CEL.out w6 B6.out
    have hw61 : w.heap.size + 1 < w6.heap.size := by omega
    clear hcella
    go_wp2_with fail
    go_quiet (fail)
    obtain ⟨w7, hw7⟩ : ∃ w7, w6.drewN nq = w7 := ⟨_, rfl⟩
    have B7 : Hid (Below w3.heap.size w3 w7) := by rw [← hw7]; exact ⟨B6.out.os, B6.out.tape, B6.out.output, B6.out.size, B6.out.block⟩
    rw [hw7]
    clear hw7 c0 c1 c2 c3 y0 y1 y2 y3 y4 y5 y6 ea1
    by_cases hep : t.epoch < le
    · have HC := Seg.hid (PT3.out hep)
      have g9 : decide (t.epoch < le) = true := decide_eq_true hep
      obtain ⟨⟨c0, c1, c2, c3⟩, y0, y1, y2, y3, y4, y5, y6⟩ := CEL.out w7 B7.out
      have hwx : w.heap.size < w7.heap.size := by have := B7.out.size; omega
      go_wp2_with fail
      refine (CPY.out w7 B7.out).mono ?_
      rintro e wy ⟨A9, c9, rfl, hG, by9, sy9⟩
      have FN := Seg.hid (FIN.out w7 wy 3 A9 c9 B7.out HC.out hG by9)
      have RR := Seg.hid (RES.out wy l (.slice A9 l.segs.length c9) (chain B7.out by9))
      clear hG by9 c0 c1 c2 c3 y0 y1 y2 y3 y4 y5 y6
      go_wp2_with (first | (refine wpList_store_mid rfl 32 _ _ rfl (w.heap.size + 1 + 1) 0 (logArr l (.slice A9 l.segs.length c9)) rfl rfl RR.out.1 infoN (logArr_one _ _ rfl) ?_))
      exact bodyPost_ret (v := .tuple #[.agg #[.int .i64 l.start, .int .i64 l.next, .int .i64 l.roll, .slice A9 l.segs.length c9], .int .i64 3]) (results_row_tmp rfl _ _ (w.heap.size + 1 + 1) _ (logArr l (.slice A9 l.segs.length c9)) _ _ _ rfl rfl RR.out.2.1 Tryz.underlying32 rfl infoN) rfl FN.out
    have g9 : decide (t.epoch < le) = false := decide_eq_false hep
    have hn0 : l.segs.length ≠ 0 := fun h => hm0 (NZH.out h)
    obtain ⟨⟨c0, c1, c2, c3⟩, y0, y1, y2, y3, y4, y5, y6⟩ := CEL.out w7 B7.out
    have hw71 : w.heap.size + 1 < w7.heap.size := by have := B7.out.size; omega
    have hw70 : w.heap.size < w7.heap.size := by omega
    obtain ⟨Hs, ⟨_, As, cs, hsl, hrows⟩, hhs⟩ := id HS.out
    simp only [Value.slice.injEq] at hsl
    obtain ⟨rfl, _, rfl⟩ := hsl
    obtain ⟨gs, os, rfl, hgs, hcs, hcells, _⟩ := hrows.resolve_left hn0
    obtain ⟨_, es1⟩ := Segs.six hcells (l.segs.length - 1) (by omega)
    have BTs : BatsAt w lo b (Hs (l.segs.length - 1)) (lastS l.segs).bats := hhs (l.segs.length - 1) (by omega)
    obtain ⟨_, ⟨_, A3s, c3s, hH3, _⟩, _⟩ := id BTs
    replace hH3 : Hs (l.segs.length - 1) = .slice A3s (lastS l.segs).bats.length c3s := hH3
    rw [hH3] at es1 BTs
    clear hcells hhs hrows hH3
    have LCE : Hid (∀ wx, Below w3.heap.size w3 wx → wx.cell? ⟨gs, os + (l.segs.length - 1) * 2 + 1, none⟩ = some (.slice A3s (lastS l.segs).bats.length c3s)) := fun wx bx => ((chain B3.out bx).cell (p := ⟨gs, os + (l.segs.length - 1) * 2 + 1, none⟩) (by show gs < _; omega)).trans es1
    have BTH := Seg.hid BTs
    have gs7 : gs < w7.heap.size := by have := B7.out.size; omega
    have zws : IntKind.i64.wrap ((l.segs.length : Int) - 1) = (l.segs.length : Int) - 1 := by rw [IntKind.wrap_i64]; omega
    have us0 : (0 : Int) ≤ (l.segs.length : Int) - 1 := by omega
    have us1 : (1 : Int) ≤ (l.segs.length : Int) := by omega
    have us2 : l.segs.length - 1 < l.segs.length := by omega
    have us3 : 1 ≤ l.segs.length := by omega
    have us4 : 0 < l.segs.length := by omega
    have us5 : (l.segs.length : Int) - 1 < (l.segs.length : Int) := by omega
    have g4 : ¬ (l.segs.length : Int) = 0 := by omega
    have g3 : ((l.segs.length : Int) == 0) = false := beq_false_of_ne g4
    have FTS : Hid (fb = (decide ((lastS l.segs).bats.length = 0) || decide ((sizes (lastS l.segs).bats : Int) + (size u : Int) ≤ l.roll))) := by show _ = _; rw [← HFB.out]; unfold fits; rw [decide_eq_true hn0, Bool.true_and]
    clear es1 BTs
    by_cases hl0 : (lastS l.segs).bats.length = 0
    · have hfbt : fb = true := by rw [FTS.out, decide_eq_true hl0, Bool.true_or]
      have HFT2 : Hid (fits l u = true) := by show _ = _; rw [HFB.out, hfbt]
      have es2 := LCE.out w7 B7.out
      have g7 : decide (0 < (lastS l.segs).bats.length) = false := decide_eq_false (by omega)
      obtain ⟨bls, hbls⟩ : ∃ bls, (lastS l.segs).bats.length = bls := ⟨_, rfl⟩
      rw [hbls] at es2 g7
      clear hl0 hbls
      go_wp2_with fail
      go_quiet (fail)
      obtain ⟨w8, hw8⟩ : ∃ w8, w7.drewN nq = w8 := ⟨_, rfl⟩
      have B8 : Hid (Below w3.heap.size w3 w8) := by rw [← hw8]; exact ⟨B7.out.os, B7.out.tape, B7.out.output, B7.out.size, B7.out.block⟩
      rw [hw8]
      clear hw8 c0 c1 c2 c3 y0 y1 y2 y3 y4 y5 y6
      clear es2
      by_cases hm4 : fl.length = 400
      · have HC := Seg.hid (PT4.out (by omega) (.inl hm4))
        have g6a : 400 ≤ fl.length := by omega
        have g6 : decide (400 ≤ fl.length) = true := decide_eq_true g6a
        have g6b : (400 : Int) ≤ (fl.length : Int) := by omega
        have g6c : decide ((400 : Int) ≤ (fl.length : Int)) = true := decide_eq_true g6b
        clear hm4
        obtain ⟨⟨c0, c1, c2, c3⟩, y0, y1, y2, y3, y4, y5, y6⟩ := CEL.out w8 B8.out
        have hwx : w.heap.size < w8.heap.size := by have := B8.out.size; omega
        go_wp2_with fail
        refine (CPY.out w8 B8.out).mono ?_
        rintro e wy ⟨A9, c9, rfl, hG, by9, sy9⟩
        have FN := Seg.hid (FIN.out w8 wy 4 A9 c9 B8.out HC.out hG by9)
        have RR := Seg.hid (RES.out wy l (.slice A9 l.segs.length c9) (chain B8.out by9))
        clear hG by9 c0 c1 c2 c3 y0 y1 y2 y3 y4 y5 y6
        go_wp2_with (first | (refine wpList_store_mid rfl 32 _ _ rfl (w.heap.size + 1 + 1) 0 (logArr l (.slice A9 l.segs.length c9)) rfl rfl RR.out.1 infoN (logArr_one _ _ rfl) ?_))
        exact bodyPost_ret (v := .tuple #[.agg #[.int .i64 l.start, .int .i64 l.next, .int .i64 l.roll, .slice A9 l.segs.length c9], .int .i64 4]) (results_row_tmp rfl _ _ (w.heap.size + 1 + 1) _ (logArr l (.slice A9 l.segs.length c9)) _ _ _ rfl rfl RR.out.2.1 Tryz.underlying32 rfl infoN) rfl FN.out
      have HC := Seg.hid (PT0.out (by omega) (fun h => h.elim hm4 (fun h => Bool.noConfusion (hfbt.symm.trans h.1))))
      have g6a : ¬ 400 ≤ fl.length := by omega
      have g6 : decide (400 ≤ fl.length) = false := decide_eq_false g6a
      have g6b : ¬ (400 : Int) ≤ (fl.length : Int) := by omega
      have g6c : decide ((400 : Int) ≤ (fl.length : Int)) = false := decide_eq_false g6b
      have g5 : True := trivial
      have g5a : True := trivial
      have g5b : True := trivial
      have g5c : True := trivial
      obtain ⟨⟨c0, c1, c2, c3⟩, y0, y1, y2, y3, y4, y5, y6⟩ := CEL.out w8 B8.out
      have hwx : w.heap.size < w8.heap.size := by have := B8.out.size; omega
      go_wp2_with fail
      refine (CPY.out w8 B8.out).mono ?_
      rintro e wy ⟨A9, c9, rfl, hG, by9, sy9⟩
      have szW := B8.out.size
      clear g3 g4 g5 g6 g5a g5b g5c g6a g6b g6c
      obtain ⟨F9, P9, hG9⟩ := hG
      have BY := Seg.hid (chain B8.out by9)
      have ba : Hid (Below wy.heap.size wy (wy.alloc (.cells #[.int .i64 l.start, .int .i64 l.next, .int .i64 l.roll, .slice A9 l.segs.length c9] 32 (0, 0)))) := below1 wy _
      have PV0 : Hid (PV (wy.alloc (.cells #[.int .i64 l.start, .int .i64 l.next, .int .i64 l.roll, .slice A9 l.segs.length c9] 32 (0, 0))) (wy.alloc (.cells #[.int .i64 l.start, .int .i64 l.next, .int .i64 l.roll, .slice A9 l.segs.length c9] 32 (0, 0))) wy.heap.size w1.heap.size l (.slice A9 l.segs.length c9) l.segs F9 P9) := ⟨heap_alloc_new _ _, (hG9.base (base' := w1.heap.size) (by omega)).keepV keepsG ba.out.size (fun g hg => ba.out.block g (World.ownsRow.lt hG9.own g hg).2) (fun i hi x hx => ba.out.block x (hG9.apart i hi x hx).2.1), by omega, fun e => by have := (World.ownsRow.lt hG9.own _ e).2; omega, fun i hi hx => by have := (hG9.apart i hi _ hx).2.1; omega, Below.refl _ _⟩
      have OWo : Hid (OwnR (wy.alloc (.cells #[.int .i64 l.start, .int .i64 l.next, .int .i64 l.roll, .slice A9 l.segs.length c9] 32 (0, 0))) (seg w1.heap.size w2.heap.size) (.slice A7 t.recs.length c7) t.recs) := LOwn.keep keepsR OW3.out (by have := BY.out.size; have := ba.out.size; omega) (fun x hx => (ba.out.block x (by have := hx.2; have := BY.out.size; omega)).trans (BY.out.block x (by have := hx.2; omega)))
      have PLOW : Hid (∀ i, i < l.segs.length → ∀ x, P9 i x → w2.heap.size ≤ x) := fun i hi x hx => by have := (hG9.apart i hi x hx).1; omega
      have ROWL : Hid (∀ x, (Value.slice A9 l.segs.length c9).ownBlock = some x → w2.heap.size ≤ x ∧ x < wy.heap.size) := fun x hx => by have := World.ownsRow.lt hG9.own x hx; exact ⟨by omega, this.2⟩
      have Xo : Hid ((wy.alloc (.cells #[.int .i64 l.start, .int .i64 l.next, .int .i64 l.roll, .slice A9 l.segs.length c9] 32 (0, 0))).heap[w.heap.size + 1]? = some (.cells #[.int .i64 l.next, .int .i64 t.epoch, .int .i64 t.producer, .int .i64 t.turn, .int .i64 t.seq, .int .i64 t.flags, .slice A7 t.recs.length c7] 38 (0, 0))) := (ba.out.block _ (by have := BY.out.size; omega)).trans ((BY.out.block _ (by omega)).trans X3.out)
      have Ro : Hid ((wy.alloc (.cells #[.int .i64 l.start, .int .i64 l.next, .int .i64 l.roll, .slice A9 l.segs.length c9] 32 (0, 0))).heap[w.heap.size + 1 + 1]? = some (.cells (logArr ⟨0, 0, 0, []⟩ (.slice none 0 0)) 32 (0, 0))) := (ba.out.block _ (by have := BY.out.size; omega)).trans ((BY.out.block _ (by omega)).trans R3.out)
      have Bo : Hid (Below w.heap.size w (wy.alloc (.cells #[.int .i64 l.start, .int .i64 l.next, .int .i64 l.roll, .slice A9 l.segs.length c9] 32 (0, 0)))) := chain (chain B3.out BY.out) ba.out
      have OBlo : w2.heap.size ≤ wy.heap.size := by have := BY.out.size; omega
      have wol : wy.heap.size < (wy.alloc (.cells #[.int .i64 l.start, .int .i64 l.next, .int .i64 l.roll, .slice A9 l.segs.length c9] 32 (0, 0))).heap.size := by rw [hsz]; omega
      clear hG9 by9 c0 c1 c2 c3 y0 y1 y2 y3 y4 y5 y6
      go_upto_region 17 with fail
      try clear g7
      try clear g8
      generalize wy.alloc (.cells #[.int .i64 l.start, .int .i64 l.next, .int .i64 l.roll, .slice A9 l.segs.length c9] 32 (0, 0)) = wo at *
      obtain ⟨g, e9⟩ : ∃ g, A9 = some ⟨g, 0, none⟩ := by
        rcases PV0.out.grow.own.2 with ⟨x1, x2⟩ | ⟨g, cap, cur, x1, _⟩
        · omega
        · simp only [Value.slice.injEq] at x1
          exact ⟨g, x1.1⟩
      subst e9
      have GLOW : Hid (w2.heap.size ≤ g) := (ROWL.out g rfl).1
      have GQ : Hid (grow l u = l.segs.set (l.segs.length - 1) ⟨(l.segs.getD (l.segs.length - 1) default).base, (l.segs.getD (l.segs.length - 1) default).bats ++ [u]⟩) := by show _ = _; unfold grow; rw [HFT2.out, if_pos rfl]; rfl
      have hb4 : (l.segs.getD (l.segs.length - 1) default).bats.length ≤ 400 := bd2
      obtain ⟨bl, hbl⟩ : ∃ bl : List Bat, (l.segs.getD (l.segs.length - 1) default).bats = bl := ⟨_, rfl⟩
      have BLQ := Seg.hid hbl
      rw [hbl] at GQ hb4
      clear hbl
      have ul6 : l.segs.length ≤ 61 := by omega
      obtain ⟨wq, hwq⟩ : ∃ wq, wq = wo := ⟨_, rfl⟩
      obtain ⟨F8, hF8⟩ : ∃ F8, F8 = F9 := ⟨_, rfl⟩
      obtain ⟨P8, hP8⟩ : ∃ P8, P8 = P9 := ⟨_, rfl⟩
      obtain ⟨cq, hcq⟩ : ∃ cq, cq = c9 := ⟨_, rfl⟩
      obtain ⟨us, hus⟩ : ∃ us, us = l.segs := ⟨_, rfl⟩
      have un : l.segs.length ≠ 0 := hn0
      have PQ : Hid (PV wo wq wy.heap.size w1.heap.size l (.slice (some ⟨g, 0, none⟩) us.length cq) us F8 P8) := by show PV _ _ _ _ _ _ _ _ _; rw [hwq, hF8, hP8, hcq, hus]; exact PV0.out
      have QLOW : Hid (∀ i, i < us.length → ∀ x, P8 i x → w2.heap.size ≤ x) := by rw [hus, hP8]; exact PLOW.out
      have OQ : Hid (OwnR wq (seg w1.heap.size w2.heap.size) (.slice A7 t.recs.length c7) t.recs) := by show OwnR _ _ _ _; rw [hwq]; exact OWo.out
      rw [← hus] at BLQ GQ ul6 un
      rw [← hwq]
      clear hus hwq hF8 hP8 hcq PV0 OWo PLOW ROWL
      have OBq := PQ.out.hi
      have Xq := Seg.hid ((PQ.out.bel.block (w.heap.size + 1) (by omega)).trans Xo.out)
      have oq3 : wq.cell? ⟨wy.heap.size, 3, none⟩ = some (.slice (some ⟨g, 0, none⟩) us.length cq) := (four PQ.out.out).2.2.2
      have zw : IntKind.i64.wrap ((us.length : Int) - 1) = (us.length : Int) - 1 := by rw [IntKind.wrap_i64]; omega
      have u0 : (0 : Int) ≤ (us.length : Int) - 1 := by omega
      have u1 : (1 : Int) ≤ (us.length : Int) := by omega
      have u2 : us.length - 1 < us.length := by omega
      have u3 : 1 ≤ us.length := by omega
      have u4 : 0 < us.length := by omega
      have u5 : (us.length : Int) - 1 < (us.length : Int) := by omega
      have PTd := Seg.hid (PQ.out.later (w8 := wq.drew) ((Below.refl _ _).drew))
      have EJ := PTd.out.grow.el (us.length - 1) u2
      obtain ⟨A3, c3', hF3⟩ := EJ.2.form
      obtain ⟨_, F1, P1, hL1, o1', p1'⟩ := EJ.2
      replace hF3 : F8 ((us.length - 1) * 2 + 1) = .slice A3 (us.getD (us.length - 1) default).bats.length c3' := hF3
      replace hL1 : LGr 38 7 EB wq.drew 0 (F8 ((us.length - 1) * 2 + 1)) (us.getD (us.length - 1) default).bats F1 P1 := hL1
      replace o1' : ∀ x, (F8 ((us.length - 1) * 2 + 1)).ownBlock = some x → P8 (us.length - 1) x := o1'
      replace p1' : ∀ i, i < (us.getD (us.length - 1) default).bats.length → ∀ x, P1 i x → P8 (us.length - 1) x := p1'
      rw [BLQ.out] at hF3 hL1 p1'
      rw [hF3] at hL1 o1'
      have ctg : ∀ wx : World, wx.ownsRow w1.heap.size 55 2 (.slice (some ⟨g, 0, none⟩) us.length cq) us.length ((List.range (us.length * 2)).map F8) → wx.cell? ⟨g, (us.length - 1) * 2 + 1, none⟩ = some (.slice A3 bl.length c3') := fun wx hx => by
        rw [World.ownsRow.cellAt hx ((us.length - 1) * 2 + 1) (by omega), List.getElem?_map, List.getElem?_range (by omega), ← hF3]
        rfl
      have t3 := ctg wq PQ.out.grow.own
      have HL1 := Seg.hid hL1
      have glg : g < wq.heap.size := (World.ownsRow.lt PQ.out.grow.own g rfl).2
      have wql : w.heap.size + 1 < wq.heap.size := (Array.getElem?_eq_some_iff.1 Xq.out).1
      obtain ⟨y0, y1, y2, y3, y4, y5, y6⟩ := SEV.out wq Xq.out
      have AFT : Hid (∀ g9 cap9 w9 o9, w9.ownsRow 0 38 7 (.slice (some ⟨g9, 0, none⟩) (bl.length + 1) cap9) (bl.length + 1) ((List.range (bl.length * 7)).map F1 ++ (#[.int .i64 l.next, .int .i64 t.epoch, .int .i64 t.producer, .int .i64 t.turn, .int .i64 t.seq, .int .i64 t.flags, .slice A7 t.recs.length c7] : Array Value).toList) → (wq.drew.alloc o9).grownBy w9 (Value.slice A3 bl.length c3').ownBlock → ((Value.slice A3 bl.length c3').ownBlock = some g9 ∨ g9 = wq.drew.heap.size + 1) → ((∃ F' P', PV wo (w9.setCell ⟨g, (us.length - 1) * 2 + 1, none⟩ (.slice (some ⟨g9, 0, none⟩) (bl.length + 1) cap9)) wy.heap.size w1.heap.size l (.slice (some ⟨g, 0, none⟩) us.length cq) (us.set (us.length - 1) ⟨(us.getD (us.length - 1) default).base, bl ++ [u]⟩) F' P') ∧ OwnR (w9.setCell ⟨g, (us.length - 1) * 2 + 1, none⟩ (.slice (some ⟨g9, 0, none⟩) (bl.length + 1) cap9)) (seg w1.heap.size w2.heap.size) (.slice A7 t.recs.length c7) t.recs) ∧ w9.cell? ⟨g, (us.length - 1) * 2 + 1, none⟩ = some (.slice A3 bl.length c3') ∧ w9.frozen? ⟨g, (us.length - 1) * 2 + 1, none⟩ = false) := fun g9 cap9 w9 o9 x1 x2 x3 => by
        have OQd : OwnR wq.drew (seg w1.heap.size w2.heap.size) (.slice A7 t.recs.length c7) u.recs := by rw [HU6.out]; exact LOwn.keep keepsR OQ.out (Nat.le_refl _) (fun _ _ => rfl)
        have gs := x2.size
        rw [hsz] at gs
        replace gs : wq.heap.size + 1 ≤ w9.heap.size := gs
        have wqs := PQ.out.bel.size
        obtain ⟨z1, z2, z3⟩ := PV.appO (t := u) (rv := (.slice A7 t.recs.length c7)) PTd.out u2 HL1.out o1' p1' OQd (fun x hx => by
          obtain ⟨hx1, hx2⟩ := hx
          refine ⟨hx1, ?_, ?_, ?_, fun i hi hp => ?_⟩
          · show x < wq.heap.size; omega
          · have := GLOW.out; omega
          · omega
          · have := QLOW.out i hi x hp; omega) (by omega) (by rw [UARR.out]; exact x1) x2 x3
        refine ⟨⟨z1, LOwn.keep keepsR OQ.out (by simp; omega) (fun x hx => ?_)⟩, ctg w9 z2, World.ownsRow.frozenAt z2 _⟩
        have hx2 := hx.2
        have hgl := GLOW.out
        rw [heap_setCell_other _ _ _ _ (by show x ≠ g; omega), x2.block x (by rw [hsz]; show _ < wq.heap.size + 1; omega) (fun e => by have := QLOW.out _ u2 x (o1' x e.symm); omega), (below1 _ _).block _ (by show _ < wq.heap.size; omega)]
        rfl
      have OWN6 : Hid (∀ o9, (wq.drew.alloc o9).ownsRow 0 38 7 (.slice A3 bl.length c3') bl.length ((List.range (bl.length * 7)).map F1)) := fun o9 => World.ownsRow.alloc HL1.out.own _
      have hl63 : Hid (bl.length + 1 ≤ maxLen) := by show _ ≤ _; unfold maxLen; omega
      have hby : Hid ((bl.length + 1) * 72 ≤ 140737488355328) := by show _ ≤ _; omega
      clear hL1 hF3 o1' p1' EJ PTd PQ ctg HL1 OQ GLOW QLOW
      go_wp2_with fail
      go_region_law
        ((first | (refine step_append_lies _ (by rfl) _ _ _ (by rfl) 0 38 i1 _ 7 72 Tryz.underlying52 hi1 hy0 hy1 hy2 rfl (by decide) (.slice A3 bl.length c3') bl.length ((List.range (bl.length * 7)).map F1) (by rfl) (OWN6.out _) ⟨wq.heap.size, 0, none⟩ 1 1 (#[.int .i64 l.next, .int .i64 t.epoch, .int .i64 t.producer, .int .i64 t.turn, .int .i64 t.seq, .int .i64 t.flags, .slice A7 t.recs.length c7] : Array Value).toList (by rfl) (by rfl) (World.news_of_block (cs := #[.int .i64 l.next, .int .i64 t.epoch, .int .i64 t.producer, .int .i64 t.turn, .int .i64 t.seq, .int .i64 t.flags, .slice A7 t.recs.length c7]) (heap_alloc_new wq.drew _)) (by simp [Value.oneCell']) (by decide) hl63.out hby.out (Nat.zero_le _) (wq.heap.size + 1) (hsz wq.drew _) ?_; intro g9 cap9 w9 hown9 gr9 hat9 hlt9; have D9 := Seg.hid (AFT.out _ _ _ _ hown9 gr9 hat9); have q6 := D9.out.2.1; have p6 := D9.out.2.2; clear hown9 gr9 hat9 hlt9)))
      all_goals
        clear q6 p6 t3 y0 y1 y2 y3 y4 y5 y6 AFT OWN6 oq3
        obtain ⟨wn, hwn⟩ : ∃ wn, w9.setCell ⟨g, (us.length - 1) * 2 + 1, none⟩ (.slice (some ⟨g9, 0, none⟩) (bl.length + 1) cap9) = wn := ⟨_, rfl⟩
        have D10 := Seg.hid D9.out.1
        rw [hwn] at D10 ⊢
        clear hwn D9
        obtain ⟨F10, P10, hP10⟩ := D10.out.1
        have PN := Seg.hid hP10
        have ON := Seg.hid D10.out.2
        clear hP10 D10
        have Xn := Seg.hid ((PN.out.bel.block (w.heap.size + 1) (by omega)).trans Xo.out)
        obtain ⟨y0, y1, y2, y3, y4, y5, y6⟩ := SEV.out wn Xn.out
        have wnl : w.heap.size + 1 < wn.heap.size := (Array.getElem?_eq_some_iff.1 Xn.out).1
        have snn := PN.out.bel.size
        have BN : BatAt wn 0 wn.heap.size (.agg #[.int .i64 l.next, .int .i64 t.epoch, .int .i64 t.producer, .int .i64 t.turn, .int .i64 t.seq, .int .i64 t.flags, .slice A7 t.recs.length c7]) u := by
          rw [← UARR.out]
          exact ⟨_, rfl, by rw [HU6.out]; exact recs_of ON.out (fun x hx => ⟨Nat.zero_le _, by have := hx.2; omega⟩)⟩
        go_wp2_with fail
        refine (BOk.specLast_any _ u wn 0 wn.heap.size BN (Nat.le_refl _)).mono ?_
        rintro e wm ⟨rfl, bm⟩
        rw [LST.out]
        have PM := Seg.hid (PN.out.later bm)
        clear bm BN y0 y1 y2 y3 y4 y5 y6 PN
        obtain ⟨o0, o1, o2, o3⟩ := four PM.out.out
        have f1 := frozen_of_row wm wy.heap.size 1 _ _ PM.out.out
        have OBm := PM.out.hi
        go_upto_region 20 with fail
        have PL := Seg.hid (PM.out.next (l.next + (t.recs.length : Int)) (us.set (us.length - 1) ⟨(us.getD (us.length - 1) default).base, bl ++ [u]⟩))
        clear o0 o1 o2 o3 f1 PM
        generalize wm.setCell ⟨wy.heap.size, 1, none⟩ (.int .i64 (l.next + (t.recs.length : Int))) = wl at *
        have OL := Seg.hid PL.out.out
        have RL := Seg.hid ((PL.out.bel.block (w.heap.size + 1 + 1) (by omega)).trans Ro.out)
        have BL9 : Hid (Below w.heap.size w wl) := Bo.out.trans (PL.out.bel.mono (by omega))
        have H5 := Seg.hid (Cells.there_of RL.out)
        have H4 := Seg.hid (Cells.whole (vs := logArr ⟨l.start, l.next + (t.recs.length : Int), l.roll, []⟩ (.slice (some ⟨g, 0, none⟩) us.length cq)) RL.out rfl)
        have B9 := Seg.hid (Cells.below_setCells (g := w.heap.size + 1 + 1) (by omega) (logArr ⟨l.start, l.next + (t.recs.length : Int), l.roll, []⟩ (.slice (some ⟨g, 0, none⟩) us.length cq)).toList 0 _ _ BL9.out)
        have SGF : Hid (SegsAt (wl.setCells (w.heap.size + 1 + 1) 0 (logArr ⟨l.start, l.next + (t.recs.length : Int), l.roll, []⟩ (.slice (some ⟨g, 0, none⟩) us.length cq)).toList) w.heap.size (wl.setCells (w.heap.size + 1 + 1) 0 (logArr ⟨l.start, l.next + (t.recs.length : Int), l.roll, []⟩ (.slice (some ⟨g, 0, none⟩) us.length cq)).toList).heap.size (.slice (some ⟨g, 0, none⟩) us.length cq) (grow l u)) := by
          rw [GQ.out]
          refine ((PL.out.segs (by rw [List.length_set]; omega)).keep fun x h1 h2 => Cells.heap_setCells_other _ _ (by omega)).mono (by omega) (by rw [Cells.size_setCells]; exact Nat.le_refl _)
        clear PL
        go_wp2_with (first | (refine wpList_load_row rfl 32 _ rfl wy.heap.size rfl _ _ _ _ OL.out Tryz.underlying32 rfl infoN ?_) | (refine wpList_store_mid rfl 32 _ _ rfl (w.heap.size + 1 + 1) 0 (logArr ⟨l.start, l.next + (t.recs.length : Int), l.roll, []⟩ (.slice (some ⟨g, 0, none⟩) us.length cq)) rfl rfl H5.out infoN (logArr_one _ _ rfl) ?_))
        exact bodyPost_ret (v := .tuple #[logVal ⟨l.start, l.next + (t.recs.length : Int), l.roll, []⟩ (.slice (some ⟨g, 0, none⟩) us.length cq), .int .i64 0]) (results_row_tmp rfl _ _ (w.heap.size + 1 + 1) _ (logArr ⟨l.start, l.next + (t.recs.length : Int), l.roll, []⟩ (.slice (some ⟨g, 0, none⟩) us.length cq)) _ _ _ rfl rfl H4.out Tryz.underlying32 rfl infoN) rfl ⟨.slice (some ⟨g, 0, none⟩) us.length cq, by rw [HC0.out, HC.out]; rfl, by rw [HC0.out, HC.out]; exact SGF.out, B9.out⟩
    have hl1 : (lastS l.segs).bats.length ≠ 0 := hl0
    have FTS2 : Hid (fb = decide ((sizes (lastS l.segs).bats : Int) + (size u : Int) ≤ l.roll)) := by show _ = _; rw [FTS.out, decide_eq_false hl0, Bool.false_or]
    have SZ1 : Hid (∀ wx, Below w3.heap.size w3 wx → Calls Tryz.prog 23 #[.slice A3s (lastS l.segs).bats.length c3s] wx fun e w' => e = .returned (.int .i64 (sizes (lastS l.segs).bats)) ∧ Below wx.heap.size wx w') := fun wx bx => l3Sizes_any _ (lastS l.segs).bats wx lo b (by have := bx.size; omega) (by omega) bd3 (BTH.out.below ((chain B3.out bx).mono hb))
    have SZ2 : Hid (∀ wx, Below w3.heap.size w3 wx → Calls Tryz.prog 24 #[.agg #[.int .i64 l.next, .int .i64 t.epoch, .int .i64 t.producer, .int .i64 t.turn, .int .i64 t.seq, .int .i64 t.flags, .slice A7 t.recs.length c7]] wx fun e w' => e = .returned (.int .i64 (size u)) ∧ Below wx.heap.size wx w') := fun wx bx => size_any _ u wx 0 w3.heap.size (U3.out wx bx) bx.size
    have szu := (size_le HBO.out).2
    obtain ⟨bls, hbls⟩ : ∃ bls, (lastS l.segs).bats = bls := ⟨_, rfl⟩
    rw [hbls] at LCE SZ1 FTS2 bd1 hl1
    obtain ⟨sa, hsa⟩ : ∃ sa, sizes bls = sa := ⟨_, rfl⟩
    obtain ⟨sb, hsb⟩ : ∃ sb, size u = sb := ⟨_, rfl⟩
    rw [hsa] at SZ1 FTS2 bd1
    rw [hsb] at SZ2 FTS2 szu
    clear hbls hsa hsb hl0
    have g7 : decide (0 < bls.length) = true := decide_eq_true (by omega)
    have wzs : IntKind.i64.wrap ((sa : Int) + (sb : Int)) = (sa : Int) + (sb : Int) := by rw [IntKind.wrap_i64]; omega
    have ST : Hid (∀ w', Below w3.heap.size w3 w' → w'.cell? ⟨w.heap.size, 3, none⟩ = some (.slice (some ⟨gs, os, none⟩) l.segs.length c) ∧ w'.cell? ⟨gs, os + (l.segs.length - 1) * 2 + 1, none⟩ = some (.slice A3s bls.length c3s) ∧ w'.cell? ⟨w.heap.size, 2, none⟩ = some (.int .i64 l.roll) ∧ w'.cell? ⟨w.heap.size + 1, 0, none⟩ = some (.int .i64 l.next) ∧ w'.cell? ⟨w.heap.size + 1, 1, none⟩ = some (.int .i64 t.epoch) ∧ w'.cell? ⟨w.heap.size + 1, 2, none⟩ = some (.int .i64 t.producer) ∧ w'.cell? ⟨w.heap.size + 1, 3, none⟩ = some (.int .i64 t.turn) ∧ w'.cell? ⟨w.heap.size + 1, 4, none⟩ = some (.int .i64 t.seq) ∧ w'.cell? ⟨w.heap.size + 1, 5, none⟩ = some (.int .i64 t.flags) ∧ w'.cell? ⟨w.heap.size + 1, 6, none⟩ = some (.slice A7 t.recs.length c7)) := fun wx bx => ⟨(CEL.out wx bx).1.2.2.2, LCE.out wx bx, (CEL.out wx bx).1.2.2.1, (CEL.out wx bx).2⟩
    have es2 := LCE.out w7 B7.out
    go_wp2_with fail
    go_region_held3 (fun w' => w'.cell? ⟨w.heap.size, 3, none⟩ = some (.slice (some ⟨gs, os, none⟩) l.segs.length c) ∧ w'.cell? ⟨gs, os + (l.segs.length - 1) * 2 + 1, none⟩ = some (.slice A3s bls.length c3s) ∧ w'.cell? ⟨w.heap.size, 2, none⟩ = some (.int .i64 l.roll) ∧ w'.cell? ⟨w.heap.size + 1, 0, none⟩ = some (.int .i64 l.next) ∧ w'.cell? ⟨w.heap.size + 1, 1, none⟩ = some (.int .i64 t.epoch) ∧ w'.cell? ⟨w.heap.size + 1, 2, none⟩ = some (.int .i64 t.producer) ∧ w'.cell? ⟨w.heap.size + 1, 3, none⟩ = some (.int .i64 t.turn) ∧ w'.cell? ⟨w.heap.size + 1, 4, none⟩ = some (.int .i64 t.seq) ∧ w'.cell? ⟨w.heap.size + 1, 5, none⟩ = some (.int .i64 t.flags) ∧ w'.cell? ⟨w.heap.size + 1, 6, none⟩ = some (.slice A7 t.recs.length c7)) (first | exact ST.out _ BP.out | exact ST.out _ B8a.out | exact ST.out _ B7.out | exact ST.out _ B7.out.drew | go_keep)
      (first | (go_at_call 23; (with_reducible refine (SZ1.out w7.drew B7.out.drew).mono ?_); rintro e w8a ⟨rfl, b8⟩; have B8a : Hid (Below w3.heap.size w3 w8a) := chain B7.out ⟨b8.os, b8.tape, b8.output, b8.size, b8.block⟩; clear b8) | (go_at_call 24; (with_reducible refine (SZ2.out w8a B8a.out).mono ?_); rintro e wp ⟨rfl, b9⟩; have BP : Hid (Below w3.heap.size w3 wp) := chain B8a.out b9; clear b9))
    clear es2 c0 c1 c2 c3 y0 y1 y2 y3 y4 y5 y6
    have hn6' : l.segs.length ≤ 60 := k3
    by_cases hrl : l.roll < (sa : Int) + (sb : Int)
    · have hfbf : fb = false := by rw [FTS2.out]; exact decide_eq_false (by omega)
      have g8 : decide (l.roll < (sa : Int) + (sb : Int)) = true := decide_eq_true hrl
      by_cases hm4 : fl.length = 400
      · have HC := Seg.hid (PT4.out (by omega) (.inl hm4))
        have g6a : 400 ≤ fl.length := by omega
        have g6 : decide (400 ≤ fl.length) = true := decide_eq_true g6a
        have g6b : (400 : Int) ≤ (fl.length : Int) := by omega
        have g6c : decide ((400 : Int) ≤ (fl.length : Int)) = true := decide_eq_true g6b
        clear hm4
        obtain ⟨⟨c0, c1, c2, c3⟩, y0, y1, y2, y3, y4, y5, y6⟩ := CEL.out wp BP.out
        have hwx : w.heap.size < wp.heap.size := by have := BP.out.size; omega
        go_wp2_with fail
        refine (CPY.out wp BP.out).mono ?_
        rintro e wy ⟨A9, c9, rfl, hG, by9, sy9⟩
        have FN := Seg.hid (FIN.out wp wy 4 A9 c9 BP.out HC.out hG by9)
        have RR := Seg.hid (RES.out wy l (.slice A9 l.segs.length c9) (chain BP.out by9))
        clear hG by9 c0 c1 c2 c3 y0 y1 y2 y3 y4 y5 y6
        go_wp2_with (first | (refine wpList_store_mid rfl 32 _ _ rfl (w.heap.size + 1 + 1) 0 (logArr l (.slice A9 l.segs.length c9)) rfl rfl RR.out.1 infoN (logArr_one _ _ rfl) ?_))
        exact bodyPost_ret (v := .tuple #[.agg #[.int .i64 l.start, .int .i64 l.next, .int .i64 l.roll, .slice A9 l.segs.length c9], .int .i64 4]) (results_row_tmp rfl _ _ (w.heap.size + 1 + 1) _ (logArr l (.slice A9 l.segs.length c9)) _ _ _ rfl rfl RR.out.2.1 Tryz.underlying32 rfl infoN) rfl FN.out
      have g6a : ¬ 400 ≤ fl.length := by omega
      have g6 : decide (400 ≤ fl.length) = false := decide_eq_false g6a
      have g6b : ¬ (400 : Int) ≤ (fl.length : Int) := by omega
      have g6c : decide ((400 : Int) ≤ (fl.length : Int)) = false := decide_eq_false g6b
      by_cases hn6 : l.segs.length = 60
      · have HC := Seg.hid (PT4.out (by omega) (.inr ⟨hfbf, hn6⟩))
        have g5a : 60 ≤ l.segs.length := by omega
        have g5 : decide (60 ≤ l.segs.length) = true := decide_eq_true g5a
        have g5b : (60 : Int) ≤ (l.segs.length : Int) := by omega
        have g5c : decide ((60 : Int) ≤ (l.segs.length : Int)) = true := decide_eq_true g5b
        clear hn6
        obtain ⟨⟨c0, c1, c2, c3⟩, y0, y1, y2, y3, y4, y5, y6⟩ := CEL.out wp BP.out
        have hwx : w.heap.size < wp.heap.size := by have := BP.out.size; omega
        go_wp2_with fail
        refine (CPY.out wp BP.out).mono ?_
        rintro e wy ⟨A9, c9, rfl, hG, by9, sy9⟩
        have FN := Seg.hid (FIN.out wp wy 4 A9 c9 BP.out HC.out hG by9)
        have RR := Seg.hid (RES.out wy l (.slice A9 l.segs.length c9) (chain BP.out by9))
        clear hG by9 c0 c1 c2 c3 y0 y1 y2 y3 y4 y5 y6
        go_wp2_with (first | (refine wpList_store_mid rfl 32 _ _ rfl (w.heap.size + 1 + 1) 0 (logArr l (.slice A9 l.segs.length c9)) rfl rfl RR.out.1 infoN (logArr_one _ _ rfl) ?_))
        exact bodyPost_ret (v := .tuple #[.agg #[.int .i64 l.start, .int .i64 l.next, .int .i64 l.roll, .slice A9 l.segs.length c9], .int .i64 4]) (results_row_tmp rfl _ _ (w.heap.size + 1 + 1) _ (logArr l (.slice A9 l.segs.length c9)) _ _ _ rfl rfl RR.out.2.1 Tryz.underlying32 rfl infoN) rfl FN.out
      have g5a : ¬ 60 ≤ l.segs.length := by omega
      have g5 : decide (60 ≤ l.segs.length) = false := decide_eq_false g5a
      have g5b : ¬ (60 : Int) ≤ (l.segs.length : Int) := by omega
      have g5c : decide ((60 : Int) ≤ (l.segs.length : Int)) = false := decide_eq_false g5b
      have HC := Seg.hid (PT0.out (by omega) (fun h => h.elim hm4 (fun h => hn6 h.2)))
      have hGR : Hid (grow l u = l.segs ++ [(⟨u.base, [u]⟩ : Sg)]) := by show _ = _; unfold grow; rw [HFB.out, hfbf]; rfl
      obtain ⟨⟨c0, c1, c2, c3⟩, y0, y1, y2, y3, y4, y5, y6⟩ := CEL.out wp BP.out
      have hwx : w.heap.size < wp.heap.size := by have := BP.out.size; omega
      go_wp2_with fail
      refine (CPY.out wp BP.out).mono ?_
      rintro e wy ⟨A9, c9, rfl, hG, by9, sy9⟩
      have szW := BP.out.size
      clear g3 g4 g5 g6 g5a g5b g5c g6a g6b g6c
      obtain ⟨F9, P9, hG9⟩ := hG
      have BY := Seg.hid (chain BP.out by9)
      have ba : Hid (Below wy.heap.size wy (wy.alloc (.cells #[.int .i64 l.start, .int .i64 l.next, .int .i64 l.roll, .slice A9 l.segs.length c9] 32 (0, 0)))) := below1 wy _
      have PV0 : Hid (PV (wy.alloc (.cells #[.int .i64 l.start, .int .i64 l.next, .int .i64 l.roll, .slice A9 l.segs.length c9] 32 (0, 0))) (wy.alloc (.cells #[.int .i64 l.start, .int .i64 l.next, .int .i64 l.roll, .slice A9 l.segs.length c9] 32 (0, 0))) wy.heap.size w1.heap.size l (.slice A9 l.segs.length c9) l.segs F9 P9) := ⟨heap_alloc_new _ _, (hG9.base (base' := w1.heap.size) (by omega)).keepV keepsG ba.out.size (fun g hg => ba.out.block g (World.ownsRow.lt hG9.own g hg).2) (fun i hi x hx => ba.out.block x (hG9.apart i hi x hx).2.1), by omega, fun e => by have := (World.ownsRow.lt hG9.own _ e).2; omega, fun i hi hx => by have := (hG9.apart i hi _ hx).2.1; omega, Below.refl _ _⟩
      have OWo : Hid (OwnR (wy.alloc (.cells #[.int .i64 l.start, .int .i64 l.next, .int .i64 l.roll, .slice A9 l.segs.length c9] 32 (0, 0))) (seg w1.heap.size w2.heap.size) (.slice A7 t.recs.length c7) t.recs) := LOwn.keep keepsR OW3.out (by have := BY.out.size; have := ba.out.size; omega) (fun x hx => (ba.out.block x (by have := hx.2; have := BY.out.size; omega)).trans (BY.out.block x (by have := hx.2; omega)))
      have PLOW : Hid (∀ i, i < l.segs.length → ∀ x, P9 i x → w2.heap.size ≤ x) := fun i hi x hx => by have := (hG9.apart i hi x hx).1; omega
      have ROWL : Hid (∀ x, (Value.slice A9 l.segs.length c9).ownBlock = some x → w2.heap.size ≤ x ∧ x < wy.heap.size) := fun x hx => by have := World.ownsRow.lt hG9.own x hx; exact ⟨by omega, this.2⟩
      have Xo : Hid ((wy.alloc (.cells #[.int .i64 l.start, .int .i64 l.next, .int .i64 l.roll, .slice A9 l.segs.length c9] 32 (0, 0))).heap[w.heap.size + 1]? = some (.cells #[.int .i64 l.next, .int .i64 t.epoch, .int .i64 t.producer, .int .i64 t.turn, .int .i64 t.seq, .int .i64 t.flags, .slice A7 t.recs.length c7] 38 (0, 0))) := (ba.out.block _ (by have := BY.out.size; omega)).trans ((BY.out.block _ (by omega)).trans X3.out)
      have Ro : Hid ((wy.alloc (.cells #[.int .i64 l.start, .int .i64 l.next, .int .i64 l.roll, .slice A9 l.segs.length c9] 32 (0, 0))).heap[w.heap.size + 1 + 1]? = some (.cells (logArr ⟨0, 0, 0, []⟩ (.slice none 0 0)) 32 (0, 0))) := (ba.out.block _ (by have := BY.out.size; omega)).trans ((BY.out.block _ (by omega)).trans R3.out)
      have Bo : Hid (Below w.heap.size w (wy.alloc (.cells #[.int .i64 l.start, .int .i64 l.next, .int .i64 l.roll, .slice A9 l.segs.length c9] 32 (0, 0)))) := chain (chain B3.out BY.out) ba.out
      have OBlo : w2.heap.size ≤ wy.heap.size := by have := BY.out.size; omega
      have wol : wy.heap.size < (wy.alloc (.cells #[.int .i64 l.start, .int .i64 l.next, .int .i64 l.roll, .slice A9 l.segs.length c9] 32 (0, 0))).heap.size := by rw [hsz]; omega
      clear hG9 by9 c0 c1 c2 c3 y0 y1 y2 y3 y4 y5 y6
      go_upto_region 16 with fail
      generalize wy.alloc (.cells #[.int .i64 l.start, .int .i64 l.next, .int .i64 l.roll, .slice A9 l.segs.length c9] 32 (0, 0)) = wo at *
      obtain ⟨y0, y1, y2, y3, y4, y5, y6⟩ := SEV.out wo Xo.out
      have o3 : wo.cell? ⟨wy.heap.size, 3, none⟩ = some (.slice A9 l.segs.length c9) := (four PV0.out.out).2.2.2
      have hwo1 : w.heap.size + 1 < wo.heap.size := by omega
      have PSH : Hid (∀ g9 cap9 w9 o9, w9.ownsRow w1.heap.size 55 2 (.slice (some ⟨g9, 0, none⟩) (l.segs.length + 1) cap9) (l.segs.length + 1) ((List.range (l.segs.length * 2)).map F9 ++ (segArr ⟨l.next, []⟩ (.slice none 0 0)).toList) → (wo.alloc o9).grownBy w9 (Value.slice A9 l.segs.length c9).ownBlock → ((Value.slice A9 l.segs.length c9).ownBlock = some g9 ∨ g9 = wo.heap.size + 1) → ((∃ F' P', PV wo (w9.setCell ⟨wy.heap.size, 3, none⟩ (.slice (some ⟨g9, 0, none⟩) (l.segs.length + 1) cap9)) wy.heap.size w1.heap.size l (.slice (some ⟨g9, 0, none⟩) (l.segs.length + 1) cap9) (l.segs ++ [⟨l.next, []⟩]) F' P' ∧ ∀ i, i < l.segs.length + 1 → ∀ x, P' i x → w2.heap.size ≤ x) ∧ w2.heap.size ≤ g9 ∧ OwnR (w9.setCell ⟨wy.heap.size, 3, none⟩ (.slice (some ⟨g9, 0, none⟩) (l.segs.length + 1) cap9)) (seg w1.heap.size w2.heap.size) (.slice A7 t.recs.length c7) t.recs) ∧ w9.cell? ⟨wy.heap.size, 3, none⟩ = some (.slice A9 l.segs.length c9) ∧ w9.frozen? ⟨wy.heap.size, 3, none⟩ = false) := fun g9 cap9 w9 o9 x1 x2 x3 => by
        obtain ⟨z1, z2, z3⟩ := PV.push PV0.out (t := ⟨l.next, []⟩) rfl x1 x2 x3
        have gs := x2.size
        rw [hsz] at gs
        refine ⟨⟨?_, ?_, LOwn.keep keepsR OWo.out (by simp; omega) (fun x hx => ?_)⟩, z2, z3⟩
        · obtain ⟨F', P', z4, z5⟩ := z1
          exact ⟨F', P', z4, fun i hi x hx => by obtain ⟨i', hi', hx'⟩ := z5 i hi _ hx; exact PLOW.out i' hi' x hx'⟩
        · rcases x3 with x3 | x3
          · exact (ROWL.out _ x3).1
          · omega
        · have hx2 := hx.2
          rw [heap_setCell_other _ _ _ _ (by show x ≠ wy.heap.size; omega), x2.block x (by rw [hsz]; omega) (fun e => by have := (ROWL.out x e.symm).1; omega), (below1 _ _).block _ (by omega)]
      have OWN5 : Hid (∀ o9, (wo.alloc o9).ownsRow w1.heap.size 55 2 (.slice A9 l.segs.length c9) l.segs.length ((List.range (l.segs.length * 2)).map F9)) := fun o9 => World.ownsRow.alloc PV0.out.grow.own _
      have bw5 : w1.heap.size ≤ wo.heap.size + 1 := by omega
      go_upto_region 17 with (at_builtin; (refine wpList_append_lies _ rfl _ _ 30 rfl w1.heap.size 55 i0 _ 2 32 Tryz.underlying30 hi hz0 hz1 hz2 rfl (by decide) (.slice A9 l.segs.length c9) l.segs.length ((List.range (l.segs.length * 2)).map F9) rfl (OWN5.out _) ⟨wo.heap.size, 0, none⟩ 1 1 (segArr ⟨l.next, []⟩ (.slice none 0 0)).toList rfl rfl (World.news_of_block (cs := segArr ⟨l.next, []⟩ (.slice none 0 0)) (heap_alloc_new wo _)) (by simp [segArr, Value.oneCell']) (by decide) (by unfold maxLen; omega) (by omega) (by rw [hsz]; exact bw5) (wo.heap.size + 1) (hsz wo _) ?_; intro g9 cap9 w9 hown9 gr9 hat9 hlt9; have D9 := Seg.hid (PSH.out _ _ _ _ hown9 gr9 hat9); have q6 := D9.out.2.1; have p6 := D9.out.2.2; clear hown9 gr9 hat9 hlt9))
      clear q6 p6 y0 y1 y2 y3 y4 y5 y6 o3
      obtain ⟨wq, hwq⟩ : ∃ wq, w9.setCell ⟨wy.heap.size, 3, none⟩ (.slice (some ⟨g9, 0, none⟩) (l.segs.length + 1) cap9) = wq := ⟨_, rfl⟩
      have D10 := Seg.hid D9.out.1
      rw [hwq] at D10 ⊢
      clear hwq D9
      obtain ⟨F8, P8, hP8, hN8⟩ := D10.out.1
      have GLOW : Hid (w2.heap.size ≤ g9) := D10.out.2.1
      have OQ := Seg.hid D10.out.2.2
      obtain ⟨us, hus⟩ : ∃ us, l.segs ++ [(⟨l.next, []⟩ : Sg)] = us := ⟨_, rfl⟩
      have hul : us.length = l.segs.length + 1 := by rw [← hus]; simp
      have PQ : Hid (PV wo wq wy.heap.size w1.heap.size l (.slice (some ⟨g9, 0, none⟩) us.length cap9) us F8 P8) := by show PV _ _ _ _ _ _ _ _ _; rw [hul, ← hus]; exact hP8
      have QLOW : Hid (∀ i, i < us.length → ∀ x, P8 i x → w2.heap.size ≤ x) := by rw [hul]; exact hN8
      obtain ⟨bl, hbl⟩ : ∃ bl : List Bat, bl = [] := ⟨_, rfl⟩
      have hb4 : bl.length ≤ 400 := by rw [hbl]; simp
      have BLQ : Hid ((us.getD (us.length - 1) default).bats = bl) := by show _ = _; rw [hbl, hul, ← hus]; simp
      have GQ : Hid (grow l u = us.set (us.length - 1) ⟨(us.getD (us.length - 1) default).base, bl ++ [u]⟩) := by
        show _ = _
        rw [hbl, hGR.out, hul, ← hus, Nat.add_sub_cancel, HU0.out, ← put_last' (segs := l.segs) (b := l.next) (u := u)]
        simp
      obtain ⟨cq, hcq⟩ : ∃ cq, cq = cap9 := ⟨_, rfl⟩
      obtain ⟨g, hgg⟩ : ∃ g, g = g9 := ⟨_, rfl⟩
      subst hcq hgg
      have ul6 : us.length ≤ 61 := by omega
      have un : us.length ≠ 0 := by omega
      clear hP8 D10 hN8 hbl hus hul hGR PSH OWN5 PV0 OWo PLOW ROWL
      have OBq := PQ.out.hi
      have Xq := Seg.hid ((PQ.out.bel.block (w.heap.size + 1) (by omega)).trans Xo.out)
      have oq3 : wq.cell? ⟨wy.heap.size, 3, none⟩ = some (.slice (some ⟨g, 0, none⟩) us.length cq) := (four PQ.out.out).2.2.2
      have zw : IntKind.i64.wrap ((us.length : Int) - 1) = (us.length : Int) - 1 := by rw [IntKind.wrap_i64]; omega
      have u0 : (0 : Int) ≤ (us.length : Int) - 1 := by omega
      have u1 : (1 : Int) ≤ (us.length : Int) := by omega
      have u2 : us.length - 1 < us.length := by omega
      have u3 : 1 ≤ us.length := by omega
      have u4 : 0 < us.length := by omega
      have u5 : (us.length : Int) - 1 < (us.length : Int) := by omega
      have PTd := Seg.hid (PQ.out.later (w8 := wq.drew) ((Below.refl _ _).drew))
      have EJ := PTd.out.grow.el (us.length - 1) u2
      obtain ⟨A3, c3', hF3⟩ := EJ.2.form
      obtain ⟨_, F1, P1, hL1, o1', p1'⟩ := EJ.2
      replace hF3 : F8 ((us.length - 1) * 2 + 1) = .slice A3 (us.getD (us.length - 1) default).bats.length c3' := hF3
      replace hL1 : LGr 38 7 EB wq.drew 0 (F8 ((us.length - 1) * 2 + 1)) (us.getD (us.length - 1) default).bats F1 P1 := hL1
      replace o1' : ∀ x, (F8 ((us.length - 1) * 2 + 1)).ownBlock = some x → P8 (us.length - 1) x := o1'
      replace p1' : ∀ i, i < (us.getD (us.length - 1) default).bats.length → ∀ x, P1 i x → P8 (us.length - 1) x := p1'
      rw [BLQ.out] at hF3 hL1 p1'
      rw [hF3] at hL1 o1'
      have ctg : ∀ wx : World, wx.ownsRow w1.heap.size 55 2 (.slice (some ⟨g, 0, none⟩) us.length cq) us.length ((List.range (us.length * 2)).map F8) → wx.cell? ⟨g, (us.length - 1) * 2 + 1, none⟩ = some (.slice A3 bl.length c3') := fun wx hx => by
        rw [World.ownsRow.cellAt hx ((us.length - 1) * 2 + 1) (by omega), List.getElem?_map, List.getElem?_range (by omega), ← hF3]
        rfl
      have t3 := ctg wq PQ.out.grow.own
      have HL1 := Seg.hid hL1
      have glg : g < wq.heap.size := (World.ownsRow.lt PQ.out.grow.own g rfl).2
      have wql : w.heap.size + 1 < wq.heap.size := (Array.getElem?_eq_some_iff.1 Xq.out).1
      obtain ⟨y0, y1, y2, y3, y4, y5, y6⟩ := SEV.out wq Xq.out
      have AFT : Hid (∀ g9 cap9 w9 o9, w9.ownsRow 0 38 7 (.slice (some ⟨g9, 0, none⟩) (bl.length + 1) cap9) (bl.length + 1) ((List.range (bl.length * 7)).map F1 ++ (#[.int .i64 l.next, .int .i64 t.epoch, .int .i64 t.producer, .int .i64 t.turn, .int .i64 t.seq, .int .i64 t.flags, .slice A7 t.recs.length c7] : Array Value).toList) → (wq.drew.alloc o9).grownBy w9 (Value.slice A3 bl.length c3').ownBlock → ((Value.slice A3 bl.length c3').ownBlock = some g9 ∨ g9 = wq.drew.heap.size + 1) → ((∃ F' P', PV wo (w9.setCell ⟨g, (us.length - 1) * 2 + 1, none⟩ (.slice (some ⟨g9, 0, none⟩) (bl.length + 1) cap9)) wy.heap.size w1.heap.size l (.slice (some ⟨g, 0, none⟩) us.length cq) (us.set (us.length - 1) ⟨(us.getD (us.length - 1) default).base, bl ++ [u]⟩) F' P') ∧ OwnR (w9.setCell ⟨g, (us.length - 1) * 2 + 1, none⟩ (.slice (some ⟨g9, 0, none⟩) (bl.length + 1) cap9)) (seg w1.heap.size w2.heap.size) (.slice A7 t.recs.length c7) t.recs) ∧ w9.cell? ⟨g, (us.length - 1) * 2 + 1, none⟩ = some (.slice A3 bl.length c3') ∧ w9.frozen? ⟨g, (us.length - 1) * 2 + 1, none⟩ = false) := fun g9 cap9 w9 o9 x1 x2 x3 => by
        have OQd : OwnR wq.drew (seg w1.heap.size w2.heap.size) (.slice A7 t.recs.length c7) u.recs := by rw [HU6.out]; exact LOwn.keep keepsR OQ.out (Nat.le_refl _) (fun _ _ => rfl)
        have gs := x2.size
        rw [hsz] at gs
        replace gs : wq.heap.size + 1 ≤ w9.heap.size := gs
        have wqs := PQ.out.bel.size
        obtain ⟨z1, z2, z3⟩ := PV.appO (t := u) (rv := (.slice A7 t.recs.length c7)) PTd.out u2 HL1.out o1' p1' OQd (fun x hx => by
          obtain ⟨hx1, hx2⟩ := hx
          refine ⟨hx1, ?_, ?_, ?_, fun i hi hp => ?_⟩
          · show x < wq.heap.size; omega
          · have := GLOW.out; omega
          · omega
          · have := QLOW.out i hi x hp; omega) (by omega) (by rw [UARR.out]; exact x1) x2 x3
        refine ⟨⟨z1, LOwn.keep keepsR OQ.out (by simp; omega) (fun x hx => ?_)⟩, ctg w9 z2, World.ownsRow.frozenAt z2 _⟩
        have hx2 := hx.2
        have hgl := GLOW.out
        rw [heap_setCell_other _ _ _ _ (by show x ≠ g; omega), x2.block x (by rw [hsz]; show _ < wq.heap.size + 1; omega) (fun e => by have := QLOW.out _ u2 x (o1' x e.symm); omega), (below1 _ _).block _ (by show _ < wq.heap.size; omega)]
        rfl
      have OWN6 : Hid (∀ o9, (wq.drew.alloc o9).ownsRow 0 38 7 (.slice A3 bl.length c3') bl.length ((List.range (bl.length * 7)).map F1)) := fun o9 => World.ownsRow.alloc HL1.out.own _
      have hl63 : Hid (bl.length + 1 ≤ maxLen) := by show _ ≤ _; unfold maxLen; omega
      have hby : Hid ((bl.length + 1) * 72 ≤ 140737488355328) := by show _ ≤ _; omega
      clear hL1 hF3 o1' p1' EJ PTd PQ ctg HL1 OQ GLOW QLOW
      go_wp2_with fail
      go_region_law
        ((first | (refine step_append_lies _ (by rfl) _ _ _ (by rfl) 0 38 i1 _ 7 72 Tryz.underlying52 hi1 hy0 hy1 hy2 rfl (by decide) (.slice A3 bl.length c3') bl.length ((List.range (bl.length * 7)).map F1) (by rfl) (OWN6.out _) ⟨wq.heap.size, 0, none⟩ 1 1 (#[.int .i64 l.next, .int .i64 t.epoch, .int .i64 t.producer, .int .i64 t.turn, .int .i64 t.seq, .int .i64 t.flags, .slice A7 t.recs.length c7] : Array Value).toList (by rfl) (by rfl) (World.news_of_block (cs := #[.int .i64 l.next, .int .i64 t.epoch, .int .i64 t.producer, .int .i64 t.turn, .int .i64 t.seq, .int .i64 t.flags, .slice A7 t.recs.length c7]) (heap_alloc_new wq.drew _)) (by simp [Value.oneCell']) (by decide) hl63.out hby.out (Nat.zero_le _) (wq.heap.size + 1) (hsz wq.drew _) ?_; intro g9 cap9 w9 hown9 gr9 hat9 hlt9; have D9 := Seg.hid (AFT.out _ _ _ _ hown9 gr9 hat9); have q6 := D9.out.2.1; have p6 := D9.out.2.2; clear hown9 gr9 hat9 hlt9)))
      all_goals
        clear q6 p6 t3 y0 y1 y2 y3 y4 y5 y6 AFT OWN6 oq3
        obtain ⟨wn, hwn⟩ : ∃ wn, w9.setCell ⟨g, (us.length - 1) * 2 + 1, none⟩ (.slice (some ⟨g9, 0, none⟩) (bl.length + 1) cap9) = wn := ⟨_, rfl⟩
        have D10 := Seg.hid D9.out.1
        rw [hwn] at D10 ⊢
        clear hwn D9
        obtain ⟨F10, P10, hP10⟩ := D10.out.1
        have PN := Seg.hid hP10
        have ON := Seg.hid D10.out.2
        clear hP10 D10
        have Xn := Seg.hid ((PN.out.bel.block (w.heap.size + 1) (by omega)).trans Xo.out)
        obtain ⟨y0, y1, y2, y3, y4, y5, y6⟩ := SEV.out wn Xn.out
        have wnl : w.heap.size + 1 < wn.heap.size := (Array.getElem?_eq_some_iff.1 Xn.out).1
        have snn := PN.out.bel.size
        have BN : BatAt wn 0 wn.heap.size (.agg #[.int .i64 l.next, .int .i64 t.epoch, .int .i64 t.producer, .int .i64 t.turn, .int .i64 t.seq, .int .i64 t.flags, .slice A7 t.recs.length c7]) u := by
          rw [← UARR.out]
          exact ⟨_, rfl, by rw [HU6.out]; exact recs_of ON.out (fun x hx => ⟨Nat.zero_le _, by have := hx.2; omega⟩)⟩
        go_wp2_with fail
        refine (BOk.specLast_any _ u wn 0 wn.heap.size BN (Nat.le_refl _)).mono ?_
        rintro e wm ⟨rfl, bm⟩
        rw [LST.out]
        have PM := Seg.hid (PN.out.later bm)
        clear bm BN y0 y1 y2 y3 y4 y5 y6 PN
        obtain ⟨o0, o1, o2, o3⟩ := four PM.out.out
        have f1 := frozen_of_row wm wy.heap.size 1 _ _ PM.out.out
        have OBm := PM.out.hi
        go_upto_region 20 with fail
        have PL := Seg.hid (PM.out.next (l.next + (t.recs.length : Int)) (us.set (us.length - 1) ⟨(us.getD (us.length - 1) default).base, bl ++ [u]⟩))
        clear o0 o1 o2 o3 f1 PM
        generalize wm.setCell ⟨wy.heap.size, 1, none⟩ (.int .i64 (l.next + (t.recs.length : Int))) = wl at *
        have OL := Seg.hid PL.out.out
        have RL := Seg.hid ((PL.out.bel.block (w.heap.size + 1 + 1) (by omega)).trans Ro.out)
        have BL9 : Hid (Below w.heap.size w wl) := Bo.out.trans (PL.out.bel.mono (by omega))
        have H5 := Seg.hid (Cells.there_of RL.out)
        have H4 := Seg.hid (Cells.whole (vs := logArr ⟨l.start, l.next + (t.recs.length : Int), l.roll, []⟩ (.slice (some ⟨g, 0, none⟩) us.length cq)) RL.out rfl)
        have B9 := Seg.hid (Cells.below_setCells (g := w.heap.size + 1 + 1) (by omega) (logArr ⟨l.start, l.next + (t.recs.length : Int), l.roll, []⟩ (.slice (some ⟨g, 0, none⟩) us.length cq)).toList 0 _ _ BL9.out)
        have SGF : Hid (SegsAt (wl.setCells (w.heap.size + 1 + 1) 0 (logArr ⟨l.start, l.next + (t.recs.length : Int), l.roll, []⟩ (.slice (some ⟨g, 0, none⟩) us.length cq)).toList) w.heap.size (wl.setCells (w.heap.size + 1 + 1) 0 (logArr ⟨l.start, l.next + (t.recs.length : Int), l.roll, []⟩ (.slice (some ⟨g, 0, none⟩) us.length cq)).toList).heap.size (.slice (some ⟨g, 0, none⟩) us.length cq) (grow l u)) := by
          rw [GQ.out]
          refine ((PL.out.segs (by rw [List.length_set]; omega)).keep fun x h1 h2 => Cells.heap_setCells_other _ _ (by omega)).mono (by omega) (by rw [Cells.size_setCells]; exact Nat.le_refl _)
        clear PL
        go_wp2_with (first | (refine wpList_load_row rfl 32 _ rfl wy.heap.size rfl _ _ _ _ OL.out Tryz.underlying32 rfl infoN ?_) | (refine wpList_store_mid rfl 32 _ _ rfl (w.heap.size + 1 + 1) 0 (logArr ⟨l.start, l.next + (t.recs.length : Int), l.roll, []⟩ (.slice (some ⟨g, 0, none⟩) us.length cq)) rfl rfl H5.out infoN (logArr_one _ _ rfl) ?_))
        exact bodyPost_ret (v := .tuple #[logVal ⟨l.start, l.next + (t.recs.length : Int), l.roll, []⟩ (.slice (some ⟨g, 0, none⟩) us.length cq), .int .i64 0]) (results_row_tmp rfl _ _ (w.heap.size + 1 + 1) _ (logArr ⟨l.start, l.next + (t.recs.length : Int), l.roll, []⟩ (.slice (some ⟨g, 0, none⟩) us.length cq)) _ _ _ rfl rfl H4.out Tryz.underlying32 rfl infoN) rfl ⟨.slice (some ⟨g, 0, none⟩) us.length cq, by rw [HC0.out, HC.out]; rfl, by rw [HC0.out, HC.out]; exact SGF.out, B9.out⟩
    have hfbt : fb = true := by rw [FTS2.out]; exact decide_eq_true (by omega)
    have g8 : decide (l.roll < (sa : Int) + (sb : Int)) = false := decide_eq_false hrl
    have HFT2 : Hid (fits l u = true) := by show _ = _; rw [HFB.out, hfbt]
    by_cases hm4 : fl.length = 400
    · have HC := Seg.hid (PT4.out (by omega) (.inl hm4))
      have g6a : 400 ≤ fl.length := by omega
      have g6 : decide (400 ≤ fl.length) = true := decide_eq_true g6a
      have g6b : (400 : Int) ≤ (fl.length : Int) := by omega
      have g6c : decide ((400 : Int) ≤ (fl.length : Int)) = true := decide_eq_true g6b
      clear hm4
      obtain ⟨⟨c0, c1, c2, c3⟩, y0, y1, y2, y3, y4, y5, y6⟩ := CEL.out wp BP.out
      have hwx : w.heap.size < wp.heap.size := by have := BP.out.size; omega
      go_wp2_with fail
      refine (CPY.out wp BP.out).mono ?_
      rintro e wy ⟨A9, c9, rfl, hG, by9, sy9⟩
      have FN := Seg.hid (FIN.out wp wy 4 A9 c9 BP.out HC.out hG by9)
      have RR := Seg.hid (RES.out wy l (.slice A9 l.segs.length c9) (chain BP.out by9))
      clear hG by9 c0 c1 c2 c3 y0 y1 y2 y3 y4 y5 y6
      go_wp2_with (first | (refine wpList_store_mid rfl 32 _ _ rfl (w.heap.size + 1 + 1) 0 (logArr l (.slice A9 l.segs.length c9)) rfl rfl RR.out.1 infoN (logArr_one _ _ rfl) ?_))
      exact bodyPost_ret (v := .tuple #[.agg #[.int .i64 l.start, .int .i64 l.next, .int .i64 l.roll, .slice A9 l.segs.length c9], .int .i64 4]) (results_row_tmp rfl _ _ (w.heap.size + 1 + 1) _ (logArr l (.slice A9 l.segs.length c9)) _ _ _ rfl rfl RR.out.2.1 Tryz.underlying32 rfl infoN) rfl FN.out
    have HC := Seg.hid (PT0.out (by omega) (fun h => h.elim hm4 (fun h => Bool.noConfusion (hfbt.symm.trans h.1))))
    have g6a : ¬ 400 ≤ fl.length := by omega
    have g6 : decide (400 ≤ fl.length) = false := decide_eq_false g6a
    have g6b : ¬ (400 : Int) ≤ (fl.length : Int) := by omega
    have g6c : decide ((400 : Int) ≤ (fl.length : Int)) = false := decide_eq_false g6b
    have g5 : True := trivial
    have g5a : True := trivial
    have g5b : True := trivial
    have g5c : True := trivial
    obtain ⟨⟨c0, c1, c2, c3⟩, y0, y1, y2, y3, y4, y5, y6⟩ := CEL.out wp BP.out
    have hwx : w.heap.size < wp.heap.size := by have := BP.out.size; omega
    go_wp2_with fail
    refine (CPY.out wp BP.out).mono ?_
    rintro e wy ⟨A9, c9, rfl, hG, by9, sy9⟩
    have szW := BP.out.size
    clear g3 g4 g5 g6 g5a g5b g5c g6a g6b g6c
    obtain ⟨F9, P9, hG9⟩ := hG
    have BY := Seg.hid (chain BP.out by9)
    have ba : Hid (Below wy.heap.size wy (wy.alloc (.cells #[.int .i64 l.start, .int .i64 l.next, .int .i64 l.roll, .slice A9 l.segs.length c9] 32 (0, 0)))) := below1 wy _
    have PV0 : Hid (PV (wy.alloc (.cells #[.int .i64 l.start, .int .i64 l.next, .int .i64 l.roll, .slice A9 l.segs.length c9] 32 (0, 0))) (wy.alloc (.cells #[.int .i64 l.start, .int .i64 l.next, .int .i64 l.roll, .slice A9 l.segs.length c9] 32 (0, 0))) wy.heap.size w1.heap.size l (.slice A9 l.segs.length c9) l.segs F9 P9) := ⟨heap_alloc_new _ _, (hG9.base (base' := w1.heap.size) (by omega)).keepV keepsG ba.out.size (fun g hg => ba.out.block g (World.ownsRow.lt hG9.own g hg).2) (fun i hi x hx => ba.out.block x (hG9.apart i hi x hx).2.1), by omega, fun e => by have := (World.ownsRow.lt hG9.own _ e).2; omega, fun i hi hx => by have := (hG9.apart i hi _ hx).2.1; omega, Below.refl _ _⟩
    have OWo : Hid (OwnR (wy.alloc (.cells #[.int .i64 l.start, .int .i64 l.next, .int .i64 l.roll, .slice A9 l.segs.length c9] 32 (0, 0))) (seg w1.heap.size w2.heap.size) (.slice A7 t.recs.length c7) t.recs) := LOwn.keep keepsR OW3.out (by have := BY.out.size; have := ba.out.size; omega) (fun x hx => (ba.out.block x (by have := hx.2; have := BY.out.size; omega)).trans (BY.out.block x (by have := hx.2; omega)))
    have PLOW : Hid (∀ i, i < l.segs.length → ∀ x, P9 i x → w2.heap.size ≤ x) := fun i hi x hx => by have := (hG9.apart i hi x hx).1; omega
    have ROWL : Hid (∀ x, (Value.slice A9 l.segs.length c9).ownBlock = some x → w2.heap.size ≤ x ∧ x < wy.heap.size) := fun x hx => by have := World.ownsRow.lt hG9.own x hx; exact ⟨by omega, this.2⟩
    have Xo : Hid ((wy.alloc (.cells #[.int .i64 l.start, .int .i64 l.next, .int .i64 l.roll, .slice A9 l.segs.length c9] 32 (0, 0))).heap[w.heap.size + 1]? = some (.cells #[.int .i64 l.next, .int .i64 t.epoch, .int .i64 t.producer, .int .i64 t.turn, .int .i64 t.seq, .int .i64 t.flags, .slice A7 t.recs.length c7] 38 (0, 0))) := (ba.out.block _ (by have := BY.out.size; omega)).trans ((BY.out.block _ (by omega)).trans X3.out)
    have Ro : Hid ((wy.alloc (.cells #[.int .i64 l.start, .int .i64 l.next, .int .i64 l.roll, .slice A9 l.segs.length c9] 32 (0, 0))).heap[w.heap.size + 1 + 1]? = some (.cells (logArr ⟨0, 0, 0, []⟩ (.slice none 0 0)) 32 (0, 0))) := (ba.out.block _ (by have := BY.out.size; omega)).trans ((BY.out.block _ (by omega)).trans R3.out)
    have Bo : Hid (Below w.heap.size w (wy.alloc (.cells #[.int .i64 l.start, .int .i64 l.next, .int .i64 l.roll, .slice A9 l.segs.length c9] 32 (0, 0)))) := chain (chain B3.out BY.out) ba.out
    have OBlo : w2.heap.size ≤ wy.heap.size := by have := BY.out.size; omega
    have wol : wy.heap.size < (wy.alloc (.cells #[.int .i64 l.start, .int .i64 l.next, .int .i64 l.roll, .slice A9 l.segs.length c9] 32 (0, 0))).heap.size := by rw [hsz]; omega
    clear hG9 by9 c0 c1 c2 c3 y0 y1 y2 y3 y4 y5 y6
    go_upto_region 17 with fail
    try clear g7
    try clear g8
    generalize wy.alloc (.cells #[.int .i64 l.start, .int .i64 l.next, .int .i64 l.roll, .slice A9 l.segs.length c9] 32 (0, 0)) = wo at *
    obtain ⟨g, e9⟩ : ∃ g, A9 = some ⟨g, 0, none⟩ := by
      rcases PV0.out.grow.own.2 with ⟨x1, x2⟩ | ⟨g, cap, cur, x1, _⟩
      · omega
      · simp only [Value.slice.injEq] at x1
        exact ⟨g, x1.1⟩
    subst e9
    have GLOW : Hid (w2.heap.size ≤ g) := (ROWL.out g rfl).1
    have GQ : Hid (grow l u = l.segs.set (l.segs.length - 1) ⟨(l.segs.getD (l.segs.length - 1) default).base, (l.segs.getD (l.segs.length - 1) default).bats ++ [u]⟩) := by show _ = _; unfold grow; rw [HFT2.out, if_pos rfl]; rfl
    have hb4 : (l.segs.getD (l.segs.length - 1) default).bats.length ≤ 400 := bd2
    obtain ⟨bl, hbl⟩ : ∃ bl : List Bat, (l.segs.getD (l.segs.length - 1) default).bats = bl := ⟨_, rfl⟩
    have BLQ := Seg.hid hbl
    rw [hbl] at GQ hb4
    clear hbl
    have ul6 : l.segs.length ≤ 61 := by omega
    obtain ⟨wq, hwq⟩ : ∃ wq, wq = wo := ⟨_, rfl⟩
    obtain ⟨F8, hF8⟩ : ∃ F8, F8 = F9 := ⟨_, rfl⟩
    obtain ⟨P8, hP8⟩ : ∃ P8, P8 = P9 := ⟨_, rfl⟩
    obtain ⟨cq, hcq⟩ : ∃ cq, cq = c9 := ⟨_, rfl⟩
    obtain ⟨us, hus⟩ : ∃ us, us = l.segs := ⟨_, rfl⟩
    have un : l.segs.length ≠ 0 := hn0
    have PQ : Hid (PV wo wq wy.heap.size w1.heap.size l (.slice (some ⟨g, 0, none⟩) us.length cq) us F8 P8) := by show PV _ _ _ _ _ _ _ _ _; rw [hwq, hF8, hP8, hcq, hus]; exact PV0.out
    have QLOW : Hid (∀ i, i < us.length → ∀ x, P8 i x → w2.heap.size ≤ x) := by rw [hus, hP8]; exact PLOW.out
    have OQ : Hid (OwnR wq (seg w1.heap.size w2.heap.size) (.slice A7 t.recs.length c7) t.recs) := by show OwnR _ _ _ _; rw [hwq]; exact OWo.out
    rw [← hus] at BLQ GQ ul6 un
    rw [← hwq]
    clear hus hwq hF8 hP8 hcq PV0 OWo PLOW ROWL
    have OBq := PQ.out.hi
    have Xq := Seg.hid ((PQ.out.bel.block (w.heap.size + 1) (by omega)).trans Xo.out)
    have oq3 : wq.cell? ⟨wy.heap.size, 3, none⟩ = some (.slice (some ⟨g, 0, none⟩) us.length cq) := (four PQ.out.out).2.2.2
    have zw : IntKind.i64.wrap ((us.length : Int) - 1) = (us.length : Int) - 1 := by rw [IntKind.wrap_i64]; omega
    have u0 : (0 : Int) ≤ (us.length : Int) - 1 := by omega
    have u1 : (1 : Int) ≤ (us.length : Int) := by omega
    have u2 : us.length - 1 < us.length := by omega
    have u3 : 1 ≤ us.length := by omega
    have u4 : 0 < us.length := by omega
    have u5 : (us.length : Int) - 1 < (us.length : Int) := by omega
    have PTd := Seg.hid (PQ.out.later (w8 := wq.drew) ((Below.refl _ _).drew))
    have EJ := PTd.out.grow.el (us.length - 1) u2
    obtain ⟨A3, c3', hF3⟩ := EJ.2.form
    obtain ⟨_, F1, P1, hL1, o1', p1'⟩ := EJ.2
    replace hF3 : F8 ((us.length - 1) * 2 + 1) = .slice A3 (us.getD (us.length - 1) default).bats.length c3' := hF3
    replace hL1 : LGr 38 7 EB wq.drew 0 (F8 ((us.length - 1) * 2 + 1)) (us.getD (us.length - 1) default).bats F1 P1 := hL1
    replace o1' : ∀ x, (F8 ((us.length - 1) * 2 + 1)).ownBlock = some x → P8 (us.length - 1) x := o1'
    replace p1' : ∀ i, i < (us.getD (us.length - 1) default).bats.length → ∀ x, P1 i x → P8 (us.length - 1) x := p1'
    rw [BLQ.out] at hF3 hL1 p1'
    rw [hF3] at hL1 o1'
    have ctg : ∀ wx : World, wx.ownsRow w1.heap.size 55 2 (.slice (some ⟨g, 0, none⟩) us.length cq) us.length ((List.range (us.length * 2)).map F8) → wx.cell? ⟨g, (us.length - 1) * 2 + 1, none⟩ = some (.slice A3 bl.length c3') := fun wx hx => by
      rw [World.ownsRow.cellAt hx ((us.length - 1) * 2 + 1) (by omega), List.getElem?_map, List.getElem?_range (by omega), ← hF3]
      rfl
    have t3 := ctg wq PQ.out.grow.own
    have HL1 := Seg.hid hL1
    have glg : g < wq.heap.size := (World.ownsRow.lt PQ.out.grow.own g rfl).2
    have wql : w.heap.size + 1 < wq.heap.size := (Array.getElem?_eq_some_iff.1 Xq.out).1
    obtain ⟨y0, y1, y2, y3, y4, y5, y6⟩ := SEV.out wq Xq.out
    have AFT : Hid (∀ g9 cap9 w9 o9, w9.ownsRow 0 38 7 (.slice (some ⟨g9, 0, none⟩) (bl.length + 1) cap9) (bl.length + 1) ((List.range (bl.length * 7)).map F1 ++ (#[.int .i64 l.next, .int .i64 t.epoch, .int .i64 t.producer, .int .i64 t.turn, .int .i64 t.seq, .int .i64 t.flags, .slice A7 t.recs.length c7] : Array Value).toList) → (wq.drew.alloc o9).grownBy w9 (Value.slice A3 bl.length c3').ownBlock → ((Value.slice A3 bl.length c3').ownBlock = some g9 ∨ g9 = wq.drew.heap.size + 1) → ((∃ F' P', PV wo (w9.setCell ⟨g, (us.length - 1) * 2 + 1, none⟩ (.slice (some ⟨g9, 0, none⟩) (bl.length + 1) cap9)) wy.heap.size w1.heap.size l (.slice (some ⟨g, 0, none⟩) us.length cq) (us.set (us.length - 1) ⟨(us.getD (us.length - 1) default).base, bl ++ [u]⟩) F' P') ∧ OwnR (w9.setCell ⟨g, (us.length - 1) * 2 + 1, none⟩ (.slice (some ⟨g9, 0, none⟩) (bl.length + 1) cap9)) (seg w1.heap.size w2.heap.size) (.slice A7 t.recs.length c7) t.recs) ∧ w9.cell? ⟨g, (us.length - 1) * 2 + 1, none⟩ = some (.slice A3 bl.length c3') ∧ w9.frozen? ⟨g, (us.length - 1) * 2 + 1, none⟩ = false) := fun g9 cap9 w9 o9 x1 x2 x3 => by
      have OQd : OwnR wq.drew (seg w1.heap.size w2.heap.size) (.slice A7 t.recs.length c7) u.recs := by rw [HU6.out]; exact LOwn.keep keepsR OQ.out (Nat.le_refl _) (fun _ _ => rfl)
      have gs := x2.size
      rw [hsz] at gs
      replace gs : wq.heap.size + 1 ≤ w9.heap.size := gs
      have wqs := PQ.out.bel.size
      obtain ⟨z1, z2, z3⟩ := PV.appO (t := u) (rv := (.slice A7 t.recs.length c7)) PTd.out u2 HL1.out o1' p1' OQd (fun x hx => by
        obtain ⟨hx1, hx2⟩ := hx
        refine ⟨hx1, ?_, ?_, ?_, fun i hi hp => ?_⟩
        · show x < wq.heap.size; omega
        · have := GLOW.out; omega
        · omega
        · have := QLOW.out i hi x hp; omega) (by omega) (by rw [UARR.out]; exact x1) x2 x3
      refine ⟨⟨z1, LOwn.keep keepsR OQ.out (by simp; omega) (fun x hx => ?_)⟩, ctg w9 z2, World.ownsRow.frozenAt z2 _⟩
      have hx2 := hx.2
      have hgl := GLOW.out
      rw [heap_setCell_other _ _ _ _ (by show x ≠ g; omega), x2.block x (by rw [hsz]; show _ < wq.heap.size + 1; omega) (fun e => by have := QLOW.out _ u2 x (o1' x e.symm); omega), (below1 _ _).block _ (by show _ < wq.heap.size; omega)]
      rfl
    have OWN6 : Hid (∀ o9, (wq.drew.alloc o9).ownsRow 0 38 7 (.slice A3 bl.length c3') bl.length ((List.range (bl.length * 7)).map F1)) := fun o9 => World.ownsRow.alloc HL1.out.own _
    have hl63 : Hid (bl.length + 1 ≤ maxLen) := by show _ ≤ _; unfold maxLen; omega
    have hby : Hid ((bl.length + 1) * 72 ≤ 140737488355328) := by show _ ≤ _; omega
    clear hL1 hF3 o1' p1' EJ PTd PQ ctg HL1 OQ GLOW QLOW
    go_wp2_with fail
    go_region_law
      ((first | (refine step_append_lies _ (by rfl) _ _ _ (by rfl) 0 38 i1 _ 7 72 Tryz.underlying52 hi1 hy0 hy1 hy2 rfl (by decide) (.slice A3 bl.length c3') bl.length ((List.range (bl.length * 7)).map F1) (by rfl) (OWN6.out _) ⟨wq.heap.size, 0, none⟩ 1 1 (#[.int .i64 l.next, .int .i64 t.epoch, .int .i64 t.producer, .int .i64 t.turn, .int .i64 t.seq, .int .i64 t.flags, .slice A7 t.recs.length c7] : Array Value).toList (by rfl) (by rfl) (World.news_of_block (cs := #[.int .i64 l.next, .int .i64 t.epoch, .int .i64 t.producer, .int .i64 t.turn, .int .i64 t.seq, .int .i64 t.flags, .slice A7 t.recs.length c7]) (heap_alloc_new wq.drew _)) (by simp [Value.oneCell']) (by decide) hl63.out hby.out (Nat.zero_le _) (wq.heap.size + 1) (hsz wq.drew _) ?_; intro g9 cap9 w9 hown9 gr9 hat9 hlt9; have D9 := Seg.hid (AFT.out _ _ _ _ hown9 gr9 hat9); have q6 := D9.out.2.1; have p6 := D9.out.2.2; clear hown9 gr9 hat9 hlt9)))
    all_goals
      clear q6 p6 t3 y0 y1 y2 y3 y4 y5 y6 AFT OWN6 oq3
      obtain ⟨wn, hwn⟩ : ∃ wn, w9.setCell ⟨g, (us.length - 1) * 2 + 1, none⟩ (.slice (some ⟨g9, 0, none⟩) (bl.length + 1) cap9) = wn := ⟨_, rfl⟩
      have D10 := Seg.hid D9.out.1
      rw [hwn] at D10 ⊢
      clear hwn D9
      obtain ⟨F10, P10, hP10⟩ := D10.out.1
      have PN := Seg.hid hP10
      have ON := Seg.hid D10.out.2
      clear hP10 D10
      have Xn := Seg.hid ((PN.out.bel.block (w.heap.size + 1) (by omega)).trans Xo.out)
      obtain ⟨y0, y1, y2, y3, y4, y5, y6⟩ := SEV.out wn Xn.out
      have wnl : w.heap.size + 1 < wn.heap.size := (Array.getElem?_eq_some_iff.1 Xn.out).1
      have snn := PN.out.bel.size
      have BN : BatAt wn 0 wn.heap.size (.agg #[.int .i64 l.next, .int .i64 t.epoch, .int .i64 t.producer, .int .i64 t.turn, .int .i64 t.seq, .int .i64 t.flags, .slice A7 t.recs.length c7]) u := by
        rw [← UARR.out]
        exact ⟨_, rfl, by rw [HU6.out]; exact recs_of ON.out (fun x hx => ⟨Nat.zero_le _, by have := hx.2; omega⟩)⟩
      go_wp2_with fail
      refine (BOk.specLast_any _ u wn 0 wn.heap.size BN (Nat.le_refl _)).mono ?_
      rintro e wm ⟨rfl, bm⟩
      rw [LST.out]
      have PM := Seg.hid (PN.out.later bm)
      clear bm BN y0 y1 y2 y3 y4 y5 y6 PN
      obtain ⟨o0, o1, o2, o3⟩ := four PM.out.out
      have f1 := frozen_of_row wm wy.heap.size 1 _ _ PM.out.out
      have OBm := PM.out.hi
      go_upto_region 20 with fail
      have PL := Seg.hid (PM.out.next (l.next + (t.recs.length : Int)) (us.set (us.length - 1) ⟨(us.getD (us.length - 1) default).base, bl ++ [u]⟩))
      clear o0 o1 o2 o3 f1 PM
      generalize wm.setCell ⟨wy.heap.size, 1, none⟩ (.int .i64 (l.next + (t.recs.length : Int))) = wl at *
      have OL := Seg.hid PL.out.out
      have RL := Seg.hid ((PL.out.bel.block (w.heap.size + 1 + 1) (by omega)).trans Ro.out)
      have BL9 : Hid (Below w.heap.size w wl) := Bo.out.trans (PL.out.bel.mono (by omega))
      have H5 := Seg.hid (Cells.there_of RL.out)
      have H4 := Seg.hid (Cells.whole (vs := logArr ⟨l.start, l.next + (t.recs.length : Int), l.roll, []⟩ (.slice (some ⟨g, 0, none⟩) us.length cq)) RL.out rfl)
      have B9 := Seg.hid (Cells.below_setCells (g := w.heap.size + 1 + 1) (by omega) (logArr ⟨l.start, l.next + (t.recs.length : Int), l.roll, []⟩ (.slice (some ⟨g, 0, none⟩) us.length cq)).toList 0 _ _ BL9.out)
      have SGF : Hid (SegsAt (wl.setCells (w.heap.size + 1 + 1) 0 (logArr ⟨l.start, l.next + (t.recs.length : Int), l.roll, []⟩ (.slice (some ⟨g, 0, none⟩) us.length cq)).toList) w.heap.size (wl.setCells (w.heap.size + 1 + 1) 0 (logArr ⟨l.start, l.next + (t.recs.length : Int), l.roll, []⟩ (.slice (some ⟨g, 0, none⟩) us.length cq)).toList).heap.size (.slice (some ⟨g, 0, none⟩) us.length cq) (grow l u)) := by
        rw [GQ.out]
        refine ((PL.out.segs (by rw [List.length_set]; omega)).keep fun x h1 h2 => Cells.heap_setCells_other _ _ (by omega)).mono (by omega) (by rw [Cells.size_setCells]; exact Nat.le_refl _)
      clear PL
      go_wp2_with (first | (refine wpList_load_row rfl 32 _ rfl wy.heap.size rfl _ _ _ _ OL.out Tryz.underlying32 rfl infoN ?_) | (refine wpList_store_mid rfl 32 _ _ rfl (w.heap.size + 1 + 1) 0 (logArr ⟨l.start, l.next + (t.recs.length : Int), l.roll, []⟩ (.slice (some ⟨g, 0, none⟩) us.length cq)) rfl rfl H5.out infoN (logArr_one _ _ rfl) ?_))
      exact bodyPost_ret (v := .tuple #[logVal ⟨l.start, l.next + (t.recs.length : Int), l.roll, []⟩ (.slice (some ⟨g, 0, none⟩) us.length cq), .int .i64 0]) (results_row_tmp rfl _ _ (w.heap.size + 1 + 1) _ (logArr ⟨l.start, l.next + (t.recs.length : Int), l.roll, []⟩ (.slice (some ⟨g, 0, none⟩) us.length cq)) _ _ _ rfl rfl H4.out Tryz.underlying32 rfl infoN) rfl ⟨.slice (some ⟨g, 0, none⟩) us.length cq, by rw [HC0.out, HC.out]; rfl, by rw [HC0.out, HC.out]; exact SGF.out, B9.out⟩
theorem appendS_any (v vb : Value) (l : Lg) (t : Bat) (w : World) (lo b lo2 b2 : Nat) (hv : LogAt w lo b v l) (ht : BatAt w lo2 b2 vb t) (hb : b ≤ w.heap.size) (hb2 : b2 ≤ w.heap.size) (hf : FewL l) (hft : FewB t) (hw : ∀ i, i < l.segs.length → -9223372036854775808 ≤ (l.segs.getD i default).base ∧ (l.segs.getD i default).base ≤ 9223372036854775807) :
    Calls Tryz.prog 6 #[v, vb] w fun e w' => ∃ sv, e = .returned (.tuple #[logVal (appended l t).1 sv, .int .i64 (appended l t).2]) ∧ SegsAt w' w.heap.size w'.heap.size sv (appended l t).1.segs ∧ Below w.heap.size w w' := by
  obtain ⟨sv, rfl, hs⟩ := hv
  obtain ⟨_, ⟨_, A, c, rfl, _⟩, _⟩ := id hs
  obtain ⟨rv, rfl, hr⟩ := ht
  obtain ⟨_, ⟨_, A6, c6, rfl, _⟩, _⟩ := id hr
  exact appendS_core l t A A6 c c6 w lo b lo2 b2 hb hb2 hf hft hw hs hr
end Go.Proofs.YtoplbemolnpngaaGreat.Ft
