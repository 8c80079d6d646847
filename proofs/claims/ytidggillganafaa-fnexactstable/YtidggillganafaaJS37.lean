/- The walk of the law on Stable out of the contracts. -/
import Derived.Test.YtidggillganafaaJS29
import Derived.Test.YtidggillganafaaJS36
namespace Go.Proofs.Ytidggillganafaa.ExSt
set_option maxRecDepth 8000
open Go.RowKit
open Recs (hsz below1 below2 chain chainD)
open Bats SegW Segs LogW
set_option linter.unusedVariables false
theorem later {w w' : World} {lo b : Nat} {v : Value} {t : Lg} (h : LogAt w lo b v t) (hb : Below w.drew.heap.size w.drew w') (hl : b ≤ w.heap.size) : LogAt w' lo w'.heap.size v t :=
  (h.keep fun g _ hg => hb.block g (Nat.lt_of_lt_of_le hg hl)).mono (Nat.le_refl _) (Nat.le_trans hl hb.size)
theorem info35 : (Try.prog.info? 24).map (·.size) = some 4 := by kernel_rfl

theorem four {w : World} {g ty : Nat} {t : Lg} {v : Value} (h : w.heap[g]? = some (.cells (logArr t v) ty (0, 0))) : w.cell? ⟨g, 0, none⟩ = some (.int .i64 t.start) ∧ w.cell? ⟨g, 1, none⟩ = some (.int .i64 t.next) ∧ w.cell? ⟨g, 2, none⟩ = some (.int .i64 t.roll) ∧ w.cell? ⟨g, 3, none⟩ = some v :=
  ⟨cell_of_row w g 0 _ _ (0, 0) h, cell_of_row w g 1 _ _ (0, 0) h, cell_of_row w g 2 _ _ (0, 0) h, cell_of_row w g 3 _ _ (0, 0) h⟩
set_option maxHeartbeats 1600000 in
theorem walk (v : Value) (t : Lg) (w : World) (hv : LogAt w 0 w.heap.size v t) (hf : FineL t) :
    Calls Try.prog 3 #[v] w fun e w' => e = .returned (.bool true) ∧ Below w.heap.size w w' := by
  have HV := Seg.hid hv
  obtain ⟨rv, rfl, H, ⟨hn, A, c, rfl, hx1⟩, hx2⟩ := hv
  have HF := Seg.hid hf
  clear hf hx1 hx2
  unfold logVal at HV ⊢
  go_enter Try.func3, Try.ntmps3
  go_wp2_with fail
  refine (LogW.szLog_any _ t _ (w.alloc _) 0 w.heap.size (by omega) (by omega) (HV.out.below (below1 w _)) (by rw [hsz]; omega) HF.out).mono ?_
  rintro e w1 ⟨q, rfl, q1, q2, q3, b1⟩
  have B1 := Seg.hid (chain (below1 w _) b1)
  have T1 : Hid (w1.heap[w.heap.size]? = some (.cells (logArr t (.slice A t.segs.length c)) 24 (0, 0))) := (b1.block w.heap.size (by rw [hsz]; omega)).trans (heap_alloc_new _ _)
  clear b1
  by_cases hq : q < 0
  · go_wp2
    go_ret
    exact ⟨rfl, B1.out⟩
  have FW := Seg.hid (q3 (by omega))
  have s1 := B1.out.size
  have z1 : w.heap.size < w1.heap.size := (Array.getElem?_eq_some_iff.1 T1.out).1
  clear q3
  go_wp2_with (refine wpList_load_row rfl 24 _ rfl w.heap.size rfl _ _ _ _ T1.out Try.underlying24 rfl info35 ?_)
  refine (LogW.toLog_any _ t w1 0 w.heap.size (HV.out.below B1.out) s1 FW.out).mono ?_
  rintro e w2 ⟨v2, rfl, r2, b2⟩
  have R2 := Seg.hid r2
  have B2 := Seg.hid (chain B1.out b2)
  have T2 := Seg.hid ((b2.block w.heap.size z1).trans T1.out)
  have s2 := b2.size
  clear r2 b2
  go_wp2_with fail
  refine (SdS.stable_any _ t w2 _ _ R2.out (Nat.le_refl _) FW.out (fun i hi => (HF.out.2 i hi).2)).mono ?_
  rintro e w3 ⟨rfl, b3⟩
  have B3 := Seg.hid (chain B2.out b3)
  have T3 := Seg.hid ((b3.block w.heap.size (by omega)).trans T2.out)
  have s3 := b3.size
  clear b3
  go_wp2_with (refine wpList_load_row rfl 24 _ rfl w.heap.size rfl _ _ _ _ T3.out Try.underlying24 rfl info35 ?_)
  refine (LogW.toLog_any _ t w3 0 w.heap.size (HV.out.below B3.out) (by omega) FW.out).mono ?_
  rintro e w4 ⟨v4, rfl, r4, b4⟩
  have R4 := Seg.hid r4
  have B4 := Seg.hid (chain B3.out b4)
  have T4 := Seg.hid ((b4.block w.heap.size (by omega)).trans T3.out)
  have s4 := b4.size
  clear b4
  obtain ⟨rv4, rfl, H4, ⟨hn4, A4, c4, rfl, hx3⟩, hx4⟩ := r4
  clear hx3 hx4
  unfold logVal at R4 ⊢
  go_wp2_with fail
  refine (SdK.stable_any _ t (w4.alloc _) _ w4.heap.size (R4.out.below (below1 w4 _)) (by rw [hsz]; omega) FW.out).mono ?_
  rintro e w5 ⟨rfl, b5⟩
  have b45 := chain (below1 w4 _) b5
  have B5 := Seg.hid (chain B4.out b45)
  have T5 := Seg.hid ((b45.block w.heap.size (by omega)).trans T4.out)
  have X5 : Hid (w5.heap[w4.heap.size]? = some (.cells (logArr t (.slice A4 t.segs.length c4)) 29 (0, 0))) := (b5.block w4.heap.size (by rw [hsz]; omega)).trans (heap_alloc_new _ _)
  have R5 := Seg.hid (R4.out.below b45)
  have s5 : w4.heap.size < w5.heap.size := (Array.getElem?_eq_some_iff.1 X5.out).1
  clear b5 b45
  have hne : (SdP.stable t != SdP.stable t) = false := by simp
  go_wp2_with fail
  obtain ⟨c0, c1, c2, c3⟩ := four X5.out
  obtain ⟨d0, d1, d2, d3⟩ := four T5.out
  go_region_with (first | (go_at_call 7; refine (LogW.toLog_any _ t w5.drew 0 w.heap.size (HV.out.below B5.out.drew) B5.out.size FW.out).mono ?_; rintro e w6 ⟨v6, rfl, r6, b6⟩; have R6 := Seg.hid r6; have B6 : Hid (Below w.heap.size w w6) := chainD B5.out b6; have X6 : Hid (LogAt w6 w3.heap.size w6.heap.size (.agg (logArr t (.slice A4 t.segs.length c4))) t) := later R5.out b6 (Nat.le_of_lt s5); obtain ⟨j0, j1, j2, j3⟩ := four ((b6.block w4.heap.size s5).trans X5.out); clear b6 r6) | (go_at_call 9; refine (LogW.eqLog_any _ _ t w6 _ _ w6.heap.size X6.out R6.out (Nat.le_refl _)).mono ?_; rintro e w7 ⟨rfl, b7⟩; have B7 := Seg.hid (chain B6.out b7); clear b7))
  all_goals
    go_wp2
    go_ret
    exact ⟨rfl, B7.out⟩

end Go.Proofs.Ytidggillganafaa.ExSt
