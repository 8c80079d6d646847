/- The walk of the law on StoreOk out of the contracts. -/
import Derived.Test.YtdhicmbfknagjaaSoS
import Derived.Test.YtdhicmbfknagjaaSoJ
import Derived.Test.YtdhicmbfknagjaaLsO
namespace Go.Proofs.Ytdhicmbfknagjaa.ExSo
set_option maxRecDepth 8000
open Go.RowKit
open Ls
open SoP
open Recs (hsz below1 below2 chain chainD)
set_option linter.unusedVariables false
theorem later {w w' : World} {S : Nat → Prop} {v : Value} {t : Sto} (h : StoAt w S v t) (hb : Below w.drew.heap.size w.drew w') (hS : ∀ g, S g → g < w.heap.size) : StoAt w' S v t := h.keep fun g hg => hb.block g (hS g hg)
theorem cellsOf {w : World} {g ty : Nat} {za zb zc : Value} (h : w.heap[g]? = some (.cells #[za, zb, zc] ty (0, 0))) : w.cell? ⟨g, 0, none⟩ = some za ∧ w.cell? ⟨g, 1, none⟩ = some zb ∧ w.cell? ⟨g, 2, none⟩ = some zc :=
  ⟨cell_of_row w g 0 _ _ (0, 0) h, cell_of_row w g 1 _ _ (0, 0) h, cell_of_row w g 2 _ _ (0, 0) h⟩
set_option maxHeartbeats 1600000 in
theorem walk (v : Value) (t : Sto) (w : World) (hv : StoAt w (All w) v t) (hf : FineSto t) :
    Calls Try.prog 3 #[v] w fun e w' => e = .returned (.bool true) ∧ Below w.heap.size w w' := by
  have HV := Seg.hid hv
  obtain ⟨A0, aq0, A1, aq1, rfl⟩ := form hv
  have HF := Seg.hid hf
  clear hf hv
  go_enter Try.func3, Try.ntmps3
  go_wp2_with fail
  refine (szStore_any _ t _ (w.alloc _) (All w) (by omega) (by omega) (HV.out.below (below1 w _) (fun g hg => hg)) (fun g hg => by rw [hsz]; have : g < w.heap.size := hg; omega) HF.out).mono ?_
  rintro e w1 ⟨q, rfl, q1, q2, q3, b1⟩
  have B1 := Seg.hid (chain (below1 w _) b1)
  have T1 : Hid (w1.heap[w.heap.size]? = some (.cells #[.slice A0 t.logs.length aq0, .slice A1 t.txns.length aq1, .int .i64 t.used] 25 (0, 0))) := (b1.block w.heap.size (by rw [hsz]; omega)).trans (heap_alloc_new _ _)
  clear b1
  by_cases hq : q < 0
  · go_wp2
    go_ret
    exact ⟨rfl, B1.out⟩
  have FW : Hid (szSto t ≤ 1048576) := by show _ ≤ _; have := q3.1 (by omega); omega
  have s1 := B1.out.size
  have z1 : w.heap.size < w1.heap.size := (Array.getElem?_eq_some_iff.1 T1.out).1
  clear q3
  go_wp2_with (refine wpList_load_row rfl 25 _ rfl w.heap.size rfl _ _ _ _ T1.out Try.underlying25 rfl infoLSto ?_)
  refine (toStore_any _ t w1 (All w) (HV.out.below B1.out (fun g hg => hg)) (fun g hg => Nat.lt_of_lt_of_le hg s1) FW.out).mono ?_
  rintro e w2 ⟨v2, rfl, r2, b2⟩
  have R2 := Seg.hid r2
  have B2 := Seg.hid (chain B1.out b2)
  have T2 := Seg.hid ((b2.block w.heap.size z1).trans T1.out)
  have s2 := b2.size
  clear r2 b2
  obtain ⟨C0, cq0, C1, cq1, hv2⟩ := form R2.out
  rw [hv2] at R2
  subst hv2
  go_wp2_with fail
  refine (SoS.spec_any _ t w2 _ _ R2.out (Nat.le_refl _) FW.out HF.out).mono ?_
  rintro e w3 ⟨rfl, b3⟩
  have B3 := Seg.hid (chain B2.out b3)
  have T3 := Seg.hid ((b3.block w.heap.size (by omega)).trans T2.out)
  have s3 := b3.size
  clear b3
  go_wp2_with (refine wpList_load_row rfl 25 _ rfl w.heap.size rfl _ _ _ _ T3.out Try.underlying25 rfl infoLSto ?_)
  refine (toStore_any _ t w3 (All w) (HV.out.below B3.out (fun g hg => hg)) (fun g hg => Nat.lt_of_lt_of_le hg (by omega)) FW.out).mono ?_
  rintro e w4 ⟨v4, rfl, r4, b4⟩
  have R4 := Seg.hid r4
  have B4 := Seg.hid (chain B3.out b4)
  have T4 := Seg.hid ((b4.block w.heap.size (by omega)).trans T3.out)
  have s4 := b4.size
  clear b4
  obtain ⟨D0, dq0, D1, dq1, hv4⟩ := form r4
  subst hv4
  clear r4
  go_wp2_with fail
  refine (SoJ.impl_any _ t (w4.alloc _) _ _ (R4.out.below (below1 w4 _) (fun g hg => hg.2)) (by rw [hsz]; omega) FW.out HF.out).mono ?_
  rintro e w5 ⟨rfl, b5⟩
  have b45 := chain (below1 w4 _) b5
  have B5 := Seg.hid (chain B4.out b45)
  have T5 := Seg.hid ((b45.block w.heap.size (by omega)).trans T4.out)
  have X5 : Hid (w5.heap[w4.heap.size]? = some (.cells #[.slice D0 t.logs.length dq0, .slice D1 t.txns.length dq1, .int .i64 t.used] 31 (0, 0))) := (b5.block w4.heap.size (by rw [hsz]; omega)).trans (heap_alloc_new _ _)
  have R5 := Seg.hid (R4.out.below b45 (fun g hg => hg.2))
  have s5 : w4.heap.size < w5.heap.size := (Array.getElem?_eq_some_iff.1 X5.out).1
  clear b5 b45
  have hne : (SoP.storeOk t != SoP.storeOk t) = false := by simp
  go_wp2_with fail
  obtain ⟨x0, x1, x2⟩ := cellsOf X5.out
  obtain ⟨d0, d1, d2⟩ := cellsOf T5.out
  go_region_with (first | (go_at_call 9; refine (toStore_any _ t w5.drew (All w) (HV.out.below B5.out.drew (fun g hg => hg)) (fun g hg => Nat.lt_of_lt_of_le hg B5.out.size) FW.out).mono ?_; rintro e w6 ⟨v6, rfl, r6, b6⟩; have R6 := Seg.hid r6; have B6 : Hid (Below w.heap.size w w6) := chainD B5.out b6; have s6 := b6.size; have X6 : Hid (StoAt w6 (seg w3.heap.size w4.heap.size) (.agg #[.slice D0 t.logs.length dq0, .slice D1 t.txns.length dq1, .int .i64 t.used]) t) := later R5.out b6 (fun g hg => Nat.lt_trans hg.2 s5); obtain ⟨j0, j1, j2⟩ := cellsOf ((b6.block w4.heap.size s5).trans X5.out); clear b6 r6) | (go_at_call 11; refine (eqStore_any _ _ t w6 _ _ X6.out R6.out (fun g hg => Nat.lt_of_lt_of_le (Nat.lt_trans hg.2 s5) s6) (fun g hg => hg.2)).mono ?_; rintro e w7 ⟨rfl, b7⟩; have B7 := Seg.hid (chain B6.out b7); clear b7))
  all_goals
    go_wp2
    go_ret
    exact ⟨rfl, B7.out⟩
end Go.Proofs.Ytdhicmbfknagjaa.ExSo
