/- The walk of the law on Fits out of the contracts. -/
import Derived.Test.YthohpaljkbnkeaaFtM
import Derived.Test.YthohpaljkbnkeaaFtI
import Derived.Test.YthohpaljkbnkeaaLsO
import Derived.Deep.RegionHeld3
import Derived.Deep.RegionLaw
namespace Go.Proofs.Ythohpaljkbnkeaa.ExFi
set_option maxRecDepth 8000
open Go.RowKit
open Ls Lp
open ScP FtP ScI
open Recs (hsz below1 below2 below3 chain chainD)
set_option linter.unusedVariables false
theorem cells2 {w : World} {g ty : Nat} {za zb : Value} (h : w.heap[g]? = some (.cells #[za, zb] ty (0, 0))) : w.cell? ⟨g, 0, none⟩ = some za ∧ w.cell? ⟨g, 1, none⟩ = some zb :=
  ⟨cell_of_row w g 0 _ _ (0, 0) h, cell_of_row w g 1 _ _ (0, 0) h⟩
set_option maxHeartbeats 6400000 in
theorem walk (u0 : Int) (v1 : Value) (u1 : List Sch) (v2 : Value) (u2 : Sch) (w : World) (hv1 : LAt 2 ESch w (All w) v1 u1) (hf1 : FineL FineSch u1) (hv2 : SchAt w (All w) v2 u2) (hf2 : FineSch u2) :
    Calls Try.prog 7 #[.int .i64 u0, v1, v2] w fun e w' => e = .returned (.bool true) ∧ Below w.heap.size w w' := by
  have HV1 := Seg.hid hv1
  obtain ⟨A1, c1, rfl⟩ := hv1.form
  have HF1 := Seg.hid hf1
  have HV2 := Seg.hid hv2
  obtain ⟨A2_1, a2_q1, rfl⟩ := FSch.form hv2
  have HF2 := Seg.hid hf2
  clear hv1 hf1 hv2 hf2
  go_enter Try.func7, Try.ntmps7
  go_wp2_with fail
  refine (szSchemaS_any _ u1 _ (w.alloc _) (All w) (by omega) (by omega) (LAt.below keepsSch (HV1.out) (below1 w _) (fun g hg => hg)) (fun g hg => Nat.lt_of_lt_of_le hg (below1 w _).size) HF1.out).mono ?_
  rintro e w1 ⟨q1, rfl, qa1, qb1, qc1, b1⟩
  have B1 := Seg.hid (chain (below1 w _) b1)
  have P1_2 : Hid (w1.heap[w.heap.size]? = some (.cells #[.string u2.name, .slice A2_1 u2.fields.length a2_q1] 39 (0, 0))) := (b1.block (w.heap.size) (by rw [hsz]; omega)).trans (heap_alloc_new _ _)
  clear b1
  by_cases hq1 : q1 < 0
  · go_wp2
    go_ret
    exact ⟨rfl, B1.out⟩
  have FW1 : Hid (szL szSch u1 ≤ 1048576) := by show _ ≤ _; have := qc1.1 (by omega); omega
  clear qc1
  go_wp2_with (refine wpList_load_row rfl 39 _ rfl (w.heap.size) rfl _ _ _ _ P1_2.out Try.underlying39 rfl infoLSch ?_)
  refine (szSchema_any _ u2 _ w1 (All w) (by omega) (by omega) ((HV2.out).below B1.out (fun g hg => hg)) (fun g hg => Nat.lt_of_lt_of_le hg B1.out.size) HF2.out).mono ?_
  rintro e w2 ⟨q2, rfl, qa2, qb2, qc2, b2⟩
  have B2 := Seg.hid (chain B1.out b2)
  have P2_2 := Seg.hid ((b2.block (w.heap.size) (Array.getElem?_eq_some_iff.1 P1_2.out).1).trans P1_2.out)
  clear b2
  by_cases hq2 : q2 < 0
  · go_wp2
    go_ret
    exact ⟨rfl, B2.out⟩
  have FW2 : Hid (szSch u2 ≤ 1048576) := by show _ ≤ _; have := qc2.1 (by omega); omega
  clear qc2
  have z2_2 : w.heap.size < w2.heap.size := (Array.getElem?_eq_some_iff.1 P2_2.out).1
  go_wp2_with fail
  obtain ⟨c2_0, c2_1⟩ := cells2 P2_2.out
  go_region_held3 (fun w' => w'.cell? ⟨w.heap.size, 0, none⟩ = some (.string u2.name) ∧ w'.cell? ⟨w.heap.size, 1, none⟩ = some (.slice A2_1 u2.fields.length a2_q1)) (first | exact ⟨c2_0, c2_1⟩ | exact ⟨d2_0, d2_1⟩ | exact ⟨e2_0, e2_1⟩ | exact ⟨f2_0, f2_1⟩ | go_keep) (first | (go_at_call 28; first | (refine (toSchemaS_any _ u1 wc2 (All w) (LAt.below keepsSch (HV1.out) BC2.out (fun g hg => hg)) (fun g hg => Nat.lt_of_lt_of_le hg BC2.out.size) FW1.out).mono ?_; rintro e wd ⟨vc1, rfl, rc1, bc1⟩; have BD := Seg.hid (chain BC2.out bc1); have ND := Seg.hid (chain NC2.out bc1); have RD1 : Hid (LAt 2 ESch wd (seg w2.heap.size wd.heap.size) vc1 u1) := LAt.mono growsSch (rc1) (fun g hg => ⟨Nat.le_trans NC2.out.size hg.1, hg.2⟩); have RD2 : Hid (SchAt wd (seg w2.heap.size wd.heap.size) vc2 u2) := (((RC2.out).below bc1 (fun g hg => hg.2))).mono (fun g hg => ⟨hg.1, Nat.lt_of_lt_of_le hg.2 bc1.size⟩); clear rc1 bc1; have e2_0 := (ND.out.cell (p := ⟨w.heap.size, 0, none⟩) z2_2).trans c2_0; have e2_1 := (ND.out.cell (p := ⟨w.heap.size, 1, none⟩) z2_2).trans c2_1) | (refine (toSchemaS_any _ u1 w2.drew (All w) (LAt.below keepsSch (HV1.out) B2.out.drew (fun g hg => hg)) (fun g hg => Nat.lt_of_lt_of_le hg B2.out.size) FW1.out).mono ?_; rintro e wc1 ⟨vc1, rfl, rc1, bc1⟩; have BC1 := Seg.hid (chainD B2.out bc1); have NC1 : Hid (Below w2.heap.size w2 wc1) := ⟨bc1.os, bc1.tape, bc1.output, bc1.size, bc1.block⟩; have RC1 : Hid (LAt 2 ESch wc1 (seg w2.heap.size wc1.heap.size) vc1 u1) := rc1; clear rc1 bc1; have d2_0 := (NC1.out.cell (p := ⟨w.heap.size, 0, none⟩) z2_2).trans c2_0; have d2_1 := (NC1.out.cell (p := ⟨w.heap.size, 1, none⟩) z2_2).trans c2_1)) | (go_at_call 23; first | (refine (toSchema_any _ u2 wc1 (All w) ((HV2.out).below BC1.out (fun g hg => hg)) (fun g hg => Nat.lt_of_lt_of_le hg BC1.out.size) FW2.out).mono ?_; rintro e wd ⟨vc2, rfl, rc2, bc2⟩; have BD := Seg.hid (chain BC1.out bc2); have ND := Seg.hid (chain NC1.out bc2); have RD2 : Hid (SchAt wd (seg w2.heap.size wd.heap.size) vc2 u2) := (rc2).mono (fun g hg => ⟨Nat.le_trans NC1.out.size hg.1, hg.2⟩); have RD1 : Hid (LAt 2 ESch wd (seg w2.heap.size wd.heap.size) vc1 u1) := LAt.mono growsSch ((LAt.below keepsSch (RC1.out) bc2 (fun g hg => hg.2))) (fun g hg => ⟨hg.1, Nat.lt_of_lt_of_le hg.2 bc2.size⟩); clear rc2 bc2; have e2_0 := (ND.out.cell (p := ⟨w.heap.size, 0, none⟩) z2_2).trans c2_0; have e2_1 := (ND.out.cell (p := ⟨w.heap.size, 1, none⟩) z2_2).trans c2_1) | (refine (toSchema_any _ u2 w2.drew (All w) ((HV2.out).below B2.out.drew (fun g hg => hg)) (fun g hg => Nat.lt_of_lt_of_le hg B2.out.size) FW2.out).mono ?_; rintro e wc2 ⟨vc2, rfl, rc2, bc2⟩; have BC2 := Seg.hid (chainD B2.out bc2); have NC2 : Hid (Below w2.heap.size w2 wc2) := ⟨bc2.os, bc2.tape, bc2.output, bc2.size, bc2.block⟩; have RC2 : Hid (SchAt wc2 (seg w2.heap.size wc2.heap.size) vc2 u2) := rc2; clear rc2 bc2; have d2_0 := (NC2.out.cell (p := ⟨w.heap.size, 0, none⟩) z2_2).trans c2_0; have d2_1 := (NC2.out.cell (p := ⟨w.heap.size, 1, none⟩) z2_2).trans c2_1)) | (go_at_call 27; refine (FtM.spec_any u0 _ _ u1 u2 wd (seg w2.heap.size wd.heap.size) RD1.out RD2.out (fun g hg => hg.2) FW1.out FW2.out).mono ?_; rintro e w3 ⟨rfl, b3⟩; have N3 := Seg.hid (chain ND.out b3); have B3 := Seg.hid (chain BD.out b3); clear b3; have f2_0 := (N3.out.cell (p := ⟨w.heap.size, 0, none⟩) z2_2).trans c2_0; have f2_1 := (N3.out.cell (p := ⟨w.heap.size, 1, none⟩) z2_2).trans c2_1))
  all_goals
    clear c2_0 c2_1 f2_0 f2_1
    have P3_2 := Seg.hid ((N3.out.block (w.heap.size) z2_2).trans P2_2.out)
    have z3_2 : w.heap.size < w3.heap.size := (Array.getElem?_eq_some_iff.1 P3_2.out).1
    go_wp2_with fail
    refine (toSchemaS_any _ u1 w3 (All w) (LAt.below keepsSch (HV1.out) B3.out (fun g hg => hg)) (fun g hg => Nat.lt_of_lt_of_le hg (B3.out).size) FW1.out).mono ?_
    rintro e w4 ⟨vx1, rfl, rx1, b4⟩
    have N4 := Seg.hid b4
    have B4 := Seg.hid (chain B3.out N4.out)
    have RX4_1 : Hid (LAt 2 ESch w4 (seg w3.heap.size w4.heap.size) vx1 u1) := LAt.mono growsSch (rx1) (fun g hg => ⟨Nat.le_trans (Nat.le_refl _) hg.1, hg.2⟩)
    have P4_2 := Seg.hid ((N4.out.block (w.heap.size) z3_2).trans P3_2.out)
    have z4_2 : w.heap.size < w4.heap.size := (Array.getElem?_eq_some_iff.1 P4_2.out).1
    have s4 : w3.heap.size ≤ w4.heap.size := N4.out.size
    obtain ⟨D1, d1q, hvx1⟩ := rx1.form
    subst hvx1
    clear rx1 b4
    go_wp2_with (refine wpList_load_row rfl 39 _ rfl (w.heap.size) rfl _ _ _ _ P4_2.out Try.underlying39 rfl infoLSch ?_)
    refine (toSchema_any _ u2 w4 (All w) ((HV2.out).below B4.out (fun g hg => hg)) (fun g hg => Nat.lt_of_lt_of_le hg (B4.out).size) FW2.out).mono ?_
    rintro e w5 ⟨vx2, rfl, rx2, b5⟩
    have N5 := Seg.hid b5
    have B5 := Seg.hid (chain B4.out N5.out)
    have RX5_2 : Hid (SchAt w5 (seg w4.heap.size w5.heap.size) vx2 u2) := (rx2).mono (fun g hg => ⟨Nat.le_trans (Nat.le_refl _) hg.1, hg.2⟩)
    have RX5_1 := Seg.hid (LAt.below keepsSch (RX4_1.out) N5.out (fun g hg => Nat.lt_of_lt_of_le hg.2 (by omega)))
    have P5_2 := Seg.hid ((N5.out.block (w.heap.size) z4_2).trans P4_2.out)
    have z5_2 : w.heap.size < w5.heap.size := (Array.getElem?_eq_some_iff.1 P5_2.out).1
    have s5 : w4.heap.size ≤ w5.heap.size := N5.out.size
    obtain ⟨D2_1, d2_q1, hvx2⟩ := FSch.form rx2
    subst hvx2
    clear rx2 b5
    go_wp2_with fail
    refine (FtI.impl_any u0 _ _ u1 u2 (w5.alloc _) (seg w3.heap.size w5.heap.size) (LAt.mono growsSch (LAt.below keepsSch (RX5_1.out) (below1 w5 _) (fun g hg => Nat.lt_of_lt_of_le hg.2 (by omega))) (fun g hg => ⟨Nat.le_trans (by omega) hg.1, Nat.lt_of_lt_of_le hg.2 (by omega)⟩)) (((RX5_2.out).below (below1 w5 _) (fun g hg => Nat.lt_of_lt_of_le hg.2 (by omega))).mono (fun g hg => ⟨Nat.le_trans (by omega) hg.1, Nat.lt_of_lt_of_le hg.2 (by omega)⟩)) (fun g hg => by rw [hsz]; have := hg.2; omega) FW1.out FW2.out).mono ?_
    rintro e w6 ⟨rfl, b6⟩
    have N6 := Seg.hid (chain (below1 w5 _) b6)
    have B6 := Seg.hid (chain B5.out N6.out)
    have X6_2 : Hid (w6.heap[w5.heap.size]? = some (.cells #[.string u2.name, .slice D2_1 u2.fields.length d2_q1] 44 (0, 0))) := (b6.block w5.heap.size (by rw [hsz]; omega)).trans (heap_alloc_new _ _)
    have RX6_1 := Seg.hid (LAt.below keepsSch (RX5_1.out) N6.out (fun g hg => Nat.lt_of_lt_of_le hg.2 (by omega)))
    have RX6_2 := Seg.hid ((RX5_2.out).below N6.out (fun g hg => Nat.lt_of_lt_of_le hg.2 (by omega)))
    have P6_2 := Seg.hid ((N6.out.block (w.heap.size) z5_2).trans P5_2.out)
    have z6_2 : w.heap.size < w6.heap.size := (Array.getElem?_eq_some_iff.1 P6_2.out).1
    have s6 : w5.heap.size ≤ w6.heap.size := N6.out.size
    clear b6
    have hne : (fitP u0 u1 u2 != fitP u0 u1 u2) = false := by simp
    go_wp2_with fail
    refine (toSchemaS_any _ u1 w6 (All w) (LAt.below keepsSch (HV1.out) B6.out (fun g hg => hg)) (fun g hg => Nat.lt_of_lt_of_le hg B6.out.size) FW1.out).mono ?_
    rintro e w7 ⟨vz1, rfl, rz1, b7⟩
    have N7 := Seg.hid b7
    have RZ1 := Seg.hid rz1
    have RY1 := Seg.hid (LAt.below keepsSch (RX6_1.out) N7.out (fun g hg => Nat.lt_of_lt_of_le hg.2 (by omega)))
    have s7 : w6.heap.size ≤ w7.heap.size := N7.out.size
    clear rz1 b7
    obtain ⟨Z1, z1q, hvz1⟩ := RZ1.out.form
    subst hvz1
    go_wp2_with fail
    refine (eqSchemaS_any _ _ u1 w7 _ _ RY1.out RZ1.out (fun g hg => Nat.lt_of_lt_of_le hg.2 (by omega)) (fun g hg => hg.2)).mono ?_
    rintro e w8 ⟨rfl, b8⟩
    have N8 := Seg.hid (chain N7.out b8)
    clear b8
    have B8 := Seg.hid (chain B6.out N8.out)
    have s8 : w6.heap.size ≤ w8.heap.size := N8.out.size
    have X8_2 := Seg.hid ((N8.out.block w5.heap.size (Array.getElem?_eq_some_iff.1 X6_2.out).1).trans X6_2.out)
    have RX8_1 := Seg.hid (LAt.below keepsSch (RX6_1.out) N8.out (fun g hg => Nat.lt_of_lt_of_le hg.2 (by omega)))
    have RX8_2 := Seg.hid ((RX6_2.out).below N8.out (fun g hg => Nat.lt_of_lt_of_le hg.2 (by omega)))
    have P8_2 := Seg.hid ((N8.out.block (w.heap.size) z6_2).trans P6_2.out)
    have z8_2 : w.heap.size < w8.heap.size := (Array.getElem?_eq_some_iff.1 P8_2.out).1
    go_wp2_with fail
    obtain ⟨x1_0, x1_1⟩ := cells2 X8_2.out
    obtain ⟨y1_0, y1_1⟩ := cells2 P8_2.out
    have hx1 : w5.heap.size < w8.heap.size := (Array.getElem?_eq_some_iff.1 X8_2.out).1
    go_region_held3 (fun w' => w'.cell? ⟨w5.heap.size, 0, none⟩ = some (.string u2.name) ∧ w'.cell? ⟨w5.heap.size, 1, none⟩ = some (.slice D2_1 u2.fields.length d2_q1) ∧ w'.cell? ⟨w.heap.size, 0, none⟩ = some (.string u2.name) ∧ w'.cell? ⟨w.heap.size, 1, none⟩ = some (.slice A2_1 u2.fields.length a2_q1)) (first | exact ⟨x1_0, x1_1, y1_0, y1_1⟩ | exact ⟨p1_0, p1_1, o1_0, o1_1⟩ | exact ⟨s1_0, s1_1, t1_0, t1_1⟩ | go_keep) (first | (go_at_call 23; refine (toSchema_any _ u2 w8.drew (All w) ((HV2.out).below B8.out.drew (fun g hg => hg)) (fun g hg => Nat.lt_of_lt_of_le hg B8.out.size) FW2.out).mono ?_; rintro e w9 ⟨vz2, rfl, rz2, b9⟩; have N9 : Hid (Below w8.heap.size w8 w9) := ⟨b9.os, b9.tape, b9.output, b9.size, b9.block⟩; have RZ2 : Hid (SchAt w9 (seg w8.heap.size w9.heap.size) vz2 u2) := rz2; have RY2 := Seg.hid ((RX8_2.out).below N9.out (fun g hg => Nat.lt_of_lt_of_le hg.2 (by omega))); have s9 : w8.heap.size ≤ w9.heap.size := N9.out.size; clear rz2 b9; have p1_0 := (N9.out.cell (p := ⟨w5.heap.size, 0, none⟩) hx1).trans x1_0; have p1_1 := (N9.out.cell (p := ⟨w5.heap.size, 1, none⟩) hx1).trans x1_1; have o1_0 := (N9.out.cell (p := ⟨w.heap.size, 0, none⟩) z8_2).trans y1_0; have o1_1 := (N9.out.cell (p := ⟨w.heap.size, 1, none⟩) z8_2).trans y1_1) | (go_at_call 25; refine (eqSchema_any _ _ u2 w9 _ _ RY2.out RZ2.out (fun g hg => Nat.lt_of_lt_of_le hg.2 (by omega)) (fun g hg => hg.2)).mono ?_; rintro e w10 ⟨rfl, b10⟩; have N10 := Seg.hid (chain N9.out b10); clear b10; have s1_0 := (N10.out.cell (p := ⟨w5.heap.size, 0, none⟩) hx1).trans x1_0; have s1_1 := (N10.out.cell (p := ⟨w5.heap.size, 1, none⟩) hx1).trans x1_1; have t1_0 := (N10.out.cell (p := ⟨w.heap.size, 0, none⟩) z8_2).trans y1_0; have t1_1 := (N10.out.cell (p := ⟨w.heap.size, 1, none⟩) z8_2).trans y1_1))
    clear x1_0 x1_1 y1_0 y1_1 p1_0 p1_1 o1_0 o1_1 s1_0 s1_1 t1_0 t1_1
    have B10 := Seg.hid (chain B8.out N10.out)
    have s10 : w8.heap.size ≤ w10.heap.size := N10.out.size
    go_wp2
    go_ret
    exact ⟨rfl, B10.out⟩
end Go.Proofs.Ythohpaljkbnkeaa.ExFi
