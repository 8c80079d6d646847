/- The walk of the law on CanRead out of the contracts. -/
import Derived.Test.YthohpaljkbnkeaaCrS
import Derived.Test.YthohpaljkbnkeaaCrI
import Derived.Test.YthohpaljkbnkeaaLsO
import Derived.Deep.RegionHeld3
import Derived.Deep.RegionLaw
namespace Go.Proofs.Ythohpaljkbnkeaa.ExCr
set_option maxRecDepth 8000
open Go.RowKit
open Ls Lp
open ScP CrP ScI
open Recs (hsz below1 below2 below3 chain chainD)
set_option linter.unusedVariables false
theorem cells0 {w : World} {g ty : Nat} {za zb : Value} (h : w.heap[g]? = some (.cells #[za, zb] ty (0, 0))) : w.cell? ⟨g, 0, none⟩ = some za ∧ w.cell? ⟨g, 1, none⟩ = some zb :=
  ⟨cell_of_row w g 0 _ _ (0, 0) h, cell_of_row w g 1 _ _ (0, 0) h⟩
theorem cells1 {w : World} {g ty : Nat} {za zb : Value} (h : w.heap[g]? = some (.cells #[za, zb] ty (0, 0))) : w.cell? ⟨g, 0, none⟩ = some za ∧ w.cell? ⟨g, 1, none⟩ = some zb :=
  ⟨cell_of_row w g 0 _ _ (0, 0) h, cell_of_row w g 1 _ _ (0, 0) h⟩
set_option maxHeartbeats 6400000 in
theorem walk (v0 : Value) (u0 : Sch) (v1 : Value) (u1 : Sch) (w : World) (hv0 : SchAt w (All w) v0 u0) (hf0 : FineSch u0) (hv1 : SchAt w (All w) v1 u1) (hf1 : FineSch u1) :
    Calls Try.prog 8 #[v0, v1] w fun e w' => e = .returned (.bool true) ∧ Below w.heap.size w w' := by
  have HV0 := Seg.hid hv0
  obtain ⟨A0_1, a0_q1, rfl⟩ := FSch.form hv0
  have HF0 := Seg.hid hf0
  have HV1 := Seg.hid hv1
  obtain ⟨A1_1, a1_q1, rfl⟩ := FSch.form hv1
  have HF1 := Seg.hid hf1
  clear hv0 hf0 hv1 hf1
  go_enter Try.func8, Try.ntmps8
  go_wp2_with fail
  refine (szSchema_any _ u0 _ ((w.alloc _).alloc _) (All w) (by omega) (by omega) ((HV0.out).below (below2 w _ _) (fun g hg => hg)) (fun g hg => Nat.lt_of_lt_of_le hg (below2 w _ _).size) HF0.out).mono ?_
  rintro e w1 ⟨q0, rfl, qa0, qb0, qc0, b1⟩
  have B1 := Seg.hid (chain (below2 w _ _) b1)
  have P1_0 : Hid (w1.heap[w.heap.size]? = some (.cells #[.string u0.name, .slice A0_1 u0.fields.length a0_q1] 39 (0, 0))) := (b1.block (w.heap.size) (by rw [hsz, hsz]; omega)).trans (at2z w _ _)
  have P1_1 : Hid (w1.heap[w.heap.size + 1]? = some (.cells #[.string u1.name, .slice A1_1 u1.fields.length a1_q1] 39 (0, 0))) := (b1.block (w.heap.size + 1) (by rw [hsz, hsz]; omega)).trans (at2y w _ _)
  clear b1
  by_cases hq0 : q0 < 0
  · go_wp2
    go_ret
    exact ⟨rfl, B1.out⟩
  have FW0 : Hid (szSch u0 ≤ 1048576) := by show _ ≤ _; have := qc0.1 (by omega); omega
  clear qc0
  go_wp2_with (refine wpList_load_row rfl 39 _ rfl (w.heap.size + 1) rfl _ _ _ _ P1_1.out Try.underlying39 rfl infoLSch ?_)
  refine (szSchema_any _ u1 _ w1 (All w) (by omega) (by omega) ((HV1.out).below B1.out (fun g hg => hg)) (fun g hg => Nat.lt_of_lt_of_le hg B1.out.size) HF1.out).mono ?_
  rintro e w2 ⟨q1, rfl, qa1, qb1, qc1, b2⟩
  have B2 := Seg.hid (chain B1.out b2)
  have P2_0 := Seg.hid ((b2.block (w.heap.size) (Array.getElem?_eq_some_iff.1 P1_0.out).1).trans P1_0.out)
  have P2_1 := Seg.hid ((b2.block (w.heap.size + 1) (Array.getElem?_eq_some_iff.1 P1_1.out).1).trans P1_1.out)
  clear b2
  by_cases hq1 : q1 < 0
  · go_wp2
    go_ret
    exact ⟨rfl, B2.out⟩
  have FW1 : Hid (szSch u1 ≤ 1048576) := by show _ ≤ _; have := qc1.1 (by omega); omega
  clear qc1
  have z2_0 : w.heap.size < w2.heap.size := (Array.getElem?_eq_some_iff.1 P2_0.out).1
  have z2_1 : w.heap.size + 1 < w2.heap.size := (Array.getElem?_eq_some_iff.1 P2_1.out).1
  go_wp2_with fail
  obtain ⟨c0_0, c0_1⟩ := cells0 P2_0.out
  obtain ⟨c1_0, c1_1⟩ := cells1 P2_1.out
  go_region_held3 (fun w' => w'.cell? ⟨w.heap.size, 0, none⟩ = some (.string u0.name) ∧ w'.cell? ⟨w.heap.size, 1, none⟩ = some (.slice A0_1 u0.fields.length a0_q1) ∧ w'.cell? ⟨w.heap.size + 1, 0, none⟩ = some (.string u1.name) ∧ w'.cell? ⟨w.heap.size + 1, 1, none⟩ = some (.slice A1_1 u1.fields.length a1_q1)) (first | exact ⟨c0_0, c0_1, c1_0, c1_1⟩ | exact ⟨d0_0, d0_1, d1_0, d1_1⟩ | exact ⟨e0_0, e0_1, e1_0, e1_1⟩ | exact ⟨f0_0, f0_1, f1_0, f1_1⟩ | go_keep) (first | (go_at_call_of 23 (Value.agg #[Value.string u0.name, Value.slice A0_1 u0.fields.length a0_q1]); first | (refine (toSchema_any _ u0 wc1 (All w) ((HV0.out).below BC1.out (fun g hg => hg)) (fun g hg => Nat.lt_of_lt_of_le hg BC1.out.size) FW0.out).mono ?_; rintro e wd ⟨vc0, rfl, rc0, bc0⟩; have BD := Seg.hid (chain BC1.out bc0); have ND := Seg.hid (chain NC1.out bc0); have RD0 : Hid (SchAt wd (seg w2.heap.size wd.heap.size) vc0 u0) := (rc0).mono (fun g hg => ⟨Nat.le_trans NC1.out.size hg.1, hg.2⟩); have RD1 : Hid (SchAt wd (seg w2.heap.size wd.heap.size) vc1 u1) := (((RC1.out).below bc0 (fun g hg => hg.2))).mono (fun g hg => ⟨hg.1, Nat.lt_of_lt_of_le hg.2 bc0.size⟩); clear rc0 bc0; have e0_0 := (ND.out.cell (p := ⟨w.heap.size, 0, none⟩) z2_0).trans c0_0; have e0_1 := (ND.out.cell (p := ⟨w.heap.size, 1, none⟩) z2_0).trans c0_1; have e1_0 := (ND.out.cell (p := ⟨w.heap.size + 1, 0, none⟩) z2_1).trans c1_0; have e1_1 := (ND.out.cell (p := ⟨w.heap.size + 1, 1, none⟩) z2_1).trans c1_1) | (refine (toSchema_any _ u0 w2.drew (All w) ((HV0.out).below B2.out.drew (fun g hg => hg)) (fun g hg => Nat.lt_of_lt_of_le hg B2.out.size) FW0.out).mono ?_; rintro e wc0 ⟨vc0, rfl, rc0, bc0⟩; have BC0 := Seg.hid (chainD B2.out bc0); have NC0 : Hid (Below w2.heap.size w2 wc0) := ⟨bc0.os, bc0.tape, bc0.output, bc0.size, bc0.block⟩; have RC0 : Hid (SchAt wc0 (seg w2.heap.size wc0.heap.size) vc0 u0) := rc0; clear rc0 bc0; have d0_0 := (NC0.out.cell (p := ⟨w.heap.size, 0, none⟩) z2_0).trans c0_0; have d0_1 := (NC0.out.cell (p := ⟨w.heap.size, 1, none⟩) z2_0).trans c0_1; have d1_0 := (NC0.out.cell (p := ⟨w.heap.size + 1, 0, none⟩) z2_1).trans c1_0; have d1_1 := (NC0.out.cell (p := ⟨w.heap.size + 1, 1, none⟩) z2_1).trans c1_1)) | (go_at_call_of 23 (Value.agg #[Value.string u1.name, Value.slice A1_1 u1.fields.length a1_q1]); first | (refine (toSchema_any _ u1 wc0 (All w) ((HV1.out).below BC0.out (fun g hg => hg)) (fun g hg => Nat.lt_of_lt_of_le hg BC0.out.size) FW1.out).mono ?_; rintro e wd ⟨vc1, rfl, rc1, bc1⟩; have BD := Seg.hid (chain BC0.out bc1); have ND := Seg.hid (chain NC0.out bc1); have RD1 : Hid (SchAt wd (seg w2.heap.size wd.heap.size) vc1 u1) := (rc1).mono (fun g hg => ⟨Nat.le_trans NC0.out.size hg.1, hg.2⟩); have RD0 : Hid (SchAt wd (seg w2.heap.size wd.heap.size) vc0 u0) := (((RC0.out).below bc1 (fun g hg => hg.2))).mono (fun g hg => ⟨hg.1, Nat.lt_of_lt_of_le hg.2 bc1.size⟩); clear rc1 bc1; have e0_0 := (ND.out.cell (p := ⟨w.heap.size, 0, none⟩) z2_0).trans c0_0; have e0_1 := (ND.out.cell (p := ⟨w.heap.size, 1, none⟩) z2_0).trans c0_1; have e1_0 := (ND.out.cell (p := ⟨w.heap.size + 1, 0, none⟩) z2_1).trans c1_0; have e1_1 := (ND.out.cell (p := ⟨w.heap.size + 1, 1, none⟩) z2_1).trans c1_1) | (refine (toSchema_any _ u1 w2.drew (All w) ((HV1.out).below B2.out.drew (fun g hg => hg)) (fun g hg => Nat.lt_of_lt_of_le hg B2.out.size) FW1.out).mono ?_; rintro e wc1 ⟨vc1, rfl, rc1, bc1⟩; have BC1 := Seg.hid (chainD B2.out bc1); have NC1 : Hid (Below w2.heap.size w2 wc1) := ⟨bc1.os, bc1.tape, bc1.output, bc1.size, bc1.block⟩; have RC1 : Hid (SchAt wc1 (seg w2.heap.size wc1.heap.size) vc1 u1) := rc1; clear rc1 bc1; have d0_0 := (NC1.out.cell (p := ⟨w.heap.size, 0, none⟩) z2_0).trans c0_0; have d0_1 := (NC1.out.cell (p := ⟨w.heap.size, 1, none⟩) z2_0).trans c0_1; have d1_0 := (NC1.out.cell (p := ⟨w.heap.size + 1, 0, none⟩) z2_1).trans c1_0; have d1_1 := (NC1.out.cell (p := ⟨w.heap.size + 1, 1, none⟩) z2_1).trans c1_1)) | (go_at_call 31; refine (CrS.spec_any _ _ u0 u1 wd (seg w2.heap.size wd.heap.size) RD0.out RD1.out (fun g hg => hg.2) FW0.out FW1.out).mono ?_; rintro e w3 ⟨rfl, b3⟩; have N3 := Seg.hid (chain ND.out b3); have B3 := Seg.hid (chain BD.out b3); clear b3; have f0_0 := (N3.out.cell (p := ⟨w.heap.size, 0, none⟩) z2_0).trans c0_0; have f0_1 := (N3.out.cell (p := ⟨w.heap.size, 1, none⟩) z2_0).trans c0_1; have f1_0 := (N3.out.cell (p := ⟨w.heap.size + 1, 0, none⟩) z2_1).trans c1_0; have f1_1 := (N3.out.cell (p := ⟨w.heap.size + 1, 1, none⟩) z2_1).trans c1_1))
  all_goals
    clear c0_0 c0_1 c1_0 c1_1 f0_0 f0_1 f1_0 f1_1
    have P3_0 := Seg.hid ((N3.out.block (w.heap.size) z2_0).trans P2_0.out)
    have P3_1 := Seg.hid ((N3.out.block (w.heap.size + 1) z2_1).trans P2_1.out)
    have z3_0 : w.heap.size < w3.heap.size := (Array.getElem?_eq_some_iff.1 P3_0.out).1
    have z3_1 : w.heap.size + 1 < w3.heap.size := (Array.getElem?_eq_some_iff.1 P3_1.out).1
    go_wp2_with (refine wpList_load_row rfl 39 _ rfl (w.heap.size) rfl _ _ _ _ P3_0.out Try.underlying39 rfl infoLSch ?_)
    refine (toSchema_any _ u0 w3 (All w) ((HV0.out).below B3.out (fun g hg => hg)) (fun g hg => Nat.lt_of_lt_of_le hg (B3.out).size) FW0.out).mono ?_
    rintro e w4 ⟨vx0, rfl, rx0, b4⟩
    have N4 := Seg.hid b4
    have B4 := Seg.hid (chain B3.out N4.out)
    have RX4_0 : Hid (SchAt w4 (seg w3.heap.size w4.heap.size) vx0 u0) := (rx0).mono (fun g hg => ⟨Nat.le_trans (Nat.le_refl _) hg.1, hg.2⟩)
    have P4_0 := Seg.hid ((N4.out.block (w.heap.size) z3_0).trans P3_0.out)
    have z4_0 : w.heap.size < w4.heap.size := (Array.getElem?_eq_some_iff.1 P4_0.out).1
    have P4_1 := Seg.hid ((N4.out.block (w.heap.size + 1) z3_1).trans P3_1.out)
    have z4_1 : w.heap.size + 1 < w4.heap.size := (Array.getElem?_eq_some_iff.1 P4_1.out).1
    have s4 : w3.heap.size ≤ w4.heap.size := N4.out.size
    obtain ⟨D0_1, d0_q1, hvx0⟩ := FSch.form rx0
    subst hvx0
    clear rx0 b4
    go_wp2_with (refine wpList_load_row rfl 39 _ rfl (w.heap.size + 1) rfl _ _ _ _ (((below1 w4 _).block (w.heap.size + 1) z4_1).trans P4_1.out) Try.underlying39 rfl infoLSch ?_)
    refine (toSchema_any _ u1 (w4.alloc _) (All w) ((HV1.out).below (chain B4.out (below1 w4 _)) (fun g hg => hg)) (fun g hg => Nat.lt_of_lt_of_le hg ((chain B4.out (below1 w4 _))).size) FW1.out).mono ?_
    rintro e w5 ⟨vx1, rfl, rx1, b5⟩
    have N5 := Seg.hid (chain (below1 w4 _) b5)
    have B5 := Seg.hid (chain B4.out N5.out)
    have X5_0 : Hid (w5.heap[w4.heap.size]? = some (.cells #[.string u0.name, .slice D0_1 u0.fields.length d0_q1] 44 (0, 0))) := (b5.block w4.heap.size (by rw [hsz]; omega)).trans (heap_alloc_new _ _)
    have RX5_1 : Hid (SchAt w5 (seg w4.heap.size w5.heap.size) vx1 u1) := (rx1).mono (fun g hg => ⟨Nat.le_trans ((below1 w4 _).size) hg.1, hg.2⟩)
    have RX5_0 := Seg.hid ((RX4_0.out).below N5.out (fun g hg => Nat.lt_of_lt_of_le hg.2 (by omega)))
    have P5_0 := Seg.hid ((N5.out.block (w.heap.size) z4_0).trans P4_0.out)
    have z5_0 : w.heap.size < w5.heap.size := (Array.getElem?_eq_some_iff.1 P5_0.out).1
    have P5_1 := Seg.hid ((N5.out.block (w.heap.size + 1) z4_1).trans P4_1.out)
    have z5_1 : w.heap.size + 1 < w5.heap.size := (Array.getElem?_eq_some_iff.1 P5_1.out).1
    have s5 : w4.heap.size ≤ w5.heap.size := N5.out.size
    obtain ⟨D1_1, d1_q1, hvx1⟩ := FSch.form rx1
    subst hvx1
    clear rx1 b5
    go_wp2_with (refine wpList_load_row rfl 44 _ rfl (w4.heap.size) rfl _ _ _ _ (((below1 w5 _).block w4.heap.size (Array.getElem?_eq_some_iff.1 X5_0.out).1).trans X5_0.out) Try.underlying44 rfl infoSch ?_)
    refine (CrI.impl_any _ _ u0 u1 (w5.alloc _) (seg w3.heap.size w5.heap.size) (((RX5_0.out).below (below1 w5 _) (fun g hg => Nat.lt_of_lt_of_le hg.2 (by omega))).mono (fun g hg => ⟨Nat.le_trans (by omega) hg.1, Nat.lt_of_lt_of_le hg.2 (by omega)⟩)) (((RX5_1.out).below (below1 w5 _) (fun g hg => Nat.lt_of_lt_of_le hg.2 (by omega))).mono (fun g hg => ⟨Nat.le_trans (by omega) hg.1, Nat.lt_of_lt_of_le hg.2 (by omega)⟩)) (fun g hg => by rw [hsz]; have := hg.2; omega) FW0.out FW1.out).mono ?_
    rintro e w6 ⟨rfl, b6⟩
    have N6 := Seg.hid (chain (below1 w5 _) b6)
    have B6 := Seg.hid (chain B5.out N6.out)
    have X6_1 : Hid (w6.heap[w5.heap.size]? = some (.cells #[.string u1.name, .slice D1_1 u1.fields.length d1_q1] 44 (0, 0))) := (b6.block w5.heap.size (by rw [hsz]; omega)).trans (heap_alloc_new _ _)
    have X6_0 := Seg.hid ((N6.out.block w4.heap.size (Array.getElem?_eq_some_iff.1 X5_0.out).1).trans X5_0.out)
    have RX6_0 := Seg.hid ((RX5_0.out).below N6.out (fun g hg => Nat.lt_of_lt_of_le hg.2 (by omega)))
    have RX6_1 := Seg.hid ((RX5_1.out).below N6.out (fun g hg => Nat.lt_of_lt_of_le hg.2 (by omega)))
    have P6_0 := Seg.hid ((N6.out.block (w.heap.size) z5_0).trans P5_0.out)
    have z6_0 : w.heap.size < w6.heap.size := (Array.getElem?_eq_some_iff.1 P6_0.out).1
    have P6_1 := Seg.hid ((N6.out.block (w.heap.size + 1) z5_1).trans P5_1.out)
    have z6_1 : w.heap.size + 1 < w6.heap.size := (Array.getElem?_eq_some_iff.1 P6_1.out).1
    have s6 : w5.heap.size ≤ w6.heap.size := N6.out.size
    clear b6
    have hne : (canR u0 u1 != canR u0 u1) = false := by simp
    go_wp2_with fail
    obtain ⟨x0_0, x0_1⟩ := cells0 X6_0.out
    obtain ⟨y0_0, y0_1⟩ := cells0 P6_0.out
    have hx0 : w4.heap.size < w6.heap.size := (Array.getElem?_eq_some_iff.1 X6_0.out).1
    go_region_held3 (fun w' => w'.cell? ⟨w4.heap.size, 0, none⟩ = some (.string u0.name) ∧ w'.cell? ⟨w4.heap.size, 1, none⟩ = some (.slice D0_1 u0.fields.length d0_q1) ∧ w'.cell? ⟨w.heap.size, 0, none⟩ = some (.string u0.name) ∧ w'.cell? ⟨w.heap.size, 1, none⟩ = some (.slice A0_1 u0.fields.length a0_q1)) (first | exact ⟨x0_0, x0_1, y0_0, y0_1⟩ | exact ⟨p0_0, p0_1, o0_0, o0_1⟩ | exact ⟨s0_0, s0_1, t0_0, t0_1⟩ | go_keep) (first | (go_at_call 23; refine (toSchema_any _ u0 w6.drew (All w) ((HV0.out).below B6.out.drew (fun g hg => hg)) (fun g hg => Nat.lt_of_lt_of_le hg B6.out.size) FW0.out).mono ?_; rintro e w7 ⟨vz0, rfl, rz0, b7⟩; have N7 : Hid (Below w6.heap.size w6 w7) := ⟨b7.os, b7.tape, b7.output, b7.size, b7.block⟩; have RZ0 : Hid (SchAt w7 (seg w6.heap.size w7.heap.size) vz0 u0) := rz0; have RY0 := Seg.hid ((RX6_0.out).below N7.out (fun g hg => Nat.lt_of_lt_of_le hg.2 (by omega))); have s7 : w6.heap.size ≤ w7.heap.size := N7.out.size; clear rz0 b7; have p0_0 := (N7.out.cell (p := ⟨w4.heap.size, 0, none⟩) hx0).trans x0_0; have p0_1 := (N7.out.cell (p := ⟨w4.heap.size, 1, none⟩) hx0).trans x0_1; have o0_0 := (N7.out.cell (p := ⟨w.heap.size, 0, none⟩) z6_0).trans y0_0; have o0_1 := (N7.out.cell (p := ⟨w.heap.size, 1, none⟩) z6_0).trans y0_1) | (go_at_call 25; refine (eqSchema_any _ _ u0 w7 _ _ RY0.out RZ0.out (fun g hg => Nat.lt_of_lt_of_le hg.2 (by omega)) (fun g hg => hg.2)).mono ?_; rintro e w8 ⟨rfl, b8⟩; have N8 := Seg.hid (chain N7.out b8); clear b8; have s0_0 := (N8.out.cell (p := ⟨w4.heap.size, 0, none⟩) hx0).trans x0_0; have s0_1 := (N8.out.cell (p := ⟨w4.heap.size, 1, none⟩) hx0).trans x0_1; have t0_0 := (N8.out.cell (p := ⟨w.heap.size, 0, none⟩) z6_0).trans y0_0; have t0_1 := (N8.out.cell (p := ⟨w.heap.size, 1, none⟩) z6_0).trans y0_1))
    clear x0_0 x0_1 y0_0 y0_1 p0_0 p0_1 o0_0 o0_1 s0_0 s0_1 t0_0 t0_1
    have B8 := Seg.hid (chain B6.out N8.out)
    have s8 : w6.heap.size ≤ w8.heap.size := N8.out.size
    have X8_0 := Seg.hid ((N8.out.block w4.heap.size (Array.getElem?_eq_some_iff.1 X6_0.out).1).trans X6_0.out)
    have X8_1 := Seg.hid ((N8.out.block w5.heap.size (Array.getElem?_eq_some_iff.1 X6_1.out).1).trans X6_1.out)
    have RX8_0 := Seg.hid ((RX6_0.out).below N8.out (fun g hg => Nat.lt_of_lt_of_le hg.2 (by omega)))
    have RX8_1 := Seg.hid ((RX6_1.out).below N8.out (fun g hg => Nat.lt_of_lt_of_le hg.2 (by omega)))
    have P8_0 := Seg.hid ((N8.out.block (w.heap.size) z6_0).trans P6_0.out)
    have z8_0 : w.heap.size < w8.heap.size := (Array.getElem?_eq_some_iff.1 P8_0.out).1
    have P8_1 := Seg.hid ((N8.out.block (w.heap.size + 1) z6_1).trans P6_1.out)
    have z8_1 : w.heap.size + 1 < w8.heap.size := (Array.getElem?_eq_some_iff.1 P8_1.out).1
    go_wp2_with fail
    obtain ⟨x1_0, x1_1⟩ := cells1 X8_1.out
    obtain ⟨y1_0, y1_1⟩ := cells1 P8_1.out
    have hx1 : w5.heap.size < w8.heap.size := (Array.getElem?_eq_some_iff.1 X8_1.out).1
    go_region_held3 (fun w' => w'.cell? ⟨w5.heap.size, 0, none⟩ = some (.string u1.name) ∧ w'.cell? ⟨w5.heap.size, 1, none⟩ = some (.slice D1_1 u1.fields.length d1_q1) ∧ w'.cell? ⟨w.heap.size + 1, 0, none⟩ = some (.string u1.name) ∧ w'.cell? ⟨w.heap.size + 1, 1, none⟩ = some (.slice A1_1 u1.fields.length a1_q1)) (first | exact ⟨x1_0, x1_1, y1_0, y1_1⟩ | exact ⟨p1_0, p1_1, o1_0, o1_1⟩ | exact ⟨s1_0, s1_1, t1_0, t1_1⟩ | go_keep) (first | (go_at_call 23; refine (toSchema_any _ u1 w8.drew (All w) ((HV1.out).below B8.out.drew (fun g hg => hg)) (fun g hg => Nat.lt_of_lt_of_le hg B8.out.size) FW1.out).mono ?_; rintro e w9 ⟨vz1, rfl, rz1, b9⟩; have N9 : Hid (Below w8.heap.size w8 w9) := ⟨b9.os, b9.tape, b9.output, b9.size, b9.block⟩; have RZ1 : Hid (SchAt w9 (seg w8.heap.size w9.heap.size) vz1 u1) := rz1; have RY1 := Seg.hid ((RX8_1.out).below N9.out (fun g hg => Nat.lt_of_lt_of_le hg.2 (by omega))); have s9 : w8.heap.size ≤ w9.heap.size := N9.out.size; clear rz1 b9; have p1_0 := (N9.out.cell (p := ⟨w5.heap.size, 0, none⟩) hx1).trans x1_0; have p1_1 := (N9.out.cell (p := ⟨w5.heap.size, 1, none⟩) hx1).trans x1_1; have o1_0 := (N9.out.cell (p := ⟨w.heap.size + 1, 0, none⟩) z8_1).trans y1_0; have o1_1 := (N9.out.cell (p := ⟨w.heap.size + 1, 1, none⟩) z8_1).trans y1_1) | (go_at_call 25; refine (eqSchema_any _ _ u1 w9 _ _ RY1.out RZ1.out (fun g hg => Nat.lt_of_lt_of_le hg.2 (by omega)) (fun g hg => hg.2)).mono ?_; rintro e w10 ⟨rfl, b10⟩; have N10 := Seg.hid (chain N9.out b10); clear b10; have s1_0 := (N10.out.cell (p := ⟨w5.heap.size, 0, none⟩) hx1).trans x1_0; have s1_1 := (N10.out.cell (p := ⟨w5.heap.size, 1, none⟩) hx1).trans x1_1; have t1_0 := (N10.out.cell (p := ⟨w.heap.size + 1, 0, none⟩) z8_1).trans y1_0; have t1_1 := (N10.out.cell (p := ⟨w.heap.size + 1, 1, none⟩) z8_1).trans y1_1))
    clear x1_0 x1_1 y1_0 y1_1 p1_0 p1_1 o1_0 o1_1 s1_0 s1_1 t1_0 t1_1
    have B10 := Seg.hid (chain B8.out N10.out)
    have s10 : w8.heap.size ≤ w10.heap.size := N10.out.size
    go_wp2
    go_ret
    exact ⟨rfl, B10.out⟩
end Go.Proofs.Ythohpaljkbnkeaa.ExCr
