/- The walk of the law on RowOk out of the contracts. -/
import Derived.Test.YtfdfhhiaalbfiaaRoS
import Derived.Test.YtfdfhhiaalbfiaaRoI
import Derived.Test.YtfdfhhiaalbfiaaLsO
import Derived.Deep.RegionHeld3
import Derived.Deep.RegionLaw
namespace Go.Proofs.Ytfdfhhiaalbfiaa.ExRo
set_option maxRecDepth 8000
open Go.RowKit
open Ls Lp
open ScP RoP ScI
open Recs (hsz below1 below2 below3 chain chainD)
set_option linter.unusedVariables false
theorem cells0 {w : World} {g ty : Nat} {za zb : Value} (h : w.heap[g]? = some (.cells #[za, zb] ty (0, 0))) : w.cell? ⟨g, 0, none⟩ = some za ∧ w.cell? ⟨g, 1, none⟩ = some zb :=
  ⟨cell_of_row w g 0 _ _ (0, 0) h, cell_of_row w g 1 _ _ (0, 0) h⟩
set_option maxHeartbeats 12800000 in
theorem walk (v0 : Value) (u0 : Sch) (v1 : Value) (u1 : List Vlu) (w : World) (hv0 : SchAt w (All w) v0 u0) (hf0 : FineSch u0) (hv1 : LAt 5 EVlu w (All w) v1 u1) (hf1 : FineL FineVlu u1) :
    Calls Try.prog 7 #[v0, v1] w fun e w' => e = .returned (.bool true) ∧ Below w.heap.size w w' := by
  have HV0 := Seg.hid hv0
  obtain ⟨A0_1, a0_q1, rfl⟩ := FSch.form hv0
  have HF0 := Seg.hid hf0
  have HV1 := Seg.hid hv1
  obtain ⟨A1, c1, rfl⟩ := hv1.form
  have HF1 := Seg.hid hf1
  clear hv0 hf0 hv1 hf1
  go_enter Try.func7, Try.ntmps7
  go_wp2_with fail
  refine (szSchema_any _ u0 _ (w.alloc _) (All w) (by omega) (by omega) ((HV0.out).below (below1 w _) (fun g hg => hg)) (fun g hg => Nat.lt_of_lt_of_le hg (below1 w _).size) HF0.out).mono ?_
  rintro e w1 ⟨q0, rfl, qa0, qb0, qc0, b1⟩
  have B1 := Seg.hid (chain (below1 w _) b1)
  have s1 : w.heap.size ≤ w1.heap.size := B1.out.size
  have P0_1 : Hid (w1.heap[w.heap.size]? = some (.cells #[.string u0.name, .slice A0_1 u0.fields.length a0_q1] 46 (0, 0))) := (b1.block (w.heap.size) (by rw [hsz]; omega)).trans (heap_alloc_new _ _)
  have sp0 : w.heap.size < w1.heap.size := (Array.getElem?_eq_some_iff.1 P0_1.out).1
  clear b1
  by_cases hq0 : q0 < 0
  · go_wp2
    go_ret
    exact ⟨rfl, B1.out⟩
  have FW0 : Hid (szSch u0 ≤ 1048576) := by show _ ≤ _; have := qc0.1 (by omega); omega
  clear qc0
  go_wp2_with fail
  refine (szValueS_any _ u1 _ w1 (All w) (by omega) (by omega) (LAt.below keepsVlu (HV1.out) B1.out (fun g hg => hg)) (fun g hg => Nat.lt_of_lt_of_le hg B1.out.size) HF1.out).mono ?_
  rintro e w2 ⟨q1, rfl, qa1, qb1, qc1, b2⟩
  have D2 := Seg.hid b2
  have B2 := Seg.hid (chain B1.out D2.out)
  have s2 : w1.heap.size ≤ w2.heap.size := D2.out.size
  have P0_2 := Seg.hid ((D2.out.block (w.heap.size) (Array.getElem?_eq_some_iff.1 P0_1.out).1).trans P0_1.out)
  clear P0_1
  clear b2
  by_cases hq1 : q1 < 0
  · go_wp2
    go_ret
    exact ⟨rfl, B2.out⟩
  have FW1 : Hid (szL szVlu u1 ≤ 1048576) := by show _ ≤ _; have := qc1.1 (by omega); omega
  clear qc1
  obtain ⟨R0, hR0⟩ : ∃ R, rowOk u0 u1 = R := ⟨_, rfl⟩
  have CS : Hid (∀ (wx : World) (x0 : Value) (x1 : Value), SchAt wx (fun g => g < wx.heap.size) x0 u0 → LAt 5 EVlu wx (fun g => g < wx.heap.size) x1 u1 → Calls Try.prog 24 #[x0, x1] wx fun e w' => e = .returned (.bool R0) ∧ Below wx.heap.size wx w') := by
    intro wx x0 x1 h0 h1
    have hh := RoS.spec_any x0 x1 u0 u1 wx _ h0 h1 (fun g hg => hg) FW0.out FW1.out
    rw [hR0] at hh
    exact hh
  have CI : Hid (∀ (wx : World) (x0 : Value) (x1 : Value), SchAt wx (fun g => g < wx.heap.size) x0 u0 → LAt 5 EVlu wx (fun g => g < wx.heap.size) x1 u1 → Calls Try.prog 27 #[x0, x1] wx fun e w' => e = .returned (.bool R0) ∧ Below wx.heap.size wx w') := by
    intro wx x0 x1 h0 h1
    have hh := RoI.impl_any x0 x1 u0 u1 wx _ h0 h1 (fun g hg => hg) FW0.out FW1.out
    rw [hR0] at hh
    exact hh
  have ne0 : (R0 != R0) = false := by simp
  clear hR0
  go_wp2_with (refine wpList_load_row rfl 46 _ rfl (w.heap.size) rfl _ _ _ _ P0_2.out Try.underlying46 rfl infoLSch ?_)
  refine (toSchema_any _ u0 w2 (All w) ((HV0.out).below B2.out (fun g hg => hg)) (fun g hg => Nat.lt_of_lt_of_le hg B2.out.size) FW0.out).mono ?_
  rintro e w3 ⟨y3, rfl, h3, b3⟩
  have D3 := Seg.hid b3
  have B3 := Seg.hid (chain B2.out D3.out)
  have s3 : w2.heap.size ≤ w3.heap.size := D3.out.size
  have P0_3 := Seg.hid ((D3.out.block (w.heap.size) (Array.getElem?_eq_some_iff.1 P0_2.out).1).trans P0_2.out)
  clear P0_2
  have T0_3 := Seg.hid h3
  obtain ⟨T3_1, t3_q1, e3⟩ := FSch.form h3
  subst e3
  clear b3 h3
  go_wp2_with fail
  refine (toValueS_any _ u1 w3 (All w) (LAt.below keepsVlu (HV1.out) B3.out (fun g hg => hg)) (fun g hg => Nat.lt_of_lt_of_le hg B3.out.size) FW1.out).mono ?_
  rintro e w4 ⟨y4, rfl, h4, b4⟩
  have D4 := Seg.hid b4
  have B4 := Seg.hid (chain B3.out D4.out)
  have s4 : w3.heap.size ≤ w4.heap.size := D4.out.size
  have P0_4 := Seg.hid ((D4.out.block (w.heap.size) (Array.getElem?_eq_some_iff.1 P0_3.out).1).trans P0_3.out)
  clear P0_3
  have T0_4 := Seg.hid (T0_3.out.below D4.out (fun g hg => by have := hg.2; omega))
  clear T0_3
  have T1_4 := Seg.hid h4
  obtain ⟨A4, c4, e4⟩ := h4.form
  subst e4
  clear b4 h4
  go_wp2_with fail
  refine (CS.out w4 _ _ ((T0_4.out).mono (fun g hg => by have := hg.2; omega)) (LAt.mono growsVlu (T1_4.out) (fun g hg => by have := hg.2; omega))).mono ?_
  rintro e w5 ⟨rfl, b5⟩
  have D5 := Seg.hid b5
  have B5 := Seg.hid (chain B4.out D5.out)
  have s5 : w4.heap.size ≤ w5.heap.size := D5.out.size
  have P0_5 := Seg.hid ((D5.out.block (w.heap.size) (Array.getElem?_eq_some_iff.1 P0_4.out).1).trans P0_4.out)
  clear P0_4
  have T0_5 := Seg.hid (T0_4.out.below D5.out (fun g hg => by have := hg.2; omega))
  clear T0_4
  have T1_5 := Seg.hid (LAt.below keepsVlu T1_4.out D5.out (fun g hg => by have := hg.2; omega))
  clear T1_4
  clear T0_5
  clear T1_5
  clear b5 
  go_wp2_with (refine wpList_load_row rfl 46 _ rfl (w.heap.size) rfl _ _ _ _ P0_5.out Try.underlying46 rfl infoLSch ?_)
  refine (toSchema_any _ u0 w5 (All w) ((HV0.out).below B5.out (fun g hg => hg)) (fun g hg => Nat.lt_of_lt_of_le hg (B5.out).size) FW0.out).mono ?_
  rintro e w6 ⟨vx0, rfl, rx0, b6⟩
  have D6 := Seg.hid b6
  have B6 := Seg.hid (chain B5.out D6.out)
  have s6 : w5.heap.size ≤ w6.heap.size := D6.out.size
  have P0_6 := Seg.hid ((D6.out.block (w.heap.size) (Array.getElem?_eq_some_iff.1 P0_5.out).1).trans P0_5.out)
  clear P0_5
  obtain ⟨D0_1, d0_q1, hvx0⟩ := FSch.form rx0
  subst hvx0
  have RX0_6 := Seg.hid rx0
  clear rx0 b6
  go_wp2_with fail
  refine (toValueS_any _ u1 (w6.alloc _) (All w) (LAt.below keepsVlu (HV1.out) (chain B6.out (below1 w6 _)) (fun g hg => hg)) (fun g hg => Nat.lt_of_lt_of_le hg ((chain B6.out (below1 w6 _))).size) FW1.out).mono ?_
  rintro e w7 ⟨vx1, rfl, rx1, b7⟩
  have D7 := Seg.hid (chain (below1 w6 _) b7)
  have B7 := Seg.hid (chain B6.out D7.out)
  have s7 : w6.heap.size ≤ w7.heap.size := D7.out.size
  have P0_7 := Seg.hid ((D7.out.block (w.heap.size) (Array.getElem?_eq_some_iff.1 P0_6.out).1).trans P0_6.out)
  clear P0_6
  have RX0_7 := Seg.hid (RX0_6.out.below D7.out (fun g hg => by have := hg.2; omega))
  clear RX0_6
  have X0_7 : Hid (w7.heap[w6.heap.size]? = some (.cells #[.string u0.name, .slice D0_1 u0.fields.length d0_q1] 53 (0, 0))) := (b7.block w6.heap.size (by rw [hsz]; omega)).trans (heap_alloc_new _ _)
  have s7p : w6.heap.size + 1 ≤ w7.heap.size := by have := b7.size; rw [hsz] at this; exact this
  rw [hsz] at rx1
  obtain ⟨D1, d1q, hvx1⟩ := rx1.form
  subst hvx1
  have RX1_7 := Seg.hid rx1
  clear rx1 b7
  go_wp2_with (refine wpList_load_row rfl 53 _ rfl (w6.heap.size) rfl _ _ _ _ X0_7.out Try.underlying53 rfl infoSch ?_)
  refine (CI.out w7 _ _ ((RX0_7.out).mono (fun g hg => by have := hg.2; omega)) (LAt.mono growsVlu (RX1_7.out) (fun g hg => by have := hg.2; omega))).mono ?_
  rintro e w8 ⟨rfl, b8⟩
  have D8 := Seg.hid b8
  have B8 := Seg.hid (chain B7.out D8.out)
  have s8 : w7.heap.size ≤ w8.heap.size := D8.out.size
  have P0_8 := Seg.hid ((D8.out.block (w.heap.size) (Array.getElem?_eq_some_iff.1 P0_7.out).1).trans P0_7.out)
  clear P0_7
  have RX0_8 := Seg.hid (RX0_7.out.below D8.out (fun g hg => by have := hg.2; omega))
  clear RX0_7
  have X0_8 := Seg.hid ((D8.out.block (w6.heap.size) (Array.getElem?_eq_some_iff.1 X0_7.out).1).trans X0_7.out)
  clear X0_7
  have RX1_8 := Seg.hid (LAt.below keepsVlu RX1_7.out D8.out (fun g hg => by have := hg.2; omega))
  clear RX1_7
  clear b8 
  go_wp2_with fail
  obtain ⟨x0_0, x0_1⟩ := cells0 X0_8.out
  obtain ⟨y0_0, y0_1⟩ := cells0 P0_8.out
  have hx0 : w6.heap.size < w8.heap.size := (Array.getElem?_eq_some_iff.1 X0_8.out).1
  have hy0 : w.heap.size < w8.heap.size := (Array.getElem?_eq_some_iff.1 P0_8.out).1
  go_region_held3 (fun w' => w'.cell? ⟨w6.heap.size, 0, none⟩ = some (.string u0.name) ∧ w'.cell? ⟨w6.heap.size, 1, none⟩ = some (.slice D0_1 u0.fields.length d0_q1) ∧ w'.cell? ⟨w.heap.size, 0, none⟩ = some (.string u0.name) ∧ w'.cell? ⟨w.heap.size, 1, none⟩ = some (.slice A0_1 u0.fields.length a0_q1)) (first | exact ⟨x0_0, x0_1, y0_0, y0_1⟩ | exact ⟨p0_0, p0_1, o0_0, o0_1⟩ | exact ⟨s0_0, s0_1, t0_0, t0_1⟩ | go_keep) (first | (go_at_call 25; refine (toSchema_any _ u0 w8.drew (All w) ((HV0.out).below B8.out.drew (fun g hg => hg)) (fun g hg => Nat.lt_of_lt_of_le hg B8.out.size) FW0.out).mono ?_; rintro e t9 ⟨vz0, rfl, rz0, b9⟩; have T9 : Hid (Below w8.heap.size w8 t9) := ⟨b9.os, b9.tape, b9.output, b9.size, b9.block⟩; have RZ0 : Hid (SchAt t9 (seg w8.heap.size t9.heap.size) vz0 u0) := rz0; have st9 : w8.heap.size ≤ t9.heap.size := T9.out.size; have RY0 := Seg.hid ((RX0_8.out).below T9.out (fun g hg => by have := hg.2; omega)); clear rz0 b9; have p0_0 := (T9.out.cell (p := ⟨w6.heap.size, 0, none⟩) hx0).trans x0_0; have p0_1 := (T9.out.cell (p := ⟨w6.heap.size, 1, none⟩) hx0).trans x0_1; have o0_0 := (T9.out.cell (p := ⟨w.heap.size, 0, none⟩) hy0).trans y0_0; have o0_1 := (T9.out.cell (p := ⟨w.heap.size, 1, none⟩) hy0).trans y0_1) | (go_at_call 28; refine (eqSchema_any _ _ u0 t9 _ _ RY0.out RZ0.out (fun g hg => by have := hg.2; omega) (fun g hg => hg.2)).mono ?_; rintro e w9 ⟨rfl, b9⟩; have TT9 := Seg.hid (chain T9.out b9); clear b9; have s0_0 := (TT9.out.cell (p := ⟨w6.heap.size, 0, none⟩) hx0).trans x0_0; have s0_1 := (TT9.out.cell (p := ⟨w6.heap.size, 1, none⟩) hx0).trans x0_1; have t0_0 := (TT9.out.cell (p := ⟨w.heap.size, 0, none⟩) hy0).trans y0_0; have t0_1 := (TT9.out.cell (p := ⟨w.heap.size, 1, none⟩) hy0).trans y0_1))
  clear x0_0 x0_1 y0_0 y0_1 p0_0 p0_1 o0_0 o0_1 s0_0 s0_1 t0_0 t0_1 hx0 hy0 RZ0 RY0
  have D9 := Seg.hid TT9.out
  have B9 := Seg.hid (chain B8.out D9.out)
  have s9 : w8.heap.size ≤ w9.heap.size := D9.out.size
  have P0_9 := Seg.hid ((D9.out.block (w.heap.size) (Array.getElem?_eq_some_iff.1 P0_8.out).1).trans P0_8.out)
  clear P0_8
  have RX0_9 := Seg.hid (RX0_8.out.below D9.out (fun g hg => by have := hg.2; omega))
  clear RX0_8
  have X0_9 := Seg.hid ((D9.out.block (w6.heap.size) (Array.getElem?_eq_some_iff.1 X0_8.out).1).trans X0_8.out)
  clear X0_8
  have RX1_9 := Seg.hid (LAt.below keepsVlu RX1_8.out D9.out (fun g hg => by have := hg.2; omega))
  clear RX1_8
  clear T9 TT9 st9
  go_wp2_with fail
  refine (toValueS_any _ u1 w9 (All w) (LAt.below keepsVlu (HV1.out) B9.out (fun g hg => hg)) (fun g hg => Nat.lt_of_lt_of_le hg B9.out.size) FW1.out).mono ?_
  rintro e w10 ⟨y10, rfl, h10, b10⟩
  have D10 := Seg.hid b10
  have B10 := Seg.hid (chain B9.out D10.out)
  have s10 : w9.heap.size ≤ w10.heap.size := D10.out.size
  have P0_10 := Seg.hid ((D10.out.block (w.heap.size) (Array.getElem?_eq_some_iff.1 P0_9.out).1).trans P0_9.out)
  clear P0_9
  have RX0_10 := Seg.hid (RX0_9.out.below D10.out (fun g hg => by have := hg.2; omega))
  clear RX0_9
  have X0_10 := Seg.hid ((D10.out.block (w6.heap.size) (Array.getElem?_eq_some_iff.1 X0_9.out).1).trans X0_9.out)
  clear X0_9
  have RX1_10 := Seg.hid (LAt.below keepsVlu RX1_9.out D10.out (fun g hg => by have := hg.2; omega))
  clear RX1_9
  obtain ⟨A10, c10, rfl⟩ := h10.form
  have Z1_10 := Seg.hid h10
  clear b10 h10
  go_wp2_with fail
  refine (eqValueS_any _ _ u1 w10 _ _ RX1_10.out Z1_10.out (fun g hg => by have := hg.2; omega) (fun g hg => by have := hg.2; omega)).mono ?_
  rintro e w11 ⟨rfl, b11⟩
  have D11 := Seg.hid b11
  have B11 := Seg.hid (chain B10.out D11.out)
  have s11 : w10.heap.size ≤ w11.heap.size := D11.out.size
  have P0_11 := Seg.hid ((D11.out.block (w.heap.size) (Array.getElem?_eq_some_iff.1 P0_10.out).1).trans P0_10.out)
  clear P0_10
  have RX0_11 := Seg.hid (RX0_10.out.below D11.out (fun g hg => by have := hg.2; omega))
  clear RX0_10
  have X0_11 := Seg.hid ((D11.out.block (w6.heap.size) (Array.getElem?_eq_some_iff.1 X0_10.out).1).trans X0_10.out)
  clear X0_10
  have RX1_11 := Seg.hid (LAt.below keepsVlu RX1_10.out D11.out (fun g hg => by have := hg.2; omega))
  clear RX1_10
  have Z1_11 := Seg.hid (LAt.below keepsVlu Z1_10.out D11.out (fun g hg => by have := hg.2; omega))
  clear Z1_10
  clear b11
  clear Z1_11
  go_wp2
  go_ret
  exact ⟨rfl, B11.out⟩
end Go.Proofs.Ytfdfhhiaalbfiaa.ExRo
