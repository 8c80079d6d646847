/- The walk of the law on Reckon out of the contracts. -/
import Derived.Test.YtekhidflncfeiaaRkS
import Derived.Test.YtekhidflncfeiaaRnR
import Derived.Test.YtekhidflncfeiaaLsO
import Derived.Test.YtekhidflncfeiaaLsT
namespace Go.Proofs.Ytekhidflncfeiaa.ExRk
set_option maxRecDepth 8000
open Go.RowKit
open Ls Lp QrP
open Recs (hsz below1 below2 chain chainD)
set_option linter.unusedVariables false
set_option maxHeartbeats 12800000 in
theorem walk (v0 : Value) (u0 : List Stp) (v1 : Value) (u1 : List ByteArray) (v2 : Value) (u2 : List Int) (w : World) (hv0 : LAt 3 EStp w (All w) v0 u0) (hf0 : FineL FineStp u0) (hv1 : LAt 1 EStr w (All w) v1 u1) (hf1 : FineL FineStr u1) (hv2 : LAt 1 EI w (All w) v2 u2) (hf2 : FineL I64 u2) :
    Calls Try.prog 6 #[v0, v1, v2] w fun e w' => e = .returned (.bool true) ∧ Below w.heap.size w w' := by
  have HV0 := Seg.hid hv0
  obtain ⟨A0, c0, rfl⟩ := hv0.form
  have HF0 := Seg.hid hf0
  clear hf0 hv0
  have HV1 := Seg.hid hv1
  obtain ⟨A1, c1, rfl⟩ := hv1.form
  have HF1 := Seg.hid hf1
  clear hf1 hv1
  have HV2 := Seg.hid hv2
  obtain ⟨A2, c2, rfl⟩ := hv2.form
  have HF2 := Seg.hid hf2
  clear hf2 hv2
  go_enter Try.func6, Try.ntmps6
  by_cases hq2 : 1048576 < u2.length
  · have hz2 : (1048576 : Int) < (u2.length : Int) := by omega
    go_wp2
    go_ret
    exact ⟨rfl, Below.refl _ _⟩
  have hz2 : ¬ (1048576 : Int) < (u2.length : Int) := by omega
  have FW2 : Hid (u2.length ≤ 1048576) := by show _ ≤ _; omega
  go_wp2_with fail
  refine (szStepS_any _ u0 _ w (All w) (by omega) (by omega) HV0.out (fun g hg => hg) HF0.out).mono ?_
  rintro e w1 ⟨q0, rfl, qa0, qb0, qc0, b1⟩
  have s1 := b1.size
  have B1 := Seg.hid b1
  clear b1
  by_cases hq0 : q0 < 0
  · go_wp2
    go_ret
    exact ⟨rfl, B1.out⟩
  have FW0 : Hid (szL szStp u0 ≤ 1048576) := by show _ ≤ _; have := qc0.1 (by omega); omega
  clear qc0
  go_wp2_with fail
  refine (szStringS_any _ u1 _ w1 (All w) (by omega) (by omega) (HV1.out.below keepsStr B1.out (fun g hg => hg)) (fun g hg => Nat.lt_of_lt_of_le hg B1.out.size) HF1.out).mono ?_
  rintro e w2 ⟨q1, rfl, qa1, qb1, qc1, b2⟩
  have s2 := b2.size
  have B2 := Seg.hid (chain B1.out b2)
  clear B1
  clear b2
  by_cases hq1 : q1 < 0
  · go_wp2
    go_ret
    exact ⟨rfl, B2.out⟩
  have FW1 : Hid (szL ByteArray.size u1 ≤ 1048576) := by show _ ≤ _; have := qc1.1 (by omega); omega
  clear qc1
  go_wp2_with fail
  obtain ⟨R0, hR0⟩ : ∃ R, reckon u0 u1 u2 = R := ⟨_, rfl⟩
  obtain ⟨R1, hR1⟩ : ∃ R, recOk u0 u1 u2 = R := ⟨_, rfl⟩
  have CS : Hid (∀ (wx : World) (x0 : Value) (x1 : Value) (x2 : Value), LAt 3 EStp wx (fun g => g < wx.heap.size) x0 u0 → LAt 1 EStr wx (fun g => g < wx.heap.size) x1 u1 → LAt 1 EI wx (fun g => g < wx.heap.size) x2 u2 → Calls Try.prog 36 #[x0, x1, x2] wx fun e w' => e = .returned (.tuple #[.int .i64 R0, .bool R1]) ∧ Below wx.heap.size wx w') := by
    intro wx x0 x1 x2 h0 h1 h2
    have hh := RkS.spec_any x0 x1 x2 u0 u1 u2 wx _ h0 h1 h2 (fun g hg => hg) FW0.out
    rw [hR0, hR1] at hh
    exact hh
  have CI : Hid (∀ (wx : World) (x0 : Value) (x1 : Value) (x2 : Value), LAt 3 EStp wx (fun g => g < wx.heap.size) x0 u0 → LAt 1 EStr wx (fun g => g < wx.heap.size) x1 u1 → LAt 1 EI wx (fun g => g < wx.heap.size) x2 u2 → Calls Try.prog 39 #[x0, x1, x2] wx fun e w' => e = .returned (.tuple #[.int .i64 R0, .bool R1]) ∧ Below wx.heap.size wx w') := by
    intro wx x0 x1 x2 h0 h1 h2
    have hh := RnR.impl_any x0 x1 x2 u0 u1 u2 wx _ h0 h1 h2 (fun g hg => hg) FW0.out
    rw [hR0, hR1] at hh
    exact hh
  clear hR0 hR1
  refine (toStepS_any _ u0 w2 (All w) (HV0.out.below keepsStp B2.out (fun g hg => hg)) (fun g hg => Nat.lt_of_lt_of_le hg B2.out.size) FW0.out).mono ?_
  rintro e w3 ⟨y3, rfl, h3, b3⟩
  have s3 := b3.size
  have B3 := Seg.hid (chain B2.out b3)
  clear B2
  obtain ⟨A3, c3, rfl⟩ := h3.form
  have T0_3 := Seg.hid h3
  clear b3 h3
  go_wp2_with fail
  refine (toStringS_any _ u1 w3 (All w) (HV1.out.below keepsStr B3.out (fun g hg => hg)) (fun g hg => Nat.lt_of_lt_of_le hg B3.out.size) FW1.out).mono ?_
  rintro e w4 ⟨y4, rfl, h4, b4⟩
  have s4 := b4.size
  have B4 := Seg.hid (chain B3.out b4)
  have T0_4 := Seg.hid (LAt.below keepsStp T0_3.out b4 (fun g hg => by have := hg.2; omega))
  clear T0_3
  clear B3
  obtain ⟨A4, c4, rfl⟩ := h4.form
  have T1_4 := Seg.hid h4
  clear b4 h4
  go_wp2_with fail
  refine (toIntS_any _ u2 w4 (All w) (HV2.out.below keepsI B4.out (fun g hg => hg)) (fun g hg => Nat.lt_of_lt_of_le hg B4.out.size) FW2.out).mono ?_
  rintro e w5 ⟨y5, rfl, h5, b5⟩
  have s5 := b5.size
  have B5 := Seg.hid (chain B4.out b5)
  have T0_5 := Seg.hid (LAt.below keepsStp T0_4.out b5 (fun g hg => by have := hg.2; omega))
  clear T0_4
  have T1_5 := Seg.hid (LAt.below keepsStr T1_4.out b5 (fun g hg => by have := hg.2; omega))
  clear T1_4
  clear B4
  obtain ⟨A5, c5, rfl⟩ := h5.form
  have T2_5 := Seg.hid h5
  clear b5 h5
  go_wp2_with fail
  refine (CS.out w5 _ _ _ (LAt.mono growsStp T0_5.out (fun g hg => by have := hg.2; show g < w5.heap.size; omega)) (LAt.mono growsStr T1_5.out (fun g hg => by have := hg.2; show g < w5.heap.size; omega)) (LAt.mono growsI T2_5.out (fun g hg => by have := hg.2; show g < w5.heap.size; omega))).mono ?_
  rintro e w6 ⟨rfl, b6⟩
  have s6 := b6.size
  have B6 := Seg.hid (chain B5.out b6)
  have T0_6 := Seg.hid (LAt.below keepsStp T0_5.out b6 (fun g hg => by have := hg.2; omega))
  clear T0_5
  have T1_6 := Seg.hid (LAt.below keepsStr T1_5.out b6 (fun g hg => by have := hg.2; omega))
  clear T1_5
  have T2_6 := Seg.hid (LAt.below keepsI T2_5.out b6 (fun g hg => by have := hg.2; omega))
  clear T2_5
  clear B5
  clear b6 
  go_wp2_with fail
  clear T0_6
  clear T1_6
  clear T2_6
  refine (toStepS_any _ u0 w6 (All w) (HV0.out.below keepsStp B6.out (fun g hg => hg)) (fun g hg => Nat.lt_of_lt_of_le hg B6.out.size) FW0.out).mono ?_
  rintro e w7 ⟨y7, rfl, h7, b7⟩
  have s7 := b7.size
  have B7 := Seg.hid (chain B6.out b7)
  clear B6
  obtain ⟨A7, c7, rfl⟩ := h7.form
  have X0_7 := Seg.hid h7
  clear b7 h7
  go_wp2_with fail
  refine (toStringS_any _ u1 w7 (All w) (HV1.out.below keepsStr B7.out (fun g hg => hg)) (fun g hg => Nat.lt_of_lt_of_le hg B7.out.size) FW1.out).mono ?_
  rintro e w8 ⟨y8, rfl, h8, b8⟩
  have s8 := b8.size
  have B8 := Seg.hid (chain B7.out b8)
  have X0_8 := Seg.hid (LAt.below keepsStp X0_7.out b8 (fun g hg => by have := hg.2; omega))
  clear X0_7
  clear B7
  obtain ⟨A8, c8, rfl⟩ := h8.form
  have X1_8 := Seg.hid h8
  clear b8 h8
  go_wp2_with fail
  refine (toIntS_any _ u2 w8 (All w) (HV2.out.below keepsI B8.out (fun g hg => hg)) (fun g hg => Nat.lt_of_lt_of_le hg B8.out.size) FW2.out).mono ?_
  rintro e w9 ⟨y9, rfl, h9, b9⟩
  have s9 := b9.size
  have B9 := Seg.hid (chain B8.out b9)
  have X0_9 := Seg.hid (LAt.below keepsStp X0_8.out b9 (fun g hg => by have := hg.2; omega))
  clear X0_8
  have X1_9 := Seg.hid (LAt.below keepsStr X1_8.out b9 (fun g hg => by have := hg.2; omega))
  clear X1_8
  clear B8
  obtain ⟨A9, c9, rfl⟩ := h9.form
  have X2_9 := Seg.hid h9
  clear b9 h9
  go_wp2_with fail
  refine (CI.out w9 _ _ _ (LAt.mono growsStp X0_9.out (fun g hg => by have := hg.2; show g < w9.heap.size; omega)) (LAt.mono growsStr X1_9.out (fun g hg => by have := hg.2; show g < w9.heap.size; omega)) (LAt.mono growsI X2_9.out (fun g hg => by have := hg.2; show g < w9.heap.size; omega))).mono ?_
  rintro e w10 ⟨rfl, b10⟩
  have s10 := b10.size
  have B10 := Seg.hid (chain B9.out b10)
  have X0_10 := Seg.hid (LAt.below keepsStp X0_9.out b10 (fun g hg => by have := hg.2; omega))
  clear X0_9
  have X1_10 := Seg.hid (LAt.below keepsStr X1_9.out b10 (fun g hg => by have := hg.2; omega))
  clear X1_9
  have X2_10 := Seg.hid (LAt.below keepsI X2_9.out b10 (fun g hg => by have := hg.2; omega))
  clear X2_9
  clear B9
  clear b10 
  go_wp2_with fail
  refine (toStepS_any _ u0 w10 (All w) (HV0.out.below keepsStp B10.out (fun g hg => hg)) (fun g hg => Nat.lt_of_lt_of_le hg B10.out.size) FW0.out).mono ?_
  rintro e w11 ⟨y11, rfl, h11, b11⟩
  have s11 := b11.size
  have B11 := Seg.hid (chain B10.out b11)
  have X0_11 := Seg.hid (LAt.below keepsStp X0_10.out b11 (fun g hg => by have := hg.2; omega))
  clear X0_10
  have X1_11 := Seg.hid (LAt.below keepsStr X1_10.out b11 (fun g hg => by have := hg.2; omega))
  clear X1_10
  have X2_11 := Seg.hid (LAt.below keepsI X2_10.out b11 (fun g hg => by have := hg.2; omega))
  clear X2_10
  clear B10
  obtain ⟨A11, c11, rfl⟩ := h11.form
  have Z0_11 := Seg.hid h11
  clear b11 h11
  go_wp2_with fail
  refine (eqStepS_any _ _ u0 w11 _ _ X0_11.out Z0_11.out (fun g hg => by have := hg.2; omega) (fun g hg => by have := hg.2; omega)).mono ?_
  rintro e w12 ⟨rfl, b12⟩
  have s12 := b12.size
  have B12 := Seg.hid (chain B11.out b12)
  have X0_12 := Seg.hid (LAt.below keepsStp X0_11.out b12 (fun g hg => by have := hg.2; omega))
  clear X0_11
  have X1_12 := Seg.hid (LAt.below keepsStr X1_11.out b12 (fun g hg => by have := hg.2; omega))
  clear X1_11
  have X2_12 := Seg.hid (LAt.below keepsI X2_11.out b12 (fun g hg => by have := hg.2; omega))
  clear X2_11
  have Z0_12 := Seg.hid (LAt.below keepsStp Z0_11.out b12 (fun g hg => by have := hg.2; omega))
  clear Z0_11
  clear B11
  clear b12
  clear Z0_12
  go_wp2_with fail
  refine (toStringS_any _ u1 w12 (All w) (HV1.out.below keepsStr B12.out (fun g hg => hg)) (fun g hg => Nat.lt_of_lt_of_le hg B12.out.size) FW1.out).mono ?_
  rintro e w13 ⟨y13, rfl, h13, b13⟩
  have s13 := b13.size
  have B13 := Seg.hid (chain B12.out b13)
  have X0_13 := Seg.hid (LAt.below keepsStp X0_12.out b13 (fun g hg => by have := hg.2; omega))
  clear X0_12
  have X1_13 := Seg.hid (LAt.below keepsStr X1_12.out b13 (fun g hg => by have := hg.2; omega))
  clear X1_12
  have X2_13 := Seg.hid (LAt.below keepsI X2_12.out b13 (fun g hg => by have := hg.2; omega))
  clear X2_12
  clear B12
  obtain ⟨A13, c13, rfl⟩ := h13.form
  have Z1_13 := Seg.hid h13
  clear b13 h13
  go_wp2_with fail
  refine (eqStringS_any _ _ u1 w13 _ _ X1_13.out Z1_13.out (fun g hg => by have := hg.2; omega) (fun g hg => by have := hg.2; omega)).mono ?_
  rintro e w14 ⟨rfl, b14⟩
  have s14 := b14.size
  have B14 := Seg.hid (chain B13.out b14)
  have X0_14 := Seg.hid (LAt.below keepsStp X0_13.out b14 (fun g hg => by have := hg.2; omega))
  clear X0_13
  have X1_14 := Seg.hid (LAt.below keepsStr X1_13.out b14 (fun g hg => by have := hg.2; omega))
  clear X1_13
  have X2_14 := Seg.hid (LAt.below keepsI X2_13.out b14 (fun g hg => by have := hg.2; omega))
  clear X2_13
  have Z1_14 := Seg.hid (LAt.below keepsStr Z1_13.out b14 (fun g hg => by have := hg.2; omega))
  clear Z1_13
  clear B13
  clear b14
  clear Z1_14
  go_wp2_with fail
  refine (toIntS_any _ u2 w14 (All w) (HV2.out.below keepsI B14.out (fun g hg => hg)) (fun g hg => Nat.lt_of_lt_of_le hg B14.out.size) FW2.out).mono ?_
  rintro e w15 ⟨y15, rfl, h15, b15⟩
  have s15 := b15.size
  have B15 := Seg.hid (chain B14.out b15)
  have X0_15 := Seg.hid (LAt.below keepsStp X0_14.out b15 (fun g hg => by have := hg.2; omega))
  clear X0_14
  have X1_15 := Seg.hid (LAt.below keepsStr X1_14.out b15 (fun g hg => by have := hg.2; omega))
  clear X1_14
  have X2_15 := Seg.hid (LAt.below keepsI X2_14.out b15 (fun g hg => by have := hg.2; omega))
  clear X2_14
  clear B14
  obtain ⟨A15, c15, rfl⟩ := h15.form
  have Z2_15 := Seg.hid h15
  clear b15 h15
  go_wp2_with fail
  refine (eqIntS_any _ _ u2 w15 _ _ X2_15.out Z2_15.out (fun g hg => by have := hg.2; omega) (fun g hg => by have := hg.2; omega)).mono ?_
  rintro e w16 ⟨rfl, b16⟩
  have s16 := b16.size
  have B16 := Seg.hid (chain B15.out b16)
  have X0_16 := Seg.hid (LAt.below keepsStp X0_15.out b16 (fun g hg => by have := hg.2; omega))
  clear X0_15
  have X1_16 := Seg.hid (LAt.below keepsStr X1_15.out b16 (fun g hg => by have := hg.2; omega))
  clear X1_15
  have X2_16 := Seg.hid (LAt.below keepsI X2_15.out b16 (fun g hg => by have := hg.2; omega))
  clear X2_15
  have Z2_16 := Seg.hid (LAt.below keepsI Z2_15.out b16 (fun g hg => by have := hg.2; omega))
  clear Z2_15
  clear B15
  clear b16
  clear Z2_16
  go_wp2_with fail
  go_ret
  exact ⟨rfl, B16.out⟩
end Go.Proofs.Ytekhidflncfeiaa.ExRk
