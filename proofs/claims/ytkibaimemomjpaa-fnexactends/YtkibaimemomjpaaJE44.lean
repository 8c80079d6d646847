/- The walk of the law on Ends out of the contracts. -/
import Derived.Test.YtkibaimemomjpaaJE40
import Derived.Test.YtkibaimemomjpaaJE41
import Derived.Test.YtkibaimemomjpaaJE43
import Derived.Test.YtkibaimemomjpaaJE39
import Derived.Test.YtkibaimemomjpaaJE34
import Derived.Test.YtkibaimemomjpaaJE17
import Derived.Test.YtkibaimemomjpaaJE42
import Derived.Test.YtkibaimemomjpaaJE27
namespace Go.Proofs.Ytkibaimemomjpaa.ExEd
set_option maxRecDepth 8000
open Go.RowKit
open Ls Lp QyP QsP TbP IoP EdP
open Recs (hsz below1 below2 chain chainD)
set_option linter.unusedVariables false
set_option maxHeartbeats 12800000 in
theorem walk (v0 : Value) (u0 : List Src) (v1 : Value) (u1 : List Arr2) (v2 : Value) (u2 : List Int) (w : World) (hv0 : LAt 3 ESrc w (All w) v0 u0) (hf0 : FineL FineSrc u0) (hv1 : LAt 1 EArr2 w (All w) v1 u1) (hf1 : FineL FineArr2 u1) (hv2 : LAt 1 EI w (All w) v2 u2) (hf2 : FineL I64 u2) :
    Calls Try.prog 4 #[v0, v1, v2] w fun e w' => e = .returned (.bool true) ∧ Below w.heap.size w w' := by
  have HV0 := Seg.hid hv0
  obtain ⟨A0, c0, rfl⟩ := hv0.form
  have HF0 := Seg.hid hf0
  clear hf0 hv0
  have HV1 := Seg.hid hv1
  obtain ⟨A1, c1, rfl⟩ := hv1.form
  have HF1 := Seg.hid hf1
  clear hf1 hv1
  have HV2 := Seg.hid hv2
  obtain ⟨A2, c2, rfl⟩ := hv2.form
  have HF2 := Seg.hid hf2
  clear hf2 hv2
  go_enter Try.func4, Try.ntmps4
  by_cases hq2 : 1048576 < u2.length
  · have hz2 : (1048576 : Int) < (u2.length : Int) := by omega
    go_wp2
    go_ret
    exact ⟨rfl, Below.refl _ _⟩
  have hz2 : ¬ (1048576 : Int) < (u2.length : Int) := by omega
  have FW2 : Hid (u2.length ≤ 1048576) := by show _ ≤ _; omega
  go_wp2_with fail
  refine (szSourceS_any _ u0 _ w (All w) (by omega) (by omega) HV0.out (fun g hg => hg) HF0.out).mono ?_
  rintro e w1 ⟨q0, rfl, qa0, qb0, qc0, b1⟩
  have s1 := b1.size
  have B1 := Seg.hid b1
  clear b1
  by_cases hq0 : q0 < 0
  · go_wp2
    go_ret
    exact ⟨rfl, B1.out⟩
  have FW0 : Hid (szL szSrc u0 ≤ 1048576) := by show _ ≤ _; have := qc0.1 (by omega); omega
  clear qc0
  go_wp2_with fail
  refine (szArrivalSS_any _ u1 _ w1 (All w) (by omega) (by omega) (HV1.out.below keepsArr2 B1.out (fun g hg => hg)) (fun g hg => Nat.lt_of_lt_of_le hg B1.out.size) HF1.out).mono ?_
  rintro e w2 ⟨q1, rfl, qa1, qb1, qc1, b2⟩
  have s2 := b2.size
  have B2 := Seg.hid (chain B1.out b2)
  clear B1
  clear b2
  by_cases hq1 : q1 < 0
  · go_wp2
    go_ret
    exact ⟨rfl, B2.out⟩
  have FW1 : Hid (szL szArr2 u1 ≤ 1048576) := by show szL (szL szArr) u1 ≤ _; have := qc1.1 (by omega); omega
  clear qc1
  go_wp2_with fail
  obtain ⟨R0, hR0⟩ : ∃ R, ends u0 u1 u2 = R := ⟨_, rfl⟩
  have CS : Hid (∀ (wx : World) (x0 : Value) (x1 : Value) (x2 : Value), LAt 3 ESrc wx (fun g => g < wx.heap.size) x0 u0 → LAt 1 EArr2 wx (fun g => g < wx.heap.size) x1 u1 → LAt 1 EI wx (fun g => g < wx.heap.size) x2 u2 → Calls Try.prog 19 #[x0, x1, x2] wx fun e w' => ∃ r0, e = .returned (r0) ∧ Ow.CmgsOwn w' (seg wx.heap.size w'.heap.size) r0 R0 ∧ Below wx.heap.size wx w') := by
    intro wx x0 x1 x2 h0 h1 h2
    have hh := EdS.spec_any x0 x1 x2 u0 u1 u2 wx _ h0 h1 h2 (fun g hg => hg) FW0.out FW1.out FW2.out
    rw [hR0] at hh
    exact hh
  have CI : Hid (∀ (wx : World) (x0 : Value) (x1 : Value) (x2 : Value), LAt 3 ESrc wx (fun g => g < wx.heap.size) x0 u0 → LAt 1 EArr2 wx (fun g => g < wx.heap.size) x1 u1 → LAt 1 EI wx (fun g => g < wx.heap.size) x2 u2 → Calls Try.prog 22 #[x0, x1, x2] wx fun e w' => ∃ r0, e = .returned (r0) ∧ Ow.CmgsOwn w' (seg wx.heap.size w'.heap.size) r0 R0 ∧ Below wx.heap.size wx w') := by
    intro wx x0 x1 x2 h0 h1 h2
    have hh := EdE.impl_any x0 x1 x2 u0 u1 u2 wx _ h0 h1 h2 (fun g hg => hg) FW0.out FW1.out FW2.out
    rw [hR0] at hh
    exact hh
  have MA0 : Hid (tot Ow.nSrc u0 ≤ 1000000000) := FwQ.srcs u0 FW0.out
  have MA1 : Hid (tot Ow.nArr2 u1 ≤ 1000000000) := EdW.few_arr2 u1 FW1.out
  have MA2 : Hid (tot Ow.nI u2 ≤ 1000000000) := EdW.few_ints u2 FW2.out
  have MR0 : Hid (tot Ow.nCmg R0 ≤ 1000000000) := by
    show _ ≤ _
    rw [← hR0]
    exact EdW.few_ends u0 u1 u2 FW1.out
  clear hR0
  refine (toSourceS_any _ u0 w2 (All w) (HV0.out.below keepsSrc B2.out (fun g hg => hg)) (fun g hg => Nat.lt_of_lt_of_le hg B2.out.size) FW0.out).mono ?_
  rintro e w3 ⟨y3, rfl, h3, b3⟩
  have s3 := b3.size
  have B3 := Seg.hid (chain B2.out b3)
  clear B2
  obtain ⟨A3, c3, rfl⟩ := h3.form
  have T0_3 := Seg.hid h3
  clear b3 h3
  go_wp2_with fail
  refine (toArrivalSS_any _ u1 w3 (All w) (HV1.out.below keepsArr2 B3.out (fun g hg => hg)) (fun g hg => Nat.lt_of_lt_of_le hg B3.out.size) FW1.out).mono ?_
  rintro e w4 ⟨y4, rfl, h4, b4⟩
  have s4 := b4.size
  have B4 := Seg.hid (chain B3.out b4)
  have T0_4 := Seg.hid (LAt.below keepsSrc T0_3.out b4 (fun g hg => by have := hg.2; omega))
  clear T0_3
  clear B3
  obtain ⟨A4, c4, rfl⟩ := h4.form
  have T1_4 := Seg.hid h4
  clear b4 h4
  go_wp2_with fail
  refine (toIntS_any _ u2 w4 (All w) (HV2.out.below keepsI B4.out (fun g hg => hg)) (fun g hg => Nat.lt_of_lt_of_le hg B4.out.size) FW2.out).mono ?_
  rintro e w5 ⟨y5, rfl, h5, b5⟩
  have s5 := b5.size
  have B5 := Seg.hid (chain B4.out b5)
  have T0_5 := Seg.hid (LAt.below keepsSrc T0_4.out b5 (fun g hg => by have := hg.2; omega))
  clear T0_4
  have T1_5 := Seg.hid (LAt.below keepsArr2 T1_4.out b5 (fun g hg => by have := hg.2; omega))
  clear T1_4
  clear B4
  obtain ⟨A5, c5, rfl⟩ := h5.form
  have T2_5 := Seg.hid h5
  clear b5 h5
  go_wp2_with fail
  refine (CS.out w5 _ _ _ (LAt.mono growsSrc T0_5.out (fun g hg => by have := hg.2; show g < w5.heap.size; omega)) (LAt.mono growsArr2 T1_5.out (fun g hg => by have := hg.2; show g < w5.heap.size; omega)) (LAt.mono growsI T2_5.out (fun g hg => by have := hg.2; show g < w5.heap.size; omega))).mono ?_
  rintro e w6 ⟨r6_0, rfl, h6_0, b6⟩
  have s6 := b6.size
  have B6 := Seg.hid (chain B5.out b6)
  have T0_6 := Seg.hid (LAt.below keepsSrc T0_5.out b6 (fun g hg => by have := hg.2; omega))
  clear T0_5
  have T1_6 := Seg.hid (LAt.below keepsArr2 T1_5.out b6 (fun g hg => by have := hg.2; omega))
  clear T1_5
  have T2_6 := Seg.hid (LAt.below keepsI T2_5.out b6 (fun g hg => by have := hg.2; omega))
  clear T2_5
  clear B5
  obtain ⟨A6_0, c6_0, rfl⟩ := Ow.LOwn.form h6_0
  have Wr0_6 := Seg.hid (Ow.LOwn.lat growsCmg Ow.atOCmg h6_0)
  clear b6 h6_0
  go_wp2_with fail
  clear T0_6
  clear T1_6
  clear T2_6
  refine (Ow.toSourceS_own _ u0 w6 (All w) (HV0.out.below keepsSrc B6.out (fun g hg => hg)) (fun g hg => Nat.lt_of_lt_of_le hg B6.out.size) FW0.out).mono ?_
  rintro e w7 ⟨y7, rfl, h7, b7⟩
  have s7 := b7.size
  have B7 := Seg.hid (chain B6.out b7)
  have Wr0_7 := Seg.hid (LAt.below keepsCmg Wr0_6.out b7 (fun g hg => by have := hg.2; omega))
  clear Wr0_6
  clear B6
  obtain ⟨A7, c7, rfl⟩ := Ow.LOwn.form h7
  have X0_7 := Seg.hid h7
  clear b7 h7
  go_wp2_with fail
  refine (Ow.toArrivalSS_own _ u1 w7 (All w) (HV1.out.below keepsArr2 B7.out (fun g hg => hg)) (fun g hg => Nat.lt_of_lt_of_le hg B7.out.size) FW1.out).mono ?_
  rintro e w8 ⟨y8, rfl, h8, b8⟩
  have s8 := b8.size
  have B8 := Seg.hid (chain B7.out b8)
  have Wr0_8 := Seg.hid (LAt.below keepsCmg Wr0_7.out b8 (fun g hg => by have := hg.2; omega))
  clear Wr0_7
  have X0_8 := Seg.hid (Ow.LOwn.belowO Ow.keepsOSrc X0_7.out b8 (fun g hg => by have := hg.2; omega))
  clear X0_7
  clear B7
  obtain ⟨A8, c8, rfl⟩ := Ow.LOwn.form h8
  have X1_8 := Seg.hid h8
  clear b8 h8
  go_wp2_with fail
  refine (Ow.toIntS_own _ u2 w8 (All w) (HV2.out.below keepsI B8.out (fun g hg => hg)) (fun g hg => Nat.lt_of_lt_of_le hg B8.out.size) FW2.out).mono ?_
  rintro e w9 ⟨y9, rfl, h9, b9⟩
  have s9 := b9.size
  have B9 := Seg.hid (chain B8.out b9)
  have Wr0_9 := Seg.hid (LAt.below keepsCmg Wr0_8.out b9 (fun g hg => by have := hg.2; omega))
  clear Wr0_8
  have X0_9 := Seg.hid (Ow.LOwn.belowO Ow.keepsOSrc X0_8.out b9 (fun g hg => by have := hg.2; omega))
  clear X0_8
  have X1_9 := Seg.hid (Ow.LOwn.belowO Ow.keepsOArr2 X1_8.out b9 (fun g hg => by have := hg.2; omega))
  clear X1_8
  clear B8
  obtain ⟨A9, c9, rfl⟩ := Ow.LOwn.form h9
  have X2_9 := Seg.hid h9
  clear b9 h9
  go_wp2_with fail
  refine (CI.out w9 _ _ _ (LAt.mono growsSrc (Ow.LOwn.lat growsSrc Ow.atOSrc X0_9.out) (fun g hg => by have := hg.2; show g < w9.heap.size; omega)) (LAt.mono growsArr2 (Ow.LOwn.lat growsArr2 Ow.atOArr2 X1_9.out) (fun g hg => by have := hg.2; show g < w9.heap.size; omega)) (LAt.mono growsI (Ow.LOwn.lat growsI (fun _ _ _ _ h => h) X2_9.out) (fun g hg => by have := hg.2; show g < w9.heap.size; omega))).mono ?_
  rintro e w10 ⟨r10_0, rfl, h10_0, b10⟩
  have s10 := b10.size
  have B10 := Seg.hid (chain B9.out b10)
  have Wr0_10 := Seg.hid (LAt.below keepsCmg Wr0_9.out b10 (fun g hg => by have := hg.2; omega))
  clear Wr0_9
  have X0_10 := Seg.hid (Ow.LOwn.belowO Ow.keepsOSrc X0_9.out b10 (fun g hg => by have := hg.2; omega))
  clear X0_9
  have X1_10 := Seg.hid (Ow.LOwn.belowO Ow.keepsOArr2 X1_9.out b10 (fun g hg => by have := hg.2; omega))
  clear X1_9
  have X2_10 := Seg.hid (Ow.LOwn.belowO Ow.keepsOI X2_9.out b10 (fun g hg => by have := hg.2; omega))
  clear X2_9
  clear B9
  obtain ⟨A10_0, c10_0, rfl⟩ := Ow.LOwn.form h10_0
  have G0_10 := Seg.hid h10_0
  clear b10 h10_0
  go_wp2_with fail
  refine (eqComingS_any _ _ R0 w10 _ _ (Ow.LOwn.lat growsCmg Ow.atOCmg G0_10.out) Wr0_10.out (fun g hg => by have := hg.2; omega) (fun g hg => by have := hg.2; omega)).mono ?_
  rintro e w11 ⟨rfl, b11⟩
  have s11 := b11.size
  have B11 := Seg.hid (chain B10.out b11)
  have Wr0_11 := Seg.hid (LAt.below keepsCmg Wr0_10.out b11 (fun g hg => by have := hg.2; omega))
  clear Wr0_10
  have X0_11 := Seg.hid (Ow.LOwn.belowO Ow.keepsOSrc X0_10.out b11 (fun g hg => by have := hg.2; omega))
  clear X0_10
  have X1_11 := Seg.hid (Ow.LOwn.belowO Ow.keepsOArr2 X1_10.out b11 (fun g hg => by have := hg.2; omega))
  clear X1_10
  have X2_11 := Seg.hid (Ow.LOwn.belowO Ow.keepsOI X2_10.out b11 (fun g hg => by have := hg.2; omega))
  clear X2_10
  have G0_11 := Seg.hid (Ow.LOwn.belowO Ow.keepsOCmg G0_10.out b11 (fun g hg => by have := hg.2; omega))
  clear G0_10
  clear B10
  clear b11
  go_wp2_with fail
  refine (toSourceS_any _ u0 w11 (All w) (HV0.out.below keepsSrc B11.out (fun g hg => hg)) (fun g hg => Nat.lt_of_lt_of_le hg B11.out.size) FW0.out).mono ?_
  rintro e w12 ⟨y12, rfl, h12, b12⟩
  have s12 := b12.size
  have B12 := Seg.hid (chain B11.out b12)
  have Wr0_12 := Seg.hid (LAt.below keepsCmg Wr0_11.out b12 (fun g hg => by have := hg.2; omega))
  clear Wr0_11
  have X0_12 := Seg.hid (Ow.LOwn.belowO Ow.keepsOSrc X0_11.out b12 (fun g hg => by have := hg.2; omega))
  clear X0_11
  have X1_12 := Seg.hid (Ow.LOwn.belowO Ow.keepsOArr2 X1_11.out b12 (fun g hg => by have := hg.2; omega))
  clear X1_11
  have X2_12 := Seg.hid (Ow.LOwn.belowO Ow.keepsOI X2_11.out b12 (fun g hg => by have := hg.2; omega))
  clear X2_11
  have G0_12 := Seg.hid (Ow.LOwn.belowO Ow.keepsOCmg G0_11.out b12 (fun g hg => by have := hg.2; omega))
  clear G0_11
  clear B11
  obtain ⟨A12, c12, rfl⟩ := h12.form
  have Z0_12 := Seg.hid h12
  clear b12 h12
  go_wp2_with fail
  refine (eqSourceS_any _ _ u0 w12 _ _ (Ow.LOwn.lat growsSrc Ow.atOSrc X0_12.out) Z0_12.out (fun g hg => by have := hg.2; omega) (fun g hg => by have := hg.2; omega)).mono ?_
  rintro e w13 ⟨rfl, b13⟩
  have s13 := b13.size
  have B13 := Seg.hid (chain B12.out b13)
  have Wr0_13 := Seg.hid (LAt.below keepsCmg Wr0_12.out b13 (fun g hg => by have := hg.2; omega))
  clear Wr0_12
  have X0_13 := Seg.hid (Ow.LOwn.belowO Ow.keepsOSrc X0_12.out b13 (fun g hg => by have := hg.2; omega))
  clear X0_12
  have X1_13 := Seg.hid (Ow.LOwn.belowO Ow.keepsOArr2 X1_12.out b13 (fun g hg => by have := hg.2; omega))
  clear X1_12
  have X2_13 := Seg.hid (Ow.LOwn.belowO Ow.keepsOI X2_12.out b13 (fun g hg => by have := hg.2; omega))
  clear X2_12
  have G0_13 := Seg.hid (Ow.LOwn.belowO Ow.keepsOCmg G0_12.out b13 (fun g hg => by have := hg.2; omega))
  clear G0_12
  have Z0_13 := Seg.hid (LAt.below keepsSrc Z0_12.out b13 (fun g hg => by have := hg.2; omega))
  clear Z0_12
  clear B12
  clear b13
  clear Z0_13
  go_wp2_with fail
  refine (toArrivalSS_any _ u1 w13 (All w) (HV1.out.below keepsArr2 B13.out (fun g hg => hg)) (fun g hg => Nat.lt_of_lt_of_le hg B13.out.size) FW1.out).mono ?_
  rintro e w14 ⟨y14, rfl, h14, b14⟩
  have s14 := b14.size
  have B14 := Seg.hid (chain B13.out b14)
  have Wr0_14 := Seg.hid (LAt.below keepsCmg Wr0_13.out b14 (fun g hg => by have := hg.2; omega))
  clear Wr0_13
  have X0_14 := Seg.hid (Ow.LOwn.belowO Ow.keepsOSrc X0_13.out b14 (fun g hg => by have := hg.2; omega))
  clear X0_13
  have X1_14 := Seg.hid (Ow.LOwn.belowO Ow.keepsOArr2 X1_13.out b14 (fun g hg => by have := hg.2; omega))
  clear X1_13
  have X2_14 := Seg.hid (Ow.LOwn.belowO Ow.keepsOI X2_13.out b14 (fun g hg => by have := hg.2; omega))
  clear X2_13
  have G0_14 := Seg.hid (Ow.LOwn.belowO Ow.keepsOCmg G0_13.out b14 (fun g hg => by have := hg.2; omega))
  clear G0_13
  clear B13
  obtain ⟨A14, c14, rfl⟩ := h14.form
  have Z1_14 := Seg.hid h14
  clear b14 h14
  go_wp2_with fail
  refine (eqArrivalSS_any _ _ u1 w14 _ _ (Ow.LOwn.lat growsArr2 Ow.atOArr2 X1_14.out) Z1_14.out (fun g hg => by have := hg.2; omega) (fun g hg => by have := hg.2; omega)).mono ?_
  rintro e w15 ⟨rfl, b15⟩
  have s15 := b15.size
  have B15 := Seg.hid (chain B14.out b15)
  have Wr0_15 := Seg.hid (LAt.below keepsCmg Wr0_14.out b15 (fun g hg => by have := hg.2; omega))
  clear Wr0_14
  have X0_15 := Seg.hid (Ow.LOwn.belowO Ow.keepsOSrc X0_14.out b15 (fun g hg => by have := hg.2; omega))
  clear X0_14
  have X1_15 := Seg.hid (Ow.LOwn.belowO Ow.keepsOArr2 X1_14.out b15 (fun g hg => by have := hg.2; omega))
  clear X1_14
  have X2_15 := Seg.hid (Ow.LOwn.belowO Ow.keepsOI X2_14.out b15 (fun g hg => by have := hg.2; omega))
  clear X2_14
  have G0_15 := Seg.hid (Ow.LOwn.belowO Ow.keepsOCmg G0_14.out b15 (fun g hg => by have := hg.2; omega))
  clear G0_14
  have Z1_15 := Seg.hid (LAt.below keepsArr2 Z1_14.out b15 (fun g hg => by have := hg.2; omega))
  clear Z1_14
  clear B14
  clear b15
  clear Z1_15
  go_wp2_with fail
  refine (toIntS_any _ u2 w15 (All w) (HV2.out.below keepsI B15.out (fun g hg => hg)) (fun g hg => Nat.lt_of_lt_of_le hg B15.out.size) FW2.out).mono ?_
  rintro e w16 ⟨y16, rfl, h16, b16⟩
  have s16 := b16.size
  have B16 := Seg.hid (chain B15.out b16)
  have Wr0_16 := Seg.hid (LAt.below keepsCmg Wr0_15.out b16 (fun g hg => by have := hg.2; omega))
  clear Wr0_15
  have X0_16 := Seg.hid (Ow.LOwn.belowO Ow.keepsOSrc X0_15.out b16 (fun g hg => by have := hg.2; omega))
  clear X0_15
  have X1_16 := Seg.hid (Ow.LOwn.belowO Ow.keepsOArr2 X1_15.out b16 (fun g hg => by have := hg.2; omega))
  clear X1_15
  have X2_16 := Seg.hid (Ow.LOwn.belowO Ow.keepsOI X2_15.out b16 (fun g hg => by have := hg.2; omega))
  clear X2_15
  have G0_16 := Seg.hid (Ow.LOwn.belowO Ow.keepsOCmg G0_15.out b16 (fun g hg => by have := hg.2; omega))
  clear G0_15
  clear B15
  obtain ⟨A16, c16, rfl⟩ := h16.form
  have Z2_16 := Seg.hid h16
  clear b16 h16
  go_wp2_with fail
  refine (eqIntS_any _ _ u2 w16 _ _ (Ow.LOwn.lat growsI (fun _ _ _ _ h => h) X2_16.out) Z2_16.out (fun g hg => by have := hg.2; omega) (fun g hg => by have := hg.2; omega)).mono ?_
  rintro e w17 ⟨rfl, b17⟩
  have s17 := b17.size
  have B17 := Seg.hid (chain B16.out b17)
  have Wr0_17 := Seg.hid (LAt.below keepsCmg Wr0_16.out b17 (fun g hg => by have := hg.2; omega))
  clear Wr0_16
  have X0_17 := Seg.hid (Ow.LOwn.belowO Ow.keepsOSrc X0_16.out b17 (fun g hg => by have := hg.2; omega))
  clear X0_16
  have X1_17 := Seg.hid (Ow.LOwn.belowO Ow.keepsOArr2 X1_16.out b17 (fun g hg => by have := hg.2; omega))
  clear X1_16
  have X2_17 := Seg.hid (Ow.LOwn.belowO Ow.keepsOI X2_16.out b17 (fun g hg => by have := hg.2; omega))
  clear X2_16
  have G0_17 := Seg.hid (Ow.LOwn.belowO Ow.keepsOCmg G0_16.out b17 (fun g hg => by have := hg.2; omega))
  clear G0_16
  have Z2_17 := Seg.hid (LAt.below keepsI Z2_16.out b17 (fun g hg => by have := hg.2; omega))
  clear Z2_16
  clear B16
  clear b17
  clear Z2_17
  go_wp2_with fail
  refine (Ow.markSourceS_own _ 1 rfl (seg w6.heap.size w7.heap.size) u0 w17 (by decide) (by have := MA0.out; omega) X0_17.out).mono ?_
  rintro e w18 ⟨rfl, hm18, ft18⟩
  have s18 := ft18.size
  have B18 := Seg.hid (B17.out.trans (ft18.toBelow (lo := w.heap.size) (fun y hy => by have := hy.1; omega) (by omega)))
  have Wr0_18 := Seg.hid (LAt.keep keepsCmg Wr0_17.out (fun g hg => ft18.block g (by have := hg.2; omega) (fun hy => by have := hy.1; have := hy.2; have := hg.1; have := hg.2; omega)))
  clear Wr0_17
  have X1_18 := Seg.hid (Ow.LOwn.footO Ow.keepsOArr2 X1_17.out ft18 (fun g hg => by have := hg.2; omega) (fun g hg hy => by have := hy.1; have := hy.2; have := hg.1; have := hg.2; omega))
  clear X1_17
  have X2_18 := Seg.hid (Ow.LOwn.footO Ow.keepsOI X2_17.out ft18 (fun g hg => by have := hg.2; omega) (fun g hg hy => by have := hy.1; have := hy.2; have := hg.1; have := hg.2; omega))
  clear X2_17
  have G0_18 := Seg.hid (Ow.LOwn.footO Ow.keepsOCmg G0_17.out ft18 (fun g hg => by have := hg.2; omega) (fun g hg hy => by have := hy.1; have := hy.2; have := hg.1; have := hg.2; omega))
  clear G0_17
  have X0_18 := Seg.hid hm18
  clear X0_17 hm18 ft18 B17
  obtain ⟨K0, hK0⟩ : ∃ K, 1 + tot Ow.nSrc u0 = K := ⟨_, rfl⟩
  rw [hK0]
  have kb0 : 0 < K0 ∧ K0 ≤ 1000000001 := by have := MA0.out; omega
  clear hK0
  clear X0_18
  go_wp2_with fail
  refine (Ow.markArrivalSS_own _ K0 rfl (seg w7.heap.size w8.heap.size) u1 w18 (by omega) (by have := MA1.out; omega) X1_18.out).mono ?_
  rintro e w19 ⟨rfl, hm19, ft19⟩
  have s19 := ft19.size
  have B19 := Seg.hid (B18.out.trans (ft19.toBelow (lo := w.heap.size) (fun y hy => by have := hy.1; omega) (by omega)))
  have Wr0_19 := Seg.hid (LAt.keep keepsCmg Wr0_18.out (fun g hg => ft19.block g (by have := hg.2; omega) (fun hy => by have := hy.1; have := hy.2; have := hg.1; have := hg.2; omega)))
  clear Wr0_18
  have X2_19 := Seg.hid (Ow.LOwn.footO Ow.keepsOI X2_18.out ft19 (fun g hg => by have := hg.2; omega) (fun g hg hy => by have := hy.1; have := hy.2; have := hg.1; have := hg.2; omega))
  clear X2_18
  have G0_19 := Seg.hid (Ow.LOwn.footO Ow.keepsOCmg G0_18.out ft19 (fun g hg => by have := hg.2; omega) (fun g hg hy => by have := hy.1; have := hy.2; have := hg.1; have := hg.2; omega))
  clear G0_18
  have X1_19 := Seg.hid hm19
  clear X1_18 hm19 ft19 B18
  obtain ⟨K1, hK1⟩ : ∃ K, K0 + tot Ow.nArr2 u1 = K := ⟨_, rfl⟩
  rw [hK1]
  have kb1 : 0 < K1 ∧ K1 ≤ 2000000001 := by have := MA1.out; omega
  clear hK1
  clear X1_19
  go_wp2_with fail
  refine (Ow.markIntS_own _ K1 rfl (seg w8.heap.size w9.heap.size) u2 w19 (by omega) (by have := MA2.out; omega) X2_19.out).mono ?_
  rintro e w20 ⟨rfl, hm20, ft20⟩
  have s20 := ft20.size
  have B20 := Seg.hid (B19.out.trans (ft20.toBelow (lo := w.heap.size) (fun y hy => by have := hy.1; omega) (by omega)))
  have Wr0_20 := Seg.hid (LAt.keep keepsCmg Wr0_19.out (fun g hg => ft20.block g (by have := hg.2; omega) (fun hy => by have := hy.1; have := hy.2; have := hg.1; have := hg.2; omega)))
  clear Wr0_19
  have G0_20 := Seg.hid (Ow.LOwn.footO Ow.keepsOCmg G0_19.out ft20 (fun g hg => by have := hg.2; omega) (fun g hg hy => by have := hy.1; have := hy.2; have := hg.1; have := hg.2; omega))
  clear G0_19
  have X2_20 := Seg.hid hm20
  clear X2_19 hm20 ft20 B19
  obtain ⟨K2, hK2⟩ : ∃ K, K1 + tot Ow.nI u2 = K := ⟨_, rfl⟩
  rw [hK2]
  have kb2 : 0 < K2 ∧ K2 ≤ 3000000001 := by have := MA2.out; omega
  clear hK2
  clear X2_20
  have hK0 : (0 : Int) ≤ (K2 : Int) := by omega
  have hkd : decide ((K2 : Int) < 0) = false := decide_eq_false (by omega)
  go_wp2_with fail
  refine (eqComingS_any _ _ R0 w20 _ _ (Ow.LOwn.lat growsCmg Ow.atOCmg G0_20.out) Wr0_20.out (fun g hg => by have := hg.2; omega) (fun g hg => by have := hg.2; omega)).mono ?_
  rintro e w21 ⟨rfl, b21⟩
  have s21 := b21.size
  have B21 := Seg.hid (chain B20.out b21)
  have Wr0_21 := Seg.hid (LAt.below keepsCmg Wr0_20.out b21 (fun g hg => by have := hg.2; omega))
  clear Wr0_20
  have G0_21 := Seg.hid (Ow.LOwn.belowO Ow.keepsOCmg G0_20.out b21 (fun g hg => by have := hg.2; omega))
  clear G0_20
  clear B20
  clear b21
  go_wp2_with fail
  refine (Ow.markComingS_own _ 1 rfl (seg w9.heap.size w10.heap.size) R0 w21 (by decide) (by have := MR0.out; omega) G0_21.out).mono ?_
  rintro e w22 ⟨rfl, hm22, ft22⟩
  have s22 := ft22.size
  have B22 := Seg.hid (B21.out.trans (ft22.toBelow (lo := w.heap.size) (fun y hy => by have := hy.1; omega) (by omega)))
  have Wr0_22 := Seg.hid (LAt.keep keepsCmg Wr0_21.out (fun g hg => ft22.block g (by have := hg.2; omega) (fun hy => by have := hy.1; have := hy.2; have := hg.1; have := hg.2; omega)))
  clear Wr0_21
  have G0_22 := Seg.hid hm22
  clear G0_21 hm22 ft22 B21
  obtain ⟨M0, hM0⟩ : ∃ M, 1 + tot Ow.nCmg R0 = M := ⟨_, rfl⟩
  have HM0 := Seg.hid hM0
  rw [hM0]
  have mb0 : 0 < M0 ∧ M0 ≤ 1000000001 := by have := MR0.out; omega
  clear hM0
  go_wp2_with fail
  refine (Ow.heldComingS_at _ 1 rfl (seg w9.heap.size w10.heap.size) R0 w22 (by decide) (by have := MR0.out; omega) (fun g hg => by have := hg.2; omega) (Ow.LOwn.lat growsCmg Ow.atOCmg G0_22.out)).mono ?_
  rintro e w23 ⟨rfl, b23⟩
  have s23 := b23.size
  have B23 := Seg.hid (chain B22.out b23)
  have Wr0_23 := Seg.hid (LAt.below keepsCmg Wr0_22.out b23 (fun g hg => by have := hg.2; omega))
  clear Wr0_22
  have G0_23 := Seg.hid (Ow.LOwn.belowO Ow.keepsOCmg G0_22.out b23 (fun g hg => by have := hg.2; omega))
  clear G0_22
  clear B22
  rw [HM0.out]
  clear b23
  have hM0 : ¬ (M0 : Int) < 0 := by omega
  have hM1 : ((M0 : Int) != (M0 : Int)) = false := by simp
  go_wp2_with fail
  refine (toSourceS_any _ u0 w23 (All w) (HV0.out.below keepsSrc B23.out (fun g hg => hg)) (fun g hg => Nat.lt_of_lt_of_le hg B23.out.size) FW0.out).mono ?_
  rintro e w24 ⟨y24, rfl, h24, b24⟩
  have s24 := b24.size
  have B24 := Seg.hid (chain B23.out b24)
  have Wr0_24 := Seg.hid (LAt.below keepsCmg Wr0_23.out b24 (fun g hg => by have := hg.2; omega))
  clear Wr0_23
  have G0_24 := Seg.hid (Ow.LOwn.belowO Ow.keepsOCmg G0_23.out b24 (fun g hg => by have := hg.2; omega))
  clear G0_23
  clear B23
  obtain ⟨A24, c24, rfl⟩ := h24.form
  have Y0_24 := Seg.hid h24
  clear b24 h24
  go_wp2_with fail
  refine (toArrivalSS_any _ u1 w24 (All w) (HV1.out.below keepsArr2 B24.out (fun g hg => hg)) (fun g hg => Nat.lt_of_lt_of_le hg B24.out.size) FW1.out).mono ?_
  rintro e w25 ⟨y25, rfl, h25, b25⟩
  have s25 := b25.size
  have B25 := Seg.hid (chain B24.out b25)
  have Wr0_25 := Seg.hid (LAt.below keepsCmg Wr0_24.out b25 (fun g hg => by have := hg.2; omega))
  clear Wr0_24
  have G0_25 := Seg.hid (Ow.LOwn.belowO Ow.keepsOCmg G0_24.out b25 (fun g hg => by have := hg.2; omega))
  clear G0_24
  have Y0_25 := Seg.hid (LAt.below keepsSrc Y0_24.out b25 (fun g hg => by have := hg.2; omega))
  clear Y0_24
  clear B24
  obtain ⟨A25, c25, rfl⟩ := h25.form
  have Y1_25 := Seg.hid h25
  clear b25 h25
  go_wp2_with fail
  refine (toIntS_any _ u2 w25 (All w) (HV2.out.below keepsI B25.out (fun g hg => hg)) (fun g hg => Nat.lt_of_lt_of_le hg B25.out.size) FW2.out).mono ?_
  rintro e w26 ⟨y26, rfl, h26, b26⟩
  have s26 := b26.size
  have B26 := Seg.hid (chain B25.out b26)
  have Wr0_26 := Seg.hid (LAt.below keepsCmg Wr0_25.out b26 (fun g hg => by have := hg.2; omega))
  clear Wr0_25
  have G0_26 := Seg.hid (Ow.LOwn.belowO Ow.keepsOCmg G0_25.out b26 (fun g hg => by have := hg.2; omega))
  clear G0_25
  have Y0_26 := Seg.hid (LAt.below keepsSrc Y0_25.out b26 (fun g hg => by have := hg.2; omega))
  clear Y0_25
  have Y1_26 := Seg.hid (LAt.below keepsArr2 Y1_25.out b26 (fun g hg => by have := hg.2; omega))
  clear Y1_25
  clear B25
  obtain ⟨A26, c26, rfl⟩ := h26.form
  have Y2_26 := Seg.hid h26
  clear b26 h26
  go_wp2_with fail
  refine (CI.out w26 _ _ _ (LAt.mono growsSrc Y0_26.out (fun g hg => by have := hg.2; show g < w26.heap.size; omega)) (LAt.mono growsArr2 Y1_26.out (fun g hg => by have := hg.2; show g < w26.heap.size; omega)) (LAt.mono growsI Y2_26.out (fun g hg => by have := hg.2; show g < w26.heap.size; omega))).mono ?_
  rintro e w27 ⟨r27_0, rfl, h27_0, b27⟩
  have s27 := b27.size
  have B27 := Seg.hid (chain B26.out b27)
  have Wr0_27 := Seg.hid (LAt.below keepsCmg Wr0_26.out b27 (fun g hg => by have := hg.2; omega))
  clear Wr0_26
  have G0_27 := Seg.hid (Ow.LOwn.belowO Ow.keepsOCmg G0_26.out b27 (fun g hg => by have := hg.2; omega))
  clear G0_26
  have Y0_27 := Seg.hid (LAt.below keepsSrc Y0_26.out b27 (fun g hg => by have := hg.2; omega))
  clear Y0_26
  have Y1_27 := Seg.hid (LAt.below keepsArr2 Y1_26.out b27 (fun g hg => by have := hg.2; omega))
  clear Y1_26
  have Y2_27 := Seg.hid (LAt.below keepsI Y2_26.out b27 (fun g hg => by have := hg.2; omega))
  clear Y2_26
  clear B26
  obtain ⟨A27_0, c27_0, rfl⟩ := Ow.LOwn.form h27_0
  have H0_27 := Seg.hid h27_0
  clear b27 h27_0
  go_wp2_with fail
  clear Y0_27
  clear Y1_27
  clear Y2_27
  refine (eqComingS_any _ _ R0 w27 _ _ (Ow.LOwn.lat growsCmg Ow.atOCmg H0_27.out) Wr0_27.out (fun g hg => by have := hg.2; omega) (fun g hg => by have := hg.2; omega)).mono ?_
  rintro e w28 ⟨rfl, b28⟩
  have s28 := b28.size
  have B28 := Seg.hid (chain B27.out b28)
  have Wr0_28 := Seg.hid (LAt.below keepsCmg Wr0_27.out b28 (fun g hg => by have := hg.2; omega))
  clear Wr0_27
  have G0_28 := Seg.hid (Ow.LOwn.belowO Ow.keepsOCmg G0_27.out b28 (fun g hg => by have := hg.2; omega))
  clear G0_27
  have H0_28 := Seg.hid (Ow.LOwn.belowO Ow.keepsOCmg H0_27.out b28 (fun g hg => by have := hg.2; omega))
  clear H0_27
  clear B27
  clear b28
  go_wp2_with fail
  clear H0_28
  refine (Ow.heldComingS_at _ 1 rfl (seg w9.heap.size w10.heap.size) R0 w28 (by decide) (by have := MR0.out; omega) (fun g hg => by have := hg.2; omega) (Ow.LOwn.lat growsCmg Ow.atOCmg G0_28.out)).mono ?_
  rintro e w29 ⟨rfl, b29⟩
  have s29 := b29.size
  have B29 := Seg.hid (chain B28.out b29)
  have Wr0_29 := Seg.hid (LAt.below keepsCmg Wr0_28.out b29 (fun g hg => by have := hg.2; omega))
  clear Wr0_28
  have G0_29 := Seg.hid (Ow.LOwn.belowO Ow.keepsOCmg G0_28.out b29 (fun g hg => by have := hg.2; omega))
  clear G0_28
  clear B28
  rw [HM0.out]
  clear b29
  go_wp2_with fail
  go_ret
  exact ⟨rfl, B29.out⟩
end Go.Proofs.Ytkibaimemomjpaa.ExEd
