/- The walk of the law on Agree out of the contracts. -/
import Derived.Test.YtencpfcjgfpciaaAgS
import Derived.Test.YtencpfcjgfpciaaAgI
import Derived.Test.YtencpfcjgfpciaaOApx
import Derived.Test.YtencpfcjgfpciaaHApx
import Derived.Test.YtencpfcjgfpciaaUApx
import Derived.Test.YtencpfcjgfpciaaLsO
namespace Go.Proofs.Ytencpfcjgfpciaa.ExAg
set_option maxRecDepth 8000
open Go.RowKit
open Ls Lp AgP
open Recs (hsz below1 below2 chain chainD)
set_option linter.unusedVariables false
theorem few_len (us : List Apx) (h : us.length ≤ 1048576) : tot Ow.nApx us ≤ 1000000000 := by
  have : ∀ us : List Apx, tot Ow.nApx us = 3 * us.length := fun us => by
    induction us with
    | nil => rfl
    | cons t r ih => simp only [tot, ih, Ow.nApx, List.length_cons]; omega
  rw [this]; omega
set_option maxHeartbeats 12800000 in
theorem walk (v0 : Value) (u0 : List Apx) (v1 : Value) (u1 : List Apx) (w : World) (hv0 : LAt 3 EApx w (All w) v0 u0) (hf0 : FineL FineApx u0) (hv1 : LAt 3 EApx w (All w) v1 u1) (hf1 : FineL FineApx u1) :
    Calls Try.prog 4 #[v0, v1] w fun e w' => e = .returned (.bool true) ∧ Below w.heap.size w w' := by
  have HV0 := Seg.hid hv0
  obtain ⟨A0, c0, rfl⟩ := hv0.form
  have HF0 := Seg.hid hf0
  clear hf0 hv0
  have HV1 := Seg.hid hv1
  obtain ⟨A1, c1, rfl⟩ := hv1.form
  have HF1 := Seg.hid hf1
  clear hf1 hv1
  go_enter Try.func4, Try.ntmps4
  go_wp2_with fail
  refine (szApiS_any _ u0 _ w (All w) (by omega) (by omega) HV0.out (fun g hg => hg) HF0.out).mono ?_
  rintro e w1 ⟨q0, rfl, qa0, qb0, qc0, b1⟩
  have s1 := b1.size
  have B1 := Seg.hid b1
  clear b1
  by_cases hq0 : q0 < 0
  · go_wp2
    go_ret
    exact ⟨rfl, B1.out⟩
  have FW0 : Hid (szL szApx u0 ≤ 1048576) := by show _ ≤ _; have := qc0.1 (by omega); omega
  clear qc0
  go_wp2_with fail
  refine (szApiS_any _ u1 _ w1 (All w) (by omega) (by omega) (HV1.out.below keepsApx B1.out (fun g hg => hg)) (fun g hg => Nat.lt_of_lt_of_le hg B1.out.size) HF1.out).mono ?_
  rintro e w2 ⟨q1, rfl, qa1, qb1, qc1, b2⟩
  have s2 := b2.size
  have B2 := Seg.hid (chain B1.out b2)
  clear B1
  clear b2
  by_cases hq1 : q1 < 0
  · go_wp2
    go_ret
    exact ⟨rfl, B2.out⟩
  have FW1 : Hid (szL szApx u1 ≤ 1048576) := by show _ ≤ _; have := qc1.1 (by omega); omega
  clear qc1
  go_wp2_with fail
  obtain ⟨R0, hR0⟩ : ∃ R, agree u0 u1 = R := ⟨_, rfl⟩
  obtain ⟨R1, hR1⟩ : ∃ R, agOk u0 u1 = R := ⟨_, rfl⟩
  have CS : Hid (∀ (wx : World) (x0 : Value) (x1 : Value), LAt 3 EApx wx (fun g => g < wx.heap.size) x0 u0 → LAt 3 EApx wx (fun g => g < wx.heap.size) x1 u1 → Calls Try.prog 10 #[x0, x1] wx fun e w' => ∃ r0, e = .returned (.tuple #[r0, .bool R1]) ∧ Ow.ApxsOwn w' (seg wx.heap.size w'.heap.size) r0 R0 ∧ Below wx.heap.size wx w') := by
    intro wx x0 x1 h0 h1
    have hh := AgS.spec_any x0 x1 u0 u1 wx _ h0 h1 (fun g hg => hg) FW0.out FW1.out
    rw [hR0, hR1] at hh
    exact hh
  have CI : Hid (∀ (wx : World) (x0 : Value) (x1 : Value), LAt 3 EApx wx (fun g => g < wx.heap.size) x0 u0 → LAt 3 EApx wx (fun g => g < wx.heap.size) x1 u1 → Calls Try.prog 12 #[x0, x1] wx fun e w' => ∃ r0, e = .returned (.tuple #[r0, .bool R1]) ∧ Ow.ApxsOwn w' (seg wx.heap.size w'.heap.size) r0 R0 ∧ Below wx.heap.size wx w') := by
    intro wx x0 x1 h0 h1
    have hh := AgI.impl_any x0 x1 u0 u1 wx _ h0 h1 (fun g hg => hg) FW0.out FW1.out
    rw [hR0, hR1] at hh
    exact hh
  have MA0 : Hid (tot Ow.nApx u0 ≤ 1000000000) := few_len u0 (szL_len _ FW0.out)
  have MA1 : Hid (tot Ow.nApx u1 ≤ 1000000000) := few_len u1 (szL_len _ FW1.out)
  have MR0 : Hid (tot Ow.nApx R0 ≤ 1000000000) := by
    show _ ≤ _
    rw [← hR0]
    exact few_len _ (agree_le u0 u1)
  clear hR0 hR1
  refine (toApiS_any _ u0 w2 (All w) (HV0.out.below keepsApx B2.out (fun g hg => hg)) (fun g hg => Nat.lt_of_lt_of_le hg B2.out.size) FW0.out).mono ?_
  rintro e w3 ⟨y3, rfl, h3, b3⟩
  have s3 := b3.size
  have B3 := Seg.hid (chain B2.out b3)
  clear B2
  obtain ⟨A3, c3, rfl⟩ := h3.form
  have T0_3 := Seg.hid h3
  clear b3 h3
  go_wp2_with fail
  refine (toApiS_any _ u1 w3 (All w) (HV1.out.below keepsApx B3.out (fun g hg => hg)) (fun g hg => Nat.lt_of_lt_of_le hg B3.out.size) FW1.out).mono ?_
  rintro e w4 ⟨y4, rfl, h4, b4⟩
  have s4 := b4.size
  have B4 := Seg.hid (chain B3.out b4)
  have T0_4 := Seg.hid (LAt.below keepsApx T0_3.out b4 (fun g hg => by have := hg.2; omega))
  clear T0_3
  clear B3
  obtain ⟨A4, c4, rfl⟩ := h4.form
  have T1_4 := Seg.hid h4
  clear b4 h4
  go_wp2_with fail
  refine (CS.out w4 _ _ (LAt.mono growsApx T0_4.out (fun g hg => by have := hg.2; show g < w4.heap.size; omega)) (LAt.mono growsApx T1_4.out (fun g hg => by have := hg.2; show g < w4.heap.size; omega))).mono ?_
  rintro e w5 ⟨r5_0, rfl, h5_0, b5⟩
  have s5 := b5.size
  have B5 := Seg.hid (chain B4.out b5)
  have T0_5 := Seg.hid (LAt.below keepsApx T0_4.out b5 (fun g hg => by have := hg.2; omega))
  clear T0_4
  have T1_5 := Seg.hid (LAt.below keepsApx T1_4.out b5 (fun g hg => by have := hg.2; omega))
  clear T1_4
  clear B4
  obtain ⟨A5_0, c5_0, rfl⟩ := Ow.LOwn.form h5_0
  have Wr0_5 := Seg.hid (Ow.LOwn.lat growsApx Ow.atOApx h5_0)
  clear b5 h5_0
  go_wp2_with fail
  clear T0_5
  clear T1_5
  refine (Ow.toApiS_own _ u0 w5 (All w) (HV0.out.below keepsApx B5.out (fun g hg => hg)) (fun g hg => Nat.lt_of_lt_of_le hg B5.out.size) FW0.out).mono ?_
  rintro e w6 ⟨y6, rfl, h6, b6⟩
  have s6 := b6.size
  have B6 := Seg.hid (chain B5.out b6)
  have Wr0_6 := Seg.hid (LAt.below keepsApx Wr0_5.out b6 (fun g hg => by have := hg.2; omega))
  clear Wr0_5
  clear B5
  obtain ⟨A6, c6, rfl⟩ := Ow.LOwn.form h6
  have X0_6 := Seg.hid h6
  clear b6 h6
  go_wp2_with fail
  refine (Ow.toApiS_own _ u1 w6 (All w) (HV1.out.below keepsApx B6.out (fun g hg => hg)) (fun g hg => Nat.lt_of_lt_of_le hg B6.out.size) FW1.out).mono ?_
  rintro e w7 ⟨y7, rfl, h7, b7⟩
  have s7 := b7.size
  have B7 := Seg.hid (chain B6.out b7)
  have Wr0_7 := Seg.hid (LAt.below keepsApx Wr0_6.out b7 (fun g hg => by have := hg.2; omega))
  clear Wr0_6
  have X0_7 := Seg.hid (Ow.LOwn.belowO Ow.keepsOApx X0_6.out b7 (fun g hg => by have := hg.2; omega))
  clear X0_6
  clear B6
  obtain ⟨A7, c7, rfl⟩ := Ow.LOwn.form h7
  have X1_7 := Seg.hid h7
  clear b7 h7
  go_wp2_with fail
  refine (CI.out w7 _ _ (LAt.mono growsApx (Ow.LOwn.lat growsApx Ow.atOApx X0_7.out) (fun g hg => by have := hg.2; show g < w7.heap.size; omega)) (LAt.mono growsApx (Ow.LOwn.lat growsApx Ow.atOApx X1_7.out) (fun g hg => by have := hg.2; show g < w7.heap.size; omega))).mono ?_
  rintro e w8 ⟨r8_0, rfl, h8_0, b8⟩
  have s8 := b8.size
  have B8 := Seg.hid (chain B7.out b8)
  have Wr0_8 := Seg.hid (LAt.below keepsApx Wr0_7.out b8 (fun g hg => by have := hg.2; omega))
  clear Wr0_7
  have X0_8 := Seg.hid (Ow.LOwn.belowO Ow.keepsOApx X0_7.out b8 (fun g hg => by have := hg.2; omega))
  clear X0_7
  have X1_8 := Seg.hid (Ow.LOwn.belowO Ow.keepsOApx X1_7.out b8 (fun g hg => by have := hg.2; omega))
  clear X1_7
  clear B7
  obtain ⟨A8_0, c8_0, rfl⟩ := Ow.LOwn.form h8_0
  have G0_8 := Seg.hid h8_0
  clear b8 h8_0
  go_wp2_with fail
  refine (eqApiS_any _ _ R0 w8 _ _ (Ow.LOwn.lat growsApx Ow.atOApx G0_8.out) Wr0_8.out (fun g hg => by have := hg.2; omega) (fun g hg => by have := hg.2; omega)).mono ?_
  rintro e w9 ⟨rfl, b9⟩
  have s9 := b9.size
  have B9 := Seg.hid (chain B8.out b9)
  have Wr0_9 := Seg.hid (LAt.below keepsApx Wr0_8.out b9 (fun g hg => by have := hg.2; omega))
  clear Wr0_8
  have X0_9 := Seg.hid (Ow.LOwn.belowO Ow.keepsOApx X0_8.out b9 (fun g hg => by have := hg.2; omega))
  clear X0_8
  have X1_9 := Seg.hid (Ow.LOwn.belowO Ow.keepsOApx X1_8.out b9 (fun g hg => by have := hg.2; omega))
  clear X1_8
  have G0_9 := Seg.hid (Ow.LOwn.belowO Ow.keepsOApx G0_8.out b9 (fun g hg => by have := hg.2; omega))
  clear G0_8
  clear B8
  clear b9
  go_wp2_with fail
  refine (toApiS_any _ u0 w9 (All w) (HV0.out.below keepsApx B9.out (fun g hg => hg)) (fun g hg => Nat.lt_of_lt_of_le hg B9.out.size) FW0.out).mono ?_
  rintro e w10 ⟨y10, rfl, h10, b10⟩
  have s10 := b10.size
  have B10 := Seg.hid (chain B9.out b10)
  have Wr0_10 := Seg.hid (LAt.below keepsApx Wr0_9.out b10 (fun g hg => by have := hg.2; omega))
  clear Wr0_9
  have X0_10 := Seg.hid (Ow.LOwn.belowO Ow.keepsOApx X0_9.out b10 (fun g hg => by have := hg.2; omega))
  clear X0_9
  have X1_10 := Seg.hid (Ow.LOwn.belowO Ow.keepsOApx X1_9.out b10 (fun g hg => by have := hg.2; omega))
  clear X1_9
  have G0_10 := Seg.hid (Ow.LOwn.belowO Ow.keepsOApx G0_9.out b10 (fun g hg => by have := hg.2; omega))
  clear G0_9
  clear B9
  obtain ⟨A10, c10, rfl⟩ := h10.form
  have Z0_10 := Seg.hid h10
  clear b10 h10
  go_wp2_with fail
  refine (eqApiS_any _ _ u0 w10 _ _ (Ow.LOwn.lat growsApx Ow.atOApx X0_10.out) Z0_10.out (fun g hg => by have := hg.2; omega) (fun g hg => by have := hg.2; omega)).mono ?_
  rintro e w11 ⟨rfl, b11⟩
  have s11 := b11.size
  have B11 := Seg.hid (chain B10.out b11)
  have Wr0_11 := Seg.hid (LAt.below keepsApx Wr0_10.out b11 (fun g hg => by have := hg.2; omega))
  clear Wr0_10
  have X0_11 := Seg.hid (Ow.LOwn.belowO Ow.keepsOApx X0_10.out b11 (fun g hg => by have := hg.2; omega))
  clear X0_10
  have X1_11 := Seg.hid (Ow.LOwn.belowO Ow.keepsOApx X1_10.out b11 (fun g hg => by have := hg.2; omega))
  clear X1_10
  have G0_11 := Seg.hid (Ow.LOwn.belowO Ow.keepsOApx G0_10.out b11 (fun g hg => by have := hg.2; omega))
  clear G0_10
  have Z0_11 := Seg.hid (LAt.below keepsApx Z0_10.out b11 (fun g hg => by have := hg.2; omega))
  clear Z0_10
  clear B10
  clear b11
  clear Z0_11
  go_wp2_with fail
  refine (toApiS_any _ u1 w11 (All w) (HV1.out.below keepsApx B11.out (fun g hg => hg)) (fun g hg => Nat.lt_of_lt_of_le hg B11.out.size) FW1.out).mono ?_
  rintro e w12 ⟨y12, rfl, h12, b12⟩
  have s12 := b12.size
  have B12 := Seg.hid (chain B11.out b12)
  have Wr0_12 := Seg.hid (LAt.below keepsApx Wr0_11.out b12 (fun g hg => by have := hg.2; omega))
  clear Wr0_11
  have X0_12 := Seg.hid (Ow.LOwn.belowO Ow.keepsOApx X0_11.out b12 (fun g hg => by have := hg.2; omega))
  clear X0_11
  have X1_12 := Seg.hid (Ow.LOwn.belowO Ow.keepsOApx X1_11.out b12 (fun g hg => by have := hg.2; omega))
  clear X1_11
  have G0_12 := Seg.hid (Ow.LOwn.belowO Ow.keepsOApx G0_11.out b12 (fun g hg => by have := hg.2; omega))
  clear G0_11
  clear B11
  obtain ⟨A12, c12, rfl⟩ := h12.form
  have Z1_12 := Seg.hid h12
  clear b12 h12
  go_wp2_with fail
  refine (eqApiS_any _ _ u1 w12 _ _ (Ow.LOwn.lat growsApx Ow.atOApx X1_12.out) Z1_12.out (fun g hg => by have := hg.2; omega) (fun g hg => by have := hg.2; omega)).mono ?_
  rintro e w13 ⟨rfl, b13⟩
  have s13 := b13.size
  have B13 := Seg.hid (chain B12.out b13)
  have Wr0_13 := Seg.hid (LAt.below keepsApx Wr0_12.out b13 (fun g hg => by have := hg.2; omega))
  clear Wr0_12
  have X0_13 := Seg.hid (Ow.LOwn.belowO Ow.keepsOApx X0_12.out b13 (fun g hg => by have := hg.2; omega))
  clear X0_12
  have X1_13 := Seg.hid (Ow.LOwn.belowO Ow.keepsOApx X1_12.out b13 (fun g hg => by have := hg.2; omega))
  clear X1_12
  have G0_13 := Seg.hid (Ow.LOwn.belowO Ow.keepsOApx G0_12.out b13 (fun g hg => by have := hg.2; omega))
  clear G0_12
  have Z1_13 := Seg.hid (LAt.below keepsApx Z1_12.out b13 (fun g hg => by have := hg.2; omega))
  clear Z1_12
  clear B12
  clear b13
  clear Z1_13
  go_wp2_with fail
  refine (Ow.markApiS_own _ 1 rfl (seg w5.heap.size w6.heap.size) u0 w13 (by decide) (by have := MA0.out; omega) X0_13.out).mono ?_
  rintro e w14 ⟨rfl, hm14, ft14⟩
  have s14 := ft14.size
  have B14 := Seg.hid (B13.out.trans (ft14.toBelow (lo := w.heap.size) (fun y hy => by have := hy.1; omega) (by omega)))
  have Wr0_14 := Seg.hid (LAt.keep keepsApx Wr0_13.out (fun g hg => ft14.block g (by have := hg.2; omega) (fun hy => by have := hy.1; have := hy.2; have := hg.1; have := hg.2; omega)))
  clear Wr0_13
  have X1_14 := Seg.hid (Ow.LOwn.footO Ow.keepsOApx X1_13.out ft14 (fun g hg => by have := hg.2; omega) (fun g hg hy => by have := hy.1; have := hy.2; have := hg.1; have := hg.2; omega))
  clear X1_13
  have G0_14 := Seg.hid (Ow.LOwn.footO Ow.keepsOApx G0_13.out ft14 (fun g hg => by have := hg.2; omega) (fun g hg hy => by have := hy.1; have := hy.2; have := hg.1; have := hg.2; omega))
  clear G0_13
  have X0_14 := Seg.hid hm14
  clear X0_13 hm14 ft14 B13
  obtain ⟨K0, hK0⟩ : ∃ K, 1 + tot Ow.nApx u0 = K := ⟨_, rfl⟩
  rw [hK0]
  have kb0 : 0 < K0 ∧ K0 ≤ 1000000001 := by have := MA0.out; omega
  clear hK0
  clear X0_14
  go_wp2_with fail
  refine (Ow.markApiS_own _ K0 rfl (seg w6.heap.size w7.heap.size) u1 w14 (by omega) (by have := MA1.out; omega) X1_14.out).mono ?_
  rintro e w15 ⟨rfl, hm15, ft15⟩
  have s15 := ft15.size
  have B15 := Seg.hid (B14.out.trans (ft15.toBelow (lo := w.heap.size) (fun y hy => by have := hy.1; omega) (by omega)))
  have Wr0_15 := Seg.hid (LAt.keep keepsApx Wr0_14.out (fun g hg => ft15.block g (by have := hg.2; omega) (fun hy => by have := hy.1; have := hy.2; have := hg.1; have := hg.2; omega)))
  clear Wr0_14
  have G0_15 := Seg.hid (Ow.LOwn.footO Ow.keepsOApx G0_14.out ft15 (fun g hg => by have := hg.2; omega) (fun g hg hy => by have := hy.1; have := hy.2; have := hg.1; have := hg.2; omega))
  clear G0_14
  have X1_15 := Seg.hid hm15
  clear X1_14 hm15 ft15 B14
  obtain ⟨K1, hK1⟩ : ∃ K, K0 + tot Ow.nApx u1 = K := ⟨_, rfl⟩
  rw [hK1]
  have kb1 : 0 < K1 ∧ K1 ≤ 2000000001 := by have := MA1.out; omega
  clear hK1
  clear X1_15
  have hK0 : (0 : Int) ≤ (K1 : Int) := by omega
  have hkd : decide ((K1 : Int) < 0) = false := decide_eq_false (by omega)
  go_wp2_with fail
  refine (eqApiS_any _ _ R0 w15 _ _ (Ow.LOwn.lat growsApx Ow.atOApx G0_15.out) Wr0_15.out (fun g hg => by have := hg.2; omega) (fun g hg => by have := hg.2; omega)).mono ?_
  rintro e w16 ⟨rfl, b16⟩
  have s16 := b16.size
  have B16 := Seg.hid (chain B15.out b16)
  have Wr0_16 := Seg.hid (LAt.below keepsApx Wr0_15.out b16 (fun g hg => by have := hg.2; omega))
  clear Wr0_15
  have G0_16 := Seg.hid (Ow.LOwn.belowO Ow.keepsOApx G0_15.out b16 (fun g hg => by have := hg.2; omega))
  clear G0_15
  clear B15
  clear b16
  go_wp2_with fail
  refine (Ow.markApiS_own _ 1 rfl (seg w7.heap.size w8.heap.size) R0 w16 (by decide) (by have := MR0.out; omega) G0_16.out).mono ?_
  rintro e w17 ⟨rfl, hm17, ft17⟩
  have s17 := ft17.size
  have B17 := Seg.hid (B16.out.trans (ft17.toBelow (lo := w.heap.size) (fun y hy => by have := hy.1; omega) (by omega)))
  have Wr0_17 := Seg.hid (LAt.keep keepsApx Wr0_16.out (fun g hg => ft17.block g (by have := hg.2; omega) (fun hy => by have := hy.1; have := hy.2; have := hg.1; have := hg.2; omega)))
  clear Wr0_16
  have G0_17 := Seg.hid hm17
  clear G0_16 hm17 ft17 B16
  obtain ⟨M0, hM0⟩ : ∃ M, 1 + tot Ow.nApx R0 = M := ⟨_, rfl⟩
  have HM0 := Seg.hid hM0
  rw [hM0]
  have mb0 : 0 < M0 ∧ M0 ≤ 1000000001 := by have := MR0.out; omega
  clear hM0
  go_wp2_with fail
  refine (Ow.heldApiS_at _ 1 rfl (seg w7.heap.size w8.heap.size) R0 w17 (by decide) (by have := MR0.out; omega) (fun g hg => by have := hg.2; omega) (Ow.LOwn.lat growsApx Ow.atOApx G0_17.out)).mono ?_
  rintro e w18 ⟨rfl, b18⟩
  have s18 := b18.size
  have B18 := Seg.hid (chain B17.out b18)
  have Wr0_18 := Seg.hid (LAt.below keepsApx Wr0_17.out b18 (fun g hg => by have := hg.2; omega))
  clear Wr0_17
  have G0_18 := Seg.hid (Ow.LOwn.belowO Ow.keepsOApx G0_17.out b18 (fun g hg => by have := hg.2; omega))
  clear G0_17
  clear B17
  rw [HM0.out]
  clear b18
  have hM0 : ¬ (M0 : Int) < 0 := by omega
  have hM1 : ((M0 : Int) != (M0 : Int)) = false := by simp
  go_wp2_with fail
  refine (toApiS_any _ u0 w18 (All w) (HV0.out.below keepsApx B18.out (fun g hg => hg)) (fun g hg => Nat.lt_of_lt_of_le hg B18.out.size) FW0.out).mono ?_
  rintro e w19 ⟨y19, rfl, h19, b19⟩
  have s19 := b19.size
  have B19 := Seg.hid (chain B18.out b19)
  have Wr0_19 := Seg.hid (LAt.below keepsApx Wr0_18.out b19 (fun g hg => by have := hg.2; omega))
  clear Wr0_18
  have G0_19 := Seg.hid (Ow.LOwn.belowO Ow.keepsOApx G0_18.out b19 (fun g hg => by have := hg.2; omega))
  clear G0_18
  clear B18
  obtain ⟨A19, c19, rfl⟩ := h19.form
  have Y0_19 := Seg.hid h19
  clear b19 h19
  go_wp2_with fail
  refine (toApiS_any _ u1 w19 (All w) (HV1.out.below keepsApx B19.out (fun g hg => hg)) (fun g hg => Nat.lt_of_lt_of_le hg B19.out.size) FW1.out).mono ?_
  rintro e w20 ⟨y20, rfl, h20, b20⟩
  have s20 := b20.size
  have B20 := Seg.hid (chain B19.out b20)
  have Wr0_20 := Seg.hid (LAt.below keepsApx Wr0_19.out b20 (fun g hg => by have := hg.2; omega))
  clear Wr0_19
  have G0_20 := Seg.hid (Ow.LOwn.belowO Ow.keepsOApx G0_19.out b20 (fun g hg => by have := hg.2; omega))
  clear G0_19
  have Y0_20 := Seg.hid (LAt.below keepsApx Y0_19.out b20 (fun g hg => by have := hg.2; omega))
  clear Y0_19
  clear B19
  obtain ⟨A20, c20, rfl⟩ := h20.form
  have Y1_20 := Seg.hid h20
  clear b20 h20
  go_wp2_with fail
  refine (CI.out w20 _ _ (LAt.mono growsApx Y0_20.out (fun g hg => by have := hg.2; show g < w20.heap.size; omega)) (LAt.mono growsApx Y1_20.out (fun g hg => by have := hg.2; show g < w20.heap.size; omega))).mono ?_
  rintro e w21 ⟨r21_0, rfl, h21_0, b21⟩
  have s21 := b21.size
  have B21 := Seg.hid (chain B20.out b21)
  have Wr0_21 := Seg.hid (LAt.below keepsApx Wr0_20.out b21 (fun g hg => by have := hg.2; omega))
  clear Wr0_20
  have G0_21 := Seg.hid (Ow.LOwn.belowO Ow.keepsOApx G0_20.out b21 (fun g hg => by have := hg.2; omega))
  clear G0_20
  have Y0_21 := Seg.hid (LAt.below keepsApx Y0_20.out b21 (fun g hg => by have := hg.2; omega))
  clear Y0_20
  have Y1_21 := Seg.hid (LAt.below keepsApx Y1_20.out b21 (fun g hg => by have := hg.2; omega))
  clear Y1_20
  clear B20
  obtain ⟨A21_0, c21_0, rfl⟩ := Ow.LOwn.form h21_0
  have H0_21 := Seg.hid h21_0
  clear b21 h21_0
  go_wp2_with fail
  clear Y0_21
  clear Y1_21
  refine (eqApiS_any _ _ R0 w21 _ _ (Ow.LOwn.lat growsApx Ow.atOApx H0_21.out) Wr0_21.out (fun g hg => by have := hg.2; omega) (fun g hg => by have := hg.2; omega)).mono ?_
  rintro e w22 ⟨rfl, b22⟩
  have s22 := b22.size
  have B22 := Seg.hid (chain B21.out b22)
  have Wr0_22 := Seg.hid (LAt.below keepsApx Wr0_21.out b22 (fun g hg => by have := hg.2; omega))
  clear Wr0_21
  have G0_22 := Seg.hid (Ow.LOwn.belowO Ow.keepsOApx G0_21.out b22 (fun g hg => by have := hg.2; omega))
  clear G0_21
  have H0_22 := Seg.hid (Ow.LOwn.belowO Ow.keepsOApx H0_21.out b22 (fun g hg => by have := hg.2; omega))
  clear H0_21
  clear B21
  clear b22
  go_wp2_with fail
  clear H0_22
  refine (Ow.heldApiS_at _ 1 rfl (seg w7.heap.size w8.heap.size) R0 w22 (by decide) (by have := MR0.out; omega) (fun g hg => by have := hg.2; omega) (Ow.LOwn.lat growsApx Ow.atOApx G0_22.out)).mono ?_
  rintro e w23 ⟨rfl, b23⟩
  have s23 := b23.size
  have B23 := Seg.hid (chain B22.out b23)
  have Wr0_23 := Seg.hid (LAt.below keepsApx Wr0_22.out b23 (fun g hg => by have := hg.2; omega))
  clear Wr0_22
  have G0_23 := Seg.hid (Ow.LOwn.belowO Ow.keepsOApx G0_22.out b23 (fun g hg => by have := hg.2; omega))
  clear G0_22
  clear B22
  rw [HM0.out]
  clear b23
  go_wp2_with fail
  go_ret
  exact ⟨rfl, B23.out⟩
end Go.Proofs.Ytencpfcjgfpciaa.ExAg
