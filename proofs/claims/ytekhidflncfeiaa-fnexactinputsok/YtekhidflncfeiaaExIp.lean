/- The walk of the law on InputsOk out of the contracts. -/
import Derived.Test.YtekhidflncfeiaaIoS
import Derived.Test.YtekhidflncfeiaaIoI
import Derived.Test.YtekhidflncfeiaaLsO
namespace Go.Proofs.Ytekhidflncfeiaa.ExIp
set_option maxRecDepth 8000
open Go.RowKit
open Ls Lp
open IoP
open Recs (hsz below1 below2 chain chainD)
set_option linter.unusedVariables false
set_option maxHeartbeats 3200000 in
theorem walk (v0 v1 : Value) (u0 : List Src) (u1 : List (List Arr)) (w : World) (hv0 : LAt 3 ESrc w (All w) v0 u0) (hf0 : FineL FineSrc u0) (hv1 : LAt 1 EArr2 w (All w) v1 u1) (hf1 : FineL (FineL FineArr) u1) :
    Calls Try.prog 3 #[v0, v1] w fun e w' => e = .returned (.bool true) ∧ Below w.heap.size w w' := by
  have HV0 := Seg.hid hv0
  obtain ⟨A0, c0, rfl⟩ := hv0.form
  have HF0 := Seg.hid hf0
  have HV1 := Seg.hid hv1
  obtain ⟨A1, c1, rfl⟩ := hv1.form
  have HF1 := Seg.hid hf1
  clear hf0 hv0 hf1 hv1
  go_enter Try.func3, Try.ntmps3
  have B0 : Hid (Below w.heap.size w w) := Below.refl _ _
  go_wp2_with fail
  refine (szSourceS_any _ u0 _ w (All w) (by omega) (by omega) (HV0.out.below keepsSrc B0.out (fun g hg => hg)) (fun g hg => Nat.lt_of_lt_of_le hg B0.out.size) HF0.out).mono ?_
  rintro e w1 ⟨q0, rfl, qa0, qb0, qc0, b1⟩
  have B1 := Seg.hid (chain B0.out b1)
  clear b1
  by_cases hq0 : q0 < 0
  · go_wp2
    go_ret
    exact ⟨rfl, B1.out⟩
  have FW0 : Hid (szL szSrc u0 ≤ 1048576) := by show _ ≤ _; have := qc0.1 (by omega); omega
  clear qc0
  go_wp2_with fail
  refine (szArrivalSS_any _ u1 _ w1 (All w) (by omega) (by omega) (HV1.out.below keepsArr2 B1.out (fun g hg => hg)) (fun g hg => Nat.lt_of_lt_of_le hg B1.out.size) HF1.out).mono ?_
  rintro e w2 ⟨q1, rfl, qa1, qb1, qc1, b2⟩
  have B2 := Seg.hid (chain B1.out b2)
  clear b2
  by_cases hq1 : q1 < 0
  · go_wp2
    go_ret
    exact ⟨rfl, B2.out⟩
  have FW1 : Hid (szL (szL szArr) u1 ≤ 1048576) := by show _ ≤ _; have := qc1.1 (by omega); omega
  clear qc1
  go_wp2_with fail
  refine (toSourceS_any _ u0 w2 (All w) (HV0.out.below keepsSrc B2.out (fun g hg => hg)) (fun g hg => Nat.lt_of_lt_of_le hg B2.out.size) FW0.out).mono ?_
  rintro e w3 ⟨ya0, rfl, ra0, b3⟩
  have Ra0 := Seg.hid ra0
  have B3 := Seg.hid (chain B2.out b3)
  have s3 := b3.size
  have N3 := Seg.hid b3
  clear b3
  obtain ⟨Aa0, ca0, hva0⟩ := ra0.form
  subst hva0
  clear ra0
  go_wp2_with fail
  refine (toArrivalSS_any _ u1 w3 (All w) (HV1.out.below keepsArr2 B3.out (fun g hg => hg)) (fun g hg => Nat.lt_of_lt_of_le hg B3.out.size) FW1.out).mono ?_
  rintro e w4 ⟨ya1, rfl, ra1, b4⟩
  have Ra1 := Seg.hid ra1
  have B4 := Seg.hid (chain B3.out b4)
  have s4 := b4.size
  have N4 := Seg.hid b4
  clear b4
  obtain ⟨Aa1, ca1, hva1⟩ := ra1.form
  subst hva1
  clear ra1
  go_wp2_with fail
  refine (IoS.spec_any _ _ u0 u1 w4 (seg w2.heap.size w4.heap.size) (((Ra0.out).below keepsSrc N4.out (fun g hg => Nat.lt_of_lt_of_le hg.2 (by omega))).mono growsSrc (fun g hg => ⟨Nat.le_trans (by omega) hg.1, Nat.lt_of_lt_of_le hg.2 (by omega)⟩ : ∀ g, seg w2.heap.size w3.heap.size g → seg w2.heap.size w4.heap.size g)) ((Ra1.out).mono growsArr2 (fun g hg => ⟨Nat.le_trans (by omega) hg.1, Nat.lt_of_lt_of_le hg.2 (by omega)⟩ : ∀ g, seg w3.heap.size w4.heap.size g → seg w2.heap.size w4.heap.size g)) (fun g hg => hg.2) FW0.out FW1.out).mono ?_
  rintro e w5 ⟨rfl, b5⟩
  have B5 := Seg.hid (chain B4.out b5)
  have s5 := b5.size
  have N5 := Seg.hid b5
  clear b5
  go_wp2_with fail
  refine (toSourceS_any _ u0 w5 (All w) (HV0.out.below keepsSrc B5.out (fun g hg => hg)) (fun g hg => Nat.lt_of_lt_of_le hg B5.out.size) FW0.out).mono ?_
  rintro e w6 ⟨yx0, rfl, rx0, b6⟩
  have Rx0 := Seg.hid rx0
  have B6 := Seg.hid (chain B5.out b6)
  have s6 := b6.size
  have N6 := Seg.hid b6
  clear b6
  obtain ⟨Ax0, cx0, hvx0⟩ := rx0.form
  subst hvx0
  clear rx0
  go_wp2_with fail
  refine (toArrivalSS_any _ u1 w6 (All w) (HV1.out.below keepsArr2 B6.out (fun g hg => hg)) (fun g hg => Nat.lt_of_lt_of_le hg B6.out.size) FW1.out).mono ?_
  rintro e w7 ⟨yx1, rfl, rx1, b7⟩
  have Rx1 := Seg.hid rx1
  have B7 := Seg.hid (chain B6.out b7)
  have s7 := b7.size
  have N7 := Seg.hid b7
  clear b7
  obtain ⟨Ax1, cx1, hvx1⟩ := rx1.form
  subst hvx1
  clear rx1
  go_wp2_with fail
  refine (IoI.impl_any _ _ u0 u1 w7 (seg w5.heap.size w7.heap.size) (((Rx0.out).below keepsSrc N7.out (fun g hg => Nat.lt_of_lt_of_le hg.2 (by omega))).mono growsSrc (fun g hg => ⟨Nat.le_trans (by omega) hg.1, Nat.lt_of_lt_of_le hg.2 (by omega)⟩ : ∀ g, seg w5.heap.size w6.heap.size g → seg w5.heap.size w7.heap.size g)) ((Rx1.out).mono growsArr2 (fun g hg => ⟨Nat.le_trans (by omega) hg.1, Nat.lt_of_lt_of_le hg.2 (by omega)⟩ : ∀ g, seg w6.heap.size w7.heap.size g → seg w5.heap.size w7.heap.size g)) (fun g hg => hg.2) FW0.out FW1.out).mono ?_
  rintro e w8 ⟨rfl, b8⟩
  have B8 := Seg.hid (chain B7.out b8)
  have s8 := b8.size
  have N8 := Seg.hid b8
  clear b8
  have hne : (inpOk u0 u1 != inpOk u0 u1) = false := by simp
  go_wp2_with fail
  refine (toSourceS_any _ u0 w8 (All w) (HV0.out.below keepsSrc B8.out (fun g hg => hg)) (fun g hg => Nat.lt_of_lt_of_le hg B8.out.size) FW0.out).mono ?_
  rintro e w9 ⟨yz0, rfl, rz0, b9⟩
  have Rz0 := Seg.hid rz0
  have B9 := Seg.hid (chain B8.out b9)
  have s9 := b9.size
  have N9 := Seg.hid b9
  clear b9
  obtain ⟨Az0, cz0, hvz0⟩ := rz0.form
  subst hvz0
  clear rz0
  go_wp2_with fail
  refine (eqSourceS_any _ _ u0 w9 _ _ ((((Rx0.out).below keepsSrc N7.out (fun g hg => Nat.lt_of_lt_of_le hg.2 (by omega))).below keepsSrc N8.out (fun g hg => Nat.lt_of_lt_of_le hg.2 (by omega))).below keepsSrc N9.out (fun g hg => Nat.lt_of_lt_of_le hg.2 (by omega))) Rz0.out (fun g hg => Nat.lt_of_lt_of_le hg.2 (by omega)) (fun g hg => hg.2)).mono ?_
  rintro e w10 ⟨rfl, b10⟩
  have B10 := Seg.hid (chain B9.out b10)
  have s10 := b10.size
  have N10 := Seg.hid b10
  clear b10
  go_wp2_with fail
  refine (toArrivalSS_any _ u1 w10 (All w) (HV1.out.below keepsArr2 B10.out (fun g hg => hg)) (fun g hg => Nat.lt_of_lt_of_le hg B10.out.size) FW1.out).mono ?_
  rintro e w11 ⟨yz1, rfl, rz1, b11⟩
  have Rz1 := Seg.hid rz1
  have B11 := Seg.hid (chain B10.out b11)
  have s11 := b11.size
  have N11 := Seg.hid b11
  clear b11
  obtain ⟨Az1, cz1, hvz1⟩ := rz1.form
  subst hvz1
  clear rz1
  go_wp2_with fail
  refine (eqArrivalSS_any _ _ u1 w11 _ _ (((((Rx1.out).below keepsArr2 N8.out (fun g hg => Nat.lt_of_lt_of_le hg.2 (by omega))).below keepsArr2 N9.out (fun g hg => Nat.lt_of_lt_of_le hg.2 (by omega))).below keepsArr2 N10.out (fun g hg => Nat.lt_of_lt_of_le hg.2 (by omega))).below keepsArr2 N11.out (fun g hg => Nat.lt_of_lt_of_le hg.2 (by omega))) Rz1.out (fun g hg => Nat.lt_of_lt_of_le hg.2 (by omega)) (fun g hg => hg.2)).mono ?_
  rintro e w12 ⟨rfl, b12⟩
  have B12 := Seg.hid (chain B11.out b12)
  have s12 := b12.size
  have N12 := Seg.hid b12
  clear b12
  go_wp2
  go_ret
  exact ⟨rfl, B12.out⟩
end Go.Proofs.Ytekhidflncfeiaa.ExIp
