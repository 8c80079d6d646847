/- The walk of the law on SourcesOk out of the contracts. -/
import Derived.Test.YtboooabjeidmfaaQsI
import Derived.Test.YtboooabjeidmfaaQsS
import Derived.Test.YtboooabjeidmfaaLsO
namespace Go.Proofs.Ytboooabjeidmfaa.ExQs
set_option maxRecDepth 8000
open Go.RowKit
open Ls Lp
open QsP
open Recs (hsz below1 below2 chain chainD)
set_option linter.unusedVariables false
set_option maxHeartbeats 3200000 in
theorem walk (v0 : Value) (u0 : List Src) (w : World) (hv0 : LAt 3 ESrc w (All w) v0 u0) (hf0 : FineL FineSrc u0) :
    Calls Try.prog 3 #[v0] w fun e w' => e = .returned (.bool true) ∧ Below w.heap.size w w' := by
  have HV0 := Seg.hid hv0
  obtain ⟨A0, c0, rfl⟩ := hv0.form
  have HF0 := Seg.hid hf0
  clear hf0 hv0
  go_enter Try.func3, Try.ntmps3
  have B0 : Hid (Below w.heap.size w w) := Below.refl _ _
  go_wp2_with fail
  refine (szSourceS_any _ u0 _ w (All w) (by omega) (by omega) (HV0.out.below keepsSrc B0.out (fun g hg => hg)) (fun g hg => Nat.lt_of_lt_of_le hg B0.out.size) HF0.out).mono ?_
  rintro e w1 ⟨q0, rfl, qa0, qb0, qc0, b1⟩
  have B1 := Seg.hid (chain B0.out b1)
  clear b1
  by_cases hq0 : q0 < 0
  · go_wp2
    go_ret
    exact ⟨rfl, B1.out⟩
  have FW0 : Hid (szL szSrc u0 ≤ 1048576) := by show _ ≤ _; have := qc0.1 (by omega); omega
  clear qc0
  go_wp2_with fail
  refine (toSourceS_any _ u0 w1 (All w) (HV0.out.below keepsSrc B1.out (fun g hg => hg)) (fun g hg => Nat.lt_of_lt_of_le hg B1.out.size) FW0.out).mono ?_
  rintro e w2 ⟨ya0, rfl, ra0, b2⟩
  have Ra0 := Seg.hid ra0
  have B2 := Seg.hid (chain B1.out b2)
  have s2 := b2.size
  have N2 := Seg.hid b2
  clear b2
  obtain ⟨Aa0, ca0, hva0⟩ := ra0.form
  subst hva0
  clear ra0
  go_wp2_with fail
  refine (QsS.spec_any _ u0 w2 (seg w1.heap.size w2.heap.size) ((Ra0.out).mono growsSrc (fun g hg => ⟨Nat.le_trans (by omega) hg.1, Nat.lt_of_lt_of_le hg.2 (by omega)⟩ : ∀ g, seg w1.heap.size w2.heap.size g → seg w1.heap.size w2.heap.size g)) (fun g hg => hg.2) FW0.out).mono ?_
  rintro e w3 ⟨rfl, b3⟩
  have B3 := Seg.hid (chain B2.out b3)
  have s3 := b3.size
  have N3 := Seg.hid b3
  clear b3
  go_wp2_with fail
  refine (toSourceS_any _ u0 w3 (All w) (HV0.out.below keepsSrc B3.out (fun g hg => hg)) (fun g hg => Nat.lt_of_lt_of_le hg B3.out.size) FW0.out).mono ?_
  rintro e w4 ⟨yx0, rfl, rx0, b4⟩
  have Rx0 := Seg.hid rx0
  have B4 := Seg.hid (chain B3.out b4)
  have s4 := b4.size
  have N4 := Seg.hid b4
  clear b4
  obtain ⟨Ax0, cx0, hvx0⟩ := rx0.form
  subst hvx0
  clear rx0
  go_wp2_with fail
  refine (QsI.impl_any _ u0 w4 (seg w3.heap.size w4.heap.size) ((Rx0.out).mono growsSrc (fun g hg => ⟨Nat.le_trans (by omega) hg.1, Nat.lt_of_lt_of_le hg.2 (by omega)⟩ : ∀ g, seg w3.heap.size w4.heap.size g → seg w3.heap.size w4.heap.size g)) (fun g hg => hg.2) FW0.out).mono ?_
  rintro e w5 ⟨rfl, b5⟩
  have B5 := Seg.hid (chain B4.out b5)
  have s5 := b5.size
  have N5 := Seg.hid b5
  clear b5
  have hne : (srcsOk u0 != srcsOk u0) = false := by simp
  go_wp2_with fail
  refine (toSourceS_any _ u0 w5 (All w) (HV0.out.below keepsSrc B5.out (fun g hg => hg)) (fun g hg => Nat.lt_of_lt_of_le hg B5.out.size) FW0.out).mono ?_
  rintro e w6 ⟨yz0, rfl, rz0, b6⟩
  have Rz0 := Seg.hid rz0
  have B6 := Seg.hid (chain B5.out b6)
  have s6 := b6.size
  have N6 := Seg.hid b6
  clear b6
  obtain ⟨Az0, cz0, hvz0⟩ := rz0.form
  subst hvz0
  clear rz0
  go_wp2_with fail
  refine (eqSourceS_any _ _ u0 w6 _ _ (((Rx0.out).below keepsSrc N5.out (fun g hg => Nat.lt_of_lt_of_le hg.2 (by omega))).below keepsSrc N6.out (fun g hg => Nat.lt_of_lt_of_le hg.2 (by omega))) Rz0.out (fun g hg => Nat.lt_of_lt_of_le hg.2 (by omega)) (fun g hg => hg.2)).mono ?_
  rintro e w7 ⟨rfl, b7⟩
  have B7 := Seg.hid (chain B6.out b7)
  have s7 := b7.size
  have N7 := Seg.hid b7
  clear b7
  go_wp2
  go_ret
  exact ⟨rfl, B7.out⟩
end Go.Proofs.Ytboooabjeidmfaa.ExQs
