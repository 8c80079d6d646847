/- The walk of the law on ShowRules out of the contracts. -/
import Derived.Test.YtfdfhhiaalbfiaaRuL
import Derived.Test.YtfdfhhiaalbfiaaShI
import Derived.Test.YtfdfhhiaalbfiaaLsO
namespace Go.Proofs.Ytfdfhhiaalbfiaa.ExShr
set_option maxRecDepth 8000
open Go.RowKit
open Ls Lp RuP
open Recs (hsz below1 below2 chain chainD)
set_option linter.unusedVariables false
set_option maxHeartbeats 12800000 in
theorem walk (v0 : Value) (u0 : List Rul) (w : World) (hv0 : LAt 6 ERul w (All w) v0 u0) (hf0 : FineL FineRul u0) :
    Calls Try.prog 5 #[v0] w fun e w' => e = .returned (.bool true) ∧ Below w.heap.size w w' := by
  have HV0 := Seg.hid hv0
  obtain ⟨A0, c0, rfl⟩ := hv0.form
  have HF0 := Seg.hid hf0
  clear hf0 hv0
  go_enter Try.func5, Try.ntmps5
  go_wp2_with fail
  refine (szRuleS_any _ u0 _ w (All w) (by omega) (by omega) HV0.out (fun g hg => hg) HF0.out).mono ?_
  rintro e w1 ⟨q0, rfl, qa0, qb0, qc0, b1⟩
  have s1 := b1.size
  have B1 := Seg.hid b1
  clear b1
  by_cases hq0 : q0 < 0
  · go_wp2
    go_ret
    exact ⟨rfl, B1.out⟩
  have FW0 : Hid (szL szRul u0 ≤ 1048576) := by show _ ≤ _; have := qc0.1 (by omega); omega
  clear qc0
  go_wp2_with fail
  obtain ⟨R0, hR0⟩ : ∃ R, text u0 = R := ⟨_, rfl⟩
  have CS : Hid (∀ (wx : World) (x0 : Value), LAt 6 ERul wx (fun g => g < wx.heap.size) x0 u0 → Calls Try.prog 16 #[x0] wx fun e w' => e = .returned (.string R0) ∧ Below wx.heap.size wx w') := by
    intro wx x0 h0
    have hh := RuS.show_any x0 u0 wx _ h0 (fun g hg => hg) FW0.out
    rw [hR0] at hh
    exact hh
  have CI : Hid (∀ (wx : World) (x0 : Value), LAt 6 ERul wx (fun g => g < wx.heap.size) x0 u0 → Calls Try.prog 18 #[x0] wx fun e w' => e = .returned (.string R0) ∧ Below wx.heap.size wx w') := by
    intro wx x0 h0
    have hh := ShI.impl_any x0 u0 wx _ h0 (fun g hg => hg) FW0.out
    rw [hR0] at hh
    exact hh
  clear hR0
  refine (toRuleS_any _ u0 w1 (All w) (HV0.out.below keepsRul B1.out (fun g hg => hg)) (fun g hg => Nat.lt_of_lt_of_le hg B1.out.size) FW0.out).mono ?_
  rintro e w2 ⟨y2, rfl, h2, b2⟩
  have s2 := b2.size
  have B2 := Seg.hid (chain B1.out b2)
  clear B1
  obtain ⟨A2, c2, rfl⟩ := h2.form
  have T0_2 := Seg.hid h2
  clear b2 h2
  go_wp2_with fail
  refine (CS.out w2 _ (LAt.mono growsRul T0_2.out (fun g hg => by have := hg.2; show g < w2.heap.size; omega))).mono ?_
  rintro e w3 ⟨rfl, b3⟩
  have s3 := b3.size
  have B3 := Seg.hid (chain B2.out b3)
  have T0_3 := Seg.hid (LAt.below keepsRul T0_2.out b3 (fun g hg => by have := hg.2; omega))
  clear T0_2
  clear B2
  clear b3 
  go_wp2_with fail
  clear T0_3
  refine (toRuleS_any _ u0 w3 (All w) (HV0.out.below keepsRul B3.out (fun g hg => hg)) (fun g hg => Nat.lt_of_lt_of_le hg B3.out.size) FW0.out).mono ?_
  rintro e w4 ⟨y4, rfl, h4, b4⟩
  have s4 := b4.size
  have B4 := Seg.hid (chain B3.out b4)
  clear B3
  obtain ⟨A4, c4, rfl⟩ := h4.form
  have X0_4 := Seg.hid h4
  clear b4 h4
  go_wp2_with fail
  refine (CI.out w4 _ (LAt.mono growsRul X0_4.out (fun g hg => by have := hg.2; show g < w4.heap.size; omega))).mono ?_
  rintro e w5 ⟨rfl, b5⟩
  have s5 := b5.size
  have B5 := Seg.hid (chain B4.out b5)
  have X0_5 := Seg.hid (LAt.below keepsRul X0_4.out b5 (fun g hg => by have := hg.2; omega))
  clear X0_4
  clear B4
  clear b5 
  go_wp2_with fail
  refine (toRuleS_any _ u0 w5 (All w) (HV0.out.below keepsRul B5.out (fun g hg => hg)) (fun g hg => Nat.lt_of_lt_of_le hg B5.out.size) FW0.out).mono ?_
  rintro e w6 ⟨y6, rfl, h6, b6⟩
  have s6 := b6.size
  have B6 := Seg.hid (chain B5.out b6)
  have X0_6 := Seg.hid (LAt.below keepsRul X0_5.out b6 (fun g hg => by have := hg.2; omega))
  clear X0_5
  clear B5
  obtain ⟨A6, c6, rfl⟩ := h6.form
  have Z0_6 := Seg.hid h6
  clear b6 h6
  go_wp2_with fail
  refine (eqRuleS_any _ _ u0 w6 _ _ X0_6.out Z0_6.out (fun g hg => by have := hg.2; omega) (fun g hg => by have := hg.2; omega)).mono ?_
  rintro e w7 ⟨rfl, b7⟩
  have s7 := b7.size
  have B7 := Seg.hid (chain B6.out b7)
  have X0_7 := Seg.hid (LAt.below keepsRul X0_6.out b7 (fun g hg => by have := hg.2; omega))
  clear X0_6
  have Z0_7 := Seg.hid (LAt.below keepsRul Z0_6.out b7 (fun g hg => by have := hg.2; omega))
  clear Z0_6
  clear B6
  clear b7
  clear Z0_7
  go_wp2_with fail
  go_ret
  exact ⟨rfl, B7.out⟩
end Go.Proofs.Ytfdfhhiaalbfiaa.ExShr
