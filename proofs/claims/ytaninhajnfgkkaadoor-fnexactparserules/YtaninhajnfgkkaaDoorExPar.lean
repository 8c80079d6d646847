/- The walk of the law on ParseRules out of the contracts. -/
import Derived.Test.YtaninhajnfgkkaaDoorPrS
import Derived.Test.YtaninhajnfgkkaaDoorPaI
import Derived.Test.YtaninhajnfgkkaaDoorORul
import Derived.Test.YtaninhajnfgkkaaDoorHRul
import Derived.Test.YtaninhajnfgkkaaDoorLsO
namespace Go.Proofs.YtaninhajnfgkkaaDoor.ExPar
set_option maxRecDepth 8000
open Go.RowKit
open Ls Lp RuP PrP
open Recs (hsz below1 below2 chain chainD)
set_option linter.unusedVariables false
theorem parseF_le : ∀ (ls : List (List UInt8)) (i : Nat) (out : List Rul), out.length ≤ i → out.length ≤ 100 → (parseF ls i out).1.length ≤ 100
  | [], _, out, _, h => h
  | ln :: r, i, out, h1, h2 => by
    rw [parseF]
    split
    · rename_i hl
      simp only [lnOk, Bool.and_eq_true, decide_eq_true_eq] at hl
      exact parseF_le r (i + 1) _ (by simp; omega) (by simp; omega)
    · simp
theorem parse_le (t : ByteArray) : (parse t).1.length ≤ 100 := by
  unfold parse
  split
  · simp
  · exact parseF_le _ 0 [] (Nat.le_refl _) (by simp)
theorem few_len (us : List Rul) (h : us.length ≤ 100) : tot Ow.nRul us ≤ 1000000000 := by
  have : ∀ us : List Rul, tot Ow.nRul us = 6 * us.length := fun us => by
    induction us with
    | nil => rfl
    | cons t r ih => simp only [tot, ih, Ow.nRul, List.length_cons]; omega
  rw [this]; omega
set_option maxHeartbeats 12800000 in
theorem walk (a0 : ByteArray) (w : World) (hs0 : a0.size ≤ maxLen) (m : Int) (hm : w.cell? ⟨0, 0, none⟩ = some (.int .i64 m)) :
    Calls Tryd.prog 3 #[.string a0] w fun e w' => e = .returned (.bool true) ∧ Below w.heap.size w w' := by
  go_enter Tryd.func3, Tryd.ntmps3
  by_cases hq0 : 1048576 < a0.size
  · go_wp2
    go_ret
    exact ⟨rfl, Below.refl _ _⟩
  have SS0 : Hid (a0.size ≤ 1048576) := by show _ ≤ _; omega
  have ss0 : a0.size ≤ 1048576 := SS0.out
  go_wp2_with fail
  obtain ⟨R0, hR0⟩ : ∃ R, (parse a0).1 = R := ⟨_, rfl⟩
  obtain ⟨R1, hR1⟩ : ∃ R, (parse a0).2 = R := ⟨_, rfl⟩
  have CS : Hid (∀ (wx : World), Calls Tryd.prog 4 #[.string a0] wx fun e w' => ∃ r0, e = .returned (.tuple #[r0, .int .i64 R1]) ∧ Ow.RulsOwn w' (seg wx.heap.size w'.heap.size) r0 R0 ∧ Below wx.heap.size wx w') := by
    intro wx  
    have hh := PrS.parse_any a0 wx SS0.out
    rw [hR0, hR1] at hh
    exact hh
  have CI : Hid (∀ (wx : World), Below w.heap.size w wx → Calls Tryd.prog 5 #[.string a0] wx fun e w' => ∃ r0, e = .returned (.tuple #[r0, .int .i64 R1]) ∧ Ow.RulsOwn w' (seg wx.heap.size w'.heap.size) r0 R0 ∧ Below wx.heap.size wx w') := by
    intro wx bx
    have hh := PaI.impl_any a0 m wx SS0.out ((bx.cell (PaI.cell_pos hm)).trans hm)
    rw [hR0, hR1] at hh
    exact hh
  have MR0 : Hid (tot Ow.nRul R0 ≤ 1000000000) := by
    show _ ≤ _
    rw [← hR0]
    exact few_len _ (parse_le a0)
  clear hR0 hR1
  refine (CS.out w  ).mono ?_
  rintro e w1 ⟨r1_0, rfl, h1_0, b1⟩
  have s1 := b1.size
  have B1 := Seg.hid b1
  obtain ⟨A1_0, c1_0, rfl⟩ := Ow.LOwn.form h1_0
  have Wr0_1 := Seg.hid (Ow.LOwn.lat growsRul Ow.atORul h1_0)
  clear b1 h1_0
  go_wp2_with fail
  refine (CI.out w1 B1.out).mono ?_
  rintro e w2 ⟨r2_0, rfl, h2_0, b2⟩
  have s2 := b2.size
  have B2 := Seg.hid (chain B1.out b2)
  have Wr0_2 := Seg.hid (LAt.below keepsRul Wr0_1.out b2 (fun g hg => by have := hg.2; omega))
  clear Wr0_1
  clear B1
  obtain ⟨A2_0, c2_0, rfl⟩ := Ow.LOwn.form h2_0
  have G0_2 := Seg.hid h2_0
  clear b2 h2_0
  go_wp2_with fail
  refine (eqRuleS_any _ _ R0 w2 _ _ (Ow.LOwn.lat growsRul Ow.atORul G0_2.out) Wr0_2.out (fun g hg => by have := hg.2; omega) (fun g hg => by have := hg.2; omega)).mono ?_
  rintro e w3 ⟨rfl, b3⟩
  have s3 := b3.size
  have B3 := Seg.hid (chain B2.out b3)
  have Wr0_3 := Seg.hid (LAt.below keepsRul Wr0_2.out b3 (fun g hg => by have := hg.2; omega))
  clear Wr0_2
  have G0_3 := Seg.hid (Ow.LOwn.belowO Ow.keepsORul G0_2.out b3 (fun g hg => by have := hg.2; omega))
  clear G0_2
  clear B2
  clear b3
  go_wp2_with fail
  refine (Ow.markRuleS_own _ 1 rfl (seg w1.heap.size w2.heap.size) R0 w3 (by decide) (by have := MR0.out; omega) G0_3.out).mono ?_
  rintro e w4 ⟨rfl, hm4, ft4⟩
  have s4 := ft4.size
  have B4 := Seg.hid (B3.out.trans (ft4.toBelow (lo := w.heap.size) (fun y hy => by have := hy.1; omega) (by omega)))
  have Wr0_4 := Seg.hid (LAt.keep keepsRul Wr0_3.out (fun g hg => ft4.block g (by have := hg.2; omega) (fun hy => by have := hy.1; have := hy.2; have := hg.1; have := hg.2; omega)))
  clear Wr0_3
  have G0_4 := Seg.hid hm4
  clear G0_3 hm4 ft4 B3
  obtain ⟨M0, hM0⟩ : ∃ M, 1 + tot Ow.nRul R0 = M := ⟨_, rfl⟩
  have HM0 := Seg.hid hM0
  rw [hM0]
  have mb0 : 0 < M0 ∧ M0 ≤ 1000000001 := by have := MR0.out; omega
  clear hM0
  go_wp2_with fail
  refine (Ow.heldRuleS_at _ 1 rfl (seg w1.heap.size w2.heap.size) R0 w4 (by decide) (by have := MR0.out; omega) (fun g hg => by have := hg.2; omega) (Ow.LOwn.lat growsRul Ow.atORul G0_4.out)).mono ?_
  rintro e w5 ⟨rfl, b5⟩
  have s5 := b5.size
  have B5 := Seg.hid (chain B4.out b5)
  have Wr0_5 := Seg.hid (LAt.below keepsRul Wr0_4.out b5 (fun g hg => by have := hg.2; omega))
  clear Wr0_4
  have G0_5 := Seg.hid (Ow.LOwn.belowO Ow.keepsORul G0_4.out b5 (fun g hg => by have := hg.2; omega))
  clear G0_4
  clear B4
  rw [HM0.out]
  clear b5
  have hM0 : ¬ (M0 : Int) < 0 := by omega
  have hM1 : ((M0 : Int) != (M0 : Int)) = false := by simp
  go_wp2_with fail
  refine (CI.out w5 B5.out).mono ?_
  rintro e w6 ⟨r6_0, rfl, h6_0, b6⟩
  have s6 := b6.size
  have B6 := Seg.hid (chain B5.out b6)
  have Wr0_6 := Seg.hid (LAt.below keepsRul Wr0_5.out b6 (fun g hg => by have := hg.2; omega))
  clear Wr0_5
  have G0_6 := Seg.hid (Ow.LOwn.belowO Ow.keepsORul G0_5.out b6 (fun g hg => by have := hg.2; omega))
  clear G0_5
  clear B5
  obtain ⟨A6_0, c6_0, rfl⟩ := Ow.LOwn.form h6_0
  have H0_6 := Seg.hid h6_0
  clear b6 h6_0
  go_wp2_with fail
  refine (eqRuleS_any _ _ R0 w6 _ _ (Ow.LOwn.lat growsRul Ow.atORul H0_6.out) Wr0_6.out (fun g hg => by have := hg.2; omega) (fun g hg => by have := hg.2; omega)).mono ?_
  rintro e w7 ⟨rfl, b7⟩
  have s7 := b7.size
  have B7 := Seg.hid (chain B6.out b7)
  have Wr0_7 := Seg.hid (LAt.below keepsRul Wr0_6.out b7 (fun g hg => by have := hg.2; omega))
  clear Wr0_6
  have G0_7 := Seg.hid (Ow.LOwn.belowO Ow.keepsORul G0_6.out b7 (fun g hg => by have := hg.2; omega))
  clear G0_6
  have H0_7 := Seg.hid (Ow.LOwn.belowO Ow.keepsORul H0_6.out b7 (fun g hg => by have := hg.2; omega))
  clear H0_6
  clear B6
  clear b7
  go_wp2_with fail
  clear H0_7
  refine (Ow.heldRuleS_at _ 1 rfl (seg w1.heap.size w2.heap.size) R0 w7 (by decide) (by have := MR0.out; omega) (fun g hg => by have := hg.2; omega) (Ow.LOwn.lat growsRul Ow.atORul G0_7.out)).mono ?_
  rintro e w8 ⟨rfl, b8⟩
  have s8 := b8.size
  have B8 := Seg.hid (chain B7.out b8)
  have Wr0_8 := Seg.hid (LAt.below keepsRul Wr0_7.out b8 (fun g hg => by have := hg.2; omega))
  clear Wr0_7
  have G0_8 := Seg.hid (Ow.LOwn.belowO Ow.keepsORul G0_7.out b8 (fun g hg => by have := hg.2; omega))
  clear G0_7
  clear B7
  rw [HM0.out]
  clear b8
  go_wp2_with fail
  go_ret
  exact ⟨rfl, B8.out⟩
end Go.Proofs.YtaninhajnfgkkaaDoor.ExPar
