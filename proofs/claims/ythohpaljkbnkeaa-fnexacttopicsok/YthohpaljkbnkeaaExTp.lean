/- The walk of the law on TopicsOk out of the contracts. -/
import Derived.Test.YthohpaljkbnkeaaTpI
import Derived.Test.YthohpaljkbnkeaaTpS
import Derived.Test.YthohpaljkbnkeaaLsO
namespace Go.Proofs.Ythohpaljkbnkeaa.ExTp
set_option maxRecDepth 8000
open Go.RowKit
open Ls Lp TpP
open Recs (hsz below1 below2 chain chainD)
set_option linter.unusedVariables false
set_option maxHeartbeats 1600000 in
theorem walk (v : Value) (l : List Tpc) (w : World) (hv : LAt 2 ETpc w (All w) v l) (hf : FineL FineTpc l) :
    Calls Try.prog 4 #[v] w fun e w' => e = .returned (.bool true) ∧ Below w.heap.size w w' := by
  have HV := Seg.hid hv
  obtain ⟨A0, c0, rfl⟩ := hv.form
  have HF := Seg.hid hf
  clear hf hv
  go_enter Try.func4, Try.ntmps4
  go_wp2_with fail
  refine (szTopicS_any _ l _ w (All w) (by omega) (by omega) HV.out (fun g hg => hg) HF.out).mono ?_
  rintro e w1 ⟨q, rfl, q1, q2, q3, b1⟩
  have B1 := Seg.hid b1
  clear b1
  by_cases hq : q < 0
  · go_wp2
    go_ret
    exact ⟨rfl, B1.out⟩
  have FW : Hid (szL szTpc l ≤ 1048576) := by show _ ≤ _; have := q3.1 (by omega); omega
  have s1 := B1.out.size
  clear q3
  go_wp2_with fail
  refine (toTopicS_any _ l w1 (All w) (HV.out.below keepsTpc B1.out (fun g hg => hg)) (fun g hg => Nat.lt_of_lt_of_le hg s1) FW.out).mono ?_
  rintro e w2 ⟨v2, rfl, r2, b2⟩
  have R2 := Seg.hid r2
  have B2 := Seg.hid (chain B1.out b2)
  have s2 := b2.size
  clear r2 b2
  obtain ⟨A2, c2, hv2⟩ := R2.out.form
  subst hv2
  go_wp2_with fail
  refine (TpS.spec_any _ l w2 _ R2.out (fun g hg => hg.2) FW.out).mono ?_
  rintro e w3 ⟨rfl, b3⟩
  have B3 := Seg.hid (chain B2.out b3)
  have s3 := b3.size
  clear b3
  go_wp2_with fail
  refine (toTopicS_any _ l w3 (All w) (HV.out.below keepsTpc B3.out (fun g hg => hg)) (fun g hg => Nat.lt_of_lt_of_le hg (by omega)) FW.out).mono ?_
  rintro e w4 ⟨v4, rfl, r4, b4⟩
  have R4 := Seg.hid r4
  have B4 := Seg.hid (chain B3.out b4)
  have s4 := b4.size
  clear b4
  obtain ⟨A4, c4, hv4⟩ := r4.form
  subst hv4
  clear r4
  go_wp2_with fail
  refine (TpI.impl_any _ l w4 _ R4.out (fun g hg => hg.2) FW.out).mono ?_
  rintro e w5 ⟨rfl, b5⟩
  have B5 := Seg.hid (chain B4.out b5)
  have R5 := Seg.hid (R4.out.below keepsTpc b5 (fun g hg => hg.2))
  have s5 := b5.size
  clear b5
  have hne : (TpP.topics l != TpP.topics l) = false := by simp
  go_wp2_with fail
  refine (toTopicS_any _ l w5 (All w) (HV.out.below keepsTpc B5.out (fun g hg => hg)) (fun g hg => Nat.lt_of_lt_of_le hg B5.out.size) FW.out).mono ?_
  rintro e w6 ⟨v6, rfl, r6, b6⟩
  have R6 := Seg.hid r6
  have B6 := Seg.hid (chain B5.out b6)
  have s6 := b6.size
  have X6 : Hid (LAt 2 ETpc w6 (seg w3.heap.size w4.heap.size) (.slice A4 l.length c4) l) := R5.out.below keepsTpc (b6.mono s5) (fun g hg => hg.2)
  clear b6
  obtain ⟨A6, c6, hv6⟩ := r6.form
  subst hv6
  clear r6
  go_wp2_with fail
  refine (eqTopicS_any _ _ l w6 _ _ X6.out R6.out (fun g hg => Nat.lt_of_lt_of_le (Nat.lt_of_lt_of_le hg.2 s5) s6) (fun g hg => hg.2)).mono ?_
  rintro e w7 ⟨rfl, b7⟩
  have B7 := Seg.hid (chain B6.out b7)
  clear b7
  go_wp2
  go_ret
  exact ⟨rfl, B7.out⟩
end Go.Proofs.Ythohpaljkbnkeaa.ExTp
