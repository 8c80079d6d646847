/- The walk of the law on Resolve out of the contracts. -/
import Derived.Deep.RegionHeld3
import Derived.Deep.RegionLaw
import Derived.Test.YtdhicmbfknagjaaJRO26
import Derived.Test.YtdhicmbfknagjaaJRO28
import Derived.Test.YtdhicmbfknagjaaJRO31
import Derived.Test.YtdhicmbfknagjaaJRO33
import Derived.Test.YtdhicmbfknagjaaJRO30
import Derived.Test.YtdhicmbfknagjaaJRO34
namespace Go.Proofs.Ytdhicmbfknagjaa.ExRv
set_option maxRecDepth 8000
open Go.RowKit
open Ls Lp
open ScP RoP RvP ScI
open Recs (hsz below1 below2 below3 chain chainD)
set_option linter.unusedVariables false
theorem cells0 {w : World} {g ty : Nat} {za zb : Value} (h : w.heap[g]? = some (.cells #[za, zb] ty (0, 0))) : w.cell? ⟨g, 0, none⟩ = some za ∧ w.cell? ⟨g, 1, none⟩ = some zb :=
  ⟨cell_of_row w g 0 _ _ (0, 0) h, cell_of_row w g 1 _ _ (0, 0) h⟩
theorem cells1 {w : World} {g ty : Nat} {za zb : Value} (h : w.heap[g]? = some (.cells #[za, zb] ty (0, 0))) : w.cell? ⟨g, 0, none⟩ = some za ∧ w.cell? ⟨g, 1, none⟩ = some zb :=
  ⟨cell_of_row w g 0 _ _ (0, 0) h, cell_of_row w g 1 _ _ (0, 0) h⟩
set_option maxHeartbeats 25600000 in
theorem walk (v0 : Value) (u0 : Sch) (v1 : Value) (u1 : Sch) (v2 : Value) (u2 : List Vlu) (w : World) (hv0 : SchAt w (All w) v0 u0) (hf0 : FineSch u0) (hv1 : SchAt w (All w) v1 u1) (hf1 : FineSch u1) (hv2 : LAt 5 EVlu w (All w) v2 u2) (hf2 : FineL FineVlu u2) :
    Calls Try.prog 6 #[v0, v1, v2] w fun e w' => e = .returned (.bool true) ∧ Below w.heap.size w w' := by
  have HV0 := Seg.hid hv0
  obtain ⟨A0_1, a0_q1, rfl⟩ := FSch.form hv0
  have HF0 := Seg.hid hf0
  have HV1 := Seg.hid hv1
  obtain ⟨A1_1, a1_q1, rfl⟩ := FSch.form hv1
  have HF1 := Seg.hid hf1
  have HV2 := Seg.hid hv2
  obtain ⟨A2, c2, rfl⟩ := hv2.form
  have HF2 := Seg.hid hf2
  clear hv0 hf0 hv1 hf1 hv2 hf2
  go_enter Try.func6, Try.ntmps6
  go_wp2_with fail
  refine (szSchema_any _ u0 _ ((w.alloc _).alloc _) (All w) (by omega) (by omega) ((HV0.out).below (below2 w _ _) (fun g hg => hg)) (fun g hg => Nat.lt_of_lt_of_le hg (below2 w _ _).size) HF0.out).mono ?_
  rintro e w1 ⟨q0, rfl, qa0, qb0, qc0, b1⟩
  have B1 := Seg.hid (chain (below2 w _ _) b1)
  have s1 : w.heap.size ≤ w1.heap.size := B1.out.size
  have P0_1 : Hid (w1.heap[w.heap.size]? = some (.cells #[.string u0.name, .slice A0_1 u0.fields.length a0_q1] 37 (0, 0))) := (b1.block (w.heap.size) (by rw [hsz, hsz]; omega)).trans (at2z w _ _)
  have sp0 : w.heap.size < w1.heap.size := (Array.getElem?_eq_some_iff.1 P0_1.out).1
  have P1_1 : Hid (w1.heap[w.heap.size + 1]? = some (.cells #[.string u1.name, .slice A1_1 u1.fields.length a1_q1] 37 (0, 0))) := (b1.block (w.heap.size + 1) (by rw [hsz, hsz]; omega)).trans (at2y w _ _)
  have sp1 : w.heap.size + 1 < w1.heap.size := (Array.getElem?_eq_some_iff.1 P1_1.out).1
  clear b1
  by_cases hq0 : q0 < 0
  · go_wp2
    go_ret
    exact ⟨rfl, B1.out⟩
  have FW0 : Hid (szSch u0 ≤ 1048576) := by show _ ≤ _; have := qc0.1 (by omega); omega
  clear qc0
  go_wp2_with (refine wpList_load_row rfl 37 _ rfl (w.heap.size + 1) rfl _ _ _ _ P1_1.out Try.underlying37 rfl infoLSch ?_)
  refine (szSchema_any _ u1 _ w1 (All w) (by omega) (by omega) ((HV1.out).below B1.out (fun g hg => hg)) (fun g hg => Nat.lt_of_lt_of_le hg B1.out.size) HF1.out).mono ?_
  rintro e w2 ⟨q1, rfl, qa1, qb1, qc1, b2⟩
  have D2 := Seg.hid b2
  have B2 := Seg.hid (chain B1.out D2.out)
  have s2 : w1.heap.size ≤ w2.heap.size := D2.out.size
  have P0_2 := Seg.hid ((D2.out.block (w.heap.size) (Array.getElem?_eq_some_iff.1 P0_1.out).1).trans P0_1.out)
  clear P0_1
  have P1_2 := Seg.hid ((D2.out.block (w.heap.size + 1) (Array.getElem?_eq_some_iff.1 P1_1.out).1).trans P1_1.out)
  clear P1_1
  clear b2
  by_cases hq1 : q1 < 0
  · go_wp2
    go_ret
    exact ⟨rfl, B2.out⟩
  have FW1 : Hid (szSch u1 ≤ 1048576) := by show _ ≤ _; have := qc1.1 (by omega); omega
  clear qc1
  go_wp2_with fail
  refine (szValueS_any _ u2 _ w2 (All w) (by omega) (by omega) (LAt.below keepsVlu (HV2.out) B2.out (fun g hg => hg)) (fun g hg => Nat.lt_of_lt_of_le hg B2.out.size) HF2.out).mono ?_
  rintro e w3 ⟨q2, rfl, qa2, qb2, qc2, b3⟩
  have D3 := Seg.hid b3
  have B3 := Seg.hid (chain B2.out D3.out)
  have s3 : w2.heap.size ≤ w3.heap.size := D3.out.size
  have P0_3 := Seg.hid ((D3.out.block (w.heap.size) (Array.getElem?_eq_some_iff.1 P0_2.out).1).trans P0_2.out)
  clear P0_2
  have P1_3 := Seg.hid ((D3.out.block (w.heap.size + 1) (Array.getElem?_eq_some_iff.1 P1_2.out).1).trans P1_2.out)
  clear P1_2
  clear b3
  by_cases hq2 : q2 < 0
  · go_wp2
    go_ret
    exact ⟨rfl, B3.out⟩
  have FW2 : Hid (szL szVlu u2 ≤ 1048576) := by show _ ≤ _; have := qc2.1 (by omega); omega
  clear qc2
  obtain ⟨R0, hR0⟩ : ∃ R, resL u0 u1 u2 = R := ⟨_, rfl⟩
  obtain ⟨R1, hR1⟩ : ∃ R, resOk u0 u1 u2 = R := ⟨_, rfl⟩
  have CS : Hid (∀ (wx : World) (x0 : Value) (x1 : Value) (x2 : Value), SchAt wx (fun g => g < wx.heap.size) x0 u0 → SchAt wx (fun g => g < wx.heap.size) x1 u1 → LAt 5 EVlu wx (fun g => g < wx.heap.size) x2 u2 → Calls Try.prog 30 #[x0, x1, x2] wx fun e w' => ∃ r0, e = .returned (.tuple #[r0, .bool R1]) ∧ Ow.VlusOwn w' (seg wx.heap.size w'.heap.size) r0 R0 ∧ Below wx.heap.size wx w') := by
    intro wx x0 x1 x2 h0 h1 h2
    have hh := RvS.spec_any x0 x1 x2 u0 u1 u2 wx _ h0 h1 h2 (fun g hg => hg) FW0.out FW1.out FW2.out
    rw [hR0, hR1] at hh
    exact hh
  have CI : Hid (∀ (wx : World) (x0 : Value) (x1 : Value) (x2 : Value), SchAt wx (fun g => g < wx.heap.size) x0 u0 → SchAt wx (fun g => g < wx.heap.size) x1 u1 → LAt 5 EVlu wx (fun g => g < wx.heap.size) x2 u2 → Calls Try.prog 31 #[x0, x1, x2] wx fun e w' => ∃ r0, e = .returned (.tuple #[r0, .bool R1]) ∧ Ow.VlusOwn w' (seg wx.heap.size w'.heap.size) r0 R0 ∧ Below wx.heap.size wx w') := by
    intro wx x0 x1 x2 h0 h1 h2
    have hh := RvI.impl_any x0 x1 x2 u0 u1 u2 wx _ h0 h1 h2 (fun g hg => hg) FW0.out FW1.out FW2.out
    rw [hR0, hR1] at hh
    exact hh
  have MA0 : Hid (Ow.nSch u0 ≤ 1000000000) := FwS.sch u0 FW0.out
  have MA1 : Hid (Ow.nSch u1 ≤ 1000000000) := FwS.sch u1 FW1.out
  have MA2 : Hid (tot Ow.nVlu u2 ≤ 1000000000) := FwV.row u2 FW2.out
  have MR0 : Hid (tot Ow.nVlu R0 ≤ 1000000000) := by
    show _ ≤ _
    rw [← hR0]
    exact FwR.res_few _ _ _ FW0.out FW2.out
  have ne1 : (R1 != R1) = false := by simp
  clear hR0 hR1
  go_wp2_with fail
  obtain ⟨c0_0_0, c0_0_1⟩ := cells0 P0_3.out
  have z0_0 : w.heap.size < w3.heap.size := (Array.getElem?_eq_some_iff.1 P0_3.out).1
  obtain ⟨c0_1_0, c0_1_1⟩ := cells1 P1_3.out
  have z0_1 : w.heap.size + 1 < w3.heap.size := (Array.getElem?_eq_some_iff.1 P1_3.out).1
  go_region_held3 (fun w' => w'.cell? ⟨w.heap.size, 0, none⟩ = some (.string u0.name) ∧ w'.cell? ⟨w.heap.size, 1, none⟩ = some (.slice A0_1 u0.fields.length a0_q1) ∧ w'.cell? ⟨w.heap.size + 1, 0, none⟩ = some (.string u1.name) ∧ w'.cell? ⟨w.heap.size + 1, 1, none⟩ = some (.slice A1_1 u1.fields.length a1_q1)) (first | exact ⟨c0_0_0, c0_0_1, c0_1_0, c0_1_1⟩ | exact ⟨e0x0x1x2q0_0_0, e0x0x1x2q0_0_1, e0x0x1x2q0_1_0, e0x0x1x2q0_1_1⟩ | exact ⟨e0x0x1q0_0_0, e0x0x1q0_0_1, e0x0x1q0_1_0, e0x0x1q0_1_1⟩ | exact ⟨e0x0x2q0_0_0, e0x0x2q0_0_1, e0x0x2q0_1_0, e0x0x2q0_1_1⟩ | exact ⟨e0x0q0_0_0, e0x0q0_0_1, e0x0q0_1_0, e0x0q0_1_1⟩ | exact ⟨e0x1x2q0_0_0, e0x1x2q0_0_1, e0x1x2q0_1_0, e0x1x2q0_1_1⟩ | exact ⟨e0x1q0_0_0, e0x1q0_0_1, e0x1q0_1_0, e0x1q0_1_1⟩ | exact ⟨e0x2q0_0_0, e0x2q0_0_1, e0x2q0_1_0, e0x2q0_1_1⟩ | exact ⟨f0_0_0, f0_0_1, f0_1_0, f0_1_1⟩ | go_keep) (first | (go_at_call_of 14 (Value.agg #[Value.string u0.name, Value.slice A0_1 u0.fields.length a0_q1]); first | (refine (toSchema_any _ u0 y0x1x2 (All w) ((HV0.out).below BB0x1x2.out (fun g hg => hg)) (fun g hg => Nat.lt_of_lt_of_le hg BB0x1x2.out.size) FW0.out).mono ?_; rintro e y0x0x1x2 ⟨vc0_0, rfl, rc, bc⟩; have N0x0x1x2 := Seg.hid (chain N0x1x2.out bc); have BB0x0x1x2 := Seg.hid (chain BB0x1x2.out bc); have RC0x0x1x2_0 : Hid (SchAt y0x0x1x2 (seg w3.heap.size y0x0x1x2.heap.size) vc0_0 u0) := ((rc).mono (fun g hg => ⟨Nat.le_trans N0x1x2.out.size hg.1, hg.2⟩)); have RC0x0x1x2_1 : Hid (SchAt y0x0x1x2 (seg w3.heap.size y0x0x1x2.heap.size) vc0_1 u1) := ((((RC0x1x2_1.out).below bc (fun g hg => hg.2))).mono (fun g hg => ⟨hg.1, Nat.lt_of_lt_of_le hg.2 bc.size⟩)); have RC0x0x1x2_2 : Hid (LAt 5 EVlu y0x0x1x2 (seg w3.heap.size y0x0x1x2.heap.size) vc0_2 u2) := (LAt.mono growsVlu ((LAt.below keepsVlu (RC0x1x2_2.out) bc (fun g hg => hg.2))) (fun g hg => ⟨hg.1, Nat.lt_of_lt_of_le hg.2 bc.size⟩)); clear rc bc; have e0x0x1x2q0_0_0 := (N0x0x1x2.out.cell (p := ⟨w.heap.size, 0, none⟩) z0_0).trans c0_0_0; have e0x0x1x2q0_0_1 := (N0x0x1x2.out.cell (p := ⟨w.heap.size, 1, none⟩) z0_0).trans c0_0_1; have e0x0x1x2q0_1_0 := (N0x0x1x2.out.cell (p := ⟨w.heap.size + 1, 0, none⟩) z0_1).trans c0_1_0; have e0x0x1x2q0_1_1 := (N0x0x1x2.out.cell (p := ⟨w.heap.size + 1, 1, none⟩) z0_1).trans c0_1_1) | (refine (toSchema_any _ u0 y0x1 (All w) ((HV0.out).below BB0x1.out (fun g hg => hg)) (fun g hg => Nat.lt_of_lt_of_le hg BB0x1.out.size) FW0.out).mono ?_; rintro e y0x0x1 ⟨vc0_0, rfl, rc, bc⟩; have N0x0x1 := Seg.hid (chain N0x1.out bc); have BB0x0x1 := Seg.hid (chain BB0x1.out bc); have RC0x0x1_0 : Hid (SchAt y0x0x1 (seg w3.heap.size y0x0x1.heap.size) vc0_0 u0) := ((rc).mono (fun g hg => ⟨Nat.le_trans N0x1.out.size hg.1, hg.2⟩)); have RC0x0x1_1 : Hid (SchAt y0x0x1 (seg w3.heap.size y0x0x1.heap.size) vc0_1 u1) := ((((RC0x1_1.out).below bc (fun g hg => hg.2))).mono (fun g hg => ⟨hg.1, Nat.lt_of_lt_of_le hg.2 bc.size⟩)); clear rc bc; have e0x0x1q0_0_0 := (N0x0x1.out.cell (p := ⟨w.heap.size, 0, none⟩) z0_0).trans c0_0_0; have e0x0x1q0_0_1 := (N0x0x1.out.cell (p := ⟨w.heap.size, 1, none⟩) z0_0).trans c0_0_1; have e0x0x1q0_1_0 := (N0x0x1.out.cell (p := ⟨w.heap.size + 1, 0, none⟩) z0_1).trans c0_1_0; have e0x0x1q0_1_1 := (N0x0x1.out.cell (p := ⟨w.heap.size + 1, 1, none⟩) z0_1).trans c0_1_1) | (refine (toSchema_any _ u0 y0x2 (All w) ((HV0.out).below BB0x2.out (fun g hg => hg)) (fun g hg => Nat.lt_of_lt_of_le hg BB0x2.out.size) FW0.out).mono ?_; rintro e y0x0x2 ⟨vc0_0, rfl, rc, bc⟩; have N0x0x2 := Seg.hid (chain N0x2.out bc); have BB0x0x2 := Seg.hid (chain BB0x2.out bc); have RC0x0x2_0 : Hid (SchAt y0x0x2 (seg w3.heap.size y0x0x2.heap.size) vc0_0 u0) := ((rc).mono (fun g hg => ⟨Nat.le_trans N0x2.out.size hg.1, hg.2⟩)); have RC0x0x2_2 : Hid (LAt 5 EVlu y0x0x2 (seg w3.heap.size y0x0x2.heap.size) vc0_2 u2) := (LAt.mono growsVlu ((LAt.below keepsVlu (RC0x2_2.out) bc (fun g hg => hg.2))) (fun g hg => ⟨hg.1, Nat.lt_of_lt_of_le hg.2 bc.size⟩)); clear rc bc; have e0x0x2q0_0_0 := (N0x0x2.out.cell (p := ⟨w.heap.size, 0, none⟩) z0_0).trans c0_0_0; have e0x0x2q0_0_1 := (N0x0x2.out.cell (p := ⟨w.heap.size, 1, none⟩) z0_0).trans c0_0_1; have e0x0x2q0_1_0 := (N0x0x2.out.cell (p := ⟨w.heap.size + 1, 0, none⟩) z0_1).trans c0_1_0; have e0x0x2q0_1_1 := (N0x0x2.out.cell (p := ⟨w.heap.size + 1, 1, none⟩) z0_1).trans c0_1_1) | (refine (toSchema_any _ u0 w3.drew (All w) ((HV0.out).below B3.out.drew (fun g hg => hg)) (fun g hg => Nat.lt_of_lt_of_le hg B3.out.size) FW0.out).mono ?_; rintro e y0x0 ⟨vc0_0, rfl, rc, bc⟩; have N0x0 : Hid (Below w3.heap.size w3 y0x0) := ⟨bc.os, bc.tape, bc.output, bc.size, bc.block⟩; have BB0x0 := Seg.hid (chain B3.out N0x0.out); have RC0x0_0 : Hid (SchAt y0x0 (seg w3.heap.size y0x0.heap.size) vc0_0 u0) := rc; clear rc bc; have e0x0q0_0_0 := (N0x0.out.cell (p := ⟨w.heap.size, 0, none⟩) z0_0).trans c0_0_0; have e0x0q0_0_1 := (N0x0.out.cell (p := ⟨w.heap.size, 1, none⟩) z0_0).trans c0_0_1; have e0x0q0_1_0 := (N0x0.out.cell (p := ⟨w.heap.size + 1, 0, none⟩) z0_1).trans c0_1_0; have e0x0q0_1_1 := (N0x0.out.cell (p := ⟨w.heap.size + 1, 1, none⟩) z0_1).trans c0_1_1)) | (go_at_call_of 14 (Value.agg #[Value.string u1.name, Value.slice A1_1 u1.fields.length a1_q1]); first | (refine (toSchema_any _ u1 y0x0x2 (All w) ((HV1.out).below BB0x0x2.out (fun g hg => hg)) (fun g hg => Nat.lt_of_lt_of_le hg BB0x0x2.out.size) FW1.out).mono ?_; rintro e y0x0x1x2 ⟨vc0_1, rfl, rc, bc⟩; have N0x0x1x2 := Seg.hid (chain N0x0x2.out bc); have BB0x0x1x2 := Seg.hid (chain BB0x0x2.out bc); have RC0x0x1x2_1 : Hid (SchAt y0x0x1x2 (seg w3.heap.size y0x0x1x2.heap.size) vc0_1 u1) := ((rc).mono (fun g hg => ⟨Nat.le_trans N0x0x2.out.size hg.1, hg.2⟩)); have RC0x0x1x2_0 : Hid (SchAt y0x0x1x2 (seg w3.heap.size y0x0x1x2.heap.size) vc0_0 u0) := ((((RC0x0x2_0.out).below bc (fun g hg => hg.2))).mono (fun g hg => ⟨hg.1, Nat.lt_of_lt_of_le hg.2 bc.size⟩)); have RC0x0x1x2_2 : Hid (LAt 5 EVlu y0x0x1x2 (seg w3.heap.size y0x0x1x2.heap.size) vc0_2 u2) := (LAt.mono growsVlu ((LAt.below keepsVlu (RC0x0x2_2.out) bc (fun g hg => hg.2))) (fun g hg => ⟨hg.1, Nat.lt_of_lt_of_le hg.2 bc.size⟩)); clear rc bc; have e0x0x1x2q0_0_0 := (N0x0x1x2.out.cell (p := ⟨w.heap.size, 0, none⟩) z0_0).trans c0_0_0; have e0x0x1x2q0_0_1 := (N0x0x1x2.out.cell (p := ⟨w.heap.size, 1, none⟩) z0_0).trans c0_0_1; have e0x0x1x2q0_1_0 := (N0x0x1x2.out.cell (p := ⟨w.heap.size + 1, 0, none⟩) z0_1).trans c0_1_0; have e0x0x1x2q0_1_1 := (N0x0x1x2.out.cell (p := ⟨w.heap.size + 1, 1, none⟩) z0_1).trans c0_1_1) | (refine (toSchema_any _ u1 y0x0 (All w) ((HV1.out).below BB0x0.out (fun g hg => hg)) (fun g hg => Nat.lt_of_lt_of_le hg BB0x0.out.size) FW1.out).mono ?_; rintro e y0x0x1 ⟨vc0_1, rfl, rc, bc⟩; have N0x0x1 := Seg.hid (chain N0x0.out bc); have BB0x0x1 := Seg.hid (chain BB0x0.out bc); have RC0x0x1_1 : Hid (SchAt y0x0x1 (seg w3.heap.size y0x0x1.heap.size) vc0_1 u1) := ((rc).mono (fun g hg => ⟨Nat.le_trans N0x0.out.size hg.1, hg.2⟩)); have RC0x0x1_0 : Hid (SchAt y0x0x1 (seg w3.heap.size y0x0x1.heap.size) vc0_0 u0) := ((((RC0x0_0.out).below bc (fun g hg => hg.2))).mono (fun g hg => ⟨hg.1, Nat.lt_of_lt_of_le hg.2 bc.size⟩)); clear rc bc; have e0x0x1q0_0_0 := (N0x0x1.out.cell (p := ⟨w.heap.size, 0, none⟩) z0_0).trans c0_0_0; have e0x0x1q0_0_1 := (N0x0x1.out.cell (p := ⟨w.heap.size, 1, none⟩) z0_0).trans c0_0_1; have e0x0x1q0_1_0 := (N0x0x1.out.cell (p := ⟨w.heap.size + 1, 0, none⟩) z0_1).trans c0_1_0; have e0x0x1q0_1_1 := (N0x0x1.out.cell (p := ⟨w.heap.size + 1, 1, none⟩) z0_1).trans c0_1_1) | (refine (toSchema_any _ u1 y0x2 (All w) ((HV1.out).below BB0x2.out (fun g hg => hg)) (fun g hg => Nat.lt_of_lt_of_le hg BB0x2.out.size) FW1.out).mono ?_; rintro e y0x1x2 ⟨vc0_1, rfl, rc, bc⟩; have N0x1x2 := Seg.hid (chain N0x2.out bc); have BB0x1x2 := Seg.hid (chain BB0x2.out bc); have RC0x1x2_1 : Hid (SchAt y0x1x2 (seg w3.heap.size y0x1x2.heap.size) vc0_1 u1) := ((rc).mono (fun g hg => ⟨Nat.le_trans N0x2.out.size hg.1, hg.2⟩)); have RC0x1x2_2 : Hid (LAt 5 EVlu y0x1x2 (seg w3.heap.size y0x1x2.heap.size) vc0_2 u2) := (LAt.mono growsVlu ((LAt.below keepsVlu (RC0x2_2.out) bc (fun g hg => hg.2))) (fun g hg => ⟨hg.1, Nat.lt_of_lt_of_le hg.2 bc.size⟩)); clear rc bc; have e0x1x2q0_0_0 := (N0x1x2.out.cell (p := ⟨w.heap.size, 0, none⟩) z0_0).trans c0_0_0; have e0x1x2q0_0_1 := (N0x1x2.out.cell (p := ⟨w.heap.size, 1, none⟩) z0_0).trans c0_0_1; have e0x1x2q0_1_0 := (N0x1x2.out.cell (p := ⟨w.heap.size + 1, 0, none⟩) z0_1).trans c0_1_0; have e0x1x2q0_1_1 := (N0x1x2.out.cell (p := ⟨w.heap.size + 1, 1, none⟩) z0_1).trans c0_1_1) | (refine (toSchema_any _ u1 w3.drew (All w) ((HV1.out).below B3.out.drew (fun g hg => hg)) (fun g hg => Nat.lt_of_lt_of_le hg B3.out.size) FW1.out).mono ?_; rintro e y0x1 ⟨vc0_1, rfl, rc, bc⟩; have N0x1 : Hid (Below w3.heap.size w3 y0x1) := ⟨bc.os, bc.tape, bc.output, bc.size, bc.block⟩; have BB0x1 := Seg.hid (chain B3.out N0x1.out); have RC0x1_1 : Hid (SchAt y0x1 (seg w3.heap.size y0x1.heap.size) vc0_1 u1) := rc; clear rc bc; have e0x1q0_0_0 := (N0x1.out.cell (p := ⟨w.heap.size, 0, none⟩) z0_0).trans c0_0_0; have e0x1q0_0_1 := (N0x1.out.cell (p := ⟨w.heap.size, 1, none⟩) z0_0).trans c0_0_1; have e0x1q0_1_0 := (N0x1.out.cell (p := ⟨w.heap.size + 1, 0, none⟩) z0_1).trans c0_1_0; have e0x1q0_1_1 := (N0x1.out.cell (p := ⟨w.heap.size + 1, 1, none⟩) z0_1).trans c0_1_1)) | (go_at_call 23; first | (refine (toValueS_any _ u2 y0x0x1 (All w) (LAt.below keepsVlu (HV2.out) BB0x0x1.out (fun g hg => hg)) (fun g hg => Nat.lt_of_lt_of_le hg BB0x0x1.out.size) FW2.out).mono ?_; rintro e y0x0x1x2 ⟨vc0_2, rfl, rc, bc⟩; have N0x0x1x2 := Seg.hid (chain N0x0x1.out bc); have BB0x0x1x2 := Seg.hid (chain BB0x0x1.out bc); have RC0x0x1x2_2 : Hid (LAt 5 EVlu y0x0x1x2 (seg w3.heap.size y0x0x1x2.heap.size) vc0_2 u2) := (LAt.mono growsVlu (rc) (fun g hg => ⟨Nat.le_trans N0x0x1.out.size hg.1, hg.2⟩)); have RC0x0x1x2_0 : Hid (SchAt y0x0x1x2 (seg w3.heap.size y0x0x1x2.heap.size) vc0_0 u0) := ((((RC0x0x1_0.out).below bc (fun g hg => hg.2))).mono (fun g hg => ⟨hg.1, Nat.lt_of_lt_of_le hg.2 bc.size⟩)); have RC0x0x1x2_1 : Hid (SchAt y0x0x1x2 (seg w3.heap.size y0x0x1x2.heap.size) vc0_1 u1) := ((((RC0x0x1_1.out).below bc (fun g hg => hg.2))).mono (fun g hg => ⟨hg.1, Nat.lt_of_lt_of_le hg.2 bc.size⟩)); clear rc bc; have e0x0x1x2q0_0_0 := (N0x0x1x2.out.cell (p := ⟨w.heap.size, 0, none⟩) z0_0).trans c0_0_0; have e0x0x1x2q0_0_1 := (N0x0x1x2.out.cell (p := ⟨w.heap.size, 1, none⟩) z0_0).trans c0_0_1; have e0x0x1x2q0_1_0 := (N0x0x1x2.out.cell (p := ⟨w.heap.size + 1, 0, none⟩) z0_1).trans c0_1_0; have e0x0x1x2q0_1_1 := (N0x0x1x2.out.cell (p := ⟨w.heap.size + 1, 1, none⟩) z0_1).trans c0_1_1) | (refine (toValueS_any _ u2 y0x0 (All w) (LAt.below keepsVlu (HV2.out) BB0x0.out (fun g hg => hg)) (fun g hg => Nat.lt_of_lt_of_le hg BB0x0.out.size) FW2.out).mono ?_; rintro e y0x0x2 ⟨vc0_2, rfl, rc, bc⟩; have N0x0x2 := Seg.hid (chain N0x0.out bc); have BB0x0x2 := Seg.hid (chain BB0x0.out bc); have RC0x0x2_2 : Hid (LAt 5 EVlu y0x0x2 (seg w3.heap.size y0x0x2.heap.size) vc0_2 u2) := (LAt.mono growsVlu (rc) (fun g hg => ⟨Nat.le_trans N0x0.out.size hg.1, hg.2⟩)); have RC0x0x2_0 : Hid (SchAt y0x0x2 (seg w3.heap.size y0x0x2.heap.size) vc0_0 u0) := ((((RC0x0_0.out).below bc (fun g hg => hg.2))).mono (fun g hg => ⟨hg.1, Nat.lt_of_lt_of_le hg.2 bc.size⟩)); clear rc bc; have e0x0x2q0_0_0 := (N0x0x2.out.cell (p := ⟨w.heap.size, 0, none⟩) z0_0).trans c0_0_0; have e0x0x2q0_0_1 := (N0x0x2.out.cell (p := ⟨w.heap.size, 1, none⟩) z0_0).trans c0_0_1; have e0x0x2q0_1_0 := (N0x0x2.out.cell (p := ⟨w.heap.size + 1, 0, none⟩) z0_1).trans c0_1_0; have e0x0x2q0_1_1 := (N0x0x2.out.cell (p := ⟨w.heap.size + 1, 1, none⟩) z0_1).trans c0_1_1) | (refine (toValueS_any _ u2 y0x1 (All w) (LAt.below keepsVlu (HV2.out) BB0x1.out (fun g hg => hg)) (fun g hg => Nat.lt_of_lt_of_le hg BB0x1.out.size) FW2.out).mono ?_; rintro e y0x1x2 ⟨vc0_2, rfl, rc, bc⟩; have N0x1x2 := Seg.hid (chain N0x1.out bc); have BB0x1x2 := Seg.hid (chain BB0x1.out bc); have RC0x1x2_2 : Hid (LAt 5 EVlu y0x1x2 (seg w3.heap.size y0x1x2.heap.size) vc0_2 u2) := (LAt.mono growsVlu (rc) (fun g hg => ⟨Nat.le_trans N0x1.out.size hg.1, hg.2⟩)); have RC0x1x2_1 : Hid (SchAt y0x1x2 (seg w3.heap.size y0x1x2.heap.size) vc0_1 u1) := ((((RC0x1_1.out).below bc (fun g hg => hg.2))).mono (fun g hg => ⟨hg.1, Nat.lt_of_lt_of_le hg.2 bc.size⟩)); clear rc bc; have e0x1x2q0_0_0 := (N0x1x2.out.cell (p := ⟨w.heap.size, 0, none⟩) z0_0).trans c0_0_0; have e0x1x2q0_0_1 := (N0x1x2.out.cell (p := ⟨w.heap.size, 1, none⟩) z0_0).trans c0_0_1; have e0x1x2q0_1_0 := (N0x1x2.out.cell (p := ⟨w.heap.size + 1, 0, none⟩) z0_1).trans c0_1_0; have e0x1x2q0_1_1 := (N0x1x2.out.cell (p := ⟨w.heap.size + 1, 1, none⟩) z0_1).trans c0_1_1) | (refine (toValueS_any _ u2 w3.drew (All w) (LAt.below keepsVlu (HV2.out) B3.out.drew (fun g hg => hg)) (fun g hg => Nat.lt_of_lt_of_le hg B3.out.size) FW2.out).mono ?_; rintro e y0x2 ⟨vc0_2, rfl, rc, bc⟩; have N0x2 : Hid (Below w3.heap.size w3 y0x2) := ⟨bc.os, bc.tape, bc.output, bc.size, bc.block⟩; have BB0x2 := Seg.hid (chain B3.out N0x2.out); have RC0x2_2 : Hid (LAt 5 EVlu y0x2 (seg w3.heap.size y0x2.heap.size) vc0_2 u2) := rc; clear rc bc; have e0x2q0_0_0 := (N0x2.out.cell (p := ⟨w.heap.size, 0, none⟩) z0_0).trans c0_0_0; have e0x2q0_0_1 := (N0x2.out.cell (p := ⟨w.heap.size, 1, none⟩) z0_0).trans c0_0_1; have e0x2q0_1_0 := (N0x2.out.cell (p := ⟨w.heap.size + 1, 0, none⟩) z0_1).trans c0_1_0; have e0x2q0_1_1 := (N0x2.out.cell (p := ⟨w.heap.size + 1, 1, none⟩) z0_1).trans c0_1_1)) | (go_at_call 30; refine (CS.out y0x0x1x2 _ _ _ ((RC0x0x1x2_0.out).mono (fun g hg => hg.2)) ((RC0x0x1x2_1.out).mono (fun g hg => hg.2)) (LAt.mono growsVlu (RC0x0x1x2_2.out) (fun g hg => hg.2))).mono ?_; rintro e w4 ⟨r4_0, rfl, h4_0, b4⟩; have NN0 := Seg.hid (chain N0x0x1x2.out b4); have f0_0_0 := (NN0.out.cell (p := ⟨w.heap.size, 0, none⟩) z0_0).trans c0_0_0; have f0_0_1 := (NN0.out.cell (p := ⟨w.heap.size, 1, none⟩) z0_0).trans c0_0_1; have f0_1_0 := (NN0.out.cell (p := ⟨w.heap.size + 1, 0, none⟩) z0_1).trans c0_1_0; have f0_1_1 := (NN0.out.cell (p := ⟨w.heap.size + 1, 1, none⟩) z0_1).trans c0_1_1))
  all_goals
    clear c0_0_0 c0_0_1 c0_1_0 c0_1_1 f0_0_0 f0_0_1 f0_1_0 f0_1_1
    have sy0 : w3.heap.size ≤ y0x0x1x2.heap.size := N0x0x1x2.out.size
    have sz0 : y0x0x1x2.heap.size ≤ w4.heap.size := b4.size
    have D4 := Seg.hid NN0.out
    have B4 := Seg.hid (chain B3.out D4.out)
    have s4 : w3.heap.size ≤ w4.heap.size := D4.out.size
    have P0_4 := Seg.hid ((D4.out.block (w.heap.size) (Array.getElem?_eq_some_iff.1 P0_3.out).1).trans P0_3.out)
    clear P0_3
    have P1_4 := Seg.hid ((D4.out.block (w.heap.size + 1) (Array.getElem?_eq_some_iff.1 P1_3.out).1).trans P1_3.out)
    clear P1_3
    clear NN0 z0_0 z0_1
    obtain ⟨A4_0, c4_0, rfl⟩ := Ow.LOwn.form h4_0
    have Wr0_4 := Seg.hid (Ow.LOwn.lat growsVlu Ow.atOVlu h4_0)
    clear b4 h4_0
    go_wp2_with (refine wpList_load_row rfl 37 _ rfl (w.heap.size) rfl _ _ _ _ P0_4.out Try.underlying37 rfl infoLSch ?_)
    refine (Ow.toSchema_own _ u0 w4 (All w) ((HV0.out).below B4.out (fun g hg => hg)) (fun g hg => Nat.lt_of_lt_of_le hg (B4.out).size) FW0.out).mono ?_
    rintro e w5 ⟨vx0, rfl, rx0, b5⟩
    have D5 := Seg.hid b5
    have B5 := Seg.hid (chain B4.out D5.out)
    have s5 : w4.heap.size ≤ w5.heap.size := D5.out.size
    have P0_5 := Seg.hid ((D5.out.block (w.heap.size) (Array.getElem?_eq_some_iff.1 P0_4.out).1).trans P0_4.out)
    clear P0_4
    have P1_5 := Seg.hid ((D5.out.block (w.heap.size + 1) (Array.getElem?_eq_some_iff.1 P1_4.out).1).trans P1_4.out)
    clear P1_4
    have Wr0_5 := Seg.hid (LAt.below keepsVlu Wr0_4.out D5.out (fun g hg => by have := hg.2; omega))
    clear Wr0_4
    obtain ⟨D0_1, d0_q1, hvx0⟩ := FSch.form (Ow.SchOwn.at rx0)
    subst hvx0
    have RX0_5 := Seg.hid rx0
    clear rx0 b5
    go_wp2_with (refine wpList_load_row rfl 37 _ rfl (w.heap.size + 1) rfl _ _ _ _ (((below1 w5 _).block (w.heap.size + 1) (Array.getElem?_eq_some_iff.1 P1_5.out).1).trans P1_5.out) Try.underlying37 rfl infoLSch ?_)
    refine (Ow.toSchema_own _ u1 (w5.alloc _) (All w) ((HV1.out).below (chain B5.out (below1 w5 _)) (fun g hg => hg)) (fun g hg => Nat.lt_of_lt_of_le hg ((chain B5.out (below1 w5 _))).size) FW1.out).mono ?_
    rintro e w6 ⟨vx1, rfl, rx1, b6⟩
    have D6 := Seg.hid (chain (below1 w5 _) b6)
    have B6 := Seg.hid (chain B5.out D6.out)
    have s6 : w5.heap.size ≤ w6.heap.size := D6.out.size
    have P0_6 := Seg.hid ((D6.out.block (w.heap.size) (Array.getElem?_eq_some_iff.1 P0_5.out).1).trans P0_5.out)
    clear P0_5
    have P1_6 := Seg.hid ((D6.out.block (w.heap.size + 1) (Array.getElem?_eq_some_iff.1 P1_5.out).1).trans P1_5.out)
    clear P1_5
    have Wr0_6 := Seg.hid (LAt.below keepsVlu Wr0_5.out D6.out (fun g hg => by have := hg.2; omega))
    clear Wr0_5
    have RX0_6 := Seg.hid (Ow.SchOwn.keep RX0_5.out D6.out.size (fun g hg => D6.out.block g (by have := hg.2; omega)))
    clear RX0_5
    have X0_6 : Hid (w6.heap[w5.heap.size]? = some (.cells #[.string u0.name, .slice D0_1 u0.fields.length d0_q1] 43 (0, 0))) := (b6.block w5.heap.size (by rw [hsz]; omega)).trans (heap_alloc_new _ _)
    have s6p : w5.heap.size + 1 ≤ w6.heap.size := by have := b6.size; rw [hsz] at this; exact this
    rw [hsz] at rx1
    obtain ⟨D1_1, d1_q1, hvx1⟩ := FSch.form (Ow.SchOwn.at rx1)
    subst hvx1
    have RX1_6 := Seg.hid rx1
    clear rx1 b6
    go_wp2_with fail
    refine (Ow.toValueS_own _ u2 (w6.alloc _) (All w) (LAt.below keepsVlu (HV2.out) (chain B6.out (below1 w6 _)) (fun g hg => hg)) (fun g hg => Nat.lt_of_lt_of_le hg ((chain B6.out (below1 w6 _))).size) FW2.out).mono ?_
    rintro e w7 ⟨vx2, rfl, rx2, b7⟩
    have D7 := Seg.hid (chain (below1 w6 _) b7)
    have B7 := Seg.hid (chain B6.out D7.out)
    have s7 : w6.heap.size ≤ w7.heap.size := D7.out.size
    have P0_7 := Seg.hid ((D7.out.block (w.heap.size) (Array.getElem?_eq_some_iff.1 P0_6.out).1).trans P0_6.out)
    clear P0_6
    have P1_7 := Seg.hid ((D7.out.block (w.heap.size + 1) (Array.getElem?_eq_some_iff.1 P1_6.out).1).trans P1_6.out)
    clear P1_6
    have Wr0_7 := Seg.hid (LAt.below keepsVlu Wr0_6.out D7.out (fun g hg => by have := hg.2; omega))
    clear Wr0_6
    have RX0_7 := Seg.hid (Ow.SchOwn.keep RX0_6.out D7.out.size (fun g hg => D7.out.block g (by have := hg.2; omega)))
    clear RX0_6
    have X0_7 := Seg.hid ((D7.out.block (w5.heap.size) (Array.getElem?_eq_some_iff.1 X0_6.out).1).trans X0_6.out)
    clear X0_6
    have RX1_7 := Seg.hid (Ow.SchOwn.keep RX1_6.out D7.out.size (fun g hg => D7.out.block g (by have := hg.2; omega)))
    clear RX1_6
    have X1_7 : Hid (w7.heap[w6.heap.size]? = some (.cells #[.string u1.name, .slice D1_1 u1.fields.length d1_q1] 43 (0, 0))) := (b7.block w6.heap.size (by rw [hsz]; omega)).trans (heap_alloc_new _ _)
    have s7p : w6.heap.size + 1 ≤ w7.heap.size := by have := b7.size; rw [hsz] at this; exact this
    rw [hsz] at rx2
    obtain ⟨D2, d2q, hvx2⟩ := Ow.LOwn.form rx2
    subst hvx2
    have RX2_7 := Seg.hid rx2
    clear rx2 b7
    go_wp2_with (first | (refine wpList_load_row rfl 43 _ rfl (w5.heap.size) rfl _ _ _ _ X0_7.out Try.underlying43 rfl infoSch ?_) | (refine wpList_load_row rfl 43 _ rfl (w6.heap.size) rfl _ _ _ _ X1_7.out Try.underlying43 rfl infoSch ?_))
    refine (CI.out w7 _ _ _ (((Ow.SchOwn.at RX0_7.out)).mono (fun g hg => by have := hg.2; omega)) (((Ow.SchOwn.at RX1_7.out)).mono (fun g hg => by have := hg.2; omega)) (LAt.mono growsVlu ((Ow.LOwn.lat growsVlu Ow.atOVlu RX2_7.out)) (fun g hg => by have := hg.2; omega))).mono ?_
    rintro e w8 ⟨r8_0, rfl, h8_0, b8⟩
    have D8 := Seg.hid b8
    have B8 := Seg.hid (chain B7.out D8.out)
    have s8 : w7.heap.size ≤ w8.heap.size := D8.out.size
    have P0_8 := Seg.hid ((D8.out.block (w.heap.size) (Array.getElem?_eq_some_iff.1 P0_7.out).1).trans P0_7.out)
    clear P0_7
    have P1_8 := Seg.hid ((D8.out.block (w.heap.size + 1) (Array.getElem?_eq_some_iff.1 P1_7.out).1).trans P1_7.out)
    clear P1_7
    have Wr0_8 := Seg.hid (LAt.below keepsVlu Wr0_7.out D8.out (fun g hg => by have := hg.2; omega))
    clear Wr0_7
    have RX0_8 := Seg.hid (Ow.SchOwn.keep RX0_7.out D8.out.size (fun g hg => D8.out.block g (by have := hg.2; omega)))
    clear RX0_7
    have X0_8 := Seg.hid ((D8.out.block (w5.heap.size) (Array.getElem?_eq_some_iff.1 X0_7.out).1).trans X0_7.out)
    clear X0_7
    have RX1_8 := Seg.hid (Ow.SchOwn.keep RX1_7.out D8.out.size (fun g hg => D8.out.block g (by have := hg.2; omega)))
    clear RX1_7
    have X1_8 := Seg.hid ((D8.out.block (w6.heap.size) (Array.getElem?_eq_some_iff.1 X1_7.out).1).trans X1_7.out)
    clear X1_7
    have RX2_8 := Seg.hid (Ow.LOwn.belowO Ow.keepsOVlu RX2_7.out D8.out (fun g hg => by have := hg.2; omega))
    clear RX2_7
    obtain ⟨A8_0, c8_0, rfl⟩ := Ow.LOwn.form h8_0
    have G0_8 := Seg.hid h8_0
    clear b8 h8_0
    go_wp2_with fail
    refine (eqValueS_any _ _ R0 w8 _ _ (Ow.LOwn.lat growsVlu Ow.atOVlu G0_8.out) Wr0_8.out (fun g hg => by have := hg.2; omega) (fun g hg => by have := hg.2; omega)).mono ?_
    rintro e w9 ⟨rfl, b9⟩
    have D9 := Seg.hid b9
    have B9 := Seg.hid (chain B8.out D9.out)
    have s9 : w8.heap.size ≤ w9.heap.size := D9.out.size
    have P0_9 := Seg.hid ((D9.out.block (w.heap.size) (Array.getElem?_eq_some_iff.1 P0_8.out).1).trans P0_8.out)
    clear P0_8
    have P1_9 := Seg.hid ((D9.out.block (w.heap.size + 1) (Array.getElem?_eq_some_iff.1 P1_8.out).1).trans P1_8.out)
    clear P1_8
    have Wr0_9 := Seg.hid (LAt.below keepsVlu Wr0_8.out D9.out (fun g hg => by have := hg.2; omega))
    clear Wr0_8
    have RX0_9 := Seg.hid (Ow.SchOwn.keep RX0_8.out D9.out.size (fun g hg => D9.out.block g (by have := hg.2; omega)))
    clear RX0_8
    have X0_9 := Seg.hid ((D9.out.block (w5.heap.size) (Array.getElem?_eq_some_iff.1 X0_8.out).1).trans X0_8.out)
    clear X0_8
    have RX1_9 := Seg.hid (Ow.SchOwn.keep RX1_8.out D9.out.size (fun g hg => D9.out.block g (by have := hg.2; omega)))
    clear RX1_8
    have X1_9 := Seg.hid ((D9.out.block (w6.heap.size) (Array.getElem?_eq_some_iff.1 X1_8.out).1).trans X1_8.out)
    clear X1_8
    have RX2_9 := Seg.hid (Ow.LOwn.belowO Ow.keepsOVlu RX2_8.out D9.out (fun g hg => by have := hg.2; omega))
    clear RX2_8
    have G0_9 := Seg.hid (Ow.LOwn.belowO Ow.keepsOVlu G0_8.out D9.out (fun g hg => by have := hg.2; omega))
    clear G0_8
    clear b9
    go_wp2_with fail
    obtain ⟨x0_0, x0_1⟩ := cells0 X0_9.out
    obtain ⟨y0_0, y0_1⟩ := cells0 P0_9.out
    have hx0 : w5.heap.size < w9.heap.size := (Array.getElem?_eq_some_iff.1 X0_9.out).1
    have hy0 : w.heap.size < w9.heap.size := (Array.getElem?_eq_some_iff.1 P0_9.out).1
    go_region_held3 (fun w' => w'.cell? ⟨w5.heap.size, 0, none⟩ = some (.string u0.name) ∧ w'.cell? ⟨w5.heap.size, 1, none⟩ = some (.slice D0_1 u0.fields.length d0_q1) ∧ w'.cell? ⟨w.heap.size, 0, none⟩ = some (.string u0.name) ∧ w'.cell? ⟨w.heap.size, 1, none⟩ = some (.slice A0_1 u0.fields.length a0_q1)) (first | exact ⟨x0_0, x0_1, y0_0, y0_1⟩ | exact ⟨p0_0, p0_1, o0_0, o0_1⟩ | exact ⟨s0_0, s0_1, t0_0, t0_1⟩ | go_keep) (first | (go_at_call 14; refine (toSchema_any _ u0 w9.drew (All w) ((HV0.out).below B9.out.drew (fun g hg => hg)) (fun g hg => Nat.lt_of_lt_of_le hg B9.out.size) FW0.out).mono ?_; rintro e t10 ⟨vz0, rfl, rz0, b10⟩; have T10 : Hid (Below w9.heap.size w9 t10) := ⟨b10.os, b10.tape, b10.output, b10.size, b10.block⟩; have RZ0 : Hid (SchAt t10 (seg w9.heap.size t10.heap.size) vz0 u0) := rz0; have st10 : w9.heap.size ≤ t10.heap.size := T10.out.size; have RY0 := Seg.hid (((Ow.SchOwn.at RX0_9.out)).below T10.out (fun g hg => by have := hg.2; omega)); clear rz0 b10; have p0_0 := (T10.out.cell (p := ⟨w5.heap.size, 0, none⟩) hx0).trans x0_0; have p0_1 := (T10.out.cell (p := ⟨w5.heap.size, 1, none⟩) hx0).trans x0_1; have o0_0 := (T10.out.cell (p := ⟨w.heap.size, 0, none⟩) hy0).trans y0_0; have o0_1 := (T10.out.cell (p := ⟨w.heap.size, 1, none⟩) hy0).trans y0_1) | (go_at_call 17; refine (eqSchema_any _ _ u0 t10 _ _ RY0.out RZ0.out (fun g hg => by have := hg.2; omega) (fun g hg => hg.2)).mono ?_; rintro e w10 ⟨rfl, b10⟩; have TT10 := Seg.hid (chain T10.out b10); clear b10; have s0_0 := (TT10.out.cell (p := ⟨w5.heap.size, 0, none⟩) hx0).trans x0_0; have s0_1 := (TT10.out.cell (p := ⟨w5.heap.size, 1, none⟩) hx0).trans x0_1; have t0_0 := (TT10.out.cell (p := ⟨w.heap.size, 0, none⟩) hy0).trans y0_0; have t0_1 := (TT10.out.cell (p := ⟨w.heap.size, 1, none⟩) hy0).trans y0_1))
    clear x0_0 x0_1 y0_0 y0_1 p0_0 p0_1 o0_0 o0_1 s0_0 s0_1 t0_0 t0_1 hx0 hy0 RZ0 RY0
    have D10 := Seg.hid TT10.out
    have B10 := Seg.hid (chain B9.out D10.out)
    have s10 : w9.heap.size ≤ w10.heap.size := D10.out.size
    have P0_10 := Seg.hid ((D10.out.block (w.heap.size) (Array.getElem?_eq_some_iff.1 P0_9.out).1).trans P0_9.out)
    clear P0_9
    have P1_10 := Seg.hid ((D10.out.block (w.heap.size + 1) (Array.getElem?_eq_some_iff.1 P1_9.out).1).trans P1_9.out)
    clear P1_9
    have Wr0_10 := Seg.hid (LAt.below keepsVlu Wr0_9.out D10.out (fun g hg => by have := hg.2; omega))
    clear Wr0_9
    have RX0_10 := Seg.hid (Ow.SchOwn.keep RX0_9.out D10.out.size (fun g hg => D10.out.block g (by have := hg.2; omega)))
    clear RX0_9
    have X0_10 := Seg.hid ((D10.out.block (w5.heap.size) (Array.getElem?_eq_some_iff.1 X0_9.out).1).trans X0_9.out)
    clear X0_9
    have RX1_10 := Seg.hid (Ow.SchOwn.keep RX1_9.out D10.out.size (fun g hg => D10.out.block g (by have := hg.2; omega)))
    clear RX1_9
    have X1_10 := Seg.hid ((D10.out.block (w6.heap.size) (Array.getElem?_eq_some_iff.1 X1_9.out).1).trans X1_9.out)
    clear X1_9
    have RX2_10 := Seg.hid (Ow.LOwn.belowO Ow.keepsOVlu RX2_9.out D10.out (fun g hg => by have := hg.2; omega))
    clear RX2_9
    have G0_10 := Seg.hid (Ow.LOwn.belowO Ow.keepsOVlu G0_9.out D10.out (fun g hg => by have := hg.2; omega))
    clear G0_9
    clear T10 TT10 st10
    go_wp2_with fail
    obtain ⟨x1_0, x1_1⟩ := cells1 X1_10.out
    obtain ⟨y1_0, y1_1⟩ := cells1 P1_10.out
    have hx1 : w6.heap.size < w10.heap.size := (Array.getElem?_eq_some_iff.1 X1_10.out).1
    have hy1 : w.heap.size + 1 < w10.heap.size := (Array.getElem?_eq_some_iff.1 P1_10.out).1
    go_region_held3 (fun w' => w'.cell? ⟨w6.heap.size, 0, none⟩ = some (.string u1.name) ∧ w'.cell? ⟨w6.heap.size, 1, none⟩ = some (.slice D1_1 u1.fields.length d1_q1) ∧ w'.cell? ⟨w.heap.size + 1, 0, none⟩ = some (.string u1.name) ∧ w'.cell? ⟨w.heap.size + 1, 1, none⟩ = some (.slice A1_1 u1.fields.length a1_q1)) (first | exact ⟨x1_0, x1_1, y1_0, y1_1⟩ | exact ⟨p1_0, p1_1, o1_0, o1_1⟩ | exact ⟨s1_0, s1_1, t1_0, t1_1⟩ | go_keep) (first | (go_at_call 14; refine (toSchema_any _ u1 w10.drew (All w) ((HV1.out).below B10.out.drew (fun g hg => hg)) (fun g hg => Nat.lt_of_lt_of_le hg B10.out.size) FW1.out).mono ?_; rintro e t11 ⟨vz1, rfl, rz1, b11⟩; have T11 : Hid (Below w10.heap.size w10 t11) := ⟨b11.os, b11.tape, b11.output, b11.size, b11.block⟩; have RZ1 : Hid (SchAt t11 (seg w10.heap.size t11.heap.size) vz1 u1) := rz1; have st11 : w10.heap.size ≤ t11.heap.size := T11.out.size; have RY1 := Seg.hid (((Ow.SchOwn.at RX1_10.out)).below T11.out (fun g hg => by have := hg.2; omega)); clear rz1 b11; have p1_0 := (T11.out.cell (p := ⟨w6.heap.size, 0, none⟩) hx1).trans x1_0; have p1_1 := (T11.out.cell (p := ⟨w6.heap.size, 1, none⟩) hx1).trans x1_1; have o1_0 := (T11.out.cell (p := ⟨w.heap.size + 1, 0, none⟩) hy1).trans y1_0; have o1_1 := (T11.out.cell (p := ⟨w.heap.size + 1, 1, none⟩) hy1).trans y1_1) | (go_at_call 17; refine (eqSchema_any _ _ u1 t11 _ _ RY1.out RZ1.out (fun g hg => by have := hg.2; omega) (fun g hg => hg.2)).mono ?_; rintro e w11 ⟨rfl, b11⟩; have TT11 := Seg.hid (chain T11.out b11); clear b11; have s1_0 := (TT11.out.cell (p := ⟨w6.heap.size, 0, none⟩) hx1).trans x1_0; have s1_1 := (TT11.out.cell (p := ⟨w6.heap.size, 1, none⟩) hx1).trans x1_1; have t1_0 := (TT11.out.cell (p := ⟨w.heap.size + 1, 0, none⟩) hy1).trans y1_0; have t1_1 := (TT11.out.cell (p := ⟨w.heap.size + 1, 1, none⟩) hy1).trans y1_1))
    clear x1_0 x1_1 y1_0 y1_1 p1_0 p1_1 o1_0 o1_1 s1_0 s1_1 t1_0 t1_1 hx1 hy1 RZ1 RY1
    have D11 := Seg.hid TT11.out
    have B11 := Seg.hid (chain B10.out D11.out)
    have s11 : w10.heap.size ≤ w11.heap.size := D11.out.size
    have P0_11 := Seg.hid ((D11.out.block (w.heap.size) (Array.getElem?_eq_some_iff.1 P0_10.out).1).trans P0_10.out)
    clear P0_10
    have P1_11 := Seg.hid ((D11.out.block (w.heap.size + 1) (Array.getElem?_eq_some_iff.1 P1_10.out).1).trans P1_10.out)
    clear P1_10
    have Wr0_11 := Seg.hid (LAt.below keepsVlu Wr0_10.out D11.out (fun g hg => by have := hg.2; omega))
    clear Wr0_10
    have RX0_11 := Seg.hid (Ow.SchOwn.keep RX0_10.out D11.out.size (fun g hg => D11.out.block g (by have := hg.2; omega)))
    clear RX0_10
    have X0_11 := Seg.hid ((D11.out.block (w5.heap.size) (Array.getElem?_eq_some_iff.1 X0_10.out).1).trans X0_10.out)
    clear X0_10
    have RX1_11 := Seg.hid (Ow.SchOwn.keep RX1_10.out D11.out.size (fun g hg => D11.out.block g (by have := hg.2; omega)))
    clear RX1_10
    have X1_11 := Seg.hid ((D11.out.block (w6.heap.size) (Array.getElem?_eq_some_iff.1 X1_10.out).1).trans X1_10.out)
    clear X1_10
    have RX2_11 := Seg.hid (Ow.LOwn.belowO Ow.keepsOVlu RX2_10.out D11.out (fun g hg => by have := hg.2; omega))
    clear RX2_10
    have G0_11 := Seg.hid (Ow.LOwn.belowO Ow.keepsOVlu G0_10.out D11.out (fun g hg => by have := hg.2; omega))
    clear G0_10
    clear T11 TT11 st11
    go_wp2_with fail
    refine (toValueS_any _ u2 w11 (All w) (LAt.below keepsVlu (HV2.out) B11.out (fun g hg => hg)) (fun g hg => Nat.lt_of_lt_of_le hg B11.out.size) FW2.out).mono ?_
    rintro e w12 ⟨y12, rfl, h12, b12⟩
    have D12 := Seg.hid b12
    have B12 := Seg.hid (chain B11.out D12.out)
    have s12 : w11.heap.size ≤ w12.heap.size := D12.out.size
    have P0_12 := Seg.hid ((D12.out.block (w.heap.size) (Array.getElem?_eq_some_iff.1 P0_11.out).1).trans P0_11.out)
    clear P0_11
    have P1_12 := Seg.hid ((D12.out.block (w.heap.size + 1) (Array.getElem?_eq_some_iff.1 P1_11.out).1).trans P1_11.out)
    clear P1_11
    have Wr0_12 := Seg.hid (LAt.below keepsVlu Wr0_11.out D12.out (fun g hg => by have := hg.2; omega))
    clear Wr0_11
    have RX0_12 := Seg.hid (Ow.SchOwn.keep RX0_11.out D12.out.size (fun g hg => D12.out.block g (by have := hg.2; omega)))
    clear RX0_11
    have X0_12 := Seg.hid ((D12.out.block (w5.heap.size) (Array.getElem?_eq_some_iff.1 X0_11.out).1).trans X0_11.out)
    clear X0_11
    have RX1_12 := Seg.hid (Ow.SchOwn.keep RX1_11.out D12.out.size (fun g hg => D12.out.block g (by have := hg.2; omega)))
    clear RX1_11
    have X1_12 := Seg.hid ((D12.out.block (w6.heap.size) (Array.getElem?_eq_some_iff.1 X1_11.out).1).trans X1_11.out)
    clear X1_11
    have RX2_12 := Seg.hid (Ow.LOwn.belowO Ow.keepsOVlu RX2_11.out D12.out (fun g hg => by have := hg.2; omega))
    clear RX2_11
    have G0_12 := Seg.hid (Ow.LOwn.belowO Ow.keepsOVlu G0_11.out D12.out (fun g hg => by have := hg.2; omega))
    clear G0_11
    obtain ⟨A12, c12, rfl⟩ := h12.form
    have Z2_12 := Seg.hid h12
    clear b12 h12
    go_wp2_with fail
    refine (eqValueS_any _ _ u2 w12 _ _ (Ow.LOwn.lat growsVlu Ow.atOVlu RX2_12.out) Z2_12.out (fun g hg => by have := hg.2; omega) (fun g hg => by have := hg.2; omega)).mono ?_
    rintro e w13 ⟨rfl, b13⟩
    have D13 := Seg.hid b13
    have B13 := Seg.hid (chain B12.out D13.out)
    have s13 : w12.heap.size ≤ w13.heap.size := D13.out.size
    have P0_13 := Seg.hid ((D13.out.block (w.heap.size) (Array.getElem?_eq_some_iff.1 P0_12.out).1).trans P0_12.out)
    clear P0_12
    have P1_13 := Seg.hid ((D13.out.block (w.heap.size + 1) (Array.getElem?_eq_some_iff.1 P1_12.out).1).trans P1_12.out)
    clear P1_12
    have Wr0_13 := Seg.hid (LAt.below keepsVlu Wr0_12.out D13.out (fun g hg => by have := hg.2; omega))
    clear Wr0_12
    have RX0_13 := Seg.hid (Ow.SchOwn.keep RX0_12.out D13.out.size (fun g hg => D13.out.block g (by have := hg.2; omega)))
    clear RX0_12
    have X0_13 := Seg.hid ((D13.out.block (w5.heap.size) (Array.getElem?_eq_some_iff.1 X0_12.out).1).trans X0_12.out)
    clear X0_12
    have RX1_13 := Seg.hid (Ow.SchOwn.keep RX1_12.out D13.out.size (fun g hg => D13.out.block g (by have := hg.2; omega)))
    clear RX1_12
    have X1_13 := Seg.hid ((D13.out.block (w6.heap.size) (Array.getElem?_eq_some_iff.1 X1_12.out).1).trans X1_12.out)
    clear X1_12
    have RX2_13 := Seg.hid (Ow.LOwn.belowO Ow.keepsOVlu RX2_12.out D13.out (fun g hg => by have := hg.2; omega))
    clear RX2_12
    have G0_13 := Seg.hid (Ow.LOwn.belowO Ow.keepsOVlu G0_12.out D13.out (fun g hg => by have := hg.2; omega))
    clear G0_12
    have Z2_13 := Seg.hid (LAt.below keepsVlu Z2_12.out D13.out (fun g hg => by have := hg.2; omega))
    clear Z2_12
    clear b13
    clear Z2_13
    go_wp2_with (refine wpList_load_row rfl 43 _ rfl (w5.heap.size) rfl _ _ _ _ X0_13.out Try.underlying43 rfl infoSch ?_)
    refine (Ow.markSchema_own _ 1 rfl (seg (w4.heap.size) w5.heap.size) u0 w13 (by decide) (by have := MA0.out; omega) (fun g hg => by have := hg.2; omega) RX0_13.out).mono ?_
    rintro e w14 ⟨rfl, hm14, ft14⟩
    have s14 : w13.heap.size ≤ w14.heap.size := ft14.size
    have B14 := Seg.hid (B13.out.trans (ft14.toBelow (lo := w.heap.size) (fun y hy => by have := hy.1; omega) (by omega)))
    have P0_14 := Seg.hid ((ft14.block (w.heap.size) (Array.getElem?_eq_some_iff.1 P0_13.out).1 (fun hy => by have := hy.1; have := hy.2; omega)).trans P0_13.out)
    clear P0_13
    have P1_14 := Seg.hid ((ft14.block (w.heap.size + 1) (Array.getElem?_eq_some_iff.1 P1_13.out).1 (fun hy => by have := hy.1; have := hy.2; omega)).trans P1_13.out)
    clear P1_13
    have Wr0_14 := Seg.hid (LAt.keep keepsVlu Wr0_13.out (fun g hg => ft14.block g (by have := hg.2; omega) (fun hy => by have := hy.1; have := hy.2; have := hg.1; have := hg.2; omega)))
    clear Wr0_13
    have X0_14 := Seg.hid ((ft14.block (w5.heap.size) (Array.getElem?_eq_some_iff.1 X0_13.out).1 (fun hy => by have := hy.1; have := hy.2; omega)).trans X0_13.out)
    clear X0_13
    have RX1_14 := Seg.hid (Ow.SchOwn.keep RX1_13.out ft14.size (fun g hg => ft14.block g (by have := hg.2; omega) (fun hy => by have := hy.1; have := hy.2; have := hg.1; have := hg.2; omega)))
    clear RX1_13
    have X1_14 := Seg.hid ((ft14.block (w6.heap.size) (Array.getElem?_eq_some_iff.1 X1_13.out).1 (fun hy => by have := hy.1; have := hy.2; omega)).trans X1_13.out)
    clear X1_13
    have RX2_14 := Seg.hid (Ow.LOwn.footO Ow.keepsOVlu RX2_13.out ft14 (fun g hg => by have := hg.2; omega) (fun g hg hy => by have := hy.1; have := hy.2; have := hg.1; have := hg.2; omega))
    clear RX2_13
    have G0_14 := Seg.hid (Ow.LOwn.footO Ow.keepsOVlu G0_13.out ft14 (fun g hg => by have := hg.2; omega) (fun g hg hy => by have := hy.1; have := hy.2; have := hg.1; have := hg.2; omega))
    clear G0_13
    have RX0_14 := Seg.hid hm14
    clear RX0_13 hm14 ft14
    obtain ⟨K0, hK0⟩ : ∃ K, 1 + Ow.nSch u0 = K := ⟨_, rfl⟩
    rw [hK0]
    have kb0 : 0 < K0 ∧ K0 ≤ 1000000001 := by have := MA0.out; omega
    clear hK0
    clear RX0_14
    go_wp2_with (refine wpList_load_row rfl 43 _ rfl (w6.heap.size) rfl _ _ _ _ X1_14.out Try.underlying43 rfl infoSch ?_)
    refine (Ow.markSchema_own _ K0 rfl (seg (w5.heap.size + 1) w6.heap.size) u1 w14 (by omega) (by have := MA1.out; omega) (fun g hg => by have := hg.2; omega) RX1_14.out).mono ?_
    rintro e w15 ⟨rfl, hm15, ft15⟩
    have s15 : w14.heap.size ≤ w15.heap.size := ft15.size
    have B15 := Seg.hid (B14.out.trans (ft15.toBelow (lo := w.heap.size) (fun y hy => by have := hy.1; omega) (by omega)))
    have P0_15 := Seg.hid ((ft15.block (w.heap.size) (Array.getElem?_eq_some_iff.1 P0_14.out).1 (fun hy => by have := hy.1; have := hy.2; omega)).trans P0_14.out)
    clear P0_14
    have P1_15 := Seg.hid ((ft15.block (w.heap.size + 1) (Array.getElem?_eq_some_iff.1 P1_14.out).1 (fun hy => by have := hy.1; have := hy.2; omega)).trans P1_14.out)
    clear P1_14
    have Wr0_15 := Seg.hid (LAt.keep keepsVlu Wr0_14.out (fun g hg => ft15.block g (by have := hg.2; omega) (fun hy => by have := hy.1; have := hy.2; have := hg.1; have := hg.2; omega)))
    clear Wr0_14
    have X0_15 := Seg.hid ((ft15.block (w5.heap.size) (Array.getElem?_eq_some_iff.1 X0_14.out).1 (fun hy => by have := hy.1; have := hy.2; omega)).trans X0_14.out)
    clear X0_14
    have X1_15 := Seg.hid ((ft15.block (w6.heap.size) (Array.getElem?_eq_some_iff.1 X1_14.out).1 (fun hy => by have := hy.1; have := hy.2; omega)).trans X1_14.out)
    clear X1_14
    have RX2_15 := Seg.hid (Ow.LOwn.footO Ow.keepsOVlu RX2_14.out ft15 (fun g hg => by have := hg.2; omega) (fun g hg hy => by have := hy.1; have := hy.2; have := hg.1; have := hg.2; omega))
    clear RX2_14
    have G0_15 := Seg.hid (Ow.LOwn.footO Ow.keepsOVlu G0_14.out ft15 (fun g hg => by have := hg.2; omega) (fun g hg hy => by have := hy.1; have := hy.2; have := hg.1; have := hg.2; omega))
    clear G0_14
    have RX1_15 := Seg.hid hm15
    clear RX1_14 hm15 ft15
    obtain ⟨K1, hK1⟩ : ∃ K, K0 + Ow.nSch u1 = K := ⟨_, rfl⟩
    rw [hK1]
    have kb1 : 0 < K1 ∧ K1 ≤ 2000000001 := by have := MA1.out; omega
    clear hK1
    clear RX1_15
    go_wp2_with fail
    refine (Ow.markValueS_own _ K1 rfl (seg (w6.heap.size + 1) w7.heap.size) u2 w15 (by omega) (by have := MA2.out; omega) RX2_15.out).mono ?_
    rintro e w16 ⟨rfl, hm16, ft16⟩
    have s16 : w15.heap.size ≤ w16.heap.size := ft16.size
    have B16 := Seg.hid (B15.out.trans (ft16.toBelow (lo := w.heap.size) (fun y hy => by have := hy.1; omega) (by omega)))
    have P0_16 := Seg.hid ((ft16.block (w.heap.size) (Array.getElem?_eq_some_iff.1 P0_15.out).1 (fun hy => by have := hy.1; have := hy.2; omega)).trans P0_15.out)
    clear P0_15
    have P1_16 := Seg.hid ((ft16.block (w.heap.size + 1) (Array.getElem?_eq_some_iff.1 P1_15.out).1 (fun hy => by have := hy.1; have := hy.2; omega)).trans P1_15.out)
    clear P1_15
    have Wr0_16 := Seg.hid (LAt.keep keepsVlu Wr0_15.out (fun g hg => ft16.block g (by have := hg.2; omega) (fun hy => by have := hy.1; have := hy.2; have := hg.1; have := hg.2; omega)))
    clear Wr0_15
    have X0_16 := Seg.hid ((ft16.block (w5.heap.size) (Array.getElem?_eq_some_iff.1 X0_15.out).1 (fun hy => by have := hy.1; have := hy.2; omega)).trans X0_15.out)
    clear X0_15
    have X1_16 := Seg.hid ((ft16.block (w6.heap.size) (Array.getElem?_eq_some_iff.1 X1_15.out).1 (fun hy => by have := hy.1; have := hy.2; omega)).trans X1_15.out)
    clear X1_15
    have G0_16 := Seg.hid (Ow.LOwn.footO Ow.keepsOVlu G0_15.out ft16 (fun g hg => by have := hg.2; omega) (fun g hg hy => by have := hy.1; have := hy.2; have := hg.1; have := hg.2; omega))
    clear G0_15
    have RX2_16 := Seg.hid hm16
    clear RX2_15 hm16 ft16
    obtain ⟨K2, hK2⟩ : ∃ K, K1 + tot Ow.nVlu u2 = K := ⟨_, rfl⟩
    rw [hK2]
    have kb2 : 0 < K2 ∧ K2 ≤ 3000000001 := by have := MA2.out; omega
    clear hK2
    clear RX2_16
    clear X0_16
    clear X1_16
    have hK0 : (0 : Int) ≤ (K2 : Int) := by omega
    have hkd : decide ((K2 : Int) < 0) = false := decide_eq_false (by omega)
    go_wp2_with fail
    refine (eqValueS_any _ _ R0 w16 _ _ (Ow.LOwn.lat growsVlu Ow.atOVlu G0_16.out) Wr0_16.out (fun g hg => by have := hg.2; omega) (fun g hg => by have := hg.2; omega)).mono ?_
    rintro e w17 ⟨rfl, b17⟩
    have D17 := Seg.hid b17
    have B17 := Seg.hid (chain B16.out D17.out)
    have s17 : w16.heap.size ≤ w17.heap.size := D17.out.size
    have P0_17 := Seg.hid ((D17.out.block (w.heap.size) (Array.getElem?_eq_some_iff.1 P0_16.out).1).trans P0_16.out)
    clear P0_16
    have P1_17 := Seg.hid ((D17.out.block (w.heap.size + 1) (Array.getElem?_eq_some_iff.1 P1_16.out).1).trans P1_16.out)
    clear P1_16
    have Wr0_17 := Seg.hid (LAt.below keepsVlu Wr0_16.out D17.out (fun g hg => by have := hg.2; omega))
    clear Wr0_16
    have G0_17 := Seg.hid (Ow.LOwn.belowO Ow.keepsOVlu G0_16.out D17.out (fun g hg => by have := hg.2; omega))
    clear G0_16
    clear b17
    go_wp2_with fail
    refine (Ow.markValueS_own _ 1 rfl (seg (w7.heap.size) w8.heap.size) R0 w17 (by decide) (by have := MR0.out; omega) G0_17.out).mono ?_
    rintro e w18 ⟨rfl, hm18, ft18⟩
    have s18 : w17.heap.size ≤ w18.heap.size := ft18.size
    have B18 := Seg.hid (B17.out.trans (ft18.toBelow (lo := w.heap.size) (fun y hy => by have := hy.1; omega) (by omega)))
    have P0_18 := Seg.hid ((ft18.block (w.heap.size) (Array.getElem?_eq_some_iff.1 P0_17.out).1 (fun hy => by have := hy.1; have := hy.2; omega)).trans P0_17.out)
    clear P0_17
    have P1_18 := Seg.hid ((ft18.block (w.heap.size + 1) (Array.getElem?_eq_some_iff.1 P1_17.out).1 (fun hy => by have := hy.1; have := hy.2; omega)).trans P1_17.out)
    clear P1_17
    have Wr0_18 := Seg.hid (LAt.keep keepsVlu Wr0_17.out (fun g hg => ft18.block g (by have := hg.2; omega) (fun hy => by have := hy.1; have := hy.2; have := hg.1; have := hg.2; omega)))
    clear Wr0_17
    have G0_18 := Seg.hid hm18
    clear G0_17 hm18 ft18
    obtain ⟨M0, hM0⟩ : ∃ M, 1 + tot Ow.nVlu R0 = M := ⟨_, rfl⟩
    have HM0 := Seg.hid hM0
    rw [hM0]
    have mb0 : 0 < M0 ∧ M0 ≤ 1000000001 := by have := MR0.out; omega
    clear hM0
    go_wp2_with fail
    refine (Ow.heldValueS_at _ 1 rfl (seg (w7.heap.size) w8.heap.size) R0 w18 (by decide) (by have := MR0.out; omega) (fun g hg => by have := hg.2; omega) (Ow.LOwn.lat growsVlu Ow.atOVlu G0_18.out)).mono ?_
    rintro e w19 ⟨rfl, b19⟩
    have D19 := Seg.hid b19
    have B19 := Seg.hid (chain B18.out D19.out)
    have s19 : w18.heap.size ≤ w19.heap.size := D19.out.size
    have P0_19 := Seg.hid ((D19.out.block (w.heap.size) (Array.getElem?_eq_some_iff.1 P0_18.out).1).trans P0_18.out)
    clear P0_18
    have P1_19 := Seg.hid ((D19.out.block (w.heap.size + 1) (Array.getElem?_eq_some_iff.1 P1_18.out).1).trans P1_18.out)
    clear P1_18
    have Wr0_19 := Seg.hid (LAt.below keepsVlu Wr0_18.out D19.out (fun g hg => by have := hg.2; omega))
    clear Wr0_18
    have G0_19 := Seg.hid (Ow.LOwn.belowO Ow.keepsOVlu G0_18.out D19.out (fun g hg => by have := hg.2; omega))
    clear G0_18
    rw [HM0.out]
    clear b19
    have hM0 : ¬ (M0 : Int) < 0 := by omega
    have hM1 : ((M0 : Int) != (M0 : Int)) = false := by simp
    go_wp2_with fail
    obtain ⟨c1_0_0, c1_0_1⟩ := cells0 P0_19.out
    have z1_0 : w.heap.size < w19.heap.size := (Array.getElem?_eq_some_iff.1 P0_19.out).1
    obtain ⟨c1_1_0, c1_1_1⟩ := cells1 P1_19.out
    have z1_1 : w.heap.size + 1 < w19.heap.size := (Array.getElem?_eq_some_iff.1 P1_19.out).1
    go_region_held3 (fun w' => w'.cell? ⟨w.heap.size, 0, none⟩ = some (.string u0.name) ∧ w'.cell? ⟨w.heap.size, 1, none⟩ = some (.slice A0_1 u0.fields.length a0_q1) ∧ w'.cell? ⟨w.heap.size + 1, 0, none⟩ = some (.string u1.name) ∧ w'.cell? ⟨w.heap.size + 1, 1, none⟩ = some (.slice A1_1 u1.fields.length a1_q1)) (first | exact ⟨c1_0_0, c1_0_1, c1_1_0, c1_1_1⟩ | exact ⟨e1x0x1x2q1_0_0, e1x0x1x2q1_0_1, e1x0x1x2q1_1_0, e1x0x1x2q1_1_1⟩ | exact ⟨e1x0x1q1_0_0, e1x0x1q1_0_1, e1x0x1q1_1_0, e1x0x1q1_1_1⟩ | exact ⟨e1x0x2q1_0_0, e1x0x2q1_0_1, e1x0x2q1_1_0, e1x0x2q1_1_1⟩ | exact ⟨e1x0q1_0_0, e1x0q1_0_1, e1x0q1_1_0, e1x0q1_1_1⟩ | exact ⟨e1x1x2q1_0_0, e1x1x2q1_0_1, e1x1x2q1_1_0, e1x1x2q1_1_1⟩ | exact ⟨e1x1q1_0_0, e1x1q1_0_1, e1x1q1_1_0, e1x1q1_1_1⟩ | exact ⟨e1x2q1_0_0, e1x2q1_0_1, e1x2q1_1_0, e1x2q1_1_1⟩ | exact ⟨f1_0_0, f1_0_1, f1_1_0, f1_1_1⟩ | go_keep) (first | (go_at_call_of 14 (Value.agg #[Value.string u0.name, Value.slice A0_1 u0.fields.length a0_q1]); first | (refine (toSchema_any _ u0 y1x1x2 (All w) ((HV0.out).below BB1x1x2.out (fun g hg => hg)) (fun g hg => Nat.lt_of_lt_of_le hg BB1x1x2.out.size) FW0.out).mono ?_; rintro e y1x0x1x2 ⟨vc1_0, rfl, rc, bc⟩; have N1x0x1x2 := Seg.hid (chain N1x1x2.out bc); have BB1x0x1x2 := Seg.hid (chain BB1x1x2.out bc); have RC1x0x1x2_0 : Hid (SchAt y1x0x1x2 (seg w19.heap.size y1x0x1x2.heap.size) vc1_0 u0) := ((rc).mono (fun g hg => ⟨Nat.le_trans N1x1x2.out.size hg.1, hg.2⟩)); have RC1x0x1x2_1 : Hid (SchAt y1x0x1x2 (seg w19.heap.size y1x0x1x2.heap.size) vc1_1 u1) := ((((RC1x1x2_1.out).below bc (fun g hg => hg.2))).mono (fun g hg => ⟨hg.1, Nat.lt_of_lt_of_le hg.2 bc.size⟩)); have RC1x0x1x2_2 : Hid (LAt 5 EVlu y1x0x1x2 (seg w19.heap.size y1x0x1x2.heap.size) vc1_2 u2) := (LAt.mono growsVlu ((LAt.below keepsVlu (RC1x1x2_2.out) bc (fun g hg => hg.2))) (fun g hg => ⟨hg.1, Nat.lt_of_lt_of_le hg.2 bc.size⟩)); clear rc bc; have e1x0x1x2q1_0_0 := (N1x0x1x2.out.cell (p := ⟨w.heap.size, 0, none⟩) z1_0).trans c1_0_0; have e1x0x1x2q1_0_1 := (N1x0x1x2.out.cell (p := ⟨w.heap.size, 1, none⟩) z1_0).trans c1_0_1; have e1x0x1x2q1_1_0 := (N1x0x1x2.out.cell (p := ⟨w.heap.size + 1, 0, none⟩) z1_1).trans c1_1_0; have e1x0x1x2q1_1_1 := (N1x0x1x2.out.cell (p := ⟨w.heap.size + 1, 1, none⟩) z1_1).trans c1_1_1) | (refine (toSchema_any _ u0 y1x1 (All w) ((HV0.out).below BB1x1.out (fun g hg => hg)) (fun g hg => Nat.lt_of_lt_of_le hg BB1x1.out.size) FW0.out).mono ?_; rintro e y1x0x1 ⟨vc1_0, rfl, rc, bc⟩; have N1x0x1 := Seg.hid (chain N1x1.out bc); have BB1x0x1 := Seg.hid (chain BB1x1.out bc); have RC1x0x1_0 : Hid (SchAt y1x0x1 (seg w19.heap.size y1x0x1.heap.size) vc1_0 u0) := ((rc).mono (fun g hg => ⟨Nat.le_trans N1x1.out.size hg.1, hg.2⟩)); have RC1x0x1_1 : Hid (SchAt y1x0x1 (seg w19.heap.size y1x0x1.heap.size) vc1_1 u1) := ((((RC1x1_1.out).below bc (fun g hg => hg.2))).mono (fun g hg => ⟨hg.1, Nat.lt_of_lt_of_le hg.2 bc.size⟩)); clear rc bc; have e1x0x1q1_0_0 := (N1x0x1.out.cell (p := ⟨w.heap.size, 0, none⟩) z1_0).trans c1_0_0; have e1x0x1q1_0_1 := (N1x0x1.out.cell (p := ⟨w.heap.size, 1, none⟩) z1_0).trans c1_0_1; have e1x0x1q1_1_0 := (N1x0x1.out.cell (p := ⟨w.heap.size + 1, 0, none⟩) z1_1).trans c1_1_0; have e1x0x1q1_1_1 := (N1x0x1.out.cell (p := ⟨w.heap.size + 1, 1, none⟩) z1_1).trans c1_1_1) | (refine (toSchema_any _ u0 y1x2 (All w) ((HV0.out).below BB1x2.out (fun g hg => hg)) (fun g hg => Nat.lt_of_lt_of_le hg BB1x2.out.size) FW0.out).mono ?_; rintro e y1x0x2 ⟨vc1_0, rfl, rc, bc⟩; have N1x0x2 := Seg.hid (chain N1x2.out bc); have BB1x0x2 := Seg.hid (chain BB1x2.out bc); have RC1x0x2_0 : Hid (SchAt y1x0x2 (seg w19.heap.size y1x0x2.heap.size) vc1_0 u0) := ((rc).mono (fun g hg => ⟨Nat.le_trans N1x2.out.size hg.1, hg.2⟩)); have RC1x0x2_2 : Hid (LAt 5 EVlu y1x0x2 (seg w19.heap.size y1x0x2.heap.size) vc1_2 u2) := (LAt.mono growsVlu ((LAt.below keepsVlu (RC1x2_2.out) bc (fun g hg => hg.2))) (fun g hg => ⟨hg.1, Nat.lt_of_lt_of_le hg.2 bc.size⟩)); clear rc bc; have e1x0x2q1_0_0 := (N1x0x2.out.cell (p := ⟨w.heap.size, 0, none⟩) z1_0).trans c1_0_0; have e1x0x2q1_0_1 := (N1x0x2.out.cell (p := ⟨w.heap.size, 1, none⟩) z1_0).trans c1_0_1; have e1x0x2q1_1_0 := (N1x0x2.out.cell (p := ⟨w.heap.size + 1, 0, none⟩) z1_1).trans c1_1_0; have e1x0x2q1_1_1 := (N1x0x2.out.cell (p := ⟨w.heap.size + 1, 1, none⟩) z1_1).trans c1_1_1) | (refine (toSchema_any _ u0 w19.drew (All w) ((HV0.out).below B19.out.drew (fun g hg => hg)) (fun g hg => Nat.lt_of_lt_of_le hg B19.out.size) FW0.out).mono ?_; rintro e y1x0 ⟨vc1_0, rfl, rc, bc⟩; have N1x0 : Hid (Below w19.heap.size w19 y1x0) := ⟨bc.os, bc.tape, bc.output, bc.size, bc.block⟩; have BB1x0 := Seg.hid (chain B19.out N1x0.out); have RC1x0_0 : Hid (SchAt y1x0 (seg w19.heap.size y1x0.heap.size) vc1_0 u0) := rc; clear rc bc; have e1x0q1_0_0 := (N1x0.out.cell (p := ⟨w.heap.size, 0, none⟩) z1_0).trans c1_0_0; have e1x0q1_0_1 := (N1x0.out.cell (p := ⟨w.heap.size, 1, none⟩) z1_0).trans c1_0_1; have e1x0q1_1_0 := (N1x0.out.cell (p := ⟨w.heap.size + 1, 0, none⟩) z1_1).trans c1_1_0; have e1x0q1_1_1 := (N1x0.out.cell (p := ⟨w.heap.size + 1, 1, none⟩) z1_1).trans c1_1_1)) | (go_at_call_of 14 (Value.agg #[Value.string u1.name, Value.slice A1_1 u1.fields.length a1_q1]); first | (refine (toSchema_any _ u1 y1x0x2 (All w) ((HV1.out).below BB1x0x2.out (fun g hg => hg)) (fun g hg => Nat.lt_of_lt_of_le hg BB1x0x2.out.size) FW1.out).mono ?_; rintro e y1x0x1x2 ⟨vc1_1, rfl, rc, bc⟩; have N1x0x1x2 := Seg.hid (chain N1x0x2.out bc); have BB1x0x1x2 := Seg.hid (chain BB1x0x2.out bc); have RC1x0x1x2_1 : Hid (SchAt y1x0x1x2 (seg w19.heap.size y1x0x1x2.heap.size) vc1_1 u1) := ((rc).mono (fun g hg => ⟨Nat.le_trans N1x0x2.out.size hg.1, hg.2⟩)); have RC1x0x1x2_0 : Hid (SchAt y1x0x1x2 (seg w19.heap.size y1x0x1x2.heap.size) vc1_0 u0) := ((((RC1x0x2_0.out).below bc (fun g hg => hg.2))).mono (fun g hg => ⟨hg.1, Nat.lt_of_lt_of_le hg.2 bc.size⟩)); have RC1x0x1x2_2 : Hid (LAt 5 EVlu y1x0x1x2 (seg w19.heap.size y1x0x1x2.heap.size) vc1_2 u2) := (LAt.mono growsVlu ((LAt.below keepsVlu (RC1x0x2_2.out) bc (fun g hg => hg.2))) (fun g hg => ⟨hg.1, Nat.lt_of_lt_of_le hg.2 bc.size⟩)); clear rc bc; have e1x0x1x2q1_0_0 := (N1x0x1x2.out.cell (p := ⟨w.heap.size, 0, none⟩) z1_0).trans c1_0_0; have e1x0x1x2q1_0_1 := (N1x0x1x2.out.cell (p := ⟨w.heap.size, 1, none⟩) z1_0).trans c1_0_1; have e1x0x1x2q1_1_0 := (N1x0x1x2.out.cell (p := ⟨w.heap.size + 1, 0, none⟩) z1_1).trans c1_1_0; have e1x0x1x2q1_1_1 := (N1x0x1x2.out.cell (p := ⟨w.heap.size + 1, 1, none⟩) z1_1).trans c1_1_1) | (refine (toSchema_any _ u1 y1x0 (All w) ((HV1.out).below BB1x0.out (fun g hg => hg)) (fun g hg => Nat.lt_of_lt_of_le hg BB1x0.out.size) FW1.out).mono ?_; rintro e y1x0x1 ⟨vc1_1, rfl, rc, bc⟩; have N1x0x1 := Seg.hid (chain N1x0.out bc); have BB1x0x1 := Seg.hid (chain BB1x0.out bc); have RC1x0x1_1 : Hid (SchAt y1x0x1 (seg w19.heap.size y1x0x1.heap.size) vc1_1 u1) := ((rc).mono (fun g hg => ⟨Nat.le_trans N1x0.out.size hg.1, hg.2⟩)); have RC1x0x1_0 : Hid (SchAt y1x0x1 (seg w19.heap.size y1x0x1.heap.size) vc1_0 u0) := ((((RC1x0_0.out).below bc (fun g hg => hg.2))).mono (fun g hg => ⟨hg.1, Nat.lt_of_lt_of_le hg.2 bc.size⟩)); clear rc bc; have e1x0x1q1_0_0 := (N1x0x1.out.cell (p := ⟨w.heap.size, 0, none⟩) z1_0).trans c1_0_0; have e1x0x1q1_0_1 := (N1x0x1.out.cell (p := ⟨w.heap.size, 1, none⟩) z1_0).trans c1_0_1; have e1x0x1q1_1_0 := (N1x0x1.out.cell (p := ⟨w.heap.size + 1, 0, none⟩) z1_1).trans c1_1_0; have e1x0x1q1_1_1 := (N1x0x1.out.cell (p := ⟨w.heap.size + 1, 1, none⟩) z1_1).trans c1_1_1) | (refine (toSchema_any _ u1 y1x2 (All w) ((HV1.out).below BB1x2.out (fun g hg => hg)) (fun g hg => Nat.lt_of_lt_of_le hg BB1x2.out.size) FW1.out).mono ?_; rintro e y1x1x2 ⟨vc1_1, rfl, rc, bc⟩; have N1x1x2 := Seg.hid (chain N1x2.out bc); have BB1x1x2 := Seg.hid (chain BB1x2.out bc); have RC1x1x2_1 : Hid (SchAt y1x1x2 (seg w19.heap.size y1x1x2.heap.size) vc1_1 u1) := ((rc).mono (fun g hg => ⟨Nat.le_trans N1x2.out.size hg.1, hg.2⟩)); have RC1x1x2_2 : Hid (LAt 5 EVlu y1x1x2 (seg w19.heap.size y1x1x2.heap.size) vc1_2 u2) := (LAt.mono growsVlu ((LAt.below keepsVlu (RC1x2_2.out) bc (fun g hg => hg.2))) (fun g hg => ⟨hg.1, Nat.lt_of_lt_of_le hg.2 bc.size⟩)); clear rc bc; have e1x1x2q1_0_0 := (N1x1x2.out.cell (p := ⟨w.heap.size, 0, none⟩) z1_0).trans c1_0_0; have e1x1x2q1_0_1 := (N1x1x2.out.cell (p := ⟨w.heap.size, 1, none⟩) z1_0).trans c1_0_1; have e1x1x2q1_1_0 := (N1x1x2.out.cell (p := ⟨w.heap.size + 1, 0, none⟩) z1_1).trans c1_1_0; have e1x1x2q1_1_1 := (N1x1x2.out.cell (p := ⟨w.heap.size + 1, 1, none⟩) z1_1).trans c1_1_1) | (refine (toSchema_any _ u1 w19.drew (All w) ((HV1.out).below B19.out.drew (fun g hg => hg)) (fun g hg => Nat.lt_of_lt_of_le hg B19.out.size) FW1.out).mono ?_; rintro e y1x1 ⟨vc1_1, rfl, rc, bc⟩; have N1x1 : Hid (Below w19.heap.size w19 y1x1) := ⟨bc.os, bc.tape, bc.output, bc.size, bc.block⟩; have BB1x1 := Seg.hid (chain B19.out N1x1.out); have RC1x1_1 : Hid (SchAt y1x1 (seg w19.heap.size y1x1.heap.size) vc1_1 u1) := rc; clear rc bc; have e1x1q1_0_0 := (N1x1.out.cell (p := ⟨w.heap.size, 0, none⟩) z1_0).trans c1_0_0; have e1x1q1_0_1 := (N1x1.out.cell (p := ⟨w.heap.size, 1, none⟩) z1_0).trans c1_0_1; have e1x1q1_1_0 := (N1x1.out.cell (p := ⟨w.heap.size + 1, 0, none⟩) z1_1).trans c1_1_0; have e1x1q1_1_1 := (N1x1.out.cell (p := ⟨w.heap.size + 1, 1, none⟩) z1_1).trans c1_1_1)) | (go_at_call 23; first | (refine (toValueS_any _ u2 y1x0x1 (All w) (LAt.below keepsVlu (HV2.out) BB1x0x1.out (fun g hg => hg)) (fun g hg => Nat.lt_of_lt_of_le hg BB1x0x1.out.size) FW2.out).mono ?_; rintro e y1x0x1x2 ⟨vc1_2, rfl, rc, bc⟩; have N1x0x1x2 := Seg.hid (chain N1x0x1.out bc); have BB1x0x1x2 := Seg.hid (chain BB1x0x1.out bc); have RC1x0x1x2_2 : Hid (LAt 5 EVlu y1x0x1x2 (seg w19.heap.size y1x0x1x2.heap.size) vc1_2 u2) := (LAt.mono growsVlu (rc) (fun g hg => ⟨Nat.le_trans N1x0x1.out.size hg.1, hg.2⟩)); have RC1x0x1x2_0 : Hid (SchAt y1x0x1x2 (seg w19.heap.size y1x0x1x2.heap.size) vc1_0 u0) := ((((RC1x0x1_0.out).below bc (fun g hg => hg.2))).mono (fun g hg => ⟨hg.1, Nat.lt_of_lt_of_le hg.2 bc.size⟩)); have RC1x0x1x2_1 : Hid (SchAt y1x0x1x2 (seg w19.heap.size y1x0x1x2.heap.size) vc1_1 u1) := ((((RC1x0x1_1.out).below bc (fun g hg => hg.2))).mono (fun g hg => ⟨hg.1, Nat.lt_of_lt_of_le hg.2 bc.size⟩)); clear rc bc; have e1x0x1x2q1_0_0 := (N1x0x1x2.out.cell (p := ⟨w.heap.size, 0, none⟩) z1_0).trans c1_0_0; have e1x0x1x2q1_0_1 := (N1x0x1x2.out.cell (p := ⟨w.heap.size, 1, none⟩) z1_0).trans c1_0_1; have e1x0x1x2q1_1_0 := (N1x0x1x2.out.cell (p := ⟨w.heap.size + 1, 0, none⟩) z1_1).trans c1_1_0; have e1x0x1x2q1_1_1 := (N1x0x1x2.out.cell (p := ⟨w.heap.size + 1, 1, none⟩) z1_1).trans c1_1_1) | (refine (toValueS_any _ u2 y1x0 (All w) (LAt.below keepsVlu (HV2.out) BB1x0.out (fun g hg => hg)) (fun g hg => Nat.lt_of_lt_of_le hg BB1x0.out.size) FW2.out).mono ?_; rintro e y1x0x2 ⟨vc1_2, rfl, rc, bc⟩; have N1x0x2 := Seg.hid (chain N1x0.out bc); have BB1x0x2 := Seg.hid (chain BB1x0.out bc); have RC1x0x2_2 : Hid (LAt 5 EVlu y1x0x2 (seg w19.heap.size y1x0x2.heap.size) vc1_2 u2) := (LAt.mono growsVlu (rc) (fun g hg => ⟨Nat.le_trans N1x0.out.size hg.1, hg.2⟩)); have RC1x0x2_0 : Hid (SchAt y1x0x2 (seg w19.heap.size y1x0x2.heap.size) vc1_0 u0) := ((((RC1x0_0.out).below bc (fun g hg => hg.2))).mono (fun g hg => ⟨hg.1, Nat.lt_of_lt_of_le hg.2 bc.size⟩)); clear rc bc; have e1x0x2q1_0_0 := (N1x0x2.out.cell (p := ⟨w.heap.size, 0, none⟩) z1_0).trans c1_0_0; have e1x0x2q1_0_1 := (N1x0x2.out.cell (p := ⟨w.heap.size, 1, none⟩) z1_0).trans c1_0_1; have e1x0x2q1_1_0 := (N1x0x2.out.cell (p := ⟨w.heap.size + 1, 0, none⟩) z1_1).trans c1_1_0; have e1x0x2q1_1_1 := (N1x0x2.out.cell (p := ⟨w.heap.size + 1, 1, none⟩) z1_1).trans c1_1_1) | (refine (toValueS_any _ u2 y1x1 (All w) (LAt.below keepsVlu (HV2.out) BB1x1.out (fun g hg => hg)) (fun g hg => Nat.lt_of_lt_of_le hg BB1x1.out.size) FW2.out).mono ?_; rintro e y1x1x2 ⟨vc1_2, rfl, rc, bc⟩; have N1x1x2 := Seg.hid (chain N1x1.out bc); have BB1x1x2 := Seg.hid (chain BB1x1.out bc); have RC1x1x2_2 : Hid (LAt 5 EVlu y1x1x2 (seg w19.heap.size y1x1x2.heap.size) vc1_2 u2) := (LAt.mono growsVlu (rc) (fun g hg => ⟨Nat.le_trans N1x1.out.size hg.1, hg.2⟩)); have RC1x1x2_1 : Hid (SchAt y1x1x2 (seg w19.heap.size y1x1x2.heap.size) vc1_1 u1) := ((((RC1x1_1.out).below bc (fun g hg => hg.2))).mono (fun g hg => ⟨hg.1, Nat.lt_of_lt_of_le hg.2 bc.size⟩)); clear rc bc; have e1x1x2q1_0_0 := (N1x1x2.out.cell (p := ⟨w.heap.size, 0, none⟩) z1_0).trans c1_0_0; have e1x1x2q1_0_1 := (N1x1x2.out.cell (p := ⟨w.heap.size, 1, none⟩) z1_0).trans c1_0_1; have e1x1x2q1_1_0 := (N1x1x2.out.cell (p := ⟨w.heap.size + 1, 0, none⟩) z1_1).trans c1_1_0; have e1x1x2q1_1_1 := (N1x1x2.out.cell (p := ⟨w.heap.size + 1, 1, none⟩) z1_1).trans c1_1_1) | (refine (toValueS_any _ u2 w19.drew (All w) (LAt.below keepsVlu (HV2.out) B19.out.drew (fun g hg => hg)) (fun g hg => Nat.lt_of_lt_of_le hg B19.out.size) FW2.out).mono ?_; rintro e y1x2 ⟨vc1_2, rfl, rc, bc⟩; have N1x2 : Hid (Below w19.heap.size w19 y1x2) := ⟨bc.os, bc.tape, bc.output, bc.size, bc.block⟩; have BB1x2 := Seg.hid (chain B19.out N1x2.out); have RC1x2_2 : Hid (LAt 5 EVlu y1x2 (seg w19.heap.size y1x2.heap.size) vc1_2 u2) := rc; clear rc bc; have e1x2q1_0_0 := (N1x2.out.cell (p := ⟨w.heap.size, 0, none⟩) z1_0).trans c1_0_0; have e1x2q1_0_1 := (N1x2.out.cell (p := ⟨w.heap.size, 1, none⟩) z1_0).trans c1_0_1; have e1x2q1_1_0 := (N1x2.out.cell (p := ⟨w.heap.size + 1, 0, none⟩) z1_1).trans c1_1_0; have e1x2q1_1_1 := (N1x2.out.cell (p := ⟨w.heap.size + 1, 1, none⟩) z1_1).trans c1_1_1)) | (go_at_call 31; refine (CI.out y1x0x1x2 _ _ _ ((RC1x0x1x2_0.out).mono (fun g hg => hg.2)) ((RC1x0x1x2_1.out).mono (fun g hg => hg.2)) (LAt.mono growsVlu (RC1x0x1x2_2.out) (fun g hg => hg.2))).mono ?_; rintro e w20 ⟨r20_0, rfl, h20_0, b20⟩; have NN1 := Seg.hid (chain N1x0x1x2.out b20); have f1_0_0 := (NN1.out.cell (p := ⟨w.heap.size, 0, none⟩) z1_0).trans c1_0_0; have f1_0_1 := (NN1.out.cell (p := ⟨w.heap.size, 1, none⟩) z1_0).trans c1_0_1; have f1_1_0 := (NN1.out.cell (p := ⟨w.heap.size + 1, 0, none⟩) z1_1).trans c1_1_0; have f1_1_1 := (NN1.out.cell (p := ⟨w.heap.size + 1, 1, none⟩) z1_1).trans c1_1_1))
    all_goals
      clear c1_0_0 c1_0_1 c1_1_0 c1_1_1 f1_0_0 f1_0_1 f1_1_0 f1_1_1
      have sy1 : w19.heap.size ≤ y1x0x1x2.heap.size := N1x0x1x2.out.size
      have sz1 : y1x0x1x2.heap.size ≤ w20.heap.size := b20.size
      have D20 := Seg.hid NN1.out
      have B20 := Seg.hid (chain B19.out D20.out)
      have s20 : w19.heap.size ≤ w20.heap.size := D20.out.size
      have P0_20 := Seg.hid ((D20.out.block (w.heap.size) (Array.getElem?_eq_some_iff.1 P0_19.out).1).trans P0_19.out)
      clear P0_19
      have P1_20 := Seg.hid ((D20.out.block (w.heap.size + 1) (Array.getElem?_eq_some_iff.1 P1_19.out).1).trans P1_19.out)
      clear P1_19
      have Wr0_20 := Seg.hid (LAt.below keepsVlu Wr0_19.out D20.out (fun g hg => by have := hg.2; omega))
      clear Wr0_19
      have G0_20 := Seg.hid (Ow.LOwn.belowO Ow.keepsOVlu G0_19.out D20.out (fun g hg => by have := hg.2; omega))
      clear G0_19
      clear NN1 z1_0 z1_1
      obtain ⟨A20_0, c20_0, rfl⟩ := Ow.LOwn.form h20_0
      have Hh0_20 := Seg.hid h20_0
      clear b20 h20_0
      go_wp2_with fail
      refine (eqValueS_any _ _ R0 w20 _ _ (Ow.LOwn.lat growsVlu Ow.atOVlu Hh0_20.out) Wr0_20.out (fun g hg => by have := hg.2; omega) (fun g hg => by have := hg.2; omega)).mono ?_
      rintro e w21 ⟨rfl, b21⟩
      have D21 := Seg.hid b21
      have B21 := Seg.hid (chain B20.out D21.out)
      have s21 : w20.heap.size ≤ w21.heap.size := D21.out.size
      have P0_21 := Seg.hid ((D21.out.block (w.heap.size) (Array.getElem?_eq_some_iff.1 P0_20.out).1).trans P0_20.out)
      clear P0_20
      have P1_21 := Seg.hid ((D21.out.block (w.heap.size + 1) (Array.getElem?_eq_some_iff.1 P1_20.out).1).trans P1_20.out)
      clear P1_20
      have Wr0_21 := Seg.hid (LAt.below keepsVlu Wr0_20.out D21.out (fun g hg => by have := hg.2; omega))
      clear Wr0_20
      have G0_21 := Seg.hid (Ow.LOwn.belowO Ow.keepsOVlu G0_20.out D21.out (fun g hg => by have := hg.2; omega))
      clear G0_20
      have Hh0_21 := Seg.hid (Ow.LOwn.belowO Ow.keepsOVlu Hh0_20.out D21.out (fun g hg => by have := hg.2; omega))
      clear Hh0_20
      clear b21
      clear Hh0_21
      go_wp2_with fail
      refine (Ow.heldValueS_at _ 1 rfl (seg (w7.heap.size) w8.heap.size) R0 w21 (by decide) (by have := MR0.out; omega) (fun g hg => by have := hg.2; omega) (Ow.LOwn.lat growsVlu Ow.atOVlu G0_21.out)).mono ?_
      rintro e w22 ⟨rfl, b22⟩
      have D22 := Seg.hid b22
      have B22 := Seg.hid (chain B21.out D22.out)
      have s22 : w21.heap.size ≤ w22.heap.size := D22.out.size
      have P0_22 := Seg.hid ((D22.out.block (w.heap.size) (Array.getElem?_eq_some_iff.1 P0_21.out).1).trans P0_21.out)
      clear P0_21
      have P1_22 := Seg.hid ((D22.out.block (w.heap.size + 1) (Array.getElem?_eq_some_iff.1 P1_21.out).1).trans P1_21.out)
      clear P1_21
      have Wr0_22 := Seg.hid (LAt.below keepsVlu Wr0_21.out D22.out (fun g hg => by have := hg.2; omega))
      clear Wr0_21
      have G0_22 := Seg.hid (Ow.LOwn.belowO Ow.keepsOVlu G0_21.out D22.out (fun g hg => by have := hg.2; omega))
      clear G0_21
      rw [HM0.out]
      clear b22
      go_wp2
      go_ret
      exact ⟨rfl, B22.out⟩
end Go.Proofs.Ytdhicmbfknagjaa.ExRv
