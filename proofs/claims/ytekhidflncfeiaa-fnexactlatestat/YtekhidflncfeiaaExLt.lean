/- The walk of the law on LatestAt out of the contracts. -/
import Derived.Test.YtekhidflncfeiaaTbS
import Derived.Test.YtekhidflncfeiaaTbI
import Derived.Test.YtekhidflncfeiaaOArr
import Derived.Test.YtekhidflncfeiaaHArr
import Derived.Test.YtekhidflncfeiaaUArr
import Derived.Test.YtekhidflncfeiaaLsO
import Derived.Test.YtekhidflncfeiaaMkNh
namespace Go.Proofs.Ytekhidflncfeiaa.ExLt
set_option maxRecDepth 8000
open Go.RowKit
open Ls Lp TbP RkP
open Recs (hsz below1 below2 chain chainD)
set_option linter.unusedVariables false
theorem few_ints (ns : List Int) (h : ns.length ≤ 1048576) : tot Ow.nI ns ≤ 1000000000 := by rw [Ow.nI_tot]; omega
theorem few_arr (us : List Arr) (h : szL szArr us ≤ 1048576) : tot Ow.nArr us ≤ 1000000000 := by
  have : ∀ us : List Arr, tot Ow.nArr us ≤ 4 * (us.length + tot szArr us) := fun us => by
    induction us with
    | nil => simp [tot]
    | cons t r ih =>
      have := Ow.nI_tot t.row
      simp only [tot, Ow.nArr, szArr, List.length_cons] at *
      omega
  have := this us
  unfold szL at h
  omega
theorem lat_len (us : List Arr) (key time : Int) (h : szL szArr us ≤ 1048576) : (latest us key time).length ≤ 1048576 := by
  unfold latest
  split
  · by_cases hp : (latP us key time).toNat < us.length
    · exact sz_row h hp
    · rename_i hq
      have e : ari us (latP us key time) = default := by unfold ari; rw [List.getD_eq_getElem?_getD, List.getElem?_eq_none (by omega)]; rfl
      rw [e]; simp [show (default : Arr).row = [] from rfl]
  · simp
theorem lat_spec (x : Value) (us : List Arr) (key time : Int) (wx : World) (h : LAt 3 EArr wx (fun g => g < wx.heap.size) x us) (hf : szL szArr us ≤ 1048576) :
    Calls Try.prog 16 #[x, .int .i64 key, .int .i64 time] wx fun e w' => ∃ r, e = .returned (.tuple #[r, .bool (latOk us key time)]) ∧ Ow.IntsOwn w' (seg wx.heap.size w'.heap.size) r (latest us key time) ∧ Below wx.heap.size wx w' :=
  (TbS.spec_any x us key time wx _ h (fun g hg => hg) hf).mono fun e w' ⟨r, h1, h2, h3⟩ => ⟨r, h1, IrA.own h2 (lat_len us key time hf), h3⟩
theorem lat_impl (x : Value) (us : List Arr) (key time : Int) (wx : World) (h : LAt 3 EArr wx (fun g => g < wx.heap.size) x us) (hf : szL szArr us ≤ 1048576) :
    Calls Try.prog 18 #[x, .int .i64 key, .int .i64 time] wx fun e w' => ∃ r, e = .returned (.tuple #[r, .bool (latOk us key time)]) ∧ Ow.IntsOwn w' (seg wx.heap.size w'.heap.size) r (latest us key time) ∧ Below wx.heap.size wx w' :=
  (TbI.impl_any x us key time wx _ h (fun g hg => hg) hf).mono fun e w' ⟨r, h1, h2, h3⟩ => ⟨r, h1, IrA.own h2 (lat_len us key time hf), h3⟩
set_option maxHeartbeats 12800000 in
theorem walk (v0 : Value) (u0 : List Arr) (a1 : Int) (a2 : Int) (w : World) (hv0 : LAt 3 EArr w (All w) v0 u0) (hf0 : FineL FineArr u0) :
    Calls Try.prog 4 #[v0, .int .i64 a1, .int .i64 a2] w fun e w' => e = .returned (.bool true) ∧ Below w.heap.size w w' := by
  have HV0 := Seg.hid hv0
  obtain ⟨A0, c0, rfl⟩ := hv0.form
  have HF0 := Seg.hid hf0
  clear hf0 hv0
  go_enter Try.func4, Try.ntmps4
  go_wp2_with fail
  refine (szArrivalS_any _ u0 _ w (All w) (by omega) (by omega) HV0.out (fun g hg => hg) HF0.out).mono ?_
  rintro e w1 ⟨q0, rfl, qa0, qb0, qc0, b1⟩
  have s1 := b1.size
  have B1 := Seg.hid b1
  clear b1
  by_cases hq0 : q0 < 0
  · go_wp2
    go_ret
    exact ⟨rfl, B1.out⟩
  have FW0 : Hid (szL szArr u0 ≤ 1048576) := by show _ ≤ _; have := qc0.1 (by omega); omega
  clear qc0
  go_wp2_with fail
  obtain ⟨R0, hR0⟩ : ∃ R, latest u0 a1 a2 = R := ⟨_, rfl⟩
  obtain ⟨R1, hR1⟩ : ∃ R, latOk u0 a1 a2 = R := ⟨_, rfl⟩
  have CS : Hid (∀ (wx : World) (x0 : Value), LAt 3 EArr wx (fun g => g < wx.heap.size) x0 u0 → Calls Try.prog 16 #[x0, .int .i64 a1, .int .i64 a2] wx fun e w' => ∃ r0, e = .returned (.tuple #[r0, .bool R1]) ∧ Ow.IntsOwn w' (seg wx.heap.size w'.heap.size) r0 R0 ∧ Below wx.heap.size wx w') := by
    intro wx x0 h0
    have hh := lat_spec x0 u0 a1 a2 wx h0 FW0.out
    rw [hR0, hR1] at hh
    exact hh
  have CI : Hid (∀ (wx : World) (x0 : Value), LAt 3 EArr wx (fun g => g < wx.heap.size) x0 u0 → Calls Try.prog 18 #[x0, .int .i64 a1, .int .i64 a2] wx fun e w' => ∃ r0, e = .returned (.tuple #[r0, .bool R1]) ∧ Ow.IntsOwn w' (seg wx.heap.size w'.heap.size) r0 R0 ∧ Below wx.heap.size wx w') := by
    intro wx x0 h0
    have hh := lat_impl x0 u0 a1 a2 wx h0 FW0.out
    rw [hR0, hR1] at hh
    exact hh
  have MA0 : Hid (tot Ow.nArr u0 ≤ 1000000000) := few_arr u0 FW0.out
  have MR0 : Hid (tot Ow.nI R0 ≤ 1000000000) := by
    show _ ≤ _
    rw [← hR0]
    exact few_ints _ (lat_len u0 a1 a2 FW0.out)
  clear hR0 hR1
  refine (toArrivalS_any _ u0 w1 (All w) (HV0.out.below keepsArr B1.out (fun g hg => hg)) (fun g hg => Nat.lt_of_lt_of_le hg B1.out.size) FW0.out).mono ?_
  rintro e w2 ⟨y2, rfl, h2, b2⟩
  have s2 := b2.size
  have B2 := Seg.hid (chain B1.out b2)
  clear B1
  obtain ⟨A2, c2, rfl⟩ := h2.form
  have T0_2 := Seg.hid h2
  clear b2 h2
  go_wp2_with fail
  refine (CS.out w2 _ (LAt.mono growsArr T0_2.out (fun g hg => by have := hg.2; show g < w2.heap.size; omega))).mono ?_
  rintro e w3 ⟨r3_0, rfl, h3_0, b3⟩
  have s3 := b3.size
  have B3 := Seg.hid (chain B2.out b3)
  have T0_3 := Seg.hid (LAt.below keepsArr T0_2.out b3 (fun g hg => by have := hg.2; omega))
  clear T0_2
  clear B2
  obtain ⟨A3_0, c3_0, rfl⟩ := Ow.LOwn.form h3_0
  have Wr0_3 := Seg.hid (Ow.LOwn.lat growsI (fun _ _ _ _ h => h) h3_0)
  clear b3 h3_0
  go_wp2_with fail
  clear T0_3
  refine (Ow.toArrivalS_own _ u0 w3 (All w) (HV0.out.below keepsArr B3.out (fun g hg => hg)) (fun g hg => Nat.lt_of_lt_of_le hg B3.out.size) FW0.out).mono ?_
  rintro e w4 ⟨y4, rfl, h4, b4⟩
  have s4 := b4.size
  have B4 := Seg.hid (chain B3.out b4)
  have Wr0_4 := Seg.hid (LAt.below keepsI Wr0_3.out b4 (fun g hg => by have := hg.2; omega))
  clear Wr0_3
  clear B3
  obtain ⟨A4, c4, rfl⟩ := Ow.LOwn.form h4
  have X0_4 := Seg.hid h4
  clear b4 h4
  go_wp2_with fail
  refine (CI.out w4 _ (LAt.mono growsArr (Ow.LOwn.lat growsArr Ow.atOArr X0_4.out) (fun g hg => by have := hg.2; show g < w4.heap.size; omega))).mono ?_
  rintro e w5 ⟨r5_0, rfl, h5_0, b5⟩
  have s5 := b5.size
  have B5 := Seg.hid (chain B4.out b5)
  have Wr0_5 := Seg.hid (LAt.below keepsI Wr0_4.out b5 (fun g hg => by have := hg.2; omega))
  clear Wr0_4
  have X0_5 := Seg.hid (Ow.LOwn.belowO Ow.keepsOArr X0_4.out b5 (fun g hg => by have := hg.2; omega))
  clear X0_4
  clear B4
  obtain ⟨A5_0, c5_0, rfl⟩ := Ow.LOwn.form h5_0
  have G0_5 := Seg.hid h5_0
  clear b5 h5_0
  go_wp2_with fail
  refine (eqIntS_any _ _ R0 w5 _ _ (Ow.LOwn.lat growsI (fun _ _ _ _ h => h) G0_5.out) Wr0_5.out (fun g hg => by have := hg.2; omega) (fun g hg => by have := hg.2; omega)).mono ?_
  rintro e w6 ⟨rfl, b6⟩
  have s6 := b6.size
  have B6 := Seg.hid (chain B5.out b6)
  have Wr0_6 := Seg.hid (LAt.below keepsI Wr0_5.out b6 (fun g hg => by have := hg.2; omega))
  clear Wr0_5
  have X0_6 := Seg.hid (Ow.LOwn.belowO Ow.keepsOArr X0_5.out b6 (fun g hg => by have := hg.2; omega))
  clear X0_5
  have G0_6 := Seg.hid (Ow.LOwn.belowO Ow.keepsOI G0_5.out b6 (fun g hg => by have := hg.2; omega))
  clear G0_5
  clear B5
  clear b6
  go_wp2_with fail
  refine (toArrivalS_any _ u0 w6 (All w) (HV0.out.below keepsArr B6.out (fun g hg => hg)) (fun g hg => Nat.lt_of_lt_of_le hg B6.out.size) FW0.out).mono ?_
  rintro e w7 ⟨y7, rfl, h7, b7⟩
  have s7 := b7.size
  have B7 := Seg.hid (chain B6.out b7)
  have Wr0_7 := Seg.hid (LAt.below keepsI Wr0_6.out b7 (fun g hg => by have := hg.2; omega))
  clear Wr0_6
  have X0_7 := Seg.hid (Ow.LOwn.belowO Ow.keepsOArr X0_6.out b7 (fun g hg => by have := hg.2; omega))
  clear X0_6
  have G0_7 := Seg.hid (Ow.LOwn.belowO Ow.keepsOI G0_6.out b7 (fun g hg => by have := hg.2; omega))
  clear G0_6
  clear B6
  obtain ⟨A7, c7, rfl⟩ := h7.form
  have Z0_7 := Seg.hid h7
  clear b7 h7
  go_wp2_with fail
  refine (eqArrivalS_any _ _ u0 w7 _ _ (Ow.LOwn.lat growsArr Ow.atOArr X0_7.out) Z0_7.out (fun g hg => by have := hg.2; omega) (fun g hg => by have := hg.2; omega)).mono ?_
  rintro e w8 ⟨rfl, b8⟩
  have s8 := b8.size
  have B8 := Seg.hid (chain B7.out b8)
  have Wr0_8 := Seg.hid (LAt.below keepsI Wr0_7.out b8 (fun g hg => by have := hg.2; omega))
  clear Wr0_7
  have X0_8 := Seg.hid (Ow.LOwn.belowO Ow.keepsOArr X0_7.out b8 (fun g hg => by have := hg.2; omega))
  clear X0_7
  have G0_8 := Seg.hid (Ow.LOwn.belowO Ow.keepsOI G0_7.out b8 (fun g hg => by have := hg.2; omega))
  clear G0_7
  have Z0_8 := Seg.hid (LAt.below keepsArr Z0_7.out b8 (fun g hg => by have := hg.2; omega))
  clear Z0_7
  clear B7
  clear b8
  clear Z0_8
  go_wp2_with fail
  refine (Ow.markArrivalS_own _ 1 rfl (seg w3.heap.size w4.heap.size) u0 w8 (by decide) (by have := MA0.out; omega) X0_8.out).mono ?_
  rintro e w9 ⟨rfl, hm9, ft9⟩
  have s9 := ft9.size
  have B9 := Seg.hid (B8.out.trans (ft9.toBelow (lo := w.heap.size) (fun y hy => by have := hy.1; omega) (by omega)))
  have Wr0_9 := Seg.hid (LAt.keep keepsI Wr0_8.out (fun g hg => ft9.block g (by have := hg.2; omega) (fun hy => by have := hy.1; have := hy.2; have := hg.1; have := hg.2; omega)))
  clear Wr0_8
  have G0_9 := Seg.hid (Ow.LOwn.footO Ow.keepsOI G0_8.out ft9 (fun g hg => by have := hg.2; omega) (fun g hg hy => by have := hy.1; have := hy.2; have := hg.1; have := hg.2; omega))
  clear G0_8
  have X0_9 := Seg.hid hm9
  clear X0_8 hm9 ft9 B8
  obtain ⟨K0, hK0⟩ : ∃ K, 1 + tot Ow.nArr u0 = K := ⟨_, rfl⟩
  rw [hK0]
  have kb0 : 0 < K0 ∧ K0 ≤ 1000000001 := by have := MA0.out; omega
  clear hK0
  clear X0_9
  have hK0 : (0 : Int) ≤ (K0 : Int) := by omega
  have hkd : decide ((K0 : Int) < 0) = false := decide_eq_false (by omega)
  go_wp2_with fail
  refine (eqIntS_any _ _ R0 w9 _ _ (Ow.LOwn.lat growsI (fun _ _ _ _ h => h) G0_9.out) Wr0_9.out (fun g hg => by have := hg.2; omega) (fun g hg => by have := hg.2; omega)).mono ?_
  rintro e w10 ⟨rfl, b10⟩
  have s10 := b10.size
  have B10 := Seg.hid (chain B9.out b10)
  have Wr0_10 := Seg.hid (LAt.below keepsI Wr0_9.out b10 (fun g hg => by have := hg.2; omega))
  clear Wr0_9
  have G0_10 := Seg.hid (Ow.LOwn.belowO Ow.keepsOI G0_9.out b10 (fun g hg => by have := hg.2; omega))
  clear G0_9
  clear B9
  clear b10
  go_wp2_with fail
  refine (Ow.markIntS_own _ 1 rfl (seg w4.heap.size w5.heap.size) R0 w10 (by decide) (by have := MR0.out; omega) G0_10.out).mono ?_
  rintro e w11 ⟨rfl, hm11, ft11⟩
  have s11 := ft11.size
  have B11 := Seg.hid (B10.out.trans (ft11.toBelow (lo := w.heap.size) (fun y hy => by have := hy.1; omega) (by omega)))
  have Wr0_11 := Seg.hid (LAt.keep keepsI Wr0_10.out (fun g hg => ft11.block g (by have := hg.2; omega) (fun hy => by have := hy.1; have := hy.2; have := hg.1; have := hg.2; omega)))
  clear Wr0_10
  have G0_11 := Seg.hid hm11
  clear G0_10 hm11 ft11 B10
  obtain ⟨M0, hM0⟩ : ∃ M, 1 + tot Ow.nI R0 = M := ⟨_, rfl⟩
  have HM0 := Seg.hid hM0
  rw [hM0]
  have mb0 : 0 < M0 ∧ M0 ≤ 1000000001 := by have := MR0.out; omega
  clear hM0
  go_wp2_with fail
  refine (Ow.heldIntS_at _ 1 rfl (seg w4.heap.size w5.heap.size) R0 w11 (by have := MR0.out; omega) (Ow.LOwn.lat growsI (fun _ _ _ _ h => h) G0_11.out)).mono ?_
  rintro e w12 ⟨rfl, b12⟩
  have s12 := b12.size
  have B12 := Seg.hid (chain B11.out b12)
  have Wr0_12 := Seg.hid (LAt.below keepsI Wr0_11.out b12 (fun g hg => by have := hg.2; omega))
  clear Wr0_11
  have G0_12 := Seg.hid (Ow.LOwn.belowO Ow.keepsOI G0_11.out b12 (fun g hg => by have := hg.2; omega))
  clear G0_11
  clear B11
  rw [HM0.out]
  clear b12
  have hM0 : ¬ (M0 : Int) < 0 := by omega
  have hM1 : ((M0 : Int) != (M0 : Int)) = false := by simp
  go_wp2_with fail
  refine (toArrivalS_any _ u0 w12 (All w) (HV0.out.below keepsArr B12.out (fun g hg => hg)) (fun g hg => Nat.lt_of_lt_of_le hg B12.out.size) FW0.out).mono ?_
  rintro e w13 ⟨y13, rfl, h13, b13⟩
  have s13 := b13.size
  have B13 := Seg.hid (chain B12.out b13)
  have Wr0_13 := Seg.hid (LAt.below keepsI Wr0_12.out b13 (fun g hg => by have := hg.2; omega))
  clear Wr0_12
  have G0_13 := Seg.hid (Ow.LOwn.belowO Ow.keepsOI G0_12.out b13 (fun g hg => by have := hg.2; omega))
  clear G0_12
  clear B12
  obtain ⟨A13, c13, rfl⟩ := h13.form
  have Y0_13 := Seg.hid h13
  clear b13 h13
  go_wp2_with fail
  refine (CI.out w13 _ (LAt.mono growsArr Y0_13.out (fun g hg => by have := hg.2; show g < w13.heap.size; omega))).mono ?_
  rintro e w14 ⟨r14_0, rfl, h14_0, b14⟩
  have s14 := b14.size
  have B14 := Seg.hid (chain B13.out b14)
  have Wr0_14 := Seg.hid (LAt.below keepsI Wr0_13.out b14 (fun g hg => by have := hg.2; omega))
  clear Wr0_13
  have G0_14 := Seg.hid (Ow.LOwn.belowO Ow.keepsOI G0_13.out b14 (fun g hg => by have := hg.2; omega))
  clear G0_13
  have Y0_14 := Seg.hid (LAt.below keepsArr Y0_13.out b14 (fun g hg => by have := hg.2; omega))
  clear Y0_13
  clear B13
  obtain ⟨A14_0, c14_0, rfl⟩ := Ow.LOwn.form h14_0
  have H0_14 := Seg.hid h14_0
  clear b14 h14_0
  go_wp2_with fail
  clear Y0_14
  refine (eqIntS_any _ _ R0 w14 _ _ (Ow.LOwn.lat growsI (fun _ _ _ _ h => h) H0_14.out) Wr0_14.out (fun g hg => by have := hg.2; omega) (fun g hg => by have := hg.2; omega)).mono ?_
  rintro e w15 ⟨rfl, b15⟩
  have s15 := b15.size
  have B15 := Seg.hid (chain B14.out b15)
  have Wr0_15 := Seg.hid (LAt.below keepsI Wr0_14.out b15 (fun g hg => by have := hg.2; omega))
  clear Wr0_14
  have G0_15 := Seg.hid (Ow.LOwn.belowO Ow.keepsOI G0_14.out b15 (fun g hg => by have := hg.2; omega))
  clear G0_14
  have H0_15 := Seg.hid (Ow.LOwn.belowO Ow.keepsOI H0_14.out b15 (fun g hg => by have := hg.2; omega))
  clear H0_14
  clear B14
  clear b15
  go_wp2_with fail
  clear H0_15
  refine (Ow.heldIntS_at _ 1 rfl (seg w4.heap.size w5.heap.size) R0 w15 (by have := MR0.out; omega) (Ow.LOwn.lat growsI (fun _ _ _ _ h => h) G0_15.out)).mono ?_
  rintro e w16 ⟨rfl, b16⟩
  have s16 := b16.size
  have B16 := Seg.hid (chain B15.out b16)
  have Wr0_16 := Seg.hid (LAt.below keepsI Wr0_15.out b16 (fun g hg => by have := hg.2; omega))
  clear Wr0_15
  have G0_16 := Seg.hid (Ow.LOwn.belowO Ow.keepsOI G0_15.out b16 (fun g hg => by have := hg.2; omega))
  clear G0_15
  clear B15
  rw [HM0.out]
  clear b16
  go_wp2_with fail
  go_ret
  exact ⟨rfl, B16.out⟩
end Go.Proofs.Ytekhidflncfeiaa.ExLt
