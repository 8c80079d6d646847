/- The walk of the law on Outside out of the contracts. -/
import Derived.Deep.RegionHeld3
import Derived.Deep.RegionLaw
import Derived.Test.YtboooabjeidmfaaJO43
import Derived.Test.YtboooabjeidmfaaJO47
import Derived.Test.YtboooabjeidmfaaJO48
import Derived.Test.YtboooabjeidmfaaJO44
import Derived.Test.YtboooabjeidmfaaJO42
import Derived.Test.YtboooabjeidmfaaJO49
import Derived.Test.YtboooabjeidmfaaJO13
namespace Go.Proofs.Ytboooabjeidmfaa.ExOu
set_option maxRecDepth 8000
open Go.RowKit
open Ls Lp
open QsP XqP YvP OuP
open Recs (hsz below1 below2 below3 chain chainD)
set_option linter.unusedVariables false
theorem cells0 {w : World} {g ty : Nat} {za zb zc zd ze zf zg zh zi zj zk : Value} (h : w.heap[g]? = some (.cells #[za, zb, zc, zd, ze, zf, zg, zh, zi, zj, zk] ty (0, 0))) : w.cell? ⟨g, 0, none⟩ = some za ∧ w.cell? ⟨g, 1, none⟩ = some zb ∧ w.cell? ⟨g, 2, none⟩ = some zc ∧ w.cell? ⟨g, 3, none⟩ = some zd ∧ w.cell? ⟨g, 4, none⟩ = some ze ∧ w.cell? ⟨g, 5, none⟩ = some zf ∧ w.cell? ⟨g, 6, none⟩ = some zg ∧ w.cell? ⟨g, 7, none⟩ = some zh ∧ w.cell? ⟨g, 8, none⟩ = some zi ∧ w.cell? ⟨g, 9, none⟩ = some zj ∧ w.cell? ⟨g, 10, none⟩ = some zk :=
  ⟨cell_of_row w g 0 _ _ (0, 0) h, cell_of_row w g 1 _ _ (0, 0) h, cell_of_row w g 2 _ _ (0, 0) h, cell_of_row w g 3 _ _ (0, 0) h, cell_of_row w g 4 _ _ (0, 0) h, cell_of_row w g 5 _ _ (0, 0) h, cell_of_row w g 6 _ _ (0, 0) h, cell_of_row w g 7 _ _ (0, 0) h, cell_of_row w g 8 _ _ (0, 0) h, cell_of_row w g 9 _ _ (0, 0) h, cell_of_row w g 10 _ _ (0, 0) h⟩
set_option maxHeartbeats 25600000 in
theorem walk (v0 : Value) (u0 : Qry) (v1 : Value) (u1 : List Src) (w : World) (hv0 : QryAt w (All w) v0 u0) (hf0 : FineQry u0) (hv1 : LAt 3 ESrc w (All w) v1 u1) (hf1 : FineL FineSrc u1) :
    Calls Try.prog 7 #[v0, v1] w fun e w' => e = .returned (.bool true) ∧ Below w.heap.size w w' := by
  have HV0 := Seg.hid hv0
  obtain ⟨A0_5, a0_q5, A0_6, a0_q6, A0_10, a0_q10, rfl⟩ := FQry.form hv0
  have HF0 := Seg.hid hf0
  have HV1 := Seg.hid hv1
  obtain ⟨A1, c1, rfl⟩ := hv1.form
  have HF1 := Seg.hid hf1
  clear hv0 hf0 hv1 hf1
  go_enter Try.func7, Try.ntmps7
  go_wp2_with fail
  refine (szQuery_any _ u0 _ (w.alloc _) (All w) (by omega) (by omega) ((HV0.out).below (below1 w _) (fun g hg => hg)) (fun g hg => Nat.lt_of_lt_of_le hg (below1 w _).size) HF0.out).mono ?_
  rintro e w1 ⟨q0, rfl, qa0, qb0, qc0, b1⟩
  have B1 := Seg.hid (chain (below1 w _) b1)
  have s1 : w.heap.size ≤ w1.heap.size := B1.out.size
  have P0_1 : Hid (w1.heap[w.heap.size]? = some (.cells #[.string u0.fr, .string u0.jn, .int .i64 u0.wn, .string u0.on, .string u0.lk, .slice A0_5 u0.wh.length a0_q5, .slice A0_6 u0.gps.length a0_q6, .int .i64 u0.win, .int .i64 u0.size, .int .i64 u0.every, .slice A0_10 u0.gets.length a0_q10] 33 (0, 0))) := (b1.block (w.heap.size) (by rw [hsz]; omega)).trans (heap_alloc_new _ _)
  have sp0 : w.heap.size < w1.heap.size := (Array.getElem?_eq_some_iff.1 P0_1.out).1
  clear b1
  by_cases hq0 : q0 < 0
  · go_wp2
    go_ret
    exact ⟨rfl, B1.out⟩
  have FW0 : Hid (szQry u0 ≤ 1048576) := by show _ ≤ _; have := qc0.1 (by omega); omega
  clear qc0
  go_wp2_with fail
  refine (szSourceS_any _ u1 _ w1 (All w) (by omega) (by omega) (LAt.below keepsSrc (HV1.out) B1.out (fun g hg => hg)) (fun g hg => Nat.lt_of_lt_of_le hg B1.out.size) HF1.out).mono ?_
  rintro e w2 ⟨q1, rfl, qa1, qb1, qc1, b2⟩
  have D2 := Seg.hid b2
  have B2 := Seg.hid (chain B1.out D2.out)
  have s2 : w1.heap.size ≤ w2.heap.size := D2.out.size
  have P0_2 := Seg.hid ((D2.out.block (w.heap.size) (Array.getElem?_eq_some_iff.1 P0_1.out).1).trans P0_1.out)
  clear P0_1
  clear b2
  by_cases hq1 : q1 < 0
  · go_wp2
    go_ret
    exact ⟨rfl, B2.out⟩
  have FW1 : Hid (szL szSrc u1 ≤ 1048576) := by show _ ≤ _; have := qc1.1 (by omega); omega
  clear qc1
  obtain ⟨R0, hR0⟩ : ∃ R, outside u0 u1 = R := ⟨_, rfl⟩
  have CS : Hid (∀ (wx : World) (x0 : Value) (x1 : Value), QryAt wx (fun g => g < wx.heap.size) x0 u0 → LAt 3 ESrc wx (fun g => g < wx.heap.size) x1 u1 → Calls Try.prog 34 #[x0, x1] wx fun e w' => ∃ r0, e = .returned (r0) ∧ Ow.StrsOwn w' (seg wx.heap.size w'.heap.size) r0 R0 ∧ Below wx.heap.size wx w') := by
    intro wx x0 x1 h0 h1
    have hh := OuO.spec_own x0 x1 u0 u1 wx _ h0 h1 (fun g hg => hg) FW0.out FW1.out
    rw [hR0] at hh
    exact hh
  have CI : Hid (∀ (wx : World) (x0 : Value) (x1 : Value), QryAt wx (fun g => g < wx.heap.size) x0 u0 → LAt 3 ESrc wx (fun g => g < wx.heap.size) x1 u1 → Calls Try.prog 35 #[x0, x1] wx fun e w' => ∃ r0, e = .returned (r0) ∧ Ow.StrsOwn w' (seg wx.heap.size w'.heap.size) r0 R0 ∧ Below wx.heap.size wx w') := by
    intro wx x0 x1 h0 h1
    have hh := OuO.impl_own x0 x1 u0 u1 wx _ h0 h1 (fun g hg => hg) FW0.out FW1.out
    rw [hR0] at hh
    exact hh
  have MA0 : Hid (Ow.nQry u0 ≤ 1000000000) := FwQ.qry u0 FW0.out
  have MA1 : Hid (tot Ow.nSrc u1 ≤ 1000000000) := FwQ.srcs u1 FW1.out
  have MR0 : Hid (tot Ow.nX R0 ≤ 1000000000) := by
    show _ ≤ _
    rw [← hR0]
    exact OuO.few_strs u0 u1
  clear hR0
  go_wp2_with (refine wpList_load_row rfl 33 _ rfl (w.heap.size) rfl _ _ _ _ P0_2.out Try.underlying33 rfl infoLQry ?_)
  refine (toQuery_any _ u0 w2 (All w) ((HV0.out).below B2.out (fun g hg => hg)) (fun g hg => Nat.lt_of_lt_of_le hg B2.out.size) FW0.out).mono ?_
  rintro e w3 ⟨y3, rfl, h3, b3⟩
  have D3 := Seg.hid b3
  have B3 := Seg.hid (chain B2.out D3.out)
  have s3 : w2.heap.size ≤ w3.heap.size := D3.out.size
  have P0_3 := Seg.hid ((D3.out.block (w.heap.size) (Array.getElem?_eq_some_iff.1 P0_2.out).1).trans P0_2.out)
  clear P0_2
  have T0_3 := Seg.hid h3
  obtain ⟨T3_5, t3_q5, T3_6, t3_q6, T3_10, t3_q10, e3⟩ := FQry.form h3
  subst e3
  clear b3 h3
  go_wp2_with fail
  refine (toSourceS_any _ u1 w3 (All w) (LAt.below keepsSrc (HV1.out) B3.out (fun g hg => hg)) (fun g hg => Nat.lt_of_lt_of_le hg B3.out.size) FW1.out).mono ?_
  rintro e w4 ⟨y4, rfl, h4, b4⟩
  have D4 := Seg.hid b4
  have B4 := Seg.hid (chain B3.out D4.out)
  have s4 : w3.heap.size ≤ w4.heap.size := D4.out.size
  have P0_4 := Seg.hid ((D4.out.block (w.heap.size) (Array.getElem?_eq_some_iff.1 P0_3.out).1).trans P0_3.out)
  clear P0_3
  have T0_4 := Seg.hid (T0_3.out.below D4.out (fun g hg => by have := hg.2; omega))
  clear T0_3
  have T1_4 := Seg.hid h4
  obtain ⟨A4, c4, e4⟩ := h4.form
  subst e4
  clear b4 h4
  go_wp2_with fail
  refine (CS.out w4 _ _ ((T0_4.out).mono (fun g hg => by have := hg.2; omega)) (LAt.mono growsSrc (T1_4.out) (fun g hg => by have := hg.2; omega))).mono ?_
  rintro e w5 ⟨r5_0, rfl, h5_0, b5⟩
  have D5 := Seg.hid b5
  have B5 := Seg.hid (chain B4.out D5.out)
  have s5 : w4.heap.size ≤ w5.heap.size := D5.out.size
  have P0_5 := Seg.hid ((D5.out.block (w.heap.size) (Array.getElem?_eq_some_iff.1 P0_4.out).1).trans P0_4.out)
  clear P0_4
  have T0_5 := Seg.hid (T0_4.out.below D5.out (fun g hg => by have := hg.2; omega))
  clear T0_4
  have T1_5 := Seg.hid (LAt.below keepsSrc T1_4.out D5.out (fun g hg => by have := hg.2; omega))
  clear T1_4
  clear T0_5
  clear T1_5
  obtain ⟨A5_0, c5_0, rfl⟩ := Ow.LOwn.form h5_0
  have Wr0_5 := Seg.hid (Ow.LOwn.lat growsStr (fun _ _ _ _ h => h) h5_0)
  clear b5 h5_0
  go_wp2_with (refine wpList_load_row rfl 33 _ rfl (w.heap.size) rfl _ _ _ _ P0_5.out Try.underlying33 rfl infoLQry ?_)
  refine (Ow.toQuery_own _ u0 w5 (All w) ((HV0.out).below B5.out (fun g hg => hg)) (fun g hg => Nat.lt_of_lt_of_le hg (B5.out).size) FW0.out).mono ?_
  rintro e w6 ⟨vx0, rfl, rx0, b6⟩
  have D6 := Seg.hid b6
  have B6 := Seg.hid (chain B5.out D6.out)
  have s6 : w5.heap.size ≤ w6.heap.size := D6.out.size
  have P0_6 := Seg.hid ((D6.out.block (w.heap.size) (Array.getElem?_eq_some_iff.1 P0_5.out).1).trans P0_5.out)
  clear P0_5
  have Wr0_6 := Seg.hid (LAt.below keepsStr Wr0_5.out D6.out (fun g hg => by have := hg.2; omega))
  clear Wr0_5
  obtain ⟨D0_5, d0_q5, D0_6, d0_q6, D0_10, d0_q10, hvx0⟩ := FQry.form (Ow.QryOwn.at rx0)
  subst hvx0
  have RX0_6 := Seg.hid rx0
  clear rx0 b6
  go_wp2_with fail
  refine (Ow.toSourceS_own _ u1 (w6.alloc _) (All w) (LAt.below keepsSrc (HV1.out) (chain B6.out (below1 w6 _)) (fun g hg => hg)) (fun g hg => Nat.lt_of_lt_of_le hg ((chain B6.out (below1 w6 _))).size) FW1.out).mono ?_
  rintro e w7 ⟨vx1, rfl, rx1, b7⟩
  have D7 := Seg.hid (chain (below1 w6 _) b7)
  have B7 := Seg.hid (chain B6.out D7.out)
  have s7 : w6.heap.size ≤ w7.heap.size := D7.out.size
  have P0_7 := Seg.hid ((D7.out.block (w.heap.size) (Array.getElem?_eq_some_iff.1 P0_6.out).1).trans P0_6.out)
  clear P0_6
  have Wr0_7 := Seg.hid (LAt.below keepsStr Wr0_6.out D7.out (fun g hg => by have := hg.2; omega))
  clear Wr0_6
  have RX0_7 := Seg.hid (Ow.QryOwn.keep RX0_6.out D7.out.size (fun g hg => D7.out.block g (by have := hg.2; omega)))
  clear RX0_6
  have X0_7 : Hid (w7.heap[w6.heap.size]? = some (.cells #[.string u0.fr, .string u0.jn, .int .i64 u0.wn, .string u0.on, .string u0.lk, .slice D0_5 u0.wh.length d0_q5, .slice D0_6 u0.gps.length d0_q6, .int .i64 u0.win, .int .i64 u0.size, .int .i64 u0.every, .slice D0_10 u0.gets.length d0_q10] 39 (0, 0))) := (b7.block w6.heap.size (by rw [hsz]; omega)).trans (heap_alloc_new _ _)
  have s7p : w6.heap.size + 1 ≤ w7.heap.size := by have := b7.size; rw [hsz] at this; exact this
  rw [hsz] at rx1
  obtain ⟨D1, d1q, hvx1⟩ := Ow.LOwn.form rx1
  subst hvx1
  have RX1_7 := Seg.hid rx1
  clear rx1 b7
  go_wp2_with (refine wpList_load_row rfl 39 _ rfl (w6.heap.size) rfl _ _ _ _ X0_7.out Try.underlying39 rfl infoQry ?_)
  refine (CI.out w7 _ _ (((Ow.QryOwn.at RX0_7.out)).mono (fun g hg => by have := hg.2; omega)) (LAt.mono growsSrc ((Ow.LOwn.lat growsSrc Ow.atOSrc RX1_7.out)) (fun g hg => by have := hg.2; omega))).mono ?_
  rintro e w8 ⟨r8_0, rfl, h8_0, b8⟩
  have D8 := Seg.hid b8
  have B8 := Seg.hid (chain B7.out D8.out)
  have s8 : w7.heap.size ≤ w8.heap.size := D8.out.size
  have P0_8 := Seg.hid ((D8.out.block (w.heap.size) (Array.getElem?_eq_some_iff.1 P0_7.out).1).trans P0_7.out)
  clear P0_7
  have Wr0_8 := Seg.hid (LAt.below keepsStr Wr0_7.out D8.out (fun g hg => by have := hg.2; omega))
  clear Wr0_7
  have RX0_8 := Seg.hid (Ow.QryOwn.keep RX0_7.out D8.out.size (fun g hg => D8.out.block g (by have := hg.2; omega)))
  clear RX0_7
  have X0_8 := Seg.hid ((D8.out.block (w6.heap.size) (Array.getElem?_eq_some_iff.1 X0_7.out).1).trans X0_7.out)
  clear X0_7
  have RX1_8 := Seg.hid (Ow.LOwn.belowO Ow.keepsOSrc RX1_7.out D8.out (fun g hg => by have := hg.2; omega))
  clear RX1_7
  obtain ⟨A8_0, c8_0, rfl⟩ := Ow.LOwn.form h8_0
  have G0_8 := Seg.hid h8_0
  clear b8 h8_0
  go_wp2_with fail
  refine (eqStringS_any _ _ R0 w8 _ _ (Ow.LOwn.lat growsStr (fun _ _ _ _ h => h) G0_8.out) Wr0_8.out (fun g hg => by have := hg.2; omega) (fun g hg => by have := hg.2; omega)).mono ?_
  rintro e w9 ⟨rfl, b9⟩
  have D9 := Seg.hid b9
  have B9 := Seg.hid (chain B8.out D9.out)
  have s9 : w8.heap.size ≤ w9.heap.size := D9.out.size
  have P0_9 := Seg.hid ((D9.out.block (w.heap.size) (Array.getElem?_eq_some_iff.1 P0_8.out).1).trans P0_8.out)
  clear P0_8
  have Wr0_9 := Seg.hid (LAt.below keepsStr Wr0_8.out D9.out (fun g hg => by have := hg.2; omega))
  clear Wr0_8
  have RX0_9 := Seg.hid (Ow.QryOwn.keep RX0_8.out D9.out.size (fun g hg => D9.out.block g (by have := hg.2; omega)))
  clear RX0_8
  have X0_9 := Seg.hid ((D9.out.block (w6.heap.size) (Array.getElem?_eq_some_iff.1 X0_8.out).1).trans X0_8.out)
  clear X0_8
  have RX1_9 := Seg.hid (Ow.LOwn.belowO Ow.keepsOSrc RX1_8.out D9.out (fun g hg => by have := hg.2; omega))
  clear RX1_8
  have G0_9 := Seg.hid (Ow.LOwn.belowO Ow.keepsOStr G0_8.out D9.out (fun g hg => by have := hg.2; omega))
  clear G0_8
  clear b9
  go_wp2_with fail
  obtain ⟨x0_0, x0_1, x0_2, x0_3, x0_4, x0_5, x0_6, x0_7, x0_8, x0_9, x0_10⟩ := cells0 X0_9.out
  obtain ⟨y0_0, y0_1, y0_2, y0_3, y0_4, y0_5, y0_6, y0_7, y0_8, y0_9, y0_10⟩ := cells0 P0_9.out
  have hx0 : w6.heap.size < w9.heap.size := (Array.getElem?_eq_some_iff.1 X0_9.out).1
  have hy0 : w.heap.size < w9.heap.size := (Array.getElem?_eq_some_iff.1 P0_9.out).1
  go_region_held3 (fun w' => w'.cell? ⟨w6.heap.size, 0, none⟩ = some (.string u0.fr) ∧ w'.cell? ⟨w6.heap.size, 1, none⟩ = some (.string u0.jn) ∧ w'.cell? ⟨w6.heap.size, 2, none⟩ = some (.int .i64 u0.wn) ∧ w'.cell? ⟨w6.heap.size, 3, none⟩ = some (.string u0.on) ∧ w'.cell? ⟨w6.heap.size, 4, none⟩ = some (.string u0.lk) ∧ w'.cell? ⟨w6.heap.size, 5, none⟩ = some (.slice D0_5 u0.wh.length d0_q5) ∧ w'.cell? ⟨w6.heap.size, 6, none⟩ = some (.slice D0_6 u0.gps.length d0_q6) ∧ w'.cell? ⟨w6.heap.size, 7, none⟩ = some (.int .i64 u0.win) ∧ w'.cell? ⟨w6.heap.size, 8, none⟩ = some (.int .i64 u0.size) ∧ w'.cell? ⟨w6.heap.size, 9, none⟩ = some (.int .i64 u0.every) ∧ w'.cell? ⟨w6.heap.size, 10, none⟩ = some (.slice D0_10 u0.gets.length d0_q10) ∧ w'.cell? ⟨w.heap.size, 0, none⟩ = some (.string u0.fr) ∧ w'.cell? ⟨w.heap.size, 1, none⟩ = some (.string u0.jn) ∧ w'.cell? ⟨w.heap.size, 2, none⟩ = some (.int .i64 u0.wn) ∧ w'.cell? ⟨w.heap.size, 3, none⟩ = some (.string u0.on) ∧ w'.cell? ⟨w.heap.size, 4, none⟩ = some (.string u0.lk) ∧ w'.cell? ⟨w.heap.size, 5, none⟩ = some (.slice A0_5 u0.wh.length a0_q5) ∧ w'.cell? ⟨w.heap.size, 6, none⟩ = some (.slice A0_6 u0.gps.length a0_q6) ∧ w'.cell? ⟨w.heap.size, 7, none⟩ = some (.int .i64 u0.win) ∧ w'.cell? ⟨w.heap.size, 8, none⟩ = some (.int .i64 u0.size) ∧ w'.cell? ⟨w.heap.size, 9, none⟩ = some (.int .i64 u0.every) ∧ w'.cell? ⟨w.heap.size, 10, none⟩ = some (.slice A0_10 u0.gets.length a0_q10)) (first | exact ⟨x0_0, x0_1, x0_2, x0_3, x0_4, x0_5, x0_6, x0_7, x0_8, x0_9, x0_10, y0_0, y0_1, y0_2, y0_3, y0_4, y0_5, y0_6, y0_7, y0_8, y0_9, y0_10⟩ | exact ⟨p0_0, p0_1, p0_2, p0_3, p0_4, p0_5, p0_6, p0_7, p0_8, p0_9, p0_10, o0_0, o0_1, o0_2, o0_3, o0_4, o0_5, o0_6, o0_7, o0_8, o0_9, o0_10⟩ | exact ⟨s0_0, s0_1, s0_2, s0_3, s0_4, s0_5, s0_6, s0_7, s0_8, s0_9, s0_10, t0_0, t0_1, t0_2, t0_3, t0_4, t0_5, t0_6, t0_7, t0_8, t0_9, t0_10⟩ | go_keep) (first | (go_at_call 15; refine (toQuery_any _ u0 w9.drew (All w) ((HV0.out).below B9.out.drew (fun g hg => hg)) (fun g hg => Nat.lt_of_lt_of_le hg B9.out.size) FW0.out).mono ?_; rintro e t10 ⟨vz0, rfl, rz0, b10⟩; have T10 : Hid (Below w9.heap.size w9 t10) := ⟨b10.os, b10.tape, b10.output, b10.size, b10.block⟩; have RZ0 : Hid (QryAt t10 (seg w9.heap.size t10.heap.size) vz0 u0) := rz0; have st10 : w9.heap.size ≤ t10.heap.size := T10.out.size; have RY0 := Seg.hid (((Ow.QryOwn.at RX0_9.out)).below T10.out (fun g hg => by have := hg.2; omega)); clear rz0 b10; have p0_0 := (T10.out.cell (p := ⟨w6.heap.size, 0, none⟩) hx0).trans x0_0; have p0_1 := (T10.out.cell (p := ⟨w6.heap.size, 1, none⟩) hx0).trans x0_1; have p0_2 := (T10.out.cell (p := ⟨w6.heap.size, 2, none⟩) hx0).trans x0_2; have p0_3 := (T10.out.cell (p := ⟨w6.heap.size, 3, none⟩) hx0).trans x0_3; have p0_4 := (T10.out.cell (p := ⟨w6.heap.size, 4, none⟩) hx0).trans x0_4; have p0_5 := (T10.out.cell (p := ⟨w6.heap.size, 5, none⟩) hx0).trans x0_5; have p0_6 := (T10.out.cell (p := ⟨w6.heap.size, 6, none⟩) hx0).trans x0_6; have p0_7 := (T10.out.cell (p := ⟨w6.heap.size, 7, none⟩) hx0).trans x0_7; have p0_8 := (T10.out.cell (p := ⟨w6.heap.size, 8, none⟩) hx0).trans x0_8; have p0_9 := (T10.out.cell (p := ⟨w6.heap.size, 9, none⟩) hx0).trans x0_9; have p0_10 := (T10.out.cell (p := ⟨w6.heap.size, 10, none⟩) hx0).trans x0_10; have o0_0 := (T10.out.cell (p := ⟨w.heap.size, 0, none⟩) hy0).trans y0_0; have o0_1 := (T10.out.cell (p := ⟨w.heap.size, 1, none⟩) hy0).trans y0_1; have o0_2 := (T10.out.cell (p := ⟨w.heap.size, 2, none⟩) hy0).trans y0_2; have o0_3 := (T10.out.cell (p := ⟨w.heap.size, 3, none⟩) hy0).trans y0_3; have o0_4 := (T10.out.cell (p := ⟨w.heap.size, 4, none⟩) hy0).trans y0_4; have o0_5 := (T10.out.cell (p := ⟨w.heap.size, 5, none⟩) hy0).trans y0_5; have o0_6 := (T10.out.cell (p := ⟨w.heap.size, 6, none⟩) hy0).trans y0_6; have o0_7 := (T10.out.cell (p := ⟨w.heap.size, 7, none⟩) hy0).trans y0_7; have o0_8 := (T10.out.cell (p := ⟨w.heap.size, 8, none⟩) hy0).trans y0_8; have o0_9 := (T10.out.cell (p := ⟨w.heap.size, 9, none⟩) hy0).trans y0_9; have o0_10 := (T10.out.cell (p := ⟨w.heap.size, 10, none⟩) hy0).trans y0_10) | (go_at_call 17; refine (eqQuery_any _ _ u0 t10 _ _ RY0.out RZ0.out (fun g hg => by have := hg.2; omega) (fun g hg => hg.2)).mono ?_; rintro e w10 ⟨rfl, b10⟩; have TT10 := Seg.hid (chain T10.out b10); clear b10; have s0_0 := (TT10.out.cell (p := ⟨w6.heap.size, 0, none⟩) hx0).trans x0_0; have s0_1 := (TT10.out.cell (p := ⟨w6.heap.size, 1, none⟩) hx0).trans x0_1; have s0_2 := (TT10.out.cell (p := ⟨w6.heap.size, 2, none⟩) hx0).trans x0_2; have s0_3 := (TT10.out.cell (p := ⟨w6.heap.size, 3, none⟩) hx0).trans x0_3; have s0_4 := (TT10.out.cell (p := ⟨w6.heap.size, 4, none⟩) hx0).trans x0_4; have s0_5 := (TT10.out.cell (p := ⟨w6.heap.size, 5, none⟩) hx0).trans x0_5; have s0_6 := (TT10.out.cell (p := ⟨w6.heap.size, 6, none⟩) hx0).trans x0_6; have s0_7 := (TT10.out.cell (p := ⟨w6.heap.size, 7, none⟩) hx0).trans x0_7; have s0_8 := (TT10.out.cell (p := ⟨w6.heap.size, 8, none⟩) hx0).trans x0_8; have s0_9 := (TT10.out.cell (p := ⟨w6.heap.size, 9, none⟩) hx0).trans x0_9; have s0_10 := (TT10.out.cell (p := ⟨w6.heap.size, 10, none⟩) hx0).trans x0_10; have t0_0 := (TT10.out.cell (p := ⟨w.heap.size, 0, none⟩) hy0).trans y0_0; have t0_1 := (TT10.out.cell (p := ⟨w.heap.size, 1, none⟩) hy0).trans y0_1; have t0_2 := (TT10.out.cell (p := ⟨w.heap.size, 2, none⟩) hy0).trans y0_2; have t0_3 := (TT10.out.cell (p := ⟨w.heap.size, 3, none⟩) hy0).trans y0_3; have t0_4 := (TT10.out.cell (p := ⟨w.heap.size, 4, none⟩) hy0).trans y0_4; have t0_5 := (TT10.out.cell (p := ⟨w.heap.size, 5, none⟩) hy0).trans y0_5; have t0_6 := (TT10.out.cell (p := ⟨w.heap.size, 6, none⟩) hy0).trans y0_6; have t0_7 := (TT10.out.cell (p := ⟨w.heap.size, 7, none⟩) hy0).trans y0_7; have t0_8 := (TT10.out.cell (p := ⟨w.heap.size, 8, none⟩) hy0).trans y0_8; have t0_9 := (TT10.out.cell (p := ⟨w.heap.size, 9, none⟩) hy0).trans y0_9; have t0_10 := (TT10.out.cell (p := ⟨w.heap.size, 10, none⟩) hy0).trans y0_10))
  clear x0_0 x0_1 x0_2 x0_3 x0_4 x0_5 x0_6 x0_7 x0_8 x0_9 x0_10 y0_0 y0_1 y0_2 y0_3 y0_4 y0_5 y0_6 y0_7 y0_8 y0_9 y0_10 p0_0 p0_1 p0_2 p0_3 p0_4 p0_5 p0_6 p0_7 p0_8 p0_9 p0_10 o0_0 o0_1 o0_2 o0_3 o0_4 o0_5 o0_6 o0_7 o0_8 o0_9 o0_10 s0_0 s0_1 s0_2 s0_3 s0_4 s0_5 s0_6 s0_7 s0_8 s0_9 s0_10 t0_0 t0_1 t0_2 t0_3 t0_4 t0_5 t0_6 t0_7 t0_8 t0_9 t0_10 hx0 hy0 RZ0 RY0
  have D10 := Seg.hid TT10.out
  have B10 := Seg.hid (chain B9.out D10.out)
  have s10 : w9.heap.size ≤ w10.heap.size := D10.out.size
  have P0_10 := Seg.hid ((D10.out.block (w.heap.size) (Array.getElem?_eq_some_iff.1 P0_9.out).1).trans P0_9.out)
  clear P0_9
  have Wr0_10 := Seg.hid (LAt.below keepsStr Wr0_9.out D10.out (fun g hg => by have := hg.2; omega))
  clear Wr0_9
  have RX0_10 := Seg.hid (Ow.QryOwn.keep RX0_9.out D10.out.size (fun g hg => D10.out.block g (by have := hg.2; omega)))
  clear RX0_9
  have X0_10 := Seg.hid ((D10.out.block (w6.heap.size) (Array.getElem?_eq_some_iff.1 X0_9.out).1).trans X0_9.out)
  clear X0_9
  have RX1_10 := Seg.hid (Ow.LOwn.belowO Ow.keepsOSrc RX1_9.out D10.out (fun g hg => by have := hg.2; omega))
  clear RX1_9
  have G0_10 := Seg.hid (Ow.LOwn.belowO Ow.keepsOStr G0_9.out D10.out (fun g hg => by have := hg.2; omega))
  clear G0_9
  clear T10 TT10 st10
  go_wp2_with fail
  refine (toSourceS_any _ u1 w10 (All w) (LAt.below keepsSrc (HV1.out) B10.out (fun g hg => hg)) (fun g hg => Nat.lt_of_lt_of_le hg B10.out.size) FW1.out).mono ?_
  rintro e w11 ⟨y11, rfl, h11, b11⟩
  have D11 := Seg.hid b11
  have B11 := Seg.hid (chain B10.out D11.out)
  have s11 : w10.heap.size ≤ w11.heap.size := D11.out.size
  have P0_11 := Seg.hid ((D11.out.block (w.heap.size) (Array.getElem?_eq_some_iff.1 P0_10.out).1).trans P0_10.out)
  clear P0_10
  have Wr0_11 := Seg.hid (LAt.below keepsStr Wr0_10.out D11.out (fun g hg => by have := hg.2; omega))
  clear Wr0_10
  have RX0_11 := Seg.hid (Ow.QryOwn.keep RX0_10.out D11.out.size (fun g hg => D11.out.block g (by have := hg.2; omega)))
  clear RX0_10
  have X0_11 := Seg.hid ((D11.out.block (w6.heap.size) (Array.getElem?_eq_some_iff.1 X0_10.out).1).trans X0_10.out)
  clear X0_10
  have RX1_11 := Seg.hid (Ow.LOwn.belowO Ow.keepsOSrc RX1_10.out D11.out (fun g hg => by have := hg.2; omega))
  clear RX1_10
  have G0_11 := Seg.hid (Ow.LOwn.belowO Ow.keepsOStr G0_10.out D11.out (fun g hg => by have := hg.2; omega))
  clear G0_10
  obtain ⟨A11, c11, rfl⟩ := h11.form
  have Z1_11 := Seg.hid h11
  clear b11 h11
  go_wp2_with fail
  refine (eqSourceS_any _ _ u1 w11 _ _ (Ow.LOwn.lat growsSrc Ow.atOSrc RX1_11.out) Z1_11.out (fun g hg => by have := hg.2; omega) (fun g hg => by have := hg.2; omega)).mono ?_
  rintro e w12 ⟨rfl, b12⟩
  have D12 := Seg.hid b12
  have B12 := Seg.hid (chain B11.out D12.out)
  have s12 : w11.heap.size ≤ w12.heap.size := D12.out.size
  have P0_12 := Seg.hid ((D12.out.block (w.heap.size) (Array.getElem?_eq_some_iff.1 P0_11.out).1).trans P0_11.out)
  clear P0_11
  have Wr0_12 := Seg.hid (LAt.below keepsStr Wr0_11.out D12.out (fun g hg => by have := hg.2; omega))
  clear Wr0_11
  have RX0_12 := Seg.hid (Ow.QryOwn.keep RX0_11.out D12.out.size (fun g hg => D12.out.block g (by have := hg.2; omega)))
  clear RX0_11
  have X0_12 := Seg.hid ((D12.out.block (w6.heap.size) (Array.getElem?_eq_some_iff.1 X0_11.out).1).trans X0_11.out)
  clear X0_11
  have RX1_12 := Seg.hid (Ow.LOwn.belowO Ow.keepsOSrc RX1_11.out D12.out (fun g hg => by have := hg.2; omega))
  clear RX1_11
  have G0_12 := Seg.hid (Ow.LOwn.belowO Ow.keepsOStr G0_11.out D12.out (fun g hg => by have := hg.2; omega))
  clear G0_11
  have Z1_12 := Seg.hid (LAt.below keepsSrc Z1_11.out D12.out (fun g hg => by have := hg.2; omega))
  clear Z1_11
  clear b12
  clear Z1_12
  go_wp2_with (refine wpList_load_row rfl 39 _ rfl (w6.heap.size) rfl _ _ _ _ X0_12.out Try.underlying39 rfl infoQry ?_)
  refine (Ow.markQuery_own _ 1 rfl (seg (w5.heap.size) w6.heap.size) u0 w12 (by decide) (by have := MA0.out; omega) (fun g hg => by have := hg.2; omega) RX0_12.out).mono ?_
  rintro e w13 ⟨rfl, hm13, ft13⟩
  have s13 : w12.heap.size ≤ w13.heap.size := ft13.size
  have B13 := Seg.hid (B12.out.trans (ft13.toBelow (lo := w.heap.size) (fun y hy => by have := hy.1; omega) (by omega)))
  have P0_13 := Seg.hid ((ft13.block (w.heap.size) (Array.getElem?_eq_some_iff.1 P0_12.out).1 (fun hy => by have := hy.1; have := hy.2; omega)).trans P0_12.out)
  clear P0_12
  have Wr0_13 := Seg.hid (LAt.keep keepsStr Wr0_12.out (fun g hg => ft13.block g (by have := hg.2; omega) (fun hy => by have := hy.1; have := hy.2; have := hg.1; have := hg.2; omega)))
  clear Wr0_12
  have X0_13 := Seg.hid ((ft13.block (w6.heap.size) (Array.getElem?_eq_some_iff.1 X0_12.out).1 (fun hy => by have := hy.1; have := hy.2; omega)).trans X0_12.out)
  clear X0_12
  have RX1_13 := Seg.hid (Ow.LOwn.footO Ow.keepsOSrc RX1_12.out ft13 (fun g hg => by have := hg.2; omega) (fun g hg hy => by have := hy.1; have := hy.2; have := hg.1; have := hg.2; omega))
  clear RX1_12
  have G0_13 := Seg.hid (Ow.LOwn.footO Ow.keepsOStr G0_12.out ft13 (fun g hg => by have := hg.2; omega) (fun g hg hy => by have := hy.1; have := hy.2; have := hg.1; have := hg.2; omega))
  clear G0_12
  have RX0_13 := Seg.hid hm13
  clear RX0_12 hm13 ft13
  obtain ⟨K0, hK0⟩ : ∃ K, 1 + Ow.nQry u0 = K := ⟨_, rfl⟩
  rw [hK0]
  have kb0 : 0 < K0 ∧ K0 ≤ 1000000001 := by have := MA0.out; omega
  clear hK0
  clear RX0_13
  go_wp2_with fail
  refine (Ow.markSourceS_own _ K0 rfl (seg (w6.heap.size + 1) w7.heap.size) u1 w13 (by omega) (by have := MA1.out; omega) RX1_13.out).mono ?_
  rintro e w14 ⟨rfl, hm14, ft14⟩
  have s14 : w13.heap.size ≤ w14.heap.size := ft14.size
  have B14 := Seg.hid (B13.out.trans (ft14.toBelow (lo := w.heap.size) (fun y hy => by have := hy.1; omega) (by omega)))
  have P0_14 := Seg.hid ((ft14.block (w.heap.size) (Array.getElem?_eq_some_iff.1 P0_13.out).1 (fun hy => by have := hy.1; have := hy.2; omega)).trans P0_13.out)
  clear P0_13
  have Wr0_14 := Seg.hid (LAt.keep keepsStr Wr0_13.out (fun g hg => ft14.block g (by have := hg.2; omega) (fun hy => by have := hy.1; have := hy.2; have := hg.1; have := hg.2; omega)))
  clear Wr0_13
  have X0_14 := Seg.hid ((ft14.block (w6.heap.size) (Array.getElem?_eq_some_iff.1 X0_13.out).1 (fun hy => by have := hy.1; have := hy.2; omega)).trans X0_13.out)
  clear X0_13
  have G0_14 := Seg.hid (Ow.LOwn.footO Ow.keepsOStr G0_13.out ft14 (fun g hg => by have := hg.2; omega) (fun g hg hy => by have := hy.1; have := hy.2; have := hg.1; have := hg.2; omega))
  clear G0_13
  have RX1_14 := Seg.hid hm14
  clear RX1_13 hm14 ft14
  obtain ⟨K1, hK1⟩ : ∃ K, K0 + tot Ow.nSrc u1 = K := ⟨_, rfl⟩
  rw [hK1]
  have kb1 : 0 < K1 ∧ K1 ≤ 2000000001 := by have := MA1.out; omega
  clear hK1
  clear RX1_14
  clear X0_14
  have hK0 : (0 : Int) ≤ (K1 : Int) := by omega
  have hkd : decide ((K1 : Int) < 0) = false := decide_eq_false (by omega)
  go_wp2_with fail
  refine (eqStringS_any _ _ R0 w14 _ _ (Ow.LOwn.lat growsStr (fun _ _ _ _ h => h) G0_14.out) Wr0_14.out (fun g hg => by have := hg.2; omega) (fun g hg => by have := hg.2; omega)).mono ?_
  rintro e w15 ⟨rfl, b15⟩
  have D15 := Seg.hid b15
  have B15 := Seg.hid (chain B14.out D15.out)
  have s15 : w14.heap.size ≤ w15.heap.size := D15.out.size
  have P0_15 := Seg.hid ((D15.out.block (w.heap.size) (Array.getElem?_eq_some_iff.1 P0_14.out).1).trans P0_14.out)
  clear P0_14
  have Wr0_15 := Seg.hid (LAt.below keepsStr Wr0_14.out D15.out (fun g hg => by have := hg.2; omega))
  clear Wr0_14
  have G0_15 := Seg.hid (Ow.LOwn.belowO Ow.keepsOStr G0_14.out D15.out (fun g hg => by have := hg.2; omega))
  clear G0_14
  clear b15
  go_wp2_with fail
  refine (Ow.markStringS_own _ 1 rfl (seg (w7.heap.size) w8.heap.size) R0 w15 (by decide) (by have := MR0.out; omega) G0_15.out).mono ?_
  rintro e w16 ⟨rfl, hm16, ft16⟩
  have s16 : w15.heap.size ≤ w16.heap.size := ft16.size
  have B16 := Seg.hid (B15.out.trans (ft16.toBelow (lo := w.heap.size) (fun y hy => by have := hy.1; omega) (by omega)))
  have P0_16 := Seg.hid ((ft16.block (w.heap.size) (Array.getElem?_eq_some_iff.1 P0_15.out).1 (fun hy => by have := hy.1; have := hy.2; omega)).trans P0_15.out)
  clear P0_15
  have Wr0_16 := Seg.hid (LAt.keep keepsStr Wr0_15.out (fun g hg => ft16.block g (by have := hg.2; omega) (fun hy => by have := hy.1; have := hy.2; have := hg.1; have := hg.2; omega)))
  clear Wr0_15
  have G0_16 := Seg.hid hm16
  clear G0_15 hm16 ft16
  obtain ⟨M0, hM0⟩ : ∃ M, 1 + tot Ow.nX R0 = M := ⟨_, rfl⟩
  have HM0 := Seg.hid hM0
  rw [hM0]
  have mb0 : 0 < M0 ∧ M0 ≤ 1000000001 := by have := MR0.out; omega
  clear hM0
  go_wp2_with fail
  refine (Ow.heldStringS_at _ 1 rfl (seg (w7.heap.size) w8.heap.size) R0 w16 (by decide) (by have := MR0.out; omega) (fun g hg => by have := hg.2; omega) (Ow.LOwn.lat growsStr (fun _ _ _ _ h => h) G0_16.out)).mono ?_
  rintro e w17 ⟨rfl, b17⟩
  have D17 := Seg.hid b17
  have B17 := Seg.hid (chain B16.out D17.out)
  have s17 : w16.heap.size ≤ w17.heap.size := D17.out.size
  have P0_17 := Seg.hid ((D17.out.block (w.heap.size) (Array.getElem?_eq_some_iff.1 P0_16.out).1).trans P0_16.out)
  clear P0_16
  have Wr0_17 := Seg.hid (LAt.below keepsStr Wr0_16.out D17.out (fun g hg => by have := hg.2; omega))
  clear Wr0_16
  have G0_17 := Seg.hid (Ow.LOwn.belowO Ow.keepsOStr G0_16.out D17.out (fun g hg => by have := hg.2; omega))
  clear G0_16
  rw [HM0.out]
  clear b17
  have hM0 : ¬ (M0 : Int) < 0 := by omega
  have hM1 : ((M0 : Int) != (M0 : Int)) = false := by simp
  go_wp2_with (refine wpList_load_row rfl 33 _ rfl (w.heap.size) rfl _ _ _ _ P0_17.out Try.underlying33 rfl infoLQry ?_)
  refine (toQuery_any _ u0 w17 (All w) ((HV0.out).below B17.out (fun g hg => hg)) (fun g hg => Nat.lt_of_lt_of_le hg B17.out.size) FW0.out).mono ?_
  rintro e w18 ⟨y18, rfl, h18, b18⟩
  have D18 := Seg.hid b18
  have B18 := Seg.hid (chain B17.out D18.out)
  have s18 : w17.heap.size ≤ w18.heap.size := D18.out.size
  have P0_18 := Seg.hid ((D18.out.block (w.heap.size) (Array.getElem?_eq_some_iff.1 P0_17.out).1).trans P0_17.out)
  clear P0_17
  have Wr0_18 := Seg.hid (LAt.below keepsStr Wr0_17.out D18.out (fun g hg => by have := hg.2; omega))
  clear Wr0_17
  have G0_18 := Seg.hid (Ow.LOwn.belowO Ow.keepsOStr G0_17.out D18.out (fun g hg => by have := hg.2; omega))
  clear G0_17
  have T0_18 := Seg.hid h18
  obtain ⟨T18_5, t18_q5, T18_6, t18_q6, T18_10, t18_q10, e18⟩ := FQry.form h18
  subst e18
  clear b18 h18
  go_wp2_with fail
  refine (toSourceS_any _ u1 w18 (All w) (LAt.below keepsSrc (HV1.out) B18.out (fun g hg => hg)) (fun g hg => Nat.lt_of_lt_of_le hg B18.out.size) FW1.out).mono ?_
  rintro e w19 ⟨y19, rfl, h19, b19⟩
  have D19 := Seg.hid b19
  have B19 := Seg.hid (chain B18.out D19.out)
  have s19 : w18.heap.size ≤ w19.heap.size := D19.out.size
  have P0_19 := Seg.hid ((D19.out.block (w.heap.size) (Array.getElem?_eq_some_iff.1 P0_18.out).1).trans P0_18.out)
  clear P0_18
  have Wr0_19 := Seg.hid (LAt.below keepsStr Wr0_18.out D19.out (fun g hg => by have := hg.2; omega))
  clear Wr0_18
  have G0_19 := Seg.hid (Ow.LOwn.belowO Ow.keepsOStr G0_18.out D19.out (fun g hg => by have := hg.2; omega))
  clear G0_18
  have T0_19 := Seg.hid (T0_18.out.below D19.out (fun g hg => by have := hg.2; omega))
  clear T0_18
  have T1_19 := Seg.hid h19
  obtain ⟨A19, c19, e19⟩ := h19.form
  subst e19
  clear b19 h19
  go_wp2_with fail
  refine (CI.out w19 _ _ ((T0_19.out).mono (fun g hg => by have := hg.2; omega)) (LAt.mono growsSrc (T1_19.out) (fun g hg => by have := hg.2; omega))).mono ?_
  rintro e w20 ⟨r20_0, rfl, h20_0, b20⟩
  have D20 := Seg.hid b20
  have B20 := Seg.hid (chain B19.out D20.out)
  have s20 : w19.heap.size ≤ w20.heap.size := D20.out.size
  have P0_20 := Seg.hid ((D20.out.block (w.heap.size) (Array.getElem?_eq_some_iff.1 P0_19.out).1).trans P0_19.out)
  clear P0_19
  have Wr0_20 := Seg.hid (LAt.below keepsStr Wr0_19.out D20.out (fun g hg => by have := hg.2; omega))
  clear Wr0_19
  have G0_20 := Seg.hid (Ow.LOwn.belowO Ow.keepsOStr G0_19.out D20.out (fun g hg => by have := hg.2; omega))
  clear G0_19
  have T0_20 := Seg.hid (T0_19.out.below D20.out (fun g hg => by have := hg.2; omega))
  clear T0_19
  have T1_20 := Seg.hid (LAt.below keepsSrc T1_19.out D20.out (fun g hg => by have := hg.2; omega))
  clear T1_19
  clear T0_20
  clear T1_20
  obtain ⟨A20_0, c20_0, rfl⟩ := Ow.LOwn.form h20_0
  have Hh0_20 := Seg.hid h20_0
  clear b20 h20_0
  go_wp2_with fail
  refine (eqStringS_any _ _ R0 w20 _ _ (Ow.LOwn.lat growsStr (fun _ _ _ _ h => h) Hh0_20.out) Wr0_20.out (fun g hg => by have := hg.2; omega) (fun g hg => by have := hg.2; omega)).mono ?_
  rintro e w21 ⟨rfl, b21⟩
  have D21 := Seg.hid b21
  have B21 := Seg.hid (chain B20.out D21.out)
  have s21 : w20.heap.size ≤ w21.heap.size := D21.out.size
  have P0_21 := Seg.hid ((D21.out.block (w.heap.size) (Array.getElem?_eq_some_iff.1 P0_20.out).1).trans P0_20.out)
  clear P0_20
  have Wr0_21 := Seg.hid (LAt.below keepsStr Wr0_20.out D21.out (fun g hg => by have := hg.2; omega))
  clear Wr0_20
  have G0_21 := Seg.hid (Ow.LOwn.belowO Ow.keepsOStr G0_20.out D21.out (fun g hg => by have := hg.2; omega))
  clear G0_20
  have Hh0_21 := Seg.hid (Ow.LOwn.belowO Ow.keepsOStr Hh0_20.out D21.out (fun g hg => by have := hg.2; omega))
  clear Hh0_20
  clear b21
  clear Hh0_21
  go_wp2_with fail
  refine (Ow.heldStringS_at _ 1 rfl (seg (w7.heap.size) w8.heap.size) R0 w21 (by decide) (by have := MR0.out; omega) (fun g hg => by have := hg.2; omega) (Ow.LOwn.lat growsStr (fun _ _ _ _ h => h) G0_21.out)).mono ?_
  rintro e w22 ⟨rfl, b22⟩
  have D22 := Seg.hid b22
  have B22 := Seg.hid (chain B21.out D22.out)
  have s22 : w21.heap.size ≤ w22.heap.size := D22.out.size
  have P0_22 := Seg.hid ((D22.out.block (w.heap.size) (Array.getElem?_eq_some_iff.1 P0_21.out).1).trans P0_21.out)
  clear P0_21
  have Wr0_22 := Seg.hid (LAt.below keepsStr Wr0_21.out D22.out (fun g hg => by have := hg.2; omega))
  clear Wr0_21
  have G0_22 := Seg.hid (Ow.LOwn.belowO Ow.keepsOStr G0_21.out D22.out (fun g hg => by have := hg.2; omega))
  clear G0_21
  rw [HM0.out]
  clear b22
  go_wp2
  go_ret
  exact ⟨rfl, B22.out⟩
end Go.Proofs.Ytboooabjeidmfaa.ExOu
