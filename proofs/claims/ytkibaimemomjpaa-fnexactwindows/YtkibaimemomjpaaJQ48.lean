/- The walk of the law on Windows out of the contracts. -/
import Derived.Deep.RegionHeld3
import Derived.Deep.RegionLaw
import Derived.Test.YtkibaimemomjpaaJQ40
import Derived.Test.YtkibaimemomjpaaJQ35
import Derived.Test.YtkibaimemomjpaaJQ45
import Derived.Test.YtkibaimemomjpaaJQ42
import Derived.Test.YtkibaimemomjpaaJQ23
import Derived.Test.YtkibaimemomjpaaJQ20
import Derived.Test.YtkibaimemomjpaaJQ46
import Derived.Test.YtkibaimemomjpaaJQ47
import Derived.Test.YtkibaimemomjpaaJQ16
namespace Go.Proofs.Ytkibaimemomjpaa.ExWn
set_option maxRecDepth 8000
open Go.RowKit
open Ls Lp
open QsP XqP WiI
open Recs (hsz below1 below2 below3 chain chainD)
set_option linter.unusedVariables false
theorem cells0 {w : World} {g ty : Nat} {za zb zc zd ze zf zg zh zi zj zk : Value} (h : w.heap[g]? = some (.cells #[za, zb, zc, zd, ze, zf, zg, zh, zi, zj, zk] ty (0, 0))) : w.cell? ⟨g, 0, none⟩ = some za ∧ w.cell? ⟨g, 1, none⟩ = some zb ∧ w.cell? ⟨g, 2, none⟩ = some zc ∧ w.cell? ⟨g, 3, none⟩ = some zd ∧ w.cell? ⟨g, 4, none⟩ = some ze ∧ w.cell? ⟨g, 5, none⟩ = some zf ∧ w.cell? ⟨g, 6, none⟩ = some zg ∧ w.cell? ⟨g, 7, none⟩ = some zh ∧ w.cell? ⟨g, 8, none⟩ = some zi ∧ w.cell? ⟨g, 9, none⟩ = some zj ∧ w.cell? ⟨g, 10, none⟩ = some zk :=
  ⟨cell_of_row w g 0 _ _ (0, 0) h, cell_of_row w g 1 _ _ (0, 0) h, cell_of_row w g 2 _ _ (0, 0) h, cell_of_row w g 3 _ _ (0, 0) h, cell_of_row w g 4 _ _ (0, 0) h, cell_of_row w g 5 _ _ (0, 0) h, cell_of_row w g 6 _ _ (0, 0) h, cell_of_row w g 7 _ _ (0, 0) h, cell_of_row w g 8 _ _ (0, 0) h, cell_of_row w g 9 _ _ (0, 0) h, cell_of_row w g 10 _ _ (0, 0) h⟩
set_option maxHeartbeats 25600000 in
theorem walk (v0 : Value) (u0 : Qry) (v1 : Value) (u1 : List Int) (w : World) (hv0 : QryAt w (All w) v0 u0) (hf0 : FineQry u0) (hv1 : LAt 1 EI w (All w) v1 u1) (hf1 : FineL I64 u1) :
    Calls Try.prog 3 #[v0, v1] w fun e w' => e = .returned (.bool true) ∧ Below w.heap.size w w' := by
  have HV0 := Seg.hid hv0
  obtain ⟨A0_5, a0_q5, A0_6, a0_q6, A0_10, a0_q10, rfl⟩ := FQry.form hv0
  have HF0 := Seg.hid hf0
  have HV1 := Seg.hid hv1
  obtain ⟨A1, c1, rfl⟩ := hv1.form
  have HF1 := Seg.hid hf1
  clear hv0 hf0 hv1 hf1
  go_enter Try.func3, Try.ntmps3
  by_cases hl1 : 1048576 < u1.length
  · have hz1 : (1048576 : Int) < (u1.length : Int) := by omega
    go_wp2
    go_ret
    exact ⟨rfl, below1 w _⟩
  have hz1 : ¬ (1048576 : Int) < (u1.length : Int) := by omega
  have FW1 : Hid (u1.length ≤ 1048576) := by show _ ≤ _; omega
  clear hl1
  go_wp2_with fail
  refine (szQuery_any _ u0 _ (w.alloc _) (All w) (by omega) (by omega) ((HV0.out).below (below1 w _) (fun g hg => hg)) (fun g hg => Nat.lt_of_lt_of_le hg (below1 w _).size) HF0.out).mono ?_
  rintro e w1 ⟨q0, rfl, qa0, qb0, qc0, b1⟩
  have B1 := Seg.hid (chain (below1 w _) b1)
  have s1 : w.heap.size ≤ w1.heap.size := B1.out.size
  have P0_1 : Hid (w1.heap[w.heap.size]? = some (.cells #[.string u0.fr, .string u0.jn, .int .i64 u0.wn, .string u0.on, .string u0.lk, .slice A0_5 u0.wh.length a0_q5, .slice A0_6 u0.gps.length a0_q6, .int .i64 u0.win, .int .i64 u0.size, .int .i64 u0.every, .slice A0_10 u0.gets.length a0_q10] 26 (0, 0))) := (b1.block (w.heap.size) (by rw [hsz]; omega)).trans (heap_alloc_new _ _)
  have sp0 : w.heap.size < w1.heap.size := (Array.getElem?_eq_some_iff.1 P0_1.out).1
  clear b1
  by_cases hq0 : q0 < 0
  · go_wp2
    go_ret
    exact ⟨rfl, B1.out⟩
  have FW0 : Hid (szQry u0 ≤ 1048576) := by show _ ≤ _; have := qc0.1 (by omega); omega
  clear qc0
  obtain ⟨R0, hR0⟩ : ∃ R, winsW u0 u1 = R := ⟨_, rfl⟩
  have CS : Hid (∀ (wx : World) (x0 : Value) (x1 : Value), QryAt wx (fun g => g < wx.heap.size) x0 u0 → LAt 1 EI wx (fun g => g < wx.heap.size) x1 u1 → Calls Try.prog 6 #[x0, x1] wx fun e w' => ∃ r0, e = .returned (r0) ∧ Ow.I2sOwn w' (seg wx.heap.size w'.heap.size) r0 R0 ∧ Below wx.heap.size wx w') := by
    intro wx x0 x1 h0 h1
    have hh := WsO.spec_own x0 x1 u0 u1 wx _ h0 h1 (fun g hg => hg) FW0.out FW1.out
    rw [hR0] at hh
    exact hh
  have CI : Hid (∀ (wx : World) (x0 : Value) (x1 : Value), QryAt wx (fun g => g < wx.heap.size) x0 u0 → LAt 1 EI wx (fun g => g < wx.heap.size) x1 u1 → Calls Try.prog 9 #[x0, x1] wx fun e w' => ∃ r0, e = .returned (r0) ∧ Ow.I2sOwn w' (seg wx.heap.size w'.heap.size) r0 R0 ∧ Below wx.heap.size wx w') := by
    intro wx x0 x1 h0 h1
    have hh := WoO.impl_own x0 x1 u0 u1 wx _ h0 h1 (fun g hg => hg) FW0.out FW1.out
    rw [hR0] at hh
    exact hh
  have MA0 : Hid (Ow.nQry u0 ≤ 1000000000) := FwQ.qry u0 FW0.out
  have MA1 : Hid (tot Ow.nI u1 ≤ 1000000000) := WoO.few_ints u1 FW1.out
  have MR0 : Hid (tot Ow.nI2 R0 ≤ 1000000000) := by
    show _ ≤ _
    rw [← hR0]
    exact WoO.few_wins u0 u1
  clear hR0
  go_wp2_with (refine wpList_load_row rfl 26 _ rfl (w.heap.size) rfl _ _ _ _ P0_1.out Try.underlying26 rfl infoLQry ?_)
  refine (toQuery_any _ u0 w1 (All w) ((HV0.out).below B1.out (fun g hg => hg)) (fun g hg => Nat.lt_of_lt_of_le hg B1.out.size) FW0.out).mono ?_
  rintro e w2 ⟨y2, rfl, h2, b2⟩
  have D2 := Seg.hid b2
  have B2 := Seg.hid (chain B1.out D2.out)
  have s2 : w1.heap.size ≤ w2.heap.size := D2.out.size
  have P0_2 := Seg.hid ((D2.out.block (w.heap.size) (Array.getElem?_eq_some_iff.1 P0_1.out).1).trans P0_1.out)
  clear P0_1
  have T0_2 := Seg.hid h2
  obtain ⟨T2_5, t2_q5, T2_6, t2_q6, T2_10, t2_q10, e2⟩ := FQry.form h2
  subst e2
  clear b2 h2
  go_wp2_with fail
  refine (toIntS_any _ u1 w2 (All w) (LAt.below keepsI (HV1.out) B2.out (fun g hg => hg)) (fun g hg => Nat.lt_of_lt_of_le hg B2.out.size) FW1.out).mono ?_
  rintro e w3 ⟨y3, rfl, h3, b3⟩
  have D3 := Seg.hid b3
  have B3 := Seg.hid (chain B2.out D3.out)
  have s3 : w2.heap.size ≤ w3.heap.size := D3.out.size
  have P0_3 := Seg.hid ((D3.out.block (w.heap.size) (Array.getElem?_eq_some_iff.1 P0_2.out).1).trans P0_2.out)
  clear P0_2
  have T0_3 := Seg.hid (T0_2.out.below D3.out (fun g hg => by have := hg.2; omega))
  clear T0_2
  have T1_3 := Seg.hid h3
  obtain ⟨A3, c3, e3⟩ := h3.form
  subst e3
  clear b3 h3
  go_wp2_with fail
  refine (CS.out w3 _ _ ((T0_3.out).mono (fun g hg => by have := hg.2; omega)) (LAt.mono growsI (T1_3.out) (fun g hg => by have := hg.2; omega))).mono ?_
  rintro e w4 ⟨r4_0, rfl, h4_0, b4⟩
  have D4 := Seg.hid b4
  have B4 := Seg.hid (chain B3.out D4.out)
  have s4 : w3.heap.size ≤ w4.heap.size := D4.out.size
  have P0_4 := Seg.hid ((D4.out.block (w.heap.size) (Array.getElem?_eq_some_iff.1 P0_3.out).1).trans P0_3.out)
  clear P0_3
  have T0_4 := Seg.hid (T0_3.out.below D4.out (fun g hg => by have := hg.2; omega))
  clear T0_3
  have T1_4 := Seg.hid (LAt.below keepsI T1_3.out D4.out (fun g hg => by have := hg.2; omega))
  clear T1_3
  clear T0_4
  clear T1_4
  obtain ⟨A4_0, c4_0, rfl⟩ := Ow.LOwn.form h4_0
  have Wr0_4 := Seg.hid (Ow.LOwn.lat growsI2 Ow.atOI2 h4_0)
  clear b4 h4_0
  go_wp2_with (refine wpList_load_row rfl 26 _ rfl (w.heap.size) rfl _ _ _ _ P0_4.out Try.underlying26 rfl infoLQry ?_)
  refine (Ow.toQuery_own _ u0 w4 (All w) ((HV0.out).below B4.out (fun g hg => hg)) (fun g hg => Nat.lt_of_lt_of_le hg (B4.out).size) FW0.out).mono ?_
  rintro e w5 ⟨vx0, rfl, rx0, b5⟩
  have D5 := Seg.hid b5
  have B5 := Seg.hid (chain B4.out D5.out)
  have s5 : w4.heap.size ≤ w5.heap.size := D5.out.size
  have P0_5 := Seg.hid ((D5.out.block (w.heap.size) (Array.getElem?_eq_some_iff.1 P0_4.out).1).trans P0_4.out)
  clear P0_4
  have Wr0_5 := Seg.hid (LAt.below keepsI2 Wr0_4.out D5.out (fun g hg => by have := hg.2; omega))
  clear Wr0_4
  obtain ⟨D0_5, d0_q5, D0_6, d0_q6, D0_10, d0_q10, hvx0⟩ := FQry.form (Ow.QryOwn.at rx0)
  subst hvx0
  have RX0_5 := Seg.hid rx0
  clear rx0 b5
  go_wp2_with fail
  refine (Ow.toIntS_own _ u1 (w5.alloc _) (All w) (LAt.below keepsI (HV1.out) (chain B5.out (below1 w5 _)) (fun g hg => hg)) (fun g hg => Nat.lt_of_lt_of_le hg ((chain B5.out (below1 w5 _))).size) FW1.out).mono ?_
  rintro e w6 ⟨vx1, rfl, rx1, b6⟩
  have D6 := Seg.hid (chain (below1 w5 _) b6)
  have B6 := Seg.hid (chain B5.out D6.out)
  have s6 : w5.heap.size ≤ w6.heap.size := D6.out.size
  have P0_6 := Seg.hid ((D6.out.block (w.heap.size) (Array.getElem?_eq_some_iff.1 P0_5.out).1).trans P0_5.out)
  clear P0_5
  have Wr0_6 := Seg.hid (LAt.below keepsI2 Wr0_5.out D6.out (fun g hg => by have := hg.2; omega))
  clear Wr0_5
  have RX0_6 := Seg.hid (Ow.QryOwn.keep RX0_5.out D6.out.size (fun g hg => D6.out.block g (by have := hg.2; omega)))
  clear RX0_5
  have X0_6 : Hid (w6.heap[w5.heap.size]? = some (.cells #[.string u0.fr, .string u0.jn, .int .i64 u0.wn, .string u0.on, .string u0.lk, .slice D0_5 u0.wh.length d0_q5, .slice D0_6 u0.gps.length d0_q6, .int .i64 u0.win, .int .i64 u0.size, .int .i64 u0.every, .slice D0_10 u0.gets.length d0_q10] 34 (0, 0))) := (b6.block w5.heap.size (by rw [hsz]; omega)).trans (heap_alloc_new _ _)
  have s6p : w5.heap.size + 1 ≤ w6.heap.size := by have := b6.size; rw [hsz] at this; exact this
  rw [hsz] at rx1
  obtain ⟨D1, d1q, hvx1⟩ := Ow.LOwn.form rx1
  subst hvx1
  have RX1_6 := Seg.hid rx1
  clear rx1 b6
  go_wp2_with (refine wpList_load_row rfl 34 _ rfl (w5.heap.size) rfl _ _ _ _ X0_6.out Try.underlying34 rfl infoQry ?_)
  refine (CI.out w6 _ _ (((Ow.QryOwn.at RX0_6.out)).mono (fun g hg => by have := hg.2; omega)) (LAt.mono growsI ((Ow.LOwn.lat growsI (fun _ _ _ _ h => h) RX1_6.out)) (fun g hg => by have := hg.2; omega))).mono ?_
  rintro e w7 ⟨r7_0, rfl, h7_0, b7⟩
  have D7 := Seg.hid b7
  have B7 := Seg.hid (chain B6.out D7.out)
  have s7 : w6.heap.size ≤ w7.heap.size := D7.out.size
  have P0_7 := Seg.hid ((D7.out.block (w.heap.size) (Array.getElem?_eq_some_iff.1 P0_6.out).1).trans P0_6.out)
  clear P0_6
  have Wr0_7 := Seg.hid (LAt.below keepsI2 Wr0_6.out D7.out (fun g hg => by have := hg.2; omega))
  clear Wr0_6
  have RX0_7 := Seg.hid (Ow.QryOwn.keep RX0_6.out D7.out.size (fun g hg => D7.out.block g (by have := hg.2; omega)))
  clear RX0_6
  have X0_7 := Seg.hid ((D7.out.block (w5.heap.size) (Array.getElem?_eq_some_iff.1 X0_6.out).1).trans X0_6.out)
  clear X0_6
  have RX1_7 := Seg.hid (Ow.LOwn.belowO Ow.keepsOI RX1_6.out D7.out (fun g hg => by have := hg.2; omega))
  clear RX1_6
  obtain ⟨A7_0, c7_0, rfl⟩ := Ow.LOwn.form h7_0
  have G0_7 := Seg.hid h7_0
  clear b7 h7_0
  go_wp2_with fail
  refine (eqIntSS_any _ _ R0 w7 _ _ (Ow.LOwn.lat growsI2 Ow.atOI2 G0_7.out) Wr0_7.out (fun g hg => by have := hg.2; omega) (fun g hg => by have := hg.2; omega)).mono ?_
  rintro e w8 ⟨rfl, b8⟩
  have D8 := Seg.hid b8
  have B8 := Seg.hid (chain B7.out D8.out)
  have s8 : w7.heap.size ≤ w8.heap.size := D8.out.size
  have P0_8 := Seg.hid ((D8.out.block (w.heap.size) (Array.getElem?_eq_some_iff.1 P0_7.out).1).trans P0_7.out)
  clear P0_7
  have Wr0_8 := Seg.hid (LAt.below keepsI2 Wr0_7.out D8.out (fun g hg => by have := hg.2; omega))
  clear Wr0_7
  have RX0_8 := Seg.hid (Ow.QryOwn.keep RX0_7.out D8.out.size (fun g hg => D8.out.block g (by have := hg.2; omega)))
  clear RX0_7
  have X0_8 := Seg.hid ((D8.out.block (w5.heap.size) (Array.getElem?_eq_some_iff.1 X0_7.out).1).trans X0_7.out)
  clear X0_7
  have RX1_8 := Seg.hid (Ow.LOwn.belowO Ow.keepsOI RX1_7.out D8.out (fun g hg => by have := hg.2; omega))
  clear RX1_7
  have G0_8 := Seg.hid (Ow.LOwn.belowO Ow.keepsOI2 G0_7.out D8.out (fun g hg => by have := hg.2; omega))
  clear G0_7
  clear b8
  go_wp2_with fail
  obtain ⟨x0_0, x0_1, x0_2, x0_3, x0_4, x0_5, x0_6, x0_7, x0_8, x0_9, x0_10⟩ := cells0 X0_8.out
  obtain ⟨y0_0, y0_1, y0_2, y0_3, y0_4, y0_5, y0_6, y0_7, y0_8, y0_9, y0_10⟩ := cells0 P0_8.out
  have hx0 : w5.heap.size < w8.heap.size := (Array.getElem?_eq_some_iff.1 X0_8.out).1
  have hy0 : w.heap.size < w8.heap.size := (Array.getElem?_eq_some_iff.1 P0_8.out).1
  go_region_held3 (fun w' => w'.cell? ⟨w5.heap.size, 0, none⟩ = some (.string u0.fr) ∧ w'.cell? ⟨w5.heap.size, 1, none⟩ = some (.string u0.jn) ∧ w'.cell? ⟨w5.heap.size, 2, none⟩ = some (.int .i64 u0.wn) ∧ w'.cell? ⟨w5.heap.size, 3, none⟩ = some (.string u0.on) ∧ w'.cell? ⟨w5.heap.size, 4, none⟩ = some (.string u0.lk) ∧ w'.cell? ⟨w5.heap.size, 5, none⟩ = some (.slice D0_5 u0.wh.length d0_q5) ∧ w'.cell? ⟨w5.heap.size, 6, none⟩ = some (.slice D0_6 u0.gps.length d0_q6) ∧ w'.cell? ⟨w5.heap.size, 7, none⟩ = some (.int .i64 u0.win) ∧ w'.cell? ⟨w5.heap.size, 8, none⟩ = some (.int .i64 u0.size) ∧ w'.cell? ⟨w5.heap.size, 9, none⟩ = some (.int .i64 u0.every) ∧ w'.cell? ⟨w5.heap.size, 10, none⟩ = some (.slice D0_10 u0.gets.length d0_q10) ∧ w'.cell? ⟨w.heap.size, 0, none⟩ = some (.string u0.fr) ∧ w'.cell? ⟨w.heap.size, 1, none⟩ = some (.string u0.jn) ∧ w'.cell? ⟨w.heap.size, 2, none⟩ = some (.int .i64 u0.wn) ∧ w'.cell? ⟨w.heap.size, 3, none⟩ = some (.string u0.on) ∧ w'.cell? ⟨w.heap.size, 4, none⟩ = some (.string u0.lk) ∧ w'.cell? ⟨w.heap.size, 5, none⟩ = some (.slice A0_5 u0.wh.length a0_q5) ∧ w'.cell? ⟨w.heap.size, 6, none⟩ = some (.slice A0_6 u0.gps.length a0_q6) ∧ w'.cell? ⟨w.heap.size, 7, none⟩ = some (.int .i64 u0.win) ∧ w'.cell? ⟨w.heap.size, 8, none⟩ = some (.int .i64 u0.size) ∧ w'.cell? ⟨w.heap.size, 9, none⟩ = some (.int .i64 u0.every) ∧ w'.cell? ⟨w.heap.size, 10, none⟩ = some (.slice A0_10 u0.gets.length a0_q10)) (first | exact ⟨x0_0, x0_1, x0_2, x0_3, x0_4, x0_5, x0_6, x0_7, x0_8, x0_9, x0_10, y0_0, y0_1, y0_2, y0_3, y0_4, y0_5, y0_6, y0_7, y0_8, y0_9, y0_10⟩ | exact ⟨p0_0, p0_1, p0_2, p0_3, p0_4, p0_5, p0_6, p0_7, p0_8, p0_9, p0_10, o0_0, o0_1, o0_2, o0_3, o0_4, o0_5, o0_6, o0_7, o0_8, o0_9, o0_10⟩ | exact ⟨s0_0, s0_1, s0_2, s0_3, s0_4, s0_5, s0_6, s0_7, s0_8, s0_9, s0_10, t0_0, t0_1, t0_2, t0_3, t0_4, t0_5, t0_6, t0_7, t0_8, t0_9, t0_10⟩ | go_keep) (first | (go_at_call 7; refine (toQuery_any _ u0 w8.drew (All w) ((HV0.out).below B8.out.drew (fun g hg => hg)) (fun g hg => Nat.lt_of_lt_of_le hg B8.out.size) FW0.out).mono ?_; rintro e t9 ⟨vz0, rfl, rz0, b9⟩; have T9 : Hid (Below w8.heap.size w8 t9) := ⟨b9.os, b9.tape, b9.output, b9.size, b9.block⟩; have RZ0 : Hid (QryAt t9 (seg w8.heap.size t9.heap.size) vz0 u0) := rz0; have st9 : w8.heap.size ≤ t9.heap.size := T9.out.size; have RY0 := Seg.hid (((Ow.QryOwn.at RX0_8.out)).below T9.out (fun g hg => by have := hg.2; omega)); clear rz0 b9; have p0_0 := (T9.out.cell (p := ⟨w5.heap.size, 0, none⟩) hx0).trans x0_0; have p0_1 := (T9.out.cell (p := ⟨w5.heap.size, 1, none⟩) hx0).trans x0_1; have p0_2 := (T9.out.cell (p := ⟨w5.heap.size, 2, none⟩) hx0).trans x0_2; have p0_3 := (T9.out.cell (p := ⟨w5.heap.size, 3, none⟩) hx0).trans x0_3; have p0_4 := (T9.out.cell (p := ⟨w5.heap.size, 4, none⟩) hx0).trans x0_4; have p0_5 := (T9.out.cell (p := ⟨w5.heap.size, 5, none⟩) hx0).trans x0_5; have p0_6 := (T9.out.cell (p := ⟨w5.heap.size, 6, none⟩) hx0).trans x0_6; have p0_7 := (T9.out.cell (p := ⟨w5.heap.size, 7, none⟩) hx0).trans x0_7; have p0_8 := (T9.out.cell (p := ⟨w5.heap.size, 8, none⟩) hx0).trans x0_8; have p0_9 := (T9.out.cell (p := ⟨w5.heap.size, 9, none⟩) hx0).trans x0_9; have p0_10 := (T9.out.cell (p := ⟨w5.heap.size, 10, none⟩) hx0).trans x0_10; have o0_0 := (T9.out.cell (p := ⟨w.heap.size, 0, none⟩) hy0).trans y0_0; have o0_1 := (T9.out.cell (p := ⟨w.heap.size, 1, none⟩) hy0).trans y0_1; have o0_2 := (T9.out.cell (p := ⟨w.heap.size, 2, none⟩) hy0).trans y0_2; have o0_3 := (T9.out.cell (p := ⟨w.heap.size, 3, none⟩) hy0).trans y0_3; have o0_4 := (T9.out.cell (p := ⟨w.heap.size, 4, none⟩) hy0).trans y0_4; have o0_5 := (T9.out.cell (p := ⟨w.heap.size, 5, none⟩) hy0).trans y0_5; have o0_6 := (T9.out.cell (p := ⟨w.heap.size, 6, none⟩) hy0).trans y0_6; have o0_7 := (T9.out.cell (p := ⟨w.heap.size, 7, none⟩) hy0).trans y0_7; have o0_8 := (T9.out.cell (p := ⟨w.heap.size, 8, none⟩) hy0).trans y0_8; have o0_9 := (T9.out.cell (p := ⟨w.heap.size, 9, none⟩) hy0).trans y0_9; have o0_10 := (T9.out.cell (p := ⟨w.heap.size, 10, none⟩) hy0).trans y0_10) | (go_at_call 11; refine (eqQuery_any _ _ u0 t9 _ _ RY0.out RZ0.out (fun g hg => by have := hg.2; omega) (fun g hg => hg.2)).mono ?_; rintro e w9 ⟨rfl, b9⟩; have TT9 := Seg.hid (chain T9.out b9); clear b9; have s0_0 := (TT9.out.cell (p := ⟨w5.heap.size, 0, none⟩) hx0).trans x0_0; have s0_1 := (TT9.out.cell (p := ⟨w5.heap.size, 1, none⟩) hx0).trans x0_1; have s0_2 := (TT9.out.cell (p := ⟨w5.heap.size, 2, none⟩) hx0).trans x0_2; have s0_3 := (TT9.out.cell (p := ⟨w5.heap.size, 3, none⟩) hx0).trans x0_3; have s0_4 := (TT9.out.cell (p := ⟨w5.heap.size, 4, none⟩) hx0).trans x0_4; have s0_5 := (TT9.out.cell (p := ⟨w5.heap.size, 5, none⟩) hx0).trans x0_5; have s0_6 := (TT9.out.cell (p := ⟨w5.heap.size, 6, none⟩) hx0).trans x0_6; have s0_7 := (TT9.out.cell (p := ⟨w5.heap.size, 7, none⟩) hx0).trans x0_7; have s0_8 := (TT9.out.cell (p := ⟨w5.heap.size, 8, none⟩) hx0).trans x0_8; have s0_9 := (TT9.out.cell (p := ⟨w5.heap.size, 9, none⟩) hx0).trans x0_9; have s0_10 := (TT9.out.cell (p := ⟨w5.heap.size, 10, none⟩) hx0).trans x0_10; have t0_0 := (TT9.out.cell (p := ⟨w.heap.size, 0, none⟩) hy0).trans y0_0; have t0_1 := (TT9.out.cell (p := ⟨w.heap.size, 1, none⟩) hy0).trans y0_1; have t0_2 := (TT9.out.cell (p := ⟨w.heap.size, 2, none⟩) hy0).trans y0_2; have t0_3 := (TT9.out.cell (p := ⟨w.heap.size, 3, none⟩) hy0).trans y0_3; have t0_4 := (TT9.out.cell (p := ⟨w.heap.size, 4, none⟩) hy0).trans y0_4; have t0_5 := (TT9.out.cell (p := ⟨w.heap.size, 5, none⟩) hy0).trans y0_5; have t0_6 := (TT9.out.cell (p := ⟨w.heap.size, 6, none⟩) hy0).trans y0_6; have t0_7 := (TT9.out.cell (p := ⟨w.heap.size, 7, none⟩) hy0).trans y0_7; have t0_8 := (TT9.out.cell (p := ⟨w.heap.size, 8, none⟩) hy0).trans y0_8; have t0_9 := (TT9.out.cell (p := ⟨w.heap.size, 9, none⟩) hy0).trans y0_9; have t0_10 := (TT9.out.cell (p := ⟨w.heap.size, 10, none⟩) hy0).trans y0_10))
  clear x0_0 x0_1 x0_2 x0_3 x0_4 x0_5 x0_6 x0_7 x0_8 x0_9 x0_10 y0_0 y0_1 y0_2 y0_3 y0_4 y0_5 y0_6 y0_7 y0_8 y0_9 y0_10 p0_0 p0_1 p0_2 p0_3 p0_4 p0_5 p0_6 p0_7 p0_8 p0_9 p0_10 o0_0 o0_1 o0_2 o0_3 o0_4 o0_5 o0_6 o0_7 o0_8 o0_9 o0_10 s0_0 s0_1 s0_2 s0_3 s0_4 s0_5 s0_6 s0_7 s0_8 s0_9 s0_10 t0_0 t0_1 t0_2 t0_3 t0_4 t0_5 t0_6 t0_7 t0_8 t0_9 t0_10 hx0 hy0 RZ0 RY0
  have D9 := Seg.hid TT9.out
  have B9 := Seg.hid (chain B8.out D9.out)
  have s9 : w8.heap.size ≤ w9.heap.size := D9.out.size
  have P0_9 := Seg.hid ((D9.out.block (w.heap.size) (Array.getElem?_eq_some_iff.1 P0_8.out).1).trans P0_8.out)
  clear P0_8
  have Wr0_9 := Seg.hid (LAt.below keepsI2 Wr0_8.out D9.out (fun g hg => by have := hg.2; omega))
  clear Wr0_8
  have RX0_9 := Seg.hid (Ow.QryOwn.keep RX0_8.out D9.out.size (fun g hg => D9.out.block g (by have := hg.2; omega)))
  clear RX0_8
  have X0_9 := Seg.hid ((D9.out.block (w5.heap.size) (Array.getElem?_eq_some_iff.1 X0_8.out).1).trans X0_8.out)
  clear X0_8
  have RX1_9 := Seg.hid (Ow.LOwn.belowO Ow.keepsOI RX1_8.out D9.out (fun g hg => by have := hg.2; omega))
  clear RX1_8
  have G0_9 := Seg.hid (Ow.LOwn.belowO Ow.keepsOI2 G0_8.out D9.out (fun g hg => by have := hg.2; omega))
  clear G0_8
  clear T9 TT9 st9
  go_wp2_with fail
  refine (toIntS_any _ u1 w9 (All w) (LAt.below keepsI (HV1.out) B9.out (fun g hg => hg)) (fun g hg => Nat.lt_of_lt_of_le hg B9.out.size) FW1.out).mono ?_
  rintro e w10 ⟨y10, rfl, h10, b10⟩
  have D10 := Seg.hid b10
  have B10 := Seg.hid (chain B9.out D10.out)
  have s10 : w9.heap.size ≤ w10.heap.size := D10.out.size
  have P0_10 := Seg.hid ((D10.out.block (w.heap.size) (Array.getElem?_eq_some_iff.1 P0_9.out).1).trans P0_9.out)
  clear P0_9
  have Wr0_10 := Seg.hid (LAt.below keepsI2 Wr0_9.out D10.out (fun g hg => by have := hg.2; omega))
  clear Wr0_9
  have RX0_10 := Seg.hid (Ow.QryOwn.keep RX0_9.out D10.out.size (fun g hg => D10.out.block g (by have := hg.2; omega)))
  clear RX0_9
  have X0_10 := Seg.hid ((D10.out.block (w5.heap.size) (Array.getElem?_eq_some_iff.1 X0_9.out).1).trans X0_9.out)
  clear X0_9
  have RX1_10 := Seg.hid (Ow.LOwn.belowO Ow.keepsOI RX1_9.out D10.out (fun g hg => by have := hg.2; omega))
  clear RX1_9
  have G0_10 := Seg.hid (Ow.LOwn.belowO Ow.keepsOI2 G0_9.out D10.out (fun g hg => by have := hg.2; omega))
  clear G0_9
  obtain ⟨A10, c10, rfl⟩ := h10.form
  have Z1_10 := Seg.hid h10
  clear b10 h10
  go_wp2_with fail
  refine (eqIntS_any _ _ u1 w10 _ _ (Ow.LOwn.lat growsI (fun _ _ _ _ h => h) RX1_10.out) Z1_10.out (fun g hg => by have := hg.2; omega) (fun g hg => by have := hg.2; omega)).mono ?_
  rintro e w11 ⟨rfl, b11⟩
  have D11 := Seg.hid b11
  have B11 := Seg.hid (chain B10.out D11.out)
  have s11 : w10.heap.size ≤ w11.heap.size := D11.out.size
  have P0_11 := Seg.hid ((D11.out.block (w.heap.size) (Array.getElem?_eq_some_iff.1 P0_10.out).1).trans P0_10.out)
  clear P0_10
  have Wr0_11 := Seg.hid (LAt.below keepsI2 Wr0_10.out D11.out (fun g hg => by have := hg.2; omega))
  clear Wr0_10
  have RX0_11 := Seg.hid (Ow.QryOwn.keep RX0_10.out D11.out.size (fun g hg => D11.out.block g (by have := hg.2; omega)))
  clear RX0_10
  have X0_11 := Seg.hid ((D11.out.block (w5.heap.size) (Array.getElem?_eq_some_iff.1 X0_10.out).1).trans X0_10.out)
  clear X0_10
  have RX1_11 := Seg.hid (Ow.LOwn.belowO Ow.keepsOI RX1_10.out D11.out (fun g hg => by have := hg.2; omega))
  clear RX1_10
  have G0_11 := Seg.hid (Ow.LOwn.belowO Ow.keepsOI2 G0_10.out D11.out (fun g hg => by have := hg.2; omega))
  clear G0_10
  have Z1_11 := Seg.hid (LAt.below keepsI Z1_10.out D11.out (fun g hg => by have := hg.2; omega))
  clear Z1_10
  clear b11
  clear Z1_11
  go_wp2_with (refine wpList_load_row rfl 34 _ rfl (w5.heap.size) rfl _ _ _ _ X0_11.out Try.underlying34 rfl infoQry ?_)
  refine (Ow.markQuery_own _ 1 rfl (seg (w4.heap.size) w5.heap.size) u0 w11 (by decide) (by have := MA0.out; omega) (fun g hg => by have := hg.2; omega) RX0_11.out).mono ?_
  rintro e w12 ⟨rfl, hm12, ft12⟩
  have s12 : w11.heap.size ≤ w12.heap.size := ft12.size
  have B12 := Seg.hid (B11.out.trans (ft12.toBelow (lo := w.heap.size) (fun y hy => by have := hy.1; omega) (by omega)))
  have P0_12 := Seg.hid ((ft12.block (w.heap.size) (Array.getElem?_eq_some_iff.1 P0_11.out).1 (fun hy => by have := hy.1; have := hy.2; omega)).trans P0_11.out)
  clear P0_11
  have Wr0_12 := Seg.hid (LAt.keep keepsI2 Wr0_11.out (fun g hg => ft12.block g (by have := hg.2; omega) (fun hy => by have := hy.1; have := hy.2; have := hg.1; have := hg.2; omega)))
  clear Wr0_11
  have X0_12 := Seg.hid ((ft12.block (w5.heap.size) (Array.getElem?_eq_some_iff.1 X0_11.out).1 (fun hy => by have := hy.1; have := hy.2; omega)).trans X0_11.out)
  clear X0_11
  have RX1_12 := Seg.hid (Ow.LOwn.footO Ow.keepsOI RX1_11.out ft12 (fun g hg => by have := hg.2; omega) (fun g hg hy => by have := hy.1; have := hy.2; have := hg.1; have := hg.2; omega))
  clear RX1_11
  have G0_12 := Seg.hid (Ow.LOwn.footO Ow.keepsOI2 G0_11.out ft12 (fun g hg => by have := hg.2; omega) (fun g hg hy => by have := hy.1; have := hy.2; have := hg.1; have := hg.2; omega))
  clear G0_11
  have RX0_12 := Seg.hid hm12
  clear RX0_11 hm12 ft12
  obtain ⟨K0, hK0⟩ : ∃ K, 1 + Ow.nQry u0 = K := ⟨_, rfl⟩
  rw [hK0]
  have kb0 : 0 < K0 ∧ K0 ≤ 1000000001 := by have := MA0.out; omega
  clear hK0
  clear RX0_12
  go_wp2_with fail
  refine (Ow.markIntS_own _ K0 rfl (seg (w5.heap.size + 1) w6.heap.size) u1 w12 (by omega) (by have := MA1.out; omega) RX1_12.out).mono ?_
  rintro e w13 ⟨rfl, hm13, ft13⟩
  have s13 : w12.heap.size ≤ w13.heap.size := ft13.size
  have B13 := Seg.hid (B12.out.trans (ft13.toBelow (lo := w.heap.size) (fun y hy => by have := hy.1; omega) (by omega)))
  have P0_13 := Seg.hid ((ft13.block (w.heap.size) (Array.getElem?_eq_some_iff.1 P0_12.out).1 (fun hy => by have := hy.1; have := hy.2; omega)).trans P0_12.out)
  clear P0_12
  have Wr0_13 := Seg.hid (LAt.keep keepsI2 Wr0_12.out (fun g hg => ft13.block g (by have := hg.2; omega) (fun hy => by have := hy.1; have := hy.2; have := hg.1; have := hg.2; omega)))
  clear Wr0_12
  have X0_13 := Seg.hid ((ft13.block (w5.heap.size) (Array.getElem?_eq_some_iff.1 X0_12.out).1 (fun hy => by have := hy.1; have := hy.2; omega)).trans X0_12.out)
  clear X0_12
  have G0_13 := Seg.hid (Ow.LOwn.footO Ow.keepsOI2 G0_12.out ft13 (fun g hg => by have := hg.2; omega) (fun g hg hy => by have := hy.1; have := hy.2; have := hg.1; have := hg.2; omega))
  clear G0_12
  have RX1_13 := Seg.hid hm13
  clear RX1_12 hm13 ft13
  obtain ⟨K1, hK1⟩ : ∃ K, K0 + tot Ow.nI u1 = K := ⟨_, rfl⟩
  rw [hK1]
  have kb1 : 0 < K1 ∧ K1 ≤ 2000000001 := by have := MA1.out; omega
  clear hK1
  clear RX1_13
  clear X0_13
  have hK0 : (0 : Int) ≤ (K1 : Int) := by omega
  have hkd : decide ((K1 : Int) < 0) = false := decide_eq_false (by omega)
  go_wp2_with fail
  refine (eqIntSS_any _ _ R0 w13 _ _ (Ow.LOwn.lat growsI2 Ow.atOI2 G0_13.out) Wr0_13.out (fun g hg => by have := hg.2; omega) (fun g hg => by have := hg.2; omega)).mono ?_
  rintro e w14 ⟨rfl, b14⟩
  have D14 := Seg.hid b14
  have B14 := Seg.hid (chain B13.out D14.out)
  have s14 : w13.heap.size ≤ w14.heap.size := D14.out.size
  have P0_14 := Seg.hid ((D14.out.block (w.heap.size) (Array.getElem?_eq_some_iff.1 P0_13.out).1).trans P0_13.out)
  clear P0_13
  have Wr0_14 := Seg.hid (LAt.below keepsI2 Wr0_13.out D14.out (fun g hg => by have := hg.2; omega))
  clear Wr0_13
  have G0_14 := Seg.hid (Ow.LOwn.belowO Ow.keepsOI2 G0_13.out D14.out (fun g hg => by have := hg.2; omega))
  clear G0_13
  clear b14
  go_wp2_with fail
  refine (Ow.markIntSS_own _ 1 rfl (seg (w6.heap.size) w7.heap.size) R0 w14 (by decide) (by have := MR0.out; omega) G0_14.out).mono ?_
  rintro e w15 ⟨rfl, hm15, ft15⟩
  have s15 : w14.heap.size ≤ w15.heap.size := ft15.size
  have B15 := Seg.hid (B14.out.trans (ft15.toBelow (lo := w.heap.size) (fun y hy => by have := hy.1; omega) (by omega)))
  have P0_15 := Seg.hid ((ft15.block (w.heap.size) (Array.getElem?_eq_some_iff.1 P0_14.out).1 (fun hy => by have := hy.1; have := hy.2; omega)).trans P0_14.out)
  clear P0_14
  have Wr0_15 := Seg.hid (LAt.keep keepsI2 Wr0_14.out (fun g hg => ft15.block g (by have := hg.2; omega) (fun hy => by have := hy.1; have := hy.2; have := hg.1; have := hg.2; omega)))
  clear Wr0_14
  have G0_15 := Seg.hid hm15
  clear G0_14 hm15 ft15
  obtain ⟨M0, hM0⟩ : ∃ M, 1 + tot Ow.nI2 R0 = M := ⟨_, rfl⟩
  have HM0 := Seg.hid hM0
  rw [hM0]
  have mb0 : 0 < M0 ∧ M0 ≤ 1000000001 := by have := MR0.out; omega
  clear hM0
  go_wp2_with fail
  refine (Ow.heldIntSS_at _ 1 rfl (seg (w6.heap.size) w7.heap.size) R0 w15 (by decide) (by have := MR0.out; omega) (fun g hg => by have := hg.2; omega) (Ow.LOwn.lat growsI2 Ow.atOI2 G0_15.out)).mono ?_
  rintro e w16 ⟨rfl, b16⟩
  have D16 := Seg.hid b16
  have B16 := Seg.hid (chain B15.out D16.out)
  have s16 : w15.heap.size ≤ w16.heap.size := D16.out.size
  have P0_16 := Seg.hid ((D16.out.block (w.heap.size) (Array.getElem?_eq_some_iff.1 P0_15.out).1).trans P0_15.out)
  clear P0_15
  have Wr0_16 := Seg.hid (LAt.below keepsI2 Wr0_15.out D16.out (fun g hg => by have := hg.2; omega))
  clear Wr0_15
  have G0_16 := Seg.hid (Ow.LOwn.belowO Ow.keepsOI2 G0_15.out D16.out (fun g hg => by have := hg.2; omega))
  clear G0_15
  rw [HM0.out]
  clear b16
  have hM0 : ¬ (M0 : Int) < 0 := by omega
  have hM1 : ((M0 : Int) != (M0 : Int)) = false := by simp
  go_wp2_with (refine wpList_load_row rfl 26 _ rfl (w.heap.size) rfl _ _ _ _ P0_16.out Try.underlying26 rfl infoLQry ?_)
  refine (toQuery_any _ u0 w16 (All w) ((HV0.out).below B16.out (fun g hg => hg)) (fun g hg => Nat.lt_of_lt_of_le hg B16.out.size) FW0.out).mono ?_
  rintro e w17 ⟨y17, rfl, h17, b17⟩
  have D17 := Seg.hid b17
  have B17 := Seg.hid (chain B16.out D17.out)
  have s17 : w16.heap.size ≤ w17.heap.size := D17.out.size
  have P0_17 := Seg.hid ((D17.out.block (w.heap.size) (Array.getElem?_eq_some_iff.1 P0_16.out).1).trans P0_16.out)
  clear P0_16
  have Wr0_17 := Seg.hid (LAt.below keepsI2 Wr0_16.out D17.out (fun g hg => by have := hg.2; omega))
  clear Wr0_16
  have G0_17 := Seg.hid (Ow.LOwn.belowO Ow.keepsOI2 G0_16.out D17.out (fun g hg => by have := hg.2; omega))
  clear G0_16
  have T0_17 := Seg.hid h17
  obtain ⟨T17_5, t17_q5, T17_6, t17_q6, T17_10, t17_q10, e17⟩ := FQry.form h17
  subst e17
  clear b17 h17
  go_wp2_with fail
  refine (toIntS_any _ u1 w17 (All w) (LAt.below keepsI (HV1.out) B17.out (fun g hg => hg)) (fun g hg => Nat.lt_of_lt_of_le hg B17.out.size) FW1.out).mono ?_
  rintro e w18 ⟨y18, rfl, h18, b18⟩
  have D18 := Seg.hid b18
  have B18 := Seg.hid (chain B17.out D18.out)
  have s18 : w17.heap.size ≤ w18.heap.size := D18.out.size
  have P0_18 := Seg.hid ((D18.out.block (w.heap.size) (Array.getElem?_eq_some_iff.1 P0_17.out).1).trans P0_17.out)
  clear P0_17
  have Wr0_18 := Seg.hid (LAt.below keepsI2 Wr0_17.out D18.out (fun g hg => by have := hg.2; omega))
  clear Wr0_17
  have G0_18 := Seg.hid (Ow.LOwn.belowO Ow.keepsOI2 G0_17.out D18.out (fun g hg => by have := hg.2; omega))
  clear G0_17
  have T0_18 := Seg.hid (T0_17.out.below D18.out (fun g hg => by have := hg.2; omega))
  clear T0_17
  have T1_18 := Seg.hid h18
  obtain ⟨A18, c18, e18⟩ := h18.form
  subst e18
  clear b18 h18
  go_wp2_with fail
  refine (CI.out w18 _ _ ((T0_18.out).mono (fun g hg => by have := hg.2; omega)) (LAt.mono growsI (T1_18.out) (fun g hg => by have := hg.2; omega))).mono ?_
  rintro e w19 ⟨r19_0, rfl, h19_0, b19⟩
  have D19 := Seg.hid b19
  have B19 := Seg.hid (chain B18.out D19.out)
  have s19 : w18.heap.size ≤ w19.heap.size := D19.out.size
  have P0_19 := Seg.hid ((D19.out.block (w.heap.size) (Array.getElem?_eq_some_iff.1 P0_18.out).1).trans P0_18.out)
  clear P0_18
  have Wr0_19 := Seg.hid (LAt.below keepsI2 Wr0_18.out D19.out (fun g hg => by have := hg.2; omega))
  clear Wr0_18
  have G0_19 := Seg.hid (Ow.LOwn.belowO Ow.keepsOI2 G0_18.out D19.out (fun g hg => by have := hg.2; omega))
  clear G0_18
  have T0_19 := Seg.hid (T0_18.out.below D19.out (fun g hg => by have := hg.2; omega))
  clear T0_18
  have T1_19 := Seg.hid (LAt.below keepsI T1_18.out D19.out (fun g hg => by have := hg.2; omega))
  clear T1_18
  clear T0_19
  clear T1_19
  obtain ⟨A19_0, c19_0, rfl⟩ := Ow.LOwn.form h19_0
  have Hh0_19 := Seg.hid h19_0
  clear b19 h19_0
  go_wp2_with fail
  refine (eqIntSS_any _ _ R0 w19 _ _ (Ow.LOwn.lat growsI2 Ow.atOI2 Hh0_19.out) Wr0_19.out (fun g hg => by have := hg.2; omega) (fun g hg => by have := hg.2; omega)).mono ?_
  rintro e w20 ⟨rfl, b20⟩
  have D20 := Seg.hid b20
  have B20 := Seg.hid (chain B19.out D20.out)
  have s20 : w19.heap.size ≤ w20.heap.size := D20.out.size
  have P0_20 := Seg.hid ((D20.out.block (w.heap.size) (Array.getElem?_eq_some_iff.1 P0_19.out).1).trans P0_19.out)
  clear P0_19
  have Wr0_20 := Seg.hid (LAt.below keepsI2 Wr0_19.out D20.out (fun g hg => by have := hg.2; omega))
  clear Wr0_19
  have G0_20 := Seg.hid (Ow.LOwn.belowO Ow.keepsOI2 G0_19.out D20.out (fun g hg => by have := hg.2; omega))
  clear G0_19
  have Hh0_20 := Seg.hid (Ow.LOwn.belowO Ow.keepsOI2 Hh0_19.out D20.out (fun g hg => by have := hg.2; omega))
  clear Hh0_19
  clear b20
  clear Hh0_20
  go_wp2_with fail
  refine (Ow.heldIntSS_at _ 1 rfl (seg (w6.heap.size) w7.heap.size) R0 w20 (by decide) (by have := MR0.out; omega) (fun g hg => by have := hg.2; omega) (Ow.LOwn.lat growsI2 Ow.atOI2 G0_20.out)).mono ?_
  rintro e w21 ⟨rfl, b21⟩
  have D21 := Seg.hid b21
  have B21 := Seg.hid (chain B20.out D21.out)
  have s21 : w20.heap.size ≤ w21.heap.size := D21.out.size
  have P0_21 := Seg.hid ((D21.out.block (w.heap.size) (Array.getElem?_eq_some_iff.1 P0_20.out).1).trans P0_20.out)
  clear P0_20
  have Wr0_21 := Seg.hid (LAt.below keepsI2 Wr0_20.out D21.out (fun g hg => by have := hg.2; omega))
  clear Wr0_20
  have G0_21 := Seg.hid (Ow.LOwn.belowO Ow.keepsOI2 G0_20.out D21.out (fun g hg => by have := hg.2; omega))
  clear G0_20
  rw [HM0.out]
  clear b21
  go_wp2
  go_ret
  exact ⟨rfl, B21.out⟩
end Go.Proofs.Ytkibaimemomjpaa.ExWn
