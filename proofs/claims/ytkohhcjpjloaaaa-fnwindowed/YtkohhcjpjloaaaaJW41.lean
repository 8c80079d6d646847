/- The program's QueryOk; The program's Windows. -/
import Derived.Test.YtkohhcjpjloaaaaJW39
import Derived.Test.YtkohhcjpjloaaaaJW40
import Derived.Test.YtkohhcjpjloaaaaJW38
namespace Go.Proofs.Ytkohhcjpjloaaaa.XqI
set_option maxRecDepth 8000
open Go.RowKit
open Ls Lp QtP XsP XqP XbI QsI
open Recs (hsz below1 below2 chain)
set_option linter.unusedVariables false
set_option maxHeartbeats 6400000 in
theorem impl_any (v : Value) (q : Qry) (w : World) (S : Nat → Prop) (hv : QryAt w S v q) (hS : ∀ g, S g → g < w.heap.size) (hz : szQry q ≤ 1048576) : Calls Try.prog 14 #[v] w fun e w' => e = .returned (.bool (qOk q)) ∧ Below w.heap.size w w' := by
  obtain ⟨A5, c5, A6, c6, A10, c10, rfl, hl5, hl6, hl10⟩ := qform hv
  clear hv
  obtain ⟨R, hR⟩ : ∃ R, qOk q = R := ⟨_, rfl⟩
  rw [hR]
  unfold qOk at hR
  have TF : Hid (q.fr.size ≤ maxLen) := (sz_strs hz).1
  have CB : Hid (∀ wx, Below w.heap.size w wx → Calls Try.prog 26 #[.agg (qrow q A5 c5 A6 c6 A10 c10)] wx fun e w' => e = .returned (.bool (beP q.jn q.on q.lk q.wn)) ∧ Below wx.heap.size wx w') := fun wx b => be_any q A5 c5 A6 c6 A10 c10 wx hz
  have CC : Hid (∀ wx, Below w.heap.size w wx → Calls Try.prog 27 #[.slice A6 q.gps.length c6] wx fun e w' => e = .returned (.bool (cOk q.gps)) ∧ Below wx.heap.size wx w') := fun wx b => cols_any _ _ wx S (LAt.below keepsStr hl6 b hS) (fun y hy => Nat.lt_of_lt_of_le (hS y hy) b.size) (sz_gps hz)
  have CW : Hid (∀ wx, Below w.heap.size w wx → Calls Try.prog 28 #[.agg (qrow q A5 c5 A6 c6 A10 c10)] wx fun e w' => e = .returned (.bool (winP q.win q.size q.every q.gps.length)) ∧ Below wx.heap.size wx w') := fun wx b => XvI.win_any q A5 c5 A6 c6 A10 c10 wx
  have CX : Hid (∀ wx, Below w.heap.size w wx → Calls Try.prog 29 #[.slice A5 q.wh.length c5] wx fun e w' => e = .returned (.bool (stepsOk q.wh)) ∧ Below wx.heap.size wx w') := fun wx b => XsI.exp_any _ _ wx S (LAt.below keepsStp hl5 b hS) (fun y hy => Nat.lt_of_lt_of_le (hS y hy) b.size) (sz_wh hz)
  have CG : Hid (∀ wx, Below w.heap.size w wx → Calls Try.prog 30 #[.agg (qrow q A5 c5 A6 c6 A10 c10)] wx fun e w' => e = .returned (.bool (inR 1 q.gets.length 8 && q.gets.all (gtP (decide (0 < q.gps.length))))) ∧ Below wx.heap.size wx w') := fun wx b => XgI.gets_any q A5 c5 A6 c6 A10 c10 wx S (LAt.below keepsGqt hl10 b hS) (fun y hy => Nat.lt_of_lt_of_le (hS y hy) b.size) hz
  clear hl5 hl6 hl10 hz
  obtain ⟨K2, h2⟩ : ∃ K, beP q.jn q.on q.lk q.wn = K := ⟨_, rfl⟩
  obtain ⟨K3, h3⟩ : ∃ K, cOk q.gps = K := ⟨_, rfl⟩
  obtain ⟨K4, h4⟩ : ∃ K, winP q.win q.size q.every q.gps.length = K := ⟨_, rfl⟩
  obtain ⟨K5, h5⟩ : ∃ K, stepsOk q.wh = K := ⟨_, rfl⟩
  obtain ⟨K6, h6⟩ : ∃ K, (inR 1 q.gets.length 8 && q.gets.all (gtP (decide (0 < q.gps.length)))) = K := ⟨_, rfl⟩
  rw [h2] at CB
  rw [h3] at CC
  rw [h4] at CW
  rw [h5] at CX
  rw [h6] at CG
  rw [h2, h3, h4, h5, h6] at hR
  clear h2 h3 h4 h5 h6
  have HR := Seg.hid hR
  clear hR
  obtain ⟨W0, hW0⟩ : ∃ W0, w.alloc (.cells (qrow q A5 c5 A6 c6 A10 c10) 28 (0, 0)) = W0 := ⟨_, rfl⟩
  have T0 : Hid (W0.heap[w.heap.size]? = some (.cells (qrow q A5 c5 A6 c6 A10 c10) 28 (0, 0))) := by show _ = _; rw [← hW0]; exact heap_alloc_new _ _
  have N0 : Hid (Below w.heap.size w W0) := by show Below _ _ _; rw [← hW0]; exact below1 _ _
  obtain ⟨q0, q1, q2, q3, q4, q5, q6, q7, q8, q9, q10⟩ := qcells T0.out
  go_enter Try.func14, Try.ntmps14
  cases n1 : Nm.nameOk q.fr with
  | false =>
    have H1 := Seg.hid n1
    have RF : Hid (R = false) := by show _ = _; rw [← HR.out, H1.out]; rfl
    clear n1
    go_wp2_with (go_at_call 25; refine (Nm.impl_q _ _ H1.out _ TF.out).mono ?_; rintro e7 w6 ⟨rfl, rfl⟩)
    go_ret
    exact ⟨by rw [RF.out]; rfl, N0.out⟩
  | true =>
  have H1 := Seg.hid n1
  clear n1
  go_wp2_with (go_at_call 25; refine (Nm.impl_q _ _ H1.out _ TF.out).mono ?_; rintro e7 w6 ⟨rfl, rfl⟩)
  clear hW0
  refine (CB.out _ N0.out).mono ?_
  rintro e1 w1 ⟨rfl, b1⟩
  have B1 := Seg.hid (chain N0.out b1)
  have T1 := Seg.hid ((b1.block _ (Array.getElem?_eq_some_iff.1 T0.out).1).trans T0.out)
  clear b1 q0 q1 q2 q3 q4 q5 q6 q7 q8 q9 q10
  obtain ⟨m0, m1, m2, m3, m4, m5, m6, m7, m8, m9, m10⟩ := qcells T1.out
  cases K2 with
  | false =>
    have RF : Hid (R = false) := by show _ = _; rw [← HR.out, H1.out]; simp
    go_wp2
    go_ret
    exact ⟨by rw [RF.out]; rfl, B1.out⟩
  | true =>
  go_wp2_with fail
  refine (CC.out _ B1.out).mono ?_
  rintro e2 w2 ⟨rfl, b2⟩
  have B2 := Seg.hid (chain B1.out b2)
  have T2 := Seg.hid ((b2.block _ (Array.getElem?_eq_some_iff.1 T1.out).1).trans T1.out)
  clear b2 m0 m1 m2 m3 m4 m5 m6 m7 m8 m9 m10
  obtain ⟨n0, n1, n2, n3, n4, n5, n6, n7, n8, n9, n10⟩ := qcells T2.out
  cases K3 with
  | false =>
    have RF : Hid (R = false) := by show _ = _; rw [← HR.out, H1.out]; simp
    go_wp2
    go_ret
    exact ⟨by rw [RF.out]; rfl, B2.out⟩
  | true =>
  go_wp2_with fail
  refine (CW.out _ B2.out).mono ?_
  rintro e3 w3 ⟨rfl, b3⟩
  have B3 := Seg.hid (chain B2.out b3)
  have T3 := Seg.hid ((b3.block _ (Array.getElem?_eq_some_iff.1 T2.out).1).trans T2.out)
  clear b3 n0 n1 n2 n3 n4 n5 n6 n7 n8 n9 n10
  obtain ⟨p0, p1, p2, p3, p4, p5, p6, p7, p8, p9, p10⟩ := qcells T3.out
  cases K4 with
  | false =>
    have RF : Hid (R = false) := by show _ = _; rw [← HR.out, H1.out]; simp
    go_wp2
    go_ret
    exact ⟨by rw [RF.out]; rfl, B3.out⟩
  | true =>
  by_cases l0 : q.wh.length = 0
  · have l1 : ((q.wh.length : Int) == 0) = true := by simpa using l0
    have RF : Hid (R = K6) := by show _ = _; rw [← HR.out, H1.out, decide_eq_true l0]; simp
    clear l0
    go_wp2_with fail
    refine (CG.out _ B3.out).mono ?_
    rintro e4 w4 ⟨rfl, b4⟩
    have B4 := Seg.hid (chain B3.out b4)
    clear b4
    go_wp2
    go_ret
    exact ⟨by rw [RF.out]; rfl, B4.out⟩
  · have l1 : ((q.wh.length : Int) == 0) = false := by simpa using l0
    have RF : Hid (R = (K5 && K6)) := by show _ = _; rw [← HR.out, H1.out, decide_eq_false l0]; simp
    clear l0
    go_wp2_with fail
    refine (CX.out _ B3.out).mono ?_
    rintro e4 w4 ⟨rfl, b4⟩
    have B4 := Seg.hid (chain B3.out b4)
    have T4 := Seg.hid ((b4.block _ (Array.getElem?_eq_some_iff.1 T3.out).1).trans T3.out)
    clear b4 p0 p1 p2 p3 p4 p5 p6 p7 p8 p9 p10
    obtain ⟨r0, r1, r2, r3, r4, r5, r6, r7, r8, r9, r10⟩ := qcells T4.out
    cases K5 with
    | false =>
      go_wp2
      go_ret
      exact ⟨by rw [RF.out]; rfl, B4.out⟩
    | true =>
      go_wp2_with fail
      refine (CG.out _ B4.out).mono ?_
      rintro e5 w5 ⟨rfl, b5⟩
      have B5 := Seg.hid (chain B4.out b5)
      clear b5
      go_wp2
      go_ret
      exact ⟨by rw [RF.out]; rfl, B5.out⟩
end Go.Proofs.Ytkohhcjpjloaaaa.XqI
namespace Go.Proofs.Ytkohhcjpjloaaaa.WiI
set_option maxRecDepth 8000
open Go.RowKit
open Ls Lp QyP QsP QtP XqP RkP IrA SrP WnP WnI SnI
open Recs (hsz below1 below2 chain)
set_option linter.unusedVariables false
def allW (n : Nat) : List (List Int) := if n = 0 then [] else [[0, 1000000000001]]
def winsW (q : Qry) (ts : List Int) : List (List Int) :=
  if (qOk q && (decide (0 < q.gps.length) && timesB ts)) = true then
    (if q.win = 1 then winW q.size (cutS q.size q.size ts) else if q.win = 2 then winW q.size (cutS q.size q.every ts) else if q.win = 3 then sesK q.size (srt ts) ts.length else allW ts.length)
  else []
theorem empty_i2 (w : World) : Ow.LGrow 29 1 Ow.EOI2 (w.alloc (.cells #[] 29 (0, 0))) w.heap.size (.slice (some ⟨w.heap.size, 0, none⟩) 0 0) ([] : List (List Int)) :=
  Ow.LGrow.empty ⟨rfl, .inr ⟨w.heap.size, 0, #[], rfl, Nat.le_refl _, heap_alloc_new _ _, by simp, by unfold maxLen; omega, by simp, by simp⟩⟩
set_option maxHeartbeats 1600000 in
theorem all_any (A : Option Addr) (n c : Nat) (w : World) (hn : n ≤ 1048576) : Calls Try.prog 19 #[.slice A n c] w fun e w' => ∃ v, e = .returned v ∧ (∃ B, w.heap.size ≤ B ∧ Ow.LGrow 29 1 Ow.EOI2 w' B v (allW n)) ∧ Below w.heap.size w w' := by
  go_enter Try.func19, Try.ntmps19
  by_cases h0 : n = 0
  · have b0 : ((n : Int) == 0) = true := by simp; omega
    have HA : Hid (allW n = []) := by show _ = _; unfold allW; rw [if_pos h0]
    clear h0
    go_wp2
    go_ret
    exact ⟨_, rfl, ⟨w.heap.size, Nat.le_refl _, by rw [HA.out]; exact empty_i2 w⟩, below1 w _⟩
  · have b0 : ((n : Int) == 0) = false := by simp; omega
    have HA : Hid (allW n = [[0, 1000000000001]]) := by show _ = _; unfold allW; rw [if_neg h0]
    clear h0
    go_wp2
    go_ret
    refine ⟨_, rfl, ⟨w.heap.size, Nat.le_refl _, ?_⟩, below2 w _ _⟩
    rw [HA.out]
    refine ⟨fun _ => .slice (some ⟨w.heap.size, 0, none⟩) 2 2, fun _ y => y = w.heap.size, ⟨rfl, .inr ⟨w.heap.size + 1, 1, _, rfl, by omega, new2 _ _ _, by simp, by unfold maxLen; omega, by simp, by simp⟩⟩, fun i hi => ?_, fun i hi y hy => ?_, fun i j hi hj hij => ?_⟩
    · obtain rfl : i = 0 := by simp at hi; omega
      exact Ow.two_own (((below1 _ _).block _ (by rw [hsz]; omega)).trans (heap_alloc_new _ _)) rfl
    · subst hy
      refine ⟨Nat.le_refl _, by rw [hsz, hsz]; omega, fun e => ?_⟩
      simp [Value.ownBlock] at e
    · simp at hi hj; omega
set_option maxHeartbeats 6400000 in
theorem impl_any (x y : Value) (q : Qry) (ts : List Int) (w : World) (S : Nat → Prop) (hx : QryAt w S x q) (hv : IntsAt w S y ts) (hS : ∀ g, S g → g < w.heap.size) (hz : szQry q ≤ 1048576) (hf : ts.length ≤ 1048576) :
    Calls Try.prog 6 #[x, y] w fun e w' => ∃ v, e = .returned v ∧ (∃ B, w.heap.size ≤ B ∧ Ow.LGrow 29 1 Ow.EOI2 w' B v (winsW q ts)) ∧ Below w.heap.size w w' := by
  have HX := Seg.hid hx
  obtain ⟨A5, c5, A6, c6, A10, c10, rfl, hl5, hl6, hl10⟩ := qform hx
  have HV := Seg.hid hv
  obtain ⟨A0, c0, rfl⟩ := hv.form
  clear hv hx hl5 hl6 hl10
  have CQ : Hid (∀ wx, Below w.heap.size w wx → Calls Try.prog 14 #[.agg (qrow q A5 c5 A6 c6 A10 c10)] wx fun e w' => e = .returned (.bool (qOk q)) ∧ Below wx.heap.size wx w') := fun wx b => XqI.impl_any _ q wx S (HX.out.below b hS) (fun y hy => Nat.lt_of_lt_of_le (hS y hy) b.size) hz
  have CG : Hid (∀ (b : Bool), decide (0 < q.gps.length) = b → ∀ wx, Calls Try.prog 15 #[.agg (qrow q A5 c5 A6 c6 A10 c10)] wx fun e w' => e = .returned (.bool b) ∧ Below wx.heap.size wx w') := fun b hb wx => XbI.grp_any q A5 c5 A6 c6 A10 c10 wx b hb
  have CT : Hid (∀ wx, Below w.heap.size w wx → Calls Try.prog 16 #[.slice A0 ts.length c0] wx fun e w' => e = .returned (.bool (timesB ts)) ∧ wx = w') := fun wx b => times_any _ ts wx S (LAt.below keepsI HV.out b hS) (fun y hy => Nat.lt_of_lt_of_le (hS y hy) b.size)
  have CA : Hid (∀ wx, Calls Try.prog 19 #[.slice A0 ts.length c0] wx fun e w' => ∃ v, e = .returned v ∧ (∃ B, wx.heap.size ≤ B ∧ Ow.LGrow 29 1 Ow.EOI2 w' B v (allW ts.length)) ∧ Below wx.heap.size wx w') := fun wx => all_any A0 ts.length c0 wx hf
  obtain ⟨W0, hW0⟩ : ∃ W0, w.alloc (.cells (qrow q A5 c5 A6 c6 A10 c10) 28 (0, 0)) = W0 := ⟨_, rfl⟩
  have T0 : Hid (W0.heap[w.heap.size]? = some (.cells (qrow q A5 c5 A6 c6 A10 c10) 28 (0, 0))) := by show _ = _; rw [← hW0]; exact heap_alloc_new _ _
  have N0 : Hid (Below w.heap.size w W0) := by show Below _ _ _; rw [← hW0]; exact below1 _ _
  obtain ⟨p0, p1, p2, p3, p4, p5, p6, p7, p8, p9, p10⟩ := qcells T0.out
  obtain ⟨RR, hRR⟩ : ∃ R, winsW q ts = R := ⟨_, rfl⟩
  rw [hRR]
  unfold winsW at hRR
  have HRR := Seg.hid hRR
  clear hRR
  have HQ : Hid (qOk q = true → winP q.win q.size q.every q.gps.length = true) := fun h => by
    unfold qOk at h
    simp only [Bool.and_eq_true] at h
    exact h.2.2.2.1
  cases k1 : qOk q with
  | false =>
    have RN : Hid (RR = []) := by show _ = _; rw [← HRR.out, k1]; rfl
    rw [k1] at CQ
    clear k1
    go_enter Try.func6, Try.ntmps6
    go_wp2_with (go_at_call 14; refine (CQ.out _ N0.out).mono ?_; rintro e w1 ⟨rfl, b1⟩; have B1 := Seg.hid (chain N0.out b1); clear b1)
    go_ret
    exact ⟨_, rfl, ⟨_, B1.out.size, by rw [RN.out]; exact empty_i2 _⟩, chain B1.out (below1 _ _)⟩
  | true =>
    have WP := Seg.hid (HQ.out k1)
    rw [k1, Bool.true_and] at HRR
    rw [k1] at CQ
    clear k1 HQ
    go_enter Try.func6, Try.ntmps6
    cases k2 : decide (0 < q.gps.length) with
    | false =>
      have HG := Seg.hid k2
      have RN : Hid (RR = []) := by show _ = _; rw [← HRR.out, k2]; rfl
      clear k2
      go_wp2_with (first | (go_at_call 14; refine (CQ.out _ N0.out).mono ?_; rintro e w1 ⟨rfl, b1⟩; have B1 := Seg.hid (chain N0.out b1); have T1 := Seg.hid ((b1.block _ (Array.getElem?_eq_some_iff.1 T0.out).1).trans T0.out); obtain ⟨g0, g1, g2, g3, g4, g5, g6, g7, g8, g9, g10⟩ := qcells T1.out; clear b1) | (go_at_call 15; refine (CG.out false HG.out _).mono ?_; rintro e w2 ⟨rfl, b2⟩; have B2 := Seg.hid (chain B1.out b2); have T2 := Seg.hid ((b2.block _ (Array.getElem?_eq_some_iff.1 T1.out).1).trans T1.out); obtain ⟨r0, r1, r2, r3, r4, r5, r6, r7, r8, r9, r10⟩ := qcells T2.out; clear b2))
      go_ret
      exact ⟨_, rfl, ⟨_, B2.out.size, by rw [RN.out]; exact empty_i2 _⟩, chain B2.out (below1 _ _)⟩
    | true =>
    have HG := Seg.hid k2
    rw [k2, Bool.true_and] at HRR
    clear k2
    cases k3 : timesB ts with
    | false =>
      have RN : Hid (RR = []) := by show _ = _; rw [← HRR.out, k3]; rfl
      rw [k3] at CT
      clear k3
      go_wp2_with (first | (go_at_call 14; refine (CQ.out _ N0.out).mono ?_; rintro e w1 ⟨rfl, b1⟩; have B1 := Seg.hid (chain N0.out b1); have T1 := Seg.hid ((b1.block _ (Array.getElem?_eq_some_iff.1 T0.out).1).trans T0.out); obtain ⟨g0, g1, g2, g3, g4, g5, g6, g7, g8, g9, g10⟩ := qcells T1.out; clear b1) | (go_at_call 15; refine (CG.out true HG.out _).mono ?_; rintro e w2 ⟨rfl, b2⟩; have B2 := Seg.hid (chain B1.out b2); have T2 := Seg.hid ((b2.block _ (Array.getElem?_eq_some_iff.1 T1.out).1).trans T1.out); obtain ⟨r0, r1, r2, r3, r4, r5, r6, r7, r8, r9, r10⟩ := qcells T2.out; clear b2) | (go_at_call 16; refine (CT.out _ B2.out).mono ?_; rintro e w3 ⟨rfl, rfl⟩))
      go_ret
      exact ⟨_, rfl, ⟨_, B2.out.size, by rw [RN.out]; exact empty_i2 _⟩, chain B2.out (below1 _ _)⟩
    | true =>
    rw [k3] at CT
    rw [k3, if_pos rfl] at HRR
    have k4 := k3
    unfold timesB at k4
    simp only [Bool.and_eq_true, decide_eq_true_eq] at k4
    have TK := Seg.hid k4
    clear k3 k4
    have WPO : Hid (winP q.win q.size q.every q.gps.length = true) := WP.out
    have CH : Hid (∀ ev, (1 ≤ q.size ∧ q.size ≤ 1000000000000) → (1 ≤ ev ∧ ev ≤ q.size) → q.size ≤ 20 * ev → ∀ wx, Below w.heap.size w wx → Calls Try.prog 17 #[.int .i64 q.size, .int .i64 ev, .slice A0 ts.length c0] wx fun e w' => ∃ v, e = .returned v ∧ (∃ B, wx.heap.size ≤ B ∧ Ow.LGrow 29 1 Ow.EOI2 w' B v (winW q.size (cutS q.size ev ts))) ∧ Below wx.heap.size wx w') := fun ev h1 h2 h3 wx b => hops_any q.size ev _ ts wx S (LAt.below keepsI HV.out b hS) (fun y hy => Nat.lt_of_lt_of_le (hS y hy) b.size) TK.out.1 TK.out.2 h1 h2 h3
    have CE : Hid ((1 ≤ q.size ∧ q.size ≤ 1000000000000) → ∀ wx, Below w.heap.size w wx → Calls Try.prog 18 #[.int .i64 q.size, .slice A0 ts.length c0] wx fun e w' => ∃ v, e = .returned v ∧ (∃ B, wx.heap.size ≤ B ∧ Ow.LGrow 29 1 Ow.EOI2 w' B v (sesK q.size (srt ts) ts.length)) ∧ Below wx.heap.size wx w') := fun h1 wx b => sessions_any q.size _ ts wx S (LAt.below keepsI HV.out b hS) (fun y hy => Nat.lt_of_lt_of_le (hS y hy) b.size) TK.out.1 TK.out.2 h1
    by_cases o1 : q.win = 1
    · have RN : Hid (RR = winW q.size (cutS q.size q.size ts)) := by show _ = _; rw [← HRR.out, if_pos o1]
      have SZ : Hid (1 ≤ q.size ∧ q.size ≤ 1000000000000) := by
        have h := WPO.out
        unfold winP at h
        rw [if_neg (by omega), if_pos (.inl o1)] at h
        simp only [Bool.and_eq_true] at h
        exact inR_true h.2.1
      have p1 : (q.win == 1) = true := by simpa using o1
      clear o1
      go_wp2_with (first | (go_at_call 14; refine (CQ.out _ N0.out).mono ?_; rintro e w1 ⟨rfl, b1⟩; have B1 := Seg.hid (chain N0.out b1); have T1 := Seg.hid ((b1.block _ (Array.getElem?_eq_some_iff.1 T0.out).1).trans T0.out); obtain ⟨g0, g1, g2, g3, g4, g5, g6, g7, g8, g9, g10⟩ := qcells T1.out; clear b1) | (go_at_call 15; refine (CG.out true HG.out _).mono ?_; rintro e w2 ⟨rfl, b2⟩; have B2 := Seg.hid (chain B1.out b2); have T2 := Seg.hid ((b2.block _ (Array.getElem?_eq_some_iff.1 T1.out).1).trans T1.out); obtain ⟨r0, r1, r2, r3, r4, r5, r6, r7, r8, r9, r10⟩ := qcells T2.out; clear b2) | (go_at_call 16; refine (CT.out _ B2.out).mono ?_; rintro e w3 ⟨rfl, rfl⟩) | (go_at_call 17; refine (CH.out q.size SZ.out ⟨SZ.out.1, Int.le_refl _⟩ (by have := SZ.out.1; omega) _ B2.out).mono ?_; rintro e w4 ⟨v4, rfl, h4, b4⟩; have R4 := Seg.hid h4; have B4 := Seg.hid (chain B2.out b4); clear h4 b4))
      go_ret
      obtain ⟨B, hB, hL⟩ := R4.out
      exact ⟨v4, rfl, ⟨B, Nat.le_trans B2.out.size hB, by rw [RN.out]; exact hL⟩, B4.out⟩
    have p1 : (q.win == 1) = false := by simpa using o1
    by_cases o2 : q.win = 2
    · have RN : Hid (RR = winW q.size (cutS q.size q.every ts)) := by show _ = _; rw [← HRR.out, if_neg o1, if_pos o2]
      have SZ : Hid ((1 ≤ q.size ∧ q.size ≤ 1000000000000) ∧ (1 ≤ q.every ∧ q.every ≤ q.size) ∧ q.size ≤ 20 * q.every) := by
        have h := WPO.out
        unfold winP at h
        rw [if_neg (by omega), if_neg (by omega), if_pos o2] at h
        simp only [Bool.and_eq_true, decide_eq_true_eq] at h
        exact ⟨inR_true h.2.1, inR_true h.2.2.1, h.2.2.2⟩
      have p2 : (q.win == 2) = true := by simpa using o2
      clear o1 o2
      go_wp2_with (first | (go_at_call 14; refine (CQ.out _ N0.out).mono ?_; rintro e w1 ⟨rfl, b1⟩; have B1 := Seg.hid (chain N0.out b1); have T1 := Seg.hid ((b1.block _ (Array.getElem?_eq_some_iff.1 T0.out).1).trans T0.out); obtain ⟨g0, g1, g2, g3, g4, g5, g6, g7, g8, g9, g10⟩ := qcells T1.out; clear b1) | (go_at_call 15; refine (CG.out true HG.out _).mono ?_; rintro e w2 ⟨rfl, b2⟩; have B2 := Seg.hid (chain B1.out b2); have T2 := Seg.hid ((b2.block _ (Array.getElem?_eq_some_iff.1 T1.out).1).trans T1.out); obtain ⟨r0, r1, r2, r3, r4, r5, r6, r7, r8, r9, r10⟩ := qcells T2.out; clear b2) | (go_at_call 16; refine (CT.out _ B2.out).mono ?_; rintro e w3 ⟨rfl, rfl⟩) | (go_at_call 17; refine (CH.out q.every SZ.out.1 SZ.out.2.1 SZ.out.2.2 _ B2.out).mono ?_; rintro e w4 ⟨v4, rfl, h4, b4⟩; have R4 := Seg.hid h4; have B4 := Seg.hid (chain B2.out b4); clear h4 b4))
      go_ret
      obtain ⟨B, hB, hL⟩ := R4.out
      exact ⟨v4, rfl, ⟨B, Nat.le_trans B2.out.size hB, by rw [RN.out]; exact hL⟩, B4.out⟩
    have p2 : (q.win == 2) = false := by simpa using o2
    by_cases o3 : q.win = 3
    · have RN : Hid (RR = sesK q.size (srt ts) ts.length) := by show _ = _; rw [← HRR.out, if_neg o1, if_neg o2, if_pos o3]
      have SZ : Hid (1 ≤ q.size ∧ q.size ≤ 1000000000000) := by
        have h := WPO.out
        unfold winP at h
        rw [if_neg (by omega), if_pos (.inr o3)] at h
        simp only [Bool.and_eq_true] at h
        exact inR_true h.2.1
      have p3 : (q.win == 3) = true := by simpa using o3
      clear o1 o2 o3
      go_wp2_with (first | (go_at_call 14; refine (CQ.out _ N0.out).mono ?_; rintro e w1 ⟨rfl, b1⟩; have B1 := Seg.hid (chain N0.out b1); have T1 := Seg.hid ((b1.block _ (Array.getElem?_eq_some_iff.1 T0.out).1).trans T0.out); obtain ⟨g0, g1, g2, g3, g4, g5, g6, g7, g8, g9, g10⟩ := qcells T1.out; clear b1) | (go_at_call 15; refine (CG.out true HG.out _).mono ?_; rintro e w2 ⟨rfl, b2⟩; have B2 := Seg.hid (chain B1.out b2); have T2 := Seg.hid ((b2.block _ (Array.getElem?_eq_some_iff.1 T1.out).1).trans T1.out); obtain ⟨r0, r1, r2, r3, r4, r5, r6, r7, r8, r9, r10⟩ := qcells T2.out; clear b2) | (go_at_call 16; refine (CT.out _ B2.out).mono ?_; rintro e w3 ⟨rfl, rfl⟩) | (go_at_call 18; refine (CE.out SZ.out _ B2.out).mono ?_; rintro e w4 ⟨v4, rfl, h4, b4⟩; have R4 := Seg.hid h4; have B4 := Seg.hid (chain B2.out b4); clear h4 b4))
      go_ret
      obtain ⟨B, hB, hL⟩ := R4.out
      exact ⟨v4, rfl, ⟨B, Nat.le_trans B2.out.size hB, by rw [RN.out]; exact hL⟩, B4.out⟩
    have p3 : (q.win == 3) = false := by simpa using o3
    have RN : Hid (RR = allW ts.length) := by show _ = _; rw [← HRR.out, if_neg o1, if_neg o2, if_neg o3]
    clear o1 o2 o3
    go_wp2_with (first | (go_at_call 14; refine (CQ.out _ N0.out).mono ?_; rintro e w1 ⟨rfl, b1⟩; have B1 := Seg.hid (chain N0.out b1); have T1 := Seg.hid ((b1.block _ (Array.getElem?_eq_some_iff.1 T0.out).1).trans T0.out); obtain ⟨g0, g1, g2, g3, g4, g5, g6, g7, g8, g9, g10⟩ := qcells T1.out; clear b1) | (go_at_call 15; refine (CG.out true HG.out _).mono ?_; rintro e w2 ⟨rfl, b2⟩; have B2 := Seg.hid (chain B1.out b2); have T2 := Seg.hid ((b2.block _ (Array.getElem?_eq_some_iff.1 T1.out).1).trans T1.out); obtain ⟨r0, r1, r2, r3, r4, r5, r6, r7, r8, r9, r10⟩ := qcells T2.out; clear b2) | (go_at_call 16; refine (CT.out _ B2.out).mono ?_; rintro e w3 ⟨rfl, rfl⟩) | (go_at_call 19; refine (CA.out _).mono ?_; rintro e w4 ⟨v4, rfl, h4, b4⟩; have R4 := Seg.hid h4; have B4 := Seg.hid (chain B2.out b4); clear h4 b4))
    go_ret
    obtain ⟨B, hB, hL⟩ := R4.out
    exact ⟨v4, rfl, ⟨B, Nat.le_trans B2.out.size hB, by rw [RN.out]; exact hL⟩, B4.out⟩
end Go.Proofs.Ytkohhcjpjloaaaa.WiI
