/- The program's QueryOk. -/
import Derived.Test.YtkibaimemomjpaaJQ31
import Derived.Test.YtkibaimemomjpaaJQ32
namespace Go.Proofs.Ytkibaimemomjpaa.XqI
set_option maxRecDepth 8000
open Go.RowKit
open Ls Lp QtP XsP XqP XbI QsI
open Recs (hsz below1 below2 chain)
set_option linter.unusedVariables false
set_option maxHeartbeats 6400000 in
theorem impl_any (v : Value) (q : Qry) (w : World) (S : Nat → Prop) (hv : QryAt w S v q) (hS : ∀ g, S g → g < w.heap.size) (hz : szQry q ≤ 1048576) : Calls Try.prog 38 #[v] w fun e w' => e = .returned (.bool (qOk q)) ∧ Below w.heap.size w w' := by
  obtain ⟨A5, c5, A6, c6, A10, c10, rfl, hl5, hl6, hl10⟩ := qform hv
  clear hv
  obtain ⟨R, hR⟩ : ∃ R, qOk q = R := ⟨_, rfl⟩
  rw [hR]
  unfold qOk at hR
  have TF : Hid (q.fr.size ≤ maxLen) := (sz_strs hz).1
  have CB : Hid (∀ wx, Below w.heap.size w wx → Calls Try.prog 77 #[.agg (qrow q A5 c5 A6 c6 A10 c10)] wx fun e w' => e = .returned (.bool (beP q.jn q.on q.lk q.wn)) ∧ Below wx.heap.size wx w') := fun wx b => be_any q A5 c5 A6 c6 A10 c10 wx hz
  have CC : Hid (∀ wx, Below w.heap.size w wx → Calls Try.prog 78 #[.slice A6 q.gps.length c6] wx fun e w' => e = .returned (.bool (cOk q.gps)) ∧ Below wx.heap.size wx w') := fun wx b => cols_any _ _ wx S (LAt.below keepsStr hl6 b hS) (fun y hy => Nat.lt_of_lt_of_le (hS y hy) b.size) (sz_gps hz)
  have CW : Hid (∀ wx, Below w.heap.size w wx → Calls Try.prog 79 #[.agg (qrow q A5 c5 A6 c6 A10 c10)] wx fun e w' => e = .returned (.bool (winP q.win q.size q.every q.gps.length)) ∧ Below wx.heap.size wx w') := fun wx b => XvI.win_any q A5 c5 A6 c6 A10 c10 wx
  have CX : Hid (∀ wx, Below w.heap.size w wx → Calls Try.prog 80 #[.slice A5 q.wh.length c5] wx fun e w' => e = .returned (.bool (stepsOk q.wh)) ∧ Below wx.heap.size wx w') := fun wx b => XsI.exp_any _ _ wx S (LAt.below keepsStp hl5 b hS) (fun y hy => Nat.lt_of_lt_of_le (hS y hy) b.size) (sz_wh hz)
  have CG : Hid (∀ wx, Below w.heap.size w wx → Calls Try.prog 81 #[.agg (qrow q A5 c5 A6 c6 A10 c10)] wx fun e w' => e = .returned (.bool (inR 1 q.gets.length 8 && q.gets.all (gtP (decide (0 < q.gps.length))))) ∧ Below wx.heap.size wx w') := fun wx b => XgI.gets_any q A5 c5 A6 c6 A10 c10 wx S (LAt.below keepsGqt hl10 b hS) (fun y hy => Nat.lt_of_lt_of_le (hS y hy) b.size) hz
  clear hl5 hl6 hl10 hz
  obtain ⟨K2, h2⟩ : ∃ K, beP q.jn q.on q.lk q.wn = K := ⟨_, rfl⟩
  obtain ⟨K3, h3⟩ : ∃ K, cOk q.gps = K := ⟨_, rfl⟩
  obtain ⟨K4, h4⟩ : ∃ K, winP q.win q.size q.every q.gps.length = K := ⟨_, rfl⟩
  obtain ⟨K5, h5⟩ : ∃ K, stepsOk q.wh = K := ⟨_, rfl⟩
  obtain ⟨K6, h6⟩ : ∃ K, (inR 1 q.gets.length 8 && q.gets.all (gtP (decide (0 < q.gps.length)))) = K := ⟨_, rfl⟩
  rw [h2] at CB
  rw [h3] at CC
  rw [h4] at CW
  rw [h5] at CX
  rw [h6] at CG
  rw [h2, h3, h4, h5, h6] at hR
  clear h2 h3 h4 h5 h6
  have HR := Seg.hid hR
  clear hR
  obtain ⟨W0, hW0⟩ : ∃ W0, w.alloc (.cells (qrow q A5 c5 A6 c6 A10 c10) 34 (0, 0)) = W0 := ⟨_, rfl⟩
  have T0 : Hid (W0.heap[w.heap.size]? = some (.cells (qrow q A5 c5 A6 c6 A10 c10) 34 (0, 0))) := by show _ = _; rw [← hW0]; exact heap_alloc_new _ _
  have N0 : Hid (Below w.heap.size w W0) := by show Below _ _ _; rw [← hW0]; exact below1 _ _
  obtain ⟨q0, q1, q2, q3, q4, q5, q6, q7, q8, q9, q10⟩ := qcells T0.out
  go_enter Try.func38, Try.ntmps38
  cases n1 : Nm.nameOk q.fr with
  | false =>
    have H1 := Seg.hid n1
    have RF : Hid (R = false) := by show _ = _; rw [← HR.out, H1.out]; rfl
    clear n1
    go_wp2_with (go_at_call 76; refine (Nm.impl_q _ _ H1.out _ TF.out).mono ?_; rintro e7 w6 ⟨rfl, rfl⟩)
    go_ret
    exact ⟨by rw [RF.out]; rfl, N0.out⟩
  | true =>
  have H1 := Seg.hid n1
  clear n1
  go_wp2_with (go_at_call 76; refine (Nm.impl_q _ _ H1.out _ TF.out).mono ?_; rintro e7 w6 ⟨rfl, rfl⟩)
  clear hW0
  refine (CB.out _ N0.out).mono ?_
  rintro e1 w1 ⟨rfl, b1⟩
  have B1 := Seg.hid (chain N0.out b1)
  have T1 := Seg.hid ((b1.block _ (Array.getElem?_eq_some_iff.1 T0.out).1).trans T0.out)
  clear b1 q0 q1 q2 q3 q4 q5 q6 q7 q8 q9 q10
  obtain ⟨m0, m1, m2, m3, m4, m5, m6, m7, m8, m9, m10⟩ := qcells T1.out
  cases K2 with
  | false =>
    have RF : Hid (R = false) := by show _ = _; rw [← HR.out, H1.out]; simp
    go_wp2
    go_ret
    exact ⟨by rw [RF.out]; rfl, B1.out⟩
  | true =>
  go_wp2_with fail
  refine (CC.out _ B1.out).mono ?_
  rintro e2 w2 ⟨rfl, b2⟩
  have B2 := Seg.hid (chain B1.out b2)
  have T2 := Seg.hid ((b2.block _ (Array.getElem?_eq_some_iff.1 T1.out).1).trans T1.out)
  clear b2 m0 m1 m2 m3 m4 m5 m6 m7 m8 m9 m10
  obtain ⟨n0, n1, n2, n3, n4, n5, n6, n7, n8, n9, n10⟩ := qcells T2.out
  cases K3 with
  | false =>
    have RF : Hid (R = false) := by show _ = _; rw [← HR.out, H1.out]; simp
    go_wp2
    go_ret
    exact ⟨by rw [RF.out]; rfl, B2.out⟩
  | true =>
  go_wp2_with fail
  refine (CW.out _ B2.out).mono ?_
  rintro e3 w3 ⟨rfl, b3⟩
  have B3 := Seg.hid (chain B2.out b3)
  have T3 := Seg.hid ((b3.block _ (Array.getElem?_eq_some_iff.1 T2.out).1).trans T2.out)
  clear b3 n0 n1 n2 n3 n4 n5 n6 n7 n8 n9 n10
  obtain ⟨p0, p1, p2, p3, p4, p5, p6, p7, p8, p9, p10⟩ := qcells T3.out
  cases K4 with
  | false =>
    have RF : Hid (R = false) := by show _ = _; rw [← HR.out, H1.out]; simp
    go_wp2
    go_ret
    exact ⟨by rw [RF.out]; rfl, B3.out⟩
  | true =>
  by_cases l0 : q.wh.length = 0
  · have l1 : ((q.wh.length : Int) == 0) = true := by simpa using l0
    have RF : Hid (R = K6) := by show _ = _; rw [← HR.out, H1.out, decide_eq_true l0]; simp
    clear l0
    go_wp2_with fail
    refine (CG.out _ B3.out).mono ?_
    rintro e4 w4 ⟨rfl, b4⟩
    have B4 := Seg.hid (chain B3.out b4)
    clear b4
    go_wp2
    go_ret
    exact ⟨by rw [RF.out]; rfl, B4.out⟩
  · have l1 : ((q.wh.length : Int) == 0) = false := by simpa using l0
    have RF : Hid (R = (K5 && K6)) := by show _ = _; rw [← HR.out, H1.out, decide_eq_false l0]; simp
    clear l0
    go_wp2_with fail
    refine (CX.out _ B3.out).mono ?_
    rintro e4 w4 ⟨rfl, b4⟩
    have B4 := Seg.hid (chain B3.out b4)
    have T4 := Seg.hid ((b4.block _ (Array.getElem?_eq_some_iff.1 T3.out).1).trans T3.out)
    clear b4 p0 p1 p2 p3 p4 p5 p6 p7 p8 p9 p10
    obtain ⟨r0, r1, r2, r3, r4, r5, r6, r7, r8, r9, r10⟩ := qcells T4.out
    cases K5 with
    | false =>
      go_wp2
      go_ret
      exact ⟨by rw [RF.out]; rfl, B4.out⟩
    | true =>
      go_wp2_with fail
      refine (CG.out _ B4.out).mono ?_
      rintro e5 w5 ⟨rfl, b5⟩
      have B5 := Seg.hid (chain B4.out b5)
      clear b5
      go_wp2
      go_ret
      exact ⟨by rw [RF.out]; rfl, B5.out⟩
end Go.Proofs.Ytkibaimemomjpaa.XqI
