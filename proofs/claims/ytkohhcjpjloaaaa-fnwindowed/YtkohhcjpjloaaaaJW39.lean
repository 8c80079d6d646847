/- The program's Query.grouped, besideOk, windowOk; The program's Query.windowOk. -/
import Derived.Deep.Cut
import Derived.Test.YtkohhcjpjloaaaaJW18
import Derived.Test.YtkohhcjpjloaaaaJW15
import Derived.Test.YtkohhcjpjloaaaaJW07
namespace Go.Proofs.Ytkohhcjpjloaaaa.XbI
set_option maxRecDepth 8000
open Go.RowKit
open Ls Lp QtP XsP XqP
open Recs (hsz below1 below2 chain)
set_option linter.unusedVariables false
theorem grp_any (q : Qry) (A5 : Option Addr) (c5 : Nat) (A6 : Option Addr) (c6 : Nat) (A10 : Option Addr) (c10 : Nat) (w : World) (b : Bool) (hb : decide (0 < q.gps.length) = b) : Calls Try.prog 15 #[.agg (qrow q A5 c5 A6 c6 A10 c10)] w fun e w' => e = .returned (.bool b) ∧ Below w.heap.size w w' := by
  have HB := Seg.hid hb
  clear hb
  go_enter Try.func15, Try.ntmps15
  by_cases h0 : 0 < q.gps.length
  · have h1 : (0 : Int) < (q.gps.length : Int) := by omega
    go_wp2
    go_ret
    exact ⟨by rw [← HB.out, decide_eq_true h0]; rfl, below1 _ _⟩
  · have h1 : ¬ (0 : Int) < (q.gps.length : Int) := by omega
    go_wp2
    go_ret
    exact ⟨by rw [← HB.out, decide_eq_false h0]; rfl, below1 _ _⟩
set_option maxHeartbeats 3200000 in
theorem be_any (q : Qry) (A5 : Option Addr) (c5 : Nat) (A6 : Option Addr) (c6 : Nat) (A10 : Option Addr) (c10 : Nat) (w : World) (hz : szQry q ≤ 1048576) : Calls Try.prog 26 #[.agg (qrow q A5 c5 A6 c6 A10 c10)] w fun e w' => e = .returned (.bool (beP q.jn q.on q.lk q.wn)) ∧ Below w.heap.size w w' := by
  obtain ⟨R, hR⟩ : ∃ R, beP q.jn q.on q.lk q.wn = R := ⟨_, rfl⟩
  rw [hR]
  unfold beP at hR
  obtain ⟨z0, z1, z2, z3⟩ := sz_strs hz
  have Sjn := Seg.hid z1
  have Son := Seg.hid z2
  have Slk := Seg.hid z3
  clear z0 z1 z2 z3 hz
  obtain ⟨ej, hej⟩ : ∃ e, (q.jn.toList == []) = e := ⟨_, rfl⟩
  have EJ : Hid (em q.jn = ej) := hej
  obtain ⟨el, hel⟩ : ∃ e, (q.lk.toList == []) = e := ⟨_, rfl⟩
  have EL : Hid (em q.lk = el) := hel
  obtain ⟨eo, heo⟩ : ∃ e, (q.on.toList == []) = e := ⟨_, rfl⟩
  have EO : Hid (em q.on = eo) := heo
  rw [EJ.out, EL.out, EO.out] at hR
  go_enter Try.func26, Try.ntmps26
  cases ej <;> cases el
  · -- both
    have RF : Hid (R = false) := by show _ = _; rw [← hR]; rfl
    clear hR
    go_wp2
    go_ret
    exact ⟨by rw [RF.out]; rfl, below1 _ _⟩
  · rw [if_neg (by decide), if_pos rfl] at hR
    cases n1 : Nm.nameOk q.jn with
    | false =>
      have H1 := Seg.hid n1
      have RF : Hid (R = false) := by show _ = _; rw [← hR, H1.out]; rfl
      clear hR
      go_wp2_with (first | (go_at_call_of 25 (Value.string q.jn); refine (Nm.impl_q _ _ H1.out _ Sjn.out).mono ?_; rintro e7 w6 ⟨rfl, rfl⟩))
      go_ret
      exact ⟨by rw [RF.out]; rfl, below1 _ _⟩
    | true =>
      have H1 := Seg.hid n1
      clear n1
      cases n2 : Nm.nameOk q.on with
      | false =>
        have H2 := Seg.hid n2
        clear n2
        have RF : Hid (R = false) := by show _ = _; rw [← hR, H1.out, H2.out]; rfl
        clear hR
        go_wp2_with (first | (go_at_call_of 25 (Value.string q.jn); refine (Nm.impl_q _ _ H1.out _ Sjn.out).mono ?_; rintro e7 w6 ⟨rfl, rfl⟩) | (go_at_call_of 25 (Value.string q.on); refine (Nm.impl_q _ _ H2.out _ Son.out).mono ?_; rintro e7 w6 ⟨rfl, rfl⟩))
        go_ret
        exact ⟨by rw [RF.out]; rfl, below1 _ _⟩
      | true =>
        have H2 := Seg.hid n2
        clear n2
        cases n3 : inR 0 q.wn 1000000000000 with
        | false =>
          have H3 := Seg.hid n3
          clear n3
          have RF : Hid (R = false) := by show _ = _; rw [← hR, H1.out, H2.out, H3.out]; rfl
          clear hR
          go_wp2_with (first | (go_at_call_of 25 (Value.string q.jn); refine (Nm.impl_q _ _ H1.out _ Sjn.out).mono ?_; rintro e7 w6 ⟨rfl, rfl⟩) | (go_at_call_of 25 (Value.string q.on); refine (Nm.impl_q _ _ H2.out _ Son.out).mono ?_; rintro e7 w6 ⟨rfl, rfl⟩) | (go_at_call 31; refine (InB.within_b _ _ _ _ H3.out _).mono ?_; rintro e7 w6 ⟨rfl, rfl⟩))
          go_ret
          exact ⟨by rw [RF.out]; rfl, below1 _ _⟩
        | true =>
          have H3 := Seg.hid n3
          clear n3
          have RF : Hid (R = true) := by show _ = _; rw [← hR, H1.out, H2.out, H3.out]; rfl
          clear hR
          go_wp2_with (first | (go_at_call_of 25 (Value.string q.jn); refine (Nm.impl_q _ _ H1.out _ Sjn.out).mono ?_; rintro e7 w6 ⟨rfl, rfl⟩) | (go_at_call_of 25 (Value.string q.on); refine (Nm.impl_q _ _ H2.out _ Son.out).mono ?_; rintro e7 w6 ⟨rfl, rfl⟩) | (go_at_call 31; refine (InB.within_b _ _ _ _ H3.out _).mono ?_; rintro e7 w6 ⟨rfl, rfl⟩))
          go_ret
          exact ⟨by rw [RF.out]; rfl, below1 _ _⟩
  · rw [if_neg (by decide), if_neg (by decide), if_pos rfl] at hR
    cases n1 : Nm.nameOk q.lk with
    | false =>
      have H1 := Seg.hid n1
      clear n1
      have RF : Hid (R = false) := by show _ = _; rw [← hR, H1.out]; rfl
      clear hR
      go_wp2_with (first | (go_at_call_of 25 (Value.string q.lk); refine (Nm.impl_q _ _ H1.out _ Slk.out).mono ?_; rintro e7 w6 ⟨rfl, rfl⟩))
      go_ret
      exact ⟨by rw [RF.out]; rfl, below1 _ _⟩
    | true =>
      have H1 := Seg.hid n1
      clear n1
      cases n2 : Nm.nameOk q.on with
      | false =>
        have H2 := Seg.hid n2
        clear n2
        have RF : Hid (R = false) := by show _ = _; rw [← hR, H1.out, H2.out]; rfl
        clear hR
        go_wp2_with (first | (go_at_call_of 25 (Value.string q.lk); refine (Nm.impl_q _ _ H1.out _ Slk.out).mono ?_; rintro e7 w6 ⟨rfl, rfl⟩) | (go_at_call_of 25 (Value.string q.on); refine (Nm.impl_q _ _ H2.out _ Son.out).mono ?_; rintro e7 w6 ⟨rfl, rfl⟩))
        go_ret
        exact ⟨by rw [RF.out]; rfl, below1 _ _⟩
      | true =>
        have H2 := Seg.hid n2
        clear n2
        by_cases h0 : q.wn = 0
        · have b0 : (q.wn == 0) = true := by simpa using h0
          rw [decide_eq_true h0] at hR
          have RF : Hid (R = true) := by show _ = _; rw [← hR, H1.out, H2.out]; rfl
          clear hR
          go_wp2_with (first | (go_at_call_of 25 (Value.string q.lk); refine (Nm.impl_q _ _ H1.out _ Slk.out).mono ?_; rintro e7 w6 ⟨rfl, rfl⟩) | (go_at_call_of 25 (Value.string q.on); refine (Nm.impl_q _ _ H2.out _ Son.out).mono ?_; rintro e7 w6 ⟨rfl, rfl⟩))
          go_ret
          exact ⟨by rw [RF.out]; rfl, below1 _ _⟩
        · have b0 : (q.wn == 0) = false := by simpa using h0
          rw [decide_eq_false h0] at hR
          have RF : Hid (R = false) := by show _ = _; rw [← hR, H1.out, H2.out]; rfl
          clear hR
          go_wp2_with (first | (go_at_call_of 25 (Value.string q.lk); refine (Nm.impl_q _ _ H1.out _ Slk.out).mono ?_; rintro e7 w6 ⟨rfl, rfl⟩) | (go_at_call_of 25 (Value.string q.on); refine (Nm.impl_q _ _ H2.out _ Son.out).mono ?_; rintro e7 w6 ⟨rfl, rfl⟩))
          go_ret
          exact ⟨by rw [RF.out]; rfl, below1 _ _⟩
  · rw [if_pos rfl] at hR
    by_cases h0 : q.wn = 0
    · have b0 : (q.wn == 0) = true := by simpa using h0
      rw [decide_eq_true h0] at hR
      cases eo
      ·
        have RF : Hid (R = false) := by show _ = _; rw [← hR]; rfl
        clear hR
        go_wp2
        go_ret
        exact ⟨by rw [RF.out]; rfl, below1 _ _⟩
      ·
        have RF : Hid (R = true) := by show _ = _; rw [← hR]; rfl
        clear hR
        go_wp2
        go_ret
        exact ⟨by rw [RF.out]; rfl, below1 _ _⟩
    · have b0 : (q.wn == 0) = false := by simpa using h0
      rw [decide_eq_false h0] at hR
      have RF : Hid (R = false) := by show _ = _; rw [← hR]; rfl
      clear hR
      go_wp2
      go_ret
      exact ⟨by rw [RF.out]; rfl, below1 _ _⟩
end Go.Proofs.Ytkohhcjpjloaaaa.XbI
namespace Go.Proofs.Ytkohhcjpjloaaaa.XvI
set_option maxRecDepth 8000
open Go.RowKit
open Ls Lp QtP XsP XqP XbI
open Recs (hsz below1 below2 chain)
set_option linter.unusedVariables false
set_option maxHeartbeats 25600000 in
theorem win_any (q : Qry) (A5 : Option Addr) (c5 : Nat) (A6 : Option Addr) (c6 : Nat) (A10 : Option Addr) (c10 : Nat) (w : World) : Calls Try.prog 28 #[.agg (qrow q A5 c5 A6 c6 A10 c10)] w fun e w' => e = .returned (.bool (winP q.win q.size q.every q.gps.length)) ∧ Below w.heap.size w w' := by
  obtain ⟨R, hR⟩ : ∃ R, winP q.win q.size q.every q.gps.length = R := ⟨_, rfl⟩
  rw [hR]
  unfold winP at hR
  have CG : Hid (∀ (b : Bool), decide (0 < q.gps.length) = b → ∀ wx, Calls Try.prog 15 #[.agg (qrow q A5 c5 A6 c6 A10 c10)] wx fun e w' => e = .returned (.bool b) ∧ Below wx.heap.size wx w') := fun b hb wx => grp_any q A5 c5 A6 c6 A10 c10 wx b hb
  obtain ⟨W0, hW0⟩ : ∃ W0, w.alloc (.cells (qrow q A5 c5 A6 c6 A10 c10) 28 (0, 0)) = W0 := ⟨_, rfl⟩
  have T0 : Hid (W0.heap[w.heap.size]? = some (.cells (qrow q A5 c5 A6 c6 A10 c10) 28 (0, 0))) := by show _ = _; rw [← hW0]; exact heap_alloc_new _ _
  have N0 : Hid (Below w.heap.size w W0) := by show Below _ _ _; rw [← hW0]; exact below1 _ _
  obtain ⟨q0, q1, q2, q3, q4, q5, q6, q7, q8, q9, q10⟩ := qcells T0.out
  go_enter Try.func28, Try.ntmps28
  by_cases o0 : q.win = 0
  · have p0 : (q.win == 0) = true := by simpa using o0
    rw [if_pos o0] at hR
    by_cases h1 : q.size = 0
    · have b1 : (q.size == 0) = true := by simpa using h1
      by_cases h2 : q.every = 0
      · have b2 : (q.every == 0) = true := by simpa using h2
        rw [decide_eq_true h1, decide_eq_true h2] at hR
        have RF : Hid (R = true) := by show _ = _; rw [← hR]; rfl
        clear hR
        go_wp2
        go_ret
        exact ⟨by rw [RF.out]; rfl, N0.out⟩
      · have b2 : (q.every == 0) = false := by simpa using h2
        rw [decide_eq_true h1, decide_eq_false h2] at hR
        have RF : Hid (R = false) := by show _ = _; rw [← hR]; rfl
        clear hR
        go_wp2
        go_ret
        exact ⟨by rw [RF.out]; rfl, N0.out⟩
    · have b1 : (q.size == 0) = false := by simpa using h1
      rw [decide_eq_false h1] at hR
      have RF : Hid (R = false) := by show _ = _; rw [← hR]; rfl
      clear hR
      go_wp2
      go_ret
      exact ⟨by rw [RF.out]; rfl, N0.out⟩
  have p0 : (q.win == 0) = false := by simpa using o0
  rw [if_neg o0] at hR
  by_cases o1 : q.win = 1
  · have p1 : (q.win == 1) = true := by simpa using o1
    rw [if_pos (by omega)] at hR
    clear o1
    go_upto_region 6 with fail
    cases hg : decide (0 < q.gps.length) with
    | false =>
      have HG := Seg.hid hg
      rw [hg] at hR
      clear hg
      have RF : Hid (R = false) := by show _ = _; rw [← hR]; rfl
      clear hR
      go_wp2_with (first | (go_at_call 15; refine (CG.out false HG.out _).mono ?_; rintro e6 w6 ⟨rfl, b6⟩; have B6 := Seg.hid (chain N0.out b6); obtain ⟨g0, g1, g2, g3, g4, g5, g6, g7, g8, g9, g10⟩ := qcells ((b6.block _ (Array.getElem?_eq_some_iff.1 T0.out).1).trans T0.out); clear b6))
      go_ret
      exact ⟨by rw [RF.out]; rfl, B6.out⟩
    | true =>
      have HG := Seg.hid hg
      rw [hg] at hR
      clear hg
      cases n1 : inR 1 q.size 1000000000000 with
      | false =>
        have H1 := Seg.hid n1
        clear n1
        have RF : Hid (R = false) := by show _ = _; rw [← hR, H1.out]; rfl
        clear hR
        go_wp2_with (first | (go_at_call 15; refine (CG.out true HG.out _).mono ?_; rintro e6 w6 ⟨rfl, b6⟩; have B6 := Seg.hid (chain N0.out b6); obtain ⟨g0, g1, g2, g3, g4, g5, g6, g7, g8, g9, g10⟩ := qcells ((b6.block _ (Array.getElem?_eq_some_iff.1 T0.out).1).trans T0.out); clear b6) | (go_at_call 31; refine (InB.within_b _ _ _ _ H1.out _).mono ?_; rintro e7 w6 ⟨rfl, rfl⟩))
        go_ret
        exact ⟨by rw [RF.out]; rfl, B6.out⟩
      | true =>
        have H1 := Seg.hid n1
        have h1s := inR_true n1
        clear n1
        by_cases h2 : q.every = 0
        · have b2 : (q.every == 0) = true := by simpa using h2
          rw [decide_eq_true h2] at hR
          clear h2
          have RF : Hid (R = true) := by show _ = _; rw [← hR, H1.out]; rfl
          clear hR
          go_wp2_with (first | (go_at_call 15; refine (CG.out true HG.out _).mono ?_; rintro e6 w6 ⟨rfl, b6⟩; have B6 := Seg.hid (chain N0.out b6); obtain ⟨g0, g1, g2, g3, g4, g5, g6, g7, g8, g9, g10⟩ := qcells ((b6.block _ (Array.getElem?_eq_some_iff.1 T0.out).1).trans T0.out); clear b6) | (go_at_call 31; refine (InB.within_b _ _ _ _ H1.out _).mono ?_; rintro e7 w6 ⟨rfl, rfl⟩))
          go_ret
          exact ⟨by rw [RF.out]; rfl, B6.out⟩
        · have b2 : (q.every == 0) = false := by simpa using h2
          rw [decide_eq_false h2] at hR
          clear h2
          have RF : Hid (R = false) := by show _ = _; rw [← hR, H1.out]; rfl
          clear hR
          go_wp2_with (first | (go_at_call 15; refine (CG.out true HG.out _).mono ?_; rintro e6 w6 ⟨rfl, b6⟩; have B6 := Seg.hid (chain N0.out b6); obtain ⟨g0, g1, g2, g3, g4, g5, g6, g7, g8, g9, g10⟩ := qcells ((b6.block _ (Array.getElem?_eq_some_iff.1 T0.out).1).trans T0.out); clear b6) | (go_at_call 31; refine (InB.within_b _ _ _ _ H1.out _).mono ?_; rintro e7 w6 ⟨rfl, rfl⟩))
          go_ret
          exact ⟨by rw [RF.out]; rfl, B6.out⟩
  have p1 : (q.win == 1) = false := by simpa using o1
  by_cases o3 : q.win = 3
  · have p3 : (q.win == 3) = true := by simpa using o3
    rw [if_pos (by omega)] at hR
    clear o3
    go_upto_region 6 with fail
    cases hg : decide (0 < q.gps.length) with
    | false =>
      have HG := Seg.hid hg
      rw [hg] at hR
      clear hg
      have RF : Hid (R = false) := by show _ = _; rw [← hR]; rfl
      clear hR
      go_wp2_with (first | (go_at_call 15; refine (CG.out false HG.out _).mono ?_; rintro e6 w6 ⟨rfl, b6⟩; have B6 := Seg.hid (chain N0.out b6); obtain ⟨g0, g1, g2, g3, g4, g5, g6, g7, g8, g9, g10⟩ := qcells ((b6.block _ (Array.getElem?_eq_some_iff.1 T0.out).1).trans T0.out); clear b6))
      go_ret
      exact ⟨by rw [RF.out]; rfl, B6.out⟩
    | true =>
      have HG := Seg.hid hg
      rw [hg] at hR
      clear hg
      cases n1 : inR 1 q.size 1000000000000 with
      | false =>
        have H1 := Seg.hid n1
        clear n1
        have RF : Hid (R = false) := by show _ = _; rw [← hR, H1.out]; rfl
        clear hR
        go_wp2_with (first | (go_at_call 15; refine (CG.out true HG.out _).mono ?_; rintro e6 w6 ⟨rfl, b6⟩; have B6 := Seg.hid (chain N0.out b6); obtain ⟨g0, g1, g2, g3, g4, g5, g6, g7, g8, g9, g10⟩ := qcells ((b6.block _ (Array.getElem?_eq_some_iff.1 T0.out).1).trans T0.out); clear b6) | (go_at_call 31; refine (InB.within_b _ _ _ _ H1.out _).mono ?_; rintro e7 w6 ⟨rfl, rfl⟩))
        go_ret
        exact ⟨by rw [RF.out]; rfl, B6.out⟩
      | true =>
        have H1 := Seg.hid n1
        have h1s := inR_true n1
        clear n1
        by_cases h2 : q.every = 0
        · have b2 : (q.every == 0) = true := by simpa using h2
          rw [decide_eq_true h2] at hR
          clear h2
          have RF : Hid (R = true) := by show _ = _; rw [← hR, H1.out]; rfl
          clear hR
          go_wp2_with (first | (go_at_call 15; refine (CG.out true HG.out _).mono ?_; rintro e6 w6 ⟨rfl, b6⟩; have B6 := Seg.hid (chain N0.out b6); obtain ⟨g0, g1, g2, g3, g4, g5, g6, g7, g8, g9, g10⟩ := qcells ((b6.block _ (Array.getElem?_eq_some_iff.1 T0.out).1).trans T0.out); clear b6) | (go_at_call 31; refine (InB.within_b _ _ _ _ H1.out _).mono ?_; rintro e7 w6 ⟨rfl, rfl⟩))
          go_ret
          exact ⟨by rw [RF.out]; rfl, B6.out⟩
        · have b2 : (q.every == 0) = false := by simpa using h2
          rw [decide_eq_false h2] at hR
          clear h2
          have RF : Hid (R = false) := by show _ = _; rw [← hR, H1.out]; rfl
          clear hR
          go_wp2_with (first | (go_at_call 15; refine (CG.out true HG.out _).mono ?_; rintro e6 w6 ⟨rfl, b6⟩; have B6 := Seg.hid (chain N0.out b6); obtain ⟨g0, g1, g2, g3, g4, g5, g6, g7, g8, g9, g10⟩ := qcells ((b6.block _ (Array.getElem?_eq_some_iff.1 T0.out).1).trans T0.out); clear b6) | (go_at_call 31; refine (InB.within_b _ _ _ _ H1.out _).mono ?_; rintro e7 w6 ⟨rfl, rfl⟩))
          go_ret
          exact ⟨by rw [RF.out]; rfl, B6.out⟩
  have p3 : (q.win == 3) = false := by simpa using o3
  rw [if_neg (by omega)] at hR
  by_cases o2 : q.win = 2
  · have p2 : (q.win == 2) = true := by simpa using o2
    rw [if_pos o2] at hR
    clear o2
    go_upto_region 8 with fail
    cases hg : decide (0 < q.gps.length) with
    | false =>
      have HG := Seg.hid hg
      rw [hg] at hR
      clear hg
      have RF : Hid (R = false) := by show _ = _; rw [← hR]; rfl
      clear hR
      go_wp2_with (first | (go_at_call 15; refine (CG.out false HG.out _).mono ?_; rintro e6 w6 ⟨rfl, b6⟩; have B6 := Seg.hid (chain N0.out b6); obtain ⟨g0, g1, g2, g3, g4, g5, g6, g7, g8, g9, g10⟩ := qcells ((b6.block _ (Array.getElem?_eq_some_iff.1 T0.out).1).trans T0.out); clear b6))
      go_ret
      exact ⟨by rw [RF.out]; rfl, B6.out⟩
    | true =>
      have HG := Seg.hid hg
      rw [hg] at hR
      clear hg
      cases n1 : inR 1 q.size 1000000000000 with
      | false =>
        have H1 := Seg.hid n1
        clear n1
        have RF : Hid (R = false) := by show _ = _; rw [← hR, H1.out]; rfl
        clear hR
        go_wp2_with (first | (go_at_call 15; refine (CG.out true HG.out _).mono ?_; rintro e6 w6 ⟨rfl, b6⟩; have B6 := Seg.hid (chain N0.out b6); obtain ⟨g0, g1, g2, g3, g4, g5, g6, g7, g8, g9, g10⟩ := qcells ((b6.block _ (Array.getElem?_eq_some_iff.1 T0.out).1).trans T0.out); clear b6) | (go_at_call 31; refine (InB.within_b _ _ _ _ H1.out _).mono ?_; rintro e7 w6 ⟨rfl, rfl⟩))
        go_ret
        exact ⟨by rw [RF.out]; rfl, B6.out⟩
      | true =>
        have H1 := Seg.hid n1
        have h1s := inR_true n1
        clear n1
        cases n2 : inR 1 q.every q.size with
        | false =>
          have H2 := Seg.hid n2
          clear n2
          have RF : Hid (R = false) := by show _ = _; rw [← hR, H1.out, H2.out]; rfl
          clear hR
          go_wp2_with (first | (go_at_call 15; refine (CG.out true HG.out _).mono ?_; rintro e6 w6 ⟨rfl, b6⟩; have B6 := Seg.hid (chain N0.out b6); obtain ⟨g0, g1, g2, g3, g4, g5, g6, g7, g8, g9, g10⟩ := qcells ((b6.block _ (Array.getElem?_eq_some_iff.1 T0.out).1).trans T0.out); clear b6) | (go_at_call_of 31 (Value.int IntKind.i64 q.every); refine (InB.within_b _ _ _ _ H2.out _).mono ?_; rintro e7 w7 ⟨rfl, rfl⟩) | (go_at_call_of 31 (Value.int IntKind.i64 q.size); refine (InB.within_b _ _ _ _ H1.out _).mono ?_; rintro e7 w7 ⟨rfl, rfl⟩))
          go_ret
          exact ⟨by rw [RF.out]; rfl, B6.out⟩
        | true =>
          have H2 := Seg.hid n2
          have h2s := inR_true n2
          clear n2
          by_cases h3 : q.size ≤ 20 * q.every
          · rw [decide_eq_true h3] at hR
            have RF : Hid (R = true) := by show _ = _; rw [← hR, H1.out, H2.out]; rfl
            clear hR
            go_wp2_with (first | (go_at_call 15; refine (CG.out true HG.out _).mono ?_; rintro e6 w6 ⟨rfl, b6⟩; have B6 := Seg.hid (chain N0.out b6); obtain ⟨g0, g1, g2, g3, g4, g5, g6, g7, g8, g9, g10⟩ := qcells ((b6.block _ (Array.getElem?_eq_some_iff.1 T0.out).1).trans T0.out); clear b6) | (go_at_call_of 31 (Value.int IntKind.i64 q.every); refine (InB.within_b _ _ _ _ H2.out _).mono ?_; rintro e7 w7 ⟨rfl, rfl⟩) | (go_at_call_of 31 (Value.int IntKind.i64 q.size); refine (InB.within_b _ _ _ _ H1.out _).mono ?_; rintro e7 w7 ⟨rfl, rfl⟩))
            go_ret
            exact ⟨by rw [RF.out]; rfl, B6.out⟩
          · rw [decide_eq_false h3] at hR
            have RF : Hid (R = false) := by show _ = _; rw [← hR, H1.out, H2.out]; rfl
            clear hR
            go_wp2_with (first | (go_at_call 15; refine (CG.out true HG.out _).mono ?_; rintro e6 w6 ⟨rfl, b6⟩; have B6 := Seg.hid (chain N0.out b6); obtain ⟨g0, g1, g2, g3, g4, g5, g6, g7, g8, g9, g10⟩ := qcells ((b6.block _ (Array.getElem?_eq_some_iff.1 T0.out).1).trans T0.out); clear b6) | (go_at_call_of 31 (Value.int IntKind.i64 q.every); refine (InB.within_b _ _ _ _ H2.out _).mono ?_; rintro e7 w7 ⟨rfl, rfl⟩) | (go_at_call_of 31 (Value.int IntKind.i64 q.size); refine (InB.within_b _ _ _ _ H1.out _).mono ?_; rintro e7 w7 ⟨rfl, rfl⟩))
            go_ret
            exact ⟨by rw [RF.out]; show Ending.returned (Value.bool (decide (q.size ≤ 20 * q.every))) = _; rw [decide_eq_false (by omega)], B6.out⟩
  have p2 : (q.win == 2) = false := by simpa using o2
  rw [if_neg o2] at hR
  have RF : Hid (R = false) := by show _ = _; rw [← hR]
  clear hR
  go_wp2
  go_ret
  exact ⟨by rw [RF.out]; rfl, N0.out⟩
end Go.Proofs.Ytkohhcjpjloaaaa.XvI
