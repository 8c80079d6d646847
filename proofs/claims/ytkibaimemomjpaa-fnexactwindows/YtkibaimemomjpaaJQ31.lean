/- The program's Query.windowOk; The program's Step.ok, Step.takes, expressionOk. -/
import Derived.Deep.Cut
import Derived.Test.YtkibaimemomjpaaJQ30
import Derived.Test.YtkibaimemomjpaaJQ28
import Derived.Test.YtkibaimemomjpaaJQ15
import Derived.Test.YtkibaimemomjpaaJQ09
import Derived.Test.YtkibaimemomjpaaJQ10
namespace Go.Proofs.Ytkibaimemomjpaa.XvI
set_option maxRecDepth 8000
open Go.RowKit
open Ls Lp QtP XsP XqP XbI
open Recs (hsz below1 below2 chain)
set_option linter.unusedVariables false
set_option maxHeartbeats 25600000 in
theorem win_any (q : Qry) (A5 : Option Addr) (c5 : Nat) (A6 : Option Addr) (c6 : Nat) (A10 : Option Addr) (c10 : Nat) (w : World) : Calls Try.prog 79 #[.agg (qrow q A5 c5 A6 c6 A10 c10)] w fun e w' => e = .returned (.bool (winP q.win q.size q.every q.gps.length)) ∧ Below w.heap.size w w' := by
  obtain ⟨R, hR⟩ : ∃ R, winP q.win q.size q.every q.gps.length = R := ⟨_, rfl⟩
  rw [hR]
  unfold winP at hR
  have CG : Hid (∀ (b : Bool), decide (0 < q.gps.length) = b → ∀ wx, Calls Try.prog 39 #[.agg (qrow q A5 c5 A6 c6 A10 c10)] wx fun e w' => e = .returned (.bool b) ∧ Below wx.heap.size wx w') := fun b hb wx => grp_any q A5 c5 A6 c6 A10 c10 wx b hb
  obtain ⟨W0, hW0⟩ : ∃ W0, w.alloc (.cells (qrow q A5 c5 A6 c6 A10 c10) 34 (0, 0)) = W0 := ⟨_, rfl⟩
  have T0 : Hid (W0.heap[w.heap.size]? = some (.cells (qrow q A5 c5 A6 c6 A10 c10) 34 (0, 0))) := by show _ = _; rw [← hW0]; exact heap_alloc_new _ _
  have N0 : Hid (Below w.heap.size w W0) := by show Below _ _ _; rw [← hW0]; exact below1 _ _
  obtain ⟨q0, q1, q2, q3, q4, q5, q6, q7, q8, q9, q10⟩ := qcells T0.out
  go_enter Try.func79, Try.ntmps79
  by_cases o0 : q.win = 0
  · have p0 : (q.win == 0) = true := by simpa using o0
    rw [if_pos o0] at hR
    by_cases h1 : q.size = 0
    · have b1 : (q.size == 0) = true := by simpa using h1
      by_cases h2 : q.every = 0
      · have b2 : (q.every == 0) = true := by simpa using h2
        rw [decide_eq_true h1, decide_eq_true h2] at hR
        have RF : Hid (R = true) := by show _ = _; rw [← hR]; rfl
        clear hR
        go_wp2
        go_ret
        exact ⟨by rw [RF.out]; rfl, N0.out⟩
      · have b2 : (q.every == 0) = false := by simpa using h2
        rw [decide_eq_true h1, decide_eq_false h2] at hR
        have RF : Hid (R = false) := by show _ = _; rw [← hR]; rfl
        clear hR
        go_wp2
        go_ret
        exact ⟨by rw [RF.out]; rfl, N0.out⟩
    · have b1 : (q.size == 0) = false := by simpa using h1
      rw [decide_eq_false h1] at hR
      have RF : Hid (R = false) := by show _ = _; rw [← hR]; rfl
      clear hR
      go_wp2
      go_ret
      exact ⟨by rw [RF.out]; rfl, N0.out⟩
  have p0 : (q.win == 0) = false := by simpa using o0
  rw [if_neg o0] at hR
  by_cases o1 : q.win = 1
  · have p1 : (q.win == 1) = true := by simpa using o1
    rw [if_pos (by omega)] at hR
    clear o1
    go_upto_region 6 with fail
    cases hg : decide (0 < q.gps.length) with
    | false =>
      have HG := Seg.hid hg
      rw [hg] at hR
      clear hg
      have RF : Hid (R = false) := by show _ = _; rw [← hR]; rfl
      clear hR
      go_wp2_with (first | (go_at_call 39; refine (CG.out false HG.out _).mono ?_; rintro e6 w6 ⟨rfl, b6⟩; have B6 := Seg.hid (chain N0.out b6); obtain ⟨g0, g1, g2, g3, g4, g5, g6, g7, g8, g9, g10⟩ := qcells ((b6.block _ (Array.getElem?_eq_some_iff.1 T0.out).1).trans T0.out); clear b6))
      go_ret
      exact ⟨by rw [RF.out]; rfl, B6.out⟩
    | true =>
      have HG := Seg.hid hg
      rw [hg] at hR
      clear hg
      cases n1 : inR 1 q.size 1000000000000 with
      | false =>
        have H1 := Seg.hid n1
        clear n1
        have RF : Hid (R = false) := by show _ = _; rw [← hR, H1.out]; rfl
        clear hR
        go_wp2_with (first | (go_at_call 39; refine (CG.out true HG.out _).mono ?_; rintro e6 w6 ⟨rfl, b6⟩; have B6 := Seg.hid (chain N0.out b6); obtain ⟨g0, g1, g2, g3, g4, g5, g6, g7, g8, g9, g10⟩ := qcells ((b6.block _ (Array.getElem?_eq_some_iff.1 T0.out).1).trans T0.out); clear b6) | (go_at_call 82; refine (InB.within_b _ _ _ _ H1.out _).mono ?_; rintro e7 w6 ⟨rfl, rfl⟩))
        go_ret
        exact ⟨by rw [RF.out]; rfl, B6.out⟩
      | true =>
        have H1 := Seg.hid n1
        have h1s := inR_true n1
        clear n1
        by_cases h2 : q.every = 0
        · have b2 : (q.every == 0) = true := by simpa using h2
          rw [decide_eq_true h2] at hR
          clear h2
          have RF : Hid (R = true) := by show _ = _; rw [← hR, H1.out]; rfl
          clear hR
          go_wp2_with (first | (go_at_call 39; refine (CG.out true HG.out _).mono ?_; rintro e6 w6 ⟨rfl, b6⟩; have B6 := Seg.hid (chain N0.out b6); obtain ⟨g0, g1, g2, g3, g4, g5, g6, g7, g8, g9, g10⟩ := qcells ((b6.block _ (Array.getElem?_eq_some_iff.1 T0.out).1).trans T0.out); clear b6) | (go_at_call 82; refine (InB.within_b _ _ _ _ H1.out _).mono ?_; rintro e7 w6 ⟨rfl, rfl⟩))
          go_ret
          exact ⟨by rw [RF.out]; rfl, B6.out⟩
        · have b2 : (q.every == 0) = false := by simpa using h2
          rw [decide_eq_false h2] at hR
          clear h2
          have RF : Hid (R = false) := by show _ = _; rw [← hR, H1.out]; rfl
          clear hR
          go_wp2_with (first | (go_at_call 39; refine (CG.out true HG.out _).mono ?_; rintro e6 w6 ⟨rfl, b6⟩; have B6 := Seg.hid (chain N0.out b6); obtain ⟨g0, g1, g2, g3, g4, g5, g6, g7, g8, g9, g10⟩ := qcells ((b6.block _ (Array.getElem?_eq_some_iff.1 T0.out).1).trans T0.out); clear b6) | (go_at_call 82; refine (InB.within_b _ _ _ _ H1.out _).mono ?_; rintro e7 w6 ⟨rfl, rfl⟩))
          go_ret
          exact ⟨by rw [RF.out]; rfl, B6.out⟩
  have p1 : (q.win == 1) = false := by simpa using o1
  by_cases o3 : q.win = 3
  · have p3 : (q.win == 3) = true := by simpa using o3
    rw [if_pos (by omega)] at hR
    clear o3
    go_upto_region 6 with fail
    cases hg : decide (0 < q.gps.length) with
    | false =>
      have HG := Seg.hid hg
      rw [hg] at hR
      clear hg
      have RF : Hid (R = false) := by show _ = _; rw [← hR]; rfl
      clear hR
      go_wp2_with (first | (go_at_call 39; refine (CG.out false HG.out _).mono ?_; rintro e6 w6 ⟨rfl, b6⟩; have B6 := Seg.hid (chain N0.out b6); obtain ⟨g0, g1, g2, g3, g4, g5, g6, g7, g8, g9, g10⟩ := qcells ((b6.block _ (Array.getElem?_eq_some_iff.1 T0.out).1).trans T0.out); clear b6))
      go_ret
      exact ⟨by rw [RF.out]; rfl, B6.out⟩
    | true =>
      have HG := Seg.hid hg
      rw [hg] at hR
      clear hg
      cases n1 : inR 1 q.size 1000000000000 with
      | false =>
        have H1 := Seg.hid n1
        clear n1
        have RF : Hid (R = false) := by show _ = _; rw [← hR, H1.out]; rfl
        clear hR
        go_wp2_with (first | (go_at_call 39; refine (CG.out true HG.out _).mono ?_; rintro e6 w6 ⟨rfl, b6⟩; have B6 := Seg.hid (chain N0.out b6); obtain ⟨g0, g1, g2, g3, g4, g5, g6, g7, g8, g9, g10⟩ := qcells ((b6.block _ (Array.getElem?_eq_some_iff.1 T0.out).1).trans T0.out); clear b6) | (go_at_call 82; refine (InB.within_b _ _ _ _ H1.out _).mono ?_; rintro e7 w6 ⟨rfl, rfl⟩))
        go_ret
        exact ⟨by rw [RF.out]; rfl, B6.out⟩
      | true =>
        have H1 := Seg.hid n1
        have h1s := inR_true n1
        clear n1
        by_cases h2 : q.every = 0
        · have b2 : (q.every == 0) = true := by simpa using h2
          rw [decide_eq_true h2] at hR
          clear h2
          have RF : Hid (R = true) := by show _ = _; rw [← hR, H1.out]; rfl
          clear hR
          go_wp2_with (first | (go_at_call 39; refine (CG.out true HG.out _).mono ?_; rintro e6 w6 ⟨rfl, b6⟩; have B6 := Seg.hid (chain N0.out b6); obtain ⟨g0, g1, g2, g3, g4, g5, g6, g7, g8, g9, g10⟩ := qcells ((b6.block _ (Array.getElem?_eq_some_iff.1 T0.out).1).trans T0.out); clear b6) | (go_at_call 82; refine (InB.within_b _ _ _ _ H1.out _).mono ?_; rintro e7 w6 ⟨rfl, rfl⟩))
          go_ret
          exact ⟨by rw [RF.out]; rfl, B6.out⟩
        · have b2 : (q.every == 0) = false := by simpa using h2
          rw [decide_eq_false h2] at hR
          clear h2
          have RF : Hid (R = false) := by show _ = _; rw [← hR, H1.out]; rfl
          clear hR
          go_wp2_with (first | (go_at_call 39; refine (CG.out true HG.out _).mono ?_; rintro e6 w6 ⟨rfl, b6⟩; have B6 := Seg.hid (chain N0.out b6); obtain ⟨g0, g1, g2, g3, g4, g5, g6, g7, g8, g9, g10⟩ := qcells ((b6.block _ (Array.getElem?_eq_some_iff.1 T0.out).1).trans T0.out); clear b6) | (go_at_call 82; refine (InB.within_b _ _ _ _ H1.out _).mono ?_; rintro e7 w6 ⟨rfl, rfl⟩))
          go_ret
          exact ⟨by rw [RF.out]; rfl, B6.out⟩
  have p3 : (q.win == 3) = false := by simpa using o3
  rw [if_neg (by omega)] at hR
  by_cases o2 : q.win = 2
  · have p2 : (q.win == 2) = true := by simpa using o2
    rw [if_pos o2] at hR
    clear o2
    go_upto_region 8 with fail
    cases hg : decide (0 < q.gps.length) with
    | false =>
      have HG := Seg.hid hg
      rw [hg] at hR
      clear hg
      have RF : Hid (R = false) := by show _ = _; rw [← hR]; rfl
      clear hR
      go_wp2_with (first | (go_at_call 39; refine (CG.out false HG.out _).mono ?_; rintro e6 w6 ⟨rfl, b6⟩; have B6 := Seg.hid (chain N0.out b6); obtain ⟨g0, g1, g2, g3, g4, g5, g6, g7, g8, g9, g10⟩ := qcells ((b6.block _ (Array.getElem?_eq_some_iff.1 T0.out).1).trans T0.out); clear b6))
      go_ret
      exact ⟨by rw [RF.out]; rfl, B6.out⟩
    | true =>
      have HG := Seg.hid hg
      rw [hg] at hR
      clear hg
      cases n1 : inR 1 q.size 1000000000000 with
      | false =>
        have H1 := Seg.hid n1
        clear n1
        have RF : Hid (R = false) := by show _ = _; rw [← hR, H1.out]; rfl
        clear hR
        go_wp2_with (first | (go_at_call 39; refine (CG.out true HG.out _).mono ?_; rintro e6 w6 ⟨rfl, b6⟩; have B6 := Seg.hid (chain N0.out b6); obtain ⟨g0, g1, g2, g3, g4, g5, g6, g7, g8, g9, g10⟩ := qcells ((b6.block _ (Array.getElem?_eq_some_iff.1 T0.out).1).trans T0.out); clear b6) | (go_at_call 82; refine (InB.within_b _ _ _ _ H1.out _).mono ?_; rintro e7 w6 ⟨rfl, rfl⟩))
        go_ret
        exact ⟨by rw [RF.out]; rfl, B6.out⟩
      | true =>
        have H1 := Seg.hid n1
        have h1s := inR_true n1
        clear n1
        cases n2 : inR 1 q.every q.size with
        | false =>
          have H2 := Seg.hid n2
          clear n2
          have RF : Hid (R = false) := by show _ = _; rw [← hR, H1.out, H2.out]; rfl
          clear hR
          go_wp2_with (first | (go_at_call 39; refine (CG.out true HG.out _).mono ?_; rintro e6 w6 ⟨rfl, b6⟩; have B6 := Seg.hid (chain N0.out b6); obtain ⟨g0, g1, g2, g3, g4, g5, g6, g7, g8, g9, g10⟩ := qcells ((b6.block _ (Array.getElem?_eq_some_iff.1 T0.out).1).trans T0.out); clear b6) | (go_at_call_of 82 (Value.int IntKind.i64 q.every); refine (InB.within_b _ _ _ _ H2.out _).mono ?_; rintro e7 w7 ⟨rfl, rfl⟩) | (go_at_call_of 82 (Value.int IntKind.i64 q.size); refine (InB.within_b _ _ _ _ H1.out _).mono ?_; rintro e7 w7 ⟨rfl, rfl⟩))
          go_ret
          exact ⟨by rw [RF.out]; rfl, B6.out⟩
        | true =>
          have H2 := Seg.hid n2
          have h2s := inR_true n2
          clear n2
          by_cases h3 : q.size ≤ 20 * q.every
          · rw [decide_eq_true h3] at hR
            have RF : Hid (R = true) := by show _ = _; rw [← hR, H1.out, H2.out]; rfl
            clear hR
            go_wp2_with (first | (go_at_call 39; refine (CG.out true HG.out _).mono ?_; rintro e6 w6 ⟨rfl, b6⟩; have B6 := Seg.hid (chain N0.out b6); obtain ⟨g0, g1, g2, g3, g4, g5, g6, g7, g8, g9, g10⟩ := qcells ((b6.block _ (Array.getElem?_eq_some_iff.1 T0.out).1).trans T0.out); clear b6) | (go_at_call_of 82 (Value.int IntKind.i64 q.every); refine (InB.within_b _ _ _ _ H2.out _).mono ?_; rintro e7 w7 ⟨rfl, rfl⟩) | (go_at_call_of 82 (Value.int IntKind.i64 q.size); refine (InB.within_b _ _ _ _ H1.out _).mono ?_; rintro e7 w7 ⟨rfl, rfl⟩))
            go_ret
            exact ⟨by rw [RF.out]; rfl, B6.out⟩
          · rw [decide_eq_false h3] at hR
            have RF : Hid (R = false) := by show _ = _; rw [← hR, H1.out, H2.out]; rfl
            clear hR
            go_wp2_with (first | (go_at_call 39; refine (CG.out true HG.out _).mono ?_; rintro e6 w6 ⟨rfl, b6⟩; have B6 := Seg.hid (chain N0.out b6); obtain ⟨g0, g1, g2, g3, g4, g5, g6, g7, g8, g9, g10⟩ := qcells ((b6.block _ (Array.getElem?_eq_some_iff.1 T0.out).1).trans T0.out); clear b6) | (go_at_call_of 82 (Value.int IntKind.i64 q.every); refine (InB.within_b _ _ _ _ H2.out _).mono ?_; rintro e7 w7 ⟨rfl, rfl⟩) | (go_at_call_of 82 (Value.int IntKind.i64 q.size); refine (InB.within_b _ _ _ _ H1.out _).mono ?_; rintro e7 w7 ⟨rfl, rfl⟩))
            go_ret
            exact ⟨by rw [RF.out]; show Ending.returned (Value.bool (decide (q.size ≤ 20 * q.every))) = _; rw [decide_eq_false (by omega)], B6.out⟩
  have p2 : (q.win == 2) = false := by simpa using o2
  rw [if_neg o2] at hR
  have RF : Hid (R = false) := by show _ = _; rw [← hR]
  clear hR
  go_wp2
  go_ret
  exact ⟨by rw [RF.out]; rfl, N0.out⟩
end Go.Proofs.Ytkibaimemomjpaa.XvI
namespace Go.Proofs.Ytkibaimemomjpaa.XsI
set_option maxRecDepth 8000
open Go.RowKit
open Ls Lp QtP XsP
open Recs (hsz below1 below2 chain)
set_option linter.unusedVariables false
set_option maxHeartbeats 1600000 in
theorem ok_any (op nu : Int) (nm : ByteArray) (w : World) (hs : nm.size ≤ maxLen) : Calls Try.prog 103 #[.agg #[.int .i64 op, .int .i64 nu, .string nm]] w fun e w' => e = .returned (.bool (ok3 op nu nm)) ∧ Below w.heap.size w w' := by
  obtain ⟨R, hR⟩ : ∃ R, ok3 op nu nm = R := ⟨_, rfl⟩
  rw [hR]
  unfold ok3 at hR
  have HS := Seg.hid hs
  clear hs
  obtain ⟨e, he⟩ : ∃ e, (nm.toList == []) = e := ⟨_, rfl⟩
  have EM : Hid (em nm = e) := he
  go_enter Try.func103, Try.ntmps103
  by_cases o1 : op = 1
  · subst o1
    rw [if_pos rfl, EM.out] at hR
    cases hb : inR 0 nu 1000000000000000 with
    | false =>
      have HK := Seg.hid hb
      have RF : Hid (R = false) := by show _ = _; rw [← hR, hb]; rfl
      clear hb hR
      go_wp2_with (go_at_call 82; refine (InB.within_b _ _ _ _ HK.out _).mono ?_; rintro e7 w6 ⟨rfl, rfl⟩)
      go_ret
      exact ⟨by rw [RF.out]; rfl, below1 _ _⟩
    | true =>
      have HK := Seg.hid hb
      have RF : Hid (R = e) := by show _ = _; rw [← hR, hb]; rfl
      clear hb hR
      cases e
      all_goals
        go_wp2_with (go_at_call 82; refine (InB.within_b _ _ _ _ HK.out _).mono ?_; rintro e7 w6 ⟨rfl, rfl⟩)
        go_ret
        exact ⟨by rw [RF.out]; rfl, below1 _ _⟩
  have p1 : (op == 1) = false := by simpa using o1
  rw [if_neg o1] at hR
  by_cases o2 : op = 2
  · subst o2
    rw [if_pos rfl] at hR
    by_cases hn0 : nu = 0
    · subst hn0
      cases hb : Nm.nameOk nm with
      | false =>
        have HY := Seg.hid hb
        have RF : Hid (R = false) := by show _ = _; rw [← hR, hb]; rfl
        clear hb hR
        go_wp2_with (go_at_call 76; refine (Nm.impl_q _ _ HY.out _ HS.out).mono ?_; rintro e7 w6 ⟨rfl, rfl⟩)
        go_ret
        exact ⟨by rw [RF.out]; rfl, below1 _ _⟩
      | true =>
        have HY := Seg.hid hb
        have RF : Hid (R = true) := by show _ = _; rw [← hR, hb]; rfl
        clear hb hR
        go_wp2_with (go_at_call 76; refine (Nm.impl_q _ _ HY.out _ HS.out).mono ?_; rintro e7 w6 ⟨rfl, rfl⟩)
        go_ret
        exact ⟨by rw [RF.out]; rfl, below1 _ _⟩
    · have hn1 : (nu == 0) = false := by simpa using hn0
      have RF : Hid (R = false) := by show _ = _; rw [← hR, decide_eq_false hn0]; rfl
      clear hn0 hR
      go_wp2
      go_ret
      exact ⟨by rw [RF.out]; rfl, below1 _ _⟩
  have p2 : (op == 2) = false := by simpa using o2
  rw [if_neg o2, EM.out] at hR
  cases hb : inR 3 op 12 with
  | false =>
    have HK := Seg.hid hb
    have RF : Hid (R = false) := by show _ = _; rw [← hR, hb]; rfl
    clear hb hR o1 o2
    go_wp2_with (go_at_call 82; refine (InB.within_b _ _ _ _ HK.out _).mono ?_; rintro e7 w6 ⟨rfl, rfl⟩)
    go_ret
    exact ⟨by rw [RF.out]; rfl, below1 _ _⟩
  | true =>
    have HK := Seg.hid hb
    by_cases hn0 : nu = 0
    · subst hn0
      have RF : Hid (R = e) := by show _ = _; rw [← hR, hb]; rfl
      clear hb hR o1 o2
      cases e
      all_goals
        go_wp2_with (go_at_call 82; refine (InB.within_b _ _ _ _ HK.out _).mono ?_; rintro e7 w6 ⟨rfl, rfl⟩)
        go_ret
        exact ⟨by rw [RF.out]; rfl, below1 _ _⟩
    · have hn1 : (nu == 0) = false := by simpa using hn0
      have RF : Hid (R = false) := by show _ = _; rw [← hR, hb, decide_eq_false hn0]; rfl
      clear hn0 hb hR o1 o2
      go_wp2_with (go_at_call 82; refine (InB.within_b _ _ _ _ HK.out _).mono ?_; rintro e7 w6 ⟨rfl, rfl⟩)
      go_ret
      exact ⟨by rw [RF.out]; rfl, below1 _ _⟩
theorem takes_any (op nu : Int) (nm : ByteArray) (w : World) : Calls Try.prog 104 #[.agg #[.int .i64 op, .int .i64 nu, .string nm]] w fun e w' => e = .returned (.int .i64 (tk op)) ∧ Below w.heap.size w w' := by
  obtain ⟨R, hR⟩ : ∃ R, tk op = R := ⟨_, rfl⟩
  rw [hR]
  unfold tk at hR
  have HR := Seg.hid hR
  clear hR
  go_enter Try.func104, Try.ntmps104
  by_cases o1 : op = 1
  · subst o1
    go_wp2
    go_ret
    exact ⟨by rw [← HR.out]; rfl, below1 _ _⟩
  have p1 : (op == 1) = false := by simpa using o1
  by_cases o2 : op = 2
  · subst o2
    clear o1
    go_wp2
    go_ret
    exact ⟨by rw [← HR.out]; rfl, below1 _ _⟩
  have p2 : (op == 2) = false := by simpa using o2
  by_cases o12 : op = 12
  · subst o12
    clear o1 o2
    go_wp2
    go_ret
    exact ⟨by rw [← HR.out]; rfl, below1 _ _⟩
  have p12 : (op == 12) = false := by simpa using o12
  have RF : Hid (R = 2) := by show _ = _; rw [← HR.out, if_neg o1, if_neg o2, if_neg o12]
  clear o1 o2 o12 HR
  go_wp2
  go_ret
  exact ⟨by rw [RF.out]; rfl, below1 _ _⟩
set_option maxHeartbeats 3200000 in
theorem exp_any (v : Value) (l : List Stp) (w : World) (S : Nat → Prop) (hv : LAt 3 EStp w S v l) (hS : ∀ g, S g → g < w.heap.size) (hf : szL szStp l ≤ 1048576) : Calls Try.prog 80 #[v] w fun e w' => e = .returned (.bool (stepsOk l)) ∧ Below w.heap.size w w' := by
  obtain ⟨A, c, g, o, F, rfl, OP, hn⟩ := opn hv hS
  have HO := Seg.hid OP
  have HZ := Seg.hid hf
  clear hv OP hf
  obtain ⟨R, hR⟩ : ∃ R, stepsOk l = R := ⟨_, rfl⟩
  rw [hR]
  have HR := Seg.hid hR
  clear hR
  go_enter Try.func80, Try.ntmps80
  by_cases h60 : 60 < l.length
  · have RF : Hid (R = false) := by show _ = _; rw [← HR.out, stepsOk, decide_eq_false (by omega)]; rfl
    have q60 : (60 : Int) < (l.length : Int) := by omega
    go_wp2
    go_ret
    exact ⟨by rw [RF.out]; rfl, Below.refl _ _⟩
  have R1 : Hid (R = endH (runH l 0)) := by show _ = _; rw [← HR.out, stepsOk, decide_eq_true (by omega)]; rfl
  have q60 : ¬ (60 : Int) < (l.length : Int) := by omega
  clear HR
  go_wp2
  go_loopw [3, 11] (fun v i wr => ∃ (k : Nat) (h : Int), k ≤ l.length ∧ v = .int .i64 h ∧ i = .int .i64 k ∧ Hid (0 ≤ h ∧ h ≤ k ∧ runH (l.drop k) h = runH l 0 ∧ Below w.heap.size w wr)) (fun _ i _ => l.length - (intOf i).toNat)
  case atStart => exact ⟨0, 0, Nat.zero_le _, rfl, rfl, by omega, by omega, rfl, Below.refl _ _⟩
  case round =>
    obtain ⟨k, h, hk, rfl, rfl, HG⟩ := hrel
    have hh0 : 0 ≤ h := HG.out.1
    have hh1 : h ≤ 60 := by have := HG.out.2.1; omega
    have hhk : h ≤ k := HG.out.2.1
    have RH : Hid (runH (l.drop k) h = runH l 0) := HG.out.2.2.1
    have BW : Hid (Below w.heap.size w wr) := HG.out.2.2.2
    clear HG
    by_cases hlt : k < l.length
    · obtain ⟨ea, hc, hgw⟩ := HO.out.addr.resolve_left (by omega)
      subst ea
      obtain ⟨d0, d1, d2⟩ := stp_at HO.out hS BW.out hlt
      have h0 : (0 : Int) ≤ (k : Int) := by omega
      have h1 : (k : Int) < (l.length : Int) := by omega
      have SU : Hid (szStp (l.getD k default) ≤ 1048576) := szL_one szStp HZ.out hlt
      have SE := Seg.hid (step_eq (l.getD k default) h hh0)
      have NO : Hid (stepH (l.getD k default) h = none → R = false) := fun e => by rw [R1.out, ← RH.out, run_none hlt e]; rfl
      have YES : Hid (∀ h', stepH (l.getD k default) h = some h' → runH (l.drop (k + 1)) h' = runH l 0) := fun h' e => by rw [← RH.out, run_some hlt e]
      clear RH
      generalize l.getD k default = s at *
      have TN : Hid (s.name.size ≤ maxLen) := by show _ ≤ _; have := SU.out; unfold szStp at this; unfold maxLen; omega
      obtain ⟨op, hop⟩ : ∃ op, s.op = op := ⟨_, rfl⟩
      obtain ⟨nu, hnu⟩ : ∃ nu, s.num = nu := ⟨_, rfl⟩
      obtain ⟨nm, hnm⟩ : ∃ nm, s.name = nm := ⟨_, rfl⟩
      rw [hop] at d0
      rw [hnu] at d1
      rw [hnm] at d2 TN
      rw [hop, hnu, hnm] at SE
      clear hop hnu hnm
      obtain ⟨t, ht⟩ : ∃ t, tk op = t := ⟨_, rfl⟩
      have ht0 : 0 ≤ t := by rw [← ht]; exact (tk_in op).1
      have ht2 : t ≤ 2 := by rw [← ht]; exact (tk_in op).2
      rw [ht] at SE
      have CT : Hid (∀ wx : World, Calls Try.prog 104 #[.agg #[.int .i64 op, .int .i64 nu, .string nm]] wx fun e w' => e = .returned (.int .i64 t) ∧ Below wx.heap.size wx w') := fun wx => by rw [← ht]; exact takes_any op nu nm wx
      clear ht
      obtain ⟨w5, hw5⟩ : ∃ w5, wr.alloc (.cells #[.int .i64 op, .int .i64 nu, .string nm] 118 (0, 0)) = w5 := ⟨_, rfl⟩
      have T5 : Hid (w5.heap[wr.heap.size]? = some (.cells #[.int .i64 op, .int .i64 nu, .string nm] 118 (0, 0))) := by show _ = _; rw [← hw5]; exact heap_alloc_new _ _
      have N5 : Hid (Below wr.heap.size wr w5) := by show Below _ _ _; rw [← hw5]; exact below1 _ _
      go_upto_region 7 with fail
      try rw [hw5]
      clear hw5 d0 d1 d2
      have q0 : w5.cell? ⟨wr.heap.size, 0, none⟩ = some (.int .i64 op) := cell_of_row w5 _ 0 _ _ (0, 0) T5.out
      have q1 : w5.cell? ⟨wr.heap.size, 1, none⟩ = some (.int .i64 nu) := cell_of_row w5 _ 1 _ _ (0, 0) T5.out
      have q2 : w5.cell? ⟨wr.heap.size, 2, none⟩ = some (.string nm) := cell_of_row w5 _ 2 _ _ (0, 0) T5.out
      go_wp2_with fail
      refine (ok_any op nu nm _ TN.out).mono ?_
      rintro e6 w6 ⟨rfl, b6⟩
      have B6 := Seg.hid (chain N5.out b6)
      have T6 := Seg.hid ((b6.block _ (Array.getElem?_eq_some_iff.1 T5.out).1).trans T5.out)
      have g0 : w6.cell? ⟨wr.heap.size, 0, none⟩ = some (.int .i64 op) := cell_of_row w6 _ 0 _ _ (0, 0) T6.out
      have g1 : w6.cell? ⟨wr.heap.size, 1, none⟩ = some (.int .i64 nu) := cell_of_row w6 _ 1 _ _ (0, 0) T6.out
      have g2 : w6.cell? ⟨wr.heap.size, 2, none⟩ = some (.string nm) := cell_of_row w6 _ 2 _ _ (0, 0) T6.out
      clear b6 q0 q1 q2 T5
      cases hok : ok3 op nu nm with
      | false =>
        have RF : Hid (R = false) := NO.out (by rw [SE.out, hok]; rfl)
        clear NO YES hok SE
        go_wp2
        go_ret
        exact ⟨by rw [RF.out]; rfl, chain BW.out B6.out⟩
      | true =>
        rw [hok] at SE
        clear hok
        go_wp2_with fail
        refine (CT.out _).mono ?_
        rintro e7 w7 ⟨rfl, b7⟩
        have B7 := Seg.hid (chain B6.out b7)
        have T7 := Seg.hid ((b7.block _ (Array.getElem?_eq_some_iff.1 T6.out).1).trans T6.out)
        have f0 : w7.cell? ⟨wr.heap.size, 0, none⟩ = some (.int .i64 op) := cell_of_row w7 _ 0 _ _ (0, 0) T7.out
        have f1 : w7.cell? ⟨wr.heap.size, 1, none⟩ = some (.int .i64 nu) := cell_of_row w7 _ 1 _ _ (0, 0) T7.out
        have f2 : w7.cell? ⟨wr.heap.size, 2, none⟩ = some (.string nm) := cell_of_row w7 _ 2 _ _ (0, 0) T7.out
        clear b7 g0 g1 g2 T6
        by_cases hth : h < t
        · have RF : Hid (R = false) := NO.out (by rw [SE.out, decide_eq_false (by omega)]; rfl)
          clear NO YES SE
          go_wp2
          go_ret
          exact ⟨by rw [RF.out]; rfl, chain BW.out B7.out⟩
        · have NX := Seg.hid (YES.out (h + (1 - t)) (by rw [SE.out, decide_eq_true (show t ≤ h by omega)]; rfl))
          clear NO YES SE
          go_wp2_with fail
          refine (CT.out _).mono ?_
          rintro e8 w8 ⟨rfl, b8⟩
          have B8 := Seg.hid (chain B7.out b8)
          clear b8 f0 f1 f2 T7
          go_wp2
          go_roundw
          case rel => exact ⟨k + 1, h + (1 - t), by omega, by go_num, by go_num, by omega, by omega, NX.out, chain BW.out B8.out⟩
          case measure => simp [intOf]; omega
    · have hkl : k = l.length := by omega
      have RT : Hid (R = decide (h = 1)) := by show _ = _; have := RH.out; rw [hkl, List.drop_length, runH] at this; rw [R1.out, ← this]; rfl
      have hx1 : ¬ (k : Int) < (l.length : Int) := by omega
      clear hkl
      by_cases e1 : h = 1
      · subst e1
        go_wp2
        go_ret
        exact ⟨by rw [RT.out]; rfl, BW.out⟩
      · have e2 : (h == 1) = false := by simpa using e1
        have RT2 : Hid (R = false) := by show _ = _; rw [RT.out]; exact decide_eq_false e1
        clear e1 RT
        go_wp2
        go_ret
        exact ⟨by rw [RT2.out]; rfl, BW.out⟩
end Go.Proofs.Ytkibaimemomjpaa.XsI
