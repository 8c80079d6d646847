/- The program's Query.grouped, besideOk, windowOk. -/
import Derived.Deep.Cut
import Derived.Test.YtboooabjeidmfaaJO17
import Derived.Test.YtboooabjeidmfaaJO12
import Derived.Test.YtboooabjeidmfaaJO06
namespace Go.Proofs.Ytboooabjeidmfaa.XbI
set_option maxRecDepth 8000
open Go.RowKit
open Ls Lp QtP XsP XqP
open Recs (hsz below1 below2 chain)
set_option linter.unusedVariables false
theorem grp_any (q : Qry) (A5 : Option Addr) (c5 : Nat) (A6 : Option Addr) (c6 : Nat) (A10 : Option Addr) (c10 : Nat) (w : World) (b : Bool) (hb : decide (0 < q.gps.length) = b) : Calls Try.prog 76 #[.agg (qrow q A5 c5 A6 c6 A10 c10)] w fun e w' => e = .returned (.bool b) ∧ Below w.heap.size w w' := by
  have HB := Seg.hid hb
  clear hb
  go_enter Try.func76, Try.ntmps76
  by_cases h0 : 0 < q.gps.length
  · have h1 : (0 : Int) < (q.gps.length : Int) := by omega
    go_wp2
    go_ret
    exact ⟨by rw [← HB.out, decide_eq_true h0]; rfl, below1 _ _⟩
  · have h1 : ¬ (0 : Int) < (q.gps.length : Int) := by omega
    go_wp2
    go_ret
    exact ⟨by rw [← HB.out, decide_eq_false h0]; rfl, below1 _ _⟩
set_option maxHeartbeats 3200000 in
theorem be_any (q : Qry) (A5 : Option Addr) (c5 : Nat) (A6 : Option Addr) (c6 : Nat) (A10 : Option Addr) (c10 : Nat) (w : World) (hz : szQry q ≤ 1048576) : Calls Try.prog 48 #[.agg (qrow q A5 c5 A6 c6 A10 c10)] w fun e w' => e = .returned (.bool (beP q.jn q.on q.lk q.wn)) ∧ Below w.heap.size w w' := by
  obtain ⟨R, hR⟩ : ∃ R, beP q.jn q.on q.lk q.wn = R := ⟨_, rfl⟩
  rw [hR]
  unfold beP at hR
  obtain ⟨z0, z1, z2, z3⟩ := sz_strs hz
  have Sjn := Seg.hid z1
  have Son := Seg.hid z2
  have Slk := Seg.hid z3
  clear z0 z1 z2 z3 hz
  obtain ⟨ej, hej⟩ : ∃ e, (q.jn.toList == []) = e := ⟨_, rfl⟩
  have EJ : Hid (em q.jn = ej) := hej
  obtain ⟨el, hel⟩ : ∃ e, (q.lk.toList == []) = e := ⟨_, rfl⟩
  have EL : Hid (em q.lk = el) := hel
  obtain ⟨eo, heo⟩ : ∃ e, (q.on.toList == []) = e := ⟨_, rfl⟩
  have EO : Hid (em q.on = eo) := heo
  rw [EJ.out, EL.out, EO.out] at hR
  go_enter Try.func48, Try.ntmps48
  cases ej <;> cases el
  · -- both
    have RF : Hid (R = false) := by show _ = _; rw [← hR]; rfl
    clear hR
    go_wp2
    go_ret
    exact ⟨by rw [RF.out]; rfl, below1 _ _⟩
  · rw [if_neg (by decide), if_pos rfl] at hR
    cases n1 : Nm.nameOk q.jn with
    | false =>
      have H1 := Seg.hid n1
      have RF : Hid (R = false) := by show _ = _; rw [← hR, H1.out]; rfl
      clear hR
      go_wp2_with (first | (go_at_call_of 41 (Value.string q.jn); refine (Nm.impl_q _ _ H1.out _ Sjn.out).mono ?_; rintro e7 w6 ⟨rfl, rfl⟩))
      go_ret
      exact ⟨by rw [RF.out]; rfl, below1 _ _⟩
    | true =>
      have H1 := Seg.hid n1
      clear n1
      cases n2 : Nm.nameOk q.on with
      | false =>
        have H2 := Seg.hid n2
        clear n2
        have RF : Hid (R = false) := by show _ = _; rw [← hR, H1.out, H2.out]; rfl
        clear hR
        go_wp2_with (first | (go_at_call_of 41 (Value.string q.jn); refine (Nm.impl_q _ _ H1.out _ Sjn.out).mono ?_; rintro e7 w6 ⟨rfl, rfl⟩) | (go_at_call_of 41 (Value.string q.on); refine (Nm.impl_q _ _ H2.out _ Son.out).mono ?_; rintro e7 w6 ⟨rfl, rfl⟩))
        go_ret
        exact ⟨by rw [RF.out]; rfl, below1 _ _⟩
      | true =>
        have H2 := Seg.hid n2
        clear n2
        cases n3 : inR 0 q.wn 1000000000000 with
        | false =>
          have H3 := Seg.hid n3
          clear n3
          have RF : Hid (R = false) := by show _ = _; rw [← hR, H1.out, H2.out, H3.out]; rfl
          clear hR
          go_wp2_with (first | (go_at_call_of 41 (Value.string q.jn); refine (Nm.impl_q _ _ H1.out _ Sjn.out).mono ?_; rintro e7 w6 ⟨rfl, rfl⟩) | (go_at_call_of 41 (Value.string q.on); refine (Nm.impl_q _ _ H2.out _ Son.out).mono ?_; rintro e7 w6 ⟨rfl, rfl⟩) | (go_at_call 75; refine (InB.within_b _ _ _ _ H3.out _).mono ?_; rintro e7 w6 ⟨rfl, rfl⟩))
          go_ret
          exact ⟨by rw [RF.out]; rfl, below1 _ _⟩
        | true =>
          have H3 := Seg.hid n3
          clear n3
          have RF : Hid (R = true) := by show _ = _; rw [← hR, H1.out, H2.out, H3.out]; rfl
          clear hR
          go_wp2_with (first | (go_at_call_of 41 (Value.string q.jn); refine (Nm.impl_q _ _ H1.out _ Sjn.out).mono ?_; rintro e7 w6 ⟨rfl, rfl⟩) | (go_at_call_of 41 (Value.string q.on); refine (Nm.impl_q _ _ H2.out _ Son.out).mono ?_; rintro e7 w6 ⟨rfl, rfl⟩) | (go_at_call 75; refine (InB.within_b _ _ _ _ H3.out _).mono ?_; rintro e7 w6 ⟨rfl, rfl⟩))
          go_ret
          exact ⟨by rw [RF.out]; rfl, below1 _ _⟩
  · rw [if_neg (by decide), if_neg (by decide), if_pos rfl] at hR
    cases n1 : Nm.nameOk q.lk with
    | false =>
      have H1 := Seg.hid n1
      clear n1
      have RF : Hid (R = false) := by show _ = _; rw [← hR, H1.out]; rfl
      clear hR
      go_wp2_with (first | (go_at_call_of 41 (Value.string q.lk); refine (Nm.impl_q _ _ H1.out _ Slk.out).mono ?_; rintro e7 w6 ⟨rfl, rfl⟩))
      go_ret
      exact ⟨by rw [RF.out]; rfl, below1 _ _⟩
    | true =>
      have H1 := Seg.hid n1
      clear n1
      cases n2 : Nm.nameOk q.on with
      | false =>
        have H2 := Seg.hid n2
        clear n2
        have RF : Hid (R = false) := by show _ = _; rw [← hR, H1.out, H2.out]; rfl
        clear hR
        go_wp2_with (first | (go_at_call_of 41 (Value.string q.lk); refine (Nm.impl_q _ _ H1.out _ Slk.out).mono ?_; rintro e7 w6 ⟨rfl, rfl⟩) | (go_at_call_of 41 (Value.string q.on); refine (Nm.impl_q _ _ H2.out _ Son.out).mono ?_; rintro e7 w6 ⟨rfl, rfl⟩))
        go_ret
        exact ⟨by rw [RF.out]; rfl, below1 _ _⟩
      | true =>
        have H2 := Seg.hid n2
        clear n2
        by_cases h0 : q.wn = 0
        · have b0 : (q.wn == 0) = true := by simpa using h0
          rw [decide_eq_true h0] at hR
          have RF : Hid (R = true) := by show _ = _; rw [← hR, H1.out, H2.out]; rfl
          clear hR
          go_wp2_with (first | (go_at_call_of 41 (Value.string q.lk); refine (Nm.impl_q _ _ H1.out _ Slk.out).mono ?_; rintro e7 w6 ⟨rfl, rfl⟩) | (go_at_call_of 41 (Value.string q.on); refine (Nm.impl_q _ _ H2.out _ Son.out).mono ?_; rintro e7 w6 ⟨rfl, rfl⟩))
          go_ret
          exact ⟨by rw [RF.out]; rfl, below1 _ _⟩
        · have b0 : (q.wn == 0) = false := by simpa using h0
          rw [decide_eq_false h0] at hR
          have RF : Hid (R = false) := by show _ = _; rw [← hR, H1.out, H2.out]; rfl
          clear hR
          go_wp2_with (first | (go_at_call_of 41 (Value.string q.lk); refine (Nm.impl_q _ _ H1.out _ Slk.out).mono ?_; rintro e7 w6 ⟨rfl, rfl⟩) | (go_at_call_of 41 (Value.string q.on); refine (Nm.impl_q _ _ H2.out _ Son.out).mono ?_; rintro e7 w6 ⟨rfl, rfl⟩))
          go_ret
          exact ⟨by rw [RF.out]; rfl, below1 _ _⟩
  · rw [if_pos rfl] at hR
    by_cases h0 : q.wn = 0
    · have b0 : (q.wn == 0) = true := by simpa using h0
      rw [decide_eq_true h0] at hR
      cases eo
      ·
        have RF : Hid (R = false) := by show _ = _; rw [← hR]; rfl
        clear hR
        go_wp2
        go_ret
        exact ⟨by rw [RF.out]; rfl, below1 _ _⟩
      ·
        have RF : Hid (R = true) := by show _ = _; rw [← hR]; rfl
        clear hR
        go_wp2
        go_ret
        exact ⟨by rw [RF.out]; rfl, below1 _ _⟩
    · have b0 : (q.wn == 0) = false := by simpa using h0
      rw [decide_eq_false h0] at hR
      have RF : Hid (R = false) := by show _ = _; rw [← hR]; rfl
      clear hR
      go_wp2
      go_ret
      exact ⟨by rw [RF.out]; rfl, below1 _ _⟩
end Go.Proofs.Ytboooabjeidmfaa.XbI
