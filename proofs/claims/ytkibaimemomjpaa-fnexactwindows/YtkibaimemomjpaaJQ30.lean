/- A right query, plain; The program's Query.grouped, besideOk, windowOk. -/
import Derived.Deep.Cut
import Derived.Test.YtkibaimemomjpaaJQ28
import Derived.Test.YtkibaimemomjpaaJQ16
import Derived.Test.YtkibaimemomjpaaJQ29
import Derived.Test.YtkibaimemomjpaaJQ15
import Derived.Test.YtkibaimemomjpaaJQ09
namespace Go.Proofs.Ytkibaimemomjpaa.XqP
set_option maxRecDepth 8000
open Go.RowKit
open Ls Lp QtP XsP QsI QyP
open Recs (hsz below1 below2 chain)
set_option linter.unusedVariables false
abbrev qrow (q : Qry) (A5 : Option Addr) (c5 : Nat) (A6 : Option Addr) (c6 : Nat) (A10 : Option Addr) (c10 : Nat) : Array Value := #[.string q.fr, .string q.jn, .int .i64 q.wn, .string q.on, .string q.lk, .slice A5 q.wh.length c5, .slice A6 q.gps.length c6, .int .i64 q.win, .int .i64 q.size, .int .i64 q.every, .slice A10 q.gets.length c10]
theorem qform {w : World} {S : Nat → Prop} {v : Value} {q : Qry} (h : QryAt w S v q) : ∃ A5 c5 A6 c6 A10 c10, v = .agg (qrow q A5 c5 A6 c6 A10 c10) ∧ LAt 3 EStp w S (.slice A5 q.wh.length c5) q.wh ∧ LAt 1 EStr w S (.slice A6 q.gps.length c6) q.gps ∧ LAt 3 EGqt w S (.slice A10 q.gets.length c10) q.gets := by
  obtain ⟨f, rfl, h0, h1, h2, h3, h4, h5, h6, h7, h8, h9, h10⟩ := h
  obtain ⟨A5, c5, e5⟩ := h5.form
  obtain ⟨A6, c6, e6⟩ := h6.form
  obtain ⟨A10, c10, e10⟩ := h10.form
  refine ⟨A5, c5, A6, c6, A10, c10, ?_, by rw [← e5]; exact h5, by rw [← e6]; exact h6, by rw [← e10]; exact h10⟩
  simp only [arrQry, qrow]
  rw [h0, h1, h2, h3, h4, e5, e6, h7, h8, h9, e10]
theorem qcells {w : World} {g ty : Nat} {za zb zc zd ze zf zg zh zi zj zk : Value} (h : w.heap[g]? = some (.cells #[za, zb, zc, zd, ze, zf, zg, zh, zi, zj, zk] ty (0, 0))) : w.cell? ⟨g, 0, none⟩ = some za ∧ w.cell? ⟨g, 1, none⟩ = some zb ∧ w.cell? ⟨g, 2, none⟩ = some zc ∧ w.cell? ⟨g, 3, none⟩ = some zd ∧ w.cell? ⟨g, 4, none⟩ = some ze ∧ w.cell? ⟨g, 5, none⟩ = some zf ∧ w.cell? ⟨g, 6, none⟩ = some zg ∧ w.cell? ⟨g, 7, none⟩ = some zh ∧ w.cell? ⟨g, 8, none⟩ = some zi ∧ w.cell? ⟨g, 9, none⟩ = some zj ∧ w.cell? ⟨g, 10, none⟩ = some zk :=
  ⟨cell_of_row w g 0 _ _ (0, 0) h, cell_of_row w g 1 _ _ (0, 0) h, cell_of_row w g 2 _ _ (0, 0) h, cell_of_row w g 3 _ _ (0, 0) h, cell_of_row w g 4 _ _ (0, 0) h, cell_of_row w g 5 _ _ (0, 0) h, cell_of_row w g 6 _ _ (0, 0) h, cell_of_row w g 7 _ _ (0, 0) h, cell_of_row w g 8 _ _ (0, 0) h, cell_of_row w g 9 _ _ (0, 0) h, cell_of_row w g 10 _ _ (0, 0) h⟩
theorem gcells {w : World} {g ty : Nat} {za zb zc : Value} (h : w.heap[g]? = some (.cells #[za, zb, zc] ty (0, 0))) : w.cell? ⟨g, 0, none⟩ = some za ∧ w.cell? ⟨g, 1, none⟩ = some zb ∧ w.cell? ⟨g, 2, none⟩ = some zc :=
  ⟨cell_of_row w g 0 _ _ (0, 0) h, cell_of_row w g 1 _ _ (0, 0) h, cell_of_row w g 2 _ _ (0, 0) h⟩
/-- The cells of one Get of a list. -/
theorem gqt_at {w w' : World} {S : Nat → Prop} {A : Option Addr} {c : Nat} {us : List Gqt} {g o : Nat} {F : Nat → Nat → Value} (h : Opn 3 EGqt w S A c us g o F) (hS : ∀ g, S g → g < w.heap.size) (hb : Below w.heap.size w w') {k : Nat} (hk : k < us.length) : ∃ A' c', LAt 3 EStp w' S (.slice A' (us.getD k default).steps.length c') (us.getD k default).steps ∧ w'.cell? ⟨g, o + k * 3, none⟩ = some (.int .i64 (us.getD k default).kind) ∧ w'.cell? ⟨g, o + k * 3 + 1, none⟩ = some (.slice A' (us.getD k default).steps.length c') ∧ w'.cell? ⟨g, o + k * 3 + 2, none⟩ = some (.string (us.getD k default).nm) := by
  have OL := h.later keepsGqt hS hb
  obtain ⟨e0, e1, e2⟩ := OL.el k hk
  have cc := OL.cells k hk
  obtain ⟨A', c', e3⟩ := e1.form
  refine ⟨A', c', by rw [← e3]; exact e1, ?_, ?_, ?_⟩
  · rw [← e0]; exact cc 0 (by omega)
  · rw [← e3]; exact cc 1 (by omega)
  · rw [← e2]; exact cc 2 (by omega)
def beP (jn on lk : ByteArray) (wn : Int) : Bool := if (em jn && em lk) = true then (decide (wn = 0) && em on) else if em lk = true then (Nm.nameOk jn && (Nm.nameOk on && inR 0 wn 1000000000000)) else if em jn = true then (Nm.nameOk lk && (Nm.nameOk on && decide (wn = 0))) else false
def winP (win size every : Int) (n : Nat) : Bool := if win = 0 then (decide (size = 0) && decide (every = 0)) else if win = 1 ∨ win = 3 then (decide (0 < n) && (inR 1 size 1000000000000 && decide (every = 0))) else if win = 2 then (decide (0 < n) && (inR 1 size 1000000000000 && (inR 1 every size && decide (size ≤ 20 * every)))) else false
def gtP (gr : Bool) (g : Gqt) : Bool := Nm.nameOk g.nm && (inR 0 g.kind 4 && ((gr != decide (g.kind = 0)) && (if g.kind = 1 then decide (g.steps.length = 0) else stepsOk g.steps)))
def qOk (q : Qry) : Bool := Nm.nameOk q.fr && (beP q.jn q.on q.lk q.wn && (cOk q.gps && (winP q.win q.size q.every q.gps.length && ((decide (q.wh.length = 0) || stepsOk q.wh) && (inR 1 q.gets.length 8 && q.gets.all (gtP (decide (0 < q.gps.length))))))))
theorem sz_wh {q : Qry} (h : szQry q ≤ 1048576) : szL szStp q.wh ≤ 1048576 := by unfold szQry at h; omega
theorem sz_gps {q : Qry} (h : szQry q ≤ 1048576) : szL ByteArray.size q.gps ≤ 1048576 := by unfold szQry at h; omega
theorem sz_gets {q : Qry} (h : szQry q ≤ 1048576) : szL szGqt q.gets ≤ 1048576 := by unfold szQry at h; omega
theorem sz_strs {q : Qry} (h : szQry q ≤ 1048576) : q.fr.size ≤ maxLen ∧ q.jn.size ≤ maxLen ∧ q.on.size ≤ maxLen ∧ q.lk.size ≤ maxLen := by unfold szQry at h; unfold maxLen; omega
end Go.Proofs.Ytkibaimemomjpaa.XqP
namespace Go.Proofs.Ytkibaimemomjpaa.XbI
set_option maxRecDepth 8000
open Go.RowKit
open Ls Lp QtP XsP XqP
open Recs (hsz below1 below2 chain)
set_option linter.unusedVariables false
theorem grp_any (q : Qry) (A5 : Option Addr) (c5 : Nat) (A6 : Option Addr) (c6 : Nat) (A10 : Option Addr) (c10 : Nat) (w : World) (b : Bool) (hb : decide (0 < q.gps.length) = b) : Calls Try.prog 39 #[.agg (qrow q A5 c5 A6 c6 A10 c10)] w fun e w' => e = .returned (.bool b) ∧ Below w.heap.size w w' := by
  have HB := Seg.hid hb
  clear hb
  go_enter Try.func39, Try.ntmps39
  by_cases h0 : 0 < q.gps.length
  · have h1 : (0 : Int) < (q.gps.length : Int) := by omega
    go_wp2
    go_ret
    exact ⟨by rw [← HB.out, decide_eq_true h0]; rfl, below1 _ _⟩
  · have h1 : ¬ (0 : Int) < (q.gps.length : Int) := by omega
    go_wp2
    go_ret
    exact ⟨by rw [← HB.out, decide_eq_false h0]; rfl, below1 _ _⟩
set_option maxHeartbeats 3200000 in
theorem be_any (q : Qry) (A5 : Option Addr) (c5 : Nat) (A6 : Option Addr) (c6 : Nat) (A10 : Option Addr) (c10 : Nat) (w : World) (hz : szQry q ≤ 1048576) : Calls Try.prog 77 #[.agg (qrow q A5 c5 A6 c6 A10 c10)] w fun e w' => e = .returned (.bool (beP q.jn q.on q.lk q.wn)) ∧ Below w.heap.size w w' := by
  obtain ⟨R, hR⟩ : ∃ R, beP q.jn q.on q.lk q.wn = R := ⟨_, rfl⟩
  rw [hR]
  unfold beP at hR
  obtain ⟨z0, z1, z2, z3⟩ := sz_strs hz
  have Sjn := Seg.hid z1
  have Son := Seg.hid z2
  have Slk := Seg.hid z3
  clear z0 z1 z2 z3 hz
  obtain ⟨ej, hej⟩ : ∃ e, (q.jn.toList == []) = e := ⟨_, rfl⟩
  have EJ : Hid (em q.jn = ej) := hej
  obtain ⟨el, hel⟩ : ∃ e, (q.lk.toList == []) = e := ⟨_, rfl⟩
  have EL : Hid (em q.lk = el) := hel
  obtain ⟨eo, heo⟩ : ∃ e, (q.on.toList == []) = e := ⟨_, rfl⟩
  have EO : Hid (em q.on = eo) := heo
  rw [EJ.out, EL.out, EO.out] at hR
  go_enter Try.func77, Try.ntmps77
  cases ej <;> cases el
  · -- both
    have RF : Hid (R = false) := by show _ = _; rw [← hR]; rfl
    clear hR
    go_wp2
    go_ret
    exact ⟨by rw [RF.out]; rfl, below1 _ _⟩
  · rw [if_neg (by decide), if_pos rfl] at hR
    cases n1 : Nm.nameOk q.jn with
    | false =>
      have H1 := Seg.hid n1
      have RF : Hid (R = false) := by show _ = _; rw [← hR, H1.out]; rfl
      clear hR
      go_wp2_with (first | (go_at_call_of 76 (Value.string q.jn); refine (Nm.impl_q _ _ H1.out _ Sjn.out).mono ?_; rintro e7 w6 ⟨rfl, rfl⟩))
      go_ret
      exact ⟨by rw [RF.out]; rfl, below1 _ _⟩
    | true =>
      have H1 := Seg.hid n1
      clear n1
      cases n2 : Nm.nameOk q.on with
      | false =>
        have H2 := Seg.hid n2
        clear n2
        have RF : Hid (R = false) := by show _ = _; rw [← hR, H1.out, H2.out]; rfl
        clear hR
        go_wp2_with (first | (go_at_call_of 76 (Value.string q.jn); refine (Nm.impl_q _ _ H1.out _ Sjn.out).mono ?_; rintro e7 w6 ⟨rfl, rfl⟩) | (go_at_call_of 76 (Value.string q.on); refine (Nm.impl_q _ _ H2.out _ Son.out).mono ?_; rintro e7 w6 ⟨rfl, rfl⟩))
        go_ret
        exact ⟨by rw [RF.out]; rfl, below1 _ _⟩
      | true =>
        have H2 := Seg.hid n2
        clear n2
        cases n3 : inR 0 q.wn 1000000000000 with
        | false =>
          have H3 := Seg.hid n3
          clear n3
          have RF : Hid (R = false) := by show _ = _; rw [← hR, H1.out, H2.out, H3.out]; rfl
          clear hR
          go_wp2_with (first | (go_at_call_of 76 (Value.string q.jn); refine (Nm.impl_q _ _ H1.out _ Sjn.out).mono ?_; rintro e7 w6 ⟨rfl, rfl⟩) | (go_at_call_of 76 (Value.string q.on); refine (Nm.impl_q _ _ H2.out _ Son.out).mono ?_; rintro e7 w6 ⟨rfl, rfl⟩) | (go_at_call 82; refine (InB.within_b _ _ _ _ H3.out _).mono ?_; rintro e7 w6 ⟨rfl, rfl⟩))
          go_ret
          exact ⟨by rw [RF.out]; rfl, below1 _ _⟩
        | true =>
          have H3 := Seg.hid n3
          clear n3
          have RF : Hid (R = true) := by show _ = _; rw [← hR, H1.out, H2.out, H3.out]; rfl
          clear hR
          go_wp2_with (first | (go_at_call_of 76 (Value.string q.jn); refine (Nm.impl_q _ _ H1.out _ Sjn.out).mono ?_; rintro e7 w6 ⟨rfl, rfl⟩) | (go_at_call_of 76 (Value.string q.on); refine (Nm.impl_q _ _ H2.out _ Son.out).mono ?_; rintro e7 w6 ⟨rfl, rfl⟩) | (go_at_call 82; refine (InB.within_b _ _ _ _ H3.out _).mono ?_; rintro e7 w6 ⟨rfl, rfl⟩))
          go_ret
          exact ⟨by rw [RF.out]; rfl, below1 _ _⟩
  · rw [if_neg (by decide), if_neg (by decide), if_pos rfl] at hR
    cases n1 : Nm.nameOk q.lk with
    | false =>
      have H1 := Seg.hid n1
      clear n1
      have RF : Hid (R = false) := by show _ = _; rw [← hR, H1.out]; rfl
      clear hR
      go_wp2_with (first | (go_at_call_of 76 (Value.string q.lk); refine (Nm.impl_q _ _ H1.out _ Slk.out).mono ?_; rintro e7 w6 ⟨rfl, rfl⟩))
      go_ret
      exact ⟨by rw [RF.out]; rfl, below1 _ _⟩
    | true =>
      have H1 := Seg.hid n1
      clear n1
      cases n2 : Nm.nameOk q.on with
      | false =>
        have H2 := Seg.hid n2
        clear n2
        have RF : Hid (R = false) := by show _ = _; rw [← hR, H1.out, H2.out]; rfl
        clear hR
        go_wp2_with (first | (go_at_call_of 76 (Value.string q.lk); refine (Nm.impl_q _ _ H1.out _ Slk.out).mono ?_; rintro e7 w6 ⟨rfl, rfl⟩) | (go_at_call_of 76 (Value.string q.on); refine (Nm.impl_q _ _ H2.out _ Son.out).mono ?_; rintro e7 w6 ⟨rfl, rfl⟩))
        go_ret
        exact ⟨by rw [RF.out]; rfl, below1 _ _⟩
      | true =>
        have H2 := Seg.hid n2
        clear n2
        by_cases h0 : q.wn = 0
        · have b0 : (q.wn == 0) = true := by simpa using h0
          rw [decide_eq_true h0] at hR
          have RF : Hid (R = true) := by show _ = _; rw [← hR, H1.out, H2.out]; rfl
          clear hR
          go_wp2_with (first | (go_at_call_of 76 (Value.string q.lk); refine (Nm.impl_q _ _ H1.out _ Slk.out).mono ?_; rintro e7 w6 ⟨rfl, rfl⟩) | (go_at_call_of 76 (Value.string q.on); refine (Nm.impl_q _ _ H2.out _ Son.out).mono ?_; rintro e7 w6 ⟨rfl, rfl⟩))
          go_ret
          exact ⟨by rw [RF.out]; rfl, below1 _ _⟩
        · have b0 : (q.wn == 0) = false := by simpa using h0
          rw [decide_eq_false h0] at hR
          have RF : Hid (R = false) := by show _ = _; rw [← hR, H1.out, H2.out]; rfl
          clear hR
          go_wp2_with (first | (go_at_call_of 76 (Value.string q.lk); refine (Nm.impl_q _ _ H1.out _ Slk.out).mono ?_; rintro e7 w6 ⟨rfl, rfl⟩) | (go_at_call_of 76 (Value.string q.on); refine (Nm.impl_q _ _ H2.out _ Son.out).mono ?_; rintro e7 w6 ⟨rfl, rfl⟩))
          go_ret
          exact ⟨by rw [RF.out]; rfl, below1 _ _⟩
  · rw [if_pos rfl] at hR
    by_cases h0 : q.wn = 0
    · have b0 : (q.wn == 0) = true := by simpa using h0
      rw [decide_eq_true h0] at hR
      cases eo
      ·
        have RF : Hid (R = false) := by show _ = _; rw [← hR]; rfl
        clear hR
        go_wp2
        go_ret
        exact ⟨by rw [RF.out]; rfl, below1 _ _⟩
      ·
        have RF : Hid (R = true) := by show _ = _; rw [← hR]; rfl
        clear hR
        go_wp2
        go_ret
        exact ⟨by rw [RF.out]; rfl, below1 _ _⟩
    · have b0 : (q.wn == 0) = false := by simpa using h0
      rw [decide_eq_false h0] at hR
      have RF : Hid (R = false) := by show _ = _; rw [← hR]; rfl
      clear hR
      go_wp2
      go_ret
      exact ⟨by rw [RF.out]; rfl, below1 _ _⟩
end Go.Proofs.Ytkibaimemomjpaa.XbI
