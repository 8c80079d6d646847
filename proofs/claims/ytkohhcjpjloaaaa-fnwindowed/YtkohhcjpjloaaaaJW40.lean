/- The program's Step.ok, Step.takes, expressionOk; The program's Get.ok and Query.getsOk. -/
import Derived.Deep.Cut
import Derived.Deep.RegionHeld3
import Derived.Test.YtkohhcjpjloaaaaJW10
import Derived.Test.YtkohhcjpjloaaaaJW15
import Derived.Test.YtkohhcjpjloaaaaJW07
import Derived.Test.YtkohhcjpjloaaaaJW39
namespace Go.Proofs.Ytkohhcjpjloaaaa.XsI
set_option maxRecDepth 8000
open Go.RowKit
open Ls Lp QtP XsP
open Recs (hsz below1 below2 chain)
set_option linter.unusedVariables false
set_option maxHeartbeats 1600000 in
theorem ok_any (op nu : Int) (nm : ByteArray) (w : World) (hs : nm.size ≤ maxLen) : Calls Try.prog 43 #[.agg #[.int .i64 op, .int .i64 nu, .string nm]] w fun e w' => e = .returned (.bool (ok3 op nu nm)) ∧ Below w.heap.size w w' := by
  obtain ⟨R, hR⟩ : ∃ R, ok3 op nu nm = R := ⟨_, rfl⟩
  rw [hR]
  unfold ok3 at hR
  have HS := Seg.hid hs
  clear hs
  obtain ⟨e, he⟩ : ∃ e, (nm.toList == []) = e := ⟨_, rfl⟩
  have EM : Hid (em nm = e) := he
  go_enter Try.func43, Try.ntmps43
  by_cases o1 : op = 1
  · subst o1
    rw [if_pos rfl, EM.out] at hR
    cases hb : inR 0 nu 1000000000000000 with
    | false =>
      have HK := Seg.hid hb
      have RF : Hid (R = false) := by show _ = _; rw [← hR, hb]; rfl
      clear hb hR
      go_wp2_with (go_at_call 31; refine (InB.within_b _ _ _ _ HK.out _).mono ?_; rintro e7 w6 ⟨rfl, rfl⟩)
      go_ret
      exact ⟨by rw [RF.out]; rfl, below1 _ _⟩
    | true =>
      have HK := Seg.hid hb
      have RF : Hid (R = e) := by show _ = _; rw [← hR, hb]; rfl
      clear hb hR
      cases e
      all_goals
        go_wp2_with (go_at_call 31; refine (InB.within_b _ _ _ _ HK.out _).mono ?_; rintro e7 w6 ⟨rfl, rfl⟩)
        go_ret
        exact ⟨by rw [RF.out]; rfl, below1 _ _⟩
  have p1 : (op == 1) = false := by simpa using o1
  rw [if_neg o1] at hR
  by_cases o2 : op = 2
  · subst o2
    rw [if_pos rfl] at hR
    by_cases hn0 : nu = 0
    · subst hn0
      cases hb : Nm.nameOk nm with
      | false =>
        have HY := Seg.hid hb
        have RF : Hid (R = false) := by show _ = _; rw [← hR, hb]; rfl
        clear hb hR
        go_wp2_with (go_at_call 25; refine (Nm.impl_q _ _ HY.out _ HS.out).mono ?_; rintro e7 w6 ⟨rfl, rfl⟩)
        go_ret
        exact ⟨by rw [RF.out]; rfl, below1 _ _⟩
      | true =>
        have HY := Seg.hid hb
        have RF : Hid (R = true) := by show _ = _; rw [← hR, hb]; rfl
        clear hb hR
        go_wp2_with (go_at_call 25; refine (Nm.impl_q _ _ HY.out _ HS.out).mono ?_; rintro e7 w6 ⟨rfl, rfl⟩)
        go_ret
        exact ⟨by rw [RF.out]; rfl, below1 _ _⟩
    · have hn1 : (nu == 0) = false := by simpa using hn0
      have RF : Hid (R = false) := by show _ = _; rw [← hR, decide_eq_false hn0]; rfl
      clear hn0 hR
      go_wp2
      go_ret
      exact ⟨by rw [RF.out]; rfl, below1 _ _⟩
  have p2 : (op == 2) = false := by simpa using o2
  rw [if_neg o2, EM.out] at hR
  cases hb : inR 3 op 12 with
  | false =>
    have HK := Seg.hid hb
    have RF : Hid (R = false) := by show _ = _; rw [← hR, hb]; rfl
    clear hb hR o1 o2
    go_wp2_with (go_at_call 31; refine (InB.within_b _ _ _ _ HK.out _).mono ?_; rintro e7 w6 ⟨rfl, rfl⟩)
    go_ret
    exact ⟨by rw [RF.out]; rfl, below1 _ _⟩
  | true =>
    have HK := Seg.hid hb
    by_cases hn0 : nu = 0
    · subst hn0
      have RF : Hid (R = e) := by show _ = _; rw [← hR, hb]; rfl
      clear hb hR o1 o2
      cases e
      all_goals
        go_wp2_with (go_at_call 31; refine (InB.within_b _ _ _ _ HK.out _).mono ?_; rintro e7 w6 ⟨rfl, rfl⟩)
        go_ret
        exact ⟨by rw [RF.out]; rfl, below1 _ _⟩
    · have hn1 : (nu == 0) = false := by simpa using hn0
      have RF : Hid (R = false) := by show _ = _; rw [← hR, hb, decide_eq_false hn0]; rfl
      clear hn0 hb hR o1 o2
      go_wp2_with (go_at_call 31; refine (InB.within_b _ _ _ _ HK.out _).mono ?_; rintro e7 w6 ⟨rfl, rfl⟩)
      go_ret
      exact ⟨by rw [RF.out]; rfl, below1 _ _⟩
theorem takes_any (op nu : Int) (nm : ByteArray) (w : World) : Calls Try.prog 44 #[.agg #[.int .i64 op, .int .i64 nu, .string nm]] w fun e w' => e = .returned (.int .i64 (tk op)) ∧ Below w.heap.size w w' := by
  obtain ⟨R, hR⟩ : ∃ R, tk op = R := ⟨_, rfl⟩
  rw [hR]
  unfold tk at hR
  have HR := Seg.hid hR
  clear hR
  go_enter Try.func44, Try.ntmps44
  by_cases o1 : op = 1
  · subst o1
    go_wp2
    go_ret
    exact ⟨by rw [← HR.out]; rfl, below1 _ _⟩
  have p1 : (op == 1) = false := by simpa using o1
  by_cases o2 : op = 2
  · subst o2
    clear o1
    go_wp2
    go_ret
    exact ⟨by rw [← HR.out]; rfl, below1 _ _⟩
  have p2 : (op == 2) = false := by simpa using o2
  by_cases o12 : op = 12
  · subst o12
    clear o1 o2
    go_wp2
    go_ret
    exact ⟨by rw [← HR.out]; rfl, below1 _ _⟩
  have p12 : (op == 12) = false := by simpa using o12
  have RF : Hid (R = 2) := by show _ = _; rw [← HR.out, if_neg o1, if_neg o2, if_neg o12]
  clear o1 o2 o12 HR
  go_wp2
  go_ret
  exact ⟨by rw [RF.out]; rfl, below1 _ _⟩
set_option maxHeartbeats 3200000 in
theorem exp_any (v : Value) (l : List Stp) (w : World) (S : Nat → Prop) (hv : LAt 3 EStp w S v l) (hS : ∀ g, S g → g < w.heap.size) (hf : szL szStp l ≤ 1048576) : Calls Try.prog 29 #[v] w fun e w' => e = .returned (.bool (stepsOk l)) ∧ Below w.heap.size w w' := by
  obtain ⟨A, c, g, o, F, rfl, OP, hn⟩ := opn hv hS
  have HO := Seg.hid OP
  have HZ := Seg.hid hf
  clear hv OP hf
  obtain ⟨R, hR⟩ : ∃ R, stepsOk l = R := ⟨_, rfl⟩
  rw [hR]
  have HR := Seg.hid hR
  clear hR
  go_enter Try.func29, Try.ntmps29
  by_cases h60 : 60 < l.length
  · have RF : Hid (R = false) := by show _ = _; rw [← HR.out, stepsOk, decide_eq_false (by omega)]; rfl
    have q60 : (60 : Int) < (l.length : Int) := by omega
    go_wp2
    go_ret
    exact ⟨by rw [RF.out]; rfl, Below.refl _ _⟩
  have R1 : Hid (R = endH (runH l 0)) := by show _ = _; rw [← HR.out, stepsOk, decide_eq_true (by omega)]; rfl
  have q60 : ¬ (60 : Int) < (l.length : Int) := by omega
  clear HR
  go_wp2
  go_loopw [3, 11] (fun v i wr => ∃ (k : Nat) (h : Int), k ≤ l.length ∧ v = .int .i64 h ∧ i = .int .i64 k ∧ Hid (0 ≤ h ∧ h ≤ k ∧ runH (l.drop k) h = runH l 0 ∧ Below w.heap.size w wr)) (fun _ i _ => l.length - (intOf i).toNat)
  case atStart => exact ⟨0, 0, Nat.zero_le _, rfl, rfl, by omega, by omega, rfl, Below.refl _ _⟩
  case round =>
    obtain ⟨k, h, hk, rfl, rfl, HG⟩ := hrel
    have hh0 : 0 ≤ h := HG.out.1
    have hh1 : h ≤ 60 := by have := HG.out.2.1; omega
    have hhk : h ≤ k := HG.out.2.1
    have RH : Hid (runH (l.drop k) h = runH l 0) := HG.out.2.2.1
    have BW : Hid (Below w.heap.size w wr) := HG.out.2.2.2
    clear HG
    by_cases hlt : k < l.length
    · obtain ⟨ea, hc, hgw⟩ := HO.out.addr.resolve_left (by omega)
      subst ea
      obtain ⟨d0, d1, d2⟩ := stp_at HO.out hS BW.out hlt
      have h0 : (0 : Int) ≤ (k : Int) := by omega
      have h1 : (k : Int) < (l.length : Int) := by omega
      have SU : Hid (szStp (l.getD k default) ≤ 1048576) := szL_one szStp HZ.out hlt
      have SE := Seg.hid (step_eq (l.getD k default) h hh0)
      have NO : Hid (stepH (l.getD k default) h = none → R = false) := fun e => by rw [R1.out, ← RH.out, run_none hlt e]; rfl
      have YES : Hid (∀ h', stepH (l.getD k default) h = some h' → runH (l.drop (k + 1)) h' = runH l 0) := fun h' e => by rw [← RH.out, run_some hlt e]
      clear RH
      generalize l.getD k default = s at *
      have TN : Hid (s.name.size ≤ maxLen) := by show _ ≤ _; have := SU.out; unfold szStp at this; unfold maxLen; omega
      obtain ⟨op, hop⟩ : ∃ op, s.op = op := ⟨_, rfl⟩
      obtain ⟨nu, hnu⟩ : ∃ nu, s.num = nu := ⟨_, rfl⟩
      obtain ⟨nm, hnm⟩ : ∃ nm, s.name = nm := ⟨_, rfl⟩
      rw [hop] at d0
      rw [hnu] at d1
      rw [hnm] at d2 TN
      rw [hop, hnu, hnm] at SE
      clear hop hnu hnm
      obtain ⟨t, ht⟩ : ∃ t, tk op = t := ⟨_, rfl⟩
      have ht0 : 0 ≤ t := by rw [← ht]; exact (tk_in op).1
      have ht2 : t ≤ 2 := by rw [← ht]; exact (tk_in op).2
      rw [ht] at SE
      have CT : Hid (∀ wx : World, Calls Try.prog 44 #[.agg #[.int .i64 op, .int .i64 nu, .string nm]] wx fun e w' => e = .returned (.int .i64 t) ∧ Below wx.heap.size wx w') := fun wx => by rw [← ht]; exact takes_any op nu nm wx
      clear ht
      obtain ⟨w5, hw5⟩ : ∃ w5, wr.alloc (.cells #[.int .i64 op, .int .i64 nu, .string nm] 55 (0, 0)) = w5 := ⟨_, rfl⟩
      have T5 : Hid (w5.heap[wr.heap.size]? = some (.cells #[.int .i64 op, .int .i64 nu, .string nm] 55 (0, 0))) := by show _ = _; rw [← hw5]; exact heap_alloc_new _ _
      have N5 : Hid (Below wr.heap.size wr w5) := by show Below _ _ _; rw [← hw5]; exact below1 _ _
      go_upto_region 7 with fail
      try rw [hw5]
      clear hw5 d0 d1 d2
      have q0 : w5.cell? ⟨wr.heap.size, 0, none⟩ = some (.int .i64 op) := cell_of_row w5 _ 0 _ _ (0, 0) T5.out
      have q1 : w5.cell? ⟨wr.heap.size, 1, none⟩ = some (.int .i64 nu) := cell_of_row w5 _ 1 _ _ (0, 0) T5.out
      have q2 : w5.cell? ⟨wr.heap.size, 2, none⟩ = some (.string nm) := cell_of_row w5 _ 2 _ _ (0, 0) T5.out
      go_wp2_with fail
      refine (ok_any op nu nm _ TN.out).mono ?_
      rintro e6 w6 ⟨rfl, b6⟩
      have B6 := Seg.hid (chain N5.out b6)
      have T6 := Seg.hid ((b6.block _ (Array.getElem?_eq_some_iff.1 T5.out).1).trans T5.out)
      have g0 : w6.cell? ⟨wr.heap.size, 0, none⟩ = some (.int .i64 op) := cell_of_row w6 _ 0 _ _ (0, 0) T6.out
      have g1 : w6.cell? ⟨wr.heap.size, 1, none⟩ = some (.int .i64 nu) := cell_of_row w6 _ 1 _ _ (0, 0) T6.out
      have g2 : w6.cell? ⟨wr.heap.size, 2, none⟩ = some (.string nm) := cell_of_row w6 _ 2 _ _ (0, 0) T6.out
      clear b6 q0 q1 q2 T5
      cases hok : ok3 op nu nm with
      | false =>
        have RF : Hid (R = false) := NO.out (by rw [SE.out, hok]; rfl)
        clear NO YES hok SE
        go_wp2
        go_ret
        exact ⟨by rw [RF.out]; rfl, chain BW.out B6.out⟩
      | true =>
        rw [hok] at SE
        clear hok
        go_wp2_with fail
        refine (CT.out _).mono ?_
        rintro e7 w7 ⟨rfl, b7⟩
        have B7 := Seg.hid (chain B6.out b7)
        have T7 := Seg.hid ((b7.block _ (Array.getElem?_eq_some_iff.1 T6.out).1).trans T6.out)
        have f0 : w7.cell? ⟨wr.heap.size, 0, none⟩ = some (.int .i64 op) := cell_of_row w7 _ 0 _ _ (0, 0) T7.out
        have f1 : w7.cell? ⟨wr.heap.size, 1, none⟩ = some (.int .i64 nu) := cell_of_row w7 _ 1 _ _ (0, 0) T7.out
        have f2 : w7.cell? ⟨wr.heap.size, 2, none⟩ = some (.string nm) := cell_of_row w7 _ 2 _ _ (0, 0) T7.out
        clear b7 g0 g1 g2 T6
        by_cases hth : h < t
        · have RF : Hid (R = false) := NO.out (by rw [SE.out, decide_eq_false (by omega)]; rfl)
          clear NO YES SE
          go_wp2
          go_ret
          exact ⟨by rw [RF.out]; rfl, chain BW.out B7.out⟩
        · have NX := Seg.hid (YES.out (h + (1 - t)) (by rw [SE.out, decide_eq_true (show t ≤ h by omega)]; rfl))
          clear NO YES SE
          go_wp2_with fail
          refine (CT.out _).mono ?_
          rintro e8 w8 ⟨rfl, b8⟩
          have B8 := Seg.hid (chain B7.out b8)
          clear b8 f0 f1 f2 T7
          go_wp2
          go_roundw
          case rel => exact ⟨k + 1, h + (1 - t), by omega, by go_num, by go_num, by omega, by omega, NX.out, chain BW.out B8.out⟩
          case measure => simp [intOf]; omega
    · have hkl : k = l.length := by omega
      have RT : Hid (R = decide (h = 1)) := by show _ = _; have := RH.out; rw [hkl, List.drop_length, runH] at this; rw [R1.out, ← this]; rfl
      have hx1 : ¬ (k : Int) < (l.length : Int) := by omega
      clear hkl
      by_cases e1 : h = 1
      · subst e1
        go_wp2
        go_ret
        exact ⟨by rw [RT.out]; rfl, BW.out⟩
      · have e2 : (h == 1) = false := by simpa using e1
        have RT2 : Hid (R = false) := by show _ = _; rw [RT.out]; exact decide_eq_false e1
        clear e1 RT
        go_wp2
        go_ret
        exact ⟨by rw [RT2.out]; rfl, BW.out⟩
end Go.Proofs.Ytkohhcjpjloaaaa.XsI
namespace Go.Proofs.Ytkohhcjpjloaaaa.XgI
set_option maxRecDepth 8000
open Go.RowKit
open Ls Lp QtP XsP XqP XbI
open Recs (hsz below1 below2 chain)
set_option linter.unusedVariables false
theorem gt_zero {gr : Bool} {g : Gqt} (h : g.kind = 0) : gtP gr g = (Nm.nameOk g.nm && (!gr && stepsOk g.steps)) := by
  unfold gtP
  rw [h]
  cases gr <;> simp [inR]
theorem gt_one {gr : Bool} {g : Gqt} (h : g.kind = 1) : gtP gr g = (Nm.nameOk g.nm && (gr && decide (g.steps.length = 0))) := by
  unfold gtP
  rw [h]
  cases gr <;> simp [inR]
theorem gt_more {gr : Bool} {g : Gqt} (h0 : ¬ g.kind = 0) (h1 : ¬ g.kind = 1) : gtP gr g = (Nm.nameOk g.nm && (inR 0 g.kind 4 && (gr && stepsOk g.steps))) := by
  unfold gtP
  rw [decide_eq_false h0, if_neg h1]
  cases gr <;> simp
set_option maxHeartbeats 6400000 in
theorem get_any (g : Gqt) (A : Option Addr) (c : Nat) (gr : Bool) (w : World) (S : Nat → Prop) (hl : LAt 3 EStp w S (.slice A g.steps.length c) g.steps) (hS : ∀ g, S g → g < w.heap.size) (hz : szGqt g ≤ 1048576) : Calls Try.prog 45 #[.agg #[.int .i64 g.kind, .slice A g.steps.length c, .string g.nm], .bool gr] w fun e w' => e = .returned (.bool (gtP gr g)) ∧ Below w.heap.size w w' := by
  obtain ⟨R, hR⟩ : ∃ R, gtP gr g = R := ⟨_, rfl⟩
  rw [hR]
  have TN : Hid (g.nm.size ≤ maxLen) := by show _ ≤ _; unfold szGqt at hz; unfold maxLen; omega
  have CE : Hid (∀ wx, Below w.heap.size w wx → Calls Try.prog 29 #[.slice A g.steps.length c] wx fun e w' => e = .returned (.bool (stepsOk g.steps)) ∧ Below wx.heap.size wx w') := fun wx b => XsI.exp_any _ _ wx S (LAt.below keepsStp hl b hS) (fun y hy => Nat.lt_of_lt_of_le (hS y hy) b.size) (by unfold szGqt at hz; omega)
  clear hl hz
  have Z0 := @gt_zero gr g
  have Z1 := @gt_one gr g
  have Z2 := @gt_more gr g
  obtain ⟨ki, hki⟩ : ∃ ki, g.kind = ki := ⟨_, rfl⟩
  rw [hki] at Z0 Z1 Z2 ⊢
  rw [hR] at Z0 Z1 Z2
  have ZZ := Seg.hid (And.intro Z0 (And.intro Z1 Z2))
  clear Z0 Z1 Z2 hR hki
  go_enter Try.func45, Try.ntmps45
  by_cases k0 : ki = 0
  · subst k0
    have H2 : Hid (inR 0 0 4 = true) := rfl
    cases n1 : Nm.nameOk g.nm with
    | false =>
      have H1 := Seg.hid n1
      clear n1
      have RF : Hid (R = false) := by show _ = _; rw [ZZ.out.1 rfl, H1.out]; rfl
      go_wp2_with (first | (go_at_call 25; refine (Nm.impl_q _ _ H1.out _ TN.out).mono ?_; rintro e7 w6 ⟨rfl, rfl⟩))
      go_ret
      exact ⟨by rw [RF.out]; rfl, below1 _ _⟩
    | true =>
      have H1 := Seg.hid n1
      clear n1
      cases gr
      · have RF : Hid (R = stepsOk g.steps) := by show _ = _; rw [ZZ.out.1 rfl, H1.out]; rfl
        go_wp2_with (first | (go_at_call 25; refine (Nm.impl_q _ _ H1.out _ TN.out).mono ?_; rintro e7 w6 ⟨rfl, rfl⟩) | (go_at_call 31; refine (InB.within_b _ _ _ _ H2.out _).mono ?_; rintro e7 w6 ⟨rfl, rfl⟩) | (go_at_call 29; refine (CE.out _ (below1 w _)).mono ?_; rintro e7 w6 ⟨rfl, b6⟩; have B6 := Seg.hid (chain (below1 w _) b6); clear b6))
        go_ret
        exact ⟨by rw [RF.out]; rfl, B6.out⟩
      · have RF : Hid (R = false) := by show _ = _; rw [ZZ.out.1 rfl, H1.out]; rfl
        go_wp2_with (first | (go_at_call 25; refine (Nm.impl_q _ _ H1.out _ TN.out).mono ?_; rintro e7 w6 ⟨rfl, rfl⟩) | (go_at_call 31; refine (InB.within_b _ _ _ _ H2.out _).mono ?_; rintro e7 w6 ⟨rfl, rfl⟩))
        go_ret
        exact ⟨by rw [RF.out]; rfl, below1 _ _⟩
  by_cases k1 : ki = 1
  · subst k1
    have H2 : Hid (inR 0 1 4 = true) := rfl
    cases n1 : Nm.nameOk g.nm with
    | false =>
      have H1 := Seg.hid n1
      clear n1
      have RF : Hid (R = false) := by show _ = _; rw [ZZ.out.2.1 rfl, H1.out]; rfl
      go_wp2_with (first | (go_at_call 25; refine (Nm.impl_q _ _ H1.out _ TN.out).mono ?_; rintro e7 w6 ⟨rfl, rfl⟩))
      go_ret
      exact ⟨by rw [RF.out]; rfl, below1 _ _⟩
    | true =>
      have H1 := Seg.hid n1
      clear n1
      cases gr
      · have RF : Hid (R = false) := by show _ = _; rw [ZZ.out.2.1 rfl, H1.out]; rfl
        go_wp2_with (first | (go_at_call 25; refine (Nm.impl_q _ _ H1.out _ TN.out).mono ?_; rintro e7 w6 ⟨rfl, rfl⟩) | (go_at_call 31; refine (InB.within_b _ _ _ _ H2.out _).mono ?_; rintro e7 w6 ⟨rfl, rfl⟩))
        go_ret
        exact ⟨by rw [RF.out]; rfl, below1 _ _⟩
      · by_cases hl0 : g.steps.length = 0
        · have hl1 : ((g.steps.length : Int) == 0) = true := by simpa using hl0
          have RF : Hid (R = true) := by show _ = _; rw [ZZ.out.2.1 rfl, H1.out, decide_eq_true hl0]; rfl
          go_wp2_with (first | (go_at_call 25; refine (Nm.impl_q _ _ H1.out _ TN.out).mono ?_; rintro e7 w6 ⟨rfl, rfl⟩) | (go_at_call 31; refine (InB.within_b _ _ _ _ H2.out _).mono ?_; rintro e7 w6 ⟨rfl, rfl⟩))
          go_ret
          exact ⟨by rw [RF.out]; rfl, below1 _ _⟩
        · have hl1 : ((g.steps.length : Int) == 0) = false := by simpa using hl0
          have RF : Hid (R = false) := by show _ = _; rw [ZZ.out.2.1 rfl, H1.out, decide_eq_false hl0]; rfl
          go_wp2_with (first | (go_at_call 25; refine (Nm.impl_q _ _ H1.out _ TN.out).mono ?_; rintro e7 w6 ⟨rfl, rfl⟩) | (go_at_call 31; refine (InB.within_b _ _ _ _ H2.out _).mono ?_; rintro e7 w6 ⟨rfl, rfl⟩))
          go_ret
          exact ⟨by rw [RF.out]; rfl, below1 _ _⟩
  have p0 : (ki == 0) = false := by simpa using k0
  have p1 : (ki == 1) = false := by simpa using k1
  have Z := Seg.hid (ZZ.out.2.2 k0 k1)
  clear ZZ k0 k1
  cases n1 : Nm.nameOk g.nm with
  | false =>
    have H1 := Seg.hid n1
    clear n1
    have RF : Hid (R = false) := by show _ = _; rw [Z.out, H1.out]; rfl
    go_wp2_with (first | (go_at_call 25; refine (Nm.impl_q _ _ H1.out _ TN.out).mono ?_; rintro e7 w6 ⟨rfl, rfl⟩))
    go_ret
    exact ⟨by rw [RF.out]; rfl, below1 _ _⟩
  | true =>
    have H1 := Seg.hid n1
    clear n1
    cases n2 : inR 0 ki 4 with
    | false =>
      have H2 := Seg.hid n2
      clear n2
      have RF : Hid (R = false) := by show _ = _; rw [Z.out, H1.out, H2.out]; rfl
      go_wp2_with (first | (go_at_call 25; refine (Nm.impl_q _ _ H1.out _ TN.out).mono ?_; rintro e7 w6 ⟨rfl, rfl⟩) | (go_at_call 31; refine (InB.within_b _ _ _ _ H2.out _).mono ?_; rintro e7 w6 ⟨rfl, rfl⟩))
      go_ret
      exact ⟨by rw [RF.out]; rfl, below1 _ _⟩
    | true =>
      have H2 := Seg.hid n2
      clear n2
      cases gr
      · have RF : Hid (R = false) := by show _ = _; rw [Z.out, H1.out, H2.out]; rfl
        go_wp2_with (first | (go_at_call 25; refine (Nm.impl_q _ _ H1.out _ TN.out).mono ?_; rintro e7 w6 ⟨rfl, rfl⟩) | (go_at_call 31; refine (InB.within_b _ _ _ _ H2.out _).mono ?_; rintro e7 w6 ⟨rfl, rfl⟩))
        go_ret
        exact ⟨by rw [RF.out]; rfl, below1 _ _⟩
      · have RF : Hid (R = stepsOk g.steps) := by show _ = _; rw [Z.out, H1.out, H2.out]; rfl
        go_wp2_with (first | (go_at_call 25; refine (Nm.impl_q _ _ H1.out _ TN.out).mono ?_; rintro e7 w6 ⟨rfl, rfl⟩) | (go_at_call 31; refine (InB.within_b _ _ _ _ H2.out _).mono ?_; rintro e7 w6 ⟨rfl, rfl⟩) | (go_at_call 29; refine (CE.out _ (below1 w _)).mono ?_; rintro e7 w6 ⟨rfl, b6⟩; have B6 := Seg.hid (chain (below1 w _) b6); clear b6))
        go_ret
        exact ⟨by rw [RF.out]; rfl, B6.out⟩
set_option maxHeartbeats 12800000 in
theorem gets_any (q : Qry) (A5 : Option Addr) (c5 : Nat) (A6 : Option Addr) (c6 : Nat) (A10 : Option Addr) (c10 : Nat) (w : World) (S : Nat → Prop) (hl : LAt 3 EGqt w S (.slice A10 q.gets.length c10) q.gets) (hS : ∀ g, S g → g < w.heap.size) (hz : szQry q ≤ 1048576) : Calls Try.prog 30 #[.agg (qrow q A5 c5 A6 c6 A10 c10)] w fun e w' => e = .returned (.bool (inR 1 q.gets.length 8 && q.gets.all (gtP (decide (0 < q.gps.length))))) ∧ Below w.heap.size w w' := by
  obtain ⟨A, c, g0, o, F, e0, OP, hn⟩ := opn hl hS
  cases e0
  have HO := Seg.hid OP
  have HZ := Seg.hid (sz_gets hz)
  clear hl OP hz
  obtain ⟨gr, hgr⟩ : ∃ gr, decide (0 < q.gps.length) = gr := ⟨_, rfl⟩
  rw [hgr]
  obtain ⟨R, hR⟩ : ∃ R, (inR 1 q.gets.length 8 && q.gets.all (gtP gr)) = R := ⟨_, rfl⟩
  rw [hR]
  have HR := Seg.hid hR
  clear hR
  have CG : Hid (∀ wx, Calls Try.prog 15 #[.agg (qrow q A5 c5 A6 c6 A10 c10)] wx fun e w' => e = .returned (.bool gr) ∧ Below wx.heap.size wx w') := fun wx => grp_any q A5 c5 A6 c6 A10 c10 wx gr hgr
  clear hgr
  obtain ⟨W0, hW0⟩ : ∃ W0, w.alloc (.cells (qrow q A5 c5 A6 c6 A10 c10) 28 (0, 0)) = W0 := ⟨_, rfl⟩
  have T0 : Hid (W0.heap[w.heap.size]? = some (.cells (qrow q A5 c5 A6 c6 A10 c10) 28 (0, 0))) := by show _ = _; rw [← hW0]; exact heap_alloc_new _ _
  have N0 : Hid (Below w.heap.size w W0) := by show Below _ _ _; rw [← hW0]; exact below1 _ _
  obtain ⟨q0, q1, q2, q3, q4, q5, q6, q7, q8, q9, q10⟩ := qcells T0.out
  go_enter Try.func30, Try.ntmps30
  cases n1 : inR 1 q.gets.length 8 with
  | false =>
    have H1 := Seg.hid n1
    have RF : Hid (R = false) := by show _ = _; rw [← HR.out, n1]; rfl
    clear n1
    go_wp2_with (go_at_call 31; refine (InB.within_b _ _ _ _ H1.out _).mono ?_; rintro e7 w6 ⟨rfl, rfl⟩)
    go_ret
    exact ⟨by rw [RF.out]; rfl, N0.out⟩
  | true =>
    have H1 := Seg.hid n1
    have h8 := inR_true n1
    have R1 : Hid (R = q.gets.all (gtP gr)) := by show _ = _; rw [← HR.out, n1]; rfl
    clear n1 HR
    go_wp2_with (go_at_call 31; refine (InB.within_b _ _ _ _ H1.out _).mono ?_; rintro e7 w6 ⟨rfl, rfl⟩)
    clear hW0 q0 q1 q2 q3 q4 q5 q6 q7 q8 q9 q10
    go_loopw [13] (fun i wr => ∃ k : Nat, k ≤ q.gets.length ∧ i = .int .i64 k ∧ Hid ((q.gets.take k).all (gtP gr) = true ∧ Below w.heap.size w wr ∧ wr.heap[w.heap.size]? = some (.cells (qrow q A5 c5 A6 c6 A10 c10) 28 (0, 0)))) (fun i _ => q.gets.length - (intOf i).toNat)
    case atStart => exact ⟨0, Nat.zero_le _, rfl, by simp, N0.out, T0.out⟩
    case round =>
      clear N0 T0
      obtain ⟨k, hk, rfl, HG⟩ := hrel
      have BW : Hid (Below w.heap.size w wr) := HG.out.2.1
      have TW : Hid (wr.heap[w.heap.size]? = some (.cells (qrow q A5 c5 A6 c6 A10 c10) 28 (0, 0))) := HG.out.2.2
      have AW := Seg.hid HG.out.1
      clear HG
      by_cases hlt : k < q.gets.length
      · obtain ⟨ea, hc, hgw⟩ := HO.out.addr.resolve_left (by omega)
        subst ea
        obtain ⟨A', c', hcl, d0, d1, d2⟩ := gqt_at HO.out hS BW.out hlt
        have h0 : (0 : Int) ≤ (k : Int) := by omega
        have h1 : (k : Int) < (q.gets.length : Int) := by omega
        have SU : Hid (szGqt (q.gets.getD k default) ≤ 1048576) := szL_one szGqt HZ.out hlt
        have NX : Hid (gtP gr (q.gets.getD k default) = true → (q.gets.take (k + 1)).all (gtP gr) = true) := QsP.all_next (gtP gr) q.gets k hlt AW.out
        have BX : Hid (gtP gr (q.gets.getD k default) = false → q.gets.all (gtP gr) = false) := QsP.all_bad (gtP gr) q.gets k hlt
        have HC := Seg.hid hcl
        clear hcl AW
        generalize q.gets.getD k default = g at *
        have hSr : ∀ y, S y → y < wr.heap.size := fun y hy => Nat.lt_of_lt_of_le (hS y hy) BW.out.size
        have CO : Hid (∀ wx, Below wr.heap.size wr wx → Calls Try.prog 45 #[.agg #[.int .i64 g.kind, .slice A' g.steps.length c', .string g.nm], .bool gr] wx fun e w' => e = .returned (.bool (gtP gr g)) ∧ Below wx.heap.size wx w') := fun wx b => get_any g A' c' gr wx S (LAt.below keepsStp HC.out b hSr) (fun y hy => Nat.lt_of_lt_of_le (hSr y hy) b.size) SU.out
        obtain ⟨w5, hw5⟩ : ∃ w5, wr.alloc (.cells #[.int .i64 g.kind, .slice A' g.steps.length c', .string g.nm] 35 (0, 0)) = w5 := ⟨_, rfl⟩
        have T5 : Hid (w5.heap[wr.heap.size]? = some (.cells #[.int .i64 g.kind, .slice A' g.steps.length c', .string g.nm] 35 (0, 0))) := by show _ = _; rw [← hw5]; exact heap_alloc_new _ _
        have N5 : Hid (Below wr.heap.size wr w5) := by show Below _ _ _; rw [← hw5]; exact below1 _ _
        have Q5 : Hid (w5.heap[w.heap.size]? = some (.cells (qrow q A5 c5 A6 c6 (some ⟨g0, o, none⟩) c10) 28 (0, 0))) := (N5.out.block _ (Array.getElem?_eq_some_iff.1 TW.out).1).trans TW.out
        go_upto_region 6 with fail
        try rw [hw5]
        clear hw5 d0 d1 d2
        obtain ⟨q0, q1, q2, q3, q4, q5, q6, q7, q8, q9, q10⟩ := qcells Q5.out
        obtain ⟨p0, p1, p2⟩ := gcells T5.out
        obtain ⟨K, hK⟩ : ∃ K, gtP gr g = K := ⟨_, rfl⟩
        rw [hK] at NX BX CO
        clear hK
        go_region_held3 (fun w' => w'.cell? ⟨wr.heap.size, 0, none⟩ = some (.int .i64 g.kind) ∧ w'.cell? ⟨wr.heap.size, 1, none⟩ = some (.slice A' g.steps.length c') ∧ w'.cell? ⟨wr.heap.size, 2, none⟩ = some (.string g.nm) ∧ w'.cell? ⟨w.heap.size, 0, none⟩ = some (.string q.fr) ∧ w'.cell? ⟨w.heap.size, 1, none⟩ = some (.string q.jn) ∧ w'.cell? ⟨w.heap.size, 2, none⟩ = some (.int .i64 q.wn) ∧ w'.cell? ⟨w.heap.size, 3, none⟩ = some (.string q.on) ∧ w'.cell? ⟨w.heap.size, 4, none⟩ = some (.string q.lk) ∧ w'.cell? ⟨w.heap.size, 5, none⟩ = some (.slice A5 q.wh.length c5) ∧ w'.cell? ⟨w.heap.size, 6, none⟩ = some (.slice A6 q.gps.length c6) ∧ w'.cell? ⟨w.heap.size, 7, none⟩ = some (.int .i64 q.win) ∧ w'.cell? ⟨w.heap.size, 8, none⟩ = some (.int .i64 q.size) ∧ w'.cell? ⟨w.heap.size, 9, none⟩ = some (.int .i64 q.every) ∧ w'.cell? ⟨w.heap.size, 10, none⟩ = some (.slice (some ⟨g0, o, none⟩) q.gets.length c10)) (first | exact ⟨p0, p1, p2, q0, q1, q2, q3, q4, q5, q6, q7, q8, q9, q10⟩ | exact ⟨m0, m1, m2, r0, r1, r2, r3, r4, r5, r6, r7, r8, r9, r10⟩ | go_keep) (first | (go_at_call 15; refine (CG.out _).mono ?_; rintro e6 w6 ⟨rfl, b6⟩; have B6 := Seg.hid (chain N5.out.drew b6); obtain ⟨r0, r1, r2, r3, r4, r5, r6, r7, r8, r9, r10⟩ := qcells ((b6.block _ (Array.getElem?_eq_some_iff.1 Q5.out).1).trans Q5.out); obtain ⟨m0, m1, m2⟩ := gcells ((b6.block _ (Array.getElem?_eq_some_iff.1 T5.out).1).trans T5.out); have M6 := Seg.hid ((b6.block _ (Array.getElem?_eq_some_iff.1 T5.out).1).trans T5.out); clear b6) | (go_at_call 45; refine (CO.out _ B6.out).mono ?_; rintro e7 w7 ⟨rfl, b7⟩; have B7 := Seg.hid (chain B6.out b7); have Q7 := Seg.hid ((B7.out.block _ (Array.getElem?_eq_some_iff.1 TW.out).1).trans TW.out); obtain ⟨r0, r1, r2, r3, r4, r5, r6, r7, r8, r9, r10⟩ := qcells Q7.out; obtain ⟨m0, m1, m2⟩ := gcells ((b7.block _ (Array.getElem?_eq_some_iff.1 M6.out).1).trans M6.out); clear b7))
        all_goals
          clear m0 m1 m2 r0 r1 r2 r3 r4 r5 r6 r7 r8 r9 r10
          cases K with
          | false =>
            have RF : Hid (R = false) := by show _ = _; rw [R1.out, BX.out rfl]
            clear NX BX CO
            go_wp2
            go_ret
            exact ⟨by rw [RF.out]; rfl, chain BW.out B7.out⟩
          | true =>
            have NY := Seg.hid (NX.out rfl)
            clear NX BX CO
            go_wp2
            go_roundw
            case rel => exact ⟨k + 1, by omega, by go_num, NY.out, chain BW.out B7.out, Q7.out⟩
            case measure => simp [intOf]; omega
      · have hkl : k = q.gets.length := by omega
        have RT : Hid (R = true) := by show _ = _; have := AW.out; rw [hkl, List.take_length] at this; rw [R1.out, this]
        have hx1 : ¬ (k : Int) < (q.gets.length : Int) := by omega
        clear hkl
        go_wp2
        go_ret
        exact ⟨by rw [RT.out]; rfl, BW.out⟩
end Go.Proofs.Ytkohhcjpjloaaaa.XgI
