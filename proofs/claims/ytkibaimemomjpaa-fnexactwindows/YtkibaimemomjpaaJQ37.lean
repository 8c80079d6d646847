/- The model's l14Steps; The model's l14Has and l14Different. -/
import Derived.Deep.Cut
import Derived.BigQuiet
import Derived.Deep.RegionHeld3
import Derived.Test.YtkibaimemomjpaaJQ12
import Derived.Test.YtkibaimemomjpaaJQ15
import Derived.Test.YtkibaimemomjpaaJQ07
namespace Go.Proofs.Ytkibaimemomjpaa.QtS
set_option maxRecDepth 8000
open Go.RowKit
open Ls Lp QtP
open Recs (hsz below1 below2 chain)
set_option linter.unusedVariables false
set_option maxHeartbeats 6400000 in
theorem steps_any (v : Value) (l : List Stp) (w : World) (S : Nat → Prop) (hv : LAt 3 EStp w S v l) (hS : ∀ g, S g → g < w.heap.size) (hf : szL szStp l ≤ 1048576) : Calls Try.prog 72 #[v] w fun e w' => e = .returned (.bool (stepsOk l)) ∧ Below w.heap.size w w' := by
  obtain ⟨A, c, g, o, F, rfl, OP, hn⟩ := opn hv hS
  have HO := Seg.hid OP
  have HZ := Seg.hid hf
  clear hv OP hf
  obtain ⟨R, hR⟩ : ∃ R, stepsOk l = R := ⟨_, rfl⟩
  rw [hR]
  have HR := Seg.hid hR
  clear hR
  go_enter Try.func72, Try.ntmps72
  by_cases h60 : 60 < l.length
  · have RF : Hid (R = false) := by show _ = _; rw [← HR.out, stepsOk, decide_eq_false (by omega)]; rfl
    have q60 : (60 : Int) < (l.length : Int) := by omega
    go_wp2
    go_ret
    exact ⟨by rw [RF.out]; rfl, Below.refl _ _⟩
  have R1 : Hid (R = endH (runH l 0)) := by show _ = _; rw [← HR.out, stepsOk, decide_eq_true (by omega)]; rfl
  have q60 : ¬ (60 : Int) < (l.length : Int) := by omega
  clear HR
  go_wp2
  go_loopw [3, 4] (fun v i wr => ∃ (k : Nat) (h : Int), k ≤ l.length ∧ v = .int .i64 h ∧ i = .int .i64 k ∧ Hid (0 ≤ h ∧ h ≤ k ∧ runH (l.drop k) h = runH l 0 ∧ Below w.heap.size w wr)) (fun _ i _ => l.length - (intOf i).toNat)
  case atStart => exact ⟨0, 0, Nat.zero_le _, rfl, rfl, by omega, by omega, rfl, Below.refl _ _⟩
  case round =>
    obtain ⟨k, h, hk, rfl, rfl, HG⟩ := hrel
    have hh0 : 0 ≤ h := HG.out.1
    have hh1 : h ≤ 60 := by have := HG.out.2.1; omega
    have hhk : h ≤ k := HG.out.2.1
    have RH : Hid (runH (l.drop k) h = runH l 0) := HG.out.2.2.1
    have BW : Hid (Below w.heap.size w wr) := HG.out.2.2.2
    clear HG
    by_cases hlt : k < l.length
    · obtain ⟨ea, hc, hgw⟩ := HO.out.addr.resolve_left (by omega)
      subst ea
      obtain ⟨d0, d1, d2⟩ := stp_at HO.out hS BW.out hlt
      have h0 : (0 : Int) ≤ (k : Int) := by omega
      have h1 : (k : Int) < (l.length : Int) := by omega
      have SU : Hid (szStp (l.getD k default) ≤ 1048576) := szL_one szStp HZ.out hlt
      have NO : Hid (stepH (l.getD k default) h = none → R = false) := fun e => by rw [R1.out, ← RH.out, run_none hlt e]; rfl
      have YES : Hid (∀ h', stepH (l.getD k default) h = some h' → runH (l.drop (k + 1)) h' = runH l 0) := fun h' e => by rw [← RH.out, run_some hlt e]
      clear RH
      generalize l.getD k default = s at *
      have TN : Hid (s.name.size ≤ maxLen) := by show _ ≤ _; have := SU.out; unfold szStp at this; unfold maxLen; omega
      obtain ⟨op, hop⟩ : ∃ op, s.op = op := ⟨_, rfl⟩
      obtain ⟨nu, hnu⟩ : ∃ nu, s.num = nu := ⟨_, rfl⟩
      obtain ⟨nm, hnm⟩ : ∃ nm, s.name = nm := ⟨_, rfl⟩
      obtain ⟨e, he⟩ : ∃ e, (nm.toList == []) = e := ⟨_, rfl⟩
      have EM : Hid (em s.name = e) := by show _ = _; rw [hnm]; exact he
      have OPH := Seg.hid hop
      have NUH := Seg.hid hnu
      have NMH := Seg.hid hnm
      rw [hop] at d0
      rw [hnu] at d1
      rw [hnm] at d2 TN
      clear hop hnu hnm
      obtain ⟨w5, hw5⟩ : ∃ w5, wr.alloc (.cells #[.int .i64 op, .int .i64 nu, .string nm] 118 (0, 0)) = w5 := ⟨_, rfl⟩
      have T5 : Hid (w5.heap[wr.heap.size]? = some (.cells #[.int .i64 op, .int .i64 nu, .string nm] 118 (0, 0))) := by show _ = _; rw [← hw5]; exact heap_alloc_new _ _
      have B5 : Hid (Below w.heap.size w w5) := by show Below _ _ _; rw [← hw5]; exact chain BW.out (below1 _ _)
      go_upto_region 9 with fail
      try rw [hw5]
      clear hw5 d0 d1 d2
      have q0 : w5.cell? ⟨wr.heap.size, 0, none⟩ = some (.int .i64 op) := cell_of_row w5 _ 0 _ _ (0, 0) T5.out
      have q1 : w5.cell? ⟨wr.heap.size, 1, none⟩ = some (.int .i64 nu) := cell_of_row w5 _ 1 _ _ (0, 0) T5.out
      have q2 : w5.cell? ⟨wr.heap.size, 2, none⟩ = some (.string nm) := cell_of_row w5 _ 2 _ _ (0, 0) T5.out
      clear T5
      by_cases o1 : op = 1
      · subst o1
        cases hb : inR 0 nu 1000000000000000 with
        | false =>
          have HK := Seg.hid hb
          clear hb
          have RF : Hid (R = false) := NO.out (by rw [step_num (b := false) OPH.out (by rw [NUH.out]; exact HK.out) EM.out]; rfl)
          clear NO YES
          go_wp2_with (go_at_call 54; refine (InB.l1In_b _ _ _ _ HK.out _).mono ?_; rintro e7 w6 ⟨rfl, rfl⟩)
          go_ret
          exact ⟨by rw [RF.out]; rfl, B5.out⟩
        | true =>
          have HK := Seg.hid hb
          clear hb
          cases e with
          | false =>
            have RF : Hid (R = false) := NO.out (by rw [step_num (b := true) OPH.out (by rw [NUH.out]; exact HK.out) EM.out]; rfl)
            clear NO YES
            go_wp2_with (go_at_call 54; refine (InB.l1In_b _ _ _ _ HK.out _).mono ?_; rintro e7 w6 ⟨rfl, rfl⟩)
            go_ret
            exact ⟨by rw [RF.out]; rfl, B5.out⟩
          | true =>
            have NX := Seg.hid (YES.out (h + 1) (by rw [step_num (b := true) OPH.out (by rw [NUH.out]; exact HK.out) EM.out]; rfl))
            clear NO YES
            go_wp2_with (go_at_call 54; refine (InB.l1In_b _ _ _ _ HK.out _).mono ?_; rintro e7 w6 ⟨rfl, rfl⟩)
            go_roundw
            case rel => exact ⟨k + 1, h + 1, by omega, by go_num, by go_num, by omega, by omega, NX.out, B5.out⟩
            case measure => simp [intOf]; omega
      by_cases o2 : op = 2
      · subst o2
        clear o1
        cases hb : Nm.nameOk nm with
        | false =>
          have HY := Seg.hid hb
          clear hb
          have RF : Hid (R = false) := NO.out (by rw [step_col (b := false) OPH.out (by rw [NMH.out]; exact HY.out) rfl]; rfl)
          clear NO YES
          go_wp2_with (go_at_call 71; refine (Nm.spec_q _ _ HY.out _ TN.out).mono ?_; rintro e7 w6 ⟨rfl, rfl⟩)
          go_ret
          exact ⟨by rw [RF.out]; rfl, B5.out⟩
        | true =>
          have HY := Seg.hid hb
          clear hb
          by_cases hn0 : nu = 0
          · subst hn0
            have NX := Seg.hid (YES.out (h + 1) (by rw [step_col (b := true) (e := true) OPH.out (by rw [NMH.out]; exact HY.out) (by rw [NUH.out]; rfl)]; rfl))
            clear NO YES
            go_wp2_with (go_at_call 71; refine (Nm.spec_q _ _ HY.out _ TN.out).mono ?_; rintro e7 w6 ⟨rfl, rfl⟩)
            go_roundw
            case rel => exact ⟨k + 1, h + 1, by omega, by go_num, by go_num, by omega, by omega, NX.out, B5.out⟩
            case measure => simp [intOf]; omega
          · have hn1 : (nu != 0) = true := by simpa using hn0
            have HN : Hid (decide (s.num = 0) = false) := by show _ = _; rw [NUH.out]; exact decide_eq_false hn0
            clear hn0
            have RF : Hid (R = false) := NO.out (by rw [step_col (b := true) OPH.out (by rw [NMH.out]; exact HY.out) HN.out]; rfl)
            clear NO YES
            go_wp2_with (go_at_call 71; refine (Nm.spec_q _ _ HY.out _ TN.out).mono ?_; rintro e7 w6 ⟨rfl, rfl⟩)
            go_ret
            exact ⟨by rw [RF.out]; rfl, B5.out⟩
      have p1 : (op == 1) = false := by simpa using o1
      have p2 : (op == 2) = false := by simpa using o2
      cases hb : inR 3 op 12 with
      | false =>
        have HK := Seg.hid hb
        have OO := Seg.hid (And.intro o1 o2)
        clear hb o1 o2
        have RF : Hid (R = false) := NO.out (by exact step_not (by rw [OPH.out]; exact OO.out.1) (by rw [OPH.out]; exact OO.out.2) (by rw [OPH.out]; exact HK.out))
        clear NO YES
        go_wp2_with (go_at_call 54; refine (InB.l1In_b _ _ _ _ HK.out _).mono ?_; rintro e7 w6 ⟨rfl, rfl⟩)
        go_ret
        exact ⟨by rw [RF.out]; rfl, B5.out⟩
      | true =>
      have HK := Seg.hid hb
      have h312 := inR_true hb
      have OR : Hid (3 ≤ s.op ∧ s.op ≤ 12) := by show _ ∧ _; rw [OPH.out]; exact h312
      clear hb o1 o2
      cases e with
      | false =>
        have RF : Hid (R = false) := NO.out (by rw [step_op OR.out EM.out rfl rfl]; rfl)
        clear NO YES
        go_wp2_with (go_at_call 54; refine (InB.l1In_b _ _ _ _ HK.out _).mono ?_; rintro e7 w6 ⟨rfl, rfl⟩)
        go_ret
        exact ⟨by rw [RF.out]; rfl, B5.out⟩
      | true =>
      by_cases hn0 : nu = 0
      case neg =>
        have hn1 : (nu != 0) = true := by simpa using hn0
        have HN : Hid (decide (s.num = 0) = false) := by show _ = _; rw [NUH.out]; exact decide_eq_false hn0
        clear hn0
        have RF : Hid (R = false) := NO.out (by rw [step_op OR.out EM.out HN.out rfl]; rfl)
        clear NO YES
        go_wp2_with (go_at_call 54; refine (InB.l1In_b _ _ _ _ HK.out _).mono ?_; rintro e7 w6 ⟨rfl, rfl⟩)
        go_ret
        exact ⟨by rw [RF.out]; rfl, B5.out⟩
      case pos =>
      subst hn0
      have HN : Hid (decide (s.num = 0) = true) := by show _ = _; rw [NUH.out]; rfl
      by_cases hz : h < 1
      · have z2 : h < 2 := by omega
        have HC : Hid ((decide (1 ≤ h) && (decide (2 ≤ h) || decide (s.op = 12))) = false) := by show _ = _; rw [decide_eq_false (show ¬ 1 ≤ h by omega)]; rfl
        by_cases o12 : op = 12
        · subst o12
          have RF : Hid (R = false) := NO.out (by rw [step_op OR.out EM.out HN.out HC.out]; rfl)
          clear NO YES
          go_wp2_with (go_at_call 54; refine (InB.l1In_b _ _ _ _ HK.out _).mono ?_; rintro e7 w6 ⟨rfl, rfl⟩)
          go_ret
          exact ⟨by rw [RF.out]; rfl, B5.out⟩
        · have p12 : (op != 12) = true := by simpa using o12
          clear o12
          have RF : Hid (R = false) := NO.out (by rw [step_op OR.out EM.out HN.out HC.out]; rfl)
          clear NO YES
          go_wp2_with (go_at_call 54; refine (InB.l1In_b _ _ _ _ HK.out _).mono ?_; rintro e7 w6 ⟨rfl, rfl⟩)
          go_ret
          exact ⟨by rw [RF.out]; rfl, B5.out⟩
      · by_cases o12 : op = 12
        · subst o12
          have HC : Hid ((decide (1 ≤ h) && (decide (2 ≤ h) || decide (s.op = 12))) = true) := by show _ = _; rw [decide_eq_true (show 1 ≤ h by omega), decide_eq_true OPH.out]; simp
          have ST : Hid (stepH s h = some h) := by show _ = _; rw [step_op OR.out EM.out HN.out HC.out, if_pos OPH.out]; rfl
          clear HC
          by_cases z2 : h < 2
          · have NX := Seg.hid (YES.out (h) (by exact ST.out))
            clear NO YES
            go_wp2_with (go_at_call 54; refine (InB.l1In_b _ _ _ _ HK.out _).mono ?_; rintro e7 w6 ⟨rfl, rfl⟩)
            go_roundw
            case rel => exact ⟨k + 1, h, by omega, by go_num, by go_num, by omega, by omega, NX.out, B5.out⟩
            case measure => simp [intOf]; omega
          · have NX := Seg.hid (YES.out (h) (by exact ST.out))
            clear NO YES
            go_wp2_with (go_at_call 54; refine (InB.l1In_b _ _ _ _ HK.out _).mono ?_; rintro e7 w6 ⟨rfl, rfl⟩)
            go_roundw
            case rel => exact ⟨k + 1, h, by omega, by go_num, by go_num, by omega, by omega, NX.out, B5.out⟩
            case measure => simp [intOf]; omega
        · have p12 : (op != 12) = true := by simpa using o12
          have O12 : Hid (¬ s.op = 12) := by show ¬ _; rw [OPH.out]; exact o12
          clear o12
          by_cases z2 : h < 2
          · have HC : Hid ((decide (1 ≤ h) && (decide (2 ≤ h) || decide (s.op = 12))) = false) := by show _ = _; rw [decide_eq_false (show ¬ 2 ≤ h by omega), decide_eq_false O12.out]; simp
            have RF : Hid (R = false) := NO.out (by rw [step_op OR.out EM.out HN.out HC.out]; rfl)
            clear NO YES
            go_wp2_with (go_at_call 54; refine (InB.l1In_b _ _ _ _ HK.out _).mono ?_; rintro e7 w6 ⟨rfl, rfl⟩)
            go_ret
            exact ⟨by rw [RF.out]; rfl, B5.out⟩
          · have HC : Hid ((decide (1 ≤ h) && (decide (2 ≤ h) || decide (s.op = 12))) = true) := by show _ = _; rw [decide_eq_true (show 1 ≤ h by omega), decide_eq_true (show 2 ≤ h by omega)]; rfl
            have ST : Hid (stepH s h = some (h - 1)) := by show _ = _; rw [step_op OR.out EM.out HN.out HC.out, if_neg O12.out]; rfl
            clear HC
            have NX := Seg.hid (YES.out (h - 1) (by exact ST.out))
            clear NO YES
            go_wp2_with (go_at_call 54; refine (InB.l1In_b _ _ _ _ HK.out _).mono ?_; rintro e7 w6 ⟨rfl, rfl⟩)
            go_roundw
            case rel => exact ⟨k + 1, h - 1, by omega, by go_num, by go_num, by omega, by omega, NX.out, B5.out⟩
            case measure => simp [intOf]; omega
    · have hkl : k = l.length := by omega
      have RT : Hid (R = decide (h = 1)) := by show _ = _; have := RH.out; rw [hkl, List.drop_length, runH] at this; rw [R1.out, ← this]; rfl
      have hx1 : ¬ (k : Int) < (l.length : Int) := by omega
      clear hkl
      by_cases e1 : h = 1
      · subst e1
        go_wp2
        go_ret
        exact ⟨by rw [RT.out]; rfl, BW.out⟩
      · have e2 : (h == 1) = false := by simpa using e1
        have RT2 : Hid (R = false) := by show _ = _; rw [RT.out]; exact decide_eq_false e1
        clear e1 RT
        go_wp2
        go_ret
        exact ⟨by rw [RT2.out]; rfl, BW.out⟩
end Go.Proofs.Ytkibaimemomjpaa.QtS
namespace Go.Proofs.Ytkibaimemomjpaa.QyS
set_option maxRecDepth 8000
open Go.RowKit
open Ls Lp QyP
set_option linter.unusedVariables false
set_option maxHeartbeats 800000 in
theorem has_any (v : Value) (ns : List ByteArray) (n : ByteArray) (w : World) (S : Nat → Prop) (hv : LAt 1 EStr w S v ns) (hS : ∀ g, S g → g < w.heap.size) : Calls Try.prog 99 #[v, .string n] w fun e w' => e = .returned (.bool (hasT ns n)) ∧ w = w' := by
  obtain ⟨A, c, g, o, F, rfl, OP, hn⟩ := opn hv hS
  have HO := Seg.hid OP
  clear hv OP
  obtain ⟨R, hR⟩ : ∃ R, hasT ns n = R := ⟨_, rfl⟩
  rw [hR]
  have HR := Seg.hid hR
  clear hR
  go_enter Try.func99, Try.ntmps99
  go_wp2
  go_loop [5] (fun i => ∃ k : Nat, k ≤ ns.length ∧ i = .int .i64 k ∧ Hid (hasT (ns.take k) n = false)) (fun i => ns.length - (intOf i).toNat)
  case atStart => exact ⟨0, Nat.zero_le _, rfl, hasT_zero _ _⟩
  case round =>
    obtain ⟨k, hk, rfl, HG⟩ := hrel
    by_cases hlt : k < ns.length
    · obtain ⟨ea, hc, hgw⟩ := HO.out.addr.resolve_left (by omega)
      subst ea
      have d0 := strs_cell HO.out rfl hlt
      have h0 : (0 : Int) ≤ (k : Int) := by omega
      have h1 : (k : Int) < (ns.length : Int) := by omega
      have NX := Seg.hid (hasT_next hlt n)
      have HT : Hid (((ns.getD k default).toList == n.toList) = true → hasT ns n = true) := hasT_hit hlt
      generalize ns.getD k default = m at *
      cases hb : (m.toList == n.toList) with
      | true =>
        have RF : Hid (R = true) := by show _ = _; rw [← HR.out]; exact HT.out hb
        go_wp2
        go_ret
        exact ⟨by rw [RF.out]; rfl, rfl⟩
      | false =>
        have HN : Hid (hasT (ns.take (k + 1)) n = false) := by show _ = _; rw [NX.out, HG.out, hb]; rfl
        go_wp2
        go_round
        case rel => exact ⟨k + 1, by omega, by go_num, HN.out⟩
        case measure => simp [intOf]; omega
    · obtain rfl : k = ns.length := by omega
      have RF : Hid (R = false) := by show _ = _; have := HG.out; rw [List.take_length, HR.out] at this; exact this
      go_wp2
      go_ret
      exact ⟨by rw [RF.out]; rfl, rfl⟩
set_option maxHeartbeats 1600000 in
theorem diff_any (v : Value) (ns : List ByteArray) (w : World) (S : Nat → Prop) (hv : LAt 1 EStr w S v ns) (hS : ∀ g, S g → g < w.heap.size) : Calls Try.prog 73 #[v] w fun e w' => e = .returned (.bool (diff ns)) ∧ Below w.heap.size w w' := by
  have HV0 := Seg.hid hv
  obtain ⟨A, c, g, o, F, rfl, OP, hn⟩ := opn hv hS
  have HO := Seg.hid OP
  clear hv OP
  obtain ⟨R, hR⟩ : ∃ R, diff ns = R := ⟨_, rfl⟩
  rw [hR]
  have HR : Hid (diffN ns ns.length = R) := hR
  clear hR
  go_enter Try.func73, Try.ntmps73
  go_wp2
  go_loopw [3] (fun i wr => ∃ k : Nat, k ≤ ns.length ∧ i = .int .i64 k ∧ Hid (diffN ns k = true ∧ Qt w wr)) (fun i _ => ns.length - (intOf i).toNat)
  case atStart => exact ⟨0, Nat.zero_le _, rfl, diffN_zero _, Qt.refl _⟩
  case round =>
    obtain ⟨k, hk, rfl, HG⟩ := hrel
    by_cases hlt : k < ns.length
    · obtain ⟨ea, hc, hgw⟩ := HO.out.addr.resolve_left (by omega)
      subst ea
      have hq := HG.out.2
      have d0 := strs_cell (w' := wr) HO.out (by rw [hq.heap]) hlt
      have h0 : (0 : Int) ≤ (k : Int) := by omega
      have h1 : (k : Int) < (ns.length : Int) := by omega
      have h2 : (k : Int) ≤ (ns.length : Int) := by omega
      have h3 : (k : Int) ≤ (c : Int) := by omega
      have h4 : k ≤ c := by omega
      have h5 : ¬ c = 0 := by omega
      have NX : Hid (hasT (ns.take k) (ns.getD k default) = false → diffN ns (k + 1) = true) := diffN_next HG.out.1
      have BX : Hid (hasT (ns.take k) (ns.getD k default) = true → diffN ns ns.length = false) := diffN_bad hlt
      have QW := Seg.hid hq
      have CH : Hid (∀ wx, Qt w wx → Calls Try.prog 99 #[.slice (some ⟨g, o, none⟩) k c, .string (ns.getD k default)] wx fun e w' => e = .returned (.bool (hasT (ns.take k) (ns.getD k default))) ∧ wx = w') := fun wx q => has_any _ _ _ wx S (LAt.keep keepsStr (take_at HV0.out (by omega)) (fun y _ => by rw [q.heap])) (fun y hy => by rw [q.heap]; exact hS y hy)
      clear HG hq
      obtain ⟨b, hb⟩ : ∃ b, hasT (ns.take k) (ns.getD k default) = b := ⟨_, rfl⟩
      rw [hb] at NX BX CH
      clear hb
      generalize ns.getD k default = m at *
      go_wp2_with fail
      go_region_held3 (fun w' => w'.cell? ⟨g, o + k, none⟩ = some (.string m)) (first | exact d0 | go_keep) (first | (go_at_call 99; refine (CH.out _ QW.out.drew).mono ?_; rintro e wz ⟨rfl, rfl⟩))
      cases b with
      | true =>
        go_wp2
        go_ret
        exact ⟨by rw [← HR.out, BX.out (by simp)]; rfl, (QW.out.drewN _).bel _⟩
      | false =>
        go_wp2
        go_roundw
        case rel => exact ⟨k + 1, by omega, by go_num, NX.out (by simp), QW.out.drewN _⟩
        case measure => simp [intOf]; omega
    · obtain rfl : k = ns.length := by omega
      have RF : Hid (R = true) := by show _ = _; rw [← HR.out]; exact HG.out.1
      have QW := Seg.hid HG.out.2
      go_wp2
      go_ret
      exact ⟨by rw [RF.out]; rfl, QW.out.bel _⟩
end Go.Proofs.Ytkibaimemomjpaa.QyS
