/- The model's l14Has and l14Different; The model's QueryOk. -/
import Derived.BigQuiet
import Derived.Deep.RegionHeld3
import Derived.Deep.Cut
import Derived.Deep.CutRange
import Derived.Test.YtkohhcjpjloaaaaJW12
import Derived.Test.YtkohhcjpjloaaaaJW45
import Derived.Test.YtkohhcjpjloaaaaJW40
namespace Go.Proofs.Ytkohhcjpjloaaaa.QyS
set_option maxRecDepth 8000
open Go.RowKit
open Ls Lp QyP
set_option linter.unusedVariables false
set_option maxHeartbeats 800000 in
theorem has_any (v : Value) (ns : List ByteArray) (n : ByteArray) (w : World) (S : Nat → Prop) (hv : LAt 1 EStr w S v ns) (hS : ∀ g, S g → g < w.heap.size) : Calls Try.prog 50 #[v, .string n] w fun e w' => e = .returned (.bool (hasT ns n)) ∧ w = w' := by
  obtain ⟨A, c, g, o, F, rfl, OP, hn⟩ := opn hv hS
  have HO := Seg.hid OP
  clear hv OP
  obtain ⟨R, hR⟩ : ∃ R, hasT ns n = R := ⟨_, rfl⟩
  rw [hR]
  have HR := Seg.hid hR
  clear hR
  go_enter Try.func50, Try.ntmps50
  go_wp2
  go_loop [5] (fun i => ∃ k : Nat, k ≤ ns.length ∧ i = .int .i64 k ∧ Hid (hasT (ns.take k) n = false)) (fun i => ns.length - (intOf i).toNat)
  case atStart => exact ⟨0, Nat.zero_le _, rfl, hasT_zero _ _⟩
  case round =>
    obtain ⟨k, hk, rfl, HG⟩ := hrel
    by_cases hlt : k < ns.length
    · obtain ⟨ea, hc, hgw⟩ := HO.out.addr.resolve_left (by omega)
      subst ea
      have d0 := strs_cell HO.out rfl hlt
      have h0 : (0 : Int) ≤ (k : Int) := by omega
      have h1 : (k : Int) < (ns.length : Int) := by omega
      have NX := Seg.hid (hasT_next hlt n)
      have HT : Hid (((ns.getD k default).toList == n.toList) = true → hasT ns n = true) := hasT_hit hlt
      generalize ns.getD k default = m at *
      cases hb : (m.toList == n.toList) with
      | true =>
        have RF : Hid (R = true) := by show _ = _; rw [← HR.out]; exact HT.out hb
        go_wp2
        go_ret
        exact ⟨by rw [RF.out]; rfl, rfl⟩
      | false =>
        have HN : Hid (hasT (ns.take (k + 1)) n = false) := by show _ = _; rw [NX.out, HG.out, hb]; rfl
        go_wp2
        go_round
        case rel => exact ⟨k + 1, by omega, by go_num, HN.out⟩
        case measure => simp [intOf]; omega
    · obtain rfl : k = ns.length := by omega
      have RF : Hid (R = false) := by show _ = _; have := HG.out; rw [List.take_length, HR.out] at this; exact this
      go_wp2
      go_ret
      exact ⟨by rw [RF.out]; rfl, rfl⟩
set_option maxHeartbeats 1600000 in
theorem diff_any (v : Value) (ns : List ByteArray) (w : World) (S : Nat → Prop) (hv : LAt 1 EStr w S v ns) (hS : ∀ g, S g → g < w.heap.size) : Calls Try.prog 39 #[v] w fun e w' => e = .returned (.bool (diff ns)) ∧ Below w.heap.size w w' := by
  have HV0 := Seg.hid hv
  obtain ⟨A, c, g, o, F, rfl, OP, hn⟩ := opn hv hS
  have HO := Seg.hid OP
  clear hv OP
  obtain ⟨R, hR⟩ : ∃ R, diff ns = R := ⟨_, rfl⟩
  rw [hR]
  have HR : Hid (diffN ns ns.length = R) := hR
  clear hR
  go_enter Try.func39, Try.ntmps39
  go_wp2
  go_loopw [3] (fun i wr => ∃ k : Nat, k ≤ ns.length ∧ i = .int .i64 k ∧ Hid (diffN ns k = true ∧ Qt w wr)) (fun i _ => ns.length - (intOf i).toNat)
  case atStart => exact ⟨0, Nat.zero_le _, rfl, diffN_zero _, Qt.refl _⟩
  case round =>
    obtain ⟨k, hk, rfl, HG⟩ := hrel
    by_cases hlt : k < ns.length
    · obtain ⟨ea, hc, hgw⟩ := HO.out.addr.resolve_left (by omega)
      subst ea
      have hq := HG.out.2
      have d0 := strs_cell (w' := wr) HO.out (by rw [hq.heap]) hlt
      have h0 : (0 : Int) ≤ (k : Int) := by omega
      have h1 : (k : Int) < (ns.length : Int) := by omega
      have h2 : (k : Int) ≤ (ns.length : Int) := by omega
      have h3 : (k : Int) ≤ (c : Int) := by omega
      have h4 : k ≤ c := by omega
      have h5 : ¬ c = 0 := by omega
      have NX : Hid (hasT (ns.take k) (ns.getD k default) = false → diffN ns (k + 1) = true) := diffN_next HG.out.1
      have BX : Hid (hasT (ns.take k) (ns.getD k default) = true → diffN ns ns.length = false) := diffN_bad hlt
      have QW := Seg.hid hq
      have CH : Hid (∀ wx, Qt w wx → Calls Try.prog 50 #[.slice (some ⟨g, o, none⟩) k c, .string (ns.getD k default)] wx fun e w' => e = .returned (.bool (hasT (ns.take k) (ns.getD k default))) ∧ wx = w') := fun wx q => has_any _ _ _ wx S (LAt.keep keepsStr (take_at HV0.out (by omega)) (fun y _ => by rw [q.heap])) (fun y hy => by rw [q.heap]; exact hS y hy)
      clear HG hq
      obtain ⟨b, hb⟩ : ∃ b, hasT (ns.take k) (ns.getD k default) = b := ⟨_, rfl⟩
      rw [hb] at NX BX CH
      clear hb
      generalize ns.getD k default = m at *
      go_wp2_with fail
      go_region_held3 (fun w' => w'.cell? ⟨g, o + k, none⟩ = some (.string m)) (first | exact d0 | go_keep) (first | (go_at_call 50; refine (CH.out _ QW.out.drew).mono ?_; rintro e wz ⟨rfl, rfl⟩))
      cases b with
      | true =>
        go_wp2
        go_ret
        exact ⟨by rw [← HR.out, BX.out (by simp)]; rfl, (QW.out.drewN _).bel _⟩
      | false =>
        go_wp2
        go_roundw
        case rel => exact ⟨k + 1, by omega, by go_num, NX.out (by simp), QW.out.drewN _⟩
        case measure => simp [intOf]; omega
    · obtain rfl : k = ns.length := by omega
      have RF : Hid (R = true) := by show _ = _; rw [← HR.out]; exact HG.out.1
      have QW := Seg.hid HG.out.2
      go_wp2
      go_ret
      exact ⟨by rw [RF.out]; rfl, QW.out.bel _⟩
end Go.Proofs.Ytkohhcjpjloaaaa.QyS
namespace Go.Proofs.Ytkohhcjpjloaaaa.XqS
set_option maxRecDepth 8000
open Go.RowKit
open Ls Lp QtP XsP XqP XqQ QsI QyP
open Recs (hsz below1 below2 chain)
set_option linter.unusedVariables false
set_option maxHeartbeats 25600000 in
theorem spec_any (v : Value) (q : Qry) (w : World) (S : Nat → Prop) (hv : QryAt w S v q) (hS : ∀ g, S g → g < w.heap.size) (hz : szQry q ≤ 1048576) : Calls Try.prog 20 #[v] w fun e w' => e = .returned (.bool (qOk q)) ∧ Below w.heap.size w w' := by
  obtain ⟨A5, c5, A6, c6, A10, c10, rfl, hl5, hl6, hl10⟩ := qform hv
  clear hv
  rw [← mOk_eq]
  obtain ⟨R, hR⟩ : ∃ R, mOk q = R := ⟨_, rfl⟩
  rw [hR]
  unfold mOk at hR
  obtain ⟨z0, z1, z2, z3⟩ := sz_strs hz
  have Sfr := Seg.hid z0
  have Sjn := Seg.hid z1
  have Son := Seg.hid z2
  have Slk := Seg.hid z3
  clear z0 z1 z2 z3
  have HZ5 := Seg.hid (sz_wh hz)
  have HZ6 := Seg.hid (sz_gps hz)
  have HZ10 := Seg.hid (sz_gets hz)
  have H5 := Seg.hid hl5
  have H6 := Seg.hid hl6
  have H10 := Seg.hid hl10
  have hn5 := hl5.1
  have hn6 := hl6.1
  have hn10 := hl10.1
  clear hl5 hl6 hl10 hz
  have CX : Hid (∀ wx, Below w.heap.size w wx → Calls Try.prog 38 #[.slice A5 q.wh.length c5] wx fun e w' => e = .returned (.bool (stepsOk q.wh)) ∧ Below wx.heap.size wx w') := fun wx b => QtS.steps_any _ _ wx S (LAt.below keepsStp H5.out b hS) (fun y hy => Nat.lt_of_lt_of_le (hS y hy) b.size) HZ5.out
  have CD : Hid (∀ wx, Below w.heap.size w wx → Calls Try.prog 39 #[.slice A6 q.gps.length c6] wx fun e w' => e = .returned (.bool (diff q.gps)) ∧ Below wx.heap.size wx w') := fun wx b => QyS.diff_any _ _ wx S (LAt.below keepsStr H6.out b hS) (fun y hy => Nat.lt_of_lt_of_le (hS y hy) b.size)
  obtain ⟨ej, hej⟩ : ∃ e, (q.jn.toList == []) = e := ⟨_, rfl⟩
  have EJ : Hid (em q.jn = ej) := hej
  obtain ⟨el, hel⟩ : ∃ e, (q.lk.toList == []) = e := ⟨_, rfl⟩
  have EL : Hid (em q.lk = el) := hel
  obtain ⟨eo, heo⟩ : ∃ e, (q.on.toList == []) = e := ⟨_, rfl⟩
  have EO : Hid (em q.on = eo) := heo
  rw [EJ.out, EL.out, EO.out] at hR
  obtain ⟨K1, hK1⟩ : ∃ K, k1 (Nm.nameOk q.fr) ej (Nm.nameOk q.jn) el (Nm.nameOk q.lk) = K := ⟨_, rfl⟩
  rw [hK1] at hR
  have HK1 := Seg.hid hK1
  clear hK1
  obtain ⟨K3, hK3⟩ : ∃ K, k3 ej el eo (Nm.nameOk q.on) (inR 0 q.wn 1000000000000) (decide (q.wn = 0)) = K := ⟨_, rfl⟩
  rw [hK3] at hR
  have HK3 := Seg.hid hK3
  clear hK3
  obtain ⟨K5, hK5⟩ : ∃ K, k5 (decide (q.wh.length = 0)) (stepsOk q.wh) (decide (12 < q.gps.length)) (diff q.gps) = K := ⟨_, rfl⟩
  rw [hK5] at hR
  have HK5 := Seg.hid hK5
  clear hK5
  obtain ⟨K12, hK12⟩ : ∃ K, k12 (inR 0 q.win 3) (decide (q.win = 0)) (decide (q.gps.length = 0)) = K := ⟨_, rfl⟩
  rw [hK12] at hR
  have HK12 := Seg.hid hK12
  clear hK12
  obtain ⟨K14, hK14⟩ : ∃ K, k14 (decide (q.win = 0)) (decide (q.size = 0)) (inR 1 q.size 1000000000000) = K := ⟨_, rfl⟩
  rw [hK14] at hR
  have HK14 := Seg.hid hK14
  clear hK14
  obtain ⟨K16, hK16⟩ : ∃ K, k16 (decide (q.win = 2)) (inR 1 q.every q.size) (decide (20 * q.every < q.size)) (decide (q.every = 0)) = K := ⟨_, rfl⟩
  rw [hK16] at hR
  have HK16 := Seg.hid hK16
  clear hK16
  have HR := Seg.hid hR
  clear hR
  obtain ⟨W0, hW0⟩ : ∃ W0, w.alloc (.cells (qrow q A5 c5 A6 c6 A10 c10) 28 (0, 0)) = W0 := ⟨_, rfl⟩
  have T0 : Hid (W0.heap[w.heap.size]? = some (.cells (qrow q A5 c5 A6 c6 A10 c10) 28 (0, 0))) := by show _ = _; rw [← hW0]; exact heap_alloc_new _ _
  have N0 : Hid (Below w.heap.size w W0) := by show Below _ _ _; rw [← hW0]; exact below1 _ _
  obtain ⟨q0, q1, q2, q3, q4, q5, q6, q7, q8, q9, q10⟩ := qcells T0.out
  go_enter Try.func20, Try.ntmps20
  go_upto_region 1 with fail
  clear hW0
  go_cut [41] from 6 to 41 (fun s wx => s = .bool K1 ∧ wx = W0)
  case first =>
    cases n0n : Nm.nameOk q.fr with
    | false =>
      have N0n := Seg.hid n0n
      clear n0n
      have RF : Hid (K1 = true) := by show _ = _; rw [← HK1.out, N0n.out]; rfl
      go_wp2_with (first | (go_at_call_of 36 (Value.string q.fr); refine (Nm.spec_q _ _ N0n.out _ Sfr.out).mono ?_; rintro e7 w6 ⟨rfl, rfl⟩))
      go_meet
      exact ⟨by first | (rw [RF.out]; done) | (rw [RF.out]; simp; omega) | (rw [RF.out]; simp), rfl⟩
    | true =>
      have N0n := Seg.hid n0n
      clear n0n
      cases ej
      · cases n1 : Nm.nameOk q.jn with
        | false =>
          have N1 := Seg.hid n1
          clear n1
          have RF : Hid (K1 = true) := by show _ = _; rw [← HK1.out, N0n.out, N1.out, k1]; simp
          go_wp2_with (first | (go_at_call_of 36 (Value.string q.fr); refine (Nm.spec_q _ _ N0n.out _ Sfr.out).mono ?_; rintro e7 w6 ⟨rfl, rfl⟩) | (go_at_call_of 36 (Value.string q.jn); refine (Nm.spec_q _ _ N1.out _ Sjn.out).mono ?_; rintro e7 w6 ⟨rfl, rfl⟩))
          go_meet
          exact ⟨by first | (rw [RF.out]; done) | (rw [RF.out]; simp; omega) | (rw [RF.out]; simp), rfl⟩
        | true =>
          have N1 := Seg.hid n1
          clear n1
          cases el
          · cases n2 : Nm.nameOk q.lk with
            | false =>
              have N2 := Seg.hid n2
              clear n2
              have RF : Hid (K1 = true) := by show _ = _; rw [← HK1.out, N0n.out, N1.out, N2.out]; rfl
              go_wp2_with (first | (go_at_call_of 36 (Value.string q.fr); refine (Nm.spec_q _ _ N0n.out _ Sfr.out).mono ?_; rintro e7 w6 ⟨rfl, rfl⟩) | (go_at_call_of 36 (Value.string q.jn); refine (Nm.spec_q _ _ N1.out _ Sjn.out).mono ?_; rintro e7 w6 ⟨rfl, rfl⟩) | (go_at_call_of 36 (Value.string q.lk); refine (Nm.spec_q _ _ N2.out _ Slk.out).mono ?_; rintro e7 w6 ⟨rfl, rfl⟩))
              go_meet
              exact ⟨by first | (rw [RF.out]; done) | (rw [RF.out]; simp; omega) | (rw [RF.out]; simp), rfl⟩
            | true =>
              have N2 := Seg.hid n2
              clear n2
              have RF : Hid (K1 = true) := by show _ = _; rw [← HK1.out, N0n.out, N1.out, N2.out]; rfl
              go_wp2_with (first | (go_at_call_of 36 (Value.string q.fr); refine (Nm.spec_q _ _ N0n.out _ Sfr.out).mono ?_; rintro e7 w6 ⟨rfl, rfl⟩) | (go_at_call_of 36 (Value.string q.jn); refine (Nm.spec_q _ _ N1.out _ Sjn.out).mono ?_; rintro e7 w6 ⟨rfl, rfl⟩) | (go_at_call_of 36 (Value.string q.lk); refine (Nm.spec_q _ _ N2.out _ Slk.out).mono ?_; rintro e7 w6 ⟨rfl, rfl⟩))
              go_meet
              exact ⟨by first | (rw [RF.out]; done) | (rw [RF.out]; simp; omega) | (rw [RF.out]; simp), rfl⟩
          · have RF : Hid (K1 = false) := by show _ = _; rw [← HK1.out, N0n.out, N1.out]; rfl
            go_wp2_with (first | (go_at_call_of 36 (Value.string q.fr); refine (Nm.spec_q _ _ N0n.out _ Sfr.out).mono ?_; rintro e7 w6 ⟨rfl, rfl⟩) | (go_at_call_of 36 (Value.string q.jn); refine (Nm.spec_q _ _ N1.out _ Sjn.out).mono ?_; rintro e7 w6 ⟨rfl, rfl⟩))
            go_meet
            exact ⟨by first | (rw [RF.out]; done) | (rw [RF.out]; simp; omega) | (rw [RF.out]; simp), rfl⟩
      · cases el
        · cases n2 : Nm.nameOk q.lk with
          | false =>
            have N2 := Seg.hid n2
            clear n2
            have RF : Hid (K1 = true) := by show _ = _; rw [← HK1.out, N0n.out, N2.out]; rfl
            go_wp2_with (first | (go_at_call_of 36 (Value.string q.fr); refine (Nm.spec_q _ _ N0n.out _ Sfr.out).mono ?_; rintro e7 w6 ⟨rfl, rfl⟩) | (go_at_call_of 36 (Value.string q.lk); refine (Nm.spec_q _ _ N2.out _ Slk.out).mono ?_; rintro e7 w6 ⟨rfl, rfl⟩))
            go_meet
            exact ⟨by first | (rw [RF.out]; done) | (rw [RF.out]; simp; omega) | (rw [RF.out]; simp), rfl⟩
          | true =>
            have N2 := Seg.hid n2
            clear n2
            have RF : Hid (K1 = false) := by show _ = _; rw [← HK1.out, N0n.out, N2.out]; rfl
            go_wp2_with (first | (go_at_call_of 36 (Value.string q.fr); refine (Nm.spec_q _ _ N0n.out _ Sfr.out).mono ?_; rintro e7 w6 ⟨rfl, rfl⟩) | (go_at_call_of 36 (Value.string q.lk); refine (Nm.spec_q _ _ N2.out _ Slk.out).mono ?_; rintro e7 w6 ⟨rfl, rfl⟩))
            go_meet
            exact ⟨by first | (rw [RF.out]; done) | (rw [RF.out]; simp; omega) | (rw [RF.out]; simp), rfl⟩
        · have RF : Hid (K1 = false) := by show _ = _; rw [← HK1.out, N0n.out]; rfl
          go_wp2_with (first | (go_at_call_of 36 (Value.string q.fr); refine (Nm.spec_q _ _ N0n.out _ Sfr.out).mono ?_; rintro e7 w6 ⟨rfl, rfl⟩))
          go_meet
          exact ⟨by first | (rw [RF.out]; done) | (rw [RF.out]; simp; omega) | (rw [RF.out]; simp), rfl⟩
  case rest =>
  obtain ⟨rfl, hw⟩ := hcut
  have hw := hw.symm
  subst hw
  cases K1 with
  | true =>
    have RF : Hid (R = false) := by show _ = _; rw [← HR.out]; simp
    go_wp2
    go_ret
    exact ⟨by rw [RF.out]; rfl, N0.out⟩
  | false =>
  go_upto_region 3 with fail
  go_cut [80] from 42 to 80 (fun s wx => s = .bool K3 ∧ wx = W0)
  case first =>
    cases ej <;> cases el <;> cases eo
    · cases n3 : Nm.nameOk q.on with
      | false =>
        have N3 := Seg.hid n3
        clear n3
        have RF : Hid (K3 = true) := by show _ = _; rw [← HK3.out, N3.out, k3]; simp
        go_wp2_with (first | (go_at_call_of 36 (Value.string q.on); refine (Nm.spec_q _ _ N3.out _ Son.out).mono ?_; rintro e7 w6 ⟨rfl, rfl⟩))
        go_meet
        exact ⟨by first | (rw [RF.out]; done) | (rw [RF.out]; simp; omega) | (rw [RF.out]; simp), rfl⟩
      | true =>
        have N3 := Seg.hid n3
        clear n3
        cases n4 : inR 0 q.wn 1000000000000 with
        | false =>
          have N4 := Seg.hid n4
          clear n4
          have RF : Hid (K3 = true) := by show _ = _; rw [← HK3.out, N3.out, N4.out, k3]; simp
          go_wp2_with (first | (go_at_call_of 36 (Value.string q.on); refine (Nm.spec_q _ _ N3.out _ Son.out).mono ?_; rintro e7 w6 ⟨rfl, rfl⟩) | (go_at_call 37; refine (InB.l1In_b _ _ _ _ N4.out _).mono ?_; rintro e7 w6 ⟨rfl, rfl⟩))
          go_meet
          exact ⟨by first | (rw [RF.out]; done) | (rw [RF.out]; simp; omega) | (rw [RF.out]; simp), rfl⟩
        | true =>
          have N4 := Seg.hid n4
          clear n4
          have RF : Hid (K3 = false) := by show _ = _; rw [← HK3.out, N3.out, N4.out]; rfl
          go_wp2_with (first | (go_at_call_of 36 (Value.string q.on); refine (Nm.spec_q _ _ N3.out _ Son.out).mono ?_; rintro e7 w6 ⟨rfl, rfl⟩) | (go_at_call 37; refine (InB.l1In_b _ _ _ _ N4.out _).mono ?_; rintro e7 w6 ⟨rfl, rfl⟩))
          go_meet
          exact ⟨by first | (rw [RF.out]; done) | (rw [RF.out]; simp; omega) | (rw [RF.out]; simp), rfl⟩
    · have RF : Hid (K3 = true) := by show _ = _; rw [← HK3.out, k3]; simp
      go_wp2
      go_meet
      exact ⟨by first | (rw [RF.out]; done) | (rw [RF.out]; simp; omega) | (rw [RF.out]; simp), rfl⟩
    · cases n3 : Nm.nameOk q.on with
      | false =>
        have N3 := Seg.hid n3
        clear n3
        have RF : Hid (K3 = true) := by show _ = _; rw [← HK3.out, N3.out, k3]; simp
        go_wp2_with (first | (go_at_call_of 36 (Value.string q.on); refine (Nm.spec_q _ _ N3.out _ Son.out).mono ?_; rintro e7 w6 ⟨rfl, rfl⟩))
        go_meet
        exact ⟨by first | (rw [RF.out]; done) | (rw [RF.out]; simp; omega) | (rw [RF.out]; simp), rfl⟩
      | true =>
        have N3 := Seg.hid n3
        clear n3
        cases n4 : inR 0 q.wn 1000000000000 with
        | false =>
          have N4 := Seg.hid n4
          clear n4
          have RF : Hid (K3 = true) := by show _ = _; rw [← HK3.out, N3.out, N4.out, k3]; simp
          go_wp2_with (first | (go_at_call_of 36 (Value.string q.on); refine (Nm.spec_q _ _ N3.out _ Son.out).mono ?_; rintro e7 w6 ⟨rfl, rfl⟩) | (go_at_call 37; refine (InB.l1In_b _ _ _ _ N4.out _).mono ?_; rintro e7 w6 ⟨rfl, rfl⟩))
          go_meet
          exact ⟨by first | (rw [RF.out]; done) | (rw [RF.out]; simp; omega) | (rw [RF.out]; simp), rfl⟩
        | true =>
          have N4 := Seg.hid n4
          clear n4
          have RF : Hid (K3 = false) := by show _ = _; rw [← HK3.out, N3.out, N4.out]; rfl
          go_wp2_with (first | (go_at_call_of 36 (Value.string q.on); refine (Nm.spec_q _ _ N3.out _ Son.out).mono ?_; rintro e7 w6 ⟨rfl, rfl⟩) | (go_at_call 37; refine (InB.l1In_b _ _ _ _ N4.out _).mono ?_; rintro e7 w6 ⟨rfl, rfl⟩))
          go_meet
          exact ⟨by first | (rw [RF.out]; done) | (rw [RF.out]; simp; omega) | (rw [RF.out]; simp), rfl⟩
    · have RF : Hid (K3 = true) := by show _ = _; rw [← HK3.out, k3]; simp
      go_wp2
      go_meet
      exact ⟨by first | (rw [RF.out]; done) | (rw [RF.out]; simp; omega) | (rw [RF.out]; simp), rfl⟩
    · cases n3 : Nm.nameOk q.on with
      | false =>
        have N3 := Seg.hid n3
        clear n3
        have RF : Hid (K3 = true) := by show _ = _; rw [← HK3.out, N3.out, k3]; simp
        go_wp2_with (first | (go_at_call_of 36 (Value.string q.on); refine (Nm.spec_q _ _ N3.out _ Son.out).mono ?_; rintro e7 w6 ⟨rfl, rfl⟩))
        go_meet
        exact ⟨by first | (rw [RF.out]; done) | (rw [RF.out]; simp; omega) | (rw [RF.out]; simp), rfl⟩
      | true =>
        have N3 := Seg.hid n3
        clear n3
        cases n4 : inR 0 q.wn 1000000000000 with
        | false =>
          have N4 := Seg.hid n4
          clear n4
          have RF : Hid (K3 = true) := by show _ = _; rw [← HK3.out, N3.out, N4.out, k3]; simp
          go_wp2_with (first | (go_at_call_of 36 (Value.string q.on); refine (Nm.spec_q _ _ N3.out _ Son.out).mono ?_; rintro e7 w6 ⟨rfl, rfl⟩) | (go_at_call 37; refine (InB.l1In_b _ _ _ _ N4.out _).mono ?_; rintro e7 w6 ⟨rfl, rfl⟩))
          go_meet
          exact ⟨by first | (rw [RF.out]; done) | (rw [RF.out]; simp; omega) | (rw [RF.out]; simp), rfl⟩
        | true =>
          have N4 := Seg.hid n4
          clear n4
          by_cases h0 : q.wn = 0
          · have b0 : (q.wn != 0) = false := by simpa using h0
            have D0 : Hid (decide (q.wn = 0) = true) := decide_eq_true h0
            clear h0
            have RF : Hid (K3 = false) := by show _ = _; rw [← HK3.out, N3.out, N4.out, D0.out]; rfl
            go_wp2_with (first | (go_at_call_of 36 (Value.string q.on); refine (Nm.spec_q _ _ N3.out _ Son.out).mono ?_; rintro e7 w6 ⟨rfl, rfl⟩) | (go_at_call 37; refine (InB.l1In_b _ _ _ _ N4.out _).mono ?_; rintro e7 w6 ⟨rfl, rfl⟩))
            go_meet
            exact ⟨by first | (rw [RF.out]; done) | (rw [RF.out]; simp; omega) | (rw [RF.out]; simp), rfl⟩
          · have b0 : (q.wn != 0) = true := by simpa using h0
            have D0 : Hid (decide (q.wn = 0) = false) := decide_eq_false h0
            clear h0
            have RF : Hid (K3 = true) := by show _ = _; rw [← HK3.out, N3.out, N4.out, D0.out]; rfl
            go_wp2_with (first | (go_at_call_of 36 (Value.string q.on); refine (Nm.spec_q _ _ N3.out _ Son.out).mono ?_; rintro e7 w6 ⟨rfl, rfl⟩) | (go_at_call 37; refine (InB.l1In_b _ _ _ _ N4.out _).mono ?_; rintro e7 w6 ⟨rfl, rfl⟩))
            go_meet
            exact ⟨by first | (rw [RF.out]; done) | (rw [RF.out]; simp; omega) | (rw [RF.out]; simp), rfl⟩
    · have RF : Hid (K3 = true) := by show _ = _; rw [← HK3.out, k3]; simp
      go_wp2
      go_meet
      exact ⟨by first | (rw [RF.out]; done) | (rw [RF.out]; simp; omega) | (rw [RF.out]; simp), rfl⟩
    · have RF : Hid (K3 = true) := by show _ = _; rw [← HK3.out, k3]; simp
      go_wp2
      go_meet
      exact ⟨by first | (rw [RF.out]; done) | (rw [RF.out]; simp; omega) | (rw [RF.out]; simp), rfl⟩
    · cases n4 : inR 0 q.wn 1000000000000 with
      | false =>
        have N4 := Seg.hid n4
        clear n4
        have RF : Hid (K3 = true) := by show _ = _; rw [← HK3.out, N4.out, k3]; simp
        go_wp2_with (first | (go_at_call 37; refine (InB.l1In_b _ _ _ _ N4.out _).mono ?_; rintro e7 w6 ⟨rfl, rfl⟩))
        go_meet
        exact ⟨by first | (rw [RF.out]; done) | (rw [RF.out]; simp; omega) | (rw [RF.out]; simp), rfl⟩
      | true =>
        have N4 := Seg.hid n4
        clear n4
        by_cases h0 : q.wn = 0
        · have b0 : (q.wn != 0) = false := by simpa using h0
          have D0 : Hid (decide (q.wn = 0) = true) := decide_eq_true h0
          clear h0
          have RF : Hid (K3 = false) := by show _ = _; rw [← HK3.out, N4.out, D0.out]; rfl
          go_wp2_with (first | (go_at_call 37; refine (InB.l1In_b _ _ _ _ N4.out _).mono ?_; rintro e7 w6 ⟨rfl, rfl⟩))
          go_meet
          exact ⟨by first | (rw [RF.out]; done) | (rw [RF.out]; simp; omega) | (rw [RF.out]; simp), rfl⟩
        · have b0 : (q.wn != 0) = true := by simpa using h0
          have D0 : Hid (decide (q.wn = 0) = false) := decide_eq_false h0
          clear h0
          have RF : Hid (K3 = true) := by show _ = _; rw [← HK3.out, N4.out, D0.out]; rfl
          go_wp2_with (first | (go_at_call 37; refine (InB.l1In_b _ _ _ _ N4.out _).mono ?_; rintro e7 w6 ⟨rfl, rfl⟩))
          go_meet
          exact ⟨by first | (rw [RF.out]; done) | (rw [RF.out]; simp; omega) | (rw [RF.out]; simp), rfl⟩
  case rest =>
  obtain ⟨rfl, hw⟩ := hcut
  have hw := hw.symm
  subst hw
  cases K3 with
  | true =>
    have RF : Hid (R = false) := by show _ = _; rw [← HR.out]; simp
    go_wp2
    go_ret
    exact ⟨by rw [RF.out]; rfl, N0.out⟩
  | false =>
  go_upto_region 5 with fail
  go_cut [102] from 81 to 102 (fun s wx => s = .bool K5 ∧ Below w.heap.size w wx ∧ wx.heap[w.heap.size]? = some (.cells (qrow q A5 c5 A6 c6 A10 c10) 28 (0, 0)))
  case first =>
    by_cases l0 : q.wh.length = 0
    · have l1 : ¬ (0 : Int) < (q.wh.length : Int) := by omega
      have D0 : Hid (decide (q.wh.length = 0) = true) := decide_eq_true l0
      clear l0
      by_cases h12 : 12 < q.gps.length
      · have i12 : (12 : Int) < (q.gps.length : Int) := by omega
        have D12 : Hid (decide (12 < q.gps.length) = true) := decide_eq_true h12
        clear h12
        have RF : Hid (K5 = true) := by show _ = _; rw [← HK5.out, D0.out, D12.out, k5]; simp
        go_wp2
        go_meet
        exact ⟨by first | (rw [RF.out]; done) | (rw [RF.out]; simp; omega) | (rw [RF.out]; simp), N0.out, T0.out⟩
      · have i12 : ¬ (12 : Int) < (q.gps.length : Int) := by omega
        have D12 : Hid (decide (12 < q.gps.length) = false) := decide_eq_false h12
        clear h12
        cases n6 : diff q.gps with
        | false =>
          have N6 := Seg.hid n6
          clear n6
          rw [N6.out] at CD
          have RF : Hid (K5 = true) := by show _ = _; rw [← HK5.out, D0.out, D12.out, N6.out]; rfl
          go_wp2_with (first | (go_at_call 39; refine (CD.out _ N0.out).mono ?_; rintro e7 w7 ⟨rfl, b7⟩; have B7 := Seg.hid (chain N0.out b7); have T7 := Seg.hid ((b7.block _ (Array.getElem?_eq_some_iff.1 T0.out).1).trans T0.out); clear b7))
          go_meet
          exact ⟨by first | (rw [RF.out]; done) | (rw [RF.out]; simp; omega) | (rw [RF.out]; simp), B7.out, T7.out⟩
        | true =>
          have N6 := Seg.hid n6
          clear n6
          rw [N6.out] at CD
          have RF : Hid (K5 = false) := by show _ = _; rw [← HK5.out, D0.out, D12.out, N6.out]; rfl
          go_wp2_with (first | (go_at_call 39; refine (CD.out _ N0.out).mono ?_; rintro e7 w7 ⟨rfl, b7⟩; have B7 := Seg.hid (chain N0.out b7); have T7 := Seg.hid ((b7.block _ (Array.getElem?_eq_some_iff.1 T0.out).1).trans T0.out); clear b7))
          go_meet
          exact ⟨by first | (rw [RF.out]; done) | (rw [RF.out]; simp; omega) | (rw [RF.out]; simp), B7.out, T7.out⟩
    · have l1 : (0 : Int) < (q.wh.length : Int) := by omega
      have D0 : Hid (decide (q.wh.length = 0) = false) := decide_eq_false l0
      clear l0
      cases n5 : stepsOk q.wh with
      | false =>
        have N5 := Seg.hid n5
        clear n5
        rw [N5.out] at CX
        have RF : Hid (K5 = true) := by show _ = _; rw [← HK5.out, D0.out, N5.out]; rfl
        go_wp2_with (first | (go_at_call 38; refine (CX.out _ N0.out).mono ?_; rintro e7 w6 ⟨rfl, b6⟩; have B6 := Seg.hid (chain N0.out b6); have T6 := Seg.hid ((b6.block _ (Array.getElem?_eq_some_iff.1 T0.out).1).trans T0.out); obtain ⟨m0, m1, m2, m3, m4, m5, m6, m7, m8, m9, m10⟩ := qcells T6.out; clear b6 q0 q1 q2 q3 q4 q5 q6 q7 q8 q9 q10))
        go_meet
        exact ⟨by first | (rw [RF.out]; done) | (rw [RF.out]; simp; omega) | (rw [RF.out]; simp), B6.out, T6.out⟩
      | true =>
        have N5 := Seg.hid n5
        clear n5
        rw [N5.out] at CX
        by_cases h12 : 12 < q.gps.length
        · have i12 : (12 : Int) < (q.gps.length : Int) := by omega
          have D12 : Hid (decide (12 < q.gps.length) = true) := decide_eq_true h12
          clear h12
          have RF : Hid (K5 = true) := by show _ = _; rw [← HK5.out, D0.out, N5.out, D12.out, k5]; simp
          go_wp2_with (first | (go_at_call 38; refine (CX.out _ N0.out).mono ?_; rintro e7 w6 ⟨rfl, b6⟩; have B6 := Seg.hid (chain N0.out b6); have T6 := Seg.hid ((b6.block _ (Array.getElem?_eq_some_iff.1 T0.out).1).trans T0.out); obtain ⟨m0, m1, m2, m3, m4, m5, m6, m7, m8, m9, m10⟩ := qcells T6.out; clear b6 q0 q1 q2 q3 q4 q5 q6 q7 q8 q9 q10))
          go_meet
          exact ⟨by first | (rw [RF.out]; done) | (rw [RF.out]; simp; omega) | (rw [RF.out]; simp), B6.out, T6.out⟩
        · have i12 : ¬ (12 : Int) < (q.gps.length : Int) := by omega
          have D12 : Hid (decide (12 < q.gps.length) = false) := decide_eq_false h12
          clear h12
          cases n6 : diff q.gps with
          | false =>
            have N6 := Seg.hid n6
            clear n6
            rw [N6.out] at CD
            have RF : Hid (K5 = true) := by show _ = _; rw [← HK5.out, D0.out, N5.out, D12.out, N6.out]; rfl
            go_wp2_with (first | (go_at_call 38; refine (CX.out _ N0.out).mono ?_; rintro e7 w6 ⟨rfl, b6⟩; have B6 := Seg.hid (chain N0.out b6); have T6 := Seg.hid ((b6.block _ (Array.getElem?_eq_some_iff.1 T0.out).1).trans T0.out); obtain ⟨m0, m1, m2, m3, m4, m5, m6, m7, m8, m9, m10⟩ := qcells T6.out; clear b6 q0 q1 q2 q3 q4 q5 q6 q7 q8 q9 q10) | (go_at_call 39; refine (CD.out _ B6.out).mono ?_; rintro e7 w7 ⟨rfl, b7⟩; have B7 := Seg.hid (chain B6.out b7); have T7 := Seg.hid ((b7.block _ (Array.getElem?_eq_some_iff.1 T6.out).1).trans T6.out); clear b7))
            go_meet
            exact ⟨by first | (rw [RF.out]; done) | (rw [RF.out]; simp; omega) | (rw [RF.out]; simp), B7.out, T7.out⟩
          | true =>
            have N6 := Seg.hid n6
            clear n6
            rw [N6.out] at CD
            have RF : Hid (K5 = false) := by show _ = _; rw [← HK5.out, D0.out, N5.out, D12.out, N6.out]; rfl
            go_wp2_with (first | (go_at_call 38; refine (CX.out _ N0.out).mono ?_; rintro e7 w6 ⟨rfl, b6⟩; have B6 := Seg.hid (chain N0.out b6); have T6 := Seg.hid ((b6.block _ (Array.getElem?_eq_some_iff.1 T0.out).1).trans T0.out); obtain ⟨m0, m1, m2, m3, m4, m5, m6, m7, m8, m9, m10⟩ := qcells T6.out; clear b6 q0 q1 q2 q3 q4 q5 q6 q7 q8 q9 q10) | (go_at_call 39; refine (CD.out _ B6.out).mono ?_; rintro e7 w7 ⟨rfl, b7⟩; have B7 := Seg.hid (chain B6.out b7); have T7 := Seg.hid ((b7.block _ (Array.getElem?_eq_some_iff.1 T6.out).1).trans T6.out); clear b7))
            go_meet
            exact ⟨by first | (rw [RF.out]; done) | (rw [RF.out]; simp; omega) | (rw [RF.out]; simp), B7.out, T7.out⟩
  case rest =>
  obtain ⟨rfl, hB, hT⟩ := hcut
  rename World => W1
  have N1 := Seg.hid hB
  have T1 := Seg.hid hT
  clear hB hT q0 q1 q2 q3 q4 q5 q6 q7 q8 q9 q10 N0 T0
  cases K5 with
  | true =>
    have RF : Hid (R = false) := by show _ = _; rw [← HR.out]; simp
    go_wp2
    go_ret
    exact ⟨by rw [RF.out]; rfl, N1.out⟩
  | false =>
  obtain ⟨q0, q1, q2, q3, q4, q5, q6, q7, q8, q9, q10⟩ := qcells T1.out
  have GQ := Seg.hid (LAt.below keepsStr H6.out N1.out hS)
  obtain ⟨A, c, g, o, F, e9, OPg, hng⟩ := opn GQ.out (fun y hy => Nat.lt_of_lt_of_le (hS y hy) N1.out.size)
  simp only [Value.slice.injEq, true_and] at e9
  obtain ⟨rfl, rfl⟩ := e9
  have HOg := Seg.hid OPg
  clear OPg
  go_wp2
  go_loop [3] (fun i => ∃ k : Nat, k ≤ q.gps.length ∧ i = .int .i64 k ∧ Hid ((q.gps.take k).all Nm.nameOk = true)) (fun i => q.gps.length - (intOf i).toNat)
  case atStart => exact ⟨0, Nat.zero_le _, rfl, by show _ = _; simp⟩
  case round =>
  obtain ⟨k, hk, rfl, HG⟩ := hrel
  by_cases hlt : k < q.gps.length
  · obtain ⟨ea, hc, hgw⟩ := HOg.out.addr.resolve_left (by omega)
    subst ea
    have d0 := strs_cell HOg.out rfl hlt
    have h0 : (0 : Int) ≤ (k : Int) := by omega
    have h1 : (k : Int) < (q.gps.length : Int) := by omega
    have TZ : Hid ((q.gps.getD k default).size ≤ maxLen) := by show _ ≤ _; have := szL_one ByteArray.size HZ6.out hlt; unfold maxLen; omega
    have NX := Seg.hid (QsP.all_next Nm.nameOk q.gps k hlt HG.out)
    have BX := Seg.hid (QsP.all_bad Nm.nameOk q.gps k hlt)
    generalize q.gps.getD k default = nk at *
    cases hy : Nm.nameOk nk with
    | true =>
      have NY : Hid ((q.gps.take (k + 1)).all Nm.nameOk = true) := NX.out hy
      have HY := Seg.hid hy
      clear hy NX BX
      go_wp2_with (go_at_call 36; refine (Nm.spec_q _ _ HY.out _ TZ.out).mono ?_; rintro e w5 ⟨rfl, rfl⟩)
      go_round
      case rel => exact ⟨k + 1, by omega, by go_num, NY.out⟩
      case measure => simp [intOf]; omega
    | false =>
      have NY : Hid (R = false) := by show _ = _; rw [← HR.out, BX.out hy]; simp
      have HY := Seg.hid hy
      clear hy NX BX
      go_wp2_with (go_at_call 36; refine (Nm.spec_q _ _ HY.out _ TZ.out).mono ?_; rintro e w5 ⟨rfl, rfl⟩)
      go_ret
      exact ⟨by rw [NY.out]; rfl, N1.out⟩
  have hkl : k = q.gps.length := by omega
  have AG : Hid (q.gps.all Nm.nameOk = true) := by show _ = _; have := HG.out; rw [hkl, List.take_length] at this; exact this
  have hx1 : ¬ (k : Int) < (q.gps.length : Int) := by omega
  clear hkl HG hlt
  go_upto_region 12 with fail
  go_cut [131] from 117 to 131 (fun s wx => s = .bool K12 ∧ wx = W1)
  case first =>
    cases n7 : inR 0 q.win 3 with
    | false =>
      have N7 := Seg.hid n7
      clear n7
      have RF : Hid (K12 = true) := by show _ = _; rw [← HK12.out, N7.out]; simp [k12]
      go_wp2_with (first | (go_at_call 37; refine (InB.l1In_b _ _ _ _ N7.out _).mono ?_; rintro e7 w6 ⟨rfl, rfl⟩))
      go_meet
      exact ⟨by first | (rw [RF.out]; done) | (rw [RF.out]; simp; omega) | (rw [RF.out]; simp), rfl⟩
    | true =>
      have N7 := Seg.hid n7
      clear n7
      by_cases h1 : q.win = 0
      · have b1 : (q.win != 0) = false := by simpa using h1
        have D1 : Hid (decide (q.win = 0) = true) := decide_eq_true h1
        clear h1
        have RF : Hid (K12 = false) := by show _ = _; rw [← HK12.out, N7.out, D1.out]; simp [k12]
        go_wp2_with (first | (go_at_call 37; refine (InB.l1In_b _ _ _ _ N7.out _).mono ?_; rintro e7 w6 ⟨rfl, rfl⟩))
        go_meet
        exact ⟨by first | (rw [RF.out]; done) | (rw [RF.out]; simp; omega) | (rw [RF.out]; simp), rfl⟩
      · have b1 : (q.win != 0) = true := by simpa using h1
        have D1 : Hid (decide (q.win = 0) = false) := decide_eq_false h1
        clear h1
        by_cases h2 : q.gps.length = 0
        · have b2 : ((q.gps.length : Int) == 0) = true := by simpa using h2
          have D2 : Hid (decide (q.gps.length = 0) = true) := decide_eq_true h2
          clear h2
          have RF : Hid (K12 = true) := by show _ = _; rw [← HK12.out, N7.out, D1.out, D2.out]; simp [k12]
          go_wp2_with (first | (go_at_call 37; refine (InB.l1In_b _ _ _ _ N7.out _).mono ?_; rintro e7 w6 ⟨rfl, rfl⟩))
          go_meet
          exact ⟨by first | (rw [RF.out]; done) | (rw [RF.out]; simp; omega) | (rw [RF.out]; simp), rfl⟩
        · have b2 : ((q.gps.length : Int) == 0) = false := by simpa using h2
          have D2 : Hid (decide (q.gps.length = 0) = false) := decide_eq_false h2
          clear h2
          have RF : Hid (K12 = false) := by show _ = _; rw [← HK12.out, N7.out, D1.out, D2.out]; simp [k12]
          go_wp2_with (first | (go_at_call 37; refine (InB.l1In_b _ _ _ _ N7.out _).mono ?_; rintro e7 w6 ⟨rfl, rfl⟩))
          go_meet
          exact ⟨by first | (rw [RF.out]; done) | (rw [RF.out]; simp; omega) | (rw [RF.out]; simp), rfl⟩
  case rest =>
  obtain ⟨rfl, hw⟩ := hcut
  have hw := hw.symm
  subst hw
  cases K12 with
  | true =>
    have RF : Hid (R = false) := by show _ = _; rw [← HR.out]; simp
    go_wp2
    go_ret
    exact ⟨by rw [RF.out]; rfl, N1.out⟩
  | false =>
  go_upto_region 14 with fail
  go_cut [150] from 132 to 150 (fun s wx => s = .bool K14 ∧ wx = W1)
  case first =>
    by_cases h1 : q.win = 0
    · have b1 : (q.win == 0) = true := by simpa using h1
      have b1n : (q.win != 0) = false := by simpa using h1
      have D1 : Hid (decide (q.win = 0) = true) := decide_eq_true h1
      clear h1
      by_cases h2 : q.size = 0
      · have b2 : (q.size != 0) = false := by simpa using h2
        have D2 : Hid (decide (q.size = 0) = true) := decide_eq_true h2
        clear h2
        have RF : Hid (K14 = false) := by show _ = _; rw [← HK14.out, D1.out, D2.out]; simp [k14]
        go_wp2
        go_meet
        exact ⟨by first | (rw [RF.out]; done) | (rw [RF.out]; simp; omega) | (rw [RF.out]; simp), rfl⟩
      · have b2 : (q.size != 0) = true := by simpa using h2
        have D2 : Hid (decide (q.size = 0) = false) := decide_eq_false h2
        clear h2
        have RF : Hid (K14 = true) := by show _ = _; rw [← HK14.out, D1.out, D2.out]; simp [k14]
        go_wp2
        go_meet
        exact ⟨by first | (rw [RF.out]; done) | (rw [RF.out]; simp; omega) | (rw [RF.out]; simp), rfl⟩
    · have b1 : (q.win == 0) = false := by simpa using h1
      have b1n : (q.win != 0) = true := by simpa using h1
      have D1 : Hid (decide (q.win = 0) = false) := decide_eq_false h1
      clear h1
      cases n8 : inR 1 q.size 1000000000000 with
      | false =>
        have N8 := Seg.hid n8
        clear n8
        have RF : Hid (K14 = true) := by show _ = _; rw [← HK14.out, D1.out, N8.out]; simp [k14]
        go_wp2_with (first | (go_at_call 37; refine (InB.l1In_b _ _ _ _ N8.out _).mono ?_; rintro e7 w6 ⟨rfl, rfl⟩))
        go_meet
        exact ⟨by first | (rw [RF.out]; done) | (rw [RF.out]; simp; omega) | (rw [RF.out]; simp), rfl⟩
      | true =>
        have N8 := Seg.hid n8
        clear n8
        have RF : Hid (K14 = false) := by show _ = _; rw [← HK14.out, D1.out, N8.out]; simp [k14]
        go_wp2_with (first | (go_at_call 37; refine (InB.l1In_b _ _ _ _ N8.out _).mono ?_; rintro e7 w6 ⟨rfl, rfl⟩))
        go_meet
        exact ⟨by first | (rw [RF.out]; done) | (rw [RF.out]; simp; omega) | (rw [RF.out]; simp), rfl⟩
  case rest =>
  obtain ⟨rfl, hw⟩ := hcut
  have hw := hw.symm
  subst hw
  cases K14 with
  | true =>
    have RF : Hid (R = false) := by show _ = _; rw [← HR.out]; simp
    go_wp2
    go_ret
    exact ⟨by rw [RF.out]; rfl, N1.out⟩
  | false =>
  go_upto_region 16 with fail
  go_cut [179] from 151 to 179 (fun s wx => s = .bool K16 ∧ wx = W1)
  case first =>
    by_cases h1 : q.win = 2
    · have b1 : (q.win == 2) = true := by simpa using h1
      have b1n : (q.win != 2) = false := by simpa using h1
      have D1 : Hid (decide (q.win = 2) = true) := decide_eq_true h1
      have IS : Hid (inR 1 q.size 1000000000000 = true) := by
        show _ = _
        have h0 := HK14.out
        rw [decide_eq_false (show ¬ q.win = 0 by omega)] at h0
        simpa [k14] using h0
      have s9 := inR_true IS.out
      clear h1
      cases n9 : inR 1 q.every q.size with
      | false =>
        have N9 := Seg.hid n9
        clear n9
        have RF : Hid (K16 = true) := by show _ = _; rw [← HK16.out, D1.out, N9.out]; simp [k16]
        go_wp2_with (first | (go_at_call 37; refine (InB.l1In_b _ _ _ _ N9.out _).mono ?_; rintro e7 w6 ⟨rfl, rfl⟩))
        go_meet
        exact ⟨by first | (rw [RF.out]; done) | (rw [RF.out]; simp; omega) | (rw [RF.out]; simp), rfl⟩
      | true =>
        have N9 := Seg.hid n9
        clear n9
        have e9 := inR_true N9.out
        by_cases h3 : 20 * q.every < q.size
        · skip
          have D3 : Hid (decide (20 * q.every < q.size) = true) := decide_eq_true h3
          have RF : Hid (K16 = true) := by show _ = _; rw [← HK16.out, D1.out, N9.out, D3.out]; simp [k16]
          go_wp2_with (first | (go_at_call 37; refine (InB.l1In_b _ _ _ _ N9.out _).mono ?_; rintro e7 w6 ⟨rfl, rfl⟩))
          go_meet
          exact ⟨by first | (rw [RF.out]; done) | (rw [RF.out]; simp; omega) | (rw [RF.out]; simp), rfl⟩
        · skip
          have D3 : Hid (decide (20 * q.every < q.size) = false) := decide_eq_false h3
          have RF : Hid (K16 = false) := by show _ = _; rw [← HK16.out, D1.out, N9.out, D3.out]; simp [k16]
          go_wp2_with (first | (go_at_call 37; refine (InB.l1In_b _ _ _ _ N9.out _).mono ?_; rintro e7 w6 ⟨rfl, rfl⟩))
          go_meet
          exact ⟨by first | (rw [RF.out]; done) | (rw [RF.out]; simp; omega) | (rw [RF.out]; simp), rfl⟩
    · have b1 : (q.win == 2) = false := by simpa using h1
      have b1n : (q.win != 2) = true := by simpa using h1
      have D1 : Hid (decide (q.win = 2) = false) := decide_eq_false h1
      clear h1
      by_cases h2 : q.every = 0
      · have b2 : (q.every != 0) = false := by simpa using h2
        have D2 : Hid (decide (q.every = 0) = true) := decide_eq_true h2
        clear h2
        have RF : Hid (K16 = false) := by show _ = _; rw [← HK16.out, D1.out, D2.out]; simp [k16]
        go_wp2
        go_meet
        exact ⟨by first | (rw [RF.out]; done) | (rw [RF.out]; simp; omega) | (rw [RF.out]; simp), rfl⟩
      · have b2 : (q.every != 0) = true := by simpa using h2
        have D2 : Hid (decide (q.every = 0) = false) := decide_eq_false h2
        clear h2
        have RF : Hid (K16 = true) := by show _ = _; rw [← HK16.out, D1.out, D2.out]; simp [k16]
        go_wp2
        go_meet
        exact ⟨by first | (rw [RF.out]; done) | (rw [RF.out]; simp; omega) | (rw [RF.out]; simp), rfl⟩
  case rest =>
  obtain ⟨rfl, hw⟩ := hcut
  have hw := hw.symm
  subst hw
  cases K16 with
  | true =>
    have RF : Hid (R = false) := by show _ = _; rw [← HR.out]; simp
    go_wp2
    go_ret
    exact ⟨by rw [RF.out]; rfl, N1.out⟩
  | false =>
  go_upto_region 18 with fail
  cases n10 : inR 1 q.gets.length 8 with
  | false =>
    have N10 := Seg.hid n10
    have RF : Hid (R = false) := by show _ = _; rw [← HR.out, N10.out]; simp
    clear n10
    go_wp2_with (first | (go_at_call 37; refine (InB.l1In_b _ _ _ _ N10.out _).mono ?_; rintro e7 w6 ⟨rfl, rfl⟩))
    go_ret
    exact ⟨by rw [RF.out]; rfl, N1.out⟩
  | true =>
  have N10 := Seg.hid n10
  have h8 := inR_true n10
  have R1 : Hid (R = q.gets.all (gtP (decide (0 < q.gps.length)))) := by show _ = _; rw [← HR.out, N10.out, AG.out]; simp
  clear n10 HR
  go_wp2_with (first | (go_at_call 37; refine (InB.l1In_b _ _ _ _ N10.out _).mono ?_; rintro e7 w6 ⟨rfl, rfl⟩))
  clear q0 q1 q2 q3 q4 q5 q6 q7 q8 q9 q10
  obtain ⟨gr, hgr⟩ : ∃ gr, decide (0 < q.gps.length) = gr := ⟨_, rfl⟩
  rw [hgr] at R1
  have GR := Seg.hid hgr
  clear hgr HOg GQ hng
  obtain ⟨A', c', g', o', F', e9, OPg, hng⟩ := opn H10.out hS
  simp only [Value.slice.injEq, true_and] at e9
  obtain ⟨rfl, rfl⟩ := e9
  have HO := Seg.hid OPg
  clear OPg
  go_loopw [4] (fun i wr => ∃ k : Nat, k ≤ q.gets.length ∧ i = .int .i64 k ∧ Hid ((q.gets.take k).all (gtP gr) = true ∧ Below w.heap.size w wr ∧ wr.heap[w.heap.size]? = some (.cells (qrow q A5 c5 A6 c6 A10 c10) 28 (0, 0)))) (fun i _ => q.gets.length - (intOf i).toNat)
  case atStart => exact ⟨0, Nat.zero_le _, rfl, by simp, N1.out, T1.out⟩
  case round =>
    clear N1 T1
    obtain ⟨k, hk, rfl, HG⟩ := hrel
    have BW : Hid (Below w.heap.size w wr) := HG.out.2.1
    have TW : Hid (wr.heap[w.heap.size]? = some (.cells (qrow q A5 c5 A6 c6 A10 c10) 28 (0, 0))) := HG.out.2.2
    have AW := Seg.hid HG.out.1
    clear HG
    obtain ⟨q0, q1, q2, q3, q4, q5, q6, q7, q8, q9, q10⟩ := qcells TW.out
    by_cases hlt : k < q.gets.length
    · obtain ⟨ea, hc, hgw⟩ := HO.out.addr.resolve_left (by omega)
      subst ea
      obtain ⟨A', c', hcl, d0, d1, d2⟩ := gqt_at HO.out hS BW.out hlt
      have h0 : (0 : Int) ≤ (k : Int) := by omega
      have h1 : (k : Int) < (q.gets.length : Int) := by omega
      have SU : Hid (szGqt (q.gets.getD k default) ≤ 1048576) := szL_one szGqt HZ10.out hlt
      have NX : Hid (gtP gr (q.gets.getD k default) = true → (q.gets.take (k + 1)).all (gtP gr) = true) := QsP.all_next (gtP gr) q.gets k hlt AW.out
      have BX : Hid (gtP gr (q.gets.getD k default) = false → R = false) := fun h => by rw [R1.out]; exact QsP.all_bad (gtP gr) q.gets k hlt h
      have HC := Seg.hid hcl
      clear hcl AW
      generalize q.gets.getD k default = g1 at *
      have hSr : ∀ y, S y → y < wr.heap.size := fun y hy => Nat.lt_of_lt_of_le (hS y hy) BW.out.size
      have TN : Hid (g1.nm.size ≤ maxLen) := by show _ ≤ _; have := SU.out; unfold szGqt at this; unfold maxLen; omega
      have CE : Hid (∀ wx, Below wr.heap.size wr wx → Calls Try.prog 38 #[.slice A' g1.steps.length c'] wx fun e w' => e = .returned (.bool (stepsOk g1.steps)) ∧ Below wx.heap.size wx w') := fun wx b => QtS.steps_any _ _ wx S (LAt.below keepsStp HC.out b hSr) (fun y hy => Nat.lt_of_lt_of_le (hSr y hy) b.size) (by have := SU.out; unfold szGqt at this; omega)
      have hn1 := HC.out.1
      have Z0 := @XgI.gt_zero gr g1
      have Z1 := @XgI.gt_one gr g1
      have Z2 := @XgI.gt_more gr g1
      obtain ⟨ki, hki⟩ : ∃ ki, g1.kind = ki := ⟨_, rfl⟩
      rw [hki] at d0 Z0 Z1 Z2
      obtain ⟨G, hG⟩ : ∃ G, gtP gr g1 = G := ⟨_, rfl⟩
      rw [hG] at Z0 Z1 Z2 NX BX
      have ZZ := Seg.hid (And.intro Z0 (And.intro Z1 Z2))
      clear Z0 Z1 Z2 hG hki
      obtain ⟨w5, hw5⟩ : ∃ w5, wr.alloc (.cells #[.int .i64 ki, .slice A' g1.steps.length c', .string g1.nm] 35 (0, 0)) = w5 := ⟨_, rfl⟩
      have T5 : Hid (w5.heap[wr.heap.size]? = some (.cells #[.int .i64 ki, .slice A' g1.steps.length c', .string g1.nm] 35 (0, 0))) := by show _ = _; rw [← hw5]; exact heap_alloc_new _ _
      have N5 : Hid (Below wr.heap.size wr w5) := by show Below _ _ _; rw [← hw5]; exact below1 _ _
      have Q5 : Hid (w5.heap[w.heap.size]? = some (.cells (qrow q A5 c5 A6 c6 (some ⟨g', o', none⟩) c10) 28 (0, 0))) := (N5.out.block _ (Array.getElem?_eq_some_iff.1 TW.out).1).trans TW.out
      go_upto_region 24 with fail
      try rw [hw5]
      clear hw5 d0 d1 d2 q0 q1 q2 q3 q4 q5 q6 q7 q8 q9 q10
      obtain ⟨q0, q1, q2, q3, q4, q5, q6, q7, q8, q9, q10⟩ := qcells Q5.out
      obtain ⟨p0, p1, p2⟩ := gcells T5.out
      clear q0 q1 q2 q3 q4 q5 q7 q8 q9 q10
      by_cases k0 : ki = 0
      · subst k0
        have N2 : Hid (inR 0 0 4 = true) := rfl
        cases n1 : Nm.nameOk g1.nm with
        | false =>
          have N1 := Seg.hid n1
          clear n1
          have RF : Hid (R = false) := BX.out (by rw [ZZ.out.1 rfl, N1.out]; simp)
          clear NX BX ZZ
          go_wp2_with (first | (go_at_call 36; refine (Nm.spec_q _ _ N1.out _ TN.out).mono ?_; rintro e7 w6 ⟨rfl, rfl⟩))
          go_ret
          exact ⟨by rw [RF.out]; rfl, chain BW.out N5.out⟩
        | true =>
          have N1 := Seg.hid n1
          clear n1
          cases gr with
          | false =>
            have gl : q.gps.length = 0 := by have := of_decide_eq_false GR.out; omega
            have gl1 : ((q.gps.length : Int) == 0) = true := by rw [beq_iff_eq]; omega
            clear gl
            cases n3 : stepsOk g1.steps with
            | false =>
              have N3 := Seg.hid n3
              clear n3
              rw [N3.out] at CE
              have RF : Hid (R = false) := BX.out (by rw [ZZ.out.1 rfl, N1.out, N3.out]; simp)
              clear NX BX ZZ
              go_wp2_with (first | (go_at_call 36; refine (Nm.spec_q _ _ N1.out _ TN.out).mono ?_; rintro e7 w6 ⟨rfl, rfl⟩) | (go_at_call 37; refine (InB.l1In_b _ _ _ _ N2.out _).mono ?_; rintro e7 w6 ⟨rfl, rfl⟩) | (go_at_call 38; refine (CE.out _ N5.out).mono ?_; rintro e7 w6 ⟨rfl, b6⟩; have B6 := Seg.hid (chain N5.out b6); have Q6 := Seg.hid ((b6.block _ (Array.getElem?_eq_some_iff.1 Q5.out).1).trans Q5.out); clear b6))
              go_ret
              exact ⟨by rw [RF.out]; rfl, chain BW.out B6.out⟩
            | true =>
              have N3 := Seg.hid n3
              clear n3
              rw [N3.out] at CE
              have NY := Seg.hid (NX.out (by rw [ZZ.out.1 rfl, N1.out, N3.out]; simp))
              clear NX BX ZZ
              go_wp2_with (first | (go_at_call 36; refine (Nm.spec_q _ _ N1.out _ TN.out).mono ?_; rintro e7 w6 ⟨rfl, rfl⟩) | (go_at_call 37; refine (InB.l1In_b _ _ _ _ N2.out _).mono ?_; rintro e7 w6 ⟨rfl, rfl⟩) | (go_at_call 38; refine (CE.out _ N5.out).mono ?_; rintro e7 w6 ⟨rfl, b6⟩; have B6 := Seg.hid (chain N5.out b6); have Q6 := Seg.hid ((b6.block _ (Array.getElem?_eq_some_iff.1 Q5.out).1).trans Q5.out); clear b6))
              go_roundw
              case rel => exact ⟨k + 1, by omega, by go_num, NY.out, chain BW.out B6.out, Q6.out⟩
              case measure => simp [intOf]; omega
          | true =>
            have gl : 0 < q.gps.length := of_decide_eq_true GR.out
            have gl1 : ((q.gps.length : Int) == 0) = false := by rw [beq_eq_false_iff_ne]; omega
            clear gl
            have RF : Hid (R = false) := BX.out (by rw [ZZ.out.1 rfl, N1.out]; simp)
            clear NX BX ZZ
            go_wp2_with (first | (go_at_call 36; refine (Nm.spec_q _ _ N1.out _ TN.out).mono ?_; rintro e7 w6 ⟨rfl, rfl⟩) | (go_at_call 37; refine (InB.l1In_b _ _ _ _ N2.out _).mono ?_; rintro e7 w6 ⟨rfl, rfl⟩))
            go_ret
            exact ⟨by rw [RF.out]; rfl, chain BW.out N5.out⟩
      by_cases k1 : ki = 1
      · subst k1
        have N2 : Hid (inR 0 1 4 = true) := rfl
        cases n1 : Nm.nameOk g1.nm with
        | false =>
          have N1 := Seg.hid n1
          clear n1
          have RF : Hid (R = false) := BX.out (by rw [ZZ.out.2.1 rfl, N1.out]; simp)
          clear NX BX ZZ
          go_wp2_with (first | (go_at_call 36; refine (Nm.spec_q _ _ N1.out _ TN.out).mono ?_; rintro e7 w6 ⟨rfl, rfl⟩))
          go_ret
          exact ⟨by rw [RF.out]; rfl, chain BW.out N5.out⟩
        | true =>
          have N1 := Seg.hid n1
          clear n1
          cases gr with
          | false =>
            have gl : q.gps.length = 0 := by have := of_decide_eq_false GR.out; omega
            have gl1 : ((q.gps.length : Int) == 0) = true := by rw [beq_iff_eq]; omega
            clear gl
            have RF : Hid (R = false) := BX.out (by rw [ZZ.out.2.1 rfl, N1.out]; simp)
            clear NX BX ZZ
            go_wp2_with (first | (go_at_call 36; refine (Nm.spec_q _ _ N1.out _ TN.out).mono ?_; rintro e7 w6 ⟨rfl, rfl⟩) | (go_at_call 37; refine (InB.l1In_b _ _ _ _ N2.out _).mono ?_; rintro e7 w6 ⟨rfl, rfl⟩))
            go_ret
            exact ⟨by rw [RF.out]; rfl, chain BW.out N5.out⟩
          | true =>
            have gl : 0 < q.gps.length := of_decide_eq_true GR.out
            have gl1 : ((q.gps.length : Int) == 0) = false := by rw [beq_eq_false_iff_ne]; omega
            clear gl
            by_cases h9 : g1.steps.length = 0
            · have D9 : Hid (decide (g1.steps.length = 0) = true) := decide_eq_true h9
              have i9 : ¬ (0 : Int) < (g1.steps.length : Int) := by omega
              have NY := Seg.hid (NX.out (by rw [ZZ.out.2.1 rfl, N1.out, D9.out]; simp))
              clear NX BX ZZ
              go_wp2_with (first | (go_at_call 36; refine (Nm.spec_q _ _ N1.out _ TN.out).mono ?_; rintro e7 w6 ⟨rfl, rfl⟩) | (go_at_call 37; refine (InB.l1In_b _ _ _ _ N2.out _).mono ?_; rintro e7 w6 ⟨rfl, rfl⟩))
              go_roundw
              case rel => exact ⟨k + 1, by omega, by go_num, NY.out, chain BW.out N5.out, Q5.out⟩
              case measure => simp [intOf]; omega
            · have D9 : Hid (decide (g1.steps.length = 0) = false) := decide_eq_false h9
              have i9 : (0 : Int) < (g1.steps.length : Int) := by omega
              have RF : Hid (R = false) := BX.out (by rw [ZZ.out.2.1 rfl, N1.out, D9.out]; simp)
              clear NX BX ZZ
              go_wp2_with (first | (go_at_call 36; refine (Nm.spec_q _ _ N1.out _ TN.out).mono ?_; rintro e7 w6 ⟨rfl, rfl⟩) | (go_at_call 37; refine (InB.l1In_b _ _ _ _ N2.out _).mono ?_; rintro e7 w6 ⟨rfl, rfl⟩))
              go_ret
              exact ⟨by rw [RF.out]; rfl, chain BW.out N5.out⟩
      have p0 : (ki == 0) = false := by simpa using k0
      have p1 : (ki == 1) = false := by simpa using k1
      have p1n : (ki != 1) = true := by simpa using k1
      have Z := Seg.hid (ZZ.out.2.2 k0 k1)
      clear k0 k1
      cases n1 : Nm.nameOk g1.nm with
      | false =>
        have N1 := Seg.hid n1
        clear n1
        have RF : Hid (R = false) := BX.out (by rw [Z.out, N1.out]; simp)
        clear NX BX ZZ
        go_wp2_with (first | (go_at_call 36; refine (Nm.spec_q _ _ N1.out _ TN.out).mono ?_; rintro e7 w6 ⟨rfl, rfl⟩))
        go_ret
        exact ⟨by rw [RF.out]; rfl, chain BW.out N5.out⟩
      | true =>
        have N1 := Seg.hid n1
        clear n1
        cases n2 : inR 0 ki 4 with
        | false =>
          have N2 := Seg.hid n2
          clear n2
          have RF : Hid (R = false) := BX.out (by rw [Z.out, N1.out, N2.out]; simp)
          clear NX BX ZZ
          go_wp2_with (first | (go_at_call 36; refine (Nm.spec_q _ _ N1.out _ TN.out).mono ?_; rintro e7 w6 ⟨rfl, rfl⟩) | (go_at_call 37; refine (InB.l1In_b _ _ _ _ N2.out _).mono ?_; rintro e7 w6 ⟨rfl, rfl⟩))
          go_ret
          exact ⟨by rw [RF.out]; rfl, chain BW.out N5.out⟩
        | true =>
          have N2 := Seg.hid n2
          clear n2
          cases gr with
          | false =>
            have gl : q.gps.length = 0 := by have := of_decide_eq_false GR.out; omega
            have gl1 : ((q.gps.length : Int) == 0) = true := by rw [beq_iff_eq]; omega
            clear gl
            have RF : Hid (R = false) := BX.out (by rw [Z.out, N1.out, N2.out]; simp)
            clear NX BX ZZ
            go_wp2_with (first | (go_at_call 36; refine (Nm.spec_q _ _ N1.out _ TN.out).mono ?_; rintro e7 w6 ⟨rfl, rfl⟩) | (go_at_call 37; refine (InB.l1In_b _ _ _ _ N2.out _).mono ?_; rintro e7 w6 ⟨rfl, rfl⟩))
            go_ret
            exact ⟨by rw [RF.out]; rfl, chain BW.out N5.out⟩
          | true =>
            have gl : 0 < q.gps.length := of_decide_eq_true GR.out
            have gl1 : ((q.gps.length : Int) == 0) = false := by rw [beq_eq_false_iff_ne]; omega
            clear gl
            cases n3 : stepsOk g1.steps with
            | false =>
              have N3 := Seg.hid n3
              clear n3
              rw [N3.out] at CE
              have RF : Hid (R = false) := BX.out (by rw [Z.out, N1.out, N2.out, N3.out]; simp)
              clear NX BX ZZ
              go_wp2_with (first | (go_at_call 36; refine (Nm.spec_q _ _ N1.out _ TN.out).mono ?_; rintro e7 w6 ⟨rfl, rfl⟩) | (go_at_call 37; refine (InB.l1In_b _ _ _ _ N2.out _).mono ?_; rintro e7 w6 ⟨rfl, rfl⟩) | (go_at_call 38; refine (CE.out _ N5.out).mono ?_; rintro e7 w6 ⟨rfl, b6⟩; have B6 := Seg.hid (chain N5.out b6); have Q6 := Seg.hid ((b6.block _ (Array.getElem?_eq_some_iff.1 Q5.out).1).trans Q5.out); clear b6))
              go_ret
              exact ⟨by rw [RF.out]; rfl, chain BW.out B6.out⟩
            | true =>
              have N3 := Seg.hid n3
              clear n3
              rw [N3.out] at CE
              have NY := Seg.hid (NX.out (by rw [Z.out, N1.out, N2.out, N3.out]; simp))
              clear NX BX ZZ
              go_wp2_with (first | (go_at_call 36; refine (Nm.spec_q _ _ N1.out _ TN.out).mono ?_; rintro e7 w6 ⟨rfl, rfl⟩) | (go_at_call 37; refine (InB.l1In_b _ _ _ _ N2.out _).mono ?_; rintro e7 w6 ⟨rfl, rfl⟩) | (go_at_call 38; refine (CE.out _ N5.out).mono ?_; rintro e7 w6 ⟨rfl, b6⟩; have B6 := Seg.hid (chain N5.out b6); have Q6 := Seg.hid ((b6.block _ (Array.getElem?_eq_some_iff.1 Q5.out).1).trans Q5.out); clear b6))
              go_roundw
              case rel => exact ⟨k + 1, by omega, by go_num, NY.out, chain BW.out B6.out, Q6.out⟩
              case measure => simp [intOf]; omega
    · have hkl : k = q.gets.length := by omega
      have RT : Hid (R = true) := by show _ = _; have := AW.out; rw [hkl, List.take_length] at this; rw [R1.out, this]
      have hx1 : ¬ (k : Int) < (q.gets.length : Int) := by omega
      clear hkl
      go_wp2
      go_ret
      exact ⟨by rw [RT.out]; rfl, BW.out⟩
end Go.Proofs.Ytkohhcjpjloaaaa.XqS
