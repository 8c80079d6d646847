/- TableOk of the model. -/
import Derived.Test.YtjdhpampfnilaaaTbP
import Derived.Test.YtjdhpampfnilaaaInQ
namespace Go.Proofs.Ytjdhpampfnilaaa.TbS
set_option maxRecDepth 8000
open Go.RowKit
open Ls Lp TbP
open Recs (hsz below1 below2 chain)
set_option linter.unusedVariables false
/-- The least number that a producer may have at place k. -/
def pv (l : List Sen) (k : Nat) : Int := if k = 0 then 0 else (l.getD (k - 1) default).producer + 1
theorem pv_next (l : List Sen) (k : Nat) : pv l (k + 1) = (l.getD k default).producer + 1 := by simp [pv]
set_option maxHeartbeats 3200000 in
theorem spec_any (x : Value) (l : List Sen) (w : World) (S : Nat → Prop) (hv : LAt 4 ESen w S x l) (hS : ∀ g, S g → g < w.heap.size) (hf : szL szSen l ≤ 1048576) :
    Calls Try.prog 5 #[x] w fun e w' => e = .returned (.bool (table l)) ∧ Below w.heap.size w w' := by
  obtain ⟨A, c, g, o, F, rfl, OA, n3⟩ := opn hv hS
  have HA := Seg.hid OA
  have hn : l.length ≤ 1048576 := szL_len _ hf
  have HL : Hid (∀ i, i < l.length → szSen (l.getD i default) ≤ 1048576) := fun i hi => szL_one _ hf hi
  clear hv OA hf n3
  go_enter Try.func5, Try.ntmps5
  by_cases h1 : l.length ≤ 100
  case neg =>
    have Z : Hid (table l = false) := by show _ = _; simp [table, h1]
    go_wp2
    go_ret
    exact ⟨Seg.ret_bool Z.out.symm, Below.refl _ _⟩
  have KS : Hid (table l = tabs 0 l) := by show _ = _; simp [table, h1]
  have no : ∀ (w' : World), table l = false → Below w.heap.size w w' → (Ending.returned (.bool false) = .returned (.bool (table l)) ∧ Below w.heap.size w w') := fun w' h b => ⟨by rw [h], b⟩
  have NO := Seg.hid no
  clear no
  go_wp2_with fail
  go_loopw [3] (fun i wr => ∃ (k : Nat), k ≤ l.length ∧ i = .int .i64 k ∧ Hid (tabs (pv l k) (l.drop k) = table l ∧ 0 ≤ pv l k ∧ Below w.heap.size w wr)) (fun i _ => l.length - (intOf i).toNat)
  case atStart => exact ⟨0, Nat.zero_le _, rfl, KS.out.symm, by simp [pv], Below.refl _ _⟩
  case round =>
    clear KS
    obtain ⟨k, hk, rfl, HR⟩ := hrel
    by_cases hlt : k < l.length
    · obtain ⟨ea, hc, hga⟩ := HA.out.addr.resolve_left (by omega)
      have hb := HR.out.2.2
      have OL := HA.out.later keepsSen hS hb
      obtain ⟨A3, c3, ⟨d0, d1, d2, d3⟩, LR⟩ := sen_cells (i := k) (fun j hj => OL.cells k hlt j hj) (OL.el k hlt)
      have PV : Hid (0 < k → wr.cell? ⟨g, o + (k - 1) * 4, none⟩ = some (.int .i64 (l.getD (k - 1) default).producer) ∧ pv l k = (l.getD (k - 1) default).producer + 1) := fun h => by
        obtain ⟨_, _, ⟨e0, _⟩, _⟩ := sen_cells (i := k - 1) (fun j hj => OL.cells (k - 1) (by omega) j hj) (OL.el (k - 1) (by omega))
        exact ⟨e0, by simp only [pv]; rw [if_neg (by omega)]⟩
      have P0 : Hid (k = 0 → pv l k = 0) := fun h => by simp [pv, h]
      have h0 : (0 : Int) ≤ (k : Int) := by omega
      have h1 : (k : Int) < (l.length : Int) := by omega
      have hgr : g < wr.heap.size := Nat.lt_of_lt_of_le hga hb.size
      have hm0 := HR.out.2.1
      have hpn := Seg.hid (pv_next l k)
      have HD := HR.out.1
      rw [drop_cons hlt] at HD
      have HD' := Seg.hid HD
      have nr : (l.getD k default).recent.length ≤ 1048576 := szL_len _ (show szL szRct _ ≤ 1048576 from HL.out k hlt)
      clear HD OL hb
      generalize l.getD k default = sk at *
      generalize pv l k = pk at *
      subst ea
      have ZF : Hid ((inR pk sk.producer 1000000000 && snOk sk) = false → table l = false) := fun hb => by rw [← HD'.out]; simp only [tabs, hb, Bool.false_and]
      obtain ⟨A3', c3', g3, o3, F3, e3, OR, _⟩ := opn LR (fun g hg => Nat.lt_of_lt_of_le (hS g hg) HR.out.2.2.size)
      have HO := Seg.hid OR
      simp only [Value.slice.injEq] at e3
      obtain ⟨rfl, _, rfl⟩ := e3
      clear LR OR
      obtain ⟨wz, hwz⟩ : ∃ wz, wr.alloc (.cells #[.int .i64 sk.producer, .int .i64 sk.turn, .int .i64 sk.next, .slice A3 sk.recent.length c3] 35 (0, 0)) = wz := ⟨_, rfl⟩
      have WZ : Hid (Ss wr wz sk A3 c3 wr.heap.size) := by show Ss _ _ _ _ _ _; rw [← hwz]; exact ⟨below1 _ _, heap_alloc_new _ _⟩
      go_wp2_with fail
      obtain ⟨p0, p1, p2, p3⟩ := WZ.out.cells
      have hlz := WZ.out.lt
      have hdn : decide ((0 : Int) < (k : Int)) = decide (0 < k) := by rw [Bool.eq_iff_iff]; simp
      cases b1 : inR 0 sk.producer 1000000000 with
      | false =>
        have Z := Seg.hid (ZF.out (by have hb' := b1; simp only [inR, Bool.and_eq_false_iff, decide_eq_false_iff_not] at hb' ⊢; left; omega))
        have KP := Seg.hid b1
        clear b1
        go_wp2_with fail
        go_quiet (first | (go_at_call_of 10 (Value.int IntKind.i64 sk.producer); refine Calls.quiet_of_same (InB.l1In_q _ _ _ _ KP.out _)))
        go_wp2
        go_ret
        exact NO.out _ Z.out (chain HR.out.2.2 (chain WZ.out.bel ((Qt.refl wz).drewN _ |>.bel _)))
      | true =>
      have r1 := inR_true b1
      have KP := Seg.hid b1
      clear b1
      by_cases hk0 : k = 0
      · have hgd : decide ((0 : Int) < (k : Int)) = false := decide_eq_false (by omega)
        have hgd2 : decide (0 < k) = false := decide_eq_false (by omega)
        have KPK : Hid (inR pk sk.producer 1000000000 = true) := by show _ = _; rw [P0.out hk0]; exact KP.out
        clear hk0 P0 PV hdn
        cases b2 : inR 0 sk.turn 1000 with
        | false =>
          have Z := Seg.hid (ZF.out (by simp [snOk, front, b2]))
          have KT := Seg.hid b2
          clear b2
          go_wp2_with fail
          go_quiet (first | (go_at_call_of 10 (Value.int IntKind.i64 sk.producer); refine Calls.quiet_of_same (InB.l1In_q _ _ _ _ KP.out _)) | (go_at_call_of 10 (Value.int IntKind.i64 sk.turn); refine Calls.quiet_of_same (InB.l1In_q _ _ _ _ KT.out _)))
          go_wp2
          go_ret
          exact NO.out _ Z.out (chain HR.out.2.2 (chain WZ.out.bel ((Qt.refl wz).drewN _ |>.bel _)))
        | true =>
        have KT := Seg.hid b2
        clear b2
        cases b3 : inR 0 sk.next 1000000001 with
        | false =>
          have Z := Seg.hid (ZF.out (by simp [snOk, front, b3]))
          have KN := Seg.hid b3
          clear b3
          go_wp2_with fail
          go_quiet (first | (go_at_call_of 10 (Value.int IntKind.i64 sk.producer); refine Calls.quiet_of_same (InB.l1In_q _ _ _ _ KP.out _)) | (go_at_call_of 10 (Value.int IntKind.i64 sk.turn); refine Calls.quiet_of_same (InB.l1In_q _ _ _ _ KT.out _)) | (go_at_call_of 10 (Value.int IntKind.i64 sk.next); refine Calls.quiet_of_same (InB.l1In_q _ _ _ _ KN.out _)))
          go_wp2
          go_ret
          exact NO.out _ Z.out (chain HR.out.2.2 (chain WZ.out.bel ((Qt.refl wz).drewN _ |>.bel _)))
        | true =>
        have KN := Seg.hid b3
        clear b3
        by_cases h5 : sk.recent.length ≤ 5
        case neg =>
          have Z := Seg.hid (ZF.out (by simp [snOk, front, h5]))
          go_wp2_with fail
          go_quiet (first | (go_at_call_of 10 (Value.int IntKind.i64 sk.producer); refine Calls.quiet_of_same (InB.l1In_q _ _ _ _ KP.out _)) | (go_at_call_of 10 (Value.int IntKind.i64 sk.turn); refine Calls.quiet_of_same (InB.l1In_q _ _ _ _ KT.out _)) | (go_at_call_of 10 (Value.int IntKind.i64 sk.next); refine Calls.quiet_of_same (InB.l1In_q _ _ _ _ KN.out _)))
          go_wp2
          go_ret
          exact NO.out _ Z.out (chain HR.out.2.2 (chain WZ.out.bel ((Qt.refl wz).drewN _ |>.bel _)))
        have h5b : decide (5 < (sk.recent.length : Int)) = false := decide_eq_false (by omega)
        have KS : Hid (link sk.next sk.recent = true → tabs (sk.producer + 1) (l.drop (k + 1)) = table l) := fun h => by rw [← HD'.out]; simp [tabs, KPK.out, snOk, front, KT.out, KN.out, h5, h]
        have KF : Hid (link sk.next sk.recent = false → table l = false) := fun h => by rw [← HD'.out]; simp [tabs, snOk, h]
        go_wp2_with fail
        go_quiet (first | (go_at_call_of 10 (Value.int IntKind.i64 sk.producer); refine Calls.quiet_of_same (InB.l1In_q _ _ _ _ KP.out _)) | (go_at_call_of 10 (Value.int IntKind.i64 sk.turn); refine Calls.quiet_of_same (InB.l1In_q _ _ _ _ KT.out _)) | (go_at_call_of 10 (Value.int IntKind.i64 sk.next); refine Calls.quiet_of_same (InB.l1In_q _ _ _ _ KN.out _)))
        go_wp2_with fail
        clear p0 p1 p2 p3 d0 d1 d2 d3
        obtain ⟨wo, hwo⟩ : ∃ wo, wo = wr := ⟨wr, rfl⟩
        subst hwo
        go_loopw [5] (fun i wr => ∃ (j : Nat), j ≤ sk.recent.length ∧ i = .int .i64 j ∧ Hid (link sk.next (sk.recent.drop j) = link sk.next sk.recent ∧ Ss wo wr sk A3 c3 wo.heap.size)) (fun i _ => sk.recent.length - (intOf i).toNat)
        case atStart => exact ⟨0, Nat.zero_le _, rfl, rfl, WZ.out.next ((Qt.refl wz).drewN _ |>.bel _)⟩
        case round =>
          obtain ⟨j, hj, rfl, HQ⟩ := hrel
          obtain ⟨p0, p1, p2, p3⟩ := HQ.out.2.cells
          have hlt1 := HQ.out.2.lt
          by_cases hlt2 : j < sk.recent.length
          · obtain ⟨ea3, hc3, hga3⟩ := HO.out.addr.resolve_left (by omega)
            have OL := HO.out.later keepsRct (fun g hg => Nat.lt_of_lt_of_le (hS g hg) HR.out.2.2.size) HQ.out.2.bel
            obtain ⟨c0, c1, c2⟩ := rct_cells (i := j) (fun q hq => OL.cells j hlt2 q hq) (OL.el j hlt2)
            have CN : Hid (j + 1 < sk.recent.length → wr.cell? ⟨g3, o3 + (j + 1) * 3, none⟩ = some (.int .i64 (sk.recent.getD (j + 1) default).seq)) := fun h => (rct_cells (i := j + 1) (fun q hq => OL.cells (j + 1) h q hq) (OL.el (j + 1) h)).1
            have i0 : (0 : Int) ≤ (j : Int) := by omega
            have i1 : (j : Int) < (sk.recent.length : Int) := by omega
            have hgr3 : g3 < wr.heap.size := by omega
            have HE := HQ.out.1
            rw [drop_cons hlt2] at HE
            have HE' := Seg.hid HE
            clear HE OL
            generalize sk.recent.getD j default = rk at *
            subst ea3
            have ZL : Hid ((okR rk && decide (rk.seq + rk.many = nxt sk.next (sk.recent.drop (j + 1)))) = false → table l = false) := fun hb => KF.out (by rw [← HE'.out]; simp only [link, hb, Bool.false_and])
            have BN : Hid (∀ o : Obj, Below w.heap.size w (wr.alloc o)) := fun o => chain HR.out.2.2 (HQ.out.2.alloc o).bel
            go_wp2_with fail
            cases b4 : inR 0 rk.seq 1000000000 with
            | false =>
              refine (InB.l1In_b _ _ _ false b4 _).mono ?_
              rintro e w1 ⟨rfl, rfl⟩
              have Z := Seg.hid (ZL.out (by simp [okR, b4]))
              clear b4
              go_wp2
              go_ret
              exact NO.out _ Z.out (BN.out _)
            | true =>
            refine (InB.l1In_b _ _ _ true b4 _).mono ?_
            rintro e w1 ⟨rfl, rfl⟩
            have K1 := Seg.hid b4
            have r4 := inR_true b4
            clear b4
            go_wp2_with fail
            cases b5 : inR 1 rk.many 40 with
            | false =>
              refine (InB.l1In_b _ _ _ false b5 _).mono ?_
              rintro e w1 ⟨rfl, rfl⟩
              have Z := Seg.hid (ZL.out (by simp [okR, b5]))
              clear b5
              go_wp2
              go_ret
              exact NO.out _ Z.out (BN.out _)
            | true =>
            refine (InB.l1In_b _ _ _ true b5 _).mono ?_
            rintro e w1 ⟨rfl, rfl⟩
            have K2 := Seg.hid b5
            have r5 := inR_true b5
            clear b5
            go_wp2_with fail
            cases b6 : inR 0 rk.offset 1000000000 with
            | false =>
              refine (InB.l1In_b _ _ _ false b6 _).mono ?_
              rintro e w1 ⟨rfl, rfl⟩
              have Z := Seg.hid (ZL.out (by simp [okR, b6]))
              clear b6
              go_wp2
              go_ret
              exact NO.out _ Z.out (BN.out _)
            | true =>
            refine (InB.l1In_b _ _ _ true b6 _).mono ?_
            rintro e w1 ⟨rfl, rfl⟩
            have KO : Hid (okR rk = true) := by show _ = _; simp [okR, K1.out, K2.out, b6]
            clear b6 K1 K2
            have e1 : IntKind.i64.wrap ((j : Int) + 1) = (j : Int) + 1 := by rw [IntKind.wrap_i64] <;> omega
            have e2 : IntKind.i64.wrap (rk.seq + rk.many) = rk.seq + rk.many := by rw [IntKind.wrap_i64] <;> omega
            by_cases hl2 : j + 1 < sk.recent.length
            · have cn := CN.out hl2
              have i2 : (j : Int) + 1 < (sk.recent.length : Int) := by omega
              have i3 : (0 : Int) ≤ (j : Int) + 1 := by omega
              have NX : Hid (nxt sk.next (sk.recent.drop (j + 1)) = (sk.recent.getD (j + 1) default).seq) := nxt_drop hl2
              generalize sk.recent.getD (j + 1) default = rn at *
              clear CN
              by_cases hq : rk.seq + rk.many = rn.seq
              · have KL : Hid (link sk.next (sk.recent.drop (j + 1)) = link sk.next sk.recent) := by
                  show _ = _
                  rw [← HE'.out]; simp only [link, KO.out, NX.out, hq, decide_true, Bool.true_and]
                have hq2 : (rk.seq + rk.many != rn.seq) = false := by simp [hq]
                clear hq
                go_wp2
                go_roundw
                case rel => exact ⟨j + 1, by omega, by go_num, KL.out, HQ.out.2.alloc _⟩
                case measure => simp [intOf]; omega
              · have Z := Seg.hid (ZL.out (by simp [NX.out, hq]))
                go_wp2
                go_ret
                exact NO.out _ Z.out (BN.out _)
            · have NX : Hid (nxt sk.next (sk.recent.drop (j + 1)) = sk.next) := nxt_end (by omega)
              have i2 : ¬ (j : Int) + 1 < (sk.recent.length : Int) := by omega
              clear CN
              by_cases hq : rk.seq + rk.many = sk.next
              · have KL : Hid (link sk.next (sk.recent.drop (j + 1)) = link sk.next sk.recent) := by
                  show _ = _
                  rw [← HE'.out]; simp only [link, KO.out, NX.out, hq, decide_true, Bool.true_and]
                have hq2 : (rk.seq + rk.many != sk.next) = false := by simp [hq]
                clear hq
                go_wp2
                go_roundw
                case rel => exact ⟨j + 1, by omega, by go_num, KL.out, HQ.out.2.alloc _⟩
                case measure => simp [intOf]; omega
              · have Z := Seg.hid (ZL.out (by simp [NX.out, hq]))
                go_wp2
                go_ret
                exact NO.out _ Z.out (BN.out _)
          · have KL : Hid (tabs (pv l (k + 1)) (l.drop (k + 1)) = table l) := by
              show _ = _
              rw [hpn.out]
              refine KS.out ?_
              rw [← HQ.out.1, List.drop_eq_nil_of_le (by omega)]; rfl
            have KG : Hid (0 ≤ pv l (k + 1)) := by show _ ≤ _; rw [hpn.out]; omega
            go_wp2
            go_roundw
            case rel => exact ⟨k + 1, by omega, by go_num, KL.out, KG.out, chain HR.out.2.2 HQ.out.2.bel⟩
            case measure => simp [intOf]; omega
      · obtain ⟨e0, hpk⟩ := PV.out (by omega)
        have f0 : wz.cell? ⟨g, o + (k - 1) * 4, none⟩ = some (.int .i64 (l.getD (k - 1) default).producer) := by rw [WZ.out.bel.cell (p := ⟨g, o + (k - 1) * 4, none⟩) hgr]; exact e0
        have w1 : IntKind.i64.wrap ((k : Int) - 1) = (k : Int) - 1 := by rw [IntKind.wrap_i64] <;> omega
        have k2 : (0 : Int) ≤ (k : Int) - 1 := by omega
        have k3 : (k : Int) - 1 < (l.length : Int) := by omega
        have k4 : (0 : Int) < (k : Int) := by omega
        have k5 : 0 < k := by omega
        have k6 : (1 : Int) ≤ (k : Int) := by omega
        have k7 : 1 ≤ k := by omega
        clear e0 P0 PV hdn
        generalize l.getD (k - 1) default = sp at *
        have HPK := Seg.hid hpk
        clear hpk
        by_cases hge : sk.producer ≤ sp.producer
        · have Z := Seg.hid (ZF.out (by rw [HPK.out]; simp only [inR, Bool.and_eq_false_iff, decide_eq_false_iff_not]; left; left; omega))
          go_wp2_with fail
          go_quiet (first | (go_at_call_of 10 (Value.int IntKind.i64 sk.producer); refine Calls.quiet_of_same (InB.l1In_q _ _ _ _ KP.out _)))
          go_wp2
          go_ret
          exact NO.out _ Z.out (chain HR.out.2.2 (chain WZ.out.bel ((Qt.refl wz).drewN _ |>.bel _)))
        have KPK : Hid (inR pk sk.producer 1000000000 = true) := by show _ = _; rw [HPK.out]; simp only [inR, Bool.and_eq_true, decide_eq_true_eq]; omega
        have hge2 : decide (sk.producer ≤ sp.producer) = false := decide_eq_false hge
        cases b2 : inR 0 sk.turn 1000 with
        | false =>
          have Z := Seg.hid (ZF.out (by simp [snOk, front, b2]))
          have KT := Seg.hid b2
          clear b2
          go_wp2_with fail
          go_quiet (first | (go_at_call_of 10 (Value.int IntKind.i64 sk.producer); refine Calls.quiet_of_same (InB.l1In_q _ _ _ _ KP.out _)) | (go_at_call_of 10 (Value.int IntKind.i64 sk.turn); refine Calls.quiet_of_same (InB.l1In_q _ _ _ _ KT.out _)))
          go_wp2
          go_ret
          exact NO.out _ Z.out (chain HR.out.2.2 (chain WZ.out.bel ((Qt.refl wz).drewN _ |>.bel _)))
        | true =>
        have KT := Seg.hid b2
        clear b2
        cases b3 : inR 0 sk.next 1000000001 with
        | false =>
          have Z := Seg.hid (ZF.out (by simp [snOk, front, b3]))
          have KN := Seg.hid b3
          clear b3
          go_wp2_with fail
          go_quiet (first | (go_at_call_of 10 (Value.int IntKind.i64 sk.producer); refine Calls.quiet_of_same (InB.l1In_q _ _ _ _ KP.out _)) | (go_at_call_of 10 (Value.int IntKind.i64 sk.turn); refine Calls.quiet_of_same (InB.l1In_q _ _ _ _ KT.out _)) | (go_at_call_of 10 (Value.int IntKind.i64 sk.next); refine Calls.quiet_of_same (InB.l1In_q _ _ _ _ KN.out _)))
          go_wp2
          go_ret
          exact NO.out _ Z.out (chain HR.out.2.2 (chain WZ.out.bel ((Qt.refl wz).drewN _ |>.bel _)))
        | true =>
        have KN := Seg.hid b3
        clear b3
        by_cases h5 : sk.recent.length ≤ 5
        case neg =>
          have Z := Seg.hid (ZF.out (by simp [snOk, front, h5]))
          go_wp2_with fail
          go_quiet (first | (go_at_call_of 10 (Value.int IntKind.i64 sk.producer); refine Calls.quiet_of_same (InB.l1In_q _ _ _ _ KP.out _)) | (go_at_call_of 10 (Value.int IntKind.i64 sk.turn); refine Calls.quiet_of_same (InB.l1In_q _ _ _ _ KT.out _)) | (go_at_call_of 10 (Value.int IntKind.i64 sk.next); refine Calls.quiet_of_same (InB.l1In_q _ _ _ _ KN.out _)))
          go_wp2
          go_ret
          exact NO.out _ Z.out (chain HR.out.2.2 (chain WZ.out.bel ((Qt.refl wz).drewN _ |>.bel _)))
        have h5b : decide (5 < (sk.recent.length : Int)) = false := decide_eq_false (by omega)
        have KS : Hid (link sk.next sk.recent = true → tabs (sk.producer + 1) (l.drop (k + 1)) = table l) := fun h => by rw [← HD'.out]; simp [tabs, KPK.out, snOk, front, KT.out, KN.out, h5, h]
        have KF : Hid (link sk.next sk.recent = false → table l = false) := fun h => by rw [← HD'.out]; simp [tabs, snOk, h]
        go_wp2_with fail
        go_quiet (first | (go_at_call_of 10 (Value.int IntKind.i64 sk.producer); refine Calls.quiet_of_same (InB.l1In_q _ _ _ _ KP.out _)) | (go_at_call_of 10 (Value.int IntKind.i64 sk.turn); refine Calls.quiet_of_same (InB.l1In_q _ _ _ _ KT.out _)) | (go_at_call_of 10 (Value.int IntKind.i64 sk.next); refine Calls.quiet_of_same (InB.l1In_q _ _ _ _ KN.out _)))
        go_wp2_with fail
        clear p0 p1 p2 p3 d0 d1 d2 d3
        obtain ⟨wo, hwo⟩ : ∃ wo, wo = wr := ⟨wr, rfl⟩
        subst hwo
        go_loopw [5] (fun i wr => ∃ (j : Nat), j ≤ sk.recent.length ∧ i = .int .i64 j ∧ Hid (link sk.next (sk.recent.drop j) = link sk.next sk.recent ∧ Ss wo wr sk A3 c3 wo.heap.size)) (fun i _ => sk.recent.length - (intOf i).toNat)
        case atStart => exact ⟨0, Nat.zero_le _, rfl, rfl, WZ.out.next ((Qt.refl wz).drewN _ |>.bel _)⟩
        case round =>
          obtain ⟨j, hj, rfl, HQ⟩ := hrel
          obtain ⟨p0, p1, p2, p3⟩ := HQ.out.2.cells
          have hlt1 := HQ.out.2.lt
          by_cases hlt2 : j < sk.recent.length
          · obtain ⟨ea3, hc3, hga3⟩ := HO.out.addr.resolve_left (by omega)
            have OL := HO.out.later keepsRct (fun g hg => Nat.lt_of_lt_of_le (hS g hg) HR.out.2.2.size) HQ.out.2.bel
            obtain ⟨c0, c1, c2⟩ := rct_cells (i := j) (fun q hq => OL.cells j hlt2 q hq) (OL.el j hlt2)
            have CN : Hid (j + 1 < sk.recent.length → wr.cell? ⟨g3, o3 + (j + 1) * 3, none⟩ = some (.int .i64 (sk.recent.getD (j + 1) default).seq)) := fun h => (rct_cells (i := j + 1) (fun q hq => OL.cells (j + 1) h q hq) (OL.el (j + 1) h)).1
            have i0 : (0 : Int) ≤ (j : Int) := by omega
            have i1 : (j : Int) < (sk.recent.length : Int) := by omega
            have hgr3 : g3 < wr.heap.size := by omega
            have HE := HQ.out.1
            rw [drop_cons hlt2] at HE
            have HE' := Seg.hid HE
            clear HE OL
            generalize sk.recent.getD j default = rk at *
            subst ea3
            have ZL : Hid ((okR rk && decide (rk.seq + rk.many = nxt sk.next (sk.recent.drop (j + 1)))) = false → table l = false) := fun hb => KF.out (by rw [← HE'.out]; simp only [link, hb, Bool.false_and])
            have BN : Hid (∀ o : Obj, Below w.heap.size w (wr.alloc o)) := fun o => chain HR.out.2.2 (HQ.out.2.alloc o).bel
            go_wp2_with fail
            cases b4 : inR 0 rk.seq 1000000000 with
            | false =>
              refine (InB.l1In_b _ _ _ false b4 _).mono ?_
              rintro e w1 ⟨rfl, rfl⟩
              have Z := Seg.hid (ZL.out (by simp [okR, b4]))
              clear b4
              go_wp2
              go_ret
              exact NO.out _ Z.out (BN.out _)
            | true =>
            refine (InB.l1In_b _ _ _ true b4 _).mono ?_
            rintro e w1 ⟨rfl, rfl⟩
            have K1 := Seg.hid b4
            have r4 := inR_true b4
            clear b4
            go_wp2_with fail
            cases b5 : inR 1 rk.many 40 with
            | false =>
              refine (InB.l1In_b _ _ _ false b5 _).mono ?_
              rintro e w1 ⟨rfl, rfl⟩
              have Z := Seg.hid (ZL.out (by simp [okR, b5]))
              clear b5
              go_wp2
              go_ret
              exact NO.out _ Z.out (BN.out _)
            | true =>
            refine (InB.l1In_b _ _ _ true b5 _).mono ?_
            rintro e w1 ⟨rfl, rfl⟩
            have K2 := Seg.hid b5
            have r5 := inR_true b5
            clear b5
            go_wp2_with fail
            cases b6 : inR 0 rk.offset 1000000000 with
            | false =>
              refine (InB.l1In_b _ _ _ false b6 _).mono ?_
              rintro e w1 ⟨rfl, rfl⟩
              have Z := Seg.hid (ZL.out (by simp [okR, b6]))
              clear b6
              go_wp2
              go_ret
              exact NO.out _ Z.out (BN.out _)
            | true =>
            refine (InB.l1In_b _ _ _ true b6 _).mono ?_
            rintro e w1 ⟨rfl, rfl⟩
            have KO : Hid (okR rk = true) := by show _ = _; simp [okR, K1.out, K2.out, b6]
            clear b6 K1 K2
            have e1 : IntKind.i64.wrap ((j : Int) + 1) = (j : Int) + 1 := by rw [IntKind.wrap_i64] <;> omega
            have e2 : IntKind.i64.wrap (rk.seq + rk.many) = rk.seq + rk.many := by rw [IntKind.wrap_i64] <;> omega
            by_cases hl2 : j + 1 < sk.recent.length
            · have cn := CN.out hl2
              have i2 : (j : Int) + 1 < (sk.recent.length : Int) := by omega
              have i3 : (0 : Int) ≤ (j : Int) + 1 := by omega
              have NX : Hid (nxt sk.next (sk.recent.drop (j + 1)) = (sk.recent.getD (j + 1) default).seq) := nxt_drop hl2
              generalize sk.recent.getD (j + 1) default = rn at *
              clear CN
              by_cases hq : rk.seq + rk.many = rn.seq
              · have KL : Hid (link sk.next (sk.recent.drop (j + 1)) = link sk.next sk.recent) := by
                  show _ = _
                  rw [← HE'.out]; simp only [link, KO.out, NX.out, hq, decide_true, Bool.true_and]
                have hq2 : (rk.seq + rk.many != rn.seq) = false := by simp [hq]
                clear hq
                go_wp2
                go_roundw
                case rel => exact ⟨j + 1, by omega, by go_num, KL.out, HQ.out.2.alloc _⟩
                case measure => simp [intOf]; omega
              · have Z := Seg.hid (ZL.out (by simp [NX.out, hq]))
                go_wp2
                go_ret
                exact NO.out _ Z.out (BN.out _)
            · have NX : Hid (nxt sk.next (sk.recent.drop (j + 1)) = sk.next) := nxt_end (by omega)
              have i2 : ¬ (j : Int) + 1 < (sk.recent.length : Int) := by omega
              clear CN
              by_cases hq : rk.seq + rk.many = sk.next
              · have KL : Hid (link sk.next (sk.recent.drop (j + 1)) = link sk.next sk.recent) := by
                  show _ = _
                  rw [← HE'.out]; simp only [link, KO.out, NX.out, hq, decide_true, Bool.true_and]
                have hq2 : (rk.seq + rk.many != sk.next) = false := by simp [hq]
                clear hq
                go_wp2
                go_roundw
                case rel => exact ⟨j + 1, by omega, by go_num, KL.out, HQ.out.2.alloc _⟩
                case measure => simp [intOf]; omega
              · have Z := Seg.hid (ZL.out (by simp [NX.out, hq]))
                go_wp2
                go_ret
                exact NO.out _ Z.out (BN.out _)
          · have KL : Hid (tabs (pv l (k + 1)) (l.drop (k + 1)) = table l) := by
              show _ = _
              rw [hpn.out]
              refine KS.out ?_
              rw [← HQ.out.1, List.drop_eq_nil_of_le (by omega)]; rfl
            have KG : Hid (0 ≤ pv l (k + 1)) := by show _ ≤ _; rw [hpn.out]; omega
            go_wp2
            go_roundw
            case rel => exact ⟨k + 1, by omega, by go_num, KL.out, KG.out, chain HR.out.2.2 HQ.out.2.bel⟩
            case measure => simp [intOf]; omega
    · have HE := HR.out.1
      rw [List.drop_eq_nil_of_le (by omega)] at HE
      have HE' := Seg.hid HE
      clear HE
      go_wp2
      go_ret
      exact ⟨Seg.ret_bool HE'.out, HR.out.2.2⟩
end Go.Proofs.Ytjdhpampfnilaaa.TbS
