/- TopicsOk of the model. -/
import Derived.Test.YtfdfhhiaalbfiaaTpP
import Derived.Test.YtfdfhhiaalbfiaaInQ
import Derived.Test.YtfdfhhiaalbfiaaNmQ
namespace Go.Proofs.Ytfdfhhiaalbfiaa.TpS
set_option maxRecDepth 8000
open Go.RowKit
open Ls Lp TpP
open Recs (hsz below1 below2 chain)
set_option linter.unusedVariables false
set_option maxHeartbeats 3200000 in
theorem spec_any (x : Value) (l : List Tpc) (w : World) (S : Nat → Prop) (hv : LAt 2 ETpc w S x l) (hS : ∀ g, S g → g < w.heap.size) (hf : szL szTpc l ≤ 1048576) :
    Calls Try.prog 33 #[x] w fun e w' => e = .returned (.bool (topics l)) ∧ Below w.heap.size w w' := by
  obtain ⟨A, c, g, o, F, rfl, OA, n3⟩ := opn hv hS
  have HA := Seg.hid OA
  have hn : l.length ≤ 1048576 := szL_len _ hf
  have HL : Hid (∀ i, i < l.length → (l.getD i default).name.size ≤ maxLen) := fun i hi => by
    have := szL_one _ hf hi
    unfold szTpc at this
    unfold maxLen
    omega
  clear hv OA hf n3
  go_enter Try.func33, Try.ntmps33
  by_cases h1 : l.length ≤ 20
  case neg =>
    have Z : Hid (topics l = false) := by show _ = _; simp [topics, h1]
    go_wp2
    go_ret
    exact ⟨Seg.ret_bool Z.out.symm, Below.refl _ _⟩
  have KS : Hid (topics l = (tpg none l && decide (sumP l ≤ 400))) := by show _ = _; simp [topics, h1]
  have no : ∀ (w' : World), topics l = false → Below w.heap.size w w' → (Ending.returned (.bool false) = .returned (.bool (topics l)) ∧ Below w.heap.size w w') := fun w' h b => ⟨by rw [h], b⟩
  have NO := Seg.hid no
  clear no
  go_wp2_with fail
  go_loopw [3, 4] (fun a i wr => ∃ (k : Nat) (s : Int), k ≤ l.length ∧ a = .int .i64 s ∧ i = .int .i64 k ∧ 0 ≤ s ∧ s ≤ 50 * k ∧ Hid (tpg (pvn l k) (l.drop k) = tpg none l ∧ s = sumP (l.take k) ∧ Below w.heap.size w wr)) (fun _ i _ => l.length - (intOf i).toNat)
  case atStart => exact ⟨0, 0, Nat.zero_le _, rfl, rfl, by omega, by omega, rfl, rfl, Below.refl _ _⟩
  case round =>
    obtain ⟨k, s, hk, rfl, rfl, hs0, hs1, HR⟩ := hrel
    by_cases hlt : k < l.length
    · obtain ⟨ea, hc, hga⟩ := HA.out.addr.resolve_left (by omega)
      have hb := HR.out.2.2
      have OL := HA.out.later keepsTpc hS hb
      obtain ⟨d0, d1⟩ := tpc_cells (i := k) (fun j hj => OL.cells k hlt j hj) (OL.el k hlt)
      have PV : Hid (0 < k → wr.cell? ⟨g, o + (k - 1) * 2, none⟩ = some (.string (l.getD (k - 1) default).name) ∧ pvn l k = some (l.getD (k - 1) default).name) := fun h => ⟨(tpc_cells (i := k - 1) (fun j hj => OL.cells (k - 1) (by omega) j hj) (OL.el (k - 1) (by omega))).1, by simp only [pvn]; rw [if_neg (by omega)]⟩
      have P0 : Hid (k = 0 → pvn l k = none) := fun h => by simp [pvn, h]
      have h0 : (0 : Int) ≤ (k : Int) := by omega
      have h1' : (k : Int) < (l.length : Int) := by omega
      have hgr : g < wr.heap.size := Nat.lt_of_lt_of_le hga hb.size
      have hpn := Seg.hid (pvn_next l k)
      have NS := HL.out k hlt
      have ST : Hid (sumP (l.take (k + 1)) = s + (l.getD k default).parts) := by show _ = _; rw [sum_take hlt, HR.out.2.1]
      have HD := HR.out.1
      rw [drop_cons hlt] at HD
      have HD' := Seg.hid HD
      clear HD OL hb
      generalize l.getD k default = tk at *
      generalize pvn l k = pk at *
      subst ea
      have ZF : Hid ((okT tk && aheadO pk tk.name) = false → topics l = false) := fun hb => by rw [KS.out, ← HD'.out]; simp only [tpg, hb, Bool.false_and]
      have ZT : Hid ((okT tk && aheadO pk tk.name) = true → tpg (pvn l (k + 1)) (l.drop (k + 1)) = tpg none l) := fun hb => by rw [hpn.out, ← HD'.out]; simp only [tpg, hb, Bool.true_and]
      obtain ⟨wz, hwz⟩ : ∃ wz, wr.alloc (.cells #[.string tk.name, .int .i64 tk.parts] 114 (0, 0)) = wz := ⟨_, rfl⟩
      have RZ : Hid (wz.heap[wr.heap.size]? = some (.cells #[.string tk.name, .int .i64 tk.parts] 114 (0, 0))) := by show _ = _; rw [← hwz]; exact heap_alloc_new _ _
      have BI : Hid (Below w.heap.size w wz) := by show Below _ _ _; rw [← hwz]; exact chain HR.out.2.2 (below1 wr _)
      have CZ : Hid (∀ q, wr.cell? ⟨g, q, none⟩ = wz.cell? ⟨g, q, none⟩) := fun q => by rw [← hwz]; exact ((below1 wr _).cell (p := ⟨g, q, none⟩) hgr).symm
      have hlz : wr.heap.size < wz.heap.size := (Array.getElem?_eq_some_iff.1 RZ.out).1
      clear HR
      go_upto_region 8 with fail
      try rw [hwz]
      clear hwz d0 d1
      have p0 : wz.cell? ⟨wr.heap.size, 0, none⟩ = some (.string tk.name) := cell_of_row wz _ 0 _ _ (0, 0) RZ.out
      have p1 : wz.cell? ⟨wr.heap.size, 1, none⟩ = some (.int .i64 tk.parts) := cell_of_row wz _ 1 _ _ (0, 0) RZ.out
      cases b1 : Nm.nameOk tk.name with
      | false =>
        have Z := Seg.hid (ZF.out (by simp [okT, b1]))
        have KN := Seg.hid b1
        clear b1
        go_wp2_with fail
        go_quiet (first | (go_at_call 34; refine Calls.quiet_of_same (Nm.spec_q _ _ KN.out _ NS)))
        go_wp2
        go_ret
        exact NO.out _ Z.out (chain BI.out ((Qt.refl _).drewN _ |>.bel _))
      | true =>
      have KN := Seg.hid b1
      clear b1
      cases b2 : inR 0 tk.parts 50 with
      | false =>
        have Z := Seg.hid (ZF.out (by simp [okT, b2]))
        have KP := Seg.hid b2
        clear b2
        go_wp2_with fail
        go_quiet (first | (go_at_call 34; refine Calls.quiet_of_same (Nm.spec_q _ _ KN.out _ NS)) | (go_at_call 32; refine Calls.quiet_of_same (InB.l1In_q _ _ _ _ KP.out _)))
        go_wp2
        go_ret
        exact NO.out _ Z.out (chain BI.out ((Qt.refl _).drewN _ |>.bel _))
      | true =>
      have KP := Seg.hid b2
      have HB := Seg.hid (inR_true b2)
      have hb1 : 0 ≤ tk.parts := HB.out.1
      have hb2 : tk.parts ≤ 50 := HB.out.2
      clear b2
      by_cases hk0 : k = 0
      · have hgd : decide ((0 : Int) < (k : Int)) = false := decide_eq_false (by omega)
        have hgd2 : decide (0 < k) = false := decide_eq_false (by omega)
        have hgd3 : ¬ 0 < k := by omega
        have ZY := Seg.hid (ZT.out (by rw [P0.out hk0]; simp [okT, KN.out, KP.out, aheadO]))
        clear hk0 P0 PV
        go_wp2_with fail
        go_quiet (first | (go_at_call 34; refine Calls.quiet_of_same (Nm.spec_q _ _ KN.out _ NS)) | (go_at_call 32; refine Calls.quiet_of_same (InB.l1In_q _ _ _ _ KP.out _)))
        go_wp2
        go_roundw
        case rel => exact ⟨k + 1, sumP (l.take (k + 1)), by omega, by rw [ST.out], by go_num, by rw [ST.out]; have := HB.out; omega, by rw [ST.out]; have := HB.out; omega, ZY.out, rfl, chain BI.out ((Qt.refl _).drewN _ |>.bel _)⟩
        case measure => simp [intOf]; omega
      · obtain ⟨e0, hpk⟩ := PV.out (by omega)
        have f0 : wz.cell? ⟨g, o + (k - 1) * 2, none⟩ = some (.string (l.getD (k - 1) default).name) := by rw [← CZ.out]; exact e0
        have w1 : IntKind.i64.wrap ((k : Int) - 1) = (k : Int) - 1 := by rw [IntKind.wrap_i64] <;> omega
        have k2 : (0 : Int) ≤ (k : Int) - 1 := by omega
        have k3 : (k : Int) - 1 < (l.length : Int) := by omega
        have k4 : (0 : Int) < (k : Int) := by omega
        have k5 : 0 < k := by omega
        have k6 : (1 : Int) ≤ (k : Int) := by omega
        have k7 : 1 ≤ k := by omega
        clear e0 P0 PV
        generalize (l.getD (k - 1) default).name = pn at *
        have HPK := Seg.hid hpk
        clear hpk
        cases hge : Go.Op.bytesLess pn.toList tk.name.toList with
        | false =>
          have Z := Seg.hid (ZF.out (by rw [HPK.out]; simp [aheadO, sl, hge]))
          go_wp2_with fail
          go_quiet (first | (go_at_call 34; refine Calls.quiet_of_same (Nm.spec_q _ _ KN.out _ NS)) | (go_at_call 32; refine Calls.quiet_of_same (InB.l1In_q _ _ _ _ KP.out _)))
          go_wp2
          go_ret
          exact NO.out _ Z.out (chain BI.out ((Qt.refl _).drewN _ |>.bel _))
        | true =>
          have ZY := Seg.hid (ZT.out (by rw [HPK.out]; simp [okT, KN.out, KP.out, aheadO, sl, hge]))
          go_wp2_with fail
          go_quiet (first | (go_at_call 34; refine Calls.quiet_of_same (Nm.spec_q _ _ KN.out _ NS)) | (go_at_call 32; refine Calls.quiet_of_same (InB.l1In_q _ _ _ _ KP.out _)))
          go_wp2
          go_roundw
          case rel => exact ⟨k + 1, sumP (l.take (k + 1)), by omega, by rw [ST.out], by go_num, by rw [ST.out]; have := HB.out; omega, by rw [ST.out]; have := HB.out; omega, ZY.out, rfl, chain BI.out ((Qt.refl _).drewN _ |>.bel _)⟩
          case measure => simp [intOf]; omega
    · have Z : Hid (topics l = decide (s ≤ 400)) := by
        show _ = _
        have h2 := HR.out.1
        rw [List.drop_eq_nil_of_le (by omega)] at h2
        rw [KS.out, ← h2, HR.out.2.1, List.take_of_length_le (by omega)]
        simp [tpg]
      go_wp2
      go_ret
      exact ⟨Seg.ret_bool (by rw [Z.out]), HR.out.2.2⟩
end Go.Proofs.Ytfdfhhiaalbfiaa.TpS
