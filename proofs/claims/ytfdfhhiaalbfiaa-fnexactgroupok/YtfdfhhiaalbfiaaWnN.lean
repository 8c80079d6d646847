/- Names of the model. -/
import Derived.Test.YtfdfhhiaalbfiaaWnA
import Derived.Test.YtfdfhhiaalbfiaaInQ
import Derived.Test.YtfdfhhiaalbfiaaNmQ
namespace Go.Proofs.Ytfdfhhiaalbfiaa.WnN
set_option maxRecDepth 8000
open Go.RowKit
open Ls Lp WnP
open TpP (sl aheadO)
open Recs (hsz below1 below2 chain)
set_option linter.unusedVariables false
set_option maxHeartbeats 3200000 in
theorem names_any (x : Value) (l : List ByteArray) (w : World) (S : Nat → Prop) (hv : StrsAt w S x l) (hS : ∀ g, S g → g < w.heap.size) (hf : szL ByteArray.size l ≤ 1048576) :
    Calls Try.prog 35 #[x] w fun e w' => e = .returned (.bool (names l)) ∧ Below w.heap.size w w' := by
  obtain ⟨A, c, g, o, F, rfl, OA, n3⟩ := opn hv hS
  have HA := Seg.hid OA
  have IC : Hid (∀ i, i < l.length → w.cell? ⟨g, o + i, none⟩ = some (.string (l.getD i default))) := str_cell OA.cells OA.el
  have hn : l.length ≤ 1048576 := szL_len _ hf
  have HL : Hid (∀ i, i < l.length → (l.getD i default).size ≤ maxLen) := fun i hi => by
    have := szL_one _ hf hi
    unfold maxLen
    omega
  clear hv OA hf n3
  go_enter Try.func35, Try.ntmps35
  by_cases h1 : l.length ≤ 20
  case neg =>
    have Z : Hid (names l = false) := by show _ = _; simp [names, h1]
    go_wp2
    go_ret
    exact ⟨Seg.ret_bool Z.out.symm, Below.refl _ _⟩
  have KS : Hid (names l = nmg none l) := by show _ = _; simp [names, h1]
  have no : ∀ (w' : World), names l = false → Below w.heap.size w w' → (Ending.returned (.bool false) = .returned (.bool (names l)) ∧ Below w.heap.size w w') := fun w' h b => ⟨by rw [h], b⟩
  have NO := Seg.hid no
  clear no
  go_wp2_with fail
  go_loopw [3] (fun i wr => ∃ (k : Nat), k ≤ l.length ∧ i = .int .i64 k ∧ Hid (nmg (pvs l k) (l.drop k) = names l ∧ Below w.heap.size w wr)) (fun i _ => l.length - (intOf i).toNat)
  case atStart => exact ⟨0, Nat.zero_le _, rfl, KS.out.symm, Below.refl _ _⟩
  case round =>
    clear KS
    obtain ⟨k, hk, rfl, HR⟩ := hrel
    by_cases hlt : k < l.length
    · obtain ⟨ea, hc, hga⟩ := HA.out.addr.resolve_left (by omega)
      have IW : ∀ i, i < l.length → wr.cell? ⟨g, o + i, none⟩ = some (.string (l.getD i default)) := fun i hi => by rw [HR.out.2.cell (p := ⟨g, o + i, none⟩) hga]; exact IC.out i hi
      have d0 := IW k hlt
      have PV : Hid (0 < k → wr.cell? ⟨g, o + (k - 1), none⟩ = some (.string (l.getD (k - 1) default)) ∧ pvs l k = some (l.getD (k - 1) default)) := fun h => ⟨IW (k - 1) (by omega), pvs_pos l h⟩
      have P0 : Hid (k = 0 → pvs l k = none) := fun h => by rw [h]; exact pvs_zero l
      have h0 : (0 : Int) ≤ (k : Int) := by omega
      have h1' : (k : Int) < (l.length : Int) := by omega
      have hgr : g < wr.heap.size := Nat.lt_of_lt_of_le hga HR.out.2.size
      have hpn := Seg.hid (pvs_next l k)
      have NS := HL.out k hlt
      have HD := HR.out.1
      rw [drop_cons hlt] at HD
      have HD' := Seg.hid HD
      clear HD IW
      generalize l.getD k default = tk at *
      generalize pvs l k = pk at *
      subst ea
      have ZF : Hid ((Nm.nameOk tk && aheadO pk tk) = false → names l = false) := fun hb => by rw [← HD'.out]; simp only [nmg, hb, Bool.false_and]
      have ZT : Hid ((Nm.nameOk tk && aheadO pk tk) = true → nmg (pvs l (k + 1)) (l.drop (k + 1)) = names l) := fun hb => by rw [hpn.out, ← HD'.out]; simp only [nmg, hb, Bool.true_and]
      cases b1 : Nm.nameOk tk with
      | false =>
        have Z := Seg.hid (ZF.out (by simp [b1]))
        have KN := Seg.hid b1
        clear b1
        go_wp2_with fail
        go_quiet (first | (go_at_call 34; refine Calls.quiet_of_same (Nm.spec_q _ _ KN.out _ NS)))
        go_wp2
        go_ret
        exact NO.out _ Z.out (chain HR.out.2 ((Qt.refl _).drewN _ |>.bel _))
      | true =>
      have KN := Seg.hid b1
      clear b1
      by_cases hk0 : k = 0
      · have hgd : decide ((0 : Int) < (k : Int)) = false := decide_eq_false (by omega)
        have hgd2 : decide (0 < k) = false := decide_eq_false (by omega)
        have hgd3 : ¬ 0 < k := by omega
        have ZY := Seg.hid (ZT.out (by rw [P0.out hk0]; simp [KN.out, aheadO]))
        clear hk0 P0 PV
        go_wp2_with fail
        go_quiet (first | (go_at_call 34; refine Calls.quiet_of_same (Nm.spec_q _ _ KN.out _ NS)))
        go_wp2
        go_roundw
        case rel => exact ⟨k + 1, by omega, by go_num, ZY.out, chain HR.out.2 ((Qt.refl _).drewN _ |>.bel _)⟩
        case measure => simp [intOf]; omega
      · obtain ⟨e0, hpk⟩ := PV.out (by omega)
        have w1 : IntKind.i64.wrap ((k : Int) - 1) = (k : Int) - 1 := by rw [IntKind.wrap_i64] <;> omega
        have k2 : (0 : Int) ≤ (k : Int) - 1 := by omega
        have k3 : (k : Int) - 1 < (l.length : Int) := by omega
        have k4 : (0 : Int) < (k : Int) := by omega
        have k5 : 0 < k := by omega
        have k6 : (1 : Int) ≤ (k : Int) := by omega
        have k7 : 1 ≤ k := by omega
        clear P0 PV
        generalize l.getD (k - 1) default = pn at *
        have HPK := Seg.hid hpk
        clear hpk
        cases hge : Go.Op.bytesLess pn.toList tk.toList with
        | false =>
          have Z := Seg.hid (ZF.out (by rw [HPK.out]; simp [aheadO, sl, hge]))
          go_wp2_with fail
          go_quiet (first | (go_at_call 34; refine Calls.quiet_of_same (Nm.spec_q _ _ KN.out _ NS)))
          go_wp2
          go_ret
          exact NO.out _ Z.out (chain HR.out.2 ((Qt.refl _).drewN _ |>.bel _))
        | true =>
          have ZY := Seg.hid (ZT.out (by rw [HPK.out]; simp [KN.out, aheadO, sl, hge]))
          go_wp2_with fail
          go_quiet (first | (go_at_call 34; refine Calls.quiet_of_same (Nm.spec_q _ _ KN.out _ NS)))
          go_wp2
          go_roundw
          case rel => exact ⟨k + 1, by omega, by go_num, ZY.out, chain HR.out.2 ((Qt.refl _).drewN _ |>.bel _)⟩
          case measure => simp [intOf]; omega
    · have HE := HR.out.1
      rw [List.drop_eq_nil_of_le (by omega)] at HE
      have HE' := Seg.hid HE
      clear HE
      go_wp2
      go_ret
      exact ⟨Seg.ret_bool HE'.out, HR.out.2⟩
end Go.Proofs.Ytfdfhhiaalbfiaa.WnN
