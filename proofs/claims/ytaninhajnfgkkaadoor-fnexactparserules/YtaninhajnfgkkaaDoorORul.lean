/- Lists of Rule of the call's own; the law's marks on them. -/
import Derived.Test.YtaninhajnfgkkaaDoorMkT
import Derived.Test.YtaninhajnfgkkaaDoorTRuls
namespace Go.Proofs.YtaninhajnfgkkaaDoor.Ow
set_option maxRecDepth 8000
open Go.RowKit
open Recs
open Ls
set_option linter.unusedVariables false
def EORul : Elt Rul := ERul
theorem keepsORul : KeepsO 6 EORul := keepsO_of keepsRul
theorem atORul (w : World) (S : Nat → Prop) (f : Nat → Value) (u : Rul) (h : EORul w S f u) : ERul w S f u := h
abbrev RulsOwn := LOwn 33 6 EORul
def mRul (k : Nat) (u : Rul) : Rul := ⟨((((k + 0) : Nat) : Int) % 3 == 0), mt (k + 1), (((k + 2) : Nat) : Int), (((k + 3) : Nat) : Int), mt (k + 4), ((((k + 5) : Nat) : Int) % 3 == 0)⟩
def nRul (u : Rul) : Nat := 6
theorem markRuleS_none (A : Option Addr) (c : Nat) (k : Int) (w : World) : Calls Tryd.prog 7 #[.slice A 0 c, .int .i64 k] w fun e w' => e = .returned (.int .i64 k) ∧ w = w' := by
  go_enter Tryd.func7, Tryd.ntmps7
  go_wp2
  go_loop [1, 5] (fun x i => i = .int .i64 0 ∧ x = .int .i64 k) (fun _ _ => 0)
  case atStart => exact ⟨rfl, rfl⟩
  case round =>
    obtain ⟨rfl, rfl⟩ := hrel
    go_wp2
    go_ret
    exact ⟨rfl, rfl⟩
set_option maxHeartbeats 3200000 in
theorem markRuleS_core (g n c k : Nat) (S : Nat → Prop) (P : Nat → Nat → Prop) (F0 : Nat → Value) (us : List Rul) (w : World) (hn : n ≤ 1048576) (hk : 0 < k) (hk1 : k + tot nRul us ≤ 4000000000000000000) (hSg : S g) (hSP : ∀ i, i < n → ∀ y, P i y → S y) (ho : LOpen 33 6 EORul w g n c F0 P us) :
    Calls Tryd.prog 7 #[.slice (some ⟨g, 0, none⟩) n c, .int .i64 k] w fun e w' => ∃ F, e = .returned (.int .i64 ((k + tot nRul us : Nat) : Int)) ∧ LOpen 33 6 EORul w' g n c F P (mL mRul nRul k us) ∧ Foot w w' S := by
  have hc := ho.mine.le
  have hlen := Seg.hid ho.len
  have HM : Hid (LOpen 33 6 EORul w g n c F0 P (mid mRul nRul k 0 us) ∧ Foot w w S) := ⟨by rw [mid_zero]; exact ho, Foot.refl _ _⟩
  have HSG := Seg.hid hSg; have HSP := Seg.hid hSP
  have KL : Hid (∀ j, j < n → k + tot nRul (us.take j) + nRul (us.getD j default) ≤ 4000000000000000000) := fun j hj => by
    have a1 := tot_take nRul (ts := us) (j := j) (by rw [hlen.out]; exact hj)
    have a2 := tot_le nRul us (j + 1)
    omega
  have KE : Hid (k + tot nRul (us.take n) = k + tot nRul us) := by show _ = _; rw [← hlen.out, List.take_length]
  clear ho hSg hSP hk1
  go_enter Tryd.func7, Tryd.ntmps7
  go_wp2
  go_loopw [1, 5] (fun x i wr => ∃ (j : Nat) (F : Nat → Value), j ≤ n ∧ i = .int .i64 j ∧ x = .int .i64 ((k + tot nRul (us.take j) : Nat) : Int) ∧ Hid (LOpen 33 6 EORul wr g n c F P (mid mRul nRul k j us) ∧ Foot w wr S)) (fun _ i _ => n - (intOf i).toNat)
  case atStart => exact ⟨0, F0, Nat.zero_le _, rfl, rfl, HM.out⟩
  case round =>
    clear HM
    obtain ⟨j, F, hj, rfl, rfl, HR⟩ := hrel
    by_cases hlt : j < n
    · have h0 : (0 : Int) ≤ (j : Int) := by omega
      have h1 : (j : Int) < (n : Int) := by omega
      have EL := HR.out.1.el j hlt
      rw [mid_get mRul nRul (by rw [hlen.out]; exact hlt)] at EL
      have MS := mid_step mRul nRul (k := k) (ts := us) (j := j) (by rw [hlen.out]; exact hlt)
      have TK := Seg.hid (tot_take nRul (ts := us) (j := j) (by rw [hlen.out]; exact hlt))
      have hxb := KL.out j hlt
      have HAP := Seg.hid (HR.out.1.apart j hlt)
      obtain ⟨x, hx⟩ : ∃ x, k + tot nRul (us.take j) = x := ⟨_, rfl⟩
      have HX := Seg.hid hx
      rw [hx] at hxb MS ⊢
      have hx0 : 0 < x := by omega
      clear hx
      have MS' := Seg.hid MS
      clear MS
      generalize us.getD j default = u at *
      have HXB := Seg.hid hxb
      clear hxb
      obtain ⟨s0, s1, s2, s3, s4, s5⟩ := EL
      have R0 : Hid (Rnd 33 6 g n c (P j) w wr wr S F j [.bool u.deny, .string u.who, .int .i64 u.may, .int .i64 u.on, .string u.name, .bool u.begins]) := Rnd.start HR.out.1.mine HR.out.2 rfl (fun q hq => by
        match q, hq with
        | 0, _ => exact s0
        | 1, _ => exact s1
        | 2, _ => exact s2
        | 3, _ => exact s3
        | 4, _ => exact s4
        | 5, _ => exact s5)
      clear s0 s1 s2 s3 s4 s5
      have HB_x : Hid (x + 6 ≤ 4000000000000000000) := by show _ ≤ _; have := HXB.out; simp only [nRul] at this; omega
      have hc_x : x + 7 ≤ 4000000000000000000 + 7 := by have := HB_x.out; omega
      have hd_x : x + 6 ≤ 4000000000000000000 := by have := HB_x.out; omega
      have d0 : (wr).cell? ⟨g, j * 6, none⟩ = some (.bool u.deny) := R0.out.cell hlt 0 (by omega)
      have f0 : (wr).frozen? ⟨g, j * 6, none⟩ = false := R0.out.frozen _
      have R1 : Hid (Rnd 33 6 g n c (P j) w wr (wr.setCell ⟨g, j * 6, none⟩ (.bool (((x : Int)) % 3 == 0))) S F j [.bool (((x : Int)) % 3 == 0), .string u.who, .int .i64 u.may, .int .i64 u.on, .string u.name, .bool u.begins]) := R0.out.set HSG.out 0 (by omega) (.bool (((x : Int)) % 3 == 0))
      go_wp2_with fail
      clear d0 f0
      refine (markText_at _ (x + 1) (by omega) (wr.setCell ⟨g, j * 6, none⟩ (.bool (((x : Int)) % 3 == 0))) (by omega) (by omega)).mono ?_
      rintro e w1 ⟨rfl, b1⟩
      have R2 : Hid (Rnd 33 6 g n c (P j) w wr w1 S F j [.bool (((x : Int)) % 3 == 0), .string u.who, .int .i64 u.may, .int .i64 u.on, .string u.name, .bool u.begins]) := R1.out.below b1
      clear b1
      have d1 : (w1).cell? ⟨g, j * 6 + 1, none⟩ = some (.string u.who) := R2.out.cell hlt 1 (by omega)
      have f1 : (w1).frozen? ⟨g, j * 6 + 1, none⟩ = false := R2.out.frozen _
      have R3 : Hid (Rnd 33 6 g n c (P j) w wr (w1.setCell ⟨g, j * 6 + 1, none⟩ (.string (mt (x + 1)))) S F j [.bool (((x : Int)) % 3 == 0), .string (mt (x + 1)), .int .i64 u.may, .int .i64 u.on, .string u.name, .bool u.begins]) := R2.out.set HSG.out 1 (by omega) (.string (mt (x + 1)))
      have d2 : ((w1.setCell ⟨g, j * 6 + 1, none⟩ (.string (mt (x + 1))))).cell? ⟨g, j * 6 + 2, none⟩ = some (.int .i64 u.may) := R3.out.cell hlt 2 (by omega)
      have f2 : ((w1.setCell ⟨g, j * 6 + 1, none⟩ (.string (mt (x + 1))))).frozen? ⟨g, j * 6 + 2, none⟩ = false := R3.out.frozen _
      have R4 : Hid (Rnd 33 6 g n c (P j) w wr ((w1.setCell ⟨g, j * 6 + 1, none⟩ (.string (mt (x + 1)))).setCell ⟨g, j * 6 + 2, none⟩ (.int .i64 ((x : Int) + 1 + 1))) S F j [.bool (((x : Int)) % 3 == 0), .string (mt (x + 1)), .int .i64 ((x : Int) + 1 + 1), .int .i64 u.on, .string u.name, .bool u.begins]) := R3.out.set HSG.out 2 (by omega) (.int .i64 ((x : Int) + 1 + 1))
      have d3 : (((w1.setCell ⟨g, j * 6 + 1, none⟩ (.string (mt (x + 1)))).setCell ⟨g, j * 6 + 2, none⟩ (.int .i64 ((x : Int) + 1 + 1)))).cell? ⟨g, j * 6 + 3, none⟩ = some (.int .i64 u.on) := R4.out.cell hlt 3 (by omega)
      have f3 : (((w1.setCell ⟨g, j * 6 + 1, none⟩ (.string (mt (x + 1)))).setCell ⟨g, j * 6 + 2, none⟩ (.int .i64 ((x : Int) + 1 + 1)))).frozen? ⟨g, j * 6 + 3, none⟩ = false := R4.out.frozen _
      have R5 : Hid (Rnd 33 6 g n c (P j) w wr (((w1.setCell ⟨g, j * 6 + 1, none⟩ (.string (mt (x + 1)))).setCell ⟨g, j * 6 + 2, none⟩ (.int .i64 ((x : Int) + 1 + 1))).setCell ⟨g, j * 6 + 3, none⟩ (.int .i64 ((x : Int) + 1 + 1 + 1))) S F j [.bool (((x : Int)) % 3 == 0), .string (mt (x + 1)), .int .i64 ((x : Int) + 1 + 1), .int .i64 ((x : Int) + 1 + 1 + 1), .string u.name, .bool u.begins]) := R4.out.set HSG.out 3 (by omega) (.int .i64 ((x : Int) + 1 + 1 + 1))
      go_wp2_with fail
      clear d1 f1 d2 f2 d3 f3
      refine (markText_at _ (x + 4) (by omega) (((w1.setCell ⟨g, j * 6 + 1, none⟩ (.string (mt (x + 1)))).setCell ⟨g, j * 6 + 2, none⟩ (.int .i64 ((x : Int) + 1 + 1))).setCell ⟨g, j * 6 + 3, none⟩ (.int .i64 ((x : Int) + 1 + 1 + 1))) (by omega) (by omega)).mono ?_
      rintro e w2 ⟨rfl, b2⟩
      have R6 : Hid (Rnd 33 6 g n c (P j) w wr w2 S F j [.bool (((x : Int)) % 3 == 0), .string (mt (x + 1)), .int .i64 ((x : Int) + 1 + 1), .int .i64 ((x : Int) + 1 + 1 + 1), .string u.name, .bool u.begins]) := R5.out.below b2
      clear b2
      have d4 : (w2).cell? ⟨g, j * 6 + 4, none⟩ = some (.string u.name) := R6.out.cell hlt 4 (by omega)
      have f4 : (w2).frozen? ⟨g, j * 6 + 4, none⟩ = false := R6.out.frozen _
      have R7 : Hid (Rnd 33 6 g n c (P j) w wr (w2.setCell ⟨g, j * 6 + 4, none⟩ (.string (mt (x + 4)))) S F j [.bool (((x : Int)) % 3 == 0), .string (mt (x + 1)), .int .i64 ((x : Int) + 1 + 1), .int .i64 ((x : Int) + 1 + 1 + 1), .string (mt (x + 4)), .bool u.begins]) := R6.out.set HSG.out 4 (by omega) (.string (mt (x + 4)))
      have d5 : ((w2.setCell ⟨g, j * 6 + 4, none⟩ (.string (mt (x + 4))))).cell? ⟨g, j * 6 + 5, none⟩ = some (.bool u.begins) := R7.out.cell hlt 5 (by omega)
      have f5 : ((w2.setCell ⟨g, j * 6 + 4, none⟩ (.string (mt (x + 4))))).frozen? ⟨g, j * 6 + 5, none⟩ = false := R7.out.frozen _
      have R8 : Hid (Rnd 33 6 g n c (P j) w wr ((w2.setCell ⟨g, j * 6 + 4, none⟩ (.string (mt (x + 4)))).setCell ⟨g, j * 6 + 5, none⟩ (.bool (((x : Int) + 1 + 1 + 1 + 1 + 1) % 3 == 0))) S F j [.bool (((x : Int)) % 3 == 0), .string (mt (x + 1)), .int .i64 ((x : Int) + 1 + 1), .int .i64 ((x : Int) + 1 + 1 + 1), .string (mt (x + 4)), .bool (((x : Int) + 1 + 1 + 1 + 1 + 1) % 3 == 0)]) := R7.out.set HSG.out 5 (by omega) (.bool (((x : Int) + 1 + 1 + 1 + 1 + 1) % 3 == 0))
      have EE : Hid (EORul ((w2.setCell ⟨g, j * 6 + 4, none⟩ (.string (mt (x + 4)))).setCell ⟨g, j * 6 + 5, none⟩ (.bool (((x : Int) + 1 + 1 + 1 + 1 + 1) % 3 == 0))) (P j) (fun q => [.bool (((x : Int)) % 3 == 0), .string (mt (x + 1)), .int .i64 ((x : Int) + 1 + 1), .int .i64 ((x : Int) + 1 + 1 + 1), .string (mt (x + 4)), .bool (((x : Int) + 1 + 1 + 1 + 1 + 1) % 3 == 0)].getD q default) (mRul x u)) := by
        exact ⟨congrArg (fun z : Int => Value.bool (z % 3 == 0)) (show (x : Int) = (((x + 0) : Nat) : Int) by omega), congrArg (fun z : Nat => Value.string (mt z)) (show x + 1 = (x + 1) by omega), congrArg (Value.int .i64) (show (x : Int) + 1 + 1 = (((x + 2) : Nat) : Int) by omega), congrArg (Value.int .i64) (show (x : Int) + 1 + 1 + 1 = (((x + 3) : Nat) : Int) by omega), congrArg (fun z : Nat => Value.string (mt z)) (show x + 4 = (x + 4) by omega), congrArg (fun z : Int => Value.bool (z % 3 == 0)) (show (x : Int) + 1 + 1 + 1 + 1 + 1 = (((x + 5) : Nat) : Int) by omega)⟩
      obtain ⟨F', L', F2⟩ := Rnd.done keepsORul (t := mRul x u) HR.out.1 hlt R8.out EE.out
      rw [MS'.out] at L'
      have L2 := Seg.hid L'
      have F3 := Seg.hid F2
      clear L' F2
      have HKK : Hid ((x : Int) + 1 + 1 + 1 + 1 + 1 + 1 = ((k + tot nRul (us.take (j + 1)) : Nat) : Int)) := by
        show _ = _
        have a1 := TK.out; have a2 := HX.out; simp only [nRul] at a1; omega
      go_wp2
      clear d4 f4 d5 f5
      go_roundw
      case rel => exact ⟨j + 1, F', by omega, by go_num, congrArg (Value.int .i64) HKK.out, L2.out, F3.out⟩
      case measure => simp [intOf]; omega
    · have : j = n := by omega
      subst this
      have E := HR.out
      rw [show mid mRul nRul k j us = mL mRul nRul k us by rw [← hlen.out]; exact mid_all _ _ _ _] at E
      have EH' := Seg.hid E
      clear E
      rw [KE.out]
      go_wp2
      go_ret
      exact ⟨F, rfl, EH'.out⟩
theorem markRuleS_own (x : Int) (k : Nat) (hx : x = (k : Int)) (S : Nat → Prop) (us : List Rul) (w : World) {v : Value} (hk : 0 < k) (hk1 : k + tot nRul us ≤ 4000000000000000000) (hv : RulsOwn w S v us) :
    Calls Tryd.prog 7 #[v, .int .i64 x] w fun e w' => e = .returned (.int .i64 ((k + tot nRul us : Nat) : Int)) ∧ RulsOwn w' S v (mL mRul nRul k us) ∧ Foot w w' S := by
  subst hx
  obtain ⟨h0, A, c, rfl, h⟩ := hv
  by_cases hz : us.length = 0
  · obtain rfl := List.length_eq_zero_iff.1 hz
    exact (markRuleS_none A c k w).mono fun e w' ⟨h1, h2⟩ => by
      subst h2
      exact ⟨by rw [h1]; rfl, LOwn.nil _ _ _ _, Foot.refl _ _⟩
  obtain ⟨g, F, P, rfl, h3, h4, h5⟩ := h.resolve_left hz
  refine (markRuleS_core g us.length c k S P F us w h0 hk hk1 h3 h4 h5).mono fun e w' ⟨F', a1, a2, a3⟩ => ⟨a1, ⟨by rw [mL_len]; exact h0, _, c, by rw [mL_len], .inr ⟨g, F', P, rfl, h3, fun i hi => h4 i (by rw [mL_len] at hi; exact hi), ?_⟩⟩, a3⟩
  rw [mL_len]
  exact a2
end Go.Proofs.YtaninhajnfgkkaaDoor.Ow
