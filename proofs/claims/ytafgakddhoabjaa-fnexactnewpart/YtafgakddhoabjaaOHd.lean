/- Lists of Head of the call's own; the law's marks on them. -/
import Derived.Test.YtafgakddhoabjaaMkT
import Derived.Test.YtafgakddhoabjaaTHds
namespace Go.Proofs.Ytafgakddhoabjaa.Ow
set_option maxRecDepth 8000
open Go.RowKit
open Recs
open Ls
set_option linter.unusedVariables false
def EOHd : Elt Hd := EHd
theorem keepsOHd : KeepsO 2 EOHd := keepsO_of keepsHd
theorem atOHd (w : World) (S : Nat → Prop) (f : Nat → Value) (u : Hd) (h : EOHd w S f u) : EHd w S f u := h
abbrev HdsOwn := LOwn 62 2 EOHd
def mHd (k : Nat) (u : Hd) : Hd := ⟨mt (k + 0), mt (k + 1)⟩
def nHd (u : Hd) : Nat := 2
theorem markHeadS_none (A : Option Addr) (c : Nat) (k : Int) (w : World) : Calls Try.prog 31 #[.slice A 0 c, .int .i64 k] w fun e w' => e = .returned (.int .i64 k) ∧ w = w' := by
  go_enter Try.func31, Try.ntmps31
  go_wp2
  go_loop [1, 5] (fun x i => i = .int .i64 0 ∧ x = .int .i64 k) (fun _ _ => 0)
  case atStart => exact ⟨rfl, rfl⟩
  case round =>
    obtain ⟨rfl, rfl⟩ := hrel
    go_wp2
    go_ret
    exact ⟨rfl, rfl⟩
set_option maxHeartbeats 3200000 in
theorem markHeadS_core (g n c k : Nat) (S : Nat → Prop) (P : Nat → Nat → Prop) (F0 : Nat → Value) (us : List Hd) (w : World) (hn : n ≤ 1048576) (hk : 0 < k) (hk1 : k + tot nHd us ≤ 4000000000000000000) (hSg : S g) (hSP : ∀ i, i < n → ∀ y, P i y → S y) (ho : LOpen 62 2 EOHd w g n c F0 P us) :
    Calls Try.prog 31 #[.slice (some ⟨g, 0, none⟩) n c, .int .i64 k] w fun e w' => ∃ F, e = .returned (.int .i64 ((k + tot nHd us : Nat) : Int)) ∧ LOpen 62 2 EOHd w' g n c F P (mL mHd nHd k us) ∧ Foot w w' S := by
  have hc := ho.mine.le
  have hlen := Seg.hid ho.len
  have HM : Hid (LOpen 62 2 EOHd w g n c F0 P (mid mHd nHd k 0 us) ∧ Foot w w S) := ⟨by rw [mid_zero]; exact ho, Foot.refl _ _⟩
  have HSG := Seg.hid hSg; have HSP := Seg.hid hSP
  have KL : Hid (∀ j, j < n → k + tot nHd (us.take j) + nHd (us.getD j default) ≤ 4000000000000000000) := fun j hj => by
    have a1 := tot_take nHd (ts := us) (j := j) (by rw [hlen.out]; exact hj)
    have a2 := tot_le nHd us (j + 1)
    omega
  have KE : Hid (k + tot nHd (us.take n) = k + tot nHd us) := by show _ = _; rw [← hlen.out, List.take_length]
  clear ho hSg hSP hk1
  go_enter Try.func31, Try.ntmps31
  go_wp2
  go_loopw [1, 5] (fun x i wr => ∃ (j : Nat) (F : Nat → Value), j ≤ n ∧ i = .int .i64 j ∧ x = .int .i64 ((k + tot nHd (us.take j) : Nat) : Int) ∧ Hid (LOpen 62 2 EOHd wr g n c F P (mid mHd nHd k j us) ∧ Foot w wr S)) (fun _ i _ => n - (intOf i).toNat)
  case atStart => exact ⟨0, F0, Nat.zero_le _, rfl, rfl, HM.out⟩
  case round =>
    clear HM
    obtain ⟨j, F, hj, rfl, rfl, HR⟩ := hrel
    by_cases hlt : j < n
    · have h0 : (0 : Int) ≤ (j : Int) := by omega
      have h1 : (j : Int) < (n : Int) := by omega
      have EL := HR.out.1.el j hlt
      rw [mid_get mHd nHd (by rw [hlen.out]; exact hlt)] at EL
      have MS := mid_step mHd nHd (k := k) (ts := us) (j := j) (by rw [hlen.out]; exact hlt)
      have TK := Seg.hid (tot_take nHd (ts := us) (j := j) (by rw [hlen.out]; exact hlt))
      have hxb := KL.out j hlt
      have HAP := Seg.hid (HR.out.1.apart j hlt)
      obtain ⟨x, hx⟩ : ∃ x, k + tot nHd (us.take j) = x := ⟨_, rfl⟩
      have HX := Seg.hid hx
      rw [hx] at hxb MS ⊢
      have hx0 : 0 < x := by omega
      clear hx
      have MS' := Seg.hid MS
      clear MS
      generalize us.getD j default = u at *
      have HXB := Seg.hid hxb
      clear hxb
      obtain ⟨s0, s1⟩ := EL
      have R0 : Hid (Rnd 62 2 g n c (P j) w wr wr S F j [.string u.key, .string u.val]) := Rnd.start HR.out.1.mine HR.out.2 rfl (fun q hq => by
        match q, hq with
        | 0, _ => exact s0
        | 1, _ => exact s1)
      clear s0 s1
      have HB_x : Hid (x + 2 ≤ 4000000000000000000) := by show _ ≤ _; have := HXB.out; simp only [nHd] at this; omega
      have hc_x : x + 3 ≤ 4000000000000000000 + 3 := by have := HB_x.out; omega
      have hd_x : x + 2 ≤ 4000000000000000000 := by have := HB_x.out; omega
      go_wp2_with fail
      refine (markText_at _ (x) (by omega) wr (by omega) (by omega)).mono ?_
      rintro e w1 ⟨rfl, b1⟩
      have R1 : Hid (Rnd 62 2 g n c (P j) w wr w1 S F j [.string u.key, .string u.val]) := R0.out.below b1
      clear b1
      have d0 : (w1).cell? ⟨g, j * 2, none⟩ = some (.string u.key) := R1.out.cell hlt 0 (by omega)
      have f0 : (w1).frozen? ⟨g, j * 2, none⟩ = false := R1.out.frozen _
      have R2 : Hid (Rnd 62 2 g n c (P j) w wr (w1.setCell ⟨g, j * 2, none⟩ (.string (mt (x)))) S F j [.string (mt (x)), .string u.val]) := R1.out.set HSG.out 0 (by omega) (.string (mt (x)))
      go_wp2_with fail
      clear d0 f0
      refine (markText_at _ (x + 1) (by omega) (w1.setCell ⟨g, j * 2, none⟩ (.string (mt (x)))) (by omega) (by omega)).mono ?_
      rintro e w2 ⟨rfl, b2⟩
      have R3 : Hid (Rnd 62 2 g n c (P j) w wr w2 S F j [.string (mt (x)), .string u.val]) := R2.out.below b2
      clear b2
      have d1 : (w2).cell? ⟨g, j * 2 + 1, none⟩ = some (.string u.val) := R3.out.cell hlt 1 (by omega)
      have f1 : (w2).frozen? ⟨g, j * 2 + 1, none⟩ = false := R3.out.frozen _
      have R4 : Hid (Rnd 62 2 g n c (P j) w wr (w2.setCell ⟨g, j * 2 + 1, none⟩ (.string (mt (x + 1)))) S F j [.string (mt (x)), .string (mt (x + 1))]) := R3.out.set HSG.out 1 (by omega) (.string (mt (x + 1)))
      have EE : Hid (EOHd (w2.setCell ⟨g, j * 2 + 1, none⟩ (.string (mt (x + 1)))) (P j) (fun q => [.string (mt (x)), .string (mt (x + 1))].getD q default) (mHd x u)) := by
        exact ⟨congrArg (fun z : Nat => Value.string (mt z)) (show x = (x + 0) by omega), congrArg (fun z : Nat => Value.string (mt z)) (show x + 1 = (x + 1) by omega)⟩
      obtain ⟨F', L', F2⟩ := Rnd.done keepsOHd (t := mHd x u) HR.out.1 hlt R4.out EE.out
      rw [MS'.out] at L'
      have L2 := Seg.hid L'
      have F3 := Seg.hid F2
      clear L' F2
      have HKK : Hid ((x : Int) + 1 + 1 = ((k + tot nHd (us.take (j + 1)) : Nat) : Int)) := by
        show _ = _
        have a1 := TK.out; have a2 := HX.out; simp only [nHd] at a1; omega
      go_wp2
      clear d1 f1
      go_roundw
      case rel => exact ⟨j + 1, F', by omega, by go_num, congrArg (Value.int .i64) HKK.out, L2.out, F3.out⟩
      case measure => simp [intOf]; omega
    · have : j = n := by omega
      subst this
      have E := HR.out
      rw [show mid mHd nHd k j us = mL mHd nHd k us by rw [← hlen.out]; exact mid_all _ _ _ _] at E
      have EH' := Seg.hid E
      clear E
      rw [KE.out]
      go_wp2
      go_ret
      exact ⟨F, rfl, EH'.out⟩
theorem markHeadS_own (x : Int) (k : Nat) (hx : x = (k : Int)) (S : Nat → Prop) (us : List Hd) (w : World) {v : Value} (hk : 0 < k) (hk1 : k + tot nHd us ≤ 4000000000000000000) (hv : HdsOwn w S v us) :
    Calls Try.prog 31 #[v, .int .i64 x] w fun e w' => e = .returned (.int .i64 ((k + tot nHd us : Nat) : Int)) ∧ HdsOwn w' S v (mL mHd nHd k us) ∧ Foot w w' S := by
  subst hx
  obtain ⟨h0, A, c, rfl, h⟩ := hv
  by_cases hz : us.length = 0
  · obtain rfl := List.length_eq_zero_iff.1 hz
    exact (markHeadS_none A c k w).mono fun e w' ⟨h1, h2⟩ => by
      subst h2
      exact ⟨by rw [h1]; rfl, LOwn.nil _ _ _ _, Foot.refl _ _⟩
  obtain ⟨g, F, P, rfl, h3, h4, h5⟩ := h.resolve_left hz
  refine (markHeadS_core g us.length c k S P F us w h0 hk hk1 h3 h4 h5).mono fun e w' ⟨F', a1, a2, a3⟩ => ⟨a1, ⟨by rw [mL_len]; exact h0, _, c, by rw [mL_len], .inr ⟨g, F', P, rfl, h3, fun i hi => h4 i (by rw [mL_len] at hi; exact hi), ?_⟩⟩, a3⟩
  rw [mL_len]
  exact a2
end Go.Proofs.Ytafgakddhoabjaa.Ow
