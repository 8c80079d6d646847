/- The law's marks on a list of texts of the call's own; Lists of Step of the call's own; the law's marks on them. -/
import Derived.Test.YtkibaimemomjpaaJQ40
import Derived.Test.YtkibaimemomjpaaJQ07
import Derived.Test.YtkibaimemomjpaaJQ12
namespace Go.Proofs.Ytkibaimemomjpaa.Ow
set_option maxRecDepth 8000
open Go.RowKit
open Recs
open Ls
set_option linter.unusedVariables false
def mX (k : Nat) (_ : ByteArray) : ByteArray := mt k
def nX (_ : ByteArray) : Nat := 1
theorem nX_tot : ∀ ns : List ByteArray, tot nX ns = ns.length
  | [] => rfl
  | _ :: r => by simp only [tot, nX_tot r, nX, List.length_cons]; omega
abbrev StrsOwn := LOwn 9 1 EStr
theorem keepsOStr : KeepsO 1 EStr := keepsO_of keepsStr
theorem markStringS_none (A : Option Addr) (c : Nat) (k : Int) (w : World) : Calls Try.prog 48 #[.slice A 0 c, .int .i64 k] w fun e w' => e = .returned (.int .i64 k) ∧ w = w' := by
  go_enter Try.func48, Try.ntmps48
  go_wp2
  go_loop [1, 5] (fun x i => i = .int .i64 0 ∧ x = .int .i64 k) (fun _ _ => 0)
  case atStart => exact ⟨rfl, rfl⟩
  case round =>
    obtain ⟨rfl, rfl⟩ := hrel
    go_wp2
    go_ret
    exact ⟨rfl, rfl⟩
set_option maxHeartbeats 800000 in
theorem markStringS_core (g n c k : Nat) (S : Nat → Prop) (P : Nat → Nat → Prop) (F0 : Nat → Value) (ns : List ByteArray) (w : World) (hn : n ≤ 1048576) (hk : 0 < k) (hk1 : k + tot nX ns ≤ 4000000000000000000) (hSg : S g) (ho : LOpen 9 1 EStr w g n c F0 P ns) :
    Calls Try.prog 48 #[.slice (some ⟨g, 0, none⟩) n c, .int .i64 k] w fun e w' => ∃ F, e = .returned (.int .i64 ((k + tot nX ns : Nat) : Int)) ∧ LOpen 9 1 EStr w' g n c F P (mL mX nX k ns) ∧ Foot w w' S := by
  have hc := ho.mine.le
  have hlen := Seg.hid ho.len
  have HM : Hid (LOpen 9 1 EStr w g n c F0 P (mid mX nX k 0 ns) ∧ Foot w w S) := ⟨by rw [mid_zero]; exact ho, Foot.refl _ _⟩
  have HSG := Seg.hid hSg
  have hkn : k + n ≤ 4000000000000000000 := by rw [nX_tot, hlen.out] at hk1; exact hk1
  have KT : Hid (∀ j, j ≤ n → tot nX (ns.take j) = j) := fun j hj => by rw [nX_tot, List.length_take, hlen.out]; omega
  have KE : Hid (tot nX ns = n) := by show _ = _; rw [nX_tot, hlen.out]
  clear ho hSg hk1
  go_enter Try.func48, Try.ntmps48
  go_wp2
  go_loopw [1, 5] (fun x i wr => ∃ (j : Nat) (F : Nat → Value), j ≤ n ∧ i = .int .i64 j ∧ x = .int .i64 ((k : Int) + j) ∧ Hid (LOpen 9 1 EStr wr g n c F P (mid mX nX k j ns) ∧ Foot w wr S)) (fun _ i _ => n - (intOf i).toNat)
  case atStart => exact ⟨0, F0, Nat.zero_le _, rfl, by simp, HM.out⟩
  case round =>
    clear HM
    obtain ⟨j, F, hj, rfl, rfl, HR⟩ := hrel
    by_cases hlt : j < n
    · have h0 : (0 : Int) ≤ (j : Int) := by omega
      have h1 : (j : Int) < (n : Int) := by omega
      have R0 : Hid (Rnd 9 1 g n c (P j) w wr wr S F j [F (j * 1 + 0)]) := Rnd.start HR.out.1.mine HR.out.2 rfl (fun q hq => by
        match q, hq with
        | 0, _ => rfl)
      go_wp2_with fail
      refine (markText_at _ (k + j) (by omega) wr (by omega) (by omega)).mono ?_
      rintro e w1 ⟨rfl, b1⟩
      have R1 : Hid (Rnd 9 1 g n c (P j) w wr w1 S F j [F (j * 1 + 0)]) := R0.out.below b1
      clear b1
      have d0 : w1.cell? ⟨g, j, none⟩ = some (F j) := by have := R1.out.cell hlt 0 (by omega); simp only [Nat.mul_one, Nat.add_zero] at this; exact this
      have f0 : w1.frozen? ⟨g, j, none⟩ = false := R1.out.frozen _
      have R2 : Hid (Rnd 9 1 g n c (P j) w wr (w1.setCell ⟨g, j, none⟩ (.string (mt (k + j)))) S F j [.string (mt (k + j))]) := by
        have := R1.out.set HSG.out 0 (by omega) (.string (mt (k + j)))
        simp only [Nat.mul_one, Nat.add_zero] at this
        exact this
      obtain ⟨F', L', F2⟩ := Rnd.done keepsOStr (t := mX (k + tot nX (ns.take j)) (ns.getD j default)) HR.out.1 hlt R2.out (by show Value.string _ = .string _; rw [KT.out j hj, mX])
      rw [mid_step mX nX (by rw [hlen.out]; exact hlt)] at L'
      have L2 := Seg.hid L'
      have F3 := Seg.hid F2
      clear L' F2
      go_wp2
      go_roundw
      case rel => exact ⟨j + 1, F', by omega, by go_num, by go_num, L2.out, F3.out⟩
      case measure => simp [intOf]; omega
    · have : j = n := by omega
      subst this
      have E := HR.out
      rw [show mid mX nX k j ns = mL mX nX k ns by rw [← hlen.out]; exact mid_all _ _ _ _] at E
      have EH' := Seg.hid E
      clear E
      go_wp2
      go_ret
      exact ⟨F, Seg.ret_int (by have := KE.out; omega), EH'.out⟩
theorem markStringS_own (x : Int) (k : Nat) (hx : x = (k : Int)) (S : Nat → Prop) (ns : List ByteArray) (w : World) {v : Value} (hk : 0 < k) (hk1 : k + tot nX ns ≤ 4000000000000000000) (hv : StrsOwn w S v ns) :
    Calls Try.prog 48 #[v, .int .i64 x] w fun e w' => e = .returned (.int .i64 ((k + tot nX ns : Nat) : Int)) ∧ StrsOwn w' S v (mL mX nX k ns) ∧ Foot w w' S := by
  subst hx
  obtain ⟨h0, A, c, rfl, h⟩ := hv
  by_cases hz : ns.length = 0
  · obtain rfl := List.length_eq_zero_iff.1 hz
    exact (markStringS_none A c k w).mono fun e w' ⟨h1, h2⟩ => by
      subst h2
      exact ⟨by rw [h1]; rfl, LOwn.nil _ _ _ _, Foot.refl _ _⟩
  obtain ⟨g, F, P, rfl, h3, h4, h5⟩ := h.resolve_left hz
  refine (markStringS_core g ns.length c k S P F ns w h0 hk hk1 h3 h5).mono fun e w' ⟨F', a1, a2, a3⟩ => ⟨a1, ⟨by rw [mL_len]; exact h0, _, c, by rw [mL_len], .inr ⟨g, F', P, rfl, h3, fun i hi => h4 i (by rw [mL_len] at hi; exact hi), ?_⟩⟩, a3⟩
  rw [mL_len]
  exact a2
end Go.Proofs.Ytkibaimemomjpaa.Ow
namespace Go.Proofs.Ytkibaimemomjpaa.Ow
set_option maxRecDepth 8000
open Go.RowKit
open Recs
open Ls
set_option linter.unusedVariables false
def EOStp : Elt Stp := EStp
theorem keepsOStp : KeepsO 3 EOStp := keepsO_of keepsStp
theorem atOStp (w : World) (S : Nat → Prop) (f : Nat → Value) (u : Stp) (h : EOStp w S f u) : EStp w S f u := h
abbrev StpsOwn := LOwn 118 3 EOStp
def mStp (k : Nat) (u : Stp) : Stp := ⟨(((k + 0) : Nat) : Int), (((k + 1) : Nat) : Int), mt (k + 2)⟩
def nStp (u : Stp) : Nat := 3
theorem markStepS_none (A : Option Addr) (c : Nat) (k : Int) (w : World) : Calls Try.prog 47 #[.slice A 0 c, .int .i64 k] w fun e w' => e = .returned (.int .i64 k) ∧ w = w' := by
  go_enter Try.func47, Try.ntmps47
  go_wp2
  go_loop [1, 5] (fun x i => i = .int .i64 0 ∧ x = .int .i64 k) (fun _ _ => 0)
  case atStart => exact ⟨rfl, rfl⟩
  case round =>
    obtain ⟨rfl, rfl⟩ := hrel
    go_wp2
    go_ret
    exact ⟨rfl, rfl⟩
set_option maxHeartbeats 3200000 in
theorem markStepS_core (g n c k : Nat) (S : Nat → Prop) (P : Nat → Nat → Prop) (F0 : Nat → Value) (us : List Stp) (w : World) (hn : n ≤ 1048576) (hk : 0 < k) (hk1 : k + tot nStp us ≤ 4000000000000000000) (hSg : S g) (hSP : ∀ i, i < n → ∀ y, P i y → S y) (ho : LOpen 118 3 EOStp w g n c F0 P us) :
    Calls Try.prog 47 #[.slice (some ⟨g, 0, none⟩) n c, .int .i64 k] w fun e w' => ∃ F, e = .returned (.int .i64 ((k + tot nStp us : Nat) : Int)) ∧ LOpen 118 3 EOStp w' g n c F P (mL mStp nStp k us) ∧ Foot w w' S := by
  have hc := ho.mine.le
  have hlen := Seg.hid ho.len
  have HM : Hid (LOpen 118 3 EOStp w g n c F0 P (mid mStp nStp k 0 us) ∧ Foot w w S) := ⟨by rw [mid_zero]; exact ho, Foot.refl _ _⟩
  have HSG := Seg.hid hSg; have HSP := Seg.hid hSP
  have KL : Hid (∀ j, j < n → k + tot nStp (us.take j) + nStp (us.getD j default) ≤ 4000000000000000000) := fun j hj => by
    have a1 := tot_take nStp (ts := us) (j := j) (by rw [hlen.out]; exact hj)
    have a2 := tot_le nStp us (j + 1)
    omega
  have KE : Hid (k + tot nStp (us.take n) = k + tot nStp us) := by show _ = _; rw [← hlen.out, List.take_length]
  clear ho hSg hSP hk1
  go_enter Try.func47, Try.ntmps47
  go_wp2
  go_loopw [1, 5] (fun x i wr => ∃ (j : Nat) (F : Nat → Value), j ≤ n ∧ i = .int .i64 j ∧ x = .int .i64 ((k + tot nStp (us.take j) : Nat) : Int) ∧ Hid (LOpen 118 3 EOStp wr g n c F P (mid mStp nStp k j us) ∧ Foot w wr S)) (fun _ i _ => n - (intOf i).toNat)
  case atStart => exact ⟨0, F0, Nat.zero_le _, rfl, rfl, HM.out⟩
  case round =>
    clear HM
    obtain ⟨j, F, hj, rfl, rfl, HR⟩ := hrel
    by_cases hlt : j < n
    · have h0 : (0 : Int) ≤ (j : Int) := by omega
      have h1 : (j : Int) < (n : Int) := by omega
      have EL := HR.out.1.el j hlt
      rw [mid_get mStp nStp (by rw [hlen.out]; exact hlt)] at EL
      have MS := mid_step mStp nStp (k := k) (ts := us) (j := j) (by rw [hlen.out]; exact hlt)
      have TK := Seg.hid (tot_take nStp (ts := us) (j := j) (by rw [hlen.out]; exact hlt))
      have hxb := KL.out j hlt
      have HAP := Seg.hid (HR.out.1.apart j hlt)
      obtain ⟨x, hx⟩ : ∃ x, k + tot nStp (us.take j) = x := ⟨_, rfl⟩
      have HX := Seg.hid hx
      rw [hx] at hxb MS ⊢
      have hx0 : 0 < x := by omega
      clear hx
      have MS' := Seg.hid MS
      clear MS
      generalize us.getD j default = u at *
      have HXB := Seg.hid hxb
      clear hxb
      obtain ⟨s0, s1, s2⟩ := EL
      have R0 : Hid (Rnd 118 3 g n c (P j) w wr wr S F j [.int .i64 u.op, .int .i64 u.num, .string u.name]) := Rnd.start HR.out.1.mine HR.out.2 rfl (fun q hq => by
        match q, hq with
        | 0, _ => exact s0
        | 1, _ => exact s1
        | 2, _ => exact s2)
      clear s0 s1 s2
      have HB_x : Hid (x + 3 ≤ 4000000000000000000) := by show _ ≤ _; have := HXB.out; simp only [nStp] at this; omega
      have hc_x : x + 4 ≤ 4000000000000000000 + 4 := by have := HB_x.out; omega
      have hd_x : x + 3 ≤ 4000000000000000000 := by have := HB_x.out; omega
      have d0 : (wr).cell? ⟨g, j * 3, none⟩ = some (.int .i64 u.op) := R0.out.cell hlt 0 (by omega)
      have f0 : (wr).frozen? ⟨g, j * 3, none⟩ = false := R0.out.frozen _
      have R1 : Hid (Rnd 118 3 g n c (P j) w wr (wr.setCell ⟨g, j * 3, none⟩ (.int .i64 ((x : Int)))) S F j [.int .i64 ((x : Int)), .int .i64 u.num, .string u.name]) := R0.out.set HSG.out 0 (by omega) (.int .i64 ((x : Int)))
      have d1 : ((wr.setCell ⟨g, j * 3, none⟩ (.int .i64 ((x : Int))))).cell? ⟨g, j * 3 + 1, none⟩ = some (.int .i64 u.num) := R1.out.cell hlt 1 (by omega)
      have f1 : ((wr.setCell ⟨g, j * 3, none⟩ (.int .i64 ((x : Int))))).frozen? ⟨g, j * 3 + 1, none⟩ = false := R1.out.frozen _
      have R2 : Hid (Rnd 118 3 g n c (P j) w wr ((wr.setCell ⟨g, j * 3, none⟩ (.int .i64 ((x : Int)))).setCell ⟨g, j * 3 + 1, none⟩ (.int .i64 ((x : Int) + 1))) S F j [.int .i64 ((x : Int)), .int .i64 ((x : Int) + 1), .string u.name]) := R1.out.set HSG.out 1 (by omega) (.int .i64 ((x : Int) + 1))
      go_wp2_with fail
      clear d0 f0 d1 f1
      refine (markText_at _ (x + 2) (by omega) ((wr.setCell ⟨g, j * 3, none⟩ (.int .i64 ((x : Int)))).setCell ⟨g, j * 3 + 1, none⟩ (.int .i64 ((x : Int) + 1))) (by omega) (by omega)).mono ?_
      rintro e w1 ⟨rfl, b1⟩
      have R3 : Hid (Rnd 118 3 g n c (P j) w wr w1 S F j [.int .i64 ((x : Int)), .int .i64 ((x : Int) + 1), .string u.name]) := R2.out.below b1
      clear b1
      have d2 : (w1).cell? ⟨g, j * 3 + 2, none⟩ = some (.string u.name) := R3.out.cell hlt 2 (by omega)
      have f2 : (w1).frozen? ⟨g, j * 3 + 2, none⟩ = false := R3.out.frozen _
      have R4 : Hid (Rnd 118 3 g n c (P j) w wr (w1.setCell ⟨g, j * 3 + 2, none⟩ (.string (mt (x + 2)))) S F j [.int .i64 ((x : Int)), .int .i64 ((x : Int) + 1), .string (mt (x + 2))]) := R3.out.set HSG.out 2 (by omega) (.string (mt (x + 2)))
      have EE : Hid (EOStp (w1.setCell ⟨g, j * 3 + 2, none⟩ (.string (mt (x + 2)))) (P j) (fun q => [.int .i64 ((x : Int)), .int .i64 ((x : Int) + 1), .string (mt (x + 2))].getD q default) (mStp x u)) := by
        exact ⟨congrArg (Value.int .i64) (show (x : Int) = (((x + 0) : Nat) : Int) by omega), congrArg (Value.int .i64) (show (x : Int) + 1 = (((x + 1) : Nat) : Int) by omega), congrArg (fun z : Nat => Value.string (mt z)) (show x + 2 = (x + 2) by omega)⟩
      obtain ⟨F', L', F2⟩ := Rnd.done keepsOStp (t := mStp x u) HR.out.1 hlt R4.out EE.out
      rw [MS'.out] at L'
      have L2 := Seg.hid L'
      have F3 := Seg.hid F2
      clear L' F2
      have HKK : Hid ((x : Int) + 1 + 1 + 1 = ((k + tot nStp (us.take (j + 1)) : Nat) : Int)) := by
        show _ = _
        have a1 := TK.out; have a2 := HX.out; simp only [nStp] at a1; omega
      go_wp2
      clear d2 f2
      go_roundw
      case rel => exact ⟨j + 1, F', by omega, by go_num, congrArg (Value.int .i64) HKK.out, L2.out, F3.out⟩
      case measure => simp [intOf]; omega
    · have : j = n := by omega
      subst this
      have E := HR.out
      rw [show mid mStp nStp k j us = mL mStp nStp k us by rw [← hlen.out]; exact mid_all _ _ _ _] at E
      have EH' := Seg.hid E
      clear E
      rw [KE.out]
      go_wp2
      go_ret
      exact ⟨F, rfl, EH'.out⟩
theorem markStepS_own (x : Int) (k : Nat) (hx : x = (k : Int)) (S : Nat → Prop) (us : List Stp) (w : World) {v : Value} (hk : 0 < k) (hk1 : k + tot nStp us ≤ 4000000000000000000) (hv : StpsOwn w S v us) :
    Calls Try.prog 47 #[v, .int .i64 x] w fun e w' => e = .returned (.int .i64 ((k + tot nStp us : Nat) : Int)) ∧ StpsOwn w' S v (mL mStp nStp k us) ∧ Foot w w' S := by
  subst hx
  obtain ⟨h0, A, c, rfl, h⟩ := hv
  by_cases hz : us.length = 0
  · obtain rfl := List.length_eq_zero_iff.1 hz
    exact (markStepS_none A c k w).mono fun e w' ⟨h1, h2⟩ => by
      subst h2
      exact ⟨by rw [h1]; rfl, LOwn.nil _ _ _ _, Foot.refl _ _⟩
  obtain ⟨g, F, P, rfl, h3, h4, h5⟩ := h.resolve_left hz
  refine (markStepS_core g us.length c k S P F us w h0 hk hk1 h3 h4 h5).mono fun e w' ⟨F', a1, a2, a3⟩ => ⟨a1, ⟨by rw [mL_len]; exact h0, _, c, by rw [mL_len], .inr ⟨g, F', P, rfl, h3, fun i hi => h4 i (by rw [mL_len] at hi; exact hi), ?_⟩⟩, a3⟩
  rw [mL_len]
  exact a2
end Go.Proofs.Ytkibaimemomjpaa.Ow
