/- Outside's two answers are lists of the call's own; Lists of Step of the call's own; the law's marks on them. -/
import Derived.Test.YtboooabjeidmfaaJO32
import Derived.Test.YtboooabjeidmfaaJO40
import Derived.Test.YtboooabjeidmfaaJO42
import Derived.Test.YtboooabjeidmfaaJO41
import Derived.Test.YtboooabjeidmfaaJO05
namespace Go.Proofs.Ytboooabjeidmfaa.OuO
set_option maxRecDepth 8000
open Go.RowKit
open Ls Lp QsP YvP OuP
theorem spec_own (x v : Value) (q : Qry) (l : List Src) (w : World) (S : Nat → Prop) (hx : QryAt w S x q) (hv : LAt 3 ESrc w S v l) (hS : ∀ g, S g → g < w.heap.size) (hz : szQry q ≤ 1048576) (hf : szL szSrc l ≤ 1048576) :
    Calls Try.prog 34 #[x, v] w fun e w' => ∃ v', e = .returned v' ∧ Ow.StrsOwn w' (seg w.heap.size w'.heap.size) v' (outside q l) ∧ Below w.heap.size w w' :=
  (OuS.spec_any x v q l w S hx hv hS hz hf).mono fun e w' ⟨r, h1, h2, h3⟩ => ⟨r, h1, IsO.row_own h2 (by have := out_few q l; omega), h3⟩
theorem impl_own (x v : Value) (q : Qry) (l : List Src) (w : World) (S : Nat → Prop) (hx : QryAt w S x q) (hv : LAt 3 ESrc w S v l) (hS : ∀ g, S g → g < w.heap.size) (hz : szQry q ≤ 1048576) (hf : szL szSrc l ≤ 1048576) :
    Calls Try.prog 35 #[x, v] w fun e w' => ∃ v', e = .returned v' ∧ Ow.StrsOwn w' (seg w.heap.size w'.heap.size) v' (outside q l) ∧ Below w.heap.size w w' :=
  (OuI.impl_any x v q l w S hx hv hS hz hf).mono fun e w' ⟨r, h1, h2, h3⟩ => ⟨r, h1, IsO.row_own h2 (by have := out_few q l; omega), h3⟩
theorem few_strs (q : Qry) (l : List Src) : tot Ow.nX (outside q l) ≤ 1000000000 := by rw [Ow.nX_tot]; have := out_few q l; omega
end Go.Proofs.Ytboooabjeidmfaa.OuO
namespace Go.Proofs.Ytboooabjeidmfaa.Ow
set_option maxRecDepth 8000
open Go.RowKit
open Recs
open Ls
set_option linter.unusedVariables false
def EOStp : Elt Stp := EStp
theorem keepsOStp : KeepsO 3 EOStp := keepsO_of keepsStp
theorem atOStp (w : World) (S : Nat → Prop) (f : Nat → Value) (u : Stp) (h : EOStp w S f u) : EStp w S f u := h
abbrev StpsOwn := LOwn 82 3 EOStp
def mStp (k : Nat) (u : Stp) : Stp := ⟨(((k + 0) : Nat) : Int), (((k + 1) : Nat) : Int), mt (k + 2)⟩
def nStp (u : Stp) : Nat := 3
theorem markStepS_none (A : Option Addr) (c : Nat) (k : Int) (w : World) : Calls Try.prog 67 #[.slice A 0 c, .int .i64 k] w fun e w' => e = .returned (.int .i64 k) ∧ w = w' := by
  go_enter Try.func67, Try.ntmps67
  go_wp2
  go_loop [1, 5] (fun x i => i = .int .i64 0 ∧ x = .int .i64 k) (fun _ _ => 0)
  case atStart => exact ⟨rfl, rfl⟩
  case round =>
    obtain ⟨rfl, rfl⟩ := hrel
    go_wp2
    go_ret
    exact ⟨rfl, rfl⟩
set_option maxHeartbeats 3200000 in
theorem markStepS_core (g n c k : Nat) (S : Nat → Prop) (P : Nat → Nat → Prop) (F0 : Nat → Value) (us : List Stp) (w : World) (hn : n ≤ 1048576) (hk : 0 < k) (hk1 : k + tot nStp us ≤ 4000000000000000000) (hSg : S g) (hSP : ∀ i, i < n → ∀ y, P i y → S y) (ho : LOpen 82 3 EOStp w g n c F0 P us) :
    Calls Try.prog 67 #[.slice (some ⟨g, 0, none⟩) n c, .int .i64 k] w fun e w' => ∃ F, e = .returned (.int .i64 ((k + tot nStp us : Nat) : Int)) ∧ LOpen 82 3 EOStp w' g n c F P (mL mStp nStp k us) ∧ Foot w w' S := by
  have hc := ho.mine.le
  have hlen := Seg.hid ho.len
  have HM : Hid (LOpen 82 3 EOStp w g n c F0 P (mid mStp nStp k 0 us) ∧ Foot w w S) := ⟨by rw [mid_zero]; exact ho, Foot.refl _ _⟩
  have HSG := Seg.hid hSg; have HSP := Seg.hid hSP
  have KL : Hid (∀ j, j < n → k + tot nStp (us.take j) + nStp (us.getD j default) ≤ 4000000000000000000) := fun j hj => by
    have a1 := tot_take nStp (ts := us) (j := j) (by rw [hlen.out]; exact hj)
    have a2 := tot_le nStp us (j + 1)
    omega
  have KE : Hid (k + tot nStp (us.take n) = k + tot nStp us) := by show _ = _; rw [← hlen.out, List.take_length]
  clear ho hSg hSP hk1
  go_enter Try.func67, Try.ntmps67
  go_wp2
  go_loopw [1, 5] (fun x i wr => ∃ (j : Nat) (F : Nat → Value), j ≤ n ∧ i = .int .i64 j ∧ x = .int .i64 ((k + tot nStp (us.take j) : Nat) : Int) ∧ Hid (LOpen 82 3 EOStp wr g n c F P (mid mStp nStp k j us) ∧ Foot w wr S)) (fun _ i _ => n - (intOf i).toNat)
  case atStart => exact ⟨0, F0, Nat.zero_le _, rfl, rfl, HM.out⟩
  case round =>
    clear HM
    obtain ⟨j, F, hj, rfl, rfl, HR⟩ := hrel
    by_cases hlt : j < n
    · have h0 : (0 : Int) ≤ (j : Int) := by omega
      have h1 : (j : Int) < (n : Int) := by omega
      have EL := HR.out.1.el j hlt
      rw [mid_get mStp nStp (by rw [hlen.out]; exact hlt)] at EL
      have MS := mid_step mStp nStp (k := k) (ts := us) (j := j) (by rw [hlen.out]; exact hlt)
      have TK := Seg.hid (tot_take nStp (ts := us) (j := j) (by rw [hlen.out]; exact hlt))
      have hxb := KL.out j hlt
      have HAP := Seg.hid (HR.out.1.apart j hlt)
      obtain ⟨x, hx⟩ : ∃ x, k + tot nStp (us.take j) = x := ⟨_, rfl⟩
      have HX := Seg.hid hx
      rw [hx] at hxb MS ⊢
      have hx0 : 0 < x := by omega
      clear hx
      have MS' := Seg.hid MS
      clear MS
      generalize us.getD j default = u at *
      have HXB := Seg.hid hxb
      clear hxb
      obtain ⟨s0, s1, s2⟩ := EL
      have R0 : Hid (Rnd 82 3 g n c (P j) w wr wr S F j [.int .i64 u.op, .int .i64 u.num, .string u.name]) := Rnd.start HR.out.1.mine HR.out.2 rfl (fun q hq => by
        match q, hq with
        | 0, _ => exact s0
        | 1, _ => exact s1
        | 2, _ => exact s2)
      clear s0 s1 s2
      have HB_x : Hid (x + 3 ≤ 4000000000000000000) := by show _ ≤ _; have := HXB.out; simp only [nStp] at this; omega
      have hc_x : x + 4 ≤ 4000000000000000000 + 4 := by have := HB_x.out; omega
      have hd_x : x + 3 ≤ 4000000000000000000 := by have := HB_x.out; omega
      have d0 : (wr).cell? ⟨g, j * 3, none⟩ = some (.int .i64 u.op) := R0.out.cell hlt 0 (by omega)
      have f0 : (wr).frozen? ⟨g, j * 3, none⟩ = false := R0.out.frozen _
      have R1 : Hid (Rnd 82 3 g n c (P j) w wr (wr.setCell ⟨g, j * 3, none⟩ (.int .i64 ((x : Int)))) S F j [.int .i64 ((x : Int)), .int .i64 u.num, .string u.name]) := R0.out.set HSG.out 0 (by omega) (.int .i64 ((x : Int)))
      have d1 : ((wr.setCell ⟨g, j * 3, none⟩ (.int .i64 ((x : Int))))).cell? ⟨g, j * 3 + 1, none⟩ = some (.int .i64 u.num) := R1.out.cell hlt 1 (by omega)
      have f1 : ((wr.setCell ⟨g, j * 3, none⟩ (.int .i64 ((x : Int))))).frozen? ⟨g, j * 3 + 1, none⟩ = false := R1.out.frozen _
      have R2 : Hid (Rnd 82 3 g n c (P j) w wr ((wr.setCell ⟨g, j * 3, none⟩ (.int .i64 ((x : Int)))).setCell ⟨g, j * 3 + 1, none⟩ (.int .i64 ((x : Int) + 1))) S F j [.int .i64 ((x : Int)), .int .i64 ((x : Int) + 1), .string u.name]) := R1.out.set HSG.out 1 (by omega) (.int .i64 ((x : Int) + 1))
      go_wp2_with fail
      clear d0 f0 d1 f1
      refine (markText_at _ (x + 2) (by omega) ((wr.setCell ⟨g, j * 3, none⟩ (.int .i64 ((x : Int)))).setCell ⟨g, j * 3 + 1, none⟩ (.int .i64 ((x : Int) + 1))) (by omega) (by omega)).mono ?_
      rintro e w1 ⟨rfl, b1⟩
      have R3 : Hid (Rnd 82 3 g n c (P j) w wr w1 S F j [.int .i64 ((x : Int)), .int .i64 ((x : Int) + 1), .string u.name]) := R2.out.below b1
      clear b1
      have d2 : (w1).cell? ⟨g, j * 3 + 2, none⟩ = some (.string u.name) := R3.out.cell hlt 2 (by omega)
      have f2 : (w1).frozen? ⟨g, j * 3 + 2, none⟩ = false := R3.out.frozen _
      have R4 : Hid (Rnd 82 3 g n c (P j) w wr (w1.setCell ⟨g, j * 3 + 2, none⟩ (.string (mt (x + 2)))) S F j [.int .i64 ((x : Int)), .int .i64 ((x : Int) + 1), .string (mt (x + 2))]) := R3.out.set HSG.out 2 (by omega) (.string (mt (x + 2)))
      have EE : Hid (EOStp (w1.setCell ⟨g, j * 3 + 2, none⟩ (.string (mt (x + 2)))) (P j) (fun q => [.int .i64 ((x : Int)), .int .i64 ((x : Int) + 1), .string (mt (x + 2))].getD q default) (mStp x u)) := by
        exact ⟨congrArg (Value.int .i64) (show (x : Int) = (((x + 0) : Nat) : Int) by omega), congrArg (Value.int .i64) (show (x : Int) + 1 = (((x + 1) : Nat) : Int) by omega), congrArg (fun z : Nat => Value.string (mt z)) (show x + 2 = (x + 2) by omega)⟩
      obtain ⟨F', L', F2⟩ := Rnd.done keepsOStp (t := mStp x u) HR.out.1 hlt R4.out EE.out
      rw [MS'.out] at L'
      have L2 := Seg.hid L'
      have F3 := Seg.hid F2
      clear L' F2
      have HKK : Hid ((x : Int) + 1 + 1 + 1 = ((k + tot nStp (us.take (j + 1)) : Nat) : Int)) := by
        show _ = _
        have a1 := TK.out; have a2 := HX.out; simp only [nStp] at a1; omega
      go_wp2
      clear d2 f2
      go_roundw
      case rel => exact ⟨j + 1, F', by omega, by go_num, congrArg (Value.int .i64) HKK.out, L2.out, F3.out⟩
      case measure => simp [intOf]; omega
    · have : j = n := by omega
      subst this
      have E := HR.out
      rw [show mid mStp nStp k j us = mL mStp nStp k us by rw [← hlen.out]; exact mid_all _ _ _ _] at E
      have EH' := Seg.hid E
      clear E
      rw [KE.out]
      go_wp2
      go_ret
      exact ⟨F, rfl, EH'.out⟩
theorem markStepS_own (x : Int) (k : Nat) (hx : x = (k : Int)) (S : Nat → Prop) (us : List Stp) (w : World) {v : Value} (hk : 0 < k) (hk1 : k + tot nStp us ≤ 4000000000000000000) (hv : StpsOwn w S v us) :
    Calls Try.prog 67 #[v, .int .i64 x] w fun e w' => e = .returned (.int .i64 ((k + tot nStp us : Nat) : Int)) ∧ StpsOwn w' S v (mL mStp nStp k us) ∧ Foot w w' S := by
  subst hx
  obtain ⟨h0, A, c, rfl, h⟩ := hv
  by_cases hz : us.length = 0
  · obtain rfl := List.length_eq_zero_iff.1 hz
    exact (markStepS_none A c k w).mono fun e w' ⟨h1, h2⟩ => by
      subst h2
      exact ⟨by rw [h1]; rfl, LOwn.nil _ _ _ _, Foot.refl _ _⟩
  obtain ⟨g, F, P, rfl, h3, h4, h5⟩ := h.resolve_left hz
  refine (markStepS_core g us.length c k S P F us w h0 hk hk1 h3 h4 h5).mono fun e w' ⟨F', a1, a2, a3⟩ => ⟨a1, ⟨by rw [mL_len]; exact h0, _, c, by rw [mL_len], .inr ⟨g, F', P, rfl, h3, fun i hi => h4 i (by rw [mL_len] at hi; exact hi), ?_⟩⟩, a3⟩
  rw [mL_len]
  exact a2
end Go.Proofs.Ytboooabjeidmfaa.Ow
