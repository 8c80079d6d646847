/- Lists of Segment of the call's own; the law's marks on them. -/
import Derived.Test.YtafgakddhoabjaaOBat
import Derived.Test.YtafgakddhoabjaaTSgs
namespace Go.Proofs.Ytafgakddhoabjaa.Ow
set_option maxRecDepth 8000
open Go.RowKit
open Recs
open Ls
open SegW (Sg)
set_option linter.unusedVariables false
def EOSg : Elt Sg := fun w S f u => (f 0 = .int .i64 u.base) ∧ ∃ Q : Nat → Nat → Prop, (∀ i y, Q i y → S y) ∧ (∀ i j, i ≠ j → ∀ y, Q i y → ¬ Q j y) ∧ BatsOwn w (Q 1) (f 1) u.bats
theorem keepsOSg : KeepsO 2 EOSg := fun w w' S f f' t h hs hk hf => by
  obtain ⟨s0, Q, q1, q2, l1⟩ := h
  exact ⟨by rw [hf 0 (by omega)]; exact s0, Q, q1, q2, by rw [hf 1 (by omega)]; exact l1.keep keepsOBat hs (fun g hg => hk g (q1 _ g hg))⟩
theorem atOSg (w : World) (S : Nat → Prop) (f : Nat → Value) (u : Sg) (h : EOSg w S f u) : ESg w S f u := by
  obtain ⟨s0, Q, q1, q2, l1⟩ := h
  exact ⟨s0, (LOwn.lat growsBat atOBat l1).mono growsBat (q1 1)⟩
abbrev SgsOwn := LOwn 46 2 EOSg
def mSg (k : Nat) (u : Sg) : Sg := ⟨(((k + 0) : Nat) : Int), mL mBat nBat (k + 1) u.bats⟩
def nSg (u : Sg) : Nat := 1 + tot nBat u.bats
theorem markSegmentS_none (A : Option Addr) (c : Nat) (k : Int) (w : World) : Calls Try.prog 21 #[.slice A 0 c, .int .i64 k] w fun e w' => e = .returned (.int .i64 k) ∧ w = w' := by
  go_enter Try.func21, Try.ntmps21
  go_wp2
  go_loop [1, 5] (fun x i => i = .int .i64 0 ∧ x = .int .i64 k) (fun _ _ => 0)
  case atStart => exact ⟨rfl, rfl⟩
  case round =>
    obtain ⟨rfl, rfl⟩ := hrel
    go_wp2
    go_ret
    exact ⟨rfl, rfl⟩
set_option maxHeartbeats 3200000 in
theorem markSegmentS_core (g n c k : Nat) (S : Nat → Prop) (P : Nat → Nat → Prop) (F0 : Nat → Value) (us : List Sg) (w : World) (hn : n ≤ 1048576) (hk : 0 < k) (hk1 : k + tot nSg us ≤ 4000000000000000000) (hSg : S g) (hSP : ∀ i, i < n → ∀ y, P i y → S y) (ho : LOpen 46 2 EOSg w g n c F0 P us) :
    Calls Try.prog 21 #[.slice (some ⟨g, 0, none⟩) n c, .int .i64 k] w fun e w' => ∃ F, e = .returned (.int .i64 ((k + tot nSg us : Nat) : Int)) ∧ LOpen 46 2 EOSg w' g n c F P (mL mSg nSg k us) ∧ Foot w w' S := by
  have hc := ho.mine.le
  have hlen := Seg.hid ho.len
  have HM : Hid (LOpen 46 2 EOSg w g n c F0 P (mid mSg nSg k 0 us) ∧ Foot w w S) := ⟨by rw [mid_zero]; exact ho, Foot.refl _ _⟩
  have HSG := Seg.hid hSg; have HSP := Seg.hid hSP
  have KL : Hid (∀ j, j < n → k + tot nSg (us.take j) + nSg (us.getD j default) ≤ 4000000000000000000) := fun j hj => by
    have a1 := tot_take nSg (ts := us) (j := j) (by rw [hlen.out]; exact hj)
    have a2 := tot_le nSg us (j + 1)
    omega
  have KE : Hid (k + tot nSg (us.take n) = k + tot nSg us) := by show _ = _; rw [← hlen.out, List.take_length]
  clear ho hSg hSP hk1
  go_enter Try.func21, Try.ntmps21
  go_wp2
  go_loopw [1, 5] (fun x i wr => ∃ (j : Nat) (F : Nat → Value), j ≤ n ∧ i = .int .i64 j ∧ x = .int .i64 ((k + tot nSg (us.take j) : Nat) : Int) ∧ Hid (LOpen 46 2 EOSg wr g n c F P (mid mSg nSg k j us) ∧ Foot w wr S)) (fun _ i _ => n - (intOf i).toNat)
  case atStart => exact ⟨0, F0, Nat.zero_le _, rfl, rfl, HM.out⟩
  case round =>
    clear HM
    obtain ⟨j, F, hj, rfl, rfl, HR⟩ := hrel
    by_cases hlt : j < n
    · have h0 : (0 : Int) ≤ (j : Int) := by omega
      have h1 : (j : Int) < (n : Int) := by omega
      have EL := HR.out.1.el j hlt
      rw [mid_get mSg nSg (by rw [hlen.out]; exact hlt)] at EL
      have MS := mid_step mSg nSg (k := k) (ts := us) (j := j) (by rw [hlen.out]; exact hlt)
      have TK := Seg.hid (tot_take nSg (ts := us) (j := j) (by rw [hlen.out]; exact hlt))
      have hxb := KL.out j hlt
      have HAP := Seg.hid (HR.out.1.apart j hlt)
      obtain ⟨x, hx⟩ : ∃ x, k + tot nSg (us.take j) = x := ⟨_, rfl⟩
      have HX := Seg.hid hx
      rw [hx] at hxb MS ⊢
      have hx0 : 0 < x := by omega
      clear hx
      have MS' := Seg.hid MS
      clear MS
      generalize us.getD j default = u at *
      have HXB := Seg.hid hxb
      clear hxb
      obtain ⟨s0, Q, q1, q2, l1⟩ := EL
      obtain ⟨A1, c1, g1⟩ := l1.form
      have O0_1 : Hid (BatsOwn wr (Q 1) (.slice A1 u.bats.length c1) u.bats) := by
        have := l1
        rw [g1] at this
        exact this
      have QP := Seg.hid q1
      have QD := Seg.hid q2
      have R0 : Hid (Rnd 46 2 g n c (P j) w wr wr S F j [.int .i64 u.base, .slice A1 u.bats.length c1]) := Rnd.start HR.out.1.mine HR.out.2 rfl (fun q hq => by
        match q, hq with
        | 0, _ => exact s0
        | 1, _ => exact g1)
      clear s0 l1 g1 q1 q2
      have QG : Hid (∀ i y, Q i y → y ≠ g) := fun i y hy => (HAP.out y (QP.out i y hy)).1
      have QL : Hid (∀ i y, Q i y → y < wr.heap.size) := fun i y hy => (HAP.out y (QP.out i y hy)).2
      have HB_x : Hid (x + 1 + tot nBat u.bats ≤ 4000000000000000000) := by show _ ≤ _; have := HXB.out; simp only [nSg] at this; omega
      have hc_x : x + 2 ≤ 4000000000000000000 + 2 := by have := HB_x.out; omega
      have hd_x : x + 1 ≤ 4000000000000000000 := by have := HB_x.out; omega
      have d0 : (wr).cell? ⟨g, j * 2, none⟩ = some (.int .i64 u.base) := R0.out.cell hlt 0 (by omega)
      have f0 : (wr).frozen? ⟨g, j * 2, none⟩ = false := R0.out.frozen _
      have R1 : Hid (Rnd 46 2 g n c (P j) w wr (wr.setCell ⟨g, j * 2, none⟩ (.int .i64 ((x : Int)))) S F j [.int .i64 ((x : Int)), .slice A1 u.bats.length c1]) := R0.out.set HSG.out 0 (by omega) (.int .i64 ((x : Int)))
      have O1_1 : Hid (BatsOwn (wr.setCell ⟨g, j * 2, none⟩ (.int .i64 ((x : Int)))) (Q 1) (.slice A1 u.bats.length c1) (u.bats)) := O0_1.out.set keepsOBat _ (QG.out 1) _
      have d1 : ((wr.setCell ⟨g, j * 2, none⟩ (.int .i64 ((x : Int))))).cell? ⟨g, j * 2 + 1, none⟩ = some (.slice A1 u.bats.length c1) := R1.out.cell hlt 1 (by omega)
      go_wp2_with fail
      clear d0 f0 d1
      refine (markBatchS_own _ (x + 1) (by omega) (Q 1) u.bats (wr.setCell ⟨g, j * 2, none⟩ (.int .i64 ((x : Int)))) (by omega) (by have := HB_x.out; omega) O1_1.out).mono ?_
      rintro e w1 ⟨rfl, o1, t1⟩
      have R2 : Hid (Rnd 46 2 g n c (P j) w wr w1 S F j [.int .i64 ((x : Int)), .slice A1 u.bats.length c1]) := R1.out.foot t1 (QP.out 1) (fun h => (HAP.out g h).1 rfl) (HSP.out j hlt)
      have O2_1 : Hid (BatsOwn w1 (Q 1) (.slice A1 u.bats.length c1) (mL mBat nBat (x + 1) u.bats)) := o1
      clear o1 t1
      obtain ⟨y1, hy1⟩ : ∃ y1, x + 1 + tot nBat u.bats = y1 := ⟨_, rfl⟩
      rw [hy1]
      have Hy1 := Seg.hid hy1
      have HB_y1 : Hid (y1 + 0 ≤ 4000000000000000000) := by show _ ≤ _; have := HB_x.out; omega
      have hd_y1 : y1 + 0 ≤ 4000000000000000000 := by have := HB_y1.out; omega
      have hp_y1 : 0 < y1 := by omega
      clear hy1
      have EE : Hid (EOSg w1 (P j) (fun q => [.int .i64 ((x : Int)), .slice A1 u.bats.length c1].getD q default) (mSg x u)) := by
        refine ⟨?_, Q, QP.out, QD.out, ?_⟩
        · exact congrArg (Value.int .i64) (show (x : Int) = (((x + 0) : Nat) : Int) by have z0 := Hy1.out; omega)
        · have hz : x + 1 = (x + 1) := by (have z0 := Hy1.out; omega)
          have ho := O2_1.out
          rw [hz] at ho
          exact ho
      obtain ⟨F', L', F2⟩ := Rnd.done keepsOSg (t := mSg x u) HR.out.1 hlt R2.out EE.out
      rw [MS'.out] at L'
      have L2 := Seg.hid L'
      have F3 := Seg.hid F2
      clear L' F2
      have HKK : Hid ((y1 : Int) = ((k + tot nSg (us.take (j + 1)) : Nat) : Int)) := by
        show _ = _
        have z0 := Hy1.out; have a1 := TK.out; have a2 := HX.out; simp only [nSg] at a1; omega
      go_wp2
      go_roundw
      case rel => exact ⟨j + 1, F', by omega, by go_num, congrArg (Value.int .i64) HKK.out, L2.out, F3.out⟩
      case measure => simp [intOf]; omega
    · have : j = n := by omega
      subst this
      have E := HR.out
      rw [show mid mSg nSg k j us = mL mSg nSg k us by rw [← hlen.out]; exact mid_all _ _ _ _] at E
      have EH' := Seg.hid E
      clear E
      rw [KE.out]
      go_wp2
      go_ret
      exact ⟨F, rfl, EH'.out⟩
theorem markSegmentS_own (x : Int) (k : Nat) (hx : x = (k : Int)) (S : Nat → Prop) (us : List Sg) (w : World) {v : Value} (hk : 0 < k) (hk1 : k + tot nSg us ≤ 4000000000000000000) (hv : SgsOwn w S v us) :
    Calls Try.prog 21 #[v, .int .i64 x] w fun e w' => e = .returned (.int .i64 ((k + tot nSg us : Nat) : Int)) ∧ SgsOwn w' S v (mL mSg nSg k us) ∧ Foot w w' S := by
  subst hx
  obtain ⟨h0, A, c, rfl, h⟩ := hv
  by_cases hz : us.length = 0
  · obtain rfl := List.length_eq_zero_iff.1 hz
    exact (markSegmentS_none A c k w).mono fun e w' ⟨h1, h2⟩ => by
      subst h2
      exact ⟨by rw [h1]; rfl, LOwn.nil _ _ _ _, Foot.refl _ _⟩
  obtain ⟨g, F, P, rfl, h3, h4, h5⟩ := h.resolve_left hz
  refine (markSegmentS_core g us.length c k S P F us w h0 hk hk1 h3 h4 h5).mono fun e w' ⟨F', a1, a2, a3⟩ => ⟨a1, ⟨by rw [mL_len]; exact h0, _, c, by rw [mL_len], .inr ⟨g, F', P, rfl, h3, fun i hi => h4 i (by rw [mL_len] at hi; exact hi), ?_⟩⟩, a3⟩
  rw [mL_len]
  exact a2
end Go.Proofs.Ytafgakddhoabjaa.Ow
