/- Lists of Member with marks: the law's look at these. -/
import Derived.Test.YtokoollljobfgaaOMbr
import Derived.Test.YtokoollljobfgaaMkXh
import Derived.Test.YtokoollljobfgaaHSlt
namespace Go.Proofs.Ytokoollljobfgaa.Ow
set_option maxRecDepth 8000
open Go.RowKit
open Recs
open Ls
set_option linter.unusedVariables false
theorem heldMemberS_none (A : Option Addr) (c : Nat) (k : Int) (w : World) : Calls Try.prog 35 #[.slice A 0 c, .int .i64 k] w fun e w' => e = .returned (.int .i64 k) ∧ Below w.heap.size w w' := by
  go_enter Try.func35, Try.ntmps35
  go_wp2
  go_loop [1, 5] (fun x i => i = .int .i64 0 ∧ x = .int .i64 k) (fun _ _ => 0)
  case atStart => exact ⟨rfl, rfl⟩
  case round =>
    obtain ⟨rfl, rfl⟩ := hrel
    go_wp2
    go_ret
    exact ⟨rfl, Below.refl _ _⟩
set_option maxHeartbeats 3200000 in
theorem heldMemberS_core (g o n c k : Nat) (us : List Mbr) (F : Nat → Nat → Value) (w : World) (S : Nat → Prop) (hn : n ≤ 9223372036854775807) (hc : n ≤ c) (hg : g < w.heap.size) (hS : ∀ g, S g → g < w.heap.size) (hnl : us.length = n) (hk : 0 < k) (hk1 : k + tot nMbr us ≤ 4000000000000000000)
    (ha : ∀ i, i < n → ∀ j, j < 7 → w.cell? ⟨g, o + i * 7 + j, none⟩ = some (F i j)) (he : ∀ i, i < n → EMbr w S (F i) (mMbr (k + tot nMbr (us.take i)) (us.getD i default))) :
    Calls Try.prog 35 #[.slice (some ⟨g, o, none⟩) n c, .int .i64 k] w fun e w' => e = .returned (.int .i64 ((k + tot nMbr us : Nat) : Int)) ∧ Below w.heap.size w w' := by
  have HA := Seg.hid ha; have HE := Seg.hid he
  have HN := Seg.hid hnl
  have KL : Hid (∀ j, j < n → k + tot nMbr (us.take j) + nMbr (us.getD j default) ≤ 4000000000000000000) := fun j hj => by
    have a1 := tot_take nMbr (ts := us) (j := j) (by rw [HN.out]; exact hj)
    have a2 := tot_le nMbr us (j + 1)
    omega
  have KE : Hid (k + tot nMbr (us.take n) = k + tot nMbr us) := by show _ = _; rw [← HN.out, List.take_length]
  clear ha he hk1 hnl
  go_enter Try.func35, Try.ntmps35
  go_wp2
  go_loopw [1, 5] (fun x i wr => ∃ (j : Nat), j ≤ n ∧ i = .int .i64 j ∧ x = .int .i64 ((k + tot nMbr (us.take j) : Nat) : Int) ∧ Hid (Below w.heap.size w wr)) (fun _ i _ => n - (intOf i).toNat)
  case atStart => exact ⟨0, Nat.zero_le _, rfl, rfl, Below.refl _ _⟩
  case round =>
    obtain ⟨j, hj, rfl, rfl, HR⟩ := hrel
    by_cases hlt : j < n
    · have h0 : (0 : Int) ≤ (j : Int) := by omega
      have h1 : (j : Int) < (n : Int) := by omega
      have EL := HE.out j hlt
      have TK := Seg.hid (tot_take nMbr (ts := us) (j := j) (by rw [HN.out]; exact hlt))
      have hxb := KL.out j hlt
      have HC : Hid (∀ w', Below w.heap.size w w' → ∀ q, q < 7 → w'.cell? ⟨g, o + j * 7 + q, none⟩ = some (F j q)) := fun w' hb q hq => by rw [hb.cell (p := ⟨g, o + j * 7 + q, none⟩) hg]; exact HA.out j hlt q hq
      obtain ⟨x, hx⟩ : ∃ x, k + tot nMbr (us.take j) = x := ⟨_, rfl⟩
      have HX := Seg.hid hx
      rw [hx] at hxb EL ⊢
      have hx0 : 0 < x := by omega
      clear hx
      generalize us.getD j default = u at *
      have HXB := Seg.hid hxb
      clear hxb
      obtain ⟨s0, s1, s2, s3, s4, s5, s6⟩ := EL
      obtain ⟨A2, c2, g2⟩ := s2.form
      have M2 : Hid (StrsAt w S (.slice A2 u.wants.length c2) (mL mX nX (x + 2) u.wants) ∧ F j 2 = .slice A2 u.wants.length c2) := by
        have hl : (mMbr x u).wants.length = u.wants.length := mL_len _ _ _ _
        rw [hl] at g2
        have h := s2
        rw [g2] at h
        exact ⟨h, g2⟩
      obtain ⟨A5, c5, g5⟩ := s5.form
      have M5 : Hid (LAt 2 ESlt w S (.slice A5 u.owns.length c5) (mL mSlt nSlt (x + 4 + tot nX u.wants) u.owns) ∧ F j 5 = .slice A5 u.owns.length c5) := by
        have hl : (mMbr x u).owns.length = u.owns.length := mL_len _ _ _ _
        rw [hl] at g5
        have h := s5
        rw [g5] at h
        exact ⟨h, g5⟩
      obtain ⟨A6, c6, g6⟩ := s6.form
      have M6 : Hid (LAt 2 ESlt w S (.slice A6 u.target.length c6) (mL mSlt nSlt (x + 4 + tot nX u.wants + tot nSlt u.owns) u.target) ∧ F j 6 = .slice A6 u.target.length c6) := by
        have hl : (mMbr x u).target.length = u.target.length := mL_len _ _ _ _
        rw [hl] at g6
        have h := s6
        rw [g6] at h
        exact ⟨h, g6⟩
      have HB_x : Hid (x + 4 + tot nX u.wants + tot nSlt u.owns + tot nSlt u.target ≤ 4000000000000000000) := by show _ ≤ _; have := HXB.out; simp only [nMbr] at this; omega
      have hd_x : x + 2 ≤ 4000000000000000000 := by have := HB_x.out; omega
      have S0 := Seg.hid s0
      have S1 := Seg.hid s1
      have S3 := Seg.hid s3
      have S4 := Seg.hid s4
      clear s0 s1 s2 s3 s4 s5 s6 g2 g5 g6
      have c0 : wr.cell? ⟨g, o + j * 7, none⟩ = some (.string (mt (x + 0))) := (HC.out _ HR.out 0 (by omega)).trans (by rw [S0.out]; exact congrArg (fun z : Nat => some (Value.string (mt z))) (show (x + 0) = x + 0 by omega))
      have c0d : wr.drew.cell? ⟨g, o + j * 7, none⟩ = some (.string (mt (x + 0))) := c0
      go_wp2_with fail
      go_region_with (go_at_call 54; refine (markText_at _ (x + 0) (by omega) wr.drew (by omega) (by omega)).mono ?_; rintro e w1 ⟨rfl, b1⟩; have B1 : Hid (Below w.heap.size w w1) := chainD HR.out b1; clear b1; have c0e : w1.cell? ⟨g, o + j * 7, none⟩ = some (.string (mt (x + 0))) := (HC.out _ B1.out 0 (by omega)).trans ((HC.out _ HR.out 0 (by omega)).symm.trans c0))
      all_goals
        try clear c0
        try clear c0d
        try clear c0e
        have c1 : w1.cell? ⟨g, o + j * 7 + 1, none⟩ = some (.string (mt (x + 1))) := (HC.out _ B1.out 1 (by omega)).trans (by rw [S1.out]; exact congrArg (fun z : Nat => some (Value.string (mt z))) (show (x + 1) = x + 1 by omega))
        have c1d : w1.drew.cell? ⟨g, o + j * 7 + 1, none⟩ = some (.string (mt (x + 1))) := c1
        go_wp2_with fail
        go_region_with (go_at_call 54; refine (markText_at _ (x + 1) (by omega) w1.drew (by omega) (by omega)).mono ?_; rintro e w2 ⟨rfl, b2⟩; have B2 : Hid (Below w.heap.size w w2) := chainD B1.out b2; clear b2; have c1e : w2.cell? ⟨g, o + j * 7 + 1, none⟩ = some (.string (mt (x + 1))) := (HC.out _ B2.out 1 (by omega)).trans ((HC.out _ B1.out 1 (by omega)).symm.trans c1))
        all_goals
          try clear c1
          try clear c1d
          try clear c1e
          have c2 : w2.cell? ⟨g, o + j * 7 + 2, none⟩ = some (.slice A2 u.wants.length c2) := (HC.out _ B2.out 2 (by omega)).trans (congrArg some M2.out.2)
          go_wp2_with fail
          clear c2
          refine (heldStringS_at _ (x + 2) (by omega) S u.wants w2 (by omega) (by have := HB_x.out; omega) (fun g hg => Nat.lt_of_lt_of_le (hS g hg) B2.out.size) (by have h := M2.out.1; rw [show (x + 2) = x + 2 by omega] at h; exact h.below keepsStr B2.out hS)).mono ?_
          rintro e w3 ⟨rfl, b3⟩
          have B3 := Seg.hid (chain B2.out b3)
          clear b3
          obtain ⟨y3, hy3⟩ : ∃ y3, x + 2 + tot nX u.wants = y3 := ⟨_, rfl⟩
          rw [hy3]
          have Hy3 := Seg.hid hy3
          have HB_y3 : Hid (y3 + 2 + tot nSlt u.owns + tot nSlt u.target ≤ 4000000000000000000) := by show _ ≤ _; have := HB_x.out; omega
          have hd_y3 : y3 + 2 ≤ 4000000000000000000 := by have := HB_y3.out; omega
          have hp_y3 : 0 < y3 := by omega
          have hq_y3 : ¬ (y3 : Int) < 0 := by omega
          clear hy3
          have c3 : w3.cell? ⟨g, o + j * 7 + 3, none⟩ = some (.int .i64 ((y3 : Int))) := (HC.out _ B3.out 3 (by omega)).trans (by rw [S3.out]; exact congrArg (fun z : Int => some (Value.int .i64 z)) (show (((x + 2 + tot nX u.wants) : Nat) : Int) = (y3 : Int) by have z0 := Hy3.out; omega))
          have c4 : w3.cell? ⟨g, o + j * 7 + 4, none⟩ = some (.int .i64 ((y3 : Int) + 1)) := (HC.out _ B3.out 4 (by omega)).trans (by rw [S4.out]; exact congrArg (fun z : Int => some (Value.int .i64 z)) (show (((x + 3 + tot nX u.wants) : Nat) : Int) = (y3 : Int) + 1 by have z0 := Hy3.out; omega))
          have c5 : w3.cell? ⟨g, o + j * 7 + 5, none⟩ = some (.slice A5 u.owns.length c5) := (HC.out _ B3.out 5 (by omega)).trans (congrArg some M5.out.2)
          go_wp2_with fail
          clear c3 c4 c5
          refine (heldSlotS_at _ (y3 + 2) (by omega) S u.owns w3 (by omega) (by have := HB_y3.out; omega) (fun g hg => Nat.lt_of_lt_of_le (hS g hg) B3.out.size) (by have h := M5.out.1; rw [show (x + 4 + tot nX u.wants) = y3 + 2 by have z0 := Hy3.out; omega] at h; exact h.below keepsSlt B3.out hS)).mono ?_
          rintro e w4 ⟨rfl, b4⟩
          have B4 := Seg.hid (chain B3.out b4)
          clear b4
          obtain ⟨y4, hy4⟩ : ∃ y4, y3 + 2 + tot nSlt u.owns = y4 := ⟨_, rfl⟩
          rw [hy4]
          have Hy4 := Seg.hid hy4
          have HB_y4 : Hid (y4 + 0 + tot nSlt u.target ≤ 4000000000000000000) := by show _ ≤ _; have := HB_y3.out; omega
          have hd_y4 : y4 + 0 ≤ 4000000000000000000 := by have := HB_y4.out; omega
          have hp_y4 : 0 < y4 := by omega
          have hq_y4 : ¬ (y4 : Int) < 0 := by omega
          clear hy4
          have c6 : w4.cell? ⟨g, o + j * 7 + 6, none⟩ = some (.slice A6 u.target.length c6) := (HC.out _ B4.out 6 (by omega)).trans (congrArg some M6.out.2)
          go_wp2_with fail
          clear c6
          refine (heldSlotS_at _ (y4 + 0) (by omega) S u.target w4 (by omega) (by have := HB_y4.out; omega) (fun g hg => Nat.lt_of_lt_of_le (hS g hg) B4.out.size) (by have h := M6.out.1; rw [show (x + 4 + tot nX u.wants + tot nSlt u.owns) = y4 + 0 by have z0 := Hy3.out; have z1 := Hy4.out; omega] at h; exact h.below keepsSlt B4.out hS)).mono ?_
          rintro e w5 ⟨rfl, b5⟩
          have B5 := Seg.hid (chain B4.out b5)
          clear b5
          obtain ⟨y5, hy5⟩ : ∃ y5, y4 + 0 + tot nSlt u.target = y5 := ⟨_, rfl⟩
          rw [hy5]
          have Hy5 := Seg.hid hy5
          have HB_y5 : Hid (y5 + 0 ≤ 4000000000000000000) := by show _ ≤ _; have := HB_y4.out; omega
          have hd_y5 : y5 + 0 ≤ 4000000000000000000 := by have := HB_y5.out; omega
          have hp_y5 : 0 < y5 := by omega
          have hq_y5 : ¬ (y5 : Int) < 0 := by omega
          clear hy5
          have HKK : Hid ((y5 : Int) = ((k + tot nMbr (us.take (j + 1)) : Nat) : Int)) := by
            show _ = _
            have z0 := Hy3.out; have z1 := Hy4.out; have z2 := Hy5.out; have a1 := TK.out; have a2 := HX.out; simp only [nMbr] at a1; omega
          go_wp2
          go_roundw
          case rel => exact ⟨j + 1, by omega, by go_num, congrArg (Value.int .i64) HKK.out, B5.out⟩
          case measure => simp [intOf]; omega
    · have : j = n := by omega
      subst this
      rw [KE.out]
      go_wp2
      go_ret
      exact ⟨rfl, HR.out⟩
theorem heldMemberS_at (x : Int) (k : Nat) (hx : x = (k : Int)) (S : Nat → Prop) (us : List Mbr) (w : World) {v : Value} (hk : 0 < k) (hk1 : k + tot nMbr us ≤ 4000000000000000000) (hS : ∀ g, S g → g < w.heap.size) (hv : LAt 7 EMbr w S v (mL mMbr nMbr k us)) :
    Calls Try.prog 35 #[v, .int .i64 x] w fun e w' => e = .returned (.int .i64 ((k + tot nMbr us : Nat) : Int)) ∧ Below w.heap.size w w' := by
  subst hx
  obtain ⟨hn, A, c, rfl, h⟩ := hv
  rw [mL_len] at hn h ⊢
  by_cases hz : us.length = 0
  · obtain rfl := List.length_eq_zero_iff.1 hz
    exact heldMemberS_none A c k w
  obtain ⟨g, o, F, rfl, hg, hc, hcell, hel⟩ := h.resolve_left hz
  exact heldMemberS_core g o us.length c k us F w S hn hc (hS g hg) hS rfl hk hk1 hcell (fun i hi => by have := hel i hi; rw [mL_get mMbr nMbr hi] at this; exact this)
end Go.Proofs.Ytokoollljobfgaa.Ow
