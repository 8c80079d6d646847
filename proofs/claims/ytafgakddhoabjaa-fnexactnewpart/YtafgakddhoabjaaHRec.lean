/- Lists of Record with marks: the law's look at these. -/
import Derived.Test.YtafgakddhoabjaaORec
import Derived.Test.YtafgakddhoabjaaHHd
namespace Go.Proofs.Ytafgakddhoabjaa.Ow
set_option maxRecDepth 8000
open Go.RowKit
open Recs
open Ls
set_option linter.unusedVariables false
theorem heldRecordS_none (A : Option Addr) (c : Nat) (k : Int) (w : World) : Calls Try.prog 28 #[.slice A 0 c, .int .i64 k] w fun e w' => e = .returned (.int .i64 k) ∧ Below w.heap.size w w' := by
  go_enter Try.func28, Try.ntmps28
  go_wp2
  go_loop [1, 5] (fun x i => i = .int .i64 0 ∧ x = .int .i64 k) (fun _ _ => 0)
  case atStart => exact ⟨rfl, rfl⟩
  case round =>
    obtain ⟨rfl, rfl⟩ := hrel
    go_wp2
    go_ret
    exact ⟨rfl, Below.refl _ _⟩
set_option maxHeartbeats 3200000 in
theorem heldRecordS_core (g o n c k : Nat) (us : List Rec) (F : Nat → Nat → Value) (w : World) (S : Nat → Prop) (hn : n ≤ 9223372036854775807) (hc : n ≤ c) (hg : g < w.heap.size) (hS : ∀ g, S g → g < w.heap.size) (hnl : us.length = n) (hk : 0 < k) (hk1 : k + tot nRec us ≤ 4000000000000000000)
    (ha : ∀ i, i < n → ∀ j, j < 6 → w.cell? ⟨g, o + i * 6 + j, none⟩ = some (F i j)) (he : ∀ i, i < n → ERec w S (F i) (mRec (k + tot nRec (us.take i)) (us.getD i default))) :
    Calls Try.prog 28 #[.slice (some ⟨g, o, none⟩) n c, .int .i64 k] w fun e w' => e = .returned (.int .i64 ((k + tot nRec us : Nat) : Int)) ∧ Below w.heap.size w w' := by
  have HA := Seg.hid ha; have HE := Seg.hid he
  have HN := Seg.hid hnl
  have KL : Hid (∀ j, j < n → k + tot nRec (us.take j) + nRec (us.getD j default) ≤ 4000000000000000000) := fun j hj => by
    have a1 := tot_take nRec (ts := us) (j := j) (by rw [HN.out]; exact hj)
    have a2 := tot_le nRec us (j + 1)
    omega
  have KE : Hid (k + tot nRec (us.take n) = k + tot nRec us) := by show _ = _; rw [← HN.out, List.take_length]
  clear ha he hk1 hnl
  go_enter Try.func28, Try.ntmps28
  go_wp2
  go_loopw [1, 5] (fun x i wr => ∃ (j : Nat), j ≤ n ∧ i = .int .i64 j ∧ x = .int .i64 ((k + tot nRec (us.take j) : Nat) : Int) ∧ Hid (Below w.heap.size w wr)) (fun _ i _ => n - (intOf i).toNat)
  case atStart => exact ⟨0, Nat.zero_le _, rfl, rfl, Below.refl _ _⟩
  case round =>
    obtain ⟨j, hj, rfl, rfl, HR⟩ := hrel
    by_cases hlt : j < n
    · have h0 : (0 : Int) ≤ (j : Int) := by omega
      have h1 : (j : Int) < (n : Int) := by omega
      have EL := HE.out j hlt
      have TK := Seg.hid (tot_take nRec (ts := us) (j := j) (by rw [HN.out]; exact hlt))
      have hxb := KL.out j hlt
      have HC : Hid (∀ w', Below w.heap.size w w' → ∀ q, q < 6 → w'.cell? ⟨g, o + j * 6 + q, none⟩ = some (F j q)) := fun w' hb q hq => by rw [hb.cell (p := ⟨g, o + j * 6 + q, none⟩) hg]; exact HA.out j hlt q hq
      obtain ⟨x, hx⟩ : ∃ x, k + tot nRec (us.take j) = x := ⟨_, rfl⟩
      have HX := Seg.hid hx
      rw [hx] at hxb EL ⊢
      have hx0 : 0 < x := by omega
      clear hx
      generalize us.getD j default = u at *
      have HXB := Seg.hid hxb
      clear hxb
      obtain ⟨s0, s1, s2, s3, s4, s5⟩ := EL
      obtain ⟨A5, c5, g5⟩ := s5.form
      have M5 : Hid (LAt 2 EHd w S (.slice A5 u.heads.length c5) (mL mHd nHd (x + 5) u.heads) ∧ F j 5 = .slice A5 u.heads.length c5) := by
        have hl : (mRec x u).heads.length = u.heads.length := mL_len _ _ _ _
        rw [hl] at g5
        have h := s5
        rw [g5] at h
        exact ⟨h, g5⟩
      have HB_x : Hid (x + 5 + tot nHd u.heads ≤ 4000000000000000000) := by show _ ≤ _; have := HXB.out; simp only [nRec] at this; omega
      have hd_x : x + 5 ≤ 4000000000000000000 := by have := HB_x.out; omega
      have S0 := Seg.hid s0
      have S1 := Seg.hid s1
      have S2 := Seg.hid s2
      have S3 := Seg.hid s3
      have S4 := Seg.hid s4
      clear s0 s1 s2 s3 s4 s5 g5
      have c0 : wr.cell? ⟨g, o + j * 6, none⟩ = some (.int .i64 ((x : Int))) := (HC.out _ HR.out 0 (by omega)).trans (by rw [S0.out]; exact congrArg (fun z : Int => some (Value.int .i64 z)) (show (((x + 0) : Nat) : Int) = (x : Int) by omega))
      have c1 : wr.cell? ⟨g, o + j * 6 + 1, none⟩ = some (.bool (((x : Int) + 1) % 3 == 0)) := (HC.out _ HR.out 1 (by omega)).trans (by rw [S1.out]; exact congrArg (fun z : Int => some (Value.bool (z % 3 == 0))) (show (((x + 1) : Nat) : Int) = (x : Int) + 1 by omega))
      have c2 : wr.cell? ⟨g, o + j * 6 + 2, none⟩ = some (.string (mt (x + 2))) := (HC.out _ HR.out 2 (by omega)).trans (by rw [S2.out]; exact congrArg (fun z : Nat => some (Value.string (mt z))) (show (x + 2) = x + 2 by omega))
      have c2d : wr.drew.cell? ⟨g, o + j * 6 + 2, none⟩ = some (.string (mt (x + 2))) := c2
      go_wp2_with fail
      go_region_with (go_at_call 30; refine (markText_at _ (x + 2) (by omega) wr.drew (by omega) (by omega)).mono ?_; rintro e w1 ⟨rfl, b1⟩; have B1 : Hid (Below w.heap.size w w1) := chainD HR.out b1; clear b1; have c2e : w1.cell? ⟨g, o + j * 6 + 2, none⟩ = some (.string (mt (x + 2))) := (HC.out _ B1.out 2 (by omega)).trans ((HC.out _ HR.out 2 (by omega)).symm.trans c2))
      all_goals
        try clear c0
        try clear c1
        try clear c2
        try clear c2d
        try clear c2e
        have c3 : w1.cell? ⟨g, o + j * 6 + 3, none⟩ = some (.bool (((x : Int) + 1 + 1 + 1) % 3 == 0)) := (HC.out _ B1.out 3 (by omega)).trans (by rw [S3.out]; exact congrArg (fun z : Int => some (Value.bool (z % 3 == 0))) (show (((x + 3) : Nat) : Int) = (x : Int) + 1 + 1 + 1 by omega))
        have c4 : w1.cell? ⟨g, o + j * 6 + 4, none⟩ = some (.string (mt (x + 4))) := (HC.out _ B1.out 4 (by omega)).trans (by rw [S4.out]; exact congrArg (fun z : Nat => some (Value.string (mt z))) (show (x + 4) = x + 4 by omega))
        have c4d : w1.drew.cell? ⟨g, o + j * 6 + 4, none⟩ = some (.string (mt (x + 4))) := c4
        go_wp2_with fail
        go_region_with (go_at_call 30; refine (markText_at _ (x + 4) (by omega) w1.drew (by omega) (by omega)).mono ?_; rintro e w2 ⟨rfl, b2⟩; have B2 : Hid (Below w.heap.size w w2) := chainD B1.out b2; clear b2; have c4e : w2.cell? ⟨g, o + j * 6 + 4, none⟩ = some (.string (mt (x + 4))) := (HC.out _ B2.out 4 (by omega)).trans ((HC.out _ B1.out 4 (by omega)).symm.trans c4))
        all_goals
          try clear c3
          try clear c4
          try clear c4d
          try clear c4e
          have c5 : w2.cell? ⟨g, o + j * 6 + 5, none⟩ = some (.slice A5 u.heads.length c5) := (HC.out _ B2.out 5 (by omega)).trans (congrArg some M5.out.2)
          go_wp2_with fail
          clear c5
          refine (heldHeadS_at _ (x + 5) (by omega) S u.heads w2 (by omega) (by have := HB_x.out; omega) (fun g hg => Nat.lt_of_lt_of_le (hS g hg) B2.out.size) (by have h := M5.out.1; rw [show (x + 5) = x + 5 by omega] at h; exact h.below keepsHd B2.out hS)).mono ?_
          rintro e w3 ⟨rfl, b3⟩
          have B3 := Seg.hid (chain B2.out b3)
          clear b3
          obtain ⟨y3, hy3⟩ : ∃ y3, x + 5 + tot nHd u.heads = y3 := ⟨_, rfl⟩
          rw [hy3]
          have Hy3 := Seg.hid hy3
          have HB_y3 : Hid (y3 + 0 ≤ 4000000000000000000) := by show _ ≤ _; have := HB_x.out; omega
          have hd_y3 : y3 + 0 ≤ 4000000000000000000 := by have := HB_y3.out; omega
          have hp_y3 : 0 < y3 := by omega
          have hq_y3 : ¬ (y3 : Int) < 0 := by omega
          clear hy3
          have HKK : Hid ((y3 : Int) = ((k + tot nRec (us.take (j + 1)) : Nat) : Int)) := by
            show _ = _
            have z0 := Hy3.out; have a1 := TK.out; have a2 := HX.out; simp only [nRec] at a1; omega
          go_wp2
          go_roundw
          case rel => exact ⟨j + 1, by omega, by go_num, congrArg (Value.int .i64) HKK.out, B3.out⟩
          case measure => simp [intOf]; omega
    · have : j = n := by omega
      subst this
      rw [KE.out]
      go_wp2
      go_ret
      exact ⟨rfl, HR.out⟩
theorem heldRecordS_at (x : Int) (k : Nat) (hx : x = (k : Int)) (S : Nat → Prop) (us : List Rec) (w : World) {v : Value} (hk : 0 < k) (hk1 : k + tot nRec us ≤ 4000000000000000000) (hS : ∀ g, S g → g < w.heap.size) (hv : LAt 6 ERec w S v (mL mRec nRec k us)) :
    Calls Try.prog 28 #[v, .int .i64 x] w fun e w' => e = .returned (.int .i64 ((k + tot nRec us : Nat) : Int)) ∧ Below w.heap.size w w' := by
  subst hx
  obtain ⟨hn, A, c, rfl, h⟩ := hv
  rw [mL_len] at hn h ⊢
  by_cases hz : us.length = 0
  · obtain rfl := List.length_eq_zero_iff.1 hz
    exact heldRecordS_none A c k w
  obtain ⟨g, o, F, rfl, hg, hc, hcell, hel⟩ := h.resolve_left hz
  exact heldRecordS_core g o us.length c k us F w S hn hc (hS g hg) hS rfl hk hk1 hcell (fun i hi => by have := hel i hi; rw [mL_get mRec nRec hi] at this; exact this)
end Go.Proofs.Ytafgakddhoabjaa.Ow
