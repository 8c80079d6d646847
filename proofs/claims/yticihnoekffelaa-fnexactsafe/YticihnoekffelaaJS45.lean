/- Lists of Head with marks: the law's look at these; Lists of Record with marks: the law's look at these; Lists of Batch with marks: the law's look at these. -/
import Derived.Test.YticihnoekffelaaJS39
import Derived.Test.YticihnoekffelaaJS40
namespace Go.Proofs.Yticihnoekffelaa.Ow
set_option maxRecDepth 8000
open Go.RowKit
open Recs
open Ls
set_option linter.unusedVariables false
theorem heldHeadS_none (A : Option Addr) (c : Nat) (k : Int) (w : World) : Calls Try.prog 76 #[.slice A 0 c, .int .i64 k] w fun e w' => e = .returned (.int .i64 k) ∧ Below w.heap.size w w' := by
  go_enter Try.func76, Try.ntmps76
  go_wp2
  go_loop [1, 5] (fun x i => i = .int .i64 0 ∧ x = .int .i64 k) (fun _ _ => 0)
  case atStart => exact ⟨rfl, rfl⟩
  case round =>
    obtain ⟨rfl, rfl⟩ := hrel
    go_wp2
    go_ret
    exact ⟨rfl, Below.refl _ _⟩
set_option maxHeartbeats 3200000 in
theorem heldHeadS_core (g o n c k : Nat) (us : List Hd) (F : Nat → Nat → Value) (w : World) (S : Nat → Prop) (hn : n ≤ 9223372036854775807) (hc : n ≤ c) (hg : g < w.heap.size) (hS : ∀ g, S g → g < w.heap.size) (hnl : us.length = n) (hk : 0 < k) (hk1 : k + tot nHd us ≤ 4000000000000000000)
    (ha : ∀ i, i < n → ∀ j, j < 2 → w.cell? ⟨g, o + i * 2 + j, none⟩ = some (F i j)) (he : ∀ i, i < n → EHd w S (F i) (mHd (k + tot nHd (us.take i)) (us.getD i default))) :
    Calls Try.prog 76 #[.slice (some ⟨g, o, none⟩) n c, .int .i64 k] w fun e w' => e = .returned (.int .i64 ((k + tot nHd us : Nat) : Int)) ∧ Below w.heap.size w w' := by
  have HA := Seg.hid ha; have HE := Seg.hid he
  have HN := Seg.hid hnl
  have KL : Hid (∀ j, j < n → k + tot nHd (us.take j) + nHd (us.getD j default) ≤ 4000000000000000000) := fun j hj => by
    have a1 := tot_take nHd (ts := us) (j := j) (by rw [HN.out]; exact hj)
    have a2 := tot_le nHd us (j + 1)
    omega
  have KE : Hid (k + tot nHd (us.take n) = k + tot nHd us) := by show _ = _; rw [← HN.out, List.take_length]
  clear ha he hk1 hnl
  go_enter Try.func76, Try.ntmps76
  go_wp2
  go_loopw [1, 5] (fun x i wr => ∃ (j : Nat), j ≤ n ∧ i = .int .i64 j ∧ x = .int .i64 ((k + tot nHd (us.take j) : Nat) : Int) ∧ Hid (Below w.heap.size w wr)) (fun _ i _ => n - (intOf i).toNat)
  case atStart => exact ⟨0, Nat.zero_le _, rfl, rfl, Below.refl _ _⟩
  case round =>
    obtain ⟨j, hj, rfl, rfl, HR⟩ := hrel
    by_cases hlt : j < n
    · have h0 : (0 : Int) ≤ (j : Int) := by omega
      have h1 : (j : Int) < (n : Int) := by omega
      have EL := HE.out j hlt
      have TK := Seg.hid (tot_take nHd (ts := us) (j := j) (by rw [HN.out]; exact hlt))
      have hxb := KL.out j hlt
      have HC : Hid (∀ w', Below w.heap.size w w' → ∀ q, q < 2 → w'.cell? ⟨g, o + j * 2 + q, none⟩ = some (F j q)) := fun w' hb q hq => by rw [hb.cell (p := ⟨g, o + j * 2 + q, none⟩) hg]; exact HA.out j hlt q hq
      obtain ⟨x, hx⟩ : ∃ x, k + tot nHd (us.take j) = x := ⟨_, rfl⟩
      have HX := Seg.hid hx
      rw [hx] at hxb EL ⊢
      have hx0 : 0 < x := by omega
      clear hx
      generalize us.getD j default = u at *
      have HXB := Seg.hid hxb
      clear hxb
      obtain ⟨s0, s1⟩ := EL
      have HB_x : Hid (x + 2 ≤ 4000000000000000000) := by show _ ≤ _; have := HXB.out; simp only [nHd] at this; omega
      have hd_x : x + 2 ≤ 4000000000000000000 := by have := HB_x.out; omega
      have S0 := Seg.hid s0
      have S1 := Seg.hid s1
      clear s0 s1
      have c0 : wr.cell? ⟨g, o + j * 2, none⟩ = some (.string (mt (x + 0))) := (HC.out _ HR.out 0 (by omega)).trans (by rw [S0.out]; exact congrArg (fun z : Nat => some (Value.string (mt z))) (show (x + 0) = x + 0 by omega))
      have c0d : wr.drew.cell? ⟨g, o + j * 2, none⟩ = some (.string (mt (x + 0))) := c0
      go_wp2_with fail
      go_region_with (go_at_call 74; refine (markText_at _ (x + 0) (by omega) wr.drew (by omega) (by omega)).mono ?_; rintro e w1 ⟨rfl, b1⟩; have B1 : Hid (Below w.heap.size w w1) := chainD HR.out b1; clear b1; have c0e : w1.cell? ⟨g, o + j * 2, none⟩ = some (.string (mt (x + 0))) := (HC.out _ B1.out 0 (by omega)).trans ((HC.out _ HR.out 0 (by omega)).symm.trans c0))
      all_goals
        try clear c0
        try clear c0d
        try clear c0e
        have c1 : w1.cell? ⟨g, o + j * 2 + 1, none⟩ = some (.string (mt (x + 1))) := (HC.out _ B1.out 1 (by omega)).trans (by rw [S1.out]; exact congrArg (fun z : Nat => some (Value.string (mt z))) (show (x + 1) = x + 1 by omega))
        have c1d : w1.drew.cell? ⟨g, o + j * 2 + 1, none⟩ = some (.string (mt (x + 1))) := c1
        go_wp2_with fail
        go_region_with (go_at_call 74; refine (markText_at _ (x + 1) (by omega) w1.drew (by omega) (by omega)).mono ?_; rintro e w2 ⟨rfl, b2⟩; have B2 : Hid (Below w.heap.size w w2) := chainD B1.out b2; clear b2; have c1e : w2.cell? ⟨g, o + j * 2 + 1, none⟩ = some (.string (mt (x + 1))) := (HC.out _ B2.out 1 (by omega)).trans ((HC.out _ B1.out 1 (by omega)).symm.trans c1))
        all_goals
          try clear c1
          try clear c1d
          try clear c1e
          have HKK : Hid ((x : Int) + 1 + 1 = ((k + tot nHd (us.take (j + 1)) : Nat) : Int)) := by
            show _ = _
            have a1 := TK.out; have a2 := HX.out; simp only [nHd] at a1; omega
          go_wp2
          go_roundw
          case rel => exact ⟨j + 1, by omega, by go_num, congrArg (Value.int .i64) HKK.out, B2.out⟩
          case measure => simp [intOf]; omega
    · have : j = n := by omega
      subst this
      rw [KE.out]
      go_wp2
      go_ret
      exact ⟨rfl, HR.out⟩
theorem heldHeadS_at (x : Int) (k : Nat) (hx : x = (k : Int)) (S : Nat → Prop) (us : List Hd) (w : World) {v : Value} (hk : 0 < k) (hk1 : k + tot nHd us ≤ 4000000000000000000) (hS : ∀ g, S g → g < w.heap.size) (hv : LAt 2 EHd w S v (mL mHd nHd k us)) :
    Calls Try.prog 76 #[v, .int .i64 x] w fun e w' => e = .returned (.int .i64 ((k + tot nHd us : Nat) : Int)) ∧ Below w.heap.size w w' := by
  subst hx
  obtain ⟨hn, A, c, rfl, h⟩ := hv
  rw [mL_len] at hn h ⊢
  by_cases hz : us.length = 0
  · obtain rfl := List.length_eq_zero_iff.1 hz
    exact heldHeadS_none A c k w
  obtain ⟨g, o, F, rfl, hg, hc, hcell, hel⟩ := h.resolve_left hz
  exact heldHeadS_core g o us.length c k us F w S hn hc (hS g hg) hS rfl hk hk1 hcell (fun i hi => by have := hel i hi; rw [mL_get mHd nHd hi] at this; exact this)
end Go.Proofs.Yticihnoekffelaa.Ow
namespace Go.Proofs.Yticihnoekffelaa.Ow
set_option maxRecDepth 8000
open Go.RowKit
open Recs
open Ls
set_option linter.unusedVariables false
theorem heldRecordS_none (A : Option Addr) (c : Nat) (k : Int) (w : World) : Calls Try.prog 49 #[.slice A 0 c, .int .i64 k] w fun e w' => e = .returned (.int .i64 k) ∧ Below w.heap.size w w' := by
  go_enter Try.func49, Try.ntmps49
  go_wp2
  go_loop [1, 5] (fun x i => i = .int .i64 0 ∧ x = .int .i64 k) (fun _ _ => 0)
  case atStart => exact ⟨rfl, rfl⟩
  case round =>
    obtain ⟨rfl, rfl⟩ := hrel
    go_wp2
    go_ret
    exact ⟨rfl, Below.refl _ _⟩
set_option maxHeartbeats 3200000 in
theorem heldRecordS_core (g o n c k : Nat) (us : List Rec) (F : Nat → Nat → Value) (w : World) (S : Nat → Prop) (hn : n ≤ 9223372036854775807) (hc : n ≤ c) (hg : g < w.heap.size) (hS : ∀ g, S g → g < w.heap.size) (hnl : us.length = n) (hk : 0 < k) (hk1 : k + tot nRec us ≤ 4000000000000000000)
    (ha : ∀ i, i < n → ∀ j, j < 6 → w.cell? ⟨g, o + i * 6 + j, none⟩ = some (F i j)) (he : ∀ i, i < n → ERec w S (F i) (mRec (k + tot nRec (us.take i)) (us.getD i default))) :
    Calls Try.prog 49 #[.slice (some ⟨g, o, none⟩) n c, .int .i64 k] w fun e w' => e = .returned (.int .i64 ((k + tot nRec us : Nat) : Int)) ∧ Below w.heap.size w w' := by
  have HA := Seg.hid ha; have HE := Seg.hid he
  have HN := Seg.hid hnl
  have KL : Hid (∀ j, j < n → k + tot nRec (us.take j) + nRec (us.getD j default) ≤ 4000000000000000000) := fun j hj => by
    have a1 := tot_take nRec (ts := us) (j := j) (by rw [HN.out]; exact hj)
    have a2 := tot_le nRec us (j + 1)
    omega
  have KE : Hid (k + tot nRec (us.take n) = k + tot nRec us) := by show _ = _; rw [← HN.out, List.take_length]
  clear ha he hk1 hnl
  go_enter Try.func49, Try.ntmps49
  go_wp2
  go_loopw [1, 5] (fun x i wr => ∃ (j : Nat), j ≤ n ∧ i = .int .i64 j ∧ x = .int .i64 ((k + tot nRec (us.take j) : Nat) : Int) ∧ Hid (Below w.heap.size w wr)) (fun _ i _ => n - (intOf i).toNat)
  case atStart => exact ⟨0, Nat.zero_le _, rfl, rfl, Below.refl _ _⟩
  case round =>
    obtain ⟨j, hj, rfl, rfl, HR⟩ := hrel
    by_cases hlt : j < n
    · have h0 : (0 : Int) ≤ (j : Int) := by omega
      have h1 : (j : Int) < (n : Int) := by omega
      have EL := HE.out j hlt
      have TK := Seg.hid (tot_take nRec (ts := us) (j := j) (by rw [HN.out]; exact hlt))
      have hxb := KL.out j hlt
      have HC : Hid (∀ w', Below w.heap.size w w' → ∀ q, q < 6 → w'.cell? ⟨g, o + j * 6 + q, none⟩ = some (F j q)) := fun w' hb q hq => by rw [hb.cell (p := ⟨g, o + j * 6 + q, none⟩) hg]; exact HA.out j hlt q hq
      obtain ⟨x, hx⟩ : ∃ x, k + tot nRec (us.take j) = x := ⟨_, rfl⟩
      have HX := Seg.hid hx
      rw [hx] at hxb EL ⊢
      have hx0 : 0 < x := by omega
      clear hx
      generalize us.getD j default = u at *
      have HXB := Seg.hid hxb
      clear hxb
      obtain ⟨s0, s1, s2, s3, s4, s5⟩ := EL
      obtain ⟨A5, c5, g5⟩ := s5.form
      have M5 : Hid (LAt 2 EHd w S (.slice A5 u.heads.length c5) (mL mHd nHd (x + 5) u.heads) ∧ F j 5 = .slice A5 u.heads.length c5) := by
        have hl : (mRec x u).heads.length = u.heads.length := mL_len _ _ _ _
        rw [hl] at g5
        have h := s5
        rw [g5] at h
        exact ⟨h, g5⟩
      have HB_x : Hid (x + 5 + tot nHd u.heads ≤ 4000000000000000000) := by show _ ≤ _; have := HXB.out; simp only [nRec] at this; omega
      have hd_x : x + 5 ≤ 4000000000000000000 := by have := HB_x.out; omega
      have S0 := Seg.hid s0
      have S1 := Seg.hid s1
      have S2 := Seg.hid s2
      have S3 := Seg.hid s3
      have S4 := Seg.hid s4
      clear s0 s1 s2 s3 s4 s5 g5
      have c0 : wr.cell? ⟨g, o + j * 6, none⟩ = some (.int .i64 ((x : Int))) := (HC.out _ HR.out 0 (by omega)).trans (by rw [S0.out]; exact congrArg (fun z : Int => some (Value.int .i64 z)) (show (((x + 0) : Nat) : Int) = (x : Int) by omega))
      have c1 : wr.cell? ⟨g, o + j * 6 + 1, none⟩ = some (.bool (((x : Int) + 1) % 3 == 0)) := (HC.out _ HR.out 1 (by omega)).trans (by rw [S1.out]; exact congrArg (fun z : Int => some (Value.bool (z % 3 == 0))) (show (((x + 1) : Nat) : Int) = (x : Int) + 1 by omega))
      have c2 : wr.cell? ⟨g, o + j * 6 + 2, none⟩ = some (.string (mt (x + 2))) := (HC.out _ HR.out 2 (by omega)).trans (by rw [S2.out]; exact congrArg (fun z : Nat => some (Value.string (mt z))) (show (x + 2) = x + 2 by omega))
      have c2d : wr.drew.cell? ⟨g, o + j * 6 + 2, none⟩ = some (.string (mt (x + 2))) := c2
      go_wp2_with fail
      go_region_with (go_at_call 74; refine (markText_at _ (x + 2) (by omega) wr.drew (by omega) (by omega)).mono ?_; rintro e w1 ⟨rfl, b1⟩; have B1 : Hid (Below w.heap.size w w1) := chainD HR.out b1; clear b1; have c2e : w1.cell? ⟨g, o + j * 6 + 2, none⟩ = some (.string (mt (x + 2))) := (HC.out _ B1.out 2 (by omega)).trans ((HC.out _ HR.out 2 (by omega)).symm.trans c2))
      all_goals
        try clear c0
        try clear c1
        try clear c2
        try clear c2d
        try clear c2e
        have c3 : w1.cell? ⟨g, o + j * 6 + 3, none⟩ = some (.bool (((x : Int) + 1 + 1 + 1) % 3 == 0)) := (HC.out _ B1.out 3 (by omega)).trans (by rw [S3.out]; exact congrArg (fun z : Int => some (Value.bool (z % 3 == 0))) (show (((x + 3) : Nat) : Int) = (x : Int) + 1 + 1 + 1 by omega))
        have c4 : w1.cell? ⟨g, o + j * 6 + 4, none⟩ = some (.string (mt (x + 4))) := (HC.out _ B1.out 4 (by omega)).trans (by rw [S4.out]; exact congrArg (fun z : Nat => some (Value.string (mt z))) (show (x + 4) = x + 4 by omega))
        have c4d : w1.drew.cell? ⟨g, o + j * 6 + 4, none⟩ = some (.string (mt (x + 4))) := c4
        go_wp2_with fail
        go_region_with (go_at_call 74; refine (markText_at _ (x + 4) (by omega) w1.drew (by omega) (by omega)).mono ?_; rintro e w2 ⟨rfl, b2⟩; have B2 : Hid (Below w.heap.size w w2) := chainD B1.out b2; clear b2; have c4e : w2.cell? ⟨g, o + j * 6 + 4, none⟩ = some (.string (mt (x + 4))) := (HC.out _ B2.out 4 (by omega)).trans ((HC.out _ B1.out 4 (by omega)).symm.trans c4))
        all_goals
          try clear c3
          try clear c4
          try clear c4d
          try clear c4e
          have c5 : w2.cell? ⟨g, o + j * 6 + 5, none⟩ = some (.slice A5 u.heads.length c5) := (HC.out _ B2.out 5 (by omega)).trans (congrArg some M5.out.2)
          go_wp2_with fail
          clear c5
          refine (heldHeadS_at _ (x + 5) (by omega) S u.heads w2 (by omega) (by have := HB_x.out; omega) (fun g hg => Nat.lt_of_lt_of_le (hS g hg) B2.out.size) (by have h := M5.out.1; rw [show (x + 5) = x + 5 by omega] at h; exact h.below keepsHd B2.out hS)).mono ?_
          rintro e w3 ⟨rfl, b3⟩
          have B3 := Seg.hid (chain B2.out b3)
          clear b3
          obtain ⟨y3, hy3⟩ : ∃ y3, x + 5 + tot nHd u.heads = y3 := ⟨_, rfl⟩
          rw [hy3]
          have Hy3 := Seg.hid hy3
          have HB_y3 : Hid (y3 + 0 ≤ 4000000000000000000) := by show _ ≤ _; have := HB_x.out; omega
          have hd_y3 : y3 + 0 ≤ 4000000000000000000 := by have := HB_y3.out; omega
          have hp_y3 : 0 < y3 := by omega
          have hq_y3 : ¬ (y3 : Int) < 0 := by omega
          clear hy3
          have HKK : Hid ((y3 : Int) = ((k + tot nRec (us.take (j + 1)) : Nat) : Int)) := by
            show _ = _
            have z0 := Hy3.out; have a1 := TK.out; have a2 := HX.out; simp only [nRec] at a1; omega
          go_wp2
          go_roundw
          case rel => exact ⟨j + 1, by omega, by go_num, congrArg (Value.int .i64) HKK.out, B3.out⟩
          case measure => simp [intOf]; omega
    · have : j = n := by omega
      subst this
      rw [KE.out]
      go_wp2
      go_ret
      exact ⟨rfl, HR.out⟩
theorem heldRecordS_at (x : Int) (k : Nat) (hx : x = (k : Int)) (S : Nat → Prop) (us : List Rec) (w : World) {v : Value} (hk : 0 < k) (hk1 : k + tot nRec us ≤ 4000000000000000000) (hS : ∀ g, S g → g < w.heap.size) (hv : LAt 6 ERec w S v (mL mRec nRec k us)) :
    Calls Try.prog 49 #[v, .int .i64 x] w fun e w' => e = .returned (.int .i64 ((k + tot nRec us : Nat) : Int)) ∧ Below w.heap.size w w' := by
  subst hx
  obtain ⟨hn, A, c, rfl, h⟩ := hv
  rw [mL_len] at hn h ⊢
  by_cases hz : us.length = 0
  · obtain rfl := List.length_eq_zero_iff.1 hz
    exact heldRecordS_none A c k w
  obtain ⟨g, o, F, rfl, hg, hc, hcell, hel⟩ := h.resolve_left hz
  exact heldRecordS_core g o us.length c k us F w S hn hc (hS g hg) hS rfl hk hk1 hcell (fun i hi => by have := hel i hi; rw [mL_get mRec nRec hi] at this; exact this)
end Go.Proofs.Yticihnoekffelaa.Ow
namespace Go.Proofs.Yticihnoekffelaa.Ow
set_option maxRecDepth 8000
open Go.RowKit
open Recs
open Ls
set_option linter.unusedVariables false
theorem heldBatchS_none (A : Option Addr) (c : Nat) (k : Int) (w : World) : Calls Try.prog 20 #[.slice A 0 c, .int .i64 k] w fun e w' => e = .returned (.int .i64 k) ∧ Below w.heap.size w w' := by
  go_enter Try.func20, Try.ntmps20
  go_wp2
  go_loop [1, 5] (fun x i => i = .int .i64 0 ∧ x = .int .i64 k) (fun _ _ => 0)
  case atStart => exact ⟨rfl, rfl⟩
  case round =>
    obtain ⟨rfl, rfl⟩ := hrel
    go_wp2
    go_ret
    exact ⟨rfl, Below.refl _ _⟩
set_option maxHeartbeats 3200000 in
theorem heldBatchS_core (g o n c k : Nat) (us : List Bat) (F : Nat → Nat → Value) (w : World) (S : Nat → Prop) (hn : n ≤ 9223372036854775807) (hc : n ≤ c) (hg : g < w.heap.size) (hS : ∀ g, S g → g < w.heap.size) (hnl : us.length = n) (hk : 0 < k) (hk1 : k + tot nBat us ≤ 4000000000000000000)
    (ha : ∀ i, i < n → ∀ j, j < 7 → w.cell? ⟨g, o + i * 7 + j, none⟩ = some (F i j)) (he : ∀ i, i < n → EBat w S (F i) (mBat (k + tot nBat (us.take i)) (us.getD i default))) :
    Calls Try.prog 20 #[.slice (some ⟨g, o, none⟩) n c, .int .i64 k] w fun e w' => e = .returned (.int .i64 ((k + tot nBat us : Nat) : Int)) ∧ Below w.heap.size w w' := by
  have HA := Seg.hid ha; have HE := Seg.hid he
  have HN := Seg.hid hnl
  have KL : Hid (∀ j, j < n → k + tot nBat (us.take j) + nBat (us.getD j default) ≤ 4000000000000000000) := fun j hj => by
    have a1 := tot_take nBat (ts := us) (j := j) (by rw [HN.out]; exact hj)
    have a2 := tot_le nBat us (j + 1)
    omega
  have KE : Hid (k + tot nBat (us.take n) = k + tot nBat us) := by show _ = _; rw [← HN.out, List.take_length]
  clear ha he hk1 hnl
  go_enter Try.func20, Try.ntmps20
  go_wp2
  go_loopw [1, 5] (fun x i wr => ∃ (j : Nat), j ≤ n ∧ i = .int .i64 j ∧ x = .int .i64 ((k + tot nBat (us.take j) : Nat) : Int) ∧ Hid (Below w.heap.size w wr)) (fun _ i _ => n - (intOf i).toNat)
  case atStart => exact ⟨0, Nat.zero_le _, rfl, rfl, Below.refl _ _⟩
  case round =>
    obtain ⟨j, hj, rfl, rfl, HR⟩ := hrel
    by_cases hlt : j < n
    · have h0 : (0 : Int) ≤ (j : Int) := by omega
      have h1 : (j : Int) < (n : Int) := by omega
      have EL := HE.out j hlt
      have TK := Seg.hid (tot_take nBat (ts := us) (j := j) (by rw [HN.out]; exact hlt))
      have hxb := KL.out j hlt
      have HC : Hid (∀ w', Below w.heap.size w w' → ∀ q, q < 7 → w'.cell? ⟨g, o + j * 7 + q, none⟩ = some (F j q)) := fun w' hb q hq => by rw [hb.cell (p := ⟨g, o + j * 7 + q, none⟩) hg]; exact HA.out j hlt q hq
      obtain ⟨x, hx⟩ : ∃ x, k + tot nBat (us.take j) = x := ⟨_, rfl⟩
      have HX := Seg.hid hx
      rw [hx] at hxb EL ⊢
      have hx0 : 0 < x := by omega
      clear hx
      generalize us.getD j default = u at *
      have HXB := Seg.hid hxb
      clear hxb
      obtain ⟨s0, s1, s2, s3, s4, s5, s6⟩ := EL
      obtain ⟨A6, c6, g6⟩ := s6.form
      have M6 : Hid (LAt 6 ERec w S (.slice A6 u.recs.length c6) (mL mRec nRec (x + 6) u.recs) ∧ F j 6 = .slice A6 u.recs.length c6) := by
        have hl : (mBat x u).recs.length = u.recs.length := mL_len _ _ _ _
        rw [hl] at g6
        have h := s6
        rw [g6] at h
        exact ⟨h, g6⟩
      have HB_x : Hid (x + 6 + tot nRec u.recs ≤ 4000000000000000000) := by show _ ≤ _; have := HXB.out; simp only [nBat] at this; omega
      have hd_x : x + 6 ≤ 4000000000000000000 := by have := HB_x.out; omega
      have S0 := Seg.hid s0
      have S1 := Seg.hid s1
      have S2 := Seg.hid s2
      have S3 := Seg.hid s3
      have S4 := Seg.hid s4
      have S5 := Seg.hid s5
      clear s0 s1 s2 s3 s4 s5 s6 g6
      have c0 : wr.cell? ⟨g, o + j * 7, none⟩ = some (.int .i64 ((x : Int))) := (HC.out _ HR.out 0 (by omega)).trans (by rw [S0.out]; exact congrArg (fun z : Int => some (Value.int .i64 z)) (show (((x + 0) : Nat) : Int) = (x : Int) by omega))
      have c1 : wr.cell? ⟨g, o + j * 7 + 1, none⟩ = some (.int .i64 ((x : Int) + 1)) := (HC.out _ HR.out 1 (by omega)).trans (by rw [S1.out]; exact congrArg (fun z : Int => some (Value.int .i64 z)) (show (((x + 1) : Nat) : Int) = (x : Int) + 1 by omega))
      have c2 : wr.cell? ⟨g, o + j * 7 + 2, none⟩ = some (.int .i64 ((x : Int) + 1 + 1)) := (HC.out _ HR.out 2 (by omega)).trans (by rw [S2.out]; exact congrArg (fun z : Int => some (Value.int .i64 z)) (show (((x + 2) : Nat) : Int) = (x : Int) + 1 + 1 by omega))
      have c3 : wr.cell? ⟨g, o + j * 7 + 3, none⟩ = some (.int .i64 ((x : Int) + 1 + 1 + 1)) := (HC.out _ HR.out 3 (by omega)).trans (by rw [S3.out]; exact congrArg (fun z : Int => some (Value.int .i64 z)) (show (((x + 3) : Nat) : Int) = (x : Int) + 1 + 1 + 1 by omega))
      have c4 : wr.cell? ⟨g, o + j * 7 + 4, none⟩ = some (.int .i64 ((x : Int) + 1 + 1 + 1 + 1)) := (HC.out _ HR.out 4 (by omega)).trans (by rw [S4.out]; exact congrArg (fun z : Int => some (Value.int .i64 z)) (show (((x + 4) : Nat) : Int) = (x : Int) + 1 + 1 + 1 + 1 by omega))
      have c5 : wr.cell? ⟨g, o + j * 7 + 5, none⟩ = some (.int .i64 ((x : Int) + 1 + 1 + 1 + 1 + 1)) := (HC.out _ HR.out 5 (by omega)).trans (by rw [S5.out]; exact congrArg (fun z : Int => some (Value.int .i64 z)) (show (((x + 5) : Nat) : Int) = (x : Int) + 1 + 1 + 1 + 1 + 1 by omega))
      have c6 : wr.cell? ⟨g, o + j * 7 + 6, none⟩ = some (.slice A6 u.recs.length c6) := (HC.out _ HR.out 6 (by omega)).trans (congrArg some M6.out.2)
      go_wp2_with fail
      clear c0 c1 c2 c3 c4 c5 c6
      refine (heldRecordS_at _ (x + 6) (by omega) S u.recs wr (by omega) (by have := HB_x.out; omega) (fun g hg => Nat.lt_of_lt_of_le (hS g hg) HR.out.size) (by have h := M6.out.1; rw [show (x + 6) = x + 6 by omega] at h; exact h.below keepsRec HR.out hS)).mono ?_
      rintro e w1 ⟨rfl, b1⟩
      have B1 := Seg.hid (chain HR.out b1)
      clear b1
      obtain ⟨y1, hy1⟩ : ∃ y1, x + 6 + tot nRec u.recs = y1 := ⟨_, rfl⟩
      rw [hy1]
      have Hy1 := Seg.hid hy1
      have HB_y1 : Hid (y1 + 0 ≤ 4000000000000000000) := by show _ ≤ _; have := HB_x.out; omega
      have hd_y1 : y1 + 0 ≤ 4000000000000000000 := by have := HB_y1.out; omega
      have hp_y1 : 0 < y1 := by omega
      have hq_y1 : ¬ (y1 : Int) < 0 := by omega
      clear hy1
      have HKK : Hid ((y1 : Int) = ((k + tot nBat (us.take (j + 1)) : Nat) : Int)) := by
        show _ = _
        have z0 := Hy1.out; have a1 := TK.out; have a2 := HX.out; simp only [nBat] at a1; omega
      go_wp2
      go_roundw
      case rel => exact ⟨j + 1, by omega, by go_num, congrArg (Value.int .i64) HKK.out, B1.out⟩
      case measure => simp [intOf]; omega
    · have : j = n := by omega
      subst this
      rw [KE.out]
      go_wp2
      go_ret
      exact ⟨rfl, HR.out⟩
theorem heldBatchS_at (x : Int) (k : Nat) (hx : x = (k : Int)) (S : Nat → Prop) (us : List Bat) (w : World) {v : Value} (hk : 0 < k) (hk1 : k + tot nBat us ≤ 4000000000000000000) (hS : ∀ g, S g → g < w.heap.size) (hv : LAt 7 EBat w S v (mL mBat nBat k us)) :
    Calls Try.prog 20 #[v, .int .i64 x] w fun e w' => e = .returned (.int .i64 ((k + tot nBat us : Nat) : Int)) ∧ Below w.heap.size w w' := by
  subst hx
  obtain ⟨hn, A, c, rfl, h⟩ := hv
  rw [mL_len] at hn h ⊢
  by_cases hz : us.length = 0
  · obtain rfl := List.length_eq_zero_iff.1 hz
    exact heldBatchS_none A c k w
  obtain ⟨g, o, F, rfl, hg, hc, hcell, hel⟩ := h.resolve_left hz
  exact heldBatchS_core g o us.length c k us F w S hn hc (hS g hg) hS rfl hk hk1 hcell (fun i hi => by have := hel i hi; rw [mL_get mBat nBat hi] at this; exact this)
end Go.Proofs.Yticihnoekffelaa.Ow
