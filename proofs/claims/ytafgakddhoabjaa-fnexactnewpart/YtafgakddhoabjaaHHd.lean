/- Lists of Head with marks: the law's look at these. -/
import Derived.Test.YtafgakddhoabjaaOHd
namespace Go.Proofs.Ytafgakddhoabjaa.Ow
set_option maxRecDepth 8000
open Go.RowKit
open Recs
open Ls
set_option linter.unusedVariables false
theorem heldHeadS_none (A : Option Addr) (c : Nat) (k : Int) (w : World) : Calls Try.prog 32 #[.slice A 0 c, .int .i64 k] w fun e w' => e = .returned (.int .i64 k) ∧ Below w.heap.size w w' := by
  go_enter Try.func32, Try.ntmps32
  go_wp2
  go_loop [1, 5] (fun x i => i = .int .i64 0 ∧ x = .int .i64 k) (fun _ _ => 0)
  case atStart => exact ⟨rfl, rfl⟩
  case round =>
    obtain ⟨rfl, rfl⟩ := hrel
    go_wp2
    go_ret
    exact ⟨rfl, Below.refl _ _⟩
set_option maxHeartbeats 3200000 in
theorem heldHeadS_core (g o n c k : Nat) (us : List Hd) (F : Nat → Nat → Value) (w : World) (S : Nat → Prop) (hn : n ≤ 9223372036854775807) (hc : n ≤ c) (hg : g < w.heap.size) (hS : ∀ g, S g → g < w.heap.size) (hnl : us.length = n) (hk : 0 < k) (hk1 : k + tot nHd us ≤ 4000000000000000000)
    (ha : ∀ i, i < n → ∀ j, j < 2 → w.cell? ⟨g, o + i * 2 + j, none⟩ = some (F i j)) (he : ∀ i, i < n → EHd w S (F i) (mHd (k + tot nHd (us.take i)) (us.getD i default))) :
    Calls Try.prog 32 #[.slice (some ⟨g, o, none⟩) n c, .int .i64 k] w fun e w' => e = .returned (.int .i64 ((k + tot nHd us : Nat) : Int)) ∧ Below w.heap.size w w' := by
  have HA := Seg.hid ha; have HE := Seg.hid he
  have HN := Seg.hid hnl
  have KL : Hid (∀ j, j < n → k + tot nHd (us.take j) + nHd (us.getD j default) ≤ 4000000000000000000) := fun j hj => by
    have a1 := tot_take nHd (ts := us) (j := j) (by rw [HN.out]; exact hj)
    have a2 := tot_le nHd us (j + 1)
    omega
  have KE : Hid (k + tot nHd (us.take n) = k + tot nHd us) := by show _ = _; rw [← HN.out, List.take_length]
  clear ha he hk1 hnl
  go_enter Try.func32, Try.ntmps32
  go_wp2
  go_loopw [1, 5] (fun x i wr => ∃ (j : Nat), j ≤ n ∧ i = .int .i64 j ∧ x = .int .i64 ((k + tot nHd (us.take j) : Nat) : Int) ∧ Hid (Below w.heap.size w wr)) (fun _ i _ => n - (intOf i).toNat)
  case atStart => exact ⟨0, Nat.zero_le _, rfl, rfl, Below.refl _ _⟩
  case round =>
    obtain ⟨j, hj, rfl, rfl, HR⟩ := hrel
    by_cases hlt : j < n
    · have h0 : (0 : Int) ≤ (j : Int) := by omega
      have h1 : (j : Int) < (n : Int) := by omega
      have EL := HE.out j hlt
      have TK := Seg.hid (tot_take nHd (ts := us) (j := j) (by rw [HN.out]; exact hlt))
      have hxb := KL.out j hlt
      have HC : Hid (∀ w', Below w.heap.size w w' → ∀ q, q < 2 → w'.cell? ⟨g, o + j * 2 + q, none⟩ = some (F j q)) := fun w' hb q hq => by rw [hb.cell (p := ⟨g, o + j * 2 + q, none⟩) hg]; exact HA.out j hlt q hq
      obtain ⟨x, hx⟩ : ∃ x, k + tot nHd (us.take j) = x := ⟨_, rfl⟩
      have HX := Seg.hid hx
      rw [hx] at hxb EL ⊢
      have hx0 : 0 < x := by omega
      clear hx
      generalize us.getD j default = u at *
      have HXB := Seg.hid hxb
      clear hxb
      obtain ⟨s0, s1⟩ := EL
      have HB_x : Hid (x + 2 ≤ 4000000000000000000) := by show _ ≤ _; have := HXB.out; simp only [nHd] at this; omega
      have hd_x : x + 2 ≤ 4000000000000000000 := by have := HB_x.out; omega
      have S0 := Seg.hid s0
      have S1 := Seg.hid s1
      clear s0 s1
      have c0 : wr.cell? ⟨g, o + j * 2, none⟩ = some (.string (mt (x + 0))) := (HC.out _ HR.out 0 (by omega)).trans (by rw [S0.out]; exact congrArg (fun z : Nat => some (Value.string (mt z))) (show (x + 0) = x + 0 by omega))
      have c0d : wr.drew.cell? ⟨g, o + j * 2, none⟩ = some (.string (mt (x + 0))) := c0
      go_wp2_with fail
      go_region_with (go_at_call 30; refine (markText_at _ (x + 0) (by omega) wr.drew (by omega) (by omega)).mono ?_; rintro e w1 ⟨rfl, b1⟩; have B1 : Hid (Below w.heap.size w w1) := chainD HR.out b1; clear b1; have c0e : w1.cell? ⟨g, o + j * 2, none⟩ = some (.string (mt (x + 0))) := (HC.out _ B1.out 0 (by omega)).trans ((HC.out _ HR.out 0 (by omega)).symm.trans c0))
      all_goals
        try clear c0
        try clear c0d
        try clear c0e
        have c1 : w1.cell? ⟨g, o + j * 2 + 1, none⟩ = some (.string (mt (x + 1))) := (HC.out _ B1.out 1 (by omega)).trans (by rw [S1.out]; exact congrArg (fun z : Nat => some (Value.string (mt z))) (show (x + 1) = x + 1 by omega))
        have c1d : w1.drew.cell? ⟨g, o + j * 2 + 1, none⟩ = some (.string (mt (x + 1))) := c1
        go_wp2_with fail
        go_region_with (go_at_call 30; refine (markText_at _ (x + 1) (by omega) w1.drew (by omega) (by omega)).mono ?_; rintro e w2 ⟨rfl, b2⟩; have B2 : Hid (Below w.heap.size w w2) := chainD B1.out b2; clear b2; have c1e : w2.cell? ⟨g, o + j * 2 + 1, none⟩ = some (.string (mt (x + 1))) := (HC.out _ B2.out 1 (by omega)).trans ((HC.out _ B1.out 1 (by omega)).symm.trans c1))
        all_goals
          try clear c1
          try clear c1d
          try clear c1e
          have HKK : Hid ((x : Int) + 1 + 1 = ((k + tot nHd (us.take (j + 1)) : Nat) : Int)) := by
            show _ = _
            have a1 := TK.out; have a2 := HX.out; simp only [nHd] at a1; omega
          go_wp2
          go_roundw
          case rel => exact ⟨j + 1, by omega, by go_num, congrArg (Value.int .i64) HKK.out, B2.out⟩
          case measure => simp [intOf]; omega
    · have : j = n := by omega
      subst this
      rw [KE.out]
      go_wp2
      go_ret
      exact ⟨rfl, HR.out⟩
theorem heldHeadS_at (x : Int) (k : Nat) (hx : x = (k : Int)) (S : Nat → Prop) (us : List Hd) (w : World) {v : Value} (hk : 0 < k) (hk1 : k + tot nHd us ≤ 4000000000000000000) (hS : ∀ g, S g → g < w.heap.size) (hv : LAt 2 EHd w S v (mL mHd nHd k us)) :
    Calls Try.prog 32 #[v, .int .i64 x] w fun e w' => e = .returned (.int .i64 ((k + tot nHd us : Nat) : Int)) ∧ Below w.heap.size w w' := by
  subst hx
  obtain ⟨hn, A, c, rfl, h⟩ := hv
  rw [mL_len] at hn h ⊢
  by_cases hz : us.length = 0
  · obtain rfl := List.length_eq_zero_iff.1 hz
    exact heldHeadS_none A c k w
  obtain ⟨g, o, F, rfl, hg, hc, hcell, hel⟩ := h.resolve_left hz
  exact heldHeadS_core g o us.length c k us F w S hn hc (hS g hg) hS rfl hk hk1 hcell (fun i hi => by have := hel i hi; rw [mL_get mHd nHd hi] at this; exact this)
end Go.Proofs.Ytafgakddhoabjaa.Ow
