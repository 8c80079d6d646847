/- Lists of Replica with marks: the law's look at these. -/
import Derived.Test.YtafgakddhoabjaaORpl
import Derived.Test.YtafgakddhoabjaaHSg
namespace Go.Proofs.Ytafgakddhoabjaa.Ow
set_option maxRecDepth 8000
open Go.RowKit
open Recs
open Ls
open SegW (Sg)
set_option linter.unusedVariables false
theorem heldReplicaS_none (A : Option Addr) (c : Nat) (k : Int) (w : World) : Calls Try.prog 18 #[.slice A 0 c, .int .i64 k] w fun e w' => e = .returned (.int .i64 k) ∧ Below w.heap.size w w' := by
  go_enter Try.func18, Try.ntmps18
  go_wp2
  go_loop [1, 5] (fun x i => i = .int .i64 0 ∧ x = .int .i64 k) (fun _ _ => 0)
  case atStart => exact ⟨rfl, rfl⟩
  case round =>
    obtain ⟨rfl, rfl⟩ := hrel
    go_wp2
    go_ret
    exact ⟨rfl, Below.refl _ _⟩
set_option maxHeartbeats 3200000 in
theorem heldReplicaS_core (g o n c k : Nat) (us : List Rpl) (F : Nat → Nat → Value) (w : World) (S : Nat → Prop) (hn : n ≤ 9223372036854775807) (hc : n ≤ c) (hg : g < w.heap.size) (hS : ∀ g, S g → g < w.heap.size) (hnl : us.length = n) (hk : 0 < k) (hk1 : k + tot nRpl us ≤ 4000000000000000000)
    (ha : ∀ i, i < n → ∀ j, j < 6 → w.cell? ⟨g, o + i * 6 + j, none⟩ = some (F i j)) (he : ∀ i, i < n → ERpl w S (F i) (mRpl (k + tot nRpl (us.take i)) (us.getD i default))) :
    Calls Try.prog 18 #[.slice (some ⟨g, o, none⟩) n c, .int .i64 k] w fun e w' => e = .returned (.int .i64 ((k + tot nRpl us : Nat) : Int)) ∧ Below w.heap.size w w' := by
  have HA := Seg.hid ha; have HE := Seg.hid he
  have HN := Seg.hid hnl
  have KL : Hid (∀ j, j < n → k + tot nRpl (us.take j) + nRpl (us.getD j default) ≤ 4000000000000000000) := fun j hj => by
    have a1 := tot_take nRpl (ts := us) (j := j) (by rw [HN.out]; exact hj)
    have a2 := tot_le nRpl us (j + 1)
    omega
  have KE : Hid (k + tot nRpl (us.take n) = k + tot nRpl us) := by show _ = _; rw [← HN.out, List.take_length]
  clear ha he hk1 hnl
  go_enter Try.func18, Try.ntmps18
  go_wp2
  go_loopw [1, 5] (fun x i wr => ∃ (j : Nat), j ≤ n ∧ i = .int .i64 j ∧ x = .int .i64 ((k + tot nRpl (us.take j) : Nat) : Int) ∧ Hid (Below w.heap.size w wr)) (fun _ i _ => n - (intOf i).toNat)
  case atStart => exact ⟨0, Nat.zero_le _, rfl, rfl, Below.refl _ _⟩
  case round =>
    obtain ⟨j, hj, rfl, rfl, HR⟩ := hrel
    by_cases hlt : j < n
    · have h0 : (0 : Int) ≤ (j : Int) := by omega
      have h1 : (j : Int) < (n : Int) := by omega
      have EL := HE.out j hlt
      have TK := Seg.hid (tot_take nRpl (ts := us) (j := j) (by rw [HN.out]; exact hlt))
      have hxb := KL.out j hlt
      have HC : Hid (∀ w', Below w.heap.size w w' → ∀ q, q < 6 → w'.cell? ⟨g, o + j * 6 + q, none⟩ = some (F j q)) := fun w' hb q hq => by rw [hb.cell (p := ⟨g, o + j * 6 + q, none⟩) hg]; exact HA.out j hlt q hq
      obtain ⟨x, hx⟩ : ∃ x, k + tot nRpl (us.take j) = x := ⟨_, rfl⟩
      have HX := Seg.hid hx
      rw [hx] at hxb EL ⊢
      have hx0 : 0 < x := by omega
      clear hx
      generalize us.getD j default = u at *
      have HXB := Seg.hid hxb
      clear hxb
      obtain ⟨s0, s1, s2, s3, s4, s5⟩ := EL
      obtain ⟨A3, c3, g3⟩ := s3.form
      have M3 : Hid (LAt 2 ESg w S (.slice A3 u.segs.length c3) (mL mSg nSg (x + 3) u.segs) ∧ F j 3 = .slice A3 u.segs.length c3) := by
        have hl : (mRpl x u).segs.length = u.segs.length := mL_len _ _ _ _
        rw [hl] at g3
        have h := s3
        rw [g3] at h
        exact ⟨h, g3⟩
      have HB_x : Hid (x + 5 + tot nSg u.segs ≤ 4000000000000000000) := by show _ ≤ _; have := HXB.out; simp only [nRpl] at this; omega
      have hd_x : x + 3 ≤ 4000000000000000000 := by have := HB_x.out; omega
      have S0 := Seg.hid s0
      have S1 := Seg.hid s1
      have S2 := Seg.hid s2
      have S4 := Seg.hid s4
      have S5 := Seg.hid s5
      clear s0 s1 s2 s3 s4 s5 g3
      have c0 : wr.cell? ⟨g, o + j * 6, none⟩ = some (.int .i64 ((x : Int))) := (HC.out _ HR.out 0 (by omega)).trans (by rw [S0.out]; exact congrArg (fun z : Int => some (Value.int .i64 z)) (show (((x + 0) : Nat) : Int) = (x : Int) by omega))
      have c1 : wr.cell? ⟨g, o + j * 6 + 1, none⟩ = some (.int .i64 ((x : Int) + 1)) := (HC.out _ HR.out 1 (by omega)).trans (by rw [S1.out]; exact congrArg (fun z : Int => some (Value.int .i64 z)) (show (((x + 1) : Nat) : Int) = (x : Int) + 1 by omega))
      have c2 : wr.cell? ⟨g, o + j * 6 + 2, none⟩ = some (.int .i64 ((x : Int) + 1 + 1)) := (HC.out _ HR.out 2 (by omega)).trans (by rw [S2.out]; exact congrArg (fun z : Int => some (Value.int .i64 z)) (show (((x + 2) : Nat) : Int) = (x : Int) + 1 + 1 by omega))
      have c3 : wr.cell? ⟨g, o + j * 6 + 3, none⟩ = some (.slice A3 u.segs.length c3) := (HC.out _ HR.out 3 (by omega)).trans (congrArg some M3.out.2)
      go_wp2_with fail
      clear c0 c1 c2 c3
      refine (heldSegmentS_at _ (x + 3) (by omega) S u.segs wr (by omega) (by have := HB_x.out; omega) (fun g hg => Nat.lt_of_lt_of_le (hS g hg) HR.out.size) (by have h := M3.out.1; rw [show (x + 3) = x + 3 by omega] at h; exact h.below keepsSg HR.out hS)).mono ?_
      rintro e w1 ⟨rfl, b1⟩
      have B1 := Seg.hid (chain HR.out b1)
      clear b1
      obtain ⟨y1, hy1⟩ : ∃ y1, x + 3 + tot nSg u.segs = y1 := ⟨_, rfl⟩
      rw [hy1]
      have Hy1 := Seg.hid hy1
      have HB_y1 : Hid (y1 + 2 ≤ 4000000000000000000) := by show _ ≤ _; have := HB_x.out; omega
      have hd_y1 : y1 + 2 ≤ 4000000000000000000 := by have := HB_y1.out; omega
      have hp_y1 : 0 < y1 := by omega
      have hq_y1 : ¬ (y1 : Int) < 0 := by omega
      clear hy1
      have c4 : w1.cell? ⟨g, o + j * 6 + 4, none⟩ = some (.int .i64 ((y1 : Int))) := (HC.out _ B1.out 4 (by omega)).trans (by rw [S4.out]; exact congrArg (fun z : Int => some (Value.int .i64 z)) (show (((x + 3 + tot nSg u.segs) : Nat) : Int) = (y1 : Int) by have z0 := Hy1.out; omega))
      have c5 : w1.cell? ⟨g, o + j * 6 + 5, none⟩ = some (.bool (((y1 : Int) + 1) % 3 == 0)) := (HC.out _ B1.out 5 (by omega)).trans (by rw [S5.out]; exact congrArg (fun z : Int => some (Value.bool (z % 3 == 0))) (show (((x + 4 + tot nSg u.segs) : Nat) : Int) = (y1 : Int) + 1 by have z0 := Hy1.out; omega))
      have HKK : Hid ((y1 : Int) + 1 + 1 = ((k + tot nRpl (us.take (j + 1)) : Nat) : Int)) := by
        show _ = _
        have z0 := Hy1.out; have a1 := TK.out; have a2 := HX.out; simp only [nRpl] at a1; omega
      go_wp2
      go_roundw
      case rel => exact ⟨j + 1, by omega, by go_num, congrArg (Value.int .i64) HKK.out, B1.out⟩
      case measure => simp [intOf]; omega
    · have : j = n := by omega
      subst this
      rw [KE.out]
      go_wp2
      go_ret
      exact ⟨rfl, HR.out⟩
theorem heldReplicaS_at (x : Int) (k : Nat) (hx : x = (k : Int)) (S : Nat → Prop) (us : List Rpl) (w : World) {v : Value} (hk : 0 < k) (hk1 : k + tot nRpl us ≤ 4000000000000000000) (hS : ∀ g, S g → g < w.heap.size) (hv : LAt 6 ERpl w S v (mL mRpl nRpl k us)) :
    Calls Try.prog 18 #[v, .int .i64 x] w fun e w' => e = .returned (.int .i64 ((k + tot nRpl us : Nat) : Int)) ∧ Below w.heap.size w w' := by
  subst hx
  obtain ⟨hn, A, c, rfl, h⟩ := hv
  rw [mL_len] at hn h ⊢
  by_cases hz : us.length = 0
  · obtain rfl := List.length_eq_zero_iff.1 hz
    exact heldReplicaS_none A c k w
  obtain ⟨g, o, F, rfl, hg, hc, hcell, hel⟩ := h.resolve_left hz
  exact heldReplicaS_core g o us.length c k us F w S hn hc (hS g hg) hS rfl hk hk1 hcell (fun i hi => by have := hel i hi; rw [mL_get mRpl nRpl hi] at this; exact this)
end Go.Proofs.Ytafgakddhoabjaa.Ow
