/- One Part with marks: the law's look at these. -/
import Derived.Test.YtafgakddhoabjaaOPrt
import Derived.Test.YtafgakddhoabjaaHRpl
import Derived.Test.YtafgakddhoabjaaMkNh
namespace Go.Proofs.Ytafgakddhoabjaa.Ow
set_option maxRecDepth 8000
open Go.RowKit
open Recs
open Ls
open SegW (Sg)
set_option linter.unusedVariables false
set_option maxHeartbeats 1600000 in
theorem heldPart_at (x : Int) (k : Nat) (hx : x = (k : Int)) (S : Nat → Prop) (u : Prt) (w : World) {v : Value} (hk : 0 < k) (hk1 : k + nPrt u ≤ 4000000000000000000) (hS : ∀ y, S y → y < w.heap.size) (hv : PrtAt w S v (mPrt k u)) :
    Calls Try.prog 8 #[v, .int .i64 x] w fun e w' => e = .returned (.int .i64 ((k + nPrt u : Nat) : Int)) ∧ Below w.heap.size w w' := by
  subst hx
  obtain ⟨f, rfl, s0, s1, s2, s3, s4, s5⟩ := hv
  obtain ⟨A0, c0, g0⟩ := s0.form
  rw [show (mPrt k u).reps.length = u.reps.length from mL_len _ _ _ _] at g0
  have M0 : Hid (LAt 6 ERpl w S (.slice A0 u.reps.length c0) (mL mRpl nRpl (k) u.reps)) := by rw [← g0]; exact s0
  obtain ⟨A3, c3, g3⟩ := s3.form
  rw [show (mPrt k u).insync.length = u.insync.length from mL_len _ _ _ _] at g3
  have M3 : Hid (IntsAt w S (.slice A3 u.insync.length c3) (mL mI nI (k + tot nRpl u.reps) u.insync)) := by rw [← g3]; exact s3
  obtain ⟨A4, c4, g4⟩ := s4.form
  rw [show (mPrt k u).known.length = u.known.length from mL_len _ _ _ _] at g4
  have M4 : Hid (IntsAt w S (.slice A4 u.known.length c4) (mL mI nI (k + tot nRpl u.reps + tot nI u.insync) u.known)) := by rw [← g4]; exact s4
  have ER : arrPrt f = #[.slice A0 u.reps.length c0, .int .i64 u.leader, .int .i64 u.epoch, .slice A3 u.insync.length c3, .slice A4 u.known.length c4, .int .i64 u.least] := by unfold arrPrt; rw [g0, show f 1 = .int .i64 u.leader from s1, show f 2 = .int .i64 u.epoch from s2, g3, g4, show f 5 = .int .i64 u.least from s5]
  rw [ER]
  clear ER s0 s1 s2 s3 s4 s5 g0 g3 g4
  unfold nPrt at hk1
  have hk2 : k ≤ 4000000000000000000 := by omega
  have HK := Seg.hid hk1
  clear hk1
  go_enter Try.func8, Try.ntmps8
  go_wp2_with fail
  refine (heldReplicaS_at _ k (by omega) S u.reps (w.alloc _) (by omega) (by have := HK.out; omega) (fun g hg => by rw [hsz]; have := hS g hg; omega) (by have h := M0.out; exact h.below keepsRpl (below1 w _) hS)).mono ?_
  rintro e w1 ⟨rfl, b1⟩
  have B1 := Seg.hid (chain (below1 w _) b1)
  have T1 : Hid (w1.heap[w.heap.size]? = some (.cells #[.slice A0 u.reps.length c0, .int .i64 u.leader, .int .i64 u.epoch, .slice A3 u.insync.length c3, .slice A4 u.known.length c4, .int .i64 u.least] 25 (0, 0))) := (b1.block w.heap.size (by rw [hsz]; omega)).trans (heap_alloc_new _ _)
  have p1 : w1.cell? ⟨w.heap.size, 3, none⟩ = some (.slice A3 u.insync.length c3) := cell_of_row w1 _ 3 _ _ (0, 0) T1.out
  clear b1
  obtain ⟨y1, hy1⟩ : ∃ y1, k + tot nRpl u.reps = y1 := ⟨_, rfl⟩
  rw [hy1]
  have Hy1 := Seg.hid hy1
  have hp_y1 : 0 < y1 := by omega
  have hq_y1 : ¬ (y1 : Int) < 0 := by omega
  have hd_y1 : y1 ≤ 4000000000000000000 := by have z0 := Hy1.out; have := HK.out; omega
  clear hy1
  go_wp2_with fail
  refine (heldIntS_at _ y1 (by omega) S u.insync w1 (by have z0 := Hy1.out; have := HK.out; omega) (by have h := M3.out; rw [show k + tot nRpl u.reps = y1 by have z0 := Hy1.out; omega] at h; exact h.below keepsI B1.out hS)).mono ?_
  rintro e w2 ⟨rfl, b2⟩
  have B2 := Seg.hid (chain B1.out b2)
  have T2 : Hid (w2.heap[w.heap.size]? = some (.cells #[.slice A0 u.reps.length c0, .int .i64 u.leader, .int .i64 u.epoch, .slice A3 u.insync.length c3, .slice A4 u.known.length c4, .int .i64 u.least] 25 (0, 0))) := (b2.block w.heap.size (Array.getElem?_eq_some_iff.1 T1.out).1).trans T1.out
  have p2 : w2.cell? ⟨w.heap.size, 4, none⟩ = some (.slice A4 u.known.length c4) := cell_of_row w2 _ 4 _ _ (0, 0) T2.out
  clear b2
  obtain ⟨y2, hy2⟩ : ∃ y2, y1 + tot nI u.insync = y2 := ⟨_, rfl⟩
  rw [hy2]
  have Hy2 := Seg.hid hy2
  have hp_y2 : 0 < y2 := by omega
  have hq_y2 : ¬ (y2 : Int) < 0 := by omega
  have hd_y2 : y2 ≤ 4000000000000000000 := by have z0 := Hy1.out; have z1 := Hy2.out; have := HK.out; omega
  clear hy2
  go_wp2_with fail
  refine (heldIntS_at _ y2 (by omega) S u.known w2 (by have z0 := Hy1.out; have z1 := Hy2.out; have := HK.out; omega) (by have h := M4.out; rw [show k + tot nRpl u.reps + tot nI u.insync = y2 by have z0 := Hy1.out; have z1 := Hy2.out; omega] at h; exact h.below keepsI B2.out hS)).mono ?_
  rintro e w3 ⟨rfl, b3⟩
  have B3 := Seg.hid (chain B2.out b3)
  clear b3
  obtain ⟨y3, hy3⟩ : ∃ y3, y2 + tot nI u.known = y3 := ⟨_, rfl⟩
  rw [hy3]
  have Hy3 := Seg.hid hy3
  have hp_y3 : 0 < y3 := by omega
  have hq_y3 : ¬ (y3 : Int) < 0 := by omega
  have hd_y3 : y3 ≤ 4000000000000000000 := by have z0 := Hy1.out; have z1 := Hy2.out; have z2 := Hy3.out; have := HK.out; omega
  clear hy3
  go_wp2
  go_ret
  exact ⟨Seg.ret_int (by have z0 := Hy1.out; have z1 := Hy2.out; have z2 := Hy3.out; unfold nPrt; omega), B3.out⟩
end Go.Proofs.Ytafgakddhoabjaa.Ow
