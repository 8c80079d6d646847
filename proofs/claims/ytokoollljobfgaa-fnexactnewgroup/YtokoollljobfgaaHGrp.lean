/- One Group with marks: the law's look at these. -/
import Derived.Test.YtokoollljobfgaaOGrp
import Derived.Test.YtokoollljobfgaaHTpc
import Derived.Test.YtokoollljobfgaaHMbr
namespace Go.Proofs.Ytokoollljobfgaa.Ow
set_option maxRecDepth 8000
open Go.RowKit
open Recs
open Ls
set_option linter.unusedVariables false
set_option maxHeartbeats 1600000 in
theorem heldGroup_at (x : Int) (k : Nat) (hx : x = (k : Int)) (S : Nat → Prop) (u : Grp) (w : World) {v : Value} (hk : 0 < k) (hk1 : k + nGrp u ≤ 4000000000000000000) (hS : ∀ y, S y → y < w.heap.size) (hv : GrpAt w S v (mGrp k u)) :
    Calls Try.prog 14 #[v, .int .i64 x] w fun e w' => e = .returned (.int .i64 ((k + nGrp u : Nat) : Int)) ∧ Below w.heap.size w w' := by
  subst hx
  obtain ⟨f, rfl, s0, s1, s2, s3, s4, s5⟩ := hv
  obtain ⟨A4, c4, g4⟩ := s4.form
  rw [show (mGrp k u).topics.length = u.topics.length from mL_len _ _ _ _] at g4
  have M4 : Hid (LAt 2 ETpc w S (.slice A4 u.topics.length c4) (mL mTpc nTpc (k) u.topics)) := by rw [← g4]; exact s4
  obtain ⟨A5, c5, g5⟩ := s5.form
  rw [show (mGrp k u).members.length = u.members.length from mL_len _ _ _ _] at g5
  have M5 : Hid (LAt 7 EMbr w S (.slice A5 u.members.length c5) (mL mMbr nMbr (k + tot nTpc u.topics) u.members)) := by rw [← g5]; exact s5
  have ER : arrGrp f = #[.int .i64 u.kind, .int .i64 u.timeout, .int .i64 u.now, .int .i64 u.round, .slice A4 u.topics.length c4, .slice A5 u.members.length c5] := by unfold arrGrp; rw [show f 0 = .int .i64 u.kind from s0, show f 1 = .int .i64 u.timeout from s1, show f 2 = .int .i64 u.now from s2, show f 3 = .int .i64 u.round from s3, g4, g5]
  rw [ER]
  clear ER s0 s1 s2 s3 s4 s5 g4 g5
  unfold nGrp at hk1
  have hk2 : k ≤ 4000000000000000000 := by omega
  have HK := Seg.hid hk1
  clear hk1
  go_enter Try.func14, Try.ntmps14
  go_wp2_with fail
  refine (heldTopicS_at _ k (by omega) S u.topics (w.alloc _) (by omega) (by have := HK.out; omega) (fun g hg => by rw [hsz]; have := hS g hg; omega) (by have h := M4.out; exact h.below keepsTpc (below1 w _) hS)).mono ?_
  rintro e w1 ⟨rfl, b1⟩
  have B1 := Seg.hid (chain (below1 w _) b1)
  have T1 : Hid (w1.heap[w.heap.size]? = some (.cells #[.int .i64 u.kind, .int .i64 u.timeout, .int .i64 u.now, .int .i64 u.round, .slice A4 u.topics.length c4, .slice A5 u.members.length c5] 31 (0, 0))) := (b1.block w.heap.size (by rw [hsz]; omega)).trans (heap_alloc_new _ _)
  have p1 : w1.cell? ⟨w.heap.size, 5, none⟩ = some (.slice A5 u.members.length c5) := cell_of_row w1 _ 5 _ _ (0, 0) T1.out
  clear b1
  obtain ⟨y1, hy1⟩ : ∃ y1, k + tot nTpc u.topics = y1 := ⟨_, rfl⟩
  rw [hy1]
  have Hy1 := Seg.hid hy1
  have hp_y1 : 0 < y1 := by omega
  have hq_y1 : ¬ (y1 : Int) < 0 := by omega
  have hd_y1 : y1 ≤ 4000000000000000000 := by have z0 := Hy1.out; have := HK.out; omega
  clear hy1
  go_wp2_with fail
  refine (heldMemberS_at _ y1 (by omega) S u.members w1 (by omega) (by have z0 := Hy1.out; have := HK.out; omega) (fun g hg => Nat.lt_of_lt_of_le (hS g hg) B1.out.size) (by have h := M5.out; rw [show k + tot nTpc u.topics = y1 by have z0 := Hy1.out; omega] at h; exact h.below keepsMbr B1.out hS)).mono ?_
  rintro e w2 ⟨rfl, b2⟩
  have B2 := Seg.hid (chain B1.out b2)
  clear b2
  obtain ⟨y2, hy2⟩ : ∃ y2, y1 + tot nMbr u.members = y2 := ⟨_, rfl⟩
  rw [hy2]
  have Hy2 := Seg.hid hy2
  have hp_y2 : 0 < y2 := by omega
  have hq_y2 : ¬ (y2 : Int) < 0 := by omega
  have hd_y2 : y2 ≤ 4000000000000000000 := by have z0 := Hy1.out; have z1 := Hy2.out; have := HK.out; omega
  clear hy2
  go_wp2
  go_ret
  exact ⟨Seg.ret_int (by have z0 := Hy1.out; have z1 := Hy2.out; unfold nGrp; omega), B2.out⟩
end Go.Proofs.Ytokoollljobfgaa.Ow
