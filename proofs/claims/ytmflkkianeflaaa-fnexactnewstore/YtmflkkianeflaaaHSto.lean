/- One Store with marks: the law's look at these. -/
import Derived.Test.YtmflkkianeflaaaOSto
import Derived.Test.YtmflkkianeflaaaHLg
import Derived.Test.YtmflkkianeflaaaHTxn
namespace Go.Proofs.Ytmflkkianeflaaa.Ow
set_option maxRecDepth 8000
open Go.RowKit
open Recs
open Ls
open LogW (Lg)
set_option linter.unusedVariables false
set_option maxHeartbeats 1600000 in
theorem heldStore_at (x : Int) (k : Nat) (hx : x = (k : Int)) (S : Nat → Prop) (u : Sto) (w : World) {v : Value} (hk : 0 < k) (hk1 : k + nSto u ≤ 4000000000000000000) (hS : ∀ y, S y → y < w.heap.size) (hv : StoAt w S v (mSto k u)) :
    Calls Try.prog 13 #[v, .int .i64 x] w fun e w' => e = .returned (.int .i64 ((k + nSto u : Nat) : Int)) ∧ Below w.heap.size w w' := by
  subst hx
  obtain ⟨f, rfl, s0, s1, s2⟩ := hv
  obtain ⟨A0, c0, g0⟩ := s0.form
  rw [show (mSto k u).logs.length = u.logs.length from mL_len _ _ _ _] at g0
  have M0 : Hid (LAt 4 ELg w S (.slice A0 u.logs.length c0) (mL mLg nLg (k) u.logs)) := by rw [← g0]; exact s0
  obtain ⟨A1, c1, g1⟩ := s1.form
  rw [show (mSto k u).txns.length = u.txns.length from mL_len _ _ _ _] at g1
  have M1 : Hid (LAt 5 ETxn w S (.slice A1 u.txns.length c1) (mL mTxn nTxn (k + tot nLg u.logs) u.txns)) := by rw [← g1]; exact s1
  have ER : arrSto f = #[.slice A0 u.logs.length c0, .slice A1 u.txns.length c1, .int .i64 u.used] := by unfold arrSto; rw [g0, g1, show f 2 = .int .i64 u.used from s2]
  rw [ER]
  clear ER s0 s1 s2 g0 g1
  unfold nSto at hk1
  have hk2 : k ≤ 4000000000000000000 := by omega
  have HK := Seg.hid hk1
  clear hk1
  go_enter Try.func13, Try.ntmps13
  go_wp2_with fail
  refine (heldLogS_at _ k (by omega) S u.logs (w.alloc _) (by omega) (by have := HK.out; omega) (fun g hg => by rw [hsz]; have := hS g hg; omega) (by have h := M0.out; exact h.below keepsLg (below1 w _) hS)).mono ?_
  rintro e w1 ⟨rfl, b1⟩
  have B1 := Seg.hid (chain (below1 w _) b1)
  have T1 : Hid (w1.heap[w.heap.size]? = some (.cells #[.slice A0 u.logs.length c0, .slice A1 u.txns.length c1, .int .i64 u.used] 31 (0, 0))) := (b1.block w.heap.size (by rw [hsz]; omega)).trans (heap_alloc_new _ _)
  have p1 : w1.cell? ⟨w.heap.size, 1, none⟩ = some (.slice A1 u.txns.length c1) := cell_of_row w1 _ 1 _ _ (0, 0) T1.out
  clear b1
  obtain ⟨y1, hy1⟩ : ∃ y1, k + tot nLg u.logs = y1 := ⟨_, rfl⟩
  rw [hy1]
  have Hy1 := Seg.hid hy1
  have hp_y1 : 0 < y1 := by omega
  have hq_y1 : ¬ (y1 : Int) < 0 := by omega
  have hd_y1 : y1 ≤ 4000000000000000000 := by have z0 := Hy1.out; have := HK.out; omega
  clear hy1
  go_wp2_with fail
  refine (heldTxnS_at _ y1 (by omega) S u.txns w1 (by omega) (by have z0 := Hy1.out; have := HK.out; omega) (fun g hg => Nat.lt_of_lt_of_le (hS g hg) B1.out.size) (by have h := M1.out; rw [show k + tot nLg u.logs = y1 by have z0 := Hy1.out; omega] at h; exact h.below keepsTxn B1.out hS)).mono ?_
  rintro e w2 ⟨rfl, b2⟩
  have B2 := Seg.hid (chain B1.out b2)
  clear b2
  obtain ⟨y2, hy2⟩ : ∃ y2, y1 + tot nTxn u.txns = y2 := ⟨_, rfl⟩
  rw [hy2]
  have Hy2 := Seg.hid hy2
  have hp_y2 : 0 < y2 := by omega
  have hq_y2 : ¬ (y2 : Int) < 0 := by omega
  have hd_y2 : y2 ≤ 4000000000000000000 := by have z0 := Hy1.out; have z1 := Hy2.out; have := HK.out; omega
  clear hy2
  go_wp2
  go_ret
  exact ⟨Seg.ret_int (by have z0 := Hy1.out; have z1 := Hy2.out; unfold nSto; omega), B2.out⟩
end Go.Proofs.Ytmflkkianeflaaa.Ow
