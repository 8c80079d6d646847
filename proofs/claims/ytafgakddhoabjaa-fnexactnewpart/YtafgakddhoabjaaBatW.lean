/- What the law's helpers over one Batch answer. -/
import Derived.Test.YtafgakddhoabjaaRecsT
namespace Go.Proofs.Ytafgakddhoabjaa.BatW
set_option maxRecDepth 8000
open Go.RowKit
open Recs
set_option linter.unusedVariables false

def batArr (t : Bat) (hv : Value) : Array Value := #[.int .i64 t.base, .int .i64 t.epoch, .int .i64 t.producer, .int .i64 t.turn, .int .i64 t.seq, .int .i64 t.flags, hv]
theorem batArr_one (t : Bat) (hv : Value) (h : hv.oneCell' = true) : (batArr t hv).all (·.oneCell') = true := by
  simp [batArr, Value.oneCell'] at h ⊢
  exact h
theorem info40 : (Try.prog.info? 51).map (·.size) = some 7 := by kernel_rfl

set_option maxHeartbeats 400000 in
theorem eqBatch_any (v v' : Value) (t : Bat) (w : World) (lo lo' b : Nat) (hv : BatAt w lo b v t) (hv' : BatAt w lo' b v' t) (hb : b ≤ w.heap.size) :
    Calls Try.prog 34 #[v, v'] w fun e w' => e = .returned (.bool true) ∧ Below w.heap.size w w' := by
  obtain ⟨hv, rfl, hh⟩ := hv
  obtain ⟨hv', rfl, hh'⟩ := hv'
  have HH := Seg.hid hh; have HH' := Seg.hid hh'
  obtain ⟨_, ⟨hn, A, c, hve, _⟩, _⟩ := id hh
  obtain ⟨_, ⟨_, A', c', hve', _⟩, _⟩ := id hh'
  clear hh hh'
  unfold batVal
  subst hve hve'
  go_enter Try.func34, Try.ntmps34
  go_wp2_with fail
  refine (RecsW.eqRecordS_any _ _ t.recs ((w.alloc _).alloc _) lo lo' b (HH.out.below ((below2 w _ _).mono hb)) (HH'.out.below ((below2 w _ _).mono hb)) (by rw [hsz, hsz]; omega)).mono ?_
  rintro e w1 ⟨rfl, b1⟩
  have B1 := Seg.hid (chain (below2 w _ _) b1)
  clear b1
  go_wp2
  go_ret
  exact ⟨rfl, B1.out⟩
end Go.Proofs.Ytafgakddhoabjaa.BatW
