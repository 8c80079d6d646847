/- What the law's helpers over one Record answer. -/
import Derived.Test.YtafgakddhoabjaaSz
import Derived.Test.YtafgakddhoabjaaCells
namespace Go.Proofs.Ytafgakddhoabjaa.RecW
set_option maxRecDepth 8000
open Go.RowKit
open Recs
set_option linter.unusedVariables false

def recArr (r : Rec) (hv : Value) : Array Value := #[.int .i64 r.time, .bool r.keyed, .string r.key, .bool r.gone, .string r.val, hv]
theorem recArr_one (r : Rec) (hv : Value) (h : hv.oneCell' = true) : (recArr r hv).all (·.oneCell') = true := by
  simp [recArr, Value.oneCell'] at h ⊢
  exact h
theorem info29 : (Try.prog.info? 56).map (·.size) = some 6 := by kernel_rfl
set_option maxHeartbeats 400000 in
theorem eqRecord_any (v v' : Value) (r : Rec) (w : World) (lo lo' b : Nat) (hv : RecAt w lo b v r) (hv' : RecAt w lo' b v' r) (hb : b ≤ w.heap.size) :
    Calls Try.prog 36 #[v, v'] w fun e w' => e = .returned (.bool true) ∧ Below w.heap.size w w' := by
  obtain ⟨hv, rfl, hh⟩ := hv
  obtain ⟨hv', rfl, hh'⟩ := hv'
  have HH := Seg.hid hh; have HH' := Seg.hid hh'
  obtain ⟨hn, A, c, hve, _⟩ := id hh
  obtain ⟨_, A', c', hve', _⟩ := id hh'
  clear hh hh'
  unfold recVal
  subst hve hve'
  go_enter Try.func36, Try.ntmps36
  go_wp2_with fail
  refine (Sz.eqHeadS_any _ _ r.heads ((w.alloc _).alloc _) lo lo' b (HH.out.below ((below2 w _ _).mono hb)) (HH'.out.below ((below2 w _ _).mono hb)) (by rw [hsz, hsz]; omega)).mono ?_
  rintro e w1 ⟨rfl, b1⟩
  have B1 := Seg.hid (chain (below2 w _ _) b1)
  clear b1
  go_wp2
  go_ret
  exact ⟨rfl, B1.out⟩
end Go.Proofs.Ytafgakddhoabjaa.RecW
