/- The law's look at a Log's marks. -/
import Derived.Test.YticihnoekffelaaJC14
namespace Go.Proofs.Yticihnoekffelaa.Ft
set_option maxRecDepth 8000
open Go.RowKit
open Recs
open SegW
open LogW
open Segs (tot)
set_option linter.unusedVariables false
set_option maxHeartbeats 400000 in
theorem heldLog_own (t : Lg) (sv : Value) (k : Nat) (S : Nat → Prop) (ss : List Sg) (w : World) (hk : 0 < k) (hk1 : k + nL nS1 ss ≤ 4000000000000000000) (h : OwnS w S sv (mL mS1 nS1 k ss)) (hS : ∀ x, S x → x < w.heap.size) :
    Calls Try.prog 11 #[logVal t sv, .int .i64 k] w fun e w' => e = .returned (.int .i64 ((k + nL nS1 ss : Nat) : Int)) ∧ Below w.heap.size w w' := by
  have HW := Seg.hid h
  obtain ⟨A, c, rfl⟩ := LOwn.form h
  rw [mL_len] at HW ⊢
  clear h
  unfold logVal
  go_enter Try.func11, Try.ntmps11
  go_wp2_with fail
  refine (heldSegmentS_own _ k S ss (w.alloc _) hk hk1 (LOwn.keep keepsS HW.out (by rw [hsz]; omega) (fun g hg => heap_alloc_old w _ (hS g hg)))).mono ?_
  rintro e w1 ⟨rfl, b1⟩
  have B1 := Seg.hid (chain (below1 w _) b1)
  clear b1
  have hnn : ¬ ((k + nL nS1 ss : Nat) : Int) < 0 := by omega
  go_wp2
  go_ret
  exact ⟨rfl, B1.out⟩
end Go.Proofs.Yticihnoekffelaa.Ft
