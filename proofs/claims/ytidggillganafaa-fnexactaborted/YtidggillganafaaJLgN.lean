/- The law's marks on a Log; how many they are. -/
import Derived.Test.YtidggillganafaaJMkS
namespace Go.Proofs.Ytidggillganafaa.Ft
set_option maxRecDepth 8000
open Go.RowKit
open Recs
open SegW
open LogW
open Segs (tot)
set_option linter.unusedVariables false
theorem nL_bound {T : Type} [Inhabited T] (n1 : T → Nat) (M : Nat) : ∀ (ts : List T), (∀ i, i < ts.length → n1 (ts.getD i default) ≤ M) → nL n1 ts ≤ ts.length * M
  | [], _ => by simp [nL]
  | t :: r, h => by
    have h0 := h 0 (by simp)
    have hr := nL_bound n1 M r (fun i hi => by have := h (i + 1) (by simpa using hi); simpa using this)
    simp only [List.getD_cons_zero] at h0
    simp only [nL, List.length_cons, Nat.succ_mul]
    omega
theorem nB_few {b : Bat} (hb : FewB b) : nB1 b ≤ 2199028498438 := by
  have a1 := nL_bound nR1 2097157 b.recs (fun i hi => by
    have := hb.2 i hi
    unfold FewR at this
    show 5 + nL nH1 _ ≤ _
    rw [nH_eq]; omega)
  have := hb.1
  unfold nB1
  have : b.recs.length * 2097157 ≤ 1048576 * 2097157 := Nat.mul_le_mul_right _ this
  omega
theorem nS_tot (ts : List Sg) (h : ∀ i, i < ts.length → FewS (ts.getD i default)) : ∀ k, k ≤ ts.length → nL nS1 (ts.take k) ≤ k + tot ts k * 2199028498438
  | 0, _ => by simp [nL, tot]
  | k + 1, hk => by
    have ih := nS_tot ts h k (by omega)
    have a1 := nL_take nS1 (ts := ts) (j := k) (by omega)
    have a2 := nL_bound nB1 2199028498438 (ts.getD k default).bats (fun i hi => nB_few ((h k (by omega)).2 i hi))
    have a3 : nS1 (ts.getD k default) = 1 + nL nB1 (ts.getD k default).bats := rfl
    have a4 : tot ts (k + 1) = tot ts k + (ts.getD k default).bats.length := rfl
    rw [a4, Nat.add_mul]
    omega
theorem log_few {t : Lg} (h : FewL t) : 1 + nL nS1 t.segs ≤ 4000000000000000000 := by
  have a1 := nS_tot t.segs h.1.2 t.segs.length (Nat.le_refl _)
  rw [List.take_length] at a1
  have a2 := h.1.1
  have a3 : tot t.segs t.segs.length * 2199028498438 ≤ 1048576 * 2199028498438 := Nat.mul_le_mul_right _ h.2
  omega
set_option maxHeartbeats 400000 in
theorem markLog_own (t : Lg) (sv : Value) (k : Nat) (S : Nat → Prop) (w : World) (hk : 0 < k) (hk1 : k + nL nS1 t.segs ≤ 4000000000000000000) (h : OwnS w S sv t.segs) (hS : ∀ x, S x → x < w.heap.size) :
    Calls Try.prog 13 #[logVal t sv, .int .i64 k] w fun e w' => e = .returned (.int .i64 ((k + nL nS1 t.segs : Nat) : Int)) ∧ OwnS w' S sv (mL mS1 nS1 k t.segs) ∧ Foot w w' S := by
  have HW := Seg.hid h
  obtain ⟨A, c, rfl⟩ := LOwn.form h
  clear h
  unfold logVal
  go_enter Try.func13, Try.ntmps13
  go_wp2_with fail
  refine (markSegmentS_own _ k S t.segs (w.alloc _) hk hk1 (LOwn.keep keepsS HW.out (by rw [hsz]; omega) (fun g hg => heap_alloc_old w _ (hS g hg)))).mono ?_
  rintro e w1 ⟨rfl, hR, b1⟩
  have HR1 := Seg.hid hR
  have B1 : Hid (Foot w w1 S) := (Foot.below (Foot.refl w S) (below1 w _)).trans b1 (fun _ hx => hx)
  clear hR b1
  go_wp2
  go_ret
  exact ⟨rfl, HR1.out, B1.out⟩
end Go.Proofs.Ytidggillganafaa.Ft
