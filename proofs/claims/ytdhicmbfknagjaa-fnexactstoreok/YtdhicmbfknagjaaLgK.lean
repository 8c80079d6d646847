/- LogOk of the program: at every log. -/
import Derived.Test.YtdhicmbfknagjaaLgJ
namespace Go.Proofs.Ytdhicmbfknagjaa.LgI
set_option maxRecDepth 8000
open Go.RowKit
open LgP (inR many logOk)
open Bats SegW Segs LogW
open Recs (hsz Row below1 below2 BatAt RecsAt batVal Bat chain)
set_option linter.unusedVariables false
set_option maxHeartbeats 800000 in
theorem impl_zero (l : Lg) (A : Option Addr) (c : Nat) (w : World) (lo b : Nat) (hs : SegsAt w lo b (.slice A 0 c) l.segs) (hb : b ≤ w.heap.size) (hf : FewL l) (h : LgP.bounds l = true) (h2 : LgP.counts l.segs = true) (hz : l.segs.length = 0) :
    Calls Try.prog 76 #[logVal l (.slice A 0 c)] w fun e w' => e = .returned (.bool true) ∧ Below w.heap.size w w' := by
  have HS := Seg.hid hs
  have hnx : 0 ≤ l.next := by
    simp only [LgP.bounds, inR, Bool.and_eq_true, decide_eq_true_eq] at h
    omega
  have HB := Seg.hid h
  have HC := Seg.hid h2
  clear h h2 hs
  unfold logVal
  go_enter Try.func76, Try.ntmps76
  go_wp2_with fail
  refine (bounds_any l.start l.next l.roll _ true HB.out _).mono ?_
  rintro e w1 ⟨rfl, b1⟩
  have B1 := Seg.hid (chain (below1 w _) b1)
  have T1 : w1.heap[w.heap.size]? = some (.cells (logArr l (.slice A 0 c)) 70 (0, 0)) := (b1.block w.heap.size (by rw [hsz]; omega)).trans (heap_alloc_new _ _)
  have c3 : w1.cell? ⟨w.heap.size, 3, none⟩ = some (.slice A 0 c) := cell_of_row w1 _ 3 _ _ (0, 0) T1
  have hs1 := b1.size
  rw [hsz] at hs1
  have TT := Seg.hid T1
  clear b1 T1
  go_wp2_with fail
  refine (counts_any _ l.segs w1 lo b true HC.out (HS.out.below (B1.out.mono hb)) (Nat.le_trans hb B1.out.size) hf.1.1 hf.1.2).mono ?_
  rintro e w2 ⟨rfl, b2⟩
  have B2 := Seg.hid (chain B1.out b2)
  have T2 := (b2.block w.heap.size (by omega)).trans TT.out
  have d3 : w2.cell? ⟨w.heap.size, 3, none⟩ = some (.slice A 0 c) := cell_of_row w2 _ 3 _ _ (0, 0) T2
  have d1 : w2.cell? ⟨w.heap.size, 1, none⟩ = some (.int .i64 l.next) := cell_of_row w2 _ 1 _ _ (0, 0) T2
  clear b2 TT c3 T2
  go_wp2_with fail
  go_loop [3, 4, 21] (fun fr ep i => fr = .int .i64 0 ∧ ep = .int .i64 0 ∧ i = .int .i64 0) (fun _ _ _ => 0)
  case atStart => exact ⟨rfl, rfl, rfl⟩
  case round =>
    obtain ⟨rfl, rfl, rfl⟩ := hrel
    go_wp2
    go_ret
    exact ⟨rfl, B2.out⟩
theorem impl_any (v : Value) (l : Lg) (w : World) (lo b : Nat) (hv : LogAt w lo b v l) (hb : b ≤ w.heap.size) (hf : FewL l) :
    Calls Try.prog 76 #[v] w fun e w' => e = .returned (.bool (logOk l)) ∧ Below w.heap.size w w' := by
  unfold logOk
  cases h1 : LgP.bounds l with
  | false => exact impl_no1 v l w lo b hv hb h1
  | true =>
  cases h2 : LgP.counts l.segs with
  | false => exact impl_no2 v l w lo b hv hb hf h1 h2
  | true =>
  obtain ⟨rv, rfl, hs⟩ := hv
  have hs' := hs
  obtain ⟨H, ⟨hn, A, c, rfl, h⟩, hh⟩ := hs'
  by_cases hz : l.segs.length = 0
  · have e : (true && (true && LgP.stands l.next (LgP.segs 0 0 l.segs))) = true := by
      rw [List.length_eq_zero_iff.1 hz]
      simp only [LgP.bounds, inR, Bool.and_eq_true, decide_eq_true_eq] at h1
      simp [LgP.segs, LgP.stands]
      omega
    rw [e]
    rw [hz] at hs ⊢
    exact impl_zero l A c w lo b hs hb hf h1 h2 hz
  obtain ⟨g, o, rfl, hg, hc, hcell, _⟩ := h.resolve_left hz
  exact impl_core l g o c H w lo b hs hb hf h1 h2 hc (by omega) hh hcell
end Go.Proofs.Ytdhicmbfknagjaa.LgI
