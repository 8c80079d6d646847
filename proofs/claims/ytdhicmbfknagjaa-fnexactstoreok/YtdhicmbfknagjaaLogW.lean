/- One Log: how it lies in memory, and what the law's helpers answer. -/
import Derived.Test.YtdhicmbfknagjaaSegs
namespace Go.Proofs.Ytdhicmbfknagjaa.LogW
set_option maxRecDepth 8000
open Go.RowKit
open Recs
open Bats SegW Segs
set_option linter.unusedVariables false
structure Lg where
  start : Int
  next : Int
  roll : Int
  segs : List Sg
  deriving Inhabited
def FineL (t : Lg) : Prop := t.segs.length ≤ maxLen ∧ ∀ i, i < t.segs.length → FineS (t.segs.getD i default)
def FewL (t : Lg) : Prop := (t.segs.length ≤ 1048576 ∧ ∀ i, i < t.segs.length → FewS (t.segs.getD i default)) ∧ tot t.segs t.segs.length ≤ 1048576
def logArr (t : Lg) (hv : Value) : Array Value := #[.int .i64 t.start, .int .i64 t.next, .int .i64 t.roll, hv]
def logVal (t : Lg) (hv : Value) : Value := .agg #[.int .i64 t.start, .int .i64 t.next, .int .i64 t.roll, hv]
def LogAt (w : World) (lo b : Nat) (v : Value) (t : Lg) : Prop := ∃ hv, v = logVal t hv ∧ SegsAt w lo b hv t.segs
section
variable {w w' : World} {lo lo' b b' : Nat} {v : Value} {t : Lg}
theorem LogAt.keep (h : LogAt w lo b v t) (hk : ∀ g, lo ≤ g → g < b → w'.heap[g]? = w.heap[g]?) : LogAt w' lo b v t := by
  obtain ⟨hv, h1, h2⟩ := h
  exact ⟨hv, h1, h2.keep hk⟩
theorem LogAt.below (h : LogAt w lo b v t) (hb : Below b w w') : LogAt w' lo b v t := h.keep fun g _ hg => hb.block g hg
theorem LogAt.mono (h : LogAt w lo b v t) (hl : lo' ≤ lo) (hb : b ≤ b') : LogAt w lo' b' v t := by
  obtain ⟨hv, h1, h2⟩ := h
  exact ⟨hv, h1, h2.mono hl hb⟩
end
theorem logArr_one (t : Lg) (hv : Value) (h : hv.oneCell' = true) : (logArr t hv).all (·.oneCell') = true := by
  simp [logArr, Value.oneCell'] at h ⊢
  exact h
theorem infoN : (Try.prog.info? 70).map (·.size) = some 4 := by kernel_rfl

set_option maxHeartbeats 400000 in
theorem szLog_any (v : Value) (t : Lg) (l : Int) (w : World) (lo b : Nat) (h3 : -1 ≤ l) (h4 : l ≤ 1048576) (hv : LogAt w lo b v t) (hb : b ≤ w.heap.size) (hf : FineL t) :
    Calls Try.prog 70 #[v, .int .i64 l] w fun e w' => ∃ q, e = .returned (.int .i64 q) ∧ -1 ≤ q ∧ q ≤ l ∧ (0 ≤ q → FewL t) ∧ Below w.heap.size w w' := by
  obtain ⟨hv, rfl, hh⟩ := hv
  obtain ⟨f1, f2⟩ := hf
  have F2 := Seg.hid f2
  have HH := Seg.hid hh
  unfold maxLen at f1
  obtain ⟨H, ⟨hn, A, c, hve, _⟩, _⟩ := id hh
  clear hh f2
  unfold logVal
  subst hve
  go_enter Try.func70, Try.ntmps70
  go_wp2_with fail
  refine (Segs.szSegmentS_any _ t.segs _ (w.alloc _) lo b (by omega) (by omega) (HH.out.below ((below1 w _).mono hb)) (by rw [hsz]; omega) F2.out).mono ?_
  rintro e w1 ⟨q, rfl, q1, q2, q3, b1⟩
  have B1 := Seg.hid (chain (below1 w _) b1)
  have Q3 := Seg.hid q3
  clear b1 q3
  by_cases hq : q < 0
  · go_wp2
    go_ret
    exact ⟨_, rfl, by omega, by omega, fun h => absurd h (by omega), B1.out⟩
  · go_wp2
    go_ret
    exact ⟨q, rfl, by omega, by omega, fun h => ⟨⟨by have := (Q3.out h).1.1; omega, (Q3.out h).1.2⟩, by have := (Q3.out h).2; omega⟩, B1.out⟩

set_option maxHeartbeats 400000 in
theorem toLog_any (v : Value) (t : Lg) (w : World) (lo b : Nat) (hv : LogAt w lo b v t) (hb : b ≤ w.heap.size) (hf : FewL t) :
    Calls Try.prog 74 #[v] w fun e w' => ∃ v', e = .returned v' ∧ LogAt w' w.heap.size w'.heap.size v' t ∧ Below w.heap.size w w' := by
  obtain ⟨hv, rfl, hh⟩ := hv
  have HH := Seg.hid hh
  obtain ⟨H, ⟨hn, A, c, hve, _⟩, _⟩ := id hh
  clear hh
  unfold logVal
  subst hve
  go_enter Try.func74, Try.ntmps74
  go_wp2_with fail
  refine (Segs.toSegmentS_any _ t.segs (((w.alloc _).alloc _).alloc _) lo b (HH.out.below ((below3 w _ _ _).mono hb)) (by rw [hsz, hsz, hsz]; omega) hf.1.1 hf.1.2).mono ?_
  rintro e w1 ⟨v', rfl, hh1, b1⟩
  have B1 := Seg.hid (chain (below3 w _ _ _) b1)
  have T1 := (b1.block (w.heap.size + 1) (by rw [hsz, hsz, hsz]; omega)).trans (at3 w _ _ _)
  have T2 := (b1.block (w.heap.size + 1 + 1) (by rw [hsz, hsz, hsz]; omega)).trans (Cells.at3' w _ _ _)
  have HH1 := Seg.hid hh1
  obtain ⟨H', ⟨_, A', c', hve, _⟩, _⟩ := id hh1
  clear hh1 b1
  subst hve
  have cN := cell_of_row w1 (w.heap.size + 1 + 1) 3 _ _ _ T2
  have zN := frozen_of_row w1 (w.heap.size + 1 + 1) 3 _ _ T2
  have H3 : Hid ((w1.setCell ⟨w.heap.size + 1 + 1, 3, none⟩ (.slice A' t.segs.length c')).heap[w.heap.size + 1 + 1]? = some (.cells (logArr t (.slice A' t.segs.length c')) 70 (0, 0))) := heap_setCell_same w1 (w.heap.size + 1 + 1) 3 _ _ (.slice A' t.segs.length c') T2
  have T4 := (heap_setCell_other w1 ⟨w.heap.size + 1 + 1, 3, none⟩ (w.heap.size + 1) (.slice A' t.segs.length c') (by simp)).trans T1
  have H5 := Seg.hid (Cells.there_of T4)
  have H4 := Seg.hid (Cells.whole (vs := logArr t (.slice A' t.segs.length c')) T4 rfl)
  have B2 := Seg.hid (Cells.below_setCells (g := w.heap.size + 1) (by omega) (logArr t (.slice A' t.segs.length c')).toList 0 _ _ (B1.out.setCell (p := ⟨w.heap.size + 1 + 1, 3, none⟩) (by simp; omega) (.slice A' t.segs.length c')))
  have HF : Hid (SegsAt ((w1.setCell ⟨w.heap.size + 1 + 1, 3, none⟩ (.slice A' t.segs.length c')).setCells (w.heap.size + 1) 0 (logArr t (.slice A' t.segs.length c')).toList) w.heap.size ((w1.setCell ⟨w.heap.size + 1 + 1, 3, none⟩ (.slice A' t.segs.length c')).setCells (w.heap.size + 1) 0 (logArr t (.slice A' t.segs.length c')).toList).heap.size (.slice A' t.segs.length c') t.segs) := by
    refine (SegsAt.keep HH1.out (fun g h1 h2 => ?_)).mono ?_ ?_
    · rw [hsz, hsz, hsz] at h1
      rw [Cells.heap_setCells_other _ _ (by omega), heap_setCell_other _ _ _ _ (by show _ ≠ w.heap.size + 1 + 1; omega)]
    · rw [hsz, hsz, hsz]; omega
    · rw [Cells.size_setCells]; simp
  clear T1 T2 T4
  simp at cN
  go_wp2_with (first | (refine wpList_load_row rfl 70 _ rfl (w.heap.size + 1 + 1) rfl _ _ _ _ H3.out Try.underlying70 rfl infoN ?_) | (refine wpList_store_mid rfl 70 _ _ rfl (w.heap.size + 1) 0 (logArr t (.slice A' t.segs.length c')) rfl rfl H5.out infoN (logArr_one _ _ rfl) ?_))
  exact bodyPost_ret (v := logVal t (.slice A' t.segs.length c')) (results_cell_row rfl _ _ (w.heap.size + 1) _ _ _ _ rfl H4.out Try.underlying70 rfl infoN) rfl ⟨_, rfl, ⟨_, rfl, HF.out⟩, B2.out⟩

set_option maxHeartbeats 400000 in
theorem eqLog_any (v v' : Value) (t : Lg) (w : World) (lo lo' b : Nat) (hv : LogAt w lo b v t) (hv' : LogAt w lo' b v' t) (hb : b ≤ w.heap.size) :
    Calls Try.prog 80 #[v, v'] w fun e w' => e = .returned (.bool true) ∧ Below w.heap.size w w' := by
  obtain ⟨hv, rfl, hh⟩ := hv
  obtain ⟨hv', rfl, hh'⟩ := hv'
  have HH := Seg.hid hh; have HH' := Seg.hid hh'
  obtain ⟨_, ⟨hn, A, c, hve, _⟩, _⟩ := id hh
  obtain ⟨_, ⟨_, A', c', hve', _⟩, _⟩ := id hh'
  clear hh hh'
  unfold logVal
  subst hve hve'
  go_enter Try.func80, Try.ntmps80
  go_wp2_with fail
  refine (Segs.eqSegmentS_any _ _ t.segs ((w.alloc _).alloc _) lo lo' b (HH.out.below ((below2 w _ _).mono hb)) (HH'.out.below ((below2 w _ _).mono hb)) (by rw [hsz, hsz]; omega)).mono ?_
  rintro e w1 ⟨rfl, b1⟩
  have B1 := Seg.hid (chain (below2 w _ _) b1)
  clear b1
  go_wp2
  go_ret
  exact ⟨rfl, B1.out⟩
end Go.Proofs.Ytdhicmbfknagjaa.LogW
