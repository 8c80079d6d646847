/- What the law's helpers over one Batch answer. -/
import Derived.Test.YtdhicmbfknagjaaRecsT
namespace Go.Proofs.Ytdhicmbfknagjaa.BatW
set_option maxRecDepth 8000
open Go.RowKit
open Recs
set_option linter.unusedVariables false

def batArr (t : Bat) (hv : Value) : Array Value := #[.int .i64 t.base, .int .i64 t.epoch, .int .i64 t.producer, .int .i64 t.turn, .int .i64 t.seq, .int .i64 t.flags, hv]
theorem batArr_one (t : Bat) (hv : Value) (h : hv.oneCell' = true) : (batArr t hv).all (·.oneCell') = true := by
  simp [batArr, Value.oneCell'] at h ⊢
  exact h
theorem info40 : (Try.prog.info? 118).map (·.size) = some 7 := by kernel_rfl

set_option maxHeartbeats 400000 in
theorem szBatch_any (v : Value) (t : Bat) (l : Int) (w : World) (lo b : Nat) (h3 : -1 ≤ l) (h4 : l ≤ 1048576) (hv : BatAt w lo b v t) (hb : b ≤ w.heap.size) (hf : FineB t) :
    Calls Try.prog 142 #[v, .int .i64 l] w fun e w' => ∃ q, e = .returned (.int .i64 q) ∧ -1 ≤ q ∧ q ≤ l ∧ (0 ≤ q → FewB t) ∧ Below w.heap.size w w' := by
  obtain ⟨hv, rfl, hh⟩ := hv
  obtain ⟨f1, f2⟩ := hf
  have F2 := Seg.hid f2
  have HH := Seg.hid hh
  unfold maxLen at f1
  obtain ⟨H, ⟨hn, A, c, hve, _⟩, _⟩ := id hh
  clear hh f2
  unfold batVal
  subst hve
  go_enter Try.func142, Try.ntmps142
  go_wp2_with fail
  refine (RecsW.szRecordS_any _ t.recs _ (w.alloc _) lo b (by omega) (by omega) (HH.out.below ((below1 w _).mono hb)) (by rw [hsz]; omega) F2.out).mono ?_
  rintro e w1 ⟨q, rfl, q1, q2, q3, b1⟩
  have B1 := Seg.hid (chain (below1 w _) b1)
  have Q3 := Seg.hid q3
  clear b1 q3
  by_cases hq : q < 0
  · go_wp2
    go_ret
    exact ⟨_, rfl, by omega, by omega, fun h => absurd h (by omega), B1.out⟩
  · go_wp2
    go_ret
    exact ⟨q, rfl, by omega, by omega, fun h => ⟨by have := (Q3.out h).1; omega, (Q3.out h).2⟩, B1.out⟩

set_option maxHeartbeats 400000 in
theorem toBatch_any (v : Value) (t : Bat) (w : World) (lo b : Nat) (hv : BatAt w lo b v t) (hb : b ≤ w.heap.size) (hf : FewB t) :
    Calls Try.prog 143 #[v] w fun e w' => ∃ v', e = .returned v' ∧ BatAt w' w.heap.size w'.heap.size v' t ∧ Below w.heap.size w w' := by
  obtain ⟨hv, rfl, hh⟩ := hv
  have HH := Seg.hid hh
  obtain ⟨H, ⟨hn, A, c, hve, _⟩, _⟩ := id hh
  clear hh
  unfold batVal
  subst hve
  go_enter Try.func143, Try.ntmps143
  go_wp2_with fail
  refine (RecsW.toRecordS_any _ t.recs (((w.alloc _).alloc _).alloc _) lo b (HH.out.below ((below3 w _ _ _).mono hb)) (by rw [hsz, hsz, hsz]; omega) hf.1 hf.2).mono ?_
  rintro e w1 ⟨v', rfl, hh1, b1⟩
  have B1 := Seg.hid (chain (below3 w _ _ _) b1)
  have T1 := (b1.block (w.heap.size + 1) (by rw [hsz, hsz, hsz]; omega)).trans (at3 w _ _ _)
  have T2 := (b1.block (w.heap.size + 1 + 1) (by rw [hsz, hsz, hsz]; omega)).trans (Cells.at3' w _ _ _)
  have HH1 := Seg.hid hh1
  obtain ⟨H', ⟨_, A', c', hve, _⟩, _⟩ := id hh1
  clear hh1 b1
  subst hve
  have c6 := cell_of_row w1 (w.heap.size + 1 + 1) 6 _ _ _ T2
  have z6 := frozen_of_row w1 (w.heap.size + 1 + 1) 6 _ _ T2
  have H3 : Hid ((w1.setCell ⟨w.heap.size + 1 + 1, 6, none⟩ (.slice A' t.recs.length c')).heap[w.heap.size + 1 + 1]? = some (.cells (batArr t (.slice A' t.recs.length c')) 118 (0, 0))) := heap_setCell_same w1 (w.heap.size + 1 + 1) 6 _ _ (.slice A' t.recs.length c') T2
  have T4 := (heap_setCell_other w1 ⟨w.heap.size + 1 + 1, 6, none⟩ (w.heap.size + 1) (.slice A' t.recs.length c') (by simp)).trans T1
  have H5 := Seg.hid (Cells.there_of T4)
  have H4 := Seg.hid (Cells.whole (vs := batArr t (.slice A' t.recs.length c')) T4 rfl)
  have B2 := Seg.hid (Cells.below_setCells (g := w.heap.size + 1) (by omega) (batArr t (.slice A' t.recs.length c')).toList 0 _ _ (B1.out.setCell (p := ⟨w.heap.size + 1 + 1, 6, none⟩) (by simp; omega) (.slice A' t.recs.length c')))
  have HF : Hid (RecsAt ((w1.setCell ⟨w.heap.size + 1 + 1, 6, none⟩ (.slice A' t.recs.length c')).setCells (w.heap.size + 1) 0 (batArr t (.slice A' t.recs.length c')).toList) w.heap.size ((w1.setCell ⟨w.heap.size + 1 + 1, 6, none⟩ (.slice A' t.recs.length c')).setCells (w.heap.size + 1) 0 (batArr t (.slice A' t.recs.length c')).toList).heap.size (.slice A' t.recs.length c') t.recs) := by
    refine (RecsAt.keep HH1.out (fun g h1 h2 => ?_)).mono ?_ ?_
    · rw [hsz, hsz, hsz] at h1
      rw [Cells.heap_setCells_other _ _ (by omega), heap_setCell_other _ _ _ _ (by show _ ≠ w.heap.size + 1 + 1; omega)]
    · rw [hsz, hsz, hsz]; omega
    · rw [Cells.size_setCells]; simp
  clear T1 T2 T4
  simp at c6
  go_wp2_with (first | (refine wpList_load_row rfl 118 _ rfl (w.heap.size + 1 + 1) rfl _ _ _ _ H3.out Try.underlying118 rfl info40 ?_) | (refine wpList_store_mid rfl 118 _ _ rfl (w.heap.size + 1) 0 (batArr t (.slice A' t.recs.length c')) rfl rfl H5.out info40 (batArr_one _ _ rfl) ?_))
  exact bodyPost_ret (v := batVal t (.slice A' t.recs.length c')) (results_cell_row rfl _ _ (w.heap.size + 1) _ _ _ _ rfl H4.out Try.underlying118 rfl info40) rfl ⟨_, rfl, ⟨_, rfl, HF.out⟩, B2.out⟩

set_option maxHeartbeats 400000 in
theorem eqBatch_any (v v' : Value) (t : Bat) (w : World) (lo lo' b : Nat) (hv : BatAt w lo b v t) (hv' : BatAt w lo' b v' t) (hb : b ≤ w.heap.size) :
    Calls Try.prog 145 #[v, v'] w fun e w' => e = .returned (.bool true) ∧ Below w.heap.size w w' := by
  obtain ⟨hv, rfl, hh⟩ := hv
  obtain ⟨hv', rfl, hh'⟩ := hv'
  have HH := Seg.hid hh; have HH' := Seg.hid hh'
  obtain ⟨_, ⟨hn, A, c, hve, _⟩, _⟩ := id hh
  obtain ⟨_, ⟨_, A', c', hve', _⟩, _⟩ := id hh'
  clear hh hh'
  unfold batVal
  subst hve hve'
  go_enter Try.func145, Try.ntmps145
  go_wp2_with fail
  refine (RecsW.eqRecordS_any _ _ t.recs ((w.alloc _).alloc _) lo lo' b (HH.out.below ((below2 w _ _).mono hb)) (HH'.out.below ((below2 w _ _).mono hb)) (by rw [hsz, hsz]; omega)).mono ?_
  rintro e w1 ⟨rfl, b1⟩
  have B1 := Seg.hid (chain (below2 w _ _) b1)
  clear b1
  go_wp2
  go_ret
  exact ⟨rfl, B1.out⟩
end Go.Proofs.Ytdhicmbfknagjaa.BatW
