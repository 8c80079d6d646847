/- What the law's helpers over one Record answer. -/
import Derived.Test.YtdhicmbfknagjaaSz
import Derived.Test.YtdhicmbfknagjaaCells
namespace Go.Proofs.Ytdhicmbfknagjaa.RecW
set_option maxRecDepth 8000
open Go.RowKit
open Recs
set_option linter.unusedVariables false

set_option maxHeartbeats 400000 in
theorem szRecord_any (v : Value) (r : Rec) (l : Int) (w : World) (lo b : Nat) (h3 : -1 ≤ l) (h4 : l ≤ 1048576) (hv : RecAt w lo b v r) (hb : b ≤ w.heap.size) (hf : FineR r) :
    Calls Try.prog 149 #[v, .int .i64 l] w fun e w' => ∃ q, e = .returned (.int .i64 q) ∧ -1 ≤ q ∧ q ≤ l ∧ (0 ≤ q → FewR r) ∧ Below w.heap.size w w' := by
  obtain ⟨hv, rfl, hh⟩ := hv
  obtain ⟨f1, f2, f3, f4⟩ := hf
  have F4 := Seg.hid f4
  have HH := Seg.hid hh
  unfold maxLen at f1 f2 f3
  obtain ⟨hn, A, c, hve, _⟩ := id hh
  clear hh f4
  unfold recVal
  subst hve
  go_enter Try.func149, Try.ntmps149
  by_cases k1 : l - (r.key.size : Int) < 0
  · go_wp2
    go_ret
    exact ⟨_, rfl, by omega, by omega, fun h => absurd h (by omega), below1 _ _⟩
  by_cases k2 : l - (r.key.size : Int) - (r.val.size : Int) < 0
  · go_wp2
    go_ret
    exact ⟨_, rfl, by omega, by omega, fun h => absurd h (by omega), below1 _ _⟩
  go_wp2_with fail
  refine (Sz.szHeadS_any _ r.heads _ (w.alloc _) lo b (by omega) (by omega) (HH.out.below ((below1 w _).mono hb)) (by rw [hsz]; omega) F4.out).mono ?_
  rintro e w1 ⟨q, rfl, q1, q2, q3, b1⟩
  have B1 := Seg.hid (chain (below1 w _) b1)
  have Q3 := Seg.hid q3
  clear b1 q3
  by_cases hq : q < 0
  · go_wp2
    go_ret
    exact ⟨_, rfl, by omega, by omega, fun h => absurd h (by omega), B1.out⟩
  · go_wp2
    go_ret
    exact ⟨q, rfl, by omega, by omega, fun h => by have := Q3.out h; unfold FewR; omega, B1.out⟩

def recArr (r : Rec) (hv : Value) : Array Value := #[.int .i64 r.time, .bool r.keyed, .string r.key, .bool r.gone, .string r.val, hv]
theorem recArr_one (r : Rec) (hv : Value) (h : hv.oneCell' = true) : (recArr r hv).all (·.oneCell') = true := by
  simp [recArr, Value.oneCell'] at h ⊢
  exact h
theorem info29 : (Try.prog.info? 160).map (·.size) = some 6 := by kernel_rfl
set_option maxHeartbeats 400000 in
theorem toRecord_any (v : Value) (r : Rec) (w : World) (lo b : Nat) (hv : RecAt w lo b v r) (hb : b ≤ w.heap.size) (hf : FewR r) :
    Calls Try.prog 150 #[v] w fun e w' => ∃ v', e = .returned v' ∧ RecAt w' w.heap.size w'.heap.size v' r ∧ Below w.heap.size w w' := by
  obtain ⟨hv, rfl, hh⟩ := hv
  have HH := Seg.hid hh
  obtain ⟨hn, A, c, hve, _⟩ := id hh
  clear hh
  unfold recVal
  subst hve
  go_enter Try.func150, Try.ntmps150
  go_wp2_with fail
  refine (Sz.toHeadS_any _ r.heads (((w.alloc _).alloc _).alloc _) lo b (HH.out.below ((below3 w _ _ _).mono hb)) (by rw [hsz, hsz, hsz]; omega) hf).mono ?_
  rintro e w1 ⟨v', rfl, hh1, b1⟩
  have B1 := Seg.hid (chain (below3 w _ _ _) b1)
  have T1 := (b1.block (w.heap.size + 1) (by rw [hsz, hsz, hsz]; omega)).trans (at3 w _ _ _)
  have T2 := (b1.block (w.heap.size + 1 + 1) (by rw [hsz, hsz, hsz]; omega)).trans (Cells.at3' w _ _ _)
  have HH1 := Seg.hid hh1
  obtain ⟨_, A', c', hve, _⟩ := id hh1
  clear hh1 b1
  subst hve
  have c5 := cell_of_row w1 (w.heap.size + 1 + 1) 5 _ _ _ T2
  have z5 := frozen_of_row w1 (w.heap.size + 1 + 1) 5 _ _ T2
  have H3 : Hid ((w1.setCell ⟨w.heap.size + 1 + 1, 5, none⟩ (.slice A' r.heads.length c')).heap[w.heap.size + 1 + 1]? = some (.cells (recArr r (.slice A' r.heads.length c')) 160 (0, 0))) := heap_setCell_same w1 (w.heap.size + 1 + 1) 5 _ _ (.slice A' r.heads.length c') T2
  have T4 := (heap_setCell_other w1 ⟨w.heap.size + 1 + 1, 5, none⟩ (w.heap.size + 1) (.slice A' r.heads.length c') (by simp)).trans T1
  have H5 := Seg.hid (Cells.there_of T4)
  have H4 := Seg.hid (Cells.whole (vs := recArr r (.slice A' r.heads.length c')) T4 rfl)
  have B2 := Seg.hid (Cells.below_setCells (g := w.heap.size + 1) (by omega) (recArr r (.slice A' r.heads.length c')).toList 0 _ _ (B1.out.setCell (p := ⟨w.heap.size + 1 + 1, 5, none⟩) (by simp; omega) (.slice A' r.heads.length c')))
  have HF : Hid (Heads ((w1.setCell ⟨w.heap.size + 1 + 1, 5, none⟩ (.slice A' r.heads.length c')).setCells (w.heap.size + 1) 0 (recArr r (.slice A' r.heads.length c')).toList) w.heap.size ((w1.setCell ⟨w.heap.size + 1 + 1, 5, none⟩ (.slice A' r.heads.length c')).setCells (w.heap.size + 1) 0 (recArr r (.slice A' r.heads.length c')).toList).heap.size (.slice A' r.heads.length c') r.heads) := by
    refine (Heads.keep HH1.out (fun g h1 h2 => ?_)).mono ?_ ?_
    · rw [hsz, hsz, hsz] at h1
      rw [Cells.heap_setCells_other _ _ (by omega), heap_setCell_other _ _ _ _ (by show _ ≠ w.heap.size + 1 + 1; omega)]
    · rw [hsz, hsz, hsz]; omega
    · rw [Cells.size_setCells]; simp
  clear T1 T2 T4
  simp at c5
  go_wp2_with (first | (refine wpList_load_row rfl 160 _ rfl (w.heap.size + 1 + 1) rfl _ _ _ _ H3.out Try.underlying160 rfl info29 ?_) | (refine wpList_store_mid rfl 160 _ _ rfl (w.heap.size + 1) 0 (recArr r (.slice A' r.heads.length c')) rfl rfl H5.out info29 (recArr_one _ _ rfl) ?_))
  exact bodyPost_ret (v := recVal r (.slice A' r.heads.length c')) (results_cell_row rfl _ _ (w.heap.size + 1) _ _ _ _ rfl H4.out Try.underlying160 rfl info29) rfl ⟨_, rfl, ⟨_, rfl, HF.out⟩, B2.out⟩

set_option maxHeartbeats 400000 in
theorem eqRecord_any (v v' : Value) (r : Rec) (w : World) (lo lo' b : Nat) (hv : RecAt w lo b v r) (hv' : RecAt w lo' b v' r) (hb : b ≤ w.heap.size) :
    Calls Try.prog 151 #[v, v'] w fun e w' => e = .returned (.bool true) ∧ Below w.heap.size w w' := by
  obtain ⟨hv, rfl, hh⟩ := hv
  obtain ⟨hv', rfl, hh'⟩ := hv'
  have HH := Seg.hid hh; have HH' := Seg.hid hh'
  obtain ⟨hn, A, c, hve, _⟩ := id hh
  obtain ⟨_, A', c', hve', _⟩ := id hh'
  clear hh hh'
  unfold recVal
  subst hve hve'
  go_enter Try.func151, Try.ntmps151
  go_wp2_with fail
  refine (Sz.eqHeadS_any _ _ r.heads ((w.alloc _).alloc _) lo lo' b (HH.out.below ((below2 w _ _).mono hb)) (HH'.out.below ((below2 w _ _).mono hb)) (by rw [hsz, hsz]; omega)).mono ?_
  rintro e w1 ⟨rfl, b1⟩
  have B1 := Seg.hid (chain (below2 w _ _) b1)
  clear b1
  go_wp2
  go_ret
  exact ⟨rfl, B1.out⟩
end Go.Proofs.Ytdhicmbfknagjaa.RecW
