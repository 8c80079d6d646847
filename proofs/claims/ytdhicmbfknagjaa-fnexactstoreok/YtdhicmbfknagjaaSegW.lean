/- One Segment: how it lies in memory, and what the law's helpers answer. -/
import Derived.Test.YtdhicmbfknagjaaBats
namespace Go.Proofs.Ytdhicmbfknagjaa.SegW
set_option maxRecDepth 8000
open Go.RowKit
open Recs
open Bats
set_option linter.unusedVariables false
structure Sg where
  base : Int
  bats : List Bat
  deriving Inhabited
def FineS (t : Sg) : Prop := (t.bats.length ≤ maxLen ∧ ∀ i, i < t.bats.length → FineB (t.bats.getD i default)) ∧ (-9223372036854775808 ≤ t.base ∧ t.base ≤ 9223372036854775807)
def FewS (t : Sg) : Prop := t.bats.length ≤ 1048576 ∧ ∀ i, i < t.bats.length → FewB (t.bats.getD i default)
def segArr (t : Sg) (hv : Value) : Array Value := #[.int .i64 t.base, hv]
def segVal (t : Sg) (hv : Value) : Value := .agg #[.int .i64 t.base, hv]
def SegAt (w : World) (lo b : Nat) (v : Value) (t : Sg) : Prop := ∃ hv, v = segVal t hv ∧ BatsAt w lo b hv t.bats
section
variable {w w' : World} {lo lo' b b' : Nat} {v : Value} {t : Sg}
theorem SegAt.keep (h : SegAt w lo b v t) (hk : ∀ g, lo ≤ g → g < b → w'.heap[g]? = w.heap[g]?) : SegAt w' lo b v t := by
  obtain ⟨hv, h1, h2⟩ := h
  exact ⟨hv, h1, h2.keep hk⟩
theorem SegAt.below (h : SegAt w lo b v t) (hb : Below b w w') : SegAt w' lo b v t := h.keep fun g _ hg => hb.block g hg
theorem SegAt.mono (h : SegAt w lo b v t) (hl : lo' ≤ lo) (hb : b ≤ b') : SegAt w lo' b' v t := by
  obtain ⟨hv, h1, h2⟩ := h
  exact ⟨hv, h1, h2.mono hl hb⟩
end
theorem segArr_one (t : Sg) (hv : Value) (h : hv.oneCell' = true) : (segArr t hv).all (·.oneCell') = true := by
  simp [segArr, Value.oneCell'] at h ⊢
  exact h
theorem infoN : (Try.prog.info? 115).map (·.size) = some 2 := by kernel_rfl

set_option maxHeartbeats 400000 in
theorem szSegment_any (v : Value) (t : Sg) (l : Int) (w : World) (lo b : Nat) (h3 : -1 ≤ l) (h4 : l ≤ 1048576) (hv : SegAt w lo b v t) (hb : b ≤ w.heap.size) (hf : FineS t) :
    Calls Try.prog 127 #[v, .int .i64 l] w fun e w' => ∃ q, e = .returned (.int .i64 q) ∧ -1 ≤ q ∧ q ≤ l ∧ (0 ≤ q → FewS t ∧ (t.bats.length : Int) + q ≤ l) ∧ Below w.heap.size w w' := by
  obtain ⟨hv, rfl, hh⟩ := hv
  obtain ⟨⟨f1, f2⟩, _⟩ := hf
  have F2 := Seg.hid f2
  have HH := Seg.hid hh
  unfold maxLen at f1
  obtain ⟨H, ⟨hn, A, c, hve, _⟩, _⟩ := id hh
  clear hh f2
  unfold segVal
  subst hve
  go_enter Try.func127, Try.ntmps127
  go_wp2_with fail
  refine (Bats.szBatchS_any _ t.bats _ (w.alloc _) lo b (by omega) (by omega) (HH.out.below ((below1 w _).mono hb)) (by rw [hsz]; omega) F2.out).mono ?_
  rintro e w1 ⟨q, rfl, q1, q2, q3, b1⟩
  have B1 := Seg.hid (chain (below1 w _) b1)
  have Q3 := Seg.hid q3
  clear b1 q3
  by_cases hq : q < 0
  · go_wp2
    go_ret
    exact ⟨_, rfl, by omega, by omega, fun h => absurd h (by omega), B1.out⟩
  · go_wp2
    go_ret
    exact ⟨q, rfl, by omega, by omega, fun h => ⟨⟨by have := (Q3.out h).1; omega, (Q3.out h).2⟩, (Q3.out h).1⟩, B1.out⟩

set_option maxHeartbeats 400000 in
theorem toSegment_any (v : Value) (t : Sg) (w : World) (lo b : Nat) (hv : SegAt w lo b v t) (hb : b ≤ w.heap.size) (hf : FewS t) :
    Calls Try.prog 128 #[v] w fun e w' => ∃ v', e = .returned v' ∧ SegAt w' w.heap.size w'.heap.size v' t ∧ Below w.heap.size w w' := by
  obtain ⟨hv, rfl, hh⟩ := hv
  have HH := Seg.hid hh
  obtain ⟨H, ⟨hn, A, c, hve, _⟩, _⟩ := id hh
  clear hh
  unfold segVal
  subst hve
  go_enter Try.func128, Try.ntmps128
  go_wp2_with fail
  refine (Bats.toBatchS_any _ t.bats (((w.alloc _).alloc _).alloc _) lo b (HH.out.below ((below3 w _ _ _).mono hb)) (by rw [hsz, hsz, hsz]; omega) hf.1 hf.2).mono ?_
  rintro e w1 ⟨v', rfl, hh1, b1⟩
  have B1 := Seg.hid (chain (below3 w _ _ _) b1)
  have T1 := (b1.block (w.heap.size + 1) (by rw [hsz, hsz, hsz]; omega)).trans (at3 w _ _ _)
  have T2 := (b1.block (w.heap.size + 1 + 1) (by rw [hsz, hsz, hsz]; omega)).trans (Cells.at3' w _ _ _)
  have HH1 := Seg.hid hh1
  obtain ⟨H', ⟨_, A', c', hve, _⟩, _⟩ := id hh1
  clear hh1 b1
  subst hve
  have cN := cell_of_row w1 (w.heap.size + 1 + 1) 1 _ _ _ T2
  have zN := frozen_of_row w1 (w.heap.size + 1 + 1) 1 _ _ T2
  have H3 : Hid ((w1.setCell ⟨w.heap.size + 1 + 1, 1, none⟩ (.slice A' t.bats.length c')).heap[w.heap.size + 1 + 1]? = some (.cells (segArr t (.slice A' t.bats.length c')) 115 (0, 0))) := heap_setCell_same w1 (w.heap.size + 1 + 1) 1 _ _ (.slice A' t.bats.length c') T2
  have T4 := (heap_setCell_other w1 ⟨w.heap.size + 1 + 1, 1, none⟩ (w.heap.size + 1) (.slice A' t.bats.length c') (by simp)).trans T1
  have H5 := Seg.hid (Cells.there_of T4)
  have H4 := Seg.hid (Cells.whole (vs := segArr t (.slice A' t.bats.length c')) T4 rfl)
  have B2 := Seg.hid (Cells.below_setCells (g := w.heap.size + 1) (by omega) (segArr t (.slice A' t.bats.length c')).toList 0 _ _ (B1.out.setCell (p := ⟨w.heap.size + 1 + 1, 1, none⟩) (by simp; omega) (.slice A' t.bats.length c')))
  have HF : Hid (BatsAt ((w1.setCell ⟨w.heap.size + 1 + 1, 1, none⟩ (.slice A' t.bats.length c')).setCells (w.heap.size + 1) 0 (segArr t (.slice A' t.bats.length c')).toList) w.heap.size ((w1.setCell ⟨w.heap.size + 1 + 1, 1, none⟩ (.slice A' t.bats.length c')).setCells (w.heap.size + 1) 0 (segArr t (.slice A' t.bats.length c')).toList).heap.size (.slice A' t.bats.length c') t.bats) := by
    refine (BatsAt.keep HH1.out (fun g h1 h2 => ?_)).mono ?_ ?_
    · rw [hsz, hsz, hsz] at h1
      rw [Cells.heap_setCells_other _ _ (by omega), heap_setCell_other _ _ _ _ (by show _ ≠ w.heap.size + 1 + 1; omega)]
    · rw [hsz, hsz, hsz]; omega
    · rw [Cells.size_setCells]; simp
  clear T1 T2 T4
  simp at cN
  go_wp2_with (first | (refine wpList_load_row rfl 115 _ rfl (w.heap.size + 1 + 1) rfl _ _ _ _ H3.out Try.underlying115 rfl infoN ?_) | (refine wpList_store_mid rfl 115 _ _ rfl (w.heap.size + 1) 0 (segArr t (.slice A' t.bats.length c')) rfl rfl H5.out infoN (segArr_one _ _ rfl) ?_))
  exact bodyPost_ret (v := segVal t (.slice A' t.bats.length c')) (results_cell_row rfl _ _ (w.heap.size + 1) _ _ _ _ rfl H4.out Try.underlying115 rfl infoN) rfl ⟨_, rfl, ⟨_, rfl, HF.out⟩, B2.out⟩

set_option maxHeartbeats 400000 in
theorem eqSegment_any (v v' : Value) (t : Sg) (w : World) (lo lo' b : Nat) (hv : SegAt w lo b v t) (hv' : SegAt w lo' b v' t) (hb : b ≤ w.heap.size) :
    Calls Try.prog 134 #[v, v'] w fun e w' => e = .returned (.bool true) ∧ Below w.heap.size w w' := by
  obtain ⟨hv, rfl, hh⟩ := hv
  obtain ⟨hv', rfl, hh'⟩ := hv'
  have HH := Seg.hid hh; have HH' := Seg.hid hh'
  obtain ⟨_, ⟨hn, A, c, hve, _⟩, _⟩ := id hh
  obtain ⟨_, ⟨_, A', c', hve', _⟩, _⟩ := id hh'
  clear hh hh'
  unfold segVal
  subst hve hve'
  go_enter Try.func134, Try.ntmps134
  go_wp2_with fail
  refine (Bats.eqBatchS_any _ _ t.bats ((w.alloc _).alloc _) lo lo' b (HH.out.below ((below2 w _ _).mono hb)) (HH'.out.below ((below2 w _ _).mono hb)) (by rw [hsz, hsz]; omega)).mono ?_
  rintro e w1 ⟨rfl, b1⟩
  have B1 := Seg.hid (chain (below2 w _ _) b1)
  clear b1
  go_wp2
  go_ret
  exact ⟨rfl, B1.out⟩
end Go.Proofs.Ytdhicmbfknagjaa.SegW
