/- What the law's helpers over one Batch answer; The law's copiers once more: what they copy is theirs to write. -/
import Derived.Test.YticihnoekffelaaJC04
namespace Go.Proofs.Yticihnoekffelaa.BatW
set_option maxRecDepth 8000
open Go.RowKit
open Recs
set_option linter.unusedVariables false

def batArr (t : Bat) (hv : Value) : Array Value := #[.int .i64 t.base, .int .i64 t.epoch, .int .i64 t.producer, .int .i64 t.turn, .int .i64 t.seq, .int .i64 t.flags, hv]
theorem batArr_one (t : Bat) (hv : Value) (h : hv.oneCell' = true) : (batArr t hv).all (·.oneCell') = true := by
  simp [batArr, Value.oneCell'] at h ⊢
  exact h
theorem info40 : (Try.prog.info? 58).map (·.size) = some 7 := by kernel_rfl

set_option maxHeartbeats 400000 in
theorem szBatch_any (v : Value) (t : Bat) (l : Int) (w : World) (lo b : Nat) (h3 : -1 ≤ l) (h4 : l ≤ 1048576) (hv : BatAt w lo b v t) (hb : b ≤ w.heap.size) (hf : FineB t) :
    Calls Try.prog 92 #[v, .int .i64 l] w fun e w' => ∃ q, e = .returned (.int .i64 q) ∧ -1 ≤ q ∧ q ≤ l ∧ (0 ≤ q → FewB t) ∧ Below w.heap.size w w' := by
  obtain ⟨hv, rfl, hh⟩ := hv
  obtain ⟨f1, f2⟩ := hf
  have F2 := Seg.hid f2
  have HH := Seg.hid hh
  unfold maxLen at f1
  obtain ⟨H, ⟨hn, A, c, hve, _⟩, _⟩ := id hh
  clear hh f2
  unfold batVal
  subst hve
  go_enter Try.func92, Try.ntmps92
  go_wp2_with fail
  refine (RecsW.szRecordS_any _ t.recs _ (w.alloc _) lo b (by omega) (by omega) (HH.out.below ((below1 w _).mono hb)) (by rw [hsz]; omega) F2.out).mono ?_
  rintro e w1 ⟨q, rfl, q1, q2, q3, b1⟩
  have B1 := Seg.hid (chain (below1 w _) b1)
  have Q3 := Seg.hid q3
  clear b1 q3
  by_cases hq : q < 0
  · go_wp2
    go_ret
    exact ⟨_, rfl, by omega, by omega, fun h => absurd h (by omega), B1.out⟩
  · go_wp2
    go_ret
    exact ⟨q, rfl, by omega, by omega, fun h => ⟨by have := (Q3.out h).1; omega, (Q3.out h).2⟩, B1.out⟩

set_option maxHeartbeats 400000 in
theorem toBatch_any (v : Value) (t : Bat) (w : World) (lo b : Nat) (hv : BatAt w lo b v t) (hb : b ≤ w.heap.size) (hf : FewB t) :
    Calls Try.prog 93 #[v] w fun e w' => ∃ v', e = .returned v' ∧ BatAt w' w.heap.size w'.heap.size v' t ∧ Below w.heap.size w w' := by
  obtain ⟨hv, rfl, hh⟩ := hv
  have HH := Seg.hid hh
  obtain ⟨H, ⟨hn, A, c, hve, _⟩, _⟩ := id hh
  clear hh
  unfold batVal
  subst hve
  go_enter Try.func93, Try.ntmps93
  go_wp2_with fail
  refine (RecsW.toRecordS_any _ t.recs (((w.alloc _).alloc _).alloc _) lo b (HH.out.below ((below3 w _ _ _).mono hb)) (by rw [hsz, hsz, hsz]; omega) hf.1 hf.2).mono ?_
  rintro e w1 ⟨v', rfl, hh1, b1⟩
  have B1 := Seg.hid (chain (below3 w _ _ _) b1)
  have T1 := (b1.block (w.heap.size + 1) (by rw [hsz, hsz, hsz]; omega)).trans (at3 w _ _ _)
  have T2 := (b1.block (w.heap.size + 1 + 1) (by rw [hsz, hsz, hsz]; omega)).trans (Cells.at3' w _ _ _)
  have HH1 := Seg.hid hh1
  obtain ⟨H', ⟨_, A', c', hve, _⟩, _⟩ := id hh1
  clear hh1 b1
  subst hve
  have c6 := cell_of_row w1 (w.heap.size + 1 + 1) 6 _ _ _ T2
  have z6 := frozen_of_row w1 (w.heap.size + 1 + 1) 6 _ _ T2
  have H3 : Hid ((w1.setCell ⟨w.heap.size + 1 + 1, 6, none⟩ (.slice A' t.recs.length c')).heap[w.heap.size + 1 + 1]? = some (.cells (batArr t (.slice A' t.recs.length c')) 58 (0, 0))) := heap_setCell_same w1 (w.heap.size + 1 + 1) 6 _ _ (.slice A' t.recs.length c') T2
  have T4 := (heap_setCell_other w1 ⟨w.heap.size + 1 + 1, 6, none⟩ (w.heap.size + 1) (.slice A' t.recs.length c') (by simp)).trans T1
  have H5 := Seg.hid (Cells.there_of T4)
  have H4 := Seg.hid (Cells.whole (vs := batArr t (.slice A' t.recs.length c')) T4 rfl)
  have B2 := Seg.hid (Cells.below_setCells (g := w.heap.size + 1) (by omega) (batArr t (.slice A' t.recs.length c')).toList 0 _ _ (B1.out.setCell (p := ⟨w.heap.size + 1 + 1, 6, none⟩) (by simp; omega) (.slice A' t.recs.length c')))
  have HF : Hid (RecsAt ((w1.setCell ⟨w.heap.size + 1 + 1, 6, none⟩ (.slice A' t.recs.length c')).setCells (w.heap.size + 1) 0 (batArr t (.slice A' t.recs.length c')).toList) w.heap.size ((w1.setCell ⟨w.heap.size + 1 + 1, 6, none⟩ (.slice A' t.recs.length c')).setCells (w.heap.size + 1) 0 (batArr t (.slice A' t.recs.length c')).toList).heap.size (.slice A' t.recs.length c') t.recs) := by
    refine (RecsAt.keep HH1.out (fun g h1 h2 => ?_)).mono ?_ ?_
    · rw [hsz, hsz, hsz] at h1
      rw [Cells.heap_setCells_other _ _ (by omega), heap_setCell_other _ _ _ _ (by show _ ≠ w.heap.size + 1 + 1; omega)]
    · rw [hsz, hsz, hsz]; omega
    · rw [Cells.size_setCells]; simp
  clear T1 T2 T4
  simp at c6
  go_wp2_with (first | (refine wpList_load_row rfl 58 _ rfl (w.heap.size + 1 + 1) rfl _ _ _ _ H3.out Try.underlying58 rfl info40 ?_) | (refine wpList_store_mid rfl 58 _ _ rfl (w.heap.size + 1) 0 (batArr t (.slice A' t.recs.length c')) rfl rfl H5.out info40 (batArr_one _ _ rfl) ?_))
  exact bodyPost_ret (v := batVal t (.slice A' t.recs.length c')) (results_cell_row rfl _ _ (w.heap.size + 1) _ _ _ _ rfl H4.out Try.underlying58 rfl info40) rfl ⟨_, rfl, ⟨_, rfl, HF.out⟩, B2.out⟩

set_option maxHeartbeats 400000 in
theorem eqBatch_any (v v' : Value) (t : Bat) (w : World) (lo lo' b : Nat) (hv : BatAt w lo b v t) (hv' : BatAt w lo' b v' t) (hb : b ≤ w.heap.size) :
    Calls Try.prog 43 #[v, v'] w fun e w' => e = .returned (.bool true) ∧ Below w.heap.size w w' := by
  obtain ⟨hv, rfl, hh⟩ := hv
  obtain ⟨hv', rfl, hh'⟩ := hv'
  have HH := Seg.hid hh; have HH' := Seg.hid hh'
  obtain ⟨_, ⟨hn, A, c, hve, _⟩, _⟩ := id hh
  obtain ⟨_, ⟨_, A', c', hve', _⟩, _⟩ := id hh'
  clear hh hh'
  unfold batVal
  subst hve hve'
  go_enter Try.func43, Try.ntmps43
  go_wp2_with fail
  refine (RecsW.eqRecordS_any _ _ t.recs ((w.alloc _).alloc _) lo lo' b (HH.out.below ((below2 w _ _).mono hb)) (HH'.out.below ((below2 w _ _).mono hb)) (by rw [hsz, hsz]; omega)).mono ?_
  rintro e w1 ⟨rfl, b1⟩
  have B1 := Seg.hid (chain (below2 w _ _) b1)
  clear b1
  go_wp2
  go_ret
  exact ⟨rfl, B1.out⟩
end Go.Proofs.Yticihnoekffelaa.BatW
namespace Go.Proofs.Yticihnoekffelaa.ToO
set_option maxRecDepth 8000
open Go.RowKit
open Recs
set_option linter.unusedVariables false

/-- Block g is a row of the call's own, of n elements of s cells, with room for c; cell q holds 'F q'. -/
def MineC (w : World) (e s g n c : Nat) (F : Nat → Value) : Prop := w.ownsRow g e s (.slice (some ⟨g, 0, none⟩) n c) n ((List.range (n * s)).map F)
section
variable {w w' : World} {e s g n c b : Nat} {F : Nat → Value}
theorem MineC.cell (h : MineC w e s g n c F) (q : Nat) (hq : q < n * s) : w.cell? ⟨g, q, none⟩ = some (F q) := by
  have := World.ownsRow.cellAt h q hq
  rw [this]
  simp [hq]
theorem MineC.frozen (h : MineC w e s g n c F) (q : Nat) : w.frozen? ⟨g, q, none⟩ = false := World.ownsRow.frozenAt h q
theorem MineC.lt (h : MineC w e s g n c F) : g < w.heap.size := by
  rcases h.2 with ⟨h', _⟩ | ⟨g', cap', cur, h', hb, hg, hnc, hcm, hcs, htake⟩
  · simp at h'
  · simp only [Value.slice.injEq, Option.some.injEq, Addr.mk.injEq, and_true, true_and] at h'
    obtain ⟨rfl, rfl⟩ := h'
    exact (Array.getElem?_eq_some_iff.1 hg).1
theorem MineC.le (h : MineC w e s g n c F) : n ≤ c := by
  rcases h.2 with ⟨h', _⟩ | ⟨g', cap', cur, h', hb, hg, hnc, hcm, hcs, htake⟩
  · simp at h'
  · simp only [Value.slice.injEq, Option.some.injEq, Addr.mk.injEq, and_true, true_and] at h'
    obtain ⟨rfl, rfl⟩ := h'
    exact hnc
theorem MineC.set (h : MineC w e s g n c F) (q : Nat) (v : Value) : MineC (w.setCell ⟨g, q, none⟩ v) e s g n c (fun i => if i = q then v else F i) := by
  have := (World.ownsRow.stored h q v).1
  have he : ((List.range (n * s)).map F).set q v = (List.range (n * s)).map (fun i => if i = q then v else F i) := List.ext_getElem (by simp) fun i h1 h2 => by
    by_cases hi : i = q
    · subst hi; simp
    · rw [List.getElem_set_ne (by omega)]; simp [hi]
  rw [he] at this
  exact this
theorem MineC.keep (h : MineC w e s g n c F) (hk : w'.heap[g]? = w.heap[g]?) : MineC w' e s g n c F := by
  refine ⟨h.1, ?_⟩
  rcases h.2 with hn | ⟨g', cap, cur, h', hbs, hgg, rest⟩
  · exact .inl hn
  · have h'' := h'
    simp only [Value.slice.injEq, Option.some.injEq, Addr.mk.injEq, and_true, true_and] at h''
    obtain ⟨rfl, rfl⟩ := h''
    exact .inr ⟨g, c, cur, h', hbs, by rw [hk]; exact hgg, rest⟩
end
/-- A list of Heads that is the call's own, in a block from lo on, below b. -/
def HOwn (w : World) (lo b : Nat) (v : Value) (n : Nat) : Prop := n ≤ 1048576 ∧ ∃ A c, v = .slice A n c ∧ (n = 0 ∨ ∃ g F, A = some ⟨g, 0, none⟩ ∧ lo ≤ g ∧ g < b ∧ MineC w 116 2 g n c F)
theorem HOwn.keep {w w' : World} {lo b n : Nat} {v : Value} (h : HOwn w lo b v n) (hk : ∀ g, lo ≤ g → g < b → w'.heap[g]? = w.heap[g]?) : HOwn w' lo b v n := by
  obtain ⟨h0, A, c, h1, h2⟩ := h
  refine ⟨h0, A, c, h1, h2.imp id ?_⟩
  rintro ⟨g, F, h3, h4, h5, h6⟩
  exact ⟨g, F, h3, h4, h5, h6.keep (hk g h4 h5)⟩
theorem HOwn.mono {w : World} {lo lo' b b' n : Nat} {v : Value} (h : HOwn w lo b v n) (hl : lo' ≤ lo) (hb : b ≤ b') : HOwn w lo' b' v n := by
  obtain ⟨h0, A, c, h1, h2⟩ := h
  refine ⟨h0, A, c, h1, h2.imp id ?_⟩
  rintro ⟨g, F, h3, h4, h5, h6⟩
  exact ⟨g, F, h3, Nat.le_trans hl h4, Nat.lt_of_lt_of_le h5 hb, h6⟩

set_option maxHeartbeats 400000 in
theorem toHeadS_core (g o n c : Nat) (K V : Nat → ByteArray) (w : World) (hn : n ≤ 1048576) (hc : n ≤ c) (hg : g < w.heap.size)
    (ha : ∀ i, i < n → w.cell? ⟨g, o + i * 2, none⟩ = some (.string (K i)) ∧ w.cell? ⟨g, o + i * 2 + 1, none⟩ = some (.string (V i))) :
    Calls Try.prog 105 #[.slice (some ⟨g, o, none⟩) n c] w fun e w' => ∃ v, e = .returned v ∧ Row w' w.heap.size w'.heap.size 2 v n (fun i j => if j = 0 then .string (K i) else .string (V i)) ∧ HOwn w' w.heap.size w'.heap.size v n ∧ Below w.heap.size w w' := by
  obtain ⟨i0, hi, hz0, hz1, hz2⟩ := info_parts Sz.info2
  have HA := Seg.hid ha
  clear ha
  go_enter Try.func105, Try.ntmps105
  go_wp2_with (at_make; refine wpList_make_full _ rfl _ _ 86 rfl w.heap.size 116 i0 _ 2 Try.underlying86 hi hz0 hz1 .i64 .i64 _ _ n rfl rfl rfl rfl (by rw [hz2]; omega) (by unfold maxLen; omega) (Nat.le_refl _) ?_; intro w1 hown hgr)
  have hb1 := (Below.refl w.heap.size w).grown hgr (Nat.le_refl _) (fun k hk => by cases hk)
  have HM := Seg.hid (Mine.of_made hown hown.1)
  have HB := Seg.hid hb1
  clear hown hgr hb1 hi hz0 hz1 hz2
  go_loopw [4] (fun i wr => ∃ (j : Nat) (F : Nat → Value), j ≤ n ∧ i = .int .i64 j ∧ Hid (Mine wr 116 2 w.heap.size n F ∧ Below w.heap.size w wr ∧ ∀ i, i < j → F (i * 2) = .string (K i) ∧ F (i * 2 + 1) = .string (V i))) (fun i _ => n - (intOf i).toNat)
  case atStart => exact ⟨0, _, Nat.zero_le _, rfl, HM.out, HB.out, fun i hi => absurd hi (by omega)⟩
  case round =>
    clear HM HB
    obtain ⟨j, F, hj, rfl, HR⟩ := hrel
    by_cases hlt : j < n
    · have c1 : wr.cell? ⟨g, o + j * 2, none⟩ = some (.string (K j)) := by rw [HR.out.2.1.cell (p := ⟨g, o + j * 2, none⟩) hg]; exact (HA.out j hlt).1
      have c2 : wr.cell? ⟨g, o + j * 2 + 1, none⟩ = some (.string (V j)) := by rw [HR.out.2.1.cell (p := ⟨g, o + j * 2 + 1, none⟩) hg]; exact (HA.out j hlt).2
      have h0 : (0 : Int) ≤ (j : Int) := by omega
      have h1 : (j : Int) < (n : Int) := by omega
      go_wp2_with fail
      refine (Sz.toHead_any (K j) (V j) wr).mono ?_
      rintro e w1 ⟨rfl, b1⟩
      have M1 : Hid (Mine w1 116 2 w.heap.size n F) := HR.out.1.below b1 HR.out.1.lt
      have B1 := Seg.hid (HR.out.2.1.trans (b1.mono HR.out.2.1.size))
      clear b1
      have d1 := M1.out.cell (j * 2) (by omega)
      have d2 := M1.out.cell (j * 2 + 1) (by omega)
      have f1 := M1.out.frozen (j * 2)
      have f2 := M1.out.frozen (j * 2 + 1)
      have M2 := Seg.hid ((M1.out.set (j * 2) (.string (K j))).set (j * 2 + 1) (.string (V j)))
      have B2 := Seg.hid ((B1.out.setCell (p := ⟨w.heap.size, j * 2, none⟩) (Nat.le_refl _) (.string (K j))).setCell (p := ⟨w.heap.size, j * 2 + 1, none⟩) (Nat.le_refl _) (.string (V j)))
      go_wp2
      go_roundw
      case rel =>
        refine ⟨j + 1, _, by omega, by go_num, M2.out, B2.out, fun i hi => ?_⟩
        have hr := HR.out.2.2
        by_cases he : i = j
        · subst he; simp
        · have := hr i (by omega)
          simp [show ¬ i * 2 = j * 2 + 1 by omega, show ¬ i * 2 = j * 2 by omega, show ¬ i * 2 + 1 = j * 2 by omega, this]
      case measure => simp [intOf]; omega
    · have : j = n := by omega
      subst this
      go_wp2
      go_ret
      exact ⟨_, rfl, HR.out.1.row (by omega) HR.out.1.lt (Nat.le_refl _) (fun i hi q hq => Sz.row2 (HR.out.2.2 i hi) q hq), ⟨hn, _, _, rfl, .inr ⟨w.heap.size, F, rfl, Nat.le_refl _, HR.out.1.lt, HR.out.1⟩⟩, HR.out.2.1⟩

theorem toHeadS_own (v : Value) (hs : List Hd) (w : World) (lo b : Nat) (hv : Heads w lo b v hs) (hb : b ≤ w.heap.size) (hl : hs.length ≤ 1048576) :
    Calls Try.prog 105 #[v] w fun e w' => ∃ v', e = .returned v' ∧ Heads w' w.heap.size w'.heap.size v' hs ∧ HOwn w' w.heap.size w'.heap.size v' hs.length ∧ Below w.heap.size w w' := by
  obtain ⟨hn, A, c, rfl, h⟩ := hv
  by_cases hz : hs.length = 0
  · rw [hz]
    refine (Sz.toHeadS_none A c w).mono fun e w' ⟨v', a1, ⟨A', c', a2⟩, a3⟩ => ⟨v', a1, ⟨hn, A', c', ?_, .inl hz⟩, ⟨by omega, A', c', ?_, .inl rfl⟩, a3⟩
    · rw [a2, hz]
    · rw [a2]
  obtain ⟨g, o, rfl, hg, hc, hcell, _⟩ := h.resolve_left hz
  exact toHeadS_core g o hs.length c (fun i => (hs.getD i default).key) (fun i => (hs.getD i default).val) w hl hc (by omega) (fun i hi => Heads.cell0 hcell i hi)

set_option maxHeartbeats 400000 in
theorem toRecord_own (v : Value) (r : Rec) (w : World) (lo b : Nat) (hv : RecAt w lo b v r) (hb : b ≤ w.heap.size) (hf : FewR r) :
    Calls Try.prog 103 #[v] w fun e w' => ∃ hv', e = .returned (recVal r hv') ∧ Heads w' w.heap.size w'.heap.size hv' r.heads ∧ HOwn w' w.heap.size w'.heap.size hv' r.heads.length ∧ Below w.heap.size w w' := by
  obtain ⟨hv, rfl, hh⟩ := hv
  have HH := Seg.hid hh
  obtain ⟨hn, A, c, hve, _⟩ := id hh
  clear hh
  unfold recVal
  subst hve
  go_enter Try.func103, Try.ntmps103
  go_wp2_with fail
  refine (toHeadS_own _ r.heads (((w.alloc _).alloc _).alloc _) lo b (HH.out.below ((below3 w _ _ _).mono hb)) (by rw [hsz, hsz, hsz]; omega) hf).mono ?_
  rintro e w1 ⟨v', rfl, hh1, ho1, b1⟩
  have B1 := Seg.hid (chain (below3 w _ _ _) b1)
  have T1 := (b1.block (w.heap.size + 1) (by rw [hsz, hsz, hsz]; omega)).trans (at3 w _ _ _)
  have T2 := (b1.block (w.heap.size + 1 + 1) (by rw [hsz, hsz, hsz]; omega)).trans (Cells.at3' w _ _ _)
  have HH1 := Seg.hid hh1; have HO1 := Seg.hid ho1
  obtain ⟨_, A', c', hve, _⟩ := id hh1
  clear hh1 b1 ho1
  subst hve
  have c5 := cell_of_row w1 (w.heap.size + 1 + 1) 5 _ _ _ T2
  have z5 := frozen_of_row w1 (w.heap.size + 1 + 1) 5 _ _ T2
  have H3 : Hid ((w1.setCell ⟨w.heap.size + 1 + 1, 5, none⟩ (.slice A' r.heads.length c')).heap[w.heap.size + 1 + 1]? = some (.cells (RecW.recArr r (.slice A' r.heads.length c')) 88 (0, 0))) := heap_setCell_same w1 (w.heap.size + 1 + 1) 5 _ _ (.slice A' r.heads.length c') T2
  have T4 := (heap_setCell_other w1 ⟨w.heap.size + 1 + 1, 5, none⟩ (w.heap.size + 1) (.slice A' r.heads.length c') (by simp)).trans T1
  have H5 := Seg.hid (Cells.there_of T4)
  have H4 := Seg.hid (Cells.whole (vs := RecW.recArr r (.slice A' r.heads.length c')) T4 rfl)
  have B2 := Seg.hid (Cells.below_setCells (g := w.heap.size + 1) (by omega) (RecW.recArr r (.slice A' r.heads.length c')).toList 0 _ _ (B1.out.setCell (p := ⟨w.heap.size + 1 + 1, 5, none⟩) (by simp; omega) (.slice A' r.heads.length c')))
  have keep : ∀ g, (((w.alloc (.cells #[.int .i64 r.time, .bool r.keyed, .string r.key, .bool r.gone, .string r.val, .slice A r.heads.length c] 130 (0, 0))).alloc default).alloc default).heap.size ≤ g → ((w1.setCell ⟨w.heap.size + 1 + 1, 5, none⟩ (.slice A' r.heads.length c')).setCells (w.heap.size + 1) 0 (RecW.recArr r (.slice A' r.heads.length c')).toList).heap[g]? = w1.heap[g]? := fun g h1 => by
    rw [hsz, hsz, hsz] at h1
    rw [Cells.heap_setCells_other _ _ (by omega), heap_setCell_other _ _ _ _ (by show _ ≠ w.heap.size + 1 + 1; omega)]
  have hsize : ((w1.setCell ⟨w.heap.size + 1 + 1, 5, none⟩ (.slice A' r.heads.length c')).setCells (w.heap.size + 1) 0 (RecW.recArr r (.slice A' r.heads.length c')).toList).heap.size = w1.heap.size := by rw [Cells.size_setCells]; simp
  have HF : Hid (Heads ((w1.setCell ⟨w.heap.size + 1 + 1, 5, none⟩ (.slice A' r.heads.length c')).setCells (w.heap.size + 1) 0 (RecW.recArr r (.slice A' r.heads.length c')).toList) w.heap.size ((w1.setCell ⟨w.heap.size + 1 + 1, 5, none⟩ (.slice A' r.heads.length c')).setCells (w.heap.size + 1) 0 (RecW.recArr r (.slice A' r.heads.length c')).toList).heap.size (.slice A' r.heads.length c') r.heads) := by
    refine (Heads.keep HH1.out (fun g h1 h2 => keep g (by rw [hsz, hsz, hsz] at h1 ⊢; exact h1))).mono ?_ ?_
    · rw [hsz, hsz, hsz]; omega
    · rw [hsize]; exact Nat.le_refl _
  have HG : Hid (HOwn ((w1.setCell ⟨w.heap.size + 1 + 1, 5, none⟩ (.slice A' r.heads.length c')).setCells (w.heap.size + 1) 0 (RecW.recArr r (.slice A' r.heads.length c')).toList) w.heap.size ((w1.setCell ⟨w.heap.size + 1 + 1, 5, none⟩ (.slice A' r.heads.length c')).setCells (w.heap.size + 1) 0 (RecW.recArr r (.slice A' r.heads.length c')).toList).heap.size (.slice A' r.heads.length c') r.heads.length) := by
    refine (HOwn.keep HO1.out (fun g h1 h2 => keep g (by rw [hsz, hsz, hsz] at h1 ⊢; exact h1))).mono ?_ ?_
    · rw [hsz, hsz, hsz]; omega
    · rw [hsize]; exact Nat.le_refl _
  clear T1 T2 T4 keep hsize
  simp at c5
  go_wp2_with (first | (refine wpList_load_row rfl 88 _ rfl (w.heap.size + 1 + 1) rfl _ _ _ _ H3.out Try.underlying88 rfl RecW.info29 ?_) | (refine wpList_store_mid rfl 88 _ _ rfl (w.heap.size + 1) 0 (RecW.recArr r (.slice A' r.heads.length c')) rfl rfl H5.out RecW.info29 (RecW.recArr_one _ _ rfl) ?_))
  exact bodyPost_ret (v := recVal r (.slice A' r.heads.length c')) (results_cell_row rfl _ _ (w.heap.size + 1) _ _ _ _ rfl H4.out Try.underlying88 rfl RecW.info29) rfl ⟨_, rfl, HF.out, HG.out, B2.out⟩

/-- What the loop has done: j elements are copied; the Heads' rows lie in windows one behind the other. -/
structure DoneO (w wr : World) (rs : List Rec) (n j : Nat) (F : Nat → Value) (m : Nat → Nat) : Prop where
  done : RecsW.Done w wr rs n j F
  own : ∀ i, i < j → HOwn wr (m i) (m (i + 1)) (F (i * 6 + 5)) (rs.getD i default).heads.length
  mono : ∀ i, i < j → m i ≤ m (i + 1)
  fst : w.heap.size < m 0
  top : m j ≤ wr.heap.size
theorem win_le {m : Nat → Nat} {n : Nat} (h : ∀ i, i < n → m i ≤ m (i + 1)) : ∀ a b, a ≤ b → b ≤ n → m a ≤ m b
  | a, 0, hab, _ => by rw [Nat.le_zero.1 hab]; exact Nat.le_refl _
  | a, b + 1, hab, hb => by
    by_cases he : a = b + 1
    · rw [he]; exact Nat.le_refl _
    · exact Nat.le_trans (win_le h a b (by omega) (by omega)) (h b (by omega))
theorem DoneO.step {w wr w1 : World} {rs : List Rec} {n j : Nat} {F : Nat → Value} {m : Nat → Nat} (h : DoneO w wr rs n j F m) (hj : j < n) (hv : Value) (b1 : Below wr.heap.size wr w1) (hh : Heads w1 wr.heap.size w1.heap.size hv (rs.getD j default).heads) (ho : HOwn w1 wr.heap.size w1.heap.size hv (rs.getD j default).heads.length) :
    DoneO w (w1.setCells w.heap.size (j * 6) (RecW.recArr (rs.getD j default) hv).toList) rs n (j + 1) (Own.upd F (j * 6) (RecW.recArr (rs.getD j default) hv).toList) (fun i => if i = j + 1 then w1.heap.size else m i) := by
  have hlt := h.done.mine.lt
  have hfst := h.fst
  have keep : ∀ g, g ≠ w.heap.size → (w1.setCells w.heap.size (j * 6) (RecW.recArr (rs.getD j default) hv).toList).heap[g]? = w1.heap[g]? := fun g hg => Cells.heap_setCells_other _ _ hg
  have hsize := Cells.size_setCells (g := w.heap.size) (RecW.recArr (rs.getD j default) hv).toList (o := j * 6) w1
  have hcell : ∀ q, q < 6 → Own.upd F (j * 6) (RecW.recArr (rs.getD j default) hv).toList (j * 6 + q) = (RecW.recArr (rs.getD j default) hv).toList.getD q default := fun q hq => Own.upd_in (by simp [RecW.recArr]; omega)
  have hold : ∀ i, i < j → ∀ q, q < 6 → Own.upd F (j * 6) (RecW.recArr (rs.getD j default) hv).toList (i * 6 + q) = F (i * 6 + q) := fun i hi q hq => Own.upd_out (.inl (by omega))
  have wl := win_le h.mono
  refine ⟨h.done.step hj hv b1 hh, ?_, ?_, ?_, ?_⟩
  · intro i hi
    by_cases he : i = j
    · subst he
      rw [hcell 5 (by omega)]
      rw [if_neg (by omega), if_pos rfl]
      show HOwn _ _ _ hv _
      exact (ho.keep fun g h1 h2 => keep g (by omega)).mono h.top (Nat.le_refl _)
    · rw [hold i (by omega) 5 (by omega)]
      have m0 := wl 0 i (by omega) (by omega)
      have m1 := wl (i + 1) j (by omega) (Nat.le_refl _)
      have ht := h.top
      rw [if_neg (by omega), if_neg (by omega)]
      exact (h.own i (by omega)).keep fun g h1 h2 => (keep g (by omega)).trans (b1.block g (by omega))
  · intro i hi
    by_cases he : i = j
    · subst he
      rw [if_neg (by omega), if_pos rfl]
      exact Nat.le_trans h.top b1.size
    · rw [if_neg (by omega), if_neg (by omega)]
      exact h.mono i (by omega)
  · show w.heap.size < if 0 = j + 1 then _ else m 0
    rw [if_neg (by omega)]
    exact hfst
  · show (if j + 1 = j + 1 then w1.heap.size else _) ≤ _
    rw [if_pos rfl, hsize]
    exact Nat.le_refl _

/-- Records that are the call's own: theirs is block g, their Heads' are in windows behind it. -/
structure ROwn (w : World) (lo hi : Nat) (v : Value) (n : Nat) (ln : Nat → Nat) : Prop where
  hi_le : hi ≤ w.heap.size
  le : n ≤ 1048576
  few : ∀ i, i < n → ln i ≤ 1048576
  own : (∃ A c, v = .slice A 0 c ∧ n = 0) ∨ ∃ (g c : Nat) (F : Nat → Value) (m : Nat → Nat), v = .slice (some ⟨g, 0, none⟩) n c ∧ lo ≤ g ∧ MineC w 88 6 g n c F ∧ g < m 0 ∧ (∀ i, i < n → m i ≤ m (i + 1)) ∧ m n ≤ hi ∧ ∀ i, i < n → HOwn w (m i) (m (i + 1)) (F (i * 6 + 5)) (ln i)

set_option maxHeartbeats 800000 in
theorem toRecordS_core (g o n c b lo : Nat) (rs : List Rec) (H : Nat → Value) (w : World) (hn : n ≤ 1048576) (hc : n ≤ c) (hg : g < w.heap.size) (hb : b ≤ w.heap.size)
    (hf : ∀ i, i < n → FewR (rs.getD i default)) (hh : ∀ i, i < n → Heads w lo b (H i) (rs.getD i default).heads)
    (ha : ∀ i, i < n → ∀ j, j < 6 → w.cell? ⟨g, o + i * 6 + j, none⟩ = some (recCells rs H i j)) :
    Calls Try.prog 99 #[.slice (some ⟨g, o, none⟩) n c] w fun e w' => ∃ (F : Nat → Value) (m : Nat → Nat), e = .returned (.slice (some ⟨w.heap.size, 0, none⟩) n n) ∧ DoneO w w' rs n n F m := by
  obtain ⟨i0, hi, hz0, hz1, hz2⟩ := info_parts RecsW.info6
  have HA := Seg.hid ha; have HK := Seg.hid hf; have HH := Seg.hid hh
  clear ha hf hh
  go_enter Try.func99, Try.ntmps99
  go_wp2_with (at_make; refine wpList_make_full _ rfl _ _ 56 rfl w.heap.size 88 i0 _ 6 Try.underlying56 hi hz0 hz1 .i64 .i64 _ _ n rfl rfl rfl rfl (by rw [hz2]; omega) (by unfold maxLen; omega) (Nat.le_refl _) ?_; intro w1 hown hgr)
  have hb1 := (Below.refl w.heap.size w).grown hgr (Nat.le_refl _) (fun k hk => by cases hk)
  have HM := Seg.hid (Mine.of_made hown hown.1)
  have HB := Seg.hid hb1
  clear hown hgr hb1 hi hz0 hz1 hz2
  have hz1 := HM.out.lt
  go_loopw [4] (fun i wr => ∃ (j : Nat) (F : Nat → Value) (m : Nat → Nat), j ≤ n ∧ i = .int .i64 j ∧ DoneO w wr rs n j F m) (fun i _ => n - (intOf i).toNat)
  case atStart => exact ⟨0, _, fun _ => w1.heap.size, Nat.zero_le _, rfl, ⟨HM.out, HB.out, fun i hi => absurd hi (by omega), fun i hi => absurd hi (by omega)⟩, fun i hi => absurd hi (by omega), fun i hi => absurd hi (by omega), hz1, Nat.le_refl _⟩
  case round =>
    clear HM HB
    obtain ⟨j, F, m, hj, rfl, HR⟩ := hrel
    by_cases hlt : j < n
    · obtain ⟨c0, c1, c2, c3, c4, c5⟩ := RecsW.six (RecsW.six' HA.out HR.done.bel hg) j hlt
      have RA : Hid (RecAt wr lo b (.agg #[.int .i64 (rs.getD j default).time, .bool (rs.getD j default).keyed, .string (rs.getD j default).key, .bool (rs.getD j default).gone, .string (rs.getD j default).val, H j]) (rs.getD j default)) := ⟨_, rfl, (HH.out j hlt).below (HR.done.bel.mono hb)⟩
      have FW := Seg.hid (HK.out j hlt)
      have hbr : b ≤ wr.heap.size := Nat.le_trans hb HR.done.bel.size
      have ST := Seg.hid (fun w1 hv b1 hh ho => DoneO.step (w1 := w1) HR hlt hv b1 hh ho)
      have HM := Seg.hid HR.done.mine
      have h0 : (0 : Int) ≤ (j : Int) := by omega
      have h1 : (j : Int) < (n : Int) := by omega
      clear HR
      generalize rs.getD j default = rj at *
      go_wp2_with fail
      refine (toRecord_own _ rj wr lo b RA.out hbr FW.out).mono ?_
      rintro e w1 ⟨hv1, rfl, hh1, ho1, b1⟩
      have S1 := Seg.hid (ST.out w1 hv1 b1 hh1 ho1)
      have M1 := Seg.hid (Own.mine_there (o := j * 6) (m := 6) (HM.out.below b1 HM.out.lt) (by omega))
      obtain ⟨_, A1, k1, rfl, _⟩ := hh1
      clear b1 ho1
      have M2 : Hid (w1.there w.heap.size (j * 6) (RecW.recArr rj (.slice A1 rj.heads.length k1)).size) := M1.out
      clear M1
      rw [show recVal rj (.slice A1 rj.heads.length k1) = .agg (RecW.recArr rj (.slice A1 rj.heads.length k1)) from rfl]
      go_wp2_with (refine wpList_store_mid rfl 88 _ _ rfl w.heap.size (j * 6) (RecW.recArr rj (.slice A1 rj.heads.length k1)) rfl rfl ?ht RecW.info29 (RecW.recArr_one _ _ rfl) ?_; case ht => exact M2.out)
      go_roundw
      case rel => exact ⟨j + 1, _, _, by omega, by go_num, S1.out⟩
      case measure => simp [intOf]; omega
    · have : j = n := by omega
      subst this
      go_wp2
      go_ret
      exact ⟨F, m, rfl, HR⟩

theorem toRecordS_own (v : Value) (rs : List Rec) (w : World) (lo b : Nat) (hv : RecsAt w lo b v rs) (hb : b ≤ w.heap.size) (hl : rs.length ≤ 1048576) (hf : ∀ i, i < rs.length → FewR (rs.getD i default)) :
    Calls Try.prog 99 #[v] w fun e w' => ∃ v', e = .returned v' ∧ RecsAt w' w.heap.size w'.heap.size v' rs ∧ ROwn w' w.heap.size w'.heap.size v' rs.length (fun i => (rs.getD i default).heads.length) ∧ Below w.heap.size w w' := by
  obtain ⟨H, ⟨hn, A, c, rfl, h⟩, hh⟩ := hv
  by_cases hz : rs.length = 0
  · rw [hz]
    refine (RecsW.toRecordS_none A c w).mono fun e w' ⟨v', a1, ⟨A', c', a2⟩, a3⟩ => ⟨v', a1, ⟨H, ⟨hn, A', c', ?_, .inl hz⟩, fun i hi => absurd hi (by omega)⟩, ⟨Nat.le_refl _, by omega, fun i hi => absurd hi (by omega), .inl ⟨A', c', a2, rfl⟩⟩, a3⟩
    rw [a2, hz]
  obtain ⟨g, o, rfl, hg, hc, hcell, _⟩ := h.resolve_left hz
  refine (toRecordS_core g o rs.length c b lo rs H w hl hc (by omega) hb hf hh hcell).mono fun e w' ⟨F, m, a1, a2⟩ => ⟨_, a1, ⟨fun i => F (i * 6 + 5), ?_, ?_⟩, ⟨Nat.le_refl _, hl, hf, .inr ⟨w.heap.size, rs.length, F, m, rfl, Nat.le_refl _, a2.done.mine, a2.fst, a2.mono, a2.top, a2.own⟩⟩, a2.done.bel⟩
  · exact a2.done.mine.row hn a2.done.mine.lt (Nat.le_refl _) a2.done.cells
  · exact fun i hi => (a2.done.heads i hi).mono (by omega) (Nat.le_refl _)

theorem ROwn.keep {w w' : World} {lo hi n : Nat} {v : Value} {ln : Nat → Nat} (h : ROwn w lo hi v n ln) (hk : ∀ g, lo ≤ g → g < hi → w'.heap[g]? = w.heap[g]?) (hs : w.heap.size ≤ w'.heap.size) : ROwn w' lo hi v n ln := by
  refine ⟨Nat.le_trans h.hi_le hs, h.le, h.few, h.own.imp id ?_⟩
  rintro ⟨g, c, F, m, h1, h2, h3, h4, h5, h6, h7⟩
  have wl := win_le h5
  have w0 := wl 0 n (by omega) (Nat.le_refl _)
  refine ⟨g, c, F, m, h1, h2, h3.keep (hk g h2 (by omega)), h4, h5, h6, fun i hi => (h7 i hi).keep fun k hk1 hk2 => hk k ?_ ?_⟩
  · have := wl 0 i (by omega) (by omega); omega
  · have := wl (i + 1) n (by omega) (Nat.le_refl _); omega
theorem ROwn.mono {w : World} {lo lo' hi hi' n : Nat} {v : Value} {ln : Nat → Nat} (h : ROwn w lo hi v n ln) (hl : lo' ≤ lo) (hh : hi ≤ hi') (hw : hi' ≤ w.heap.size) : ROwn w lo' hi' v n ln := by
  refine ⟨hw, h.le, h.few, h.own.imp id ?_⟩
  rintro ⟨g, c, F, m, h1, h2, h3, h4, h5, h6, h7⟩
  exact ⟨g, c, F, m, h1, Nat.le_trans hl h2, h3, h4, h5, Nat.le_trans h6 hh, h7⟩

set_option maxHeartbeats 400000 in
theorem toBatch_own (v : Value) (t : Bat) (w : World) (lo b : Nat) (hv : BatAt w lo b v t) (hb : b ≤ w.heap.size) (hf : FewB t) :
    Calls Try.prog 93 #[v] w fun e w' => ∃ rv, e = .returned (batVal t rv) ∧ RecsAt w' w.heap.size w'.heap.size rv t.recs ∧ ROwn w' w.heap.size w'.heap.size rv t.recs.length (fun i => (t.recs.getD i default).heads.length) ∧ Below w.heap.size w w' := by
  obtain ⟨hv, rfl, hh⟩ := hv
  have HH := Seg.hid hh
  obtain ⟨H, ⟨hn, A, c, hve, _⟩, _⟩ := id hh
  clear hh
  unfold batVal
  subst hve
  go_enter Try.func93, Try.ntmps93
  go_wp2_with fail
  refine (toRecordS_own _ t.recs (((w.alloc _).alloc _).alloc _) lo b (HH.out.below ((below3 w _ _ _).mono hb)) (by rw [hsz, hsz, hsz]; omega) hf.1 hf.2).mono ?_
  rintro e w1 ⟨v', rfl, hh1, ho1, b1⟩
  have B1 := Seg.hid (chain (below3 w _ _ _) b1)
  have T1 := (b1.block (w.heap.size + 1) (by rw [hsz, hsz, hsz]; omega)).trans (at3 w _ _ _)
  have T2 := (b1.block (w.heap.size + 1 + 1) (by rw [hsz, hsz, hsz]; omega)).trans (Cells.at3' w _ _ _)
  have HH1 := Seg.hid hh1; have HO1 := Seg.hid ho1
  obtain ⟨H', ⟨_, A', c', hve, _⟩, _⟩ := id hh1
  clear hh1 b1 ho1
  subst hve
  have c6 := cell_of_row w1 (w.heap.size + 1 + 1) 6 _ _ _ T2
  have z6 := frozen_of_row w1 (w.heap.size + 1 + 1) 6 _ _ T2
  have H3 : Hid ((w1.setCell ⟨w.heap.size + 1 + 1, 6, none⟩ (.slice A' t.recs.length c')).heap[w.heap.size + 1 + 1]? = some (.cells (BatW.batArr t (.slice A' t.recs.length c')) 58 (0, 0))) := heap_setCell_same w1 (w.heap.size + 1 + 1) 6 _ _ (.slice A' t.recs.length c') T2
  have T4 := (heap_setCell_other w1 ⟨w.heap.size + 1 + 1, 6, none⟩ (w.heap.size + 1) (.slice A' t.recs.length c') (by simp)).trans T1
  have H5 := Seg.hid (Cells.there_of T4)
  have H4 := Seg.hid (Cells.whole (vs := BatW.batArr t (.slice A' t.recs.length c')) T4 rfl)
  have B2 := Seg.hid (Cells.below_setCells (g := w.heap.size + 1) (by omega) (BatW.batArr t (.slice A' t.recs.length c')).toList 0 _ _ (B1.out.setCell (p := ⟨w.heap.size + 1 + 1, 6, none⟩) (by simp; omega) (.slice A' t.recs.length c')))
  obtain ⟨wF, hwF⟩ : ∃ x, (w1.setCell ⟨w.heap.size + 1 + 1, 6, none⟩ (.slice A' t.recs.length c')).setCells (w.heap.size + 1) 0 (BatW.batArr t (.slice A' t.recs.length c')).toList = x := ⟨_, rfl⟩
  have keep : ∀ g, w.heap.size + 1 + 1 + 1 ≤ g → wF.heap[g]? = w1.heap[g]? := fun g h1 => by
    rw [← hwF, Cells.heap_setCells_other _ _ (by omega), heap_setCell_other _ _ _ _ (by show _ ≠ w.heap.size + 1 + 1; omega)]
  have hsize : wF.heap.size = w1.heap.size := by rw [← hwF, Cells.size_setCells]; simp
  have HF : Hid (RecsAt wF w.heap.size wF.heap.size (.slice A' t.recs.length c') t.recs) := by
    refine (RecsAt.keep HH1.out (fun g h1 h2 => keep g (by rw [hsz, hsz, hsz] at h1; exact h1))).mono ?_ ?_
    · rw [hsz, hsz, hsz]; omega
    · omega
  have HG : Hid (ROwn wF w.heap.size wF.heap.size (.slice A' t.recs.length c') t.recs.length (fun i => (t.recs.getD i default).heads.length)) := by
    refine (ROwn.keep HO1.out (fun g h1 h2 => keep g (by rw [hsz, hsz, hsz] at h1; exact h1)) (by omega)).mono ?_ (by omega) (Nat.le_refl _)
    rw [hsz, hsz, hsz]; omega
  rw [← hwF] at HF HG
  clear T1 T2 T4 keep hsize hwF
  simp at c6
  go_wp2_with (first | (refine wpList_load_row rfl 58 _ rfl (w.heap.size + 1 + 1) rfl _ _ _ _ H3.out Try.underlying58 rfl BatW.info40 ?_) | (refine wpList_store_mid rfl 58 _ _ rfl (w.heap.size + 1) 0 (BatW.batArr t (.slice A' t.recs.length c')) rfl rfl H5.out BatW.info40 (BatW.batArr_one _ _ rfl) ?_))
  exact bodyPost_ret (v := batVal t (.slice A' t.recs.length c')) (results_cell_row rfl _ _ (w.heap.size + 1) _ _ _ _ rfl H4.out Try.underlying58 rfl BatW.info40) rfl ⟨_, rfl, HF.out, HG.out, B2.out⟩
end Go.Proofs.Yticihnoekffelaa.ToO
