/- The law's copiers once more: what they copy is theirs to write; Memory of the call's own, told by the set of its blocks: lists of structs in lists, of any depth; what a writer leaves as it was; numbers that marks count; The program's batchesFrom: what ranges over it. -/
import Derived.RangeFuncNested
import Derived.RangeFuncBound
import Derived.RangeFuncCalls
import Derived.RangeFuncLeaves
import Derived.Shelf.Abstract
import Derived.Shelf.RegionOpen
import Derived.WalkKit
import Derived.OwnWalkIn
import Derived.TacticsInMore
import Derived.LoopNIn
import Derived.LoopIn
import Derived.Deep.RegionHeld3
import Derived.Test.YticihnoekffelaaJS03
import Derived.Test.YticihnoekffelaaJS11
import Derived.Test.YticihnoekffelaaJS12
namespace Go.Proofs.Yticihnoekffelaa.ToO
set_option maxRecDepth 8000
open Go.RowKit
open Recs
set_option linter.unusedVariables false

/-- Block g is a row of the call's own, of n elements of s cells, with room for c; cell q holds 'F q'. -/
def MineC (w : World) (e s g n c : Nat) (F : Nat → Value) : Prop := w.ownsRow g e s (.slice (some ⟨g, 0, none⟩) n c) n ((List.range (n * s)).map F)
section
variable {w w' : World} {e s g n c b : Nat} {F : Nat → Value}
theorem MineC.cell (h : MineC w e s g n c F) (q : Nat) (hq : q < n * s) : w.cell? ⟨g, q, none⟩ = some (F q) := by
  have := World.ownsRow.cellAt h q hq
  rw [this]
  simp [hq]
theorem MineC.frozen (h : MineC w e s g n c F) (q : Nat) : w.frozen? ⟨g, q, none⟩ = false := World.ownsRow.frozenAt h q
theorem MineC.lt (h : MineC w e s g n c F) : g < w.heap.size := by
  rcases h.2 with ⟨h', _⟩ | ⟨g', cap', cur, h', hb, hg, hnc, hcm, hcs, htake⟩
  · simp at h'
  · simp only [Value.slice.injEq, Option.some.injEq, Addr.mk.injEq, and_true, true_and] at h'
    obtain ⟨rfl, rfl⟩ := h'
    exact (Array.getElem?_eq_some_iff.1 hg).1
theorem MineC.le (h : MineC w e s g n c F) : n ≤ c := by
  rcases h.2 with ⟨h', _⟩ | ⟨g', cap', cur, h', hb, hg, hnc, hcm, hcs, htake⟩
  · simp at h'
  · simp only [Value.slice.injEq, Option.some.injEq, Addr.mk.injEq, and_true, true_and] at h'
    obtain ⟨rfl, rfl⟩ := h'
    exact hnc
theorem MineC.set (h : MineC w e s g n c F) (q : Nat) (v : Value) : MineC (w.setCell ⟨g, q, none⟩ v) e s g n c (fun i => if i = q then v else F i) := by
  have := (World.ownsRow.stored h q v).1
  have he : ((List.range (n * s)).map F).set q v = (List.range (n * s)).map (fun i => if i = q then v else F i) := List.ext_getElem (by simp) fun i h1 h2 => by
    by_cases hi : i = q
    · subst hi; simp
    · rw [List.getElem_set_ne (by omega)]; simp [hi]
  rw [he] at this
  exact this
theorem MineC.keep (h : MineC w e s g n c F) (hk : w'.heap[g]? = w.heap[g]?) : MineC w' e s g n c F := by
  refine ⟨h.1, ?_⟩
  rcases h.2 with hn | ⟨g', cap, cur, h', hbs, hgg, rest⟩
  · exact .inl hn
  · have h'' := h'
    simp only [Value.slice.injEq, Option.some.injEq, Addr.mk.injEq, and_true, true_and] at h''
    obtain ⟨rfl, rfl⟩ := h''
    exact .inr ⟨g, c, cur, h', hbs, by rw [hk]; exact hgg, rest⟩
end
/-- A list of Heads that is the call's own, in a block from lo on, below b. -/
def HOwn (w : World) (lo b : Nat) (v : Value) (n : Nat) : Prop := n ≤ 1048576 ∧ ∃ A c, v = .slice A n c ∧ (n = 0 ∨ ∃ g F, A = some ⟨g, 0, none⟩ ∧ lo ≤ g ∧ g < b ∧ MineC w 116 2 g n c F)
theorem HOwn.keep {w w' : World} {lo b n : Nat} {v : Value} (h : HOwn w lo b v n) (hk : ∀ g, lo ≤ g → g < b → w'.heap[g]? = w.heap[g]?) : HOwn w' lo b v n := by
  obtain ⟨h0, A, c, h1, h2⟩ := h
  refine ⟨h0, A, c, h1, h2.imp id ?_⟩
  rintro ⟨g, F, h3, h4, h5, h6⟩
  exact ⟨g, F, h3, h4, h5, h6.keep (hk g h4 h5)⟩
theorem HOwn.mono {w : World} {lo lo' b b' n : Nat} {v : Value} (h : HOwn w lo b v n) (hl : lo' ≤ lo) (hb : b ≤ b') : HOwn w lo' b' v n := by
  obtain ⟨h0, A, c, h1, h2⟩ := h
  refine ⟨h0, A, c, h1, h2.imp id ?_⟩
  rintro ⟨g, F, h3, h4, h5, h6⟩
  exact ⟨g, F, h3, Nat.le_trans hl h4, Nat.lt_of_lt_of_le h5 hb, h6⟩

set_option maxHeartbeats 400000 in
theorem toHeadS_core (g o n c : Nat) (K V : Nat → ByteArray) (w : World) (hn : n ≤ 1048576) (hc : n ≤ c) (hg : g < w.heap.size)
    (ha : ∀ i, i < n → w.cell? ⟨g, o + i * 2, none⟩ = some (.string (K i)) ∧ w.cell? ⟨g, o + i * 2 + 1, none⟩ = some (.string (V i))) :
    Calls Try.prog 105 #[.slice (some ⟨g, o, none⟩) n c] w fun e w' => ∃ v, e = .returned v ∧ Row w' w.heap.size w'.heap.size 2 v n (fun i j => if j = 0 then .string (K i) else .string (V i)) ∧ HOwn w' w.heap.size w'.heap.size v n ∧ Below w.heap.size w w' := by
  obtain ⟨i0, hi, hz0, hz1, hz2⟩ := info_parts Sz.info2
  have HA := Seg.hid ha
  clear ha
  go_enter Try.func105, Try.ntmps105
  go_wp2_with (at_make; refine wpList_make_full _ rfl _ _ 86 rfl w.heap.size 116 i0 _ 2 Try.underlying86 hi hz0 hz1 .i64 .i64 _ _ n rfl rfl rfl rfl (by rw [hz2]; omega) (by unfold maxLen; omega) (Nat.le_refl _) ?_; intro w1 hown hgr)
  have hb1 := (Below.refl w.heap.size w).grown hgr (Nat.le_refl _) (fun k hk => by cases hk)
  have HM := Seg.hid (Mine.of_made hown hown.1)
  have HB := Seg.hid hb1
  clear hown hgr hb1 hi hz0 hz1 hz2
  go_loopw [4] (fun i wr => ∃ (j : Nat) (F : Nat → Value), j ≤ n ∧ i = .int .i64 j ∧ Hid (Mine wr 116 2 w.heap.size n F ∧ Below w.heap.size w wr ∧ ∀ i, i < j → F (i * 2) = .string (K i) ∧ F (i * 2 + 1) = .string (V i))) (fun i _ => n - (intOf i).toNat)
  case atStart => exact ⟨0, _, Nat.zero_le _, rfl, HM.out, HB.out, fun i hi => absurd hi (by omega)⟩
  case round =>
    clear HM HB
    obtain ⟨j, F, hj, rfl, HR⟩ := hrel
    by_cases hlt : j < n
    · have c1 : wr.cell? ⟨g, o + j * 2, none⟩ = some (.string (K j)) := by rw [HR.out.2.1.cell (p := ⟨g, o + j * 2, none⟩) hg]; exact (HA.out j hlt).1
      have c2 : wr.cell? ⟨g, o + j * 2 + 1, none⟩ = some (.string (V j)) := by rw [HR.out.2.1.cell (p := ⟨g, o + j * 2 + 1, none⟩) hg]; exact (HA.out j hlt).2
      have h0 : (0 : Int) ≤ (j : Int) := by omega
      have h1 : (j : Int) < (n : Int) := by omega
      go_wp2_with fail
      refine (Sz.toHead_any (K j) (V j) wr).mono ?_
      rintro e w1 ⟨rfl, b1⟩
      have M1 : Hid (Mine w1 116 2 w.heap.size n F) := HR.out.1.below b1 HR.out.1.lt
      have B1 := Seg.hid (HR.out.2.1.trans (b1.mono HR.out.2.1.size))
      clear b1
      have d1 := M1.out.cell (j * 2) (by omega)
      have d2 := M1.out.cell (j * 2 + 1) (by omega)
      have f1 := M1.out.frozen (j * 2)
      have f2 := M1.out.frozen (j * 2 + 1)
      have M2 := Seg.hid ((M1.out.set (j * 2) (.string (K j))).set (j * 2 + 1) (.string (V j)))
      have B2 := Seg.hid ((B1.out.setCell (p := ⟨w.heap.size, j * 2, none⟩) (Nat.le_refl _) (.string (K j))).setCell (p := ⟨w.heap.size, j * 2 + 1, none⟩) (Nat.le_refl _) (.string (V j)))
      go_wp2
      go_roundw
      case rel =>
        refine ⟨j + 1, _, by omega, by go_num, M2.out, B2.out, fun i hi => ?_⟩
        have hr := HR.out.2.2
        by_cases he : i = j
        · subst he; simp
        · have := hr i (by omega)
          simp [show ¬ i * 2 = j * 2 + 1 by omega, show ¬ i * 2 = j * 2 by omega, show ¬ i * 2 + 1 = j * 2 by omega, this]
      case measure => simp [intOf]; omega
    · have : j = n := by omega
      subst this
      go_wp2
      go_ret
      exact ⟨_, rfl, HR.out.1.row (by omega) HR.out.1.lt (Nat.le_refl _) (fun i hi q hq => Sz.row2 (HR.out.2.2 i hi) q hq), ⟨hn, _, _, rfl, .inr ⟨w.heap.size, F, rfl, Nat.le_refl _, HR.out.1.lt, HR.out.1⟩⟩, HR.out.2.1⟩

theorem toHeadS_own (v : Value) (hs : List Hd) (w : World) (lo b : Nat) (hv : Heads w lo b v hs) (hb : b ≤ w.heap.size) (hl : hs.length ≤ 1048576) :
    Calls Try.prog 105 #[v] w fun e w' => ∃ v', e = .returned v' ∧ Heads w' w.heap.size w'.heap.size v' hs ∧ HOwn w' w.heap.size w'.heap.size v' hs.length ∧ Below w.heap.size w w' := by
  obtain ⟨hn, A, c, rfl, h⟩ := hv
  by_cases hz : hs.length = 0
  · rw [hz]
    refine (Sz.toHeadS_none A c w).mono fun e w' ⟨v', a1, ⟨A', c', a2⟩, a3⟩ => ⟨v', a1, ⟨hn, A', c', ?_, .inl hz⟩, ⟨by omega, A', c', ?_, .inl rfl⟩, a3⟩
    · rw [a2, hz]
    · rw [a2]
  obtain ⟨g, o, rfl, hg, hc, hcell, _⟩ := h.resolve_left hz
  exact toHeadS_core g o hs.length c (fun i => (hs.getD i default).key) (fun i => (hs.getD i default).val) w hl hc (by omega) (fun i hi => Heads.cell0 hcell i hi)

set_option maxHeartbeats 400000 in
theorem toRecord_own (v : Value) (r : Rec) (w : World) (lo b : Nat) (hv : RecAt w lo b v r) (hb : b ≤ w.heap.size) (hf : FewR r) :
    Calls Try.prog 103 #[v] w fun e w' => ∃ hv', e = .returned (recVal r hv') ∧ Heads w' w.heap.size w'.heap.size hv' r.heads ∧ HOwn w' w.heap.size w'.heap.size hv' r.heads.length ∧ Below w.heap.size w w' := by
  obtain ⟨hv, rfl, hh⟩ := hv
  have HH := Seg.hid hh
  obtain ⟨hn, A, c, hve, _⟩ := id hh
  clear hh
  unfold recVal
  subst hve
  go_enter Try.func103, Try.ntmps103
  go_wp2_with fail
  refine (toHeadS_own _ r.heads (((w.alloc _).alloc _).alloc _) lo b (HH.out.below ((below3 w _ _ _).mono hb)) (by rw [hsz, hsz, hsz]; omega) hf).mono ?_
  rintro e w1 ⟨v', rfl, hh1, ho1, b1⟩
  have B1 := Seg.hid (chain (below3 w _ _ _) b1)
  have T1 := (b1.block (w.heap.size + 1) (by rw [hsz, hsz, hsz]; omega)).trans (at3 w _ _ _)
  have T2 := (b1.block (w.heap.size + 1 + 1) (by rw [hsz, hsz, hsz]; omega)).trans (Cells.at3' w _ _ _)
  have HH1 := Seg.hid hh1; have HO1 := Seg.hid ho1
  obtain ⟨_, A', c', hve, _⟩ := id hh1
  clear hh1 b1 ho1
  subst hve
  have c5 := cell_of_row w1 (w.heap.size + 1 + 1) 5 _ _ _ T2
  have z5 := frozen_of_row w1 (w.heap.size + 1 + 1) 5 _ _ T2
  have H3 : Hid ((w1.setCell ⟨w.heap.size + 1 + 1, 5, none⟩ (.slice A' r.heads.length c')).heap[w.heap.size + 1 + 1]? = some (.cells (RecW.recArr r (.slice A' r.heads.length c')) 88 (0, 0))) := heap_setCell_same w1 (w.heap.size + 1 + 1) 5 _ _ (.slice A' r.heads.length c') T2
  have T4 := (heap_setCell_other w1 ⟨w.heap.size + 1 + 1, 5, none⟩ (w.heap.size + 1) (.slice A' r.heads.length c') (by simp)).trans T1
  have H5 := Seg.hid (Cells.there_of T4)
  have H4 := Seg.hid (Cells.whole (vs := RecW.recArr r (.slice A' r.heads.length c')) T4 rfl)
  have B2 := Seg.hid (Cells.below_setCells (g := w.heap.size + 1) (by omega) (RecW.recArr r (.slice A' r.heads.length c')).toList 0 _ _ (B1.out.setCell (p := ⟨w.heap.size + 1 + 1, 5, none⟩) (by simp; omega) (.slice A' r.heads.length c')))
  have keep : ∀ g, (((w.alloc (.cells #[.int .i64 r.time, .bool r.keyed, .string r.key, .bool r.gone, .string r.val, .slice A r.heads.length c] 130 (0, 0))).alloc default).alloc default).heap.size ≤ g → ((w1.setCell ⟨w.heap.size + 1 + 1, 5, none⟩ (.slice A' r.heads.length c')).setCells (w.heap.size + 1) 0 (RecW.recArr r (.slice A' r.heads.length c')).toList).heap[g]? = w1.heap[g]? := fun g h1 => by
    rw [hsz, hsz, hsz] at h1
    rw [Cells.heap_setCells_other _ _ (by omega), heap_setCell_other _ _ _ _ (by show _ ≠ w.heap.size + 1 + 1; omega)]
  have hsize : ((w1.setCell ⟨w.heap.size + 1 + 1, 5, none⟩ (.slice A' r.heads.length c')).setCells (w.heap.size + 1) 0 (RecW.recArr r (.slice A' r.heads.length c')).toList).heap.size = w1.heap.size := by rw [Cells.size_setCells]; simp
  have HF : Hid (Heads ((w1.setCell ⟨w.heap.size + 1 + 1, 5, none⟩ (.slice A' r.heads.length c')).setCells (w.heap.size + 1) 0 (RecW.recArr r (.slice A' r.heads.length c')).toList) w.heap.size ((w1.setCell ⟨w.heap.size + 1 + 1, 5, none⟩ (.slice A' r.heads.length c')).setCells (w.heap.size + 1) 0 (RecW.recArr r (.slice A' r.heads.length c')).toList).heap.size (.slice A' r.heads.length c') r.heads) := by
    refine (Heads.keep HH1.out (fun g h1 h2 => keep g (by rw [hsz, hsz, hsz] at h1 ⊢; exact h1))).mono ?_ ?_
    · rw [hsz, hsz, hsz]; omega
    · rw [hsize]; exact Nat.le_refl _
  have HG : Hid (HOwn ((w1.setCell ⟨w.heap.size + 1 + 1, 5, none⟩ (.slice A' r.heads.length c')).setCells (w.heap.size + 1) 0 (RecW.recArr r (.slice A' r.heads.length c')).toList) w.heap.size ((w1.setCell ⟨w.heap.size + 1 + 1, 5, none⟩ (.slice A' r.heads.length c')).setCells (w.heap.size + 1) 0 (RecW.recArr r (.slice A' r.heads.length c')).toList).heap.size (.slice A' r.heads.length c') r.heads.length) := by
    refine (HOwn.keep HO1.out (fun g h1 h2 => keep g (by rw [hsz, hsz, hsz] at h1 ⊢; exact h1))).mono ?_ ?_
    · rw [hsz, hsz, hsz]; omega
    · rw [hsize]; exact Nat.le_refl _
  clear T1 T2 T4 keep hsize
  simp at c5
  go_wp2_with (first | (refine wpList_load_row rfl 88 _ rfl (w.heap.size + 1 + 1) rfl _ _ _ _ H3.out Try.underlying88 rfl RecW.info29 ?_) | (refine wpList_store_mid rfl 88 _ _ rfl (w.heap.size + 1) 0 (RecW.recArr r (.slice A' r.heads.length c')) rfl rfl H5.out RecW.info29 (RecW.recArr_one _ _ rfl) ?_))
  exact bodyPost_ret (v := recVal r (.slice A' r.heads.length c')) (results_cell_row rfl _ _ (w.heap.size + 1) _ _ _ _ rfl H4.out Try.underlying88 rfl RecW.info29) rfl ⟨_, rfl, HF.out, HG.out, B2.out⟩

/-- What the loop has done: j elements are copied; the Heads' rows lie in windows one behind the other. -/
structure DoneO (w wr : World) (rs : List Rec) (n j : Nat) (F : Nat → Value) (m : Nat → Nat) : Prop where
  done : RecsW.Done w wr rs n j F
  own : ∀ i, i < j → HOwn wr (m i) (m (i + 1)) (F (i * 6 + 5)) (rs.getD i default).heads.length
  mono : ∀ i, i < j → m i ≤ m (i + 1)
  fst : w.heap.size < m 0
  top : m j ≤ wr.heap.size
theorem win_le {m : Nat → Nat} {n : Nat} (h : ∀ i, i < n → m i ≤ m (i + 1)) : ∀ a b, a ≤ b → b ≤ n → m a ≤ m b
  | a, 0, hab, _ => by rw [Nat.le_zero.1 hab]; exact Nat.le_refl _
  | a, b + 1, hab, hb => by
    by_cases he : a = b + 1
    · rw [he]; exact Nat.le_refl _
    · exact Nat.le_trans (win_le h a b (by omega) (by omega)) (h b (by omega))
theorem DoneO.step {w wr w1 : World} {rs : List Rec} {n j : Nat} {F : Nat → Value} {m : Nat → Nat} (h : DoneO w wr rs n j F m) (hj : j < n) (hv : Value) (b1 : Below wr.heap.size wr w1) (hh : Heads w1 wr.heap.size w1.heap.size hv (rs.getD j default).heads) (ho : HOwn w1 wr.heap.size w1.heap.size hv (rs.getD j default).heads.length) :
    DoneO w (w1.setCells w.heap.size (j * 6) (RecW.recArr (rs.getD j default) hv).toList) rs n (j + 1) (Own.upd F (j * 6) (RecW.recArr (rs.getD j default) hv).toList) (fun i => if i = j + 1 then w1.heap.size else m i) := by
  have hlt := h.done.mine.lt
  have hfst := h.fst
  have keep : ∀ g, g ≠ w.heap.size → (w1.setCells w.heap.size (j * 6) (RecW.recArr (rs.getD j default) hv).toList).heap[g]? = w1.heap[g]? := fun g hg => Cells.heap_setCells_other _ _ hg
  have hsize := Cells.size_setCells (g := w.heap.size) (RecW.recArr (rs.getD j default) hv).toList (o := j * 6) w1
  have hcell : ∀ q, q < 6 → Own.upd F (j * 6) (RecW.recArr (rs.getD j default) hv).toList (j * 6 + q) = (RecW.recArr (rs.getD j default) hv).toList.getD q default := fun q hq => Own.upd_in (by simp [RecW.recArr]; omega)
  have hold : ∀ i, i < j → ∀ q, q < 6 → Own.upd F (j * 6) (RecW.recArr (rs.getD j default) hv).toList (i * 6 + q) = F (i * 6 + q) := fun i hi q hq => Own.upd_out (.inl (by omega))
  have wl := win_le h.mono
  refine ⟨h.done.step hj hv b1 hh, ?_, ?_, ?_, ?_⟩
  · intro i hi
    by_cases he : i = j
    · subst he
      rw [hcell 5 (by omega)]
      rw [if_neg (by omega), if_pos rfl]
      show HOwn _ _ _ hv _
      exact (ho.keep fun g h1 h2 => keep g (by omega)).mono h.top (Nat.le_refl _)
    · rw [hold i (by omega) 5 (by omega)]
      have m0 := wl 0 i (by omega) (by omega)
      have m1 := wl (i + 1) j (by omega) (Nat.le_refl _)
      have ht := h.top
      rw [if_neg (by omega), if_neg (by omega)]
      exact (h.own i (by omega)).keep fun g h1 h2 => (keep g (by omega)).trans (b1.block g (by omega))
  · intro i hi
    by_cases he : i = j
    · subst he
      rw [if_neg (by omega), if_pos rfl]
      exact Nat.le_trans h.top b1.size
    · rw [if_neg (by omega), if_neg (by omega)]
      exact h.mono i (by omega)
  · show w.heap.size < if 0 = j + 1 then _ else m 0
    rw [if_neg (by omega)]
    exact hfst
  · show (if j + 1 = j + 1 then w1.heap.size else _) ≤ _
    rw [if_pos rfl, hsize]
    exact Nat.le_refl _

/-- Records that are the call's own: theirs is block g, their Heads' are in windows behind it. -/
structure ROwn (w : World) (lo hi : Nat) (v : Value) (n : Nat) (ln : Nat → Nat) : Prop where
  hi_le : hi ≤ w.heap.size
  le : n ≤ 1048576
  few : ∀ i, i < n → ln i ≤ 1048576
  own : (∃ A c, v = .slice A 0 c ∧ n = 0) ∨ ∃ (g c : Nat) (F : Nat → Value) (m : Nat → Nat), v = .slice (some ⟨g, 0, none⟩) n c ∧ lo ≤ g ∧ MineC w 88 6 g n c F ∧ g < m 0 ∧ (∀ i, i < n → m i ≤ m (i + 1)) ∧ m n ≤ hi ∧ ∀ i, i < n → HOwn w (m i) (m (i + 1)) (F (i * 6 + 5)) (ln i)

set_option maxHeartbeats 800000 in
theorem toRecordS_core (g o n c b lo : Nat) (rs : List Rec) (H : Nat → Value) (w : World) (hn : n ≤ 1048576) (hc : n ≤ c) (hg : g < w.heap.size) (hb : b ≤ w.heap.size)
    (hf : ∀ i, i < n → FewR (rs.getD i default)) (hh : ∀ i, i < n → Heads w lo b (H i) (rs.getD i default).heads)
    (ha : ∀ i, i < n → ∀ j, j < 6 → w.cell? ⟨g, o + i * 6 + j, none⟩ = some (recCells rs H i j)) :
    Calls Try.prog 99 #[.slice (some ⟨g, o, none⟩) n c] w fun e w' => ∃ (F : Nat → Value) (m : Nat → Nat), e = .returned (.slice (some ⟨w.heap.size, 0, none⟩) n n) ∧ DoneO w w' rs n n F m := by
  obtain ⟨i0, hi, hz0, hz1, hz2⟩ := info_parts RecsW.info6
  have HA := Seg.hid ha; have HK := Seg.hid hf; have HH := Seg.hid hh
  clear ha hf hh
  go_enter Try.func99, Try.ntmps99
  go_wp2_with (at_make; refine wpList_make_full _ rfl _ _ 56 rfl w.heap.size 88 i0 _ 6 Try.underlying56 hi hz0 hz1 .i64 .i64 _ _ n rfl rfl rfl rfl (by rw [hz2]; omega) (by unfold maxLen; omega) (Nat.le_refl _) ?_; intro w1 hown hgr)
  have hb1 := (Below.refl w.heap.size w).grown hgr (Nat.le_refl _) (fun k hk => by cases hk)
  have HM := Seg.hid (Mine.of_made hown hown.1)
  have HB := Seg.hid hb1
  clear hown hgr hb1 hi hz0 hz1 hz2
  have hz1 := HM.out.lt
  go_loopw [4] (fun i wr => ∃ (j : Nat) (F : Nat → Value) (m : Nat → Nat), j ≤ n ∧ i = .int .i64 j ∧ DoneO w wr rs n j F m) (fun i _ => n - (intOf i).toNat)
  case atStart => exact ⟨0, _, fun _ => w1.heap.size, Nat.zero_le _, rfl, ⟨HM.out, HB.out, fun i hi => absurd hi (by omega), fun i hi => absurd hi (by omega)⟩, fun i hi => absurd hi (by omega), fun i hi => absurd hi (by omega), hz1, Nat.le_refl _⟩
  case round =>
    clear HM HB
    obtain ⟨j, F, m, hj, rfl, HR⟩ := hrel
    by_cases hlt : j < n
    · obtain ⟨c0, c1, c2, c3, c4, c5⟩ := RecsW.six (RecsW.six' HA.out HR.done.bel hg) j hlt
      have RA : Hid (RecAt wr lo b (.agg #[.int .i64 (rs.getD j default).time, .bool (rs.getD j default).keyed, .string (rs.getD j default).key, .bool (rs.getD j default).gone, .string (rs.getD j default).val, H j]) (rs.getD j default)) := ⟨_, rfl, (HH.out j hlt).below (HR.done.bel.mono hb)⟩
      have FW := Seg.hid (HK.out j hlt)
      have hbr : b ≤ wr.heap.size := Nat.le_trans hb HR.done.bel.size
      have ST := Seg.hid (fun w1 hv b1 hh ho => DoneO.step (w1 := w1) HR hlt hv b1 hh ho)
      have HM := Seg.hid HR.done.mine
      have h0 : (0 : Int) ≤ (j : Int) := by omega
      have h1 : (j : Int) < (n : Int) := by omega
      clear HR
      generalize rs.getD j default = rj at *
      go_wp2_with fail
      refine (toRecord_own _ rj wr lo b RA.out hbr FW.out).mono ?_
      rintro e w1 ⟨hv1, rfl, hh1, ho1, b1⟩
      have S1 := Seg.hid (ST.out w1 hv1 b1 hh1 ho1)
      have M1 := Seg.hid (Own.mine_there (o := j * 6) (m := 6) (HM.out.below b1 HM.out.lt) (by omega))
      obtain ⟨_, A1, k1, rfl, _⟩ := hh1
      clear b1 ho1
      have M2 : Hid (w1.there w.heap.size (j * 6) (RecW.recArr rj (.slice A1 rj.heads.length k1)).size) := M1.out
      clear M1
      rw [show recVal rj (.slice A1 rj.heads.length k1) = .agg (RecW.recArr rj (.slice A1 rj.heads.length k1)) from rfl]
      go_wp2_with (refine wpList_store_mid rfl 88 _ _ rfl w.heap.size (j * 6) (RecW.recArr rj (.slice A1 rj.heads.length k1)) rfl rfl ?ht RecW.info29 (RecW.recArr_one _ _ rfl) ?_; case ht => exact M2.out)
      go_roundw
      case rel => exact ⟨j + 1, _, _, by omega, by go_num, S1.out⟩
      case measure => simp [intOf]; omega
    · have : j = n := by omega
      subst this
      go_wp2
      go_ret
      exact ⟨F, m, rfl, HR⟩

theorem toRecordS_own (v : Value) (rs : List Rec) (w : World) (lo b : Nat) (hv : RecsAt w lo b v rs) (hb : b ≤ w.heap.size) (hl : rs.length ≤ 1048576) (hf : ∀ i, i < rs.length → FewR (rs.getD i default)) :
    Calls Try.prog 99 #[v] w fun e w' => ∃ v', e = .returned v' ∧ RecsAt w' w.heap.size w'.heap.size v' rs ∧ ROwn w' w.heap.size w'.heap.size v' rs.length (fun i => (rs.getD i default).heads.length) ∧ Below w.heap.size w w' := by
  obtain ⟨H, ⟨hn, A, c, rfl, h⟩, hh⟩ := hv
  by_cases hz : rs.length = 0
  · rw [hz]
    refine (RecsW.toRecordS_none A c w).mono fun e w' ⟨v', a1, ⟨A', c', a2⟩, a3⟩ => ⟨v', a1, ⟨H, ⟨hn, A', c', ?_, .inl hz⟩, fun i hi => absurd hi (by omega)⟩, ⟨Nat.le_refl _, by omega, fun i hi => absurd hi (by omega), .inl ⟨A', c', a2, rfl⟩⟩, a3⟩
    rw [a2, hz]
  obtain ⟨g, o, rfl, hg, hc, hcell, _⟩ := h.resolve_left hz
  refine (toRecordS_core g o rs.length c b lo rs H w hl hc (by omega) hb hf hh hcell).mono fun e w' ⟨F, m, a1, a2⟩ => ⟨_, a1, ⟨fun i => F (i * 6 + 5), ?_, ?_⟩, ⟨Nat.le_refl _, hl, hf, .inr ⟨w.heap.size, rs.length, F, m, rfl, Nat.le_refl _, a2.done.mine, a2.fst, a2.mono, a2.top, a2.own⟩⟩, a2.done.bel⟩
  · exact a2.done.mine.row hn a2.done.mine.lt (Nat.le_refl _) a2.done.cells
  · exact fun i hi => (a2.done.heads i hi).mono (by omega) (Nat.le_refl _)

theorem ROwn.keep {w w' : World} {lo hi n : Nat} {v : Value} {ln : Nat → Nat} (h : ROwn w lo hi v n ln) (hk : ∀ g, lo ≤ g → g < hi → w'.heap[g]? = w.heap[g]?) (hs : w.heap.size ≤ w'.heap.size) : ROwn w' lo hi v n ln := by
  refine ⟨Nat.le_trans h.hi_le hs, h.le, h.few, h.own.imp id ?_⟩
  rintro ⟨g, c, F, m, h1, h2, h3, h4, h5, h6, h7⟩
  have wl := win_le h5
  have w0 := wl 0 n (by omega) (Nat.le_refl _)
  refine ⟨g, c, F, m, h1, h2, h3.keep (hk g h2 (by omega)), h4, h5, h6, fun i hi => (h7 i hi).keep fun k hk1 hk2 => hk k ?_ ?_⟩
  · have := wl 0 i (by omega) (by omega); omega
  · have := wl (i + 1) n (by omega) (Nat.le_refl _); omega
theorem ROwn.mono {w : World} {lo lo' hi hi' n : Nat} {v : Value} {ln : Nat → Nat} (h : ROwn w lo hi v n ln) (hl : lo' ≤ lo) (hh : hi ≤ hi') (hw : hi' ≤ w.heap.size) : ROwn w lo' hi' v n ln := by
  refine ⟨hw, h.le, h.few, h.own.imp id ?_⟩
  rintro ⟨g, c, F, m, h1, h2, h3, h4, h5, h6, h7⟩
  exact ⟨g, c, F, m, h1, Nat.le_trans hl h2, h3, h4, h5, Nat.le_trans h6 hh, h7⟩

set_option maxHeartbeats 400000 in
theorem toBatch_own (v : Value) (t : Bat) (w : World) (lo b : Nat) (hv : BatAt w lo b v t) (hb : b ≤ w.heap.size) (hf : FewB t) :
    Calls Try.prog 93 #[v] w fun e w' => ∃ rv, e = .returned (batVal t rv) ∧ RecsAt w' w.heap.size w'.heap.size rv t.recs ∧ ROwn w' w.heap.size w'.heap.size rv t.recs.length (fun i => (t.recs.getD i default).heads.length) ∧ Below w.heap.size w w' := by
  obtain ⟨hv, rfl, hh⟩ := hv
  have HH := Seg.hid hh
  obtain ⟨H, ⟨hn, A, c, hve, _⟩, _⟩ := id hh
  clear hh
  unfold batVal
  subst hve
  go_enter Try.func93, Try.ntmps93
  go_wp2_with fail
  refine (toRecordS_own _ t.recs (((w.alloc _).alloc _).alloc _) lo b (HH.out.below ((below3 w _ _ _).mono hb)) (by rw [hsz, hsz, hsz]; omega) hf.1 hf.2).mono ?_
  rintro e w1 ⟨v', rfl, hh1, ho1, b1⟩
  have B1 := Seg.hid (chain (below3 w _ _ _) b1)
  have T1 := (b1.block (w.heap.size + 1) (by rw [hsz, hsz, hsz]; omega)).trans (at3 w _ _ _)
  have T2 := (b1.block (w.heap.size + 1 + 1) (by rw [hsz, hsz, hsz]; omega)).trans (Cells.at3' w _ _ _)
  have HH1 := Seg.hid hh1; have HO1 := Seg.hid ho1
  obtain ⟨H', ⟨_, A', c', hve, _⟩, _⟩ := id hh1
  clear hh1 b1 ho1
  subst hve
  have c6 := cell_of_row w1 (w.heap.size + 1 + 1) 6 _ _ _ T2
  have z6 := frozen_of_row w1 (w.heap.size + 1 + 1) 6 _ _ T2
  have H3 : Hid ((w1.setCell ⟨w.heap.size + 1 + 1, 6, none⟩ (.slice A' t.recs.length c')).heap[w.heap.size + 1 + 1]? = some (.cells (BatW.batArr t (.slice A' t.recs.length c')) 58 (0, 0))) := heap_setCell_same w1 (w.heap.size + 1 + 1) 6 _ _ (.slice A' t.recs.length c') T2
  have T4 := (heap_setCell_other w1 ⟨w.heap.size + 1 + 1, 6, none⟩ (w.heap.size + 1) (.slice A' t.recs.length c') (by simp)).trans T1
  have H5 := Seg.hid (Cells.there_of T4)
  have H4 := Seg.hid (Cells.whole (vs := BatW.batArr t (.slice A' t.recs.length c')) T4 rfl)
  have B2 := Seg.hid (Cells.below_setCells (g := w.heap.size + 1) (by omega) (BatW.batArr t (.slice A' t.recs.length c')).toList 0 _ _ (B1.out.setCell (p := ⟨w.heap.size + 1 + 1, 6, none⟩) (by simp; omega) (.slice A' t.recs.length c')))
  obtain ⟨wF, hwF⟩ : ∃ x, (w1.setCell ⟨w.heap.size + 1 + 1, 6, none⟩ (.slice A' t.recs.length c')).setCells (w.heap.size + 1) 0 (BatW.batArr t (.slice A' t.recs.length c')).toList = x := ⟨_, rfl⟩
  have keep : ∀ g, w.heap.size + 1 + 1 + 1 ≤ g → wF.heap[g]? = w1.heap[g]? := fun g h1 => by
    rw [← hwF, Cells.heap_setCells_other _ _ (by omega), heap_setCell_other _ _ _ _ (by show _ ≠ w.heap.size + 1 + 1; omega)]
  have hsize : wF.heap.size = w1.heap.size := by rw [← hwF, Cells.size_setCells]; simp
  have HF : Hid (RecsAt wF w.heap.size wF.heap.size (.slice A' t.recs.length c') t.recs) := by
    refine (RecsAt.keep HH1.out (fun g h1 h2 => keep g (by rw [hsz, hsz, hsz] at h1; exact h1))).mono ?_ ?_
    · rw [hsz, hsz, hsz]; omega
    · omega
  have HG : Hid (ROwn wF w.heap.size wF.heap.size (.slice A' t.recs.length c') t.recs.length (fun i => (t.recs.getD i default).heads.length)) := by
    refine (ROwn.keep HO1.out (fun g h1 h2 => keep g (by rw [hsz, hsz, hsz] at h1; exact h1)) (by omega)).mono ?_ (by omega) (Nat.le_refl _)
    rw [hsz, hsz, hsz]; omega
  rw [← hwF] at HF HG
  clear T1 T2 T4 keep hsize hwF
  simp at c6
  go_wp2_with (first | (refine wpList_load_row rfl 58 _ rfl (w.heap.size + 1 + 1) rfl _ _ _ _ H3.out Try.underlying58 rfl BatW.info40 ?_) | (refine wpList_store_mid rfl 58 _ _ rfl (w.heap.size + 1) 0 (BatW.batArr t (.slice A' t.recs.length c')) rfl rfl H5.out BatW.info40 (BatW.batArr_one _ _ rfl) ?_))
  exact bodyPost_ret (v := batVal t (.slice A' t.recs.length c')) (results_cell_row rfl _ _ (w.heap.size + 1) _ _ _ _ rfl H4.out Try.underlying58 rfl BatW.info40) rfl ⟨_, rfl, HF.out, HG.out, B2.out⟩
end Go.Proofs.Yticihnoekffelaa.ToO
namespace Go.Proofs.Yticihnoekffelaa.Ft
set_option maxRecDepth 8000
open Go.RowKit
open Recs
open ToO (MineC)
set_option linter.unusedVariables false

/-- Blocks outside a set are as they were. -/
structure Foot (w w' : World) (S : Nat → Prop) : Prop where
  os : w'.os = w.os
  tape : w'.tape = w.tape
  output : w'.output = w.output
  size : w.heap.size ≤ w'.heap.size
  block : ∀ k, k < w.heap.size → ¬ S k → w'.heap[k]? = w.heap[k]?
theorem Foot.refl (w : World) (S : Nat → Prop) : Foot w w S := ⟨rfl, rfl, rfl, Nat.le_refl _, fun _ _ _ => rfl⟩
theorem Foot.set {w wr : World} {S : Nat → Prop} {g q : Nat} (h : Foot w wr S) (hg : S g) (v : Value) : Foot w (wr.setCell ⟨g, q, none⟩ v) S :=
  ⟨h.os, h.tape, h.output, by simpa using h.size, fun k hk hw => (heap_setCell_other wr ⟨g, q, none⟩ k v (fun e => hw (e ▸ hg))).trans (h.block k hk hw)⟩
theorem Foot.below {w wr w' : World} {S : Nat → Prop} (h : Foot w wr S) (hb : Below wr.heap.size wr w') : Foot w w' S :=
  ⟨hb.os.trans h.os, hb.tape.trans h.tape, hb.output.trans h.output, Nat.le_trans h.size hb.size, fun k hk hw => (hb.block k (Nat.lt_of_lt_of_le hk h.size)).trans (h.block k hk hw)⟩
theorem Foot.trans {w wr w' : World} {S S' : Nat → Prop} (h : Foot w wr S) (h' : Foot wr w' S') (hs : ∀ x, S' x → S x) : Foot w w' S :=
  ⟨h'.os.trans h.os, h'.tape.trans h.tape, h'.output.trans h.output, Nat.le_trans h.size h'.size, fun k hk hw => (h'.block k (Nat.lt_of_lt_of_le hk h.size) (fun e => hw (hs k e))).trans (h.block k hk hw)⟩
theorem Foot.mono {w w' : World} {S S' : Nat → Prop} (h : Foot w w' S) (hs : ∀ x, S x → S' x) : Foot w w' S' :=
  ⟨h.os, h.tape, h.output, h.size, fun k hk hw => h.block k hk (fun e => hw (hs k e))⟩
theorem Foot.toBelow {w w' : World} {S : Nat → Prop} {lo : Nat} (h : Foot w w' S) (hs : ∀ x, S x → lo ≤ x) (hl : lo ≤ w.heap.size) : Below lo w w' := ⟨h.os, h.tape, h.output, h.size, fun k hk => h.block k (by omega) (fun e => by have := hs k e; omega)⟩

section
variable {T : Type} [Inhabited T] {ty nf : Nat} {EO : World → (Nat → Prop) → (Nat → Value) → T → Prop}
/-- What an element says hangs on the blocks of its set and on its own cells alone. -/
def Keeps (nf : Nat) (EO : World → (Nat → Prop) → (Nat → Value) → T → Prop) : Prop := ∀ w w' S f f' t, EO w S f t → w.heap.size ≤ w'.heap.size → (∀ g, S g → w'.heap[g]? = w.heap[g]?) → (∀ q, q < nf → f' q = f q) → EO w' S f' t
def Grows (EO : World → (Nat → Prop) → (Nat → Value) → T → Prop) : Prop := ∀ w S S' f t, EO w S f t → (∀ g, S g → S' g) → EO w S' f t
structure LOpen (ty nf : Nat) (EO : World → (Nat → Prop) → (Nat → Value) → T → Prop) (w : World) (g n c : Nat) (F : Nat → Value) (P : Nat → Nat → Prop) (us : List T) : Prop where
  mine : MineC w ty nf g n c F
  len : us.length = n
  el : ∀ i, i < n → EO w (P i) (fun q => F (i * nf + q)) (us.getD i default)
  apart : ∀ i, i < n → ∀ x, P i x → x ≠ g ∧ x < w.heap.size
  disj : ∀ i j, i < n → j < n → i ≠ j → ∀ x, P i x → ¬ P j x
def LOwn (ty nf : Nat) (EO : World → (Nat → Prop) → (Nat → Value) → T → Prop) (w : World) (S : Nat → Prop) (v : Value) (us : List T) : Prop :=
  us.length ≤ 1048576 ∧ ∃ A c, v = .slice A us.length c ∧ (us.length = 0 ∨ ∃ g F P, A = some ⟨g, 0, none⟩ ∧ S g ∧ (∀ i, i < us.length → ∀ x, P i x → S x) ∧ LOpen ty nf EO w g us.length c F P us)
theorem LOpen.keep (hE : Keeps nf EO) {w w' : World} {g n c : Nat} {F : Nat → Value} {P : Nat → Nat → Prop} {us : List T} (h : LOpen ty nf EO w g n c F P us) (hs : w.heap.size ≤ w'.heap.size) (hg : w'.heap[g]? = w.heap[g]?) (hk : ∀ i, i < n → ∀ x, P i x → w'.heap[x]? = w.heap[x]?) : LOpen ty nf EO w' g n c F P us :=
  ⟨h.mine.keep hg, h.len, fun i hi => hE _ _ _ _ _ _ (h.el i hi) hs (hk i hi) (fun _ _ => rfl), fun i hi x hx => ⟨(h.apart i hi x hx).1, Nat.lt_of_lt_of_le (h.apart i hi x hx).2 hs⟩, h.disj⟩
theorem LOwn.keep (hE : Keeps nf EO) {w w' : World} {S : Nat → Prop} {v : Value} {us : List T} (h : LOwn ty nf EO w S v us) (hs : w.heap.size ≤ w'.heap.size) (hk : ∀ g, S g → w'.heap[g]? = w.heap[g]?) : LOwn ty nf EO w' S v us := by
  obtain ⟨h0, A, c, h1, h2⟩ := h
  refine ⟨h0, A, c, h1, h2.imp id ?_⟩
  rintro ⟨g, F, P, h3, h4, h5, h6⟩
  exact ⟨g, F, P, h3, h4, h5, h6.keep hE hs (hk g h4) (fun i hi x hx => hk x (h5 i hi x hx))⟩
theorem LOwn.mono {w : World} {S S' : Nat → Prop} {v : Value} {us : List T} (h : LOwn ty nf EO w S v us) (hs : ∀ x, S x → S' x) : LOwn ty nf EO w S' v us := by
  obtain ⟨h0, A, c, h1, h2⟩ := h
  refine ⟨h0, A, c, h1, h2.imp id ?_⟩
  rintro ⟨g, F, P, h3, h4, h5, h6⟩
  exact ⟨g, F, P, h3, hs g h4, fun i hi x hx => hs x (h5 i hi x hx), h6⟩
theorem LOwn.nil (w : World) (S : Nat → Prop) (A : Option Addr) (c : Nat) : LOwn ty nf EO w S (.slice A 0 c) ([] : List T) := ⟨by simp, A, c, rfl, .inl rfl⟩
theorem LOwn.form {w : World} {S : Nat → Prop} {v : Value} {us : List T} (h : LOwn ty nf EO w S v us) : ∃ A c, v = .slice A us.length c := by
  obtain ⟨_, A, c, h1, _⟩ := h
  exact ⟨A, c, h1⟩
theorem getD_set_same {us : List T} {j : Nat} (t : T) (h : j < us.length) : (us.set j t).getD j default = t := by simp [h]
theorem getD_set_other {us : List T} {i j : Nat} (t : T) (h : i ≠ j) : (us.set j t).getD i default = us.getD i default := by
  simp [List.getD_eq_getElem?_getD, List.getElem?_set_ne (Ne.symm h)]
/-- One element is written anew; its set of blocks may be another one. -/
theorem LOpen.step (hE : Keeps nf EO) {w w' : World} {g n c j : Nat} {F F' : Nat → Value} {P P' : Nat → Nat → Prop} {us : List T} {t : T} (h : LOpen ty nf EO w g n c F P us) (hj : j < n) (hM : MineC w' ty nf g n c F')
    (hF : ∀ i, i < n → i ≠ j → ∀ q, q < nf → F' (i * nf + q) = F (i * nf + q)) (hs : w.heap.size ≤ w'.heap.size) (hP : ∀ i, i < n → i ≠ j → P' i = P i) (hQ : ∀ x, P' j x → x ≠ g ∧ x < w'.heap.size) (hD : ∀ i, i < n → i ≠ j → ∀ x, P' j x → ¬ P i x)
    (hk : ∀ i, i < n → i ≠ j → ∀ x, P i x → w'.heap[x]? = w.heap[x]?) (he : EO w' (P' j) (fun q => F' (j * nf + q)) t) : LOpen ty nf EO w' g n c F' P' (us.set j t) := by
  refine ⟨hM, by rw [List.length_set]; exact h.len, fun i hi => ?_, fun i hi x hx => ?_, fun i k hi hk' hik x hx => ?_⟩
  · by_cases e : i = j
    · subst e
      rw [getD_set_same t (by rw [h.len]; exact hi)]
      exact he
    · rw [getD_set_other t e, hP i hi e]
      exact hE _ _ _ _ _ _ (h.el i hi) hs (hk i hi e) (fun q hq => hF i hi e q hq)
  · by_cases e : i = j
    · subst e
      exact hQ x hx
    · rw [hP i hi e] at hx
      exact ⟨(h.apart i hi x hx).1, Nat.lt_of_lt_of_le (h.apart i hi x hx).2 hs⟩
  · by_cases e : i = j
    · subst e
      rw [hP k hk' (Ne.symm hik)]
      exact hD k hk' (Ne.symm hik) x hx
    · rw [hP i hi e] at hx
      by_cases e2 : k = j
      · subst e2
        exact fun hx' => hD i hi e x hx' hx
      · rw [hP k hk' e2]
        exact h.disj i k hi hk' hik x hx
end

section
variable {T : Type} (m1 : Nat → T → T) (n1 : T → Nat)
/-- How many numbers the marks of a list take; the list with its marks from k on. -/
def nL : List T → Nat
  | [] => 0
  | t :: r => n1 t + nL r
def mL : Nat → List T → List T
  | _, [] => []
  | k, t :: r => m1 k t :: mL (k + n1 t) r
theorem mL_len : ∀ (k : Nat) (ts : List T), (mL m1 n1 k ts).length = ts.length
  | _, [] => rfl
  | k, t :: r => by simp [mL, mL_len (k + n1 t) r]
theorem nL_app : ∀ (a b : List T), nL n1 (a ++ b) = nL n1 a + nL n1 b
  | [], b => by simp [nL]
  | t :: r, b => by simp only [List.cons_append, nL, nL_app r b]; omega
theorem mL_app : ∀ (k : Nat) (a b : List T), mL m1 n1 k (a ++ b) = mL m1 n1 k a ++ mL m1 n1 (k + nL n1 a) b
  | k, [], b => by simp [mL, nL]
  | k, t :: r, b => by simp only [List.cons_append, mL, nL, mL_app (k + n1 t) r b, Nat.add_assoc]
theorem take_one [Inhabited T] {ts : List T} {j : Nat} (h : j < ts.length) : ts.take (j + 1) = ts.take j ++ [ts.getD j default] := by
  rw [List.take_add_one, List.getElem?_eq_getElem h]; simp [h]
theorem nL_take [Inhabited T] {ts : List T} {j : Nat} (h : j < ts.length) : nL n1 (ts.take (j + 1)) = nL n1 (ts.take j) + n1 (ts.getD j default) := by
  rw [take_one h, nL_app]; simp [nL]
theorem nL_le : ∀ (ts : List T) (j : Nat), nL n1 (ts.take j) ≤ nL n1 ts
  | ts, j => by
    have := nL_app n1 (ts.take j) (ts.drop j)
    rw [List.take_append_drop] at this
    omega
/-- How far the list is marked: j elements. -/
def mid (k j : Nat) (ts : List T) : List T := mL m1 n1 k (ts.take j) ++ ts.drop j
theorem mid_len (k j : Nat) (ts : List T) : (mid m1 n1 k j ts).length = ts.length := by
  unfold mid
  rw [List.length_append, mL_len, List.length_take, List.length_drop]; omega
theorem mid_zero (k : Nat) (ts : List T) : mid m1 n1 k 0 ts = ts := by simp [mid, mL]
theorem mid_all (k : Nat) (ts : List T) : mid m1 n1 k ts.length ts = mL m1 n1 k ts := by simp [mid]
theorem mid_get [Inhabited T] {k j : Nat} {ts : List T} (h : j < ts.length) : (mid m1 n1 k j ts).getD j default = ts.getD j default := by
  unfold mid
  have hl : (mL m1 n1 k (ts.take j)).length = j := by rw [mL_len, List.length_take]; omega
  rw [List.getD_eq_getElem?_getD, List.getElem?_append_right (by omega), hl, Nat.sub_self, List.getElem?_drop, Nat.add_zero, ← List.getD_eq_getElem?_getD]
theorem mid_step [Inhabited T] {k j : Nat} {ts : List T} (h : j < ts.length) : (mid m1 n1 k j ts).set j (m1 (k + nL n1 (ts.take j)) (ts.getD j default)) = mid m1 n1 k (j + 1) ts := by
  unfold mid
  have hl : (mL m1 n1 k (ts.take j)).length = j := by rw [mL_len, List.length_take]; omega
  rw [List.set_append_right _ _ (by omega), hl, Nat.sub_self, take_one h, mL_app, List.append_assoc]
  congr 1
  rw [List.drop_eq_getElem_cons h, List.set_cons_zero]
  rfl
theorem mL_get [Inhabited T] {k j : Nat} {ts : List T} (h : j < ts.length) : (mL m1 n1 k ts).getD j default = m1 (k + nL n1 (ts.take j)) (ts.getD j default) := by
  have e : ts = ts.take j ++ (ts.getD j default :: ts.drop (j + 1)) := by
    conv => lhs; rw [← List.take_append_drop j ts, List.drop_eq_getElem_cons h]
    simp [h]
  have hl : (mL m1 n1 k (ts.take j)).length = j := by rw [mL_len, List.length_take]; omega
  have : mL m1 n1 k ts = mL m1 n1 k (ts.take j) ++ mL m1 n1 (k + nL n1 (ts.take j)) (ts.getD j default :: ts.drop (j + 1)) := by rw [← mL_app, ← e]
  rw [this, List.getD_eq_getElem?_getD, List.getElem?_append_right (by omega), hl, Nat.sub_self]
  simp [mL]
end
end Go.Proofs.Yticihnoekffelaa.Ft
namespace Go.Proofs.Yticihnoekffelaa.BfI
set_option maxRecDepth 8000
open Go.RowKit Go.Shelf
open Recs (hsz below1 below2 chain chainD BatAt RecsAt Bat batVal FewB FewR)
open Bats SegW Segs LogW SrP BfP
open Ft (Foot)
set_option linter.unusedVariables false
attribute [local go_sem] Oper.semAt_some
/-- What is handed on: a right batch and the value of its list of Records. -/
abbrev It (w0 : World) (lo b : Nat) := { p : Bat × Value // RecsAt w0 lo b p.2 p.1.recs ∧ FewB p.1 ∧ BOk.batOk p.1 = true }
def bt {w0 : World} {lo b : Nat} (p : It w0 lo b) : Bat := p.1.1
/-- What a round that goes on keeps: all that lay, but the variables V. -/
def Kp (V : Nat → Prop) (n₀ : Nat) (A B : World) : Prop := Foot A B (fun k => V k ∨ n₀ ≤ k)
theorem kp_t {V : Nat → Prop} {n₀ : Nat} {A B C : World} (h : Kp V n₀ A B) (k : Kp V n₀ B C) : Kp V n₀ A C := Foot.trans h k (fun _ h => h)
theorem kp_b {V : Nat → Prop} {n₀ : Nat} {w : World} (hn : n₀ ≤ w.heap.size) (W : World) (l : Nat) (o o' : Obj) (hl : w.heap.size ≤ l) (h : W.heap[l]? = some o) (_ : o.isCells = false) (_ : o.isWalk = false) : Kp V n₀ W (W.putObj l o') := by
  have hg := grownBy_putObj' W l o'
  exact ⟨hg.os, hg.tape, hg.output, hg.size, fun k hk hne => hg.block k hk (fun e => hne (.inr (by cases e; omega)))⟩
theorem abides_below {β : Type} {B : Nat} {J : β → World → Prop} (hJ : AbidesFrom B J) {s : β} {wr w' : World} (h : J s wr) (b : Below wr.heap.size wr w') : J s w' := hJ s wr w' none h ⟨b.os, b.tape, b.output, b.size, fun k hk _ => b.block k hk⟩ (fun r e => by cases e)
theorem add_off (g o k : Nat) : (⟨g, o, none⟩ : Addr).add k = ⟨g, o + k, none⟩ := by unfold Addr.add; split <;> simp_all
theorem tot {x : Int} {ss : List Sg} {i : Nat} (h : i < ss.length) : fromB x (flatB ss) = fromB x (flatB (ss.take i)) ++ (fromB x (ss.getD i default).bats ++ fromB x (flatB (ss.drop (i + 1)))) := by
  rw [← fromB_app, ← fromB_app, ← List.append_assoc, ← flatB_take h, ← flatB_app, List.take_append_drop]
/-- What lay is as it was, but for the variables V. -/
structure KP (V : Nat → Prop) (n₀ : Nat) (W wr : World) : Prop where
  block : ∀ y, y < n₀ → ¬ V y → wr.heap[y]? = W.heap[y]?
  size : W.heap.size ≤ wr.heap.size
theorem KP.refl (V : Nat → Prop) (n₀ : Nat) (W : World) : KP V n₀ W W := ⟨fun _ _ _ => rfl, Nat.le_refl _⟩
theorem KP.below {V : Nat → Prop} {n₀ : Nat} {W wr w' : World} (h : KP V n₀ W wr) (hn : n₀ ≤ W.heap.size) (b : Below wr.heap.size wr w') : KP V n₀ W w' := ⟨fun y h1 h2 => (b.block y (by have := h.size; omega)).trans (h.block y h1 h2), Nat.le_trans h.size b.size⟩
theorem KP.kp {V : Nat → Prop} {n₀ : Nat} {W wr w' : World} (h : KP V n₀ W wr) (hn : n₀ ≤ W.heap.size) (k : Kp V n₀ wr w') : KP V n₀ W w' := ⟨fun y h1 h2 => (k.block y (by have := h.size; omega) (fun e => e.elim h2 (fun e => by omega))).trans (h.block y h1 h2), Nat.le_trans h.size k.size⟩
set_option maxHeartbeats 3200000 in
theorem stops (n : Nat) (hn : 1 ≤ n) (V : Nat → Prop) (n₀ N h1 h2 lo b c : Nat) (A : Option Addr) (x f : Int) (ss : List Sg) (w : World) (hs : SegsAt w lo b (.slice A ss.length c) ss) (hbn : b ≤ n₀) (hnw : n₀ ≤ w.heap.size) (hV : ∀ k, V k → b ≤ k ∧ k ≠ h1 ∧ k ≠ h2)
    (c1 : w.cell? ⟨h1, 0, none⟩ = some (.slice A ss.length c)) (l1 : h1 < n₀) (c2 : w.cell? ⟨h2, 0, none⟩ = some (.int .i64 x)) (l2 : h2 < n₀) (hl : ss.length ≤ 1048576) (hf : ∀ i, i < ss.length → FewS (ss.getD i default)) (hok : LgP.segs 0 0 ss = some f) (hN : (fromB x (flatB ss)).length ≤ N) :
    SeqStopsK Fence.wide n Try.prog 71 #[.pointer (some ⟨h1, 0, none⟩), .pointer (some ⟨h2, 0, none⟩)] (fun p : It w lo b => #[batVal p.1.1 p.1.2]) (Kp V n₀) (fun xs => xs.map bt = fromB x (flatB ss)) (fun pre => pre.map bt <+: fromB x (flatB ss)) N w := by
  intro l J Jx W hW hJ hJx hY h0
  refine callsIn_of_wp Try.func71 rfl trivial ?_ rfl
  simp only [Try.ntmps71, List.size_toArray, List.length_cons, List.length_nil, Nat.reduceAdd, Nat.reduceSub, Array.replicate_succ, Array.replicate_zero, List.push_toArray, List.append_toArray, List.nil_append, List.cons_append]
  have HY := Seg.hid hY
  have HS := Seg.hid hs
  clear hY hs
  have k1 : W.cell? ⟨h1, 0, none⟩ = some (.slice A ss.length c) := (hW.cell (p := ⟨h1, 0, none⟩) (by show h1 < _; omega)).trans c1
  have k2 : W.cell? ⟨h2, 0, none⟩ = some (.int .i64 x) := (hW.cell (p := ⟨h2, 0, none⟩) (by show h2 < _; omega)).trans c2
  have SO := Seg.hid (segs_ok _ _ _ _ hok); have SM := Seg.hid (segs_mono _ _ _ _ hok); have SB := Seg.hid (segs_bats _ _ _ _ hok)
  have HF := Seg.hid hf
  have SAT : Hid (∀ wx, Below W.heap.size W wx → Calls Try.prog 28 #[.slice A ss.length c, .int .i64 x] wx fun e w' => ∃ r : Nat, e = .returned (.int .i64 r) ∧ Fnd (fun i => pS x (ss.getD i default)) ss.length r ∧ Below wx.heap.size wx w') := fun wx bx => SrW.segmentAt_any _ x ss wx lo b (HS.out.below ((hW.mono (by omega)).trans (bx.mono (by have := hW.size; omega)))) (by have := hW.size; have := bx.size; omega) (fun i hi => (HF.out i hi).1) SO.out (fun i j a1 a2 => SM.out i j a1 a2 x) hl
  have hrc : ss.length ≤ c ∨ ss.length = 0 := by
    obtain ⟨_, ⟨_, A', c', hsl, hrow⟩, _⟩ := HS.out
    simp only [Value.slice.injEq] at hsl
    obtain ⟨rfl, _, rfl⟩ := hsl
    rcases hrow with h | ⟨_, _, _, _, h, _⟩ <;> omega
  have sW := hW.size
  have l1W : h1 < W.heap.size := by omega
  have l2W : h2 < W.heap.size := by omega
  gi_wp2
  rename_i K aK
  refine wpIn_wide.2 ?_
  go_region_held3 (fun w' => w'.cell? ⟨h1, 0, none⟩ = some (.slice A ss.length c) ∧ w'.cell? ⟨h2, 0, none⟩ = some (.int .i64 x)) (first | go_keep | exact ⟨k1, k2⟩ | exact ⟨k1', k2'⟩)
    (first | (go_at_call 28; refine (SAT.out _ (Below.refl _ _).drew).mono ?_; rintro e w1 ⟨r, rfl, hF, b1⟩; have hr := hF.le; have r0 : (0 : Int) ≤ (r : Int) := Int.natCast_nonneg r; have r1 : (r : Int) ≤ (ss.length : Int) := Int.ofNat_le.2 hr; have r2 : (r : Int) ≤ (c : Int) := (by rcases hrc with h | h <;> omega); have r3 : (ss.length : Int) ≤ (c : Int) := (by rcases hrc with h | h <;> omega); have k1' : w1.cell? ⟨h1, 0, none⟩ = some (.slice A ss.length c) := (b1.cell (p := ⟨h1, 0, none⟩) l1W).trans k1; have k2' : w1.cell? ⟨h2, 0, none⟩ = some (.int .i64 x) := (b1.cell (p := ⟨h2, 0, none⟩) l2W).trans k2; have FF := Seg.hid hF; have BB : Hid (Below W.heap.size W w1) := ⟨b1.os, b1.tape, b1.output, b1.size, b1.block⟩; clear hF b1))
  refine aK _ _ ?_
  obtain ⟨A', hA'⟩ : ∃ A', A' = (if c = r then A else Option.map (fun x => x.add (r * 2)) A) := ⟨_, rfl⟩
  rw [← hA']
  have HA := Seg.hid hA'
  have KB : Hid (∀ wr, KP V n₀ W wr → wr.cell? ⟨h2, 0, none⟩ = some (.int .i64 x) ∧ SegsAt wr lo b (.slice A ss.length c) ss) := fun wr k => ⟨(World.cell?_of_block (w := W) (a := ⟨h2, 0, none⟩) (k.block h2 l2 (fun e => (hV h2 e).2.2 rfl))).trans k2, HS.out.keep fun g _ hg => (k.block g (by omega) (fun e => by have := (hV g e).1; omega)).trans (hW.block g (by omega))⟩
  have J1 := Seg.hid (abides_below hJ h0 BB.out)
  have K1 := Seg.hid ((KP.refl V n₀ W).below (by omega) BB.out)
  have AHD := Seg.hid (from_ahead (x := x) (fun i hi => by obtain ⟨a1, a2, a3, a4, h, _⟩ := SB.out i hi; exact ⟨a1, a2, a3, a4, h⟩) r hr FF.out.no)
  clear hA' k1' k2' aK k1 k2
  gi_wp2
  gi_loopw [14] (fun i wr => ∃ (k : Nat) (pre : List (It w lo b)), k ≤ ss.length - r ∧ i = .int .i64 k ∧ Hid (pre.map bt = fromB x (flatB (ss.take (r + k))) ∧ J pre wr ∧ KP V n₀ W wr)) (fun i _ => (ss.length - r) - (intOf i).toNat)
  case atStart => exact ⟨0, [], Nat.zero_le _, rfl, AHD.out.symm, J1.out, K1.out⟩
  case round =>
    obtain ⟨k, pre, hk, rfl, HW⟩ := hrel
    by_cases hlt : k < ss.length - r
    · have q0 : (0 : Int) ≤ (k : Int) := by omega
      have q1 : (k : Int) < ((ss.length - r : Nat) : Int) := by omega
      obtain ⟨b2, sg⟩ := KB.out wr HW.out.2.2
      obtain ⟨H, ⟨_, A2, c2', hsl, hrow⟩, hh⟩ := sg
      simp only [Value.slice.injEq] at hsl
      obtain ⟨rfl, _, rfl⟩ := hsl
      obtain ⟨g, o, rfl, hg, hc, hcell, _⟩ := hrow.resolve_left (by omega)
      have hA2 := HA.out
      rw [if_neg (by omega)] at hA2
      obtain rfl : A' = some ⟨g, o + r * 2, none⟩ := by rw [hA2, Option.map_some, add_off]
      clear hA2
      have hgr : g < wr.heap.size := by have := HW.out.2.2.size; omega
      have h2r : h2 < wr.heap.size := by have := HW.out.2.2.size; omega
      obtain ⟨e0, e1⟩ := Segs.six hcell (r + k) (by omega)
      rw [show o + (r + k) * 2 = o + r * 2 + k * 2 by omega] at e0 e1
      have hi : r + k < ss.length := by omega
      have TOT := Seg.hid (tot (x := x) hi)
      have FT : Hid (flatB (ss.take (r + (k + 1))) = flatB (ss.take (r + k)) ++ (ss.getD (r + k) default).bats) := flatB_take hi
      have FS := Seg.hid (HF.out (r + k) hi)
      have BOK := Seg.hid (SO.out (r + k) hi)
      obtain ⟨fa, ea, fb, eb, hbats, _⟩ := SB.out (r + k) hi
      have BM := Seg.hid (batB_mono hbats x)
      have BAT := Seg.hid (hh (r + k) hi)
      obtain ⟨H0, ⟨_, A0, c0, hH0, hrow0⟩, hh0⟩ := id (hh (r + k) hi)
      have KJ := Seg.hid HW.out.2
      have PRE := Seg.hid HW.out.1
      have WB : Hid (∀ wx, KP V n₀ W wx → BatsAt wx lo b (H (r + k)) (ss.getD (r + k) default).bats) := fun wx kx => BAT.out.keep fun y _ hy => (kx.block y (by omega) (fun e => by have := (hV y e).1; omega)).trans (KJ.out.2.block y (by omega) (fun e => by have := (hV y e).1; omega)).symm
      have WW : Hid (BatsAt w lo b (H (r + k)) (ss.getD (r + k) default).bats) := BAT.out.keep fun y _ hy => ((KJ.out.2.block y (by omega) (fun e => by have := (hV y e).1; omega)).trans (hW.block y (by omega))).symm
      have hch : (ss.getD (r + k) default).bats.length ≤ c0 ∨ (ss.getD (r + k) default).bats.length = 0 := by rcases hrow0 with h | ⟨_, _, _, _, h, _⟩ <;> omega
      rw [hH0] at e1 WB WW BAT
      have hbl := FS.out.1
      clear hcell hrow hh hrow0 hh0 hH0 hbats HW
      generalize ss.getD (r + k) default = sg at *
      have BA2 : Hid (∀ wx, Below wr.heap.size wr wx → Calls Try.prog 60 #[.slice A0 sg.bats.length c0, .int .i64 x] wx fun e w' => ∃ q : Nat, e = .returned (.int .i64 q) ∧ Fnd (fun i => pB x (sg.bats.getD i default)) sg.bats.length q ∧ Below wx.heap.size wx w') := fun wx bx => SrW.batchAt_any _ x sg.bats wx lo b (BAT.out.below (bx.mono (by have := KJ.out.2.size; omega))) (by have := KJ.out.2.size; have := bx.size; omega) BOK.out BM.out hbl
      have SB1 : Hid ((wr.alloc (.cells (segArr sg (.slice A0 sg.bats.length c0)) 55 (0, 0))).heap[wr.heap.size]? = some (.cells (segArr sg (.slice A0 sg.bats.length c0)) 55 (0, 0))) := heap_alloc_new _ _
      have BW1 : Hid (Below wr.heap.size wr (wr.alloc (.cells (segArr sg (.slice A0 sg.bats.length c0)) 55 (0, 0)))) := below1 wr _
      have v1 : (wr.alloc (.cells (segArr sg (.slice A0 sg.bats.length c0)) 55 (0, 0))).cell? ⟨wr.heap.size, 1, none⟩ = some (.slice A0 sg.bats.length c0) := cell_of_row _ wr.heap.size 1 _ _ (0, 0) SB1.out
      have v2 : (wr.alloc (.cells (segArr sg (.slice A0 sg.bats.length c0)) 55 (0, 0))).cell? ⟨h2, 0, none⟩ = some (.int .i64 x) := (BW1.out.cell (p := ⟨h2, 0, none⟩) h2r).trans b2
      gi_wp2
      rename_i K2 aK2
      refine wpIn_wide.2 ?_
      obtain ⟨ws, hws⟩ : ∃ ws, wr.alloc (.cells (segArr sg (.slice A0 sg.bats.length c0)) 55 (0, 0)) = ws := ⟨_, rfl⟩
      unfold segArr at hws v1 v2 SB1 BW1
      rw [hws] at v1 v2 SB1 BW1 ⊢
      have zs : wr.heap.size < ws.heap.size := by rw [← hws, hsz]; omega
      have h2s : h2 < ws.heap.size := by omega
      clear e0 e1 b2 hws
      go_region_held3 (fun w' => w'.cell? ⟨wr.heap.size, 1, none⟩ = some (.slice A0 sg.bats.length c0) ∧ w'.cell? ⟨h2, 0, none⟩ = some (.int .i64 x)) (first | go_keep | exact ⟨v1, v2⟩ | exact ⟨v1', v2'⟩)
        (first | (go_at_call 60; refine (BA2.out _ BW1.out.drew).mono ?_; rintro e w2 ⟨q, rfl, hQ, b2⟩; have hq := hQ.le; have q2 : (0 : Int) ≤ (q : Int) := Int.natCast_nonneg q; have q3 : (q : Int) ≤ (sg.bats.length : Int) := Int.ofNat_le.2 hq; have q4 : (q : Int) ≤ (c0 : Int) := (by rcases hch with h | h <;> omega); have q5 : (sg.bats.length : Int) ≤ (c0 : Int) := (by rcases hch with h | h <;> omega); have v1' : w2.cell? ⟨wr.heap.size, 1, none⟩ = some (.slice A0 sg.bats.length c0) := (b2.cell (p := ⟨wr.heap.size, 1, none⟩) zs).trans v1; have v2' : w2.cell? ⟨h2, 0, none⟩ = some (.int .i64 x) := (b2.cell (p := ⟨h2, 0, none⟩) h2s).trans v2; have QQ := Seg.hid hQ; have BQ : Hid (Below wr.heap.size wr w2) := ⟨b2.os.trans BW1.out.os, b2.tape.trans BW1.out.tape, b2.output.trans BW1.out.output, Nat.le_trans BW1.out.size b2.size, fun y hy => (b2.block y (Nat.lt_of_lt_of_le hy BW1.out.size)).trans (BW1.out.block y hy)⟩; clear hQ b2))
      refine aK2 _ _ ?_
      obtain ⟨A4, hA4⟩ : ∃ A4, A4 = (if c0 = q then A0 else Option.map (fun x => x.add (q * 7)) A0) := ⟨_, rfl⟩
      rw [← hA4]
      have HA4 := Seg.hid hA4
      have J2 := Seg.hid (abides_below hJ KJ.out.1 BQ.out)
      have K3 := Seg.hid (KJ.out.2.below (by omega) BQ.out)
      have FB := Seg.hid (found_from QQ.out BM.out)
      clear hA4 v1' v2' aK2 v1 v2
      gi_wp2
      gi_loopw [26] (fun i wk => ∃ (k2 : Nat) (pre2 : List (It w lo b)), k2 ≤ sg.bats.length - q ∧ i = .int .i64 k2 ∧ Hid (pre2.map bt = fromB x (flatB (ss.take (r + k))) ++ (sg.bats.drop q).take k2 ∧ J pre2 wk ∧ KP V n₀ W wk)) (fun i _ => (sg.bats.length - q) - (intOf i).toNat)
      case atStart => exact ⟨0, pre, Nat.zero_le _, rfl, by simpa using PRE.out, J2.out, K3.out⟩
      case round =>
        obtain ⟨k2, pre2, hk2, rfl, HK⟩ := hrel
        have KK := Seg.hid HK.out.2
        by_cases hlt2 : k2 < sg.bats.length - q
        · have q6 : (0 : Int) ≤ (k2 : Int) := by omega
          have q7 : (k2 : Int) < ((sg.bats.length - q : Nat) : Int) := by omega
          obtain ⟨H4, ⟨_, A5, c5, hsl, hrow⟩, hh⟩ := WB.out wr KK.out.2
          simp only [Value.slice.injEq] at hsl
          obtain ⟨rfl, _, rfl⟩ := hsl
          obtain ⟨g4, o4, rfl, hg4, hc4, hcell, _⟩ := hrow.resolve_left (by omega)
          have hA4 := HA4.out
          rw [if_neg (by omega)] at hA4
          obtain rfl : A4 = some ⟨g4, o4 + q * 7, none⟩ := by rw [hA4, Option.map_some, add_off]
          clear hA4
          have hg4r : g4 < wr.heap.size := by have := KK.out.2.size; omega
          obtain ⟨e0, e1, e2, e3, e4, e5, e6⟩ := Bats.six hcell (q + k2) (by omega)
          rw [show o4 + (q + k2) * 7 = o4 + q * 7 + k2 * 7 by omega] at e0 e1 e2 e3 e4 e5 e6
          have hqk : q + k2 < sg.bats.length := by omega
          have RA := hh (q + k2) hqk
          have RW : RecsAt w lo b (H4 (q + k2)) (sg.bats.getD (q + k2) default).recs := RA.keep fun y _ hy => ((KK.out.2.block y (by omega) (fun e => by have := (hV y e).1; omega)).trans (hW.block y (by omega))).symm
          obtain ⟨_, ⟨_, A6, c6, hH6, _⟩, _⟩ := RA
          have NX : Hid (∀ it : It w lo b, bt it = sg.bats.getD (q + k2) default → (pre2 ++ [it]).map bt = fromB x (flatB (ss.take (r + k))) ++ (sg.bats.drop q).take (k2 + 1)) := fun it hit => by
            rw [List.map_append, HK.out.1, takeOne (ts := sg.bats.drop q) (by rw [List.length_drop]; omega), getDD, ← List.append_assoc]
            simp [hit]
          have PFX : Hid (fromB x (flatB (ss.take (r + k))) ++ (sg.bats.drop q).take (k2 + 1) <+: fromB x (flatB ss)) := by
            show _ <+: _
            rw [TOT.out, FB.out]
            refine ⟨(sg.bats.drop q).drop (k2 + 1) ++ fromB x (flatB (ss.drop (r + k + 1))), ?_⟩
            rw [List.append_assoc, ← List.append_assoc ((sg.bats.drop q).take (k2 + 1)), List.take_append_drop]
          have LEN : pre2.length < N := by
            have h1 := PFX.out.length_le
            have h2 : pre2.length = (pre2.map bt).length := by simp
            rw [HK.out.1] at h2
            simp only [List.length_append, List.length_take, List.length_drop] at h1 h2
            omega
          have FK := FS.out.2 (q + k2) hqk
          have OK := BOK.out (q + k2) hqk
          have JJ : Hid (J pre2 (wr.alloc (.cells (BatW.batArr (sg.bats.getD (q + k2) default) (.slice A6 (sg.bats.getD (q + k2) default).recs.length c6)) 58 (0, 0)))) := abides_below hJ KK.out.1 (below1 wr _)
          rw [hH6] at e6 RW
          clear hcell hrow hh HK hH6
          generalize sg.bats.getD (q + k2) default = tk at *
          obtain ⟨fn, tmps, assign, body, hy, hR⟩ := HY.out pre2 ⟨(tk, .slice A6 tk.recs.length c6), RW, FK, OK⟩ _ JJ.out LEN
          have NX1 := Seg.hid (NX.out ⟨(tk, .slice A6 tk.recs.length c6), RW, FK, OK⟩ rfl)
          have K9 := Seg.hid (KK.out.2.below (by omega) (below1 wr (.cells (BatW.batArr tk (.slice A6 tk.recs.length c6)) 58 (0, 0))))
          unfold batVal at hy
          unfold BatW.batArr at hy hR
          dsimp only at hy
          gi_wp2
          refine hR.mono ?_
          rintro e W3 (⟨rfl, hJ3, hk3⟩ | ⟨rfl, hJx3⟩)
          · have JX := Seg.hid hJ3
            have KX := Seg.hid (K9.out.kp (by omega) hk3)
            clear hJ3 hk3 hy hR
            gi_wp2
            go_roundw
            case rel => exact ⟨k2 + 1, _, by omega, by go_num, NX1.out, JX.out, KX.out⟩
            case measure => simp [intOf]; omega
          · have JX := Seg.hid hJx3
            clear hJx3 hy hR
            gi_wp2
            refine bodyPost_ret (results_none rfl _ _ _) rfl ?_
            exact ⟨⟨_, rfl⟩, .inr ⟨_, by rw [NX1.out]; exact PFX.out, JX.out⟩⟩
        · have PN : Hid (pre2.map bt = fromB x (flatB (ss.take (r + (k + 1))))) := by
            show _ = _
            rw [HK.out.1, FT.out, fromB_app, FB.out, List.take_of_length_le (l := sg.bats.drop q) (by rw [List.length_drop]; omega)]
          have q7 : ¬ (k2 : Int) < ((sg.bats.length - q : Nat) : Int) := by omega
          clear HK
          gi_wp2
          go_roundw
          case rel => exact ⟨k + 1, pre2, by omega, by go_num, PN.out, KK.out⟩
          case measure => simp [intOf]; omega
    · have EALL : Hid (pre.map bt = fromB x (flatB ss)) := by show _ = _; rw [HW.out.1, List.take_of_length_le (by omega)]
      have JJ := Seg.hid HW.out.2.1
      have q1 : ¬ (k : Int) < ((ss.length - r : Nat) : Int) := by omega
      clear HW
      gi_wp2
      go_end0
      exact ⟨⟨_, rfl⟩, .inl ⟨pre, EALL.out, JJ.out⟩⟩
end Go.Proofs.Yticihnoekffelaa.BfI
