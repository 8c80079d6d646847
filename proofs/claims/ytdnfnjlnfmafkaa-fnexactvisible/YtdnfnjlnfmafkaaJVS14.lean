/- The law's copiers once more: what they copy is theirs to write; Memory of the call's own, told by the set of its blocks: lists of structs in lists, of any depth; what a writer leaves as it was; numbers that marks count; Heads, Records and Batches in lists of the call's own, by the set of their blocks; the law's copier of a list of Batches. -/
import Derived.Test.YtdnfnjlnfmafkaaJVS04
import Derived.Test.YtdnfnjlnfmafkaaJVS05
namespace Go.Proofs.Ytdnfnjlnfmafkaa.ToO
set_option maxRecDepth 8000
open Go.RowKit
open Recs
set_option linter.unusedVariables false

/-- Block g is a row of the call's own, of n elements of s cells, with room for c; cell q holds 'F q'. -/
def MineC (w : World) (e s g n c : Nat) (F : Nat → Value) : Prop := w.ownsRow g e s (.slice (some ⟨g, 0, none⟩) n c) n ((List.range (n * s)).map F)
section
variable {w w' : World} {e s g n c b : Nat} {F : Nat → Value}
theorem MineC.cell (h : MineC w e s g n c F) (q : Nat) (hq : q < n * s) : w.cell? ⟨g, q, none⟩ = some (F q) := by
  have := World.ownsRow.cellAt h q hq
  rw [this]
  simp [hq]
theorem MineC.frozen (h : MineC w e s g n c F) (q : Nat) : w.frozen? ⟨g, q, none⟩ = false := World.ownsRow.frozenAt h q
theorem MineC.lt (h : MineC w e s g n c F) : g < w.heap.size := by
  rcases h.2 with ⟨h', _⟩ | ⟨g', cap', cur, h', hb, hg, hnc, hcm, hcs, htake⟩
  · simp at h'
  · simp only [Value.slice.injEq, Option.some.injEq, Addr.mk.injEq, and_true, true_and] at h'
    obtain ⟨rfl, rfl⟩ := h'
    exact (Array.getElem?_eq_some_iff.1 hg).1
theorem MineC.le (h : MineC w e s g n c F) : n ≤ c := by
  rcases h.2 with ⟨h', _⟩ | ⟨g', cap', cur, h', hb, hg, hnc, hcm, hcs, htake⟩
  · simp at h'
  · simp only [Value.slice.injEq, Option.some.injEq, Addr.mk.injEq, and_true, true_and] at h'
    obtain ⟨rfl, rfl⟩ := h'
    exact hnc
theorem MineC.set (h : MineC w e s g n c F) (q : Nat) (v : Value) : MineC (w.setCell ⟨g, q, none⟩ v) e s g n c (fun i => if i = q then v else F i) := by
  have := (World.ownsRow.stored h q v).1
  have he : ((List.range (n * s)).map F).set q v = (List.range (n * s)).map (fun i => if i = q then v else F i) := List.ext_getElem (by simp) fun i h1 h2 => by
    by_cases hi : i = q
    · subst hi; simp
    · rw [List.getElem_set_ne (by omega)]; simp [hi]
  rw [he] at this
  exact this
theorem MineC.keep (h : MineC w e s g n c F) (hk : w'.heap[g]? = w.heap[g]?) : MineC w' e s g n c F := by
  refine ⟨h.1, ?_⟩
  rcases h.2 with hn | ⟨g', cap, cur, h', hbs, hgg, rest⟩
  · exact .inl hn
  · have h'' := h'
    simp only [Value.slice.injEq, Option.some.injEq, Addr.mk.injEq, and_true, true_and] at h''
    obtain ⟨rfl, rfl⟩ := h''
    exact .inr ⟨g, c, cur, h', hbs, by rw [hk]; exact hgg, rest⟩
end
/-- A list of Heads that is the call's own, in a block from lo on, below b. -/
def HOwn (w : World) (lo b : Nat) (v : Value) (n : Nat) : Prop := n ≤ 1048576 ∧ ∃ A c, v = .slice A n c ∧ (n = 0 ∨ ∃ g F, A = some ⟨g, 0, none⟩ ∧ lo ≤ g ∧ g < b ∧ MineC w 94 2 g n c F)
theorem HOwn.keep {w w' : World} {lo b n : Nat} {v : Value} (h : HOwn w lo b v n) (hk : ∀ g, lo ≤ g → g < b → w'.heap[g]? = w.heap[g]?) : HOwn w' lo b v n := by
  obtain ⟨h0, A, c, h1, h2⟩ := h
  refine ⟨h0, A, c, h1, h2.imp id ?_⟩
  rintro ⟨g, F, h3, h4, h5, h6⟩
  exact ⟨g, F, h3, h4, h5, h6.keep (hk g h4 h5)⟩
theorem HOwn.mono {w : World} {lo lo' b b' n : Nat} {v : Value} (h : HOwn w lo b v n) (hl : lo' ≤ lo) (hb : b ≤ b') : HOwn w lo' b' v n := by
  obtain ⟨h0, A, c, h1, h2⟩ := h
  refine ⟨h0, A, c, h1, h2.imp id ?_⟩
  rintro ⟨g, F, h3, h4, h5, h6⟩
  exact ⟨g, F, h3, Nat.le_trans hl h4, Nat.lt_of_lt_of_le h5 hb, h6⟩

set_option maxHeartbeats 400000 in
theorem toHeadS_core (g o n c : Nat) (K V : Nat → ByteArray) (w : World) (hn : n ≤ 1048576) (hc : n ≤ c) (hg : g < w.heap.size)
    (ha : ∀ i, i < n → w.cell? ⟨g, o + i * 2, none⟩ = some (.string (K i)) ∧ w.cell? ⟨g, o + i * 2 + 1, none⟩ = some (.string (V i))) :
    Calls Try.prog 81 #[.slice (some ⟨g, o, none⟩) n c] w fun e w' => ∃ v, e = .returned v ∧ Row w' w.heap.size w'.heap.size 2 v n (fun i j => if j = 0 then .string (K i) else .string (V i)) ∧ HOwn w' w.heap.size w'.heap.size v n ∧ Below w.heap.size w w' := by
  obtain ⟨i0, hi, hz0, hz1, hz2⟩ := info_parts Sz.info2
  have HA := Seg.hid ha
  clear ha
  go_enter Try.func81, Try.ntmps81
  go_wp2_with (at_make; refine wpList_make_full _ rfl _ _ 51 rfl w.heap.size 94 i0 _ 2 Try.underlying51 hi hz0 hz1 .i64 .i64 _ _ n rfl rfl rfl rfl (by rw [hz2]; omega) (by unfold maxLen; omega) (Nat.le_refl _) ?_; intro w1 hown hgr)
  have hb1 := (Below.refl w.heap.size w).grown hgr (Nat.le_refl _) (fun k hk => by cases hk)
  have HM := Seg.hid (Mine.of_made hown hown.1)
  have HB := Seg.hid hb1
  clear hown hgr hb1 hi hz0 hz1 hz2
  go_loopw [4] (fun i wr => ∃ (j : Nat) (F : Nat → Value), j ≤ n ∧ i = .int .i64 j ∧ Hid (Mine wr 94 2 w.heap.size n F ∧ Below w.heap.size w wr ∧ ∀ i, i < j → F (i * 2) = .string (K i) ∧ F (i * 2 + 1) = .string (V i))) (fun i _ => n - (intOf i).toNat)
  case atStart => exact ⟨0, _, Nat.zero_le _, rfl, HM.out, HB.out, fun i hi => absurd hi (by omega)⟩
  case round =>
    clear HM HB
    obtain ⟨j, F, hj, rfl, HR⟩ := hrel
    by_cases hlt : j < n
    · have c1 : wr.cell? ⟨g, o + j * 2, none⟩ = some (.string (K j)) := by rw [HR.out.2.1.cell (p := ⟨g, o + j * 2, none⟩) hg]; exact (HA.out j hlt).1
      have c2 : wr.cell? ⟨g, o + j * 2 + 1, none⟩ = some (.string (V j)) := by rw [HR.out.2.1.cell (p := ⟨g, o + j * 2 + 1, none⟩) hg]; exact (HA.out j hlt).2
      have h0 : (0 : Int) ≤ (j : Int) := by omega
      have h1 : (j : Int) < (n : Int) := by omega
      go_wp2_with fail
      refine (Sz.toHead_any (K j) (V j) wr).mono ?_
      rintro e w1 ⟨rfl, b1⟩
      have M1 : Hid (Mine w1 94 2 w.heap.size n F) := HR.out.1.below b1 HR.out.1.lt
      have B1 := Seg.hid (HR.out.2.1.trans (b1.mono HR.out.2.1.size))
      clear b1
      have d1 := M1.out.cell (j * 2) (by omega)
      have d2 := M1.out.cell (j * 2 + 1) (by omega)
      have f1 := M1.out.frozen (j * 2)
      have f2 := M1.out.frozen (j * 2 + 1)
      have M2 := Seg.hid ((M1.out.set (j * 2) (.string (K j))).set (j * 2 + 1) (.string (V j)))
      have B2 := Seg.hid ((B1.out.setCell (p := ⟨w.heap.size, j * 2, none⟩) (Nat.le_refl _) (.string (K j))).setCell (p := ⟨w.heap.size, j * 2 + 1, none⟩) (Nat.le_refl _) (.string (V j)))
      go_wp2
      go_roundw
      case rel =>
        refine ⟨j + 1, _, by omega, by go_num, M2.out, B2.out, fun i hi => ?_⟩
        have hr := HR.out.2.2
        by_cases he : i = j
        · subst he; simp
        · have := hr i (by omega)
          simp [show ¬ i * 2 = j * 2 + 1 by omega, show ¬ i * 2 = j * 2 by omega, show ¬ i * 2 + 1 = j * 2 by omega, this]
      case measure => simp [intOf]; omega
    · have : j = n := by omega
      subst this
      go_wp2
      go_ret
      exact ⟨_, rfl, HR.out.1.row (by omega) HR.out.1.lt (Nat.le_refl _) (fun i hi q hq => Sz.row2 (HR.out.2.2 i hi) q hq), ⟨hn, _, _, rfl, .inr ⟨w.heap.size, F, rfl, Nat.le_refl _, HR.out.1.lt, HR.out.1⟩⟩, HR.out.2.1⟩

theorem toHeadS_own (v : Value) (hs : List Hd) (w : World) (lo b : Nat) (hv : Heads w lo b v hs) (hb : b ≤ w.heap.size) (hl : hs.length ≤ 1048576) :
    Calls Try.prog 81 #[v] w fun e w' => ∃ v', e = .returned v' ∧ Heads w' w.heap.size w'.heap.size v' hs ∧ HOwn w' w.heap.size w'.heap.size v' hs.length ∧ Below w.heap.size w w' := by
  obtain ⟨hn, A, c, rfl, h⟩ := hv
  by_cases hz : hs.length = 0
  · rw [hz]
    refine (Sz.toHeadS_none A c w).mono fun e w' ⟨v', a1, ⟨A', c', a2⟩, a3⟩ => ⟨v', a1, ⟨hn, A', c', ?_, .inl hz⟩, ⟨by omega, A', c', ?_, .inl rfl⟩, a3⟩
    · rw [a2, hz]
    · rw [a2]
  obtain ⟨g, o, rfl, hg, hc, hcell, _⟩ := h.resolve_left hz
  exact toHeadS_core g o hs.length c (fun i => (hs.getD i default).key) (fun i => (hs.getD i default).val) w hl hc (by omega) (fun i hi => Heads.cell0 hcell i hi)

set_option maxHeartbeats 400000 in
theorem toRecord_own (v : Value) (r : Rec) (w : World) (lo b : Nat) (hv : RecAt w lo b v r) (hb : b ≤ w.heap.size) (hf : FewR r) :
    Calls Try.prog 79 #[v] w fun e w' => ∃ hv', e = .returned (recVal r hv') ∧ Heads w' w.heap.size w'.heap.size hv' r.heads ∧ HOwn w' w.heap.size w'.heap.size hv' r.heads.length ∧ Below w.heap.size w w' := by
  obtain ⟨hv, rfl, hh⟩ := hv
  have HH := Seg.hid hh
  obtain ⟨hn, A, c, hve, _⟩ := id hh
  clear hh
  unfold recVal
  subst hve
  go_enter Try.func79, Try.ntmps79
  go_wp2_with fail
  refine (toHeadS_own _ r.heads (((w.alloc _).alloc _).alloc _) lo b (HH.out.below ((below3 w _ _ _).mono hb)) (by rw [hsz, hsz, hsz]; omega) hf).mono ?_
  rintro e w1 ⟨v', rfl, hh1, ho1, b1⟩
  have B1 := Seg.hid (chain (below3 w _ _ _) b1)
  have T1 := (b1.block (w.heap.size + 1) (by rw [hsz, hsz, hsz]; omega)).trans (at3 w _ _ _)
  have T2 := (b1.block (w.heap.size + 1 + 1) (by rw [hsz, hsz, hsz]; omega)).trans (Cells.at3' w _ _ _)
  have HH1 := Seg.hid hh1; have HO1 := Seg.hid ho1
  obtain ⟨_, A', c', hve, _⟩ := id hh1
  clear hh1 b1 ho1
  subst hve
  have c5 := cell_of_row w1 (w.heap.size + 1 + 1) 5 _ _ _ T2
  have z5 := frozen_of_row w1 (w.heap.size + 1 + 1) 5 _ _ T2
  have H3 : Hid ((w1.setCell ⟨w.heap.size + 1 + 1, 5, none⟩ (.slice A' r.heads.length c')).heap[w.heap.size + 1 + 1]? = some (.cells (RecW.recArr r (.slice A' r.heads.length c')) 53 (0, 0))) := heap_setCell_same w1 (w.heap.size + 1 + 1) 5 _ _ (.slice A' r.heads.length c') T2
  have T4 := (heap_setCell_other w1 ⟨w.heap.size + 1 + 1, 5, none⟩ (w.heap.size + 1) (.slice A' r.heads.length c') (by simp)).trans T1
  have H5 := Seg.hid (Cells.there_of T4)
  have H4 := Seg.hid (Cells.whole (vs := RecW.recArr r (.slice A' r.heads.length c')) T4 rfl)
  have B2 := Seg.hid (Cells.below_setCells (g := w.heap.size + 1) (by omega) (RecW.recArr r (.slice A' r.heads.length c')).toList 0 _ _ (B1.out.setCell (p := ⟨w.heap.size + 1 + 1, 5, none⟩) (by simp; omega) (.slice A' r.heads.length c')))
  have keep : ∀ g, (((w.alloc (.cells #[.int .i64 r.time, .bool r.keyed, .string r.key, .bool r.gone, .string r.val, .slice A r.heads.length c] 122 (0, 0))).alloc default).alloc default).heap.size ≤ g → ((w1.setCell ⟨w.heap.size + 1 + 1, 5, none⟩ (.slice A' r.heads.length c')).setCells (w.heap.size + 1) 0 (RecW.recArr r (.slice A' r.heads.length c')).toList).heap[g]? = w1.heap[g]? := fun g h1 => by
    rw [hsz, hsz, hsz] at h1
    rw [Cells.heap_setCells_other _ _ (by omega), heap_setCell_other _ _ _ _ (by show _ ≠ w.heap.size + 1 + 1; omega)]
  have hsize : ((w1.setCell ⟨w.heap.size + 1 + 1, 5, none⟩ (.slice A' r.heads.length c')).setCells (w.heap.size + 1) 0 (RecW.recArr r (.slice A' r.heads.length c')).toList).heap.size = w1.heap.size := by rw [Cells.size_setCells]; simp
  have HF : Hid (Heads ((w1.setCell ⟨w.heap.size + 1 + 1, 5, none⟩ (.slice A' r.heads.length c')).setCells (w.heap.size + 1) 0 (RecW.recArr r (.slice A' r.heads.length c')).toList) w.heap.size ((w1.setCell ⟨w.heap.size + 1 + 1, 5, none⟩ (.slice A' r.heads.length c')).setCells (w.heap.size + 1) 0 (RecW.recArr r (.slice A' r.heads.length c')).toList).heap.size (.slice A' r.heads.length c') r.heads) := by
    refine (Heads.keep HH1.out (fun g h1 h2 => keep g (by rw [hsz, hsz, hsz] at h1 ⊢; exact h1))).mono ?_ ?_
    · rw [hsz, hsz, hsz]; omega
    · rw [hsize]; exact Nat.le_refl _
  have HG : Hid (HOwn ((w1.setCell ⟨w.heap.size + 1 + 1, 5, none⟩ (.slice A' r.heads.length c')).setCells (w.heap.size + 1) 0 (RecW.recArr r (.slice A' r.heads.length c')).toList) w.heap.size ((w1.setCell ⟨w.heap.size + 1 + 1, 5, none⟩ (.slice A' r.heads.length c')).setCells (w.heap.size + 1) 0 (RecW.recArr r (.slice A' r.heads.length c')).toList).heap.size (.slice A' r.heads.length c') r.heads.length) := by
    refine (HOwn.keep HO1.out (fun g h1 h2 => keep g (by rw [hsz, hsz, hsz] at h1 ⊢; exact h1))).mono ?_ ?_
    · rw [hsz, hsz, hsz]; omega
    · rw [hsize]; exact Nat.le_refl _
  clear T1 T2 T4 keep hsize
  simp at c5
  go_wp2_with (first | (refine wpList_load_row rfl 53 _ rfl (w.heap.size + 1 + 1) rfl _ _ _ _ H3.out Try.underlying53 rfl RecW.info29 ?_) | (refine wpList_store_mid rfl 53 _ _ rfl (w.heap.size + 1) 0 (RecW.recArr r (.slice A' r.heads.length c')) rfl rfl H5.out RecW.info29 (RecW.recArr_one _ _ rfl) ?_))
  exact bodyPost_ret (v := recVal r (.slice A' r.heads.length c')) (results_cell_row rfl _ _ (w.heap.size + 1) _ _ _ _ rfl H4.out Try.underlying53 rfl RecW.info29) rfl ⟨_, rfl, HF.out, HG.out, B2.out⟩

/-- What the loop has done: j elements are copied; the Heads' rows lie in windows one behind the other. -/
structure DoneO (w wr : World) (rs : List Rec) (n j : Nat) (F : Nat → Value) (m : Nat → Nat) : Prop where
  done : RecsW.Done w wr rs n j F
  own : ∀ i, i < j → HOwn wr (m i) (m (i + 1)) (F (i * 6 + 5)) (rs.getD i default).heads.length
  mono : ∀ i, i < j → m i ≤ m (i + 1)
  fst : w.heap.size < m 0
  top : m j ≤ wr.heap.size
theorem win_le {m : Nat → Nat} {n : Nat} (h : ∀ i, i < n → m i ≤ m (i + 1)) : ∀ a b, a ≤ b → b ≤ n → m a ≤ m b
  | a, 0, hab, _ => by rw [Nat.le_zero.1 hab]; exact Nat.le_refl _
  | a, b + 1, hab, hb => by
    by_cases he : a = b + 1
    · rw [he]; exact Nat.le_refl _
    · exact Nat.le_trans (win_le h a b (by omega) (by omega)) (h b (by omega))
theorem DoneO.step {w wr w1 : World} {rs : List Rec} {n j : Nat} {F : Nat → Value} {m : Nat → Nat} (h : DoneO w wr rs n j F m) (hj : j < n) (hv : Value) (b1 : Below wr.heap.size wr w1) (hh : Heads w1 wr.heap.size w1.heap.size hv (rs.getD j default).heads) (ho : HOwn w1 wr.heap.size w1.heap.size hv (rs.getD j default).heads.length) :
    DoneO w (w1.setCells w.heap.size (j * 6) (RecW.recArr (rs.getD j default) hv).toList) rs n (j + 1) (Own.upd F (j * 6) (RecW.recArr (rs.getD j default) hv).toList) (fun i => if i = j + 1 then w1.heap.size else m i) := by
  have hlt := h.done.mine.lt
  have hfst := h.fst
  have keep : ∀ g, g ≠ w.heap.size → (w1.setCells w.heap.size (j * 6) (RecW.recArr (rs.getD j default) hv).toList).heap[g]? = w1.heap[g]? := fun g hg => Cells.heap_setCells_other _ _ hg
  have hsize := Cells.size_setCells (g := w.heap.size) (RecW.recArr (rs.getD j default) hv).toList (o := j * 6) w1
  have hcell : ∀ q, q < 6 → Own.upd F (j * 6) (RecW.recArr (rs.getD j default) hv).toList (j * 6 + q) = (RecW.recArr (rs.getD j default) hv).toList.getD q default := fun q hq => Own.upd_in (by simp [RecW.recArr]; omega)
  have hold : ∀ i, i < j → ∀ q, q < 6 → Own.upd F (j * 6) (RecW.recArr (rs.getD j default) hv).toList (i * 6 + q) = F (i * 6 + q) := fun i hi q hq => Own.upd_out (.inl (by omega))
  have wl := win_le h.mono
  refine ⟨h.done.step hj hv b1 hh, ?_, ?_, ?_, ?_⟩
  · intro i hi
    by_cases he : i = j
    · subst he
      rw [hcell 5 (by omega)]
      rw [if_neg (by omega), if_pos rfl]
      show HOwn _ _ _ hv _
      exact (ho.keep fun g h1 h2 => keep g (by omega)).mono h.top (Nat.le_refl _)
    · rw [hold i (by omega) 5 (by omega)]
      have m0 := wl 0 i (by omega) (by omega)
      have m1 := wl (i + 1) j (by omega) (Nat.le_refl _)
      have ht := h.top
      rw [if_neg (by omega), if_neg (by omega)]
      exact (h.own i (by omega)).keep fun g h1 h2 => (keep g (by omega)).trans (b1.block g (by omega))
  · intro i hi
    by_cases he : i = j
    · subst he
      rw [if_neg (by omega), if_pos rfl]
      exact Nat.le_trans h.top b1.size
    · rw [if_neg (by omega), if_neg (by omega)]
      exact h.mono i (by omega)
  · show w.heap.size < if 0 = j + 1 then _ else m 0
    rw [if_neg (by omega)]
    exact hfst
  · show (if j + 1 = j + 1 then w1.heap.size else _) ≤ _
    rw [if_pos rfl, hsize]
    exact Nat.le_refl _

/-- Records that are the call's own: theirs is block g, their Heads' are in windows behind it. -/
structure ROwn (w : World) (lo hi : Nat) (v : Value) (n : Nat) (ln : Nat → Nat) : Prop where
  hi_le : hi ≤ w.heap.size
  le : n ≤ 1048576
  few : ∀ i, i < n → ln i ≤ 1048576
  own : (∃ A c, v = .slice A 0 c ∧ n = 0) ∨ ∃ (g c : Nat) (F : Nat → Value) (m : Nat → Nat), v = .slice (some ⟨g, 0, none⟩) n c ∧ lo ≤ g ∧ MineC w 53 6 g n c F ∧ g < m 0 ∧ (∀ i, i < n → m i ≤ m (i + 1)) ∧ m n ≤ hi ∧ ∀ i, i < n → HOwn w (m i) (m (i + 1)) (F (i * 6 + 5)) (ln i)

set_option maxHeartbeats 800000 in
theorem toRecordS_core (g o n c b lo : Nat) (rs : List Rec) (H : Nat → Value) (w : World) (hn : n ≤ 1048576) (hc : n ≤ c) (hg : g < w.heap.size) (hb : b ≤ w.heap.size)
    (hf : ∀ i, i < n → FewR (rs.getD i default)) (hh : ∀ i, i < n → Heads w lo b (H i) (rs.getD i default).heads)
    (ha : ∀ i, i < n → ∀ j, j < 6 → w.cell? ⟨g, o + i * 6 + j, none⟩ = some (recCells rs H i j)) :
    Calls Try.prog 75 #[.slice (some ⟨g, o, none⟩) n c] w fun e w' => ∃ (F : Nat → Value) (m : Nat → Nat), e = .returned (.slice (some ⟨w.heap.size, 0, none⟩) n n) ∧ DoneO w w' rs n n F m := by
  obtain ⟨i0, hi, hz0, hz1, hz2⟩ := info_parts RecsW.info6
  have HA := Seg.hid ha; have HK := Seg.hid hf; have HH := Seg.hid hh
  clear ha hf hh
  go_enter Try.func75, Try.ntmps75
  go_wp2_with (at_make; refine wpList_make_full _ rfl _ _ 46 rfl w.heap.size 53 i0 _ 6 Try.underlying46 hi hz0 hz1 .i64 .i64 _ _ n rfl rfl rfl rfl (by rw [hz2]; omega) (by unfold maxLen; omega) (Nat.le_refl _) ?_; intro w1 hown hgr)
  have hb1 := (Below.refl w.heap.size w).grown hgr (Nat.le_refl _) (fun k hk => by cases hk)
  have HM := Seg.hid (Mine.of_made hown hown.1)
  have HB := Seg.hid hb1
  clear hown hgr hb1 hi hz0 hz1 hz2
  have hz1 := HM.out.lt
  go_loopw [4] (fun i wr => ∃ (j : Nat) (F : Nat → Value) (m : Nat → Nat), j ≤ n ∧ i = .int .i64 j ∧ DoneO w wr rs n j F m) (fun i _ => n - (intOf i).toNat)
  case atStart => exact ⟨0, _, fun _ => w1.heap.size, Nat.zero_le _, rfl, ⟨HM.out, HB.out, fun i hi => absurd hi (by omega), fun i hi => absurd hi (by omega)⟩, fun i hi => absurd hi (by omega), fun i hi => absurd hi (by omega), hz1, Nat.le_refl _⟩
  case round =>
    clear HM HB
    obtain ⟨j, F, m, hj, rfl, HR⟩ := hrel
    by_cases hlt : j < n
    · obtain ⟨c0, c1, c2, c3, c4, c5⟩ := RecsW.six (RecsW.six' HA.out HR.done.bel hg) j hlt
      have RA : Hid (RecAt wr lo b (.agg #[.int .i64 (rs.getD j default).time, .bool (rs.getD j default).keyed, .string (rs.getD j default).key, .bool (rs.getD j default).gone, .string (rs.getD j default).val, H j]) (rs.getD j default)) := ⟨_, rfl, (HH.out j hlt).below (HR.done.bel.mono hb)⟩
      have FW := Seg.hid (HK.out j hlt)
      have hbr : b ≤ wr.heap.size := Nat.le_trans hb HR.done.bel.size
      have ST := Seg.hid (fun w1 hv b1 hh ho => DoneO.step (w1 := w1) HR hlt hv b1 hh ho)
      have HM := Seg.hid HR.done.mine
      have h0 : (0 : Int) ≤ (j : Int) := by omega
      have h1 : (j : Int) < (n : Int) := by omega
      clear HR
      generalize rs.getD j default = rj at *
      go_wp2_with fail
      refine (toRecord_own _ rj wr lo b RA.out hbr FW.out).mono ?_
      rintro e w1 ⟨hv1, rfl, hh1, ho1, b1⟩
      have S1 := Seg.hid (ST.out w1 hv1 b1 hh1 ho1)
      have M1 := Seg.hid (Own.mine_there (o := j * 6) (m := 6) (HM.out.below b1 HM.out.lt) (by omega))
      obtain ⟨_, A1, k1, rfl, _⟩ := hh1
      clear b1 ho1
      have M2 : Hid (w1.there w.heap.size (j * 6) (RecW.recArr rj (.slice A1 rj.heads.length k1)).size) := M1.out
      clear M1
      rw [show recVal rj (.slice A1 rj.heads.length k1) = .agg (RecW.recArr rj (.slice A1 rj.heads.length k1)) from rfl]
      go_wp2_with (refine wpList_store_mid rfl 53 _ _ rfl w.heap.size (j * 6) (RecW.recArr rj (.slice A1 rj.heads.length k1)) rfl rfl ?ht RecW.info29 (RecW.recArr_one _ _ rfl) ?_; case ht => exact M2.out)
      go_roundw
      case rel => exact ⟨j + 1, _, _, by omega, by go_num, S1.out⟩
      case measure => simp [intOf]; omega
    · have : j = n := by omega
      subst this
      go_wp2
      go_ret
      exact ⟨F, m, rfl, HR⟩

theorem toRecordS_own (v : Value) (rs : List Rec) (w : World) (lo b : Nat) (hv : RecsAt w lo b v rs) (hb : b ≤ w.heap.size) (hl : rs.length ≤ 1048576) (hf : ∀ i, i < rs.length → FewR (rs.getD i default)) :
    Calls Try.prog 75 #[v] w fun e w' => ∃ v', e = .returned v' ∧ RecsAt w' w.heap.size w'.heap.size v' rs ∧ ROwn w' w.heap.size w'.heap.size v' rs.length (fun i => (rs.getD i default).heads.length) ∧ Below w.heap.size w w' := by
  obtain ⟨H, ⟨hn, A, c, rfl, h⟩, hh⟩ := hv
  by_cases hz : rs.length = 0
  · rw [hz]
    refine (RecsW.toRecordS_none A c w).mono fun e w' ⟨v', a1, ⟨A', c', a2⟩, a3⟩ => ⟨v', a1, ⟨H, ⟨hn, A', c', ?_, .inl hz⟩, fun i hi => absurd hi (by omega)⟩, ⟨Nat.le_refl _, by omega, fun i hi => absurd hi (by omega), .inl ⟨A', c', a2, rfl⟩⟩, a3⟩
    rw [a2, hz]
  obtain ⟨g, o, rfl, hg, hc, hcell, _⟩ := h.resolve_left hz
  refine (toRecordS_core g o rs.length c b lo rs H w hl hc (by omega) hb hf hh hcell).mono fun e w' ⟨F, m, a1, a2⟩ => ⟨_, a1, ⟨fun i => F (i * 6 + 5), ?_, ?_⟩, ⟨Nat.le_refl _, hl, hf, .inr ⟨w.heap.size, rs.length, F, m, rfl, Nat.le_refl _, a2.done.mine, a2.fst, a2.mono, a2.top, a2.own⟩⟩, a2.done.bel⟩
  · exact a2.done.mine.row hn a2.done.mine.lt (Nat.le_refl _) a2.done.cells
  · exact fun i hi => (a2.done.heads i hi).mono (by omega) (Nat.le_refl _)

theorem ROwn.keep {w w' : World} {lo hi n : Nat} {v : Value} {ln : Nat → Nat} (h : ROwn w lo hi v n ln) (hk : ∀ g, lo ≤ g → g < hi → w'.heap[g]? = w.heap[g]?) (hs : w.heap.size ≤ w'.heap.size) : ROwn w' lo hi v n ln := by
  refine ⟨Nat.le_trans h.hi_le hs, h.le, h.few, h.own.imp id ?_⟩
  rintro ⟨g, c, F, m, h1, h2, h3, h4, h5, h6, h7⟩
  have wl := win_le h5
  have w0 := wl 0 n (by omega) (Nat.le_refl _)
  refine ⟨g, c, F, m, h1, h2, h3.keep (hk g h2 (by omega)), h4, h5, h6, fun i hi => (h7 i hi).keep fun k hk1 hk2 => hk k ?_ ?_⟩
  · have := wl 0 i (by omega) (by omega); omega
  · have := wl (i + 1) n (by omega) (Nat.le_refl _); omega
theorem ROwn.mono {w : World} {lo lo' hi hi' n : Nat} {v : Value} {ln : Nat → Nat} (h : ROwn w lo hi v n ln) (hl : lo' ≤ lo) (hh : hi ≤ hi') (hw : hi' ≤ w.heap.size) : ROwn w lo' hi' v n ln := by
  refine ⟨hw, h.le, h.few, h.own.imp id ?_⟩
  rintro ⟨g, c, F, m, h1, h2, h3, h4, h5, h6, h7⟩
  exact ⟨g, c, F, m, h1, Nat.le_trans hl h2, h3, h4, h5, Nat.le_trans h6 hh, h7⟩

set_option maxHeartbeats 400000 in
theorem toBatch_own (v : Value) (t : Bat) (w : World) (lo b : Nat) (hv : BatAt w lo b v t) (hb : b ≤ w.heap.size) (hf : FewB t) :
    Calls Try.prog 69 #[v] w fun e w' => ∃ rv, e = .returned (batVal t rv) ∧ RecsAt w' w.heap.size w'.heap.size rv t.recs ∧ ROwn w' w.heap.size w'.heap.size rv t.recs.length (fun i => (t.recs.getD i default).heads.length) ∧ Below w.heap.size w w' := by
  obtain ⟨hv, rfl, hh⟩ := hv
  have HH := Seg.hid hh
  obtain ⟨H, ⟨hn, A, c, hve, _⟩, _⟩ := id hh
  clear hh
  unfold batVal
  subst hve
  go_enter Try.func69, Try.ntmps69
  go_wp2_with fail
  refine (toRecordS_own _ t.recs (((w.alloc _).alloc _).alloc _) lo b (HH.out.below ((below3 w _ _ _).mono hb)) (by rw [hsz, hsz, hsz]; omega) hf.1 hf.2).mono ?_
  rintro e w1 ⟨v', rfl, hh1, ho1, b1⟩
  have B1 := Seg.hid (chain (below3 w _ _ _) b1)
  have T1 := (b1.block (w.heap.size + 1) (by rw [hsz, hsz, hsz]; omega)).trans (at3 w _ _ _)
  have T2 := (b1.block (w.heap.size + 1 + 1) (by rw [hsz, hsz, hsz]; omega)).trans (Cells.at3' w _ _ _)
  have HH1 := Seg.hid hh1; have HO1 := Seg.hid ho1
  obtain ⟨H', ⟨_, A', c', hve, _⟩, _⟩ := id hh1
  clear hh1 b1 ho1
  subst hve
  have c6 := cell_of_row w1 (w.heap.size + 1 + 1) 6 _ _ _ T2
  have z6 := frozen_of_row w1 (w.heap.size + 1 + 1) 6 _ _ T2
  have H3 : Hid ((w1.setCell ⟨w.heap.size + 1 + 1, 6, none⟩ (.slice A' t.recs.length c')).heap[w.heap.size + 1 + 1]? = some (.cells (BatW.batArr t (.slice A' t.recs.length c')) 48 (0, 0))) := heap_setCell_same w1 (w.heap.size + 1 + 1) 6 _ _ (.slice A' t.recs.length c') T2
  have T4 := (heap_setCell_other w1 ⟨w.heap.size + 1 + 1, 6, none⟩ (w.heap.size + 1) (.slice A' t.recs.length c') (by simp)).trans T1
  have H5 := Seg.hid (Cells.there_of T4)
  have H4 := Seg.hid (Cells.whole (vs := BatW.batArr t (.slice A' t.recs.length c')) T4 rfl)
  have B2 := Seg.hid (Cells.below_setCells (g := w.heap.size + 1) (by omega) (BatW.batArr t (.slice A' t.recs.length c')).toList 0 _ _ (B1.out.setCell (p := ⟨w.heap.size + 1 + 1, 6, none⟩) (by simp; omega) (.slice A' t.recs.length c')))
  obtain ⟨wF, hwF⟩ : ∃ x, (w1.setCell ⟨w.heap.size + 1 + 1, 6, none⟩ (.slice A' t.recs.length c')).setCells (w.heap.size + 1) 0 (BatW.batArr t (.slice A' t.recs.length c')).toList = x := ⟨_, rfl⟩
  have keep : ∀ g, w.heap.size + 1 + 1 + 1 ≤ g → wF.heap[g]? = w1.heap[g]? := fun g h1 => by
    rw [← hwF, Cells.heap_setCells_other _ _ (by omega), heap_setCell_other _ _ _ _ (by show _ ≠ w.heap.size + 1 + 1; omega)]
  have hsize : wF.heap.size = w1.heap.size := by rw [← hwF, Cells.size_setCells]; simp
  have HF : Hid (RecsAt wF w.heap.size wF.heap.size (.slice A' t.recs.length c') t.recs) := by
    refine (RecsAt.keep HH1.out (fun g h1 h2 => keep g (by rw [hsz, hsz, hsz] at h1; exact h1))).mono ?_ ?_
    · rw [hsz, hsz, hsz]; omega
    · omega
  have HG : Hid (ROwn wF w.heap.size wF.heap.size (.slice A' t.recs.length c') t.recs.length (fun i => (t.recs.getD i default).heads.length)) := by
    refine (ROwn.keep HO1.out (fun g h1 h2 => keep g (by rw [hsz, hsz, hsz] at h1; exact h1)) (by omega)).mono ?_ (by omega) (Nat.le_refl _)
    rw [hsz, hsz, hsz]; omega
  rw [← hwF] at HF HG
  clear T1 T2 T4 keep hsize hwF
  simp at c6
  go_wp2_with (first | (refine wpList_load_row rfl 48 _ rfl (w.heap.size + 1 + 1) rfl _ _ _ _ H3.out Try.underlying48 rfl BatW.info40 ?_) | (refine wpList_store_mid rfl 48 _ _ rfl (w.heap.size + 1) 0 (BatW.batArr t (.slice A' t.recs.length c')) rfl rfl H5.out BatW.info40 (BatW.batArr_one _ _ rfl) ?_))
  exact bodyPost_ret (v := batVal t (.slice A' t.recs.length c')) (results_cell_row rfl _ _ (w.heap.size + 1) _ _ _ _ rfl H4.out Try.underlying48 rfl BatW.info40) rfl ⟨_, rfl, HF.out, HG.out, B2.out⟩
end Go.Proofs.Ytdnfnjlnfmafkaa.ToO
namespace Go.Proofs.Ytdnfnjlnfmafkaa.Ft
set_option maxRecDepth 8000
open Go.RowKit
open Recs
open ToO (MineC)
set_option linter.unusedVariables false

/-- Blocks outside a set are as they were. -/
structure Foot (w w' : World) (S : Nat → Prop) : Prop where
  os : w'.os = w.os
  tape : w'.tape = w.tape
  output : w'.output = w.output
  size : w.heap.size ≤ w'.heap.size
  block : ∀ k, k < w.heap.size → ¬ S k → w'.heap[k]? = w.heap[k]?
theorem Foot.refl (w : World) (S : Nat → Prop) : Foot w w S := ⟨rfl, rfl, rfl, Nat.le_refl _, fun _ _ _ => rfl⟩
theorem Foot.set {w wr : World} {S : Nat → Prop} {g q : Nat} (h : Foot w wr S) (hg : S g) (v : Value) : Foot w (wr.setCell ⟨g, q, none⟩ v) S :=
  ⟨h.os, h.tape, h.output, by simpa using h.size, fun k hk hw => (heap_setCell_other wr ⟨g, q, none⟩ k v (fun e => hw (e ▸ hg))).trans (h.block k hk hw)⟩
theorem Foot.below {w wr w' : World} {S : Nat → Prop} (h : Foot w wr S) (hb : Below wr.heap.size wr w') : Foot w w' S :=
  ⟨hb.os.trans h.os, hb.tape.trans h.tape, hb.output.trans h.output, Nat.le_trans h.size hb.size, fun k hk hw => (hb.block k (Nat.lt_of_lt_of_le hk h.size)).trans (h.block k hk hw)⟩
theorem Foot.trans {w wr w' : World} {S S' : Nat → Prop} (h : Foot w wr S) (h' : Foot wr w' S') (hs : ∀ x, S' x → S x) : Foot w w' S :=
  ⟨h'.os.trans h.os, h'.tape.trans h.tape, h'.output.trans h.output, Nat.le_trans h.size h'.size, fun k hk hw => (h'.block k (Nat.lt_of_lt_of_le hk h.size) (fun e => hw (hs k e))).trans (h.block k hk hw)⟩
theorem Foot.mono {w w' : World} {S S' : Nat → Prop} (h : Foot w w' S) (hs : ∀ x, S x → S' x) : Foot w w' S' :=
  ⟨h.os, h.tape, h.output, h.size, fun k hk hw => h.block k hk (fun e => hw (hs k e))⟩
theorem Foot.toBelow {w w' : World} {S : Nat → Prop} {lo : Nat} (h : Foot w w' S) (hs : ∀ x, S x → lo ≤ x) (hl : lo ≤ w.heap.size) : Below lo w w' := ⟨h.os, h.tape, h.output, h.size, fun k hk => h.block k (by omega) (fun e => by have := hs k e; omega)⟩

section
variable {T : Type} [Inhabited T] {ty nf : Nat} {EO : World → (Nat → Prop) → (Nat → Value) → T → Prop}
/-- What an element says hangs on the blocks of its set and on its own cells alone. -/
def Keeps (nf : Nat) (EO : World → (Nat → Prop) → (Nat → Value) → T → Prop) : Prop := ∀ w w' S f f' t, EO w S f t → w.heap.size ≤ w'.heap.size → (∀ g, S g → w'.heap[g]? = w.heap[g]?) → (∀ q, q < nf → f' q = f q) → EO w' S f' t
def Grows (EO : World → (Nat → Prop) → (Nat → Value) → T → Prop) : Prop := ∀ w S S' f t, EO w S f t → (∀ g, S g → S' g) → EO w S' f t
structure LOpen (ty nf : Nat) (EO : World → (Nat → Prop) → (Nat → Value) → T → Prop) (w : World) (g n c : Nat) (F : Nat → Value) (P : Nat → Nat → Prop) (us : List T) : Prop where
  mine : MineC w ty nf g n c F
  len : us.length = n
  el : ∀ i, i < n → EO w (P i) (fun q => F (i * nf + q)) (us.getD i default)
  apart : ∀ i, i < n → ∀ x, P i x → x ≠ g ∧ x < w.heap.size
  disj : ∀ i j, i < n → j < n → i ≠ j → ∀ x, P i x → ¬ P j x
def LOwn (ty nf : Nat) (EO : World → (Nat → Prop) → (Nat → Value) → T → Prop) (w : World) (S : Nat → Prop) (v : Value) (us : List T) : Prop :=
  us.length ≤ 1048576 ∧ ∃ A c, v = .slice A us.length c ∧ (us.length = 0 ∨ ∃ g F P, A = some ⟨g, 0, none⟩ ∧ S g ∧ (∀ i, i < us.length → ∀ x, P i x → S x) ∧ LOpen ty nf EO w g us.length c F P us)
theorem LOpen.keep (hE : Keeps nf EO) {w w' : World} {g n c : Nat} {F : Nat → Value} {P : Nat → Nat → Prop} {us : List T} (h : LOpen ty nf EO w g n c F P us) (hs : w.heap.size ≤ w'.heap.size) (hg : w'.heap[g]? = w.heap[g]?) (hk : ∀ i, i < n → ∀ x, P i x → w'.heap[x]? = w.heap[x]?) : LOpen ty nf EO w' g n c F P us :=
  ⟨h.mine.keep hg, h.len, fun i hi => hE _ _ _ _ _ _ (h.el i hi) hs (hk i hi) (fun _ _ => rfl), fun i hi x hx => ⟨(h.apart i hi x hx).1, Nat.lt_of_lt_of_le (h.apart i hi x hx).2 hs⟩, h.disj⟩
theorem LOwn.keep (hE : Keeps nf EO) {w w' : World} {S : Nat → Prop} {v : Value} {us : List T} (h : LOwn ty nf EO w S v us) (hs : w.heap.size ≤ w'.heap.size) (hk : ∀ g, S g → w'.heap[g]? = w.heap[g]?) : LOwn ty nf EO w' S v us := by
  obtain ⟨h0, A, c, h1, h2⟩ := h
  refine ⟨h0, A, c, h1, h2.imp id ?_⟩
  rintro ⟨g, F, P, h3, h4, h5, h6⟩
  exact ⟨g, F, P, h3, h4, h5, h6.keep hE hs (hk g h4) (fun i hi x hx => hk x (h5 i hi x hx))⟩
theorem LOwn.mono {w : World} {S S' : Nat → Prop} {v : Value} {us : List T} (h : LOwn ty nf EO w S v us) (hs : ∀ x, S x → S' x) : LOwn ty nf EO w S' v us := by
  obtain ⟨h0, A, c, h1, h2⟩ := h
  refine ⟨h0, A, c, h1, h2.imp id ?_⟩
  rintro ⟨g, F, P, h3, h4, h5, h6⟩
  exact ⟨g, F, P, h3, hs g h4, fun i hi x hx => hs x (h5 i hi x hx), h6⟩
theorem LOwn.nil (w : World) (S : Nat → Prop) (A : Option Addr) (c : Nat) : LOwn ty nf EO w S (.slice A 0 c) ([] : List T) := ⟨by simp, A, c, rfl, .inl rfl⟩
theorem LOwn.form {w : World} {S : Nat → Prop} {v : Value} {us : List T} (h : LOwn ty nf EO w S v us) : ∃ A c, v = .slice A us.length c := by
  obtain ⟨_, A, c, h1, _⟩ := h
  exact ⟨A, c, h1⟩
theorem getD_set_same {us : List T} {j : Nat} (t : T) (h : j < us.length) : (us.set j t).getD j default = t := by simp [h]
theorem getD_set_other {us : List T} {i j : Nat} (t : T) (h : i ≠ j) : (us.set j t).getD i default = us.getD i default := by
  simp [List.getD_eq_getElem?_getD, List.getElem?_set_ne (Ne.symm h)]
/-- One element is written anew; its set of blocks may be another one. -/
theorem LOpen.step (hE : Keeps nf EO) {w w' : World} {g n c j : Nat} {F F' : Nat → Value} {P P' : Nat → Nat → Prop} {us : List T} {t : T} (h : LOpen ty nf EO w g n c F P us) (hj : j < n) (hM : MineC w' ty nf g n c F')
    (hF : ∀ i, i < n → i ≠ j → ∀ q, q < nf → F' (i * nf + q) = F (i * nf + q)) (hs : w.heap.size ≤ w'.heap.size) (hP : ∀ i, i < n → i ≠ j → P' i = P i) (hQ : ∀ x, P' j x → x ≠ g ∧ x < w'.heap.size) (hD : ∀ i, i < n → i ≠ j → ∀ x, P' j x → ¬ P i x)
    (hk : ∀ i, i < n → i ≠ j → ∀ x, P i x → w'.heap[x]? = w.heap[x]?) (he : EO w' (P' j) (fun q => F' (j * nf + q)) t) : LOpen ty nf EO w' g n c F' P' (us.set j t) := by
  refine ⟨hM, by rw [List.length_set]; exact h.len, fun i hi => ?_, fun i hi x hx => ?_, fun i k hi hk' hik x hx => ?_⟩
  · by_cases e : i = j
    · subst e
      rw [getD_set_same t (by rw [h.len]; exact hi)]
      exact he
    · rw [getD_set_other t e, hP i hi e]
      exact hE _ _ _ _ _ _ (h.el i hi) hs (hk i hi e) (fun q hq => hF i hi e q hq)
  · by_cases e : i = j
    · subst e
      exact hQ x hx
    · rw [hP i hi e] at hx
      exact ⟨(h.apart i hi x hx).1, Nat.lt_of_lt_of_le (h.apart i hi x hx).2 hs⟩
  · by_cases e : i = j
    · subst e
      rw [hP k hk' (Ne.symm hik)]
      exact hD k hk' (Ne.symm hik) x hx
    · rw [hP i hi e] at hx
      by_cases e2 : k = j
      · subst e2
        exact fun hx' => hD i hi e x hx' hx
      · rw [hP k hk' e2]
        exact h.disj i k hi hk' hik x hx
end

section
variable {T : Type} (m1 : Nat → T → T) (n1 : T → Nat)
/-- How many numbers the marks of a list take; the list with its marks from k on. -/
def nL : List T → Nat
  | [] => 0
  | t :: r => n1 t + nL r
def mL : Nat → List T → List T
  | _, [] => []
  | k, t :: r => m1 k t :: mL (k + n1 t) r
theorem mL_len : ∀ (k : Nat) (ts : List T), (mL m1 n1 k ts).length = ts.length
  | _, [] => rfl
  | k, t :: r => by simp [mL, mL_len (k + n1 t) r]
theorem nL_app : ∀ (a b : List T), nL n1 (a ++ b) = nL n1 a + nL n1 b
  | [], b => by simp [nL]
  | t :: r, b => by simp only [List.cons_append, nL, nL_app r b]; omega
theorem mL_app : ∀ (k : Nat) (a b : List T), mL m1 n1 k (a ++ b) = mL m1 n1 k a ++ mL m1 n1 (k + nL n1 a) b
  | k, [], b => by simp [mL, nL]
  | k, t :: r, b => by simp only [List.cons_append, mL, nL, mL_app (k + n1 t) r b, Nat.add_assoc]
theorem take_one [Inhabited T] {ts : List T} {j : Nat} (h : j < ts.length) : ts.take (j + 1) = ts.take j ++ [ts.getD j default] := by
  rw [List.take_add_one, List.getElem?_eq_getElem h]; simp [h]
theorem nL_take [Inhabited T] {ts : List T} {j : Nat} (h : j < ts.length) : nL n1 (ts.take (j + 1)) = nL n1 (ts.take j) + n1 (ts.getD j default) := by
  rw [take_one h, nL_app]; simp [nL]
theorem nL_le : ∀ (ts : List T) (j : Nat), nL n1 (ts.take j) ≤ nL n1 ts
  | ts, j => by
    have := nL_app n1 (ts.take j) (ts.drop j)
    rw [List.take_append_drop] at this
    omega
/-- How far the list is marked: j elements. -/
def mid (k j : Nat) (ts : List T) : List T := mL m1 n1 k (ts.take j) ++ ts.drop j
theorem mid_len (k j : Nat) (ts : List T) : (mid m1 n1 k j ts).length = ts.length := by
  unfold mid
  rw [List.length_append, mL_len, List.length_take, List.length_drop]; omega
theorem mid_zero (k : Nat) (ts : List T) : mid m1 n1 k 0 ts = ts := by simp [mid, mL]
theorem mid_all (k : Nat) (ts : List T) : mid m1 n1 k ts.length ts = mL m1 n1 k ts := by simp [mid]
theorem mid_get [Inhabited T] {k j : Nat} {ts : List T} (h : j < ts.length) : (mid m1 n1 k j ts).getD j default = ts.getD j default := by
  unfold mid
  have hl : (mL m1 n1 k (ts.take j)).length = j := by rw [mL_len, List.length_take]; omega
  rw [List.getD_eq_getElem?_getD, List.getElem?_append_right (by omega), hl, Nat.sub_self, List.getElem?_drop, Nat.add_zero, ← List.getD_eq_getElem?_getD]
theorem mid_step [Inhabited T] {k j : Nat} {ts : List T} (h : j < ts.length) : (mid m1 n1 k j ts).set j (m1 (k + nL n1 (ts.take j)) (ts.getD j default)) = mid m1 n1 k (j + 1) ts := by
  unfold mid
  have hl : (mL m1 n1 k (ts.take j)).length = j := by rw [mL_len, List.length_take]; omega
  rw [List.set_append_right _ _ (by omega), hl, Nat.sub_self, take_one h, mL_app, List.append_assoc]
  congr 1
  rw [List.drop_eq_getElem_cons h, List.set_cons_zero]
  rfl
theorem mL_get [Inhabited T] {k j : Nat} {ts : List T} (h : j < ts.length) : (mL m1 n1 k ts).getD j default = m1 (k + nL n1 (ts.take j)) (ts.getD j default) := by
  have e : ts = ts.take j ++ (ts.getD j default :: ts.drop (j + 1)) := by
    conv => lhs; rw [← List.take_append_drop j ts, List.drop_eq_getElem_cons h]
    simp [h]
  have hl : (mL m1 n1 k (ts.take j)).length = j := by rw [mL_len, List.length_take]; omega
  have : mL m1 n1 k ts = mL m1 n1 k (ts.take j) ++ mL m1 n1 (k + nL n1 (ts.take j)) (ts.getD j default :: ts.drop (j + 1)) := by rw [← mL_app, ← e]
  rw [this, List.getD_eq_getElem?_getD, List.getElem?_append_right (by omega), hl, Nat.sub_self]
  simp [mL]
end
end Go.Proofs.Ytdnfnjlnfmafkaa.Ft
namespace Go.Proofs.Ytdnfnjlnfmafkaa.Ft
set_option maxRecDepth 8000
open Go.RowKit
open Recs
open ToO (MineC HOwn ROwn)
open Bats (BatsAt batsCells)
open SegW
set_option linter.unusedVariables false

def EH (w : World) (S : Nat → Prop) (f : Nat → Value) (h : Hd) : Prop := f 0 = .string h.key ∧ f 1 = .string h.val
def OwnH (w : World) (S : Nat → Prop) (v : Value) (hs : List Hd) : Prop := LOwn 94 2 EH w S v hs
def ER (w : World) (S : Nat → Prop) (f : Nat → Value) (r : Rec) : Prop := (f 0 = .int .i64 r.time ∧ f 1 = .bool r.keyed ∧ f 2 = .string r.key ∧ f 3 = .bool r.gone ∧ f 4 = .string r.val) ∧ OwnH w S (f 5) r.heads
def OwnR (w : World) (S : Nat → Prop) (v : Value) (rs : List Rec) : Prop := LOwn 53 6 ER w S v rs
def EB (w : World) (S : Nat → Prop) (f : Nat → Value) (t : Bat) : Prop := (f 0 = .int .i64 t.base ∧ f 1 = .int .i64 t.epoch ∧ f 2 = .int .i64 t.producer ∧ f 3 = .int .i64 t.turn ∧ f 4 = .int .i64 t.seq ∧ f 5 = .int .i64 t.flags) ∧ OwnR w S (f 6) t.recs
def OwnB (w : World) (S : Nat → Prop) (v : Value) (ts : List Bat) : Prop := LOwn 48 7 EB w S v ts
theorem keepsH : Keeps 2 EH := fun w w' S f f' t h hs hk hf => by
  obtain ⟨h0, h1⟩ := h
  exact ⟨by rw [hf 0 (by omega)]; exact h0, by rw [hf 1 (by omega)]; exact h1⟩
theorem keepsR : Keeps 6 ER := fun w w' S f f' t h hs hk hf => by
  obtain ⟨⟨h0, h1, h2, h3, h4⟩, h5⟩ := h
  refine ⟨⟨by rw [hf 0 (by omega)]; exact h0, by rw [hf 1 (by omega)]; exact h1, by rw [hf 2 (by omega)]; exact h2, by rw [hf 3 (by omega)]; exact h3, by rw [hf 4 (by omega)]; exact h4⟩, ?_⟩
  rw [hf 5 (by omega)]
  exact LOwn.keep keepsH h5 hs hk
theorem keepsB : Keeps 7 EB := fun w w' S f f' t h hs hk hf => by
  obtain ⟨⟨h0, h1, h2, h3, h4, h5⟩, h6⟩ := h
  refine ⟨⟨by rw [hf 0 (by omega)]; exact h0, by rw [hf 1 (by omega)]; exact h1, by rw [hf 2 (by omega)]; exact h2, by rw [hf 3 (by omega)]; exact h3, by rw [hf 4 (by omega)]; exact h4, by rw [hf 5 (by omega)]; exact h5⟩, ?_⟩
  rw [hf 6 (by omega)]
  exact LOwn.keep keepsR h6 hs hk
/-- The set of all blocks from lo on, below b. -/
def seg (lo b : Nat) (x : Nat) : Prop := lo ≤ x ∧ x < b
theorem rows_eq {w : World} {lo b s n g c ty : Nat} {F : Nat → Value} {f : Nat → Nat → Value} (h : Row w lo b s (.slice (some ⟨g, 0, none⟩) n c) n f) (hM : MineC w ty s g n c F) (i : Nat) (hi : i < n) (j : Nat) (hj : j < s) : F (i * s + j) = f i j := by
  obtain ⟨hn, A, c', h1, h2⟩ := h
  obtain ⟨g', o, h3, h4, h5, h6, h7⟩ := h2.resolve_left (by omega)
  simp only [Value.slice.injEq] at h1
  obtain ⟨rfl, _, rfl⟩ := h1
  simp only [Option.some.injEq, Addr.mk.injEq] at h3
  obtain ⟨rfl, rfl, _⟩ := h3
  have hq : i * s + j < n * s := by
    have : (i + 1) * s ≤ n * s := Nat.mul_le_mul_right s hi
    rw [Nat.succ_mul] at this
    omega
  have a1 := hM.cell (i * s + j) hq
  have a2 := h6 i hi j hj
  rw [Nat.zero_add, a1] at a2
  exact Option.some.inj a2
theorem own_heads {w : World} {lo b lo' b' : Nat} {v : Value} {hs : List Hd} (h : Heads w lo b v hs) (ho : HOwn w lo' b' v hs.length) : OwnH w (seg lo' b') v hs := by
  obtain ⟨h0, A, c, rfl, h2⟩ := ho
  refine ⟨h0, A, c, rfl, h2.imp id ?_⟩
  rintro ⟨g, F, rfl, h3, h4, h5⟩
  refine ⟨g, F, fun _ _ => False, rfl, ⟨h3, h4⟩, fun _ _ _ hx => hx.elim, h5, rfl, fun i hi => ⟨?_, ?_⟩, fun _ _ _ hx => hx.elim, fun _ _ _ _ _ _ hx => hx.elim⟩
  · exact rows_eq h h5 i hi 0 (by omega)
  · exact rows_eq h h5 i hi 1 (by omega)
theorem own_recs {w : World} {lo b lo' hi : Nat} {v : Value} {rs : List Rec} (h : RecsAt w lo b v rs) (ho : ROwn w lo' hi v rs.length (fun i => (rs.getD i default).heads.length)) : OwnR w (seg lo' hi) v rs := by
  obtain ⟨H, hr, hh⟩ := h
  refine ⟨ho.le, ?_⟩
  rcases ho.own with ⟨A, c, rfl, h2⟩ | ⟨g, c, F, m, rfl, h1, h2, h3, h4, h5, h6⟩
  · exact ⟨A, c, by rw [h2], .inl h2⟩
  have wl := ToO.win_le h4
  have hm0 := wl 0 rs.length (by omega) (Nat.le_refl _)
  refine ⟨_, c, rfl, .inr ⟨g, F, fun i => seg (m i) (m (i + 1)), rfl, ⟨h1, by omega⟩, fun i hi x hx => ?_, h2, rfl, fun i hi => ⟨⟨?_, ?_, ?_, ?_, ?_⟩, ?_⟩, fun i hi x hx => ?_, fun i j hi hj hij x hx hx' => ?_⟩⟩
  · have a1 := wl 0 i (by omega) (by omega)
    have a2 := wl (i + 1) rs.length (by omega) (Nat.le_refl _)
    obtain ⟨x1, x2⟩ := hx
    exact ⟨by omega, by omega⟩
  · exact rows_eq hr h2 i hi 0 (by omega)
  · exact rows_eq hr h2 i hi 1 (by omega)
  · exact rows_eq hr h2 i hi 2 (by omega)
  · exact rows_eq hr h2 i hi 3 (by omega)
  · exact rows_eq hr h2 i hi 4 (by omega)
  · have e : F (i * 6 + 5) = H i := rows_eq hr h2 i hi 5 (by omega)
    have hh' := hh i hi
    rw [← e] at hh'
    exact own_heads hh' (h6 i hi)
  · have a1 := wl 0 i (by omega) (by omega)
    have a2 := wl (i + 1) rs.length (by omega) (Nat.le_refl _)
    have := ho.hi_le
    obtain ⟨x1, x2⟩ := hx
    exact ⟨by omega, by omega⟩
  · obtain ⟨x1, x2⟩ := hx
    obtain ⟨y1, y2⟩ := hx'
    by_cases hc : i < j
    · have := wl (i + 1) j (by omega) (by omega); omega
    · have := wl (j + 1) i (by omega) (by omega); omega
theorem row_of {T : Type} [Inhabited T] {EO : World → (Nat → Prop) → (Nat → Value) → T → Prop} {w : World} {ty s : Nat} {S : Nat → Prop} {v : Value} {us : List T} (h : LOwn ty s EO w S v us) {lo b : Nat} (hS : ∀ x, S x → lo ≤ x ∧ x < b) :
    ∃ (F : Nat → Value) (P : Nat → Nat → Prop), Row w lo b s v us.length (fun i j => F (i * s + j)) ∧ ∀ i, i < us.length → EO w (P i) (fun q => F (i * s + q)) (us.getD i default) ∧ ∀ x, P i x → lo ≤ x ∧ x < b := by
  obtain ⟨h0, A, c, rfl, h2⟩ := h
  by_cases hz : us.length = 0
  · exact ⟨fun _ => default, fun _ _ => False, ⟨by omega, A, c, rfl, .inl hz⟩, fun i hi => absurd hi (by omega)⟩
  obtain ⟨g, F, P, rfl, h3, h4, h5⟩ := h2.resolve_left hz
  refine ⟨F, P, ⟨by omega, _, c, rfl, .inr ⟨g, 0, rfl, (hS g h3).2, h5.mine.le, fun i hi j hj => ?_, (hS g h3).1⟩⟩, fun i hi => ⟨h5.el i hi, fun x hx => hS x (h4 i hi x hx)⟩⟩
  have hq : i * s + j < us.length * s := by
    have : (i + 1) * s ≤ us.length * s := Nat.mul_le_mul_right s hi
    rw [Nat.succ_mul] at this
    omega
  rw [Nat.zero_add]
  exact h5.mine.cell _ hq
theorem row_eqf {w : World} {lo b s n : Nat} {v : Value} {f f' : Nat → Nat → Value} (h : Row w lo b s v n f) (he : ∀ i, i < n → ∀ j, j < s → f i j = f' i j) : Row w lo b s v n f' := by
  obtain ⟨h0, A, c, h1, h2⟩ := h
  refine ⟨h0, A, c, h1, h2.imp id ?_⟩
  rintro ⟨g, o, h3, h4, h5, h6, h7⟩
  exact ⟨g, o, h3, h4, h5, fun i hi j hj => by rw [h6 i hi j hj, he i hi j hj], h7⟩
theorem heads_of {w : World} {S : Nat → Prop} {v : Value} {hs : List Hd} {lo b : Nat} (h : OwnH w S v hs) (hS : ∀ x, S x → lo ≤ x ∧ x < b) : Heads w lo b v hs := by
  obtain ⟨F, P, hr, he⟩ := row_of h hS
  exact row_eqf hr fun i hi j hj => by
    obtain ⟨⟨e0, e1⟩, _⟩ := he i hi
    match j, hj with
    | 0, _ => exact e0
    | 1, _ => exact e1
theorem recs_of {w : World} {S : Nat → Prop} {v : Value} {rs : List Rec} {lo b : Nat} (h : OwnR w S v rs) (hS : ∀ x, S x → lo ≤ x ∧ x < b) : RecsAt w lo b v rs := by
  obtain ⟨F, P, hr, he⟩ := row_of h hS
  refine ⟨fun i => F (i * 6 + 5), row_eqf hr fun i hi j hj => ?_, fun i hi => heads_of (he i hi).1.2 (he i hi).2⟩
  obtain ⟨⟨⟨e0, e1, e2, e3, e4⟩, _⟩, _⟩ := he i hi
  match j, hj with
  | 0, _ => exact e0
  | 1, _ => exact e1
  | 2, _ => exact e2
  | 3, _ => exact e3
  | 4, _ => exact e4
  | 5, _ => rfl
theorem bats_of {w : World} {S : Nat → Prop} {v : Value} {ts : List Bat} {lo b : Nat} (h : OwnB w S v ts) (hS : ∀ x, S x → lo ≤ x ∧ x < b) : BatsAt w lo b v ts := by
  obtain ⟨F, P, hr, he⟩ := row_of h hS
  refine ⟨fun i => F (i * 7 + 6), row_eqf hr fun i hi j hj => ?_, fun i hi => recs_of (he i hi).1.2 (he i hi).2⟩
  obtain ⟨⟨⟨e0, e1, e2, e3, e4, e5⟩, _⟩, _⟩ := he i hi
  match j, hj with
  | 0, _ => exact e0
  | 1, _ => exact e1
  | 2, _ => exact e2
  | 3, _ => exact e3
  | 4, _ => exact e4
  | 5, _ => exact e5
  | 6, _ => rfl

/-- A row of one's own that is filled one by one: m elements stand. -/
structure LPart {T : Type} [Inhabited T] (ty nf : Nat) (EO : World → (Nat → Prop) → (Nat → Value) → T → Prop) (w wr : World) (n : Nat) (F : Nat → Value) (P : Nat → Nat → Prop) (us : List T) (m : Nat) : Prop where
  mine : Mine wr ty nf w.heap.size n F
  bel : Below w.heap.size w wr
  el : ∀ i, i < m → EO wr (P i) (fun q => F (i * nf + q)) (us.getD i default)
  apart : ∀ i, i < m → ∀ x, P i x → w.heap.size < x ∧ x < wr.heap.size
  disj : ∀ i j, i < m → j < m → i ≠ j → ∀ x, P i x → ¬ P j x
theorem LPart.push {T : Type} [Inhabited T] {ty nf : Nat} {EO : World → (Nat → Prop) → (Nat → Value) → T → Prop} (hE : Keeps nf EO) {w wr w1 : World} {n m : Nat} {F : Nat → Value} {P : Nat → Nat → Prop} {us : List T} {Q : Nat → Prop} {vs : List Value} (h : LPart ty nf EO w wr n F P us m) (hv : vs.length = nf) (b1 : Below wr.heap.size wr w1)
    (hQ : ∀ x, Q x → wr.heap.size ≤ x ∧ x < w1.heap.size) (he : EO (w1.setCells w.heap.size (m * nf) vs) Q (fun q => Own.upd F (m * nf) vs (m * nf + q)) (us.getD m default)) :
    LPart ty nf EO w (w1.setCells w.heap.size (m * nf) vs) n (Own.upd F (m * nf) vs) (fun i => if i = m then Q else P i) us (m + 1) := by
  have hlt := h.mine.lt
  have keep : ∀ g, g ≠ w.heap.size → (w1.setCells w.heap.size (m * nf) vs).heap[g]? = w1.heap[g]? := fun g hg => Cells.heap_setCells_other _ _ hg
  have hsize := Cells.size_setCells (g := w.heap.size) vs (o := m * nf) w1
  have b1s := b1.size
  refine ⟨Own.mine_setCells _ _ _ _ (h.mine.below b1 hlt), Cells.below_setCells (Nat.le_refl _) _ _ _ _ (chain h.bel b1), fun i hi => ?_, fun i hi x hx => ?_, fun i j hi hj hij x hx hx' => ?_⟩
  · by_cases e : i = m
    · subst e
      rw [if_pos rfl]
      exact he
    · rw [if_neg e]
      refine hE _ _ _ _ _ _ (h.el i (by omega)) (by rw [hsize]; exact b1s) (fun g hg => ?_) (fun q hq => ?_)
      · have := h.apart i (by omega) g hg
        exact (keep g (by omega)).trans (b1.block g (by omega))
      · refine Own.upd_out (.inl ?_)
        have : (i + 1) * nf ≤ m * nf := Nat.mul_le_mul_right nf (by omega)
        rw [Nat.succ_mul] at this
        omega
  · rw [hsize]
    by_cases e : i = m
    · subst e
      rw [if_pos rfl] at hx
      have := hQ x hx
      exact ⟨by omega, by omega⟩
    · rw [if_neg e] at hx
      have := h.apart i (by omega) x hx
      exact ⟨by omega, by omega⟩
  · by_cases e : i = m
    · subst e
      rw [if_pos rfl] at hx
      rw [if_neg (Ne.symm hij)] at hx'
      have a1 := hQ x hx
      have a2 := h.apart j (by omega) x hx'
      omega
    · rw [if_neg e] at hx
      by_cases e2 : j = m
      · subst e2
        rw [if_pos rfl] at hx'
        have a1 := hQ x hx'
        have a2 := h.apart i (by omega) x hx
        omega
      · rw [if_neg e2] at hx'
        exact h.disj i j (by omega) (by omega) hij x hx hx'
theorem LPart.own {T : Type} [Inhabited T] {ty nf : Nat} {EO : World → (Nat → Prop) → (Nat → Value) → T → Prop} {w wr : World} {F : Nat → Value} {P : Nat → Nat → Prop} {us : List T} (h : LPart ty nf EO w wr us.length F P us us.length) (hn : us.length ≤ 1048576) : LOwn ty nf EO wr (seg w.heap.size wr.heap.size) (.slice (some ⟨w.heap.size, 0, none⟩) us.length us.length) us :=
  ⟨hn, _, _, rfl, .inr ⟨w.heap.size, F, P, rfl, ⟨Nat.le_refl _, h.mine.lt⟩, fun i hi x hx => ⟨by have := h.apart i hi x hx; omega, (h.apart i hi x hx).2⟩, h.mine, rfl, h.el, fun i hi x hx => ⟨by have := h.apart i hi x hx; omega, (h.apart i hi x hx).2⟩, h.disj⟩⟩

set_option maxHeartbeats 800000 in
theorem toBatchS_core (g o n c b lo : Nat) (ts : List Bat) (H : Nat → Value) (w : World) (hn : n ≤ 1048576) (hc : n ≤ c) (hg : g < w.heap.size) (hb : b ≤ w.heap.size)
    (hf : ∀ i, i < n → FewB (ts.getD i default)) (hh : ∀ i, i < n → RecsAt w lo b (H i) (ts.getD i default).recs)
    (ha : ∀ i, i < n → ∀ j, j < 7 → w.cell? ⟨g, o + i * 7 + j, none⟩ = some (batsCells ts H i j)) :
    Calls Try.prog 55 #[.slice (some ⟨g, o, none⟩) n c] w fun e w' => ∃ F P, e = .returned (.slice (some ⟨w.heap.size, 0, none⟩) n n) ∧ LPart 48 7 EB w w' n F P ts n := by
  obtain ⟨i0, hi, hz0, hz1, hz2⟩ := info_parts Bats.info6
  have HA := Seg.hid ha; have HK := Seg.hid hf; have HH := Seg.hid hh
  clear ha hf hh
  go_enter Try.func55, Try.ntmps55
  go_wp2_with (at_make; refine wpList_make_full _ rfl _ _ 44 rfl w.heap.size 48 i0 _ 7 Try.underlying44 hi hz0 hz1 .i64 .i64 _ _ n rfl rfl rfl rfl (by rw [hz2]; omega) (by unfold maxLen; omega) (Nat.le_refl _) ?_; intro w1 hown hgr)
  have hb1 := (Below.refl w.heap.size w).grown hgr (Nat.le_refl _) (fun k hk => by cases hk)
  have HM := Seg.hid (Mine.of_made hown hown.1)
  have HB := Seg.hid hb1
  clear hown hgr hb1 hi hz0 hz1 hz2
  go_loopw [4] (fun i wr => ∃ (j : Nat) (F : Nat → Value) (P : Nat → Nat → Prop), j ≤ n ∧ i = .int .i64 j ∧ LPart 48 7 EB w wr n F P ts j) (fun i _ => n - (intOf i).toNat)
  case atStart => exact ⟨0, _, fun _ _ => False, Nat.zero_le _, rfl, HM.out, HB.out, fun i hi => absurd hi (by omega), fun i hi => absurd hi (by omega), fun i j hi => absurd hi (by omega)⟩
  case round =>
    clear HM HB
    obtain ⟨j, F, P, hj, rfl, HR⟩ := hrel
    by_cases hlt : j < n
    · obtain ⟨c0, c1, c2, c3, c4, c5, c6⟩ := Bats.six (Bats.six' HA.out HR.bel hg) j hlt
      have RA : Hid (BatAt wr lo b (.agg #[.int .i64 (ts.getD j default).base, .int .i64 (ts.getD j default).epoch, .int .i64 (ts.getD j default).producer, .int .i64 (ts.getD j default).turn, .int .i64 (ts.getD j default).seq, .int .i64 (ts.getD j default).flags, H j]) (ts.getD j default)) := ⟨_, rfl, (HH.out j hlt).below (HR.bel.mono hb)⟩
      have FW := Seg.hid (HK.out j hlt)
      have hbr : b ≤ wr.heap.size := Nat.le_trans hb HR.bel.size
      have ST : Hid (∀ w1 hv, Below wr.heap.size wr w1 → OwnR w1 (seg wr.heap.size w1.heap.size) hv (ts.getD j default).recs → LPart 48 7 EB w (w1.setCells w.heap.size (j * 7) (BatW.batArr (ts.getD j default) hv).toList) n (Own.upd F (j * 7) (BatW.batArr (ts.getD j default) hv).toList) (fun i => if i = j then seg wr.heap.size w1.heap.size else P i) ts (j + 1)) := fun w1 hv b1 ho => by
        have hcell : ∀ q, q < 7 → Own.upd F (j * 7) (BatW.batArr (ts.getD j default) hv).toList (j * 7 + q) = (BatW.batArr (ts.getD j default) hv).toList.getD q default := fun q hq => Own.upd_in (by simp [BatW.batArr]; omega)
        refine LPart.push keepsB HR (by simp [BatW.batArr]) b1 (fun x hx => hx) ⟨⟨?_, ?_, ?_, ?_, ?_, ?_⟩, ?_⟩
        · show Own.upd _ _ _ _ = _; rw [hcell 0 (by omega)]; rfl
        · show Own.upd _ _ _ _ = _; rw [hcell 1 (by omega)]; rfl
        · show Own.upd _ _ _ _ = _; rw [hcell 2 (by omega)]; rfl
        · show Own.upd _ _ _ _ = _; rw [hcell 3 (by omega)]; rfl
        · show Own.upd _ _ _ _ = _; rw [hcell 4 (by omega)]; rfl
        · show Own.upd _ _ _ _ = _; rw [hcell 5 (by omega)]; rfl
        · show OwnR _ _ (Own.upd _ _ _ _) _
          rw [hcell 6 (by omega)]
          show OwnR _ _ hv _
          have hl := HR.mine.lt
          exact LOwn.keep keepsR ho (by rw [Cells.size_setCells]; exact Nat.le_refl _) (fun g hg => Cells.heap_setCells_other _ _ (by have := hg.1; omega))
      have HM := Seg.hid HR.mine
      have h0 : (0 : Int) ≤ (j : Int) := by omega
      have h1 : (j : Int) < (n : Int) := by omega
      clear HR
      generalize ts.getD j default = rj at *
      go_wp2_with fail
      refine (ToO.toBatch_own _ rj wr lo b RA.out hbr FW.out).mono ?_
      rintro e w1 ⟨hv1, rfl, hh1, ho1, b1⟩
      have S1 := Seg.hid (ST.out w1 hv1 b1 (own_recs hh1 ho1))
      have M1 := Seg.hid (Own.mine_there (o := j * 7) (m := 7) (HM.out.below b1 HM.out.lt) (by omega))
      obtain ⟨_, ⟨_, A1, k1, rfl, _⟩, _⟩ := hh1
      clear b1 ho1
      have M2 : Hid (w1.there w.heap.size (j * 7) (BatW.batArr rj (.slice A1 rj.recs.length k1)).size) := M1.out
      clear M1
      rw [show batVal rj (.slice A1 rj.recs.length k1) = .agg (BatW.batArr rj (.slice A1 rj.recs.length k1)) from rfl]
      go_wp2_with (refine wpList_store_mid rfl 48 _ _ rfl w.heap.size (j * 7) (BatW.batArr rj (.slice A1 rj.recs.length k1)) rfl rfl ?ht BatW.info40 (BatW.batArr_one _ _ rfl) ?_; case ht => exact M2.out)
      go_roundw
      case rel => exact ⟨j + 1, _, _, by omega, by go_num, S1.out⟩
      case measure => simp [intOf]; omega
    · have : j = n := by omega
      subst this
      go_wp2
      go_ret
      exact ⟨F, P, rfl, HR⟩

theorem toBatchS_own (v : Value) (ts : List Bat) (w : World) (lo b : Nat) (hv : BatsAt w lo b v ts) (hb : b ≤ w.heap.size) (hl : ts.length ≤ 1048576) (hf : ∀ i, i < ts.length → FewB (ts.getD i default)) :
    Calls Try.prog 55 #[v] w fun e w' => ∃ v', e = .returned v' ∧ OwnB w' (seg w.heap.size w'.heap.size) v' ts ∧ Below w.heap.size w w' := by
  obtain ⟨H, ⟨hn, A, c, rfl, h⟩, hh⟩ := hv
  by_cases hz : ts.length = 0
  · have : ts = [] := List.length_eq_zero_iff.1 hz
    subst this
    refine (Bats.toBatchS_none A c w).mono fun e w' ⟨v', a1, ⟨A', c', a2⟩, a3⟩ => ⟨v', a1, ?_, a3⟩
    rw [a2]
    exact LOwn.nil _ _ _ _
  obtain ⟨g, o, rfl, hg, hc, hcell, _⟩ := h.resolve_left hz
  exact (toBatchS_core g o ts.length c b lo ts H w hl hc (by omega) hb hf hh hcell).mono fun e w' ⟨F, P, a1, a2⟩ => ⟨_, a1, a2.own hl, a2.bel⟩

set_option maxHeartbeats 400000 in
theorem toSegment_own (v : Value) (t : Sg) (w : World) (lo b : Nat) (hv : SegAt w lo b v t) (hb : b ≤ w.heap.size) (hf : FewS t) :
    Calls Try.prog 37 #[v] w fun e w' => ∃ bv, e = .returned (segVal t bv) ∧ OwnB w' (seg w.heap.size w'.heap.size) bv t.bats ∧ Below w.heap.size w w' := by
  obtain ⟨hv, rfl, hh⟩ := hv
  have HH := Seg.hid hh
  obtain ⟨H, ⟨hn, A, c, hve, _⟩, _⟩ := id hh
  clear hh
  unfold segVal
  subst hve
  go_enter Try.func37, Try.ntmps37
  go_wp2_with fail
  refine (toBatchS_own _ t.bats (((w.alloc _).alloc _).alloc _) lo b (HH.out.below ((below3 w _ _ _).mono hb)) (by rw [hsz, hsz, hsz]; omega) hf.1 hf.2).mono ?_
  rintro e w1 ⟨v', rfl, hh1, b1⟩
  have B1 := Seg.hid (chain (below3 w _ _ _) b1)
  have T1 := (b1.block (w.heap.size + 1) (by rw [hsz, hsz, hsz]; omega)).trans (at3 w _ _ _)
  have T2 := (b1.block (w.heap.size + 1 + 1) (by rw [hsz, hsz, hsz]; omega)).trans (Cells.at3' w _ _ _)
  have HH1 := Seg.hid hh1
  obtain ⟨A', c', hve⟩ := LOwn.form hh1
  clear hh1 b1
  subst hve
  have cN := cell_of_row w1 (w.heap.size + 1 + 1) 1 _ _ _ T2
  have zN := frozen_of_row w1 (w.heap.size + 1 + 1) 1 _ _ T2
  have H3 : Hid ((w1.setCell ⟨w.heap.size + 1 + 1, 1, none⟩ (.slice A' t.bats.length c')).heap[w.heap.size + 1 + 1]? = some (.cells (segArr t (.slice A' t.bats.length c')) 73 (0, 0))) := heap_setCell_same w1 (w.heap.size + 1 + 1) 1 _ _ (.slice A' t.bats.length c') T2
  have T4 := (heap_setCell_other w1 ⟨w.heap.size + 1 + 1, 1, none⟩ (w.heap.size + 1) (.slice A' t.bats.length c') (by simp)).trans T1
  have H5 := Seg.hid (Cells.there_of T4)
  have H4 := Seg.hid (Cells.whole (vs := segArr t (.slice A' t.bats.length c')) T4 rfl)
  have B2 := Seg.hid (Cells.below_setCells (g := w.heap.size + 1) (by omega) (segArr t (.slice A' t.bats.length c')).toList 0 _ _ (B1.out.setCell (p := ⟨w.heap.size + 1 + 1, 1, none⟩) (by simp; omega) (.slice A' t.bats.length c')))
  have HF : Hid (OwnB ((w1.setCell ⟨w.heap.size + 1 + 1, 1, none⟩ (.slice A' t.bats.length c')).setCells (w.heap.size + 1) 0 (segArr t (.slice A' t.bats.length c')).toList) (seg w.heap.size ((w1.setCell ⟨w.heap.size + 1 + 1, 1, none⟩ (.slice A' t.bats.length c')).setCells (w.heap.size + 1) 0 (segArr t (.slice A' t.bats.length c')).toList).heap.size) (.slice A' t.bats.length c') t.bats) := by
    refine (LOwn.keep keepsB HH1.out (by rw [Cells.size_setCells]; simp) (fun g h1 => ?_)).mono (fun x hx => ?_)
    · have := h1.1
      rw [hsz, hsz, hsz] at this
      rw [Cells.heap_setCells_other _ _ (by omega), heap_setCell_other _ _ _ _ (by show _ ≠ w.heap.size + 1 + 1; omega)]
    · obtain ⟨x1, x2⟩ := hx
      rw [hsz, hsz, hsz] at x1
      refine ⟨by omega, ?_⟩
      rw [Cells.size_setCells]
      simpa using x2
  clear T1 T2 T4
  simp at cN
  go_wp2_with (first | (refine wpList_load_row rfl 73 _ rfl (w.heap.size + 1 + 1) rfl _ _ _ _ H3.out Try.underlying73 rfl infoN ?_) | (refine wpList_store_mid rfl 73 _ _ rfl (w.heap.size + 1) 0 (segArr t (.slice A' t.bats.length c')) rfl rfl H5.out infoN (segArr_one _ _ rfl) ?_))
  exact bodyPost_ret (v := segVal t (.slice A' t.bats.length c')) (results_cell_row rfl _ _ (w.heap.size + 1) _ _ _ _ rfl H4.out Try.underlying73 rfl infoN) rfl ⟨_, rfl, HF.out, B2.out⟩
end Go.Proofs.Ytdnfnjlnfmafkaa.Ft
