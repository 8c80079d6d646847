/- The law's copiers once more: what they copy is theirs to write; The law's marks on Heads and Records. -/
import Derived.Laws.BytesArg
import Derived.WalkLawsBesides
import Derived.Test.YtdnbcfochlfopaaRows
import Derived.Test.YtdnbcfochlfopaaJW14
namespace Go.Proofs.Ytdnbcfochlfopaa.ToO
set_option maxRecDepth 8000
open Go.RowKit
open Recs
set_option linter.unusedVariables false

/-- Block g is a row of the call's own, of n elements of s cells, with room for c; cell q holds 'F q'. -/
def MineC (w : World) (e s g n c : Nat) (F : Nat → Value) : Prop := w.ownsRow g e s (.slice (some ⟨g, 0, none⟩) n c) n ((List.range (n * s)).map F)
section
variable {w w' : World} {e s g n c b : Nat} {F : Nat → Value}
theorem MineC.cell (h : MineC w e s g n c F) (q : Nat) (hq : q < n * s) : w.cell? ⟨g, q, none⟩ = some (F q) := by
  have := World.ownsRow.cellAt h q hq
  rw [this]
  simp [hq]
theorem MineC.frozen (h : MineC w e s g n c F) (q : Nat) : w.frozen? ⟨g, q, none⟩ = false := World.ownsRow.frozenAt h q
theorem MineC.lt (h : MineC w e s g n c F) : g < w.heap.size := by
  rcases h.2 with ⟨h', _⟩ | ⟨g', cap', cur, h', hb, hg, hnc, hcm, hcs, htake⟩
  · simp at h'
  · simp only [Value.slice.injEq, Option.some.injEq, Addr.mk.injEq, and_true, true_and] at h'
    obtain ⟨rfl, rfl⟩ := h'
    exact (Array.getElem?_eq_some_iff.1 hg).1
theorem MineC.le (h : MineC w e s g n c F) : n ≤ c := by
  rcases h.2 with ⟨h', _⟩ | ⟨g', cap', cur, h', hb, hg, hnc, hcm, hcs, htake⟩
  · simp at h'
  · simp only [Value.slice.injEq, Option.some.injEq, Addr.mk.injEq, and_true, true_and] at h'
    obtain ⟨rfl, rfl⟩ := h'
    exact hnc
theorem MineC.set (h : MineC w e s g n c F) (q : Nat) (v : Value) : MineC (w.setCell ⟨g, q, none⟩ v) e s g n c (fun i => if i = q then v else F i) := by
  have := (World.ownsRow.stored h q v).1
  have he : ((List.range (n * s)).map F).set q v = (List.range (n * s)).map (fun i => if i = q then v else F i) := List.ext_getElem (by simp) fun i h1 h2 => by
    by_cases hi : i = q
    · subst hi; simp
    · rw [List.getElem_set_ne (by omega)]; simp [hi]
  rw [he] at this
  exact this
theorem MineC.keep (h : MineC w e s g n c F) (hk : w'.heap[g]? = w.heap[g]?) : MineC w' e s g n c F := by
  refine ⟨h.1, ?_⟩
  rcases h.2 with hn | ⟨g', cap, cur, h', hbs, hgg, rest⟩
  · exact .inl hn
  · have h'' := h'
    simp only [Value.slice.injEq, Option.some.injEq, Addr.mk.injEq, and_true, true_and] at h''
    obtain ⟨rfl, rfl⟩ := h''
    exact .inr ⟨g, c, cur, h', hbs, by rw [hk]; exact hgg, rest⟩
end
/-- A list of Heads that is the call's own, in a block from lo on, below b. -/
def HOwn (w : World) (lo b : Nat) (v : Value) (n : Nat) : Prop := n ≤ 1048576 ∧ ∃ A c, v = .slice A n c ∧ (n = 0 ∨ ∃ g F, A = some ⟨g, 0, none⟩ ∧ lo ≤ g ∧ g < b ∧ MineC w 100 2 g n c F)
theorem HOwn.keep {w w' : World} {lo b n : Nat} {v : Value} (h : HOwn w lo b v n) (hk : ∀ g, lo ≤ g → g < b → w'.heap[g]? = w.heap[g]?) : HOwn w' lo b v n := by
  obtain ⟨h0, A, c, h1, h2⟩ := h
  refine ⟨h0, A, c, h1, h2.imp id ?_⟩
  rintro ⟨g, F, h3, h4, h5, h6⟩
  exact ⟨g, F, h3, h4, h5, h6.keep (hk g h4 h5)⟩
theorem HOwn.mono {w : World} {lo lo' b b' n : Nat} {v : Value} (h : HOwn w lo b v n) (hl : lo' ≤ lo) (hb : b ≤ b') : HOwn w lo' b' v n := by
  obtain ⟨h0, A, c, h1, h2⟩ := h
  refine ⟨h0, A, c, h1, h2.imp id ?_⟩
  rintro ⟨g, F, h3, h4, h5, h6⟩
  exact ⟨g, F, h3, Nat.le_trans hl h4, Nat.lt_of_lt_of_le h5 hb, h6⟩

set_option maxHeartbeats 400000 in
theorem toHeadS_core (g o n c : Nat) (K V : Nat → ByteArray) (w : World) (hn : n ≤ 1048576) (hc : n ≤ c) (hg : g < w.heap.size)
    (ha : ∀ i, i < n → w.cell? ⟨g, o + i * 2, none⟩ = some (.string (K i)) ∧ w.cell? ⟨g, o + i * 2 + 1, none⟩ = some (.string (V i))) :
    Calls Try.prog 112 #[.slice (some ⟨g, o, none⟩) n c] w fun e w' => ∃ v, e = .returned v ∧ Row w' w.heap.size w'.heap.size 2 v n (fun i j => if j = 0 then .string (K i) else .string (V i)) ∧ HOwn w' w.heap.size w'.heap.size v n ∧ Below w.heap.size w w' := by
  obtain ⟨i0, hi, hz0, hz1, hz2⟩ := info_parts Sz.info2
  have HA := Seg.hid ha
  clear ha
  go_enter Try.func112, Try.ntmps112
  go_wp2_with (at_make; refine wpList_make_full _ rfl _ _ 34 rfl w.heap.size 100 i0 _ 2 Try.underlying34 hi hz0 hz1 .i64 .i64 _ _ n rfl rfl rfl rfl (by rw [hz2]; omega) (by unfold maxLen; omega) (Nat.le_refl _) ?_; intro w1 hown hgr)
  have hb1 := (Below.refl w.heap.size w).grown hgr (Nat.le_refl _) (fun k hk => by cases hk)
  have HM := Seg.hid (Mine.of_made hown hown.1)
  have HB := Seg.hid hb1
  clear hown hgr hb1 hi hz0 hz1 hz2
  go_loopw [4] (fun i wr => ∃ (j : Nat) (F : Nat → Value), j ≤ n ∧ i = .int .i64 j ∧ Hid (Mine wr 100 2 w.heap.size n F ∧ Below w.heap.size w wr ∧ ∀ i, i < j → F (i * 2) = .string (K i) ∧ F (i * 2 + 1) = .string (V i))) (fun i _ => n - (intOf i).toNat)
  case atStart => exact ⟨0, _, Nat.zero_le _, rfl, HM.out, HB.out, fun i hi => absurd hi (by omega)⟩
  case round =>
    clear HM HB
    obtain ⟨j, F, hj, rfl, HR⟩ := hrel
    by_cases hlt : j < n
    · have c1 : wr.cell? ⟨g, o + j * 2, none⟩ = some (.string (K j)) := by rw [HR.out.2.1.cell (p := ⟨g, o + j * 2, none⟩) hg]; exact (HA.out j hlt).1
      have c2 : wr.cell? ⟨g, o + j * 2 + 1, none⟩ = some (.string (V j)) := by rw [HR.out.2.1.cell (p := ⟨g, o + j * 2 + 1, none⟩) hg]; exact (HA.out j hlt).2
      have h0 : (0 : Int) ≤ (j : Int) := by omega
      have h1 : (j : Int) < (n : Int) := by omega
      go_wp2_with fail
      refine (Sz.toHead_any (K j) (V j) wr).mono ?_
      rintro e w1 ⟨rfl, b1⟩
      have M1 : Hid (Mine w1 100 2 w.heap.size n F) := HR.out.1.below b1 HR.out.1.lt
      have B1 := Seg.hid (HR.out.2.1.trans (b1.mono HR.out.2.1.size))
      clear b1
      have d1 := M1.out.cell (j * 2) (by omega)
      have d2 := M1.out.cell (j * 2 + 1) (by omega)
      have f1 := M1.out.frozen (j * 2)
      have f2 := M1.out.frozen (j * 2 + 1)
      have M2 := Seg.hid ((M1.out.set (j * 2) (.string (K j))).set (j * 2 + 1) (.string (V j)))
      have B2 := Seg.hid ((B1.out.setCell (p := ⟨w.heap.size, j * 2, none⟩) (Nat.le_refl _) (.string (K j))).setCell (p := ⟨w.heap.size, j * 2 + 1, none⟩) (Nat.le_refl _) (.string (V j)))
      go_wp2
      go_roundw
      case rel =>
        refine ⟨j + 1, _, by omega, by go_num, M2.out, B2.out, fun i hi => ?_⟩
        have hr := HR.out.2.2
        by_cases he : i = j
        · subst he; simp
        · have := hr i (by omega)
          simp [show ¬ i * 2 = j * 2 + 1 by omega, show ¬ i * 2 = j * 2 by omega, show ¬ i * 2 + 1 = j * 2 by omega, this]
      case measure => simp [intOf]; omega
    · have : j = n := by omega
      subst this
      go_wp2
      go_ret
      exact ⟨_, rfl, HR.out.1.row (by omega) HR.out.1.lt (Nat.le_refl _) (fun i hi q hq => Sz.row2 (HR.out.2.2 i hi) q hq), ⟨hn, _, _, rfl, .inr ⟨w.heap.size, F, rfl, Nat.le_refl _, HR.out.1.lt, HR.out.1⟩⟩, HR.out.2.1⟩

theorem toHeadS_own (v : Value) (hs : List Hd) (w : World) (lo b : Nat) (hv : Heads w lo b v hs) (hb : b ≤ w.heap.size) (hl : hs.length ≤ 1048576) :
    Calls Try.prog 112 #[v] w fun e w' => ∃ v', e = .returned v' ∧ Heads w' w.heap.size w'.heap.size v' hs ∧ HOwn w' w.heap.size w'.heap.size v' hs.length ∧ Below w.heap.size w w' := by
  obtain ⟨hn, A, c, rfl, h⟩ := hv
  by_cases hz : hs.length = 0
  · rw [hz]
    refine (Sz.toHeadS_none A c w).mono fun e w' ⟨v', a1, ⟨A', c', a2⟩, a3⟩ => ⟨v', a1, ⟨hn, A', c', ?_, .inl hz⟩, ⟨by omega, A', c', ?_, .inl rfl⟩, a3⟩
    · rw [a2, hz]
    · rw [a2]
  obtain ⟨g, o, rfl, hg, hc, hcell, _⟩ := h.resolve_left hz
  exact toHeadS_core g o hs.length c (fun i => (hs.getD i default).key) (fun i => (hs.getD i default).val) w hl hc (by omega) (fun i hi => Heads.cell0 hcell i hi)

set_option maxHeartbeats 400000 in
theorem toRecord_own (v : Value) (r : Rec) (w : World) (lo b : Nat) (hv : RecAt w lo b v r) (hb : b ≤ w.heap.size) (hf : FewR r) :
    Calls Try.prog 89 #[v] w fun e w' => ∃ hv', e = .returned (recVal r hv') ∧ Heads w' w.heap.size w'.heap.size hv' r.heads ∧ HOwn w' w.heap.size w'.heap.size hv' r.heads.length ∧ Below w.heap.size w w' := by
  obtain ⟨hv, rfl, hh⟩ := hv
  have HH := Seg.hid hh
  obtain ⟨hn, A, c, hve, _⟩ := id hh
  clear hh
  unfold recVal
  subst hve
  go_enter Try.func89, Try.ntmps89
  go_wp2_with fail
  refine (toHeadS_own _ r.heads (((w.alloc _).alloc _).alloc _) lo b (HH.out.below ((below3 w _ _ _).mono hb)) (by rw [hsz, hsz, hsz]; omega) hf).mono ?_
  rintro e w1 ⟨v', rfl, hh1, ho1, b1⟩
  have B1 := Seg.hid (chain (below3 w _ _ _) b1)
  have T1 := (b1.block (w.heap.size + 1) (by rw [hsz, hsz, hsz]; omega)).trans (at3 w _ _ _)
  have T2 := (b1.block (w.heap.size + 1 + 1) (by rw [hsz, hsz, hsz]; omega)).trans (Cells.at3' w _ _ _)
  have HH1 := Seg.hid hh1; have HO1 := Seg.hid ho1
  obtain ⟨_, A', c', hve, _⟩ := id hh1
  clear hh1 b1 ho1
  subst hve
  have c5 := cell_of_row w1 (w.heap.size + 1 + 1) 5 _ _ _ T2
  have z5 := frozen_of_row w1 (w.heap.size + 1 + 1) 5 _ _ T2
  have H3 : Hid ((w1.setCell ⟨w.heap.size + 1 + 1, 5, none⟩ (.slice A' r.heads.length c')).heap[w.heap.size + 1 + 1]? = some (.cells (RecW.recArr r (.slice A' r.heads.length c')) 36 (0, 0))) := heap_setCell_same w1 (w.heap.size + 1 + 1) 5 _ _ (.slice A' r.heads.length c') T2
  have T4 := (heap_setCell_other w1 ⟨w.heap.size + 1 + 1, 5, none⟩ (w.heap.size + 1) (.slice A' r.heads.length c') (by simp)).trans T1
  have H5 := Seg.hid (Cells.there_of T4)
  have H4 := Seg.hid (Cells.whole (vs := RecW.recArr r (.slice A' r.heads.length c')) T4 rfl)
  have B2 := Seg.hid (Cells.below_setCells (g := w.heap.size + 1) (by omega) (RecW.recArr r (.slice A' r.heads.length c')).toList 0 _ _ (B1.out.setCell (p := ⟨w.heap.size + 1 + 1, 5, none⟩) (by simp; omega) (.slice A' r.heads.length c')))
  have keep : ∀ g, (((w.alloc (.cells #[.int .i64 r.time, .bool r.keyed, .string r.key, .bool r.gone, .string r.val, .slice A r.heads.length c] 110 (0, 0))).alloc default).alloc default).heap.size ≤ g → ((w1.setCell ⟨w.heap.size + 1 + 1, 5, none⟩ (.slice A' r.heads.length c')).setCells (w.heap.size + 1) 0 (RecW.recArr r (.slice A' r.heads.length c')).toList).heap[g]? = w1.heap[g]? := fun g h1 => by
    rw [hsz, hsz, hsz] at h1
    rw [Cells.heap_setCells_other _ _ (by omega), heap_setCell_other _ _ _ _ (by show _ ≠ w.heap.size + 1 + 1; omega)]
  have hsize : ((w1.setCell ⟨w.heap.size + 1 + 1, 5, none⟩ (.slice A' r.heads.length c')).setCells (w.heap.size + 1) 0 (RecW.recArr r (.slice A' r.heads.length c')).toList).heap.size = w1.heap.size := by rw [Cells.size_setCells]; simp
  have HF : Hid (Heads ((w1.setCell ⟨w.heap.size + 1 + 1, 5, none⟩ (.slice A' r.heads.length c')).setCells (w.heap.size + 1) 0 (RecW.recArr r (.slice A' r.heads.length c')).toList) w.heap.size ((w1.setCell ⟨w.heap.size + 1 + 1, 5, none⟩ (.slice A' r.heads.length c')).setCells (w.heap.size + 1) 0 (RecW.recArr r (.slice A' r.heads.length c')).toList).heap.size (.slice A' r.heads.length c') r.heads) := by
    refine (Heads.keep HH1.out (fun g h1 h2 => keep g (by rw [hsz, hsz, hsz] at h1 ⊢; exact h1))).mono ?_ ?_
    · rw [hsz, hsz, hsz]; omega
    · rw [hsize]; exact Nat.le_refl _
  have HG : Hid (HOwn ((w1.setCell ⟨w.heap.size + 1 + 1, 5, none⟩ (.slice A' r.heads.length c')).setCells (w.heap.size + 1) 0 (RecW.recArr r (.slice A' r.heads.length c')).toList) w.heap.size ((w1.setCell ⟨w.heap.size + 1 + 1, 5, none⟩ (.slice A' r.heads.length c')).setCells (w.heap.size + 1) 0 (RecW.recArr r (.slice A' r.heads.length c')).toList).heap.size (.slice A' r.heads.length c') r.heads.length) := by
    refine (HOwn.keep HO1.out (fun g h1 h2 => keep g (by rw [hsz, hsz, hsz] at h1 ⊢; exact h1))).mono ?_ ?_
    · rw [hsz, hsz, hsz]; omega
    · rw [hsize]; exact Nat.le_refl _
  clear T1 T2 T4 keep hsize
  simp at c5
  go_wp2_with (first | (refine wpList_load_row rfl 36 _ rfl (w.heap.size + 1 + 1) rfl _ _ _ _ H3.out Try.underlying36 rfl RecW.info29 ?_) | (refine wpList_store_mid rfl 36 _ _ rfl (w.heap.size + 1) 0 (RecW.recArr r (.slice A' r.heads.length c')) rfl rfl H5.out RecW.info29 (RecW.recArr_one _ _ rfl) ?_))
  exact bodyPost_ret (v := recVal r (.slice A' r.heads.length c')) (results_cell_row rfl _ _ (w.heap.size + 1) _ _ _ _ rfl H4.out Try.underlying36 rfl RecW.info29) rfl ⟨_, rfl, HF.out, HG.out, B2.out⟩

/-- What the loop has done: j elements are copied; the Heads' rows lie in windows one behind the other. -/
structure DoneO (w wr : World) (rs : List Rec) (n j : Nat) (F : Nat → Value) (m : Nat → Nat) : Prop where
  done : RecsW.Done w wr rs n j F
  own : ∀ i, i < j → HOwn wr (m i) (m (i + 1)) (F (i * 6 + 5)) (rs.getD i default).heads.length
  mono : ∀ i, i < j → m i ≤ m (i + 1)
  fst : w.heap.size < m 0
  top : m j ≤ wr.heap.size
theorem win_le {m : Nat → Nat} {n : Nat} (h : ∀ i, i < n → m i ≤ m (i + 1)) : ∀ a b, a ≤ b → b ≤ n → m a ≤ m b
  | a, 0, hab, _ => by rw [Nat.le_zero.1 hab]; exact Nat.le_refl _
  | a, b + 1, hab, hb => by
    by_cases he : a = b + 1
    · rw [he]; exact Nat.le_refl _
    · exact Nat.le_trans (win_le h a b (by omega) (by omega)) (h b (by omega))
theorem DoneO.step {w wr w1 : World} {rs : List Rec} {n j : Nat} {F : Nat → Value} {m : Nat → Nat} (h : DoneO w wr rs n j F m) (hj : j < n) (hv : Value) (b1 : Below wr.heap.size wr w1) (hh : Heads w1 wr.heap.size w1.heap.size hv (rs.getD j default).heads) (ho : HOwn w1 wr.heap.size w1.heap.size hv (rs.getD j default).heads.length) :
    DoneO w (w1.setCells w.heap.size (j * 6) (RecW.recArr (rs.getD j default) hv).toList) rs n (j + 1) (Own.upd F (j * 6) (RecW.recArr (rs.getD j default) hv).toList) (fun i => if i = j + 1 then w1.heap.size else m i) := by
  have hlt := h.done.mine.lt
  have hfst := h.fst
  have keep : ∀ g, g ≠ w.heap.size → (w1.setCells w.heap.size (j * 6) (RecW.recArr (rs.getD j default) hv).toList).heap[g]? = w1.heap[g]? := fun g hg => Cells.heap_setCells_other _ _ hg
  have hsize := Cells.size_setCells (g := w.heap.size) (RecW.recArr (rs.getD j default) hv).toList (o := j * 6) w1
  have hcell : ∀ q, q < 6 → Own.upd F (j * 6) (RecW.recArr (rs.getD j default) hv).toList (j * 6 + q) = (RecW.recArr (rs.getD j default) hv).toList.getD q default := fun q hq => Own.upd_in (by simp [RecW.recArr]; omega)
  have hold : ∀ i, i < j → ∀ q, q < 6 → Own.upd F (j * 6) (RecW.recArr (rs.getD j default) hv).toList (i * 6 + q) = F (i * 6 + q) := fun i hi q hq => Own.upd_out (.inl (by omega))
  have wl := win_le h.mono
  refine ⟨h.done.step hj hv b1 hh, ?_, ?_, ?_, ?_⟩
  · intro i hi
    by_cases he : i = j
    · subst he
      rw [hcell 5 (by omega)]
      rw [if_neg (by omega), if_pos rfl]
      show HOwn _ _ _ hv _
      exact (ho.keep fun g h1 h2 => keep g (by omega)).mono h.top (Nat.le_refl _)
    · rw [hold i (by omega) 5 (by omega)]
      have m0 := wl 0 i (by omega) (by omega)
      have m1 := wl (i + 1) j (by omega) (Nat.le_refl _)
      have ht := h.top
      rw [if_neg (by omega), if_neg (by omega)]
      exact (h.own i (by omega)).keep fun g h1 h2 => (keep g (by omega)).trans (b1.block g (by omega))
  · intro i hi
    by_cases he : i = j
    · subst he
      rw [if_neg (by omega), if_pos rfl]
      exact Nat.le_trans h.top b1.size
    · rw [if_neg (by omega), if_neg (by omega)]
      exact h.mono i (by omega)
  · show w.heap.size < if 0 = j + 1 then _ else m 0
    rw [if_neg (by omega)]
    exact hfst
  · show (if j + 1 = j + 1 then w1.heap.size else _) ≤ _
    rw [if_pos rfl, hsize]
    exact Nat.le_refl _

/-- Records that are the call's own: theirs is block g, their Heads' are in windows behind it. -/
structure ROwn (w : World) (lo hi : Nat) (v : Value) (n : Nat) (ln : Nat → Nat) : Prop where
  hi_le : hi ≤ w.heap.size
  le : n ≤ 1048576
  few : ∀ i, i < n → ln i ≤ 1048576
  own : (∃ A c, v = .slice A 0 c ∧ n = 0) ∨ ∃ (g c : Nat) (F : Nat → Value) (m : Nat → Nat), v = .slice (some ⟨g, 0, none⟩) n c ∧ lo ≤ g ∧ MineC w 36 6 g n c F ∧ g < m 0 ∧ (∀ i, i < n → m i ≤ m (i + 1)) ∧ m n ≤ hi ∧ ∀ i, i < n → HOwn w (m i) (m (i + 1)) (F (i * 6 + 5)) (ln i)

set_option maxHeartbeats 800000 in
theorem toRecordS_core (g o n c b lo : Nat) (rs : List Rec) (H : Nat → Value) (w : World) (hn : n ≤ 1048576) (hc : n ≤ c) (hg : g < w.heap.size) (hb : b ≤ w.heap.size)
    (hf : ∀ i, i < n → FewR (rs.getD i default)) (hh : ∀ i, i < n → Heads w lo b (H i) (rs.getD i default).heads)
    (ha : ∀ i, i < n → ∀ j, j < 6 → w.cell? ⟨g, o + i * 6 + j, none⟩ = some (recCells rs H i j)) :
    Calls Try.prog 55 #[.slice (some ⟨g, o, none⟩) n c] w fun e w' => ∃ (F : Nat → Value) (m : Nat → Nat), e = .returned (.slice (some ⟨w.heap.size, 0, none⟩) n n) ∧ DoneO w w' rs n n F m := by
  obtain ⟨i0, hi, hz0, hz1, hz2⟩ := info_parts RecsW.info6
  have HA := Seg.hid ha; have HK := Seg.hid hf; have HH := Seg.hid hh
  clear ha hf hh
  go_enter Try.func55, Try.ntmps55
  go_wp2_with (at_make; refine wpList_make_full _ rfl _ _ 24 rfl w.heap.size 36 i0 _ 6 Try.underlying24 hi hz0 hz1 .i64 .i64 _ _ n rfl rfl rfl rfl (by rw [hz2]; omega) (by unfold maxLen; omega) (Nat.le_refl _) ?_; intro w1 hown hgr)
  have hb1 := (Below.refl w.heap.size w).grown hgr (Nat.le_refl _) (fun k hk => by cases hk)
  have HM := Seg.hid (Mine.of_made hown hown.1)
  have HB := Seg.hid hb1
  clear hown hgr hb1 hi hz0 hz1 hz2
  have hz1 := HM.out.lt
  go_loopw [4] (fun i wr => ∃ (j : Nat) (F : Nat → Value) (m : Nat → Nat), j ≤ n ∧ i = .int .i64 j ∧ DoneO w wr rs n j F m) (fun i _ => n - (intOf i).toNat)
  case atStart => exact ⟨0, _, fun _ => w1.heap.size, Nat.zero_le _, rfl, ⟨HM.out, HB.out, fun i hi => absurd hi (by omega), fun i hi => absurd hi (by omega)⟩, fun i hi => absurd hi (by omega), fun i hi => absurd hi (by omega), hz1, Nat.le_refl _⟩
  case round =>
    clear HM HB
    obtain ⟨j, F, m, hj, rfl, HR⟩ := hrel
    by_cases hlt : j < n
    · obtain ⟨c0, c1, c2, c3, c4, c5⟩ := RecsW.six (RecsW.six' HA.out HR.done.bel hg) j hlt
      have RA : Hid (RecAt wr lo b (.agg #[.int .i64 (rs.getD j default).time, .bool (rs.getD j default).keyed, .string (rs.getD j default).key, .bool (rs.getD j default).gone, .string (rs.getD j default).val, H j]) (rs.getD j default)) := ⟨_, rfl, (HH.out j hlt).below (HR.done.bel.mono hb)⟩
      have FW := Seg.hid (HK.out j hlt)
      have hbr : b ≤ wr.heap.size := Nat.le_trans hb HR.done.bel.size
      have ST := Seg.hid (fun w1 hv b1 hh ho => DoneO.step (w1 := w1) HR hlt hv b1 hh ho)
      have HM := Seg.hid HR.done.mine
      have h0 : (0 : Int) ≤ (j : Int) := by omega
      have h1 : (j : Int) < (n : Int) := by omega
      clear HR
      generalize rs.getD j default = rj at *
      go_wp2_with fail
      refine (toRecord_own _ rj wr lo b RA.out hbr FW.out).mono ?_
      rintro e w1 ⟨hv1, rfl, hh1, ho1, b1⟩
      have S1 := Seg.hid (ST.out w1 hv1 b1 hh1 ho1)
      have M1 := Seg.hid (Own.mine_there (o := j * 6) (m := 6) (HM.out.below b1 HM.out.lt) (by omega))
      obtain ⟨_, A1, k1, rfl, _⟩ := hh1
      clear b1 ho1
      have M2 : Hid (w1.there w.heap.size (j * 6) (RecW.recArr rj (.slice A1 rj.heads.length k1)).size) := M1.out
      clear M1
      rw [show recVal rj (.slice A1 rj.heads.length k1) = .agg (RecW.recArr rj (.slice A1 rj.heads.length k1)) from rfl]
      go_wp2_with (refine wpList_store_mid rfl 36 _ _ rfl w.heap.size (j * 6) (RecW.recArr rj (.slice A1 rj.heads.length k1)) rfl rfl ?ht RecW.info29 (RecW.recArr_one _ _ rfl) ?_; case ht => exact M2.out)
      go_roundw
      case rel => exact ⟨j + 1, _, _, by omega, by go_num, S1.out⟩
      case measure => simp [intOf]; omega
    · have : j = n := by omega
      subst this
      go_wp2
      go_ret
      exact ⟨F, m, rfl, HR⟩

theorem toRecordS_own (v : Value) (rs : List Rec) (w : World) (lo b : Nat) (hv : RecsAt w lo b v rs) (hb : b ≤ w.heap.size) (hl : rs.length ≤ 1048576) (hf : ∀ i, i < rs.length → FewR (rs.getD i default)) :
    Calls Try.prog 55 #[v] w fun e w' => ∃ v', e = .returned v' ∧ RecsAt w' w.heap.size w'.heap.size v' rs ∧ ROwn w' w.heap.size w'.heap.size v' rs.length (fun i => (rs.getD i default).heads.length) ∧ Below w.heap.size w w' := by
  obtain ⟨H, ⟨hn, A, c, rfl, h⟩, hh⟩ := hv
  by_cases hz : rs.length = 0
  · rw [hz]
    refine (RecsW.toRecordS_none A c w).mono fun e w' ⟨v', a1, ⟨A', c', a2⟩, a3⟩ => ⟨v', a1, ⟨H, ⟨hn, A', c', ?_, .inl hz⟩, fun i hi => absurd hi (by omega)⟩, ⟨Nat.le_refl _, by omega, fun i hi => absurd hi (by omega), .inl ⟨A', c', a2, rfl⟩⟩, a3⟩
    rw [a2, hz]
  obtain ⟨g, o, rfl, hg, hc, hcell, _⟩ := h.resolve_left hz
  refine (toRecordS_core g o rs.length c b lo rs H w hl hc (by omega) hb hf hh hcell).mono fun e w' ⟨F, m, a1, a2⟩ => ⟨_, a1, ⟨fun i => F (i * 6 + 5), ?_, ?_⟩, ⟨Nat.le_refl _, hl, hf, .inr ⟨w.heap.size, rs.length, F, m, rfl, Nat.le_refl _, a2.done.mine, a2.fst, a2.mono, a2.top, a2.own⟩⟩, a2.done.bel⟩
  · exact a2.done.mine.row hn a2.done.mine.lt (Nat.le_refl _) a2.done.cells
  · exact fun i hi => (a2.done.heads i hi).mono (by omega) (Nat.le_refl _)

theorem ROwn.keep {w w' : World} {lo hi n : Nat} {v : Value} {ln : Nat → Nat} (h : ROwn w lo hi v n ln) (hk : ∀ g, lo ≤ g → g < hi → w'.heap[g]? = w.heap[g]?) (hs : w.heap.size ≤ w'.heap.size) : ROwn w' lo hi v n ln := by
  refine ⟨Nat.le_trans h.hi_le hs, h.le, h.few, h.own.imp id ?_⟩
  rintro ⟨g, c, F, m, h1, h2, h3, h4, h5, h6, h7⟩
  have wl := win_le h5
  have w0 := wl 0 n (by omega) (Nat.le_refl _)
  refine ⟨g, c, F, m, h1, h2, h3.keep (hk g h2 (by omega)), h4, h5, h6, fun i hi => (h7 i hi).keep fun k hk1 hk2 => hk k ?_ ?_⟩
  · have := wl 0 i (by omega) (by omega); omega
  · have := wl (i + 1) n (by omega) (Nat.le_refl _); omega
theorem ROwn.mono {w : World} {lo lo' hi hi' n : Nat} {v : Value} {ln : Nat → Nat} (h : ROwn w lo hi v n ln) (hl : lo' ≤ lo) (hh : hi ≤ hi') (hw : hi' ≤ w.heap.size) : ROwn w lo' hi' v n ln := by
  refine ⟨hw, h.le, h.few, h.own.imp id ?_⟩
  rintro ⟨g, c, F, m, h1, h2, h3, h4, h5, h6, h7⟩
  exact ⟨g, c, F, m, h1, Nat.le_trans hl h2, h3, h4, h5, Nat.le_trans h6 hh, h7⟩

set_option maxHeartbeats 400000 in
theorem toBatch_own (v : Value) (t : Bat) (w : World) (lo b : Nat) (hv : BatAt w lo b v t) (hb : b ≤ w.heap.size) (hf : FewB t) :
    Calls Try.prog 19 #[v] w fun e w' => ∃ rv, e = .returned (batVal t rv) ∧ RecsAt w' w.heap.size w'.heap.size rv t.recs ∧ ROwn w' w.heap.size w'.heap.size rv t.recs.length (fun i => (t.recs.getD i default).heads.length) ∧ Below w.heap.size w w' := by
  obtain ⟨hv, rfl, hh⟩ := hv
  have HH := Seg.hid hh
  obtain ⟨H, ⟨hn, A, c, hve, _⟩, _⟩ := id hh
  clear hh
  unfold batVal
  subst hve
  go_enter Try.func19, Try.ntmps19
  go_wp2_with fail
  refine (toRecordS_own _ t.recs (((w.alloc _).alloc _).alloc _) lo b (HH.out.below ((below3 w _ _ _).mono hb)) (by rw [hsz, hsz, hsz]; omega) hf.1 hf.2).mono ?_
  rintro e w1 ⟨v', rfl, hh1, ho1, b1⟩
  have B1 := Seg.hid (chain (below3 w _ _ _) b1)
  have T1 := (b1.block (w.heap.size + 1) (by rw [hsz, hsz, hsz]; omega)).trans (at3 w _ _ _)
  have T2 := (b1.block (w.heap.size + 1 + 1) (by rw [hsz, hsz, hsz]; omega)).trans (Cells.at3' w _ _ _)
  have HH1 := Seg.hid hh1; have HO1 := Seg.hid ho1
  obtain ⟨H', ⟨_, A', c', hve, _⟩, _⟩ := id hh1
  clear hh1 b1 ho1
  subst hve
  have c6 := cell_of_row w1 (w.heap.size + 1 + 1) 6 _ _ _ T2
  have z6 := frozen_of_row w1 (w.heap.size + 1 + 1) 6 _ _ T2
  have H3 : Hid ((w1.setCell ⟨w.heap.size + 1 + 1, 6, none⟩ (.slice A' t.recs.length c')).heap[w.heap.size + 1 + 1]? = some (.cells (BatW.batArr t (.slice A' t.recs.length c')) 26 (0, 0))) := heap_setCell_same w1 (w.heap.size + 1 + 1) 6 _ _ (.slice A' t.recs.length c') T2
  have T4 := (heap_setCell_other w1 ⟨w.heap.size + 1 + 1, 6, none⟩ (w.heap.size + 1) (.slice A' t.recs.length c') (by simp)).trans T1
  have H5 := Seg.hid (Cells.there_of T4)
  have H4 := Seg.hid (Cells.whole (vs := BatW.batArr t (.slice A' t.recs.length c')) T4 rfl)
  have B2 := Seg.hid (Cells.below_setCells (g := w.heap.size + 1) (by omega) (BatW.batArr t (.slice A' t.recs.length c')).toList 0 _ _ (B1.out.setCell (p := ⟨w.heap.size + 1 + 1, 6, none⟩) (by simp; omega) (.slice A' t.recs.length c')))
  obtain ⟨wF, hwF⟩ : ∃ x, (w1.setCell ⟨w.heap.size + 1 + 1, 6, none⟩ (.slice A' t.recs.length c')).setCells (w.heap.size + 1) 0 (BatW.batArr t (.slice A' t.recs.length c')).toList = x := ⟨_, rfl⟩
  have keep : ∀ g, w.heap.size + 1 + 1 + 1 ≤ g → wF.heap[g]? = w1.heap[g]? := fun g h1 => by
    rw [← hwF, Cells.heap_setCells_other _ _ (by omega), heap_setCell_other _ _ _ _ (by show _ ≠ w.heap.size + 1 + 1; omega)]
  have hsize : wF.heap.size = w1.heap.size := by rw [← hwF, Cells.size_setCells]; simp
  have HF : Hid (RecsAt wF w.heap.size wF.heap.size (.slice A' t.recs.length c') t.recs) := by
    refine (RecsAt.keep HH1.out (fun g h1 h2 => keep g (by rw [hsz, hsz, hsz] at h1; exact h1))).mono ?_ ?_
    · rw [hsz, hsz, hsz]; omega
    · omega
  have HG : Hid (ROwn wF w.heap.size wF.heap.size (.slice A' t.recs.length c') t.recs.length (fun i => (t.recs.getD i default).heads.length)) := by
    refine (ROwn.keep HO1.out (fun g h1 h2 => keep g (by rw [hsz, hsz, hsz] at h1; exact h1)) (by omega)).mono ?_ (by omega) (Nat.le_refl _)
    rw [hsz, hsz, hsz]; omega
  rw [← hwF] at HF HG
  clear T1 T2 T4 keep hsize hwF
  simp at c6
  go_wp2_with (first | (refine wpList_load_row rfl 26 _ rfl (w.heap.size + 1 + 1) rfl _ _ _ _ H3.out Try.underlying26 rfl BatW.info40 ?_) | (refine wpList_store_mid rfl 26 _ _ rfl (w.heap.size + 1) 0 (BatW.batArr t (.slice A' t.recs.length c')) rfl rfl H5.out BatW.info40 (BatW.batArr_one _ _ rfl) ?_))
  exact bodyPost_ret (v := batVal t (.slice A' t.recs.length c')) (results_cell_row rfl _ _ (w.heap.size + 1) _ _ _ _ rfl H4.out Try.underlying26 rfl BatW.info40) rfl ⟨_, rfl, HF.out, HG.out, B2.out⟩
end Go.Proofs.Ytdnbcfochlfopaa.ToO
namespace Go.Proofs.Ytdnbcfochlfopaa.Mk
set_option maxRecDepth 8000
open Go.RowKit
open Recs
open ToO
set_option linter.unusedVariables false

/-- The mark of a number, as a text: its digits, f of them at most. -/
def mtF : Nat → Nat → ByteArray → ByteArray
  | 0, _, s => s
  | f + 1, n, s => if n = 0 then s else mtF f (n / 10) (strOfNums [48 + (n : Int) % 10] ++ s)
theorem mtF_same : ∀ (f g n : Nat) (s : ByteArray), n ≤ f → n ≤ g → mtF f n s = mtF g n s
  | 0, 0, n, s, _, _ => rfl
  | 0, g + 1, n, s, h, _ => by rw [mtF, mtF, if_pos (by omega)]
  | f + 1, 0, n, s, _, h => by rw [mtF, mtF, if_pos (by omega)]
  | f + 1, g + 1, n, s, h1, h2 => by
    rw [mtF, mtF]
    by_cases h : n = 0
    · rw [if_pos h, if_pos h]
    · rw [if_neg h, if_neg h, mtF_same f g (n / 10) _ (by omega) (by omega)]
def mt (k : Nat) : ByteArray := ByteArray.mk #[109] ++ mtF k k ByteArray.empty

set_option maxHeartbeats 800000 in
theorem markText_any (k : Nat) (w : World) (h0 : 0 < k) (h1 : k ≤ 4611686018427387904) :
    Calls Try.prog 91 #[.int .i64 k] w fun e w' => e = .returned (.string (mt k)) ∧ Below w.heap.size w w' := by
  have f0 : ¬ (k : Int) ≤ 0 := by omega
  go_enter Try.func91, Try.ntmps91
  go_wp2
  go_loopw [0, 3] (fun i v wr => ∃ (n : Nat) (s : ByteArray), i = .int .i64 n ∧ v = .string s ∧ n + s.size ≤ k ∧ Hid (Below w.heap.size w wr ∧ mtF n n s = mtF k k ByteArray.empty)) (fun i _ _ => (intOf i).toNat)
  case atStart => exact ⟨k, ByteArray.empty, rfl, rfl, by simp, Below.refl _ _, rfl⟩
  case round =>
    obtain ⟨n, s, rfl, rfl, hn, HQ⟩ := hrel
    by_cases hz : n = 0
    · have HE : Hid (s = mtF k k ByteArray.empty) := by have := HQ.out.2; rw [hz] at this; exact this
      have HB := Seg.hid HQ.out.1
      have f1 : ¬ (0 : Int) < (n : Int) := by omega
      have f2 : ¬ 9223372036854775807 < 1 + s.size := by omega
      clear hz
      go_wp2
      go_ret
      exact ⟨by rw [mt, ← HE.out]; rfl, HB.out⟩
    · have hp : (0 : Int) < (n : Int) := by omega
      have NX : Hid (mtF (n / 10) (n / 10) (strOfNums [48 + (n : Int) % 10] ++ s) = mtF k k ByteArray.empty) := by
        have := HQ.out.2
        obtain ⟨f, hf⟩ : ∃ f, n = f + 1 := ⟨n - 1, by omega⟩
        rw [← this]
        show _ = _
        rw [show mtF n n s = mtF (f + 1) n s by rw [hf], mtF, if_neg hz, mtF_same f (n / 10) (n / 10) _ (by omega) (by omega)]
      have BB := Seg.hid (fun x => HQ.out.1.alloc HQ.out.1.size x)
      have hcv : (convert 22 9 (.slice (some ⟨wr.heap.size, 0, none⟩) 1 1)).run Try.prog (wr.alloc (.cells #[.int .u8 (48 + (n : Int) % 10)] 5 (0, 0))) = .ok (.string (strOfNums [48 + (n : Int) % 10])) (wr.alloc (.cells #[.int .u8 (48 + (n : Int) % 10)] 5 (0, 0))) :=
        run_convert_bytes_arg (P := Try.prog) _ 22 5 Try.underlying22 Try.underlying5 wr.heap.size 0 1 1 [48 + (n : Int) % 10] rfl (fun i hi => by
          have : i = 0 := by omega
          subst this
          exact cell_of_row _ _ 0 _ _ (0, 0) (heap_alloc_new _ _)) 9 Try.underlying9
      have f3 : (strOfNums [48 + (n : Int) % 10]).size = 1 := rfl
      have f2 : ¬ 9223372036854775807 < (strOfNums [48 + (n : Int) % 10]).size + s.size := by omega
      have f4 : n / 10 + (strOfNums [48 + (n : Int) % 10] ++ s).size ≤ k := by rw [ByteArray.size_append]; omega
      clear hz f3
      go_wp2
      go_roundw
      case rel => exact ⟨n / 10, _, by go_num, rfl, f4, BB.out _, NX.out⟩
      case measure => simp [intOf]; omega

theorem markText_at (x : Int) (k : Nat) (hx : x = (k : Int)) (w : World) (h0 : 0 < k) (h1 : k ≤ 4611686018427387904) :
    Calls Try.prog 91 #[.int .i64 x] w fun e w' => e = .returned (.string (mt k)) ∧ Below w.heap.size w w' := by
  subst hx
  exact markText_any k w h0 h1

theorem markHeadS_none (A : Option Addr) (c : Nat) (k : Int) (w : World) : Calls Try.prog 92 #[.slice A 0 c, .int .i64 k] w fun e w' => e = .returned (.int .i64 k) ∧ w = w' := by
  go_enter Try.func92, Try.ntmps92
  go_wp2
  go_loop [1, 5] (fun x i => i = .int .i64 0 ∧ x = .int .i64 k) (fun _ _ => 0)
  case atStart => exact ⟨rfl, rfl⟩
  case round =>
    obtain ⟨rfl, rfl⟩ := hrel
    go_wp2
    go_ret
    exact ⟨rfl, rfl⟩

/-- How far a list of Heads is marked: j of them. -/
structure Hds (w wr : World) (g n c k j : Nat) (F : Nat → Value) : Prop where
  mine : MineC wr 100 2 g n c F
  gr : w.grownBy wr (some g)
  marks : ∀ i, i < j → F (i * 2) = .string (mt (k + 2 * i)) ∧ F (i * 2 + 1) = .string (mt (k + 2 * i + 1))
theorem grown_below {w wr w' : World} {g : Nat} (h : w.grownBy wr (some g)) (b : Below wr.heap.size wr w') : w.grownBy w' (some g) :=
  h.trans ⟨b.os, b.tape, b.output, b.size, fun k hk _ => b.block k hk⟩
theorem grown_set {w wr : World} {g q : Nat} (h : w.grownBy wr (some g)) (v : Value) : w.grownBy (wr.setCell ⟨g, q, none⟩ v) (some g) :=
  h.trans ⟨rfl, rfl, rfl, by simp, fun k _ hk => heap_setCell_other wr ⟨g, q, none⟩ k v (fun e => hk (by simp [e]))⟩

set_option maxHeartbeats 800000 in
theorem markHeadS_core (g n c k : Nat) (F0 : Nat → Value) (w : World) (hn : n ≤ 1048576) (hk : 0 < k) (hk1 : k ≤ 1000000000000000000) (hm : MineC w 100 2 g n c F0) :
    Calls Try.prog 92 #[.slice (some ⟨g, 0, none⟩) n c, .int .i64 k] w fun e w' => ∃ F, e = .returned (.int .i64 ((k + 2 * n : Nat) : Int)) ∧ Hds w w' g n c k n F := by
  have hc := hm.le
  have HM := Seg.hid hm
  clear hm
  go_enter Try.func92, Try.ntmps92
  go_wp2
  go_loopw [1, 5] (fun x i wr => ∃ (j : Nat) (F : Nat → Value), j ≤ n ∧ i = .int .i64 j ∧ x = .int .i64 ((k + 2 * j : Nat) : Int) ∧ Hds w wr g n c k j F) (fun _ i _ => n - (intOf i).toNat)
  case atStart => exact ⟨0, F0, Nat.zero_le _, rfl, rfl, HM.out, World.grownBy.refl _ _, fun i hi => absurd hi (by omega)⟩
  case round =>
    clear HM
    obtain ⟨j, F, hj, rfl, rfl, HR⟩ := hrel
    by_cases hlt : j < n
    · have h0 : (0 : Int) ≤ (j : Int) := by omega
      have h1 : (j : Int) < (n : Int) := by omega
      have HH := Seg.hid HR
      clear HR
      go_wp2_with fail
      refine (markText_any (k + 2 * j) wr (by omega) (by omega)).mono ?_
      rintro e w1 ⟨rfl, b1⟩
      have M1 := Seg.hid (HH.out.mine.keep (b1.block g HH.out.mine.lt))
      have G1 := Seg.hid (grown_below HH.out.gr b1)
      clear b1
      have d1 := M1.out.cell (j * 2) (by omega)
      have f1 := M1.out.frozen (j * 2)
      have M2 := Seg.hid (M1.out.set (j * 2) (.string (mt (k + 2 * j))))
      have G2 := Seg.hid (grown_set (q := j * 2) G1.out (.string (mt (k + 2 * j))))
      go_wp2_with fail
      refine (markText_at _ (k + 2 * j + 1) (by omega) _ (by omega) (by omega)).mono ?_
      rintro e w2 ⟨rfl, b2⟩
      have M3 := Seg.hid (M2.out.keep (b2.block g M2.out.lt))
      have G3 := Seg.hid (grown_below G2.out b2)
      clear b2 d1 f1
      have d2 := M3.out.cell (j * 2 + 1) (by omega)
      have f2 := M3.out.frozen (j * 2 + 1)
      have M4 := Seg.hid (M3.out.set (j * 2 + 1) (.string (mt (k + 2 * j + 1))))
      have G4 := Seg.hid (grown_set (q := j * 2 + 1) G3.out (.string (mt (k + 2 * j + 1))))
      go_wp2
      go_roundw
      case rel =>
        refine ⟨j + 1, _, by omega, by go_num, by go_num, M4.out, G4.out, fun i hi => ?_⟩
        have hr := HH.out.marks
        by_cases he : i = j
        · subst he; simp
        · have := hr i (by omega)
          simp [show ¬ i * 2 = j * 2 + 1 by omega, show ¬ i * 2 = j * 2 by omega, show ¬ i * 2 + 1 = j * 2 by omega, this]
      case measure => simp [intOf]; omega
    · have : j = n := by omega
      subst this
      go_wp2
      go_ret
      exact ⟨F, by go_num, HR⟩

/-- A list of Heads that bears its marks from k on. -/
def HMk (w : World) (lo b : Nat) (v : Value) (n k : Nat) : Prop := n ≤ 1048576 ∧ ∃ A c, v = .slice A n c ∧ (n = 0 ∨ ∃ g F, A = some ⟨g, 0, none⟩ ∧ lo ≤ g ∧ g < b ∧ MineC w 100 2 g n c F ∧ ∀ i, i < n → F (i * 2) = .string (mt (k + 2 * i)) ∧ F (i * 2 + 1) = .string (mt (k + 2 * i + 1)))
theorem HMk.keep {w w' : World} {lo b n k : Nat} {v : Value} (h : HMk w lo b v n k) (hk : ∀ g, lo ≤ g → g < b → w'.heap[g]? = w.heap[g]?) : HMk w' lo b v n k := by
  obtain ⟨h0, A, c, h1, h2⟩ := h
  refine ⟨h0, A, c, h1, h2.imp id ?_⟩
  rintro ⟨g, F, h3, h4, h5, h6, h7⟩
  exact ⟨g, F, h3, h4, h5, h6.keep (hk g h4 h5), h7⟩
/-- Blocks outside a window are as they were. -/
structure Win (w w' : World) (lo b : Nat) : Prop where
  os : w'.os = w.os
  tape : w'.tape = w.tape
  output : w'.output = w.output
  size : w.heap.size ≤ w'.heap.size
  block : ∀ k, k < w.heap.size → (k < lo ∨ b ≤ k) → w'.heap[k]? = w.heap[k]?
theorem Win.refl (w : World) (lo b : Nat) : Win w w lo b := ⟨rfl, rfl, rfl, Nat.le_refl _, fun _ _ _ => rfl⟩
theorem Win.set {w wr : World} {lo b g q : Nat} (h : Win w wr lo b) (h1 : lo ≤ g) (h2 : g < b) (v : Value) : Win w (wr.setCell ⟨g, q, none⟩ v) lo b :=
  ⟨h.os, h.tape, h.output, by simpa using h.size, fun k hk hw => (heap_setCell_other wr ⟨g, q, none⟩ k v (by show k ≠ g; omega)).trans (h.block k hk hw)⟩
theorem Win.below {w wr w' : World} {lo b : Nat} (h : Win w wr lo b) (hb : Below wr.heap.size wr w') : Win w w' lo b :=
  ⟨hb.os.trans h.os, hb.tape.trans h.tape, hb.output.trans h.output, Nat.le_trans h.size hb.size, fun k hk hw => (hb.block k (Nat.lt_of_lt_of_le hk h.size)).trans (h.block k hk hw)⟩
theorem Win.trans {w wr w' : World} {lo b lo' b' : Nat} (h : Win w wr lo b) (h' : Win wr w' lo' b') (h1 : lo ≤ lo') (h2 : b' ≤ b) : Win w w' lo b :=
  ⟨h'.os.trans h.os, h'.tape.trans h.tape, h'.output.trans h.output, Nat.le_trans h.size h'.size, fun k hk hw => (h'.block k (Nat.lt_of_lt_of_le hk h.size) (by omega)).trans (h.block k hk hw)⟩
theorem Win.toBelow {w w' : World} {lo b : Nat} (h : Win w w' lo b) (hl : lo ≤ w.heap.size) : Below lo w w' := ⟨h.os, h.tape, h.output, h.size, fun k hk => h.block k (by omega) (.inl hk)⟩
theorem markHeadS_any (v : Value) (lo b n k : Nat) (w : World) (hk : 0 < k) (hk1 : k ≤ 1000000000000000000) (hv : HOwn w lo b v n) :
    Calls Try.prog 92 #[v, .int .i64 k] w fun e w' => e = .returned (.int .i64 ((k + 2 * n : Nat) : Int)) ∧ HMk w' lo b v n k ∧ Win w w' lo b := by
  obtain ⟨h0, A, c, rfl, h⟩ := hv
  by_cases hz : n = 0
  · subst hz
    exact (markHeadS_none A c k w).mono fun e w' ⟨h1, h2⟩ => by
      subst h2
      exact ⟨by rw [h1]; simp, ⟨h0, A, c, rfl, .inl rfl⟩, ⟨rfl, rfl, rfl, Nat.le_refl _, fun _ _ _ => rfl⟩⟩
  obtain ⟨g, F, rfl, h3, h4, h5⟩ := h.resolve_left hz
  exact (markHeadS_core g n c k F w h0 hk hk1 h5).mono fun e w' ⟨F', h6, h7⟩ => ⟨h6, ⟨h0, _, c, rfl, .inr ⟨g, F', rfl, h3, h4, h7.mine, h7.marks⟩⟩, ⟨h7.gr.os, h7.gr.tape, h7.gr.output, h7.gr.size, fun q hq hw => h7.gr.block q hq (by simp; omega)⟩⟩

/-- The number that the i-th record's marks begin with. -/
def kk (k : Nat) (ln : Nat → Nat) : Nat → Nat
  | 0 => k
  | i + 1 => kk k ln i + 5 + 2 * ln i
theorem kk_le (k : Nat) (ln : Nat → Nat) (hl : ∀ i, ln i ≤ 1048576) : ∀ i, k ≤ kk k ln i ∧ kk k ln i ≤ k + i * 2097157
  | 0 => by simp [kk]
  | i + 1 => by
    have := kk_le k ln hl i
    have := hl i
    simp only [kk]
    omega

/-- How far records are marked: j of them. -/
structure Rcs (w wr : World) (lo hi g n c k : Nat) (ln m : Nat → Nat) (F0 F : Nat → Value) (j : Nat) : Prop where
  mine : MineC wr 36 6 g n c F
  slot : ∀ i, i < n → F (i * 6 + 5) = F0 (i * 6 + 5)
  own : ∀ i, j ≤ i → i < n → HOwn wr (m i) (m (i + 1)) (F0 (i * 6 + 5)) (ln i)
  hmk : ∀ i, i < j → HMk wr (m i) (m (i + 1)) (F0 (i * 6 + 5)) (ln i) (kk k ln i + 5)
  marks : ∀ i, i < j → F (i * 6) = .int .i64 (kk k ln i : Int) ∧ F (i * 6 + 1) = .bool (((kk k ln i : Int) + 1) % 3 == 0) ∧ F (i * 6 + 2) = .string (mt (kk k ln i + 2)) ∧ F (i * 6 + 3) = .bool (((kk k ln i : Int) + 1 + 1 + 1) % 3 == 0) ∧ F (i * 6 + 4) = .string (mt (kk k ln i + 4))
  win : Win w wr lo hi

theorem Rcs.step {w wr w4 w3 : World} {lo hi g n c k j x : Nat} {ln m : Nat → Nat} {F0 F F4 : Nat → Value} (HR : Rcs w wr lo hi g n c k ln m F0 F j) (hj : j < n) (hg : g < m 0) (wl : ∀ a b, a ≤ b → b ≤ n → m a ≤ m b) (htop : m n ≤ hi) (hhi : hi ≤ wr.heap.size) (hlo : lo ≤ g) (hx : kk k ln j = x)
    (M4 : MineC w4 36 6 g n c F4) (q0 : F4 (j * 6) = .int .i64 (x : Int)) (q1 : F4 (j * 6 + 1) = .bool (((x : Int) + 1) % 3 == 0)) (q2 : F4 (j * 6 + 2) = .string (mt (x + 2))) (q3 : F4 (j * 6 + 3) = .bool (((x : Int) + 1 + 1 + 1) % 3 == 0)) (q4 : F4 (j * 6 + 4) = .string (mt (x + 4)))
    (q5 : ∀ q, (q < j * 6 ∨ j * 6 + 5 ≤ q) → F4 q = F q) (B4 : Win w w4 lo hi) (K4 : ∀ q, q ≠ g → q < wr.heap.size → w4.heap[q]? = wr.heap[q]?) (z4 : wr.heap.size ≤ w4.heap.size)
    (H : HMk w3 (m j) (m (j + 1)) (F0 (j * 6 + 5)) (ln j) (x + 5)) (W : Win w4 w3 (m j) (m (j + 1))) : Rcs w w3 lo hi g n c k ln m F0 F4 (j + 1) := by
  have m0 := wl 0 j (by omega) (by omega)
  refine ⟨M4.keep (W.block g M4.lt (.inl (by omega))), fun i hi => ?_, fun i h1 h2 => ?_, fun i hi => ?_, fun i hi => ?_, ?_⟩
  · rw [q5 _ (by omega)]
    exact HR.slot i hi
  · have a1 := wl (j + 1) i h1 (by omega)
    have a2 := wl (i + 1) n (by omega) (Nat.le_refl _)
    have a3 := wl 0 i (by omega) (by omega)
    exact (HR.own i (by omega) h2).keep fun q e1 e2 => (W.block q (by omega) (.inr (by omega))).trans (K4 q (by omega) (by omega))
  · by_cases he : i = j
    · subst he
      rw [hx]
      exact H
    · have a1 := wl (i + 1) j (by omega) (by omega)
      have a2 := wl (i + 1) n (by omega) (Nat.le_refl _)
      have a3 := wl 0 i (by omega) (by omega)
      exact (HR.hmk i (by omega)).keep fun q e1 e2 => (W.block q (by omega) (.inl (by omega))).trans (K4 q (by omega) (by omega))
  · by_cases he : i = j
    · subst he
      rw [hx]
      exact ⟨q0, q1, q2, q3, q4⟩
    · have := HR.marks i (by omega)
      rw [q5 _ (by omega), q5 _ (by omega), q5 _ (by omega), q5 _ (by omega), q5 _ (by omega)]
      exact this
  · have a2 := wl (j + 1) n (by omega) (Nat.le_refl _)
    exact B4.trans W (by omega) (by omega)

set_option maxHeartbeats 1600000 in
theorem markRecordS_core (lo hi g n c k : Nat) (ln m : Nat → Nat) (F0 : Nat → Value) (w : World) (hn : n ≤ 1048576) (hk : 0 < k) (hk1 : k ≤ 1000000000000) (hl : ∀ i, ln i ≤ 1048576) (hlo : lo ≤ g) (hm : MineC w 36 6 g n c F0) (hg : g < m 0) (hmo : ∀ i, i < n → m i ≤ m (i + 1)) (htop : m n ≤ hi) (hhi : hi ≤ w.heap.size)
    (ho : ∀ i, i < n → HOwn w (m i) (m (i + 1)) (F0 (i * 6 + 5)) (ln i)) :
    Calls Try.prog 57 #[.slice (some ⟨g, 0, none⟩) n c, .int .i64 k] w fun e w' => ∃ F, e = .returned (.int .i64 (kk k ln n : Int)) ∧ Rcs w w' lo hi g n c k ln m F0 F n := by
  have hc := hm.le
  have hloh := hm.lt
  have HM : Hid (Rcs w w lo hi g n c k ln m F0 F0 0) := ⟨hm, fun _ _ => rfl, fun i _ hi => ho i hi, fun i hi => absurd hi (by omega), fun i hi => absurd hi (by omega), Win.refl _ _ _⟩
  have KL := Seg.hid (kk_le k ln hl)
  have WL := Seg.hid (win_le hmo)
  have hghi : g < hi := by have := win_le hmo 0 n (by omega) (Nat.le_refl _); omega
  have HMO := Seg.hid hmo; have HL := Seg.hid hl
  clear hm ho hmo hl
  go_enter Try.func57, Try.ntmps57
  go_wp2
  go_loopw [1, 5] (fun x i wr => ∃ (j : Nat) (F : Nat → Value), j ≤ n ∧ i = .int .i64 j ∧ x = .int .i64 (kk k ln j : Int) ∧ Hid (Rcs w wr lo hi g n c k ln m F0 F j)) (fun _ i _ => n - (intOf i).toNat)
  case atStart => exact ⟨0, F0, Nat.zero_le _, rfl, rfl, HM.out⟩
  case round =>
    clear HM
    obtain ⟨j, F, hj, rfl, rfl, HR⟩ := hrel
    by_cases hlt : j < n
    · have h0 : (0 : Int) ≤ (j : Int) := by omega
      have h1 : (j : Int) < (n : Int) := by omega
      obtain ⟨x, hx⟩ : ∃ x, kk k ln j = x := ⟨_, rfl⟩
      have hxb := KL.out j
      have hlj := HL.out j
      have HX := Seg.hid hx
      rw [hx] at hxb ⊢
      clear hx
      have d0 := HR.out.mine.cell (j * 6) (by omega)
      have f0 := HR.out.mine.frozen (j * 6)
      have d1 := (HR.out.mine.set (j * 6) (.int .i64 (x : Int))).cell (j * 6 + 1) (by omega)
      have f1 := (HR.out.mine.set (j * 6) (.int .i64 (x : Int))).frozen (j * 6 + 1)
      go_wp2_with fail
      have M1 := Seg.hid ((HR.out.mine.set (j * 6) (.int .i64 (x : Int))).set (j * 6 + 1) (.bool (((x : Int) + 1) % 3 == 0)))
      have B1 := Seg.hid ((HR.out.win.set (q := j * 6) hlo hghi (.int .i64 (x : Int))).set (q := j * 6 + 1) hlo hghi (.bool (((x : Int) + 1) % 3 == 0)))
      have K1 : Hid (∀ q, q ≠ g → ((wr.setCell ⟨g, j * 6, none⟩ (.int .i64 (x : Int))).setCell ⟨g, j * 6 + 1, none⟩ (.bool (((x : Int) + 1) % 3 == 0))).heap[q]? = wr.heap[q]?) := fun q hq => by rw [heap_setCell_other _ _ _ _ hq, heap_setCell_other _ _ _ _ hq]
      have hsr : w.heap.size ≤ wr.heap.size := HR.out.win.size
      clear d0 f0 d1 f1
      refine (markText_at _ (x + 2) (by omega) _ (by omega) (by omega)).mono ?_
      rintro e w1 ⟨rfl, b1⟩
      have z1 := b1.size
      simp only [World.size_setCell] at z1
      have hgr := HR.out.mine.lt
      have M2 := Seg.hid (M1.out.keep (b1.block g M1.out.lt))
      have B2 := Seg.hid (B1.out.below b1)
      have K2 : Hid (∀ q, q ≠ g → q < wr.heap.size → w1.heap[q]? = wr.heap[q]?) := fun q hq hl => (b1.block q (by simpa using hl)).trans (K1.out q hq)
      clear b1
      have d2 := M2.out.cell (j * 6 + 2) (by omega)
      have f2 := M2.out.frozen (j * 6 + 2)
      have d3 := (M2.out.set (j * 6 + 2) (.string (mt (x + 2)))).cell (j * 6 + 3) (by omega)
      have f3 := (M2.out.set (j * 6 + 2) (.string (mt (x + 2)))).frozen (j * 6 + 3)
      go_wp2_with fail
      have M3 := Seg.hid ((M2.out.set (j * 6 + 2) (.string (mt (x + 2)))).set (j * 6 + 3) (.bool (((x : Int) + 1 + 1 + 1) % 3 == 0)))
      have B3 := Seg.hid ((B2.out.set (q := j * 6 + 2) hlo hghi (.string (mt (x + 2)))).set (q := j * 6 + 3) hlo hghi (.bool (((x : Int) + 1 + 1 + 1) % 3 == 0)))
      have K3 : Hid (∀ q, q ≠ g → q < wr.heap.size → ((w1.setCell ⟨g, j * 6 + 2, none⟩ (.string (mt (x + 2)))).setCell ⟨g, j * 6 + 3, none⟩ (.bool (((x : Int) + 1 + 1 + 1) % 3 == 0))).heap[q]? = wr.heap[q]?) := fun q hq hl => by rw [heap_setCell_other _ _ _ _ hq, heap_setCell_other _ _ _ _ hq]; exact K2.out q hq hl
      clear d2 f2 d3 f3
      refine (markText_at _ (x + 4) (by omega) _ (by omega) (by omega)).mono ?_
      rintro e w2 ⟨rfl, b2⟩
      have z2 := b2.size
      simp only [World.size_setCell] at z2
      have M4 := Seg.hid (M3.out.keep (b2.block g M3.out.lt))
      have B4 := Seg.hid (B3.out.below b2)
      have K4 : Hid (∀ q, q ≠ g → q < wr.heap.size → w2.heap[q]? = wr.heap[q]?) := fun q hq hl => (b2.block q (by simp; omega)).trans (K3.out q hq hl)
      clear b2
      have d4 := M4.out.cell (j * 6 + 4) (by omega)
      have f4 := M4.out.frozen (j * 6 + 4)
      have M5 := Seg.hid (M4.out.set (j * 6 + 4) (.string (mt (x + 4))))
      have B5 := Seg.hid (B4.out.set (q := j * 6 + 4) hlo hghi (.string (mt (x + 4))))
      have K5 : Hid (∀ q, q ≠ g → q < wr.heap.size → (w2.setCell ⟨g, j * 6 + 4, none⟩ (.string (mt (x + 4)))).heap[q]? = wr.heap[q]?) := fun q hq hl => by rw [heap_setCell_other _ _ _ _ hq]; exact K4.out q hq hl
      have d5 : (w2.setCell ⟨g, j * 6 + 4, none⟩ (.string (mt (x + 4)))).cell? ⟨g, j * 6 + 5, none⟩ = some (F0 (j * 6 + 5)) := by
        have := M5.out.cell (j * 6 + 5) (by omega)
        simp only [show ¬ j * 6 + 5 = j * 6 + 4 by omega, show ¬ j * 6 + 5 = j * 6 + 3 by omega, show ¬ j * 6 + 5 = j * 6 + 2 by omega, show ¬ j * 6 + 5 = j * 6 + 1 by omega, show ¬ j * 6 + 5 = j * 6 by omega, if_false] at this
        rw [this, HR.out.slot j hlt]
      have OW : Hid (HOwn (w2.setCell ⟨g, j * 6 + 4, none⟩ (.string (mt (x + 4)))) (m j) (m (j + 1)) (F0 (j * 6 + 5)) (ln j)) := by
        have a1 := WL.out 0 j (by omega) (by omega)
        have a2 := WL.out (j + 1) n (by omega) (Nat.le_refl _)
        exact (HR.out.own j (Nat.le_refl _) hlt).keep fun q e1 e2 => K5.out q (by omega) (by omega)
      have ST : Hid (∀ w3, HMk w3 (m j) (m (j + 1)) (F0 (j * 6 + 5)) (ln j) (x + 5) → Win (w2.setCell ⟨g, j * 6 + 4, none⟩ (.string (mt (x + 4)))) w3 (m j) (m (j + 1)) → Rcs w w3 lo hi g n c k ln m F0 _ (j + 1)) := fun w3 H W => Rcs.step HR.out hlt hg WL.out htop (by omega) hlo HX.out M5.out (by simp) (by simp) (by simp) (by simp) (by simp) (fun q hq => by simp [show ¬ q = j * 6 + 4 by omega, show ¬ q = j * 6 + 3 by omega, show ¬ q = j * 6 + 2 by omega, show ¬ q = j * 6 + 1 by omega, show ¬ q = j * 6 by omega]) B5.out K5.out (by simp; omega) H W
      have HKK : Hid (((x + 5 + 2 * ln j : Nat) : Int) = (kk k ln (j + 1) : Int)) := by show _ = _; rw [← HX.out]; rfl
      obtain ⟨_, Ah, ch, hsl, _⟩ := OW.out
      have HSL := Seg.hid hsl
      rw [hsl] at d5
      clear hsl
      go_wp2_with fail
      refine (markHeadS_any _ (m j) (m (j + 1)) (ln j) (x + 5) _ (by omega) (by omega) (HSL.out ▸ OW.out)).mono ?_
      rintro e w3 ⟨rfl, hH, hW⟩
      have S3 := Seg.hid (ST.out w3 (by rw [HSL.out]; exact hH) hW)
      rw [HKK.out]
      clear hH hW d5 d4 f4
      go_wp2
      go_roundw
      case rel => exact ⟨j + 1, _, by omega, by go_num, rfl, S3.out⟩
      case measure => simp [intOf]; omega
    · have : j = n := by omega
      subst this
      go_wp2
      go_ret
      exact ⟨F, rfl, HR.out⟩

theorem markRecordS_none (A : Option Addr) (c : Nat) (k : Int) (w : World) : Calls Try.prog 57 #[.slice A 0 c, .int .i64 k] w fun e w' => e = .returned (.int .i64 k) ∧ w = w' := by
  go_enter Try.func57, Try.ntmps57
  go_wp2
  go_loop [1, 5] (fun x i => i = .int .i64 0 ∧ x = .int .i64 k) (fun _ _ => 0)
  case atStart => exact ⟨rfl, rfl⟩
  case round =>
    obtain ⟨rfl, rfl⟩ := hrel
    go_wp2
    go_ret
    exact ⟨rfl, rfl⟩

/-- Records that bear their marks from k on. -/
structure RMk (w : World) (v : Value) (n : Nat) (ln : Nat → Nat) (k : Nat) : Prop where
  how : (∃ A c, v = .slice A 0 c ∧ n = 0) ∨ ∃ (w0 : World) (lo hi g c : Nat) (F0 F : Nat → Value) (m : Nat → Nat), v = .slice (some ⟨g, 0, none⟩) n c ∧ g < m 0 ∧ (∀ i, i < n → m i ≤ m (i + 1)) ∧ m n ≤ w.heap.size ∧ Rcs w0 w lo hi g n c k ln m F0 F n

theorem markRecordS_any (v : Value) (lo hi n k : Nat) (ln : Nat → Nat) (w : World) (hk : 0 < k) (hk1 : k ≤ 1000000000000) (h : ROwn w lo hi v n ln) :
    Calls Try.prog 57 #[v, .int .i64 k] w fun e w' => e = .returned (.int .i64 (kk k (fun i => if i < n then ln i else 0) n : Int)) ∧ RMk w' v n (fun i => if i < n then ln i else 0) k ∧ Win w w' lo hi := by
  rcases h.own with ⟨A, c, rfl, rfl⟩ | ⟨g, c, F, m, rfl, h1, h2, h3, h4, h5, h6⟩
  · exact (markRecordS_none A c k w).mono fun e w' ⟨a1, a2⟩ => by
      subst a2
      exact ⟨a1, ⟨.inl ⟨A, c, rfl, rfl⟩⟩, Win.refl _ _ _⟩
  · refine (markRecordS_core lo hi g n c k (fun i => if i < n then ln i else 0) m F w h.le hk hk1 (fun i => ?_) h1 h2 h3 h4 h5 h.hi_le (fun i hi => ?_)).mono fun e w' ⟨F', a1, a2⟩ => ⟨a1, ⟨.inr ⟨w, lo, hi, g, c, F, F', m, rfl, h3, h4, Nat.le_trans (Nat.le_trans h5 h.hi_le) a2.win.size, a2⟩⟩, a2.win⟩
    · show (if i < n then ln i else 0) ≤ _
      split
      · rename_i hi; exact h.few i hi
      · omega
    · rw [if_pos hi]
      exact h6 i hi

set_option maxHeartbeats 400000 in
theorem markBatch_any (t : Bat) (rv : Value) (lo hi n k : Nat) (ln : Nat → Nat) (w : World) (hk : 0 < k) (hk1 : k ≤ 1000000000000) (h : ROwn w lo hi rv n ln) :
    Calls Try.prog 22 #[batVal t rv, .int .i64 k] w fun e w' => e = .returned (.int .i64 (kk k (fun i => if i < n then ln i else 0) n : Int)) ∧ RMk w' rv n (fun i => if i < n then ln i else 0) k ∧ Win w w' lo hi := by
  have HW := Seg.hid h
  have hform : ∃ A c, rv = .slice A n c := by
    rcases h.own with ⟨A, c, rfl, rfl⟩ | ⟨g, c, F, m, rfl, _⟩
    · exact ⟨A, c, rfl⟩
    · exact ⟨_, c, rfl⟩
  clear h
  obtain ⟨A, c, rfl⟩ := hform
  unfold batVal
  go_enter Try.func22, Try.ntmps22
  go_wp2_with fail
  refine (markRecordS_any _ lo hi n k ln (w.alloc _) hk hk1 (HW.out.keep (fun g _ hg => heap_alloc_old w _ (Nat.lt_of_lt_of_le hg HW.out.hi_le)) (by rw [hsz]; omega))).mono ?_
  rintro e w1 ⟨rfl, hR, b1⟩
  have HR1 := Seg.hid hR
  have B1 : Hid (Win w w1 lo hi) := (Win.below (Win.refl w lo hi) (below1 w _)).trans b1 (Nat.le_refl _) (Nat.le_refl _)
  clear hR b1
  go_wp2
  go_ret
  exact ⟨rfl, HR1.out, B1.out⟩
end Go.Proofs.Ytdnbcfochlfopaa.Mk
