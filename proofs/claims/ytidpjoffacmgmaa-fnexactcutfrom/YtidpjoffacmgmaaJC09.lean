/- The program's copy of a Batch; Lists of Segmentes: how they lie in memory, and what the law's helpers answer. -/
import Derived.Test.YtidpjoffacmgmaaJC08
import Derived.Test.YtidpjoffacmgmaaJC07
namespace Go.Proofs.Ytidpjoffacmgmaa.Ft
set_option maxRecDepth 8000
open Go.RowKit
open Recs
open ToO (MineC)
set_option linter.unusedVariables false
theorem infoH : (Try.prog.info? 82).map (fun i => (i.zero, i.size, i.bytes)) = some (some (.agg #[.string ⟨#[]⟩, .string ⟨#[]⟩]), 2, 32) := by kernel_rfl
theorem infoR : (Try.prog.info? 60).map (fun i => (i.zero, i.size, i.bytes)) = some (some (.agg #[.int .i64 0, .bool false, .string ⟨#[]⟩, .bool false, .string ⟨#[]⟩, .slice none 0 0]), 6, 80) := by kernel_rfl
/-- A list that was made out of a row's cells. -/
theorem grow_flat {T : Type} [Inhabited T] {ty nf : Nat} {EO : World → (Nat → Prop) → (Nat → Value) → T → Prop} {w : World} {base n : Nat} {v : Value} {f : Nat → Nat → Value} {us : List T} (h : w.ownsRow base ty nf v n (flat nf n f)) (hl : us.length = n) (he : ∀ i, i < n → ∀ g : Nat → Value, (∀ q, q < nf → g q = f i q) → EO w (fun _ => False) g (us.getD i default)) : LGrow ty nf EO w base v us := by
  subst hl
  refine ⟨fun q => (flat nf us.length f).getD q default, fun _ _ => False, ?_, fun i hi => he i hi _ (fun q hq => flat_cell nf us.length f i q hi hq), fun _ _ _ hx => hx.elim, fun _ _ _ _ _ _ hx => hx.elim⟩
  have : (List.range (us.length * nf)).map (fun q => (flat nf us.length f).getD q default) = flat nf us.length f := List.ext_getElem (by simp [flat_len]) fun i h1 h2 => by simp [h2]
  rw [this]
  exact h
/-- A copy of Heads. -/
theorem own_heads_flat {w : World} {base : Nat} {v : Value} {hs : List Hd} (h : w.ownsRow base 82 2 v hs.length (flat 2 hs.length (hdCells hs))) (hl : hs.length ≤ 1048576) : OwnH w (seg base w.heap.size) v hs :=
  LGrow.own (grow_flat h rfl fun i hi g hg => ⟨hg 0 (by omega), hg 1 (by omega)⟩) hl
theorem flat_one {s n : Nat} {f : Nat → Nat → Value} (h : ∀ i, i < n → ∀ j, j < s → (f i j).oneCell' = true) (hs : 0 < s) : ∀ u ∈ flat s n f, u.oneCell' = true := fun u hu => by
  unfold flat at hu
  rw [List.mem_map] at hu
  obtain ⟨q, hq, rfl⟩ := hu
  rw [List.mem_range] at hq
  exact h _ (Nat.div_lt_of_lt_mul (by rw [Nat.mul_comm]; exact hq)) _ (Nat.mod_lt _ hs)
theorem hd_one (hs : List Hd) : ∀ i, i < hs.length → ∀ j, j < 2 → (hdCells hs i j).oneCell' = true := fun i _ j hj => by
  match j, hj with
  | 0, _ => rfl
  | 1, _ => rfl
theorem rec_one {w : World} {lo b : Nat} (rs : List Rec) (H : Nat → Value) (hh : ∀ i, i < rs.length → Heads w lo b (H i) (rs.getD i default).heads) : ∀ i, i < rs.length → ∀ j, j < 6 → (recCells rs H i j).oneCell' = true := fun i hi j hj => by
  match j, hj with
  | 0, _ => rfl
  | 1, _ => rfl
  | 2, _ => rfl
  | 3, _ => rfl
  | 4, _ => rfl
  | 5, _ =>
    obtain ⟨_, A, c, h, _⟩ := hh i hi
    show (H i).oneCell' = true
    rw [h]; rfl
/-- How far the Heads of a list of Records are copied: j of them. -/
structure CB (w wr : World) (base : Nat) (v : Value) (rs : List Rec) (H : Nat → Value) (j : Nat) (F : Nat → Value) (P : Nat → Nat → Prop) : Prop where
  own : wr.ownsRow base 60 6 v rs.length ((List.range (rs.length * 6)).map F)
  cells : ∀ i, i < rs.length → ∀ q, q < 5 → F (i * 6 + q) = recCells rs H i q
  todo : ∀ i, j ≤ i → i < rs.length → F (i * 6 + 5) = H i
  done : ∀ i, i < j → OwnH wr (P i) (F (i * 6 + 5)) (rs.getD i default).heads
  apart : ∀ i, i < j → ∀ x, P i x → base ≤ x ∧ x < wr.heap.size ∧ v.ownBlock ≠ some x
  disj : ∀ i k, i < j → k < j → i ≠ k → ∀ x, P i x → ¬ P k x
  bel : Below w.heap.size w wr
theorem CB.start {w wr : World} {base : Nat} {v : Value} {rs : List Rec} {H : Nat → Value} (h : wr.ownsRow base 60 6 v rs.length (flat 6 rs.length (recCells rs H))) (hb : Below w.heap.size w wr) : CB w wr base v rs H 0 (fun q => (flat 6 rs.length (recCells rs H)).getD q default) (fun _ _ => False) := by
  have : (List.range (rs.length * 6)).map (fun q => (flat 6 rs.length (recCells rs H)).getD q default) = flat 6 rs.length (recCells rs H) := List.ext_getElem (by simp [flat_len]) fun i h1 h2 => by simp [h2]
  refine ⟨by rw [this]; exact h, fun i hi q hq => flat_cell 6 _ _ i q hi (by omega), fun i _ hi => ?_, fun i hi => absurd hi (by omega), fun i hi => absurd hi (by omega), fun i k hi => absurd hi (by omega), hb⟩
  rw [flat_cell 6 _ _ i 5 hi (by omega)]
  rfl
theorem CB.step {w wr w3 : World} {base g c : Nat} {rs : List Rec} {H : Nat → Value} {j : Nat} {F : Nat → Value} {P : Nat → Nat → Prop} {hv : Value} (h : CB w wr base (.slice (some ⟨g, 0, none⟩) rs.length c) rs H j F P) (hj : j < rs.length) (hb : w.heap.size ≤ base) (hbase : base ≤ wr.heap.size) (b3 : Below wr.heap.size wr w3) (ho : OwnH w3 (seg wr.heap.size w3.heap.size) hv (rs.getD j default).heads) :
    CB w (w3.setCell ⟨g, j * 6 + 5, none⟩ hv) base (.slice (some ⟨g, 0, none⟩) rs.length c) rs H (j + 1) (fun q => if q = j * 6 + 5 then hv else F q) (fun i => if i = j then seg wr.heap.size w3.heap.size else P i) := by
  have hg := World.ownsRow.lt h.own g rfl
  have hs := b3.size
  have keep : ∀ x, x ≠ g → (w3.setCell ⟨g, j * 6 + 5, none⟩ hv).heap[x]? = w3.heap[x]? := fun x hx => heap_setCell_other w3 ⟨g, j * 6 + 5, none⟩ x hv hx
  have own3 : w3.ownsRow base 60 6 (.slice (some ⟨g, 0, none⟩) rs.length c) rs.length ((List.range (rs.length * 6)).map F) := own_keep h.own (fun x _ hx => b3.block x hx)
  refine ⟨?_, fun i hi q hq => ?_, fun i hi1 hi2 => ?_, fun i hi => ?_, fun i hi x hx => ?_, fun i k hi hk hik x hx hx' => ?_, (chain h.bel b3).setCell (p := ⟨g, j * 6 + 5, none⟩) (by show w.heap.size ≤ g; omega) hv⟩
  · have := (World.ownsRow.stored own3 (j * 6 + 5) hv).1
    have he : ((List.range (rs.length * 6)).map F).set (j * 6 + 5) hv = (List.range (rs.length * 6)).map (fun i => if i = j * 6 + 5 then hv else F i) := List.ext_getElem (by simp) fun i h1 h2 => by
      by_cases hi : i = j * 6 + 5
      · subst hi; simp
      · rw [List.getElem_set_ne (by omega)]; simp [hi]
    rw [he] at this
    exact this
  · show (if _ then _ else _) = _
    rw [if_neg (by omega)]
    exact h.cells i hi q hq
  · show (if _ then _ else _) = _
    rw [if_neg (by omega)]
    exact h.todo i (by omega) hi2
  · show OwnH _ (if i = j then _ else _) (if _ then _ else _) _
    by_cases e : i = j
    · subst e
      rw [if_pos rfl, if_pos rfl]
      exact LOwn.keep keepsH ho (by simp) (fun x hx => keep x (by have := hx.1; omega))
    · rw [if_neg e, if_neg (by omega)]
      exact LOwn.keep keepsH (h.done i (by omega)) (by simpa using hs) (fun x hx => (keep x (fun e => (h.apart i (by omega) x hx).2.2 (by rw [e]; rfl))).trans (b3.block x (h.apart i (by omega) x hx).2.1))
  · show base ≤ x ∧ x < (w3.setCell ⟨g, j * 6 + 5, none⟩ hv).heap.size ∧ _
    rw [World.size_setCell]
    by_cases e : i = j
    · subst e
      rw [if_pos rfl] at hx
      obtain ⟨x1, x2⟩ := hx
      refine ⟨by omega, x2, fun e => ?_⟩
      simp only [Value.ownBlock, Option.some.injEq] at e
      omega
    · rw [if_neg e] at hx
      have := h.apart i (by omega) x hx
      exact ⟨this.1, by omega, this.2.2⟩
  · by_cases e : i = j
    · subst e
      rw [if_pos rfl] at hx
      rw [if_neg (Ne.symm hik)] at hx'
      have a1 := h.apart k (by omega) x hx'
      have := hx.1
      omega
    · rw [if_neg e] at hx
      by_cases e2 : k = j
      · subst e2
        rw [if_pos rfl] at hx'
        have a1 := h.apart i (by omega) x hx
        have := hx'.1
        omega
      · rw [if_neg e2] at hx'
        exact h.disj i k (by omega) (by omega) hik x hx hx'
theorem CB.grow {w wr : World} {base : Nat} {v : Value} {rs : List Rec} {H : Nat → Value} {F : Nat → Value} {P : Nat → Nat → Prop} (h : CB w wr base v rs H rs.length F P) : LGrow 60 6 ER wr base v rs :=
  ⟨F, P, h.own, fun i hi => ⟨⟨h.cells i hi 0 (by omega), h.cells i hi 1 (by omega), h.cells i hi 2 (by omega), h.cells i hi 3 (by omega), h.cells i hi 4 (by omega)⟩, h.done i hi⟩, h.apart, h.disj⟩
theorem CB.six {w wr : World} {base g c : Nat} {rs : List Rec} {H : Nat → Value} {j : Nat} {F : Nat → Value} {P : Nat → Nat → Prop} (h : CB w wr base (.slice (some ⟨g, 0, none⟩) rs.length c) rs H j F P) (hj : j < rs.length) :
    wr.cell? ⟨g, j * 6, none⟩ = some (.int .i64 (rs.getD j default).time) ∧ wr.cell? ⟨g, j * 6 + 1, none⟩ = some (.bool (rs.getD j default).keyed) ∧ wr.cell? ⟨g, j * 6 + 2, none⟩ = some (.string (rs.getD j default).key) ∧ wr.cell? ⟨g, j * 6 + 3, none⟩ = some (.bool (rs.getD j default).gone) ∧ wr.cell? ⟨g, j * 6 + 4, none⟩ = some (.string (rs.getD j default).val) ∧ wr.cell? ⟨g, j * 6 + 5, none⟩ = some (H j) := by
  have hm : ∀ q, q < rs.length * 6 → wr.cell? ⟨g, q, none⟩ = some (F q) := fun q hq => by
    rw [World.ownsRow.cellAt h.own q hq]
    simp [hq]
  refine ⟨?_, ?_, ?_, ?_, ?_, ?_⟩
  · rw [hm _ (by omega)]; exact congrArg some (h.cells j hj 0 (by omega))
  · rw [hm _ (by omega)]; exact congrArg some (h.cells j hj 1 (by omega))
  · rw [hm _ (by omega)]; exact congrArg some (h.cells j hj 2 (by omega))
  · rw [hm _ (by omega)]; exact congrArg some (h.cells j hj 3 (by omega))
  · rw [hm _ (by omega)]; exact congrArg some (h.cells j hj 4 (by omega))
  · rw [hm _ (by omega)]; exact congrArg some (h.todo j (Nat.le_refl _) hj)
theorem owns_form {w : World} {base ty s n : Nat} {v : Value} {xs : List Value} (h : w.ownsRow base ty s v n xs) : ∃ A c, v = .slice A n c ∧ (0 < n → ∃ g, A = some ⟨g, 0, none⟩) := by
  rcases h.2 with ⟨h1, h2⟩ | ⟨g, cap, cur, h1, _⟩
  · exact ⟨none, 0, by rw [h1, h2], fun h => absurd h (by omega)⟩
  · exact ⟨_, _, h1, fun _ => ⟨g, rfl⟩⟩
set_option maxHeartbeats 1600000 in
theorem copyBatch_core (t : Bat) (A : Option Addr) (c : Nat) (H : Nat → Value) (w : World) (lo b : Nat) (hb : b ≤ w.heap.size) (hf : FewB t) (hr : Row w lo b 6 (.slice A t.recs.length c) t.recs.length (recCells t.recs H)) (hh : ∀ i, i < t.recs.length → Heads w lo b (H i) (t.recs.getD i default).heads) :
    Calls Try.prog 41 #[batVal t (.slice A t.recs.length c)] w fun e w' => ∃ rv, e = .returned (batVal t rv) ∧ OwnR w' (seg w.heap.size w'.heap.size) rv t.recs ∧ Below w.heap.size w w' := by
  obtain ⟨i0, hi, hz0, hz1, hz2⟩ := info_parts infoR
  obtain ⟨i1, hi', hz0', hz1', hz2'⟩ := info_parts infoH
  have HR := Seg.hid hr; have HH := Seg.hid hh; have HF := Seg.hid hf.2
  have hl := hf.1
  have HO := Seg.hid (flat_one (rec_one t.recs H hh) (by omega))
  clear hr hh hf
  unfold batVal
  go_enter Try.func41, Try.ntmps41
  go_wp2_with (at_builtin; (refine wpList_append_all _ rfl (.const (.slice none 0 0)) (.tmp 7) 41 rfl (w.heap.size + 2) 60 i0 _ 6 80 Try.underlying41 hi hz0 hz1 hz2 rfl (by decide) (.slice none 0 0) 0 [] rfl (World.ownsRow_nil _ _ _ _) A t.recs.length c (flat 6 t.recs.length (recCells t.recs H)) rfl (flat_len _ _ _) (flat_news (by decide) (Row.below HR.out ((below2 w _ _).mono hb))) HO.out (by unfold maxLen; omega) (by omega) (by rw [hsz, hsz]; omega) ?_; intro v1 w1 hown1 hgr1 hat1; rw [Nat.zero_add, List.nil_append] at hown1; obtain ⟨A1, c1, rfl, hA1⟩ := owns_form hown1; have HA1 := Seg.hid hA1; clear hA1))
  have B1 := Seg.hid ((below2 w _ _).grown hgr1 (by rw [hsz, hsz]; omega) (fun k hk => by cases hk))
  have s1 := hgr1.size
  rw [hsz, hsz] at s1
  have T1 : Hid (w1.heap[w.heap.size]? = some (.cells (BatW.batArr t (.slice A t.recs.length c)) 43 (0, 0))) := (hgr1.block w.heap.size (by rw [hsz, hsz]; omega) (by simp [Value.ownBlock])).trans ((heap_alloc_old _ _ (by rw [hsz]; omega)).trans (heap_alloc_new _ _))
  have T2 : Hid (w1.heap[w.heap.size + 1]? = some (.cells (BatW.batArr ⟨0, 0, 0, 0, 0, 0, []⟩ (.slice none 0 0)) 43 (0, 0))) := (hgr1.block (w.heap.size + 1) (by rw [hsz, hsz]; omega) (by simp [Value.ownBlock])).trans (by have := heap_alloc_new (w.alloc (.cells (BatW.batArr t (.slice A t.recs.length c)) 43 (0, 0))) (.cells (BatW.batArr ⟨0, 0, 0, 0, 0, 0, []⟩ (.slice none 0 0)) 43 (0, 0)); rw [hsz] at this; exact this)
  have C1 := Seg.hid (CB.start hown1 B1.out)
  clear hown1 hgr1 hat1
  go_wp2_with fail
  go_loopw [11] (fun i wr => ∃ (j : Nat) (F : Nat → Value) (P : Nat → Nat → Prop), j ≤ t.recs.length ∧ i = .int .i64 j ∧ Hid (CB w wr (w.heap.size + 2) (.slice A1 t.recs.length c1) t.recs H j F P ∧ wr.heap[w.heap.size]? = w1.heap[w.heap.size]? ∧ wr.heap[w.heap.size + 1]? = w1.heap[w.heap.size + 1]? ∧ w.heap.size + 2 ≤ wr.heap.size)) (fun i _ => t.recs.length - (intOf i).toNat)
  case atStart => exact ⟨0, _, _, Nat.zero_le _, rfl, C1.out, rfl, rfl, s1⟩
  case round =>
    clear C1
    obtain ⟨j, F, P, hj, rfl, HW⟩ := hrel
    by_cases hlt : j < t.recs.length
    · have h0 : (0 : Int) ≤ (j : Int) := by omega
      have h1 : (j : Int) < (t.recs.length : Int) := by omega
      obtain ⟨g, hg⟩ := HA1.out (by omega)
      subst hg
      have W1 := Seg.hid HW.out.1
      obtain ⟨e0, e1, e2, e3, e4, e5⟩ := W1.out.six hlt
      have z5 := World.ownsRow.frozenAt W1.out.own (j * 6 + 5)
      have KH := Seg.hid ((HH.out j hlt).below (W1.out.bel.mono hb))
      have FH := HF.out j hlt
      unfold FewR at FH
      obtain ⟨_, Ah, ch, hHj, _⟩ := id KH.out
      have HHJ := Seg.hid hHj
      rw [hHj] at e5 KH
      clear hHj
      have ST := Seg.hid (fun w3 hv b3 ho => CB.step (w3 := w3) (hv := hv) W1.out hlt (by omega) HW.out.2.2.2 b3 ho)
      have hgl := World.ownsRow.lt W1.out.own g rfl
      have hwr := HW.out.2.2.2
      have T1w := Seg.hid HW.out.2.1; have T2w := Seg.hid HW.out.2.2.1
      generalize t.recs.getD j default = rj at *
      go_wp2_with (at_builtin; (refine wpList_append_all _ rfl (.const (.slice none 0 0)) (.tmp 19) 58 rfl wr.heap.size 82 i1 _ 2 32 Try.underlying58 hi' hz0' hz1' hz2' rfl (by decide) (.slice none 0 0) 0 [] rfl (World.ownsRow_nil _ _ _ _) Ah rj.heads.length ch (flat 2 rj.heads.length (hdCells rj.heads)) rfl (flat_len _ _ _) (flat_news (by decide) (Row.below KH.out ((below1 wr _).mono (by omega)))) (flat_one (hd_one _) (by omega)) (by unfold maxLen; omega) (by omega) (by rw [hsz]; omega) ?_; intro v2 w2 hown2 hgr2 hat2; rw [Nat.zero_add, List.nil_append] at hown2; obtain ⟨A2, c2, rfl, hA2⟩ := owns_form hown2; clear hA2; have B2 := Seg.hid ((below1 wr _).grown hgr2 (by rw [hsz]; omega) (fun k hk => by cases hk)); have e5' : w2.cell? ⟨g, j * 6 + 5, none⟩ = some (.slice Ah rj.heads.length ch) := (B2.out.cell (p := ⟨g, j * 6 + 5, none⟩) hgl.2).trans e5; have z5' : w2.frozen? ⟨g, j * 6 + 5, none⟩ = false := (B2.out.frozen (p := ⟨g, j * 6 + 5, none⟩) hgl.2).trans z5; have S2 := Seg.hid (ST.out w2 _ B2.out (own_heads_flat hown2 FH)); have K2 := Seg.hid B2.out.block; have s2 := B2.out.size; clear hown2 hgr2 hat2))
      go_roundw
      case rel =>
        refine ⟨j + 1, _, _, by omega, by go_num, S2.out, ?_, ?_, by simp; omega⟩
        · rw [heap_setCell_other _ _ _ _ (by show w.heap.size ≠ g; omega), K2.out _ (by omega)]; exact T1w.out
        · rw [heap_setCell_other _ _ _ _ (by show w.heap.size + 1 ≠ g; omega), K2.out _ (by omega)]; exact T2w.out
      case measure => simp [intOf]; omega
    · have : j = t.recs.length := by omega
      have G1 := Seg.hid (LGrow.own (CB.grow (this ▸ HW.out.1)) hl)
      have BL := Seg.hid HW.out.1.bel
      have U1 := Seg.hid (HW.out.2.1.trans T1.out)
      have U2 := Seg.hid (HW.out.2.2.1.trans T2.out)
      have hwr := HW.out.2.2.2
      clear HW
      subst this
      have c6 : wr.cell? ⟨w.heap.size, 6, none⟩ = some (.slice A t.recs.length c) := cell_of_row wr w.heap.size 6 _ _ (0, 0) U1.out
      have y6 := frozen_of_row wr w.heap.size 6 _ _ U1.out
      have H3 : Hid ((wr.setCell ⟨w.heap.size, 6, none⟩ (.slice A1 t.recs.length c1)).heap[w.heap.size]? = some (.cells (BatW.batArr t (.slice A1 t.recs.length c1)) 43 (0, 0))) := heap_setCell_same wr w.heap.size 6 _ _ (.slice A1 t.recs.length c1) U1.out
      have T4 := (heap_setCell_other wr ⟨w.heap.size, 6, none⟩ (w.heap.size + 1) (.slice A1 t.recs.length c1) (by simp)).trans U2.out
      have H5 := Seg.hid (Cells.there_of T4)
      have H4 := Seg.hid (Cells.whole (vs := BatW.batArr t (.slice A1 t.recs.length c1)) T4 rfl)
      have B2 := Seg.hid (Cells.below_setCells (g := w.heap.size + 1) (by omega) (BatW.batArr t (.slice A1 t.recs.length c1)).toList 0 _ _ (BL.out.setCell (p := ⟨w.heap.size, 6, none⟩) (by simp) (.slice A1 t.recs.length c1)))
      have HF' : Hid (OwnR ((wr.setCell ⟨w.heap.size, 6, none⟩ (.slice A1 t.recs.length c1)).setCells (w.heap.size + 1) 0 (BatW.batArr t (.slice A1 t.recs.length c1)).toList) (seg w.heap.size ((wr.setCell ⟨w.heap.size, 6, none⟩ (.slice A1 t.recs.length c1)).setCells (w.heap.size + 1) 0 (BatW.batArr t (.slice A1 t.recs.length c1)).toList).heap.size) (.slice A1 t.recs.length c1) t.recs) := by
        refine (LOwn.keep keepsR G1.out (by rw [Cells.size_setCells]; simp) (fun g h1 => ?_)).mono (fun x hx => ?_)
        · have := h1.1
          rw [Cells.heap_setCells_other _ _ (by omega), heap_setCell_other _ _ _ _ (by show _ ≠ w.heap.size; omega)]
        · obtain ⟨x1, x2⟩ := hx
          refine ⟨by omega, ?_⟩
          rw [Cells.size_setCells]
          simpa using x2
      clear T4
      go_wp2_with (first | (refine wpList_load_row rfl 43 _ rfl w.heap.size rfl _ _ _ _ H3.out Try.underlying43 rfl BatW.info40 ?_) | (refine wpList_store_mid rfl 43 _ _ rfl (w.heap.size + 1) 0 (BatW.batArr t (.slice A1 t.recs.length c1)) rfl rfl H5.out BatW.info40 (BatW.batArr_one _ _ rfl) ?_))
      exact bodyPost_ret (v := batVal t (.slice A1 t.recs.length c1)) (results_cell_row rfl _ _ (w.heap.size + 1) _ _ _ _ rfl H4.out Try.underlying43 rfl BatW.info40) rfl ⟨_, rfl, HF'.out, B2.out⟩
theorem copyBatch_any (v : Value) (t : Bat) (w : World) (lo b : Nat) (hv : BatAt w lo b v t) (hb : b ≤ w.heap.size) (hf : FewB t) :
    Calls Try.prog 41 #[v] w fun e w' => ∃ rv, e = .returned (batVal t rv) ∧ OwnR w' (seg w.heap.size w'.heap.size) rv t.recs ∧ Below w.heap.size w w' := by
  obtain ⟨rv, rfl, H, hr, hh⟩ := hv
  obtain ⟨_, A, c, rfl, _⟩ := id hr
  exact copyBatch_core t A c H w lo b hb hf hr hh
end Go.Proofs.Ytidpjoffacmgmaa.Ft
namespace Go.Proofs.Ytidpjoffacmgmaa.Segs
set_option maxRecDepth 8000
open Go.RowKit
open Recs
open Bats SegW
set_option linter.unusedVariables false
/-- How many Batches k Segments have. -/
def tot (ts : List Sg) : Nat → Nat
  | 0 => 0
  | k + 1 => tot ts k + (ts.getD k default).bats.length
def segsCells (ts : List Sg) (H : Nat → Value) (i j : Nat) : Value := if j = 0 then .int .i64 (ts.getD i default).base else H i
def SegsAt (w : World) (lo b : Nat) (v : Value) (ts : List Sg) : Prop := ∃ H : Nat → Value, Row w lo b 2 v ts.length (segsCells ts H) ∧ ∀ i, i < ts.length → BatsAt w lo b (H i) (ts.getD i default).bats
section
variable {w w' : World} {lo lo' b b' : Nat} {v : Value} {ts : List Sg}
theorem SegsAt.keep (h : SegsAt w lo b v ts) (hk : ∀ g, lo ≤ g → g < b → w'.heap[g]? = w.heap[g]?) : SegsAt w' lo b v ts := by
  obtain ⟨H, h1, h2⟩ := h
  exact ⟨H, h1.keep hk, fun i hi => (h2 i hi).keep hk⟩
theorem SegsAt.below (h : SegsAt w lo b v ts) (hb : Below b w w') : SegsAt w' lo b v ts := h.keep fun g _ hg => hb.block g hg
theorem SegsAt.mono (h : SegsAt w lo b v ts) (hl : lo' ≤ lo) (hb : b ≤ b') : SegsAt w lo' b' v ts := by
  obtain ⟨H, h1, h2⟩ := h
  exact ⟨H, h1.mono hl hb, fun i hi => (h2 i hi).mono hl hb⟩
theorem SegsAt.drewN (h : SegsAt w lo b v ts) (k : Nat) : SegsAt (w.drewN k) lo b v ts := h
end
/-- The six cells of element i. -/
theorem six {w : World} {g o n : Nat} {ts : List Sg} {H : Nat → Value} (h : ∀ i, i < n → ∀ j, j < 2 → w.cell? ⟨g, o + i * 2 + j, none⟩ = some (segsCells ts H i j)) (i : Nat) (hi : i < n) :
    w.cell? ⟨g, o + i * 2, none⟩ = some (.int .i64 (ts.getD i default).base) ∧ w.cell? ⟨g, o + i * 2 + 1, none⟩ = some (H i) :=
  ⟨h i hi 0 (by omega), h i hi 1 (by omega)⟩
/-- .. in a later world. -/
theorem six' {w w' : World} {g o n : Nat} {ts : List Sg} {H : Nat → Value} (h : ∀ i, i < n → ∀ j, j < 2 → w.cell? ⟨g, o + i * 2 + j, none⟩ = some (segsCells ts H i j)) (hb : Below w.heap.size w w') (hg : g < w.heap.size) :
    ∀ i, i < n → ∀ j, j < 2 → w'.cell? ⟨g, o + i * 2 + j, none⟩ = some (segsCells ts H i j) := fun i hi j hj => by rw [hb.cell (p := ⟨g, o + i * 2 + j, none⟩) hg]; exact h i hi j hj

theorem szSegmentS_none (A : Option Addr) (c : Nat) (l : Int) (w : World) (h3 : -1 ≤ l) (h4 : l ≤ 1048576) :
    Calls Try.prog 14 #[.slice A 0 c, .int .i64 l] w fun e w' => ∃ r, e = .returned (.int .i64 r) ∧ -1 ≤ r ∧ r ≤ l ∧ Below w.heap.size w w' := by
  go_enter Try.func14, Try.ntmps14
  by_cases hlt : l < 0
  · go_wp2
    go_ret
    exact ⟨_, rfl, by omega, by omega, Below.refl _ _⟩
  go_wp2
  go_loop [1, 5] (fun x i => i = .int .i64 0 ∧ ∃ r, x = .int .i64 r ∧ 0 ≤ r ∧ r ≤ l) (fun _ _ => 0)
  case atStart => exact ⟨rfl, _, rfl, by omega, by omega⟩
  case round =>
    obtain ⟨rfl, r, rfl, hr0, hr1⟩ := hrel
    go_wp2
    go_ret
    exact ⟨r, rfl, by omega, by omega, Below.refl _ _⟩

set_option maxHeartbeats 400000 in
theorem szSegmentS_core (g o n c b : Nat) (ts : List Sg) (H : Nat → Value) (l : Int) (w : World) (h3 : -1 ≤ l) (h4 : l ≤ 1048576) (hn : n ≤ 9223372036854775807) (hc : n ≤ c) (hg : g < w.heap.size) (lo : Nat) (hb : b ≤ w.heap.size)
    (hf : ∀ i, i < n → FineS (ts.getD i default)) (hh : ∀ i, i < n → BatsAt w lo b (H i) (ts.getD i default).bats)
    (ha : ∀ i, i < n → ∀ j, j < 2 → w.cell? ⟨g, o + i * 2 + j, none⟩ = some (segsCells ts H i j)) :
    Calls Try.prog 14 #[.slice (some ⟨g, o, none⟩) n c, .int .i64 l] w fun e w' => ∃ r, e = .returned (.int .i64 r) ∧ -1 ≤ r ∧ r ≤ l ∧ (0 ≤ r → ((n : Int) ≤ l ∧ ∀ i, i < n → FewS (ts.getD i default)) ∧ (tot ts n : Int) + r ≤ l) ∧ Below w.heap.size w w' := by
  have HA := Seg.hid ha
  have HK := Seg.hid hf
  have HH := Seg.hid hh
  clear ha hf hh
  go_enter Try.func14, Try.ntmps14
  by_cases hlt : l - (n : Int) < 0
  · go_wp2
    go_ret
    exact ⟨_, rfl, by omega, by omega, fun h => absurd h (by omega), Below.refl _ _⟩
  go_wp2
  go_loopw [1, 5] (fun x i wr => ∃ (k : Nat) (r : Int), k ≤ n ∧ x = .int .i64 r ∧ i = .int .i64 k ∧ 0 ≤ r ∧ r + (n : Int) ≤ l ∧ Hid ((Below w.heap.size w wr ∧ ∀ i, i < k → FewS (ts.getD i default)) ∧ (tot ts k : Int) + r ≤ l)) (fun _ i _ => n - (intOf i).toNat)
  case atStart => exact ⟨0, l - n, Nat.zero_le _, rfl, rfl, by omega, by omega, ⟨Below.refl _ _, fun i hi => absurd hi (by omega)⟩, by simp [tot]; omega⟩
  case round =>
    obtain ⟨k, r, hk, rfl, rfl, hr0, hr1, HB'⟩ := hrel
    have HB := Seg.hid HB'.out.1
    have HT := Seg.hid HB'.out.2
    clear HB'
    by_cases hlt2 : k < n
    · obtain ⟨c0, c1⟩ := six (six' HA.out HB.out.1 hg) k hlt2
      have RA : Hid (SegAt wr lo b (.agg #[.int .i64 (ts.getD k default).base, H k]) (ts.getD k default)) := ⟨_, rfl, (HH.out k hlt2).below (HB.out.1.mono hb)⟩
      have h0 : (0 : Int) ≤ (k : Int) := by omega
      have h1 : (k : Int) < (n : Int) := by omega
      have hbr : b ≤ wr.heap.size := Nat.le_trans hb HB.out.1.size
      have hts : Hid (tot ts (k + 1) = tot ts k + (ts.getD k default).bats.length) := rfl
      generalize hrk : ts.getD k default = rk at *
      go_wp2_with fail
      refine (SegW.szSegment_any _ rk r wr lo b (by omega) (by omega) RA.out hbr (hrk ▸ HK.out k hlt2)).mono ?_
      rintro e w1 ⟨r1, rfl, hr2, hr3, hfw, b1⟩
      have B1 := Seg.hid (chain HB.out.1 b1)
      have FW := Seg.hid hfw
      clear b1 hfw
      by_cases hneg : r1 < 0
      · go_wp2
        go_ret
        exact ⟨-1, rfl, by omega, by omega, fun h => absurd h (by omega), B1.out⟩
      · go_wp2
        go_roundw
        case rel =>
          refine ⟨k + 1, r1, by omega, rfl, by go_num, by omega, by omega, ⟨B1.out, fun i hi => ?_⟩, ?_⟩
          · by_cases he : i = k
            · subst he; rw [hrk]; exact (FW.out (by omega)).1
            · exact HB.out.2 i (by omega)
          · have a1 := (FW.out (by omega)).2
            have a2 := HT.out
            rw [hts.out]
            omega
        case measure => simp [intOf]; omega
    · have : k = n := by omega
      subst this
      go_wp2
      go_ret
      exact ⟨r, rfl, by omega, by omega, fun _ => ⟨⟨by omega, HB.out.2⟩, HT.out⟩, HB.out.1⟩

theorem szSegmentS_any (v : Value) (ts : List Sg) (l : Int) (w : World) (lo b : Nat) (h3 : -1 ≤ l) (h4 : l ≤ 1048576) (hv : SegsAt w lo b v ts) (hb : b ≤ w.heap.size) (hf : ∀ i, i < ts.length → FineS (ts.getD i default)) :
    Calls Try.prog 14 #[v, .int .i64 l] w fun e w' => ∃ r, e = .returned (.int .i64 r) ∧ -1 ≤ r ∧ r ≤ l ∧ (0 ≤ r → ((ts.length : Int) ≤ l ∧ ∀ i, i < ts.length → FewS (ts.getD i default)) ∧ (tot ts ts.length : Int) + r ≤ l) ∧ Below w.heap.size w w' := by
  obtain ⟨H, ⟨hn, A, c, rfl, h⟩, hh⟩ := hv
  by_cases hz : ts.length = 0
  · rw [hz]
    exact (szSegmentS_none A c l w h3 h4).mono fun e w' ⟨r, a1, a2, a3, a4⟩ => ⟨r, a1, a2, a3, fun h => ⟨⟨by omega, fun i hi => absurd hi (by omega)⟩, by simp [tot]; omega⟩, a4⟩
  obtain ⟨g, o, rfl, hg, hc, hcell, _⟩ := h.resolve_left hz
  exact szSegmentS_core g o ts.length c b ts H l w h3 h4 hn hc (by omega) lo hb hf hh hcell
theorem info6 : (Try.prog.info? 40).map (fun i => (i.zero, i.size, i.bytes)) = some (some (.agg #[.int .i64 0, .slice none 0 0]), 2, 32) := by kernel_rfl

set_option maxHeartbeats 400000 in
theorem toSegmentS_none (A : Option Addr) (c : Nat) (w : World) :
    Calls Try.prog 18 #[.slice A 0 c] w fun e w' => ∃ v, e = .returned v ∧ (∃ A c, v = .slice A 0 c) ∧ Below w.heap.size w w' := by
  obtain ⟨i0, hi, hz0, hz1, hz2⟩ := info_parts info6
  go_enter Try.func18, Try.ntmps18
  go_wp2_with (at_make; refine wpList_make_full _ rfl _ _ 26 rfl w.heap.size 40 i0 _ 2 Try.underlying26 hi hz0 hz1 .i64 .i64 _ _ 0 rfl rfl rfl rfl (by omega) (by unfold maxLen; omega) (Nat.le_refl _) ?_; intro w1 hown hgr)
  have hb1 := (Below.refl w.heap.size w).grown hgr (Nat.le_refl _) (fun k hk => by cases hk)
  have HB := Seg.hid hb1
  clear hown hgr hb1 hi hz0 hz1 hz2
  go_loop [4] (fun i => i = .int .i64 0) (fun i => 0)
  case atStart => rfl
  case round =>
    subst hrel
    go_wp2
    go_ret
    exact ⟨_, rfl, ⟨_, _, rfl⟩, HB.out⟩

/-- What the loop has done: j elements are copied. -/
structure Done (w wr : World) (ts : List Sg) (n j : Nat) (F : Nat → Value) : Prop where
  mine : Mine wr 40 2 w.heap.size n F
  bel : Below w.heap.size w wr
  cells : ∀ i, i < j → ∀ q, q < 2 → F (i * 2 + q) = segsCells ts (fun i => F (i * 2 + 1)) i q
  inner : ∀ i, i < j → BatsAt wr (w.heap.size + 1) wr.heap.size (F (i * 2 + 1)) (ts.getD i default).bats

theorem Done.step {w wr w1 : World} {ts : List Sg} {n j : Nat} {F : Nat → Value} (h : Done w wr ts n j F) (hj : j < n) (hv : Value) (b1 : Below wr.heap.size wr w1) (hh : BatsAt w1 wr.heap.size w1.heap.size hv (ts.getD j default).bats) :
    Done w (w1.setCells w.heap.size (j * 2) (segArr (ts.getD j default) hv).toList) ts n (j + 1) (Own.upd F (j * 2) (segArr (ts.getD j default) hv).toList) := by
  have hlt := h.mine.lt
  have keep : ∀ g, g ≠ w.heap.size → (w1.setCells w.heap.size (j * 2) (segArr (ts.getD j default) hv).toList).heap[g]? = w1.heap[g]? := fun g hg => Cells.heap_setCells_other _ _ hg
  have hsize := Cells.size_setCells (g := w.heap.size) (segArr (ts.getD j default) hv).toList (o := j * 2) w1
  have hcell : ∀ q, q < 2 → Own.upd F (j * 2) (segArr (ts.getD j default) hv).toList (j * 2 + q) = (segArr (ts.getD j default) hv).toList.getD q default := fun q hq => Own.upd_in (by simp [segArr]; omega)
  have hold : ∀ i, i < j → ∀ q, q < 2 → Own.upd F (j * 2) (segArr (ts.getD j default) hv).toList (i * 2 + q) = F (i * 2 + q) := fun i hi q hq => Own.upd_out (.inl (by omega))
  refine ⟨Own.mine_setCells _ _ _ _ (h.mine.below b1 hlt), ?_, ?_, ?_⟩
  · exact Cells.below_setCells (Nat.le_refl _) _ _ _ _ (chain h.bel b1)
  · intro i hi q hq
    by_cases he : i = j
    · subst he
      rw [hcell q hq]
      match q, hq with
      | 0, _ => rfl
      | 1, _ => show hv = _; exact (hcell 1 (by omega)).symm
    · rw [hold i (by omega) q hq, h.cells i (by omega) q hq]
      unfold segsCells
      show _ = (if _ then _ else Own.upd F (j * 2) (segArr (ts.getD j default) hv).toList (i * 2 + 1))
      rw [hold i (by omega) 1 (by omega)]
  · intro i hi
    by_cases he : i = j
    · subst he
      rw [hcell 1 (by omega)]
      show BatsAt _ _ _ hv _
      exact (hh.keep fun g h1 h2 => keep g (by omega)).mono (by omega) (by omega)
    · rw [hold i (by omega) 1 (by omega)]
      exact (((h.inner i (by omega)).below b1).keep fun g h1 h2 => keep g (by omega)).mono (Nat.le_refl _) (by rw [hsize]; exact b1.size)

set_option maxHeartbeats 800000 in
theorem toSegmentS_core (g o n c b lo : Nat) (ts : List Sg) (H : Nat → Value) (w : World) (hn : n ≤ 1048576) (hc : n ≤ c) (hg : g < w.heap.size) (hb : b ≤ w.heap.size)
    (hf : ∀ i, i < n → FewS (ts.getD i default)) (hh : ∀ i, i < n → BatsAt w lo b (H i) (ts.getD i default).bats)
    (ha : ∀ i, i < n → ∀ j, j < 2 → w.cell? ⟨g, o + i * 2 + j, none⟩ = some (segsCells ts H i j)) :
    Calls Try.prog 18 #[.slice (some ⟨g, o, none⟩) n c] w fun e w' => ∃ F, e = .returned (.slice (some ⟨w.heap.size, 0, none⟩) n n) ∧ Done w w' ts n n F := by
  obtain ⟨i0, hi, hz0, hz1, hz2⟩ := info_parts info6
  have HA := Seg.hid ha; have HK := Seg.hid hf; have HH := Seg.hid hh
  clear ha hf hh
  go_enter Try.func18, Try.ntmps18
  go_wp2_with (at_make; refine wpList_make_full _ rfl _ _ 26 rfl w.heap.size 40 i0 _ 2 Try.underlying26 hi hz0 hz1 .i64 .i64 _ _ n rfl rfl rfl rfl (by rw [hz2]; omega) (by unfold maxLen; omega) (Nat.le_refl _) ?_; intro w1 hown hgr)
  have hb1 := (Below.refl w.heap.size w).grown hgr (Nat.le_refl _) (fun k hk => by cases hk)
  have HM := Seg.hid (Mine.of_made hown hown.1)
  have HB := Seg.hid hb1
  clear hown hgr hb1 hi hz0 hz1 hz2
  go_loopw [4] (fun i wr => ∃ (j : Nat) (F : Nat → Value), j ≤ n ∧ i = .int .i64 j ∧ Done w wr ts n j F) (fun i _ => n - (intOf i).toNat)
  case atStart => exact ⟨0, _, Nat.zero_le _, rfl, HM.out, HB.out, fun i hi => absurd hi (by omega), fun i hi => absurd hi (by omega)⟩
  case round =>
    clear HM HB
    obtain ⟨j, F, hj, rfl, HR⟩ := hrel
    by_cases hlt : j < n
    · obtain ⟨c0, c1⟩ := six (six' HA.out HR.bel hg) j hlt
      have RA : Hid (SegAt wr lo b (.agg #[.int .i64 (ts.getD j default).base, H j]) (ts.getD j default)) := ⟨_, rfl, (HH.out j hlt).below (HR.bel.mono hb)⟩
      have FW := Seg.hid (HK.out j hlt)
      have hbr : b ≤ wr.heap.size := Nat.le_trans hb HR.bel.size
      have ST := Seg.hid (fun w1 hv b1 hh => Done.step (w1 := w1) HR hlt hv b1 hh)
      have HM := Seg.hid HR.mine
      have h0 : (0 : Int) ≤ (j : Int) := by omega
      have h1 : (j : Int) < (n : Int) := by omega
      clear HR
      generalize ts.getD j default = rj at *
      go_wp2_with fail
      refine (SegW.toSegment_any _ rj wr lo b RA.out hbr FW.out).mono ?_
      rintro e w1 ⟨v1, rfl, ⟨hv1, rfl, hh1⟩, b1⟩
      have S1 := Seg.hid (ST.out w1 hv1 b1 hh1)
      have M1 := Seg.hid (Own.mine_there (o := j * 2) (m := 2) (HM.out.below b1 HM.out.lt) (by omega))
      obtain ⟨_, ⟨_, A1, k1, rfl, _⟩, _⟩ := hh1
      clear b1
      have M2 : Hid (w1.there w.heap.size (j * 2) (segArr rj (.slice A1 rj.bats.length k1)).size) := M1.out
      clear M1
      rw [show segVal rj (.slice A1 rj.bats.length k1) = .agg (segArr rj (.slice A1 rj.bats.length k1)) from rfl]
      go_wp2_with (refine wpList_store_mid rfl 40 _ _ rfl w.heap.size (j * 2) (segArr rj (.slice A1 rj.bats.length k1)) rfl rfl ?ht infoN (segArr_one _ _ rfl) ?_; case ht => exact M2.out)
      go_roundw
      case rel => exact ⟨j + 1, _, by omega, by go_num, S1.out⟩
      case measure => simp [intOf]; omega
    · have : j = n := by omega
      subst this
      go_wp2
      go_ret
      exact ⟨F, rfl, HR⟩

theorem toSegmentS_any (v : Value) (ts : List Sg) (w : World) (lo b : Nat) (hv : SegsAt w lo b v ts) (hb : b ≤ w.heap.size) (hl : ts.length ≤ 1048576) (hf : ∀ i, i < ts.length → FewS (ts.getD i default)) :
    Calls Try.prog 18 #[v] w fun e w' => ∃ v', e = .returned v' ∧ SegsAt w' w.heap.size w'.heap.size v' ts ∧ Below w.heap.size w w' := by
  obtain ⟨H, ⟨hn, A, c, rfl, h⟩, hh⟩ := hv
  by_cases hz : ts.length = 0
  · rw [hz]
    refine (toSegmentS_none A c w).mono fun e w' ⟨v', a1, ⟨A', c', a2⟩, a3⟩ => ⟨v', a1, ⟨H, ⟨hn, A', c', ?_, .inl hz⟩, fun i hi => absurd hi (by omega)⟩, a3⟩
    rw [a2, hz]
  obtain ⟨g, o, rfl, hg, hc, hcell, _⟩ := h.resolve_left hz
  refine (toSegmentS_core g o ts.length c b lo ts H w hl hc (by omega) hb hf hh hcell).mono fun e w' ⟨F, a1, a2⟩ => ⟨_, a1, ⟨fun i => F (i * 2 + 1), ?_, ?_⟩, a2.bel⟩
  · exact a2.mine.row hn a2.mine.lt (Nat.le_refl _) a2.cells
  · exact fun i hi => (a2.inner i hi).mono (by omega) (Nat.le_refl _)

theorem eqSegmentS_none (A A' : Option Addr) (c c' : Nat) (w : World) :
    Calls Try.prog 24 #[.slice A 0 c, .slice A' 0 c'] w fun e w' => e = .returned (.bool true) ∧ Below w.heap.size w w' := by
  go_enter Try.func24, Try.ntmps24
  go_wp2
  go_loop [5] (fun i => i = .int .i64 0) (fun _ => 0)
  case atStart => rfl
  case round =>
    subst hrel
    go_wp2
    go_ret
    exact ⟨rfl, Below.refl _ _⟩

set_option maxHeartbeats 800000 in
theorem eqSegmentS_core (g o g' o' n c c' lo lo' b : Nat) (ts : List Sg) (H H' : Nat → Value) (w : World) (hn : n ≤ 9223372036854775807) (hc : n ≤ c) (hc' : n ≤ c') (hg : g < w.heap.size) (hg' : g' < w.heap.size) (hb : b ≤ w.heap.size)
    (hh : ∀ i, i < n → BatsAt w lo b (H i) (ts.getD i default).bats) (hh' : ∀ i, i < n → BatsAt w lo' b (H' i) (ts.getD i default).bats)
    (ha : ∀ i, i < n → ∀ j, j < 2 → w.cell? ⟨g, o + i * 2 + j, none⟩ = some (segsCells ts H i j)) (ha' : ∀ i, i < n → ∀ j, j < 2 → w.cell? ⟨g', o' + i * 2 + j, none⟩ = some (segsCells ts H' i j)) :
    Calls Try.prog 24 #[.slice (some ⟨g, o, none⟩) n c, .slice (some ⟨g', o', none⟩) n c'] w fun e w' => e = .returned (.bool true) ∧ Below w.heap.size w w' := by
  have HA := Seg.hid ha; have HA' := Seg.hid ha'; have HH := Seg.hid hh; have HH' := Seg.hid hh'
  clear ha ha' hh hh'
  go_enter Try.func24, Try.ntmps24
  go_wp2
  go_loopw [5] (fun i wr => ∃ (k : Nat), k ≤ n ∧ i = .int .i64 k ∧ Hid (Below w.heap.size w wr)) (fun i _ => n - (intOf i).toNat)
  case atStart => exact ⟨0, Nat.zero_le _, rfl, Below.refl _ _⟩
  case round =>
    obtain ⟨k, hk, rfl, HB⟩ := hrel
    by_cases hlt2 : k < n
    · obtain ⟨c0, c1⟩ := six (six' HA.out HB.out hg) k hlt2
      obtain ⟨d0, d1⟩ := six (six' HA'.out HB.out hg') k hlt2
      have RA : Hid (SegAt wr.drew lo b (.agg #[.int .i64 (ts.getD k default).base, H k]) (ts.getD k default)) := ⟨_, rfl, (HH.out k hlt2).below (HB.out.drew.mono hb)⟩
      have RB : Hid (SegAt wr.drew lo' b (.agg #[.int .i64 (ts.getD k default).base, H' k]) (ts.getD k default)) := ⟨_, rfl, (HH'.out k hlt2).below (HB.out.drew.mono hb)⟩
      have hbr : b ≤ wr.heap.size := Nat.le_trans hb HB.out.size
      have h0 : (0 : Int) ≤ (k : Int) := by omega
      have h1 : (k : Int) < (n : Int) := by omega
      generalize ts.getD k default = rk at *
      go_wp2_with fail
      go_region_with (go_at_call 42; refine (SegW.eqSegment_any _ _ rk wr.drew lo lo' b RA.out RB.out hbr).mono ?_; rintro e w1 ⟨rfl, b1⟩; have B1 : Hid (Below w.heap.size w w1) := chainD HB.out b1; clear b1)
      all_goals
        go_wp2
        go_roundw
        case rel => exact ⟨k + 1, by omega, by go_num, B1.out⟩
        case measure => simp [intOf]; omega
    · have : k = n := by omega
      subst this
      go_wp2
      go_ret
      exact ⟨rfl, HB.out⟩

theorem eqSegmentS_any (v v' : Value) (ts : List Sg) (w : World) (lo lo' b : Nat) (hv : SegsAt w lo b v ts) (hv' : SegsAt w lo' b v' ts) (hb : b ≤ w.heap.size) :
    Calls Try.prog 24 #[v, v'] w fun e w' => e = .returned (.bool true) ∧ Below w.heap.size w w' := by
  obtain ⟨H, ⟨hn, A, c, rfl, h⟩, hh⟩ := hv
  obtain ⟨H', ⟨_, A', c', rfl, h'⟩, hh'⟩ := hv'
  by_cases hz : ts.length = 0
  · rw [hz]
    exact eqSegmentS_none A A' c c' w
  obtain ⟨g, o, rfl, hg, hc, hcell, _⟩ := h.resolve_left hz
  obtain ⟨g', o', rfl, hg', hc', hcell', _⟩ := h'.resolve_left hz
  exact eqSegmentS_core g o g' o' ts.length c c' lo lo' b ts H H' w hn hc hc' (by omega) (by omega) hb hh hh' hcell hcell'
end Go.Proofs.Ytidpjoffacmgmaa.Segs
