/- The program's copies of a list of Records; The program's copies of a list of Records and of a Batch; A Batch as an element of a list, and in a variable of its own. -/
import Derived.OwnWalk
import Derived.Test.YticihnoekffelaaJS15
namespace Go.Proofs.Yticihnoekffelaa.Ft
set_option maxRecDepth 8000
open Go.RowKit
open Recs
open ToO (MineC)
set_option linter.unusedVariables false
theorem infoH : (Try.prog.info? 116).map (fun i => (i.zero, i.size, i.bytes)) = some (some (.agg #[.string ⟨#[]⟩, .string ⟨#[]⟩]), 2, 32) := by kernel_rfl
theorem infoR : (Try.prog.info? 88).map (fun i => (i.zero, i.size, i.bytes)) = some (some (.agg #[.int .i64 0, .bool false, .string ⟨#[]⟩, .bool false, .string ⟨#[]⟩, .slice none 0 0]), 6, 80) := by kernel_rfl
/-- A list that was made out of a row's cells. -/
theorem grow_flat {T : Type} [Inhabited T] {ty nf : Nat} {EO : World → (Nat → Prop) → (Nat → Value) → T → Prop} {w : World} {base n : Nat} {v : Value} {f : Nat → Nat → Value} {us : List T} (h : w.ownsRow base ty nf v n (flat nf n f)) (hl : us.length = n) (he : ∀ i, i < n → ∀ g : Nat → Value, (∀ q, q < nf → g q = f i q) → EO w (fun _ => False) g (us.getD i default)) : LGrow ty nf EO w base v us := by
  subst hl
  refine ⟨fun q => (flat nf us.length f).getD q default, fun _ _ => False, ?_, fun i hi => he i hi _ (fun q hq => flat_cell nf us.length f i q hi hq), fun _ _ _ hx => hx.elim, fun _ _ _ _ _ _ hx => hx.elim⟩
  have : (List.range (us.length * nf)).map (fun q => (flat nf us.length f).getD q default) = flat nf us.length f := List.ext_getElem (by simp [flat_len]) fun i h1 h2 => by simp [h2]
  rw [this]
  exact h
/-- A copy of Heads. -/
theorem own_heads_flat {w : World} {base : Nat} {v : Value} {hs : List Hd} (h : w.ownsRow base 116 2 v hs.length (flat 2 hs.length (hdCells hs))) (hl : hs.length ≤ 1048576) : OwnH w (seg base w.heap.size) v hs :=
  LGrow.own (grow_flat h rfl fun i hi g hg => ⟨hg 0 (by omega), hg 1 (by omega)⟩) hl
theorem flat_one {s n : Nat} {f : Nat → Nat → Value} (h : ∀ i, i < n → ∀ j, j < s → (f i j).oneCell' = true) (hs : 0 < s) : ∀ u ∈ flat s n f, u.oneCell' = true := fun u hu => by
  unfold flat at hu
  rw [List.mem_map] at hu
  obtain ⟨q, hq, rfl⟩ := hu
  rw [List.mem_range] at hq
  exact h _ (Nat.div_lt_of_lt_mul (by rw [Nat.mul_comm]; exact hq)) _ (Nat.mod_lt _ hs)
theorem hd_one (hs : List Hd) : ∀ i, i < hs.length → ∀ j, j < 2 → (hdCells hs i j).oneCell' = true := fun i _ j hj => by
  match j, hj with
  | 0, _ => rfl
  | 1, _ => rfl
theorem rec_one {w : World} {lo b : Nat} (rs : List Rec) (H : Nat → Value) (hh : ∀ i, i < rs.length → Heads w lo b (H i) (rs.getD i default).heads) : ∀ i, i < rs.length → ∀ j, j < 6 → (recCells rs H i j).oneCell' = true := fun i hi j hj => by
  match j, hj with
  | 0, _ => rfl
  | 1, _ => rfl
  | 2, _ => rfl
  | 3, _ => rfl
  | 4, _ => rfl
  | 5, _ =>
    obtain ⟨_, A, c, h, _⟩ := hh i hi
    show (H i).oneCell' = true
    rw [h]; rfl
/-- How far the Heads of a list of Records are copied: j of them. -/
structure CB (w wr : World) (base : Nat) (v : Value) (rs : List Rec) (H : Nat → Value) (j : Nat) (F : Nat → Value) (P : Nat → Nat → Prop) : Prop where
  own : wr.ownsRow base 88 6 v rs.length ((List.range (rs.length * 6)).map F)
  cells : ∀ i, i < rs.length → ∀ q, q < 5 → F (i * 6 + q) = recCells rs H i q
  todo : ∀ i, j ≤ i → i < rs.length → F (i * 6 + 5) = H i
  done : ∀ i, i < j → OwnH wr (P i) (F (i * 6 + 5)) (rs.getD i default).heads
  apart : ∀ i, i < j → ∀ x, P i x → base ≤ x ∧ x < wr.heap.size ∧ v.ownBlock ≠ some x
  disj : ∀ i k, i < j → k < j → i ≠ k → ∀ x, P i x → ¬ P k x
  bel : Below w.heap.size w wr
theorem CB.start {w wr : World} {base : Nat} {v : Value} {rs : List Rec} {H : Nat → Value} (h : wr.ownsRow base 88 6 v rs.length (flat 6 rs.length (recCells rs H))) (hb : Below w.heap.size w wr) : CB w wr base v rs H 0 (fun q => (flat 6 rs.length (recCells rs H)).getD q default) (fun _ _ => False) := by
  have : (List.range (rs.length * 6)).map (fun q => (flat 6 rs.length (recCells rs H)).getD q default) = flat 6 rs.length (recCells rs H) := List.ext_getElem (by simp [flat_len]) fun i h1 h2 => by simp [h2]
  refine ⟨by rw [this]; exact h, fun i hi q hq => flat_cell 6 _ _ i q hi (by omega), fun i _ hi => ?_, fun i hi => absurd hi (by omega), fun i hi => absurd hi (by omega), fun i k hi => absurd hi (by omega), hb⟩
  rw [flat_cell 6 _ _ i 5 hi (by omega)]
  rfl
theorem CB.step {w wr w3 : World} {base g c : Nat} {rs : List Rec} {H : Nat → Value} {j : Nat} {F : Nat → Value} {P : Nat → Nat → Prop} {hv : Value} (h : CB w wr base (.slice (some ⟨g, 0, none⟩) rs.length c) rs H j F P) (hj : j < rs.length) (hb : w.heap.size ≤ base) (hbase : base ≤ wr.heap.size) (b3 : Below wr.heap.size wr w3) (ho : OwnH w3 (seg wr.heap.size w3.heap.size) hv (rs.getD j default).heads) :
    CB w (w3.setCell ⟨g, j * 6 + 5, none⟩ hv) base (.slice (some ⟨g, 0, none⟩) rs.length c) rs H (j + 1) (fun q => if q = j * 6 + 5 then hv else F q) (fun i => if i = j then seg wr.heap.size w3.heap.size else P i) := by
  have hg := World.ownsRow.lt h.own g rfl
  have hs := b3.size
  have keep : ∀ x, x ≠ g → (w3.setCell ⟨g, j * 6 + 5, none⟩ hv).heap[x]? = w3.heap[x]? := fun x hx => heap_setCell_other w3 ⟨g, j * 6 + 5, none⟩ x hv hx
  have own3 : w3.ownsRow base 88 6 (.slice (some ⟨g, 0, none⟩) rs.length c) rs.length ((List.range (rs.length * 6)).map F) := own_keep h.own (fun x _ hx => b3.block x hx)
  refine ⟨?_, fun i hi q hq => ?_, fun i hi1 hi2 => ?_, fun i hi => ?_, fun i hi x hx => ?_, fun i k hi hk hik x hx hx' => ?_, (chain h.bel b3).setCell (p := ⟨g, j * 6 + 5, none⟩) (by show w.heap.size ≤ g; omega) hv⟩
  · have := (World.ownsRow.stored own3 (j * 6 + 5) hv).1
    have he : ((List.range (rs.length * 6)).map F).set (j * 6 + 5) hv = (List.range (rs.length * 6)).map (fun i => if i = j * 6 + 5 then hv else F i) := List.ext_getElem (by simp) fun i h1 h2 => by
      by_cases hi : i = j * 6 + 5
      · subst hi; simp
      · rw [List.getElem_set_ne (by omega)]; simp [hi]
    rw [he] at this
    exact this
  · show (if _ then _ else _) = _
    rw [if_neg (by omega)]
    exact h.cells i hi q hq
  · show (if _ then _ else _) = _
    rw [if_neg (by omega)]
    exact h.todo i (by omega) hi2
  · show OwnH _ (if i = j then _ else _) (if _ then _ else _) _
    by_cases e : i = j
    · subst e
      rw [if_pos rfl, if_pos rfl]
      exact LOwn.keep keepsH ho (by simp) (fun x hx => keep x (by have := hx.1; omega))
    · rw [if_neg e, if_neg (by omega)]
      exact LOwn.keep keepsH (h.done i (by omega)) (by simpa using hs) (fun x hx => (keep x (fun e => (h.apart i (by omega) x hx).2.2 (by rw [e]; rfl))).trans (b3.block x (h.apart i (by omega) x hx).2.1))
  · show base ≤ x ∧ x < (w3.setCell ⟨g, j * 6 + 5, none⟩ hv).heap.size ∧ _
    rw [World.size_setCell]
    by_cases e : i = j
    · subst e
      rw [if_pos rfl] at hx
      obtain ⟨x1, x2⟩ := hx
      refine ⟨by omega, x2, fun e => ?_⟩
      simp only [Value.ownBlock, Option.some.injEq] at e
      omega
    · rw [if_neg e] at hx
      have := h.apart i (by omega) x hx
      exact ⟨this.1, by omega, this.2.2⟩
  · by_cases e : i = j
    · subst e
      rw [if_pos rfl] at hx
      rw [if_neg (Ne.symm hik)] at hx'
      have a1 := h.apart k (by omega) x hx'
      have := hx.1
      omega
    · rw [if_neg e] at hx
      by_cases e2 : k = j
      · subst e2
        rw [if_pos rfl] at hx'
        have a1 := h.apart i (by omega) x hx
        have := hx'.1
        omega
      · rw [if_neg e2] at hx'
        exact h.disj i k (by omega) (by omega) hik x hx hx'
theorem CB.grow {w wr : World} {base : Nat} {v : Value} {rs : List Rec} {H : Nat → Value} {F : Nat → Value} {P : Nat → Nat → Prop} (h : CB w wr base v rs H rs.length F P) : LGrow 88 6 ER wr base v rs :=
  ⟨F, P, h.own, fun i hi => ⟨⟨h.cells i hi 0 (by omega), h.cells i hi 1 (by omega), h.cells i hi 2 (by omega), h.cells i hi 3 (by omega), h.cells i hi 4 (by omega)⟩, h.done i hi⟩, h.apart, h.disj⟩
theorem CB.six {w wr : World} {base g c : Nat} {rs : List Rec} {H : Nat → Value} {j : Nat} {F : Nat → Value} {P : Nat → Nat → Prop} (h : CB w wr base (.slice (some ⟨g, 0, none⟩) rs.length c) rs H j F P) (hj : j < rs.length) :
    wr.cell? ⟨g, j * 6, none⟩ = some (.int .i64 (rs.getD j default).time) ∧ wr.cell? ⟨g, j * 6 + 1, none⟩ = some (.bool (rs.getD j default).keyed) ∧ wr.cell? ⟨g, j * 6 + 2, none⟩ = some (.string (rs.getD j default).key) ∧ wr.cell? ⟨g, j * 6 + 3, none⟩ = some (.bool (rs.getD j default).gone) ∧ wr.cell? ⟨g, j * 6 + 4, none⟩ = some (.string (rs.getD j default).val) ∧ wr.cell? ⟨g, j * 6 + 5, none⟩ = some (H j) := by
  have hm : ∀ q, q < rs.length * 6 → wr.cell? ⟨g, q, none⟩ = some (F q) := fun q hq => by
    rw [World.ownsRow.cellAt h.own q hq]
    simp [hq]
  refine ⟨?_, ?_, ?_, ?_, ?_, ?_⟩
  · rw [hm _ (by omega)]; exact congrArg some (h.cells j hj 0 (by omega))
  · rw [hm _ (by omega)]; exact congrArg some (h.cells j hj 1 (by omega))
  · rw [hm _ (by omega)]; exact congrArg some (h.cells j hj 2 (by omega))
  · rw [hm _ (by omega)]; exact congrArg some (h.cells j hj 3 (by omega))
  · rw [hm _ (by omega)]; exact congrArg some (h.cells j hj 4 (by omega))
  · rw [hm _ (by omega)]; exact congrArg some (h.todo j (Nat.le_refl _) hj)
theorem owns_form {w : World} {base ty s n : Nat} {v : Value} {xs : List Value} (h : w.ownsRow base ty s v n xs) : ∃ A c, v = .slice A n c ∧ (0 < n → ∃ g, A = some ⟨g, 0, none⟩) := by
  rcases h.2 with ⟨h1, h2⟩ | ⟨g, cap, cur, h1, _⟩
  · exact ⟨none, 0, by rw [h1, h2], fun h => absurd h (by omega)⟩
  · exact ⟨_, _, h1, fun _ => ⟨g, rfl⟩⟩
set_option maxHeartbeats 1600000 in
theorem copyRecords_core (rs : List Rec) (A : Option Addr) (c : Nat) (H : Nat → Value) (w : World) (lo b : Nat) (hb : b ≤ w.heap.size) (hl : rs.length ≤ 1048576) (hf : ∀ i, i < rs.length → FewR (rs.getD i default)) (hr : Row w lo b 6 (.slice A rs.length c) rs.length (recCells rs H)) (hh : ∀ i, i < rs.length → Heads w lo b (H i) (rs.getD i default).heads) :
    Calls Try.prog 86 #[.slice A rs.length c] w fun e w' => ∃ rv, e = .returned rv ∧ LGrow 88 6 ER w' w.heap.size rv rs ∧ Below w.heap.size w w' := by
  obtain ⟨i0, hi, hz0, hz1, hz2⟩ := info_parts infoR
  obtain ⟨i1, hi', hz0', hz1', hz2'⟩ := info_parts infoH
  have HR := Seg.hid hr; have HH := Seg.hid hh; have HF := Seg.hid hf
  have HO := Seg.hid (flat_one (rec_one rs H hh) (by omega))
  clear hr hh hf
  go_enter Try.func86, Try.ntmps86
  go_wp2_with (at_make; (refine wpList_make_full _ rfl (.tmp 7) (.tmp 7) 56 rfl w.heap.size 88 i0 _ 6 Try.underlying56 hi hz0 hz1 .i64 .i64 _ _ rs.length rfl rfl rfl rfl (by rw [hz2]; omega) (by unfold maxLen; omega) (Nat.le_refl _) ?_; intro w1 hown1 hgr1; have OW1 := Seg.hid hown1; have B1 := Seg.hid ((Below.refl w.heap.size w).grown hgr1 (Nat.le_refl _) (fun k hk => by cases hk)); clear hown1 hgr1))
  obtain ⟨w2, hrun, hown2, hgr2⟩ := run_copy_all (P := Try.prog) w1 w.heap.size 56 56 3 88 i0 6 Try.underlying56 hi hz1 w.heap.size rs.length _ OW1.out A c (flat 6 rs.length (recCells rs H)) (flat_len _ _ _) (flat_news (by decide) (Row.below HR.out (B1.out.mono hb))) HO.out
  rw [hrun]
  have B2 := Seg.hid (B1.out.grown hgr2 B1.out.size (fun k hk => by cases hk; exact Nat.le_refl _))
  have C1 := Seg.hid (CB.start hown2 B2.out)
  clear hown2 hgr2 hrun
  go_wp2_with fail
  go_loopw [14] (fun i wr => ∃ (j : Nat) (F : Nat → Value) (P : Nat → Nat → Prop), j ≤ rs.length ∧ i = .int .i64 j ∧ Hid (CB w wr w.heap.size (.slice (some ⟨w.heap.size, 0, none⟩) rs.length rs.length) rs H j F P)) (fun i _ => rs.length - (intOf i).toNat)
  case atStart => exact ⟨0, _, _, Nat.zero_le _, rfl, C1.out⟩
  case round =>
    clear C1
    obtain ⟨j, F, P, hj, rfl, W1⟩ := hrel
    by_cases hlt : j < rs.length
    · have h0 : (0 : Int) ≤ (j : Int) := by omega
      have h1 : (j : Int) < (rs.length : Int) := by omega
      obtain ⟨e0, e1, e2, e3, e4, e5⟩ := W1.out.six hlt
      have z5 := World.ownsRow.frozenAt W1.out.own (j * 6 + 5)
      have KH := Seg.hid ((HH.out j hlt).below (W1.out.bel.mono hb))
      have FH := HF.out j hlt
      unfold FewR at FH
      obtain ⟨_, Ah, ch, hHj, _⟩ := id KH.out
      rw [hHj] at e5 KH
      clear hHj
      have ST := Seg.hid (fun w3 hv b3 ho => CB.step (w3 := w3) (hv := hv) W1.out hlt (Nat.le_refl _) W1.out.bel.size b3 ho)
      have hgl := World.ownsRow.lt W1.out.own w.heap.size rfl
      have hwr := W1.out.bel.size
      generalize rs.getD j default = rj at *
      go_wp2_with (at_builtin; (refine wpList_append_all _ rfl (.const (.slice none 0 0)) (.tmp 22) 86 rfl wr.heap.size 116 i1 _ 2 32 Try.underlying86 hi' hz0' hz1' hz2' rfl (by decide) (.slice none 0 0) 0 [] rfl (World.ownsRow_nil _ _ _ _) Ah rj.heads.length ch (flat 2 rj.heads.length (hdCells rj.heads)) rfl (flat_len _ _ _) (flat_news (by decide) (Row.below KH.out ((below1 wr _).mono (by omega)))) (flat_one (hd_one _) (by omega)) (by unfold maxLen; omega) (by omega) (by rw [hsz]; omega) ?_; intro v2 w2 hown2 hgr2 hat2; rw [Nat.zero_add, List.nil_append] at hown2; obtain ⟨A2, c2, rfl, hA2⟩ := owns_form hown2; clear hA2; have B2 := Seg.hid ((below1 wr _).grown hgr2 (by rw [hsz]; omega) (fun k hk => by cases hk)); have e5' : w2.cell? ⟨w.heap.size, j * 6 + 5, none⟩ = some (.slice Ah rj.heads.length ch) := (B2.out.cell (p := ⟨w.heap.size, j * 6 + 5, none⟩) hgl.2).trans e5; have z5' : w2.frozen? ⟨w.heap.size, j * 6 + 5, none⟩ = false := (B2.out.frozen (p := ⟨w.heap.size, j * 6 + 5, none⟩) hgl.2).trans z5; have S2 := Seg.hid (ST.out w2 _ B2.out (own_heads_flat hown2 FH)); have K2 := Seg.hid B2.out.block; have s2 := B2.out.size; clear hown2 hgr2 hat2))
      go_roundw
      case rel => exact ⟨j + 1, _, _, by omega, by go_num, S2.out⟩
      case measure => simp [intOf]; omega
    · have : j = rs.length := by omega
      have G1 := Seg.hid (CB.grow (this ▸ W1.out))
      have BL := Seg.hid W1.out.bel
      clear W1
      subst this
      go_wp2_with fail
      go_ret
      exact ⟨_, rfl, G1.out, BL.out⟩
end Go.Proofs.Yticihnoekffelaa.Ft
namespace Go.Proofs.Yticihnoekffelaa.Ft
set_option maxRecDepth 8000
open Go.RowKit
open Recs
open ToO (MineC)
set_option linter.unusedVariables false
set_option maxHeartbeats 1600000 in
theorem copyBatch_core (t : Bat) (A : Option Addr) (c : Nat) (H : Nat → Value) (w : World) (lo b : Nat) (hb : b ≤ w.heap.size) (hf : FewB t) (hr : Row w lo b 6 (.slice A t.recs.length c) t.recs.length (recCells t.recs H)) (hh : ∀ i, i < t.recs.length → Heads w lo b (H i) (t.recs.getD i default).heads) :
    Calls Try.prog 61 #[batVal t (.slice A t.recs.length c)] w fun e w' => ∃ rv, e = .returned (batVal t rv) ∧ OwnR w' (seg w.heap.size w'.heap.size) rv t.recs ∧ Below w.heap.size w w' := by
  have HR := Seg.hid hr; have HH := Seg.hid hh; have HF := Seg.hid hf.2
  have hl := hf.1
  clear hr hh hf
  unfold batVal
  go_enter Try.func61, Try.ntmps61
  go_wp2_with fail
  refine (copyRecords_core t.recs A c H ((w.alloc _).alloc _) lo b (by rw [hsz, hsz]; omega) hl HF.out (Row.below HR.out ((below2 w _ _).mono hb)) (fun i hi => (HH.out i hi).below ((below2 w _ _).mono hb))).mono ?_
  rintro e wr ⟨rv, rfl, hG, b1⟩
  rw [hsz, hsz] at hG
  have BL := Seg.hid (chain (below2 w _ _) b1)
  have hwr := b1.size
  rw [hsz, hsz] at hwr
  obtain ⟨A1, c1, rfl⟩ := LGrow.form hG
  have G1 := Seg.hid (LGrow.own hG hl)
  have U1 : Hid (wr.heap[w.heap.size]? = some (.cells (BatW.batArr t (.slice A t.recs.length c)) 58 (0, 0))) := (b1.block w.heap.size (by rw [hsz, hsz]; omega)).trans ((heap_alloc_old _ _ (by rw [hsz]; omega)).trans (heap_alloc_new _ _))
  have U2 : Hid (wr.heap[w.heap.size + 1]? = some (.cells (BatW.batArr ⟨0, 0, 0, 0, 0, 0, []⟩ (.slice none 0 0)) 58 (0, 0))) := (b1.block (w.heap.size + 1) (by rw [hsz, hsz]; omega)).trans (by have := heap_alloc_new (w.alloc (.cells (BatW.batArr t (.slice A t.recs.length c)) 58 (0, 0))) (.cells (BatW.batArr ⟨0, 0, 0, 0, 0, 0, []⟩ (.slice none 0 0)) 58 (0, 0)); rw [hsz] at this; exact this)
  clear hG b1
  have c6 : wr.cell? ⟨w.heap.size, 6, none⟩ = some (.slice A t.recs.length c) := cell_of_row wr w.heap.size 6 _ _ (0, 0) U1.out
  have y6 := frozen_of_row wr w.heap.size 6 _ _ U1.out
  have H3 : Hid ((wr.setCell ⟨w.heap.size, 6, none⟩ (.slice A1 t.recs.length c1)).heap[w.heap.size]? = some (.cells (BatW.batArr t (.slice A1 t.recs.length c1)) 58 (0, 0))) := heap_setCell_same wr w.heap.size 6 _ _ (.slice A1 t.recs.length c1) U1.out
  have T4 := (heap_setCell_other wr ⟨w.heap.size, 6, none⟩ (w.heap.size + 1) (.slice A1 t.recs.length c1) (by simp)).trans U2.out
  have H5 := Seg.hid (Cells.there_of T4)
  have H4 := Seg.hid (Cells.whole (vs := BatW.batArr t (.slice A1 t.recs.length c1)) T4 rfl)
  have B2 := Seg.hid (Cells.below_setCells (g := w.heap.size + 1) (by omega) (BatW.batArr t (.slice A1 t.recs.length c1)).toList 0 _ _ (BL.out.setCell (p := ⟨w.heap.size, 6, none⟩) (by simp) (.slice A1 t.recs.length c1)))
  have HF' : Hid (OwnR ((wr.setCell ⟨w.heap.size, 6, none⟩ (.slice A1 t.recs.length c1)).setCells (w.heap.size + 1) 0 (BatW.batArr t (.slice A1 t.recs.length c1)).toList) (seg w.heap.size ((wr.setCell ⟨w.heap.size, 6, none⟩ (.slice A1 t.recs.length c1)).setCells (w.heap.size + 1) 0 (BatW.batArr t (.slice A1 t.recs.length c1)).toList).heap.size) (.slice A1 t.recs.length c1) t.recs) := by
    refine (LOwn.keep keepsR G1.out (by rw [Cells.size_setCells]; simp) (fun g h1 => ?_)).mono (fun x hx => ?_)
    · have := h1.1
      rw [Cells.heap_setCells_other _ _ (by omega), heap_setCell_other _ _ _ _ (by show _ ≠ w.heap.size; omega)]
    · obtain ⟨x1, x2⟩ := hx
      refine ⟨by omega, ?_⟩
      rw [Cells.size_setCells]
      simpa using x2
  clear T4
  go_wp2_with (first | (refine wpList_load_row rfl 58 _ rfl w.heap.size rfl _ _ _ _ H3.out Try.underlying58 rfl BatW.info40 ?_) | (refine wpList_store_mid rfl 58 _ _ rfl (w.heap.size + 1) 0 (BatW.batArr t (.slice A1 t.recs.length c1)) rfl rfl H5.out BatW.info40 (BatW.batArr_one _ _ rfl) ?_))
  exact bodyPost_ret (v := batVal t (.slice A1 t.recs.length c1)) (results_cell_row rfl _ _ (w.heap.size + 1) _ _ _ _ rfl H4.out Try.underlying58 rfl BatW.info40) rfl ⟨_, rfl, HF'.out, B2.out⟩
theorem copyBatch_any (v : Value) (t : Bat) (w : World) (lo b : Nat) (hv : BatAt w lo b v t) (hb : b ≤ w.heap.size) (hf : FewB t) :
    Calls Try.prog 61 #[v] w fun e w' => ∃ rv, e = .returned (batVal t rv) ∧ OwnR w' (seg w.heap.size w'.heap.size) rv t.recs ∧ Below w.heap.size w w' := by
  obtain ⟨rv, rfl, H, hr, hh⟩ := hv
  obtain ⟨_, A, c, rfl, _⟩ := id hr
  exact copyBatch_core t A c H w lo b hb hf hr hh
end Go.Proofs.Yticihnoekffelaa.Ft
namespace Go.Proofs.Yticihnoekffelaa.Ft
set_option maxRecDepth 8000
open Go.RowKit
open Recs
set_option linter.unusedVariables false
theorem bat_el {w : World} {t : Bat} {rv : Value} {Q : Nat → Prop} (h : OwnR w Q rv t.recs) : EB w Q (fun q => (BatW.batArr t rv).toList.getD q default) t := ⟨⟨rfl, rfl, rfl, rfl, rfl, rfl⟩, h⟩
theorem seven {w : World} {g ty : Nat} {t : Bat} {v : Value} (h : w.heap[g]? = some (.cells (BatW.batArr t v) ty (0, 0))) : w.cell? ⟨g, 0, none⟩ = some (.int .i64 t.base) ∧ w.cell? ⟨g, 1, none⟩ = some (.int .i64 t.epoch) ∧ w.cell? ⟨g, 2, none⟩ = some (.int .i64 t.producer) ∧ w.cell? ⟨g, 3, none⟩ = some (.int .i64 t.turn) ∧ w.cell? ⟨g, 4, none⟩ = some (.int .i64 t.seq) ∧ w.cell? ⟨g, 5, none⟩ = some (.int .i64 t.flags) ∧ w.cell? ⟨g, 6, none⟩ = some v :=
  ⟨cell_of_row w g 0 _ _ (0, 0) h, cell_of_row w g 1 _ _ (0, 0) h, cell_of_row w g 2 _ _ (0, 0) h, cell_of_row w g 3 _ _ (0, 0) h, cell_of_row w g 4 _ _ (0, 0) h, cell_of_row w g 5 _ _ (0, 0) h, cell_of_row w g 6 _ _ (0, 0) h⟩
theorem infoB : (Try.prog.info? 58).map (fun i => (i.zero, i.size, i.bytes)) = some (some (.agg #[.int .i64 0, .int .i64 0, .int .i64 0, .int .i64 0, .int .i64 0, .int .i64 0, .slice none 0 0]), 7, 72) := by kernel_rfl
end Go.Proofs.Yticihnoekffelaa.Ft
