/- The program's copies of a list of Records and of a Batch; A Batch as an element of a list, and in a variable of its own; The program's copies of a Segment and of a list of Segments. -/
import Derived.OwnWalk
import Derived.Deep.RegionLaw
import Derived.Test.YtggjinjadllapaaJSF13
import Derived.Test.YtggjinjadllapaaJSF12
namespace Go.Proofs.Ytggjinjadllapaa.Ft
set_option maxRecDepth 8000
open Go.RowKit
open Recs
open ToO (MineC)
set_option linter.unusedVariables false
theorem infoH : (Try.prog.info? 100).map (fun i => (i.zero, i.size, i.bytes)) = some (some (.agg #[.string ⟨#[]⟩, .string ⟨#[]⟩]), 2, 32) := by kernel_rfl
theorem infoR : (Try.prog.info? 84).map (fun i => (i.zero, i.size, i.bytes)) = some (some (.agg #[.int .i64 0, .bool false, .string ⟨#[]⟩, .bool false, .string ⟨#[]⟩, .slice none 0 0]), 6, 80) := by kernel_rfl
/-- A list that was made out of a row's cells. -/
theorem grow_flat {T : Type} [Inhabited T] {ty nf : Nat} {EO : World → (Nat → Prop) → (Nat → Value) → T → Prop} {w : World} {base n : Nat} {v : Value} {f : Nat → Nat → Value} {us : List T} (h : w.ownsRow base ty nf v n (flat nf n f)) (hl : us.length = n) (he : ∀ i, i < n → ∀ g : Nat → Value, (∀ q, q < nf → g q = f i q) → EO w (fun _ => False) g (us.getD i default)) : LGrow ty nf EO w base v us := by
  subst hl
  refine ⟨fun q => (flat nf us.length f).getD q default, fun _ _ => False, ?_, fun i hi => he i hi _ (fun q hq => flat_cell nf us.length f i q hi hq), fun _ _ _ hx => hx.elim, fun _ _ _ _ _ _ hx => hx.elim⟩
  have : (List.range (us.length * nf)).map (fun q => (flat nf us.length f).getD q default) = flat nf us.length f := List.ext_getElem (by simp [flat_len]) fun i h1 h2 => by simp [h2]
  rw [this]
  exact h
/-- A copy of Heads. -/
theorem own_heads_flat {w : World} {base : Nat} {v : Value} {hs : List Hd} (h : w.ownsRow base 100 2 v hs.length (flat 2 hs.length (hdCells hs))) (hl : hs.length ≤ 1048576) : OwnH w (seg base w.heap.size) v hs :=
  LGrow.own (grow_flat h rfl fun i hi g hg => ⟨hg 0 (by omega), hg 1 (by omega)⟩) hl
theorem flat_one {s n : Nat} {f : Nat → Nat → Value} (h : ∀ i, i < n → ∀ j, j < s → (f i j).oneCell' = true) (hs : 0 < s) : ∀ u ∈ flat s n f, u.oneCell' = true := fun u hu => by
  unfold flat at hu
  rw [List.mem_map] at hu
  obtain ⟨q, hq, rfl⟩ := hu
  rw [List.mem_range] at hq
  exact h _ (Nat.div_lt_of_lt_mul (by rw [Nat.mul_comm]; exact hq)) _ (Nat.mod_lt _ hs)
theorem hd_one (hs : List Hd) : ∀ i, i < hs.length → ∀ j, j < 2 → (hdCells hs i j).oneCell' = true := fun i _ j hj => by
  match j, hj with
  | 0, _ => rfl
  | 1, _ => rfl
theorem rec_one {w : World} {lo b : Nat} (rs : List Rec) (H : Nat → Value) (hh : ∀ i, i < rs.length → Heads w lo b (H i) (rs.getD i default).heads) : ∀ i, i < rs.length → ∀ j, j < 6 → (recCells rs H i j).oneCell' = true := fun i hi j hj => by
  match j, hj with
  | 0, _ => rfl
  | 1, _ => rfl
  | 2, _ => rfl
  | 3, _ => rfl
  | 4, _ => rfl
  | 5, _ =>
    obtain ⟨_, A, c, h, _⟩ := hh i hi
    show (H i).oneCell' = true
    rw [h]; rfl
/-- How far the Heads of a list of Records are copied: j of them. -/
structure CB (w wr : World) (base : Nat) (v : Value) (rs : List Rec) (H : Nat → Value) (j : Nat) (F : Nat → Value) (P : Nat → Nat → Prop) : Prop where
  own : wr.ownsRow base 84 6 v rs.length ((List.range (rs.length * 6)).map F)
  cells : ∀ i, i < rs.length → ∀ q, q < 5 → F (i * 6 + q) = recCells rs H i q
  todo : ∀ i, j ≤ i → i < rs.length → F (i * 6 + 5) = H i
  done : ∀ i, i < j → OwnH wr (P i) (F (i * 6 + 5)) (rs.getD i default).heads
  apart : ∀ i, i < j → ∀ x, P i x → base ≤ x ∧ x < wr.heap.size ∧ v.ownBlock ≠ some x
  disj : ∀ i k, i < j → k < j → i ≠ k → ∀ x, P i x → ¬ P k x
  bel : Below w.heap.size w wr
theorem CB.start {w wr : World} {base : Nat} {v : Value} {rs : List Rec} {H : Nat → Value} (h : wr.ownsRow base 84 6 v rs.length (flat 6 rs.length (recCells rs H))) (hb : Below w.heap.size w wr) : CB w wr base v rs H 0 (fun q => (flat 6 rs.length (recCells rs H)).getD q default) (fun _ _ => False) := by
  have : (List.range (rs.length * 6)).map (fun q => (flat 6 rs.length (recCells rs H)).getD q default) = flat 6 rs.length (recCells rs H) := List.ext_getElem (by simp [flat_len]) fun i h1 h2 => by simp [h2]
  refine ⟨by rw [this]; exact h, fun i hi q hq => flat_cell 6 _ _ i q hi (by omega), fun i _ hi => ?_, fun i hi => absurd hi (by omega), fun i hi => absurd hi (by omega), fun i k hi => absurd hi (by omega), hb⟩
  rw [flat_cell 6 _ _ i 5 hi (by omega)]
  rfl
theorem CB.step {w wr w3 : World} {base g c : Nat} {rs : List Rec} {H : Nat → Value} {j : Nat} {F : Nat → Value} {P : Nat → Nat → Prop} {hv : Value} (h : CB w wr base (.slice (some ⟨g, 0, none⟩) rs.length c) rs H j F P) (hj : j < rs.length) (hb : w.heap.size ≤ base) (hbase : base ≤ wr.heap.size) (b3 : Below wr.heap.size wr w3) (ho : OwnH w3 (seg wr.heap.size w3.heap.size) hv (rs.getD j default).heads) :
    CB w (w3.setCell ⟨g, j * 6 + 5, none⟩ hv) base (.slice (some ⟨g, 0, none⟩) rs.length c) rs H (j + 1) (fun q => if q = j * 6 + 5 then hv else F q) (fun i => if i = j then seg wr.heap.size w3.heap.size else P i) := by
  have hg := World.ownsRow.lt h.own g rfl
  have hs := b3.size
  have keep : ∀ x, x ≠ g → (w3.setCell ⟨g, j * 6 + 5, none⟩ hv).heap[x]? = w3.heap[x]? := fun x hx => heap_setCell_other w3 ⟨g, j * 6 + 5, none⟩ x hv hx
  have own3 : w3.ownsRow base 84 6 (.slice (some ⟨g, 0, none⟩) rs.length c) rs.length ((List.range (rs.length * 6)).map F) := own_keep h.own (fun x _ hx => b3.block x hx)
  refine ⟨?_, fun i hi q hq => ?_, fun i hi1 hi2 => ?_, fun i hi => ?_, fun i hi x hx => ?_, fun i k hi hk hik x hx hx' => ?_, (chain h.bel b3).setCell (p := ⟨g, j * 6 + 5, none⟩) (by show w.heap.size ≤ g; omega) hv⟩
  · have := (World.ownsRow.stored own3 (j * 6 + 5) hv).1
    have he : ((List.range (rs.length * 6)).map F).set (j * 6 + 5) hv = (List.range (rs.length * 6)).map (fun i => if i = j * 6 + 5 then hv else F i) := List.ext_getElem (by simp) fun i h1 h2 => by
      by_cases hi : i = j * 6 + 5
      · subst hi; simp
      · rw [List.getElem_set_ne (by omega)]; simp [hi]
    rw [he] at this
    exact this
  · show (if _ then _ else _) = _
    rw [if_neg (by omega)]
    exact h.cells i hi q hq
  · show (if _ then _ else _) = _
    rw [if_neg (by omega)]
    exact h.todo i (by omega) hi2
  · show OwnH _ (if i = j then _ else _) (if _ then _ else _) _
    by_cases e : i = j
    · subst e
      rw [if_pos rfl, if_pos rfl]
      exact LOwn.keep keepsH ho (by simp) (fun x hx => keep x (by have := hx.1; omega))
    · rw [if_neg e, if_neg (by omega)]
      exact LOwn.keep keepsH (h.done i (by omega)) (by simpa using hs) (fun x hx => (keep x (fun e => (h.apart i (by omega) x hx).2.2 (by rw [e]; rfl))).trans (b3.block x (h.apart i (by omega) x hx).2.1))
  · show base ≤ x ∧ x < (w3.setCell ⟨g, j * 6 + 5, none⟩ hv).heap.size ∧ _
    rw [World.size_setCell]
    by_cases e : i = j
    · subst e
      rw [if_pos rfl] at hx
      obtain ⟨x1, x2⟩ := hx
      refine ⟨by omega, x2, fun e => ?_⟩
      simp only [Value.ownBlock, Option.some.injEq] at e
      omega
    · rw [if_neg e] at hx
      have := h.apart i (by omega) x hx
      exact ⟨this.1, by omega, this.2.2⟩
  · by_cases e : i = j
    · subst e
      rw [if_pos rfl] at hx
      rw [if_neg (Ne.symm hik)] at hx'
      have a1 := h.apart k (by omega) x hx'
      have := hx.1
      omega
    · rw [if_neg e] at hx
      by_cases e2 : k = j
      · subst e2
        rw [if_pos rfl] at hx'
        have a1 := h.apart i (by omega) x hx
        have := hx'.1
        omega
      · rw [if_neg e2] at hx'
        exact h.disj i k (by omega) (by omega) hik x hx hx'
theorem CB.grow {w wr : World} {base : Nat} {v : Value} {rs : List Rec} {H : Nat → Value} {F : Nat → Value} {P : Nat → Nat → Prop} (h : CB w wr base v rs H rs.length F P) : LGrow 84 6 ER wr base v rs :=
  ⟨F, P, h.own, fun i hi => ⟨⟨h.cells i hi 0 (by omega), h.cells i hi 1 (by omega), h.cells i hi 2 (by omega), h.cells i hi 3 (by omega), h.cells i hi 4 (by omega)⟩, h.done i hi⟩, h.apart, h.disj⟩
theorem CB.six {w wr : World} {base g c : Nat} {rs : List Rec} {H : Nat → Value} {j : Nat} {F : Nat → Value} {P : Nat → Nat → Prop} (h : CB w wr base (.slice (some ⟨g, 0, none⟩) rs.length c) rs H j F P) (hj : j < rs.length) :
    wr.cell? ⟨g, j * 6, none⟩ = some (.int .i64 (rs.getD j default).time) ∧ wr.cell? ⟨g, j * 6 + 1, none⟩ = some (.bool (rs.getD j default).keyed) ∧ wr.cell? ⟨g, j * 6 + 2, none⟩ = some (.string (rs.getD j default).key) ∧ wr.cell? ⟨g, j * 6 + 3, none⟩ = some (.bool (rs.getD j default).gone) ∧ wr.cell? ⟨g, j * 6 + 4, none⟩ = some (.string (rs.getD j default).val) ∧ wr.cell? ⟨g, j * 6 + 5, none⟩ = some (H j) := by
  have hm : ∀ q, q < rs.length * 6 → wr.cell? ⟨g, q, none⟩ = some (F q) := fun q hq => by
    rw [World.ownsRow.cellAt h.own q hq]
    simp [hq]
  refine ⟨?_, ?_, ?_, ?_, ?_, ?_⟩
  · rw [hm _ (by omega)]; exact congrArg some (h.cells j hj 0 (by omega))
  · rw [hm _ (by omega)]; exact congrArg some (h.cells j hj 1 (by omega))
  · rw [hm _ (by omega)]; exact congrArg some (h.cells j hj 2 (by omega))
  · rw [hm _ (by omega)]; exact congrArg some (h.cells j hj 3 (by omega))
  · rw [hm _ (by omega)]; exact congrArg some (h.cells j hj 4 (by omega))
  · rw [hm _ (by omega)]; exact congrArg some (h.todo j (Nat.le_refl _) hj)
theorem owns_form {w : World} {base ty s n : Nat} {v : Value} {xs : List Value} (h : w.ownsRow base ty s v n xs) : ∃ A c, v = .slice A n c ∧ (0 < n → ∃ g, A = some ⟨g, 0, none⟩) := by
  rcases h.2 with ⟨h1, h2⟩ | ⟨g, cap, cur, h1, _⟩
  · exact ⟨none, 0, by rw [h1, h2], fun h => absurd h (by omega)⟩
  · exact ⟨_, _, h1, fun _ => ⟨g, rfl⟩⟩
set_option maxHeartbeats 1600000 in
theorem copyRecords_core (rs : List Rec) (A : Option Addr) (c : Nat) (H : Nat → Value) (w : World) (lo b : Nat) (hb : b ≤ w.heap.size) (hl : rs.length ≤ 1048576) (hf : ∀ i, i < rs.length → FewR (rs.getD i default)) (hr : Row w lo b 6 (.slice A rs.length c) rs.length (recCells rs H)) (hh : ∀ i, i < rs.length → Heads w lo b (H i) (rs.getD i default).heads) :
    Calls Try.prog 82 #[.slice A rs.length c] w fun e w' => ∃ rv, e = .returned rv ∧ LGrow 84 6 ER w' w.heap.size rv rs ∧ Below w.heap.size w w' := by
  obtain ⟨i0, hi, hz0, hz1, hz2⟩ := info_parts infoR
  obtain ⟨i1, hi', hz0', hz1', hz2'⟩ := info_parts infoH
  have HR := Seg.hid hr; have HH := Seg.hid hh; have HF := Seg.hid hf
  have HO := Seg.hid (flat_one (rec_one rs H hh) (by omega))
  clear hr hh hf
  go_enter Try.func82, Try.ntmps82
  go_wp2_with (at_make; (refine wpList_make_full _ rfl (.tmp 7) (.tmp 7) 50 rfl w.heap.size 84 i0 _ 6 Try.underlying50 hi hz0 hz1 .i64 .i64 _ _ rs.length rfl rfl rfl rfl (by rw [hz2]; omega) (by unfold maxLen; omega) (Nat.le_refl _) ?_; intro w1 hown1 hgr1; have OW1 := Seg.hid hown1; have B1 := Seg.hid ((Below.refl w.heap.size w).grown hgr1 (Nat.le_refl _) (fun k hk => by cases hk)); clear hown1 hgr1))
  obtain ⟨w2, hrun, hown2, hgr2⟩ := run_copy_all (P := Try.prog) w1 w.heap.size 50 50 3 84 i0 6 Try.underlying50 hi hz1 w.heap.size rs.length _ OW1.out A c (flat 6 rs.length (recCells rs H)) (flat_len _ _ _) (flat_news (by decide) (Row.below HR.out (B1.out.mono hb))) HO.out
  rw [hrun]
  have B2 := Seg.hid (B1.out.grown hgr2 B1.out.size (fun k hk => by cases hk; exact Nat.le_refl _))
  have C1 := Seg.hid (CB.start hown2 B2.out)
  clear hown2 hgr2 hrun
  go_wp2_with fail
  go_loopw [14] (fun i wr => ∃ (j : Nat) (F : Nat → Value) (P : Nat → Nat → Prop), j ≤ rs.length ∧ i = .int .i64 j ∧ Hid (CB w wr w.heap.size (.slice (some ⟨w.heap.size, 0, none⟩) rs.length rs.length) rs H j F P)) (fun i _ => rs.length - (intOf i).toNat)
  case atStart => exact ⟨0, _, _, Nat.zero_le _, rfl, C1.out⟩
  case round =>
    clear C1
    obtain ⟨j, F, P, hj, rfl, W1⟩ := hrel
    by_cases hlt : j < rs.length
    · have h0 : (0 : Int) ≤ (j : Int) := by omega
      have h1 : (j : Int) < (rs.length : Int) := by omega
      obtain ⟨e0, e1, e2, e3, e4, e5⟩ := W1.out.six hlt
      have z5 := World.ownsRow.frozenAt W1.out.own (j * 6 + 5)
      have KH := Seg.hid ((HH.out j hlt).below (W1.out.bel.mono hb))
      have FH := HF.out j hlt
      unfold FewR at FH
      obtain ⟨_, Ah, ch, hHj, _⟩ := id KH.out
      rw [hHj] at e5 KH
      clear hHj
      have ST := Seg.hid (fun w3 hv b3 ho => CB.step (w3 := w3) (hv := hv) W1.out hlt (Nat.le_refl _) W1.out.bel.size b3 ho)
      have hgl := World.ownsRow.lt W1.out.own w.heap.size rfl
      have hwr := W1.out.bel.size
      generalize rs.getD j default = rj at *
      go_wp2_with (at_builtin; (refine wpList_append_all _ rfl (.const (.slice none 0 0)) (.tmp 22) 82 rfl wr.heap.size 100 i1 _ 2 32 Try.underlying82 hi' hz0' hz1' hz2' rfl (by decide) (.slice none 0 0) 0 [] rfl (World.ownsRow_nil _ _ _ _) Ah rj.heads.length ch (flat 2 rj.heads.length (hdCells rj.heads)) rfl (flat_len _ _ _) (flat_news (by decide) (Row.below KH.out ((below1 wr _).mono (by omega)))) (flat_one (hd_one _) (by omega)) (by unfold maxLen; omega) (by omega) (by rw [hsz]; omega) ?_; intro v2 w2 hown2 hgr2 hat2; rw [Nat.zero_add, List.nil_append] at hown2; obtain ⟨A2, c2, rfl, hA2⟩ := owns_form hown2; clear hA2; have B2 := Seg.hid ((below1 wr _).grown hgr2 (by rw [hsz]; omega) (fun k hk => by cases hk)); have e5' : w2.cell? ⟨w.heap.size, j * 6 + 5, none⟩ = some (.slice Ah rj.heads.length ch) := (B2.out.cell (p := ⟨w.heap.size, j * 6 + 5, none⟩) hgl.2).trans e5; have z5' : w2.frozen? ⟨w.heap.size, j * 6 + 5, none⟩ = false := (B2.out.frozen (p := ⟨w.heap.size, j * 6 + 5, none⟩) hgl.2).trans z5; have S2 := Seg.hid (ST.out w2 _ B2.out (own_heads_flat hown2 FH)); have K2 := Seg.hid B2.out.block; have s2 := B2.out.size; clear hown2 hgr2 hat2))
      go_roundw
      case rel => exact ⟨j + 1, _, _, by omega, by go_num, S2.out⟩
      case measure => simp [intOf]; omega
    · have : j = rs.length := by omega
      have G1 := Seg.hid (CB.grow (this ▸ W1.out))
      have BL := Seg.hid W1.out.bel
      clear W1
      subst this
      go_wp2_with fail
      go_ret
      exact ⟨_, rfl, G1.out, BL.out⟩
set_option maxHeartbeats 1600000 in
theorem copyBatch_core (t : Bat) (A : Option Addr) (c : Nat) (H : Nat → Value) (w : World) (lo b : Nat) (hb : b ≤ w.heap.size) (hf : FewB t) (hr : Row w lo b 6 (.slice A t.recs.length c) t.recs.length (recCells t.recs H)) (hh : ∀ i, i < t.recs.length → Heads w lo b (H i) (t.recs.getD i default).heads) :
    Calls Try.prog 70 #[batVal t (.slice A t.recs.length c)] w fun e w' => ∃ rv, e = .returned (batVal t rv) ∧ OwnR w' (seg w.heap.size w'.heap.size) rv t.recs ∧ Below w.heap.size w w' := by
  have HR := Seg.hid hr; have HH := Seg.hid hh; have HF := Seg.hid hf.2
  have hl := hf.1
  clear hr hh hf
  unfold batVal
  go_enter Try.func70, Try.ntmps70
  go_wp2_with fail
  refine (copyRecords_core t.recs A c H ((w.alloc _).alloc _) lo b (by rw [hsz, hsz]; omega) hl HF.out (Row.below HR.out ((below2 w _ _).mono hb)) (fun i hi => (HH.out i hi).below ((below2 w _ _).mono hb))).mono ?_
  rintro e wr ⟨rv, rfl, hG, b1⟩
  rw [hsz, hsz] at hG
  have BL := Seg.hid (chain (below2 w _ _) b1)
  have hwr := b1.size
  rw [hsz, hsz] at hwr
  obtain ⟨A1, c1, rfl⟩ := LGrow.form hG
  have G1 := Seg.hid (LGrow.own hG hl)
  have U1 : Hid (wr.heap[w.heap.size]? = some (.cells (BatW.batArr t (.slice A t.recs.length c)) 52 (0, 0))) := (b1.block w.heap.size (by rw [hsz, hsz]; omega)).trans ((heap_alloc_old _ _ (by rw [hsz]; omega)).trans (heap_alloc_new _ _))
  have U2 : Hid (wr.heap[w.heap.size + 1]? = some (.cells (BatW.batArr ⟨0, 0, 0, 0, 0, 0, []⟩ (.slice none 0 0)) 52 (0, 0))) := (b1.block (w.heap.size + 1) (by rw [hsz, hsz]; omega)).trans (by have := heap_alloc_new (w.alloc (.cells (BatW.batArr t (.slice A t.recs.length c)) 52 (0, 0))) (.cells (BatW.batArr ⟨0, 0, 0, 0, 0, 0, []⟩ (.slice none 0 0)) 52 (0, 0)); rw [hsz] at this; exact this)
  clear hG b1
  have c6 : wr.cell? ⟨w.heap.size, 6, none⟩ = some (.slice A t.recs.length c) := cell_of_row wr w.heap.size 6 _ _ (0, 0) U1.out
  have y6 := frozen_of_row wr w.heap.size 6 _ _ U1.out
  have H3 : Hid ((wr.setCell ⟨w.heap.size, 6, none⟩ (.slice A1 t.recs.length c1)).heap[w.heap.size]? = some (.cells (BatW.batArr t (.slice A1 t.recs.length c1)) 52 (0, 0))) := heap_setCell_same wr w.heap.size 6 _ _ (.slice A1 t.recs.length c1) U1.out
  have T4 := (heap_setCell_other wr ⟨w.heap.size, 6, none⟩ (w.heap.size + 1) (.slice A1 t.recs.length c1) (by simp)).trans U2.out
  have H5 := Seg.hid (Cells.there_of T4)
  have H4 := Seg.hid (Cells.whole (vs := BatW.batArr t (.slice A1 t.recs.length c1)) T4 rfl)
  have B2 := Seg.hid (Cells.below_setCells (g := w.heap.size + 1) (by omega) (BatW.batArr t (.slice A1 t.recs.length c1)).toList 0 _ _ (BL.out.setCell (p := ⟨w.heap.size, 6, none⟩) (by simp) (.slice A1 t.recs.length c1)))
  have HF' : Hid (OwnR ((wr.setCell ⟨w.heap.size, 6, none⟩ (.slice A1 t.recs.length c1)).setCells (w.heap.size + 1) 0 (BatW.batArr t (.slice A1 t.recs.length c1)).toList) (seg w.heap.size ((wr.setCell ⟨w.heap.size, 6, none⟩ (.slice A1 t.recs.length c1)).setCells (w.heap.size + 1) 0 (BatW.batArr t (.slice A1 t.recs.length c1)).toList).heap.size) (.slice A1 t.recs.length c1) t.recs) := by
    refine (LOwn.keep keepsR G1.out (by rw [Cells.size_setCells]; simp) (fun g h1 => ?_)).mono (fun x hx => ?_)
    · have := h1.1
      rw [Cells.heap_setCells_other _ _ (by omega), heap_setCell_other _ _ _ _ (by show _ ≠ w.heap.size; omega)]
    · obtain ⟨x1, x2⟩ := hx
      refine ⟨by omega, ?_⟩
      rw [Cells.size_setCells]
      simpa using x2
  clear T4
  go_wp2_with (first | (refine wpList_load_row rfl 52 _ rfl w.heap.size rfl _ _ _ _ H3.out Try.underlying52 rfl BatW.info40 ?_) | (refine wpList_store_mid rfl 52 _ _ rfl (w.heap.size + 1) 0 (BatW.batArr t (.slice A1 t.recs.length c1)) rfl rfl H5.out BatW.info40 (BatW.batArr_one _ _ rfl) ?_))
  exact bodyPost_ret (v := batVal t (.slice A1 t.recs.length c1)) (results_cell_row rfl _ _ (w.heap.size + 1) _ _ _ _ rfl H4.out Try.underlying52 rfl BatW.info40) rfl ⟨_, rfl, HF'.out, B2.out⟩
theorem copyBatch_any (v : Value) (t : Bat) (w : World) (lo b : Nat) (hv : BatAt w lo b v t) (hb : b ≤ w.heap.size) (hf : FewB t) :
    Calls Try.prog 70 #[v] w fun e w' => ∃ rv, e = .returned (batVal t rv) ∧ OwnR w' (seg w.heap.size w'.heap.size) rv t.recs ∧ Below w.heap.size w w' := by
  obtain ⟨rv, rfl, H, hr, hh⟩ := hv
  obtain ⟨_, A, c, rfl, _⟩ := id hr
  exact copyBatch_core t A c H w lo b hb hf hr hh
end Go.Proofs.Ytggjinjadllapaa.Ft
namespace Go.Proofs.Ytggjinjadllapaa.Ft
set_option maxRecDepth 8000
open Go.RowKit
open Recs
set_option linter.unusedVariables false
theorem bat_el {w : World} {t : Bat} {rv : Value} {Q : Nat → Prop} (h : OwnR w Q rv t.recs) : EB w Q (fun q => (BatW.batArr t rv).toList.getD q default) t := ⟨⟨rfl, rfl, rfl, rfl, rfl, rfl⟩, h⟩
theorem seven {w : World} {g ty : Nat} {t : Bat} {v : Value} (h : w.heap[g]? = some (.cells (BatW.batArr t v) ty (0, 0))) : w.cell? ⟨g, 0, none⟩ = some (.int .i64 t.base) ∧ w.cell? ⟨g, 1, none⟩ = some (.int .i64 t.epoch) ∧ w.cell? ⟨g, 2, none⟩ = some (.int .i64 t.producer) ∧ w.cell? ⟨g, 3, none⟩ = some (.int .i64 t.turn) ∧ w.cell? ⟨g, 4, none⟩ = some (.int .i64 t.seq) ∧ w.cell? ⟨g, 5, none⟩ = some (.int .i64 t.flags) ∧ w.cell? ⟨g, 6, none⟩ = some v :=
  ⟨cell_of_row w g 0 _ _ (0, 0) h, cell_of_row w g 1 _ _ (0, 0) h, cell_of_row w g 2 _ _ (0, 0) h, cell_of_row w g 3 _ _ (0, 0) h, cell_of_row w g 4 _ _ (0, 0) h, cell_of_row w g 5 _ _ (0, 0) h, cell_of_row w g 6 _ _ (0, 0) h⟩
theorem infoB : (Try.prog.info? 52).map (fun i => (i.zero, i.size, i.bytes)) = some (some (.agg #[.int .i64 0, .int .i64 0, .int .i64 0, .int .i64 0, .int .i64 0, .int .i64 0, .slice none 0 0]), 7, 72) := by kernel_rfl
end Go.Proofs.Ytggjinjadllapaa.Ft
namespace Go.Proofs.Ytggjinjadllapaa.Ft
set_option maxRecDepth 8000
open Go.RowKit
open Recs
open ToO (MineC)
open Bats (BatsAt batsCells)
open SegW
open Segs (SegsAt segsCells)
set_option linter.unusedVariables false
/-- How far a Segment is copied. -/
structure CS (w wr : World) (s : Sg) (v : Value) (us : List Bat) : Prop where
  grow : LGrow 52 7 EB wr (w.heap.size + 3) v us
  out : wr.heap[w.heap.size + 1 + 1]? = some (.cells (segArr s v) 73 (0, 0))
  res : wr.heap[w.heap.size + 1]? = some (.cells (segArr ⟨0, []⟩ (.slice none 0 0)) 73 (0, 0))
  bel : Below w.heap.size w wr
  size : w.heap.size + 3 ≤ wr.heap.size
/-- One Batch more: wb: behind the round's own variable; w8: behind its copy; w9: behind append. -/
theorem CS.push {w wr w8 w9 : World} {s : Sg} {v : Value} {us : List Bat} {F : Nat → Value} {P : Nat → Nat → Prop} {t : Bat} {rv : Value} {o : Obj} {g cap : Nat} (h : CS w wr s v us) (hG : LGr 52 7 EB wr (w.heap.size + 3) v us F P) (b8 : Below wr.heap.size wr w8) (ho : OwnR w8 (seg wr.heap.size w8.heap.size) rv t.recs)
    (hown : w9.ownsRow (w.heap.size + 3) 52 7 (.slice (some ⟨g, 0, none⟩) (us.length + 1) cap) (us.length + 1) ((List.range (us.length * 7)).map F ++ (BatW.batArr t rv).toList)) (gr : (w8.alloc o).grownBy w9 v.ownBlock) (hg : v.ownBlock = some g ∨ g = w8.heap.size + 1) :
    CS w (w9.setCell ⟨w.heap.size + 1 + 1, 1, none⟩ (.slice (some ⟨g, 0, none⟩) (us.length + 1) cap)) s (.slice (some ⟨g, 0, none⟩) (us.length + 1) cap) (us ++ [t]) ∧ w9.cell? ⟨w.heap.size + 1 + 1, 1, none⟩ = some v ∧ w9.frozen? ⟨w.heap.size + 1 + 1, 1, none⟩ = false := by
  have s8 := b8.size
  have hz := h.size
  have gs := gr.size
  rw [hsz] at gs
  have hvb : ∀ x, v.ownBlock = some x → w.heap.size + 3 ≤ x ∧ x < wr.heap.size := fun x hx => World.ownsRow.lt hG.own x hx
  have k9 : ∀ x, x < w.heap.size + 3 → w9.heap[x]? = wr.heap[x]? := fun x hx => by
    rw [gr.block x (by rw [hsz]; omega) (fun e => by have := hvb x e.symm; omega), heap_alloc_old _ _ (by omega), b8.block x (by omega)]
  have O9 := (k9 (w.heap.size + 1 + 1) (by omega)).trans h.out
  have R9 := (k9 (w.heap.size + 1) (by omega)).trans h.res
  have D9 := LGr.push keepsB (w2 := w8.alloc o) (w3 := w9) (g := g) (cap := cap) (Q := seg wr.heap.size w8.heap.size) (t := t) (news := (BatW.batArr t rv).toList) hG h.size (by rw [hsz]; omega) (fun x _ hx => by rw [heap_alloc_old _ _ (by omega), b8.block x hx]) (bat_el (LOwn.keep keepsR ho (by rw [hsz]; omega) (fun x hx => heap_alloc_old _ _ hx.2))) (fun x hx => by rw [hsz]; obtain ⟨x1, x2⟩ := hx; exact ⟨x1, by omega⟩) rfl hown gr (by rw [hsz]; exact hg)
  have B9 : Below w.heap.size w w9 := ⟨gr.os.trans (b8.os.trans h.bel.os), gr.tape.trans (b8.tape.trans h.bel.tape), gr.output.trans (b8.output.trans h.bel.output), by omega, fun x hx => (k9 x (by omega)).trans (h.bel.block x hx)⟩
  refine ⟨⟨D9.keep keepsB (by simp) (fun x hx _ => heap_setCell_other _ _ _ _ (by show x ≠ w.heap.size + 1 + 1; omega)), ?_, (heap_setCell_other _ _ _ _ (by show w.heap.size + 1 ≠ w.heap.size + 1 + 1; omega)).trans R9, B9.setCell (p := ⟨w.heap.size + 1 + 1, 1, none⟩) (by show w.heap.size ≤ w.heap.size + 1 + 1; omega) _, by simp; omega⟩, ?_, ?_⟩
  · exact heap_setCell_same w9 (w.heap.size + 1 + 1) 1 _ _ _ O9
  · exact cell_of_row w9 (w.heap.size + 1 + 1) 1 _ _ (0, 0) O9
  · exact frozen_of_row w9 (w.heap.size + 1 + 1) 1 _ _ O9
set_option maxHeartbeats 3200000 in
theorem copySegment_core (s : Sg) (A : Option Addr) (c : Nat) (w : World) (lo b : Nat) (hb : b ≤ w.heap.size) (hf : FewS s) (hv : BatsAt w lo b (.slice A s.bats.length c) s.bats) :
    Calls Try.prog 69 #[segVal s (.slice A s.bats.length c)] w fun e w' => ∃ bv, e = .returned (segVal s bv) ∧ LGrow 52 7 EB w' (w.heap.size + 3) bv s.bats ∧ Below w.heap.size w w' ∧ w.heap.size + 3 ≤ w'.heap.size := by
  obtain ⟨i0, hi, hz0, hz1, hz2⟩ := info_parts infoB
  have HF := Seg.hid hf.2
  have hl := hf.1
  obtain ⟨H, ⟨_, A', c', hsl, hrow⟩, hh⟩ := hv
  simp only [Value.slice.injEq] at hsl
  obtain ⟨rfl, _, rfl⟩ := hsl
  have HROW := Seg.hid hrow; have HH := Seg.hid hh
  clear hrow hh hf
  unfold segVal
  go_enter Try.func69, Try.ntmps69
  go_wp2_with fail
  have C0 : Hid (CS w (((w.alloc (.cells (segArr s (.slice A s.bats.length c)) 73 (0, 0))).alloc (.cells (segArr ⟨0, []⟩ (.slice none 0 0)) 73 (0, 0))).alloc (.cells (segArr s (.slice none 0 0)) 73 (0, 0))) s (.slice none 0 0) []) :=
    ⟨LGrow.nil _ _, Cells.at3' w _ _ _, at3 w _ _ _, below3 w _ _ _, by rw [hsz, hsz, hsz]; omega⟩
  go_loopw [12] (fun i wr => ∃ (j : Nat) (us : List Bat) (A1 : Option Addr) (c1 : Nat), j ≤ s.bats.length ∧ i = .int .i64 j ∧ Hid (us = s.bats.take j ∧ CS w wr s (.slice A1 us.length c1) us)) (fun i _ => s.bats.length - (intOf i).toNat)
  case atStart => exact ⟨0, [], none, 0, Nat.zero_le _, rfl, by simp, C0.out⟩
  case round =>
    clear C0
    obtain ⟨j, us, A1, c1, hj, rfl, HW⟩ := hrel
    by_cases hlt : j < s.bats.length
    · have h0 : (0 : Int) ≤ (j : Int) := by omega
      have h1 : (j : Int) < (s.bats.length : Int) := by omega
      obtain ⟨g, o, rfl, hg, hc, hcell, _⟩ := HROW.out.resolve_left (by omega)
      have hgw : g < w.heap.size := by omega
      obtain ⟨e0, e1, e2, e3, e4, e5, e6⟩ := Bats.six (fun i hi q hq => by rw [HW.out.2.bel.cell (p := ⟨g, o + i * 7 + q, none⟩) hgw]; exact hcell i hi q hq) j hlt
      have UL : Hid (us.length = j) := by show _ = _; rw [HW.out.1, List.length_take]; omega
      have UN : Hid (us ++ [s.bats.getD j default] = s.bats.take (j + 1)) := by show _ = _; rw [HW.out.1]; exact (take_one hlt).symm
      have WC := Seg.hid HW.out.2
      obtain ⟨F, P, hG⟩ := HW.out.2.grow
      have HG := Seg.hid hG
      have hz := HW.out.2.size
      have hul : us.length ≤ 1048576 := by rw [UL.out]; omega
      have BT : Hid (∀ wx, Below wr.heap.size wr wx → BatAt wx lo b (.agg (BatW.batArr (s.bats.getD j default) (H j))) (s.bats.getD j default)) := fun wx bx => ⟨_, rfl, (HH.out j hlt).below ((chain HW.out.2.bel bx).mono hb)⟩
      have FB := Seg.hid (HF.out j hlt)
      obtain ⟨_, ⟨_, Ah, ch, hHj, _⟩, _⟩ := HH.out j hlt
      have d1 : (wr.alloc (.cells (BatW.batArr (s.bats.getD j default) (H j)) 52 (0, 0))).cell? ⟨w.heap.size + 1 + 1, 1, none⟩ = some (.slice A1 us.length c1) := by
        rw [World.cell?_of_block (w := wr) (heap_alloc_old _ _ (by show w.heap.size + 1 + 1 < _; omega))]
        exact cell_of_row wr (w.heap.size + 1 + 1) 1 _ _ (0, 0) HW.out.2.out
      have LR : Hid ((wr.alloc (.cells (BatW.batArr (s.bats.getD j default) (H j)) 52 (0, 0))).heap[wr.heap.size]? = some (.cells (BatW.batArr (s.bats.getD j default) (H j)) 52 (0, 0))) := heap_alloc_new _ _
      clear hcell HW hG
      generalize s.bats.getD j default = tj at *
      rw [hHj] at e6 d1 LR BT
      clear hHj
      have LR' : Hid ((wr.alloc (.cells #[.int .i64 tj.base, .int .i64 tj.epoch, .int .i64 tj.producer, .int .i64 tj.turn, .int .i64 tj.seq, .int .i64 tj.flags, .slice Ah tj.recs.length ch] 52 (0, 0))).heap[wr.heap.size]? = some (.cells (BatW.batArr tj (.slice Ah tj.recs.length ch)) 52 (0, 0))) := LR.out
      have d1' : (wr.alloc (.cells #[.int .i64 tj.base, .int .i64 tj.epoch, .int .i64 tj.producer, .int .i64 tj.turn, .int .i64 tj.seq, .int .i64 tj.flags, .slice Ah tj.recs.length ch] 52 (0, 0))).cell? ⟨w.heap.size + 1 + 1, 1, none⟩ = some (.slice A1 us.length c1) := d1
      obtain ⟨y0, y1, y2, y3, y4, y5, y6⟩ := seven LR'.out
      clear d1
      go_wp2_with fail
      go_region_law
        ((first | (go_simp; go_at_call 70; refine (copyBatch_any _ tj (wr.alloc (.cells (BatW.batArr tj (.slice Ah tj.recs.length ch)) 52 (0, 0))).drew lo b (BT.out _ (below1 wr _).drew) (by show b ≤ (wr.alloc _).heap.size; rw [hsz]; omega) FB.out).mono ?_; rintro e w8 ⟨rv8, rfl, ow8, b8'⟩; have b8 := Seg.hid (chainD (below1 wr (.cells (BatW.batArr tj (.slice Ah tj.recs.length ch)) 52 (0, 0))) b8'); have O8 := Seg.hid (LOwn.mono ow8 (S' := seg wr.heap.size w8.heap.size) (fun x hx => ⟨Nat.le_trans (by show _ ≤ (wr.alloc _).heap.size; rw [hsz]; omega) hx.1, hx.2⟩)); have s8 := b8.out.size; obtain ⟨A8, c8, hA8⟩ := LOwn.form ow8; subst hA8; clear ow8 b8'; have K8 : w8.cell? ⟨w.heap.size + 1 + 1, 1, none⟩ = some (.slice A1 us.length c1) := (b8.out.cell (p := ⟨w.heap.size + 1 + 1, 1, none⟩) (by show w.heap.size + 1 + 1 < wr.heap.size; omega)).trans (cell_of_row wr (w.heap.size + 1 + 1) 1 _ _ (0, 0) WC.out.out); have hl8 : w.heap.size + 1 + 1 < w8.heap.size := (by omega); unfold batVal) | (refine step_append_lies _ (by rfl) _ _ _ (by rfl) (w.heap.size + 3) 52 i0 _ 7 72 Try.underlying27 hi hz0 hz1 hz2 rfl (by decide) (.slice A1 us.length c1) us.length ((List.range (us.length * 7)).map F) (by rfl) (World.ownsRow.alloc (own_keep HG.out.own (fun x _ hx => b8.out.block x hx)) _) ⟨w8.heap.size, 0, none⟩ 1 1 (BatW.batArr tj (.slice A8 tj.recs.length c8)).toList (by rfl) (by rfl) (World.news_of_block (cs := BatW.batArr tj (.slice A8 tj.recs.length c8)) (heap_alloc_new w8 _)) (by simp [BatW.batArr, Value.oneCell']) (by decide) (by unfold maxLen; omega) (by omega) (by rw [hsz]; omega) (w8.heap.size + 1) (hsz w8 _) ?_; intro g9 cap9 w9 hown9 gr9 hat9 hlt9; have D9 := Seg.hid (CS.push WC.out HG.out b8.out O8.out hown9 gr9 hat9); have q6 := D9.out.2.1; have p6 := D9.out.2.2; clear hown9 gr9 hat9 hlt9)))
      all_goals
        clear WC HG K8 O8 q6 p6 d1' y0 y1 y2 y3 y4 y5 y6 e0 e1 e2 e3 e4 e5 e6
        go_wp2
        go_roundw
        case rel => exact ⟨j + 1, us ++ [tj], some ⟨g9, 0, none⟩, cap9, by omega, by go_num, UN.out, by rw [List.length_append]; exact D9.out.1⟩
        case measure => simp [intOf]; omega
    · have G1 : Hid (LGrow 52 7 EB wr (w.heap.size + 3) (.slice A1 s.bats.length c1) s.bats) := by
        have := HW.out
        rw [show j = s.bats.length by omega, List.take_length] at this
        obtain ⟨rfl, h2⟩ := this
        exact h2.grow
      have hul : us.length = s.bats.length := by rw [HW.out.1, show j = s.bats.length by omega, List.take_length]
      have O1 : Hid (wr.heap[w.heap.size + 1 + 1]? = some (.cells (segArr s (.slice A1 s.bats.length c1)) 73 (0, 0))) := by rw [← hul]; exact HW.out.2.out
      have R1 := Seg.hid HW.out.2.res
      have BL := Seg.hid HW.out.2.bel
      have ZS := Seg.hid HW.out.2.size
      have : j = s.bats.length := by omega
      clear HW hul
      subst this
      have H5 := Seg.hid (Cells.there_of R1.out)
      have H4 := Seg.hid (Cells.whole (vs := segArr s (.slice A1 s.bats.length c1)) R1.out rfl)
      have B2 := Seg.hid (Cells.below_setCells (g := w.heap.size + 1) (by omega) (segArr s (.slice A1 s.bats.length c1)).toList 0 _ _ BL.out)
      have HF' : Hid (LGrow 52 7 EB (wr.setCells (w.heap.size + 1) 0 (segArr s (.slice A1 s.bats.length c1)).toList) (w.heap.size + 3) (.slice A1 s.bats.length c1) s.bats) := G1.out.keep keepsB (by rw [Cells.size_setCells]; exact Nat.le_refl _) (fun g h1 _ => Cells.heap_setCells_other _ _ (by omega))
      go_wp2_with (first | (refine wpList_load_row rfl 73 _ rfl (w.heap.size + 1 + 1) rfl _ _ _ _ O1.out Try.underlying73 rfl infoN ?_) | (refine wpList_store_mid rfl 73 _ _ rfl (w.heap.size + 1) 0 (segArr s (.slice A1 s.bats.length c1)) rfl rfl H5.out infoN (segArr_one _ _ rfl) ?_))
      exact bodyPost_ret (v := segVal s (.slice A1 s.bats.length c1)) (results_cell_row rfl _ _ (w.heap.size + 1) _ _ _ _ rfl H4.out Try.underlying73 rfl infoN) rfl ⟨_, rfl, HF'.out, B2.out, by rw [Cells.size_setCells]; exact ZS.out⟩
theorem copySegment_grow (v : Value) (s : Sg) (w : World) (lo b : Nat) (hv : SegAt w lo b v s) (hb : b ≤ w.heap.size) (hf : FewS s) :
    Calls Try.prog 69 #[v] w fun e w' => ∃ bv, e = .returned (segVal s bv) ∧ LGrow 52 7 EB w' (w.heap.size + 3) bv s.bats ∧ Below w.heap.size w w' ∧ w.heap.size + 3 ≤ w'.heap.size := by
  obtain ⟨bv, rfl, hh⟩ := hv
  obtain ⟨_, ⟨_, A, c, rfl, _⟩, _⟩ := id hh
  exact copySegment_core s A c w lo b hb hf hh
theorem copySegment_any (v : Value) (s : Sg) (w : World) (lo b : Nat) (hv : SegAt w lo b v s) (hb : b ≤ w.heap.size) (hf : FewS s) :
    Calls Try.prog 69 #[v] w fun e w' => ∃ bv, e = .returned (segVal s bv) ∧ OwnB w' (seg w.heap.size w'.heap.size) bv s.bats ∧ Below w.heap.size w w' :=
  (copySegment_grow v s w lo b hv hb hf).mono fun e w' ⟨bv, a1, a2, a3, _⟩ => ⟨bv, a1, (LGrow.own a2 hf.1).mono (fun x hx => ⟨by have := hx.1; omega, hx.2⟩), a3⟩
end Go.Proofs.Ytggjinjadllapaa.Ft
