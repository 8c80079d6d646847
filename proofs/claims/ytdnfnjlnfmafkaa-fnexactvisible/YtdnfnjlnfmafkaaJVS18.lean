/- copy of a whole slice of structs onto a row of the call's own that has just as many; The program's copies of a list of Records; Segments in lists of the call's own; the law's copiers of Segments and of a Log. -/
import Derived.Laws.CopyRow
import Derived.OwnWalk
import Derived.Test.YtdnfnjlnfmafkaaJVS17
import Derived.Test.YtdnfnjlnfmafkaaJVS15
import Derived.Test.YtdnfnjlnfmafkaaJVS14
import Derived.Test.YtdnfnjlnfmafkaaJVS06
namespace Go.Proofs.Ytdnfnjlnfmafkaa.Ft
set_option maxRecDepth 8000
open Go.RowKit
open Recs
set_option linter.unusedVariables false
section
variable {P : Program} (w : World)
theorem run_copy_all (base : Nat) (t t' ty e : TypeId) (i : TypeInfo) (size : Nat) (ht : P.underlying t = some (.slice e)) (hi : P.info? e = some i) (hsize : i.size = size)
    (g n : Nat) (xs : List Value) (hown : w.ownsRow base e size (.slice (some ⟨g, 0, none⟩) n n) n xs)
    (A : Option Addr) (c : Nat) (news : List Value) (hl : news.length = n * size) (hnews : n ≠ 0 → ∃ ad, A = some ad ∧ ∀ j u, news[j]? = some u → w.cell? (ad.add j) = some u) (h1 : ∀ u ∈ news, u.oneCell' = true) :
    ∃ w', (Builtin.copy_ #[t, t'] ty #[.slice (some ⟨g, 0, none⟩) n n, .slice A n c]).run P w = .ok (goInt n) w' ∧ w'.ownsRow base e size (.slice (some ⟨g, 0, none⟩) n n) n news ∧ w.grownBy w' (some g) := by
  subst hsize
  by_cases hm : n = 0
  · subst hm
    have hn : news = [] := List.eq_nil_of_length_eq_zero (by simpa using hl)
    subst hn
    refine ⟨w, ?_, by simpa [List.eq_nil_of_length_eq_zero (show xs.length = 0 by simpa using hown.1)] using hown, ⟨rfl, rfl, rfl, Nat.le_refl _, fun _ _ _ => rfl⟩⟩
    cases A with
    | some ad =>
      have hld := run_loadCells_list (P := P) w ad [] (by simp)
      simp only [List.length_nil] at hld
      simp [Builtin.copy_, run_underlying ht, sizeOf, typeInfo, hi, Builtin.lenOf, Builtin.firstCells, hld, storeCells]
    | none => simp [Builtin.copy_, run_underlying ht, sizeOf, typeInfo, hi, Builtin.lenOf, Builtin.firstCells, storeCells]
  · obtain ⟨ad, rfl, hc⟩ := hnews hm
    rcases hown.2 with ⟨h, _⟩ | ⟨g', cap, cur, h, hb, hg, hnc, hcm, hcs, htake⟩
    · simp at h
    · simp only [Value.slice.injEq, Option.some.injEq, Addr.mk.injEq, and_true, true_and] at h
      obtain ⟨rfl, rfl⟩ := h
      have hld := run_loadCells_list (P := P) w ad news hc
      have hst := run_storeCells_at P g 0 e news 0 cur w hg (by omega) h1
      have hd : cur.toList.drop (news.length) = [] := List.drop_eq_nil_of_le (by simp; omega)
      refine ⟨w.setRow g news.toArray, ?_, ⟨hl, .inr ⟨g, n, news.toArray, rfl, hb, setRow_heap w g cur _ e _ hg, hnc, hcm, by simpa using hl, by simp [← hl]⟩⟩, ⟨rfl, rfl, rfl, by simp [World.setRow], fun k _ hk => setRow_other w g k _ (fun e => hk (by rw [e]))⟩⟩
      simp only [Nat.zero_add, List.take_zero, List.nil_append, hd, List.append_nil] at hst
      simp [Builtin.copy_, run_underlying ht, Builtin.lenOf, Builtin.firstCells, sizeOf, typeInfo, hi, ← hl, hld, hst]
theorem wpList_copy_all {ops : Array Oper} {rest : List Oper} {o : Oper} {a : Act} {Q : Exit → Act → World → Prop} (hgd : o.guard = none) (d s : Operand) (t t' : TypeId)
    (ho : o.op = .call { callee := .builtin .copy, args := #[d, s], argTypes := #[t, t'] })
    (base : Nat) (e : TypeId) (i : TypeInfo) (size : Nat) (ht : P.underlying t = some (.slice e)) (hi : P.info? e = some i) (hsize : i.size = size)
    (g n : Nat) (xs : List Value) (hd : a.eval d = .slice (some ⟨g, 0, none⟩) n n) (hown : w.ownsRow base e size (.slice (some ⟨g, 0, none⟩) n n) n xs)
    (A : Option Addr) (c : Nat) (news : List Value) (hs : a.eval s = .slice A n c) (hl : news.length = n * size) (hnews : n ≠ 0 → ∃ ad, A = some ad ∧ ∀ j u, news[j]? = some u → w.cell? (ad.add j) = some u) (h1 : ∀ u ∈ news, u.oneCell' = true)
    (h : ∀ w', w'.ownsRow base e size (.slice (some ⟨g, 0, none⟩) n n) n news → w.grownBy w' (some g) → wpList P ops Q rest (a.put o.dst (goInt n)) w') : wpList P ops Q (o :: rest) a w := by
  obtain ⟨w', hr, h2, h3⟩ := run_copy_all (P := P) w base t t' o.type e i size ht hi hsize g n xs hown A c news hl hnews h1
  refine wpList_plain hgd fun K hK => ?_
  unfold Oper.wp
  simp [execOp, ho, resolve, invoke, builtin, hd, hs, hr, Result.andThen]
  exact hK _ _ (h w' h2 h3)
end
end Go.Proofs.Ytdnfnjlnfmafkaa.Ft
namespace Go.Proofs.Ytdnfnjlnfmafkaa.Ft
set_option maxRecDepth 8000
open Go.RowKit
open Recs
open ToO (MineC)
set_option linter.unusedVariables false
theorem infoH : (Try.prog.info? 94).map (fun i => (i.zero, i.size, i.bytes)) = some (some (.agg #[.string ⟨#[]⟩, .string ⟨#[]⟩]), 2, 32) := by kernel_rfl
theorem infoR : (Try.prog.info? 53).map (fun i => (i.zero, i.size, i.bytes)) = some (some (.agg #[.int .i64 0, .bool false, .string ⟨#[]⟩, .bool false, .string ⟨#[]⟩, .slice none 0 0]), 6, 80) := by kernel_rfl
/-- A list that was made out of a row's cells. -/
theorem grow_flat {T : Type} [Inhabited T] {ty nf : Nat} {EO : World → (Nat → Prop) → (Nat → Value) → T → Prop} {w : World} {base n : Nat} {v : Value} {f : Nat → Nat → Value} {us : List T} (h : w.ownsRow base ty nf v n (flat nf n f)) (hl : us.length = n) (he : ∀ i, i < n → ∀ g : Nat → Value, (∀ q, q < nf → g q = f i q) → EO w (fun _ => False) g (us.getD i default)) : LGrow ty nf EO w base v us := by
  subst hl
  refine ⟨fun q => (flat nf us.length f).getD q default, fun _ _ => False, ?_, fun i hi => he i hi _ (fun q hq => flat_cell nf us.length f i q hi hq), fun _ _ _ hx => hx.elim, fun _ _ _ _ _ _ hx => hx.elim⟩
  have : (List.range (us.length * nf)).map (fun q => (flat nf us.length f).getD q default) = flat nf us.length f := List.ext_getElem (by simp [flat_len]) fun i h1 h2 => by simp [h2]
  rw [this]
  exact h
/-- A copy of Heads. -/
theorem own_heads_flat {w : World} {base : Nat} {v : Value} {hs : List Hd} (h : w.ownsRow base 94 2 v hs.length (flat 2 hs.length (hdCells hs))) (hl : hs.length ≤ 1048576) : OwnH w (seg base w.heap.size) v hs :=
  LGrow.own (grow_flat h rfl fun i hi g hg => ⟨hg 0 (by omega), hg 1 (by omega)⟩) hl
theorem flat_one {s n : Nat} {f : Nat → Nat → Value} (h : ∀ i, i < n → ∀ j, j < s → (f i j).oneCell' = true) (hs : 0 < s) : ∀ u ∈ flat s n f, u.oneCell' = true := fun u hu => by
  unfold flat at hu
  rw [List.mem_map] at hu
  obtain ⟨q, hq, rfl⟩ := hu
  rw [List.mem_range] at hq
  exact h _ (Nat.div_lt_of_lt_mul (by rw [Nat.mul_comm]; exact hq)) _ (Nat.mod_lt _ hs)
theorem hd_one (hs : List Hd) : ∀ i, i < hs.length → ∀ j, j < 2 → (hdCells hs i j).oneCell' = true := fun i _ j hj => by
  match j, hj with
  | 0, _ => rfl
  | 1, _ => rfl
theorem rec_one {w : World} {lo b : Nat} (rs : List Rec) (H : Nat → Value) (hh : ∀ i, i < rs.length → Heads w lo b (H i) (rs.getD i default).heads) : ∀ i, i < rs.length → ∀ j, j < 6 → (recCells rs H i j).oneCell' = true := fun i hi j hj => by
  match j, hj with
  | 0, _ => rfl
  | 1, _ => rfl
  | 2, _ => rfl
  | 3, _ => rfl
  | 4, _ => rfl
  | 5, _ =>
    obtain ⟨_, A, c, h, _⟩ := hh i hi
    show (H i).oneCell' = true
    rw [h]; rfl
/-- How far the Heads of a list of Records are copied: j of them. -/
structure CB (w wr : World) (base : Nat) (v : Value) (rs : List Rec) (H : Nat → Value) (j : Nat) (F : Nat → Value) (P : Nat → Nat → Prop) : Prop where
  own : wr.ownsRow base 53 6 v rs.length ((List.range (rs.length * 6)).map F)
  cells : ∀ i, i < rs.length → ∀ q, q < 5 → F (i * 6 + q) = recCells rs H i q
  todo : ∀ i, j ≤ i → i < rs.length → F (i * 6 + 5) = H i
  done : ∀ i, i < j → OwnH wr (P i) (F (i * 6 + 5)) (rs.getD i default).heads
  apart : ∀ i, i < j → ∀ x, P i x → base ≤ x ∧ x < wr.heap.size ∧ v.ownBlock ≠ some x
  disj : ∀ i k, i < j → k < j → i ≠ k → ∀ x, P i x → ¬ P k x
  bel : Below w.heap.size w wr
theorem CB.start {w wr : World} {base : Nat} {v : Value} {rs : List Rec} {H : Nat → Value} (h : wr.ownsRow base 53 6 v rs.length (flat 6 rs.length (recCells rs H))) (hb : Below w.heap.size w wr) : CB w wr base v rs H 0 (fun q => (flat 6 rs.length (recCells rs H)).getD q default) (fun _ _ => False) := by
  have : (List.range (rs.length * 6)).map (fun q => (flat 6 rs.length (recCells rs H)).getD q default) = flat 6 rs.length (recCells rs H) := List.ext_getElem (by simp [flat_len]) fun i h1 h2 => by simp [h2]
  refine ⟨by rw [this]; exact h, fun i hi q hq => flat_cell 6 _ _ i q hi (by omega), fun i _ hi => ?_, fun i hi => absurd hi (by omega), fun i hi => absurd hi (by omega), fun i k hi => absurd hi (by omega), hb⟩
  rw [flat_cell 6 _ _ i 5 hi (by omega)]
  rfl
theorem CB.step {w wr w3 : World} {base g c : Nat} {rs : List Rec} {H : Nat → Value} {j : Nat} {F : Nat → Value} {P : Nat → Nat → Prop} {hv : Value} (h : CB w wr base (.slice (some ⟨g, 0, none⟩) rs.length c) rs H j F P) (hj : j < rs.length) (hb : w.heap.size ≤ base) (hbase : base ≤ wr.heap.size) (b3 : Below wr.heap.size wr w3) (ho : OwnH w3 (seg wr.heap.size w3.heap.size) hv (rs.getD j default).heads) :
    CB w (w3.setCell ⟨g, j * 6 + 5, none⟩ hv) base (.slice (some ⟨g, 0, none⟩) rs.length c) rs H (j + 1) (fun q => if q = j * 6 + 5 then hv else F q) (fun i => if i = j then seg wr.heap.size w3.heap.size else P i) := by
  have hg := World.ownsRow.lt h.own g rfl
  have hs := b3.size
  have keep : ∀ x, x ≠ g → (w3.setCell ⟨g, j * 6 + 5, none⟩ hv).heap[x]? = w3.heap[x]? := fun x hx => heap_setCell_other w3 ⟨g, j * 6 + 5, none⟩ x hv hx
  have own3 : w3.ownsRow base 53 6 (.slice (some ⟨g, 0, none⟩) rs.length c) rs.length ((List.range (rs.length * 6)).map F) := own_keep h.own (fun x _ hx => b3.block x hx)
  refine ⟨?_, fun i hi q hq => ?_, fun i hi1 hi2 => ?_, fun i hi => ?_, fun i hi x hx => ?_, fun i k hi hk hik x hx hx' => ?_, (chain h.bel b3).setCell (p := ⟨g, j * 6 + 5, none⟩) (by show w.heap.size ≤ g; omega) hv⟩
  · have := (World.ownsRow.stored own3 (j * 6 + 5) hv).1
    have he : ((List.range (rs.length * 6)).map F).set (j * 6 + 5) hv = (List.range (rs.length * 6)).map (fun i => if i = j * 6 + 5 then hv else F i) := List.ext_getElem (by simp) fun i h1 h2 => by
      by_cases hi : i = j * 6 + 5
      · subst hi; simp
      · rw [List.getElem_set_ne (by omega)]; simp [hi]
    rw [he] at this
    exact this
  · show (if _ then _ else _) = _
    rw [if_neg (by omega)]
    exact h.cells i hi q hq
  · show (if _ then _ else _) = _
    rw [if_neg (by omega)]
    exact h.todo i (by omega) hi2
  · show OwnH _ (if i = j then _ else _) (if _ then _ else _) _
    by_cases e : i = j
    · subst e
      rw [if_pos rfl, if_pos rfl]
      exact LOwn.keep keepsH ho (by simp) (fun x hx => keep x (by have := hx.1; omega))
    · rw [if_neg e, if_neg (by omega)]
      exact LOwn.keep keepsH (h.done i (by omega)) (by simpa using hs) (fun x hx => (keep x (fun e => (h.apart i (by omega) x hx).2.2 (by rw [e]; rfl))).trans (b3.block x (h.apart i (by omega) x hx).2.1))
  · show base ≤ x ∧ x < (w3.setCell ⟨g, j * 6 + 5, none⟩ hv).heap.size ∧ _
    rw [World.size_setCell]
    by_cases e : i = j
    · subst e
      rw [if_pos rfl] at hx
      obtain ⟨x1, x2⟩ := hx
      refine ⟨by omega, x2, fun e => ?_⟩
      simp only [Value.ownBlock, Option.some.injEq] at e
      omega
    · rw [if_neg e] at hx
      have := h.apart i (by omega) x hx
      exact ⟨this.1, by omega, this.2.2⟩
  · by_cases e : i = j
    · subst e
      rw [if_pos rfl] at hx
      rw [if_neg (Ne.symm hik)] at hx'
      have a1 := h.apart k (by omega) x hx'
      have := hx.1
      omega
    · rw [if_neg e] at hx
      by_cases e2 : k = j
      · subst e2
        rw [if_pos rfl] at hx'
        have a1 := h.apart i (by omega) x hx
        have := hx'.1
        omega
      · rw [if_neg e2] at hx'
        exact h.disj i k (by omega) (by omega) hik x hx hx'
theorem CB.grow {w wr : World} {base : Nat} {v : Value} {rs : List Rec} {H : Nat → Value} {F : Nat → Value} {P : Nat → Nat → Prop} (h : CB w wr base v rs H rs.length F P) : LGrow 53 6 ER wr base v rs :=
  ⟨F, P, h.own, fun i hi => ⟨⟨h.cells i hi 0 (by omega), h.cells i hi 1 (by omega), h.cells i hi 2 (by omega), h.cells i hi 3 (by omega), h.cells i hi 4 (by omega)⟩, h.done i hi⟩, h.apart, h.disj⟩
theorem CB.six {w wr : World} {base g c : Nat} {rs : List Rec} {H : Nat → Value} {j : Nat} {F : Nat → Value} {P : Nat → Nat → Prop} (h : CB w wr base (.slice (some ⟨g, 0, none⟩) rs.length c) rs H j F P) (hj : j < rs.length) :
    wr.cell? ⟨g, j * 6, none⟩ = some (.int .i64 (rs.getD j default).time) ∧ wr.cell? ⟨g, j * 6 + 1, none⟩ = some (.bool (rs.getD j default).keyed) ∧ wr.cell? ⟨g, j * 6 + 2, none⟩ = some (.string (rs.getD j default).key) ∧ wr.cell? ⟨g, j * 6 + 3, none⟩ = some (.bool (rs.getD j default).gone) ∧ wr.cell? ⟨g, j * 6 + 4, none⟩ = some (.string (rs.getD j default).val) ∧ wr.cell? ⟨g, j * 6 + 5, none⟩ = some (H j) := by
  have hm : ∀ q, q < rs.length * 6 → wr.cell? ⟨g, q, none⟩ = some (F q) := fun q hq => by
    rw [World.ownsRow.cellAt h.own q hq]
    simp [hq]
  refine ⟨?_, ?_, ?_, ?_, ?_, ?_⟩
  · rw [hm _ (by omega)]; exact congrArg some (h.cells j hj 0 (by omega))
  · rw [hm _ (by omega)]; exact congrArg some (h.cells j hj 1 (by omega))
  · rw [hm _ (by omega)]; exact congrArg some (h.cells j hj 2 (by omega))
  · rw [hm _ (by omega)]; exact congrArg some (h.cells j hj 3 (by omega))
  · rw [hm _ (by omega)]; exact congrArg some (h.cells j hj 4 (by omega))
  · rw [hm _ (by omega)]; exact congrArg some (h.todo j (Nat.le_refl _) hj)
theorem owns_form {w : World} {base ty s n : Nat} {v : Value} {xs : List Value} (h : w.ownsRow base ty s v n xs) : ∃ A c, v = .slice A n c ∧ (0 < n → ∃ g, A = some ⟨g, 0, none⟩) := by
  rcases h.2 with ⟨h1, h2⟩ | ⟨g, cap, cur, h1, _⟩
  · exact ⟨none, 0, by rw [h1, h2], fun h => absurd h (by omega)⟩
  · exact ⟨_, _, h1, fun _ => ⟨g, rfl⟩⟩
set_option maxHeartbeats 1600000 in
theorem copyRecords_core (rs : List Rec) (A : Option Addr) (c : Nat) (H : Nat → Value) (w : World) (lo b : Nat) (hb : b ≤ w.heap.size) (hl : rs.length ≤ 1048576) (hf : ∀ i, i < rs.length → FewR (rs.getD i default)) (hr : Row w lo b 6 (.slice A rs.length c) rs.length (recCells rs H)) (hh : ∀ i, i < rs.length → Heads w lo b (H i) (rs.getD i default).heads) :
    Calls Try.prog 49 #[.slice A rs.length c] w fun e w' => ∃ rv, e = .returned rv ∧ LGrow 53 6 ER w' w.heap.size rv rs ∧ Below w.heap.size w w' := by
  obtain ⟨i0, hi, hz0, hz1, hz2⟩ := info_parts infoR
  obtain ⟨i1, hi', hz0', hz1', hz2'⟩ := info_parts infoH
  have HR := Seg.hid hr; have HH := Seg.hid hh; have HF := Seg.hid hf
  have HO := Seg.hid (flat_one (rec_one rs H hh) (by omega))
  clear hr hh hf
  go_enter Try.func49, Try.ntmps49
  go_wp2_with (at_make; (refine wpList_make_full _ rfl (.tmp 7) (.tmp 7) 46 rfl w.heap.size 53 i0 _ 6 Try.underlying46 hi hz0 hz1 .i64 .i64 _ _ rs.length rfl rfl rfl rfl (by rw [hz2]; omega) (by unfold maxLen; omega) (Nat.le_refl _) ?_; intro w1 hown1 hgr1; have OW1 := Seg.hid hown1; have B1 := Seg.hid ((Below.refl w.heap.size w).grown hgr1 (Nat.le_refl _) (fun k hk => by cases hk)); clear hown1 hgr1))
  obtain ⟨w2, hrun, hown2, hgr2⟩ := run_copy_all (P := Try.prog) w1 w.heap.size 46 46 3 53 i0 6 Try.underlying46 hi hz1 w.heap.size rs.length _ OW1.out A c (flat 6 rs.length (recCells rs H)) (flat_len _ _ _) (flat_news (by decide) (Row.below HR.out (B1.out.mono hb))) HO.out
  rw [hrun]
  have B2 := Seg.hid (B1.out.grown hgr2 B1.out.size (fun k hk => by cases hk; exact Nat.le_refl _))
  have C1 := Seg.hid (CB.start hown2 B2.out)
  clear hown2 hgr2 hrun
  go_wp2_with fail
  go_loopw [14] (fun i wr => ∃ (j : Nat) (F : Nat → Value) (P : Nat → Nat → Prop), j ≤ rs.length ∧ i = .int .i64 j ∧ Hid (CB w wr w.heap.size (.slice (some ⟨w.heap.size, 0, none⟩) rs.length rs.length) rs H j F P)) (fun i _ => rs.length - (intOf i).toNat)
  case atStart => exact ⟨0, _, _, Nat.zero_le _, rfl, C1.out⟩
  case round =>
    clear C1
    obtain ⟨j, F, P, hj, rfl, W1⟩ := hrel
    by_cases hlt : j < rs.length
    · have h0 : (0 : Int) ≤ (j : Int) := by omega
      have h1 : (j : Int) < (rs.length : Int) := by omega
      obtain ⟨e0, e1, e2, e3, e4, e5⟩ := W1.out.six hlt
      have z5 := World.ownsRow.frozenAt W1.out.own (j * 6 + 5)
      have KH := Seg.hid ((HH.out j hlt).below (W1.out.bel.mono hb))
      have FH := HF.out j hlt
      unfold FewR at FH
      obtain ⟨_, Ah, ch, hHj, _⟩ := id KH.out
      rw [hHj] at e5 KH
      clear hHj
      have ST := Seg.hid (fun w3 hv b3 ho => CB.step (w3 := w3) (hv := hv) W1.out hlt (Nat.le_refl _) W1.out.bel.size b3 ho)
      have hgl := World.ownsRow.lt W1.out.own w.heap.size rfl
      have hwr := W1.out.bel.size
      generalize rs.getD j default = rj at *
      go_wp2_with (at_builtin; (refine wpList_append_all _ rfl (.const (.slice none 0 0)) (.tmp 22) 51 rfl wr.heap.size 94 i1 _ 2 32 Try.underlying51 hi' hz0' hz1' hz2' rfl (by decide) (.slice none 0 0) 0 [] rfl (World.ownsRow_nil _ _ _ _) Ah rj.heads.length ch (flat 2 rj.heads.length (hdCells rj.heads)) rfl (flat_len _ _ _) (flat_news (by decide) (Row.below KH.out ((below1 wr _).mono (by omega)))) (flat_one (hd_one _) (by omega)) (by unfold maxLen; omega) (by omega) (by rw [hsz]; omega) ?_; intro v2 w2 hown2 hgr2 hat2; rw [Nat.zero_add, List.nil_append] at hown2; obtain ⟨A2, c2, rfl, hA2⟩ := owns_form hown2; clear hA2; have B2 := Seg.hid ((below1 wr _).grown hgr2 (by rw [hsz]; omega) (fun k hk => by cases hk)); have e5' : w2.cell? ⟨w.heap.size, j * 6 + 5, none⟩ = some (.slice Ah rj.heads.length ch) := (B2.out.cell (p := ⟨w.heap.size, j * 6 + 5, none⟩) hgl.2).trans e5; have z5' : w2.frozen? ⟨w.heap.size, j * 6 + 5, none⟩ = false := (B2.out.frozen (p := ⟨w.heap.size, j * 6 + 5, none⟩) hgl.2).trans z5; have S2 := Seg.hid (ST.out w2 _ B2.out (own_heads_flat hown2 FH)); have K2 := Seg.hid B2.out.block; have s2 := B2.out.size; clear hown2 hgr2 hat2))
      go_roundw
      case rel => exact ⟨j + 1, _, _, by omega, by go_num, S2.out⟩
      case measure => simp [intOf]; omega
    · have : j = rs.length := by omega
      have G1 := Seg.hid (CB.grow (this ▸ W1.out))
      have BL := Seg.hid W1.out.bel
      clear W1
      subst this
      go_wp2_with fail
      go_ret
      exact ⟨_, rfl, G1.out, BL.out⟩
end Go.Proofs.Ytdnfnjlnfmafkaa.Ft
namespace Go.Proofs.Ytdnfnjlnfmafkaa.Ft
set_option maxRecDepth 8000
open Go.RowKit
open Recs
open ToO (MineC)
open Bats (BatsAt)
open SegW
open Segs (SegsAt segsCells)
open LogW
set_option linter.unusedVariables false
def ES (w : World) (S : Nat → Prop) (f : Nat → Value) (t : Sg) : Prop := f 0 = .int .i64 t.base ∧ OwnB w S (f 1) t.bats
def OwnS (w : World) (S : Nat → Prop) (v : Value) (ts : List Sg) : Prop := LOwn 73 2 ES w S v ts
theorem keepsS : Keeps 2 ES := fun w w' S f f' t h hs hk hf => by
  obtain ⟨h0, h1⟩ := h
  refine ⟨by rw [hf 0 (by omega)]; exact h0, ?_⟩
  rw [hf 1 (by omega)]
  exact LOwn.keep keepsB h1 hs hk
theorem segs_of {w : World} {S : Nat → Prop} {v : Value} {ts : List Sg} {lo b : Nat} (h : OwnS w S v ts) (hS : ∀ x, S x → lo ≤ x ∧ x < b) : SegsAt w lo b v ts := by
  obtain ⟨F, P, hr, he⟩ := row_of h hS
  refine ⟨fun i => F (i * 2 + 1), row_eqf hr fun i hi j hj => ?_, fun i hi => bats_of (he i hi).1.2 (he i hi).2⟩
  obtain ⟨⟨e0, _⟩, _⟩ := he i hi
  match j, hj with
  | 0, _ => exact e0
  | 1, _ => rfl

set_option maxHeartbeats 800000 in
theorem toSegmentS_core (g o n c b lo : Nat) (ts : List Sg) (H : Nat → Value) (w : World) (hn : n ≤ 1048576) (hc : n ≤ c) (hg : g < w.heap.size) (hb : b ≤ w.heap.size)
    (hf : ∀ i, i < n → FewS (ts.getD i default)) (hh : ∀ i, i < n → BatsAt w lo b (H i) (ts.getD i default).bats)
    (ha : ∀ i, i < n → ∀ j, j < 2 → w.cell? ⟨g, o + i * 2 + j, none⟩ = some (segsCells ts H i j)) :
    Calls Try.prog 19 #[.slice (some ⟨g, o, none⟩) n c] w fun e w' => ∃ F P, e = .returned (.slice (some ⟨w.heap.size, 0, none⟩) n n) ∧ LPart 73 2 ES w w' n F P ts n := by
  obtain ⟨i0, hi, hz0, hz1, hz2⟩ := info_parts Segs.info6
  have HA := Seg.hid ha; have HK := Seg.hid hf; have HH := Seg.hid hh
  clear ha hf hh
  go_enter Try.func19, Try.ntmps19
  go_wp2_with (at_make; refine wpList_make_full _ rfl _ _ 29 rfl w.heap.size 73 i0 _ 2 Try.underlying29 hi hz0 hz1 .i64 .i64 _ _ n rfl rfl rfl rfl (by rw [hz2]; omega) (by unfold maxLen; omega) (Nat.le_refl _) ?_; intro w1 hown hgr)
  have hb1 := (Below.refl w.heap.size w).grown hgr (Nat.le_refl _) (fun k hk => by cases hk)
  have HM := Seg.hid (Mine.of_made hown hown.1)
  have HB := Seg.hid hb1
  clear hown hgr hb1 hi hz0 hz1 hz2
  go_loopw [4] (fun i wr => ∃ (j : Nat) (F : Nat → Value) (P : Nat → Nat → Prop), j ≤ n ∧ i = .int .i64 j ∧ LPart 73 2 ES w wr n F P ts j) (fun i _ => n - (intOf i).toNat)
  case atStart => exact ⟨0, _, fun _ _ => False, Nat.zero_le _, rfl, HM.out, HB.out, fun i hi => absurd hi (by omega), fun i hi => absurd hi (by omega), fun i j hi => absurd hi (by omega)⟩
  case round =>
    clear HM HB
    obtain ⟨j, F, P, hj, rfl, HR⟩ := hrel
    by_cases hlt : j < n
    · obtain ⟨c0, c1⟩ := Segs.six (Segs.six' HA.out HR.bel hg) j hlt
      have RA : Hid (SegAt wr lo b (.agg #[.int .i64 (ts.getD j default).base, H j]) (ts.getD j default)) := ⟨_, rfl, (HH.out j hlt).below (HR.bel.mono hb)⟩
      have FW := Seg.hid (HK.out j hlt)
      have hbr : b ≤ wr.heap.size := Nat.le_trans hb HR.bel.size
      have ST : Hid (∀ w1 hv, Below wr.heap.size wr w1 → OwnB w1 (seg wr.heap.size w1.heap.size) hv (ts.getD j default).bats → LPart 73 2 ES w (w1.setCells w.heap.size (j * 2) (segArr (ts.getD j default) hv).toList) n (Own.upd F (j * 2) (segArr (ts.getD j default) hv).toList) (fun i => if i = j then seg wr.heap.size w1.heap.size else P i) ts (j + 1)) := fun w1 hv b1 ho => by
        have hcell : ∀ q, q < 2 → Own.upd F (j * 2) (segArr (ts.getD j default) hv).toList (j * 2 + q) = (segArr (ts.getD j default) hv).toList.getD q default := fun q hq => Own.upd_in (by simp [segArr]; omega)
        refine LPart.push keepsS HR (by simp [segArr]) b1 (fun x hx => hx) ⟨?_, ?_⟩
        · show Own.upd _ _ _ _ = _; rw [hcell 0 (by omega)]; rfl
        · show OwnB _ _ (Own.upd _ _ _ _) _
          rw [hcell 1 (by omega)]
          show OwnB _ _ hv _
          have hl := HR.mine.lt
          exact LOwn.keep keepsB ho (by rw [Cells.size_setCells]; exact Nat.le_refl _) (fun g hg => Cells.heap_setCells_other _ _ (by have := hg.1; omega))
      have HM := Seg.hid HR.mine
      have h0 : (0 : Int) ≤ (j : Int) := by omega
      have h1 : (j : Int) < (n : Int) := by omega
      clear HR
      generalize ts.getD j default = rj at *
      go_wp2_with fail
      refine (toSegment_own _ rj wr lo b RA.out hbr FW.out).mono ?_
      rintro e w1 ⟨hv1, rfl, ho1, b1⟩
      have S1 := Seg.hid (ST.out w1 hv1 b1 ho1)
      have M1 := Seg.hid (Own.mine_there (o := j * 2) (m := 2) (HM.out.below b1 HM.out.lt) (by omega))
      obtain ⟨A1, k1, rfl⟩ := LOwn.form ho1
      clear b1 ho1
      have M2 : Hid (w1.there w.heap.size (j * 2) (segArr rj (.slice A1 rj.bats.length k1)).size) := M1.out
      clear M1
      rw [show segVal rj (.slice A1 rj.bats.length k1) = .agg (segArr rj (.slice A1 rj.bats.length k1)) from rfl]
      go_wp2_with (refine wpList_store_mid rfl 73 _ _ rfl w.heap.size (j * 2) (segArr rj (.slice A1 rj.bats.length k1)) rfl rfl ?ht infoN (segArr_one _ _ rfl) ?_; case ht => exact M2.out)
      go_roundw
      case rel => exact ⟨j + 1, _, _, by omega, by go_num, S1.out⟩
      case measure => simp [intOf]; omega
    · have : j = n := by omega
      subst this
      go_wp2
      go_ret
      exact ⟨F, P, rfl, HR⟩

theorem toSegmentS_own (v : Value) (ts : List Sg) (w : World) (lo b : Nat) (hv : SegsAt w lo b v ts) (hb : b ≤ w.heap.size) (hl : ts.length ≤ 1048576) (hf : ∀ i, i < ts.length → FewS (ts.getD i default)) :
    Calls Try.prog 19 #[v] w fun e w' => ∃ v', e = .returned v' ∧ OwnS w' (seg w.heap.size w'.heap.size) v' ts ∧ Below w.heap.size w w' := by
  obtain ⟨H, ⟨hn, A, c, rfl, h⟩, hh⟩ := hv
  by_cases hz : ts.length = 0
  · have : ts = [] := List.length_eq_zero_iff.1 hz
    subst this
    refine (Segs.toSegmentS_none A c w).mono fun e w' ⟨v', a1, ⟨A', c', a2⟩, a3⟩ => ⟨v', a1, ?_, a3⟩
    rw [a2]
    exact LOwn.nil _ _ _ _
  obtain ⟨g, o, rfl, hg, hc, hcell, _⟩ := h.resolve_left hz
  exact (toSegmentS_core g o ts.length c b lo ts H w hl hc (by omega) hb hf hh hcell).mono fun e w' ⟨F, P, a1, a2⟩ => ⟨_, a1, a2.own hl, a2.bel⟩

set_option maxHeartbeats 400000 in
theorem toLog_own (v : Value) (t : Lg) (w : World) (lo b : Nat) (hv : LogAt w lo b v t) (hb : b ≤ w.heap.size) (hf : FewL t) :
    Calls Try.prog 6 #[v] w fun e w' => ∃ sv, e = .returned (logVal t sv) ∧ OwnS w' (seg w.heap.size w'.heap.size) sv t.segs ∧ Below w.heap.size w w' := by
  obtain ⟨hv, rfl, hh⟩ := hv
  have HH := Seg.hid hh
  obtain ⟨H, ⟨hn, A, c, hve, _⟩, _⟩ := id hh
  clear hh
  unfold logVal
  subst hve
  go_enter Try.func6, Try.ntmps6
  go_wp2_with fail
  refine (toSegmentS_own _ t.segs (((w.alloc _).alloc _).alloc _) lo b (HH.out.below ((below3 w _ _ _).mono hb)) (by rw [hsz, hsz, hsz]; omega) hf.1.1 hf.1.2).mono ?_
  rintro e w1 ⟨v', rfl, hh1, b1⟩
  have B1 := Seg.hid (chain (below3 w _ _ _) b1)
  have T1 := (b1.block (w.heap.size + 1) (by rw [hsz, hsz, hsz]; omega)).trans (at3 w _ _ _)
  have T2 := (b1.block (w.heap.size + 1 + 1) (by rw [hsz, hsz, hsz]; omega)).trans (Cells.at3' w _ _ _)
  have HH1 := Seg.hid hh1
  obtain ⟨A', c', hve⟩ := LOwn.form hh1
  clear hh1 b1
  subst hve
  have cN := cell_of_row w1 (w.heap.size + 1 + 1) 3 _ _ _ T2
  have zN := frozen_of_row w1 (w.heap.size + 1 + 1) 3 _ _ T2
  have H3 : Hid ((w1.setCell ⟨w.heap.size + 1 + 1, 3, none⟩ (.slice A' t.segs.length c')).heap[w.heap.size + 1 + 1]? = some (.cells (logArr t (.slice A' t.segs.length c')) 31 (0, 0))) := heap_setCell_same w1 (w.heap.size + 1 + 1) 3 _ _ (.slice A' t.segs.length c') T2
  have T4 := (heap_setCell_other w1 ⟨w.heap.size + 1 + 1, 3, none⟩ (w.heap.size + 1) (.slice A' t.segs.length c') (by simp)).trans T1
  have H5 := Seg.hid (Cells.there_of T4)
  have H4 := Seg.hid (Cells.whole (vs := logArr t (.slice A' t.segs.length c')) T4 rfl)
  have B2 := Seg.hid (Cells.below_setCells (g := w.heap.size + 1) (by omega) (logArr t (.slice A' t.segs.length c')).toList 0 _ _ (B1.out.setCell (p := ⟨w.heap.size + 1 + 1, 3, none⟩) (by simp; omega) (.slice A' t.segs.length c')))
  have HF : Hid (OwnS ((w1.setCell ⟨w.heap.size + 1 + 1, 3, none⟩ (.slice A' t.segs.length c')).setCells (w.heap.size + 1) 0 (logArr t (.slice A' t.segs.length c')).toList) (seg w.heap.size ((w1.setCell ⟨w.heap.size + 1 + 1, 3, none⟩ (.slice A' t.segs.length c')).setCells (w.heap.size + 1) 0 (logArr t (.slice A' t.segs.length c')).toList).heap.size) (.slice A' t.segs.length c') t.segs) := by
    refine (LOwn.keep keepsS HH1.out (by rw [Cells.size_setCells]; simp) (fun g h1 => ?_)).mono (fun x hx => ?_)
    · have := h1.1
      rw [hsz, hsz, hsz] at this
      rw [Cells.heap_setCells_other _ _ (by omega), heap_setCell_other _ _ _ _ (by show _ ≠ w.heap.size + 1 + 1; omega)]
    · obtain ⟨x1, x2⟩ := hx
      rw [hsz, hsz, hsz] at x1
      refine ⟨by omega, ?_⟩
      rw [Cells.size_setCells]
      simpa using x2
  clear T1 T2 T4
  simp at cN
  go_wp2_with (first | (refine wpList_load_row rfl 31 _ rfl (w.heap.size + 1 + 1) rfl _ _ _ _ H3.out Try.underlying31 rfl LogW.infoN ?_) | (refine wpList_store_mid rfl 31 _ _ rfl (w.heap.size + 1) 0 (logArr t (.slice A' t.segs.length c')) rfl rfl H5.out LogW.infoN (LogW.logArr_one _ _ rfl) ?_))
  exact bodyPost_ret (v := logVal t (.slice A' t.segs.length c')) (results_cell_row rfl _ _ (w.heap.size + 1) _ _ _ _ rfl H4.out Try.underlying31 rfl LogW.infoN) rfl ⟨_, rfl, HF.out, B2.out⟩
end Go.Proofs.Ytdnfnjlnfmafkaa.Ft
