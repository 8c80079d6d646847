/- LogOk of the model: at every log; The model's list of all Batches of a Log; For PartOk of the model. -/
import Derived.Deep.QuietTactic
import Derived.BigQuiet
import Derived.Test.YticihnoekffelaaJS34
import Derived.Test.YticihnoekffelaaJS11
import Derived.Test.YticihnoekffelaaJS15
import Derived.Test.YticihnoekffelaaJS28
namespace Go.Proofs.Yticihnoekffelaa.LgS
set_option maxRecDepth 8000
open Go.RowKit
open LgP (inR many logOk)
open InB (l1In_b)
open Bats SegW Segs LogW
open Recs (hsz Row below1 below2 BatAt RecsAt batVal Bat chain)
set_option linter.unusedVariables false
set_option maxHeartbeats 800000 in
theorem spec_no (l : Lg) (A : Option Addr) (c : Nat) (w : World) (hn : l.segs.length ≤ 1048576) (h : ahead l = false) :
    Calls Try.prog 22 #[logVal l (.slice A l.segs.length c)] w fun e w' => e = .returned (.bool false) ∧ Below w.heap.size w w' := by
  unfold logVal
  by_cases h0 : l.segs.length ≤ 60
  · cases h1 : inR l.roll 1 20000 with
    | false =>
      have H1 := Seg.hid h1
      clear h h1
      go_enter Try.func22, Try.ntmps22
      go_wp2_with fail
      refine (l1In_b l.roll 1 20000 false H1.out _).mono ?_
      rintro _ _ ⟨rfl, rfl⟩
      go_wp2
      go_ret
      exact ⟨rfl, below1 _ _⟩
    | true =>
      cases h2 : inR l.next 0 1000000000 with
      | false =>
        have H1 := Seg.hid h1
        have H2 := Seg.hid h2
        clear h h1 h2
        go_enter Try.func22, Try.ntmps22
        go_wp2_with fail
        refine (l1In_b l.roll 1 20000 true H1.out _).mono ?_
        rintro _ _ ⟨rfl, rfl⟩
        go_wp2_with fail
        refine (l1In_b l.next 0 1000000000 false H2.out _).mono ?_
        rintro _ _ ⟨rfl, rfl⟩
        go_wp2
        go_ret
        exact ⟨rfl, below1 _ _⟩
      | true =>
        have h3 : inR l.start 0 l.next = false := by
          simp only [ahead, decide_eq_true h0, h1, h2, Bool.true_and] at h
          exact h
        have H1 := Seg.hid h1
        have H2 := Seg.hid h2
        have H3 := Seg.hid h3
        clear h h1 h2 h3
        go_enter Try.func22, Try.ntmps22
        go_wp2_with fail
        refine (l1In_b l.roll 1 20000 true H1.out _).mono ?_
        rintro _ _ ⟨rfl, rfl⟩
        go_wp2_with fail
        refine (l1In_b l.next 0 1000000000 true H2.out _).mono ?_
        rintro _ _ ⟨rfl, rfl⟩
        go_wp2_with fail
        refine (l1In_b l.start 0 l.next false H3.out _).mono ?_
        rintro _ _ ⟨rfl, rfl⟩
        go_wp2
        go_ret
        exact ⟨rfl, below1 _ _⟩
  · clear h
    go_enter Try.func22, Try.ntmps22
    go_wp2
    go_ret
    exact ⟨rfl, below1 _ _⟩
set_option maxHeartbeats 800000 in
theorem spec_zero (l : Lg) (A : Option Addr) (c : Nat) (w : World) (h1 : inR l.roll 1 20000 = true) (h2 : inR l.next 0 1000000000 = true) (h3 : inR l.start 0 l.next = true) :
    Calls Try.prog 22 #[logVal l (.slice A 0 c)] w fun e w' => e = .returned (.bool true) ∧ Below w.heap.size w w' := by
  have hnx : -1 < l.next := by
    simp only [inR, Bool.and_eq_true, decide_eq_true_eq] at h2
    omega
  have H1 := Seg.hid h1
  have H2 := Seg.hid h2
  have H3 := Seg.hid h3
  clear h1 h2 h3
  unfold logVal
  go_enter Try.func22, Try.ntmps22
  go_wp2_with fail
  refine (l1In_b l.roll 1 20000 true H1.out _).mono ?_
  rintro _ _ ⟨rfl, rfl⟩
  go_wp2_with fail
  refine (l1In_b l.next 0 1000000000 true H2.out _).mono ?_
  rintro _ _ ⟨rfl, rfl⟩
  go_wp2_with fail
  refine (l1In_b l.start 0 l.next true H3.out _).mono ?_
  rintro _ _ ⟨rfl, rfl⟩
  go_wp2_with fail
  go_loop [3, 4, 5, 6] (fun bh ep mn i => bh = .int .i64 (-1) ∧ ep = .int .i64 0 ∧ mn = .int .i64 0 ∧ i = .int .i64 0) (fun _ _ _ _ => 0)
  case atStart => exact ⟨rfl, rfl, rfl, rfl⟩
  case round =>
    obtain ⟨rfl, rfl, rfl, rfl⟩ := hrel
    go_wp2
    go_ret
    exact ⟨rfl, below1 _ _⟩
theorem logOk_eq (l : Lg) : logOk l = (ahead l && (LgP.stands l.next (LgP.segs 0 0 l.segs) && decide (many l.segs ≤ 400))) := by
  simp only [logOk, ahead, LgP.bounds, LgP.counts]
  generalize LgP.stands l.next (LgP.segs 0 0 l.segs) = s
  generalize inR l.roll 1 20000 = a
  generalize inR l.next 0 1000000000 = b
  generalize inR l.start 0 l.next = c
  generalize decide (many l.segs ≤ 400) = d
  generalize decide (l.segs.length ≤ 60) = e
  cases s <;> cases a <;> cases b <;> cases c <;> cases d <;> cases e <;> rfl
theorem spec_any (v : Value) (l : Lg) (w : World) (lo b : Nat) (hv : LogAt w lo b v l) (hb : b ≤ w.heap.size) (hf : FewL l) (hw : ∀ i, i < l.segs.length → -9223372036854775808 ≤ (l.segs.getD i default).base ∧ (l.segs.getD i default).base ≤ 9223372036854775807) :
    Calls Try.prog 22 #[v] w fun e w' => e = .returned (.bool (logOk l)) ∧ Below w.heap.size w w' := by
  obtain ⟨rv, rfl, H, ⟨hn, A, c, rfl, h⟩, hh⟩ := hv
  rw [logOk_eq]
  cases ha : ahead l with
  | false => exact spec_no l A c w hf.1.1 ha
  | true =>
  have ha' := ha
  simp only [ahead, Bool.and_eq_true, decide_eq_true_eq] at ha'
  obtain ⟨h0, h1, h2, h3⟩ := ha'
  by_cases hz : l.segs.length = 0
  · have e : (true && (LgP.stands l.next (LgP.segs 0 0 l.segs) && decide (many l.segs ≤ 400))) = true := by
      rw [List.length_eq_zero_iff.1 hz]
      simp only [inR, Bool.and_eq_true, decide_eq_true_eq] at h2
      simp [LgP.segs, LgP.stands, many]
      omega
    rw [e, hz]
    exact spec_zero l A c w h1 h2 h3
  obtain ⟨g, o, rfl, hg, hc, hcell, _⟩ := h.resolve_left hz
  rw [Bool.true_and]
  exact spec_core l g o c H w lo b hb hf hw h0 h1 h2 h3 hc (by omega) hh hcell
end Go.Proofs.Yticihnoekffelaa.LgS
namespace Go.Proofs.Yticihnoekffelaa.Ft
set_option maxRecDepth 8000
open Go.RowKit
open Recs
open Bats SegW Segs LogW BfP
set_option linter.unusedVariables false
theorem infoBa : (Try.prog.info? 58).map (fun i => (i.zero, i.size, i.bytes)) = some (some (.agg #[.int .i64 0, .int .i64 0, .int .i64 0, .int .i64 0, .int .i64 0, .int .i64 0, .slice none 0 0]), 7, 72) := by kernel_rfl
theorem row_of_own {w : World} {base ty s n : Nat} {v : Value} {f : Nat → Nat → Value} (hs : 0 < s) (h : w.ownsRow base ty s v n (flat s n f)) (hn : n ≤ 9223372036854775807) : Row w base w.heap.size s v n f := by
  rcases h.2 with ⟨h1, h2⟩ | ⟨g, cap, cur, h1, h2, h3, h4, h5, h6, h7⟩
  · exact ⟨hn, none, 0, by rw [h1, h2], .inl h2⟩
  · refine ⟨hn, _, cap, h1, .inr ⟨g, 0, rfl, (Array.getElem?_eq_some_iff.1 h3).1, h4, fun i hi j hj => ?_, h2⟩⟩
    have hlt : i * s + j < n * s := by
      have : (i + 1) * s ≤ n * s := Nat.mul_le_mul_right s hi
      rw [Nat.succ_mul] at this
      omega
    have hc := World.ownsRow.cells h (g := g) (by rw [h1]; rfl) (i * s + j) (f i j) (by
      have := flat_cell s n f i j hi hj
      rw [List.getD_eq_getElem?_getD, List.getElem?_eq_getElem (by rw [flat_len]; exact hlt)] at this
      rw [List.getElem?_eq_getElem (by rw [flat_len]; exact hlt)]
      exact congrArg some this)
    have hadd : (⟨g, 0, none⟩ : Addr).add (i * s + j) = ⟨g, 0 + i * s + j, none⟩ := by unfold Addr.add; split <;> simp_all
    rw [hadd] at hc
    exact hc
theorem flat_app (s n m : Nat) (f g : Nat → Nat → Value) : flat s n f ++ flat s m g = flat s (n + m) (fun i j => if i < n then f i j else g (i - n) j) := by
  by_cases hs : s = 0
  · subst hs; simp [flat]
  unfold flat
  refine List.ext_getElem (by simp [Nat.add_mul]) fun i h1 h2 => ?_
  simp only [List.getElem_map, List.getElem_range]
  have hs' : 0 < s := by omega
  by_cases hi : i < n * s
  · rw [List.getElem_append_left (by simpa using hi)]
    have : i / s < n := Nat.div_lt_of_lt_mul (by rw [Nat.mul_comm]; exact hi)
    simp [this]
  · rw [List.getElem_append_right (by simpa using hi)]
    have hge : n ≤ i / s := (Nat.le_div_iff_mul_le hs').2 (by omega)
    simp only [List.length_map, List.length_range, List.getElem_map, List.getElem_range]
    rw [if_neg (by omega)]
    have e1 : (i - n * s) / s = i / s - n := by rw [Nat.mul_comm]; exact Nat.sub_mul_div i s n
    have e2 : (i - n * s) % s = i % s := by rw [Nat.mul_comm]; exact Nat.sub_mul_mod (by rw [Nat.mul_comm]; omega)
    rw [e1, e2]
theorem flat_eq {s n : Nat} {f g : Nat → Nat → Value} (hs : 0 < s) (h : ∀ i, i < n → ∀ j, j < s → f i j = g i j) : flat s n f = flat s n g := by
  unfold flat
  refine List.map_congr_left fun q hq => ?_
  rw [List.mem_range] at hq
  exact h _ (Nat.div_lt_of_lt_mul (by rw [Nat.mul_comm]; exact hq)) _ (Nat.mod_lt _ hs)
theorem getD_left {T : Type} [Inhabited T] {a b : List T} {i : Nat} (h : i < a.length) : (a ++ b).getD i default = a.getD i default := by
  rw [List.getD_eq_getElem?_getD, List.getElem?_append_left h, ← List.getD_eq_getElem?_getD]
theorem getD_right {T : Type} [Inhabited T] {a b : List T} {i : Nat} (h : a.length ≤ i) : (a ++ b).getD i default = b.getD (i - a.length) default := by
  rw [List.getD_eq_getElem?_getD, List.getElem?_append_right h, ← List.getD_eq_getElem?_getD]
theorem bats_flat_app (a b : List Bat) (H K : Nat → Value) : flat 7 a.length (batsCells a H) ++ flat 7 b.length (batsCells b K) = flat 7 (a ++ b).length (batsCells (a ++ b) (fun i => if i < a.length then H i else K (i - a.length))) := by
  rw [flat_app, List.length_append]
  refine flat_eq (by omega) fun i hi j hj => ?_
  by_cases h : i < a.length
  · simp only [if_pos h, batsCells, getD_left h]
  · simp only [if_neg h, batsCells, getD_right (Nat.le_of_not_lt h)]
theorem bats_one' {w : World} {lo b : Nat} (bs : List Bat) (H : Nat → Value) (hh : ∀ i, i < bs.length → RecsAt w lo b (H i) (bs.getD i default).recs) : ∀ i, i < bs.length → ∀ j, j < 7 → (batsCells bs H i j).oneCell' = true := fun i hi j hj => by
  match j, hj with
  | 0, _ => rfl
  | 1, _ => rfl
  | 2, _ => rfl
  | 3, _ => rfl
  | 4, _ => rfl
  | 5, _ => rfl
  | 6, _ =>
    obtain ⟨_, ⟨_, A, c, h, _⟩, _⟩ := hh i hi
    show (H i).oneCell' = true
    rw [h]; rfl
theorem flat_one' {s n : Nat} {f : Nat → Nat → Value} (h : ∀ i, i < n → ∀ j, j < s → (f i j).oneCell' = true) (hs : 0 < s) : ∀ u ∈ flat s n f, u.oneCell' = true := fun u hu => by
  unfold flat at hu
  rw [List.mem_map] at hu
  obtain ⟨q, hq, rfl⟩ := hu
  rw [List.mem_range] at hq
  exact h _ (Nat.div_lt_of_lt_mul (by rw [Nat.mul_comm]; exact hq)) _ (Nat.mod_lt _ hs)
theorem ownsRow_form {w : World} {base ty s n : Nat} {v : Value} {xs : List Value} (h : w.ownsRow base ty s v n xs) : ∃ A c, v = .slice A n c := by
  rcases h.2 with ⟨h1, h2⟩ | ⟨g, cap, cur, h1, _⟩
  · exact ⟨none, 0, by rw [h1, h2]⟩
  · exact ⟨_, _, h1⟩
theorem owns_keep {w w' : World} {base n ty nf : Nat} {v : Value} {xs : List Value} (h : w.ownsRow base ty nf v n xs) (hk : ∀ g, base ≤ g → g < w.heap.size → w'.heap[g]? = w.heap[g]?) : w'.ownsRow base ty nf v n xs := by
  refine ⟨h.1, ?_⟩
  rcases h.2 with hn | ⟨g', cap, cur, h1, hbs, hgg, rest⟩
  · exact .inl hn
  · exact .inr ⟨g', cap, cur, h1, hbs, by rw [hk g' hbs (Array.getElem?_eq_some_iff.1 hgg).1]; exact hgg, rest⟩
/-- How far the list is made. -/
structure AL (w wr : World) (lo b : Nat) (l : Lg) (v0 v : Value) (us : List Bat) (HH : Nat → Value) : Prop where
  own : wr.ownsRow (w.heap.size + 1) 58 7 v us.length (flat 7 us.length (batsCells us HH))
  recs : ∀ i, i < us.length → RecsAt w lo b (HH i) (us.getD i default).recs
  bel : Below w.heap.size w wr
  par : wr.heap[w.heap.size]? = some (.cells (logArr l v0) 28 (0, 0))
  size : w.heap.size + 1 ≤ wr.heap.size
theorem AL.push {w wr w9 : World} {lo b : Nat} {l : Lg} {v0 : Value} {A1 A9 : Option Addr} {c1 c9 : Nat} {us bs : List Bat} {K H2 : Nat → Value} (h : AL w wr lo b l v0 (.slice A1 us.length c1) us K) (hh : ∀ i, i < bs.length → RecsAt w lo b (H2 i) (bs.getD i default).recs)
    (hown : w9.ownsRow (w.heap.size + 1) 58 7 (.slice A9 (us.length + bs.length) c9) (us.length + bs.length) (flat 7 (us ++ bs).length (batsCells (us ++ bs) (fun i => if i < us.length then K i else H2 (i - us.length))))) (gr : wr.grownBy w9 (Value.slice A1 us.length c1).ownBlock) :
    AL w w9 lo b l v0 (.slice A9 (us ++ bs).length c9) (us ++ bs) (fun i => if i < us.length then K i else H2 (i - us.length)) := by
  have hz := h.size
  refine ⟨by rw [List.length_append] at hown ⊢; exact hown, fun i hi => ?_, h.bel.grown gr (by omega) (fun k hk => by have := World.ownsRow.lt h.own k hk; omega), (gr.block w.heap.size (by omega) (fun e => by have := World.ownsRow.lt h.own _ e.symm; omega)).trans h.par, Nat.le_trans hz gr.size⟩
  by_cases hlt : i < us.length
  · rw [if_pos hlt, getD_left hlt]
    exact h.recs i hlt
  · rw [if_neg hlt, getD_right (Nat.le_of_not_lt hlt)]
    exact hh _ (by rw [List.length_append] at hi; omega)
set_option maxHeartbeats 1600000 in
theorem l3All_core (l : Lg) (A : Option Addr) (c : Nat) (w : World) (lo b : Nat) (hb : b ≤ w.heap.size) (hl : l.segs.length ≤ 1048576) (hT : (flatB l.segs).length ≤ 1048576) (hv : SegsAt w lo b (.slice A l.segs.length c) l.segs) :
    Calls Try.prog 37 #[logVal l (.slice A l.segs.length c)] w fun e w' => ∃ v, e = .returned v ∧ (∃ H, Row w' (w.heap.size + 1) w'.heap.size 7 v (flatB l.segs).length (batsCells (flatB l.segs) H) ∧ ∀ i, i < (flatB l.segs).length → RecsAt w' lo b (H i) ((flatB l.segs).getD i default).recs) ∧ Below w.heap.size w w' := by
  obtain ⟨i0, hi, hz0, hz1, hz2⟩ := info_parts infoBa
  obtain ⟨H, ⟨_, A', c', hsl, hrow⟩, hh⟩ := hv
  simp only [Value.slice.injEq] at hsl
  obtain ⟨rfl, _, rfl⟩ := hsl
  have HROW := Seg.hid hrow; have HH := Seg.hid hh
  clear hrow hh
  unfold logVal
  go_enter Try.func37, Try.ntmps37
  go_wp2_with fail
  have C0 : Hid (AL w ((w.alloc (.cells (logArr l (.slice A l.segs.length c)) 28 (0, 0))).alloc (.cells #[] 58 (0, 0))) lo b l (.slice A l.segs.length c) (.slice (some ⟨w.heap.size + 1, 0, none⟩) 0 0) [] (fun _ => default)) := by
    refine ⟨?_, fun i hi => absurd hi (by simp), below2 w _ _, (heap_alloc_old _ _ (by rw [hsz]; omega)).trans (heap_alloc_new _ _), by rw [hsz, hsz]; omega⟩
    have := World.ownsRow_lit (base := w.heap.size + 1) (e := 58) (size := 7) (w.alloc (.cells (logArr l (.slice A l.segs.length c)) 28 (0, 0))) #[] 0 (by rw [hsz]; exact Nat.le_refl _) (Nat.zero_le _) rfl
    rw [hsz] at this
    simpa [flat] using this
  go_loopw [3, 4] (fun v i wr => ∃ (j : Nat) (us : List Bat) (A1 : Option Addr) (c1 : Nat) (K : Nat → Value), j ≤ l.segs.length ∧ i = .int .i64 j ∧ v = .slice A1 us.length c1 ∧ Hid (us = flatB (l.segs.take j) ∧ AL w wr lo b l (.slice A l.segs.length c) (.slice A1 us.length c1) us K)) (fun _ i _ => l.segs.length - (intOf i).toNat)
  case atStart => exact ⟨0, [], _, _, _, Nat.zero_le _, rfl, rfl, rfl, C0.out⟩
  case round =>
    clear C0
    obtain ⟨j, us, A1, c1, K, hj, rfl, rfl, HW⟩ := hrel
    have p3 : wr.cell? ⟨w.heap.size, 3, none⟩ = some (.slice A l.segs.length c) := cell_of_row wr w.heap.size 3 _ _ (0, 0) HW.out.2.par
    by_cases hlt : j < l.segs.length
    · have h0 : (0 : Int) ≤ (j : Int) := by omega
      have h1 : (j : Int) < (l.segs.length : Int) := by omega
      obtain ⟨g, o, rfl, hg, hc, hcell, _⟩ := HROW.out.resolve_left (by omega)
      have hgw : g < w.heap.size := by omega
      obtain ⟨e0, e1⟩ := Segs.six (fun i hi q hq => by rw [HW.out.2.bel.cell (p := ⟨g, o + i * 2 + q, none⟩) hgw]; exact hcell i hi q hq) j hlt
      have WC := Seg.hid HW.out.2
      have hz := WC.out.size
      have UN : Hid (us ++ (l.segs.getD j default).bats = flatB (l.segs.take (j + 1))) := by show _ = _; rw [HW.out.1]; exact (flatB_take hlt).symm
      have hul : us.length + (l.segs.getD j default).bats.length ≤ 1048576 := by
        have e : (us ++ (l.segs.getD j default).bats).length = (flatB (l.segs.take (j + 1))).length := by rw [UN.out]
        have e2 : (flatB l.segs).length = (flatB (l.segs.take (j + 1))).length + (flatB (l.segs.drop (j + 1))).length := by rw [← List.length_append, ← flatB_app, List.take_append_drop]
        rw [List.length_append] at e
        omega
      obtain ⟨H2, hr2, hh2⟩ := HH.out j hlt
      obtain ⟨_, Ah, ch, hHj, _⟩ := id hr2
      have R2 := Seg.hid hr2; have HH2 := Seg.hid hh2
      rw [hHj] at e1 R2
      clear hcell HW hr2 hh2 hHj
      generalize l.segs.getD j default = tj at *
      go_wp2_with (at_builtin; (refine wpList_append_all _ rfl (.tmp 13) (.tmp 19) 40 rfl (w.heap.size + 1) 58 i0 _ 7 72 Try.underlying40 hi hz0 hz1 hz2 rfl (by decide) (.slice A1 us.length c1) us.length _ rfl WC.out.own Ah tj.bats.length ch (flat 7 tj.bats.length (batsCells tj.bats H2)) rfl (flat_len _ _ _) (flat_news (by decide) (Row.below R2.out (WC.out.bel.mono hb))) (flat_one' (bats_one' _ _ HH2.out) (by omega)) (by unfold maxLen; omega) (by omega) (by omega) ?_; intro v9 w9 hown9 gr9 hat9; obtain ⟨A9, c9, rfl⟩ := ownsRow_form hown9; rw [bats_flat_app] at hown9; have D9 := Seg.hid (AL.push (bs := tj.bats) WC.out HH2.out hown9 gr9); clear hown9 gr9 hat9))
      go_roundw
      case rel => exact ⟨j + 1, us ++ tj.bats, A9, c9, _, by omega, by go_num, by rw [List.length_append], UN.out, D9.out⟩
      case measure => simp [intOf]; omega
    · have UE : Hid (us = flatB l.segs) := by show _ = _; rw [HW.out.1, List.take_of_length_le (by omega)]
      have BA : Hid (∃ H, Row wr (w.heap.size + 1) wr.heap.size 7 (.slice A1 us.length c1) us.length (batsCells us H) ∧ ∀ i, i < us.length → RecsAt wr lo b (H i) (us.getD i default).recs) := by
        have hlen : us.length ≤ 9223372036854775807 := by rw [UE.out]; omega
        exact ⟨K, row_of_own (by omega) HW.out.2.own hlen, fun i hi => (HW.out.2.recs i hi).below (HW.out.2.bel.mono hb)⟩
      have BL := Seg.hid HW.out.2.bel
      have : j = l.segs.length := by omega
      clear HW
      subst this
      go_wp2_with fail
      go_ret
      exact ⟨_, rfl, by rw [← UE.out]; exact BA.out, BL.out⟩
theorem l3All_own (v : Value) (l : Lg) (w : World) (lo b : Nat) (hv : LogAt w lo b v l) (hb : b ≤ w.heap.size) (hl : l.segs.length ≤ 1048576) (hT : (flatB l.segs).length ≤ 1048576) :
    Calls Try.prog 37 #[v] w fun e w' => ∃ v, e = .returned v ∧ (∃ H, Row w' (w.heap.size + 1) w'.heap.size 7 v (flatB l.segs).length (batsCells (flatB l.segs) H) ∧ ∀ i, i < (flatB l.segs).length → RecsAt w' lo b (H i) ((flatB l.segs).getD i default).recs) ∧ Below w.heap.size w w' := by
  obtain ⟨sv, rfl, hs⟩ := hv
  obtain ⟨_, ⟨_, A, c, rfl, _⟩, _⟩ := id hs
  exact l3All_core l A c w lo b hb hl hT hs
theorem l3All_any (v : Value) (l : Lg) (w : World) (lo b : Nat) (hv : LogAt w lo b v l) (hb : b ≤ w.heap.size) (hl : l.segs.length ≤ 1048576) (hT : (flatB l.segs).length ≤ 1048576) :
    Calls Try.prog 37 #[v] w fun e w' => ∃ v, e = .returned v ∧ BatsAt w' 0 w'.heap.size v (flatB l.segs) ∧ Below w.heap.size w w' :=
  (l3All_own v l w lo b hv hb hl hT).mono fun e w' ⟨v, e1, ⟨H, h1, h2⟩, h3⟩ => ⟨v, e1, ⟨H, h1.mono (Nat.zero_le _) (Nat.le_refl _), fun i hi => (h2 i hi).mono (Nat.zero_le _) (by have := h3.size; omega)⟩, h3⟩
end Go.Proofs.Yticihnoekffelaa.Ft
namespace Go.Proofs.Yticihnoekffelaa.PoS
set_option maxRecDepth 8000
open Go.RowKit
open Ls Asc PoP
open Recs (hsz below1 below2 chain chainD Bat)
open SegW (Sg)
open LogW (Lg LogAt)
open Bats (BatsAt)
open LgP (logOk)
open BfP (flatB)
open EoP (lastE)
open PoI (Sr)
set_option linter.unusedVariables false
theorem lastE_get : ∀ (e : Int) (bs : List Bat), bs.length ≠ 0 → lastE e bs = (bs.getD (bs.length - 1) default).epoch
  | e, [], h => absurd rfl h
  | e, [b], _ => rfl
  | e, b :: c :: t, _ => by
    show lastE b.epoch (c :: t) = _
    rw [lastE_get b.epoch (c :: t) (by simp)]
    simp
set_option maxHeartbeats 400000 in
theorem has_any (v : Value) (ns : List Int) (x : Int) (t : Bool) (w : World) (S : Nat → Prop) (hv : IntsAt w S v ns) (hS : ∀ g, S g → g < w.heap.size) (ht : has x ns = t) :
    Calls Try.prog 65 #[v, .int .i64 x] w fun e w' => e = .returned (.bool t) ∧ w = w' := by
  obtain ⟨A, c, g, o, F, rfl, O, hn⟩ := opn hv hS
  have HO := Seg.hid O
  have IC : Hid (∀ i, i < ns.length → w.cell? ⟨g, o + i, none⟩ = some (.int .i64 (ns.getD i default))) := int_cell O.cells O.el
  have HT := Seg.hid ht
  clear hv O ht
  go_enter Try.func65, Try.ntmps65
  go_wp2
  go_loop [5] (fun i => ∃ (k : Nat), k ≤ ns.length ∧ i = .int .i64 k ∧ Hid (has x (ns.drop k) = t)) (fun i => ns.length - (intOf i).toNat)
  case atStart => exact ⟨0, Nat.zero_le _, rfl, HT⟩
  case round =>
    obtain ⟨k, hk, rfl, HB⟩ := hrel
    by_cases hlt : k < ns.length
    · obtain ⟨ea, hc, hg⟩ := HO.out.addr.resolve_left (by omega)
      have c1 := IC.out k hlt
      have h0 : (0 : Int) ≤ (k : Int) := by omega
      have h1 : (k : Int) < (ns.length : Int) := by omega
      have HD := HB.out
      rw [drop_cons hlt] at HD
      generalize ns.getD k default = nk at *
      have HD' := Seg.hid HD
      clear HD
      subst ea
      by_cases hx : nk = x
      · have hx2 : (nk == x) = true := by simp [hx]
        have Z : Hid (true = t) := by show _ = _; rw [← HD'.out]; simp [has, hx]
        clear hx
        go_wp2
        go_ret
        exact ⟨Seg.ret_bool Z.out, rfl⟩
      · have hx2 : (nk == x) = false := by simpa using hx
        have Z : Hid (has x (ns.drop (k + 1)) = t) := by show _ = _; rw [← HD'.out]; simp [has, hx]
        clear hx
        go_wp2
        go_round
        case rel => exact ⟨k + 1, by omega, by go_num, Z⟩
        case measure => simp [intOf]; omega
    · have hk' : k = ns.length := by omega
      have HE := HB.out
      rw [List.drop_eq_nil_of_le (by omega)] at HE
      have HE' := Seg.hid HE
      clear HE
      subst hk'
      go_wp2
      go_ret
      exact ⟨Seg.ret_bool HE'.out, rfl⟩
set_option maxHeartbeats 800000 in
theorem epoch_any (v : Value) (l : Lg) (w : World) (lo b : Nat) (hv : LogAt w lo b v l) (hb : b ≤ w.heap.size) (hl : l.segs.length ≤ 1048576) (hT : (flatB l.segs).length ≤ 1048576) :
    Calls Try.prog 64 #[v] w fun e w' => e = .returned (.int .i64 (lastE 0 (flatB l.segs))) ∧ Below w.heap.size w w' := by
  have HV := Seg.hid hv
  obtain ⟨te, hte⟩ : ∃ te, lastE 0 (flatB l.segs) = te := ⟨_, rfl⟩
  rw [hte]
  have HT0 := Seg.hid hte
  clear hte
  obtain ⟨rv, rfl, H, ⟨hn, A, c, rfl, _⟩, _⟩ := hv
  unfold LogW.logVal at HV ⊢
  go_enter Try.func64, Try.ntmps64
  go_wp2_with fail
  refine (Ft.l3All_any _ l (w.alloc _) lo b (HV.out.below ((below1 w _).mono hb)) (by rw [hsz]; omega) hl hT).mono ?_
  rintro e w1 ⟨v1, rfl, hb1, b1⟩
  have B1 := Seg.hid (chain (below1 w _) b1)
  clear b1
  obtain ⟨H1, ⟨hn1, A1, c1, rfl, h1⟩, _⟩ := hb1
  have LG := Seg.hid (lastE_get 0 (flatB l.segs))
  obtain ⟨fl, hfl⟩ : ∃ fl, flatB l.segs = fl := ⟨_, rfl⟩
  have HTE : Hid (lastE 0 fl = te) := by show _ = _; rw [← hfl]; exact HT0.out
  rw [HT0.out, hfl] at LG
  rw [hfl] at hn1 h1 ⊢
  clear hfl
  by_cases hz : fl.length = 0
  · have Z : Hid (0 = te) := by show _ = _; rw [← HTE.out, List.length_eq_zero_iff.1 hz]; rfl
    have h2 : ((fl.length : Int) == 0) = true := by simp [hz]
    clear hz h1
    go_wp2
    go_ret
    exact ⟨Seg.ret_int Z.out, B1.out⟩
  · obtain ⟨g, o, rfl, hg, hc, hcell, _⟩ := h1.resolve_left hz
    have Z := Seg.hid (LG.out hz)
    have c1' : w1.cell? ⟨g, o + (fl.length - 1) * 7 + 1, none⟩ = some (.int .i64 (fl.getD (fl.length - 1) default).epoch) := hcell (fl.length - 1) (by omega) 1 (by omega)
    generalize (fl.getD (fl.length - 1) default).epoch = ep at *
    have h2 : ((fl.length : Int) == 0) = false := by simp; intro h; exact hz (by rw [h]; rfl)
    have e1 : IntKind.i64.wrap ((fl.length : Int) - 1) = (fl.length : Int) - 1 := by rw [IntKind.wrap_i64] <;> omega
    have e2 : (0 : Int) ≤ (fl.length : Int) - 1 := by omega
    have e3 : (fl.length : Int) - 1 < (fl.length : Int) := by omega
    have e4 : (1 : Int) ≤ (fl.length : Int) := by omega
    have e5 : 1 ≤ fl.length := by omega
    have e6 : 0 < fl.length := by omega
    have e7 : fl.length - 1 < fl.length := by omega
    clear hz hcell
    go_wp2
    go_ret
    exact ⟨Seg.ret_int Z.out.symm, B1.out⟩
theorem l1In_q (x lo hi : Int) (b : Bool) (hb : inR lo x hi = b) (w : World) : Calls Try.prog 23 #[.int .i64 x, .int .i64 lo, .int .i64 hi] w fun e w' => e = .returned (.bool b) ∧ w' = w :=
  (InB.l1In_b x lo hi b hb w).mono fun e w' ⟨h1, h2⟩ => ⟨h1, h2.symm⟩
/-- The number ahead of place k (-1: none). -/
def pv (ns : List Int) (k : Nat) : Int := if k = 0 then -1 else ns.getD (k - 1) default
structure Qt (a b : World) : Prop where
  heap : b.heap = a.heap
  os : b.os = a.os
  tape : b.tape = a.tape
  output : b.output = a.output
theorem Qt.drewN {a b : World} (h : Qt a b) (n : Nat) : Qt a (b.drewN n) := ⟨h.heap, h.os, h.tape, h.output⟩
theorem Qt.cell {a b : World} (h : Qt a b) (p : Addr) : b.cell? p = a.cell? p := World.cell?_of_block (w := a) (a := p) (by rw [h.heap])
theorem Qt.bel {a b : World} (h : Qt a b) (B : Nat) : Below B a b := ⟨h.os, h.tape, h.output, by rw [h.heap]; exact Nat.le_refl _, fun k _ => by rw [h.heap]⟩
theorem Sr.cells {w wr : World} {p : Prt} {A0 A3 A4 : Option Addr} {c0 c3 c4 : Nat} (h : Sr w wr p A0 A3 A4 c0 c3 c4) : wr.cell? ⟨w.heap.size, 0, none⟩ = some (.slice A0 p.reps.length c0) ∧ wr.cell? ⟨w.heap.size, 1, none⟩ = some (.int .i64 p.leader) ∧ wr.cell? ⟨w.heap.size, 2, none⟩ = some (.int .i64 p.epoch) ∧ wr.cell? ⟨w.heap.size, 3, none⟩ = some (.slice A3 p.insync.length c3) ∧ wr.cell? ⟨w.heap.size, 4, none⟩ = some (.slice A4 p.known.length c4) :=
  ⟨cell_of_row wr _ 0 _ _ (0, 0) h.rp, cell_of_row wr _ 1 _ _ (0, 0) h.rp, cell_of_row wr _ 2 _ _ (0, 0) h.rp, cell_of_row wr _ 3 _ _ (0, 0) h.rp, cell_of_row wr _ 4 _ _ (0, 0) h.rp⟩
theorem Sr.next {w wr w' : World} {p : Prt} {A0 A3 A4 : Option Addr} {c0 c3 c4 : Nat} (h : Sr w wr p A0 A3 A4 c0 c3 c4) (b : Below wr.heap.size wr w') : Sr w w' p A0 A3 A4 c0 c3 c4 := ⟨(b.block _ (Array.getElem?_eq_some_iff.1 h.rp).1).trans h.rp, chain h.bel b⟩
theorem Sr.drewN {w wr : World} {p : Prt} {A0 A3 A4 : Option Addr} {c0 c3 c4 : Nat} (h : Sr w wr p A0 A3 A4 c0 c3 c4) (n : Nat) : Sr w (wr.drewN n) p A0 A3 A4 c0 c3 c4 := ⟨h.rp, ⟨h.bel.os, h.bel.tape, h.bel.output, h.bel.size, h.bel.block⟩⟩
end Go.Proofs.Yticihnoekffelaa.PoS
