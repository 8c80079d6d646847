/- The model's list of all Batches of a Log; The model's LastOffset. -/
import Derived.Test.YtidggillganafaaJS12
import Derived.Test.YtidggillganafaaJS30
import Derived.Test.YtidggillganafaaJS10
namespace Go.Proofs.Ytidggillganafaa.Ft
set_option maxRecDepth 8000
open Go.RowKit
open Recs
open Bats SegW Segs LogW BfP
set_option linter.unusedVariables false
theorem infoBa : (Try.prog.info? 62).map (fun i => (i.zero, i.size, i.bytes)) = some (some (.agg #[.int .i64 0, .int .i64 0, .int .i64 0, .int .i64 0, .int .i64 0, .int .i64 0, .slice none 0 0]), 7, 72) := by kernel_rfl
theorem row_of_own {w : World} {base ty s n : Nat} {v : Value} {f : Nat → Nat → Value} (hs : 0 < s) (h : w.ownsRow base ty s v n (flat s n f)) (hn : n ≤ 9223372036854775807) : Row w base w.heap.size s v n f := by
  rcases h.2 with ⟨h1, h2⟩ | ⟨g, cap, cur, h1, h2, h3, h4, h5, h6, h7⟩
  · exact ⟨hn, none, 0, by rw [h1, h2], .inl h2⟩
  · refine ⟨hn, _, cap, h1, .inr ⟨g, 0, rfl, (Array.getElem?_eq_some_iff.1 h3).1, h4, fun i hi j hj => ?_, h2⟩⟩
    have hlt : i * s + j < n * s := by
      have : (i + 1) * s ≤ n * s := Nat.mul_le_mul_right s hi
      rw [Nat.succ_mul] at this
      omega
    have hc := World.ownsRow.cells h (g := g) (by rw [h1]; rfl) (i * s + j) (f i j) (by
      have := flat_cell s n f i j hi hj
      rw [List.getD_eq_getElem?_getD, List.getElem?_eq_getElem (by rw [flat_len]; exact hlt)] at this
      rw [List.getElem?_eq_getElem (by rw [flat_len]; exact hlt)]
      exact congrArg some this)
    have hadd : (⟨g, 0, none⟩ : Addr).add (i * s + j) = ⟨g, 0 + i * s + j, none⟩ := by unfold Addr.add; split <;> simp_all
    rw [hadd] at hc
    exact hc
theorem flat_app (s n m : Nat) (f g : Nat → Nat → Value) : flat s n f ++ flat s m g = flat s (n + m) (fun i j => if i < n then f i j else g (i - n) j) := by
  by_cases hs : s = 0
  · subst hs; simp [flat]
  unfold flat
  refine List.ext_getElem (by simp [Nat.add_mul]) fun i h1 h2 => ?_
  simp only [List.getElem_map, List.getElem_range]
  have hs' : 0 < s := by omega
  by_cases hi : i < n * s
  · rw [List.getElem_append_left (by simpa using hi)]
    have : i / s < n := Nat.div_lt_of_lt_mul (by rw [Nat.mul_comm]; exact hi)
    simp [this]
  · rw [List.getElem_append_right (by simpa using hi)]
    have hge : n ≤ i / s := (Nat.le_div_iff_mul_le hs').2 (by omega)
    simp only [List.length_map, List.length_range, List.getElem_map, List.getElem_range]
    rw [if_neg (by omega)]
    have e1 : (i - n * s) / s = i / s - n := by rw [Nat.mul_comm]; exact Nat.sub_mul_div i s n
    have e2 : (i - n * s) % s = i % s := by rw [Nat.mul_comm]; exact Nat.sub_mul_mod (by rw [Nat.mul_comm]; omega)
    rw [e1, e2]
theorem flat_eq {s n : Nat} {f g : Nat → Nat → Value} (hs : 0 < s) (h : ∀ i, i < n → ∀ j, j < s → f i j = g i j) : flat s n f = flat s n g := by
  unfold flat
  refine List.map_congr_left fun q hq => ?_
  rw [List.mem_range] at hq
  exact h _ (Nat.div_lt_of_lt_mul (by rw [Nat.mul_comm]; exact hq)) _ (Nat.mod_lt _ hs)
theorem getD_left {T : Type} [Inhabited T] {a b : List T} {i : Nat} (h : i < a.length) : (a ++ b).getD i default = a.getD i default := by
  rw [List.getD_eq_getElem?_getD, List.getElem?_append_left h, ← List.getD_eq_getElem?_getD]
theorem getD_right {T : Type} [Inhabited T] {a b : List T} {i : Nat} (h : a.length ≤ i) : (a ++ b).getD i default = b.getD (i - a.length) default := by
  rw [List.getD_eq_getElem?_getD, List.getElem?_append_right h, ← List.getD_eq_getElem?_getD]
theorem bats_flat_app (a b : List Bat) (H K : Nat → Value) : flat 7 a.length (batsCells a H) ++ flat 7 b.length (batsCells b K) = flat 7 (a ++ b).length (batsCells (a ++ b) (fun i => if i < a.length then H i else K (i - a.length))) := by
  rw [flat_app, List.length_append]
  refine flat_eq (by omega) fun i hi j hj => ?_
  by_cases h : i < a.length
  · simp only [if_pos h, batsCells, getD_left h]
  · simp only [if_neg h, batsCells, getD_right (Nat.le_of_not_lt h)]
theorem bats_one' {w : World} {lo b : Nat} (bs : List Bat) (H : Nat → Value) (hh : ∀ i, i < bs.length → RecsAt w lo b (H i) (bs.getD i default).recs) : ∀ i, i < bs.length → ∀ j, j < 7 → (batsCells bs H i j).oneCell' = true := fun i hi j hj => by
  match j, hj with
  | 0, _ => rfl
  | 1, _ => rfl
  | 2, _ => rfl
  | 3, _ => rfl
  | 4, _ => rfl
  | 5, _ => rfl
  | 6, _ =>
    obtain ⟨_, ⟨_, A, c, h, _⟩, _⟩ := hh i hi
    show (H i).oneCell' = true
    rw [h]; rfl
theorem flat_one' {s n : Nat} {f : Nat → Nat → Value} (h : ∀ i, i < n → ∀ j, j < s → (f i j).oneCell' = true) (hs : 0 < s) : ∀ u ∈ flat s n f, u.oneCell' = true := fun u hu => by
  unfold flat at hu
  rw [List.mem_map] at hu
  obtain ⟨q, hq, rfl⟩ := hu
  rw [List.mem_range] at hq
  exact h _ (Nat.div_lt_of_lt_mul (by rw [Nat.mul_comm]; exact hq)) _ (Nat.mod_lt _ hs)
theorem ownsRow_form {w : World} {base ty s n : Nat} {v : Value} {xs : List Value} (h : w.ownsRow base ty s v n xs) : ∃ A c, v = .slice A n c := by
  rcases h.2 with ⟨h1, h2⟩ | ⟨g, cap, cur, h1, _⟩
  · exact ⟨none, 0, by rw [h1, h2]⟩
  · exact ⟨_, _, h1⟩
theorem owns_keep {w w' : World} {base n ty nf : Nat} {v : Value} {xs : List Value} (h : w.ownsRow base ty nf v n xs) (hk : ∀ g, base ≤ g → g < w.heap.size → w'.heap[g]? = w.heap[g]?) : w'.ownsRow base ty nf v n xs := by
  refine ⟨h.1, ?_⟩
  rcases h.2 with hn | ⟨g', cap, cur, h1, hbs, hgg, rest⟩
  · exact .inl hn
  · exact .inr ⟨g', cap, cur, h1, hbs, by rw [hk g' hbs (Array.getElem?_eq_some_iff.1 hgg).1]; exact hgg, rest⟩
/-- How far the list is made. -/
structure AL (w wr : World) (lo b : Nat) (l : Lg) (v0 v : Value) (us : List Bat) (HH : Nat → Value) : Prop where
  own : wr.ownsRow (w.heap.size + 1) 62 7 v us.length (flat 7 us.length (batsCells us HH))
  recs : ∀ i, i < us.length → RecsAt w lo b (HH i) (us.getD i default).recs
  bel : Below w.heap.size w wr
  par : wr.heap[w.heap.size]? = some (.cells (logArr l v0) 29 (0, 0))
  size : w.heap.size + 1 ≤ wr.heap.size
theorem AL.push {w wr w9 : World} {lo b : Nat} {l : Lg} {v0 : Value} {A1 A9 : Option Addr} {c1 c9 : Nat} {us bs : List Bat} {K H2 : Nat → Value} (h : AL w wr lo b l v0 (.slice A1 us.length c1) us K) (hh : ∀ i, i < bs.length → RecsAt w lo b (H2 i) (bs.getD i default).recs)
    (hown : w9.ownsRow (w.heap.size + 1) 62 7 (.slice A9 (us.length + bs.length) c9) (us.length + bs.length) (flat 7 (us ++ bs).length (batsCells (us ++ bs) (fun i => if i < us.length then K i else H2 (i - us.length))))) (gr : wr.grownBy w9 (Value.slice A1 us.length c1).ownBlock) :
    AL w w9 lo b l v0 (.slice A9 (us ++ bs).length c9) (us ++ bs) (fun i => if i < us.length then K i else H2 (i - us.length)) := by
  have hz := h.size
  refine ⟨by rw [List.length_append] at hown ⊢; exact hown, fun i hi => ?_, h.bel.grown gr (by omega) (fun k hk => by have := World.ownsRow.lt h.own k hk; omega), (gr.block w.heap.size (by omega) (fun e => by have := World.ownsRow.lt h.own _ e.symm; omega)).trans h.par, Nat.le_trans hz gr.size⟩
  by_cases hlt : i < us.length
  · rw [if_pos hlt, getD_left hlt]
    exact h.recs i hlt
  · rw [if_neg hlt, getD_right (Nat.le_of_not_lt hlt)]
    exact hh _ (by rw [List.length_append] at hi; omega)
set_option maxHeartbeats 1600000 in
theorem l3All_core (l : Lg) (A : Option Addr) (c : Nat) (w : World) (lo b : Nat) (hb : b ≤ w.heap.size) (hl : l.segs.length ≤ 1048576) (hT : (flatB l.segs).length ≤ 1048576) (hv : SegsAt w lo b (.slice A l.segs.length c) l.segs) :
    Calls Try.prog 19 #[logVal l (.slice A l.segs.length c)] w fun e w' => ∃ v, e = .returned v ∧ (∃ H, Row w' (w.heap.size + 1) w'.heap.size 7 v (flatB l.segs).length (batsCells (flatB l.segs) H) ∧ ∀ i, i < (flatB l.segs).length → RecsAt w' lo b (H i) ((flatB l.segs).getD i default).recs) ∧ Below w.heap.size w w' := by
  obtain ⟨i0, hi, hz0, hz1, hz2⟩ := info_parts infoBa
  obtain ⟨H, ⟨_, A', c', hsl, hrow⟩, hh⟩ := hv
  simp only [Value.slice.injEq] at hsl
  obtain ⟨rfl, _, rfl⟩ := hsl
  have HROW := Seg.hid hrow; have HH := Seg.hid hh
  clear hrow hh
  unfold logVal
  go_enter Try.func19, Try.ntmps19
  go_wp2_with fail
  have C0 : Hid (AL w ((w.alloc (.cells (logArr l (.slice A l.segs.length c)) 29 (0, 0))).alloc (.cells #[] 62 (0, 0))) lo b l (.slice A l.segs.length c) (.slice (some ⟨w.heap.size + 1, 0, none⟩) 0 0) [] (fun _ => default)) := by
    refine ⟨?_, fun i hi => absurd hi (by simp), below2 w _ _, (heap_alloc_old _ _ (by rw [hsz]; omega)).trans (heap_alloc_new _ _), by rw [hsz, hsz]; omega⟩
    have := World.ownsRow_lit (base := w.heap.size + 1) (e := 62) (size := 7) (w.alloc (.cells (logArr l (.slice A l.segs.length c)) 29 (0, 0))) #[] 0 (by rw [hsz]; exact Nat.le_refl _) (Nat.zero_le _) rfl
    rw [hsz] at this
    simpa [flat] using this
  go_loopw [3, 4] (fun v i wr => ∃ (j : Nat) (us : List Bat) (A1 : Option Addr) (c1 : Nat) (K : Nat → Value), j ≤ l.segs.length ∧ i = .int .i64 j ∧ v = .slice A1 us.length c1 ∧ Hid (us = flatB (l.segs.take j) ∧ AL w wr lo b l (.slice A l.segs.length c) (.slice A1 us.length c1) us K)) (fun _ i _ => l.segs.length - (intOf i).toNat)
  case atStart => exact ⟨0, [], _, _, _, Nat.zero_le _, rfl, rfl, rfl, C0.out⟩
  case round =>
    clear C0
    obtain ⟨j, us, A1, c1, K, hj, rfl, rfl, HW⟩ := hrel
    have p3 : wr.cell? ⟨w.heap.size, 3, none⟩ = some (.slice A l.segs.length c) := cell_of_row wr w.heap.size 3 _ _ (0, 0) HW.out.2.par
    by_cases hlt : j < l.segs.length
    · have h0 : (0 : Int) ≤ (j : Int) := by omega
      have h1 : (j : Int) < (l.segs.length : Int) := by omega
      obtain ⟨g, o, rfl, hg, hc, hcell, _⟩ := HROW.out.resolve_left (by omega)
      have hgw : g < w.heap.size := by omega
      obtain ⟨e0, e1⟩ := Segs.six (fun i hi q hq => by rw [HW.out.2.bel.cell (p := ⟨g, o + i * 2 + q, none⟩) hgw]; exact hcell i hi q hq) j hlt
      have WC := Seg.hid HW.out.2
      have hz := WC.out.size
      have UN : Hid (us ++ (l.segs.getD j default).bats = flatB (l.segs.take (j + 1))) := by show _ = _; rw [HW.out.1]; exact (flatB_take hlt).symm
      have hul : us.length + (l.segs.getD j default).bats.length ≤ 1048576 := by
        have e : (us ++ (l.segs.getD j default).bats).length = (flatB (l.segs.take (j + 1))).length := by rw [UN.out]
        have e2 : (flatB l.segs).length = (flatB (l.segs.take (j + 1))).length + (flatB (l.segs.drop (j + 1))).length := by rw [← List.length_append, ← flatB_app, List.take_append_drop]
        rw [List.length_append] at e
        omega
      obtain ⟨H2, hr2, hh2⟩ := HH.out j hlt
      obtain ⟨_, Ah, ch, hHj, _⟩ := id hr2
      have R2 := Seg.hid hr2; have HH2 := Seg.hid hh2
      rw [hHj] at e1 R2
      clear hcell HW hr2 hh2 hHj
      generalize l.segs.getD j default = tj at *
      go_wp2_with (at_builtin; (refine wpList_append_all _ rfl (.tmp 13) (.tmp 19) 42 rfl (w.heap.size + 1) 62 i0 _ 7 72 Try.underlying42 hi hz0 hz1 hz2 rfl (by decide) (.slice A1 us.length c1) us.length _ rfl WC.out.own Ah tj.bats.length ch (flat 7 tj.bats.length (batsCells tj.bats H2)) rfl (flat_len _ _ _) (flat_news (by decide) (Row.below R2.out (WC.out.bel.mono hb))) (flat_one' (bats_one' _ _ HH2.out) (by omega)) (by unfold maxLen; omega) (by omega) (by omega) ?_; intro v9 w9 hown9 gr9 hat9; obtain ⟨A9, c9, rfl⟩ := ownsRow_form hown9; rw [bats_flat_app] at hown9; have D9 := Seg.hid (AL.push (bs := tj.bats) WC.out HH2.out hown9 gr9); clear hown9 gr9 hat9))
      go_roundw
      case rel => exact ⟨j + 1, us ++ tj.bats, A9, c9, _, by omega, by go_num, by rw [List.length_append], UN.out, D9.out⟩
      case measure => simp [intOf]; omega
    · have UE : Hid (us = flatB l.segs) := by show _ = _; rw [HW.out.1, List.take_of_length_le (by omega)]
      have BA : Hid (∃ H, Row wr (w.heap.size + 1) wr.heap.size 7 (.slice A1 us.length c1) us.length (batsCells us H) ∧ ∀ i, i < us.length → RecsAt wr lo b (H i) (us.getD i default).recs) := by
        have hlen : us.length ≤ 9223372036854775807 := by rw [UE.out]; omega
        exact ⟨K, row_of_own (by omega) HW.out.2.own hlen, fun i hi => (HW.out.2.recs i hi).below (HW.out.2.bel.mono hb)⟩
      have BL := Seg.hid HW.out.2.bel
      have : j = l.segs.length := by omega
      clear HW
      subst this
      go_wp2_with fail
      go_ret
      exact ⟨_, rfl, by rw [← UE.out]; exact BA.out, BL.out⟩
theorem l3All_own (v : Value) (l : Lg) (w : World) (lo b : Nat) (hv : LogAt w lo b v l) (hb : b ≤ w.heap.size) (hl : l.segs.length ≤ 1048576) (hT : (flatB l.segs).length ≤ 1048576) :
    Calls Try.prog 19 #[v] w fun e w' => ∃ v, e = .returned v ∧ (∃ H, Row w' (w.heap.size + 1) w'.heap.size 7 v (flatB l.segs).length (batsCells (flatB l.segs) H) ∧ ∀ i, i < (flatB l.segs).length → RecsAt w' lo b (H i) ((flatB l.segs).getD i default).recs) ∧ Below w.heap.size w w' := by
  obtain ⟨sv, rfl, hs⟩ := hv
  obtain ⟨_, ⟨_, A, c, rfl, _⟩, _⟩ := id hs
  exact l3All_core l A c w lo b hb hl hT hs
theorem l3All_any (v : Value) (l : Lg) (w : World) (lo b : Nat) (hv : LogAt w lo b v l) (hb : b ≤ w.heap.size) (hl : l.segs.length ≤ 1048576) (hT : (flatB l.segs).length ≤ 1048576) :
    Calls Try.prog 19 #[v] w fun e w' => ∃ v, e = .returned v ∧ BatsAt w' 0 w'.heap.size v (flatB l.segs) ∧ Below w.heap.size w w' :=
  (l3All_own v l w lo b hv hb hl hT).mono fun e w' ⟨v, e1, ⟨H, h1, h2⟩, h3⟩ => ⟨v, e1, ⟨H, h1.mono (Nat.zero_le _) (Nat.le_refl _), fun i hi => (h2 i hi).mono (Nat.zero_le _) (by have := h3.size; omega)⟩, h3⟩
end Go.Proofs.Ytidggillganafaa.Ft
namespace Go.Proofs.Ytidggillganafaa.BOk
set_option maxRecDepth 8000
open Go.RowKit
open Recs
set_option linter.unusedVariables false

def last (t : Bat) : Int := if batOk t = true then t.base + t.recs.length - 1 else -1
theorem okNum {t : Bat} (h : batOk t = true) : 0 ≤ t.base ∧ t.base ≤ 1000000000 ∧ 1 ≤ (t.recs.length : Int) ∧ (t.recs.length : Int) ≤ 40 := by
  simp only [batOk, okB1, okB3, inR, Bool.and_eq_true, decide_eq_true_eq] at h
  omega

set_option maxHeartbeats 400000 in
theorem specLast_any (v : Value) (t : Bat) (w : World) (lo b : Nat) (hv : BatAt w lo b v t) (hb : b ≤ w.heap.size) :
    Calls Try.prog 30 #[v] w fun e w' => e = .returned (.int .i64 (last t)) ∧ Below w.heap.size w w' := by
  have HV := Seg.hid hv
  obtain ⟨rv, rfl, H, ⟨hn, A, c, rfl, hx1⟩, hx2⟩ := hv
  clear hx1 hx2
  unfold batVal at HV ⊢
  unfold last
  go_enter Try.func30, Try.ntmps30
  go_wp2_with fail
  refine (spec_any _ t (w.alloc _) lo b (HV.out.below ((below1 w _).mono hb)) (by rw [hsz]; omega)).mono ?_
  rintro e w1 ⟨rfl, b1⟩
  have B1 := Seg.hid (chain (below1 w _) b1)
  have T1 : w1.heap[w.heap.size]? = some (.cells (BatW.batArr t (.slice A t.recs.length c)) 62 (0, 0)) := (b1.block w.heap.size (by rw [hsz]; omega)).trans (heap_alloc_new _ _)
  have c0 : w1.cell? ⟨w.heap.size, 0, none⟩ = some (.int .i64 t.base) := cell_of_row w1 _ 0 _ _ (0, 0) T1
  have c6 : w1.cell? ⟨w.heap.size, 6, none⟩ = some (.slice A t.recs.length c) := cell_of_row w1 _ 6 _ _ (0, 0) T1
  clear b1 T1
  cases h1 : batOk t with
  | false =>
    have HO : Hid (batOk t = false) := h1
    go_wp2
    all_goals
      go_ret
      exact ⟨rfl, B1.out⟩
  | true =>
    obtain ⟨n1, n2, n3, n4⟩ := okNum h1
    go_wp2
    all_goals
      go_ret
      exact ⟨rfl, B1.out⟩

end Go.Proofs.Ytidggillganafaa.BOk
