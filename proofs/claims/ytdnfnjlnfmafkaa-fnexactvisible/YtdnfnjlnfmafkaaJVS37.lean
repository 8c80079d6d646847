/- The model's list of all Batches of a Log; The model's LastOffset; LogOk of the model. -/
import Derived.Test.YtdnfnjlnfmafkaaJVS11
import Derived.Test.YtdnfnjlnfmafkaaJVS17
import Derived.Test.YtdnfnjlnfmafkaaJVS10
import Derived.Test.YtdnfnjlnfmafkaaJVS22
namespace Go.Proofs.Ytdnfnjlnfmafkaa.Ft
set_option maxRecDepth 8000
open Go.RowKit
open Recs
open Bats SegW Segs LogW BfP
set_option linter.unusedVariables false
theorem infoBa : (Try.prog.info? 48).map (fun i => (i.zero, i.size, i.bytes)) = some (some (.agg #[.int .i64 0, .int .i64 0, .int .i64 0, .int .i64 0, .int .i64 0, .int .i64 0, .slice none 0 0]), 7, 72) := by kernel_rfl
theorem row_of_own {w : World} {base ty s n : Nat} {v : Value} {f : Nat → Nat → Value} (hs : 0 < s) (h : w.ownsRow base ty s v n (flat s n f)) (hn : n ≤ 9223372036854775807) : Row w base w.heap.size s v n f := by
  rcases h.2 with ⟨h1, h2⟩ | ⟨g, cap, cur, h1, h2, h3, h4, h5, h6, h7⟩
  · exact ⟨hn, none, 0, by rw [h1, h2], .inl h2⟩
  · refine ⟨hn, _, cap, h1, .inr ⟨g, 0, rfl, (Array.getElem?_eq_some_iff.1 h3).1, h4, fun i hi j hj => ?_, h2⟩⟩
    have hlt : i * s + j < n * s := by
      have : (i + 1) * s ≤ n * s := Nat.mul_le_mul_right s hi
      rw [Nat.succ_mul] at this
      omega
    have hc := World.ownsRow.cells h (g := g) (by rw [h1]; rfl) (i * s + j) (f i j) (by
      have := flat_cell s n f i j hi hj
      rw [List.getD_eq_getElem?_getD, List.getElem?_eq_getElem (by rw [flat_len]; exact hlt)] at this
      rw [List.getElem?_eq_getElem (by rw [flat_len]; exact hlt)]
      exact congrArg some this)
    have hadd : (⟨g, 0, none⟩ : Addr).add (i * s + j) = ⟨g, 0 + i * s + j, none⟩ := by unfold Addr.add; split <;> simp_all
    rw [hadd] at hc
    exact hc
theorem flat_app (s n m : Nat) (f g : Nat → Nat → Value) : flat s n f ++ flat s m g = flat s (n + m) (fun i j => if i < n then f i j else g (i - n) j) := by
  by_cases hs : s = 0
  · subst hs; simp [flat]
  unfold flat
  refine List.ext_getElem (by simp [Nat.add_mul]) fun i h1 h2 => ?_
  simp only [List.getElem_map, List.getElem_range]
  have hs' : 0 < s := by omega
  by_cases hi : i < n * s
  · rw [List.getElem_append_left (by simpa using hi)]
    have : i / s < n := Nat.div_lt_of_lt_mul (by rw [Nat.mul_comm]; exact hi)
    simp [this]
  · rw [List.getElem_append_right (by simpa using hi)]
    have hge : n ≤ i / s := (Nat.le_div_iff_mul_le hs').2 (by omega)
    simp only [List.length_map, List.length_range, List.getElem_map, List.getElem_range]
    rw [if_neg (by omega)]
    have e1 : (i - n * s) / s = i / s - n := by rw [Nat.mul_comm]; exact Nat.sub_mul_div i s n
    have e2 : (i - n * s) % s = i % s := by rw [Nat.mul_comm]; exact Nat.sub_mul_mod (by rw [Nat.mul_comm]; omega)
    rw [e1, e2]
theorem flat_eq {s n : Nat} {f g : Nat → Nat → Value} (hs : 0 < s) (h : ∀ i, i < n → ∀ j, j < s → f i j = g i j) : flat s n f = flat s n g := by
  unfold flat
  refine List.map_congr_left fun q hq => ?_
  rw [List.mem_range] at hq
  exact h _ (Nat.div_lt_of_lt_mul (by rw [Nat.mul_comm]; exact hq)) _ (Nat.mod_lt _ hs)
theorem getD_left {T : Type} [Inhabited T] {a b : List T} {i : Nat} (h : i < a.length) : (a ++ b).getD i default = a.getD i default := by
  rw [List.getD_eq_getElem?_getD, List.getElem?_append_left h, ← List.getD_eq_getElem?_getD]
theorem getD_right {T : Type} [Inhabited T] {a b : List T} {i : Nat} (h : a.length ≤ i) : (a ++ b).getD i default = b.getD (i - a.length) default := by
  rw [List.getD_eq_getElem?_getD, List.getElem?_append_right h, ← List.getD_eq_getElem?_getD]
theorem bats_flat_app (a b : List Bat) (H K : Nat → Value) : flat 7 a.length (batsCells a H) ++ flat 7 b.length (batsCells b K) = flat 7 (a ++ b).length (batsCells (a ++ b) (fun i => if i < a.length then H i else K (i - a.length))) := by
  rw [flat_app, List.length_append]
  refine flat_eq (by omega) fun i hi j hj => ?_
  by_cases h : i < a.length
  · simp only [if_pos h, batsCells, getD_left h]
  · simp only [if_neg h, batsCells, getD_right (Nat.le_of_not_lt h)]
theorem bats_one' {w : World} {lo b : Nat} (bs : List Bat) (H : Nat → Value) (hh : ∀ i, i < bs.length → RecsAt w lo b (H i) (bs.getD i default).recs) : ∀ i, i < bs.length → ∀ j, j < 7 → (batsCells bs H i j).oneCell' = true := fun i hi j hj => by
  match j, hj with
  | 0, _ => rfl
  | 1, _ => rfl
  | 2, _ => rfl
  | 3, _ => rfl
  | 4, _ => rfl
  | 5, _ => rfl
  | 6, _ =>
    obtain ⟨_, ⟨_, A, c, h, _⟩, _⟩ := hh i hi
    show (H i).oneCell' = true
    rw [h]; rfl
theorem flat_one' {s n : Nat} {f : Nat → Nat → Value} (h : ∀ i, i < n → ∀ j, j < s → (f i j).oneCell' = true) (hs : 0 < s) : ∀ u ∈ flat s n f, u.oneCell' = true := fun u hu => by
  unfold flat at hu
  rw [List.mem_map] at hu
  obtain ⟨q, hq, rfl⟩ := hu
  rw [List.mem_range] at hq
  exact h _ (Nat.div_lt_of_lt_mul (by rw [Nat.mul_comm]; exact hq)) _ (Nat.mod_lt _ hs)
theorem ownsRow_form {w : World} {base ty s n : Nat} {v : Value} {xs : List Value} (h : w.ownsRow base ty s v n xs) : ∃ A c, v = .slice A n c := by
  rcases h.2 with ⟨h1, h2⟩ | ⟨g, cap, cur, h1, _⟩
  · exact ⟨none, 0, by rw [h1, h2]⟩
  · exact ⟨_, _, h1⟩
theorem owns_keep {w w' : World} {base n ty nf : Nat} {v : Value} {xs : List Value} (h : w.ownsRow base ty nf v n xs) (hk : ∀ g, base ≤ g → g < w.heap.size → w'.heap[g]? = w.heap[g]?) : w'.ownsRow base ty nf v n xs := by
  refine ⟨h.1, ?_⟩
  rcases h.2 with hn | ⟨g', cap, cur, h1, hbs, hgg, rest⟩
  · exact .inl hn
  · exact .inr ⟨g', cap, cur, h1, hbs, by rw [hk g' hbs (Array.getElem?_eq_some_iff.1 hgg).1]; exact hgg, rest⟩
/-- How far the list is made. -/
structure AL (w wr : World) (lo b : Nat) (l : Lg) (v0 v : Value) (us : List Bat) (HH : Nat → Value) : Prop where
  own : wr.ownsRow (w.heap.size + 1) 48 7 v us.length (flat 7 us.length (batsCells us HH))
  recs : ∀ i, i < us.length → RecsAt w lo b (HH i) (us.getD i default).recs
  bel : Below w.heap.size w wr
  par : wr.heap[w.heap.size]? = some (.cells (logArr l v0) 31 (0, 0))
  size : w.heap.size + 1 ≤ wr.heap.size
theorem AL.push {w wr w9 : World} {lo b : Nat} {l : Lg} {v0 : Value} {A1 A9 : Option Addr} {c1 c9 : Nat} {us bs : List Bat} {K H2 : Nat → Value} (h : AL w wr lo b l v0 (.slice A1 us.length c1) us K) (hh : ∀ i, i < bs.length → RecsAt w lo b (H2 i) (bs.getD i default).recs)
    (hown : w9.ownsRow (w.heap.size + 1) 48 7 (.slice A9 (us.length + bs.length) c9) (us.length + bs.length) (flat 7 (us ++ bs).length (batsCells (us ++ bs) (fun i => if i < us.length then K i else H2 (i - us.length))))) (gr : wr.grownBy w9 (Value.slice A1 us.length c1).ownBlock) :
    AL w w9 lo b l v0 (.slice A9 (us ++ bs).length c9) (us ++ bs) (fun i => if i < us.length then K i else H2 (i - us.length)) := by
  have hz := h.size
  refine ⟨by rw [List.length_append] at hown ⊢; exact hown, fun i hi => ?_, h.bel.grown gr (by omega) (fun k hk => by have := World.ownsRow.lt h.own k hk; omega), (gr.block w.heap.size (by omega) (fun e => by have := World.ownsRow.lt h.own _ e.symm; omega)).trans h.par, Nat.le_trans hz gr.size⟩
  by_cases hlt : i < us.length
  · rw [if_pos hlt, getD_left hlt]
    exact h.recs i hlt
  · rw [if_neg hlt, getD_right (Nat.le_of_not_lt hlt)]
    exact hh _ (by rw [List.length_append] at hi; omega)
set_option maxHeartbeats 1600000 in
theorem l3All_core (l : Lg) (A : Option Addr) (c : Nat) (w : World) (lo b : Nat) (hb : b ≤ w.heap.size) (hl : l.segs.length ≤ 1048576) (hT : (flatB l.segs).length ≤ 1048576) (hv : SegsAt w lo b (.slice A l.segs.length c) l.segs) :
    Calls Try.prog 18 #[logVal l (.slice A l.segs.length c)] w fun e w' => ∃ v, e = .returned v ∧ (∃ H, Row w' (w.heap.size + 1) w'.heap.size 7 v (flatB l.segs).length (batsCells (flatB l.segs) H) ∧ ∀ i, i < (flatB l.segs).length → RecsAt w' lo b (H i) ((flatB l.segs).getD i default).recs) ∧ Below w.heap.size w w' := by
  obtain ⟨i0, hi, hz0, hz1, hz2⟩ := info_parts infoBa
  obtain ⟨H, ⟨_, A', c', hsl, hrow⟩, hh⟩ := hv
  simp only [Value.slice.injEq] at hsl
  obtain ⟨rfl, _, rfl⟩ := hsl
  have HROW := Seg.hid hrow; have HH := Seg.hid hh
  clear hrow hh
  unfold logVal
  go_enter Try.func18, Try.ntmps18
  go_wp2_with fail
  have C0 : Hid (AL w ((w.alloc (.cells (logArr l (.slice A l.segs.length c)) 31 (0, 0))).alloc (.cells #[] 48 (0, 0))) lo b l (.slice A l.segs.length c) (.slice (some ⟨w.heap.size + 1, 0, none⟩) 0 0) [] (fun _ => default)) := by
    refine ⟨?_, fun i hi => absurd hi (by simp), below2 w _ _, (heap_alloc_old _ _ (by rw [hsz]; omega)).trans (heap_alloc_new _ _), by rw [hsz, hsz]; omega⟩
    have := World.ownsRow_lit (base := w.heap.size + 1) (e := 48) (size := 7) (w.alloc (.cells (logArr l (.slice A l.segs.length c)) 31 (0, 0))) #[] 0 (by rw [hsz]; exact Nat.le_refl _) (Nat.zero_le _) rfl
    rw [hsz] at this
    simpa [flat] using this
  go_loopw [3, 4] (fun v i wr => ∃ (j : Nat) (us : List Bat) (A1 : Option Addr) (c1 : Nat) (K : Nat → Value), j ≤ l.segs.length ∧ i = .int .i64 j ∧ v = .slice A1 us.length c1 ∧ Hid (us = flatB (l.segs.take j) ∧ AL w wr lo b l (.slice A l.segs.length c) (.slice A1 us.length c1) us K)) (fun _ i _ => l.segs.length - (intOf i).toNat)
  case atStart => exact ⟨0, [], _, _, _, Nat.zero_le _, rfl, rfl, rfl, C0.out⟩
  case round =>
    clear C0
    obtain ⟨j, us, A1, c1, K, hj, rfl, rfl, HW⟩ := hrel
    have p3 : wr.cell? ⟨w.heap.size, 3, none⟩ = some (.slice A l.segs.length c) := cell_of_row wr w.heap.size 3 _ _ (0, 0) HW.out.2.par
    by_cases hlt : j < l.segs.length
    · have h0 : (0 : Int) ≤ (j : Int) := by omega
      have h1 : (j : Int) < (l.segs.length : Int) := by omega
      obtain ⟨g, o, rfl, hg, hc, hcell, _⟩ := HROW.out.resolve_left (by omega)
      have hgw : g < w.heap.size := by omega
      obtain ⟨e0, e1⟩ := Segs.six (fun i hi q hq => by rw [HW.out.2.bel.cell (p := ⟨g, o + i * 2 + q, none⟩) hgw]; exact hcell i hi q hq) j hlt
      have WC := Seg.hid HW.out.2
      have hz := WC.out.size
      have UN : Hid (us ++ (l.segs.getD j default).bats = flatB (l.segs.take (j + 1))) := by show _ = _; rw [HW.out.1]; exact (flatB_take hlt).symm
      have hul : us.length + (l.segs.getD j default).bats.length ≤ 1048576 := by
        have e : (us ++ (l.segs.getD j default).bats).length = (flatB (l.segs.take (j + 1))).length := by rw [UN.out]
        have e2 : (flatB l.segs).length = (flatB (l.segs.take (j + 1))).length + (flatB (l.segs.drop (j + 1))).length := by rw [← List.length_append, ← flatB_app, List.take_append_drop]
        rw [List.length_append] at e
        omega
      obtain ⟨H2, hr2, hh2⟩ := HH.out j hlt
      obtain ⟨_, Ah, ch, hHj, _⟩ := id hr2
      have R2 := Seg.hid hr2; have HH2 := Seg.hid hh2
      rw [hHj] at e1 R2
      clear hcell HW hr2 hh2 hHj
      generalize l.segs.getD j default = tj at *
      go_wp2_with (at_builtin; (refine wpList_append_all _ rfl (.tmp 13) (.tmp 19) 44 rfl (w.heap.size + 1) 48 i0 _ 7 72 Try.underlying44 hi hz0 hz1 hz2 rfl (by decide) (.slice A1 us.length c1) us.length _ rfl WC.out.own Ah tj.bats.length ch (flat 7 tj.bats.length (batsCells tj.bats H2)) rfl (flat_len _ _ _) (flat_news (by decide) (Row.below R2.out (WC.out.bel.mono hb))) (flat_one' (bats_one' _ _ HH2.out) (by omega)) (by unfold maxLen; omega) (by omega) (by omega) ?_; intro v9 w9 hown9 gr9 hat9; obtain ⟨A9, c9, rfl⟩ := ownsRow_form hown9; rw [bats_flat_app] at hown9; have D9 := Seg.hid (AL.push (bs := tj.bats) WC.out HH2.out hown9 gr9); clear hown9 gr9 hat9))
      go_roundw
      case rel => exact ⟨j + 1, us ++ tj.bats, A9, c9, _, by omega, by go_num, by rw [List.length_append], UN.out, D9.out⟩
      case measure => simp [intOf]; omega
    · have UE : Hid (us = flatB l.segs) := by show _ = _; rw [HW.out.1, List.take_of_length_le (by omega)]
      have BA : Hid (∃ H, Row wr (w.heap.size + 1) wr.heap.size 7 (.slice A1 us.length c1) us.length (batsCells us H) ∧ ∀ i, i < us.length → RecsAt wr lo b (H i) (us.getD i default).recs) := by
        have hlen : us.length ≤ 9223372036854775807 := by rw [UE.out]; omega
        exact ⟨K, row_of_own (by omega) HW.out.2.own hlen, fun i hi => (HW.out.2.recs i hi).below (HW.out.2.bel.mono hb)⟩
      have BL := Seg.hid HW.out.2.bel
      have : j = l.segs.length := by omega
      clear HW
      subst this
      go_wp2_with fail
      go_ret
      exact ⟨_, rfl, by rw [← UE.out]; exact BA.out, BL.out⟩
theorem l3All_own (v : Value) (l : Lg) (w : World) (lo b : Nat) (hv : LogAt w lo b v l) (hb : b ≤ w.heap.size) (hl : l.segs.length ≤ 1048576) (hT : (flatB l.segs).length ≤ 1048576) :
    Calls Try.prog 18 #[v] w fun e w' => ∃ v, e = .returned v ∧ (∃ H, Row w' (w.heap.size + 1) w'.heap.size 7 v (flatB l.segs).length (batsCells (flatB l.segs) H) ∧ ∀ i, i < (flatB l.segs).length → RecsAt w' lo b (H i) ((flatB l.segs).getD i default).recs) ∧ Below w.heap.size w w' := by
  obtain ⟨sv, rfl, hs⟩ := hv
  obtain ⟨_, ⟨_, A, c, rfl, _⟩, _⟩ := id hs
  exact l3All_core l A c w lo b hb hl hT hs
theorem l3All_any (v : Value) (l : Lg) (w : World) (lo b : Nat) (hv : LogAt w lo b v l) (hb : b ≤ w.heap.size) (hl : l.segs.length ≤ 1048576) (hT : (flatB l.segs).length ≤ 1048576) :
    Calls Try.prog 18 #[v] w fun e w' => ∃ v, e = .returned v ∧ BatsAt w' 0 w'.heap.size v (flatB l.segs) ∧ Below w.heap.size w w' :=
  (l3All_own v l w lo b hv hb hl hT).mono fun e w' ⟨v, e1, ⟨H, h1, h2⟩, h3⟩ => ⟨v, e1, ⟨H, h1.mono (Nat.zero_le _) (Nat.le_refl _), fun i hi => (h2 i hi).mono (Nat.zero_le _) (by have := h3.size; omega)⟩, h3⟩
end Go.Proofs.Ytdnfnjlnfmafkaa.Ft
namespace Go.Proofs.Ytdnfnjlnfmafkaa.BOk
set_option maxRecDepth 8000
open Go.RowKit
open Recs
set_option linter.unusedVariables false

def last (t : Bat) : Int := if batOk t = true then t.base + t.recs.length - 1 else -1
theorem okNum {t : Bat} (h : batOk t = true) : 0 ≤ t.base ∧ t.base ≤ 1000000000 ∧ 1 ≤ (t.recs.length : Int) ∧ (t.recs.length : Int) ≤ 40 := by
  simp only [batOk, okB1, okB3, inR, Bool.and_eq_true, decide_eq_true_eq] at h
  omega

set_option maxHeartbeats 400000 in
theorem specLast_any (v : Value) (t : Bat) (w : World) (lo b : Nat) (hv : BatAt w lo b v t) (hb : b ≤ w.heap.size) :
    Calls Try.prog 34 #[v] w fun e w' => e = .returned (.int .i64 (last t)) ∧ Below w.heap.size w w' := by
  have HV := Seg.hid hv
  obtain ⟨rv, rfl, H, ⟨hn, A, c, rfl, hx1⟩, hx2⟩ := hv
  clear hx1 hx2
  unfold batVal at HV ⊢
  unfold last
  go_enter Try.func34, Try.ntmps34
  go_wp2_with fail
  refine (spec_any _ t (w.alloc _) lo b (HV.out.below ((below1 w _).mono hb)) (by rw [hsz]; omega)).mono ?_
  rintro e w1 ⟨rfl, b1⟩
  have B1 := Seg.hid (chain (below1 w _) b1)
  have T1 : w1.heap[w.heap.size]? = some (.cells (BatW.batArr t (.slice A t.recs.length c)) 48 (0, 0)) := (b1.block w.heap.size (by rw [hsz]; omega)).trans (heap_alloc_new _ _)
  have c0 : w1.cell? ⟨w.heap.size, 0, none⟩ = some (.int .i64 t.base) := cell_of_row w1 _ 0 _ _ (0, 0) T1
  have c6 : w1.cell? ⟨w.heap.size, 6, none⟩ = some (.slice A t.recs.length c) := cell_of_row w1 _ 6 _ _ (0, 0) T1
  clear b1 T1
  cases h1 : batOk t with
  | false =>
    have HO : Hid (batOk t = false) := h1
    go_wp2
    all_goals
      go_ret
      exact ⟨rfl, B1.out⟩
  | true =>
    obtain ⟨n1, n2, n3, n4⟩ := okNum h1
    go_wp2
    all_goals
      go_ret
      exact ⟨rfl, B1.out⟩

end Go.Proofs.Ytdnfnjlnfmafkaa.BOk
namespace Go.Proofs.Ytdnfnjlnfmafkaa.LgS
set_option maxRecDepth 8000
open Go.RowKit
open LgP (inR many logOk)
open InB (l1In_b)
open Bats SegW Segs LogW
open Recs (hsz Row below1 below2 BatAt RecsAt batVal Bat chain)
set_option linter.unusedVariables false
/-- What the model asks ahead of the segments. -/
def ahead (l : Lg) : Bool := decide (l.segs.length ≤ 60) && (inR l.roll 1 20000 && (inR l.next 0 1000000000 && inR l.start 0 l.next))
set_option maxHeartbeats 800000 in
theorem spec_core (l : Lg) (g o c : Nat) (H : Nat → Value) (w : World) (lo b : Nat) (hb : b ≤ w.heap.size) (hf : FewL l) (hw : ∀ i, i < l.segs.length → -9223372036854775808 ≤ (l.segs.getD i default).base ∧ (l.segs.getD i default).base ≤ 9223372036854775807) (h0 : l.segs.length ≤ 60) (h1 : inR l.roll 1 20000 = true) (h2 : inR l.next 0 1000000000 = true) (h3 : inR l.start 0 l.next = true) (hc : l.segs.length ≤ c) (hg : g < w.heap.size)
    (hh : ∀ i, i < l.segs.length → BatsAt w lo b (H i) (l.segs.getD i default).bats) (ha : ∀ i, i < l.segs.length → ∀ j, j < 2 → w.cell? ⟨g, o + i * 2 + j, none⟩ = some (segsCells l.segs H i j)) :
    Calls Try.prog 14 #[logVal l (.slice (some ⟨g, o, none⟩) l.segs.length c)] w fun e w' => e = .returned (.bool (LgP.stands l.next (LgP.segs 0 0 l.segs) && decide (many l.segs ≤ 400))) ∧ Below w.heap.size w w' := by
  have H1 := Seg.hid h1
  have H2 := Seg.hid h2
  have H3 := Seg.hid h3
  have HH := Seg.hid hh
  have HA := Seg.hid ha
  clear h1 h2 h3 hh ha
  unfold logVal
  go_enter Try.func14, Try.ntmps14
  go_wp2_with fail
  refine (l1In_b l.roll 1 20000 true H1.out _).mono ?_
  rintro _ _ ⟨rfl, rfl⟩
  go_wp2_with fail
  refine (l1In_b l.next 0 1000000000 true H2.out _).mono ?_
  rintro _ _ ⟨rfl, rfl⟩
  go_wp2_with fail
  refine (l1In_b l.start 0 l.next true H3.out _).mono ?_
  rintro _ _ ⟨rfl, rfl⟩
  go_wp2_with fail
  obtain ⟨w1, hw1⟩ : ∃ w1, w1 = w.alloc (.cells #[.int .i64 l.start, .int .i64 l.next, .int .i64 l.roll, .slice (some ⟨g, o, none⟩) l.segs.length c] 31) := ⟨_, rfl⟩
  have B1 : Hid (Below w.heap.size w w1) := by rw [hw1]; exact below1 w _
  have hs1 : w1.heap.size = w.heap.size + 1 := by rw [hw1]; exact hsz _ _
  have LW : Hid (∀ wr, Below w1.heap.size w1 wr → wr.heap[w.heap.size]? = some (.cells (logArr l (.slice (some ⟨g, o, none⟩) l.segs.length c)) 31 (0, 0))) := fun wr h => (h.block w.heap.size (by omega)).trans (by rw [hw1]; exact heap_alloc_new _ _)
  rw [← hw1]
  clear hw1
  have BW := Seg.hid (fun (wr : World) (h : Below w1.heap.size w1 wr) => B1.out.trans (h.mono B1.out.size))
  have hf1 := hf.1.1
  go_loopw [3, 4, 5, 6] (fun bh ep mn i wr => ∃ (k q : Nat) (f e : Int), k ≤ l.segs.length ∧ bh = .int .i64 (f - 1) ∧ ep = .int .i64 e ∧ mn = .int .i64 q ∧ i = .int .i64 k ∧ 0 ≤ f ∧ q ≤ k * 1048576 ∧ Hid (q = many (l.segs.take k)) ∧ Hid (LgP.segs 0 0 l.segs = LgP.segs f e (l.segs.drop k) ∧ Below w1.heap.size w1 wr)) (fun _ _ _ i _ => l.segs.length - (intOf i).toNat)
  case atStart => exact ⟨0, 0, 0, 0, Nat.zero_le _, rfl, rfl, rfl, rfl, by omega, by omega, rfl, rfl, Below.refl _ _⟩
  case round =>
    obtain ⟨k, q, f, e, hk, rfl, rfl, rfl, rfl, hf0, hq2, HM, HR⟩ := hrel
    have L1 := LW.out wr HR.out.2
    have d3 : wr.cell? ⟨w.heap.size, 3, none⟩ = some (.slice (some ⟨g, o, none⟩) l.segs.length c) := cell_of_row wr _ 3 _ _ (0, 0) L1
    have d1 : wr.cell? ⟨w.heap.size, 1, none⟩ = some (.int .i64 l.next) := cell_of_row wr _ 1 _ _ (0, 0) L1
    by_cases hlt : k < l.segs.length
    · obtain ⟨c0, c1⟩ := six (six' HA.out (BW.out wr HR.out.2) hg) k hlt
      have SB := Seg.hid (HH.out k hlt)
      have FS := Seg.hid (hf.1.2 k hlt)
      have hwk := hw k hlt
      obtain ⟨A1, k1, e1⟩ : ∃ A1 k1, H k = .slice A1 (l.segs.getD k default).bats.length k1 := by
        obtain ⟨_, ⟨_, A', c', e, _⟩, _⟩ := SB.out
        exact ⟨A', c', e⟩
      have R1 := HR.out.1
      rw [LgP.drop_at hlt] at R1
      rw [e1] at c1 SB
      have MD := Seg.hid (LgP.many_drop l.segs k hlt)
      have hdl : (l.segs.drop (k + 1)).length = l.segs.length - (k + 1) := List.length_drop
      have h0' : (0 : Int) ≤ (k : Int) := by omega
      have h1 : (k : Int) < (l.segs.length : Int) := by omega
      have hws : w.heap.size < wr.heap.size := by have := HR.out.2.size; omega
      have RR := Seg.hid R1
      clear R1
      clear hw
      generalize l.segs.getD k default = sk at *
      have d4 : (wr.alloc (.cells #[.int .i64 sk.base, .slice A1 sk.bats.length k1] 73)).cell? ⟨w.heap.size, 3, none⟩ = some (.slice (some ⟨g, o, none⟩) l.segs.length c) := by
        rw [((Below.refl wr.heap.size wr).alloc (Nat.le_refl _) (.cells #[.int .i64 sk.base, .slice A1 sk.bats.length k1] 73)).cell (p := ⟨w.heap.size, 3, none⟩) hws]
        exact d3
      have DM := Seg.hid (HR.out.2.alloc HR.out.2.size (.cells #[.int .i64 sk.base, .slice A1 sk.bats.length k1] 73))
      by_cases b1 : sk.base < f
      · have E : LgP.stands l.next (LgP.segs 0 0 l.segs) = false := by rw [RR.out, LgP.segs, if_neg (by omega)]; rfl
        have EH := Seg.hid E
        clear E
        go_wp2
        go_ret
        exact ⟨Seg.ret_bool (by rw [EH.out]; rfl), BW.out _ DM.out⟩
      · by_cases b2 : sk.bats.length = 0
        · have e2 : sk.bats = [] := List.length_eq_zero_iff.1 b2
          rw [b2] at d4 DM c1
          by_cases b3 : (k : Int) < (l.segs.length : Int) - 1
          · have E : LgP.stands l.next (LgP.segs 0 0 l.segs) = false := by rw [RR.out, LgP.segs, if_neg (by omega)]; rfl
            have EH := Seg.hid E
            clear E
            go_wp2
            go_ret
            exact ⟨Seg.ret_bool (by rw [EH.out]; rfl), BW.out _ DM.out⟩
          · have E : LgP.segs 0 0 l.segs = LgP.segs sk.base e (l.segs.drop (k + 1)) := by
              rw [RR.out, LgP.segs, if_pos ⟨by omega, by omega⟩, e2]
              rfl
            have EE := Seg.hid E
            clear E
            have hq3 : q ≤ (k + 1) * 1048576 := by rw [Nat.succ_mul]; exact Nat.le_trans hq2 (Nat.le_add_right _ _)
            have MZ : Hid (q = many (l.segs.take (k + 1))) := by
              show q = _
              rw [MD.out, b2, HM.out]
              omega
            go_wp2_with fail
            go_loop [3, 4, 5, 8] (fun bh ep mn j => bh = .int .i64 (f - 1) ∧ ep = .int .i64 e ∧ mn = .int .i64 q ∧ j = .int .i64 0) (fun _ _ _ _ => 0)
            case atStart => exact ⟨rfl, rfl, rfl, rfl⟩
            case round =>
              obtain ⟨rfl, rfl, rfl, rfl⟩ := hrel
              by_cases b4 : f - 1 < sk.base - 1
              · go_wp2_with fail
                go_roundw
                case rel => exact ⟨k + 1, q, sk.base, e, by omega, rfl, rfl, rfl, by go_num, by omega, hq3, MZ, EE.out, DM.out⟩
                case measure => simp [intOf]; omega
              · go_wp2_with fail
                go_roundw
                case rel => exact ⟨k + 1, q, sk.base, e, by omega, by rw [show sk.base = f by omega], rfl, rfl, by go_num, by omega, hq3, MZ, EE.out, DM.out⟩
                case measure => simp [intOf]; omega
        · obtain ⟨HB2, ⟨_, A2, k2, e2, hx⟩, hx2⟩ := SB.out
          cases e2
          obtain ⟨g2, o2, rfl, hg2, hc2, hcell2, _⟩ := hx.resolve_left b2
          have HX2 := Seg.hid hx2
          have HC2 := Seg.hid hcell2
          have hbl := FS.out.1
          clear hx hx2 hcell2
          have EE : Hid (LgP.segs 0 0 l.segs = match LgP.bats sk.base e sk.bats with | none => none | some (f, e) => LgP.segs f e (l.segs.drop (k + 1))) := by
            show LgP.segs 0 0 l.segs = _
            rw [RR.out, LgP.segs, if_pos ⟨by omega, fun h => absurd h b2⟩]
            cases LgP.bats sk.base e sk.bats <;> rfl
          clear RR
          obtain ⟨wr0, hwr0⟩ : ∃ wr0, wr0 = wr := ⟨_, rfl⟩
          obtain ⟨w3, hw3⟩ : ∃ w3, w3 = wr.alloc (.cells #[.int .i64 sk.base, .slice (some ⟨g2, o2, none⟩) sk.bats.length k1] 73) := ⟨_, rfl⟩
          have D3 : Hid (Below w1.heap.size w1 w3) := by rw [hw3]; exact DM.out
          have hs3 : w3.heap.size = wr.heap.size + 1 := by rw [hw3]; exact hsz _ _
          have SW : Hid (∀ wq, Below w3.heap.size w3 wq → wq.heap[wr0.heap.size]? = some (.cells #[.int .i64 sk.base, .slice (some ⟨g2, o2, none⟩) sk.bats.length k1] 73 (0, 0))) := fun wq h => by rw [hwr0]; exact (h.block _ (by omega)).trans (by rw [hw3]; exact heap_alloc_new _ _)
          have B3 := Seg.hid (fun (wq : World) (h : Below w3.heap.size w3 wq) => D3.out.trans (h.mono D3.out.size))
          go_wp2_with fail
          rw [← hw3]
          clear hw3 DM d4
          rw [← hwr0] at hs3 ⊢
          clear hwr0
          go_loopw [3, 4, 5, 8] (fun bh ep mn j wq => ∃ (m : Nat) (f' e' bv : Int), m ≤ sk.bats.length ∧ bh = .int .i64 bv ∧ ep = .int .i64 e' ∧ mn = .int .i64 ((q + m : Nat) : Int) ∧ j = .int .i64 m ∧ (bv = f' - 1 ∧ sk.base ≤ bv ∨ m = 0 ∧ bv = f - 1 ∧ f' = sk.base) ∧ Hid (LgP.bats sk.base e sk.bats = LgP.bats f' e' (sk.bats.drop m) ∧ Below w3.heap.size w3 wq)) (fun _ _ _ j _ => sk.bats.length - (intOf j).toNat)
          case atStart => exact ⟨0, sk.base, e, f - 1, Nat.zero_le _, rfl, rfl, rfl, rfl, .inr ⟨rfl, rfl, rfl⟩, rfl, Below.refl _ _⟩
          case round =>
            obtain ⟨m, f', e', bv, hm, rfl, rfl, rfl, rfl, hbv, HQ⟩ := hrel
            have S1 := SW.out wr HQ.out.2
            have s0 : wr.cell? ⟨wr0.heap.size, 0, none⟩ = some (.int .i64 sk.base) := cell_of_row wr _ 0 _ _ (0, 0) S1
            have s1 : wr.cell? ⟨wr0.heap.size, 1, none⟩ = some (.slice (some ⟨g2, o2, none⟩) sk.bats.length k1) := cell_of_row wr _ 1 _ _ (0, 0) S1
            have BQ := Seg.hid (BW.out _ (B3.out _ HQ.out.2))
            have hqs := HQ.out.2.size
            by_cases hm2 : m < sk.bats.length
            · obtain ⟨c0, c1, c2, c3, c4, c5, c6⟩ := Bats.six (Bats.six' HC2.out BQ.out (by omega)) m hm2
              have Q1 := HQ.out.1
              rw [LgP.drop_at hm2] at Q1
              have QQ := Seg.hid Q1
              clear Q1
              have RX := Seg.hid (HX2.out m hm2)
              obtain ⟨A3, k3, e3⟩ : ∃ A3 k3, HB2 m = .slice A3 (sk.bats.getD m default).recs.length k3 := by
                obtain ⟨_, ⟨_, A', c', e, _⟩, _⟩ := RX.out
                exact ⟨A', c', e⟩
              rw [e3] at c6 RX
              have h2 : (0 : Int) ≤ (m : Int) := by omega
              have h3 : (m : Int) < (sk.bats.length : Int) := by omega
              generalize sk.bats.getD m default = t at *
              have DQ := Seg.hid (HQ.out.2.alloc HQ.out.2.size (.cells #[.int .i64 t.base, .int .i64 t.epoch, .int .i64 t.producer, .int .i64 t.turn, .int .i64 t.seq, .int .i64 t.flags, .slice A3 t.recs.length k3] 48))
              have RY := Seg.hid (RX.out.below ((BW.out _ (B3.out _ DQ.out)).mono hb))
              have hqb : b ≤ wr.heap.size := by have := BQ.out.size; omega
              go_wp2_with fail
              refine (BOk.spec_any (batVal t (.slice A3 t.recs.length k3)) t _ lo b ⟨_, rfl, RY.out⟩ (by rw [hsz]; omega)).mono ?_
              rintro e5 w5 ⟨rfl, b5⟩
              have s5 := b5.size
              rw [hsz] at s5
              have T5 : w5.heap[wr.heap.size]? = some (.cells (BatW.batArr t (.slice A3 t.recs.length k3)) 48 (0, 0)) := (b5.block _ (by rw [hsz]; omega)).trans (heap_alloc_new _ _)
              have D5 := Seg.hid (DQ.out.trans (b5.mono DQ.out.size))
              have R5 := Seg.hid (RY.out.below (b5.mono (show b ≤ _ by rw [hsz]; omega)))
              have t0 : w5.cell? ⟨wr.heap.size, 0, none⟩ = some (.int .i64 t.base) := cell_of_row w5 _ 0 _ _ (0, 0) T5
              have t1 : w5.cell? ⟨wr.heap.size, 1, none⟩ = some (.int .i64 t.epoch) := cell_of_row w5 _ 1 _ _ (0, 0) T5
              have v0 : w5.cell? ⟨wr0.heap.size, 0, none⟩ = some (.int .i64 sk.base) := cell_of_row w5 _ 0 _ _ (0, 0) (SW.out w5 D5.out)
              have TH := Seg.hid T5
              clear b5 DQ RY T5 c0 c1 c2 c3 c4 c5 c6 s0 s1 S1
              have NO : Hid (¬ (BOk.batOk t = true ∧ f' ≤ t.base ∧ e' ≤ t.epoch) → LgP.stands l.next (LgP.segs 0 0 l.segs) = false) := fun hno => by
                rw [EE.out, QQ.out, LgP.bats, if_neg hno]
                rfl
              cases hok : BOk.batOk t with
              | false =>
                have EH := Seg.hid (NO.out (by rw [hok]; simp))
                go_wp2
                go_ret
                exact ⟨Seg.ret_bool (by rw [EH.out]; rfl), BW.out _ (B3.out _ D5.out)⟩
              | true =>
                by_cases q1 : t.base ≤ bv
                · have EH := Seg.hid (NO.out (by omega))
                  go_wp2
                  go_ret
                  exact ⟨Seg.ret_bool (by rw [EH.out]; rfl), BW.out _ (B3.out _ D5.out)⟩
                by_cases q0 : t.base < sk.base
                · have EH := Seg.hid (NO.out (by omega))
                  go_wp2
                  go_ret
                  exact ⟨Seg.ret_bool (by rw [EH.out]; rfl), BW.out _ (B3.out _ D5.out)⟩
                by_cases q2 : t.epoch < e'
                · have EH := Seg.hid (NO.out (by omega))
                  go_wp2
                  go_ret
                  exact ⟨Seg.ret_bool (by rw [EH.out]; rfl), BW.out _ (B3.out _ D5.out)⟩
                have YE : Hid (LgP.bats sk.base e sk.bats = LgP.bats (t.base + t.recs.length) t.epoch (sk.bats.drop (m + 1))) := by
                  show LgP.bats sk.base e sk.bats = _
                  rw [QQ.out, LgP.bats, if_pos ⟨hok, by omega, by omega⟩]
                have hol := LgP.okLen hok
                have LL : BOk.last t = t.base + t.recs.length - 1 := by unfold BOk.last; rw [if_pos hok]
                clear NO QQ
                go_wp2_with (first | (refine wpList_load_row rfl 48 _ rfl wr.heap.size rfl _ _ _ _ TH.out Try.underlying48 rfl BatW.info40 ?_))
                refine (BOk.specLast_any (batVal t (.slice A3 t.recs.length k3)) t _ lo b ⟨_, rfl, R5.out⟩ (by omega)).mono ?_
                rintro e6 w6 ⟨rfl, b6⟩
                rw [LL]
                have u1 : w6.cell? ⟨wr.heap.size, 1, none⟩ = some (.int .i64 t.epoch) := by rw [b6.cell (p := ⟨wr.heap.size, 1, none⟩) (by show wr.heap.size < _; omega)]; exact t1
                have D6 := Seg.hid (D5.out.trans (b6.mono D5.out.size))
                clear b6 D5 R5 t0 t1 v0 TH LL
                go_wp2_with fail
                go_roundw
                case rel => exact ⟨m + 1, t.base + t.recs.length, t.epoch, t.base + t.recs.length - 1, by omega, rfl, rfl, by go_num, by go_num, .inl ⟨rfl, by omega⟩, YE.out, D6.out⟩
                case measure => simp [intOf]; omega
            · have : m = sk.bats.length := by omega
              subst this
              have hbe : bv = f' - 1 ∧ sk.base ≤ bv := hbv.resolve_right (fun h => b2 h.1)
              have E3 : LgP.segs 0 0 l.segs = LgP.segs f' e' (l.segs.drop (k + 1)) := by
                rw [EE.out, HQ.out.1, List.drop_length]
                rfl
              have E4 := Seg.hid E3
              have MZ : Hid (q + sk.bats.length = many (l.segs.take (k + 1))) := by
                show _ = _
                rw [MD.out, HM.out]
              have D7 := Seg.hid (B3.out _ HQ.out.2)
              clear E3
              go_wp2_with fail
              go_roundw
              case rel => exact ⟨k + 1, q + sk.bats.length, f', e', by omega, by rw [hbe.1], rfl, rfl, by go_num, by omega, by omega, MZ, E4.out, D7.out⟩
              case measure => simp [intOf]; omega
    · have : k = l.segs.length := by omega
      subst this
      have E : LgP.stands l.next (LgP.segs 0 0 l.segs) = decide (f ≤ l.next) := by
        rw [HR.out.1, List.drop_length]
        rfl
      have EH := Seg.hid E
      have HM2 : Hid (q = many l.segs) := by
        have := HM.out
        rw [List.take_length] at this
        exact this
      clear E
      by_cases hfn : f - 1 < l.next
      · go_wp2
        go_ret
        exact ⟨Seg.ret_bool (by rw [EH.out, decide_eq_true (show f ≤ l.next by omega), Bool.true_and]; rw [Bool.eq_iff_iff]; have := HM2.out; simp; omega), BW.out _ HR.out.2⟩
      · go_wp2
        go_ret
        exact ⟨Seg.ret_bool (by rw [EH.out, decide_eq_false (show ¬ f ≤ l.next by omega)]; rfl), BW.out _ HR.out.2⟩
end Go.Proofs.Ytdnfnjlnfmafkaa.LgS
