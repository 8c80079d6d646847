/- NewStore: on plain data; a row of new logs; the model's. -/
import Derived.Test.YtmflkkianeflaaaOSto
import Derived.Test.YtmflkkianeflaaaInB
import Derived.Test.YtmflkkianeflaaaNewL
import Derived.Deep.AppendLies
import Derived.Deep.RegionLaw
import Derived.Deep.Cut
namespace Go.Proofs.Ytmflkkianeflaaa.NsP
set_option maxRecDepth 8000
open Go.RowKit
open Ls Ow
open LogW (Lg)
open Recs (hsz below1 below2 chain)
set_option linter.unusedVariables false
def inR (lo x hi : Int) : Bool := decide (lo ≤ x) && decide (x ≤ hi)
def nlg (roll : Int) : Lg := ⟨0, 0, roll, []⟩
def good (n roll : Int) : Bool := inR 1 n 12 && inR 1 roll 20000
def newS (n roll : Int) : Sto := if good n roll = true then ⟨List.replicate n.toNat (nlg roll), [], 0⟩ else ⟨[], [], 0⟩
/-- The four cells of a new log. -/
def pt (roll : Int) : Array Value := #[.int .i64 0, .int .i64 0, .int .i64 roll, .slice none 0 0]
def pf (roll : Int) (q : Nat) : Value := (pt roll).toList.getD (q % 4) default
def rep (roll : Int) (k : Nat) : List Value := (List.range (k * 4)).map (pf roll)
theorem rep_len (roll : Int) (k : Nat) : (rep roll k).length = k * 4 := by simp [rep]
theorem pf_at (roll : Int) (i q : Nat) (hq : q < 4) : pf roll (i * 4 + q) = (pt roll).toList.getD q default := by
  unfold pf
  rw [show (i * 4 + q) % 4 = q by omega]
theorem rep_succ (roll : Int) (k : Nat) : rep roll (k + 1) = rep roll k ++ (pt roll).toList := by
  apply List.ext_getElem?
  intro j
  by_cases h1 : j < k * 4
  · rw [List.getElem?_append_left (by rw [rep_len]; exact h1)]
    simp [rep, h1, show j < (k + 1) * 4 by omega]
  · rw [List.getElem?_append_right (by rw [rep_len]; omega), rep_len]
    by_cases h2 : j < (k + 1) * 4
    · obtain ⟨q, rfl⟩ : ∃ q, j = k * 4 + q := ⟨j - k * 4, by omega⟩
      have hq : q < 4 := by omega
      rw [Nat.add_sub_cancel_left]
      have : (rep roll (k + 1))[k * 4 + q]? = some (pf roll (k * 4 + q)) := by simp [rep, h2]
      rw [this, pf_at roll k q hq]
      have hl : q < (pt roll).toList.length := hq
      rw [List.getD_eq_getElem?_getD, List.getElem?_eq_getElem hl]; rfl
    · rw [List.getElem?_eq_none (by rw [rep_len]; omega), List.getElem?_eq_none (by show 4 ≤ _; omega)]
theorem eo (w : World) (S : Nat → Prop) (roll : Int) (i : Nat) : EOLg w S (fun q => pf roll (i * 4 + q)) (nlg roll) := by
  refine ⟨⟨?_, ?_, ?_⟩, fun _ _ => False, fun _ _ h => h.elim, fun _ _ _ _ h => h.elim, ?_⟩
  · exact pf_at roll i 0 (by omega)
  · exact pf_at roll i 1 (by omega)
  · exact pf_at roll i 2 (by omega)
  · show SgsOwn _ _ (pf roll (i * 4 + 3)) _; rw [pf_at roll i 3 (by omega)]; exact LOwn.nil _ _ _ _
/-- A row of new logs is a list of the call's own. -/
theorem own_rep {w : World} {base k : Nat} {v : Value} {roll : Int} (S : Nat → Prop) (h : w.ownsRow base 44 4 v k (rep roll k)) (hk : k ≤ 12) (hS : ∀ g, v.ownBlock = some g → S g) : LgsOwn w S v (List.replicate k (nlg roll)) := by
  refine ⟨by simp; omega, ?_⟩
  rcases h.2 with ⟨rfl, rfl⟩ | ⟨g, cap, cur, rfl, hb, hg, hnc, hcm, hcs, htake⟩
  · exact ⟨none, 0, rfl, .inl rfl⟩
  · refine ⟨_, cap, by simp, .inr ⟨g, pf roll, fun _ _ => False, rfl, hS g rfl, fun _ _ _ h => h.elim, ?_⟩⟩
    rw [List.length_replicate]
    refine ⟨⟨h.1, .inr ⟨g, cap, cur, rfl, Nat.le_refl _, hg, hnc, hcm, hcs, htake⟩⟩, by simp, fun i hi => ?_, fun _ _ _ h => h.elim, fun _ _ _ _ _ _ h => h.elim⟩
    have : (List.replicate k (nlg roll)).getD i default = nlg roll := by simp [hi]
    rw [this]
    exact eo w _ roll i
/-- What a store's value is made of. -/
theorem sto_own {w : World} {S : Nat → Prop} {v : Value} {us : List Lg} (h : LgsOwn w S v us) : StoOwn w S (.agg #[v, .slice none 0 0, .int .i64 0]) ⟨us, [], 0⟩ :=
  ⟨fun q => if q = 0 then v else if q = 1 then .slice none 0 0 else .int .i64 0, rfl, rfl, fun i y => i = 0 ∧ S y, fun i y hy => hy.2, fun i j hij y hi hj => hij (hi.1.trans hj.1.symm), h.mono (fun y hy => ⟨rfl, hy⟩), LOwn.nil _ _ _ _⟩
theorem newS_no {n roll : Int} (h : good n roll = false) : newS n roll = ⟨[], [], 0⟩ := by simp [newS, h]
theorem newS_yes {n roll : Int} (h : good n roll = true) : newS n roll = ⟨List.replicate n.toNat (nlg roll), [], 0⟩ := by simp [newS, h]
theorem on3 {v : Value} (h : v.oneCell' = true) : (#[v, .slice none 0 0, .int .i64 0] : Array Value).all (·.oneCell') = true := by
  have h2 : (Value.slice none 0 0).oneCell' = true := rfl
  have h3 : (Value.int .i64 0).oneCell' = true := rfl
  simp [h, h2, h3]
theorem nl_form (roll : Int) : NewL.nl 0 roll = NewL.lv 0 0 (if inR 1 roll 20000 = true then roll else 0) := by
  have e : NewL.inR roll 1 20000 = inR 1 roll 20000 := rfl
  have e0 : NewL.inR 0 0 1000000000 = true := rfl
  unfold NewL.nl
  rw [e, e0]
  cases inR 1 roll 20000 <;> rfl
/-- What the model's loop keeps. -/
structure Sq (w wr : World) (roll : Int) (k : Nat) (v : Value) : Prop where
  own : wr.ownsRow (w.heap.size + 2) 44 4 v k (rep roll k)
  qrow : wr.heap[w.heap.size + 1]? = some (.cells #[v, .slice none 0 0, .int .i64 0] 31 (0, 0))
  rrow : wr.heap[w.heap.size]? = some (.cells #[.slice none 0 0, .slice none 0 0, .int .i64 0] 31 (0, 0))
  bel : Below w.heap.size w wr
theorem Sq.vb {w wr : World} {k : Nat} {roll : Int} {v : Value} (h : Sq w wr roll k v) : ∀ x, v.ownBlock = some x → w.heap.size + 2 ≤ x ∧ x < wr.heap.size := fun x hx => World.ownsRow.lt h.own x hx
theorem Sq.push {w wr w8 w9 : World} {k g cap : Nat} {roll : Int} {v : Value} (h : Sq w wr roll k v) (b8 : Below wr.heap.size wr w8) (hown : w9.ownsRow (w.heap.size + 2) 44 4 (.slice (some ⟨g, 0, none⟩) (k + 1) cap) (k + 1) (rep roll k ++ (pt roll).toList)) (gr : w8.grownBy w9 v.ownBlock) :
    (w9.cell? ⟨w.heap.size + 1, 0, none⟩ = some v ∧ w9.frozen? ⟨w.heap.size + 1, 0, none⟩ = false) ∧ Sq w (w9.setCell ⟨w.heap.size + 1, 0, none⟩ (.slice (some ⟨g, 0, none⟩) (k + 1) cap)) roll (k + 1) (.slice (some ⟨g, 0, none⟩) (k + 1) cap) := by
  have hq : w.heap.size + 1 < wr.heap.size := (Array.getElem?_eq_some_iff.1 h.qrow).1
  have s8 := b8.size
  have keep : ∀ x, x < w.heap.size + 2 → x < wr.heap.size → w9.heap[x]? = wr.heap[x]? := fun x hx hl => by
    rw [gr.block x (by omega) (fun e => by have := h.vb x e.symm; omega), b8.block x hl]
  have k1 := (keep (w.heap.size + 1) (by omega) hq).trans h.qrow
  refine ⟨⟨cell_of_row w9 _ 0 _ _ (0, 0) k1, frozen_of_row w9 _ 0 _ _ k1⟩, ?_, heap_setCell_same w9 _ 0 _ _ _ k1, ?_, ?_⟩
  · rw [rep_succ]
    have := World.ownsRow.lt hown g rfl
    refine ⟨hown.1, ?_⟩
    rcases hown.2 with hn | ⟨g', cap', cur, h', hbs, hgg, rest⟩
    · exact .inl hn
    · exact .inr ⟨g', cap', cur, h', hbs, by rw [heap_setCell_other _ _ _ _ (by show g' ≠ w.heap.size + 1; omega)]; exact hgg, rest⟩
  · rw [heap_setCell_other _ _ _ _ (by show w.heap.size ≠ w.heap.size + 1; omega)]
    exact (keep w.heap.size (by omega) (by omega)).trans h.rrow
  · have s1 := gr.size
    refine Below.setCell (p := ⟨w.heap.size + 1, 0, none⟩) ?_ (by simp) _
    exact ⟨gr.os.trans (b8.os.trans h.bel.os), gr.tape.trans (b8.tape.trans h.bel.tape), gr.output.trans (b8.output.trans h.bel.output), by have := h.bel.size; omega, fun x hx => (keep x (by omega) (by omega)).trans (h.bel.block x hx)⟩
/-- The row that the loop left, as the answer's list. -/
theorem Sq.done {w wr : World} {k : Nat} {roll : Int} {v : Value} (h : Sq w wr roll k v) (hk : k ≤ 12) : StoOwn (wr.setCells w.heap.size 0 (#[v, .slice none 0 0, .int .i64 0] : Array Value).toList) (seg w.heap.size (wr.setCells w.heap.size 0 (#[v, .slice none 0 0, .int .i64 0] : Array Value).toList).heap.size) (.agg #[v, .slice none 0 0, .int .i64 0]) ⟨List.replicate k (nlg roll), [], 0⟩ := by
  refine sto_own (own_rep (base := w.heap.size + 2) _ ?_ hk (fun g hg => ?_))
  · refine ⟨h.own.1, ?_⟩
    rcases h.own.2 with ⟨h1, h2⟩ | ⟨g', cap', cur, h', hbs, hgg, rest⟩
    · exact .inl ⟨h1, h2⟩
    · exact .inr ⟨g', cap', cur, h', hbs, by rw [Cells.heap_setCells_other _ _ (by omega)]; exact hgg, rest⟩
  · have := h.vb g hg
    refine ⟨by omega, ?_⟩
    rw [Cells.size_setCells]; omega
set_option maxHeartbeats 3200000 in
theorem spec_any (n roll : Int) (w : World) : Calls Try.prog 10 #[.int .i64 n, .int .i64 roll] w fun e w' => ∃ v, e = .returned v ∧ StoOwn w' (seg w.heap.size w'.heap.size) v (newS n roll) ∧ Below w.heap.size w w' := by
  obtain ⟨i0, hi, hz0, hz1, hz2⟩ := info_parts infoZLg
  have S0 : Hid (Sq w ((w.alloc (.cells #[.slice none 0 0, .slice none 0 0, .int .i64 0] 31 (0, 0))).alloc (.cells #[.slice none 0 0, .slice none 0 0, .int .i64 0] 31 (0, 0))) roll 0 (.slice none 0 0)) := ⟨World.ownsRow_nil _ _ _ _, at2y _ _ _, at2z _ _ _, below2 _ _ _⟩
  go_enter Try.func10, Try.ntmps10
  go_wp2_with fail
  cases g1 : inR 1 n 12 with
  | false =>
    refine (InB.l1In_b _ _ _ false g1 _).mono ?_
    rintro e wq ⟨rfl, rfl⟩
    have Z := Seg.hid (newS_no (n := n) (roll := roll) (by simp [good, g1]))
    clear g1 hi hz0 hz1 hz2
    have HQ := Seg.hid S0.out
    have H5 := Seg.hid (Cells.there_of HQ.out.rrow)
    have H4 := Seg.hid (Cells.whole (vs := #[.slice none 0 0, .slice none 0 0, .int .i64 0]) HQ.out.rrow rfl)
    have B9 := Seg.hid (Cells.below_setCells (g := w.heap.size) (Nat.le_refl _) (#[.slice none 0 0, .slice none 0 0, .int .i64 0] : Array Value).toList 0 _ _ HQ.out.bel)
    generalize ((w.alloc (.cells #[.slice none 0 0, .slice none 0 0, .int .i64 0] 31 (0, 0))).alloc (.cells #[.slice none 0 0, .slice none 0 0, .int .i64 0] 31 (0, 0))) = wz at *
    go_wp2_with (first | (refine wpList_load_row rfl 31 _ rfl (w.heap.size + 1) rfl _ _ _ _ HQ.out.qrow Try.underlying31 rfl infoSto ?_) | (refine wpList_store_mid rfl 31 _ _ rfl w.heap.size 0 #[.slice none 0 0, .slice none 0 0, .int .i64 0] rfl rfl H5.out infoSto (on3 rfl) ?_))
    exact bodyPost_ret (v := .agg #[.slice none 0 0, .slice none 0 0, .int .i64 0]) (results_cell_row rfl _ _ w.heap.size _ _ _ _ rfl H4.out Try.underlying31 rfl infoSto) rfl ⟨_, rfl, by rw [Z.out]; exact sto_own (LOwn.nil _ _ _ _), B9.out⟩
  | true =>
  refine (InB.l1In_b _ _ _ true g1 _).mono ?_
  rintro e wq ⟨rfl, rfl⟩
  have K1 := Seg.hid g1
  clear g1
  go_wp2_with fail
  cases g2 : inR 1 roll 20000 with
  | false =>
    refine (InB.l1In_b _ _ _ false g2 _).mono ?_
    rintro e wq ⟨rfl, rfl⟩
    have Z := Seg.hid (newS_no (n := n) (roll := roll) (by simp [good, g2]))
    clear g2 hi hz0 hz1 hz2
    have HQ := Seg.hid S0.out
    have H5 := Seg.hid (Cells.there_of HQ.out.rrow)
    have H4 := Seg.hid (Cells.whole (vs := #[.slice none 0 0, .slice none 0 0, .int .i64 0]) HQ.out.rrow rfl)
    have B9 := Seg.hid (Cells.below_setCells (g := w.heap.size) (Nat.le_refl _) (#[.slice none 0 0, .slice none 0 0, .int .i64 0] : Array Value).toList 0 _ _ HQ.out.bel)
    generalize ((w.alloc (.cells #[.slice none 0 0, .slice none 0 0, .int .i64 0] 31 (0, 0))).alloc (.cells #[.slice none 0 0, .slice none 0 0, .int .i64 0] 31 (0, 0))) = wz at *
    go_wp2_with (first | (refine wpList_load_row rfl 31 _ rfl (w.heap.size + 1) rfl _ _ _ _ HQ.out.qrow Try.underlying31 rfl infoSto ?_) | (refine wpList_store_mid rfl 31 _ _ rfl w.heap.size 0 #[.slice none 0 0, .slice none 0 0, .int .i64 0] rfl rfl H5.out infoSto (on3 rfl) ?_))
    exact bodyPost_ret (v := .agg #[.slice none 0 0, .slice none 0 0, .int .i64 0]) (results_cell_row rfl _ _ w.heap.size _ _ _ _ rfl H4.out Try.underlying31 rfl infoSto) rfl ⟨_, rfl, by rw [Z.out]; exact sto_own (LOwn.nil _ _ _ _), B9.out⟩
  | true =>
  refine (InB.l1In_b _ _ _ true g2 _).mono ?_
  rintro e wq ⟨rfl, rfl⟩
  have NL : Hid (NewL.nl 0 roll = .agg #[.int .i64 0, .int .i64 0, .int .i64 roll, .slice none 0 0]) := by show _ = _; rw [nl_form, g2]; rfl
  have Z := Seg.hid (newS_yes (n := n) (roll := roll) (by simp [good, K1.out, g2]))
  obtain ⟨m, rfl⟩ : ∃ m : Nat, n = (m : Int) := ⟨n.toNat, by have := K1.out; simp [inR] at this; omega⟩
  have hm : 1 ≤ m ∧ m ≤ 12 := by have := K1.out; simp [inR] at this; omega
  clear g2 K1
  go_wp2_with fail
  go_loopw [6] (fun i wr => ∃ (k : Nat) (v : Value), k ≤ m ∧ i = .int .i64 k ∧ Sq w wr roll k v) (fun i _ => m - (intOf i).toNat)
  case atStart => exact ⟨0, _, Nat.zero_le _, rfl, S0.out⟩
  case round =>
    clear S0
    obtain ⟨k, v, hk, rfl, HS⟩ := hrel
    have HQ := Seg.hid HS
    clear HS
    by_cases hlt : k < m
    · have h1 : (k : Int) < (m : Int) := by omega
      have d0 : wr.cell? ⟨w.heap.size + 1, 0, none⟩ = some v := cell_of_row wr _ 0 _ _ (0, 0) HQ.out.qrow
      have d0d : wr.drew.cell? ⟨w.heap.size + 1, 0, none⟩ = some v := d0
      have hlw : w.heap.size + 1 < wr.heap.size := (Array.getElem?_eq_some_iff.1 HQ.out.qrow).1
      have OW0 : Hid (∀ w8 o, Below wr.heap.size wr w8 → (w8.alloc o).ownsRow (w.heap.size + 2) 44 4 v k (rep roll k)) := fun w8 o b => Seg.owns_below HQ.out.own (chain b (below1 w8 o))
      go_wp2_with fail
      go_region_law
        ((first | (go_simp; go_at_call 26; refine (NewL.spec_any 0 roll wr.drew).mono ?_; rintro e w8 ⟨rfl, b8'⟩; have b8 : Hid (Below wr.heap.size wr w8) := ⟨b8'.os, b8'.tape, b8'.output, b8'.size, b8'.block⟩; have s8 := b8.out.size; have K8 : w8.cell? ⟨w.heap.size + 1, 0, none⟩ = some v := (b8.out.cell (p := ⟨w.heap.size + 1, 0, none⟩) hlw).trans d0; have hl8 : w.heap.size + 1 < w8.heap.size := (Nat.lt_of_lt_of_le hlw s8); clear b8'; rw [NL.out]) | (refine step_append_lies _ (by rfl) _ _ _ (by rfl) (w.heap.size + 2) 44 i0 _ 4 48 Try.underlying28 hi hz0 hz1 hz2 rfl (by decide) v k (rep roll k) (by rfl) (OW0.out _ _ b8.out) ⟨w8.heap.size, 0, none⟩ 1 1 (pt roll).toList (by rfl) (by rfl) (World.news_of_block (cs := pt roll) (heap_alloc_new w8 _)) (by simp [pt, Value.oneCell']) (by decide) (by unfold maxLen; omega) (by omega) (by rw [hsz]; omega) (w8.heap.size + 1) (hsz w8 _) ?_; intro g9 cap9 w9 hown9 gr9 hat9 hlt9; have D0 := Seg.hid (HQ.out.push (chain b8.out (below1 w8 _)) hown9 gr9); have q6 := D0.out.1.1; have p6 := D0.out.1.2; clear hown9 gr9 hat9 hlt9)))
      all_goals
        have S1 := Seg.hid D0.out.2
        clear D0 q6 p6 d0 d0d OW0 hlw b8 s8 K8 hl8
        go_wp2
        go_roundw
        case rel => exact ⟨k + 1, _, by omega, by go_num, S1.out⟩
        case measure => simp [intOf]; omega
    · have hk' : k = m := by omega
      subst hk'
      have PO : Hid (StoOwn (wr.setCells w.heap.size 0 (#[v, .slice none 0 0, .int .i64 0] : Array Value).toList) (seg w.heap.size (wr.setCells w.heap.size 0 (#[v, .slice none 0 0, .int .i64 0] : Array Value).toList).heap.size) (.agg #[v, .slice none 0 0, .int .i64 0]) (newS k roll)) := by
        show StoOwn _ _ _ _
        rw [Z.out]
        have := HQ.out.done hm.2
        simpa using this
      have H5 := Seg.hid (Cells.there_of HQ.out.rrow)
      have H4 := Seg.hid (Cells.whole (vs := #[v, .slice none 0 0, .int .i64 0]) HQ.out.rrow rfl)
      have B9 := Seg.hid (Cells.below_setCells (g := w.heap.size) (Nat.le_refl _) (#[v, .slice none 0 0, .int .i64 0] : Array Value).toList 0 _ _ HQ.out.bel)
      have hov : v.oneCell' = true := by
        rcases HQ.out.own.2 with ⟨rfl, _⟩ | ⟨g', cap', cur, rfl, _⟩ <;> rfl
      have ON := Seg.hid (on3 hov)
      go_wp2_with (first | (refine wpList_load_row rfl 31 _ rfl (w.heap.size + 1) rfl _ _ _ _ HQ.out.qrow Try.underlying31 rfl infoSto ?_) | (refine wpList_store_mid rfl 31 _ _ rfl w.heap.size 0 #[v, .slice none 0 0, .int .i64 0] rfl rfl H5.out infoSto ON.out ?_))
      exact bodyPost_ret (v := .agg #[v, .slice none 0 0, .int .i64 0]) (results_cell_row rfl _ _ w.heap.size _ _ _ _ rfl H4.out Try.underlying31 rfl infoSto) rfl ⟨_, rfl, PO.out, B9.out⟩
end Go.Proofs.Ytmflkkianeflaaa.NsP
