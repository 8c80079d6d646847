/- NewQuorum: on plain data; a row of new voters; the model's. -/
import Derived.Test.YtdkfhjcockkleaaOQrm
import Derived.Test.YtdkfhjcockkleaaQkP
import Derived.Test.YtdkfhjcockkleaaInB
import Derived.Deep.AppendLies
namespace Go.Proofs.Ytdkfhjcockkleaa.NqP
set_option maxRecDepth 8000
open Go.RowKit
open Ls Ow QkP
open Recs (hsz below1 below2 chain)
set_option linter.unusedVariables false
def nv : Vtr := ⟨0, -1, 0, [], [], [], [], 0⟩
def newQ (n : Int) : Qrm := if inR 1 n 5 = true then ⟨List.replicate n.toNat nv, []⟩ else ⟨[], []⟩
/-- The eight cells of a new voter. -/
def pt : Array Value := #[.int .i64 0, .int .i64 (-1), .int .i64 0, .slice none 0 0, .slice none 0 0, .slice none 0 0, .slice none 0 0, .int .i64 0]
def pf (q : Nat) : Value := pt.toList.getD (q % 8) default
def rep (k : Nat) : List Value := (List.range (k * 8)).map pf
theorem rep_len (k : Nat) : (rep k).length = k * 8 := by simp [rep]
theorem pf_at (i q : Nat) (hq : q < 8) : pf (i * 8 + q) = pt.toList.getD q default := by
  unfold pf
  rw [show (i * 8 + q) % 8 = q by omega]
theorem rep_succ (k : Nat) : rep (k + 1) = rep k ++ pt.toList := by
  apply List.ext_getElem?
  intro j
  by_cases h1 : j < k * 8
  · rw [List.getElem?_append_left (by rw [rep_len]; exact h1)]
    simp [rep, h1, show j < (k + 1) * 8 by omega]
  · rw [List.getElem?_append_right (by rw [rep_len]; omega), rep_len]
    by_cases h2 : j < (k + 1) * 8
    · obtain ⟨q, rfl⟩ : ∃ q, j = k * 8 + q := ⟨j - k * 8, by omega⟩
      have hq : q < 8 := by omega
      rw [Nat.add_sub_cancel_left]
      have : (rep (k + 1))[k * 8 + q]? = some (pf (k * 8 + q)) := by simp [rep, h2]
      rw [this, pf_at k q hq]
      have hl : q < pt.toList.length := hq
      rw [List.getD_eq_getElem?_getD, List.getElem?_eq_getElem hl]; rfl
    · rw [List.getElem?_eq_none (by rw [rep_len]; omega), List.getElem?_eq_none (by show 8 ≤ _; omega)]
theorem eo (w : World) (S : Nat → Prop) (i : Nat) : EOVtr w S (fun q => pf (i * 8 + q)) nv := by
  refine ⟨⟨?_, ?_, ?_, ?_⟩, fun _ _ => False, fun _ _ h => h.elim, fun _ _ _ _ h => h.elim, ?_, ?_, ?_, ?_⟩
  · exact pf_at i 0 (by omega)
  · exact pf_at i 1 (by omega)
  · exact pf_at i 2 (by omega)
  · exact pf_at i 7 (by omega)
  · show IntsOwn _ _ (pf (i * 8 + 3)) _; rw [pf_at i 3 (by omega)]; exact LOwn.nil _ _ _ _
  · show CmdsOwn _ _ (pf (i * 8 + 4)) _; rw [pf_at i 4 (by omega)]; exact LOwn.nil _ _ _ _
  · show IntsOwn _ _ (pf (i * 8 + 5)) _; rw [pf_at i 5 (by omega)]; exact LOwn.nil _ _ _ _
  · show IntsOwn _ _ (pf (i * 8 + 6)) _; rw [pf_at i 6 (by omega)]; exact LOwn.nil _ _ _ _
/-- A row of new voters is a list of the call's own. -/
theorem own_rep {w : World} {base k : Nat} {v : Value} (S : Nat → Prop) (h : w.ownsRow base 45 8 v k (rep k)) (hk : k ≤ 5) (hS : ∀ g, v.ownBlock = some g → S g) : VtrsOwn w S v (List.replicate k nv) := by
  refine ⟨by simp; omega, ?_⟩
  rcases h.2 with ⟨rfl, rfl⟩ | ⟨g, cap, cur, rfl, hb, hg, hnc, hcm, hcs, htake⟩
  · exact ⟨none, 0, rfl, .inl rfl⟩
  · refine ⟨_, cap, by simp, .inr ⟨g, pf, fun _ _ => False, rfl, hS g rfl, fun _ _ _ h => h.elim, ?_⟩⟩
    rw [List.length_replicate]
    refine ⟨⟨h.1, .inr ⟨g, cap, cur, rfl, Nat.le_refl _, hg, hnc, hcm, hcs, htake⟩⟩, by simp, fun i hi => ?_, fun _ _ _ h => h.elim, fun _ _ _ _ _ _ h => h.elim⟩
    have : (List.replicate k nv).getD i default = nv := by simp [hi]
    rw [this]
    exact eo w _ i
/-- What a quorum's value is made of. -/
theorem qrm_own {w : World} {S : Nat → Prop} {v : Value} {us : List Vtr} (h : VtrsOwn w S v us) : QrmOwn w S (.agg #[v, .slice none 0 0]) ⟨us, []⟩ :=
  ⟨fun q => if q = 0 then v else .slice none 0 0, rfl, trivial, fun i y => i = 0 ∧ S y, fun i y hy => hy.2, fun i j hij y hi hj => hij (hi.1.trans hj.1.symm), h.mono (fun y hy => ⟨rfl, hy⟩), LOwn.nil _ _ _ _⟩
theorem newQ_no {n : Int} (h : inR 1 n 5 = false) : newQ n = ⟨[], []⟩ := by simp [newQ, h]
theorem newQ_yes {n : Int} (h : inR 1 n 5 = true) : newQ n = ⟨List.replicate n.toNat nv, []⟩ := by simp [newQ, h]
theorem on2 {v : Value} (h : v.oneCell' = true) : (#[v, .slice none 0 0] : Array Value).all (·.oneCell') = true := by
  have h2 : (Value.slice none 0 0).oneCell' = true := rfl
  simp [h, h2]
/-- What the model's loop keeps. -/
structure Sq (w wr : World) (k : Nat) (v : Value) : Prop where
  own : wr.ownsRow (w.heap.size + 2) 45 8 v k (rep k)
  qrow : wr.heap[w.heap.size + 1]? = some (.cells #[v, .slice none 0 0] 31 (0, 0))
  rrow : wr.heap[w.heap.size]? = some (.cells #[.slice none 0 0, .slice none 0 0] 31 (0, 0))
  bel : Below w.heap.size w wr
theorem Sq.vb {w wr : World} {k : Nat} {v : Value} (h : Sq w wr k v) : ∀ x, v.ownBlock = some x → w.heap.size + 2 ≤ x ∧ x < wr.heap.size := fun x hx => World.ownsRow.lt h.own x hx
theorem Sq.push {w wr w9 : World} {k g cap : Nat} {v : Value} {o : Obj} (h : Sq w wr k v) (hown : w9.ownsRow (w.heap.size + 2) 45 8 (.slice (some ⟨g, 0, none⟩) (k + 1) cap) (k + 1) (rep k ++ pt.toList)) (gr : (wr.alloc o).grownBy w9 v.ownBlock) :
    w9.heap[w.heap.size + 1]? = some (.cells #[v, .slice none 0 0] 31 (0, 0)) ∧ Sq w (w9.setCell ⟨w.heap.size + 1, 0, none⟩ (.slice (some ⟨g, 0, none⟩) (k + 1) cap)) (k + 1) (.slice (some ⟨g, 0, none⟩) (k + 1) cap) := by
  have hq : w.heap.size + 1 < wr.heap.size := (Array.getElem?_eq_some_iff.1 h.qrow).1
  have keep : ∀ x, x < w.heap.size + 2 → x < wr.heap.size → w9.heap[x]? = wr.heap[x]? := fun x hx hl => by
    rw [gr.block x (by rw [hsz]; omega) (fun e => by have := h.vb x e.symm; omega), (below1 wr o).block x hl]
  have k1 := (keep (w.heap.size + 1) (by omega) hq).trans h.qrow
  refine ⟨k1, ?_, heap_setCell_same w9 _ 0 _ _ _ k1, ?_, ?_⟩
  · rw [rep_succ]
    have := World.ownsRow.lt hown g rfl
    refine ⟨hown.1, ?_⟩
    rcases hown.2 with hn | ⟨g', cap', cur, h', hbs, hgg, rest⟩
    · exact .inl hn
    · exact .inr ⟨g', cap', cur, h', hbs, by rw [heap_setCell_other _ _ _ _ (by show g' ≠ w.heap.size + 1; omega)]; exact hgg, rest⟩
  · rw [heap_setCell_other _ _ _ _ (by show w.heap.size ≠ w.heap.size + 1; omega)]
    exact (keep w.heap.size (by omega) (by omega)).trans h.rrow
  · have s1 := gr.size
    rw [hsz] at s1
    refine Below.setCell (p := ⟨w.heap.size + 1, 0, none⟩) ?_ (by simp) _
    exact ⟨gr.os.trans h.bel.os, gr.tape.trans h.bel.tape, gr.output.trans h.bel.output, by have := h.bel.size; omega, fun x hx => (keep x (by omega) (by omega)).trans (h.bel.block x hx)⟩
set_option maxHeartbeats 1600000 in
theorem spec_any (n : Int) (w : World) : Calls Try.prog 11 #[.int .i64 n] w fun e w' => ∃ v, e = .returned v ∧ QrmOwn w' (seg w.heap.size w'.heap.size) v (newQ n) ∧ Below w.heap.size w w' := by
  obtain ⟨i0, hi, hz0, hz1, hz2⟩ := info_parts infoZVtr
  go_enter Try.func11, Try.ntmps11
  go_wp2_with fail
  cases hb : inR 1 n 5 with
  | false =>
    refine (InB.l1In_b _ _ _ false hb _).mono ?_
    rintro e w1 ⟨rfl, rfl⟩
    have Z := Seg.hid (newQ_no hb)
    clear hb hi hz0 hz1 hz2
    go_wp2
    exact bodyPost_ret (v := .agg #[.slice none 0 0, .slice none 0 0]) (results_cell_row rfl _ _ w.heap.size _ _ _ _ rfl (at2z w _ _) Try.underlying31 rfl infoQrm) rfl ⟨_, rfl, by rw [Z.out]; exact qrm_own (LOwn.nil _ _ _ _), below2 _ _ _⟩
  | true =>
  refine (InB.l1In_b _ _ _ true hb _).mono ?_
  rintro e w1 ⟨rfl, rfl⟩
  have Z := Seg.hid (newQ_yes hb)
  obtain ⟨m, rfl⟩ : ∃ m : Nat, n = (m : Int) := ⟨n.toNat, by simp [inR] at hb; omega⟩
  have hm : 1 ≤ m ∧ m ≤ 5 := by simp [inR] at hb; omega
  clear hb
  go_wp2_with fail
  have S0 : Hid (Sq w ((w.alloc (.cells #[.slice none 0 0, .slice none 0 0] 31 (0, 0))).alloc (.cells #[.slice none 0 0, .slice none 0 0] 31 (0, 0))) 0 (.slice none 0 0)) := ⟨World.ownsRow_nil _ _ _ _, at2y _ _ _, at2z _ _ _, below2 _ _ _⟩
  go_loopw [4] (fun i wr => ∃ (k : Nat) (v : Value), k ≤ m ∧ i = .int .i64 k ∧ Sq w wr k v) (fun i _ => m - (intOf i).toNat)
  case atStart => exact ⟨0, _, Nat.zero_le _, rfl, S0.out⟩
  case round =>
    clear S0
    obtain ⟨k, v, hk, rfl, HS⟩ := hrel
    have HQ := Seg.hid HS
    by_cases hlt : k < m
    · have c0 : wr.cell? ⟨w.heap.size + 1, 0, none⟩ = some v := cell_of_row wr _ 0 _ _ (0, 0) HS.qrow
      have hlw : w.heap.size + 1 < wr.heap.size := (Array.getElem?_eq_some_iff.1 HS.qrow).1
      have h1 : (k : Int) < (m : Int) := by omega
      have OW : Hid (∀ o, (wr.alloc o).ownsRow (w.heap.size + 2) 45 8 v k (rep k)) := fun o => Seg.owns_below HQ.out.own (below1 wr o)
      clear HS
      go_wp2_with (at_builtin; (refine wpList_append_lies _ rfl _ _ 28 rfl (w.heap.size + 2) 45 i0 _ 8 128 Try.underlying28 hi hz0 hz1 hz2 rfl (by decide) v k (rep k) rfl (OW.out _) ⟨wr.heap.size, 0, none⟩ 1 1 pt.toList rfl rfl (World.news_of_block (cs := pt) (heap_alloc_new wr _)) (by simp [pt, Value.oneCell']) (by decide) (by unfold maxLen; omega) (by omega) (by rw [hsz]; omega) (wr.heap.size + 1) (hsz wr _) ?_; intro g9 cap9 w9 hown9 gr9 hat9 hlt9; have D9 := Seg.hid (HQ.out.push hown9 gr9); have q6 : w9.cell? ⟨w.heap.size + 1, 0, none⟩ = some v := cell_of_row w9 _ 0 _ _ (0, 0) D9.out.1; have p6 : w9.frozen? ⟨w.heap.size + 1, 0, none⟩ = false := frozen_of_row w9 _ 0 _ _ D9.out.1; clear hown9 gr9 hat9 hlt9))
      go_roundw
      case rel => exact ⟨k + 1, _, by omega, by go_num, D9.out.2⟩
      case measure => simp [intOf]; omega
    · have hk' : k = m := by omega
      subst hk'
      have c0 : wr.cell? ⟨w.heap.size + 1, 0, none⟩ = some v := cell_of_row wr _ 0 _ _ (0, 0) HS.qrow
      have c1 : wr.cell? ⟨w.heap.size + 1, 1, none⟩ = some (.slice none 0 0) := cell_of_row wr _ 1 _ _ (0, 0) HS.qrow
      have r0 : wr.cell? ⟨w.heap.size, 0, none⟩ = some (.slice none 0 0) := cell_of_row wr _ 0 _ _ (0, 0) HS.rrow
      have r1 : wr.cell? ⟨w.heap.size, 1, none⟩ = some (.slice none 0 0) := cell_of_row wr _ 1 _ _ (0, 0) HS.rrow
      have f0 : wr.frozen? ⟨w.heap.size, 0, none⟩ = false := frozen_of_row wr _ 0 _ _ HS.rrow
      have hov : v.oneCell' = true := by
        rcases HS.own.2 with ⟨rfl, _⟩ | ⟨g', cap', cur, rfl, _⟩ <;> rfl
      have H5 := Seg.hid (Cells.there_of HS.rrow)
      have H4 := Seg.hid (Cells.whole (vs := #[v, .slice none 0 0]) HS.rrow rfl)
      have B9 := Seg.hid (Cells.below_setCells (g := w.heap.size) (Nat.le_refl _) (#[v, .slice none 0 0] : Array Value).toList 0 _ _ HS.bel)
      have ON : Hid ((#[v, .slice none 0 0] : Array Value).all (·.oneCell') = true) := Seg.hid (on2 hov)
      have VO : Hid (QrmOwn (wr.setCells w.heap.size 0 (#[v, .slice none 0 0] : Array Value).toList) (seg w.heap.size (wr.setCells w.heap.size 0 (#[v, .slice none 0 0] : Array Value).toList).heap.size) (.agg #[v, .slice none 0 0]) (newQ k)) := by
        show QrmOwn _ _ _ _
        rw [Z.out]
        refine qrm_own (own_rep (base := w.heap.size + 2) _ ?_ (by simpa using hm.2) (fun g hg => ?_))
        · refine ⟨by simpa using HQ.out.own.1, ?_⟩
          rcases HQ.out.own.2 with ⟨h1, h2⟩ | ⟨g', cap', cur, h', hbs, hgg, rest⟩
          · exact .inl ⟨h1, by simpa using h2⟩
          · exact .inr ⟨g', cap', cur, by simpa using h', hbs, by rw [Cells.heap_setCells_other _ _ (by omega)]; exact hgg, by simpa using rest⟩
        · have := HQ.out.vb g hg
          refine ⟨by omega, ?_⟩
          rw [Cells.size_setCells]; omega
      clear HS
      go_wp2_with (first | (refine wpList_load_row rfl 31 _ rfl (w.heap.size + 1) rfl _ _ _ _ HQ.out.qrow Try.underlying31 rfl infoQrm ?_) | (refine wpList_store_mid rfl 31 _ _ rfl w.heap.size 0 #[v, .slice none 0 0] rfl rfl H5.out infoQrm ON.out ?_))
      exact bodyPost_ret (v := .agg #[v, .slice none 0 0]) (results_cell_row rfl _ _ w.heap.size _ _ _ _ rfl H4.out Try.underlying31 rfl infoQrm) rfl ⟨_, rfl, VO.out, B9.out⟩
end Go.Proofs.Ytdkfhjcockkleaa.NqP
