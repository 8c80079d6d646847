/- The model's CutTo; The model's Safe; Lists of structs of the call's own, told by the set of their blocks, with several lists in one element; what a writer leaves as it was; a round of marks; numbers that marks count. -/
import Derived.Deep.RegionHeld3
import Derived.Deep.AppendLies
import Derived.Test.YticihnoekffelaaJS18
import Derived.Test.YticihnoekffelaaJS37
import Derived.Test.YticihnoekffelaaJS29
import Derived.Test.YticihnoekffelaaJS35
import Derived.Test.YticihnoekffelaaJS28
import Derived.Test.YticihnoekffelaaJS36
import Derived.Test.YticihnoekffelaaJS33
import Derived.Test.YticihnoekffelaaJS20
namespace Go.Proofs.Yticihnoekffelaa.Ft
set_option maxRecDepth 8000
open Go.RowKit
open Recs
open Bats SegW Segs LogW SrP CtP
open LgP (logOk inR)
set_option linter.unusedVariables false
theorem cutBs_app (x : Int) : ∀ (a b : List Bat), cutBs x (a ++ b) = cutBs x a ++ cutBs x b
  | [], b => rfl
  | t :: r, b => by
    simp only [List.cons_append, cutBs, cutBs_app x r b]
    split <;> rfl
theorem cutBs_take {x : Int} {bs : List Bat} {k : Nat} (h : k < bs.length) : cutBs x (bs.take (k + 1)) = cutBs x (bs.take k) ++ (if (bs.getD k default).base < x then [cutB x (bs.getD k default)] else []) := by
  rw [take_one h, cutBs_app]
  simp only [cutBs]
theorem cutSs_app (x : Int) : ∀ (a b : List Sg), cutSs x (a ++ b) = cutSs x a ++ cutSs x b
  | [], b => rfl
  | t :: r, b => by simp only [List.cons_append, cutSs, cutSs_app x r b, List.append_assoc]
theorem cutSs_take {x : Int} {ss : List Sg} {k : Nat} (h : k < ss.length) : cutSs x (ss.take (k + 1)) = cutSs x (ss.take k) ++ one x (ss.getD k default) := by
  rw [take_one h, cutSs_app]
  simp only [cutSs, List.append_nil]
theorem cutBs_len (x : Int) : ∀ bs : List Bat, (cutBs x bs).length ≤ bs.length
  | [] => Nat.le_refl _
  | t :: r => by
    unfold cutBs
    have := cutBs_len x r
    split <;> simp <;> omega
theorem one_len (x : Int) (s : Sg) : (one x s).length ≤ 1 := by
  unfold one
  split <;> simp
theorem cutSs_len (x : Int) : ∀ ss : List Sg, (cutSs x ss).length ≤ ss.length
  | [] => Nat.le_refl _
  | t :: r => by
    unfold cutSs
    have := cutSs_len x r
    have := one_len x t
    rw [List.length_append, List.length_cons]
    omega
/-- The Log that is made, told by its variable's block; the argument's and the answer's blocks beside it. -/
structure CTo (w w1 wr : World) (l : Lg) (x : Int) (v0 v : Value) (us : List Sg) : Prop where
  gv : GV 55 2 ES w1 wr 1 w1.heap.size 28 (logArr ⟨l.start, x, l.roll, []⟩) (fun _ => none) v us
  par : wr.heap[w.heap.size]? = some (.cells (logArr l v0) 28 (0, 0))
  res : wr.heap[w.heap.size + 1]? = some (.cells (logArr ⟨0, 0, 0, []⟩ (.slice none 0 0)) 28 (0, 0))
  bel : Below w.heap.size w wr
theorem CTo.later {w w1 wr w' : World} {l : Lg} {x : Int} {v0 v : Value} {us : List Sg} (h : CTo w w1 wr l x v0 v us) (hw : w.heap.size + 2 ≤ w1.heap.size) (b : Below wr.heap.size wr w') : CTo w w1 w' l x v0 v us := by
  have hs := h.gv.size
  exact ⟨h.gv.later keepsS (by omega) b, (b.block _ (by omega)).trans h.par, (b.block _ (by omega)).trans h.res, chain h.bel b⟩
/-- One Segment more. -/
theorem CTo.push {w w1 wr w8 w9 : World} {l : Lg} {x : Int} {v0 v : Value} {us : List Sg} {F : Nat → Value} {P : Nat → Nat → Prop} {t : Sg} {bv : Value} {o : Obj} {g cap : Nat} (h : CTo w w1 wr l x v0 v us) (hw : w.heap.size + 2 ≤ w1.heap.size) (hG : LGr 55 2 ES wr (w1.heap.size + 1) v us F P) (b8 : Below wr.heap.size wr w8) (ho : OwnB w8 (seg (wr.heap.size + 1) w8.heap.size) bv t.bats)
    (hown : w9.ownsRow (w1.heap.size + 1) 55 2 (.slice (some ⟨g, 0, none⟩) (us.length + 1) cap) (us.length + 1) ((List.range (us.length * 2)).map F ++ (segArr t bv).toList)) (gr : (w8.alloc o).grownBy w9 v.ownBlock) (hg : v.ownBlock = some g ∨ g = w8.heap.size + 1) :
    CTo w w1 (w9.setCell ⟨w1.heap.size, 3, none⟩ (.slice (some ⟨g, 0, none⟩) (us.length + 1) cap)) l x v0 (.slice (some ⟨g, 0, none⟩) (us.length + 1) cap) (us ++ [t]) ∧ w9.cell? ⟨w1.heap.size, 3, none⟩ = some v ∧ w9.frozen? ⟨w1.heap.size, 3, none⟩ = false := by
  have hs := h.gv.size
  have s8 := b8.size
  have P9 := GV.push keepsS (Q := seg (wr.heap.size + 1) w8.heap.size) (p := 3) (news := (segArr t bv).toList) (t := t) h.gv (Nat.le_refl _) (by omega) rfl (fun _ => rfl) hG b8 (seg_el (LOwn.keep keepsB ho (by rw [hsz]; omega) (fun y hy => (Recs.below1 _ _).block _ hy.2))) (fun y hy => ⟨by have := hy.1; omega, hy.2⟩) rfl hown gr hg
  have gs := gr.size
  rw [hsz] at gs
  have hvb : ∀ y, v.ownBlock = some y → w1.heap.size + 1 ≤ y ∧ y < wr.heap.size := fun y hy => World.ownsRow.lt hG.own y hy
  have k9 : ∀ y, y < w1.heap.size → (w9.setCell ⟨w1.heap.size, 3, none⟩ (.slice (some ⟨g, 0, none⟩) (us.length + 1) cap)).heap[y]? = wr.heap[y]? := fun y hy => by
    rw [heap_setCell_other _ _ _ _ (by show y ≠ w1.heap.size; omega), gr.block y (by rw [hsz]; omega) (fun e => by have := hvb y e.symm; omega), (Recs.below1 _ _).block _ (by omega), b8.block y (by omega)]
  refine ⟨⟨P9.1, (k9 _ (by omega)).trans h.par, (k9 _ (by omega)).trans h.res, ⟨P9.1.bel.os.trans (h.gv.bel.os.symm.trans h.bel.os), P9.1.bel.tape.trans (h.gv.bel.tape.symm.trans h.bel.tape), P9.1.bel.output.trans (h.gv.bel.output.symm.trans h.bel.output), by have := P9.1.size; omega, fun y hy => (k9 y (by omega)).trans (h.bel.block y hy)⟩⟩, P9.2⟩
theorem bpush {wr wk wz w9 : World} {fr : Nat → Option Obj} {sb : Int} {v : Value} {us : List Bat} {F : Nat → Value} {P : Nat → Nat → Prop} {t : Bat} {rv : Value} {o : Obj} {g cap : Nat} (h : GV 58 7 EB wr wk 1 wr.heap.size 55 (segArr ⟨sb, []⟩) fr v us) (hG : LGr 58 7 EB wk (wr.heap.size + 1) v us F P) (bz : Below wk.heap.size wk wz) (ho : OwnR wz (seg wk.heap.size wz.heap.size) rv t.recs)
    (hown : w9.ownsRow (wr.heap.size + 1) 58 7 (.slice (some ⟨g, 0, none⟩) (us.length + 1) cap) (us.length + 1) ((List.range (us.length * 7)).map F ++ (BatW.batArr t rv).toList)) (gr : (wz.alloc o).grownBy w9 v.ownBlock) (hg : v.ownBlock = some g ∨ g = wz.heap.size + 1) :
    GV 58 7 EB wr (w9.setCell ⟨wr.heap.size, 1, none⟩ (.slice (some ⟨g, 0, none⟩) (us.length + 1) cap)) 1 wr.heap.size 55 (segArr ⟨sb, []⟩) fr (.slice (some ⟨g, 0, none⟩) (us.length + 1) cap) (us ++ [t]) ∧ w9.cell? ⟨wr.heap.size, 1, none⟩ = some v ∧ w9.frozen? ⟨wr.heap.size, 1, none⟩ = false :=
  GV.push keepsB (Q := seg wk.heap.size wz.heap.size) (p := 1) (news := (BatW.batArr t rv).toList) (t := t) h (Nat.le_refl _) (by omega) rfl (fun _ => rfl) hG bz (bat_el (LOwn.keep keepsR ho (by rw [hsz]; omega) (fun y hy => (Recs.below1 _ _).block _ hy.2))) (fun y hy => hy) rfl hown gr hg
theorem two {w : World} {g ty : Nat} {t : Sg} {v : Value} (h : w.heap[g]? = some (.cells (segArr t v) ty (0, 0))) : w.cell? ⟨g, 0, none⟩ = some (.int .i64 t.base) ∧ w.cell? ⟨g, 1, none⟩ = some v := ⟨cell_of_row w g 0 _ _ (0, 0) h, cell_of_row w g 1 _ _ (0, 0) h⟩
/-- Ahead of the append of a Batch: WZ; the Batch's own block is n8. -/
structure BZ (wo WZ : World) (n8 : Nat) (fr : Nat → Option Obj) (sb : Int) (v : Value) (ub : List Bat) (F : Nat → Value) (t : Bat) (rv : Value) : Prop where
  news : ∀ j u, (BatW.batArr t rv).toList[j]? = some u → (WZ.alloc (.cells (BatW.batArr t rv) 58 (0, 0))).cell? ((⟨n8 + 1, 0, none⟩ : Addr).add j) = some u
  own : ∀ o9, (WZ.alloc o9).ownsRow (wo.heap.size + 1) 58 7 v ub.length ((List.range (ub.length * 7)).map F)
  size : ∀ o9, (WZ.alloc o9).heap.size = n8 + 1 + 1
  base : ∀ o9, wo.heap.size + 1 ≤ (WZ.alloc o9).heap.size
  c1 : WZ.cell? ⟨wo.heap.size, 1, none⟩ = some v
  push : ∀ g9 cap9 w9 o9, w9.ownsRow (wo.heap.size + 1) 58 7 (.slice (some ⟨g9, 0, none⟩) (ub.length + 1) cap9) (ub.length + 1) ((List.range (ub.length * 7)).map F ++ (BatW.batArr t rv).toList) → (WZ.alloc o9).grownBy w9 v.ownBlock → (v.ownBlock = some g9 ∨ g9 = n8 + 1 + 1) → GV 58 7 EB wo (w9.setCell ⟨wo.heap.size, 1, none⟩ (.slice (some ⟨g9, 0, none⟩) (ub.length + 1) cap9)) 1 wo.heap.size 55 (segArr ⟨sb, []⟩) fr (.slice (some ⟨g9, 0, none⟩) (ub.length + 1) cap9) (ub ++ [t]) ∧ w9.cell? ⟨wo.heap.size, 1, none⟩ = some v ∧ w9.frozen? ⟨wo.heap.size, 1, none⟩ = false
theorem bz {wo wr WZ : World} {n8 : Nat} {fr : Nat → Option Obj} {sb : Int} {v : Value} {ub : List Bat} {F : Nat → Value} {P : Nat → Nat → Prop} {t : Bat} {rv : Value} (h : GV 58 7 EB wo wr 1 wo.heap.size 55 (segArr ⟨sb, []⟩) fr v ub) (hG : LGr 58 7 EB wr (wo.heap.size + 1) v ub F P) (b : Below wr.heap.size wr WZ) (hz : WZ.heap.size = n8 + 1) (ho : OwnR WZ (seg wr.heap.size WZ.heap.size) rv t.recs) : BZ wo WZ n8 fr sb v ub F t rv := by
  have hs := h.size
  refine ⟨?_, fun o9 => World.ownsRow.alloc (own_keep hG.own (fun y _ hy => b.block y hy)) _, fun o9 => by rw [hsz, hz], fun o9 => by rw [hsz]; have := b.size; omega, (b.cell (p := ⟨wo.heap.size, 1, none⟩) (by show wo.heap.size < _; omega)).trans (two h.out).2, fun g9 cap9 w9 o9 a1 a2 a3 => bpush h hG b ho a1 a2 (by rw [hz]; exact a3)⟩
  rw [← hz]
  exact World.news_of_block (heap_alloc_new WZ _)
set_option maxHeartbeats 12800000 in
theorem cutToS_core (l : Lg) (x : Int) (A : Option Addr) (c : Nat) (w : World) (lo b : Nat) (hb : b ≤ w.heap.size) (hf : FewL l) (hw : ∀ i, i < l.segs.length → -9223372036854775808 ≤ (l.segs.getD i default).base ∧ (l.segs.getD i default).base ≤ 9223372036854775807) (hs : SegsAt w lo b (.slice A l.segs.length c) l.segs) :
    Calls Try.prog 6 #[logVal l (.slice A l.segs.length c), .int .i64 x] w fun e w' => ∃ sv, e = .returned (.tuple #[logVal (cutT l x).1 sv, .bool (cutT l x).2]) ∧ SegsAt w' w.heap.size w'.heap.size sv (cutT l x).1.segs ∧ Below w.heap.size w w' := by
  obtain ⟨i0, hi, hz0, hz1, hz2⟩ := info_parts infoSg
  obtain ⟨i1, hi', hz0', hz1', hz2'⟩ := info_parts infoB
  have HS := Seg.hid hs
  have HV : Hid (LogAt w lo b (logVal l (.slice A l.segs.length c)) l) := ⟨_, rfl, hs⟩
  have HF := Seg.hid hf; have HWW := Seg.hid hw
  clear hs hf hw
  unfold logVal at HV ⊢
  go_enter Try.func6, Try.ntmps6
  go_wp2_with fail
  refine (LgS.spec_any _ l ((w.alloc _).alloc _) lo b (HV.out.below ((below2 w _ _).mono hb)) (by rw [hsz, hsz]; omega) HF.out HWW.out).mono ?_
  rintro e w1 ⟨rfl, b1⟩
  have B1 := Seg.hid (chain (below2 w _ _) b1)
  have T1 : Hid (w1.heap[w.heap.size]? = some (.cells (logArr l (.slice A l.segs.length c)) 28 (0, 0))) := (b1.block w.heap.size (by rw [hsz, hsz]; omega)).trans (at1 w _ _)
  have T2 : Hid (w1.heap[w.heap.size + 1]? = some (.cells (logArr ⟨0, 0, 0, []⟩ (.slice none 0 0)) 28 (0, 0))) := (b1.block (w.heap.size + 1) (by rw [hsz, hsz]; omega)).trans (at2 w _ _)
  have s1 := b1.size
  rw [hsz, hsz] at s1
  clear b1
  have NO : Hid (∀ w2, Below w1.heap.size w1 w2 → w2.there (w.heap.size + 1) 0 (logArr ⟨0, 0, 0, []⟩ (.slice none 0 0)).size ∧ (w2.setCells (w.heap.size + 1) 0 (logArr ⟨0, 0, 0, []⟩ (.slice none 0 0)).toList).heap[w.heap.size + 1]? = some (.cells (logArr ⟨0, 0, 0, []⟩ (.slice none 0 0)) 28 (0, 0)) ∧ Below w.heap.size w (w2.setCells (w.heap.size + 1) 0 (logArr ⟨0, 0, 0, []⟩ (.slice none 0 0)).toList)) := fun w2 b2 => by
    have T := (b2.block (w.heap.size + 1) (by omega)).trans T2.out
    exact ⟨Cells.there_of T, Cells.whole (vs := logArr ⟨0, 0, 0, []⟩ (.slice none 0 0)) T rfl, Cells.below_setCells (by omega) _ _ _ _ (chain B1.out b2)⟩
  cases hok : logOk l with
  | false =>
    have HC : Hid (cutT l x = (⟨0, 0, 0, []⟩, false)) := by show _ = _; simp [cutT, hok]
    clear hok
    go_wp2_with (first | (refine wpList_store_mid rfl 28 _ _ rfl (w.heap.size + 1) 0 (logArr ⟨0, 0, 0, []⟩ (.slice none 0 0)) rfl rfl (NO.out _ (Below.refl _ _)).1 infoN (logArr_one _ _ rfl) ?_))
    exact bodyPost_ret (v := .tuple #[logVal ⟨0, 0, 0, []⟩ (.slice none 0 0), .bool false]) (results_row_tmp rfl _ _ (w.heap.size + 1) _ _ _ _ _ rfl rfl (NO.out _ (Below.refl _ _)).2.1 Try.underlying28 rfl infoN) rfl ⟨.slice none 0 0, by rw [HC.out]; rfl, by rw [HC.out]; exact segs_nil, (NO.out _ (Below.refl _ _)).2.2⟩
  | true =>
  obtain ⟨c0, c1, c2, c3⟩ := four T1.out
  have IN : ∀ t, (decide (l.start ≤ x) && decide (x ≤ l.next)) = t → inR x l.start l.next = t := fun t h => h
  cases hin : (decide (l.start ≤ x) && decide (x ≤ l.next)) with
  | false =>
    have HC : Hid (cutT l x = (⟨0, 0, 0, []⟩, false)) := by show _ = _; simp [cutT, hok, IN false hin]
    clear IN hok
    go_wp2_with fail
    refine (InB.l1In_b x l.start l.next false hin w1).mono ?_
    rintro e w1' ⟨rfl, rfl⟩
    clear hin
    go_wp2_with (first | (refine wpList_store_mid rfl 28 _ _ rfl (w.heap.size + 1) 0 (logArr ⟨0, 0, 0, []⟩ (.slice none 0 0)) rfl rfl (NO.out _ (Below.refl _ _)).1 infoN (logArr_one _ _ rfl) ?_))
    exact bodyPost_ret (v := .tuple #[logVal ⟨0, 0, 0, []⟩ (.slice none 0 0), .bool false]) (results_row_tmp rfl _ _ (w.heap.size + 1) _ _ _ _ _ rfl rfl (NO.out _ (Below.refl _ _)).2.1 Try.underlying28 rfl infoN) rfl ⟨.slice none 0 0, by rw [HC.out]; rfl, by rw [HC.out]; exact segs_nil, (NO.out _ (Below.refl _ _)).2.2⟩
  | true =>
  have HC : Hid (cutT l x = (⟨l.start, x, l.roll, cutSs x l.segs⟩, true)) := by show _ = _; simp [cutT, hok, IN true hin]
  obtain ⟨f, k1, k2, k3, k4, k5, k6⟩ := ok_parts hok
  have SO := Seg.hid (segs_ok _ _ _ _ k1)
  clear IN hok k1 NO
  go_wp2_with fail
  refine (InB.l1In_b x l.start l.next true hin w1).mono ?_
  rintro e w1' ⟨rfl, rfl⟩
  simp only [Bool.and_eq_true, decide_eq_true_eq] at hin
  have hx0 : 0 ≤ x := by omega
  have hx1 : x ≤ 1000000000 := by omega
  clear hin
  go_wp2_with fail
  have hl1 := HF.out.1.1
  have C0 : Hid (CTo w w1 (w1.alloc (.cells (logArr ⟨l.start, x, l.roll, []⟩ (.slice none 0 0)) 28 (0, 0))) l x (.slice A l.segs.length c) (.slice none 0 0) []) :=
    ⟨⟨LGrow.nil _ _, heap_alloc_new _ _, fun y h1 h2 h3 => absurd h3 (by omega), below1 w1 _, by rw [hsz]; omega⟩, ((Recs.below1 _ _).block _ (by omega)).trans T1.out, ((Recs.below1 _ _).block _ (by omega)).trans T2.out, chain B1.out (below1 w1 _)⟩
  clear c0 c1 c2 c3 T1 T2 B1
  go_loopw [7] (fun i wr => ∃ (j : Nat) (us : List Sg) (A1 : Option Addr) (c1 : Nat), j ≤ l.segs.length ∧ i = .int .i64 j ∧ Hid (us = cutSs x (l.segs.take j) ∧ CTo w w1 wr l x (.slice A l.segs.length c) (.slice A1 us.length c1) us)) (fun i _ => l.segs.length - (intOf i).toNat)
  case atStart => exact ⟨0, [], none, 0, Nat.zero_le _, rfl, rfl, C0.out⟩
  case round =>
    clear C0
    obtain ⟨j, us, A1, c1, hj, rfl, HW⟩ := hrel
    obtain ⟨wo, hwo⟩ : ∃ wo, wo = wr := ⟨wr, rfl⟩
    subst hwo
    have WC := Seg.hid HW.out.2
    have hz := HW.out.2.gv.size
    have p3 : wo.cell? ⟨w.heap.size, 3, none⟩ = some (.slice A l.segs.length c) := (four HW.out.2.par).2.2.2
    by_cases hlt : j < l.segs.length
    · have h0 : (0 : Int) ≤ (j : Int) := by omega
      have h1 : (j : Int) < (l.segs.length : Int) := by omega
      obtain ⟨H, ⟨_, A', c', hsl, hrow⟩, hh⟩ := HS.out
      simp only [Value.slice.injEq] at hsl
      obtain ⟨rfl, _, rfl⟩ := hsl
      obtain ⟨g, o, rfl, hg, hc, hcell, _⟩ := hrow.resolve_left (by omega)
      have hgw : g < w.heap.size := by omega
      have SIX : Hid (∀ wx, Below wo.heap.size wo wx → (wx.cell? ⟨g, o + j * 2, none⟩ = some (.int .i64 (l.segs.getD j default).base) ∧ wx.cell? ⟨g, o + j * 2 + 1, none⟩ = some (H j)) ∧ wx.cell? ⟨w.heap.size, 3, none⟩ = some (.slice (some ⟨g, o, none⟩) l.segs.length c)) := fun wx bx => ⟨Segs.six (fun i hi q hq => by rw [(chain HW.out.2.bel bx).cell (p := ⟨g, o + i * 2 + q, none⟩) hgw]; exact hcell i hi q hq) j hlt, (bx.cell (p := ⟨w.heap.size, 3, none⟩) (by show w.heap.size < _; omega)).trans p3⟩
      have ULE : Hid (us.length ≤ 1048576) := by show _ ≤ _; rw [HW.out.1]; have := cutSs_len x (l.segs.take j); rw [List.length_take] at this; omega
      have UN : Hid (us ++ one x (l.segs.getD j default) = cutSs x (l.segs.take (j + 1))) := by show _ = _; rw [HW.out.1]; exact (cutSs_take hlt).symm
      obtain ⟨F, P, hG⟩ := HW.out.2.gv.grow
      have HG := Seg.hid hG
      have BT : Hid (∀ wx, Below wo.heap.size wo wx → BatsAt wx lo b (H j) (l.segs.getD j default).bats) := fun wx bx => (hh j hlt).below ((chain HW.out.2.bel bx).mono hb)
      have FB := Seg.hid (HF.out.1.2 j hlt)
      have BO := Seg.hid (SO.out j hlt)
      obtain ⟨_, ⟨_, Ah, ch, hHj, _⟩, _⟩ := hh j hlt
      clear hcell HW hG hrow hh
      generalize l.segs.getD j default = tj at *
      rw [hHj] at BT SIX
      clear hHj
      obtain ⟨⟨e0, e1⟩, _⟩ := SIX.out wo (Below.refl _ _)
      have hww : w.heap.size < wo.heap.size := by omega
      have hul := ULE.out
      have hbl := FB.out.1
      go_wp2_with fail
      clear e0 e1 p3
      have D0 : Hid (GV 58 7 EB wo (wo.alloc (.cells (segArr ⟨tj.base, []⟩ (.slice none 0 0)) 55 (0, 0))) 1 wo.heap.size 55 (segArr ⟨tj.base, []⟩) (fun _ => none) (.slice none 0 0) []) := ⟨LGrow.nil _ _, heap_alloc_new _ _, fun y h1 h2 h3 => absurd h3 (by omega), below1 wo _, by rw [hsz]; omega⟩
      go_loopw [9] (fun i wr => ∃ (k : Nat) (ub : List Bat) (A2 : Option Addr) (c2 : Nat), k ≤ tj.bats.length ∧ i = .int .i64 k ∧ Hid (ub = cutBs x (tj.bats.take k) ∧ GV 58 7 EB wo wr 1 wo.heap.size 55 (segArr ⟨tj.base, []⟩) (fun _ => none) (.slice A2 ub.length c2) ub)) (fun i _ => tj.bats.length - (intOf i).toNat)
      case atStart => exact ⟨0, [], none, 0, Nat.zero_le _, rfl, rfl, D0.out⟩
      case round =>
        clear D0
        obtain ⟨k, ub, A2, c2, hk, rfl, HK⟩ := hrel
        have GK := Seg.hid HK.out.2
        have hzk := GK.out.size
        obtain ⟨⟨d0, d1⟩, d3⟩ := SIX.out wr GK.out.bel
        have hwk : w.heap.size < wr.heap.size := by omega
        have hgk : g < wr.heap.size := by omega
        by_cases hkl : k < tj.bats.length
        · have k0 : (0 : Int) ≤ (k : Int) := by omega
          have k1 : (k : Int) < (tj.bats.length : Int) := by omega
          obtain ⟨H2, ⟨_, A'', c'', hsl, hrow⟩, hh⟩ := BT.out wr GK.out.bel
          simp only [Value.slice.injEq] at hsl
          obtain ⟨rfl, _, rfl⟩ := hsl
          obtain ⟨g2, o2, rfl, hg2, hc2, hcell, _⟩ := hrow.resolve_left (by omega)
          have hg2w : g2 < wr.heap.size := by omega
          obtain ⟨e0, e1, e2, e3, e4, e5, e6⟩ := Bats.six hcell k hkl
          have RT := Seg.hid (hh k hkl)
          have OK := LgP.okLen (BO.out k hkl)
          have FK := Seg.hid (FB.out.2 k hkl)
          have VN := Seg.hid (cutBs_take (x := x) hkl)
          have UBL : ub.length ≤ 1048576 := by rw [HK.out.1]; have := cutBs_len x (tj.bats.take k); rw [List.length_take] at this; omega
          obtain ⟨_, ⟨_, A3, c3, hH2, _⟩, _⟩ := hh k hkl
          rw [hH2] at e6 RT
          obtain ⟨F2, P2, hG2⟩ := GK.out.grow
          have HG2 := Seg.hid hG2
          have HKE := Seg.hid HK.out.1
          clear hH2 hcell hrow hh hG2 HK
          generalize tj.bats.getD k default = tk at *
          have BAT : Hid (BatAt wr lo b (.agg (BatW.batArr tk (.slice A3 tk.recs.length c3))) tk) := ⟨_, rfl, RT.out⟩
          go_wp2_with fail
          refine (l3Batch_any _ tk wr lo b BAT.out (by omega) FK.out).mono ?_
          rintro e w8 ⟨rv8, rfl, ow8, b8⟩
          have B8 := Seg.hid b8
          have s8 := b8.size
          obtain ⟨A8, c8, hA8⟩ := LOwn.form ow8
          subst hA8
          have O8 := Seg.hid ow8
          clear ow8 b8 e0 e1 e2 e3 e4 e5 e6 d0 d1 d3
          unfold batVal
          have LZ : Hid ((w8.alloc (.cells (BatW.batArr tk (.slice A8 tk.recs.length c8)) 58 (0, 0))).heap[w8.heap.size]? = some (.cells (BatW.batArr tk (.slice A8 tk.recs.length c8)) 58 (0, 0))) := heap_alloc_new _ _
          have BZ1 : Hid (Below wr.heap.size wr (w8.alloc (.cells (BatW.batArr tk (.slice A8 tk.recs.length c8)) 58 (0, 0)))) := chain B8.out (below1 w8 _)
          obtain ⟨v0, v1, v2, v3, v4, v5, v6⟩ := seven LZ.out
          have t0 : 0 ≤ tk.base := by omega
          have t1 : tk.base ≤ 1000000000 := by omega
          have t2 : tk.recs.length ≤ 1000 := by omega
          have hob : wo.heap.size < w8.heap.size := by omega
          have z8 : w8.cell? ⟨wo.heap.size, 1, none⟩ = some (.slice A2 ub.length c2) := (B8.out.cell (p := ⟨wo.heap.size, 1, none⟩) (by show wo.heap.size < _; omega)).trans (two GK.out.out).2
          have hw8 : w.heap.size < w8.heap.size := by omega
          by_cases hbx : x ≤ tk.base
          · have VE : Hid (ub = cutBs x (tj.bats.take (k + 1))) := by show _ = _; rw [VN.out, if_neg (by omega), List.append_nil]; exact HKE.out
            go_wp2_with fail
            go_roundw
            case rel => exact ⟨k + 1, ub, A2, c2, by omega, by go_num, VE.out, GK.out.later keepsB (by omega) BZ1.out⟩
            case measure => simp [intOf]; omega
          · by_cases hex : x < tk.base + tk.recs.length
            · have VE : Hid (ub ++ [⟨tk.base, tk.epoch, tk.producer, tk.turn, tk.seq, tk.flags, tk.recs.take (x - tk.base).toNat⟩] = cutBs x (tj.bats.take (k + 1))) := by show _ = _; rw [VN.out, if_pos (by omega), HKE.out]; unfold cutB bEnd; rw [if_pos hex]
              have hc8 : tk.recs.length ≤ c8 := by
                obtain ⟨_, ⟨_, A', c', hsl, hrow⟩, _⟩ := recs_of O8.out (fun y hy => hy)
                simp only [Value.slice.injEq] at hsl
                obtain ⟨rfl, _, rfl⟩ := hsl
                rcases hrow with h | ⟨_, _, _, _, h, _⟩ <;> omega
              have y0 : 0 ≤ x - tk.base := by omega
              have y1 : x - tk.base ≤ (c8 : Int) := by omega
              have Z : Hid (BZ wo (w8.alloc (.cells (BatW.batArr ⟨tk.base, tk.epoch, tk.producer, tk.turn, tk.seq, tk.flags, tk.recs.take (x - tk.base).toNat⟩ (.slice A8 (x - tk.base).toNat c8)) 58 (0, 0))) w8.heap.size (fun _ => none) tj.base (.slice A2 ub.length c2) ub F2 ⟨tk.base, tk.epoch, tk.producer, tk.turn, tk.seq, tk.flags, tk.recs.take (x - tk.base).toNat⟩ (.slice A8 (x - tk.base).toNat c8)) := by
                have hsz9 : (w8.alloc (.cells (BatW.batArr ⟨tk.base, tk.epoch, tk.producer, tk.turn, tk.seq, tk.flags, tk.recs.take (x - tk.base).toNat⟩ (.slice A8 (x - tk.base).toNat c8)) 58 (0, 0))).heap.size = w8.heap.size + 1 := hsz _ _
                refine bz GK.out HG2.out (chain B8.out (below1 w8 _)) hsz9 ?_
                refine (LOwn.keep keepsR (LOwn.take (k := (x - tk.base).toNat) O8.out (by omega)) (by rw [hsz9]; omega) (fun y hy => ?_)).mono (fun y hy => ?_)
                · have := hy.2
                  rw [(Recs.below1 _ _).block _ hy.2]
                · obtain ⟨z1, z2⟩ := hy
                  exact ⟨z1, by rw [hsz9]; omega⟩
              have z6 := frozen_of_row _ w8.heap.size 6 _ _ LZ.out
              have MZ : Hid ((w8.alloc (.cells (BatW.batArr ⟨tk.base, tk.epoch, tk.producer, tk.turn, tk.seq, tk.flags, tk.recs.take (x - tk.base).toNat⟩ (.slice A8 (x - tk.base).toNat c8)) 58 (0, 0))).heap[w8.heap.size]? = some (.cells (BatW.batArr ⟨tk.base, tk.epoch, tk.producer, tk.turn, tk.seq, tk.flags, tk.recs.take (x - tk.base).toNat⟩ (.slice A8 (x - tk.base).toNat c8)) 58 (0, 0))) := heap_alloc_new _ _
              obtain ⟨m0, m1, m2, m3, m4, m5, m6⟩ := seven MZ.out
              have zc := Z.out.c1
              go_wp2_with (at_builtin; (refine wpList_append_lies _ rfl _ _ 40 rfl (wo.heap.size + 1) 58 i1 _ 7 72 Try.underlying40 hi' hz0' hz1' hz2' rfl (by decide) (.slice A2 ub.length c2) ub.length ((List.range (ub.length * 7)).map F2) rfl (Z.out.own _) ⟨w8.heap.size + 1, 0, none⟩ 1 1 (BatW.batArr ⟨tk.base, tk.epoch, tk.producer, tk.turn, tk.seq, tk.flags, tk.recs.take (x - tk.base).toNat⟩ (.slice A8 (x - tk.base).toNat c8)).toList rfl rfl Z.out.news (by simp [BatW.batArr, Value.oneCell']) (by decide) (by unfold maxLen; omega) (by omega) (Z.out.base _) (w8.heap.size + 1 + 1) (Z.out.size _) ?_; intro g9 cap9 w9 hown9 gr9 hat9 hlt9; have D9 := Seg.hid (Z.out.push g9 cap9 w9 _ hown9 gr9 hat9); have q1 := D9.out.2.1; have q2 := D9.out.2.2; clear hown9 gr9 hat9 hlt9))
              go_roundw
              case rel => exact ⟨k + 1, _, some ⟨g9, 0, none⟩, cap9, by omega, by go_num, VE.out, by rw [List.length_append]; exact D9.out.1⟩
              case measure => simp [intOf]; omega
            · have VE : Hid (ub ++ [tk] = cutBs x (tj.bats.take (k + 1))) := by show _ = _; rw [VN.out, if_pos (by omega), HKE.out]; unfold cutB bEnd; rw [if_neg hex]
              have Z : Hid (BZ wo (w8.alloc (.cells (BatW.batArr tk (.slice A8 tk.recs.length c8)) 58 (0, 0))) w8.heap.size (fun _ => none) tj.base (.slice A2 ub.length c2) ub F2 tk (.slice A8 tk.recs.length c8)) := by
                refine bz GK.out HG2.out BZ1.out (hsz _ _) ?_
                exact (LOwn.keep keepsR O8.out (by rw [hsz]; omega) (fun y hy => (Recs.below1 _ _).block _ hy.2)).mono (fun y hy => ⟨hy.1, by have := hy.2; rw [hsz]; omega⟩)
              have zc := Z.out.c1
              go_wp2_with (at_builtin; (refine wpList_append_lies _ rfl _ _ 40 rfl (wo.heap.size + 1) 58 i1 _ 7 72 Try.underlying40 hi' hz0' hz1' hz2' rfl (by decide) (.slice A2 ub.length c2) ub.length ((List.range (ub.length * 7)).map F2) rfl (Z.out.own _) ⟨w8.heap.size + 1, 0, none⟩ 1 1 (BatW.batArr tk (.slice A8 tk.recs.length c8)).toList rfl rfl Z.out.news (by simp [BatW.batArr, Value.oneCell']) (by decide) (by unfold maxLen; omega) (by omega) (Z.out.base _) (w8.heap.size + 1 + 1) (Z.out.size _) ?_; intro g9 cap9 w9 hown9 gr9 hat9 hlt9; have D9 := Seg.hid (Z.out.push g9 cap9 w9 _ hown9 gr9 hat9); have q1 := D9.out.2.1; have q2 := D9.out.2.2; clear hown9 gr9 hat9 hlt9))
              go_roundw
              case rel => exact ⟨k + 1, _, some ⟨g9, 0, none⟩, cap9, by omega, by go_num, VE.out, by rw [List.length_append]; exact D9.out.1⟩
              case measure => simp [intOf]; omega
        · have UE : Hid (ub = cutBs x tj.bats) := by show _ = _; rw [HK.out.1, List.take_of_length_le (by omega)]
          have UBL : ub.length ≤ 1048576 := by rw [UE.out]; have := cutBs_len x tj.bats; omega
          obtain ⟨s0, s1'⟩ := two GK.out.out
          have : k = tj.bats.length := by omega
          clear HK
          subst this
          have o3 : wr.cell? ⟨w1.heap.size, 3, none⟩ = some (.slice A1 us.length c1) := (GK.out.bel.cell (p := ⟨w1.heap.size, 3, none⟩) (by show w1.heap.size < _; omega)).trans (four WC.out.gv.out).2.2.2
          have hw1r : w1.heap.size < wr.heap.size := by omega
          have hwor : wo.heap.size < wr.heap.size := by omega
          by_cases hu0 : ub.length = 0
          · have VE : Hid (us = cutSs x (l.segs.take (j + 1))) := by show _ = _; rw [← UN.out, one, if_pos (by rw [← UE.out]; exact hu0), List.append_nil]
            have q5 : ¬ (0 : Int) < (ub.length : Int) := by omega
            go_wp2_with fail
            go_roundw
            case rel => exact ⟨j + 1, us, A1, c1, by omega, by go_num, VE.out, WC.out.later (by omega) GK.out.bel⟩
            case measure => simp [intOf]; omega
          · have VE : Hid (us ++ [⟨tj.base, ub⟩] = cutSs x (l.segs.take (j + 1))) := by show _ = _; rw [← UN.out, one, if_neg (by rw [← UE.out]; exact hu0), UE.out]
            have q5 : (0 : Int) < (ub.length : Int) := by omega
            have OB := Seg.hid (LGrow.own GK.out.grow UBL)
            go_wp2_with (at_builtin; (refine wpList_append_lies _ rfl _ _ 26 rfl (w1.heap.size + 1) 55 i0 _ 2 32 Try.underlying26 hi hz0 hz1 hz2 rfl (by decide) (.slice A1 us.length c1) us.length ((List.range (us.length * 2)).map F) rfl (World.ownsRow.alloc (own_keep HG.out.own (fun y _ hy => GK.out.bel.block y hy)) _) ⟨wr.heap.size, 0, none⟩ 1 1 (segArr ⟨tj.base, ub⟩ (.slice A2 ub.length c2)).toList rfl rfl (World.news_of_block (cs := segArr ⟨tj.base, ub⟩ (.slice A2 ub.length c2)) (heap_alloc_new wr _)) (by simp [segArr, Value.oneCell']) (by decide) (by unfold maxLen; omega) (by omega) (by rw [hsz]; omega) (wr.heap.size + 1) (hsz wr _) ?_; intro g9 cap9 w9 hown9 gr9 hat9 hlt9; have D9 := Seg.hid (CTo.push (t := ⟨tj.base, ub⟩) WC.out (by omega) HG.out GK.out.bel OB.out hown9 gr9 hat9); have q1 := D9.out.2.1; have q2 := D9.out.2.2; clear hown9 gr9 hat9 hlt9))
            go_roundw
            case rel => exact ⟨j + 1, _, some ⟨g9, 0, none⟩, cap9, by omega, by go_num, VE.out, by rw [List.length_append]; exact D9.out.1⟩
            case measure => simp [intOf]; omega
    · have UE : Hid (us = cutSs x l.segs) := by show _ = _; rw [HW.out.1, List.take_of_length_le (by omega)]
      have ULE : us.length ≤ 1048576 := by rw [UE.out]; have := cutSs_len x l.segs; omega
      have HC2 : Hid (cutT l x = (⟨l.start, x, l.roll, us⟩, true)) := by show _ = _; rw [HC.out, UE.out]
      have : j = l.segs.length := by omega
      clear HW HC
      subst this
      have O1 := Seg.hid WC.out.gv.out
      have H5 := Seg.hid (Cells.there_of WC.out.res)
      have H4 := Seg.hid (Cells.whole (vs := logArr ⟨l.start, x, l.roll, []⟩ (.slice A1 us.length c1)) WC.out.res rfl)
      have B2 := Seg.hid (Cells.below_setCells (g := w.heap.size + 1) (by omega) (logArr ⟨l.start, x, l.roll, []⟩ (.slice A1 us.length c1)).toList 0 _ _ WC.out.bel)
      have SA : Hid (SegsAt (wo.setCells (w.heap.size + 1) 0 (logArr ⟨l.start, x, l.roll, []⟩ (.slice A1 us.length c1)).toList) w.heap.size (wo.setCells (w.heap.size + 1) 0 (logArr ⟨l.start, x, l.roll, []⟩ (.slice A1 us.length c1)).toList).heap.size (.slice A1 us.length c1) us) := by
        refine ((segs_of (LGrow.own WC.out.gv.grow ULE) (fun y hy => hy)).keep fun g h4 h5 => ?_).mono (by omega) (by rw [Cells.size_setCells]; exact Nat.le_refl _)
        exact Cells.heap_setCells_other _ _ (by omega)
      go_wp2_with (first | (refine wpList_load_row rfl 28 _ rfl w1.heap.size rfl _ _ _ _ O1.out Try.underlying28 rfl infoN ?_) | (refine wpList_store_mid rfl 28 _ _ rfl (w.heap.size + 1) 0 (logArr ⟨l.start, x, l.roll, []⟩ (.slice A1 us.length c1)) rfl rfl H5.out infoN (logArr_one _ _ rfl) ?_))
      exact bodyPost_ret (v := .tuple #[logVal ⟨l.start, x, l.roll, []⟩ (.slice A1 us.length c1), .bool true]) (results_row_tmp rfl _ _ (w.heap.size + 1) _ (logArr ⟨l.start, x, l.roll, []⟩ (.slice A1 us.length c1)) _ _ _ rfl rfl H4.out Try.underlying28 rfl infoN) rfl ⟨.slice A1 us.length c1, by rw [HC2.out]; rfl, by rw [HC2.out]; exact SA.out, B2.out⟩
theorem cutToS_any (v : Value) (l : Lg) (x : Int) (w : World) (lo b : Nat) (hv : LogAt w lo b v l) (hb : b ≤ w.heap.size) (hf : FewL l) (hw : ∀ i, i < l.segs.length → -9223372036854775808 ≤ (l.segs.getD i default).base ∧ (l.segs.getD i default).base ≤ 9223372036854775807) :
    Calls Try.prog 6 #[v, .int .i64 x] w fun e w' => ∃ sv, e = .returned (.tuple #[logVal (cutT l x).1 sv, .bool (cutT l x).2]) ∧ SegsAt w' w.heap.size w'.heap.size sv (cutT l x).1.segs ∧ Below w.heap.size w w' := by
  obtain ⟨sv, rfl, hs⟩ := hv
  obtain ⟨_, ⟨_, A, c, rfl, _⟩, _⟩ := id hs
  exact cutToS_core l x A c w lo b hb hf hw hs
end Go.Proofs.Yticihnoekffelaa.Ft
namespace Go.Proofs.Yticihnoekffelaa.SfS
set_option maxRecDepth 8000
open Go.RowKit
open Ls (Prt Rpl PrtAt szPrt FinePrt)
open Recs (hsz below1 below2 below3 chain chainD RecsAt Bat BatAt Rec Row batVal at3)
open Bats SegW Segs LogW BfP SfP BfQ SfO CtP SfQ SrP
open LgP (logOk)
open PoP (lg)
open Of (ok_all flat_count okB_flat)
set_option linter.unusedVariables false
theorem infoBS : (Try.prog.info? 58).map (fun i => (i.zero, i.size, i.bytes)) = some (some (.agg #[.int .i64 0, .int .i64 0, .int .i64 0, .int .i64 0, .int .i64 0, .int .i64 0, .slice none 0 0]), 7, 72) := by kernel_rfl
theorem infoLG : (Try.prog.info? 28).map (·.size) = some 4 := by kernel_rfl
theorem infoPR : (Try.prog.info? 44).map (·.size) = some 6 := by kernel_rfl
theorem last_ge {b : Bat} (h : BOk.batOk b = true) (x : Int) : (x ≤ BOk.last b) ↔ pB x b = true := by
  have : BOk.last b = b.base + b.recs.length - 1 := if_pos h
  unfold pB bEnd
  rw [this]
  simp only [decide_eq_true_eq]
  omega
/-- Batches that are read, with the values of their Records. -/
theorem row_pairs {w : World} {lo b lo' b' : Nat} {v : Value} {ts : List Bat} {H : Nat → Value} (hr : Row w lo b 7 v ts.length (batsCells ts H)) (hh : ∀ i, i < ts.length → RecsAt w lo' b' (H i) (ts.getD i default).recs) : ∃ ps : List BV, ps.map Prod.fst = ts ∧ Row w lo b 7 v ps.length (batsCells (ps.map Prod.fst) (fun i => (ps.getD i default).2)) ∧ ∀ i, i < ps.length → RecsAt w lo' b' (ps.getD i default).2 (ps.getD i default).1.recs := by
  have hl : ((List.range ts.length).map (fun i => (ts.getD i default, H i))).length = ts.length := by simp
  refine ⟨(List.range ts.length).map (fun i => (ts.getD i default, H i)), ?_, ?_, fun i hi => ?_⟩
  · rw [List.map_map]
    exact map_range ts
  · rw [hl]
    refine row_eqf hr fun i hi j hj => ?_
    have hg := getD_range (fun i => (ts.getD i default, H i)) ts.length i hi
    show batsCells ts H i j = batsCells (((List.range ts.length).map (fun i => (ts.getD i default, H i))).map Prod.fst) (fun i => (((List.range ts.length).map (fun i => (ts.getD i default, H i))).getD i default).2) i j
    simp only [batsCells, getD_fst, hg]
  · rw [hl] at hi
    rw [getD_range _ _ i hi]
    exact hh i hi
theorem bats_own {w : World} {n0 : Nat} {v : Value} {ps : List BV} (hn : ps.length ≤ 1048576) (hr : w.ownsRow n0 58 7 v ps.length (cellsP ps)) (hp : ∀ p ∈ ps, RecsAt w 0 w.heap.size p.2 p.1.recs) : BatsAt w 0 w.heap.size v (ps.map Prod.fst) := by
  have hl : (ps.map Prod.fst).length = ps.length := by simp
  rcases hr.2 with ⟨h1, h2⟩ | ⟨g, cap, cur, rfl, hbs, hgg, hnc, hcm, hcs, htake⟩
  · have := List.length_eq_zero_iff.1 h2
    subst this
    exact ⟨fun _ => default, ⟨by simp, none, 0, h1, .inl rfl⟩, fun i hi => absurd hi (by simp)⟩
  have hlt : g < w.heap.size := (Array.getElem?_eq_some_iff.1 hgg).1
  have e : (List.range (ps.length * 7)).map (fun q => (cellsP ps).getD q default) = cellsP ps := by
    rw [← cellsP_len]
    exact map_range _
  have hM : ToO.MineC w 58 7 g ps.length cap (fun q => (cellsP ps).getD q default) := by
    show w.ownsRow g _ _ _ _ _
    rw [e]
    exact ⟨hr.1, .inr ⟨g, cap, cur, rfl, Nat.le_refl _, hgg, hnc, hcm, hcs, htake⟩⟩
  refine ⟨fun i => (ps.getD i default).2, ?_, fun i hi => ?_⟩
  · rw [hl]
    refine row_eqf (row_mine hn hM (Nat.zero_le _) hlt) fun i hi j hj => ?_
    have hc := cellsP_at ps i j hi hj
    rw [hc]
    unfold batsCells
    rw [getD_fst]
    match j, hj with
    | 0, _ => rfl
    | 1, _ => rfl
    | 2, _ => rfl
    | 3, _ => rfl
    | 4, _ => rfl
    | 5, _ => rfl
    | 6, _ => rfl
  · rw [hl] at hi
    rw [getD_fst]
    refine hp _ ?_
    rw [List.getD_eq_getElem?_getD, List.getElem?_eq_getElem hi, Option.getD_some]
    exact List.getElem_mem hi
theorem from_take {x : Int} {ps : List BV} {j : Nat} (h : j < ps.length) : fromP x (ps.take (j + 1)) = fromP x (ps.take j) ++ (if pB x (ps.getD j default).1 = true then [ps.getD j default] else []) := by
  rw [takeOne h, fromP_app]
  congr 1
  unfold fromP
  generalize ps.getD j default = q
  by_cases hp : pB x q.1 = true
  · rw [if_pos hp, List.filter_cons_of_pos (by simpa using hp)]; rfl
  · rw [if_neg hp, List.filter_cons_of_neg (by simpa using hp)]; rfl
theorem six {w : World} {g ty : Nat} {a b c d e f : Value} (h : w.heap[g]? = some (.cells #[a, b, c, d, e, f] ty (0, 0))) : w.cell? ⟨g, 0, none⟩ = some a ∧ w.cell? ⟨g, 1, none⟩ = some b ∧ w.cell? ⟨g, 2, none⟩ = some c ∧ w.cell? ⟨g, 3, none⟩ = some d ∧ w.cell? ⟨g, 4, none⟩ = some e ∧ w.cell? ⟨g, 5, none⟩ = some f :=
  ⟨cell_of_row w g 0 _ _ (0, 0) h, cell_of_row w g 1 _ _ (0, 0) h, cell_of_row w g 2 _ _ (0, 0) h, cell_of_row w g 3 _ _ (0, 0) h, cell_of_row w g 4 _ _ (0, 0) h, cell_of_row w g 5 _ _ (0, 0) h⟩
set_option maxHeartbeats 3200000 in
theorem safeS_any (v : Value) (p : Prt) (w : World) (lo b : Nat) (hv : PrtAt w (Ls.seg lo b) v p) (hb : b ≤ w.heap.size) (hf : szPrt p ≤ 1048576) (hfi : FinePrt p) :
    Calls Try.prog 13 #[v] w fun e w' => ∃ v', e = .returned v' ∧ BatsAt w' 0 w'.heap.size v' (safe p) ∧ Below w.heap.size w w' := by
  obtain ⟨i0, hi, hz0, hz1, hz2⟩ := info_parts infoBS
  have hS : ∀ g, Ls.seg lo b g → g < w.heap.size := fun g hg => Nat.lt_of_lt_of_le hg.2 hb
  have HV := Seg.hid hv
  obtain ⟨A0, c0, A3, c3, A4, c4, rfl⟩ := PoP.form hv
  have HF := Seg.hid hf
  have HFI := Seg.hid hfi
  clear hv hf hfi
  go_enter Try.func13, Try.ntmps13
  go_wp2_with fail
  refine (PoS.spec_any _ p (w.alloc _) lo b (HV.out.below (below1 w _) hS) (by rw [hsz]; omega) HF.out HFI.out).mono ?_
  rintro e w1 ⟨rfl, b1⟩
  have B1 := Seg.hid (chain (below1 w _) b1)
  have T1 : Hid (w1.heap[w.heap.size]? = some (.cells #[.slice A0 p.reps.length c0, .int .i64 p.leader, .int .i64 p.epoch, .slice A3 p.insync.length c3, .slice A4 p.known.length c4, .int .i64 p.least] 44 (0, 0))) := (b1.block w.heap.size (by rw [hsz]; omega)).trans (heap_alloc_new _ _)
  have s1 := b1.size
  rw [hsz] at s1
  clear b1
  have NIL : Hid (∀ (wx : World) (A : Option Addr) (c : Nat), BatsAt wx 0 wx.heap.size (.slice A 0 c) []) := fun wx A c => ⟨fun _ => default, ⟨by simp, A, c, rfl, .inl rfl⟩, fun i hi => absurd hi (by simp)⟩
  cases hok : PoP.part p with
  | false =>
    have HC : Hid (safe p = []) := safe_no (.inl hok)
    clear hok
    go_wp2
    go_ret
    exact ⟨_, rfl, by rw [HC.out]; exact NIL.out _ _ _, chain B1.out (below1 _ _)⟩
  | true =>
  obtain ⟨x0, x1, x2, x3, x4, x5⟩ := six T1.out
  have low := part_low hok
  by_cases hl : p.leader = -1
  · have HC : Hid (safe p = []) := safe_no (.inr hl)
    have hd : p.leader < 0 := by omega
    clear hok hl
    go_wp2
    go_ret
    exact ⟨_, rfl, by rw [HC.out]; exact NIL.out _ _ _, chain B1.out (below1 _ _)⟩
  obtain ⟨l0, l1, lok, lm, ln⟩ := part_lead hok hl
  have hli : p.leader.toNat < p.reps.length := by omega
  have hd : ¬ p.leader < 0 := by omega
  obtain ⟨Q0, _, _⟩ := PoP.parts (HV.out.below B1.out hS)
  obtain ⟨_, A', c', hsl, hrow⟩ := Q0
  simp only [Value.slice.injEq] at hsl
  obtain ⟨rfl, _, rfl⟩ := hsl
  obtain ⟨g, o, F, rfl, hg, hc, hcell, hel⟩ := hrow.resolve_left (by omega)
  have hgw : g < w.heap.size := hS g hg
  have hg1 : g < w1.heap.size := by omega
  obtain ⟨AS, cS, ⟨y0, y1, y2, y3, y4, y5⟩, LA⟩ := PoP.rpl_cells (fun j hj => hcell p.leader.toNat hli j hj) (hel p.leader.toNat hli)
  have SF : Hid (safe p = fromB (p.reps.getD p.leader.toNat default).start (flatB (cutSs (p.reps.getD p.leader.toNat default).mark (p.reps.getD p.leader.toNat default).segs))) := by show _ = _; unfold safe; rw [if_pos (by rw [hok]; simp [l0])]
  have LA1 := Seg.hid LA
  have FW : Hid (FewL (lg (p.reps.getD p.leader.toNat default))) := OldL.few_log (Ls.szL_one (l := 1048576) Ls.szRpl (show Ls.szL Ls.szRpl p.reps ≤ 1048576 by have := HF.out; unfold szPrt at this; omega) hli)
  have BW : Hid (∀ i, i < (p.reps.getD p.leader.toNat default).segs.length → -9223372036854775808 ≤ ((p.reps.getD p.leader.toNat default).segs.getD i default).base ∧ ((p.reps.getD p.leader.toNat default).segs.getD i default).base ≤ 9223372036854775807) := fun i hi' => ((HFI.out.1.2 p.leader.toNat hli).2.2.2.1.2 i hi').1
  clear hok hl HV HF hcell hel hrow LA low
  generalize p.reps.getD p.leader.toNat default = r at *
  have CT := Seg.hid (cut_lead lok lm ln)
  have LOK := Seg.hid lok
  clear lok lm ln
  go_wp2_with fail
  refine (Ft.cutToS_any _ (lg r) r.mark (w1.alloc _) lo b (LA1.out.below ((below1 w1 _).mono (by omega))) (by rw [hsz]; omega) FW.out BW.out).mono ?_
  rintro e w3 ⟨sv, rfl, ow, b3⟩
  rw [CT.out] at ow ⊢
  obtain ⟨_, ⟨_, A5, c5, hsv, _⟩, _⟩ := id ow
  subst hsv
  dsimp only at ow ⊢
  have OW := Seg.hid ow
  have B3' := Seg.hid (chain (below1 w1 _) b3)
  have s3 := b3.size
  rw [hsz] at s3 OW
  have B3 := Seg.hid (chain B1.out B3'.out)
  clear ow b3 y0 y1 y2 y3 y4 y5 x0 x1 x2 x3 x4 x5
  unfold logVal
  go_wp2_with fail
  obtain ⟨f0, k1, k2, k3, k4, k5, k6, k7⟩ := ok_all LOK.out
  obtain ⟨f, K1⟩ := segs_cut r.mark r.segs 0 0 f0 0 0 k1 (Int.le_refl _) (Int.le_refl _)
  have FLB : (flatB (cutSs r.mark r.segs)).length ≤ 400 := Nat.le_trans (flat_le _ _) (by rw [flat_count]; exact k7)
  have SLB : (cutSs r.mark r.segs).length ≤ 60 := Nat.le_trans (segs_le _ _) k3
  have OKB := Seg.hid (okB_flat K1)
  clear k1 k2 k3 k4 k5 k6 k7 K1 CT LOK FW BW LA1 T1
  refine (Ft.l3All_own _ ⟨r.start, r.mark, r.roll, cutSs r.mark r.segs⟩ ((w3.alloc _).alloc _) (w1.heap.size + 1) w3.heap.size ⟨_, rfl, OW.out.below (below2 w3 _ _)⟩ (by rw [hsz, hsz]; omega) (by show (cutSs r.mark r.segs).length ≤ _; omega) (by show (flatB (cutSs r.mark r.segs)).length ≤ _; omega)).mono ?_
  rintro e w5 ⟨va, rfl, hba, b5⟩
  obtain ⟨HA, hra, hhb⟩ := hba
  obtain ⟨pa, hpa, hra5, hha⟩ := row_pairs hra hhb
  rw [hsz, hsz] at hra5
  have B35 := Seg.hid (chain (below2 w3 _ _) b5)
  have B5 := Seg.hid (chain B3.out B35.out)
  have E5 : Hid (w5.heap[w3.heap.size + 1]? = some (.cells #[] 58 (0, 0))) := by
    have := heap_alloc_new (w3.alloc (.cells #[.int .i64 r.start, .int .i64 r.mark, .int .i64 r.roll, .slice A5 (cutSs r.mark r.segs).length c5] 28 (0, 0))) (.cells #[] 58 (0, 0))
    rw [hsz] at this
    exact (b5.block (w3.heap.size + 1) (by rw [hsz, hsz]; omega)).trans this
  have L5 : Hid (w5.heap[w3.heap.size]? = some (.cells #[.int .i64 r.start, .int .i64 r.mark, .int .i64 r.roll, .slice A5 (cutSs r.mark r.segs).length c5] 28 (0, 0))) := (b5.block w3.heap.size (by rw [hsz, hsz]; omega)).trans (((below1 _ _).block _ (by rw [hsz]; omega)).trans (heap_alloc_new _ _))
  have s5 := b5.size
  rw [hsz, hsz] at s5
  have SP : Hid ((fromP r.start pa).map Prod.fst = safe p) := by show _ = _; rw [fromP_fst, hpa, SF.out]
  have OKP : Hid (∀ i, i < pa.length → BOk.batOk (pa.getD i default).1 = true) := fun i hi => by
    rw [← getD_fst, hpa]
    exact all_mem.2 OKB.out i (by rw [← hpa, List.length_map]; exact hi)
  have PAL : pa.length ≤ 400 := by rw [← List.length_map (f := Prod.fst), hpa]; exact FLB
  obtain ⟨_, Aa, ca, rfl, hrowa⟩ := hra5
  have HRA := Seg.hid hrowa
  have HHA := Seg.hid hha
  clear hra hhb b5 hrowa hha OKB SF hpa FLB SLB OW
  generalize cutSs r.mark r.segs = ss at *
  have P0 : Hid (PQ w5 w5 (w3.heap.size + 1) (fun k => k = w3.heap.size + 1) (.slice (some ⟨w3.heap.size + 1, 0, none⟩) 0 0) []) := by
    refine ⟨⟨rfl, .inr ⟨w3.heap.size + 1, 0, #[], rfl, Nat.le_refl _, E5.out, Nat.le_refl _, Nat.zero_le _, rfl, by simp [cellsP]⟩⟩, fun _ _ _ => rfl, fun q hq => ?_, ⟨rfl, rfl, rfl⟩, Nat.le_refl _, by omega, rfl⟩
    simp only [Value.ownBlock, Option.some.injEq] at hq
    exact ⟨.inl hq.symm, hq ▸ ⟨_, _, _, E5.out⟩⟩
  go_wp2_with fail
  go_loopw [6, 8] (fun v i wr => ∃ (j : Nat) (ps : List BV) (A1 : Option Addr) (c1 : Nat), j ≤ pa.length ∧ ps.length ≤ j ∧ i = .int .i64 j ∧ v = .slice A1 ps.length c1 ∧ Hid (ps = fromP r.start (pa.take j) ∧ PQ w5 wr (w3.heap.size + 1) (fun k => k = w3.heap.size + 1) (.slice A1 ps.length c1) ps)) (fun _ i _ => pa.length - (intOf i).toNat)
  case atStart => exact ⟨0, [], some ⟨w3.heap.size + 1, 0, none⟩, 0, Nat.zero_le _, Nat.le_refl _, rfl, rfl, rfl, P0.out⟩
  case round =>
    clear P0
    obtain ⟨j, ps, A1, c1, hj, hpj, rfl, rfl, HW⟩ := hrel
    have PR := Seg.hid HW.out.2
    have hzr := PR.out.size
    by_cases hlt : j < pa.length
    · have h0 : (0 : Int) ≤ (j : Int) := by omega
      have h1 : (j : Int) < (pa.length : Int) := by omega
      obtain ⟨ga, oa, rfl, hga, hca, hcella, hgl⟩ := HRA.out.resolve_left (by omega)
      have FT := Seg.hid (from_take (x := r.start) hlt)
      have PE := Seg.hid HW.out.1
      have RJ := HHA.out j hlt
      have OKJ := Seg.hid (OKP.out j hlt)
      have SEV0 := Bats.six hcella j hlt
      rw [getD_fst] at SEV0
      obtain ⟨_, ⟨_, Ah, ch, hHj, _⟩, _⟩ := id RJ
      have TJ : Hid (pa.getD j default = ((pa.getD j default).1, .slice Ah (pa.getD j default).1.recs.length ch)) := by show _ = _; rw [← hHj]
      rw [hHj] at RJ SEV0
      rw [TJ.out] at FT
      clear hcella HW TJ hHj
      try dsimp only at FT
      generalize (pa.getD j default).1 = tj at *
      have hgr : ga < wr.heap.size := by omega
      have KP : Hid (∀ (wx : World) (vv : Value) (uu : List BV), PQ w5 wx (w3.heap.size + 1) (fun k => k = w3.heap.size + 1) vv uu → (wx.cell? ⟨ga, oa + j * 7, none⟩ = some (.int .i64 tj.base) ∧ wx.cell? ⟨ga, oa + j * 7 + 1, none⟩ = some (.int .i64 tj.epoch) ∧ wx.cell? ⟨ga, oa + j * 7 + 2, none⟩ = some (.int .i64 tj.producer) ∧ wx.cell? ⟨ga, oa + j * 7 + 3, none⟩ = some (.int .i64 tj.turn) ∧ wx.cell? ⟨ga, oa + j * 7 + 4, none⟩ = some (.int .i64 tj.seq) ∧ wx.cell? ⟨ga, oa + j * 7 + 5, none⟩ = some (.int .i64 tj.flags) ∧ wx.cell? ⟨ga, oa + j * 7 + 6, none⟩ = some (.slice Ah tj.recs.length ch) ∧ wx.cell? ⟨w3.heap.size, 0, none⟩ = some (.int .i64 r.start)) ∧ RecsAt wx (w1.heap.size + 1) w3.heap.size (.slice Ah tj.recs.length ch) tj.recs) := fun wx vv uu q => by
        have kg := q.keep ga hga (by omega)
        have kl := (q.keep w3.heap.size (by omega) (by omega)).trans L5.out
        obtain ⟨e0, e1, e2, e3, e4, e5, e6⟩ := SEV0
        refine ⟨⟨(World.cell?_of_block kg).trans e0, (World.cell?_of_block kg).trans e1, (World.cell?_of_block kg).trans e2, (World.cell?_of_block kg).trans e3, (World.cell?_of_block kg).trans e4, (World.cell?_of_block kg).trans e5, (World.cell?_of_block kg).trans e6, cell_of_row wx w3.heap.size 0 _ _ (0, 0) kl⟩, RJ.keep fun x _ hx => q.keep x (by omega) (by omega)⟩
      have LST := Seg.hid (last_ge OKJ.out r.start)
      have LAST : Hid (∀ wx, Below wr.heap.size wr wx → Calls Try.prog 38 #[.agg #[.int .i64 tj.base, .int .i64 tj.epoch, .int .i64 tj.producer, .int .i64 tj.turn, .int .i64 tj.seq, .int .i64 tj.flags, .slice Ah tj.recs.length ch]] wx fun e w' => e = .returned (.int .i64 (BOk.last tj)) ∧ Below wx.heap.size wx w') := fun wx bx => BOk.specLast_any _ tj wx (w1.heap.size + 1) w3.heap.size ⟨_, rfl, (KP.out wx _ _ (PR.out.later bx)).2⟩ (by have := bx.size; omega)
      obtain ⟨la, hla⟩ : ∃ la, BOk.last tj = la := ⟨_, rfl⟩
      rw [hla] at LST LAST
      have ST : Hid (∀ wx, Below wr.heap.size wr wx → wx.cell? ⟨ga, oa + j * 7, none⟩ = some (.int .i64 tj.base) ∧ wx.cell? ⟨ga, oa + j * 7 + 1, none⟩ = some (.int .i64 tj.epoch) ∧ wx.cell? ⟨ga, oa + j * 7 + 2, none⟩ = some (.int .i64 tj.producer) ∧ wx.cell? ⟨ga, oa + j * 7 + 3, none⟩ = some (.int .i64 tj.turn) ∧ wx.cell? ⟨ga, oa + j * 7 + 4, none⟩ = some (.int .i64 tj.seq) ∧ wx.cell? ⟨ga, oa + j * 7 + 5, none⟩ = some (.int .i64 tj.flags) ∧ wx.cell? ⟨ga, oa + j * 7 + 6, none⟩ = some (.slice Ah tj.recs.length ch) ∧ wx.cell? ⟨w3.heap.size, 0, none⟩ = some (.int .i64 r.start)) := fun wx bx => (KP.out wx _ _ (PR.out.later bx)).1
      clear hla SEV0 RJ
      have hpl : w3.heap.size < wr.heap.size := by omega
      obtain ⟨e0, e1, e2, e3, e4, e5, e6, e7⟩ := ST.out wr (Below.refl _ _)
      by_cases hp : r.start ≤ la
      · have EQ2 : Hid (ps ++ [(tj, .slice Ah tj.recs.length ch)] = fromP r.start (pa.take (j + 1))) := by show _ = _; rw [FT.out, if_pos (LST.out.1 hp), PE.out]
        go_wp2_with fail
        go_region_held3 (fun w' => w'.cell? ⟨ga, oa + j * 7, none⟩ = some (.int .i64 tj.base) ∧ w'.cell? ⟨ga, oa + j * 7 + 1, none⟩ = some (.int .i64 tj.epoch) ∧ w'.cell? ⟨ga, oa + j * 7 + 2, none⟩ = some (.int .i64 tj.producer) ∧ w'.cell? ⟨ga, oa + j * 7 + 3, none⟩ = some (.int .i64 tj.turn) ∧ w'.cell? ⟨ga, oa + j * 7 + 4, none⟩ = some (.int .i64 tj.seq) ∧ w'.cell? ⟨ga, oa + j * 7 + 5, none⟩ = some (.int .i64 tj.flags) ∧ w'.cell? ⟨ga, oa + j * 7 + 6, none⟩ = some (.slice Ah tj.recs.length ch) ∧ w'.cell? ⟨w3.heap.size, 0, none⟩ = some (.int .i64 r.start)) (first | go_keep | exact ⟨e0, e1, e2, e3, e4, e5, e6, e7⟩ | exact ⟨d0, d1, d2, d3, d4, d5, d6, d7⟩)
          (first | (go_at_call 38; refine (LAST.out _ (Below.refl _ _).drew).mono ?_; rintro e w8 ⟨rfl, b8⟩; have B8 : Hid (Below wr.heap.size wr w8) := ⟨b8.os, b8.tape, b8.output, b8.size, b8.block⟩; obtain ⟨d0, d1, d2, d3, d4, d5, d6, d7⟩ := ST.out w8 B8.out; clear b8))
        have PR8 := Seg.hid (PR.out.later B8.out)
        have s8 := B8.out.size
        have hg8 : ga < w8.heap.size := by omega
        clear e0 e1 e2 e3 e4 e5 e6 e7 d7
        go_wp2_with (at_builtin; (refine wpList_append_lies _ rfl _ _ 40 rfl (w3.heap.size + 1) 58 i0 _ 7 72 Try.underlying40 hi hz0 hz1 hz2 rfl (by decide) (.slice A1 ps.length c1) ps.length (cellsP ps) rfl (World.ownsRow.alloc PR8.out.own _) ⟨w8.heap.size, 0, none⟩ 1 1 (BatW.batArr tj (.slice Ah tj.recs.length ch)).toList rfl rfl (World.news_of_block (cs := BatW.batArr tj (.slice Ah tj.recs.length ch)) (heap_alloc_new w8 _)) (by simp [BatW.batArr, Value.oneCell']) (by decide) (by unfold maxLen; omega) (by omega) (by rw [hsz]; omega) (w8.heap.size + 1) (hsz w8 _) ?_; intro g9 cap9 w9 hown9 gr9 hat9 hlt9; have D9 := Seg.hid (PQ.push (p := (tj, .slice Ah tj.recs.length ch)) PR8.out hown9 gr9 hat9); clear hown9 gr9 hat9 hlt9))
        go_roundw
        case rel => exact ⟨j + 1, ps ++ [(tj, .slice Ah tj.recs.length ch)], some ⟨g9, 0, none⟩, cap9, by omega, by simp; omega, by go_num, by simp, EQ2.out, by simpa using D9.out⟩
        case measure => simp [intOf]; omega
      · have EQ2 : Hid (ps = fromP r.start (pa.take (j + 1))) := by show _ = _; rw [FT.out, if_neg (fun h => hp (LST.out.2 h)), List.append_nil]; exact PE.out
        go_wp2_with fail
        go_region_held3 (fun w' => w'.cell? ⟨ga, oa + j * 7, none⟩ = some (.int .i64 tj.base) ∧ w'.cell? ⟨ga, oa + j * 7 + 1, none⟩ = some (.int .i64 tj.epoch) ∧ w'.cell? ⟨ga, oa + j * 7 + 2, none⟩ = some (.int .i64 tj.producer) ∧ w'.cell? ⟨ga, oa + j * 7 + 3, none⟩ = some (.int .i64 tj.turn) ∧ w'.cell? ⟨ga, oa + j * 7 + 4, none⟩ = some (.int .i64 tj.seq) ∧ w'.cell? ⟨ga, oa + j * 7 + 5, none⟩ = some (.int .i64 tj.flags) ∧ w'.cell? ⟨ga, oa + j * 7 + 6, none⟩ = some (.slice Ah tj.recs.length ch) ∧ w'.cell? ⟨w3.heap.size, 0, none⟩ = some (.int .i64 r.start)) (first | go_keep | exact ⟨e0, e1, e2, e3, e4, e5, e6, e7⟩ | exact ⟨d0, d1, d2, d3, d4, d5, d6, d7⟩)
          (first | (go_at_call 38; refine (LAST.out _ (Below.refl _ _).drew).mono ?_; rintro e w8 ⟨rfl, b8⟩; have B8 : Hid (Below wr.heap.size wr w8) := ⟨b8.os, b8.tape, b8.output, b8.size, b8.block⟩; obtain ⟨d0, d1, d2, d3, d4, d5, d6, d7⟩ := ST.out w8 B8.out; clear b8))
        clear e0 e1 e2 e3 e4 e5 e6 e7 d0 d1 d2 d3 d4 d5 d6 d7
        go_wp2_with fail
        go_roundw
        case rel => exact ⟨j + 1, ps, A1, c1, by omega, by omega, by go_num, rfl, EQ2.out, PR.out.later B8.out⟩
        case measure => simp [intOf]; omega
    · have hjl : j = pa.length := by omega
      have EN : Hid (BatsAt wr 0 wr.heap.size (.slice A1 ps.length c1) (safe p)) := by
        have hps := HW.out.1
        rw [hjl, List.take_length] at hps
        have h9 := bats_own (by omega) HW.out.2.own (fun q hq => by
          rw [hps] at hq
          have hq' := (List.mem_filter.1 hq).1
          obtain ⟨i, hi9, rfl⟩ := List.getElem_of_mem hq'
          have := HHA.out i hi9
          rw [List.getD_eq_getElem?_getD, List.getElem?_eq_getElem hi9, Option.getD_some] at this
          exact (this.keep fun x _ hx => PR.out.keep x (by omega) (by omega)).mono (Nat.zero_le _) (by omega))
        rw [← SP.out, ← hps]
        exact h9
      have BE : Hid (Below w.heap.size w wr) := PR.out.below (fun x hx => by omega) B5.out
      subst hjl
      clear HW
      go_wp2_with fail
      go_ret
      exact ⟨_, rfl, EN.out, BE.out⟩
end Go.Proofs.Yticihnoekffelaa.SfS
namespace Go.Proofs.Yticihnoekffelaa.Ow
set_option maxRecDepth 8000
open Go.RowKit
open Recs
open Ls
set_option linter.unusedVariables false

/-- Block g is a row of the call's own, of n elements of s cells, with room for c; cell q holds 'F q'. -/
def MineC (w : World) (e s g n c : Nat) (F : Nat → Value) : Prop := w.ownsRow g e s (.slice (some ⟨g, 0, none⟩) n c) n ((List.range (n * s)).map F)
section
variable {w w' : World} {e s g n c b : Nat} {F : Nat → Value}
theorem MineC.cell (h : MineC w e s g n c F) (q : Nat) (hq : q < n * s) : w.cell? ⟨g, q, none⟩ = some (F q) := by
  have := World.ownsRow.cellAt h q hq
  rw [this]
  simp [hq]
theorem MineC.frozen (h : MineC w e s g n c F) (q : Nat) : w.frozen? ⟨g, q, none⟩ = false := World.ownsRow.frozenAt h q
theorem MineC.lt (h : MineC w e s g n c F) : g < w.heap.size := by
  rcases h.2 with ⟨h', _⟩ | ⟨g', cap', cur, h', hb, hg, hnc, hcm, hcs, htake⟩
  · simp at h'
  · simp only [Value.slice.injEq, Option.some.injEq, Addr.mk.injEq, and_true, true_and] at h'
    obtain ⟨rfl, rfl⟩ := h'
    exact (Array.getElem?_eq_some_iff.1 hg).1
theorem MineC.le (h : MineC w e s g n c F) : n ≤ c := by
  rcases h.2 with ⟨h', _⟩ | ⟨g', cap', cur, h', hb, hg, hnc, hcm, hcs, htake⟩
  · simp at h'
  · simp only [Value.slice.injEq, Option.some.injEq, Addr.mk.injEq, and_true, true_and] at h'
    obtain ⟨rfl, rfl⟩ := h'
    exact hnc
theorem MineC.set (h : MineC w e s g n c F) (q : Nat) (v : Value) : MineC (w.setCell ⟨g, q, none⟩ v) e s g n c (fun i => if i = q then v else F i) := by
  have := (World.ownsRow.stored h q v).1
  have he : ((List.range (n * s)).map F).set q v = (List.range (n * s)).map (fun i => if i = q then v else F i) := List.ext_getElem (by simp) fun i h1 h2 => by
    by_cases hi : i = q
    · subst hi; simp
    · rw [List.getElem_set_ne (by omega)]; simp [hi]
  rw [he] at this
  exact this
theorem MineC.keep (h : MineC w e s g n c F) (hk : w'.heap[g]? = w.heap[g]?) : MineC w' e s g n c F := by
  refine ⟨h.1, ?_⟩
  rcases h.2 with hn | ⟨g', cap, cur, h', hbs, hgg, rest⟩
  · exact .inl hn
  · have h'' := h'
    simp only [Value.slice.injEq, Option.some.injEq, Addr.mk.injEq, and_true, true_and] at h''
    obtain ⟨rfl, rfl⟩ := h''
    exact .inr ⟨g, c, cur, h', hbs, by rw [hk]; exact hgg, rest⟩
end
/-- Blocks outside a set are as they were. -/
structure Foot (w w' : World) (S : Nat → Prop) : Prop where
  os : w'.os = w.os
  tape : w'.tape = w.tape
  output : w'.output = w.output
  size : w.heap.size ≤ w'.heap.size
  block : ∀ k, k < w.heap.size → ¬ S k → w'.heap[k]? = w.heap[k]?
theorem Foot.refl (w : World) (S : Nat → Prop) : Foot w w S := ⟨rfl, rfl, rfl, Nat.le_refl _, fun _ _ _ => rfl⟩
theorem Foot.set {w wr : World} {S : Nat → Prop} {g q : Nat} (h : Foot w wr S) (hg : S g) (v : Value) : Foot w (wr.setCell ⟨g, q, none⟩ v) S :=
  ⟨h.os, h.tape, h.output, by simpa using h.size, fun k hk hw => (heap_setCell_other wr ⟨g, q, none⟩ k v (fun e => hw (e ▸ hg))).trans (h.block k hk hw)⟩
theorem Foot.below {w wr w' : World} {S : Nat → Prop} (h : Foot w wr S) (hb : Below wr.heap.size wr w') : Foot w w' S :=
  ⟨hb.os.trans h.os, hb.tape.trans h.tape, hb.output.trans h.output, Nat.le_trans h.size hb.size, fun k hk hw => (hb.block k (Nat.lt_of_lt_of_le hk h.size)).trans (h.block k hk hw)⟩
theorem Foot.trans {w wr w' : World} {S S' : Nat → Prop} (h : Foot w wr S) (h' : Foot wr w' S') (hs : ∀ x, S' x → S x) : Foot w w' S :=
  ⟨h'.os.trans h.os, h'.tape.trans h.tape, h'.output.trans h.output, Nat.le_trans h.size h'.size, fun k hk hw => (h'.block k (Nat.lt_of_lt_of_le hk h.size) (fun e => hw (hs k e))).trans (h.block k hk hw)⟩
theorem Foot.mono {w w' : World} {S S' : Nat → Prop} (h : Foot w w' S) (hs : ∀ x, S x → S' x) : Foot w w' S' :=
  ⟨h.os, h.tape, h.output, h.size, fun k hk hw => h.block k hk (fun e => hw (hs k e))⟩
theorem Foot.toBelow {w w' : World} {S : Nat → Prop} {lo : Nat} (h : Foot w w' S) (hs : ∀ x, S x → lo ≤ x) (hl : lo ≤ w.heap.size) : Below lo w w' := ⟨h.os, h.tape, h.output, h.size, fun k hk => h.block k (by omega) (fun e => by have := hs k e; omega)⟩
theorem Foot.of_below {w w' : World} (hb : Below w.heap.size w w') (S : Nat → Prop) : Foot w w' S := (Foot.refl w S).below hb

section
variable {T : Type} [Inhabited T] {ty nf : Nat} {EO : Elt T}
/-- What an element says hangs on the blocks of its set and on its own cells alone. -/
def KeepsO (nf : Nat) (EO : Elt T) : Prop := ∀ w w' S f f' t, EO w S f t → w.heap.size ≤ w'.heap.size → (∀ g, S g → w'.heap[g]? = w.heap[g]?) → (∀ q, q < nf → f' q = f q) → EO w' S f' t
structure LOpen (ty nf : Nat) (EO : Elt T) (w : World) (g n c : Nat) (F : Nat → Value) (P : Nat → Nat → Prop) (us : List T) : Prop where
  mine : MineC w ty nf g n c F
  len : us.length = n
  el : ∀ i, i < n → EO w (P i) (fun q => F (i * nf + q)) (us.getD i default)
  apart : ∀ i, i < n → ∀ x, P i x → x ≠ g ∧ x < w.heap.size
  disj : ∀ i j, i < n → j < n → i ≠ j → ∀ x, P i x → ¬ P j x
def LOwn (ty nf : Nat) (EO : Elt T) (w : World) (S : Nat → Prop) (v : Value) (us : List T) : Prop :=
  us.length ≤ 1048576 ∧ ∃ A c, v = .slice A us.length c ∧ (us.length = 0 ∨ ∃ (g : Nat) (F : Nat → Value) (P : Nat → Nat → Prop), A = some ⟨g, 0, none⟩ ∧ S g ∧ (∀ i, i < us.length → ∀ x, P i x → S x) ∧ LOpen ty nf EO w g us.length c F P us)
theorem LOpen.keep (hE : KeepsO nf EO) {w w' : World} {g n c : Nat} {F : Nat → Value} {P : Nat → Nat → Prop} {us : List T} (h : LOpen ty nf EO w g n c F P us) (hs : w.heap.size ≤ w'.heap.size) (hg : w'.heap[g]? = w.heap[g]?) (hk : ∀ i, i < n → ∀ x, P i x → w'.heap[x]? = w.heap[x]?) : LOpen ty nf EO w' g n c F P us :=
  ⟨h.mine.keep hg, h.len, fun i hi => hE _ _ _ _ _ _ (h.el i hi) hs (hk i hi) (fun _ _ => rfl), fun i hi x hx => ⟨(h.apart i hi x hx).1, Nat.lt_of_lt_of_le (h.apart i hi x hx).2 hs⟩, h.disj⟩
theorem LOwn.keep (hE : KeepsO nf EO) {w w' : World} {S : Nat → Prop} {v : Value} {us : List T} (h : LOwn ty nf EO w S v us) (hs : w.heap.size ≤ w'.heap.size) (hk : ∀ g, S g → w'.heap[g]? = w.heap[g]?) : LOwn ty nf EO w' S v us := by
  obtain ⟨h0, A, c, h1, h2⟩ := h
  refine ⟨h0, A, c, h1, h2.imp id ?_⟩
  rintro ⟨g, F, P, h3, h4, h5, h6⟩
  exact ⟨g, F, P, h3, h4, h5, h6.keep hE hs (hk g h4) (fun i hi x hx => hk x (h5 i hi x hx))⟩
theorem LOwn.mono {w : World} {S S' : Nat → Prop} {v : Value} {us : List T} (h : LOwn ty nf EO w S v us) (hs : ∀ x, S x → S' x) : LOwn ty nf EO w S' v us := by
  obtain ⟨h0, A, c, h1, h2⟩ := h
  refine ⟨h0, A, c, h1, h2.imp id ?_⟩
  rintro ⟨g, F, P, h3, h4, h5, h6⟩
  exact ⟨g, F, P, h3, hs g h4, fun i hi x hx => hs x (h5 i hi x hx), h6⟩
theorem LOwn.nil (w : World) (S : Nat → Prop) (A : Option Addr) (c : Nat) : LOwn ty nf EO w S (.slice A 0 c) ([] : List T) := ⟨by simp, A, c, rfl, .inl rfl⟩
theorem LOwn.form {w : World} {S : Nat → Prop} {v : Value} {us : List T} (h : LOwn ty nf EO w S v us) : ∃ A c, v = .slice A us.length c := by
  obtain ⟨_, A, c, h1, _⟩ := h
  exact ⟨A, c, h1⟩
theorem LOwn.set (hE : KeepsO nf EO) {w : World} {S : Nat → Prop} {v : Value} {us : List T} (h : LOwn ty nf EO w S v us) {g : Nat} (q : Nat) (hg : ∀ y, S y → y ≠ g) (x : Value) : LOwn ty nf EO (w.setCell ⟨g, q, none⟩ x) S v us := h.keep hE (by simp) (fun y hy => heap_setCell_other _ _ _ _ (hg y hy))
theorem LOwn.belowO (hE : KeepsO nf EO) {w w' : World} {S : Nat → Prop} {v : Value} {us : List T} (h : LOwn ty nf EO w S v us) (hb : Below w.heap.size w w') (hS : ∀ y, S y → y < w.heap.size) : LOwn ty nf EO w' S v us := h.keep hE hb.size (fun y hy => hb.block y (hS y hy))
theorem LOwn.footO (hE : KeepsO nf EO) {w w' : World} {S Q : Nat → Prop} {v : Value} {us : List T} (h : LOwn ty nf EO w S v us) (hf : Foot w w' Q) (hS : ∀ y, S y → y < w.heap.size) (hQ : ∀ y, S y → ¬ Q y) : LOwn ty nf EO w' S v us := h.keep hE hf.size (fun y hy => hf.block y (hS y hy) (hQ y hy))
/-- A list of one's own is one that is read. -/
theorem LOwn.lat {E : Elt T} (hG : Grows E) (hE : ∀ w S f t, EO w S f t → E w S f t) {w : World} {S : Nat → Prop} {v : Value} {us : List T} (h : LOwn ty nf EO w S v us) : LAt nf E w S v us := by
  obtain ⟨h0, A, c, rfl, h2⟩ := h
  refine ⟨by omega, A, c, rfl, h2.imp id ?_⟩
  rintro ⟨g, F, P, rfl, h4, h5, h6⟩
  refine ⟨g, 0, fun i q => F (i * nf + q), rfl, h4, h6.mine.le, fun i hi j hj => ?_, fun i hi => hG _ _ _ _ _ (hE _ _ _ _ (h6.el i hi)) (h5 i hi)⟩
  have hq : i * nf + j < us.length * nf := by
    have : (i + 1) * nf ≤ us.length * nf := Nat.mul_le_mul_right nf hi
    rw [Nat.succ_mul] at this
    omega
  rw [Nat.zero_add]
  exact h6.mine.cell _ hq
theorem getD_set_same {us : List T} {j : Nat} (t : T) (h : j < us.length) : (us.set j t).getD j default = t := by simp [h]
theorem getD_set_other {us : List T} {i j : Nat} (t : T) (h : i ≠ j) : (us.set j t).getD i default = us.getD i default := by
  simp [List.getD_eq_getElem?_getD, List.getElem?_set_ne (Ne.symm h)]
theorem cell_of {nf i j q p : Nat} (hq : q < nf) (hp : p < nf) (h : i ≠ j) : ¬ i * nf + q = j * nf + p := by
  by_cases hl : i < j
  · have : (i + 1) * nf ≤ j * nf := Nat.mul_le_mul_right nf hl
    rw [Nat.succ_mul] at this
    omega
  · have : (j + 1) * nf ≤ i * nf := Nat.mul_le_mul_right nf (by omega)
    rw [Nat.succ_mul] at this
    omega
/-- One element of a list is being written: its cells hold vs; the lists of the element lie in the set Pj. -/
def Rnd (ty nf g n c : Nat) (Pj : Nat → Prop) (w0 wr W : World) (S : Nat → Prop) (F0 : Nat → Value) (j : Nat) (vs : List Value) : Prop :=
  vs.length = nf ∧ ∃ F, MineC W ty nf g n c F ∧ (∀ i, i ≠ j → ∀ q, q < nf → F (i * nf + q) = F0 (i * nf + q)) ∧ (∀ q, q < nf → F (j * nf + q) = vs.getD q default) ∧
    (∀ q, q ≠ g → ¬ Pj q → q < wr.heap.size → W.heap[q]? = wr.heap[q]?) ∧ wr.heap.size ≤ W.heap.size ∧ Foot w0 W S
section
variable {g n c j : Nat} {Pj : Nat → Prop} {w0 wr W : World} {S : Nat → Prop} {F0 : Nat → Value} {vs : List Value}
theorem Rnd.start {F : Nat → Value} (h : MineC wr ty nf g n c F) (hf : Foot w0 wr S) (hl : vs.length = nf) (hv : ∀ q, q < nf → F (j * nf + q) = vs.getD q default) : Rnd ty nf g n c Pj w0 wr wr S F j vs :=
  ⟨hl, F, h, fun _ _ _ _ => rfl, hv, fun _ _ _ _ => rfl, Nat.le_refl _, hf⟩
theorem Rnd.cell (h : Rnd ty nf g n c Pj w0 wr W S F0 j vs) (hj : j < n) (q : Nat) (hq : q < nf) : W.cell? ⟨g, j * nf + q, none⟩ = some (vs.getD q default) := by
  obtain ⟨_, F, h1, _, h3, _⟩ := h
  have hqq : j * nf + q < n * nf := by
    have : (j + 1) * nf ≤ n * nf := Nat.mul_le_mul_right nf hj
    rw [Nat.succ_mul] at this
    omega
  rw [h1.cell _ hqq, h3 q hq]
theorem Rnd.frozen (h : Rnd ty nf g n c Pj w0 wr W S F0 j vs) (q : Nat) : W.frozen? ⟨g, q, none⟩ = false := by
  obtain ⟨_, F, h1, _⟩ := h
  exact h1.frozen q
theorem Rnd.lt (h : Rnd ty nf g n c Pj w0 wr W S F0 j vs) : g < W.heap.size := by
  obtain ⟨_, F, h1, _⟩ := h
  exact h1.lt
theorem Rnd.le (h : Rnd ty nf g n c Pj w0 wr W S F0 j vs) : wr.heap.size ≤ W.heap.size := by
  obtain ⟨_, F, _, _, _, _, h5, _⟩ := h
  exact h5
theorem Rnd.set (h : Rnd ty nf g n c Pj w0 wr W S F0 j vs) (hS : S g) (q : Nat) (hq : q < nf) (v : Value) : Rnd ty nf g n c Pj w0 wr (W.setCell ⟨g, j * nf + q, none⟩ v) S F0 j (vs.set q v) := by
  obtain ⟨h0, F, h1, h2, h3, h4, h5, h6⟩ := h
  refine ⟨by simp [h0], _, h1.set (j * nf + q) v, fun i hi p hp => ?_, fun p hp => ?_, fun p hp hn hl => (heap_setCell_other _ _ _ _ hp).trans (h4 p hp hn hl), by simpa using h5, h6.set hS v⟩
  · rw [if_neg (cell_of hp hq hi)]
    exact h2 i hi p hp
  · by_cases e : p = q
    · subst e
      rw [if_pos rfl]
      simp [h0, hp]
    · rw [if_neg (by omega), h3 p hp]
      simp [List.getD_eq_getElem?_getD, List.getElem?_set_ne (Ne.symm e)]
theorem Rnd.below {w1 : World} (h : Rnd ty nf g n c Pj w0 wr W S F0 j vs) (hb : Below W.heap.size W w1) : Rnd ty nf g n c Pj w0 wr w1 S F0 j vs := by
  obtain ⟨h0, F, h1, h2, h3, h4, h5, h6⟩ := h
  exact ⟨h0, F, h1.keep (hb.block g h1.lt), h2, h3, fun q hq hn hl => (hb.block q (by omega)).trans (h4 q hq hn hl), Nat.le_trans h5 hb.size, h6.below hb⟩
theorem Rnd.foot {w1 : World} {Q : Nat → Prop} (h : Rnd ty nf g n c Pj w0 wr W S F0 j vs) (hf : Foot W w1 Q) (hQ : ∀ x, Q x → Pj x) (hg : ¬ Pj g) (hS : ∀ x, Pj x → S x) : Rnd ty nf g n c Pj w0 wr w1 S F0 j vs := by
  obtain ⟨h0, F, h1, h2, h3, h4, h5, h6⟩ := h
  exact ⟨h0, F, h1.keep (hf.block g h1.lt (fun e => hg (hQ g e))), h2, h3, fun q hq hn hl => (hf.block q (by omega) (fun e => hn (hQ q e))).trans (h4 q hq hn hl), Nat.le_trans h5 hf.size, h6.trans hf (fun x hx => hS x (hQ x hx))⟩
theorem Rnd.done (hE : KeepsO nf EO) {P : Nat → Nat → Prop} {us : List T} {t : T} (ho : LOpen ty nf EO wr g n c F0 P us) (hj : j < n) (h : Rnd ty nf g n c (P j) w0 wr W S F0 j vs) (he : EO W (P j) (fun q => vs.getD q default) t) : ∃ F, LOpen ty nf EO W g n c F P (us.set j t) ∧ Foot w0 W S := by
  obtain ⟨h0, F, h1, h2, h3, h4, h5, h6⟩ := h
  refine ⟨F, ⟨h1, by rw [List.length_set]; exact ho.len, fun i hi => ?_, fun i hi x hx => ⟨(ho.apart i hi x hx).1, Nat.lt_of_lt_of_le (ho.apart i hi x hx).2 h5⟩, ho.disj⟩, h6⟩
  by_cases e : i = j
  · subst e
    rw [getD_set_same t (by rw [ho.len]; exact hi)]
    exact hE _ _ _ _ _ _ he (Nat.le_refl _) (fun _ _ => rfl) h3
  · rw [getD_set_other t e]
    exact hE _ _ _ _ _ _ (ho.el i hi) h5 (fun x hx => h4 x (ho.apart i hi x hx).1 (ho.disj i j hi hj e x hx) (ho.apart i hi x hx).2) (fun q hq => h2 i e q hq)
end
end
theorem keepsO_of {T : Type} {nf : Nat} {E : Elt T} (h : Keeps nf E) : KeepsO nf E := fun w w' S f f' t he _ hk hf => h w w' S f f' t he hk hf

section
variable {T : Type} (m1 : Nat → T → T) (n1 : T → Nat)
/-- How many numbers the marks of a list take (Ls.tot); the list with its marks from k on. -/
def mL : Nat → List T → List T
  | _, [] => []
  | k, t :: r => m1 k t :: mL (k + n1 t) r
theorem mL_len : ∀ (k : Nat) (ts : List T), (mL m1 n1 k ts).length = ts.length
  | _, [] => rfl
  | k, t :: r => by simp [mL, mL_len (k + n1 t) r]
theorem mL_app : ∀ (k : Nat) (a b : List T), mL m1 n1 k (a ++ b) = mL m1 n1 k a ++ mL m1 n1 (k + tot n1 a) b
  | k, [], b => by simp [mL, tot]
  | k, t :: r, b => by simp only [List.cons_append, mL, tot, mL_app (k + n1 t) r b, Nat.add_assoc]
theorem take_one [Inhabited T] {ts : List T} {j : Nat} (h : j < ts.length) : ts.take (j + 1) = ts.take j ++ [ts.getD j default] := by
  rw [List.take_add_one, List.getElem?_eq_getElem h]; simp [h]
/-- How far the list is marked: j elements. -/
def mid (k j : Nat) (ts : List T) : List T := mL m1 n1 k (ts.take j) ++ ts.drop j
theorem mid_len (k j : Nat) (ts : List T) : (mid m1 n1 k j ts).length = ts.length := by
  unfold mid
  rw [List.length_append, mL_len, List.length_take, List.length_drop]; omega
theorem mid_zero (k : Nat) (ts : List T) : mid m1 n1 k 0 ts = ts := by simp [mid, mL]
theorem mid_all (k : Nat) (ts : List T) : mid m1 n1 k ts.length ts = mL m1 n1 k ts := by simp [mid]
theorem mid_get [Inhabited T] {k j : Nat} {ts : List T} (h : j < ts.length) : (mid m1 n1 k j ts).getD j default = ts.getD j default := by
  unfold mid
  have hl : (mL m1 n1 k (ts.take j)).length = j := by rw [mL_len, List.length_take]; omega
  rw [List.getD_eq_getElem?_getD, List.getElem?_append_right (by omega), hl, Nat.sub_self, List.getElem?_drop, Nat.add_zero, ← List.getD_eq_getElem?_getD]
theorem mid_step [Inhabited T] {k j : Nat} {ts : List T} (h : j < ts.length) : (mid m1 n1 k j ts).set j (m1 (k + tot n1 (ts.take j)) (ts.getD j default)) = mid m1 n1 k (j + 1) ts := by
  unfold mid
  have hl : (mL m1 n1 k (ts.take j)).length = j := by rw [mL_len, List.length_take]; omega
  rw [List.set_append_right _ _ (by omega), hl, Nat.sub_self, take_one h, mL_app, List.append_assoc]
  congr 1
  rw [List.drop_eq_getElem_cons h, List.set_cons_zero]
  rfl
theorem mL_get [Inhabited T] {k j : Nat} {ts : List T} (h : j < ts.length) : (mL m1 n1 k ts).getD j default = m1 (k + tot n1 (ts.take j)) (ts.getD j default) := by
  have e : ts = ts.take j ++ (ts.getD j default :: ts.drop (j + 1)) := by
    conv => lhs; rw [← List.take_append_drop j ts, List.drop_eq_getElem_cons h]
    simp [h]
  have hl : (mL m1 n1 k (ts.take j)).length = j := by rw [mL_len, List.length_take]; omega
  have : mL m1 n1 k ts = mL m1 n1 k (ts.take j) ++ mL m1 n1 (k + tot n1 (ts.take j)) (ts.getD j default :: ts.drop (j + 1)) := by rw [← mL_app, ← e]
  rw [this, List.getD_eq_getElem?_getD, List.getElem?_append_right (by omega), hl, Nat.sub_self]
  simp [mL]
end
/-- Marks of numbers. -/
def mI (k : Nat) (_ : Int) : Int := (k : Int)
def nI (_ : Int) : Nat := 1
theorem nI_tot : ∀ ns : List Int, tot nI ns = ns.length
  | [] => rfl
  | _ :: r => by simp only [tot, nI_tot r, nI, List.length_cons]; omega
abbrev IntsOwn := LOwn 3 1 EI
theorem keepsOI : KeepsO 1 EI := keepsO_of keepsI
end Go.Proofs.Yticihnoekffelaa.Ow
