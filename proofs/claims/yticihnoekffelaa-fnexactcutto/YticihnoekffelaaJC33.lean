/- LogOk of the model: at every log; The model's CutTo. -/
import Derived.Test.YticihnoekffelaaJC32
import Derived.Test.YticihnoekffelaaJC29
import Derived.Test.YticihnoekffelaaJC30
import Derived.Test.YticihnoekffelaaJC31
namespace Go.Proofs.Yticihnoekffelaa.LgS
set_option maxRecDepth 8000
open Go.RowKit
open LgP (inR many logOk)
open InB (l1In_b)
open Bats SegW Segs LogW
open Recs (hsz Row below1 below2 BatAt RecsAt batVal Bat chain)
set_option linter.unusedVariables false
set_option maxHeartbeats 800000 in
theorem spec_no (l : Lg) (A : Option Addr) (c : Nat) (w : World) (hn : l.segs.length ≤ 1048576) (h : ahead l = false) :
    Calls Try.prog 22 #[logVal l (.slice A l.segs.length c)] w fun e w' => e = .returned (.bool false) ∧ Below w.heap.size w w' := by
  unfold logVal
  by_cases h0 : l.segs.length ≤ 60
  · cases h1 : inR l.roll 1 20000 with
    | false =>
      have H1 := Seg.hid h1
      clear h h1
      go_enter Try.func22, Try.ntmps22
      go_wp2_with fail
      refine (l1In_b l.roll 1 20000 false H1.out _).mono ?_
      rintro _ _ ⟨rfl, rfl⟩
      go_wp2
      go_ret
      exact ⟨rfl, below1 _ _⟩
    | true =>
      cases h2 : inR l.next 0 1000000000 with
      | false =>
        have H1 := Seg.hid h1
        have H2 := Seg.hid h2
        clear h h1 h2
        go_enter Try.func22, Try.ntmps22
        go_wp2_with fail
        refine (l1In_b l.roll 1 20000 true H1.out _).mono ?_
        rintro _ _ ⟨rfl, rfl⟩
        go_wp2_with fail
        refine (l1In_b l.next 0 1000000000 false H2.out _).mono ?_
        rintro _ _ ⟨rfl, rfl⟩
        go_wp2
        go_ret
        exact ⟨rfl, below1 _ _⟩
      | true =>
        have h3 : inR l.start 0 l.next = false := by
          simp only [ahead, decide_eq_true h0, h1, h2, Bool.true_and] at h
          exact h
        have H1 := Seg.hid h1
        have H2 := Seg.hid h2
        have H3 := Seg.hid h3
        clear h h1 h2 h3
        go_enter Try.func22, Try.ntmps22
        go_wp2_with fail
        refine (l1In_b l.roll 1 20000 true H1.out _).mono ?_
        rintro _ _ ⟨rfl, rfl⟩
        go_wp2_with fail
        refine (l1In_b l.next 0 1000000000 true H2.out _).mono ?_
        rintro _ _ ⟨rfl, rfl⟩
        go_wp2_with fail
        refine (l1In_b l.start 0 l.next false H3.out _).mono ?_
        rintro _ _ ⟨rfl, rfl⟩
        go_wp2
        go_ret
        exact ⟨rfl, below1 _ _⟩
  · clear h
    go_enter Try.func22, Try.ntmps22
    go_wp2
    go_ret
    exact ⟨rfl, below1 _ _⟩
set_option maxHeartbeats 800000 in
theorem spec_zero (l : Lg) (A : Option Addr) (c : Nat) (w : World) (h1 : inR l.roll 1 20000 = true) (h2 : inR l.next 0 1000000000 = true) (h3 : inR l.start 0 l.next = true) :
    Calls Try.prog 22 #[logVal l (.slice A 0 c)] w fun e w' => e = .returned (.bool true) ∧ Below w.heap.size w w' := by
  have hnx : -1 < l.next := by
    simp only [inR, Bool.and_eq_true, decide_eq_true_eq] at h2
    omega
  have H1 := Seg.hid h1
  have H2 := Seg.hid h2
  have H3 := Seg.hid h3
  clear h1 h2 h3
  unfold logVal
  go_enter Try.func22, Try.ntmps22
  go_wp2_with fail
  refine (l1In_b l.roll 1 20000 true H1.out _).mono ?_
  rintro _ _ ⟨rfl, rfl⟩
  go_wp2_with fail
  refine (l1In_b l.next 0 1000000000 true H2.out _).mono ?_
  rintro _ _ ⟨rfl, rfl⟩
  go_wp2_with fail
  refine (l1In_b l.start 0 l.next true H3.out _).mono ?_
  rintro _ _ ⟨rfl, rfl⟩
  go_wp2_with fail
  go_loop [3, 4, 5, 6] (fun bh ep mn i => bh = .int .i64 (-1) ∧ ep = .int .i64 0 ∧ mn = .int .i64 0 ∧ i = .int .i64 0) (fun _ _ _ _ => 0)
  case atStart => exact ⟨rfl, rfl, rfl, rfl⟩
  case round =>
    obtain ⟨rfl, rfl, rfl, rfl⟩ := hrel
    go_wp2
    go_ret
    exact ⟨rfl, below1 _ _⟩
theorem logOk_eq (l : Lg) : logOk l = (ahead l && (LgP.stands l.next (LgP.segs 0 0 l.segs) && decide (many l.segs ≤ 400))) := by
  simp only [logOk, ahead, LgP.bounds, LgP.counts]
  generalize LgP.stands l.next (LgP.segs 0 0 l.segs) = s
  generalize inR l.roll 1 20000 = a
  generalize inR l.next 0 1000000000 = b
  generalize inR l.start 0 l.next = c
  generalize decide (many l.segs ≤ 400) = d
  generalize decide (l.segs.length ≤ 60) = e
  cases s <;> cases a <;> cases b <;> cases c <;> cases d <;> cases e <;> rfl
theorem spec_any (v : Value) (l : Lg) (w : World) (lo b : Nat) (hv : LogAt w lo b v l) (hb : b ≤ w.heap.size) (hf : FewL l) (hw : ∀ i, i < l.segs.length → -9223372036854775808 ≤ (l.segs.getD i default).base ∧ (l.segs.getD i default).base ≤ 9223372036854775807) :
    Calls Try.prog 22 #[v] w fun e w' => e = .returned (.bool (logOk l)) ∧ Below w.heap.size w w' := by
  obtain ⟨rv, rfl, H, ⟨hn, A, c, rfl, h⟩, hh⟩ := hv
  rw [logOk_eq]
  cases ha : ahead l with
  | false => exact spec_no l A c w hf.1.1 ha
  | true =>
  have ha' := ha
  simp only [ahead, Bool.and_eq_true, decide_eq_true_eq] at ha'
  obtain ⟨h0, h1, h2, h3⟩ := ha'
  by_cases hz : l.segs.length = 0
  · have e : (true && (LgP.stands l.next (LgP.segs 0 0 l.segs) && decide (many l.segs ≤ 400))) = true := by
      rw [List.length_eq_zero_iff.1 hz]
      simp only [inR, Bool.and_eq_true, decide_eq_true_eq] at h2
      simp [LgP.segs, LgP.stands, many]
      omega
    rw [e, hz]
    exact spec_zero l A c w h1 h2 h3
  obtain ⟨g, o, rfl, hg, hc, hcell, _⟩ := h.resolve_left hz
  rw [Bool.true_and]
  exact spec_core l g o c H w lo b hb hf hw h0 h1 h2 h3 hc (by omega) hh hcell
end Go.Proofs.Yticihnoekffelaa.LgS
namespace Go.Proofs.Yticihnoekffelaa.Ft
set_option maxRecDepth 8000
open Go.RowKit
open Recs
open Bats SegW Segs LogW SrP CtP
open LgP (logOk inR)
set_option linter.unusedVariables false
theorem cutBs_app (x : Int) : ∀ (a b : List Bat), cutBs x (a ++ b) = cutBs x a ++ cutBs x b
  | [], b => rfl
  | t :: r, b => by
    simp only [List.cons_append, cutBs, cutBs_app x r b]
    split <;> rfl
theorem cutBs_take {x : Int} {bs : List Bat} {k : Nat} (h : k < bs.length) : cutBs x (bs.take (k + 1)) = cutBs x (bs.take k) ++ (if (bs.getD k default).base < x then [cutB x (bs.getD k default)] else []) := by
  rw [take_one h, cutBs_app]
  simp only [cutBs]
theorem cutSs_app (x : Int) : ∀ (a b : List Sg), cutSs x (a ++ b) = cutSs x a ++ cutSs x b
  | [], b => rfl
  | t :: r, b => by simp only [List.cons_append, cutSs, cutSs_app x r b, List.append_assoc]
theorem cutSs_take {x : Int} {ss : List Sg} {k : Nat} (h : k < ss.length) : cutSs x (ss.take (k + 1)) = cutSs x (ss.take k) ++ one x (ss.getD k default) := by
  rw [take_one h, cutSs_app]
  simp only [cutSs, List.append_nil]
theorem cutBs_len (x : Int) : ∀ bs : List Bat, (cutBs x bs).length ≤ bs.length
  | [] => Nat.le_refl _
  | t :: r => by
    unfold cutBs
    have := cutBs_len x r
    split <;> simp <;> omega
theorem one_len (x : Int) (s : Sg) : (one x s).length ≤ 1 := by
  unfold one
  split <;> simp
theorem cutSs_len (x : Int) : ∀ ss : List Sg, (cutSs x ss).length ≤ ss.length
  | [] => Nat.le_refl _
  | t :: r => by
    unfold cutSs
    have := cutSs_len x r
    have := one_len x t
    rw [List.length_append, List.length_cons]
    omega
/-- The Log that is made, told by its variable's block; the argument's and the answer's blocks beside it. -/
structure CTo (w w1 wr : World) (l : Lg) (x : Int) (v0 v : Value) (us : List Sg) : Prop where
  gv : GV 55 2 ES w1 wr 1 w1.heap.size 28 (logArr ⟨l.start, x, l.roll, []⟩) (fun _ => none) v us
  par : wr.heap[w.heap.size]? = some (.cells (logArr l v0) 28 (0, 0))
  res : wr.heap[w.heap.size + 1]? = some (.cells (logArr ⟨0, 0, 0, []⟩ (.slice none 0 0)) 28 (0, 0))
  bel : Below w.heap.size w wr
theorem CTo.later {w w1 wr w' : World} {l : Lg} {x : Int} {v0 v : Value} {us : List Sg} (h : CTo w w1 wr l x v0 v us) (hw : w.heap.size + 2 ≤ w1.heap.size) (b : Below wr.heap.size wr w') : CTo w w1 w' l x v0 v us := by
  have hs := h.gv.size
  exact ⟨h.gv.later keepsS (by omega) b, (b.block _ (by omega)).trans h.par, (b.block _ (by omega)).trans h.res, chain h.bel b⟩
/-- One Segment more. -/
theorem CTo.push {w w1 wr w8 w9 : World} {l : Lg} {x : Int} {v0 v : Value} {us : List Sg} {F : Nat → Value} {P : Nat → Nat → Prop} {t : Sg} {bv : Value} {o : Obj} {g cap : Nat} (h : CTo w w1 wr l x v0 v us) (hw : w.heap.size + 2 ≤ w1.heap.size) (hG : LGr 55 2 ES wr (w1.heap.size + 1) v us F P) (b8 : Below wr.heap.size wr w8) (ho : OwnB w8 (seg (wr.heap.size + 1) w8.heap.size) bv t.bats)
    (hown : w9.ownsRow (w1.heap.size + 1) 55 2 (.slice (some ⟨g, 0, none⟩) (us.length + 1) cap) (us.length + 1) ((List.range (us.length * 2)).map F ++ (segArr t bv).toList)) (gr : (w8.alloc o).grownBy w9 v.ownBlock) (hg : v.ownBlock = some g ∨ g = w8.heap.size + 1) :
    CTo w w1 (w9.setCell ⟨w1.heap.size, 3, none⟩ (.slice (some ⟨g, 0, none⟩) (us.length + 1) cap)) l x v0 (.slice (some ⟨g, 0, none⟩) (us.length + 1) cap) (us ++ [t]) ∧ w9.cell? ⟨w1.heap.size, 3, none⟩ = some v ∧ w9.frozen? ⟨w1.heap.size, 3, none⟩ = false := by
  have hs := h.gv.size
  have s8 := b8.size
  have P9 := GV.push keepsS (Q := seg (wr.heap.size + 1) w8.heap.size) (p := 3) (news := (segArr t bv).toList) (t := t) h.gv (Nat.le_refl _) (by omega) rfl (fun _ => rfl) hG b8 (seg_el (LOwn.keep keepsB ho (by rw [hsz]; omega) (fun y hy => heap_alloc_old _ _ hy.2))) (fun y hy => ⟨by have := hy.1; omega, hy.2⟩) rfl hown gr hg
  have gs := gr.size
  rw [hsz] at gs
  have hvb : ∀ y, v.ownBlock = some y → w1.heap.size + 1 ≤ y ∧ y < wr.heap.size := fun y hy => World.ownsRow.lt hG.own y hy
  have k9 : ∀ y, y < w1.heap.size → (w9.setCell ⟨w1.heap.size, 3, none⟩ (.slice (some ⟨g, 0, none⟩) (us.length + 1) cap)).heap[y]? = wr.heap[y]? := fun y hy => by
    rw [heap_setCell_other _ _ _ _ (by show y ≠ w1.heap.size; omega), gr.block y (by rw [hsz]; omega) (fun e => by have := hvb y e.symm; omega), heap_alloc_old _ _ (by omega), b8.block y (by omega)]
  refine ⟨⟨P9.1, (k9 _ (by omega)).trans h.par, (k9 _ (by omega)).trans h.res, ⟨P9.1.bel.os.trans (h.gv.bel.os.symm.trans h.bel.os), P9.1.bel.tape.trans (h.gv.bel.tape.symm.trans h.bel.tape), P9.1.bel.output.trans (h.gv.bel.output.symm.trans h.bel.output), by have := P9.1.size; omega, fun y hy => (k9 y (by omega)).trans (h.bel.block y hy)⟩⟩, P9.2⟩
theorem bpush {wr wk wz w9 : World} {fr : Nat → Option Obj} {sb : Int} {v : Value} {us : List Bat} {F : Nat → Value} {P : Nat → Nat → Prop} {t : Bat} {rv : Value} {o : Obj} {g cap : Nat} (h : GV 58 7 EB wr wk 1 wr.heap.size 55 (segArr ⟨sb, []⟩) fr v us) (hG : LGr 58 7 EB wk (wr.heap.size + 1) v us F P) (bz : Below wk.heap.size wk wz) (ho : OwnR wz (seg wk.heap.size wz.heap.size) rv t.recs)
    (hown : w9.ownsRow (wr.heap.size + 1) 58 7 (.slice (some ⟨g, 0, none⟩) (us.length + 1) cap) (us.length + 1) ((List.range (us.length * 7)).map F ++ (BatW.batArr t rv).toList)) (gr : (wz.alloc o).grownBy w9 v.ownBlock) (hg : v.ownBlock = some g ∨ g = wz.heap.size + 1) :
    GV 58 7 EB wr (w9.setCell ⟨wr.heap.size, 1, none⟩ (.slice (some ⟨g, 0, none⟩) (us.length + 1) cap)) 1 wr.heap.size 55 (segArr ⟨sb, []⟩) fr (.slice (some ⟨g, 0, none⟩) (us.length + 1) cap) (us ++ [t]) ∧ w9.cell? ⟨wr.heap.size, 1, none⟩ = some v ∧ w9.frozen? ⟨wr.heap.size, 1, none⟩ = false :=
  GV.push keepsB (Q := seg wk.heap.size wz.heap.size) (p := 1) (news := (BatW.batArr t rv).toList) (t := t) h (Nat.le_refl _) (by omega) rfl (fun _ => rfl) hG bz (bat_el (LOwn.keep keepsR ho (by rw [hsz]; omega) (fun y hy => heap_alloc_old _ _ hy.2))) (fun y hy => hy) rfl hown gr hg
theorem two {w : World} {g ty : Nat} {t : Sg} {v : Value} (h : w.heap[g]? = some (.cells (segArr t v) ty (0, 0))) : w.cell? ⟨g, 0, none⟩ = some (.int .i64 t.base) ∧ w.cell? ⟨g, 1, none⟩ = some v := ⟨cell_of_row w g 0 _ _ (0, 0) h, cell_of_row w g 1 _ _ (0, 0) h⟩
/-- Ahead of the append of a Batch: WZ; the Batch's own block is n8. -/
structure BZ (wo WZ : World) (n8 : Nat) (fr : Nat → Option Obj) (sb : Int) (v : Value) (ub : List Bat) (F : Nat → Value) (t : Bat) (rv : Value) : Prop where
  news : ∀ j u, (BatW.batArr t rv).toList[j]? = some u → (WZ.alloc (.cells (BatW.batArr t rv) 58 (0, 0))).cell? ((⟨n8 + 1, 0, none⟩ : Addr).add j) = some u
  own : ∀ o9, (WZ.alloc o9).ownsRow (wo.heap.size + 1) 58 7 v ub.length ((List.range (ub.length * 7)).map F)
  size : ∀ o9, (WZ.alloc o9).heap.size = n8 + 1 + 1
  base : ∀ o9, wo.heap.size + 1 ≤ (WZ.alloc o9).heap.size
  c1 : WZ.cell? ⟨wo.heap.size, 1, none⟩ = some v
  push : ∀ g9 cap9 w9 o9, w9.ownsRow (wo.heap.size + 1) 58 7 (.slice (some ⟨g9, 0, none⟩) (ub.length + 1) cap9) (ub.length + 1) ((List.range (ub.length * 7)).map F ++ (BatW.batArr t rv).toList) → (WZ.alloc o9).grownBy w9 v.ownBlock → (v.ownBlock = some g9 ∨ g9 = n8 + 1 + 1) → GV 58 7 EB wo (w9.setCell ⟨wo.heap.size, 1, none⟩ (.slice (some ⟨g9, 0, none⟩) (ub.length + 1) cap9)) 1 wo.heap.size 55 (segArr ⟨sb, []⟩) fr (.slice (some ⟨g9, 0, none⟩) (ub.length + 1) cap9) (ub ++ [t]) ∧ w9.cell? ⟨wo.heap.size, 1, none⟩ = some v ∧ w9.frozen? ⟨wo.heap.size, 1, none⟩ = false
theorem bz {wo wr WZ : World} {n8 : Nat} {fr : Nat → Option Obj} {sb : Int} {v : Value} {ub : List Bat} {F : Nat → Value} {P : Nat → Nat → Prop} {t : Bat} {rv : Value} (h : GV 58 7 EB wo wr 1 wo.heap.size 55 (segArr ⟨sb, []⟩) fr v ub) (hG : LGr 58 7 EB wr (wo.heap.size + 1) v ub F P) (b : Below wr.heap.size wr WZ) (hz : WZ.heap.size = n8 + 1) (ho : OwnR WZ (seg wr.heap.size WZ.heap.size) rv t.recs) : BZ wo WZ n8 fr sb v ub F t rv := by
  have hs := h.size
  refine ⟨?_, fun o9 => World.ownsRow.alloc (own_keep hG.own (fun y _ hy => b.block y hy)) _, fun o9 => by rw [hsz, hz], fun o9 => by rw [hsz]; have := b.size; omega, (b.cell (p := ⟨wo.heap.size, 1, none⟩) (by show wo.heap.size < _; omega)).trans (two h.out).2, fun g9 cap9 w9 o9 a1 a2 a3 => bpush h hG b ho a1 a2 (by rw [hz]; exact a3)⟩
  rw [← hz]
  exact World.news_of_block (heap_alloc_new WZ _)
set_option maxHeartbeats 12800000 in
theorem cutToS_core (l : Lg) (x : Int) (A : Option Addr) (c : Nat) (w : World) (lo b : Nat) (hb : b ≤ w.heap.size) (hf : FewL l) (hw : ∀ i, i < l.segs.length → -9223372036854775808 ≤ (l.segs.getD i default).base ∧ (l.segs.getD i default).base ≤ 9223372036854775807) (hs : SegsAt w lo b (.slice A l.segs.length c) l.segs) :
    Calls Try.prog 6 #[logVal l (.slice A l.segs.length c), .int .i64 x] w fun e w' => ∃ sv, e = .returned (.tuple #[logVal (cutT l x).1 sv, .bool (cutT l x).2]) ∧ SegsAt w' w.heap.size w'.heap.size sv (cutT l x).1.segs ∧ Below w.heap.size w w' := by
  obtain ⟨i0, hi, hz0, hz1, hz2⟩ := info_parts infoSg
  obtain ⟨i1, hi', hz0', hz1', hz2'⟩ := info_parts infoB
  have HS := Seg.hid hs
  have HV : Hid (LogAt w lo b (logVal l (.slice A l.segs.length c)) l) := ⟨_, rfl, hs⟩
  have HF := Seg.hid hf; have HWW := Seg.hid hw
  clear hs hf hw
  unfold logVal at HV ⊢
  go_enter Try.func6, Try.ntmps6
  go_wp2_with fail
  refine (LgS.spec_any _ l ((w.alloc _).alloc _) lo b (HV.out.below ((below2 w _ _).mono hb)) (by rw [hsz, hsz]; omega) HF.out HWW.out).mono ?_
  rintro e w1 ⟨rfl, b1⟩
  have B1 := Seg.hid (chain (below2 w _ _) b1)
  have T1 : Hid (w1.heap[w.heap.size]? = some (.cells (logArr l (.slice A l.segs.length c)) 28 (0, 0))) := (b1.block w.heap.size (by rw [hsz, hsz]; omega)).trans (at1 w _ _)
  have T2 : Hid (w1.heap[w.heap.size + 1]? = some (.cells (logArr ⟨0, 0, 0, []⟩ (.slice none 0 0)) 28 (0, 0))) := (b1.block (w.heap.size + 1) (by rw [hsz, hsz]; omega)).trans (at2 w _ _)
  have s1 := b1.size
  rw [hsz, hsz] at s1
  clear b1
  have NO : Hid (∀ w2, Below w1.heap.size w1 w2 → w2.there (w.heap.size + 1) 0 (logArr ⟨0, 0, 0, []⟩ (.slice none 0 0)).size ∧ (w2.setCells (w.heap.size + 1) 0 (logArr ⟨0, 0, 0, []⟩ (.slice none 0 0)).toList).heap[w.heap.size + 1]? = some (.cells (logArr ⟨0, 0, 0, []⟩ (.slice none 0 0)) 28 (0, 0)) ∧ Below w.heap.size w (w2.setCells (w.heap.size + 1) 0 (logArr ⟨0, 0, 0, []⟩ (.slice none 0 0)).toList)) := fun w2 b2 => by
    have T := (b2.block (w.heap.size + 1) (by omega)).trans T2.out
    exact ⟨Cells.there_of T, Cells.whole (vs := logArr ⟨0, 0, 0, []⟩ (.slice none 0 0)) T rfl, Cells.below_setCells (by omega) _ _ _ _ (chain B1.out b2)⟩
  cases hok : logOk l with
  | false =>
    have HC : Hid (cutT l x = (⟨0, 0, 0, []⟩, false)) := by show _ = _; simp [cutT, hok]
    clear hok
    go_wp2_with (first | (refine wpList_store_mid rfl 28 _ _ rfl (w.heap.size + 1) 0 (logArr ⟨0, 0, 0, []⟩ (.slice none 0 0)) rfl rfl (NO.out _ (Below.refl _ _)).1 infoN (logArr_one _ _ rfl) ?_))
    exact bodyPost_ret (v := .tuple #[logVal ⟨0, 0, 0, []⟩ (.slice none 0 0), .bool false]) (results_row_tmp rfl _ _ (w.heap.size + 1) _ _ _ _ _ rfl rfl (NO.out _ (Below.refl _ _)).2.1 Try.underlying28 rfl infoN) rfl ⟨.slice none 0 0, by rw [HC.out]; rfl, by rw [HC.out]; exact segs_nil, (NO.out _ (Below.refl _ _)).2.2⟩
  | true =>
  obtain ⟨c0, c1, c2, c3⟩ := four T1.out
  have IN : ∀ t, (decide (l.start ≤ x) && decide (x ≤ l.next)) = t → inR x l.start l.next = t := fun t h => h
  cases hin : (decide (l.start ≤ x) && decide (x ≤ l.next)) with
  | false =>
    have HC : Hid (cutT l x = (⟨0, 0, 0, []⟩, false)) := by show _ = _; simp [cutT, hok, IN false hin]
    clear IN hok
    go_wp2_with fail
    refine (InB.l1In_b x l.start l.next false hin w1).mono ?_
    rintro e w1' ⟨rfl, rfl⟩
    clear hin
    go_wp2_with (first | (refine wpList_store_mid rfl 28 _ _ rfl (w.heap.size + 1) 0 (logArr ⟨0, 0, 0, []⟩ (.slice none 0 0)) rfl rfl (NO.out _ (Below.refl _ _)).1 infoN (logArr_one _ _ rfl) ?_))
    exact bodyPost_ret (v := .tuple #[logVal ⟨0, 0, 0, []⟩ (.slice none 0 0), .bool false]) (results_row_tmp rfl _ _ (w.heap.size + 1) _ _ _ _ _ rfl rfl (NO.out _ (Below.refl _ _)).2.1 Try.underlying28 rfl infoN) rfl ⟨.slice none 0 0, by rw [HC.out]; rfl, by rw [HC.out]; exact segs_nil, (NO.out _ (Below.refl _ _)).2.2⟩
  | true =>
  have HC : Hid (cutT l x = (⟨l.start, x, l.roll, cutSs x l.segs⟩, true)) := by show _ = _; simp [cutT, hok, IN true hin]
  obtain ⟨f, k1, k2, k3, k4, k5, k6⟩ := ok_parts hok
  have SO := Seg.hid (segs_ok _ _ _ _ k1)
  clear IN hok k1 NO
  go_wp2_with fail
  refine (InB.l1In_b x l.start l.next true hin w1).mono ?_
  rintro e w1' ⟨rfl, rfl⟩
  simp only [Bool.and_eq_true, decide_eq_true_eq] at hin
  have hx0 : 0 ≤ x := by omega
  have hx1 : x ≤ 1000000000 := by omega
  clear hin
  go_wp2_with fail
  have hl1 := HF.out.1.1
  have C0 : Hid (CTo w w1 (w1.alloc (.cells (logArr ⟨l.start, x, l.roll, []⟩ (.slice none 0 0)) 28 (0, 0))) l x (.slice A l.segs.length c) (.slice none 0 0) []) :=
    ⟨⟨LGrow.nil _ _, heap_alloc_new _ _, fun y h1 h2 h3 => absurd h3 (by omega), below1 w1 _, by rw [hsz]; omega⟩, (heap_alloc_old _ _ (by omega)).trans T1.out, (heap_alloc_old _ _ (by omega)).trans T2.out, chain B1.out (below1 w1 _)⟩
  clear c0 c1 c2 c3 T1 T2 B1
  go_loopw [7] (fun i wr => ∃ (j : Nat) (us : List Sg) (A1 : Option Addr) (c1 : Nat), j ≤ l.segs.length ∧ i = .int .i64 j ∧ Hid (us = cutSs x (l.segs.take j) ∧ CTo w w1 wr l x (.slice A l.segs.length c) (.slice A1 us.length c1) us)) (fun i _ => l.segs.length - (intOf i).toNat)
  case atStart => exact ⟨0, [], none, 0, Nat.zero_le _, rfl, rfl, C0.out⟩
  case round =>
    clear C0
    obtain ⟨j, us, A1, c1, hj, rfl, HW⟩ := hrel
    obtain ⟨wo, hwo⟩ : ∃ wo, wo = wr := ⟨wr, rfl⟩
    subst hwo
    have WC := Seg.hid HW.out.2
    have hz := HW.out.2.gv.size
    have p3 : wo.cell? ⟨w.heap.size, 3, none⟩ = some (.slice A l.segs.length c) := (four HW.out.2.par).2.2.2
    by_cases hlt : j < l.segs.length
    · have h0 : (0 : Int) ≤ (j : Int) := by omega
      have h1 : (j : Int) < (l.segs.length : Int) := by omega
      obtain ⟨H, ⟨_, A', c', hsl, hrow⟩, hh⟩ := HS.out
      simp only [Value.slice.injEq] at hsl
      obtain ⟨rfl, _, rfl⟩ := hsl
      obtain ⟨g, o, rfl, hg, hc, hcell, _⟩ := hrow.resolve_left (by omega)
      have hgw : g < w.heap.size := by omega
      have SIX : Hid (∀ wx, Below wo.heap.size wo wx → (wx.cell? ⟨g, o + j * 2, none⟩ = some (.int .i64 (l.segs.getD j default).base) ∧ wx.cell? ⟨g, o + j * 2 + 1, none⟩ = some (H j)) ∧ wx.cell? ⟨w.heap.size, 3, none⟩ = some (.slice (some ⟨g, o, none⟩) l.segs.length c)) := fun wx bx => ⟨Segs.six (fun i hi q hq => by rw [(chain HW.out.2.bel bx).cell (p := ⟨g, o + i * 2 + q, none⟩) hgw]; exact hcell i hi q hq) j hlt, (bx.cell (p := ⟨w.heap.size, 3, none⟩) (by show w.heap.size < _; omega)).trans p3⟩
      have ULE : Hid (us.length ≤ 1048576) := by show _ ≤ _; rw [HW.out.1]; have := cutSs_len x (l.segs.take j); rw [List.length_take] at this; omega
      have UN : Hid (us ++ one x (l.segs.getD j default) = cutSs x (l.segs.take (j + 1))) := by show _ = _; rw [HW.out.1]; exact (cutSs_take hlt).symm
      obtain ⟨F, P, hG⟩ := HW.out.2.gv.grow
      have HG := Seg.hid hG
      have BT : Hid (∀ wx, Below wo.heap.size wo wx → BatsAt wx lo b (H j) (l.segs.getD j default).bats) := fun wx bx => (hh j hlt).below ((chain HW.out.2.bel bx).mono hb)
      have FB := Seg.hid (HF.out.1.2 j hlt)
      have BO := Seg.hid (SO.out j hlt)
      obtain ⟨_, ⟨_, Ah, ch, hHj, _⟩, _⟩ := hh j hlt
      clear hcell HW hG hrow hh
      generalize l.segs.getD j default = tj at *
      rw [hHj] at BT SIX
      clear hHj
      obtain ⟨⟨e0, e1⟩, _⟩ := SIX.out wo (Below.refl _ _)
      have hww : w.heap.size < wo.heap.size := by omega
      have hul := ULE.out
      have hbl := FB.out.1
      go_wp2_with fail
      clear e0 e1 p3
      have D0 : Hid (GV 58 7 EB wo (wo.alloc (.cells (segArr ⟨tj.base, []⟩ (.slice none 0 0)) 55 (0, 0))) 1 wo.heap.size 55 (segArr ⟨tj.base, []⟩) (fun _ => none) (.slice none 0 0) []) := ⟨LGrow.nil _ _, heap_alloc_new _ _, fun y h1 h2 h3 => absurd h3 (by omega), below1 wo _, by rw [hsz]; omega⟩
      go_loopw [9] (fun i wr => ∃ (k : Nat) (ub : List Bat) (A2 : Option Addr) (c2 : Nat), k ≤ tj.bats.length ∧ i = .int .i64 k ∧ Hid (ub = cutBs x (tj.bats.take k) ∧ GV 58 7 EB wo wr 1 wo.heap.size 55 (segArr ⟨tj.base, []⟩) (fun _ => none) (.slice A2 ub.length c2) ub)) (fun i _ => tj.bats.length - (intOf i).toNat)
      case atStart => exact ⟨0, [], none, 0, Nat.zero_le _, rfl, rfl, D0.out⟩
      case round =>
        clear D0
        obtain ⟨k, ub, A2, c2, hk, rfl, HK⟩ := hrel
        have GK := Seg.hid HK.out.2
        have hzk := GK.out.size
        obtain ⟨⟨d0, d1⟩, d3⟩ := SIX.out wr GK.out.bel
        have hwk : w.heap.size < wr.heap.size := by omega
        have hgk : g < wr.heap.size := by omega
        by_cases hkl : k < tj.bats.length
        · have k0 : (0 : Int) ≤ (k : Int) := by omega
          have k1 : (k : Int) < (tj.bats.length : Int) := by omega
          obtain ⟨H2, ⟨_, A'', c'', hsl, hrow⟩, hh⟩ := BT.out wr GK.out.bel
          simp only [Value.slice.injEq] at hsl
          obtain ⟨rfl, _, rfl⟩ := hsl
          obtain ⟨g2, o2, rfl, hg2, hc2, hcell, _⟩ := hrow.resolve_left (by omega)
          have hg2w : g2 < wr.heap.size := by omega
          obtain ⟨e0, e1, e2, e3, e4, e5, e6⟩ := Bats.six hcell k hkl
          have RT := Seg.hid (hh k hkl)
          have OK := LgP.okLen (BO.out k hkl)
          have FK := Seg.hid (FB.out.2 k hkl)
          have VN := Seg.hid (cutBs_take (x := x) hkl)
          have UBL : ub.length ≤ 1048576 := by rw [HK.out.1]; have := cutBs_len x (tj.bats.take k); rw [List.length_take] at this; omega
          obtain ⟨_, ⟨_, A3, c3, hH2, _⟩, _⟩ := hh k hkl
          rw [hH2] at e6 RT
          obtain ⟨F2, P2, hG2⟩ := GK.out.grow
          have HG2 := Seg.hid hG2
          have HKE := Seg.hid HK.out.1
          clear hH2 hcell hrow hh hG2 HK
          generalize tj.bats.getD k default = tk at *
          have BAT : Hid (BatAt wr lo b (.agg (BatW.batArr tk (.slice A3 tk.recs.length c3))) tk) := ⟨_, rfl, RT.out⟩
          go_wp2_with fail
          refine (l3Batch_any _ tk wr lo b BAT.out (by omega) FK.out).mono ?_
          rintro e w8 ⟨rv8, rfl, ow8, b8⟩
          have B8 := Seg.hid b8
          have s8 := b8.size
          obtain ⟨A8, c8, hA8⟩ := LOwn.form ow8
          subst hA8
          have O8 := Seg.hid ow8
          clear ow8 b8 e0 e1 e2 e3 e4 e5 e6 d0 d1 d3
          unfold batVal
          have LZ : Hid ((w8.alloc (.cells (BatW.batArr tk (.slice A8 tk.recs.length c8)) 58 (0, 0))).heap[w8.heap.size]? = some (.cells (BatW.batArr tk (.slice A8 tk.recs.length c8)) 58 (0, 0))) := heap_alloc_new _ _
          have BZ1 : Hid (Below wr.heap.size wr (w8.alloc (.cells (BatW.batArr tk (.slice A8 tk.recs.length c8)) 58 (0, 0)))) := chain B8.out (below1 w8 _)
          obtain ⟨v0, v1, v2, v3, v4, v5, v6⟩ := seven LZ.out
          have t0 : 0 ≤ tk.base := by omega
          have t1 : tk.base ≤ 1000000000 := by omega
          have t2 : tk.recs.length ≤ 1000 := by omega
          have hob : wo.heap.size < w8.heap.size := by omega
          have z8 : w8.cell? ⟨wo.heap.size, 1, none⟩ = some (.slice A2 ub.length c2) := (B8.out.cell (p := ⟨wo.heap.size, 1, none⟩) (by show wo.heap.size < _; omega)).trans (two GK.out.out).2
          have hw8 : w.heap.size < w8.heap.size := by omega
          by_cases hbx : x ≤ tk.base
          · have VE : Hid (ub = cutBs x (tj.bats.take (k + 1))) := by show _ = _; rw [VN.out, if_neg (by omega), List.append_nil]; exact HKE.out
            go_wp2_with fail
            go_roundw
            case rel => exact ⟨k + 1, ub, A2, c2, by omega, by go_num, VE.out, GK.out.later keepsB (by omega) BZ1.out⟩
            case measure => simp [intOf]; omega
          · by_cases hex : x < tk.base + tk.recs.length
            · have VE : Hid (ub ++ [⟨tk.base, tk.epoch, tk.producer, tk.turn, tk.seq, tk.flags, tk.recs.take (x - tk.base).toNat⟩] = cutBs x (tj.bats.take (k + 1))) := by show _ = _; rw [VN.out, if_pos (by omega), HKE.out]; unfold cutB bEnd; rw [if_pos hex]
              have hc8 : tk.recs.length ≤ c8 := by
                obtain ⟨_, ⟨_, A', c', hsl, hrow⟩, _⟩ := recs_of O8.out (fun y hy => hy)
                simp only [Value.slice.injEq] at hsl
                obtain ⟨rfl, _, rfl⟩ := hsl
                rcases hrow with h | ⟨_, _, _, _, h, _⟩ <;> omega
              have y0 : 0 ≤ x - tk.base := by omega
              have y1 : x - tk.base ≤ (c8 : Int) := by omega
              have Z : Hid (BZ wo (w8.alloc (.cells (BatW.batArr ⟨tk.base, tk.epoch, tk.producer, tk.turn, tk.seq, tk.flags, tk.recs.take (x - tk.base).toNat⟩ (.slice A8 (x - tk.base).toNat c8)) 58 (0, 0))) w8.heap.size (fun _ => none) tj.base (.slice A2 ub.length c2) ub F2 ⟨tk.base, tk.epoch, tk.producer, tk.turn, tk.seq, tk.flags, tk.recs.take (x - tk.base).toNat⟩ (.slice A8 (x - tk.base).toNat c8)) := by
                have hsz9 : (w8.alloc (.cells (BatW.batArr ⟨tk.base, tk.epoch, tk.producer, tk.turn, tk.seq, tk.flags, tk.recs.take (x - tk.base).toNat⟩ (.slice A8 (x - tk.base).toNat c8)) 58 (0, 0))).heap.size = w8.heap.size + 1 := hsz _ _
                refine bz GK.out HG2.out (chain B8.out (below1 w8 _)) hsz9 ?_
                refine (LOwn.keep keepsR (LOwn.take (k := (x - tk.base).toNat) O8.out (by omega)) (by rw [hsz9]; omega) (fun y hy => ?_)).mono (fun y hy => ?_)
                · have := hy.2
                  rw [heap_alloc_old _ _ hy.2]
                · obtain ⟨z1, z2⟩ := hy
                  exact ⟨z1, by rw [hsz9]; omega⟩
              have z6 := frozen_of_row _ w8.heap.size 6 _ _ LZ.out
              have MZ : Hid ((w8.alloc (.cells (BatW.batArr ⟨tk.base, tk.epoch, tk.producer, tk.turn, tk.seq, tk.flags, tk.recs.take (x - tk.base).toNat⟩ (.slice A8 (x - tk.base).toNat c8)) 58 (0, 0))).heap[w8.heap.size]? = some (.cells (BatW.batArr ⟨tk.base, tk.epoch, tk.producer, tk.turn, tk.seq, tk.flags, tk.recs.take (x - tk.base).toNat⟩ (.slice A8 (x - tk.base).toNat c8)) 58 (0, 0))) := heap_alloc_new _ _
              obtain ⟨m0, m1, m2, m3, m4, m5, m6⟩ := seven MZ.out
              have zc := Z.out.c1
              go_wp2_with (at_builtin; (refine wpList_append_lies _ rfl _ _ 40 rfl (wo.heap.size + 1) 58 i1 _ 7 72 Try.underlying40 hi' hz0' hz1' hz2' rfl (by decide) (.slice A2 ub.length c2) ub.length ((List.range (ub.length * 7)).map F2) rfl (Z.out.own _) ⟨w8.heap.size + 1, 0, none⟩ 1 1 (BatW.batArr ⟨tk.base, tk.epoch, tk.producer, tk.turn, tk.seq, tk.flags, tk.recs.take (x - tk.base).toNat⟩ (.slice A8 (x - tk.base).toNat c8)).toList rfl rfl Z.out.news (by simp [BatW.batArr, Value.oneCell']) (by decide) (by unfold maxLen; omega) (by omega) (Z.out.base _) (w8.heap.size + 1 + 1) (Z.out.size _) ?_; intro g9 cap9 w9 hown9 gr9 hat9 hlt9; have D9 := Seg.hid (Z.out.push g9 cap9 w9 _ hown9 gr9 hat9); have q1 := D9.out.2.1; have q2 := D9.out.2.2; clear hown9 gr9 hat9 hlt9))
              go_roundw
              case rel => exact ⟨k + 1, _, some ⟨g9, 0, none⟩, cap9, by omega, by go_num, VE.out, by rw [List.length_append]; exact D9.out.1⟩
              case measure => simp [intOf]; omega
            · have VE : Hid (ub ++ [tk] = cutBs x (tj.bats.take (k + 1))) := by show _ = _; rw [VN.out, if_pos (by omega), HKE.out]; unfold cutB bEnd; rw [if_neg hex]
              have Z : Hid (BZ wo (w8.alloc (.cells (BatW.batArr tk (.slice A8 tk.recs.length c8)) 58 (0, 0))) w8.heap.size (fun _ => none) tj.base (.slice A2 ub.length c2) ub F2 tk (.slice A8 tk.recs.length c8)) := by
                refine bz GK.out HG2.out BZ1.out (hsz _ _) ?_
                exact (LOwn.keep keepsR O8.out (by rw [hsz]; omega) (fun y hy => heap_alloc_old _ _ hy.2)).mono (fun y hy => ⟨hy.1, by have := hy.2; rw [hsz]; omega⟩)
              have zc := Z.out.c1
              go_wp2_with (at_builtin; (refine wpList_append_lies _ rfl _ _ 40 rfl (wo.heap.size + 1) 58 i1 _ 7 72 Try.underlying40 hi' hz0' hz1' hz2' rfl (by decide) (.slice A2 ub.length c2) ub.length ((List.range (ub.length * 7)).map F2) rfl (Z.out.own _) ⟨w8.heap.size + 1, 0, none⟩ 1 1 (BatW.batArr tk (.slice A8 tk.recs.length c8)).toList rfl rfl Z.out.news (by simp [BatW.batArr, Value.oneCell']) (by decide) (by unfold maxLen; omega) (by omega) (Z.out.base _) (w8.heap.size + 1 + 1) (Z.out.size _) ?_; intro g9 cap9 w9 hown9 gr9 hat9 hlt9; have D9 := Seg.hid (Z.out.push g9 cap9 w9 _ hown9 gr9 hat9); have q1 := D9.out.2.1; have q2 := D9.out.2.2; clear hown9 gr9 hat9 hlt9))
              go_roundw
              case rel => exact ⟨k + 1, _, some ⟨g9, 0, none⟩, cap9, by omega, by go_num, VE.out, by rw [List.length_append]; exact D9.out.1⟩
              case measure => simp [intOf]; omega
        · have UE : Hid (ub = cutBs x tj.bats) := by show _ = _; rw [HK.out.1, List.take_of_length_le (by omega)]
          have UBL : ub.length ≤ 1048576 := by rw [UE.out]; have := cutBs_len x tj.bats; omega
          obtain ⟨s0, s1'⟩ := two GK.out.out
          have : k = tj.bats.length := by omega
          clear HK
          subst this
          have o3 : wr.cell? ⟨w1.heap.size, 3, none⟩ = some (.slice A1 us.length c1) := (GK.out.bel.cell (p := ⟨w1.heap.size, 3, none⟩) (by show w1.heap.size < _; omega)).trans (four WC.out.gv.out).2.2.2
          have hw1r : w1.heap.size < wr.heap.size := by omega
          have hwor : wo.heap.size < wr.heap.size := by omega
          by_cases hu0 : ub.length = 0
          · have VE : Hid (us = cutSs x (l.segs.take (j + 1))) := by show _ = _; rw [← UN.out, one, if_pos (by rw [← UE.out]; exact hu0), List.append_nil]
            have q5 : ¬ (0 : Int) < (ub.length : Int) := by omega
            go_wp2_with fail
            go_roundw
            case rel => exact ⟨j + 1, us, A1, c1, by omega, by go_num, VE.out, WC.out.later (by omega) GK.out.bel⟩
            case measure => simp [intOf]; omega
          · have VE : Hid (us ++ [⟨tj.base, ub⟩] = cutSs x (l.segs.take (j + 1))) := by show _ = _; rw [← UN.out, one, if_neg (by rw [← UE.out]; exact hu0), UE.out]
            have q5 : (0 : Int) < (ub.length : Int) := by omega
            have OB := Seg.hid (LGrow.own GK.out.grow UBL)
            go_wp2_with (at_builtin; (refine wpList_append_lies _ rfl _ _ 26 rfl (w1.heap.size + 1) 55 i0 _ 2 32 Try.underlying26 hi hz0 hz1 hz2 rfl (by decide) (.slice A1 us.length c1) us.length ((List.range (us.length * 2)).map F) rfl (World.ownsRow.alloc (own_keep HG.out.own (fun y _ hy => GK.out.bel.block y hy)) _) ⟨wr.heap.size, 0, none⟩ 1 1 (segArr ⟨tj.base, ub⟩ (.slice A2 ub.length c2)).toList rfl rfl (World.news_of_block (cs := segArr ⟨tj.base, ub⟩ (.slice A2 ub.length c2)) (heap_alloc_new wr _)) (by simp [segArr, Value.oneCell']) (by decide) (by unfold maxLen; omega) (by omega) (by rw [hsz]; omega) (wr.heap.size + 1) (hsz wr _) ?_; intro g9 cap9 w9 hown9 gr9 hat9 hlt9; have D9 := Seg.hid (CTo.push (t := ⟨tj.base, ub⟩) WC.out (by omega) HG.out GK.out.bel OB.out hown9 gr9 hat9); have q1 := D9.out.2.1; have q2 := D9.out.2.2; clear hown9 gr9 hat9 hlt9))
            go_roundw
            case rel => exact ⟨j + 1, _, some ⟨g9, 0, none⟩, cap9, by omega, by go_num, VE.out, by rw [List.length_append]; exact D9.out.1⟩
            case measure => simp [intOf]; omega
    · have UE : Hid (us = cutSs x l.segs) := by show _ = _; rw [HW.out.1, List.take_of_length_le (by omega)]
      have ULE : us.length ≤ 1048576 := by rw [UE.out]; have := cutSs_len x l.segs; omega
      have HC2 : Hid (cutT l x = (⟨l.start, x, l.roll, us⟩, true)) := by show _ = _; rw [HC.out, UE.out]
      have : j = l.segs.length := by omega
      clear HW HC
      subst this
      have O1 := Seg.hid WC.out.gv.out
      have H5 := Seg.hid (Cells.there_of WC.out.res)
      have H4 := Seg.hid (Cells.whole (vs := logArr ⟨l.start, x, l.roll, []⟩ (.slice A1 us.length c1)) WC.out.res rfl)
      have B2 := Seg.hid (Cells.below_setCells (g := w.heap.size + 1) (by omega) (logArr ⟨l.start, x, l.roll, []⟩ (.slice A1 us.length c1)).toList 0 _ _ WC.out.bel)
      have SA : Hid (SegsAt (wo.setCells (w.heap.size + 1) 0 (logArr ⟨l.start, x, l.roll, []⟩ (.slice A1 us.length c1)).toList) w.heap.size (wo.setCells (w.heap.size + 1) 0 (logArr ⟨l.start, x, l.roll, []⟩ (.slice A1 us.length c1)).toList).heap.size (.slice A1 us.length c1) us) := by
        refine ((segs_of (LGrow.own WC.out.gv.grow ULE) (fun y hy => hy)).keep fun g h4 h5 => ?_).mono (by omega) (by rw [Cells.size_setCells]; exact Nat.le_refl _)
        exact Cells.heap_setCells_other _ _ (by omega)
      go_wp2_with (first | (refine wpList_load_row rfl 28 _ rfl w1.heap.size rfl _ _ _ _ O1.out Try.underlying28 rfl infoN ?_) | (refine wpList_store_mid rfl 28 _ _ rfl (w.heap.size + 1) 0 (logArr ⟨l.start, x, l.roll, []⟩ (.slice A1 us.length c1)) rfl rfl H5.out infoN (logArr_one _ _ rfl) ?_))
      exact bodyPost_ret (v := .tuple #[logVal ⟨l.start, x, l.roll, []⟩ (.slice A1 us.length c1), .bool true]) (results_row_tmp rfl _ _ (w.heap.size + 1) _ (logArr ⟨l.start, x, l.roll, []⟩ (.slice A1 us.length c1)) _ _ _ rfl rfl H4.out Try.underlying28 rfl infoN) rfl ⟨.slice A1 us.length c1, by rw [HC2.out]; rfl, by rw [HC2.out]; exact SA.out, B2.out⟩
theorem cutToS_any (v : Value) (l : Lg) (x : Int) (w : World) (lo b : Nat) (hv : LogAt w lo b v l) (hb : b ≤ w.heap.size) (hf : FewL l) (hw : ∀ i, i < l.segs.length → -9223372036854775808 ≤ (l.segs.getD i default).base ∧ (l.segs.getD i default).base ≤ 9223372036854775807) :
    Calls Try.prog 6 #[v, .int .i64 x] w fun e w' => ∃ sv, e = .returned (.tuple #[logVal (cutT l x).1 sv, .bool (cutT l x).2]) ∧ SegsAt w' w.heap.size w'.heap.size sv (cutT l x).1.segs ∧ Below w.heap.size w w' := by
  obtain ⟨sv, rfl, hs⟩ := hv
  obtain ⟨_, ⟨_, A, c, rfl, _⟩, _⟩ := id hs
  exact cutToS_core l x A c w lo b hb hf hw hs
end Go.Proofs.Yticihnoekffelaa.Ft
