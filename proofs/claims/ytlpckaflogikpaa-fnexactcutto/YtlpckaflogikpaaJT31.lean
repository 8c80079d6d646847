/- The program's CutTo; The walk of the law on CutTo out of the contracts. -/
import Derived.Deep.RegionHeld3
import Derived.Test.YtlpckaflogikpaaJT28
import Derived.Test.YtlpckaflogikpaaJT30
import Derived.Test.YtlpckaflogikpaaJT27
namespace Go.Proofs.Ytlpckaflogikpaa.Ft
set_option maxRecDepth 8000
open Go.RowKit
open Recs
open Bats SegW Segs LogW SrP CtP
open LgP (logOk inR)
set_option linter.unusedVariables false
theorem setc4 {wc : World} {q y : Nat} {z0 z1 z2 z3 : Value} {r : Option Obj} (h : y < q) (e : wc.heap[y]? = r) : ((((wc.setCell ⟨q, 0, none⟩ z0).setCell ⟨q, 1, none⟩ z1).setCell ⟨q, 2, none⟩ z2).setCell ⟨q, 3, none⟩ z3).heap[y]? = r := by
  rw [heap_setCell_other _ _ _ _ (by show y ≠ q; omega), heap_setCell_other _ _ _ _ (by show y ≠ q; omega), heap_setCell_other _ _ _ _ (by show y ≠ q; omega), heap_setCell_other _ _ _ _ (by show y ≠ q; omega)]
  exact e
/-- The variable 'out' behind the copy: its block OB is none of its list's. -/
structure CL (w2 wx : World) (OB : Nat) (l : Lg) (v : Value) (us : List Sg) : Prop where
  grow : ∃ F P base, LGr 40 2 ES wx base v us F P ∧ w2.heap.size ≤ base ∧ base ≤ wx.heap.size ∧ v.ownBlock ≠ some OB ∧ ∀ i, i < us.length → ¬ P i OB
  out : wx.heap[OB]? = some (.cells (logArr l v) 28 (0, 0))
  lo : w2.heap.size ≤ OB
  hi : OB < wx.heap.size
  bel : Below w2.heap.size w2 wx
theorem CL.after {w2 wc : World} {l : Lg} {v : Value} {us : List Sg} (h : LGrow 40 2 ES wc w2.heap.size v us) (b : Below w2.heap.size w2 wc) : CL w2 (wc.alloc (.cells (logArr l v) 28 (0, 0))) wc.heap.size l v us := by
  obtain ⟨F, P, hG⟩ := h
  have hs := b.size
  have hv : ∀ x, v.ownBlock = some x → x < wc.heap.size := fun x hx => (World.ownsRow.lt hG.own x hx).2
  exact ⟨⟨F, P, _, hG.keep keepsS (by rw [hsz]; omega) (fun g _ hg => heap_alloc_old _ _ hg), Nat.le_refl _, by rw [hsz]; omega, fun e => by have := hv _ e; omega, fun i hi hp => by have := hG.apart i hi _ hp; omega⟩, heap_alloc_new _ _, by omega, by rw [hsz]; omega, chain b (below1 wc _)⟩
theorem CL.ahead {w2 wc : World} {l : Lg} {v : Value} {us : List Sg} (o : Obj) (h : LGrow 40 2 ES wc (w2.heap.size + 1) v us) (b : Below (w2.heap.size + 1) (w2.alloc o) wc) (hs : w2.heap.size + 1 ≤ wc.heap.size) (hr : (wc.setCells w2.heap.size 0 (logArr l v).toList).heap[w2.heap.size]? = some (.cells (logArr l v) 28 (0, 0))) : CL w2 (wc.setCells w2.heap.size 0 (logArr l v).toList) w2.heap.size l v us := by
  obtain ⟨F, P, hG⟩ := h
  have hv : ∀ x, v.ownBlock = some x → w2.heap.size + 1 ≤ x := fun x hx => (World.ownsRow.lt hG.own x hx).1
  have hz := Cells.size_setCells (g := w2.heap.size) (logArr l v).toList (o := 0) wc
  have b0 : Below w2.heap.size w2 wc := (below1 w2 o).trans (b.mono (by omega))
  exact ⟨⟨F, P, _, hG.keep keepsS (by rw [hz]; exact Nat.le_refl _) (fun g hg _ => Cells.heap_setCells_other _ _ (by omega)), by omega, by rw [hz]; omega, fun e => by have := hv _ e; omega, fun i hi hp => by have := hG.apart i hi _ hp; omega⟩, hr, Nat.le_refl _, by rw [hz]; omega, Cells.below_setCells (Nat.le_refl _) _ _ _ _ b0⟩
/-- Behind append of one more Segment to 'out': w9; the variable's block OB is written last. -/
structure AfterD (w w9 : World) (OB : Nat) (l0 : Lg) (v nv : Value) (us : List Sg) : Prop where
  c3 : w9.cell? ⟨OB, 3, none⟩ = some v
  f3 : w9.frozen? ⟨OB, 3, none⟩ = false
  o : (w9.setCell ⟨OB, 3, none⟩ nv).heap[OB]? = some (.cells (logArr l0 nv) 28 (0, 0))
  r : (w9.setCell ⟨OB, 3, none⟩ nv).heap[w.heap.size + 1]? = some (.cells (logArr ⟨0, 0, 0, []⟩ (.slice none 0 0)) 28 (0, 0))
  row : ((w9.setCell ⟨OB, 3, none⟩ nv).setCells (w.heap.size + 1) 0 (logArr l0 nv).toList).heap[w.heap.size + 1]? = some (.cells (logArr l0 nv) 28 (0, 0))
  own : OwnS ((w9.setCell ⟨OB, 3, none⟩ nv).setCells (w.heap.size + 1) 0 (logArr l0 nv).toList) (seg w.heap.size ((w9.setCell ⟨OB, 3, none⟩ nv).setCells (w.heap.size + 1) 0 (logArr l0 nv).toList).heap.size) nv us
  bel : Below w.heap.size w ((w9.setCell ⟨OB, 3, none⟩ nv).setCells (w.heap.size + 1) 0 (logArr l0 nv).toList)
theorem afterD {w w1 w2 w8 w9 : World} {OB : Nat} {l0 : Lg} {v : Value} {us : List Sg} {F : Nat → Value} {P : Nat → Nat → Prop} {base : Nat} {t : Sg} {rv : Value} {o : Obj} {g cap : Nat} (hG : LGr 40 2 ES w2 base v us F P) (g1 : w1.heap.size ≤ base) (g2 : base ≤ w2.heap.size) (g3 : v.ownBlock ≠ some OB) (g4 : ∀ i, i < us.length → ¬ P i OB) (D : CL w1 w2 OB l0 v us) (hw : w.heap.size + 2 ≤ w1.heap.size) (B1 : Below w.heap.size w w1)
    (Z2 : w2.heap[w.heap.size + 1]? = some (.cells (logArr ⟨0, 0, 0, []⟩ (.slice none 0 0)) 28 (0, 0))) (b8 : Below w2.heap.size w2 w8) (ho : Ft.OwnB w8 (seg w2.heap.size w8.heap.size) rv t.bats) (hn : us.length + 1 ≤ 1048576)
    (hown : w9.ownsRow base 40 2 (.slice (some ⟨g, 0, none⟩) (us.length + 1) cap) (us.length + 1) ((List.range (us.length * 2)).map F ++ (segArr t rv).toList)) (gr : (w8.alloc o).grownBy w9 v.ownBlock) (hg : v.ownBlock = some g ∨ g = w8.heap.size + 1) :
    AfterD w w9 OB l0 v (.slice (some ⟨g, 0, none⟩) (us.length + 1) cap) (us ++ [t]) := by
  have hlo := D.lo
  have hhi := D.hi
  have s8 := b8.size
  have gs := gr.size
  rw [hsz] at gs
  have hvb : ∀ y, v.ownBlock = some y → base ≤ y ∧ y < w2.heap.size := fun y hy => World.ownsRow.lt hG.own y hy
  have k9 : ∀ y, y < w2.heap.size → v.ownBlock ≠ some y → w9.heap[y]? = w2.heap[y]? := fun y hy hne => by
    rw [gr.block y (by rw [hsz]; omega) (fun e => hne e.symm), heap_alloc_old _ _ (by omega), b8.block y hy]
  have O9 := (k9 OB hhi g3).trans D.out
  have R9 := (k9 (w.heap.size + 1) (by omega) (fun e => by have := hvb _ e; omega)).trans Z2
  have O10 := heap_setCell_same w9 OB 3 _ _ (.slice (some ⟨g, 0, none⟩) (us.length + 1) cap) O9
  have R10 := (heap_setCell_other w9 ⟨OB, 3, none⟩ (w.heap.size + 1) (.slice (some ⟨g, 0, none⟩) (us.length + 1) cap) (by show w.heap.size + 1 ≠ OB; omega)).trans R9
  have L9 := LGr.push_own keepsS (w2 := w8.alloc o) (w3 := w9) (g := g) (cap := cap) (Q := seg w2.heap.size w8.heap.size) (t := t) (news := (segArr t rv).toList) hG g2 (by rw [hsz]; omega) (fun y _ hy => by rw [heap_alloc_old _ _ (by omega), b8.block y hy]) (seg_el (LOwn.keep keepsB ho (by rw [hsz]; omega) (fun y hy => heap_alloc_old _ _ hy.2))) (fun y hy => by rw [hsz]; obtain ⟨y1, y2⟩ := hy; exact ⟨by omega, by omega⟩) rfl hown gr (by rw [hsz]; exact hg) hn
  have B9 : Below w.heap.size w w9 := ⟨gr.os.trans (b8.os.trans (D.bel.os.trans B1.os)), gr.tape.trans (b8.tape.trans (D.bel.tape.trans B1.tape)), gr.output.trans (b8.output.trans (D.bel.output.trans B1.output)), by have := D.bel.size; omega, fun y hy => (k9 y (by have := D.bel.size; omega) (fun e => by have := hvb _ e; omega)).trans ((D.bel.block y (by omega)).trans (B1.block y hy))⟩
  have hz := Cells.size_setCells (g := w.heap.size + 1) (logArr l0 (.slice (some ⟨g, 0, none⟩) (us.length + 1) cap)).toList (o := 0) (w9.setCell ⟨OB, 3, none⟩ (.slice (some ⟨g, 0, none⟩) (us.length + 1) cap))
  refine ⟨cell_of_row w9 OB 3 _ _ (0, 0) O9, frozen_of_row w9 OB 3 _ _ O9, O10, R10, Cells.whole (vs := logArr l0 (.slice (some ⟨g, 0, none⟩) (us.length + 1) cap)) R10 rfl, ?_, Cells.below_setCells (by omega) _ _ _ _ (B9.setCell (p := ⟨OB, 3, none⟩) (by show w.heap.size ≤ OB; omega) _)⟩
  have hS : ∀ y, ((∃ i, i < us.length ∧ P i y) ∨ v.ownBlock = some y ∨ seg w2.heap.size w8.heap.size y ∨ y = (w8.alloc o).heap.size) → w1.heap.size ≤ y ∧ y ≠ OB := fun y hy => by
    rcases hy with ⟨i, hi, hp⟩ | hy | hy | hy
    · have := hG.apart i hi y hp
      exact ⟨by omega, fun e => g4 i hi (e ▸ hp)⟩
    · have := hvb y hy
      exact ⟨by omega, fun e => g3 (e ▸ hy)⟩
    · obtain ⟨y1, y2⟩ := hy
      have := D.bel.size
      exact ⟨by omega, by omega⟩
    · rw [hsz] at hy
      have := D.bel.size
      exact ⟨by omega, by omega⟩
  have hlt : ∀ y, ((∃ i, i < us.length ∧ P i y) ∨ v.ownBlock = some y ∨ seg w2.heap.size w8.heap.size y ∨ y = (w8.alloc o).heap.size) → (∃ q, True) := fun _ _ => ⟨0, trivial⟩
  have L11 := LOwn.keep keepsS L9 (w' := (w9.setCell ⟨OB, 3, none⟩ (.slice (some ⟨g, 0, none⟩) (us.length + 1) cap)).setCells (w.heap.size + 1) 0 (logArr l0 (.slice (some ⟨g, 0, none⟩) (us.length + 1) cap)).toList) (by rw [hz]; simp) (fun y hy => by
    have := hS y hy
    rw [Cells.heap_setCells_other _ _ (by omega), heap_setCell_other _ _ _ _ (by show y ≠ OB; exact this.2)])
  obtain ⟨h0, A', c', e1, e2⟩ := L11
  refine ⟨h0, A', c', e1, e2.imp id ?_⟩
  rintro ⟨g', F', P', a1, a2, a3, a4⟩
  have hsz' : ((w9.setCell ⟨OB, 3, none⟩ (.slice (some ⟨g, 0, none⟩) (us.length + 1) cap)).setCells (w.heap.size + 1) 0 (logArr l0 (.slice (some ⟨g, 0, none⟩) (us.length + 1) cap)).toList).heap.size = w9.heap.size := by rw [hz]; simp
  exact ⟨g', F', P', a1, ⟨by have := (hS g' a2).1; omega, a4.mine.lt⟩, fun i hi y hy => ⟨by have := (hS y (a3 i hi y hy)).1; omega, (a4.apart i hi y hy).2⟩, a4⟩
set_option maxHeartbeats 12800000 in
theorem cutTo_core (l : Lg) (x : Int) (A : Option Addr) (c : Nat) (w : World) (lo b : Nat) (hb : b ≤ w.heap.size) (hf : FewL l) (hs : SegsAt w lo b (.slice A l.segs.length c) l.segs) :
    Calls Try.prog 8 #[logVal l (.slice A l.segs.length c), .int .i64 x] w fun e w' => ∃ sv, e = .returned (.tuple #[logVal (cutT l x).1 sv, .bool (cutT l x).2]) ∧ OwnS w' (seg w.heap.size w'.heap.size) sv (cutT l x).1.segs ∧ Below w.heap.size w w' := by
  obtain ⟨i0, hi, hz0, hz1, hz2⟩ := info_parts infoSg
  have HS := Seg.hid hs
  have HV : Hid (LogAt w lo b (logVal l (.slice A l.segs.length c)) l) := ⟨_, rfl, hs⟩
  have HF := Seg.hid hf
  clear hs hf
  unfold logVal at HV ⊢
  go_enter Try.func8, Try.ntmps8
  go_wp2_with fail
  refine (LgI.impl_any _ l ((w.alloc _).alloc _) lo b (HV.out.below ((below2 w _ _).mono hb)) (by rw [hsz, hsz]; omega) HF.out).mono ?_
  rintro e w1 ⟨rfl, b1⟩
  have B1 := Seg.hid (chain (below2 w _ _) b1)
  have T1 : Hid (w1.heap[w.heap.size]? = some (.cells (logArr l (.slice A l.segs.length c)) 28 (0, 0))) := (b1.block w.heap.size (by rw [hsz, hsz]; omega)).trans (at1 w _ _)
  have T2 : Hid (w1.heap[w.heap.size + 1]? = some (.cells (logArr ⟨0, 0, 0, []⟩ (.slice none 0 0)) 28 (0, 0))) := (b1.block (w.heap.size + 1) (by rw [hsz, hsz]; omega)).trans (at2 w _ _)
  have s1 := b1.size
  rw [hsz, hsz] at s1
  clear b1
  have NO : Hid (∀ w2, Below w1.heap.size w1 w2 → w2.there (w.heap.size + 1) 0 (logArr ⟨0, 0, 0, []⟩ (.slice none 0 0)).size ∧ (w2.setCells (w.heap.size + 1) 0 (logArr ⟨0, 0, 0, []⟩ (.slice none 0 0)).toList).heap[w.heap.size + 1]? = some (.cells (logArr ⟨0, 0, 0, []⟩ (.slice none 0 0)) 28 (0, 0)) ∧ Below w.heap.size w (w2.setCells (w.heap.size + 1) 0 (logArr ⟨0, 0, 0, []⟩ (.slice none 0 0)).toList)) := fun w2 b2 => by
    have T := (b2.block (w.heap.size + 1) (by omega)).trans T2.out
    exact ⟨Cells.there_of T, Cells.whole (vs := logArr ⟨0, 0, 0, []⟩ (.slice none 0 0)) T rfl, Cells.below_setCells (by omega) _ _ _ _ (chain B1.out b2)⟩
  cases hok : logOk l with
  | false =>
    have HC : Hid (cutT l x = (⟨0, 0, 0, []⟩, false)) := by show _ = _; simp [cutT, hok]
    clear hok
    go_wp2_with (first | (refine wpList_store_mid rfl 28 _ _ rfl (w.heap.size + 1) 0 (logArr ⟨0, 0, 0, []⟩ (.slice none 0 0)) rfl rfl (NO.out _ (Below.refl _ _)).1 infoN (logArr_one _ _ rfl) ?_))
    exact bodyPost_ret (v := .tuple #[logVal ⟨0, 0, 0, []⟩ (.slice none 0 0), .bool false]) (results_row_tmp rfl _ _ (w.heap.size + 1) _ _ _ _ _ rfl rfl (NO.out _ (Below.refl _ _)).2.1 Try.underlying28 rfl infoN) rfl ⟨.slice none 0 0, by rw [HC.out]; rfl, by rw [HC.out]; exact LOwn.nil _ _ _ _, (NO.out _ (Below.refl _ _)).2.2⟩
  | true =>
  obtain ⟨c0, c1, c2, c3⟩ := four T1.out
  have IN : ∀ t, (decide (l.start ≤ x) && decide (x ≤ l.next)) = t → inR x l.start l.next = t := fun t h => h
  cases hin : (decide (l.start ≤ x) && decide (x ≤ l.next)) with
  | false =>
    have HC : Hid (cutT l x = (⟨0, 0, 0, []⟩, false)) := by show _ = _; simp [cutT, hok, IN false hin]
    clear IN hok
    go_wp2_with fail
    refine (InB.within_b x l.start l.next false hin w1).mono ?_
    rintro e w1' ⟨rfl, rfl⟩
    clear hin
    go_wp2_with (first | (refine wpList_store_mid rfl 28 _ _ rfl (w.heap.size + 1) 0 (logArr ⟨0, 0, 0, []⟩ (.slice none 0 0)) rfl rfl (NO.out _ (Below.refl _ _)).1 infoN (logArr_one _ _ rfl) ?_))
    exact bodyPost_ret (v := .tuple #[logVal ⟨0, 0, 0, []⟩ (.slice none 0 0), .bool false]) (results_row_tmp rfl _ _ (w.heap.size + 1) _ _ _ _ _ rfl rfl (NO.out _ (Below.refl _ _)).2.1 Try.underlying28 rfl infoN) rfl ⟨.slice none 0 0, by rw [HC.out]; rfl, by rw [HC.out]; exact LOwn.nil _ _ _ _, (NO.out _ (Below.refl _ _)).2.2⟩
  | true =>
  have HC : Hid (cutT l x = (⟨l.start, x, l.roll, cutSs x l.segs⟩, true)) := by show _ = _; simp [cutT, hok, IN true hin]
  obtain ⟨f, k1, k2, k3, k4, k5, k6⟩ := ok_parts hok
  have SO := Seg.hid (segs_ok _ _ _ _ k1); have SM := Seg.hid (segs_mono _ _ _ _ k1); have SB := Seg.hid (segs_bats _ _ _ _ k1)
  have CFD := Seg.hid (cutSs_found x _ _ _ _ k1)
  clear IN hok k1
  go_wp2_with fail
  refine (InB.within_b x l.start l.next true hin w1).mono ?_
  rintro e w1' ⟨rfl, rfl⟩
  simp only [Bool.and_eq_true, decide_eq_true_eq] at hin
  have hx0 : 0 ≤ x := by omega
  have hx1 : x ≤ 1000000000 := by omega
  clear hin
  go_wp2_with fail
  refine (SrW.segmentAt_any _ x l.segs w1 lo b (HS.out.below (B1.out.mono hb)) (by omega) (fun i hi => (HF.out.1.2 i hi).1) SO.out (fun i j a1 a2 => SM.out i j a1 a2 x) HF.out.1.1).mono ?_
  rintro e w2 ⟨r, rfl, hF, b2⟩
  have KF := Seg.hid (CFD.out r hF)
  have RY := Seg.hid hF.yes
  have hrn := hF.le
  have B2 := Seg.hid (chain B1.out b2)
  have U1 := Seg.hid ((b2.block w.heap.size (by omega)).trans T1.out)
  have U2 := Seg.hid ((b2.block (w.heap.size + 1) (by omega)).trans T2.out)
  have s2 := b2.size
  clear hF b2 c0 c1 c2 c3
  obtain ⟨c0, c1, c2, c3⟩ := four U1.out
  have hw2 : w.heap.size < w2.heap.size := by omega
  have r0 : (0 : Int) ≤ (r : Int) := by omega
  have r1 : (r : Int) ≤ (l.segs.length : Int) := by omega
  have hrc : r ≤ c := by
    obtain ⟨_, ⟨_, A', c', hsl, hrow⟩, _⟩ := HS.out
    simp only [Value.slice.injEq] at hsl
    obtain ⟨rfl, _, rfl⟩ := hsl
    rcases hrow with h | ⟨_, _, _, _, h, _⟩ <;> omega
  have r2 : (r : Int) ≤ (c : Int) := by omega
  have hul : (l.segs.take r).length = r := by rw [List.length_take]; omega
  have CALL : Hid (∀ wx, Below w2.heap.size w2 wx → Calls Try.prog 22 #[.slice A r c] wx fun e w' => ∃ sv, e = .returned sv ∧ LGrow 40 2 ES w' wx.heap.size sv (l.segs.take r) ∧ Below wx.heap.size wx w') := fun wx bx => copySegments_any _ (l.segs.take r) wx lo b (Nat.le_trans hb (Nat.le_trans B2.out.size bx.size)) (by rw [hul]; have := HF.out.1.1; omega) (fun i hi => by rw [hul] at hi; rw [getD_take _ _ _ hi]; exact HF.out.1.2 i (by omega)) ((segs_take HS.out hrn).below ((chain B2.out bx).mono hb))
  have KS : Hid (∀ wx : World, wx.heap[w.heap.size]? = w2.heap[w.heap.size]? → wx.cell? ⟨w.heap.size, 0, none⟩ = some (.int .i64 l.start) ∧ wx.cell? ⟨w.heap.size, 2, none⟩ = some (.int .i64 l.roll) ∧ wx.cell? ⟨w.heap.size, 3, none⟩ = some (.slice A l.segs.length c)) := fun wx hx => by
    rw [World.cell?_of_block (w := w2) (a := ⟨w.heap.size, 0, none⟩) hx, World.cell?_of_block (w := w2) (a := ⟨w.heap.size, 2, none⟩) hx, World.cell?_of_block (w := w2) (a := ⟨w.heap.size, 3, none⟩) hx]
    exact ⟨c0, c2, c3⟩
  go_wp2_with fail
  rename_i K aK
  have J : ∀ (OB : Nat) (wx : World) (A3 : Option Addr) (c3' : Nat) (u26 u27 u28 u29 u30 u31 u32 u33 u34 u35 u36 : Value), CL w2 wx OB ⟨l.start, x, l.roll, []⟩ (.slice A3 r c3') (l.segs.take r) → K ⟨#[(.agg #[.int .i64 l.start, .int .i64 l.next, .int .i64 l.roll, .slice A l.segs.length c]), .int .i64 x, .pointer (some ⟨w.heap.size, 0, none⟩), undef, .pointer (some ⟨w.heap.size + 1, 0, none⟩), .bool false, .int .i64 r, .pointer (some ⟨OB, 0, none⟩), undef, (.agg #[.int .i64 l.start, .int .i64 l.next, .int .i64 l.roll, .slice A l.segs.length c]), .bool true, .bool false, .bool false, .int .i64 x, .pointer (some ⟨w.heap.size, 0, none⟩), .int .i64 l.start, .pointer (some ⟨w.heap.size, 1, none⟩), .int .i64 l.next, .bool true, .bool false, .bool false, undef, .pointer (some ⟨w.heap.size, 3, none⟩), .slice A l.segs.length c, .int .i64 x, .int .i64 r, u26, u27, u28, u29, u30, u31, u32, u33, u34, u35, u36, undef, undef, undef, undef, undef, undef, undef, undef, undef, undef, undef, undef, undef, undef, undef, undef, undef, undef, undef, undef, undef, undef, undef], []⟩ wx := by
    intro OB wx A3 c3' u26 u27 u28 u29 u30 u31 u32 u33 u34 u35 u36 D
    refine aK _ _ ?_
    have T2 := Seg.hid ((D.bel.block w.heap.size (by omega)).trans U1.out)
    have Z2 := Seg.hid ((D.bel.block (w.heap.size + 1) (by omega)).trans U2.out)
    have B3 := Seg.hid (chain B2.out D.bel)
    have hOB := D.lo
    have hOBh := D.hi
    have DD := Seg.hid D
    obtain ⟨o0, o1, o2, o3⟩ := four D.out
    clear D c0 c1 c2 c3
    obtain ⟨c0, c1, c2, c3⟩ := four T2.out
    obtain ⟨n0, n1, n2, n3⟩ := four Z2.out
    have f0 := frozen_of_row wx (w.heap.size + 1) 0 _ _ Z2.out
    have f1 := frozen_of_row wx (w.heap.size + 1) 1 _ _ Z2.out
    have f2 := frozen_of_row wx (w.heap.size + 1) 2 _ _ Z2.out
    have f3 := frozen_of_row wx (w.heap.size + 1) 3 _ _ Z2.out
    have hbl := HF.out.1.1
    have NOM : Hid (cutSs x l.segs = l.segs.take r → ∀ wy, Below wx.heap.size wx wy → (wy.setCells (w.heap.size + 1) 0 (logArr ⟨l.start, x, l.roll, []⟩ (.slice A3 r c3')).toList).heap[w.heap.size + 1]? = some (.cells (logArr ⟨l.start, x, l.roll, []⟩ (.slice A3 r c3')) 28 (0, 0)) ∧ Below w.heap.size w (wy.setCells (w.heap.size + 1) 0 (logArr ⟨l.start, x, l.roll, []⟩ (.slice A3 r c3')).toList) ∧ OwnS (wy.setCells (w.heap.size + 1) 0 (logArr ⟨l.start, x, l.roll, []⟩ (.slice A3 r c3')).toList) (seg w.heap.size (wy.setCells (w.heap.size + 1) 0 (logArr ⟨l.start, x, l.roll, []⟩ (.slice A3 r c3')).toList).heap.size) (.slice A3 r c3') (cutSs x l.segs)) := fun he wy by_ => by
      have sy := by_.size
      refine ⟨Cells.whole (vs := logArr ⟨l.start, x, l.roll, []⟩ (.slice A3 r c3')) ((by_.block (w.heap.size + 1) (by omega)).trans Z2.out) rfl, Cells.below_setCells (by omega) _ _ _ _ (chain B3.out by_), ?_⟩
      obtain ⟨F, P, base, hG, g1, g2, g3, g4⟩ := DD.out.grow
      rw [he]
      refine (LOwn.keep keepsS (LGrow.own ⟨F, P, hG⟩ (by rw [hul]; omega)) (by rw [Cells.size_setCells]; exact sy) (fun g h1 => ?_)).mono (fun y hy => ?_)
      · have := h1.1
        exact (Cells.heap_setCells_other _ _ (by omega)).trans (by_.block g h1.2)
      · obtain ⟨x1, x2⟩ := hy
        refine ⟨by omega, ?_⟩
        rw [Cells.size_setCells]
        omega
    by_cases hrn2 : r = l.segs.length
    · have CE : Hid (cutSs x l.segs = l.segs.take r) := by show _ = _; rw [KF.out, if_neg (by omega), List.append_nil]
      have NQ := Seg.hid (NOM.out CE.out wx (Below.refl _ _))
      have q2 : ¬ (r : Int) < (l.segs.length : Int) := by omega
      clear NOM KF hrn2
      go_wp2_with fail
      exact bodyPost_ret (v := .tuple #[logVal ⟨l.start, x, l.roll, []⟩ (.slice A3 r c3'), .bool true]) (results_row_tmp rfl _ _ (w.heap.size + 1) _ (logArr ⟨l.start, x, l.roll, []⟩ (.slice A3 r c3')) _ _ _ rfl rfl NQ.out.1 Try.underlying28 rfl infoN) rfl ⟨.slice A3 r c3', by rw [HC.out]; rfl, by rw [HC.out]; exact NQ.out.2.2, NQ.out.2.1⟩
    · have hlt : r < l.segs.length := by omega
      have q1 : (r : Int) < (l.segs.length : Int) := by omega
      obtain ⟨H, ⟨_, A', c', hsl, hrow⟩, hh⟩ := HS.out
      simp only [Value.slice.injEq] at hsl
      obtain ⟨rfl, _, rfl⟩ := hsl
      obtain ⟨g, o, rfl, hg, hc, hcell, _⟩ := hrow.resolve_left (by omega)
      have hgw : g < w.heap.size := by omega
      obtain ⟨e0, e1⟩ := Segs.six (fun i hi q hq => by rw [B3.out.cell (p := ⟨g, o + i * 2 + q, none⟩) hgw]; exact hcell i hi q hq) r hlt
      have ST := Seg.hid ((hh r hlt).below (B3.out.mono hb))
      obtain ⟨fa, ea, fb, eb, hbats, _⟩ := SB.out r hlt
      have CE : Hid (cutSs x l.segs = l.segs.take r ++ one x (l.segs.getD r default)) := by show _ = _; rw [KF.out, if_pos hlt]
      have FS := Seg.hid (HF.out.1.2 r hlt)
      clear hcell hh hrow KF SB hrn2
      generalize l.segs.getD r default = t at *
      obtain ⟨_, ⟨_, Ah, ch, hHj, _⟩, _⟩ := id ST.out
      rw [hHj] at e1 ST
      clear hHj
      have HB := Seg.hid hbats
      clear hbats
      have hbx : b ≤ wx.heap.size := by omega
      go_wp2_with fail
      refine (cutSegment_any _ t x fa ea fb eb wx lo b ⟨_, rfl, ST.out⟩ hbx FS.out HB.out hx0 hx1).mono ?_
      rintro e w8 ⟨bv8, rfl, ow8, b8⟩
      have B8 := Seg.hid b8
      have O8 := Seg.hid ow8
      have s8 := b8.size
      obtain ⟨A8, c8, hA8⟩ := LOwn.form ow8
      subst hA8
      have W8 := Seg.hid ((b8.block OB hOBh).trans DD.out.out)
      have Z8 := Seg.hid ((b8.block (w.heap.size + 1) (by omega)).trans Z2.out)
      clear ow8 b8 e0 e1 o0 o1 o2 o3 n0 n1 n2 n3 f0 f1 f2 f3 c0 c1 c2 c3
      obtain ⟨o0, o1, o2, o3⟩ := four W8.out
      obtain ⟨n0, n1, n2, n3⟩ := four Z8.out
      have f0 := frozen_of_row w8 (w.heap.size + 1) 0 _ _ Z8.out
      have f1 := frozen_of_row w8 (w.heap.size + 1) 1 _ _ Z8.out
      have f2 := frozen_of_row w8 (w.heap.size + 1) 2 _ _ Z8.out
      have f3 := frozen_of_row w8 (w.heap.size + 1) 3 _ _ Z8.out
      have hl8 : OB < w8.heap.size := by omega
      have hl9 : w.heap.size + 1 < w8.heap.size := by omega
      unfold segVal
      obtain ⟨tb, htb⟩ : ∃ tb, cutBs x t.bats = tb := ⟨_, rfl⟩
      rw [htb] at O8
      have CE2 : Hid (cutSs x l.segs = l.segs.take r ++ (if tb.length = 0 then [] else [⟨t.base, tb⟩])) := by show _ = _; rw [CE.out, one, htb]
      simp only [htb]
      clear htb CE HB FS ST HF CALL SM SO CFD RY HS HV U1 U2 T2 B1
      by_cases hz : tb.length = 0
      · have CN : Hid (cutSs x l.segs = l.segs.take r) := by show _ = _; rw [CE2.out, if_pos hz, List.append_nil]
        have NQ := Seg.hid (fun o9 => NOM.out CN.out (w8.alloc o9) (chain B8.out (below1 w8 o9)))
        obtain rfl := List.length_eq_zero_iff.1 hz
        clear CE2 hz O8 NQ
        simp only [List.length_nil]
        go_upto_region 9 with fail
        obtain ⟨wz, hwz⟩ : ∃ wz, w8.alloc (.cells #[.int .i64 t.base, .slice A8 0 c8] 40 (0, 0)) = wz := ⟨_, rfl⟩
        rw [hwz]
        have BW : Hid (Below wx.heap.size wx wz) := hwz ▸ chain B8.out (below1 w8 _)
        have NQ := Seg.hid (NOM.out CN.out wz BW.out)
        have WZ8 := Seg.hid ((BW.out.block OB hOBh).trans DD.out.out)
        have ZZ8 := Seg.hid ((BW.out.block (w.heap.size + 1) (by omega)).trans Z2.out)
        clear hwz NOM CN o0 o1 o2 o3 n0 n1 n2 n3 f0 f1 f2 f3
        obtain ⟨o0, o1, o2, o3⟩ := four WZ8.out
        obtain ⟨n0, n1, n2, n3⟩ := four ZZ8.out
        have f0 := frozen_of_row wz (w.heap.size + 1) 0 _ _ ZZ8.out
        have f1 := frozen_of_row wz (w.heap.size + 1) 1 _ _ ZZ8.out
        have f2 := frozen_of_row wz (w.heap.size + 1) 2 _ _ ZZ8.out
        have f3 := frozen_of_row wz (w.heap.size + 1) 3 _ _ ZZ8.out
        go_wp2_with fail
        exact bodyPost_ret (v := .tuple #[logVal ⟨l.start, x, l.roll, []⟩ (.slice A3 r c3'), .bool true]) (results_row_tmp rfl _ _ (w.heap.size + 1) _ (logArr ⟨l.start, x, l.roll, []⟩ (.slice A3 r c3')) _ _ _ rfl rfl NQ.out.1 Try.underlying28 rfl infoN) rfl ⟨.slice A3 r c3', by rw [HC.out]; rfl, by rw [HC.out]; exact NQ.out.2.2, NQ.out.2.1⟩
      · have CN : Hid (cutSs x l.segs = l.segs.take r ++ [⟨t.base, tb⟩]) := by show _ = _; rw [CE2.out, if_neg hz]
        have q5 : (0 : Int) < (tb.length : Int) := by omega
        obtain ⟨F, P, base, hG, g1, g2, g3, g4⟩ := DD.out.grow
        have OWN : Hid (∀ o8 o9, ((w8.alloc o8).alloc o9).ownsRow base 40 2 (.slice A3 r c3') r ((List.range (r * 2)).map F) ∧ base ≤ ((w8.alloc o8).alloc o9).heap.size) := fun o8 o9 => by
          have := World.ownsRow.alloc (World.ownsRow.alloc (own_keep hG.own (fun y _ hy => B8.out.block y hy)) o8) o9
          rw [hul] at this
          exact ⟨this, by rw [hsz, hsz]; omega⟩
        have PU : Hid (∀ g9 cap9 w9 o8 o9, w9.ownsRow base 40 2 (.slice (some ⟨g9, 0, none⟩) (r + 1) cap9) (r + 1) ((List.range (r * 2)).map F ++ (segArr ⟨t.base, tb⟩ (.slice A8 tb.length c8)).toList) → ((w8.alloc o8).alloc o9).grownBy w9 (Value.slice A3 r c3').ownBlock → ((Value.slice A3 r c3').ownBlock = some g9 ∨ g9 = w8.heap.size + 1 + 1) → AfterD w w9 OB ⟨l.start, x, l.roll, []⟩ (.slice A3 r c3') (.slice (some ⟨g9, 0, none⟩) (r + 1) cap9) (l.segs.take r ++ [⟨t.base, tb⟩])) := fun g9 cap9 w9 o8 o9 a1 a2 a3 => by
          have := afterD (t := ⟨t.base, tb⟩) (rv := .slice A8 tb.length c8) (o := o9) (g := g9) (cap := cap9) hG g1 g2 g3 g4 DD.out (by omega) (chain B2.out (Below.refl _ _)) Z2.out (chain B8.out (below1 w8 o8)) ((LOwn.keep keepsB O8.out (by rw [hsz]; omega) (fun y hy => heap_alloc_old _ _ hy.2)).mono (fun y hy => ⟨hy.1, by have := hy.2; rw [hsz]; omega⟩)) (by rw [hul]; omega) (by rw [hul]; exact a1) a2 (by rw [hsz]; exact a3)
          rw [hul] at this
          exact this
        have hl63 : Hid (r + 1 ≤ maxLen) := by show _ ≤ _; unfold maxLen; omega
        have hby : Hid ((r + 1) * 32 ≤ 140737488355328) := by show _ ≤ _; omega
        clear hG g1 g2 g3 g4 NOM CE2 hz
        go_upto_region 9 with (at_builtin; (refine wpList_append_lies _ rfl _ _ 26 rfl base 40 i0 _ 2 32 Try.underlying26 hi hz0 hz1 hz2 rfl (by decide) (.slice A3 r c3') r ((List.range (r * 2)).map F) rfl (OWN.out _ _).1 ⟨w8.heap.size + 1, 0, none⟩ 1 1 (segArr ⟨t.base, tb⟩ (.slice A8 tb.length c8)).toList rfl rfl (World.news_of_block (cs := segArr ⟨t.base, tb⟩ (.slice A8 tb.length c8)) (at2 w8 _ _)) (by simp [segArr, Value.oneCell']) (by decide) hl63.out hby.out (OWN.out _ _).2 (w8.heap.size + 1 + 1) (by rw [hsz, hsz]) ?_; intro g9 cap9 w9 hown9 gr9 hat9 hlt9; have AC := Seg.hid (PU.out g9 cap9 w9 _ _ hown9 gr9 hat9); have q6 := AC.out.c3; have p6 := AC.out.f3; clear hown9 gr9 hat9 hlt9))
        clear o0 o1 o2 o3 n0 n1 n2 n3 f0 f1 f2 f3 q6 p6
        obtain ⟨o0, o1, o2, o3⟩ := four AC.out.o
        obtain ⟨n0, n1, n2, n3⟩ := four AC.out.r
        have f0 := frozen_of_row _ (w.heap.size + 1) 0 _ _ AC.out.r
        have f1 := frozen_of_row _ (w.heap.size + 1) 1 _ _ AC.out.r
        have f2 := frozen_of_row _ (w.heap.size + 1) 2 _ _ AC.out.r
        have f3 := frozen_of_row _ (w.heap.size + 1) 3 _ _ AC.out.r
        obtain ⟨wz, hwz⟩ : ∃ wz, w9.setCell ⟨OB, 3, none⟩ (.slice (some ⟨g9, 0, none⟩) (r + 1) cap9) = wz := ⟨_, rfl⟩
        have A1 := Seg.hid AC.out.row
        have A2 := Seg.hid AC.out.own
        have A3' := Seg.hid AC.out.bel
        rw [hwz] at A1 A2 A3' o0 o1 o2 o3 n0 n1 n2 n3 f0 f1 f2 f3 ⊢
        clear AC hwz
        go_wp2_with fail
        exact bodyPost_ret (v := .tuple #[logVal ⟨l.start, x, l.roll, []⟩ (.slice (some ⟨g9, 0, none⟩) (r + 1) cap9), .bool true]) (results_row_tmp rfl _ _ (w.heap.size + 1) _ (logArr ⟨l.start, x, l.roll, []⟩ (.slice (some ⟨g9, 0, none⟩) (r + 1) cap9)) _ _ _ rfl rfl A1.out Try.underlying28 rfl infoN) rfl ⟨.slice (some ⟨g9, 0, none⟩) (r + 1) cap9, by rw [HC.out]; rfl, by rw [HC.out]; show OwnS _ _ _ (cutSs x l.segs); rw [CN.out]; exact A2.out, A3'.out⟩
  clear aK
  go_region_held3 (fun w' => w'.cell? ⟨w.heap.size, 0, none⟩ = some (.int .i64 l.start) ∧ w'.cell? ⟨w.heap.size, 2, none⟩ = some (.int .i64 l.roll) ∧ w'.cell? ⟨w.heap.size, 3, none⟩ = some (.slice A l.segs.length c)) (first | go_keep | exact KSc.out | exact KSd.out | exact KSf.out _ | exact KSe.out _ _ _ _ | exact KS.out _ rfl)
    (first | (go_at_call 22; refine (CALL.out w2.drew (Below.refl _ _).drew).mono ?_; rintro e wc ⟨sv, rfl, hG, bc⟩; obtain ⟨A3, c3', hA3⟩ := LGrow.form hG; rw [hul] at hA3; subst hA3; have HGc := Seg.hid hG; have Bc : Hid (Below w2.heap.size w2 wc) := ⟨bc.os, bc.tape, bc.output, bc.size, bc.block⟩; have KSc := Seg.hid (KS.out wc (Bc.out.block w.heap.size hw2)); have hwc : w.heap.size < wc.heap.size := Nat.lt_of_lt_of_le hw2 Bc.out.size; have KSf : Hid (∀ o9 : Obj, (wc.alloc o9).cell? ⟨w.heap.size, 0, none⟩ = some (.int .i64 l.start) ∧ (wc.alloc o9).cell? ⟨w.heap.size, 2, none⟩ = some (.int .i64 l.roll) ∧ (wc.alloc o9).cell? ⟨w.heap.size, 3, none⟩ = some (.slice A l.segs.length c)) := fun o9 => KS.out _ ((heap_alloc_old _ _ hwc).trans (Bc.out.block w.heap.size hw2)); clear hG bc) | (go_at_call 22; refine (CALL.out (w2.drew.alloc _) ((below1 w2 _).drew)).mono ?_; rintro e wc ⟨sv, rfl, hG, bc⟩; obtain ⟨A3, c3', hA3⟩ := LGrow.form hG; rw [hul] at hA3; subst hA3; rw [hsz] at hG bc; have HGd := Seg.hid hG; have Bd : Hid (Below (w2.heap.size + 1) (w2.alloc (.cells #[.int .i64 0, .int .i64 0, .int .i64 0, .slice none 0 0] 28 (0, 0))) wc) := ⟨bc.os, bc.tape, bc.output, bc.size, bc.block⟩; have V : Hid (wc.heap[w2.heap.size]? = some (.cells (logArr ⟨0, 0, 0, []⟩ (.slice none 0 0)) 28 (0, 0))) := (Bd.out.block w2.heap.size (by omega)).trans (heap_alloc_new _ _); obtain ⟨k0, k1, k2, k3⟩ := four V.out; have y0 := frozen_of_row wc w2.heap.size 0 _ _ V.out; have y1 := frozen_of_row wc w2.heap.size 1 _ _ V.out; have y2 := frozen_of_row wc w2.heap.size 2 _ _ V.out; have y3 := frozen_of_row wc w2.heap.size 3 _ _ V.out; have KSd := Seg.hid (KS.out wc ((Bd.out.block w.heap.size (by omega)).trans (heap_alloc_old _ _ hw2))); have KSe : Hid (∀ z0 z1 z2 z3 : Value, ((((wc.setCell ⟨w2.heap.size, 0, none⟩ z0).setCell ⟨w2.heap.size, 1, none⟩ z1).setCell ⟨w2.heap.size, 2, none⟩ z2).setCell ⟨w2.heap.size, 3, none⟩ z3).cell? ⟨w.heap.size, 0, none⟩ = some (.int .i64 l.start) ∧ ((((wc.setCell ⟨w2.heap.size, 0, none⟩ z0).setCell ⟨w2.heap.size, 1, none⟩ z1).setCell ⟨w2.heap.size, 2, none⟩ z2).setCell ⟨w2.heap.size, 3, none⟩ z3).cell? ⟨w.heap.size, 2, none⟩ = some (.int .i64 l.roll) ∧ ((((wc.setCell ⟨w2.heap.size, 0, none⟩ z0).setCell ⟨w2.heap.size, 1, none⟩ z1).setCell ⟨w2.heap.size, 2, none⟩ z2).setCell ⟨w2.heap.size, 3, none⟩ z3).cell? ⟨w.heap.size, 3, none⟩ = some (.slice A l.segs.length c)) := fun z0 z1 z2 z3 => KS.out _ (setc4 hw2 ((Bd.out.block w.heap.size (by omega)).trans (heap_alloc_old _ _ hw2))); clear hG bc))
  · show K _ _
    refine J wc.heap.size _ A3 c3' _ _ _ _ _ _ _ _ _ _ _ ?_
    exact CL.after (l := ⟨l.start, x, l.roll, []⟩) HGc.out Bc.out
  · show K _ _
    refine J w2.heap.size _ A3 c3' _ _ _ _ _ _ _ _ _ _ _ ?_
    have hs3 : w2.heap.size + 1 ≤ wc.heap.size := by have := Bd.out.size; rw [hsz] at this; exact this
    exact CL.ahead (l := ⟨l.start, x, l.roll, []⟩) (.cells #[.int .i64 0, .int .i64 0, .int .i64 0, .slice none 0 0] 28 (0, 0)) HGd.out Bd.out hs3 (Cells.whole (vs := logArr ⟨l.start, x, l.roll, []⟩ (.slice A3 r c3')) V.out rfl)
theorem cutTo_any (v : Value) (l : Lg) (x : Int) (w : World) (lo b : Nat) (hv : LogAt w lo b v l) (hb : b ≤ w.heap.size) (hf : FewL l) :
    Calls Try.prog 8 #[v, .int .i64 x] w fun e w' => ∃ sv, e = .returned (.tuple #[logVal (cutT l x).1 sv, .bool (cutT l x).2]) ∧ OwnS w' (seg w.heap.size w'.heap.size) sv (cutT l x).1.segs ∧ Below w.heap.size w w' := by
  obtain ⟨sv, rfl, hs⟩ := hv
  obtain ⟨_, ⟨_, A, c, rfl, _⟩, _⟩ := id hs
  exact cutTo_core l x A c w lo b hb hf hs
end Go.Proofs.Ytlpckaflogikpaa.Ft
namespace Go.Proofs.Ytlpckaflogikpaa.ExCt
set_option maxRecDepth 8000
open Go.RowKit
open Recs (hsz below1 below2 chain chainD Bat)
open Bats SegW Segs LogW Ft
open CtP
set_option linter.unusedVariables false
theorem later {w w' : World} {lo b : Nat} {v : Value} {t : Lg} (h : LogAt w lo b v t) (hb : Below w.drew.heap.size w.drew w') (hl : b ≤ w.heap.size) : LogAt w' lo w'.heap.size v t :=
  (h.keep fun g _ hg => hb.block g (Nat.lt_of_lt_of_le hg hl)).mono (Nat.le_refl _) (Nat.le_trans hl hb.size)
theorem info35 : (Try.prog.info? 24).map (·.size) = some 4 := by kernel_rfl
theorem nL_pick {T : Type} (n1 : T → Nat) : ∀ (ts : List T) (k : Nat), nL n1 (ts.take k) ≤ nL n1 ts := fun ts k => nL_le n1 ts k
theorem cutB_marks (x : Int) (b : Bat) : nB1 (cutB x b) ≤ nB1 b := by
  unfold cutB
  split
  · have := nL_le nR1 b.recs (x - b.base).toNat
    unfold nB1
    show 6 + nL nR1 (b.recs.take _) ≤ _
    omega
  · exact Nat.le_refl _
theorem cutBs_marks (x : Int) : ∀ bs : List Bat, nL nB1 (cutBs x bs) ≤ nL nB1 bs
  | [] => Nat.le_refl _
  | b :: r => by
    have h1 := cutBs_marks x r
    have h2 := cutB_marks x b
    unfold cutBs
    split
    · simp only [nL]; omega
    · simp only [nL]; omega
theorem cutSs_marks (x : Int) : ∀ ss : List Sg, nL nS1 (cutSs x ss) ≤ nL nS1 ss
  | [] => Nat.le_refl _
  | s :: r => by
    have h1 := cutSs_marks x r
    have h2 := cutBs_marks x s.bats
    unfold cutSs
    rw [nL_app]
    unfold one
    split
    · simp only [nL]; omega
    · simp only [nL, nS1]; omega
theorem cut_marks {t : Lg} (h : FewL t) (x : Int) : 1 + nL nS1 (cutT t x).1.segs ≤ 4000000000000000000 := by
  have a1 := log_few h
  unfold cutT
  split
  · have := cutSs_marks x t.segs
    show 1 + nL nS1 (cutSs x t.segs) ≤ _
    omega
  · simp [nL]
/-- What stands through the law: the argument, the model's answer, the copy, the program's answer (its list holds Lc). -/
structure St (w w2 w3 w4 w5 : World) (t L : Lg) (v v3 v4 v5 : Value) (Lc : List Sg) (wx : World) : Prop where
  T : wx.heap[w.heap.size]? = some (.cells (logArr t v) 24 (0, 0))
  W : wx.heap[w3.heap.size]? = some (.cells (logArr L v3) 28 (0, 0))
  X : wx.heap[w4.heap.size]? = some (.cells (logArr t v4) 28 (0, 0))
  G : wx.heap[w5.heap.size]? = some (.cells (logArr L v5) 28 (0, 0))
  P : SegsAt wx w2.heap.size w3.heap.size v3 L.segs
  O : OwnS wx (seg (w4.heap.size + 1) w5.heap.size) v5 Lc
  B : Below w.heap.size w wx
  S : w5.heap.size < wx.heap.size
  ord : w.heap.size < w2.heap.size ∧ w2.heap.size ≤ w3.heap.size ∧ w3.heap.size < w4.heap.size ∧ w4.heap.size < w5.heap.size
section
variable {w w2 w3 w4 w5 : World} {t L : Lg} {v v3 v4 v5 : Value} {Lc : List Sg} {wx wy : World}
theorem St.below (h : St w w2 w3 w4 w5 t L v v3 v4 v5 Lc wx) (b : Below wx.heap.size wx wy) : St w w2 w3 w4 w5 t L v v3 v4 v5 Lc wy := by
  have s := h.S
  obtain ⟨o1, o2, o3, o4⟩ := h.ord
  exact ⟨(b.block _ (by omega)).trans h.T, (b.block _ (by omega)).trans h.W, (b.block _ (by omega)).trans h.X, (b.block _ (by omega)).trans h.G, h.P.keep fun g h1 h2 => b.block g (by omega), LOwn.keep keepsS h.O b.size (fun g hg => b.block g (by have := hg.2; omega)), chain h.B b, Nat.lt_of_lt_of_le s b.size, h.ord⟩
theorem St.drew (h : St w w2 w3 w4 w5 t L v v3 v4 v5 Lc wx) : St w w2 w3 w4 w5 t L v v3 v4 v5 Lc wx.drew := h.below ((Below.refl _ _).drew)
theorem St.foot (h : St w w2 w3 w4 w5 t L v v3 v4 v5 Lc wx) (f : Foot wx wy (seg (w3.heap.size + 1) w4.heap.size)) : St w w2 w3 w4 w5 t L v v3 v4 v5 Lc wy := by
  have s := h.S
  obtain ⟨o1, o2, o3, o4⟩ := h.ord
  have k : ∀ x, x < wx.heap.size → ¬ (w3.heap.size + 1 ≤ x ∧ x < w4.heap.size) → wy.heap[x]? = wx.heap[x]? := fun x hx hn => f.block x hx hn
  exact ⟨(k _ (by omega) (by omega)).trans h.T, (k _ (by omega) (by omega)).trans h.W, (k _ (by omega) (by omega)).trans h.X, (k _ (by omega) (by omega)).trans h.G, h.P.keep fun g h1 h2 => k g (by omega) (by omega), LOwn.keep keepsS h.O f.size (fun g hg => k g (by have := hg.2; omega) (by have := hg.1; omega)), h.B.trans ((f.toBelow (lo := w.heap.size) (fun y hy => by have := hy.1; omega) (by omega))), Nat.lt_of_lt_of_le s f.size, h.ord⟩
theorem St.mark {Ld : List Sg} (h : St w w2 w3 w4 w5 t L v v3 v4 v5 Lc wx) (f : Foot wx wy (seg (w4.heap.size + 1) w5.heap.size)) (ho : OwnS wy (seg (w4.heap.size + 1) w5.heap.size) v5 Ld) : St w w2 w3 w4 w5 t L v v3 v4 v5 Ld wy := by
  have s := h.S
  obtain ⟨o1, o2, o3, o4⟩ := h.ord
  have k : ∀ x, x < wx.heap.size → ¬ (w4.heap.size + 1 ≤ x ∧ x < w5.heap.size) → wy.heap[x]? = wx.heap[x]? := fun x hx hn => f.block x hx hn
  exact ⟨(k _ (by omega) (by omega)).trans h.T, (k _ (by omega) (by omega)).trans h.W, (k _ (by omega) (by omega)).trans h.X, (k _ (by omega) (by omega)).trans h.G, h.P.keep fun g h1 h2 => k g (by omega) (by omega), ho, h.B.trans ((f.toBelow (lo := w.heap.size) (fun y hy => by have := hy.1; omega) (by omega))), Nat.lt_of_lt_of_le s f.size, h.ord⟩
theorem St.logG (h : St w w2 w3 w4 w5 t L v v3 v4 v5 L.segs wx) : LogAt wx 0 wx.heap.size (logVal L v5) L := ⟨_, rfl, (segs_of h.O (fun x hx => hx)).mono (Nat.zero_le _) (Nat.le_of_lt h.S)⟩
theorem St.logW (h : St w w2 w3 w4 w5 t L v v3 v4 v5 Lc wx) : LogAt wx 0 wx.heap.size (logVal L v3) L := ⟨_, rfl, h.P.mono (Nat.zero_le _) (by have := h.S; have := h.ord; omega)⟩
theorem St.eq (h : St w w2 w3 w4 w5 t L v v3 v4 v5 L.segs wx) : Calls Try.prog 9 #[logVal L v5, logVal L v3] wx fun e w' => e = .returned (.bool true) ∧ Below wx.heap.size wx w' := LogW.eqLog_any _ _ L wx 0 0 wx.heap.size h.logG h.logW (Nat.le_refl _)
end
set_option maxHeartbeats 12800000 in
theorem walk (v : Value) (t : Lg) (x : Int) (w : World) (hv : LogAt w 0 w.heap.size v t) (hf : FineL t) :
    Calls Try.prog 3 #[v, .int .i64 x] w fun e w' => e = .returned (.bool true) ∧ Below w.heap.size w w' := by
  have HV := Seg.hid hv
  obtain ⟨rv, rfl, H, ⟨hn, A, c, rfl, hx1⟩, hx2⟩ := hv
  have HF := Seg.hid hf
  clear hf hx1 hx2
  obtain ⟨L, bo, hR⟩ : ∃ L bo, cutT t x = (L, bo) := ⟨_, _, rfl⟩
  have MK : Hid (FewL t → 1 + nL nS1 L.segs ≤ 4000000000000000000) := fun h => by have := cut_marks h x; rw [hR] at this; exact this
  have CS : Hid (∀ v w lo b, LogAt w lo b v t → b ≤ w.heap.size → FewL t → Calls Try.prog 6 #[v, .int .i64 x] w fun e w' => ∃ sv, e = .returned (.tuple #[logVal L sv, .bool bo]) ∧ SegsAt w' w.heap.size w'.heap.size sv L.segs ∧ Below w.heap.size w w') := by
    intro v w lo b h1 h2 h3
    have := cutToS_any v t x w lo b h1 h2 h3 (fun i hi => (HF.out.2 i hi).2)
    rw [hR] at this; exact this
  have CI : Hid (∀ v w lo b, LogAt w lo b v t → b ≤ w.heap.size → FewL t → Calls Try.prog 8 #[v, .int .i64 x] w fun e w' => ∃ sv, e = .returned (.tuple #[logVal L sv, .bool bo]) ∧ OwnS w' (seg w.heap.size w'.heap.size) sv L.segs ∧ Below w.heap.size w w') := by
    intro v w lo b h1 h2 h3
    have := cutTo_any v t x w lo b h1 h2 h3
    rw [hR] at this; exact this
  clear hR
  unfold logVal at HV ⊢
  go_enter Try.func3, Try.ntmps3
  go_wp2_with fail
  refine (LogW.szLog_any _ t _ (w.alloc _) 0 w.heap.size (by omega) (by omega) (HV.out.below (below1 w _)) (by rw [hsz]; omega) HF.out).mono ?_
  rintro e w1 ⟨q, rfl, q1, q2, q3, b1⟩
  have B1 := Seg.hid (chain (below1 w _) b1)
  have T1 : Hid (w1.heap[w.heap.size]? = some (.cells (logArr t (.slice A t.segs.length c)) 24 (0, 0))) := (b1.block w.heap.size (by rw [hsz]; omega)).trans (heap_alloc_new _ _)
  clear b1
  by_cases hq : q < 0
  · go_wp2
    go_ret
    exact ⟨rfl, B1.out⟩
  have FW := Seg.hid (q3 (by omega))
  have MB := Seg.hid (MK.out FW.out)
  have s1 := B1.out.size
  have z1 : w.heap.size < w1.heap.size := (Array.getElem?_eq_some_iff.1 T1.out).1
  clear q3 MK
  go_wp2_with (refine wpList_load_row rfl 24 _ rfl w.heap.size rfl _ _ _ _ T1.out Try.underlying24 rfl info35 ?_)
  refine (LogW.toLog_any _ t w1 0 w.heap.size (HV.out.below B1.out) s1 FW.out).mono ?_
  rintro e w2 ⟨v2, rfl, r2, b2⟩
  have R2 := Seg.hid r2
  have B2 := Seg.hid (chain B1.out b2)
  have T2 := Seg.hid ((b2.block w.heap.size z1).trans T1.out)
  have s2 := b2.size
  clear r2 b2
  go_wp2_with fail
  refine (CS.out _ w2 _ _ R2.out (Nat.le_refl _) FW.out).mono ?_
  rintro e w3 ⟨sv3, rfl, o3, b3⟩
  have O3 := Seg.hid o3
  have B3 := Seg.hid (chain B2.out b3)
  have T3 := Seg.hid ((b3.block w.heap.size (by omega)).trans T2.out)
  have s3 := b3.size
  obtain ⟨_, ⟨_, A3, c3, rfl, _⟩, _⟩ := id o3
  clear b3 o3
  unfold logVal
  have TA : Hid ((w3.alloc (.cells #[.int .i64 L.start, .int .i64 L.next, .int .i64 L.roll, .slice A3 L.segs.length c3] 28 (0, 0))).heap[w.heap.size]? = some (.cells (logArr t (.slice A t.segs.length c)) 24 (0, 0))) := (heap_alloc_old _ _ (by omega)).trans T3.out
  have WA : Hid ((w3.alloc (.cells #[.int .i64 L.start, .int .i64 L.next, .int .i64 L.roll, .slice A3 L.segs.length c3] 28 (0, 0))).heap[w3.heap.size]? = some (.cells (logArr L (.slice A3 L.segs.length c3)) 28 (0, 0))) := heap_alloc_new _ _
  have BA : Hid (Below w3.heap.size w3 (w3.alloc (.cells #[.int .i64 L.start, .int .i64 L.next, .int .i64 L.roll, .slice A3 L.segs.length c3] 28 (0, 0)))) := below1 w3 _
  have zA : (w3.alloc (.cells #[.int .i64 L.start, .int .i64 L.next, .int .i64 L.roll, .slice A3 L.segs.length c3] 28 (0, 0))).heap.size = w3.heap.size + 1 := hsz _ _
  have B3A := Seg.hid (chain B3.out BA.out)
  obtain ⟨d0, d1, d2, d3⟩ := four TA.out
  go_wp2_with fail
  clear d0 d1 d2 d3
  refine (toLog_own _ t (w3.alloc _) 0 w.heap.size (HV.out.below B3A.out) (by rw [hsz]; omega) FW.out).mono ?_
  rintro e w4 ⟨sv4, rfl, ow4, b4⟩
  rw [hsz] at ow4 b4
  have W4 := Seg.hid ow4
  have LA4 : Hid (LogAt w4 (w3.heap.size + 1) w4.heap.size (logVal t sv4) t) := ⟨_, rfl, segs_of ow4 (fun x hx => hx)⟩
  have b34 : Hid (Below w3.heap.size w3 w4) := BA.out.trans (b4.mono (by omega))
  have B4 := Seg.hid (chain B3.out b34.out)
  have T4 := Seg.hid ((b34.out.block w.heap.size (by omega)).trans T3.out)
  have WB4 := Seg.hid ((b4.block w3.heap.size (by omega)).trans WA.out)
  have O4 := Seg.hid (O3.out.below b34.out)
  have s4 := b4.size
  rw [hsz] at s4
  obtain ⟨A4, c4, rfl⟩ := LOwn.form ow4
  clear b4 ow4 TA WA BA B3A
  unfold logVal at LA4 ⊢
  go_wp2_with fail
  refine (CI.out _ (w4.alloc _) _ w4.heap.size (LA4.out.below (below1 w4 _)) (by rw [hsz]; omega) FW.out).mono ?_
  rintro e w5 ⟨sv5, rfl, o5, b5⟩
  have b45 := Seg.hid (chain (below1 w4 _) b5)
  have XB5 : Hid (w5.heap[w4.heap.size]? = some (.cells (logArr t (.slice A4 t.segs.length c4)) 28 (0, 0))) := (b5.block w4.heap.size (by rw [hsz]; omega)).trans (heap_alloc_new _ _)
  have s5 := b5.size
  rw [hsz] at o5 s5
  have O5 := Seg.hid o5
  have B5 := Seg.hid (chain B4.out b45.out)
  have T5 := Seg.hid ((b45.out.block w.heap.size (by omega)).trans T4.out)
  have WB5 := Seg.hid ((b45.out.block w3.heap.size (by omega)).trans WB4.out)
  have P5 := Seg.hid (O4.out.keep (w' := w5) (fun g h1 h2 => b45.out.block g (by omega)))
  have R5 := Seg.hid (LA4.out.below b45.out)
  have W5 : Hid (OwnS w5 (seg (w3.heap.size + 1) w4.heap.size) (.slice A4 t.segs.length c4) t.segs) := LOwn.keep keepsS W4.out b45.out.size (fun g hg => b45.out.block g hg.2)
  obtain ⟨A5, c5, rfl⟩ := LOwn.form o5
  clear b5 o5
  have ST5 : Hid (St w w2 w3 w4 w5 t L (.slice A t.segs.length c) (.slice A3 L.segs.length c3) (.slice A4 t.segs.length c4) (.slice A5 L.segs.length c5) L.segs (w5.alloc (.cells #[.int .i64 L.start, .int .i64 L.next, .int .i64 L.roll, .slice A5 L.segs.length c5] 28 (0, 0)))) := by
    have hk : Below w5.heap.size w5 (w5.alloc (.cells #[.int .i64 L.start, .int .i64 L.next, .int .i64 L.roll, .slice A5 L.segs.length c5] 28 (0, 0))) := below1 w5 _
    exact ⟨(hk.block _ (by omega)).trans T5.out, (hk.block _ (by omega)).trans WB5.out, (hk.block _ (by omega)).trans XB5.out, heap_alloc_new _ _, P5.out.keep fun g h1 h2 => hk.block g (by omega), LOwn.keep keepsS O5.out hk.size (fun g hg => hk.block g hg.2), chain B5.out hk, by rw [hsz]; omega, by omega, by omega, by omega, by omega⟩
  have W5a : Hid (OwnS (w5.alloc (.cells #[.int .i64 L.start, .int .i64 L.next, .int .i64 L.roll, .slice A5 L.segs.length c5] 28 (0, 0))) (seg (w3.heap.size + 1) w4.heap.size) (.slice A4 t.segs.length c4) t.segs) := LOwn.keep keepsS W5.out (below1 w5 _).size (fun g hg => (below1 w5 _).block g (by have := hg.2; omega))
  have hne : (bo != bo) = false := by simp
  have RT : Hid (∀ wx, Below w5.heap.size w5 wx → LogAt wx (w3.heap.size + 1) w4.heap.size (logVal t (.slice A4 t.segs.length c4)) t) := fun wx bx => R5.out.below (bx.mono (by omega))
  have BL5 : Hid (Below w5.heap.size w5 (w5.alloc (.cells #[.int .i64 L.start, .int .i64 L.next, .int .i64 L.roll, .slice A5 L.segs.length c5] 28 (0, 0)))) := below1 w5 _
  clear T5 WB5 XB5 P5 O5 B5 W5 W4 WB4 O4 T4 B4 O3 T3 B3 R2 T2 B2 T1 b34 b45 LA4 R5
  unfold logVal
  obtain ⟨d0, d1, d2, d3⟩ := four ST5.out.W
  go_wp2_with fail
  clear d0 d1 d2 d3
  refine (ST5.out.eq).mono ?_
  rintro e w6 ⟨rfl, b6⟩
  have ST6 := Seg.hid (ST5.out.below b6)
  have W6 : Hid (OwnS w6 (seg (w3.heap.size + 1) w4.heap.size) (.slice A4 t.segs.length c4) t.segs) := LOwn.keep keepsS W5a.out b6.size (fun g hg => b6.block g (by have := hg.2; rw [hsz]; omega))
  have BL6 : Hid (Below w5.heap.size w5 w6) := BL5.out.trans (b6.mono (by rw [hsz]; omega))
  clear b6 ST5 W5a BL5
  go_wp2_with fail
  obtain ⟨c0, c1, c2, c3'⟩ := four ST6.out.X
  obtain ⟨d0, d1, d2, d3⟩ := four ST6.out.T
  have s6 := ST6.out.S
  have ord := ST6.out.ord
  go_region_with (first | (go_at_call 7; refine (LogW.toLog_any _ t w6.drew 0 w.heap.size (HV.out.below ST6.out.B.drew) (by show _ ≤ w6.heap.size; omega) FW.out).mono ?_; rintro e w7 ⟨v7, rfl, r7, b7⟩; have R7 := Seg.hid (r7.mono (Nat.zero_le _) (Nat.le_refl _)); have BD7 : Hid (Below w6.heap.size w6 w7) := ⟨b7.os, b7.tape, b7.output, b7.size, b7.block⟩; have X7 : Hid (LogAt w7 0 w7.heap.size (.agg (logArr t (.slice A4 t.segs.length c4))) t) := ((RT.out w7 (BL6.out.trans (BD7.out.mono (by omega)))).mono (Nat.zero_le _) (by have := BD7.out.size; omega)); obtain ⟨j0, j1, j2, j3⟩ := four ((b7.block w4.heap.size (by show _ < w6.heap.size; omega)).trans ST6.out.X); clear b7 r7) | (go_at_call 9; refine (LogW.eqLog_any _ _ t w7 _ _ w7.heap.size X7.out R7.out (Nat.le_refl _)).mono ?_; rintro e w8 ⟨rfl, b8⟩; have BD8 : Hid (Below w6.heap.size w6 w8) := chain BD7.out b8; clear b8))
  all_goals
    have ST8 := Seg.hid (ST6.out.below BD8.out)
    have W8 : Hid (OwnS w8 (seg (w3.heap.size + 1) w4.heap.size) (.slice A4 t.segs.length c4) t.segs) := LOwn.keep keepsS W6.out BD8.out.size (fun g hg => BD8.out.block g (by have := hg.2; omega))
    clear c0 c1 c2 c3' d0 d1 d2 d3
    try clear j0 j1 j2 j3
    obtain ⟨c0, c1, c2, c3'⟩ := four ST8.out.X
    go_wp2_with fail
    clear c0 c1 c2 c3'
    refine (markLog_own t (.slice A4 t.segs.length c4) 1 (seg (w3.heap.size + 1) w4.heap.size) w8 (by decide) (log_few FW.out) W8.out (fun x hx => by have := hx.2; have := ST8.out.S; omega)).mono ?_
    rintro e w9 ⟨rfl, hM, hW⟩
    clear hM
    have ST9 := Seg.hid (ST8.out.foot hW)
    obtain ⟨K, hK⟩ : ∃ K, 1 + nL nS1 t.segs = K := ⟨_, rfl⟩
    rw [hK]
    clear hK hW W8 ST8 W6 ST6 BD8 BD7 X7 R7
    have hK0 : (0 : Int) ≤ (K : Int) := by omega
    have hkd : decide ((K : Int) < 0) = false := decide_eq_false (by omega)
    obtain ⟨c0, c1, c2, c3'⟩ := four ST9.out.G
    obtain ⟨d0, d1, d2, d3⟩ := four ST9.out.W
    go_wp2_with fail
    clear c0 c1 c2 c3' d0 d1 d2 d3
    refine (ST9.out.eq).mono ?_
    rintro e w10 ⟨rfl, b10⟩
    have ST10 := Seg.hid (ST9.out.below b10)
    clear b10 ST9
    obtain ⟨c0, c1, c2, c3'⟩ := four ST10.out.G
    go_wp2_with fail
    clear c0 c1 c2 c3'
    refine (markLog_own L (.slice A5 L.segs.length c5) 1 (seg (w4.heap.size + 1) w5.heap.size) w10 (by decide) MB.out ST10.out.O (fun x hx => by have := hx.2; have := ST10.out.S; omega)).mono ?_
    rintro e w11 ⟨rfl, hM, hW⟩
    have ST11 := Seg.hid (ST10.out.mark hW hM)
    clear hM hW ST10
    obtain ⟨M, hM⟩ : ∃ M, 1 + nL nS1 L.segs = M := ⟨_, rfl⟩
    have HMM := Seg.hid hM
    rw [hM]
    clear hM
    obtain ⟨c0, c1, c2, c3'⟩ := four ST11.out.G
    go_wp2_with fail
    clear c0 c1 c2 c3'
    refine (heldLog_own L (.slice A5 L.segs.length c5) 1 (seg (w4.heap.size + 1) w5.heap.size) L.segs w11 (by decide) MB.out ST11.out.O (fun x hx => by have := hx.2; have := ST11.out.S; omega)).mono ?_
    rintro e w12 ⟨rfl, b12⟩
    have ST12 := Seg.hid (ST11.out.below b12)
    clear b12 ST11
    rw [HMM.out]
    have hM0 : ¬ (M : Int) < 0 := by omega
    have hM1 : ((M : Int) != (M : Int)) = false := by simp
    obtain ⟨d0, d1, d2, d3⟩ := four ST12.out.T
    go_wp2_with fail
    clear d0 d1 d2 d3
    refine (LogW.toLog_any _ t w12 0 w.heap.size (HV.out.below ST12.out.B) (by have := ST12.out.S; omega) FW.out).mono ?_
    rintro e w13 ⟨v13, rfl, r13, b13⟩
    have R13 := Seg.hid r13
    have ST13 := Seg.hid (ST12.out.below b13)
    clear r13 b13 ST12
    go_wp2_with fail
    refine (CI.out _ w13 _ _ R13.out (Nat.le_refl _) FW.out).mono ?_
    rintro e w14 ⟨sv14, rfl, o14, b14⟩
    have O14 := Seg.hid o14
    have ST14 := Seg.hid (ST13.out.below b14)
    obtain ⟨A14, c14, rfl⟩ := LOwn.form o14
    have ST15 : Hid (St w w2 w3 w4 w5 t L (.slice A t.segs.length c) (.slice A3 L.segs.length c3) (.slice A4 t.segs.length c4) (.slice A5 L.segs.length c5) (mL mS1 nS1 1 L.segs) (w14.alloc (.cells #[.int .i64 L.start, .int .i64 L.next, .int .i64 L.roll, .slice A14 L.segs.length c14] 28 (0, 0)))) := ST14.out.below (below1 w14 _)
    have EQ15 : Hid (Calls Try.prog 9 #[logVal L (.slice A14 L.segs.length c14), logVal L (.slice A3 L.segs.length c3)] (w14.alloc (.cells #[.int .i64 L.start, .int .i64 L.next, .int .i64 L.roll, .slice A14 L.segs.length c14] 28 (0, 0))) fun e w' => e = .returned (.bool true) ∧ Below (w14.alloc (.cells #[.int .i64 L.start, .int .i64 L.next, .int .i64 L.roll, .slice A14 L.segs.length c14] 28 (0, 0))).heap.size (w14.alloc (.cells #[.int .i64 L.start, .int .i64 L.next, .int .i64 L.roll, .slice A14 L.segs.length c14] 28 (0, 0))) w') :=
      LogW.eqLog_any _ _ L _ 0 0 _ ⟨_, rfl, (((segs_of o14 (fun x hx => hx)).below (below1 w14 _)).mono (Nat.zero_le _) (by rw [hsz]; omega))⟩ ST15.out.logW (Nat.le_refl _)
    clear o14 b14 ST13
    unfold logVal at EQ15 ⊢
    obtain ⟨d0, d1, d2, d3⟩ := four ST15.out.W
    go_wp2_with fail
    clear d0 d1 d2 d3
    refine EQ15.out.mono ?_
    rintro e w16 ⟨rfl, b16⟩
    have ST16 := Seg.hid (ST15.out.below b16)
    clear b16 ST15 ST14 EQ15
    obtain ⟨c0, c1, c2, c3'⟩ := four ST16.out.G
    go_wp2_with fail
    clear c0 c1 c2 c3'
    refine (heldLog_own L (.slice A5 L.segs.length c5) 1 (seg (w4.heap.size + 1) w5.heap.size) L.segs w16 (by decide) MB.out ST16.out.O (fun x hx => by have := hx.2; have := ST16.out.S; omega)).mono ?_
    rintro e w17 ⟨rfl, b17⟩
    have ST17 := Seg.hid (ST16.out.below b17)
    clear b17 ST16
    rw [HMM.out]
    go_wp2_with fail
    go_ret
    exact ⟨rfl, ST17.out.B⟩
end Go.Proofs.Ytlpckaflogikpaa.ExCt
