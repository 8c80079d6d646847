/- The program's CutTo. -/
import Derived.Deep.RegionHeld3
import Derived.Test.YticihnoekffelaaJS30
import Derived.Test.YticihnoekffelaaJS31
import Derived.Test.YticihnoekffelaaJS26
namespace Go.Proofs.Yticihnoekffelaa.Ft
set_option maxRecDepth 8000
open Go.RowKit
open Recs
open Bats SegW Segs LogW SrP CtP
open LgP (logOk inR)
set_option linter.unusedVariables false
/-- Behind append of one more Segment to 'out': w9; the variable's block OB is written last. -/
structure AfterD (w w9 : World) (OB : Nat) (l0 : Lg) (v nv : Value) (us : List Sg) : Prop where
  c3 : w9.cell? ⟨OB, 3, none⟩ = some v
  f3 : w9.frozen? ⟨OB, 3, none⟩ = false
  o : (w9.setCell ⟨OB, 3, none⟩ nv).heap[OB]? = some (.cells (logArr l0 nv) 28 (0, 0))
  r : (w9.setCell ⟨OB, 3, none⟩ nv).heap[w.heap.size + 1]? = some (.cells (logArr ⟨0, 0, 0, []⟩ (.slice none 0 0)) 28 (0, 0))
  row : ((w9.setCell ⟨OB, 3, none⟩ nv).setCells (w.heap.size + 1) 0 (logArr l0 nv).toList).heap[w.heap.size + 1]? = some (.cells (logArr l0 nv) 28 (0, 0))
  own : OwnS ((w9.setCell ⟨OB, 3, none⟩ nv).setCells (w.heap.size + 1) 0 (logArr l0 nv).toList) (seg w.heap.size ((w9.setCell ⟨OB, 3, none⟩ nv).setCells (w.heap.size + 1) 0 (logArr l0 nv).toList).heap.size) nv us
  bel : Below w.heap.size w ((w9.setCell ⟨OB, 3, none⟩ nv).setCells (w.heap.size + 1) 0 (logArr l0 nv).toList)
theorem afterD {w w1 w2 w8 w9 : World} {OB : Nat} {l0 : Lg} {v : Value} {us : List Sg} {F : Nat → Value} {P : Nat → Nat → Prop} {base : Nat} {t : Sg} {rv : Value} {o : Obj} {g cap : Nat} (hG : LGr 55 2 ES w2 base v us F P) (g1 : w1.heap.size ≤ base) (g2 : base ≤ w2.heap.size) (g3 : v.ownBlock ≠ some OB) (g4 : ∀ i, i < us.length → ¬ P i OB) (D : CL w1 w2 OB l0 v us) (hw : w.heap.size + 2 ≤ w1.heap.size) (B1 : Below w.heap.size w w1)
    (Z2 : w2.heap[w.heap.size + 1]? = some (.cells (logArr ⟨0, 0, 0, []⟩ (.slice none 0 0)) 28 (0, 0))) (b8 : Below w2.heap.size w2 w8) (ho : Ft.OwnB w8 (seg w2.heap.size w8.heap.size) rv t.bats) (hn : us.length + 1 ≤ 1048576)
    (hown : w9.ownsRow base 55 2 (.slice (some ⟨g, 0, none⟩) (us.length + 1) cap) (us.length + 1) ((List.range (us.length * 2)).map F ++ (segArr t rv).toList)) (gr : (w8.alloc o).grownBy w9 v.ownBlock) (hg : v.ownBlock = some g ∨ g = w8.heap.size + 1) :
    AfterD w w9 OB l0 v (.slice (some ⟨g, 0, none⟩) (us.length + 1) cap) (us ++ [t]) := by
  have hlo := D.lo
  have hhi := D.hi
  have s8 := b8.size
  have gs := gr.size
  rw [hsz] at gs
  have hvb : ∀ y, v.ownBlock = some y → base ≤ y ∧ y < w2.heap.size := fun y hy => World.ownsRow.lt hG.own y hy
  have k9 : ∀ y, y < w2.heap.size → v.ownBlock ≠ some y → w9.heap[y]? = w2.heap[y]? := fun y hy hne => by
    rw [gr.block y (by rw [hsz]; omega) (fun e => hne e.symm), heap_alloc_old _ _ (by omega), b8.block y hy]
  have O9 := (k9 OB hhi g3).trans D.out
  have R9 := (k9 (w.heap.size + 1) (by omega) (fun e => by have := hvb _ e; omega)).trans Z2
  have O10 := heap_setCell_same w9 OB 3 _ _ (.slice (some ⟨g, 0, none⟩) (us.length + 1) cap) O9
  have R10 := (heap_setCell_other w9 ⟨OB, 3, none⟩ (w.heap.size + 1) (.slice (some ⟨g, 0, none⟩) (us.length + 1) cap) (by show w.heap.size + 1 ≠ OB; omega)).trans R9
  have L9 := LGr.push_own keepsS (w2 := w8.alloc o) (w3 := w9) (g := g) (cap := cap) (Q := seg w2.heap.size w8.heap.size) (t := t) (news := (segArr t rv).toList) hG g2 (by rw [hsz]; omega) (fun y _ hy => by rw [heap_alloc_old _ _ (by omega), b8.block y hy]) (seg_el (LOwn.keep keepsB ho (by rw [hsz]; omega) (fun y hy => heap_alloc_old _ _ hy.2))) (fun y hy => by rw [hsz]; obtain ⟨y1, y2⟩ := hy; exact ⟨by omega, by omega⟩) rfl hown gr (by rw [hsz]; exact hg) hn
  have B9 : Below w.heap.size w w9 := ⟨gr.os.trans (b8.os.trans (D.bel.os.trans B1.os)), gr.tape.trans (b8.tape.trans (D.bel.tape.trans B1.tape)), gr.output.trans (b8.output.trans (D.bel.output.trans B1.output)), by have := D.bel.size; omega, fun y hy => (k9 y (by have := D.bel.size; omega) (fun e => by have := hvb _ e; omega)).trans ((D.bel.block y (by omega)).trans (B1.block y hy))⟩
  have hz := Cells.size_setCells (g := w.heap.size + 1) (logArr l0 (.slice (some ⟨g, 0, none⟩) (us.length + 1) cap)).toList (o := 0) (w9.setCell ⟨OB, 3, none⟩ (.slice (some ⟨g, 0, none⟩) (us.length + 1) cap))
  refine ⟨cell_of_row w9 OB 3 _ _ (0, 0) O9, frozen_of_row w9 OB 3 _ _ O9, O10, R10, Cells.whole (vs := logArr l0 (.slice (some ⟨g, 0, none⟩) (us.length + 1) cap)) R10 rfl, ?_, Cells.below_setCells (by omega) _ _ _ _ (B9.setCell (p := ⟨OB, 3, none⟩) (by show w.heap.size ≤ OB; omega) _)⟩
  have hS : ∀ y, ((∃ i, i < us.length ∧ P i y) ∨ v.ownBlock = some y ∨ seg w2.heap.size w8.heap.size y ∨ y = (w8.alloc o).heap.size) → w1.heap.size ≤ y ∧ y ≠ OB := fun y hy => by
    rcases hy with ⟨i, hi, hp⟩ | hy | hy | hy
    · have := hG.apart i hi y hp
      exact ⟨by omega, fun e => g4 i hi (e ▸ hp)⟩
    · have := hvb y hy
      exact ⟨by omega, fun e => g3 (e ▸ hy)⟩
    · obtain ⟨y1, y2⟩ := hy
      have := D.bel.size
      exact ⟨by omega, by omega⟩
    · rw [hsz] at hy
      have := D.bel.size
      exact ⟨by omega, by omega⟩
  have hlt : ∀ y, ((∃ i, i < us.length ∧ P i y) ∨ v.ownBlock = some y ∨ seg w2.heap.size w8.heap.size y ∨ y = (w8.alloc o).heap.size) → (∃ q, True) := fun _ _ => ⟨0, trivial⟩
  have L11 := LOwn.keep keepsS L9 (w' := (w9.setCell ⟨OB, 3, none⟩ (.slice (some ⟨g, 0, none⟩) (us.length + 1) cap)).setCells (w.heap.size + 1) 0 (logArr l0 (.slice (some ⟨g, 0, none⟩) (us.length + 1) cap)).toList) (by rw [hz]; simp) (fun y hy => by
    have := hS y hy
    rw [Cells.heap_setCells_other _ _ (by omega), heap_setCell_other _ _ _ _ (by show y ≠ OB; exact this.2)])
  obtain ⟨h0, A', c', e1, e2⟩ := L11
  refine ⟨h0, A', c', e1, e2.imp id ?_⟩
  rintro ⟨g', F', P', a1, a2, a3, a4⟩
  have hsz' : ((w9.setCell ⟨OB, 3, none⟩ (.slice (some ⟨g, 0, none⟩) (us.length + 1) cap)).setCells (w.heap.size + 1) 0 (logArr l0 (.slice (some ⟨g, 0, none⟩) (us.length + 1) cap)).toList).heap.size = w9.heap.size := by rw [hz]; simp
  exact ⟨g', F', P', a1, ⟨by have := (hS g' a2).1; omega, a4.mine.lt⟩, fun i hi y hy => ⟨by have := (hS y (a3 i hi y hy)).1; omega, (a4.apart i hi y hy).2⟩, a4⟩
set_option maxHeartbeats 12800000 in
theorem cutTo_core (l : Lg) (x : Int) (A : Option Addr) (c : Nat) (w : World) (lo b : Nat) (hb : b ≤ w.heap.size) (hf : FewL l) (hs : SegsAt w lo b (.slice A l.segs.length c) l.segs) :
    Calls Try.prog 8 #[logVal l (.slice A l.segs.length c), .int .i64 x] w fun e w' => ∃ sv, e = .returned (.tuple #[logVal (cutT l x).1 sv, .bool (cutT l x).2]) ∧ OwnS w' (seg w.heap.size w'.heap.size) sv (cutT l x).1.segs ∧ Below w.heap.size w w' := by
  obtain ⟨i0, hi, hz0, hz1, hz2⟩ := info_parts infoSg
  have HS := Seg.hid hs
  have HV : Hid (LogAt w lo b (logVal l (.slice A l.segs.length c)) l) := ⟨_, rfl, hs⟩
  have HF := Seg.hid hf
  clear hs hf
  unfold logVal at HV ⊢
  go_enter Try.func8, Try.ntmps8
  go_wp2_with fail
  refine (LgI.impl_any _ l ((w.alloc _).alloc _) lo b (HV.out.below ((below2 w _ _).mono hb)) (by rw [hsz, hsz]; omega) HF.out).mono ?_
  rintro e w1 ⟨rfl, b1⟩
  have B1 := Seg.hid (chain (below2 w _ _) b1)
  have T1 : Hid (w1.heap[w.heap.size]? = some (.cells (logArr l (.slice A l.segs.length c)) 28 (0, 0))) := (b1.block w.heap.size (by rw [hsz, hsz]; omega)).trans (at1 w _ _)
  have T2 : Hid (w1.heap[w.heap.size + 1]? = some (.cells (logArr ⟨0, 0, 0, []⟩ (.slice none 0 0)) 28 (0, 0))) := (b1.block (w.heap.size + 1) (by rw [hsz, hsz]; omega)).trans (at2 w _ _)
  have s1 := b1.size
  rw [hsz, hsz] at s1
  clear b1
  have NO : Hid (∀ w2, Below w1.heap.size w1 w2 → w2.there (w.heap.size + 1) 0 (logArr ⟨0, 0, 0, []⟩ (.slice none 0 0)).size ∧ (w2.setCells (w.heap.size + 1) 0 (logArr ⟨0, 0, 0, []⟩ (.slice none 0 0)).toList).heap[w.heap.size + 1]? = some (.cells (logArr ⟨0, 0, 0, []⟩ (.slice none 0 0)) 28 (0, 0)) ∧ Below w.heap.size w (w2.setCells (w.heap.size + 1) 0 (logArr ⟨0, 0, 0, []⟩ (.slice none 0 0)).toList)) := fun w2 b2 => by
    have T := (b2.block (w.heap.size + 1) (by omega)).trans T2.out
    exact ⟨Cells.there_of T, Cells.whole (vs := logArr ⟨0, 0, 0, []⟩ (.slice none 0 0)) T rfl, Cells.below_setCells (by omega) _ _ _ _ (chain B1.out b2)⟩
  cases hok : logOk l with
  | false =>
    have HC : Hid (cutT l x = (⟨0, 0, 0, []⟩, false)) := by show _ = _; simp [cutT, hok]
    clear hok
    go_wp2_with (first | (refine wpList_store_mid rfl 28 _ _ rfl (w.heap.size + 1) 0 (logArr ⟨0, 0, 0, []⟩ (.slice none 0 0)) rfl rfl (NO.out _ (Below.refl _ _)).1 infoN (logArr_one _ _ rfl) ?_))
    exact bodyPost_ret (v := .tuple #[logVal ⟨0, 0, 0, []⟩ (.slice none 0 0), .bool false]) (results_row_tmp rfl _ _ (w.heap.size + 1) _ _ _ _ _ rfl rfl (NO.out _ (Below.refl _ _)).2.1 Try.underlying28 rfl infoN) rfl ⟨.slice none 0 0, by rw [HC.out]; rfl, by rw [HC.out]; exact LOwn.nil _ _ _ _, (NO.out _ (Below.refl _ _)).2.2⟩
  | true =>
  obtain ⟨c0, c1, c2, c3⟩ := four T1.out
  have IN : ∀ t, (decide (l.start ≤ x) && decide (x ≤ l.next)) = t → inR x l.start l.next = t := fun t h => h
  cases hin : (decide (l.start ≤ x) && decide (x ≤ l.next)) with
  | false =>
    have HC : Hid (cutT l x = (⟨0, 0, 0, []⟩, false)) := by show _ = _; simp [cutT, hok, IN false hin]
    clear IN hok
    go_wp2_with fail
    refine (InB.within_b x l.start l.next false hin w1).mono ?_
    rintro e w1' ⟨rfl, rfl⟩
    clear hin
    go_wp2_with (first | (refine wpList_store_mid rfl 28 _ _ rfl (w.heap.size + 1) 0 (logArr ⟨0, 0, 0, []⟩ (.slice none 0 0)) rfl rfl (NO.out _ (Below.refl _ _)).1 infoN (logArr_one _ _ rfl) ?_))
    exact bodyPost_ret (v := .tuple #[logVal ⟨0, 0, 0, []⟩ (.slice none 0 0), .bool false]) (results_row_tmp rfl _ _ (w.heap.size + 1) _ _ _ _ _ rfl rfl (NO.out _ (Below.refl _ _)).2.1 Try.underlying28 rfl infoN) rfl ⟨.slice none 0 0, by rw [HC.out]; rfl, by rw [HC.out]; exact LOwn.nil _ _ _ _, (NO.out _ (Below.refl _ _)).2.2⟩
  | true =>
  have HC : Hid (cutT l x = (⟨l.start, x, l.roll, cutSs x l.segs⟩, true)) := by show _ = _; simp [cutT, hok, IN true hin]
  obtain ⟨f, k1, k2, k3, k4, k5, k6⟩ := ok_parts hok
  have SO := Seg.hid (segs_ok _ _ _ _ k1); have SM := Seg.hid (segs_mono _ _ _ _ k1); have SB := Seg.hid (segs_bats _ _ _ _ k1)
  have CFD := Seg.hid (cutSs_found x _ _ _ _ k1)
  clear IN hok k1
  go_wp2_with fail
  refine (InB.within_b x l.start l.next true hin w1).mono ?_
  rintro e w1' ⟨rfl, rfl⟩
  simp only [Bool.and_eq_true, decide_eq_true_eq] at hin
  have hx0 : 0 ≤ x := by omega
  have hx1 : x ≤ 1000000000 := by omega
  clear hin
  go_wp2_with fail
  refine (SrW.segmentAt_any _ x l.segs w1 lo b (HS.out.below (B1.out.mono hb)) (by omega) (fun i hi => (HF.out.1.2 i hi).1) SO.out (fun i j a1 a2 => SM.out i j a1 a2 x) HF.out.1.1).mono ?_
  rintro e w2 ⟨r, rfl, hF, b2⟩
  have KF := Seg.hid (CFD.out r hF)
  have RY := Seg.hid hF.yes
  have hrn := hF.le
  have B2 := Seg.hid (chain B1.out b2)
  have U1 := Seg.hid ((b2.block w.heap.size (by omega)).trans T1.out)
  have U2 := Seg.hid ((b2.block (w.heap.size + 1) (by omega)).trans T2.out)
  have s2 := b2.size
  clear hF b2 c0 c1 c2 c3
  obtain ⟨c0, c1, c2, c3⟩ := four U1.out
  have hw2 : w.heap.size < w2.heap.size := by omega
  have r0 : (0 : Int) ≤ (r : Int) := by omega
  have r1 : (r : Int) ≤ (l.segs.length : Int) := by omega
  have hrc : r ≤ c := by
    obtain ⟨_, ⟨_, A', c', hsl, hrow⟩, _⟩ := HS.out
    simp only [Value.slice.injEq] at hsl
    obtain ⟨rfl, _, rfl⟩ := hsl
    rcases hrow with h | ⟨_, _, _, _, h, _⟩ <;> omega
  have r2 : (r : Int) ≤ (c : Int) := by omega
  have hul : (l.segs.take r).length = r := by rw [List.length_take]; omega
  have CALL : Hid (∀ wx, Below w2.heap.size w2 wx → Calls Try.prog 29 #[.slice A r c] wx fun e w' => ∃ sv, e = .returned sv ∧ LGrow 55 2 ES w' wx.heap.size sv (l.segs.take r) ∧ Below wx.heap.size wx w') := fun wx bx => copySegments_any _ (l.segs.take r) wx lo b (Nat.le_trans hb (Nat.le_trans B2.out.size bx.size)) (by rw [hul]; have := HF.out.1.1; omega) (fun i hi => by rw [hul] at hi; rw [getD_take _ _ _ hi]; exact HF.out.1.2 i (by omega)) ((segs_take HS.out hrn).below ((chain B2.out bx).mono hb))
  have KS : Hid (∀ wx : World, wx.heap[w.heap.size]? = w2.heap[w.heap.size]? → wx.cell? ⟨w.heap.size, 0, none⟩ = some (.int .i64 l.start) ∧ wx.cell? ⟨w.heap.size, 2, none⟩ = some (.int .i64 l.roll) ∧ wx.cell? ⟨w.heap.size, 3, none⟩ = some (.slice A l.segs.length c)) := fun wx hx => by
    rw [World.cell?_of_block (w := w2) (a := ⟨w.heap.size, 0, none⟩) hx, World.cell?_of_block (w := w2) (a := ⟨w.heap.size, 2, none⟩) hx, World.cell?_of_block (w := w2) (a := ⟨w.heap.size, 3, none⟩) hx]
    exact ⟨c0, c2, c3⟩
  go_wp2_with fail
  rename_i K aK
  have J : ∀ (OB : Nat) (wx : World) (A3 : Option Addr) (c3' : Nat) (u26 u27 u28 u29 u30 u31 u32 u33 u34 u35 u36 : Value), CL w2 wx OB ⟨l.start, x, l.roll, []⟩ (.slice A3 r c3') (l.segs.take r) → K ⟨#[(.agg #[.int .i64 l.start, .int .i64 l.next, .int .i64 l.roll, .slice A l.segs.length c]), .int .i64 x, .pointer (some ⟨w.heap.size, 0, none⟩), undef, .pointer (some ⟨w.heap.size + 1, 0, none⟩), .bool false, .int .i64 r, .pointer (some ⟨OB, 0, none⟩), undef, (.agg #[.int .i64 l.start, .int .i64 l.next, .int .i64 l.roll, .slice A l.segs.length c]), .bool true, .bool false, .bool false, .int .i64 x, .pointer (some ⟨w.heap.size, 0, none⟩), .int .i64 l.start, .pointer (some ⟨w.heap.size, 1, none⟩), .int .i64 l.next, .bool true, .bool false, .bool false, undef, .pointer (some ⟨w.heap.size, 3, none⟩), .slice A l.segs.length c, .int .i64 x, .int .i64 r, u26, u27, u28, u29, u30, u31, u32, u33, u34, u35, u36, undef, undef, undef, undef, undef, undef, undef, undef, undef, undef, undef, undef, undef, undef, undef, undef, undef, undef, undef, undef, undef, undef, undef], []⟩ wx := by
    intro OB wx A3 c3' u26 u27 u28 u29 u30 u31 u32 u33 u34 u35 u36 D
    refine aK _ _ ?_
    have T2 := Seg.hid ((D.bel.block w.heap.size (by omega)).trans U1.out)
    have Z2 := Seg.hid ((D.bel.block (w.heap.size + 1) (by omega)).trans U2.out)
    have B3 := Seg.hid (chain B2.out D.bel)
    have hOB := D.lo
    have hOBh := D.hi
    have DD := Seg.hid D
    obtain ⟨o0, o1, o2, o3⟩ := four D.out
    clear D c0 c1 c2 c3
    obtain ⟨c0, c1, c2, c3⟩ := four T2.out
    obtain ⟨n0, n1, n2, n3⟩ := four Z2.out
    have f0 := frozen_of_row wx (w.heap.size + 1) 0 _ _ Z2.out
    have f1 := frozen_of_row wx (w.heap.size + 1) 1 _ _ Z2.out
    have f2 := frozen_of_row wx (w.heap.size + 1) 2 _ _ Z2.out
    have f3 := frozen_of_row wx (w.heap.size + 1) 3 _ _ Z2.out
    have hbl := HF.out.1.1
    have NOM : Hid (cutSs x l.segs = l.segs.take r → ∀ wy, Below wx.heap.size wx wy → (wy.setCells (w.heap.size + 1) 0 (logArr ⟨l.start, x, l.roll, []⟩ (.slice A3 r c3')).toList).heap[w.heap.size + 1]? = some (.cells (logArr ⟨l.start, x, l.roll, []⟩ (.slice A3 r c3')) 28 (0, 0)) ∧ Below w.heap.size w (wy.setCells (w.heap.size + 1) 0 (logArr ⟨l.start, x, l.roll, []⟩ (.slice A3 r c3')).toList) ∧ OwnS (wy.setCells (w.heap.size + 1) 0 (logArr ⟨l.start, x, l.roll, []⟩ (.slice A3 r c3')).toList) (seg w.heap.size (wy.setCells (w.heap.size + 1) 0 (logArr ⟨l.start, x, l.roll, []⟩ (.slice A3 r c3')).toList).heap.size) (.slice A3 r c3') (cutSs x l.segs)) := fun he wy by_ => by
      have sy := by_.size
      refine ⟨Cells.whole (vs := logArr ⟨l.start, x, l.roll, []⟩ (.slice A3 r c3')) ((by_.block (w.heap.size + 1) (by omega)).trans Z2.out) rfl, Cells.below_setCells (by omega) _ _ _ _ (chain B3.out by_), ?_⟩
      obtain ⟨F, P, base, hG, g1, g2, g3, g4⟩ := DD.out.grow
      rw [he]
      refine (LOwn.keep keepsS (LGrow.own ⟨F, P, hG⟩ (by rw [hul]; omega)) (by rw [Cells.size_setCells]; exact sy) (fun g h1 => ?_)).mono (fun y hy => ?_)
      · have := h1.1
        exact (Cells.heap_setCells_other _ _ (by omega)).trans (by_.block g h1.2)
      · obtain ⟨x1, x2⟩ := hy
        refine ⟨by omega, ?_⟩
        rw [Cells.size_setCells]
        omega
    by_cases hrn2 : r = l.segs.length
    · have CE : Hid (cutSs x l.segs = l.segs.take r) := by show _ = _; rw [KF.out, if_neg (by omega), List.append_nil]
      have NQ := Seg.hid (NOM.out CE.out wx (Below.refl _ _))
      have q2 : ¬ (r : Int) < (l.segs.length : Int) := by omega
      clear NOM KF hrn2
      go_wp2_with fail
      exact bodyPost_ret (v := .tuple #[logVal ⟨l.start, x, l.roll, []⟩ (.slice A3 r c3'), .bool true]) (results_row_tmp rfl _ _ (w.heap.size + 1) _ (logArr ⟨l.start, x, l.roll, []⟩ (.slice A3 r c3')) _ _ _ rfl rfl NQ.out.1 Try.underlying28 rfl infoN) rfl ⟨.slice A3 r c3', by rw [HC.out]; rfl, by rw [HC.out]; exact NQ.out.2.2, NQ.out.2.1⟩
    · have hlt : r < l.segs.length := by omega
      have q1 : (r : Int) < (l.segs.length : Int) := by omega
      obtain ⟨H, ⟨_, A', c', hsl, hrow⟩, hh⟩ := HS.out
      simp only [Value.slice.injEq] at hsl
      obtain ⟨rfl, _, rfl⟩ := hsl
      obtain ⟨g, o, rfl, hg, hc, hcell, _⟩ := hrow.resolve_left (by omega)
      have hgw : g < w.heap.size := by omega
      obtain ⟨e0, e1⟩ := Segs.six (fun i hi q hq => by rw [B3.out.cell (p := ⟨g, o + i * 2 + q, none⟩) hgw]; exact hcell i hi q hq) r hlt
      have ST := Seg.hid ((hh r hlt).below (B3.out.mono hb))
      obtain ⟨fa, ea, fb, eb, hbats, _⟩ := SB.out r hlt
      have CE : Hid (cutSs x l.segs = l.segs.take r ++ one x (l.segs.getD r default)) := by show _ = _; rw [KF.out, if_pos hlt]
      have FS := Seg.hid (HF.out.1.2 r hlt)
      clear hcell hh hrow KF SB hrn2
      generalize l.segs.getD r default = t at *
      obtain ⟨_, ⟨_, Ah, ch, hHj, _⟩, _⟩ := id ST.out
      rw [hHj] at e1 ST
      clear hHj
      have HB := Seg.hid hbats
      clear hbats
      have hbx : b ≤ wx.heap.size := by omega
      go_wp2_with fail
      refine (cutSegment_any _ t x fa ea fb eb wx lo b ⟨_, rfl, ST.out⟩ hbx FS.out HB.out hx0 hx1).mono ?_
      rintro e w8 ⟨bv8, rfl, ow8, b8⟩
      have B8 := Seg.hid b8
      have O8 := Seg.hid ow8
      have s8 := b8.size
      obtain ⟨A8, c8, hA8⟩ := LOwn.form ow8
      subst hA8
      have W8 := Seg.hid ((b8.block OB hOBh).trans DD.out.out)
      have Z8 := Seg.hid ((b8.block (w.heap.size + 1) (by omega)).trans Z2.out)
      clear ow8 b8 e0 e1 o0 o1 o2 o3 n0 n1 n2 n3 f0 f1 f2 f3 c0 c1 c2 c3
      obtain ⟨o0, o1, o2, o3⟩ := four W8.out
      obtain ⟨n0, n1, n2, n3⟩ := four Z8.out
      have f0 := frozen_of_row w8 (w.heap.size + 1) 0 _ _ Z8.out
      have f1 := frozen_of_row w8 (w.heap.size + 1) 1 _ _ Z8.out
      have f2 := frozen_of_row w8 (w.heap.size + 1) 2 _ _ Z8.out
      have f3 := frozen_of_row w8 (w.heap.size + 1) 3 _ _ Z8.out
      have hl8 : OB < w8.heap.size := by omega
      have hl9 : w.heap.size + 1 < w8.heap.size := by omega
      unfold segVal
      obtain ⟨tb, htb⟩ : ∃ tb, cutBs x t.bats = tb := ⟨_, rfl⟩
      rw [htb] at O8
      have CE2 : Hid (cutSs x l.segs = l.segs.take r ++ (if tb.length = 0 then [] else [⟨t.base, tb⟩])) := by show _ = _; rw [CE.out, one, htb]
      simp only [htb]
      clear htb CE HB FS ST HF CALL SM SO CFD RY HS HV U1 U2 T2 B1
      by_cases hz : tb.length = 0
      · have CN : Hid (cutSs x l.segs = l.segs.take r) := by show _ = _; rw [CE2.out, if_pos hz, List.append_nil]
        have NQ := Seg.hid (fun o9 => NOM.out CN.out (w8.alloc o9) (chain B8.out (below1 w8 o9)))
        obtain rfl := List.length_eq_zero_iff.1 hz
        clear CE2 hz O8 NQ
        simp only [List.length_nil]
        go_upto_region 9 with fail
        obtain ⟨wz, hwz⟩ : ∃ wz, w8.alloc (.cells #[.int .i64 t.base, .slice A8 0 c8] 55 (0, 0)) = wz := ⟨_, rfl⟩
        rw [hwz]
        have BW : Hid (Below wx.heap.size wx wz) := hwz ▸ chain B8.out (below1 w8 _)
        have NQ := Seg.hid (NOM.out CN.out wz BW.out)
        have WZ8 := Seg.hid ((BW.out.block OB hOBh).trans DD.out.out)
        have ZZ8 := Seg.hid ((BW.out.block (w.heap.size + 1) (by omega)).trans Z2.out)
        clear hwz NOM CN o0 o1 o2 o3 n0 n1 n2 n3 f0 f1 f2 f3
        obtain ⟨o0, o1, o2, o3⟩ := four WZ8.out
        obtain ⟨n0, n1, n2, n3⟩ := four ZZ8.out
        have f0 := frozen_of_row wz (w.heap.size + 1) 0 _ _ ZZ8.out
        have f1 := frozen_of_row wz (w.heap.size + 1) 1 _ _ ZZ8.out
        have f2 := frozen_of_row wz (w.heap.size + 1) 2 _ _ ZZ8.out
        have f3 := frozen_of_row wz (w.heap.size + 1) 3 _ _ ZZ8.out
        go_wp2_with fail
        exact bodyPost_ret (v := .tuple #[logVal ⟨l.start, x, l.roll, []⟩ (.slice A3 r c3'), .bool true]) (results_row_tmp rfl _ _ (w.heap.size + 1) _ (logArr ⟨l.start, x, l.roll, []⟩ (.slice A3 r c3')) _ _ _ rfl rfl NQ.out.1 Try.underlying28 rfl infoN) rfl ⟨.slice A3 r c3', by rw [HC.out]; rfl, by rw [HC.out]; exact NQ.out.2.2, NQ.out.2.1⟩
      · have CN : Hid (cutSs x l.segs = l.segs.take r ++ [⟨t.base, tb⟩]) := by show _ = _; rw [CE2.out, if_neg hz]
        have q5 : (0 : Int) < (tb.length : Int) := by omega
        obtain ⟨F, P, base, hG, g1, g2, g3, g4⟩ := DD.out.grow
        have OWN : Hid (∀ o8 o9, ((w8.alloc o8).alloc o9).ownsRow base 55 2 (.slice A3 r c3') r ((List.range (r * 2)).map F) ∧ base ≤ ((w8.alloc o8).alloc o9).heap.size) := fun o8 o9 => by
          have := World.ownsRow.alloc (World.ownsRow.alloc (own_keep hG.own (fun y _ hy => B8.out.block y hy)) o8) o9
          rw [hul] at this
          exact ⟨this, by rw [hsz, hsz]; omega⟩
        have PU : Hid (∀ g9 cap9 w9 o8 o9, w9.ownsRow base 55 2 (.slice (some ⟨g9, 0, none⟩) (r + 1) cap9) (r + 1) ((List.range (r * 2)).map F ++ (segArr ⟨t.base, tb⟩ (.slice A8 tb.length c8)).toList) → ((w8.alloc o8).alloc o9).grownBy w9 (Value.slice A3 r c3').ownBlock → ((Value.slice A3 r c3').ownBlock = some g9 ∨ g9 = w8.heap.size + 1 + 1) → AfterD w w9 OB ⟨l.start, x, l.roll, []⟩ (.slice A3 r c3') (.slice (some ⟨g9, 0, none⟩) (r + 1) cap9) (l.segs.take r ++ [⟨t.base, tb⟩])) := fun g9 cap9 w9 o8 o9 a1 a2 a3 => by
          have := afterD (t := ⟨t.base, tb⟩) (rv := .slice A8 tb.length c8) (o := o9) (g := g9) (cap := cap9) hG g1 g2 g3 g4 DD.out (by omega) (chain B2.out (Below.refl _ _)) Z2.out (chain B8.out (below1 w8 o8)) ((LOwn.keep keepsB O8.out (by rw [hsz]; omega) (fun y hy => heap_alloc_old _ _ hy.2)).mono (fun y hy => ⟨hy.1, by have := hy.2; rw [hsz]; omega⟩)) (by rw [hul]; omega) (by rw [hul]; exact a1) a2 (by rw [hsz]; exact a3)
          rw [hul] at this
          exact this
        have hl63 : Hid (r + 1 ≤ maxLen) := by show _ ≤ _; unfold maxLen; omega
        have hby : Hid ((r + 1) * 32 ≤ 140737488355328) := by show _ ≤ _; omega
        clear hG g1 g2 g3 g4 NOM CE2 hz
        go_upto_region 9 with (at_builtin; (refine wpList_append_lies _ rfl _ _ 26 rfl base 55 i0 _ 2 32 Try.underlying26 hi hz0 hz1 hz2 rfl (by decide) (.slice A3 r c3') r ((List.range (r * 2)).map F) rfl (OWN.out _ _).1 ⟨w8.heap.size + 1, 0, none⟩ 1 1 (segArr ⟨t.base, tb⟩ (.slice A8 tb.length c8)).toList rfl rfl (World.news_of_block (cs := segArr ⟨t.base, tb⟩ (.slice A8 tb.length c8)) (at2 w8 _ _)) (by simp [segArr, Value.oneCell']) (by decide) hl63.out hby.out (OWN.out _ _).2 (w8.heap.size + 1 + 1) (by rw [hsz, hsz]) ?_; intro g9 cap9 w9 hown9 gr9 hat9 hlt9; have AC := Seg.hid (PU.out g9 cap9 w9 _ _ hown9 gr9 hat9); have q6 := AC.out.c3; have p6 := AC.out.f3; clear hown9 gr9 hat9 hlt9))
        clear o0 o1 o2 o3 n0 n1 n2 n3 f0 f1 f2 f3 q6 p6
        obtain ⟨o0, o1, o2, o3⟩ := four AC.out.o
        obtain ⟨n0, n1, n2, n3⟩ := four AC.out.r
        have f0 := frozen_of_row _ (w.heap.size + 1) 0 _ _ AC.out.r
        have f1 := frozen_of_row _ (w.heap.size + 1) 1 _ _ AC.out.r
        have f2 := frozen_of_row _ (w.heap.size + 1) 2 _ _ AC.out.r
        have f3 := frozen_of_row _ (w.heap.size + 1) 3 _ _ AC.out.r
        obtain ⟨wz, hwz⟩ : ∃ wz, w9.setCell ⟨OB, 3, none⟩ (.slice (some ⟨g9, 0, none⟩) (r + 1) cap9) = wz := ⟨_, rfl⟩
        have A1 := Seg.hid AC.out.row
        have A2 := Seg.hid AC.out.own
        have A3' := Seg.hid AC.out.bel
        rw [hwz] at A1 A2 A3' o0 o1 o2 o3 n0 n1 n2 n3 f0 f1 f2 f3 ⊢
        clear AC hwz
        go_wp2_with fail
        exact bodyPost_ret (v := .tuple #[logVal ⟨l.start, x, l.roll, []⟩ (.slice (some ⟨g9, 0, none⟩) (r + 1) cap9), .bool true]) (results_row_tmp rfl _ _ (w.heap.size + 1) _ (logArr ⟨l.start, x, l.roll, []⟩ (.slice (some ⟨g9, 0, none⟩) (r + 1) cap9)) _ _ _ rfl rfl A1.out Try.underlying28 rfl infoN) rfl ⟨.slice (some ⟨g9, 0, none⟩) (r + 1) cap9, by rw [HC.out]; rfl, by rw [HC.out]; show OwnS _ _ _ (cutSs x l.segs); rw [CN.out]; exact A2.out, A3'.out⟩
  clear aK
  go_region_held3 (fun w' => w'.cell? ⟨w.heap.size, 0, none⟩ = some (.int .i64 l.start) ∧ w'.cell? ⟨w.heap.size, 2, none⟩ = some (.int .i64 l.roll) ∧ w'.cell? ⟨w.heap.size, 3, none⟩ = some (.slice A l.segs.length c)) (first | go_keep | exact KSc.out | exact KSd.out | exact KSf.out _ | exact KSe.out _ _ _ _ | exact KS.out _ rfl)
    (first | (go_at_call 29; refine (CALL.out w2.drew (Below.refl _ _).drew).mono ?_; rintro e wc ⟨sv, rfl, hG, bc⟩; obtain ⟨A3, c3', hA3⟩ := LGrow.form hG; rw [hul] at hA3; subst hA3; have HGc := Seg.hid hG; have Bc : Hid (Below w2.heap.size w2 wc) := ⟨bc.os, bc.tape, bc.output, bc.size, bc.block⟩; have KSc := Seg.hid (KS.out wc (Bc.out.block w.heap.size hw2)); have hwc : w.heap.size < wc.heap.size := Nat.lt_of_lt_of_le hw2 Bc.out.size; have KSf : Hid (∀ o9 : Obj, (wc.alloc o9).cell? ⟨w.heap.size, 0, none⟩ = some (.int .i64 l.start) ∧ (wc.alloc o9).cell? ⟨w.heap.size, 2, none⟩ = some (.int .i64 l.roll) ∧ (wc.alloc o9).cell? ⟨w.heap.size, 3, none⟩ = some (.slice A l.segs.length c)) := fun o9 => KS.out _ ((heap_alloc_old _ _ hwc).trans (Bc.out.block w.heap.size hw2)); clear hG bc) | (go_at_call 29; refine (CALL.out (w2.drew.alloc _) ((below1 w2 _).drew)).mono ?_; rintro e wc ⟨sv, rfl, hG, bc⟩; obtain ⟨A3, c3', hA3⟩ := LGrow.form hG; rw [hul] at hA3; subst hA3; rw [hsz] at hG bc; have HGd := Seg.hid hG; have Bd : Hid (Below (w2.heap.size + 1) (w2.alloc (.cells #[.int .i64 0, .int .i64 0, .int .i64 0, .slice none 0 0] 28 (0, 0))) wc) := ⟨bc.os, bc.tape, bc.output, bc.size, bc.block⟩; have V : Hid (wc.heap[w2.heap.size]? = some (.cells (logArr ⟨0, 0, 0, []⟩ (.slice none 0 0)) 28 (0, 0))) := (Bd.out.block w2.heap.size (by omega)).trans (heap_alloc_new _ _); obtain ⟨k0, k1, k2, k3⟩ := four V.out; have y0 := frozen_of_row wc w2.heap.size 0 _ _ V.out; have y1 := frozen_of_row wc w2.heap.size 1 _ _ V.out; have y2 := frozen_of_row wc w2.heap.size 2 _ _ V.out; have y3 := frozen_of_row wc w2.heap.size 3 _ _ V.out; have KSd := Seg.hid (KS.out wc ((Bd.out.block w.heap.size (by omega)).trans (heap_alloc_old _ _ hw2))); have KSe : Hid (∀ z0 z1 z2 z3 : Value, ((((wc.setCell ⟨w2.heap.size, 0, none⟩ z0).setCell ⟨w2.heap.size, 1, none⟩ z1).setCell ⟨w2.heap.size, 2, none⟩ z2).setCell ⟨w2.heap.size, 3, none⟩ z3).cell? ⟨w.heap.size, 0, none⟩ = some (.int .i64 l.start) ∧ ((((wc.setCell ⟨w2.heap.size, 0, none⟩ z0).setCell ⟨w2.heap.size, 1, none⟩ z1).setCell ⟨w2.heap.size, 2, none⟩ z2).setCell ⟨w2.heap.size, 3, none⟩ z3).cell? ⟨w.heap.size, 2, none⟩ = some (.int .i64 l.roll) ∧ ((((wc.setCell ⟨w2.heap.size, 0, none⟩ z0).setCell ⟨w2.heap.size, 1, none⟩ z1).setCell ⟨w2.heap.size, 2, none⟩ z2).setCell ⟨w2.heap.size, 3, none⟩ z3).cell? ⟨w.heap.size, 3, none⟩ = some (.slice A l.segs.length c)) := fun z0 z1 z2 z3 => KS.out _ (setc4 hw2 ((Bd.out.block w.heap.size (by omega)).trans (heap_alloc_old _ _ hw2))); clear hG bc))
  · show K _ _
    refine J wc.heap.size _ A3 c3' _ _ _ _ _ _ _ _ _ _ _ ?_
    exact CL.after (l := ⟨l.start, x, l.roll, []⟩) HGc.out Bc.out
  · show K _ _
    refine J w2.heap.size _ A3 c3' _ _ _ _ _ _ _ _ _ _ _ ?_
    have hs3 : w2.heap.size + 1 ≤ wc.heap.size := by have := Bd.out.size; rw [hsz] at this; exact this
    exact CL.ahead (l := ⟨l.start, x, l.roll, []⟩) (.cells #[.int .i64 0, .int .i64 0, .int .i64 0, .slice none 0 0] 28 (0, 0)) HGd.out Bd.out hs3 (Cells.whole (vs := logArr ⟨l.start, x, l.roll, []⟩ (.slice A3 r c3')) V.out rfl)
theorem cutTo_any (v : Value) (l : Lg) (x : Int) (w : World) (lo b : Nat) (hv : LogAt w lo b v l) (hb : b ≤ w.heap.size) (hf : FewL l) :
    Calls Try.prog 8 #[v, .int .i64 x] w fun e w' => ∃ sv, e = .returned (.tuple #[logVal (cutT l x).1 sv, .bool (cutT l x).2]) ∧ OwnS w' (seg w.heap.size w'.heap.size) sv (cutT l x).1.segs ∧ Below w.heap.size w w' := by
  obtain ⟨sv, rfl, hs⟩ := hv
  obtain ⟨_, ⟨_, A, c, rfl, _⟩, _⟩ := id hs
  exact cutTo_core l x A c w lo b hb hf hs
end Go.Proofs.Yticihnoekffelaa.Ft
