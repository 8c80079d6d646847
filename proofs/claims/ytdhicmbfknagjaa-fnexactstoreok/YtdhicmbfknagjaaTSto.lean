/- Store: how it lies in memory; what the law's measure and copier answer. -/
import Derived.Test.YtdhicmbfknagjaaTLgs
import Derived.Test.YtdhicmbfknagjaaTTxns
namespace Go.Proofs.Ytdhicmbfknagjaa.Ls
set_option maxRecDepth 8000
open Go.RowKit
open Recs
open SegW (Sg)
open LogW (Lg)
set_option linter.unusedVariables false
structure Sto where
  logs : List Lg
  txns : List Txn
  used : Int
  deriving Inhabited
def ESto : Elt Sto := fun w S f u => LAt 4 ELg w S (f 0) u.logs ∧ LAt 5 ETxn w S (f 1) u.txns ∧ f 2 = .int .i64 u.used
theorem keepsSto : Keeps 3 ESto := fun w w' S f f' t h hk hf => by
  obtain ⟨h0, h1, h2⟩ := h
  exact ⟨by rw [hf 0 (by omega)]; exact h0.keep keepsLg hk, by rw [hf 1 (by omega)]; exact h1.keep keepsTxn hk, by rw [hf 2 (by omega)]; exact h2⟩
theorem growsSto : Grows ESto := fun w S S' f t h hs => by
  obtain ⟨h0, h1, h2⟩ := h
  exact ⟨h0.mono growsLg hs, h1.mono growsTxn hs, h2⟩
def arrSto (f : Nat → Value) : Array Value := #[f 0, f 1, f 2]
theorem oneSto {w : World} {S : Nat → Prop} {f : Nat → Value} {u : Sto} (h : ESto w S f u) : (arrSto f).all (·.oneCell') = true := by
  obtain ⟨h0, h1, h2⟩ := h
  have o0 : (f 0).oneCell' = true := h0.one
  have o1 : (f 1).oneCell' = true := h1.one
  have o2 : (f 2).oneCell' = true := by rw [h2]; rfl
  simp [arrSto, o0, o1, o2]
def StoAt (w : World) (S : Nat → Prop) (v : Value) (u : Sto) : Prop := ∃ f, v = .agg (arrSto f) ∧ ESto w S f u
abbrev StosAt := LAt 3 ESto
theorem StoAt.keep {w w' : World} {S : Nat → Prop} {v : Value} {u : Sto} (h : StoAt w S v u) (hk : ∀ g, S g → w'.heap[g]? = w.heap[g]?) : StoAt w' S v u := by
  obtain ⟨f, h1, h2⟩ := h
  exact ⟨f, h1, keepsSto _ _ _ _ _ _ h2 hk (fun _ _ => rfl)⟩
theorem StoAt.mono {w : World} {S S' : Nat → Prop} {v : Value} {u : Sto} (h : StoAt w S v u) (hs : ∀ g, S g → S' g) : StoAt w S' v u := by
  obtain ⟨f, h1, h2⟩ := h
  exact ⟨f, h1, growsSto _ _ _ _ _ h2 hs⟩
theorem StoAt.below {w w' : World} {B : Nat} {S : Nat → Prop} {v : Value} {u : Sto} (h : StoAt w S v u) (hb : Below B w w') (hs : ∀ g, S g → g < B) : StoAt w' S v u := h.keep fun g hg => hb.block g (hs g hg)
def szSto (u : Sto) : Nat := szL szLg (u.logs) + szL szTxn (u.txns)
def FineSto (u : Sto) : Prop := FineL FineLg u.logs ∧ FineL FineTxn u.txns ∧ I64 u.used
theorem infoSto : (Try.prog.info? 31).map (·.size) = some 3 := by kernel_rfl
theorem infoLSto : (Try.prog.info? 25).map (·.size) = some 3 := by kernel_rfl
theorem infoZSto : (Try.prog.info? 31).map (fun i => (i.zero, i.size, i.bytes)) = some (some (.agg #[.slice none 0 0, .slice none 0 0, .int .i64 0]), 3, 56) := by kernel_rfl
set_option maxHeartbeats 800000 in
theorem szStore_any (v : Value) (u : Sto) (l : Int) (w : World) (S : Nat → Prop) (h3 : -1 ≤ l) (h4 : l ≤ 1048576) (hv : StoAt w S v u) (hS : ∀ g, S g → g < w.heap.size) (hf : FineSto u) :
    Calls Try.prog 7 #[v, .int .i64 l] w fun e w' => ∃ q, e = .returned (.int .i64 q) ∧ -1 ≤ q ∧ q ≤ l ∧ Lf l (szSto u) q ∧ Below w.heap.size w w' := by
  obtain ⟨f, rfl, y0, y1, y2⟩ := hv
  try simp only [arrSto]
  obtain ⟨A0, c0, g0⟩ := y0.form
  rw [g0] at y0 ⊢
  have H0 := Seg.hid y0
  clear y0 g0
  obtain ⟨A1, c1, g1⟩ := y1.form
  rw [g1] at y1 ⊢
  have H1 := Seg.hid y1
  clear y1 g1
  rw [show f 2 = _ from y2]
  clear y2
  obtain ⟨z0, z1, z2⟩ := hf
  have Z0 := Seg.hid z0
  have Z1 := Seg.hid z1
  clear z0 z1 z2
  go_enter Try.func7, Try.ntmps7
  go_wp2_with fail
  refine (szLogS_any _ u.logs _ (w.alloc _) S (by omega) (by omega) (H0.out.below keepsLg (below1 w _) hS) (fun g hg => by rw [hsz]; have := hS g hg; omega) Z0.out).mono ?_
  rintro e w1 ⟨q1, rfl, a1, b1, L1', d1⟩
  have B1 := Seg.hid (chain (below1 w _) d1)
  have L1 := Seg.hid L1'
  have T1 : Hid (w1.heap[w.heap.size]? = some (.cells #[.slice A0 u.logs.length c0, .slice A1 u.txns.length c1, .int .i64 u.used] 25 (0, 0))) := (d1.block w.heap.size (by rw [hsz]; omega)).trans (heap_alloc_new _ _)
  have s1 : w.heap.size < w1.heap.size := (Array.getElem?_eq_some_iff.1 T1.out).1
  have p11 : w1.cell? ⟨w.heap.size, 1, none⟩ = some (.slice A1 u.txns.length c1) := cell_of_row w1 _ 1 _ _ (0, 0) T1.out
  clear d1 L1'
  by_cases k0 : q1 < 0
  · go_wp2
    go_ret
    exact ⟨_, rfl, by omega, by omega, by have m0 := L1.out.2 (by omega); simp only [szSto]; exact ⟨fun _ => by omega, fun _ => by omega⟩, B1.out⟩
  go_wp2_with fail
  refine (szTxnS_any _ u.txns _ w1 S (by omega) (by omega) (H1.out.below keepsTxn B1.out hS) (fun g hg => Nat.lt_of_lt_of_le (hS g hg) B1.out.size) Z1.out).mono ?_
  rintro e w2 ⟨q2, rfl, a2, b2, L2', d2⟩
  have B2 := Seg.hid (chain B1.out d2)
  have L2 := Seg.hid L2'
  clear d2 L2'
  by_cases k1 : q2 < 0
  · go_wp2
    go_ret
    exact ⟨_, rfl, by omega, by omega, by have m0 := L1.out.1 (by omega); have m1 := L2.out.2 (by omega); simp only [szSto]; exact ⟨fun _ => by omega, fun _ => by omega⟩, B2.out⟩
  go_wp2
  go_ret
  exact ⟨_, rfl, by omega, by omega, by have m0 := L1.out.1 (by omega); have m1 := L2.out.1 (by omega); simp only [szSto]; exact ⟨fun _ => by omega, fun _ => by omega⟩, B2.out⟩
set_option maxHeartbeats 1600000 in
theorem toStore_any (v : Value) (u : Sto) (w : World) (S : Nat → Prop) (hv : StoAt w S v u) (hS : ∀ g, S g → g < w.heap.size) (hf : szSto u ≤ 1048576) :
    Calls Try.prog 9 #[v] w fun e w' => ∃ v', e = .returned v' ∧ StoAt w' (seg w.heap.size w'.heap.size) v' u ∧ Below w.heap.size w w' := by
  obtain ⟨f, rfl, y0, y1, y2⟩ := hv
  try simp only [arrSto]
  obtain ⟨A0, c0, g0⟩ := y0.form
  rw [g0] at y0 ⊢
  have H0 := Seg.hid y0
  clear y0 g0
  obtain ⟨A1, c1, g1⟩ := y1.form
  rw [g1] at y1 ⊢
  have H1 := Seg.hid y1
  clear y1 g1
  rw [show f 2 = _ from y2]
  clear y2
  unfold szSto at hf
  go_enter Try.func9, Try.ntmps9
  go_wp2_with fail
  refine (toLogS_any _ u.logs (((w.alloc _).alloc _).alloc _) S (H0.out.below keepsLg (below3 w _ _ _) hS) (fun g hg => by rw [hsz, hsz, hsz]; have := hS g hg; omega) (by omega)).mono ?_
  rintro e w1 ⟨v1, rfl, l1, b1⟩
  have B1 := Seg.hid (chain (below3 w _ _ _) b1)
  have Ta1 : Hid (w1.heap[w.heap.size]? = some (.cells #[.slice A0 u.logs.length c0, .slice A1 u.txns.length c1, .int .i64 u.used] 25 (0, 0))) := (b1.block w.heap.size (by rw [hsz, hsz, hsz]; omega)).trans (at3z w _ _ _)
  have Tr1 : Hid (w1.heap[w.heap.size + 1]? = some (.cells #[.slice none 0 0, .slice none 0 0, .int .i64 0] 31 (0, 0))) := (b1.block (w.heap.size + 1) (by rw [hsz, hsz, hsz]; omega)).trans (at3 w _ _ _)
  have To1 : Hid (w1.heap[w.heap.size + 1 + 1]? = some (.cells #[.slice none 0 0, .slice none 0 0, .int .i64 0] 31 (0, 0))) := (b1.block (w.heap.size + 1 + 1) (by rw [hsz, hsz, hsz]; omega)).trans (Cells.at3' w _ _ _)
  have s1 : w.heap.size + 3 ≤ w1.heap.size := by have := b1.size; rw [hsz, hsz, hsz] at this; omega
  have M1 : Hid (LAt 4 ELg w1 (seg (w.heap.size + 3) w1.heap.size) v1 u.logs) := by
    rw [hsz, hsz, hsz] at l1
    exact l1
  obtain ⟨Y1, x1, r1⟩ := M1.out.form
  subst r1
  clear b1 l1
  have N11 := M1
  have pa11 : w1.cell? ⟨w.heap.size, 1, none⟩ = some (.slice A1 u.txns.length c1) := cell_of_row w1 _ 1 _ _ (0, 0) Ta1.out
  have po10 : (w1).cell? ⟨w.heap.size + 1 + 1, 0, none⟩ = some (.slice none 0 0) := cell_of_row (w1) _ 0 _ _ (0, 0) (To1.out)
  have pf10 : (w1).frozen? ⟨w.heap.size + 1 + 1, 0, none⟩ = false := frozen_of_row (w1) _ 0 _ _ (To1.out)
  have qo10 : Hid (((w1.setCell ⟨w.heap.size + 1 + 1, 0, none⟩ (.slice Y1 u.logs.length x1))).heap[w.heap.size + 1 + 1]? = some (.cells #[.slice Y1 u.logs.length x1, .slice none 0 0, .int .i64 0] 31 (0, 0))) := heap_setCell_same (w1) (w.heap.size + 1 + 1) 0 _ _ (.slice Y1 u.logs.length x1) (To1.out)
  have Uo1 := Seg.hid (qo10.out)
  have Ur1 := Seg.hid ((heap_setCell_other (w1) ⟨w.heap.size + 1 + 1, 0, none⟩ (w.heap.size + 1) (.slice Y1 u.logs.length x1) (by simp)).trans (Tr1.out))
  have Ua1 := Seg.hid ((heap_setCell_other (w1) ⟨w.heap.size + 1 + 1, 0, none⟩ w.heap.size (.slice Y1 u.logs.length x1) (by simp; omega)).trans (Ta1.out))
  have D1 : Hid (Below w.heap.size w (w1.setCell ⟨w.heap.size + 1 + 1, 0, none⟩ (.slice Y1 u.logs.length x1))) := (B1.out).setCell (p := ⟨w.heap.size + 1 + 1, 0, none⟩) (by simp; omega) (.slice Y1 u.logs.length x1)
  have N11' : Hid (LAt 4 ELg (w1.setCell ⟨w.heap.size + 1 + 1, 0, none⟩ (.slice Y1 u.logs.length x1)) (seg (w.heap.size + 3) w1.heap.size) (.slice Y1 u.logs.length x1) u.logs) := N11.out.keep keepsLg (fun g hg => by have := hg.1; rw [heap_setCell_other _ _ _ _ (by show _ ≠ w.heap.size + 1 + 1; omega)])
  go_wp2_with fail
  refine (toTxnS_any _ u.txns (w1.setCell ⟨w.heap.size + 1 + 1, 0, none⟩ (.slice Y1 u.logs.length x1)) S (H1.out.below keepsTxn D1.out hS) (fun g hg => Nat.lt_of_lt_of_le (hS g hg) D1.out.size) (by omega)).mono ?_
  rintro e w2 ⟨v2, rfl, l2, b2⟩
  have B2 := Seg.hid (chain D1.out b2)
  have z2 : (w1.setCell ⟨w.heap.size + 1 + 1, 0, none⟩ (.slice Y1 u.logs.length x1)).heap.size = w1.heap.size := by simp
  have Ta2 := Seg.hid ((b2.block w.heap.size (by omega)).trans Ua1.out)
  have Tr2 := Seg.hid ((b2.block (w.heap.size + 1) (by omega)).trans Ur1.out)
  have To2 := Seg.hid ((b2.block (w.heap.size + 1 + 1) (by omega)).trans Uo1.out)
  have s2 : w.heap.size + 3 ≤ w2.heap.size := by have := b2.size; omega
  have M2 : Hid (LAt 5 ETxn w2 (seg (w.heap.size + 3) w2.heap.size) v2 u.txns) := l2.mono growsTxn (fun g hg => ⟨by have := hg.1; omega, hg.2⟩)
  have N21 : Hid (LAt 4 ELg w2 (seg (w.heap.size + 3) w2.heap.size) (.slice Y1 u.logs.length x1) u.logs) := ((N11'.out.keep keepsLg (fun g hg => b2.block g (by have := hg.2; omega))).mono growsLg (fun g hg => ⟨hg.1, by have := b2.size; have := hg.2; omega⟩))
  clear z2
  obtain ⟨Y2, x2, r2⟩ := M2.out.form
  subst r2
  clear b2 l2
  have N22 := M2
  have pa22 : w2.cell? ⟨w.heap.size, 2, none⟩ = some (.int .i64 u.used) := cell_of_row w2 _ 2 _ _ (0, 0) Ta2.out
  have po21 : (w2).cell? ⟨w.heap.size + 1 + 1, 1, none⟩ = some (.slice none 0 0) := cell_of_row (w2) _ 1 _ _ (0, 0) (To2.out)
  have pf21 : (w2).frozen? ⟨w.heap.size + 1 + 1, 1, none⟩ = false := frozen_of_row (w2) _ 1 _ _ (To2.out)
  have qo21 : Hid (((w2.setCell ⟨w.heap.size + 1 + 1, 1, none⟩ (.slice Y2 u.txns.length x2))).heap[w.heap.size + 1 + 1]? = some (.cells #[.slice Y1 u.logs.length x1, .slice Y2 u.txns.length x2, .int .i64 0] 31 (0, 0))) := heap_setCell_same (w2) (w.heap.size + 1 + 1) 1 _ _ (.slice Y2 u.txns.length x2) (To2.out)
  have po22 : ((w2.setCell ⟨w.heap.size + 1 + 1, 1, none⟩ (.slice Y2 u.txns.length x2))).cell? ⟨w.heap.size + 1 + 1, 2, none⟩ = some (.int .i64 0) := cell_of_row ((w2.setCell ⟨w.heap.size + 1 + 1, 1, none⟩ (.slice Y2 u.txns.length x2))) _ 2 _ _ (0, 0) (qo21.out)
  have pf22 : ((w2.setCell ⟨w.heap.size + 1 + 1, 1, none⟩ (.slice Y2 u.txns.length x2))).frozen? ⟨w.heap.size + 1 + 1, 2, none⟩ = false := frozen_of_row ((w2.setCell ⟨w.heap.size + 1 + 1, 1, none⟩ (.slice Y2 u.txns.length x2))) _ 2 _ _ (qo21.out)
  have qo22 : Hid ((((w2.setCell ⟨w.heap.size + 1 + 1, 1, none⟩ (.slice Y2 u.txns.length x2)).setCell ⟨w.heap.size + 1 + 1, 2, none⟩ (.int .i64 u.used))).heap[w.heap.size + 1 + 1]? = some (.cells #[.slice Y1 u.logs.length x1, .slice Y2 u.txns.length x2, .int .i64 u.used] 31 (0, 0))) := heap_setCell_same ((w2.setCell ⟨w.heap.size + 1 + 1, 1, none⟩ (.slice Y2 u.txns.length x2))) (w.heap.size + 1 + 1) 2 _ _ (.int .i64 u.used) (qo21.out)
  have Uo2 := Seg.hid (qo22.out)
  have Ur2 := Seg.hid ((heap_setCell_other ((w2.setCell ⟨w.heap.size + 1 + 1, 1, none⟩ (.slice Y2 u.txns.length x2))) ⟨w.heap.size + 1 + 1, 2, none⟩ (w.heap.size + 1) (.int .i64 u.used) (by simp)).trans ((heap_setCell_other (w2) ⟨w.heap.size + 1 + 1, 1, none⟩ (w.heap.size + 1) (.slice Y2 u.txns.length x2) (by simp)).trans (Tr2.out)))
  have Ua2 := Seg.hid ((heap_setCell_other ((w2.setCell ⟨w.heap.size + 1 + 1, 1, none⟩ (.slice Y2 u.txns.length x2))) ⟨w.heap.size + 1 + 1, 2, none⟩ w.heap.size (.int .i64 u.used) (by simp; omega)).trans ((heap_setCell_other (w2) ⟨w.heap.size + 1 + 1, 1, none⟩ w.heap.size (.slice Y2 u.txns.length x2) (by simp; omega)).trans (Ta2.out)))
  have D2 : Hid (Below w.heap.size w ((w2.setCell ⟨w.heap.size + 1 + 1, 1, none⟩ (.slice Y2 u.txns.length x2)).setCell ⟨w.heap.size + 1 + 1, 2, none⟩ (.int .i64 u.used))) := ((B2.out).setCell (p := ⟨w.heap.size + 1 + 1, 1, none⟩) (by simp; omega) (.slice Y2 u.txns.length x2)).setCell (p := ⟨w.heap.size + 1 + 1, 2, none⟩) (by simp; omega) (.int .i64 u.used)
  have N21' : Hid (LAt 4 ELg ((w2.setCell ⟨w.heap.size + 1 + 1, 1, none⟩ (.slice Y2 u.txns.length x2)).setCell ⟨w.heap.size + 1 + 1, 2, none⟩ (.int .i64 u.used)) (seg (w.heap.size + 3) w2.heap.size) (.slice Y1 u.logs.length x1) u.logs) := N21.out.keep keepsLg (fun g hg => by have := hg.1; rw [heap_setCell_other _ _ _ _ (by show _ ≠ w.heap.size + 1 + 1; omega), heap_setCell_other _ _ _ _ (by show _ ≠ w.heap.size + 1 + 1; omega)])
  have N22' : Hid (LAt 5 ETxn ((w2.setCell ⟨w.heap.size + 1 + 1, 1, none⟩ (.slice Y2 u.txns.length x2)).setCell ⟨w.heap.size + 1 + 1, 2, none⟩ (.int .i64 u.used)) (seg (w.heap.size + 3) w2.heap.size) (.slice Y2 u.txns.length x2) u.txns) := N22.out.keep keepsTxn (fun g hg => by have := hg.1; rw [heap_setCell_other _ _ _ _ (by show _ ≠ w.heap.size + 1 + 1; omega), heap_setCell_other _ _ _ _ (by show _ ≠ w.heap.size + 1 + 1; omega)])
  obtain ⟨fx, hfx⟩ : ∃ fx : Nat → Value, fx = (fun q => if q = 0 then .slice Y1 u.logs.length x1 else if q = 1 then .slice Y2 u.txns.length x2 else .int .i64 u.used) := ⟨_, rfl⟩
  have HX := Seg.hid hfx
  have Uz : Hid (((w2.setCell ⟨w.heap.size + 1 + 1, 1, none⟩ (.slice Y2 u.txns.length x2)).setCell ⟨w.heap.size + 1 + 1, 2, none⟩ (.int .i64 u.used)).heap[w.heap.size + 1 + 1]? = some (.cells (arrSto fx) 31 (0, 0))) := by
    show _ = _
    rw [hfx]
    exact Uo2.out
  clear hfx
  have H5a := Cells.there_of Ur2.out
  have H5 : Hid (((w2.setCell ⟨w.heap.size + 1 + 1, 1, none⟩ (.slice Y2 u.txns.length x2)).setCell ⟨w.heap.size + 1 + 1, 2, none⟩ (.int .i64 u.used)).there (w.heap.size + 1) 0 (arrSto fx).size) := H5a
  clear H5a
  have H4 := Seg.hid (Cells.whole (vs := arrSto fx) Ur2.out rfl)
  have B9 := Seg.hid (Cells.below_setCells (g := w.heap.size + 1) (by omega) (arrSto fx).toList 0 _ _ D2.out)
  have F1 : Hid (LAt 4 ELg (((w2.setCell ⟨w.heap.size + 1 + 1, 1, none⟩ (.slice Y2 u.txns.length x2)).setCell ⟨w.heap.size + 1 + 1, 2, none⟩ (.int .i64 u.used)).setCells (w.heap.size + 1) 0 (arrSto fx).toList) (seg w.heap.size (((w2.setCell ⟨w.heap.size + 1 + 1, 1, none⟩ (.slice Y2 u.txns.length x2)).setCell ⟨w.heap.size + 1 + 1, 2, none⟩ (.int .i64 u.used)).setCells (w.heap.size + 1) 0 (arrSto fx).toList).heap.size) (fx 0) u.logs) := by
    show LAt 4 ELg _ _ _ _
    rw [show fx 0 = .slice Y1 u.logs.length x1 by rw [HX.out]; rfl]
    refine (N21'.out.keep keepsLg (fun g hg => ?_)).mono growsLg (fun g hg => ⟨by have := hg.1; omega, ?_⟩)
    · have := hg.1
      rw [Cells.heap_setCells_other _ _ (by omega)]
    · rw [Cells.size_setCells]
      have := hg.2
      simpa using this
  have F2 : Hid (LAt 5 ETxn (((w2.setCell ⟨w.heap.size + 1 + 1, 1, none⟩ (.slice Y2 u.txns.length x2)).setCell ⟨w.heap.size + 1 + 1, 2, none⟩ (.int .i64 u.used)).setCells (w.heap.size + 1) 0 (arrSto fx).toList) (seg w.heap.size (((w2.setCell ⟨w.heap.size + 1 + 1, 1, none⟩ (.slice Y2 u.txns.length x2)).setCell ⟨w.heap.size + 1 + 1, 2, none⟩ (.int .i64 u.used)).setCells (w.heap.size + 1) 0 (arrSto fx).toList).heap.size) (fx 1) u.txns) := by
    show LAt 5 ETxn _ _ _ _
    rw [show fx 1 = .slice Y2 u.txns.length x2 by rw [HX.out]; rfl]
    refine (N22'.out.keep keepsTxn (fun g hg => ?_)).mono growsTxn (fun g hg => ⟨by have := hg.1; omega, ?_⟩)
    · have := hg.1
      rw [Cells.heap_setCells_other _ _ (by omega)]
    · rw [Cells.size_setCells]
      have := hg.2
      simpa using this
  have EX : Hid (ESto (((w2.setCell ⟨w.heap.size + 1 + 1, 1, none⟩ (.slice Y2 u.txns.length x2)).setCell ⟨w.heap.size + 1 + 1, 2, none⟩ (.int .i64 u.used)).setCells (w.heap.size + 1) 0 (arrSto fx).toList) (seg w.heap.size (((w2.setCell ⟨w.heap.size + 1 + 1, 1, none⟩ (.slice Y2 u.txns.length x2)).setCell ⟨w.heap.size + 1 + 1, 2, none⟩ (.int .i64 u.used)).setCells (w.heap.size + 1) 0 (arrSto fx).toList).heap.size) fx u) := ⟨F1.out, F2.out, by rw [HX.out]; rfl⟩
  have ON := Seg.hid (oneSto EX.out)
  clear Ta1 Tr1 To1 Ua1 M1 Ta2 Tr2 To2 Ua2 M2
  go_upto_region 5 with fail
  clear po21 pf21 po22 pf22
  generalize ((w2.setCell ⟨w.heap.size + 1 + 1, 1, none⟩ (.slice Y2 u.txns.length x2)).setCell ⟨w.heap.size + 1 + 1, 2, none⟩ (.int .i64 u.used)) = wz at *
  go_wp2_with (first | (refine wpList_load_row rfl 31 _ rfl (w.heap.size + 1 + 1) rfl _ _ _ _ Uz.out Try.underlying31 rfl infoSto ?_) | (refine wpList_store_mid rfl 31 _ _ rfl (w.heap.size + 1) 0 (arrSto fx) rfl rfl H5.out infoSto ON.out ?_))
  exact bodyPost_ret (v := .agg (arrSto fx)) (results_cell_row rfl _ _ (w.heap.size + 1) _ _ _ _ rfl H4.out Try.underlying31 rfl infoSto) rfl ⟨_, rfl, ⟨fx, rfl, EX.out⟩, B9.out⟩
set_option maxHeartbeats 1600000 in
theorem eqStore_any (v v' : Value) (u : Sto) (w : World) (S S' : Nat → Prop) (hv : StoAt w S v u) (hv' : StoAt w S' v' u) (hS : ∀ g, S g → g < w.heap.size) (hS' : ∀ g, S' g → g < w.heap.size) :
    Calls Try.prog 11 #[v, v'] w fun e w' => e = .returned (.bool true) ∧ Below w.heap.size w w' := by
  obtain ⟨f, rfl, y0, y1, y2⟩ := hv
  obtain ⟨f', rfl, y0', y1', y2'⟩ := hv'
  try simp only [arrSto]
  obtain ⟨A0, c0, g0⟩ := y0.form
  rw [g0] at y0 ⊢
  have H0 := Seg.hid y0
  clear y0 g0
  obtain ⟨A1, c1, g1⟩ := y1.form
  rw [g1] at y1 ⊢
  have H1 := Seg.hid y1
  clear y1 g1
  rw [show f 2 = _ from y2]
  clear y2
  try simp only [arrSto]
  obtain ⟨A0', c0', g0'⟩ := y0'.form
  rw [g0'] at y0' ⊢
  have H0' := Seg.hid y0'
  clear y0' g0'
  obtain ⟨A1', c1', g1'⟩ := y1'.form
  rw [g1'] at y1' ⊢
  have H1' := Seg.hid y1'
  clear y1' g1'
  rw [show f' 2 = _ from y2']
  clear y2'
  go_enter Try.func11, Try.ntmps11
  go_wp2_with fail
  refine (eqLogS_any _ _ u.logs ((w.alloc _).alloc _) S S' (H0.out.below keepsLg (below2 w _ _) hS) (H0'.out.below keepsLg (below2 w _ _) hS') (fun g hg => by rw [hsz, hsz]; have := hS g hg; omega) (fun g hg => by rw [hsz, hsz]; have := hS' g hg; omega)).mono ?_
  rintro e w1 ⟨rfl, b1⟩
  have B1 := Seg.hid (chain (below2 w _ _) b1)
  have Ta1 : Hid (w1.heap[w.heap.size]? = some (.cells #[.slice A0 u.logs.length c0, .slice A1 u.txns.length c1, .int .i64 u.used] 31 (0, 0))) := (b1.block w.heap.size (by rw [hsz, hsz]; omega)).trans (at2z w _ _)
  have Tb1 : Hid (w1.heap[w.heap.size + 1]? = some (.cells #[.slice A0' u.logs.length c0', .slice A1' u.txns.length c1', .int .i64 u.used] 31 (0, 0))) := (b1.block (w.heap.size + 1) (by rw [hsz, hsz]; omega)).trans (at2y w _ _)
  have s1 : w.heap.size + 1 < w1.heap.size := (Array.getElem?_eq_some_iff.1 Tb1.out).1
  have pa11 : w1.cell? ⟨w.heap.size, 1, none⟩ = some (.slice A1 u.txns.length c1) := cell_of_row w1 _ 1 _ _ (0, 0) Ta1.out
  have pb11 : w1.cell? ⟨w.heap.size + 1, 1, none⟩ = some (.slice A1' u.txns.length c1') := cell_of_row w1 _ 1 _ _ (0, 0) Tb1.out
  clear b1
  go_wp2_with fail
  refine (eqTxnS_any _ _ u.txns w1 S S' (H1.out.below keepsTxn B1.out hS) (H1'.out.below keepsTxn B1.out hS') (fun g hg => Nat.lt_of_lt_of_le (hS g hg) B1.out.size) (fun g hg => Nat.lt_of_lt_of_le (hS' g hg) B1.out.size)).mono ?_
  rintro e w2 ⟨rfl, b2⟩
  have B2 := Seg.hid (chain B1.out b2)
  have Ta2 : Hid (w2.heap[w.heap.size]? = some (.cells #[.slice A0 u.logs.length c0, .slice A1 u.txns.length c1, .int .i64 u.used] 31 (0, 0))) := (b2.block w.heap.size (by omega)).trans Ta1.out
  have Tb2 : Hid (w2.heap[w.heap.size + 1]? = some (.cells #[.slice A0' u.logs.length c0', .slice A1' u.txns.length c1', .int .i64 u.used] 31 (0, 0))) := (b2.block (w.heap.size + 1) (by omega)).trans Tb1.out
  have s2 : w.heap.size + 1 < w2.heap.size := (Array.getElem?_eq_some_iff.1 Tb2.out).1
  have pa22 : w2.cell? ⟨w.heap.size, 2, none⟩ = some (.int .i64 u.used) := cell_of_row w2 _ 2 _ _ (0, 0) Ta2.out
  have pb22 : w2.cell? ⟨w.heap.size + 1, 2, none⟩ = some (.int .i64 u.used) := cell_of_row w2 _ 2 _ _ (0, 0) Tb2.out
  clear b2
  go_wp2
  go_ret
  exact ⟨rfl, B2.out⟩
end Go.Proofs.Ytdhicmbfknagjaa.Ls
