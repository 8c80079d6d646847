/- Source: how it lies in memory; what the law's measure and copier answer. -/
import Derived.Test.YtekhidflncfeiaaLsT
namespace Go.Proofs.Ytekhidflncfeiaa.Ls
set_option maxRecDepth 8000
open Go.RowKit
open Recs
set_option linter.unusedVariables false
structure Src where
  name : ByteArray
  tab : Bool
  cols : List ByteArray
  deriving Inhabited
def ESrc : Elt Src := fun w S f u => f 0 = .string u.name ∧ f 1 = .bool u.tab ∧ StrsAt w S (f 2) u.cols
theorem keepsSrc : Keeps 3 ESrc := fun w w' S f f' t h hk hf => by
  obtain ⟨h0, h1, h2⟩ := h
  exact ⟨by rw [hf 0 (by omega)]; exact h0, by rw [hf 1 (by omega)]; exact h1, by rw [hf 2 (by omega)]; exact h2.keep keepsStr hk⟩
theorem growsSrc : Grows ESrc := fun w S S' f t h hs => by
  obtain ⟨h0, h1, h2⟩ := h
  exact ⟨h0, h1, h2.mono growsStr hs⟩
def arrSrc (f : Nat → Value) : Array Value := #[f 0, f 1, f 2]
theorem oneSrc {w : World} {S : Nat → Prop} {f : Nat → Value} {u : Src} (h : ESrc w S f u) : (arrSrc f).all (·.oneCell') = true := by
  obtain ⟨h0, h1, h2⟩ := h
  have o0 : (f 0).oneCell' = true := by rw [h0]; rfl
  have o1 : (f 1).oneCell' = true := by rw [h1]; rfl
  have o2 : (f 2).oneCell' = true := h2.one
  simp [arrSrc, o0, o1, o2]
def SrcAt (w : World) (S : Nat → Prop) (v : Value) (u : Src) : Prop := ∃ f, v = .agg (arrSrc f) ∧ ESrc w S f u
abbrev SrcsAt := LAt 3 ESrc
theorem SrcAt.keep {w w' : World} {S : Nat → Prop} {v : Value} {u : Src} (h : SrcAt w S v u) (hk : ∀ g, S g → w'.heap[g]? = w.heap[g]?) : SrcAt w' S v u := by
  obtain ⟨f, h1, h2⟩ := h
  exact ⟨f, h1, keepsSrc _ _ _ _ _ _ h2 hk (fun _ _ => rfl)⟩
theorem SrcAt.mono {w : World} {S S' : Nat → Prop} {v : Value} {u : Src} (h : SrcAt w S v u) (hs : ∀ g, S g → S' g) : SrcAt w S' v u := by
  obtain ⟨f, h1, h2⟩ := h
  exact ⟨f, h1, growsSrc _ _ _ _ _ h2 hs⟩
theorem SrcAt.below {w w' : World} {B : Nat} {S : Nat → Prop} {v : Value} {u : Src} (h : SrcAt w S v u) (hb : Below B w w') (hs : ∀ g, S g → g < B) : SrcAt w' S v u := h.keep fun g hg => hb.block g (hs g hg)
def szSrc (u : Src) : Nat := u.name.size + szL ByteArray.size (u.cols)
def FineSrc (u : Src) : Prop := u.name.size ≤ maxLen ∧ True ∧ FineL FineStr u.cols
theorem infoSrc : (Try.prog.info? 81).map (·.size) = some 3 := by kernel_rfl
theorem infoLSrc : (Try.prog.info? 76).map (·.size) = some 3 := by kernel_rfl
theorem infoZSrc : (Try.prog.info? 81).map (fun i => (i.zero, i.size, i.bytes)) = some (some (.agg #[.string ByteArray.empty, .bool false, .slice none 0 0]), 3, 48) := by kernel_rfl
set_option maxHeartbeats 800000 in
theorem szSource_any (v : Value) (u : Src) (l : Int) (w : World) (S : Nat → Prop) (h3 : -1 ≤ l) (h4 : l ≤ 1048576) (hv : SrcAt w S v u) (hS : ∀ g, S g → g < w.heap.size) (hf : FineSrc u) :
    Calls Try.prog 42 #[v, .int .i64 l] w fun e w' => ∃ q, e = .returned (.int .i64 q) ∧ -1 ≤ q ∧ q ≤ l ∧ Lf l (szSrc u) q ∧ Below w.heap.size w w' := by
  obtain ⟨f, rfl, y0, y1, y2⟩ := hv
  try simp only [arrSrc]
  rw [show f 0 = _ from y0]
  clear y0
  rw [show f 1 = _ from y1]
  clear y1
  obtain ⟨A2, c2, g2⟩ := y2.form
  rw [g2] at y2 ⊢
  have H2 := Seg.hid y2
  clear y2 g2
  obtain ⟨z0, z1, z2⟩ := hf
  unfold maxLen at z0
  have Z2 := Seg.hid z2
  clear z1 z2
  go_enter Try.func42, Try.ntmps42
  by_cases k0 : l - (u.name.size : Int) < 0
  · go_wp2
    go_ret
    exact ⟨_, rfl, by omega, by omega, by simp only [szSrc]; exact ⟨fun _ => by omega, fun _ => by omega⟩, below1 _ _⟩
  go_wp2_with fail
  refine (szStringS_any _ u.cols _ (w.alloc _) S (by omega) (by omega) (H2.out.below keepsStr (below1 w _) hS) (fun g hg => by rw [hsz]; have := hS g hg; omega) Z2.out).mono ?_
  rintro e w1 ⟨q1, rfl, a1, b1, L1', d1⟩
  have B1 := Seg.hid (chain (below1 w _) d1)
  have L1 := Seg.hid L1'
  clear d1 L1'
  by_cases k2 : q1 < 0
  · go_wp2
    go_ret
    exact ⟨_, rfl, by omega, by omega, by have m0 := L1.out.2 (by omega); simp only [szSrc]; exact ⟨fun _ => by omega, fun _ => by omega⟩, B1.out⟩
  go_wp2
  go_ret
  exact ⟨_, rfl, by omega, by omega, by have m0 := L1.out.1 (by omega); simp only [szSrc]; exact ⟨fun _ => by omega, fun _ => by omega⟩, B1.out⟩
set_option maxHeartbeats 1600000 in
theorem toSource_any (v : Value) (u : Src) (w : World) (S : Nat → Prop) (hv : SrcAt w S v u) (hS : ∀ g, S g → g < w.heap.size) (hf : szSrc u ≤ 1048576) :
    Calls Try.prog 45 #[v] w fun e w' => ∃ v', e = .returned v' ∧ SrcAt w' (seg w.heap.size w'.heap.size) v' u ∧ Below w.heap.size w w' := by
  obtain ⟨f, rfl, y0, y1, y2⟩ := hv
  try simp only [arrSrc]
  rw [show f 0 = _ from y0]
  clear y0
  rw [show f 1 = _ from y1]
  clear y1
  obtain ⟨A2, c2, g2⟩ := y2.form
  rw [g2] at y2 ⊢
  have H2 := Seg.hid y2
  clear y2 g2
  unfold szSrc at hf
  go_enter Try.func45, Try.ntmps45
  go_wp2_with fail
  refine (toStringS_any _ u.cols (((w.alloc _).alloc _).alloc _) S (H2.out.below keepsStr (below3 w _ _ _) hS) (fun g hg => by rw [hsz, hsz, hsz]; have := hS g hg; omega) (by omega)).mono ?_
  rintro e w1 ⟨v1, rfl, l1, b1⟩
  have B1 := Seg.hid (chain (below3 w _ _ _) b1)
  have Ta1 : Hid (w1.heap[w.heap.size]? = some (.cells #[.string u.name, .bool u.tab, .slice A2 u.cols.length c2] 76 (0, 0))) := (b1.block w.heap.size (by rw [hsz, hsz, hsz]; omega)).trans (at3z w _ _ _)
  have Tr1 : Hid (w1.heap[w.heap.size + 1]? = some (.cells #[.string ByteArray.empty, .bool false, .slice none 0 0] 81 (0, 0))) := (b1.block (w.heap.size + 1) (by rw [hsz, hsz, hsz]; omega)).trans (at3 w _ _ _)
  have To1 : Hid (w1.heap[w.heap.size + 1 + 1]? = some (.cells #[.string u.name, .bool u.tab, .slice none 0 0] 81 (0, 0))) := (b1.block (w.heap.size + 1 + 1) (by rw [hsz, hsz, hsz]; omega)).trans (Cells.at3' w _ _ _)
  have s1 : w.heap.size + 3 ≤ w1.heap.size := by have := b1.size; rw [hsz, hsz, hsz] at this; omega
  have M1 : Hid (StrsAt w1 (seg (w.heap.size + 3) w1.heap.size) v1 u.cols) := by
    rw [hsz, hsz, hsz] at l1
    exact l1
  obtain ⟨Y1, x1, r1⟩ := M1.out.form
  subst r1
  clear b1 l1
  have N11 := M1
  have po12 : (w1).cell? ⟨w.heap.size + 1 + 1, 2, none⟩ = some (.slice none 0 0) := cell_of_row (w1) _ 2 _ _ (0, 0) (To1.out)
  have pf12 : (w1).frozen? ⟨w.heap.size + 1 + 1, 2, none⟩ = false := frozen_of_row (w1) _ 2 _ _ (To1.out)
  have qo12 : Hid (((w1.setCell ⟨w.heap.size + 1 + 1, 2, none⟩ (.slice Y1 u.cols.length x1))).heap[w.heap.size + 1 + 1]? = some (.cells #[.string u.name, .bool u.tab, .slice Y1 u.cols.length x1] 81 (0, 0))) := heap_setCell_same (w1) (w.heap.size + 1 + 1) 2 _ _ (.slice Y1 u.cols.length x1) (To1.out)
  have Uo1 := Seg.hid (qo12.out)
  have Ur1 := Seg.hid ((heap_setCell_other (w1) ⟨w.heap.size + 1 + 1, 2, none⟩ (w.heap.size + 1) (.slice Y1 u.cols.length x1) (by simp)).trans (Tr1.out))
  have Ua1 := Seg.hid ((heap_setCell_other (w1) ⟨w.heap.size + 1 + 1, 2, none⟩ w.heap.size (.slice Y1 u.cols.length x1) (by simp; omega)).trans (Ta1.out))
  have D1 : Hid (Below w.heap.size w (w1.setCell ⟨w.heap.size + 1 + 1, 2, none⟩ (.slice Y1 u.cols.length x1))) := (B1.out).setCell (p := ⟨w.heap.size + 1 + 1, 2, none⟩) (by simp; omega) (.slice Y1 u.cols.length x1)
  have N11' : Hid (StrsAt (w1.setCell ⟨w.heap.size + 1 + 1, 2, none⟩ (.slice Y1 u.cols.length x1)) (seg (w.heap.size + 3) w1.heap.size) (.slice Y1 u.cols.length x1) u.cols) := N11.out.keep keepsStr (fun g hg => by have := hg.1; rw [heap_setCell_other _ _ _ _ (by show _ ≠ w.heap.size + 1 + 1; omega)])
  obtain ⟨fx, hfx⟩ : ∃ fx : Nat → Value, fx = (fun q => if q = 0 then .string u.name else if q = 1 then .bool u.tab else .slice Y1 u.cols.length x1) := ⟨_, rfl⟩
  have HX := Seg.hid hfx
  have Uz : Hid ((w1.setCell ⟨w.heap.size + 1 + 1, 2, none⟩ (.slice Y1 u.cols.length x1)).heap[w.heap.size + 1 + 1]? = some (.cells (arrSrc fx) 81 (0, 0))) := by
    show _ = _
    rw [hfx]
    exact Uo1.out
  clear hfx
  have H5a := Cells.there_of Ur1.out
  have H5 : Hid ((w1.setCell ⟨w.heap.size + 1 + 1, 2, none⟩ (.slice Y1 u.cols.length x1)).there (w.heap.size + 1) 0 (arrSrc fx).size) := H5a
  clear H5a
  have H4 := Seg.hid (Cells.whole (vs := arrSrc fx) Ur1.out rfl)
  have B9 := Seg.hid (Cells.below_setCells (g := w.heap.size + 1) (by omega) (arrSrc fx).toList 0 _ _ D1.out)
  have F1 : Hid (StrsAt ((w1.setCell ⟨w.heap.size + 1 + 1, 2, none⟩ (.slice Y1 u.cols.length x1)).setCells (w.heap.size + 1) 0 (arrSrc fx).toList) (seg w.heap.size ((w1.setCell ⟨w.heap.size + 1 + 1, 2, none⟩ (.slice Y1 u.cols.length x1)).setCells (w.heap.size + 1) 0 (arrSrc fx).toList).heap.size) (fx 2) u.cols) := by
    show StrsAt _ _ _ _
    rw [show fx 2 = .slice Y1 u.cols.length x1 by rw [HX.out]; rfl]
    refine (N11'.out.keep keepsStr (fun g hg => ?_)).mono growsStr (fun g hg => ⟨by have := hg.1; omega, ?_⟩)
    · have := hg.1
      rw [Cells.heap_setCells_other _ _ (by omega)]
    · rw [Cells.size_setCells]
      have := hg.2
      simpa using this
  have EX : Hid (ESrc ((w1.setCell ⟨w.heap.size + 1 + 1, 2, none⟩ (.slice Y1 u.cols.length x1)).setCells (w.heap.size + 1) 0 (arrSrc fx).toList) (seg w.heap.size ((w1.setCell ⟨w.heap.size + 1 + 1, 2, none⟩ (.slice Y1 u.cols.length x1)).setCells (w.heap.size + 1) 0 (arrSrc fx).toList).heap.size) fx u) := ⟨by rw [HX.out]; rfl, by rw [HX.out]; rfl, F1.out⟩
  have ON := Seg.hid (oneSrc EX.out)
  clear Ta1 Tr1 To1 Ua1 M1
  go_upto_region 5 with fail
  clear po12 pf12
  generalize (w1.setCell ⟨w.heap.size + 1 + 1, 2, none⟩ (.slice Y1 u.cols.length x1)) = wz at *
  go_wp2_with (first | (refine wpList_load_row rfl 81 _ rfl (w.heap.size + 1 + 1) rfl _ _ _ _ Uz.out Try.underlying81 rfl infoSrc ?_) | (refine wpList_store_mid rfl 81 _ _ rfl (w.heap.size + 1) 0 (arrSrc fx) rfl rfl H5.out infoSrc ON.out ?_))
  exact bodyPost_ret (v := .agg (arrSrc fx)) (results_cell_row rfl _ _ (w.heap.size + 1) _ _ _ _ rfl H4.out Try.underlying81 rfl infoSrc) rfl ⟨_, rfl, ⟨fx, rfl, EX.out⟩, B9.out⟩
set_option maxHeartbeats 1600000 in
theorem eqSource_any (v v' : Value) (u : Src) (w : World) (S S' : Nat → Prop) (hv : SrcAt w S v u) (hv' : SrcAt w S' v' u) (hS : ∀ g, S g → g < w.heap.size) (hS' : ∀ g, S' g → g < w.heap.size) :
    Calls Try.prog 48 #[v, v'] w fun e w' => e = .returned (.bool true) ∧ Below w.heap.size w w' := by
  obtain ⟨f, rfl, y0, y1, y2⟩ := hv
  obtain ⟨f', rfl, y0', y1', y2'⟩ := hv'
  try simp only [arrSrc]
  rw [show f 0 = _ from y0]
  clear y0
  rw [show f 1 = _ from y1]
  clear y1
  obtain ⟨A2, c2, g2⟩ := y2.form
  rw [g2] at y2 ⊢
  have H2 := Seg.hid y2
  clear y2 g2
  try simp only [arrSrc]
  rw [show f' 0 = _ from y0']
  clear y0'
  rw [show f' 1 = _ from y1']
  clear y1'
  obtain ⟨A2', c2', g2'⟩ := y2'.form
  rw [g2'] at y2' ⊢
  have H2' := Seg.hid y2'
  clear y2' g2'
  go_enter Try.func48, Try.ntmps48
  go_wp2_with fail
  refine (eqStringS_any _ _ u.cols ((w.alloc _).alloc _) S S' (H2.out.below keepsStr (below2 w _ _) hS) (H2'.out.below keepsStr (below2 w _ _) hS') (fun g hg => by rw [hsz, hsz]; have := hS g hg; omega) (fun g hg => by rw [hsz, hsz]; have := hS' g hg; omega)).mono ?_
  rintro e w1 ⟨rfl, b1⟩
  have B1 := Seg.hid (chain (below2 w _ _) b1)
  clear b1
  go_wp2
  go_ret
  exact ⟨rfl, B1.out⟩
end Go.Proofs.Ytekhidflncfeiaa.Ls
