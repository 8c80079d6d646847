/- Record: how it lies in memory; what the law's measure and copier answer. -/
import Derived.Test.YtdhicmbfknagjaaTHds
namespace Go.Proofs.Ytdhicmbfknagjaa.Ls
set_option maxRecDepth 8000
open Go.RowKit
open Recs
set_option linter.unusedVariables false
def ERec : Elt Rec := fun w S f u => f 0 = .int .i64 u.time ∧ f 1 = .bool u.keyed ∧ f 2 = .string u.key ∧ f 3 = .bool u.gone ∧ f 4 = .string u.val ∧ LAt 2 EHd w S (f 5) u.heads
theorem keepsRec : Keeps 6 ERec := fun w w' S f f' t h hk hf => by
  obtain ⟨h0, h1, h2, h3, h4, h5⟩ := h
  exact ⟨by rw [hf 0 (by omega)]; exact h0, by rw [hf 1 (by omega)]; exact h1, by rw [hf 2 (by omega)]; exact h2, by rw [hf 3 (by omega)]; exact h3, by rw [hf 4 (by omega)]; exact h4, by rw [hf 5 (by omega)]; exact h5.keep keepsHd hk⟩
theorem growsRec : Grows ERec := fun w S S' f t h hs => by
  obtain ⟨h0, h1, h2, h3, h4, h5⟩ := h
  exact ⟨h0, h1, h2, h3, h4, h5.mono growsHd hs⟩
def arrRec (f : Nat → Value) : Array Value := #[f 0, f 1, f 2, f 3, f 4, f 5]
theorem oneRec {w : World} {S : Nat → Prop} {f : Nat → Value} {u : Rec} (h : ERec w S f u) : (arrRec f).all (·.oneCell') = true := by
  obtain ⟨h0, h1, h2, h3, h4, h5⟩ := h
  have o0 : (f 0).oneCell' = true := by rw [h0]; rfl
  have o1 : (f 1).oneCell' = true := by rw [h1]; rfl
  have o2 : (f 2).oneCell' = true := by rw [h2]; rfl
  have o3 : (f 3).oneCell' = true := by rw [h3]; rfl
  have o4 : (f 4).oneCell' = true := by rw [h4]; rfl
  have o5 : (f 5).oneCell' = true := h5.one
  simp [arrRec, o0, o1, o2, o3, o4, o5]
def RecAt (w : World) (S : Nat → Prop) (v : Value) (u : Rec) : Prop := ∃ f, v = .agg (arrRec f) ∧ ERec w S f u
abbrev RecsAt := LAt 6 ERec
theorem RecAt.keep {w w' : World} {S : Nat → Prop} {v : Value} {u : Rec} (h : RecAt w S v u) (hk : ∀ g, S g → w'.heap[g]? = w.heap[g]?) : RecAt w' S v u := by
  obtain ⟨f, h1, h2⟩ := h
  exact ⟨f, h1, keepsRec _ _ _ _ _ _ h2 hk (fun _ _ => rfl)⟩
theorem RecAt.mono {w : World} {S S' : Nat → Prop} {v : Value} {u : Rec} (h : RecAt w S v u) (hs : ∀ g, S g → S' g) : RecAt w S' v u := by
  obtain ⟨f, h1, h2⟩ := h
  exact ⟨f, h1, growsRec _ _ _ _ _ h2 hs⟩
theorem RecAt.below {w w' : World} {B : Nat} {S : Nat → Prop} {v : Value} {u : Rec} (h : RecAt w S v u) (hb : Below B w w') (hs : ∀ g, S g → g < B) : RecAt w' S v u := h.keep fun g hg => hb.block g (hs g hg)
def szRec (u : Rec) : Nat := u.key.size + u.val.size + szL szHd (u.heads)
def FineRec (u : Rec) : Prop := I64 u.time ∧ True ∧ u.key.size ≤ maxLen ∧ True ∧ u.val.size ≤ maxLen ∧ FineL FineHd u.heads
theorem infoRec : (Try.prog.info? 160).map (·.size) = some 6 := by kernel_rfl
theorem infoLRec : (Try.prog.info? 210).map (·.size) = some 6 := by kernel_rfl
theorem infoZRec : (Try.prog.info? 160).map (fun i => (i.zero, i.size, i.bytes)) = some (some (.agg #[.int .i64 0, .bool false, .string ByteArray.empty, .bool false, .string ByteArray.empty, .slice none 0 0]), 6, 80) := by kernel_rfl
set_option maxHeartbeats 800000 in
theorem szRecord_any (v : Value) (u : Rec) (l : Int) (w : World) (S : Nat → Prop) (h3 : -1 ≤ l) (h4 : l ≤ 1048576) (hv : RecAt w S v u) (hS : ∀ g, S g → g < w.heap.size) (hf : FineRec u) :
    Calls Try.prog 149 #[v, .int .i64 l] w fun e w' => ∃ q, e = .returned (.int .i64 q) ∧ -1 ≤ q ∧ q ≤ l ∧ Lf l (szRec u) q ∧ Below w.heap.size w w' := by
  obtain ⟨f, rfl, y0, y1, y2, y3, y4, y5⟩ := hv
  try simp only [arrRec]
  rw [show f 0 = _ from y0]
  clear y0
  rw [show f 1 = _ from y1]
  clear y1
  rw [show f 2 = _ from y2]
  clear y2
  rw [show f 3 = _ from y3]
  clear y3
  rw [show f 4 = _ from y4]
  clear y4
  obtain ⟨A5, c5, g5⟩ := y5.form
  rw [g5] at y5 ⊢
  have H5 := Seg.hid y5
  clear y5 g5
  obtain ⟨z0, z1, z2, z3, z4, z5⟩ := hf
  unfold maxLen at z2
  unfold maxLen at z4
  have Z5 := Seg.hid z5
  clear z0 z1 z3 z5
  go_enter Try.func149, Try.ntmps149
  by_cases k2 : l - (u.key.size : Int) < 0
  · go_wp2
    go_ret
    exact ⟨_, rfl, by omega, by omega, by simp only [szRec]; exact ⟨fun _ => by omega, fun _ => by omega⟩, below1 _ _⟩
  by_cases k4 : (l - (u.key.size : Int)) - (u.val.size : Int) < 0
  · go_wp2
    go_ret
    exact ⟨_, rfl, by omega, by omega, by simp only [szRec]; exact ⟨fun _ => by omega, fun _ => by omega⟩, below1 _ _⟩
  go_wp2_with fail
  refine (szHeadS_any _ u.heads _ (w.alloc _) S (by omega) (by omega) (H5.out.below keepsHd (below1 w _) hS) (fun g hg => by rw [hsz]; have := hS g hg; omega) Z5.out).mono ?_
  rintro e w1 ⟨q1, rfl, a1, b1, L1', d1⟩
  have B1 := Seg.hid (chain (below1 w _) d1)
  have L1 := Seg.hid L1'
  clear d1 L1'
  by_cases k5 : q1 < 0
  · go_wp2
    go_ret
    exact ⟨_, rfl, by omega, by omega, by have m0 := L1.out.2 (by omega); simp only [szRec]; exact ⟨fun _ => by omega, fun _ => by omega⟩, B1.out⟩
  go_wp2
  go_ret
  exact ⟨_, rfl, by omega, by omega, by have m0 := L1.out.1 (by omega); simp only [szRec]; exact ⟨fun _ => by omega, fun _ => by omega⟩, B1.out⟩
set_option maxHeartbeats 1600000 in
theorem toRecord_any (v : Value) (u : Rec) (w : World) (S : Nat → Prop) (hv : RecAt w S v u) (hS : ∀ g, S g → g < w.heap.size) (hf : szRec u ≤ 1048576) :
    Calls Try.prog 150 #[v] w fun e w' => ∃ v', e = .returned v' ∧ RecAt w' (seg w.heap.size w'.heap.size) v' u ∧ Below w.heap.size w w' := by
  obtain ⟨f, rfl, y0, y1, y2, y3, y4, y5⟩ := hv
  try simp only [arrRec]
  rw [show f 0 = _ from y0]
  clear y0
  rw [show f 1 = _ from y1]
  clear y1
  rw [show f 2 = _ from y2]
  clear y2
  rw [show f 3 = _ from y3]
  clear y3
  rw [show f 4 = _ from y4]
  clear y4
  obtain ⟨A5, c5, g5⟩ := y5.form
  rw [g5] at y5 ⊢
  have H5 := Seg.hid y5
  clear y5 g5
  unfold szRec at hf
  go_enter Try.func150, Try.ntmps150
  go_wp2_with fail
  refine (toHeadS_any _ u.heads (((w.alloc _).alloc _).alloc _) S (H5.out.below keepsHd (below3 w _ _ _) hS) (fun g hg => by rw [hsz, hsz, hsz]; have := hS g hg; omega) (by omega)).mono ?_
  rintro e w1 ⟨v1, rfl, l1, b1⟩
  have B1 := Seg.hid (chain (below3 w _ _ _) b1)
  have Ta1 : Hid (w1.heap[w.heap.size]? = some (.cells #[.int .i64 u.time, .bool u.keyed, .string u.key, .bool u.gone, .string u.val, .slice A5 u.heads.length c5] 210 (0, 0))) := (b1.block w.heap.size (by rw [hsz, hsz, hsz]; omega)).trans (at3z w _ _ _)
  have Tr1 : Hid (w1.heap[w.heap.size + 1]? = some (.cells #[.int .i64 0, .bool false, .string ByteArray.empty, .bool false, .string ByteArray.empty, .slice none 0 0] 160 (0, 0))) := (b1.block (w.heap.size + 1) (by rw [hsz, hsz, hsz]; omega)).trans (at3 w _ _ _)
  have To1 : Hid (w1.heap[w.heap.size + 1 + 1]? = some (.cells #[.int .i64 u.time, .bool u.keyed, .string u.key, .bool u.gone, .string u.val, .slice none 0 0] 160 (0, 0))) := (b1.block (w.heap.size + 1 + 1) (by rw [hsz, hsz, hsz]; omega)).trans (Cells.at3' w _ _ _)
  have s1 : w.heap.size + 3 ≤ w1.heap.size := by have := b1.size; rw [hsz, hsz, hsz] at this; omega
  have M1 : Hid (LAt 2 EHd w1 (seg (w.heap.size + 3) w1.heap.size) v1 u.heads) := by
    rw [hsz, hsz, hsz] at l1
    exact l1
  obtain ⟨Y1, x1, r1⟩ := M1.out.form
  subst r1
  clear b1 l1
  have N11 := M1
  have po15 : (w1).cell? ⟨w.heap.size + 1 + 1, 5, none⟩ = some (.slice none 0 0) := cell_of_row (w1) _ 5 _ _ (0, 0) (To1.out)
  have pf15 : (w1).frozen? ⟨w.heap.size + 1 + 1, 5, none⟩ = false := frozen_of_row (w1) _ 5 _ _ (To1.out)
  have qo15 : Hid (((w1.setCell ⟨w.heap.size + 1 + 1, 5, none⟩ (.slice Y1 u.heads.length x1))).heap[w.heap.size + 1 + 1]? = some (.cells #[.int .i64 u.time, .bool u.keyed, .string u.key, .bool u.gone, .string u.val, .slice Y1 u.heads.length x1] 160 (0, 0))) := heap_setCell_same (w1) (w.heap.size + 1 + 1) 5 _ _ (.slice Y1 u.heads.length x1) (To1.out)
  have Uo1 := Seg.hid (qo15.out)
  have Ur1 := Seg.hid ((heap_setCell_other (w1) ⟨w.heap.size + 1 + 1, 5, none⟩ (w.heap.size + 1) (.slice Y1 u.heads.length x1) (by simp)).trans (Tr1.out))
  have Ua1 := Seg.hid ((heap_setCell_other (w1) ⟨w.heap.size + 1 + 1, 5, none⟩ w.heap.size (.slice Y1 u.heads.length x1) (by simp; omega)).trans (Ta1.out))
  have D1 : Hid (Below w.heap.size w (w1.setCell ⟨w.heap.size + 1 + 1, 5, none⟩ (.slice Y1 u.heads.length x1))) := (B1.out).setCell (p := ⟨w.heap.size + 1 + 1, 5, none⟩) (by simp; omega) (.slice Y1 u.heads.length x1)
  have N11' : Hid (LAt 2 EHd (w1.setCell ⟨w.heap.size + 1 + 1, 5, none⟩ (.slice Y1 u.heads.length x1)) (seg (w.heap.size + 3) w1.heap.size) (.slice Y1 u.heads.length x1) u.heads) := N11.out.keep keepsHd (fun g hg => by have := hg.1; rw [heap_setCell_other _ _ _ _ (by show _ ≠ w.heap.size + 1 + 1; omega)])
  obtain ⟨fx, hfx⟩ : ∃ fx : Nat → Value, fx = (fun q => if q = 0 then .int .i64 u.time else if q = 1 then .bool u.keyed else if q = 2 then .string u.key else if q = 3 then .bool u.gone else if q = 4 then .string u.val else .slice Y1 u.heads.length x1) := ⟨_, rfl⟩
  have HX := Seg.hid hfx
  have Uz : Hid ((w1.setCell ⟨w.heap.size + 1 + 1, 5, none⟩ (.slice Y1 u.heads.length x1)).heap[w.heap.size + 1 + 1]? = some (.cells (arrRec fx) 160 (0, 0))) := by
    show _ = _
    rw [hfx]
    exact Uo1.out
  clear hfx
  have H5a := Cells.there_of Ur1.out
  have H5 : Hid ((w1.setCell ⟨w.heap.size + 1 + 1, 5, none⟩ (.slice Y1 u.heads.length x1)).there (w.heap.size + 1) 0 (arrRec fx).size) := H5a
  clear H5a
  have H4 := Seg.hid (Cells.whole (vs := arrRec fx) Ur1.out rfl)
  have B9 := Seg.hid (Cells.below_setCells (g := w.heap.size + 1) (by omega) (arrRec fx).toList 0 _ _ D1.out)
  have F1 : Hid (LAt 2 EHd ((w1.setCell ⟨w.heap.size + 1 + 1, 5, none⟩ (.slice Y1 u.heads.length x1)).setCells (w.heap.size + 1) 0 (arrRec fx).toList) (seg w.heap.size ((w1.setCell ⟨w.heap.size + 1 + 1, 5, none⟩ (.slice Y1 u.heads.length x1)).setCells (w.heap.size + 1) 0 (arrRec fx).toList).heap.size) (fx 5) u.heads) := by
    show LAt 2 EHd _ _ _ _
    rw [show fx 5 = .slice Y1 u.heads.length x1 by rw [HX.out]; rfl]
    refine (N11'.out.keep keepsHd (fun g hg => ?_)).mono growsHd (fun g hg => ⟨by have := hg.1; omega, ?_⟩)
    · have := hg.1
      rw [Cells.heap_setCells_other _ _ (by omega)]
    · rw [Cells.size_setCells]
      have := hg.2
      simpa using this
  have EX : Hid (ERec ((w1.setCell ⟨w.heap.size + 1 + 1, 5, none⟩ (.slice Y1 u.heads.length x1)).setCells (w.heap.size + 1) 0 (arrRec fx).toList) (seg w.heap.size ((w1.setCell ⟨w.heap.size + 1 + 1, 5, none⟩ (.slice Y1 u.heads.length x1)).setCells (w.heap.size + 1) 0 (arrRec fx).toList).heap.size) fx u) := ⟨by rw [HX.out]; rfl, by rw [HX.out]; rfl, by rw [HX.out]; rfl, by rw [HX.out]; rfl, by rw [HX.out]; rfl, F1.out⟩
  have ON := Seg.hid (oneRec EX.out)
  clear Ta1 Tr1 To1 Ua1 M1
  go_upto_region 8 with fail
  clear po15 pf15
  generalize (w1.setCell ⟨w.heap.size + 1 + 1, 5, none⟩ (.slice Y1 u.heads.length x1)) = wz at *
  go_wp2_with (first | (refine wpList_load_row rfl 160 _ rfl (w.heap.size + 1 + 1) rfl _ _ _ _ Uz.out Try.underlying160 rfl infoRec ?_) | (refine wpList_store_mid rfl 160 _ _ rfl (w.heap.size + 1) 0 (arrRec fx) rfl rfl H5.out infoRec ON.out ?_))
  exact bodyPost_ret (v := .agg (arrRec fx)) (results_cell_row rfl _ _ (w.heap.size + 1) _ _ _ _ rfl H4.out Try.underlying160 rfl infoRec) rfl ⟨_, rfl, ⟨fx, rfl, EX.out⟩, B9.out⟩
set_option maxHeartbeats 1600000 in
theorem eqRecord_any (v v' : Value) (u : Rec) (w : World) (S S' : Nat → Prop) (hv : RecAt w S v u) (hv' : RecAt w S' v' u) (hS : ∀ g, S g → g < w.heap.size) (hS' : ∀ g, S' g → g < w.heap.size) :
    Calls Try.prog 151 #[v, v'] w fun e w' => e = .returned (.bool true) ∧ Below w.heap.size w w' := by
  obtain ⟨f, rfl, y0, y1, y2, y3, y4, y5⟩ := hv
  obtain ⟨f', rfl, y0', y1', y2', y3', y4', y5'⟩ := hv'
  try simp only [arrRec]
  rw [show f 0 = _ from y0]
  clear y0
  rw [show f 1 = _ from y1]
  clear y1
  rw [show f 2 = _ from y2]
  clear y2
  rw [show f 3 = _ from y3]
  clear y3
  rw [show f 4 = _ from y4]
  clear y4
  obtain ⟨A5, c5, g5⟩ := y5.form
  rw [g5] at y5 ⊢
  have H5 := Seg.hid y5
  clear y5 g5
  try simp only [arrRec]
  rw [show f' 0 = _ from y0']
  clear y0'
  rw [show f' 1 = _ from y1']
  clear y1'
  rw [show f' 2 = _ from y2']
  clear y2'
  rw [show f' 3 = _ from y3']
  clear y3'
  rw [show f' 4 = _ from y4']
  clear y4'
  obtain ⟨A5', c5', g5'⟩ := y5'.form
  rw [g5'] at y5' ⊢
  have H5' := Seg.hid y5'
  clear y5' g5'
  go_enter Try.func151, Try.ntmps151
  go_wp2_with fail
  refine (eqHeadS_any _ _ u.heads ((w.alloc _).alloc _) S S' (H5.out.below keepsHd (below2 w _ _) hS) (H5'.out.below keepsHd (below2 w _ _) hS') (fun g hg => by rw [hsz, hsz]; have := hS g hg; omega) (fun g hg => by rw [hsz, hsz]; have := hS' g hg; omega)).mono ?_
  rintro e w1 ⟨rfl, b1⟩
  have B1 := Seg.hid (chain (below2 w _ _) b1)
  clear b1
  go_wp2
  go_ret
  exact ⟨rfl, B1.out⟩
end Go.Proofs.Ytdhicmbfknagjaa.Ls
