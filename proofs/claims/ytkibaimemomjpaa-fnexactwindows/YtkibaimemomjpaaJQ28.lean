/- The program's way to ask whether steps are an expression: plain; Get: how it lies in memory; what the law's measure and copier answer. -/
import Derived.Test.YtkibaimemomjpaaJQ12
namespace Go.Proofs.Ytkibaimemomjpaa.XsP
set_option maxRecDepth 8000
open Go.RowKit
open Ls Lp QtP
set_option linter.unusedVariables false
def ok3 (op nu : Int) (nm : ByteArray) : Bool := if op = 1 then (inR 0 nu 1000000000000000 && em nm) else if op = 2 then (decide (nu = 0) && Nm.nameOk nm) else (inR 3 op 12 && (decide (nu = 0) && em nm))
def tk (op : Int) : Int := if op = 1 then 0 else if op = 2 then 0 else if op = 12 then 1 else 2
theorem tk_in (op : Int) : 0 ≤ tk op ∧ tk op ≤ 2 := by unfold tk; repeat' split <;> omega
theorem step_eq (s : Stp) (h : Int) (hh : 0 ≤ h) : stepH s h = if (ok3 s.op s.num s.name && decide (tk s.op ≤ h)) = true then some (h + (1 - tk s.op)) else none := by
  by_cases h1 : s.op = 1
  · rw [stepH, if_pos h1, ok3, if_pos h1, tk, if_pos h1]
    cases hb : (inR 0 s.num 1000000000000000 && em s.name) <;> simp [hh]
  by_cases h2 : s.op = 2
  · rw [stepH, if_neg h1, if_pos h2, ok3, if_neg h1, if_pos h2, tk, if_neg h1, if_pos h2]
    cases hb : Nm.nameOk s.name <;> cases hc : decide (s.num = 0) <;> simp [hh]
  cases h3 : inR 3 s.op 12 with
  | false => rw [stepH, if_neg h1, if_neg h2, h3, ok3, if_neg h1, if_neg h2, h3]; rfl
  | true =>
    rw [stepH, if_neg h1, if_neg h2, h3, ok3, if_neg h1, if_neg h2, h3, tk, if_neg h1, if_neg h2]
    by_cases h12 : s.op = 12
    · cases he : em s.name <;> cases hc : decide (s.num = 0) <;> by_cases hz : 1 ≤ h <;> simp [h12, hz]
    · cases he : em s.name <;> cases hc : decide (s.num = 0) <;> by_cases hz : 2 ≤ h <;> simp [h12, hz] <;> omega
end Go.Proofs.Ytkibaimemomjpaa.XsP
namespace Go.Proofs.Ytkibaimemomjpaa.Ls
set_option maxRecDepth 8000
open Go.RowKit
open Recs
set_option linter.unusedVariables false
structure Gqt where
  kind : Int
  steps : List Stp
  nm : ByteArray
  deriving Inhabited
def EGqt : Elt Gqt := fun w S f u => f 0 = .int .i64 u.kind ∧ LAt 3 EStp w S (f 1) u.steps ∧ f 2 = .string u.nm
theorem keepsGqt : Keeps 3 EGqt := fun w w' S f f' t h hk hf => by
  obtain ⟨h0, h1, h2⟩ := h
  exact ⟨by rw [hf 0 (by omega)]; exact h0, by rw [hf 1 (by omega)]; exact h1.keep keepsStp hk, by rw [hf 2 (by omega)]; exact h2⟩
theorem growsGqt : Grows EGqt := fun w S S' f t h hs => by
  obtain ⟨h0, h1, h2⟩ := h
  exact ⟨h0, h1.mono growsStp hs, h2⟩
def arrGqt (f : Nat → Value) : Array Value := #[f 0, f 1, f 2]
theorem oneGqt {w : World} {S : Nat → Prop} {f : Nat → Value} {u : Gqt} (h : EGqt w S f u) : (arrGqt f).all (·.oneCell') = true := by
  obtain ⟨h0, h1, h2⟩ := h
  have o0 : (f 0).oneCell' = true := by rw [h0]; rfl
  have o1 : (f 1).oneCell' = true := h1.one
  have o2 : (f 2).oneCell' = true := by rw [h2]; rfl
  simp [arrGqt, o0, o1, o2]
def GqtAt (w : World) (S : Nat → Prop) (v : Value) (u : Gqt) : Prop := ∃ f, v = .agg (arrGqt f) ∧ EGqt w S f u
abbrev GqtsAt := LAt 3 EGqt
theorem GqtAt.keep {w w' : World} {S : Nat → Prop} {v : Value} {u : Gqt} (h : GqtAt w S v u) (hk : ∀ g, S g → w'.heap[g]? = w.heap[g]?) : GqtAt w' S v u := by
  obtain ⟨f, h1, h2⟩ := h
  exact ⟨f, h1, keepsGqt _ _ _ _ _ _ h2 hk (fun _ _ => rfl)⟩
theorem GqtAt.mono {w : World} {S S' : Nat → Prop} {v : Value} {u : Gqt} (h : GqtAt w S v u) (hs : ∀ g, S g → S' g) : GqtAt w S' v u := by
  obtain ⟨f, h1, h2⟩ := h
  exact ⟨f, h1, growsGqt _ _ _ _ _ h2 hs⟩
theorem GqtAt.below {w w' : World} {B : Nat} {S : Nat → Prop} {v : Value} {u : Gqt} (h : GqtAt w S v u) (hb : Below B w w') (hs : ∀ g, S g → g < B) : GqtAt w' S v u := h.keep fun g hg => hb.block g (hs g hg)
def szGqt (u : Gqt) : Nat := szL szStp (u.steps) + u.nm.size
def FineGqt (u : Gqt) : Prop := I64 u.kind ∧ FineL FineStp u.steps ∧ u.nm.size ≤ maxLen
theorem infoGqt : (Try.prog.info? 117).map (·.size) = some 3 := by kernel_rfl
theorem infoLGqt : (Try.prog.info? 112).map (·.size) = some 3 := by kernel_rfl
theorem infoZGqt : (Try.prog.info? 117).map (fun i => (i.zero, i.size, i.bytes)) = some (some (.agg #[.int .i64 0, .slice none 0 0, .string ByteArray.empty]), 3, 48) := by kernel_rfl
set_option maxHeartbeats 800000 in
theorem szGet_any (v : Value) (u : Gqt) (l : Int) (w : World) (S : Nat → Prop) (h3 : -1 ≤ l) (h4 : l ≤ 1048576) (hv : GqtAt w S v u) (hS : ∀ g, S g → g < w.heap.size) (hf : FineGqt u) :
    Calls Try.prog 70 #[v, .int .i64 l] w fun e w' => ∃ q, e = .returned (.int .i64 q) ∧ -1 ≤ q ∧ q ≤ l ∧ Lf l (szGqt u) q ∧ Below w.heap.size w w' := by
  obtain ⟨f, rfl, y0, y1, y2⟩ := hv
  try simp only [arrGqt]
  rw [show f 0 = _ from y0]
  clear y0
  obtain ⟨A1, c1, g1⟩ := y1.form
  rw [g1] at y1 ⊢
  have H1 := Seg.hid y1
  clear y1 g1
  rw [show f 2 = _ from y2]
  clear y2
  obtain ⟨z0, z1, z2⟩ := hf
  have Z1 := Seg.hid z1
  unfold maxLen at z2
  clear z0 z1
  go_enter Try.func70, Try.ntmps70
  go_wp2_with fail
  refine (szStepS_any _ u.steps _ (w.alloc _) S (by omega) (by omega) (H1.out.below keepsStp (below1 w _) hS) (fun g hg => by rw [hsz]; have := hS g hg; omega) Z1.out).mono ?_
  rintro e w1 ⟨q1, rfl, a1, b1, L1', d1⟩
  have B1 := Seg.hid (chain (below1 w _) d1)
  have L1 := Seg.hid L1'
  have T1 : Hid (w1.heap[w.heap.size]? = some (.cells #[.int .i64 u.kind, .slice A1 u.steps.length c1, .string u.nm] 112 (0, 0))) := (d1.block w.heap.size (by rw [hsz]; omega)).trans (heap_alloc_new _ _)
  have s1 : w.heap.size < w1.heap.size := (Array.getElem?_eq_some_iff.1 T1.out).1
  have p12 : w1.cell? ⟨w.heap.size, 2, none⟩ = some (.string u.nm) := cell_of_row w1 _ 2 _ _ (0, 0) T1.out
  clear d1 L1'
  by_cases k1 : q1 < 0
  · go_wp2
    go_ret
    exact ⟨_, rfl, by omega, by omega, by have m0 := L1.out.2 (by omega); simp only [szGqt]; exact ⟨fun _ => by omega, fun _ => by omega⟩, B1.out⟩
  by_cases k2 : q1 - (u.nm.size : Int) < 0
  · go_wp2
    go_ret
    exact ⟨_, rfl, by omega, by omega, by have m0 := L1.out.1 (by omega); simp only [szGqt]; exact ⟨fun _ => by omega, fun _ => by omega⟩, B1.out⟩
  go_wp2
  go_ret
  exact ⟨_, rfl, by omega, by omega, by have m0 := L1.out.1 (by omega); simp only [szGqt]; exact ⟨fun _ => by omega, fun _ => by omega⟩, B1.out⟩
set_option maxHeartbeats 1600000 in
theorem toGet_any (v : Value) (u : Gqt) (w : World) (S : Nat → Prop) (hv : GqtAt w S v u) (hS : ∀ g, S g → g < w.heap.size) (hf : szGqt u ≤ 1048576) :
    Calls Try.prog 75 #[v] w fun e w' => ∃ v', e = .returned v' ∧ GqtAt w' (seg w.heap.size w'.heap.size) v' u ∧ Below w.heap.size w w' := by
  obtain ⟨f, rfl, y0, y1, y2⟩ := hv
  try simp only [arrGqt]
  rw [show f 0 = _ from y0]
  clear y0
  obtain ⟨A1, c1, g1⟩ := y1.form
  rw [g1] at y1 ⊢
  have H1 := Seg.hid y1
  clear y1 g1
  rw [show f 2 = _ from y2]
  clear y2
  unfold szGqt at hf
  go_enter Try.func75, Try.ntmps75
  go_wp2_with fail
  refine (toStepS_any _ u.steps (((w.alloc _).alloc _).alloc _) S (H1.out.below keepsStp (below3 w _ _ _) hS) (fun g hg => by rw [hsz, hsz, hsz]; have := hS g hg; omega) (by omega)).mono ?_
  rintro e w1 ⟨v1, rfl, l1, b1⟩
  have B1 := Seg.hid (chain (below3 w _ _ _) b1)
  have Ta1 : Hid (w1.heap[w.heap.size]? = some (.cells #[.int .i64 u.kind, .slice A1 u.steps.length c1, .string u.nm] 112 (0, 0))) := (b1.block w.heap.size (by rw [hsz, hsz, hsz]; omega)).trans (at3z w _ _ _)
  have Tr1 : Hid (w1.heap[w.heap.size + 1]? = some (.cells #[.int .i64 0, .slice none 0 0, .string ByteArray.empty] 117 (0, 0))) := (b1.block (w.heap.size + 1) (by rw [hsz, hsz, hsz]; omega)).trans (at3 w _ _ _)
  have To1 : Hid (w1.heap[w.heap.size + 1 + 1]? = some (.cells #[.int .i64 u.kind, .slice none 0 0, .string ByteArray.empty] 117 (0, 0))) := (b1.block (w.heap.size + 1 + 1) (by rw [hsz, hsz, hsz]; omega)).trans (Cells.at3' w _ _ _)
  have s1 : w.heap.size + 3 ≤ w1.heap.size := by have := b1.size; rw [hsz, hsz, hsz] at this; omega
  have M1 : Hid (LAt 3 EStp w1 (seg (w.heap.size + 3) w1.heap.size) v1 u.steps) := by
    rw [hsz, hsz, hsz] at l1
    exact l1
  obtain ⟨Y1, x1, r1⟩ := M1.out.form
  subst r1
  clear b1 l1
  have N11 := M1
  have pa12 : w1.cell? ⟨w.heap.size, 2, none⟩ = some (.string u.nm) := cell_of_row w1 _ 2 _ _ (0, 0) Ta1.out
  have po11 : (w1).cell? ⟨w.heap.size + 1 + 1, 1, none⟩ = some (.slice none 0 0) := cell_of_row (w1) _ 1 _ _ (0, 0) (To1.out)
  have pf11 : (w1).frozen? ⟨w.heap.size + 1 + 1, 1, none⟩ = false := frozen_of_row (w1) _ 1 _ _ (To1.out)
  have qo11 : Hid (((w1.setCell ⟨w.heap.size + 1 + 1, 1, none⟩ (.slice Y1 u.steps.length x1))).heap[w.heap.size + 1 + 1]? = some (.cells #[.int .i64 u.kind, .slice Y1 u.steps.length x1, .string ByteArray.empty] 117 (0, 0))) := heap_setCell_same (w1) (w.heap.size + 1 + 1) 1 _ _ (.slice Y1 u.steps.length x1) (To1.out)
  have po12 : ((w1.setCell ⟨w.heap.size + 1 + 1, 1, none⟩ (.slice Y1 u.steps.length x1))).cell? ⟨w.heap.size + 1 + 1, 2, none⟩ = some (.string ByteArray.empty) := cell_of_row ((w1.setCell ⟨w.heap.size + 1 + 1, 1, none⟩ (.slice Y1 u.steps.length x1))) _ 2 _ _ (0, 0) (qo11.out)
  have pf12 : ((w1.setCell ⟨w.heap.size + 1 + 1, 1, none⟩ (.slice Y1 u.steps.length x1))).frozen? ⟨w.heap.size + 1 + 1, 2, none⟩ = false := frozen_of_row ((w1.setCell ⟨w.heap.size + 1 + 1, 1, none⟩ (.slice Y1 u.steps.length x1))) _ 2 _ _ (qo11.out)
  have qo12 : Hid ((((w1.setCell ⟨w.heap.size + 1 + 1, 1, none⟩ (.slice Y1 u.steps.length x1)).setCell ⟨w.heap.size + 1 + 1, 2, none⟩ (.string u.nm))).heap[w.heap.size + 1 + 1]? = some (.cells #[.int .i64 u.kind, .slice Y1 u.steps.length x1, .string u.nm] 117 (0, 0))) := heap_setCell_same ((w1.setCell ⟨w.heap.size + 1 + 1, 1, none⟩ (.slice Y1 u.steps.length x1))) (w.heap.size + 1 + 1) 2 _ _ (.string u.nm) (qo11.out)
  have Uo1 := Seg.hid (qo12.out)
  have Ur1 := Seg.hid ((heap_setCell_other ((w1.setCell ⟨w.heap.size + 1 + 1, 1, none⟩ (.slice Y1 u.steps.length x1))) ⟨w.heap.size + 1 + 1, 2, none⟩ (w.heap.size + 1) (.string u.nm) (by simp)).trans ((heap_setCell_other (w1) ⟨w.heap.size + 1 + 1, 1, none⟩ (w.heap.size + 1) (.slice Y1 u.steps.length x1) (by simp)).trans (Tr1.out)))
  have Ua1 := Seg.hid ((heap_setCell_other ((w1.setCell ⟨w.heap.size + 1 + 1, 1, none⟩ (.slice Y1 u.steps.length x1))) ⟨w.heap.size + 1 + 1, 2, none⟩ w.heap.size (.string u.nm) (by simp; omega)).trans ((heap_setCell_other (w1) ⟨w.heap.size + 1 + 1, 1, none⟩ w.heap.size (.slice Y1 u.steps.length x1) (by simp; omega)).trans (Ta1.out)))
  have D1 : Hid (Below w.heap.size w ((w1.setCell ⟨w.heap.size + 1 + 1, 1, none⟩ (.slice Y1 u.steps.length x1)).setCell ⟨w.heap.size + 1 + 1, 2, none⟩ (.string u.nm))) := ((B1.out).setCell (p := ⟨w.heap.size + 1 + 1, 1, none⟩) (by simp; omega) (.slice Y1 u.steps.length x1)).setCell (p := ⟨w.heap.size + 1 + 1, 2, none⟩) (by simp; omega) (.string u.nm)
  have N11' : Hid (LAt 3 EStp ((w1.setCell ⟨w.heap.size + 1 + 1, 1, none⟩ (.slice Y1 u.steps.length x1)).setCell ⟨w.heap.size + 1 + 1, 2, none⟩ (.string u.nm)) (seg (w.heap.size + 3) w1.heap.size) (.slice Y1 u.steps.length x1) u.steps) := N11.out.keep keepsStp (fun g hg => by have := hg.1; rw [heap_setCell_other _ _ _ _ (by show _ ≠ w.heap.size + 1 + 1; omega), heap_setCell_other _ _ _ _ (by show _ ≠ w.heap.size + 1 + 1; omega)])
  obtain ⟨fx, hfx⟩ : ∃ fx : Nat → Value, fx = (fun q => if q = 0 then .int .i64 u.kind else if q = 1 then .slice Y1 u.steps.length x1 else .string u.nm) := ⟨_, rfl⟩
  have HX := Seg.hid hfx
  have Uz : Hid (((w1.setCell ⟨w.heap.size + 1 + 1, 1, none⟩ (.slice Y1 u.steps.length x1)).setCell ⟨w.heap.size + 1 + 1, 2, none⟩ (.string u.nm)).heap[w.heap.size + 1 + 1]? = some (.cells (arrGqt fx) 117 (0, 0))) := by
    show _ = _
    rw [hfx]
    exact Uo1.out
  clear hfx
  have H5a := Cells.there_of Ur1.out
  have H5 : Hid (((w1.setCell ⟨w.heap.size + 1 + 1, 1, none⟩ (.slice Y1 u.steps.length x1)).setCell ⟨w.heap.size + 1 + 1, 2, none⟩ (.string u.nm)).there (w.heap.size + 1) 0 (arrGqt fx).size) := H5a
  clear H5a
  have H4 := Seg.hid (Cells.whole (vs := arrGqt fx) Ur1.out rfl)
  have B9 := Seg.hid (Cells.below_setCells (g := w.heap.size + 1) (by omega) (arrGqt fx).toList 0 _ _ D1.out)
  have F1 : Hid (LAt 3 EStp (((w1.setCell ⟨w.heap.size + 1 + 1, 1, none⟩ (.slice Y1 u.steps.length x1)).setCell ⟨w.heap.size + 1 + 1, 2, none⟩ (.string u.nm)).setCells (w.heap.size + 1) 0 (arrGqt fx).toList) (seg w.heap.size (((w1.setCell ⟨w.heap.size + 1 + 1, 1, none⟩ (.slice Y1 u.steps.length x1)).setCell ⟨w.heap.size + 1 + 1, 2, none⟩ (.string u.nm)).setCells (w.heap.size + 1) 0 (arrGqt fx).toList).heap.size) (fx 1) u.steps) := by
    show LAt 3 EStp _ _ _ _
    rw [show fx 1 = .slice Y1 u.steps.length x1 by rw [HX.out]; rfl]
    refine (N11'.out.keep keepsStp (fun g hg => ?_)).mono growsStp (fun g hg => ⟨by have := hg.1; omega, ?_⟩)
    · have := hg.1
      rw [Cells.heap_setCells_other _ _ (by omega)]
    · rw [Cells.size_setCells]
      have := hg.2
      simpa using this
  have EX : Hid (EGqt (((w1.setCell ⟨w.heap.size + 1 + 1, 1, none⟩ (.slice Y1 u.steps.length x1)).setCell ⟨w.heap.size + 1 + 1, 2, none⟩ (.string u.nm)).setCells (w.heap.size + 1) 0 (arrGqt fx).toList) (seg w.heap.size (((w1.setCell ⟨w.heap.size + 1 + 1, 1, none⟩ (.slice Y1 u.steps.length x1)).setCell ⟨w.heap.size + 1 + 1, 2, none⟩ (.string u.nm)).setCells (w.heap.size + 1) 0 (arrGqt fx).toList).heap.size) fx u) := ⟨by rw [HX.out]; rfl, F1.out, by rw [HX.out]; rfl⟩
  have ON := Seg.hid (oneGqt EX.out)
  clear Ta1 Tr1 To1 Ua1 M1
  go_upto_region 5 with fail
  clear po11 pf11 po12 pf12
  generalize ((w1.setCell ⟨w.heap.size + 1 + 1, 1, none⟩ (.slice Y1 u.steps.length x1)).setCell ⟨w.heap.size + 1 + 1, 2, none⟩ (.string u.nm)) = wz at *
  go_wp2_with (first | (refine wpList_load_row rfl 117 _ rfl (w.heap.size + 1 + 1) rfl _ _ _ _ Uz.out Try.underlying117 rfl infoGqt ?_) | (refine wpList_store_mid rfl 117 _ _ rfl (w.heap.size + 1) 0 (arrGqt fx) rfl rfl H5.out infoGqt ON.out ?_))
  exact bodyPost_ret (v := .agg (arrGqt fx)) (results_cell_row rfl _ _ (w.heap.size + 1) _ _ _ _ rfl H4.out Try.underlying117 rfl infoGqt) rfl ⟨_, rfl, ⟨fx, rfl, EX.out⟩, B9.out⟩
set_option maxHeartbeats 1600000 in
theorem eqGet_any (v v' : Value) (u : Gqt) (w : World) (S S' : Nat → Prop) (hv : GqtAt w S v u) (hv' : GqtAt w S' v' u) (hS : ∀ g, S g → g < w.heap.size) (hS' : ∀ g, S' g → g < w.heap.size) :
    Calls Try.prog 88 #[v, v'] w fun e w' => e = .returned (.bool true) ∧ Below w.heap.size w w' := by
  obtain ⟨f, rfl, y0, y1, y2⟩ := hv
  obtain ⟨f', rfl, y0', y1', y2'⟩ := hv'
  try simp only [arrGqt]
  rw [show f 0 = _ from y0]
  clear y0
  obtain ⟨A1, c1, g1⟩ := y1.form
  rw [g1] at y1 ⊢
  have H1 := Seg.hid y1
  clear y1 g1
  rw [show f 2 = _ from y2]
  clear y2
  try simp only [arrGqt]
  rw [show f' 0 = _ from y0']
  clear y0'
  obtain ⟨A1', c1', g1'⟩ := y1'.form
  rw [g1'] at y1' ⊢
  have H1' := Seg.hid y1'
  clear y1' g1'
  rw [show f' 2 = _ from y2']
  clear y2'
  go_enter Try.func88, Try.ntmps88
  go_wp2_with fail
  refine (eqStepS_any _ _ u.steps ((w.alloc _).alloc _) S S' (H1.out.below keepsStp (below2 w _ _) hS) (H1'.out.below keepsStp (below2 w _ _) hS') (fun g hg => by rw [hsz, hsz]; have := hS g hg; omega) (fun g hg => by rw [hsz, hsz]; have := hS' g hg; omega)).mono ?_
  rintro e w1 ⟨rfl, b1⟩
  have B1 := Seg.hid (chain (below2 w _ _) b1)
  have Ta1 : Hid (w1.heap[w.heap.size]? = some (.cells #[.int .i64 u.kind, .slice A1 u.steps.length c1, .string u.nm] 117 (0, 0))) := (b1.block w.heap.size (by rw [hsz, hsz]; omega)).trans (at2z w _ _)
  have Tb1 : Hid (w1.heap[w.heap.size + 1]? = some (.cells #[.int .i64 u.kind, .slice A1' u.steps.length c1', .string u.nm] 117 (0, 0))) := (b1.block (w.heap.size + 1) (by rw [hsz, hsz]; omega)).trans (at2y w _ _)
  have s1 : w.heap.size + 1 < w1.heap.size := (Array.getElem?_eq_some_iff.1 Tb1.out).1
  have pa12 : w1.cell? ⟨w.heap.size, 2, none⟩ = some (.string u.nm) := cell_of_row w1 _ 2 _ _ (0, 0) Ta1.out
  have pb12 : w1.cell? ⟨w.heap.size + 1, 2, none⟩ = some (.string u.nm) := cell_of_row w1 _ 2 _ _ (0, 0) Tb1.out
  clear b1
  go_wp2
  go_ret
  exact ⟨rfl, B1.out⟩
end Go.Proofs.Ytkibaimemomjpaa.Ls
