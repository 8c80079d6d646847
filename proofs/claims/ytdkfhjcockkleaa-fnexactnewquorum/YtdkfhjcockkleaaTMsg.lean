/- Message: how it lies in memory; what the law's measure and copier answer. -/
import Derived.Test.YtdkfhjcockkleaaTCmds
namespace Go.Proofs.Ytdkfhjcockkleaa.Ls
set_option maxRecDepth 8000
open Go.RowKit
open Recs
set_option linter.unusedVariables false
structure Msg where
  kind : Int
  src : Int
  dst : Int
  term : Int
  pos : Int
  posTerm : Int
  cmds : List Cmd
  sealed : Int
  yes : Bool
  deriving Inhabited
def EMsg : Elt Msg := fun w S f u => f 0 = .int .i64 u.kind ∧ f 1 = .int .i64 u.src ∧ f 2 = .int .i64 u.dst ∧ f 3 = .int .i64 u.term ∧ f 4 = .int .i64 u.pos ∧ f 5 = .int .i64 u.posTerm ∧ LAt 2 ECmd w S (f 6) u.cmds ∧ f 7 = .int .i64 u.sealed ∧ f 8 = .bool u.yes
theorem keepsMsg : Keeps 9 EMsg := fun w w' S f f' t h hk hf => by
  obtain ⟨h0, h1, h2, h3, h4, h5, h6, h7, h8⟩ := h
  exact ⟨by rw [hf 0 (by omega)]; exact h0, by rw [hf 1 (by omega)]; exact h1, by rw [hf 2 (by omega)]; exact h2, by rw [hf 3 (by omega)]; exact h3, by rw [hf 4 (by omega)]; exact h4, by rw [hf 5 (by omega)]; exact h5, by rw [hf 6 (by omega)]; exact h6.keep keepsCmd hk, by rw [hf 7 (by omega)]; exact h7, by rw [hf 8 (by omega)]; exact h8⟩
theorem growsMsg : Grows EMsg := fun w S S' f t h hs => by
  obtain ⟨h0, h1, h2, h3, h4, h5, h6, h7, h8⟩ := h
  exact ⟨h0, h1, h2, h3, h4, h5, h6.mono growsCmd hs, h7, h8⟩
def arrMsg (f : Nat → Value) : Array Value := #[f 0, f 1, f 2, f 3, f 4, f 5, f 6, f 7, f 8]
theorem oneMsg {w : World} {S : Nat → Prop} {f : Nat → Value} {u : Msg} (h : EMsg w S f u) : (arrMsg f).all (·.oneCell') = true := by
  obtain ⟨h0, h1, h2, h3, h4, h5, h6, h7, h8⟩ := h
  have o0 : (f 0).oneCell' = true := by rw [h0]; rfl
  have o1 : (f 1).oneCell' = true := by rw [h1]; rfl
  have o2 : (f 2).oneCell' = true := by rw [h2]; rfl
  have o3 : (f 3).oneCell' = true := by rw [h3]; rfl
  have o4 : (f 4).oneCell' = true := by rw [h4]; rfl
  have o5 : (f 5).oneCell' = true := by rw [h5]; rfl
  have o6 : (f 6).oneCell' = true := h6.one
  have o7 : (f 7).oneCell' = true := by rw [h7]; rfl
  have o8 : (f 8).oneCell' = true := by rw [h8]; rfl
  simp [arrMsg, o0, o1, o2, o3, o4, o5, o6, o7, o8]
def MsgAt (w : World) (S : Nat → Prop) (v : Value) (u : Msg) : Prop := ∃ f, v = .agg (arrMsg f) ∧ EMsg w S f u
abbrev MsgsAt := LAt 9 EMsg
theorem MsgAt.keep {w w' : World} {S : Nat → Prop} {v : Value} {u : Msg} (h : MsgAt w S v u) (hk : ∀ g, S g → w'.heap[g]? = w.heap[g]?) : MsgAt w' S v u := by
  obtain ⟨f, h1, h2⟩ := h
  exact ⟨f, h1, keepsMsg _ _ _ _ _ _ h2 hk (fun _ _ => rfl)⟩
theorem MsgAt.mono {w : World} {S S' : Nat → Prop} {v : Value} {u : Msg} (h : MsgAt w S v u) (hs : ∀ g, S g → S' g) : MsgAt w S' v u := by
  obtain ⟨f, h1, h2⟩ := h
  exact ⟨f, h1, growsMsg _ _ _ _ _ h2 hs⟩
theorem MsgAt.below {w w' : World} {B : Nat} {S : Nat → Prop} {v : Value} {u : Msg} (h : MsgAt w S v u) (hb : Below B w w') (hs : ∀ g, S g → g < B) : MsgAt w' S v u := h.keep fun g hg => hb.block g (hs g hg)
def szMsg (u : Msg) : Nat := szL szCmd (u.cmds)
def FineMsg (u : Msg) : Prop := I64 u.kind ∧ I64 u.src ∧ I64 u.dst ∧ I64 u.term ∧ I64 u.pos ∧ I64 u.posTerm ∧ FineL FineCmd u.cmds ∧ I64 u.sealed ∧ True
theorem infoMsg : (Try.prog.info? 49).map (·.size) = some 9 := by kernel_rfl
theorem infoLMsg : (Try.prog.info? 67).map (·.size) = some 9 := by kernel_rfl
theorem infoZMsg : (Try.prog.info? 49).map (fun i => (i.zero, i.size, i.bytes)) = some (some (.agg #[.int .i64 0, .int .i64 0, .int .i64 0, .int .i64 0, .int .i64 0, .int .i64 0, .slice none 0 0, .int .i64 0, .bool false]), 9, 88) := by kernel_rfl
set_option maxHeartbeats 800000 in
theorem szMessage_any (v : Value) (u : Msg) (l : Int) (w : World) (S : Nat → Prop) (h3 : -1 ≤ l) (h4 : l ≤ 1048576) (hv : MsgAt w S v u) (hS : ∀ g, S g → g < w.heap.size) (hf : FineMsg u) :
    Calls Try.prog 35 #[v, .int .i64 l] w fun e w' => ∃ q, e = .returned (.int .i64 q) ∧ -1 ≤ q ∧ q ≤ l ∧ Lf l (szMsg u) q ∧ Below w.heap.size w w' := by
  obtain ⟨f, rfl, y0, y1, y2, y3, y4, y5, y6, y7, y8⟩ := hv
  try simp only [arrMsg]
  rw [show f 0 = _ from y0]
  clear y0
  rw [show f 1 = _ from y1]
  clear y1
  rw [show f 2 = _ from y2]
  clear y2
  rw [show f 3 = _ from y3]
  clear y3
  rw [show f 4 = _ from y4]
  clear y4
  rw [show f 5 = _ from y5]
  clear y5
  obtain ⟨A6, c6, g6⟩ := y6.form
  rw [g6] at y6 ⊢
  have H6 := Seg.hid y6
  clear y6 g6
  rw [show f 7 = _ from y7]
  clear y7
  rw [show f 8 = _ from y8]
  clear y8
  obtain ⟨z0, z1, z2, z3, z4, z5, z6, z7, z8⟩ := hf
  have Z6 := Seg.hid z6
  clear z0 z1 z2 z3 z4 z5 z6 z7 z8
  go_enter Try.func35, Try.ntmps35
  go_wp2_with fail
  refine (szCommandS_any _ u.cmds _ (w.alloc _) S (by omega) (by omega) (H6.out.below keepsCmd (below1 w _) hS) (fun g hg => by rw [hsz]; have := hS g hg; omega) Z6.out).mono ?_
  rintro e w1 ⟨q1, rfl, a1, b1, L1', d1⟩
  have B1 := Seg.hid (chain (below1 w _) d1)
  have L1 := Seg.hid L1'
  clear d1 L1'
  by_cases k6 : q1 < 0
  · go_wp2
    go_ret
    exact ⟨_, rfl, by omega, by omega, by have m0 := L1.out.2 (by omega); simp only [szMsg]; exact ⟨fun _ => by omega, fun _ => by omega⟩, B1.out⟩
  go_wp2
  go_ret
  exact ⟨_, rfl, by omega, by omega, by have m0 := L1.out.1 (by omega); simp only [szMsg]; exact ⟨fun _ => by omega, fun _ => by omega⟩, B1.out⟩
set_option maxHeartbeats 1600000 in
theorem toMessage_any (v : Value) (u : Msg) (w : World) (S : Nat → Prop) (hv : MsgAt w S v u) (hS : ∀ g, S g → g < w.heap.size) (hf : szMsg u ≤ 1048576) :
    Calls Try.prog 37 #[v] w fun e w' => ∃ v', e = .returned v' ∧ MsgAt w' (seg w.heap.size w'.heap.size) v' u ∧ Below w.heap.size w w' := by
  obtain ⟨f, rfl, y0, y1, y2, y3, y4, y5, y6, y7, y8⟩ := hv
  try simp only [arrMsg]
  rw [show f 0 = _ from y0]
  clear y0
  rw [show f 1 = _ from y1]
  clear y1
  rw [show f 2 = _ from y2]
  clear y2
  rw [show f 3 = _ from y3]
  clear y3
  rw [show f 4 = _ from y4]
  clear y4
  rw [show f 5 = _ from y5]
  clear y5
  obtain ⟨A6, c6, g6⟩ := y6.form
  rw [g6] at y6 ⊢
  have H6 := Seg.hid y6
  clear y6 g6
  rw [show f 7 = _ from y7]
  clear y7
  rw [show f 8 = _ from y8]
  clear y8
  unfold szMsg at hf
  go_enter Try.func37, Try.ntmps37
  go_wp2_with fail
  refine (toCommandS_any _ u.cmds (((w.alloc _).alloc _).alloc _) S (H6.out.below keepsCmd (below3 w _ _ _) hS) (fun g hg => by rw [hsz, hsz, hsz]; have := hS g hg; omega) (by omega)).mono ?_
  rintro e w1 ⟨v1, rfl, l1, b1⟩
  have B1 := Seg.hid (chain (below3 w _ _ _) b1)
  have Ta1 : Hid (w1.heap[w.heap.size]? = some (.cells #[.int .i64 u.kind, .int .i64 u.src, .int .i64 u.dst, .int .i64 u.term, .int .i64 u.pos, .int .i64 u.posTerm, .slice A6 u.cmds.length c6, .int .i64 u.sealed, .bool u.yes] 67 (0, 0))) := (b1.block w.heap.size (by rw [hsz, hsz, hsz]; omega)).trans (at3z w _ _ _)
  have Tr1 : Hid (w1.heap[w.heap.size + 1]? = some (.cells #[.int .i64 0, .int .i64 0, .int .i64 0, .int .i64 0, .int .i64 0, .int .i64 0, .slice none 0 0, .int .i64 0, .bool false] 49 (0, 0))) := (b1.block (w.heap.size + 1) (by rw [hsz, hsz, hsz]; omega)).trans (at3 w _ _ _)
  have To1 : Hid (w1.heap[w.heap.size + 1 + 1]? = some (.cells #[.int .i64 u.kind, .int .i64 u.src, .int .i64 u.dst, .int .i64 u.term, .int .i64 u.pos, .int .i64 u.posTerm, .slice none 0 0, .int .i64 0, .bool false] 49 (0, 0))) := (b1.block (w.heap.size + 1 + 1) (by rw [hsz, hsz, hsz]; omega)).trans (Cells.at3' w _ _ _)
  have s1 : w.heap.size + 3 ≤ w1.heap.size := by have := b1.size; rw [hsz, hsz, hsz] at this; omega
  have M1 : Hid (LAt 2 ECmd w1 (seg (w.heap.size + 3) w1.heap.size) v1 u.cmds) := by
    rw [hsz, hsz, hsz] at l1
    exact l1
  obtain ⟨Y1, x1, r1⟩ := M1.out.form
  subst r1
  clear b1 l1
  have N11 := M1
  have pa17 : w1.cell? ⟨w.heap.size, 7, none⟩ = some (.int .i64 u.sealed) := cell_of_row w1 _ 7 _ _ (0, 0) Ta1.out
  have pa18 : w1.cell? ⟨w.heap.size, 8, none⟩ = some (.bool u.yes) := cell_of_row w1 _ 8 _ _ (0, 0) Ta1.out
  have po16 : (w1).cell? ⟨w.heap.size + 1 + 1, 6, none⟩ = some (.slice none 0 0) := cell_of_row (w1) _ 6 _ _ (0, 0) (To1.out)
  have pf16 : (w1).frozen? ⟨w.heap.size + 1 + 1, 6, none⟩ = false := frozen_of_row (w1) _ 6 _ _ (To1.out)
  have qo16 : Hid (((w1.setCell ⟨w.heap.size + 1 + 1, 6, none⟩ (.slice Y1 u.cmds.length x1))).heap[w.heap.size + 1 + 1]? = some (.cells #[.int .i64 u.kind, .int .i64 u.src, .int .i64 u.dst, .int .i64 u.term, .int .i64 u.pos, .int .i64 u.posTerm, .slice Y1 u.cmds.length x1, .int .i64 0, .bool false] 49 (0, 0))) := heap_setCell_same (w1) (w.heap.size + 1 + 1) 6 _ _ (.slice Y1 u.cmds.length x1) (To1.out)
  have po17 : ((w1.setCell ⟨w.heap.size + 1 + 1, 6, none⟩ (.slice Y1 u.cmds.length x1))).cell? ⟨w.heap.size + 1 + 1, 7, none⟩ = some (.int .i64 0) := cell_of_row ((w1.setCell ⟨w.heap.size + 1 + 1, 6, none⟩ (.slice Y1 u.cmds.length x1))) _ 7 _ _ (0, 0) (qo16.out)
  have pf17 : ((w1.setCell ⟨w.heap.size + 1 + 1, 6, none⟩ (.slice Y1 u.cmds.length x1))).frozen? ⟨w.heap.size + 1 + 1, 7, none⟩ = false := frozen_of_row ((w1.setCell ⟨w.heap.size + 1 + 1, 6, none⟩ (.slice Y1 u.cmds.length x1))) _ 7 _ _ (qo16.out)
  have qo17 : Hid ((((w1.setCell ⟨w.heap.size + 1 + 1, 6, none⟩ (.slice Y1 u.cmds.length x1)).setCell ⟨w.heap.size + 1 + 1, 7, none⟩ (.int .i64 u.sealed))).heap[w.heap.size + 1 + 1]? = some (.cells #[.int .i64 u.kind, .int .i64 u.src, .int .i64 u.dst, .int .i64 u.term, .int .i64 u.pos, .int .i64 u.posTerm, .slice Y1 u.cmds.length x1, .int .i64 u.sealed, .bool false] 49 (0, 0))) := heap_setCell_same ((w1.setCell ⟨w.heap.size + 1 + 1, 6, none⟩ (.slice Y1 u.cmds.length x1))) (w.heap.size + 1 + 1) 7 _ _ (.int .i64 u.sealed) (qo16.out)
  have po18 : (((w1.setCell ⟨w.heap.size + 1 + 1, 6, none⟩ (.slice Y1 u.cmds.length x1)).setCell ⟨w.heap.size + 1 + 1, 7, none⟩ (.int .i64 u.sealed))).cell? ⟨w.heap.size + 1 + 1, 8, none⟩ = some (.bool false) := cell_of_row (((w1.setCell ⟨w.heap.size + 1 + 1, 6, none⟩ (.slice Y1 u.cmds.length x1)).setCell ⟨w.heap.size + 1 + 1, 7, none⟩ (.int .i64 u.sealed))) _ 8 _ _ (0, 0) (qo17.out)
  have pf18 : (((w1.setCell ⟨w.heap.size + 1 + 1, 6, none⟩ (.slice Y1 u.cmds.length x1)).setCell ⟨w.heap.size + 1 + 1, 7, none⟩ (.int .i64 u.sealed))).frozen? ⟨w.heap.size + 1 + 1, 8, none⟩ = false := frozen_of_row (((w1.setCell ⟨w.heap.size + 1 + 1, 6, none⟩ (.slice Y1 u.cmds.length x1)).setCell ⟨w.heap.size + 1 + 1, 7, none⟩ (.int .i64 u.sealed))) _ 8 _ _ (qo17.out)
  have qo18 : Hid (((((w1.setCell ⟨w.heap.size + 1 + 1, 6, none⟩ (.slice Y1 u.cmds.length x1)).setCell ⟨w.heap.size + 1 + 1, 7, none⟩ (.int .i64 u.sealed)).setCell ⟨w.heap.size + 1 + 1, 8, none⟩ (.bool u.yes))).heap[w.heap.size + 1 + 1]? = some (.cells #[.int .i64 u.kind, .int .i64 u.src, .int .i64 u.dst, .int .i64 u.term, .int .i64 u.pos, .int .i64 u.posTerm, .slice Y1 u.cmds.length x1, .int .i64 u.sealed, .bool u.yes] 49 (0, 0))) := heap_setCell_same (((w1.setCell ⟨w.heap.size + 1 + 1, 6, none⟩ (.slice Y1 u.cmds.length x1)).setCell ⟨w.heap.size + 1 + 1, 7, none⟩ (.int .i64 u.sealed))) (w.heap.size + 1 + 1) 8 _ _ (.bool u.yes) (qo17.out)
  have Uo1 := Seg.hid (qo18.out)
  have Ur1 := Seg.hid ((heap_setCell_other (((w1.setCell ⟨w.heap.size + 1 + 1, 6, none⟩ (.slice Y1 u.cmds.length x1)).setCell ⟨w.heap.size + 1 + 1, 7, none⟩ (.int .i64 u.sealed))) ⟨w.heap.size + 1 + 1, 8, none⟩ (w.heap.size + 1) (.bool u.yes) (by simp)).trans ((heap_setCell_other ((w1.setCell ⟨w.heap.size + 1 + 1, 6, none⟩ (.slice Y1 u.cmds.length x1))) ⟨w.heap.size + 1 + 1, 7, none⟩ (w.heap.size + 1) (.int .i64 u.sealed) (by simp)).trans ((heap_setCell_other (w1) ⟨w.heap.size + 1 + 1, 6, none⟩ (w.heap.size + 1) (.slice Y1 u.cmds.length x1) (by simp)).trans (Tr1.out))))
  have Ua1 := Seg.hid ((heap_setCell_other (((w1.setCell ⟨w.heap.size + 1 + 1, 6, none⟩ (.slice Y1 u.cmds.length x1)).setCell ⟨w.heap.size + 1 + 1, 7, none⟩ (.int .i64 u.sealed))) ⟨w.heap.size + 1 + 1, 8, none⟩ w.heap.size (.bool u.yes) (by simp; omega)).trans ((heap_setCell_other ((w1.setCell ⟨w.heap.size + 1 + 1, 6, none⟩ (.slice Y1 u.cmds.length x1))) ⟨w.heap.size + 1 + 1, 7, none⟩ w.heap.size (.int .i64 u.sealed) (by simp; omega)).trans ((heap_setCell_other (w1) ⟨w.heap.size + 1 + 1, 6, none⟩ w.heap.size (.slice Y1 u.cmds.length x1) (by simp; omega)).trans (Ta1.out))))
  have D1 : Hid (Below w.heap.size w (((w1.setCell ⟨w.heap.size + 1 + 1, 6, none⟩ (.slice Y1 u.cmds.length x1)).setCell ⟨w.heap.size + 1 + 1, 7, none⟩ (.int .i64 u.sealed)).setCell ⟨w.heap.size + 1 + 1, 8, none⟩ (.bool u.yes))) := (((B1.out).setCell (p := ⟨w.heap.size + 1 + 1, 6, none⟩) (by simp; omega) (.slice Y1 u.cmds.length x1)).setCell (p := ⟨w.heap.size + 1 + 1, 7, none⟩) (by simp; omega) (.int .i64 u.sealed)).setCell (p := ⟨w.heap.size + 1 + 1, 8, none⟩) (by simp; omega) (.bool u.yes)
  have N11' : Hid (LAt 2 ECmd (((w1.setCell ⟨w.heap.size + 1 + 1, 6, none⟩ (.slice Y1 u.cmds.length x1)).setCell ⟨w.heap.size + 1 + 1, 7, none⟩ (.int .i64 u.sealed)).setCell ⟨w.heap.size + 1 + 1, 8, none⟩ (.bool u.yes)) (seg (w.heap.size + 3) w1.heap.size) (.slice Y1 u.cmds.length x1) u.cmds) := N11.out.keep keepsCmd (fun g hg => by have := hg.1; rw [heap_setCell_other _ _ _ _ (by show _ ≠ w.heap.size + 1 + 1; omega), heap_setCell_other _ _ _ _ (by show _ ≠ w.heap.size + 1 + 1; omega), heap_setCell_other _ _ _ _ (by show _ ≠ w.heap.size + 1 + 1; omega)])
  obtain ⟨fx, hfx⟩ : ∃ fx : Nat → Value, fx = (fun q => if q = 0 then .int .i64 u.kind else if q = 1 then .int .i64 u.src else if q = 2 then .int .i64 u.dst else if q = 3 then .int .i64 u.term else if q = 4 then .int .i64 u.pos else if q = 5 then .int .i64 u.posTerm else if q = 6 then .slice Y1 u.cmds.length x1 else if q = 7 then .int .i64 u.sealed else .bool u.yes) := ⟨_, rfl⟩
  have HX := Seg.hid hfx
  have Uz : Hid ((((w1.setCell ⟨w.heap.size + 1 + 1, 6, none⟩ (.slice Y1 u.cmds.length x1)).setCell ⟨w.heap.size + 1 + 1, 7, none⟩ (.int .i64 u.sealed)).setCell ⟨w.heap.size + 1 + 1, 8, none⟩ (.bool u.yes)).heap[w.heap.size + 1 + 1]? = some (.cells (arrMsg fx) 49 (0, 0))) := by
    show _ = _
    rw [hfx]
    exact Uo1.out
  clear hfx
  have H5a := Cells.there_of Ur1.out
  have H5 : Hid ((((w1.setCell ⟨w.heap.size + 1 + 1, 6, none⟩ (.slice Y1 u.cmds.length x1)).setCell ⟨w.heap.size + 1 + 1, 7, none⟩ (.int .i64 u.sealed)).setCell ⟨w.heap.size + 1 + 1, 8, none⟩ (.bool u.yes)).there (w.heap.size + 1) 0 (arrMsg fx).size) := H5a
  clear H5a
  have H4 := Seg.hid (Cells.whole (vs := arrMsg fx) Ur1.out rfl)
  have B9 := Seg.hid (Cells.below_setCells (g := w.heap.size + 1) (by omega) (arrMsg fx).toList 0 _ _ D1.out)
  have F1 : Hid (LAt 2 ECmd ((((w1.setCell ⟨w.heap.size + 1 + 1, 6, none⟩ (.slice Y1 u.cmds.length x1)).setCell ⟨w.heap.size + 1 + 1, 7, none⟩ (.int .i64 u.sealed)).setCell ⟨w.heap.size + 1 + 1, 8, none⟩ (.bool u.yes)).setCells (w.heap.size + 1) 0 (arrMsg fx).toList) (seg w.heap.size ((((w1.setCell ⟨w.heap.size + 1 + 1, 6, none⟩ (.slice Y1 u.cmds.length x1)).setCell ⟨w.heap.size + 1 + 1, 7, none⟩ (.int .i64 u.sealed)).setCell ⟨w.heap.size + 1 + 1, 8, none⟩ (.bool u.yes)).setCells (w.heap.size + 1) 0 (arrMsg fx).toList).heap.size) (fx 6) u.cmds) := by
    show LAt 2 ECmd _ _ _ _
    rw [show fx 6 = .slice Y1 u.cmds.length x1 by rw [HX.out]; rfl]
    refine (N11'.out.keep keepsCmd (fun g hg => ?_)).mono growsCmd (fun g hg => ⟨by have := hg.1; omega, ?_⟩)
    · have := hg.1
      rw [Cells.heap_setCells_other _ _ (by omega)]
    · rw [Cells.size_setCells]
      have := hg.2
      simpa using this
  have EX : Hid (EMsg ((((w1.setCell ⟨w.heap.size + 1 + 1, 6, none⟩ (.slice Y1 u.cmds.length x1)).setCell ⟨w.heap.size + 1 + 1, 7, none⟩ (.int .i64 u.sealed)).setCell ⟨w.heap.size + 1 + 1, 8, none⟩ (.bool u.yes)).setCells (w.heap.size + 1) 0 (arrMsg fx).toList) (seg w.heap.size ((((w1.setCell ⟨w.heap.size + 1 + 1, 6, none⟩ (.slice Y1 u.cmds.length x1)).setCell ⟨w.heap.size + 1 + 1, 7, none⟩ (.int .i64 u.sealed)).setCell ⟨w.heap.size + 1 + 1, 8, none⟩ (.bool u.yes)).setCells (w.heap.size + 1) 0 (arrMsg fx).toList).heap.size) fx u) := ⟨by rw [HX.out]; rfl, by rw [HX.out]; rfl, by rw [HX.out]; rfl, by rw [HX.out]; rfl, by rw [HX.out]; rfl, by rw [HX.out]; rfl, F1.out, by rw [HX.out]; rfl, by rw [HX.out]; rfl⟩
  have ON := Seg.hid (oneMsg EX.out)
  clear Ta1 Tr1 To1 Ua1 M1
  go_upto_region 11 with fail
  clear po16 pf16 po17 pf17 po18 pf18
  generalize (((w1.setCell ⟨w.heap.size + 1 + 1, 6, none⟩ (.slice Y1 u.cmds.length x1)).setCell ⟨w.heap.size + 1 + 1, 7, none⟩ (.int .i64 u.sealed)).setCell ⟨w.heap.size + 1 + 1, 8, none⟩ (.bool u.yes)) = wz at *
  go_wp2_with (first | (refine wpList_load_row rfl 49 _ rfl (w.heap.size + 1 + 1) rfl _ _ _ _ Uz.out Try.underlying49 rfl infoMsg ?_) | (refine wpList_store_mid rfl 49 _ _ rfl (w.heap.size + 1) 0 (arrMsg fx) rfl rfl H5.out infoMsg ON.out ?_))
  exact bodyPost_ret (v := .agg (arrMsg fx)) (results_cell_row rfl _ _ (w.heap.size + 1) _ _ _ _ rfl H4.out Try.underlying49 rfl infoMsg) rfl ⟨_, rfl, ⟨fx, rfl, EX.out⟩, B9.out⟩
set_option maxHeartbeats 1600000 in
theorem eqMessage_any (v v' : Value) (u : Msg) (w : World) (S S' : Nat → Prop) (hv : MsgAt w S v u) (hv' : MsgAt w S' v' u) (hS : ∀ g, S g → g < w.heap.size) (hS' : ∀ g, S' g → g < w.heap.size) :
    Calls Try.prog 43 #[v, v'] w fun e w' => e = .returned (.bool true) ∧ Below w.heap.size w w' := by
  obtain ⟨f, rfl, y0, y1, y2, y3, y4, y5, y6, y7, y8⟩ := hv
  obtain ⟨f', rfl, y0', y1', y2', y3', y4', y5', y6', y7', y8'⟩ := hv'
  try simp only [arrMsg]
  rw [show f 0 = _ from y0]
  clear y0
  rw [show f 1 = _ from y1]
  clear y1
  rw [show f 2 = _ from y2]
  clear y2
  rw [show f 3 = _ from y3]
  clear y3
  rw [show f 4 = _ from y4]
  clear y4
  rw [show f 5 = _ from y5]
  clear y5
  obtain ⟨A6, c6, g6⟩ := y6.form
  rw [g6] at y6 ⊢
  have H6 := Seg.hid y6
  clear y6 g6
  rw [show f 7 = _ from y7]
  clear y7
  rw [show f 8 = _ from y8]
  clear y8
  try simp only [arrMsg]
  rw [show f' 0 = _ from y0']
  clear y0'
  rw [show f' 1 = _ from y1']
  clear y1'
  rw [show f' 2 = _ from y2']
  clear y2'
  rw [show f' 3 = _ from y3']
  clear y3'
  rw [show f' 4 = _ from y4']
  clear y4'
  rw [show f' 5 = _ from y5']
  clear y5'
  obtain ⟨A6', c6', g6'⟩ := y6'.form
  rw [g6'] at y6' ⊢
  have H6' := Seg.hid y6'
  clear y6' g6'
  rw [show f' 7 = _ from y7']
  clear y7'
  rw [show f' 8 = _ from y8']
  clear y8'
  go_enter Try.func43, Try.ntmps43
  go_wp2_with fail
  refine (eqCommandS_any _ _ u.cmds ((w.alloc _).alloc _) S S' (H6.out.below keepsCmd (below2 w _ _) hS) (H6'.out.below keepsCmd (below2 w _ _) hS') (fun g hg => by rw [hsz, hsz]; have := hS g hg; omega) (fun g hg => by rw [hsz, hsz]; have := hS' g hg; omega)).mono ?_
  rintro e w1 ⟨rfl, b1⟩
  have B1 := Seg.hid (chain (below2 w _ _) b1)
  have Ta1 : Hid (w1.heap[w.heap.size]? = some (.cells #[.int .i64 u.kind, .int .i64 u.src, .int .i64 u.dst, .int .i64 u.term, .int .i64 u.pos, .int .i64 u.posTerm, .slice A6 u.cmds.length c6, .int .i64 u.sealed, .bool u.yes] 49 (0, 0))) := (b1.block w.heap.size (by rw [hsz, hsz]; omega)).trans (at2z w _ _)
  have Tb1 : Hid (w1.heap[w.heap.size + 1]? = some (.cells #[.int .i64 u.kind, .int .i64 u.src, .int .i64 u.dst, .int .i64 u.term, .int .i64 u.pos, .int .i64 u.posTerm, .slice A6' u.cmds.length c6', .int .i64 u.sealed, .bool u.yes] 49 (0, 0))) := (b1.block (w.heap.size + 1) (by rw [hsz, hsz]; omega)).trans (at2y w _ _)
  have s1 : w.heap.size + 1 < w1.heap.size := (Array.getElem?_eq_some_iff.1 Tb1.out).1
  have pa17 : w1.cell? ⟨w.heap.size, 7, none⟩ = some (.int .i64 u.sealed) := cell_of_row w1 _ 7 _ _ (0, 0) Ta1.out
  have pb17 : w1.cell? ⟨w.heap.size + 1, 7, none⟩ = some (.int .i64 u.sealed) := cell_of_row w1 _ 7 _ _ (0, 0) Tb1.out
  have pa18 : w1.cell? ⟨w.heap.size, 8, none⟩ = some (.bool u.yes) := cell_of_row w1 _ 8 _ _ (0, 0) Ta1.out
  have pb18 : w1.cell? ⟨w.heap.size + 1, 8, none⟩ = some (.bool u.yes) := cell_of_row w1 _ 8 _ _ (0, 0) Tb1.out
  clear b1
  go_wp2
  go_ret
  exact ⟨rfl, B1.out⟩
end Go.Proofs.Ytdkfhjcockkleaa.Ls
