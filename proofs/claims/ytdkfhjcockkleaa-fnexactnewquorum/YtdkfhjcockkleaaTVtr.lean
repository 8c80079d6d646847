/- Voter: how it lies in memory; what the law's measure and copier answer. -/
import Derived.Test.YtdkfhjcockkleaaTCmds
namespace Go.Proofs.Ytdkfhjcockkleaa.Ls
set_option maxRecDepth 8000
open Go.RowKit
open Recs
set_option linter.unusedVariables false
structure Vtr where
  term : Int
  vote : Int
  role : Int
  votes : List Int
  log : List Cmd
  next : List Int
  mtch : List Int
  sealed : Int
  deriving Inhabited
def EVtr : Elt Vtr := fun w S f u => f 0 = .int .i64 u.term ∧ f 1 = .int .i64 u.vote ∧ f 2 = .int .i64 u.role ∧ IntsAt w S (f 3) u.votes ∧ LAt 2 ECmd w S (f 4) u.log ∧ IntsAt w S (f 5) u.next ∧ IntsAt w S (f 6) u.mtch ∧ f 7 = .int .i64 u.sealed
theorem keepsVtr : Keeps 8 EVtr := fun w w' S f f' t h hk hf => by
  obtain ⟨h0, h1, h2, h3, h4, h5, h6, h7⟩ := h
  exact ⟨by rw [hf 0 (by omega)]; exact h0, by rw [hf 1 (by omega)]; exact h1, by rw [hf 2 (by omega)]; exact h2, by rw [hf 3 (by omega)]; exact h3.keep keepsI hk, by rw [hf 4 (by omega)]; exact h4.keep keepsCmd hk, by rw [hf 5 (by omega)]; exact h5.keep keepsI hk, by rw [hf 6 (by omega)]; exact h6.keep keepsI hk, by rw [hf 7 (by omega)]; exact h7⟩
theorem growsVtr : Grows EVtr := fun w S S' f t h hs => by
  obtain ⟨h0, h1, h2, h3, h4, h5, h6, h7⟩ := h
  exact ⟨h0, h1, h2, h3.mono growsI hs, h4.mono growsCmd hs, h5.mono growsI hs, h6.mono growsI hs, h7⟩
def arrVtr (f : Nat → Value) : Array Value := #[f 0, f 1, f 2, f 3, f 4, f 5, f 6, f 7]
theorem oneVtr {w : World} {S : Nat → Prop} {f : Nat → Value} {u : Vtr} (h : EVtr w S f u) : (arrVtr f).all (·.oneCell') = true := by
  obtain ⟨h0, h1, h2, h3, h4, h5, h6, h7⟩ := h
  have o0 : (f 0).oneCell' = true := by rw [h0]; rfl
  have o1 : (f 1).oneCell' = true := by rw [h1]; rfl
  have o2 : (f 2).oneCell' = true := by rw [h2]; rfl
  have o3 : (f 3).oneCell' = true := h3.one
  have o4 : (f 4).oneCell' = true := h4.one
  have o5 : (f 5).oneCell' = true := h5.one
  have o6 : (f 6).oneCell' = true := h6.one
  have o7 : (f 7).oneCell' = true := by rw [h7]; rfl
  simp [arrVtr, o0, o1, o2, o3, o4, o5, o6, o7]
def VtrAt (w : World) (S : Nat → Prop) (v : Value) (u : Vtr) : Prop := ∃ f, v = .agg (arrVtr f) ∧ EVtr w S f u
abbrev VtrsAt := LAt 8 EVtr
theorem VtrAt.keep {w w' : World} {S : Nat → Prop} {v : Value} {u : Vtr} (h : VtrAt w S v u) (hk : ∀ g, S g → w'.heap[g]? = w.heap[g]?) : VtrAt w' S v u := by
  obtain ⟨f, h1, h2⟩ := h
  exact ⟨f, h1, keepsVtr _ _ _ _ _ _ h2 hk (fun _ _ => rfl)⟩
theorem VtrAt.mono {w : World} {S S' : Nat → Prop} {v : Value} {u : Vtr} (h : VtrAt w S v u) (hs : ∀ g, S g → S' g) : VtrAt w S' v u := by
  obtain ⟨f, h1, h2⟩ := h
  exact ⟨f, h1, growsVtr _ _ _ _ _ h2 hs⟩
theorem VtrAt.below {w w' : World} {B : Nat} {S : Nat → Prop} {v : Value} {u : Vtr} (h : VtrAt w S v u) (hb : Below B w w') (hs : ∀ g, S g → g < B) : VtrAt w' S v u := h.keep fun g hg => hb.block g (hs g hg)
def szVtr (u : Vtr) : Nat := (u.votes).length + szL szCmd (u.log) + (u.next).length + (u.mtch).length
def FineVtr (u : Vtr) : Prop := I64 u.term ∧ I64 u.vote ∧ I64 u.role ∧ FineL I64 u.votes ∧ FineL FineCmd u.log ∧ FineL I64 u.next ∧ FineL I64 u.mtch ∧ I64 u.sealed
theorem infoVtr : (Try.prog.info? 45).map (·.size) = some 8 := by kernel_rfl
theorem infoLVtr : (Try.prog.info? 64).map (·.size) = some 8 := by kernel_rfl
theorem infoZVtr : (Try.prog.info? 45).map (fun i => (i.zero, i.size, i.bytes)) = some (some (.agg #[.int .i64 0, .int .i64 0, .int .i64 0, .slice none 0 0, .slice none 0 0, .slice none 0 0, .slice none 0 0, .int .i64 0]), 8, 128) := by kernel_rfl
set_option maxHeartbeats 800000 in
theorem szVoter_any (v : Value) (u : Vtr) (l : Int) (w : World) (S : Nat → Prop) (h3 : -1 ≤ l) (h4 : l ≤ 1048576) (hv : VtrAt w S v u) (hS : ∀ g, S g → g < w.heap.size) (hf : FineVtr u) :
    Calls Try.prog 34 #[v, .int .i64 l] w fun e w' => ∃ q, e = .returned (.int .i64 q) ∧ -1 ≤ q ∧ q ≤ l ∧ Lf l (szVtr u) q ∧ Below w.heap.size w w' := by
  obtain ⟨f, rfl, y0, y1, y2, y3, y4, y5, y6, y7⟩ := hv
  try simp only [arrVtr]
  rw [show f 0 = _ from y0]
  clear y0
  rw [show f 1 = _ from y1]
  clear y1
  rw [show f 2 = _ from y2]
  clear y2
  obtain ⟨A3, c3, g3⟩ := y3.form
  rw [g3] at y3 ⊢
  have H3 := Seg.hid y3
  clear y3 g3
  obtain ⟨A4, c4, g4⟩ := y4.form
  rw [g4] at y4 ⊢
  have H4 := Seg.hid y4
  clear y4 g4
  obtain ⟨A5, c5, g5⟩ := y5.form
  rw [g5] at y5 ⊢
  have H5 := Seg.hid y5
  clear y5 g5
  obtain ⟨A6, c6, g6⟩ := y6.form
  rw [g6] at y6 ⊢
  have H6 := Seg.hid y6
  clear y6 g6
  rw [show f 7 = _ from y7]
  clear y7
  obtain ⟨z0, z1, z2, z3, z4, z5, z6, z7⟩ := hf
  have Z3 := Seg.hid z3
  have Z4 := Seg.hid z4
  have Z5 := Seg.hid z5
  have Z6 := Seg.hid z6
  clear z0 z1 z2 z3 z4 z5 z6 z7
  go_enter Try.func34, Try.ntmps34
  go_wp2_with fail
  refine (szIntS_any _ u.votes _ (w.alloc _) S (by omega) (by omega) (H3.out.below keepsI (below1 w _) hS)).mono ?_
  rintro e w1 ⟨q1, rfl, a1, b1, L1', d1⟩
  have B1 := Seg.hid (chain (below1 w _) d1)
  have L1 := Seg.hid L1'
  have T1 : Hid (w1.heap[w.heap.size]? = some (.cells #[.int .i64 u.term, .int .i64 u.vote, .int .i64 u.role, .slice A3 u.votes.length c3, .slice A4 u.log.length c4, .slice A5 u.next.length c5, .slice A6 u.mtch.length c6, .int .i64 u.sealed] 64 (0, 0))) := (d1.block w.heap.size (by rw [hsz]; omega)).trans (heap_alloc_new _ _)
  have s1 : w.heap.size < w1.heap.size := (Array.getElem?_eq_some_iff.1 T1.out).1
  have p14 : w1.cell? ⟨w.heap.size, 4, none⟩ = some (.slice A4 u.log.length c4) := cell_of_row w1 _ 4 _ _ (0, 0) T1.out
  have p15 : w1.cell? ⟨w.heap.size, 5, none⟩ = some (.slice A5 u.next.length c5) := cell_of_row w1 _ 5 _ _ (0, 0) T1.out
  have p16 : w1.cell? ⟨w.heap.size, 6, none⟩ = some (.slice A6 u.mtch.length c6) := cell_of_row w1 _ 6 _ _ (0, 0) T1.out
  clear d1 L1'
  by_cases k3 : q1 < 0
  · go_wp2
    go_ret
    exact ⟨_, rfl, by omega, by omega, by have m0 := L1.out.2 (by omega); simp only [szVtr]; exact ⟨fun _ => by omega, fun _ => by omega⟩, B1.out⟩
  go_wp2_with fail
  refine (szCommandS_any _ u.log _ w1 S (by omega) (by omega) (H4.out.below keepsCmd B1.out hS) (fun g hg => Nat.lt_of_lt_of_le (hS g hg) B1.out.size) Z4.out).mono ?_
  rintro e w2 ⟨q2, rfl, a2, b2, L2', d2⟩
  have B2 := Seg.hid (chain B1.out d2)
  have L2 := Seg.hid L2'
  have T2 : Hid (w2.heap[w.heap.size]? = some (.cells #[.int .i64 u.term, .int .i64 u.vote, .int .i64 u.role, .slice A3 u.votes.length c3, .slice A4 u.log.length c4, .slice A5 u.next.length c5, .slice A6 u.mtch.length c6, .int .i64 u.sealed] 64 (0, 0))) := (d2.block w.heap.size s1).trans T1.out
  have s2 : w.heap.size < w2.heap.size := (Array.getElem?_eq_some_iff.1 T2.out).1
  have p25 : w2.cell? ⟨w.heap.size, 5, none⟩ = some (.slice A5 u.next.length c5) := cell_of_row w2 _ 5 _ _ (0, 0) T2.out
  have p26 : w2.cell? ⟨w.heap.size, 6, none⟩ = some (.slice A6 u.mtch.length c6) := cell_of_row w2 _ 6 _ _ (0, 0) T2.out
  clear d2 L2'
  by_cases k4 : q2 < 0
  · go_wp2
    go_ret
    exact ⟨_, rfl, by omega, by omega, by have m0 := L1.out.1 (by omega); have m1 := L2.out.2 (by omega); simp only [szVtr]; exact ⟨fun _ => by omega, fun _ => by omega⟩, B2.out⟩
  go_wp2_with fail
  refine (szIntS_any _ u.next _ w2 S (by omega) (by omega) (H5.out.below keepsI B2.out hS)).mono ?_
  rintro e w3 ⟨q3, rfl, a3, b3, L3', d3⟩
  have B3 := Seg.hid (chain B2.out d3)
  have L3 := Seg.hid L3'
  have T3 : Hid (w3.heap[w.heap.size]? = some (.cells #[.int .i64 u.term, .int .i64 u.vote, .int .i64 u.role, .slice A3 u.votes.length c3, .slice A4 u.log.length c4, .slice A5 u.next.length c5, .slice A6 u.mtch.length c6, .int .i64 u.sealed] 64 (0, 0))) := (d3.block w.heap.size s2).trans T2.out
  have s3 : w.heap.size < w3.heap.size := (Array.getElem?_eq_some_iff.1 T3.out).1
  have p36 : w3.cell? ⟨w.heap.size, 6, none⟩ = some (.slice A6 u.mtch.length c6) := cell_of_row w3 _ 6 _ _ (0, 0) T3.out
  clear d3 L3'
  by_cases k5 : q3 < 0
  · go_wp2
    go_ret
    exact ⟨_, rfl, by omega, by omega, by have m0 := L1.out.1 (by omega); have m1 := L2.out.1 (by omega); have m2 := L3.out.2 (by omega); simp only [szVtr]; exact ⟨fun _ => by omega, fun _ => by omega⟩, B3.out⟩
  go_wp2_with fail
  refine (szIntS_any _ u.mtch _ w3 S (by omega) (by omega) (H6.out.below keepsI B3.out hS)).mono ?_
  rintro e w4 ⟨q4, rfl, a4, b4, L4', d4⟩
  have B4 := Seg.hid (chain B3.out d4)
  have L4 := Seg.hid L4'
  clear d4 L4'
  by_cases k6 : q4 < 0
  · go_wp2
    go_ret
    exact ⟨_, rfl, by omega, by omega, by have m0 := L1.out.1 (by omega); have m1 := L2.out.1 (by omega); have m2 := L3.out.1 (by omega); have m3 := L4.out.2 (by omega); simp only [szVtr]; exact ⟨fun _ => by omega, fun _ => by omega⟩, B4.out⟩
  go_wp2
  go_ret
  exact ⟨_, rfl, by omega, by omega, by have m0 := L1.out.1 (by omega); have m1 := L2.out.1 (by omega); have m2 := L3.out.1 (by omega); have m3 := L4.out.1 (by omega); simp only [szVtr]; exact ⟨fun _ => by omega, fun _ => by omega⟩, B4.out⟩
set_option maxHeartbeats 1600000 in
theorem toVoter_any (v : Value) (u : Vtr) (w : World) (S : Nat → Prop) (hv : VtrAt w S v u) (hS : ∀ g, S g → g < w.heap.size) (hf : szVtr u ≤ 1048576) :
    Calls Try.prog 36 #[v] w fun e w' => ∃ v', e = .returned v' ∧ VtrAt w' (seg w.heap.size w'.heap.size) v' u ∧ Below w.heap.size w w' := by
  obtain ⟨f, rfl, y0, y1, y2, y3, y4, y5, y6, y7⟩ := hv
  try simp only [arrVtr]
  rw [show f 0 = _ from y0]
  clear y0
  rw [show f 1 = _ from y1]
  clear y1
  rw [show f 2 = _ from y2]
  clear y2
  obtain ⟨A3, c3, g3⟩ := y3.form
  rw [g3] at y3 ⊢
  have H3 := Seg.hid y3
  clear y3 g3
  obtain ⟨A4, c4, g4⟩ := y4.form
  rw [g4] at y4 ⊢
  have H4 := Seg.hid y4
  clear y4 g4
  obtain ⟨A5, c5, g5⟩ := y5.form
  rw [g5] at y5 ⊢
  have H5 := Seg.hid y5
  clear y5 g5
  obtain ⟨A6, c6, g6⟩ := y6.form
  rw [g6] at y6 ⊢
  have H6 := Seg.hid y6
  clear y6 g6
  rw [show f 7 = _ from y7]
  clear y7
  unfold szVtr at hf
  go_enter Try.func36, Try.ntmps36
  go_wp2_with fail
  refine (toIntS_any _ u.votes (((w.alloc _).alloc _).alloc _) S (H3.out.below keepsI (below3 w _ _ _) hS) (fun g hg => by rw [hsz, hsz, hsz]; have := hS g hg; omega) (by omega)).mono ?_
  rintro e w1 ⟨v1, rfl, l1, b1⟩
  have B1 := Seg.hid (chain (below3 w _ _ _) b1)
  have Ta1 : Hid (w1.heap[w.heap.size]? = some (.cells #[.int .i64 u.term, .int .i64 u.vote, .int .i64 u.role, .slice A3 u.votes.length c3, .slice A4 u.log.length c4, .slice A5 u.next.length c5, .slice A6 u.mtch.length c6, .int .i64 u.sealed] 64 (0, 0))) := (b1.block w.heap.size (by rw [hsz, hsz, hsz]; omega)).trans (at3z w _ _ _)
  have Tr1 : Hid (w1.heap[w.heap.size + 1]? = some (.cells #[.int .i64 0, .int .i64 0, .int .i64 0, .slice none 0 0, .slice none 0 0, .slice none 0 0, .slice none 0 0, .int .i64 0] 45 (0, 0))) := (b1.block (w.heap.size + 1) (by rw [hsz, hsz, hsz]; omega)).trans (at3 w _ _ _)
  have To1 : Hid (w1.heap[w.heap.size + 1 + 1]? = some (.cells #[.int .i64 u.term, .int .i64 u.vote, .int .i64 u.role, .slice none 0 0, .slice none 0 0, .slice none 0 0, .slice none 0 0, .int .i64 0] 45 (0, 0))) := (b1.block (w.heap.size + 1 + 1) (by rw [hsz, hsz, hsz]; omega)).trans (Cells.at3' w _ _ _)
  have s1 : w.heap.size + 3 ≤ w1.heap.size := by have := b1.size; rw [hsz, hsz, hsz] at this; omega
  have M1 : Hid (IntsAt w1 (seg (w.heap.size + 3) w1.heap.size) v1 u.votes) := by
    rw [hsz, hsz, hsz] at l1
    exact l1
  obtain ⟨Y1, x1, r1⟩ := M1.out.form
  subst r1
  clear b1 l1
  have N11 := M1
  have pa14 : w1.cell? ⟨w.heap.size, 4, none⟩ = some (.slice A4 u.log.length c4) := cell_of_row w1 _ 4 _ _ (0, 0) Ta1.out
  have po13 : (w1).cell? ⟨w.heap.size + 1 + 1, 3, none⟩ = some (.slice none 0 0) := cell_of_row (w1) _ 3 _ _ (0, 0) (To1.out)
  have pf13 : (w1).frozen? ⟨w.heap.size + 1 + 1, 3, none⟩ = false := frozen_of_row (w1) _ 3 _ _ (To1.out)
  have qo13 : Hid (((w1.setCell ⟨w.heap.size + 1 + 1, 3, none⟩ (.slice Y1 u.votes.length x1))).heap[w.heap.size + 1 + 1]? = some (.cells #[.int .i64 u.term, .int .i64 u.vote, .int .i64 u.role, .slice Y1 u.votes.length x1, .slice none 0 0, .slice none 0 0, .slice none 0 0, .int .i64 0] 45 (0, 0))) := heap_setCell_same (w1) (w.heap.size + 1 + 1) 3 _ _ (.slice Y1 u.votes.length x1) (To1.out)
  have Uo1 := Seg.hid (qo13.out)
  have Ur1 := Seg.hid ((heap_setCell_other (w1) ⟨w.heap.size + 1 + 1, 3, none⟩ (w.heap.size + 1) (.slice Y1 u.votes.length x1) (by simp)).trans (Tr1.out))
  have Ua1 := Seg.hid ((heap_setCell_other (w1) ⟨w.heap.size + 1 + 1, 3, none⟩ w.heap.size (.slice Y1 u.votes.length x1) (by simp; omega)).trans (Ta1.out))
  have D1 : Hid (Below w.heap.size w (w1.setCell ⟨w.heap.size + 1 + 1, 3, none⟩ (.slice Y1 u.votes.length x1))) := (B1.out).setCell (p := ⟨w.heap.size + 1 + 1, 3, none⟩) (by simp; omega) (.slice Y1 u.votes.length x1)
  have N11' : Hid (IntsAt (w1.setCell ⟨w.heap.size + 1 + 1, 3, none⟩ (.slice Y1 u.votes.length x1)) (seg (w.heap.size + 3) w1.heap.size) (.slice Y1 u.votes.length x1) u.votes) := N11.out.keep keepsI (fun g hg => by have := hg.1; rw [heap_setCell_other _ _ _ _ (by show _ ≠ w.heap.size + 1 + 1; omega)])
  go_wp2_with fail
  refine (toCommandS_any _ u.log (w1.setCell ⟨w.heap.size + 1 + 1, 3, none⟩ (.slice Y1 u.votes.length x1)) S (H4.out.below keepsCmd D1.out hS) (fun g hg => Nat.lt_of_lt_of_le (hS g hg) D1.out.size) (by omega)).mono ?_
  rintro e w2 ⟨v2, rfl, l2, b2⟩
  have B2 := Seg.hid (chain D1.out b2)
  have z2 : (w1.setCell ⟨w.heap.size + 1 + 1, 3, none⟩ (.slice Y1 u.votes.length x1)).heap.size = w1.heap.size := by simp
  have Ta2 := Seg.hid ((b2.block w.heap.size (by omega)).trans Ua1.out)
  have Tr2 := Seg.hid ((b2.block (w.heap.size + 1) (by omega)).trans Ur1.out)
  have To2 := Seg.hid ((b2.block (w.heap.size + 1 + 1) (by omega)).trans Uo1.out)
  have s2 : w.heap.size + 3 ≤ w2.heap.size := by have := b2.size; omega
  have M2 : Hid (LAt 2 ECmd w2 (seg (w.heap.size + 3) w2.heap.size) v2 u.log) := l2.mono growsCmd (fun g hg => ⟨by have := hg.1; omega, hg.2⟩)
  have N21 : Hid (IntsAt w2 (seg (w.heap.size + 3) w2.heap.size) (.slice Y1 u.votes.length x1) u.votes) := ((N11'.out.keep keepsI (fun g hg => b2.block g (by have := hg.2; omega))).mono growsI (fun g hg => ⟨hg.1, by have := b2.size; have := hg.2; omega⟩))
  clear z2
  obtain ⟨Y2, x2, r2⟩ := M2.out.form
  subst r2
  clear b2 l2
  have N22 := M2
  have pa25 : w2.cell? ⟨w.heap.size, 5, none⟩ = some (.slice A5 u.next.length c5) := cell_of_row w2 _ 5 _ _ (0, 0) Ta2.out
  have po24 : (w2).cell? ⟨w.heap.size + 1 + 1, 4, none⟩ = some (.slice none 0 0) := cell_of_row (w2) _ 4 _ _ (0, 0) (To2.out)
  have pf24 : (w2).frozen? ⟨w.heap.size + 1 + 1, 4, none⟩ = false := frozen_of_row (w2) _ 4 _ _ (To2.out)
  have qo24 : Hid (((w2.setCell ⟨w.heap.size + 1 + 1, 4, none⟩ (.slice Y2 u.log.length x2))).heap[w.heap.size + 1 + 1]? = some (.cells #[.int .i64 u.term, .int .i64 u.vote, .int .i64 u.role, .slice Y1 u.votes.length x1, .slice Y2 u.log.length x2, .slice none 0 0, .slice none 0 0, .int .i64 0] 45 (0, 0))) := heap_setCell_same (w2) (w.heap.size + 1 + 1) 4 _ _ (.slice Y2 u.log.length x2) (To2.out)
  have Uo2 := Seg.hid (qo24.out)
  have Ur2 := Seg.hid ((heap_setCell_other (w2) ⟨w.heap.size + 1 + 1, 4, none⟩ (w.heap.size + 1) (.slice Y2 u.log.length x2) (by simp)).trans (Tr2.out))
  have Ua2 := Seg.hid ((heap_setCell_other (w2) ⟨w.heap.size + 1 + 1, 4, none⟩ w.heap.size (.slice Y2 u.log.length x2) (by simp; omega)).trans (Ta2.out))
  have D2 : Hid (Below w.heap.size w (w2.setCell ⟨w.heap.size + 1 + 1, 4, none⟩ (.slice Y2 u.log.length x2))) := (B2.out).setCell (p := ⟨w.heap.size + 1 + 1, 4, none⟩) (by simp; omega) (.slice Y2 u.log.length x2)
  have N21' : Hid (IntsAt (w2.setCell ⟨w.heap.size + 1 + 1, 4, none⟩ (.slice Y2 u.log.length x2)) (seg (w.heap.size + 3) w2.heap.size) (.slice Y1 u.votes.length x1) u.votes) := N21.out.keep keepsI (fun g hg => by have := hg.1; rw [heap_setCell_other _ _ _ _ (by show _ ≠ w.heap.size + 1 + 1; omega)])
  have N22' : Hid (LAt 2 ECmd (w2.setCell ⟨w.heap.size + 1 + 1, 4, none⟩ (.slice Y2 u.log.length x2)) (seg (w.heap.size + 3) w2.heap.size) (.slice Y2 u.log.length x2) u.log) := N22.out.keep keepsCmd (fun g hg => by have := hg.1; rw [heap_setCell_other _ _ _ _ (by show _ ≠ w.heap.size + 1 + 1; omega)])
  go_wp2_with fail
  refine (toIntS_any _ u.next (w2.setCell ⟨w.heap.size + 1 + 1, 4, none⟩ (.slice Y2 u.log.length x2)) S (H5.out.below keepsI D2.out hS) (fun g hg => Nat.lt_of_lt_of_le (hS g hg) D2.out.size) (by omega)).mono ?_
  rintro e w3 ⟨v3, rfl, l3, b3⟩
  have B3 := Seg.hid (chain D2.out b3)
  have z3 : (w2.setCell ⟨w.heap.size + 1 + 1, 4, none⟩ (.slice Y2 u.log.length x2)).heap.size = w2.heap.size := by simp
  have Ta3 := Seg.hid ((b3.block w.heap.size (by omega)).trans Ua2.out)
  have Tr3 := Seg.hid ((b3.block (w.heap.size + 1) (by omega)).trans Ur2.out)
  have To3 := Seg.hid ((b3.block (w.heap.size + 1 + 1) (by omega)).trans Uo2.out)
  have s3 : w.heap.size + 3 ≤ w3.heap.size := by have := b3.size; omega
  have M3 : Hid (IntsAt w3 (seg (w.heap.size + 3) w3.heap.size) v3 u.next) := l3.mono growsI (fun g hg => ⟨by have := hg.1; omega, hg.2⟩)
  have N31 : Hid (IntsAt w3 (seg (w.heap.size + 3) w3.heap.size) (.slice Y1 u.votes.length x1) u.votes) := ((N21'.out.keep keepsI (fun g hg => b3.block g (by have := hg.2; omega))).mono growsI (fun g hg => ⟨hg.1, by have := b3.size; have := hg.2; omega⟩))
  have N32 : Hid (LAt 2 ECmd w3 (seg (w.heap.size + 3) w3.heap.size) (.slice Y2 u.log.length x2) u.log) := ((N22'.out.keep keepsCmd (fun g hg => b3.block g (by have := hg.2; omega))).mono growsCmd (fun g hg => ⟨hg.1, by have := b3.size; have := hg.2; omega⟩))
  clear z3
  obtain ⟨Y3, x3, r3⟩ := M3.out.form
  subst r3
  clear b3 l3
  have N33 := M3
  have pa36 : w3.cell? ⟨w.heap.size, 6, none⟩ = some (.slice A6 u.mtch.length c6) := cell_of_row w3 _ 6 _ _ (0, 0) Ta3.out
  have po35 : (w3).cell? ⟨w.heap.size + 1 + 1, 5, none⟩ = some (.slice none 0 0) := cell_of_row (w3) _ 5 _ _ (0, 0) (To3.out)
  have pf35 : (w3).frozen? ⟨w.heap.size + 1 + 1, 5, none⟩ = false := frozen_of_row (w3) _ 5 _ _ (To3.out)
  have qo35 : Hid (((w3.setCell ⟨w.heap.size + 1 + 1, 5, none⟩ (.slice Y3 u.next.length x3))).heap[w.heap.size + 1 + 1]? = some (.cells #[.int .i64 u.term, .int .i64 u.vote, .int .i64 u.role, .slice Y1 u.votes.length x1, .slice Y2 u.log.length x2, .slice Y3 u.next.length x3, .slice none 0 0, .int .i64 0] 45 (0, 0))) := heap_setCell_same (w3) (w.heap.size + 1 + 1) 5 _ _ (.slice Y3 u.next.length x3) (To3.out)
  have Uo3 := Seg.hid (qo35.out)
  have Ur3 := Seg.hid ((heap_setCell_other (w3) ⟨w.heap.size + 1 + 1, 5, none⟩ (w.heap.size + 1) (.slice Y3 u.next.length x3) (by simp)).trans (Tr3.out))
  have Ua3 := Seg.hid ((heap_setCell_other (w3) ⟨w.heap.size + 1 + 1, 5, none⟩ w.heap.size (.slice Y3 u.next.length x3) (by simp; omega)).trans (Ta3.out))
  have D3 : Hid (Below w.heap.size w (w3.setCell ⟨w.heap.size + 1 + 1, 5, none⟩ (.slice Y3 u.next.length x3))) := (B3.out).setCell (p := ⟨w.heap.size + 1 + 1, 5, none⟩) (by simp; omega) (.slice Y3 u.next.length x3)
  have N31' : Hid (IntsAt (w3.setCell ⟨w.heap.size + 1 + 1, 5, none⟩ (.slice Y3 u.next.length x3)) (seg (w.heap.size + 3) w3.heap.size) (.slice Y1 u.votes.length x1) u.votes) := N31.out.keep keepsI (fun g hg => by have := hg.1; rw [heap_setCell_other _ _ _ _ (by show _ ≠ w.heap.size + 1 + 1; omega)])
  have N32' : Hid (LAt 2 ECmd (w3.setCell ⟨w.heap.size + 1 + 1, 5, none⟩ (.slice Y3 u.next.length x3)) (seg (w.heap.size + 3) w3.heap.size) (.slice Y2 u.log.length x2) u.log) := N32.out.keep keepsCmd (fun g hg => by have := hg.1; rw [heap_setCell_other _ _ _ _ (by show _ ≠ w.heap.size + 1 + 1; omega)])
  have N33' : Hid (IntsAt (w3.setCell ⟨w.heap.size + 1 + 1, 5, none⟩ (.slice Y3 u.next.length x3)) (seg (w.heap.size + 3) w3.heap.size) (.slice Y3 u.next.length x3) u.next) := N33.out.keep keepsI (fun g hg => by have := hg.1; rw [heap_setCell_other _ _ _ _ (by show _ ≠ w.heap.size + 1 + 1; omega)])
  go_wp2_with fail
  refine (toIntS_any _ u.mtch (w3.setCell ⟨w.heap.size + 1 + 1, 5, none⟩ (.slice Y3 u.next.length x3)) S (H6.out.below keepsI D3.out hS) (fun g hg => Nat.lt_of_lt_of_le (hS g hg) D3.out.size) (by omega)).mono ?_
  rintro e w4 ⟨v4, rfl, l4, b4⟩
  have B4 := Seg.hid (chain D3.out b4)
  have z4 : (w3.setCell ⟨w.heap.size + 1 + 1, 5, none⟩ (.slice Y3 u.next.length x3)).heap.size = w3.heap.size := by simp
  have Ta4 := Seg.hid ((b4.block w.heap.size (by omega)).trans Ua3.out)
  have Tr4 := Seg.hid ((b4.block (w.heap.size + 1) (by omega)).trans Ur3.out)
  have To4 := Seg.hid ((b4.block (w.heap.size + 1 + 1) (by omega)).trans Uo3.out)
  have s4 : w.heap.size + 3 ≤ w4.heap.size := by have := b4.size; omega
  have M4 : Hid (IntsAt w4 (seg (w.heap.size + 3) w4.heap.size) v4 u.mtch) := l4.mono growsI (fun g hg => ⟨by have := hg.1; omega, hg.2⟩)
  have N41 : Hid (IntsAt w4 (seg (w.heap.size + 3) w4.heap.size) (.slice Y1 u.votes.length x1) u.votes) := ((N31'.out.keep keepsI (fun g hg => b4.block g (by have := hg.2; omega))).mono growsI (fun g hg => ⟨hg.1, by have := b4.size; have := hg.2; omega⟩))
  have N42 : Hid (LAt 2 ECmd w4 (seg (w.heap.size + 3) w4.heap.size) (.slice Y2 u.log.length x2) u.log) := ((N32'.out.keep keepsCmd (fun g hg => b4.block g (by have := hg.2; omega))).mono growsCmd (fun g hg => ⟨hg.1, by have := b4.size; have := hg.2; omega⟩))
  have N43 : Hid (IntsAt w4 (seg (w.heap.size + 3) w4.heap.size) (.slice Y3 u.next.length x3) u.next) := ((N33'.out.keep keepsI (fun g hg => b4.block g (by have := hg.2; omega))).mono growsI (fun g hg => ⟨hg.1, by have := b4.size; have := hg.2; omega⟩))
  clear z4
  obtain ⟨Y4, x4, r4⟩ := M4.out.form
  subst r4
  clear b4 l4
  have N44 := M4
  have pa47 : w4.cell? ⟨w.heap.size, 7, none⟩ = some (.int .i64 u.sealed) := cell_of_row w4 _ 7 _ _ (0, 0) Ta4.out
  have po46 : (w4).cell? ⟨w.heap.size + 1 + 1, 6, none⟩ = some (.slice none 0 0) := cell_of_row (w4) _ 6 _ _ (0, 0) (To4.out)
  have pf46 : (w4).frozen? ⟨w.heap.size + 1 + 1, 6, none⟩ = false := frozen_of_row (w4) _ 6 _ _ (To4.out)
  have qo46 : Hid (((w4.setCell ⟨w.heap.size + 1 + 1, 6, none⟩ (.slice Y4 u.mtch.length x4))).heap[w.heap.size + 1 + 1]? = some (.cells #[.int .i64 u.term, .int .i64 u.vote, .int .i64 u.role, .slice Y1 u.votes.length x1, .slice Y2 u.log.length x2, .slice Y3 u.next.length x3, .slice Y4 u.mtch.length x4, .int .i64 0] 45 (0, 0))) := heap_setCell_same (w4) (w.heap.size + 1 + 1) 6 _ _ (.slice Y4 u.mtch.length x4) (To4.out)
  have po47 : ((w4.setCell ⟨w.heap.size + 1 + 1, 6, none⟩ (.slice Y4 u.mtch.length x4))).cell? ⟨w.heap.size + 1 + 1, 7, none⟩ = some (.int .i64 0) := cell_of_row ((w4.setCell ⟨w.heap.size + 1 + 1, 6, none⟩ (.slice Y4 u.mtch.length x4))) _ 7 _ _ (0, 0) (qo46.out)
  have pf47 : ((w4.setCell ⟨w.heap.size + 1 + 1, 6, none⟩ (.slice Y4 u.mtch.length x4))).frozen? ⟨w.heap.size + 1 + 1, 7, none⟩ = false := frozen_of_row ((w4.setCell ⟨w.heap.size + 1 + 1, 6, none⟩ (.slice Y4 u.mtch.length x4))) _ 7 _ _ (qo46.out)
  have qo47 : Hid ((((w4.setCell ⟨w.heap.size + 1 + 1, 6, none⟩ (.slice Y4 u.mtch.length x4)).setCell ⟨w.heap.size + 1 + 1, 7, none⟩ (.int .i64 u.sealed))).heap[w.heap.size + 1 + 1]? = some (.cells #[.int .i64 u.term, .int .i64 u.vote, .int .i64 u.role, .slice Y1 u.votes.length x1, .slice Y2 u.log.length x2, .slice Y3 u.next.length x3, .slice Y4 u.mtch.length x4, .int .i64 u.sealed] 45 (0, 0))) := heap_setCell_same ((w4.setCell ⟨w.heap.size + 1 + 1, 6, none⟩ (.slice Y4 u.mtch.length x4))) (w.heap.size + 1 + 1) 7 _ _ (.int .i64 u.sealed) (qo46.out)
  have Uo4 := Seg.hid (qo47.out)
  have Ur4 := Seg.hid ((heap_setCell_other ((w4.setCell ⟨w.heap.size + 1 + 1, 6, none⟩ (.slice Y4 u.mtch.length x4))) ⟨w.heap.size + 1 + 1, 7, none⟩ (w.heap.size + 1) (.int .i64 u.sealed) (by simp)).trans ((heap_setCell_other (w4) ⟨w.heap.size + 1 + 1, 6, none⟩ (w.heap.size + 1) (.slice Y4 u.mtch.length x4) (by simp)).trans (Tr4.out)))
  have Ua4 := Seg.hid ((heap_setCell_other ((w4.setCell ⟨w.heap.size + 1 + 1, 6, none⟩ (.slice Y4 u.mtch.length x4))) ⟨w.heap.size + 1 + 1, 7, none⟩ w.heap.size (.int .i64 u.sealed) (by simp; omega)).trans ((heap_setCell_other (w4) ⟨w.heap.size + 1 + 1, 6, none⟩ w.heap.size (.slice Y4 u.mtch.length x4) (by simp; omega)).trans (Ta4.out)))
  have D4 : Hid (Below w.heap.size w ((w4.setCell ⟨w.heap.size + 1 + 1, 6, none⟩ (.slice Y4 u.mtch.length x4)).setCell ⟨w.heap.size + 1 + 1, 7, none⟩ (.int .i64 u.sealed))) := ((B4.out).setCell (p := ⟨w.heap.size + 1 + 1, 6, none⟩) (by simp; omega) (.slice Y4 u.mtch.length x4)).setCell (p := ⟨w.heap.size + 1 + 1, 7, none⟩) (by simp; omega) (.int .i64 u.sealed)
  have N41' : Hid (IntsAt ((w4.setCell ⟨w.heap.size + 1 + 1, 6, none⟩ (.slice Y4 u.mtch.length x4)).setCell ⟨w.heap.size + 1 + 1, 7, none⟩ (.int .i64 u.sealed)) (seg (w.heap.size + 3) w4.heap.size) (.slice Y1 u.votes.length x1) u.votes) := N41.out.keep keepsI (fun g hg => by have := hg.1; rw [heap_setCell_other _ _ _ _ (by show _ ≠ w.heap.size + 1 + 1; omega), heap_setCell_other _ _ _ _ (by show _ ≠ w.heap.size + 1 + 1; omega)])
  have N42' : Hid (LAt 2 ECmd ((w4.setCell ⟨w.heap.size + 1 + 1, 6, none⟩ (.slice Y4 u.mtch.length x4)).setCell ⟨w.heap.size + 1 + 1, 7, none⟩ (.int .i64 u.sealed)) (seg (w.heap.size + 3) w4.heap.size) (.slice Y2 u.log.length x2) u.log) := N42.out.keep keepsCmd (fun g hg => by have := hg.1; rw [heap_setCell_other _ _ _ _ (by show _ ≠ w.heap.size + 1 + 1; omega), heap_setCell_other _ _ _ _ (by show _ ≠ w.heap.size + 1 + 1; omega)])
  have N43' : Hid (IntsAt ((w4.setCell ⟨w.heap.size + 1 + 1, 6, none⟩ (.slice Y4 u.mtch.length x4)).setCell ⟨w.heap.size + 1 + 1, 7, none⟩ (.int .i64 u.sealed)) (seg (w.heap.size + 3) w4.heap.size) (.slice Y3 u.next.length x3) u.next) := N43.out.keep keepsI (fun g hg => by have := hg.1; rw [heap_setCell_other _ _ _ _ (by show _ ≠ w.heap.size + 1 + 1; omega), heap_setCell_other _ _ _ _ (by show _ ≠ w.heap.size + 1 + 1; omega)])
  have N44' : Hid (IntsAt ((w4.setCell ⟨w.heap.size + 1 + 1, 6, none⟩ (.slice Y4 u.mtch.length x4)).setCell ⟨w.heap.size + 1 + 1, 7, none⟩ (.int .i64 u.sealed)) (seg (w.heap.size + 3) w4.heap.size) (.slice Y4 u.mtch.length x4) u.mtch) := N44.out.keep keepsI (fun g hg => by have := hg.1; rw [heap_setCell_other _ _ _ _ (by show _ ≠ w.heap.size + 1 + 1; omega), heap_setCell_other _ _ _ _ (by show _ ≠ w.heap.size + 1 + 1; omega)])
  obtain ⟨fx, hfx⟩ : ∃ fx : Nat → Value, fx = (fun q => if q = 0 then .int .i64 u.term else if q = 1 then .int .i64 u.vote else if q = 2 then .int .i64 u.role else if q = 3 then .slice Y1 u.votes.length x1 else if q = 4 then .slice Y2 u.log.length x2 else if q = 5 then .slice Y3 u.next.length x3 else if q = 6 then .slice Y4 u.mtch.length x4 else .int .i64 u.sealed) := ⟨_, rfl⟩
  have HX := Seg.hid hfx
  have Uz : Hid (((w4.setCell ⟨w.heap.size + 1 + 1, 6, none⟩ (.slice Y4 u.mtch.length x4)).setCell ⟨w.heap.size + 1 + 1, 7, none⟩ (.int .i64 u.sealed)).heap[w.heap.size + 1 + 1]? = some (.cells (arrVtr fx) 45 (0, 0))) := by
    show _ = _
    rw [hfx]
    exact Uo4.out
  clear hfx
  have H5a := Cells.there_of Ur4.out
  have H5 : Hid (((w4.setCell ⟨w.heap.size + 1 + 1, 6, none⟩ (.slice Y4 u.mtch.length x4)).setCell ⟨w.heap.size + 1 + 1, 7, none⟩ (.int .i64 u.sealed)).there (w.heap.size + 1) 0 (arrVtr fx).size) := H5a
  clear H5a
  have H4 := Seg.hid (Cells.whole (vs := arrVtr fx) Ur4.out rfl)
  have B9 := Seg.hid (Cells.below_setCells (g := w.heap.size + 1) (by omega) (arrVtr fx).toList 0 _ _ D4.out)
  have F1 : Hid (IntsAt (((w4.setCell ⟨w.heap.size + 1 + 1, 6, none⟩ (.slice Y4 u.mtch.length x4)).setCell ⟨w.heap.size + 1 + 1, 7, none⟩ (.int .i64 u.sealed)).setCells (w.heap.size + 1) 0 (arrVtr fx).toList) (seg w.heap.size (((w4.setCell ⟨w.heap.size + 1 + 1, 6, none⟩ (.slice Y4 u.mtch.length x4)).setCell ⟨w.heap.size + 1 + 1, 7, none⟩ (.int .i64 u.sealed)).setCells (w.heap.size + 1) 0 (arrVtr fx).toList).heap.size) (fx 3) u.votes) := by
    show IntsAt _ _ _ _
    rw [show fx 3 = .slice Y1 u.votes.length x1 by rw [HX.out]; rfl]
    refine (N41'.out.keep keepsI (fun g hg => ?_)).mono growsI (fun g hg => ⟨by have := hg.1; omega, ?_⟩)
    · have := hg.1
      rw [Cells.heap_setCells_other _ _ (by omega)]
    · rw [Cells.size_setCells]
      have := hg.2
      simpa using this
  have F2 : Hid (LAt 2 ECmd (((w4.setCell ⟨w.heap.size + 1 + 1, 6, none⟩ (.slice Y4 u.mtch.length x4)).setCell ⟨w.heap.size + 1 + 1, 7, none⟩ (.int .i64 u.sealed)).setCells (w.heap.size + 1) 0 (arrVtr fx).toList) (seg w.heap.size (((w4.setCell ⟨w.heap.size + 1 + 1, 6, none⟩ (.slice Y4 u.mtch.length x4)).setCell ⟨w.heap.size + 1 + 1, 7, none⟩ (.int .i64 u.sealed)).setCells (w.heap.size + 1) 0 (arrVtr fx).toList).heap.size) (fx 4) u.log) := by
    show LAt 2 ECmd _ _ _ _
    rw [show fx 4 = .slice Y2 u.log.length x2 by rw [HX.out]; rfl]
    refine (N42'.out.keep keepsCmd (fun g hg => ?_)).mono growsCmd (fun g hg => ⟨by have := hg.1; omega, ?_⟩)
    · have := hg.1
      rw [Cells.heap_setCells_other _ _ (by omega)]
    · rw [Cells.size_setCells]
      have := hg.2
      simpa using this
  have F3 : Hid (IntsAt (((w4.setCell ⟨w.heap.size + 1 + 1, 6, none⟩ (.slice Y4 u.mtch.length x4)).setCell ⟨w.heap.size + 1 + 1, 7, none⟩ (.int .i64 u.sealed)).setCells (w.heap.size + 1) 0 (arrVtr fx).toList) (seg w.heap.size (((w4.setCell ⟨w.heap.size + 1 + 1, 6, none⟩ (.slice Y4 u.mtch.length x4)).setCell ⟨w.heap.size + 1 + 1, 7, none⟩ (.int .i64 u.sealed)).setCells (w.heap.size + 1) 0 (arrVtr fx).toList).heap.size) (fx 5) u.next) := by
    show IntsAt _ _ _ _
    rw [show fx 5 = .slice Y3 u.next.length x3 by rw [HX.out]; rfl]
    refine (N43'.out.keep keepsI (fun g hg => ?_)).mono growsI (fun g hg => ⟨by have := hg.1; omega, ?_⟩)
    · have := hg.1
      rw [Cells.heap_setCells_other _ _ (by omega)]
    · rw [Cells.size_setCells]
      have := hg.2
      simpa using this
  have F4 : Hid (IntsAt (((w4.setCell ⟨w.heap.size + 1 + 1, 6, none⟩ (.slice Y4 u.mtch.length x4)).setCell ⟨w.heap.size + 1 + 1, 7, none⟩ (.int .i64 u.sealed)).setCells (w.heap.size + 1) 0 (arrVtr fx).toList) (seg w.heap.size (((w4.setCell ⟨w.heap.size + 1 + 1, 6, none⟩ (.slice Y4 u.mtch.length x4)).setCell ⟨w.heap.size + 1 + 1, 7, none⟩ (.int .i64 u.sealed)).setCells (w.heap.size + 1) 0 (arrVtr fx).toList).heap.size) (fx 6) u.mtch) := by
    show IntsAt _ _ _ _
    rw [show fx 6 = .slice Y4 u.mtch.length x4 by rw [HX.out]; rfl]
    refine (N44'.out.keep keepsI (fun g hg => ?_)).mono growsI (fun g hg => ⟨by have := hg.1; omega, ?_⟩)
    · have := hg.1
      rw [Cells.heap_setCells_other _ _ (by omega)]
    · rw [Cells.size_setCells]
      have := hg.2
      simpa using this
  have EX : Hid (EVtr (((w4.setCell ⟨w.heap.size + 1 + 1, 6, none⟩ (.slice Y4 u.mtch.length x4)).setCell ⟨w.heap.size + 1 + 1, 7, none⟩ (.int .i64 u.sealed)).setCells (w.heap.size + 1) 0 (arrVtr fx).toList) (seg w.heap.size (((w4.setCell ⟨w.heap.size + 1 + 1, 6, none⟩ (.slice Y4 u.mtch.length x4)).setCell ⟨w.heap.size + 1 + 1, 7, none⟩ (.int .i64 u.sealed)).setCells (w.heap.size + 1) 0 (arrVtr fx).toList).heap.size) fx u) := ⟨by rw [HX.out]; rfl, by rw [HX.out]; rfl, by rw [HX.out]; rfl, F1.out, F2.out, F3.out, F4.out, by rw [HX.out]; rfl⟩
  have ON := Seg.hid (oneVtr EX.out)
  clear Ta1 Tr1 To1 Ua1 M1 Ta2 Tr2 To2 Ua2 M2 Ta3 Tr3 To3 Ua3 M3 Ta4 Tr4 To4 Ua4 M4
  go_upto_region 10 with fail
  clear po46 pf46 po47 pf47
  generalize ((w4.setCell ⟨w.heap.size + 1 + 1, 6, none⟩ (.slice Y4 u.mtch.length x4)).setCell ⟨w.heap.size + 1 + 1, 7, none⟩ (.int .i64 u.sealed)) = wz at *
  go_wp2_with (first | (refine wpList_load_row rfl 45 _ rfl (w.heap.size + 1 + 1) rfl _ _ _ _ Uz.out Try.underlying45 rfl infoVtr ?_) | (refine wpList_store_mid rfl 45 _ _ rfl (w.heap.size + 1) 0 (arrVtr fx) rfl rfl H5.out infoVtr ON.out ?_))
  exact bodyPost_ret (v := .agg (arrVtr fx)) (results_cell_row rfl _ _ (w.heap.size + 1) _ _ _ _ rfl H4.out Try.underlying45 rfl infoVtr) rfl ⟨_, rfl, ⟨fx, rfl, EX.out⟩, B9.out⟩
set_option maxHeartbeats 1600000 in
theorem eqVoter_any (v v' : Value) (u : Vtr) (w : World) (S S' : Nat → Prop) (hv : VtrAt w S v u) (hv' : VtrAt w S' v' u) (hS : ∀ g, S g → g < w.heap.size) (hS' : ∀ g, S' g → g < w.heap.size) :
    Calls Try.prog 42 #[v, v'] w fun e w' => e = .returned (.bool true) ∧ Below w.heap.size w w' := by
  obtain ⟨f, rfl, y0, y1, y2, y3, y4, y5, y6, y7⟩ := hv
  obtain ⟨f', rfl, y0', y1', y2', y3', y4', y5', y6', y7'⟩ := hv'
  try simp only [arrVtr]
  rw [show f 0 = _ from y0]
  clear y0
  rw [show f 1 = _ from y1]
  clear y1
  rw [show f 2 = _ from y2]
  clear y2
  obtain ⟨A3, c3, g3⟩ := y3.form
  rw [g3] at y3 ⊢
  have H3 := Seg.hid y3
  clear y3 g3
  obtain ⟨A4, c4, g4⟩ := y4.form
  rw [g4] at y4 ⊢
  have H4 := Seg.hid y4
  clear y4 g4
  obtain ⟨A5, c5, g5⟩ := y5.form
  rw [g5] at y5 ⊢
  have H5 := Seg.hid y5
  clear y5 g5
  obtain ⟨A6, c6, g6⟩ := y6.form
  rw [g6] at y6 ⊢
  have H6 := Seg.hid y6
  clear y6 g6
  rw [show f 7 = _ from y7]
  clear y7
  try simp only [arrVtr]
  rw [show f' 0 = _ from y0']
  clear y0'
  rw [show f' 1 = _ from y1']
  clear y1'
  rw [show f' 2 = _ from y2']
  clear y2'
  obtain ⟨A3', c3', g3'⟩ := y3'.form
  rw [g3'] at y3' ⊢
  have H3' := Seg.hid y3'
  clear y3' g3'
  obtain ⟨A4', c4', g4'⟩ := y4'.form
  rw [g4'] at y4' ⊢
  have H4' := Seg.hid y4'
  clear y4' g4'
  obtain ⟨A5', c5', g5'⟩ := y5'.form
  rw [g5'] at y5' ⊢
  have H5' := Seg.hid y5'
  clear y5' g5'
  obtain ⟨A6', c6', g6'⟩ := y6'.form
  rw [g6'] at y6' ⊢
  have H6' := Seg.hid y6'
  clear y6' g6'
  rw [show f' 7 = _ from y7']
  clear y7'
  go_enter Try.func42, Try.ntmps42
  go_wp2_with fail
  refine (eqIntS_any _ _ u.votes ((w.alloc _).alloc _) S S' (H3.out.below keepsI (below2 w _ _) hS) (H3'.out.below keepsI (below2 w _ _) hS') (fun g hg => by rw [hsz, hsz]; have := hS g hg; omega) (fun g hg => by rw [hsz, hsz]; have := hS' g hg; omega)).mono ?_
  rintro e w1 ⟨rfl, b1⟩
  have B1 := Seg.hid (chain (below2 w _ _) b1)
  have Ta1 : Hid (w1.heap[w.heap.size]? = some (.cells #[.int .i64 u.term, .int .i64 u.vote, .int .i64 u.role, .slice A3 u.votes.length c3, .slice A4 u.log.length c4, .slice A5 u.next.length c5, .slice A6 u.mtch.length c6, .int .i64 u.sealed] 45 (0, 0))) := (b1.block w.heap.size (by rw [hsz, hsz]; omega)).trans (at2z w _ _)
  have Tb1 : Hid (w1.heap[w.heap.size + 1]? = some (.cells #[.int .i64 u.term, .int .i64 u.vote, .int .i64 u.role, .slice A3' u.votes.length c3', .slice A4' u.log.length c4', .slice A5' u.next.length c5', .slice A6' u.mtch.length c6', .int .i64 u.sealed] 45 (0, 0))) := (b1.block (w.heap.size + 1) (by rw [hsz, hsz]; omega)).trans (at2y w _ _)
  have s1 : w.heap.size + 1 < w1.heap.size := (Array.getElem?_eq_some_iff.1 Tb1.out).1
  have pa14 : w1.cell? ⟨w.heap.size, 4, none⟩ = some (.slice A4 u.log.length c4) := cell_of_row w1 _ 4 _ _ (0, 0) Ta1.out
  have pb14 : w1.cell? ⟨w.heap.size + 1, 4, none⟩ = some (.slice A4' u.log.length c4') := cell_of_row w1 _ 4 _ _ (0, 0) Tb1.out
  clear b1
  go_wp2_with fail
  refine (eqCommandS_any _ _ u.log w1 S S' (H4.out.below keepsCmd B1.out hS) (H4'.out.below keepsCmd B1.out hS') (fun g hg => Nat.lt_of_lt_of_le (hS g hg) B1.out.size) (fun g hg => Nat.lt_of_lt_of_le (hS' g hg) B1.out.size)).mono ?_
  rintro e w2 ⟨rfl, b2⟩
  have B2 := Seg.hid (chain B1.out b2)
  have Ta2 : Hid (w2.heap[w.heap.size]? = some (.cells #[.int .i64 u.term, .int .i64 u.vote, .int .i64 u.role, .slice A3 u.votes.length c3, .slice A4 u.log.length c4, .slice A5 u.next.length c5, .slice A6 u.mtch.length c6, .int .i64 u.sealed] 45 (0, 0))) := (b2.block w.heap.size (by omega)).trans Ta1.out
  have Tb2 : Hid (w2.heap[w.heap.size + 1]? = some (.cells #[.int .i64 u.term, .int .i64 u.vote, .int .i64 u.role, .slice A3' u.votes.length c3', .slice A4' u.log.length c4', .slice A5' u.next.length c5', .slice A6' u.mtch.length c6', .int .i64 u.sealed] 45 (0, 0))) := (b2.block (w.heap.size + 1) (by omega)).trans Tb1.out
  have s2 : w.heap.size + 1 < w2.heap.size := (Array.getElem?_eq_some_iff.1 Tb2.out).1
  have pa25 : w2.cell? ⟨w.heap.size, 5, none⟩ = some (.slice A5 u.next.length c5) := cell_of_row w2 _ 5 _ _ (0, 0) Ta2.out
  have pb25 : w2.cell? ⟨w.heap.size + 1, 5, none⟩ = some (.slice A5' u.next.length c5') := cell_of_row w2 _ 5 _ _ (0, 0) Tb2.out
  clear b2
  go_wp2_with fail
  refine (eqIntS_any _ _ u.next w2 S S' (H5.out.below keepsI B2.out hS) (H5'.out.below keepsI B2.out hS') (fun g hg => Nat.lt_of_lt_of_le (hS g hg) B2.out.size) (fun g hg => Nat.lt_of_lt_of_le (hS' g hg) B2.out.size)).mono ?_
  rintro e w3 ⟨rfl, b3⟩
  have B3 := Seg.hid (chain B2.out b3)
  have Ta3 : Hid (w3.heap[w.heap.size]? = some (.cells #[.int .i64 u.term, .int .i64 u.vote, .int .i64 u.role, .slice A3 u.votes.length c3, .slice A4 u.log.length c4, .slice A5 u.next.length c5, .slice A6 u.mtch.length c6, .int .i64 u.sealed] 45 (0, 0))) := (b3.block w.heap.size (by omega)).trans Ta2.out
  have Tb3 : Hid (w3.heap[w.heap.size + 1]? = some (.cells #[.int .i64 u.term, .int .i64 u.vote, .int .i64 u.role, .slice A3' u.votes.length c3', .slice A4' u.log.length c4', .slice A5' u.next.length c5', .slice A6' u.mtch.length c6', .int .i64 u.sealed] 45 (0, 0))) := (b3.block (w.heap.size + 1) (by omega)).trans Tb2.out
  have s3 : w.heap.size + 1 < w3.heap.size := (Array.getElem?_eq_some_iff.1 Tb3.out).1
  have pa36 : w3.cell? ⟨w.heap.size, 6, none⟩ = some (.slice A6 u.mtch.length c6) := cell_of_row w3 _ 6 _ _ (0, 0) Ta3.out
  have pb36 : w3.cell? ⟨w.heap.size + 1, 6, none⟩ = some (.slice A6' u.mtch.length c6') := cell_of_row w3 _ 6 _ _ (0, 0) Tb3.out
  clear b3
  go_wp2_with fail
  refine (eqIntS_any _ _ u.mtch w3 S S' (H6.out.below keepsI B3.out hS) (H6'.out.below keepsI B3.out hS') (fun g hg => Nat.lt_of_lt_of_le (hS g hg) B3.out.size) (fun g hg => Nat.lt_of_lt_of_le (hS' g hg) B3.out.size)).mono ?_
  rintro e w4 ⟨rfl, b4⟩
  have B4 := Seg.hid (chain B3.out b4)
  have Ta4 : Hid (w4.heap[w.heap.size]? = some (.cells #[.int .i64 u.term, .int .i64 u.vote, .int .i64 u.role, .slice A3 u.votes.length c3, .slice A4 u.log.length c4, .slice A5 u.next.length c5, .slice A6 u.mtch.length c6, .int .i64 u.sealed] 45 (0, 0))) := (b4.block w.heap.size (by omega)).trans Ta3.out
  have Tb4 : Hid (w4.heap[w.heap.size + 1]? = some (.cells #[.int .i64 u.term, .int .i64 u.vote, .int .i64 u.role, .slice A3' u.votes.length c3', .slice A4' u.log.length c4', .slice A5' u.next.length c5', .slice A6' u.mtch.length c6', .int .i64 u.sealed] 45 (0, 0))) := (b4.block (w.heap.size + 1) (by omega)).trans Tb3.out
  have s4 : w.heap.size + 1 < w4.heap.size := (Array.getElem?_eq_some_iff.1 Tb4.out).1
  have pa47 : w4.cell? ⟨w.heap.size, 7, none⟩ = some (.int .i64 u.sealed) := cell_of_row w4 _ 7 _ _ (0, 0) Ta4.out
  have pb47 : w4.cell? ⟨w.heap.size + 1, 7, none⟩ = some (.int .i64 u.sealed) := cell_of_row w4 _ 7 _ _ (0, 0) Tb4.out
  clear b4
  go_wp2
  go_ret
  exact ⟨rfl, B4.out⟩
end Go.Proofs.Ytdkfhjcockkleaa.Ls
