/- Member: how it lies in memory; what the law's measure and copier answer. -/
import Derived.Test.YtfdfhhiaalbfiaaLsT
import Derived.Test.YtfdfhhiaalbfiaaTSlts
namespace Go.Proofs.Ytfdfhhiaalbfiaa.Ls
set_option maxRecDepth 8000
open Go.RowKit
open Recs
set_option linter.unusedVariables false
structure Mbr where
  name : ByteArray
  sttc : ByteArray
  wants : List ByteArray
  beat : Int
  round : Int
  owns : List Slt
  target : List Slt
  deriving Inhabited
def EMbr : Elt Mbr := fun w S f u => f 0 = .string u.name ∧ f 1 = .string u.sttc ∧ StrsAt w S (f 2) u.wants ∧ f 3 = .int .i64 u.beat ∧ f 4 = .int .i64 u.round ∧ LAt 2 ESlt w S (f 5) u.owns ∧ LAt 2 ESlt w S (f 6) u.target
theorem keepsMbr : Keeps 7 EMbr := fun w w' S f f' t h hk hf => by
  obtain ⟨h0, h1, h2, h3, h4, h5, h6⟩ := h
  exact ⟨by rw [hf 0 (by omega)]; exact h0, by rw [hf 1 (by omega)]; exact h1, by rw [hf 2 (by omega)]; exact h2.keep keepsStr hk, by rw [hf 3 (by omega)]; exact h3, by rw [hf 4 (by omega)]; exact h4, by rw [hf 5 (by omega)]; exact h5.keep keepsSlt hk, by rw [hf 6 (by omega)]; exact h6.keep keepsSlt hk⟩
theorem growsMbr : Grows EMbr := fun w S S' f t h hs => by
  obtain ⟨h0, h1, h2, h3, h4, h5, h6⟩ := h
  exact ⟨h0, h1, h2.mono growsStr hs, h3, h4, h5.mono growsSlt hs, h6.mono growsSlt hs⟩
def arrMbr (f : Nat → Value) : Array Value := #[f 0, f 1, f 2, f 3, f 4, f 5, f 6]
theorem oneMbr {w : World} {S : Nat → Prop} {f : Nat → Value} {u : Mbr} (h : EMbr w S f u) : (arrMbr f).all (·.oneCell') = true := by
  obtain ⟨h0, h1, h2, h3, h4, h5, h6⟩ := h
  have o0 : (f 0).oneCell' = true := by rw [h0]; rfl
  have o1 : (f 1).oneCell' = true := by rw [h1]; rfl
  have o2 : (f 2).oneCell' = true := h2.one
  have o3 : (f 3).oneCell' = true := by rw [h3]; rfl
  have o4 : (f 4).oneCell' = true := by rw [h4]; rfl
  have o5 : (f 5).oneCell' = true := h5.one
  have o6 : (f 6).oneCell' = true := h6.one
  simp [arrMbr, o0, o1, o2, o3, o4, o5, o6]
def MbrAt (w : World) (S : Nat → Prop) (v : Value) (u : Mbr) : Prop := ∃ f, v = .agg (arrMbr f) ∧ EMbr w S f u
abbrev MbrsAt := LAt 7 EMbr
theorem MbrAt.keep {w w' : World} {S : Nat → Prop} {v : Value} {u : Mbr} (h : MbrAt w S v u) (hk : ∀ g, S g → w'.heap[g]? = w.heap[g]?) : MbrAt w' S v u := by
  obtain ⟨f, h1, h2⟩ := h
  exact ⟨f, h1, keepsMbr _ _ _ _ _ _ h2 hk (fun _ _ => rfl)⟩
theorem MbrAt.mono {w : World} {S S' : Nat → Prop} {v : Value} {u : Mbr} (h : MbrAt w S v u) (hs : ∀ g, S g → S' g) : MbrAt w S' v u := by
  obtain ⟨f, h1, h2⟩ := h
  exact ⟨f, h1, growsMbr _ _ _ _ _ h2 hs⟩
theorem MbrAt.below {w w' : World} {B : Nat} {S : Nat → Prop} {v : Value} {u : Mbr} (h : MbrAt w S v u) (hb : Below B w w') (hs : ∀ g, S g → g < B) : MbrAt w' S v u := h.keep fun g hg => hb.block g (hs g hg)
def szMbr (u : Mbr) : Nat := u.name.size + u.sttc.size + szL ByteArray.size (u.wants) + szL szSlt (u.owns) + szL szSlt (u.target)
def FineMbr (u : Mbr) : Prop := u.name.size ≤ maxLen ∧ u.sttc.size ≤ maxLen ∧ FineL FineStr u.wants ∧ I64 u.beat ∧ I64 u.round ∧ FineL FineSlt u.owns ∧ FineL FineSlt u.target
theorem infoMbr : (Try.prog.info? 67).map (·.size) = some 7 := by kernel_rfl
theorem infoLMbr : (Try.prog.info? 113).map (·.size) = some 7 := by kernel_rfl
theorem infoZMbr : (Try.prog.info? 67).map (fun i => (i.zero, i.size, i.bytes)) = some (some (.agg #[.string ByteArray.empty, .string ByteArray.empty, .slice none 0 0, .int .i64 0, .int .i64 0, .slice none 0 0, .slice none 0 0]), 7, 120) := by kernel_rfl
set_option maxHeartbeats 800000 in
theorem szMember_any (v : Value) (u : Mbr) (l : Int) (w : World) (S : Nat → Prop) (h3 : -1 ≤ l) (h4 : l ≤ 1048576) (hv : MbrAt w S v u) (hS : ∀ g, S g → g < w.heap.size) (hf : FineMbr u) :
    Calls Try.prog 66 #[v, .int .i64 l] w fun e w' => ∃ q, e = .returned (.int .i64 q) ∧ -1 ≤ q ∧ q ≤ l ∧ Lf l (szMbr u) q ∧ Below w.heap.size w w' := by
  obtain ⟨f, rfl, y0, y1, y2, y3, y4, y5, y6⟩ := hv
  try simp only [arrMbr]
  rw [show f 0 = _ from y0]
  clear y0
  rw [show f 1 = _ from y1]
  clear y1
  obtain ⟨A2, c2, g2⟩ := y2.form
  rw [g2] at y2 ⊢
  have H2 := Seg.hid y2
  clear y2 g2
  rw [show f 3 = _ from y3]
  clear y3
  rw [show f 4 = _ from y4]
  clear y4
  obtain ⟨A5, c5, g5⟩ := y5.form
  rw [g5] at y5 ⊢
  have H5 := Seg.hid y5
  clear y5 g5
  obtain ⟨A6, c6, g6⟩ := y6.form
  rw [g6] at y6 ⊢
  have H6 := Seg.hid y6
  clear y6 g6
  obtain ⟨z0, z1, z2, z3, z4, z5, z6⟩ := hf
  unfold maxLen at z0
  unfold maxLen at z1
  have Z2 := Seg.hid z2
  have Z5 := Seg.hid z5
  have Z6 := Seg.hid z6
  clear z2 z3 z4 z5 z6
  go_enter Try.func66, Try.ntmps66
  by_cases k0 : l - (u.name.size : Int) < 0
  · go_wp2
    go_ret
    exact ⟨_, rfl, by omega, by omega, by simp only [szMbr]; exact ⟨fun _ => by omega, fun _ => by omega⟩, below1 _ _⟩
  by_cases k1 : (l - (u.name.size : Int)) - (u.sttc.size : Int) < 0
  · go_wp2
    go_ret
    exact ⟨_, rfl, by omega, by omega, by simp only [szMbr]; exact ⟨fun _ => by omega, fun _ => by omega⟩, below1 _ _⟩
  go_wp2_with fail
  refine (szStringS_any _ u.wants _ (w.alloc _) S (by omega) (by omega) (H2.out.below keepsStr (below1 w _) hS) (fun g hg => by rw [hsz]; have := hS g hg; omega) Z2.out).mono ?_
  rintro e w1 ⟨q1, rfl, a1, b1, L1', d1⟩
  have B1 := Seg.hid (chain (below1 w _) d1)
  have L1 := Seg.hid L1'
  have T1 : Hid (w1.heap[w.heap.size]? = some (.cells #[.string u.name, .string u.sttc, .slice A2 u.wants.length c2, .int .i64 u.beat, .int .i64 u.round, .slice A5 u.owns.length c5, .slice A6 u.target.length c6] 113 (0, 0))) := (d1.block w.heap.size (by rw [hsz]; omega)).trans (heap_alloc_new _ _)
  have s1 : w.heap.size < w1.heap.size := (Array.getElem?_eq_some_iff.1 T1.out).1
  have p15 : w1.cell? ⟨w.heap.size, 5, none⟩ = some (.slice A5 u.owns.length c5) := cell_of_row w1 _ 5 _ _ (0, 0) T1.out
  have p16 : w1.cell? ⟨w.heap.size, 6, none⟩ = some (.slice A6 u.target.length c6) := cell_of_row w1 _ 6 _ _ (0, 0) T1.out
  clear d1 L1'
  by_cases k2 : q1 < 0
  · go_wp2
    go_ret
    exact ⟨_, rfl, by omega, by omega, by have m0 := L1.out.2 (by omega); simp only [szMbr]; exact ⟨fun _ => by omega, fun _ => by omega⟩, B1.out⟩
  go_wp2_with fail
  refine (szSlotS_any _ u.owns _ w1 S (by omega) (by omega) (H5.out.below keepsSlt B1.out hS) (fun g hg => Nat.lt_of_lt_of_le (hS g hg) B1.out.size) Z5.out).mono ?_
  rintro e w2 ⟨q2, rfl, a2, b2, L2', d2⟩
  have B2 := Seg.hid (chain B1.out d2)
  have L2 := Seg.hid L2'
  have T2 : Hid (w2.heap[w.heap.size]? = some (.cells #[.string u.name, .string u.sttc, .slice A2 u.wants.length c2, .int .i64 u.beat, .int .i64 u.round, .slice A5 u.owns.length c5, .slice A6 u.target.length c6] 113 (0, 0))) := (d2.block w.heap.size s1).trans T1.out
  have s2 : w.heap.size < w2.heap.size := (Array.getElem?_eq_some_iff.1 T2.out).1
  have p26 : w2.cell? ⟨w.heap.size, 6, none⟩ = some (.slice A6 u.target.length c6) := cell_of_row w2 _ 6 _ _ (0, 0) T2.out
  clear d2 L2'
  by_cases k5 : q2 < 0
  · go_wp2
    go_ret
    exact ⟨_, rfl, by omega, by omega, by have m0 := L1.out.1 (by omega); have m1 := L2.out.2 (by omega); simp only [szMbr]; exact ⟨fun _ => by omega, fun _ => by omega⟩, B2.out⟩
  go_wp2_with fail
  refine (szSlotS_any _ u.target _ w2 S (by omega) (by omega) (H6.out.below keepsSlt B2.out hS) (fun g hg => Nat.lt_of_lt_of_le (hS g hg) B2.out.size) Z6.out).mono ?_
  rintro e w3 ⟨q3, rfl, a3, b3, L3', d3⟩
  have B3 := Seg.hid (chain B2.out d3)
  have L3 := Seg.hid L3'
  clear d3 L3'
  by_cases k6 : q3 < 0
  · go_wp2
    go_ret
    exact ⟨_, rfl, by omega, by omega, by have m0 := L1.out.1 (by omega); have m1 := L2.out.1 (by omega); have m2 := L3.out.2 (by omega); simp only [szMbr]; exact ⟨fun _ => by omega, fun _ => by omega⟩, B3.out⟩
  go_wp2
  go_ret
  exact ⟨_, rfl, by omega, by omega, by have m0 := L1.out.1 (by omega); have m1 := L2.out.1 (by omega); have m2 := L3.out.1 (by omega); simp only [szMbr]; exact ⟨fun _ => by omega, fun _ => by omega⟩, B3.out⟩
set_option maxHeartbeats 1600000 in
theorem toMember_any (v : Value) (u : Mbr) (w : World) (S : Nat → Prop) (hv : MbrAt w S v u) (hS : ∀ g, S g → g < w.heap.size) (hf : szMbr u ≤ 1048576) :
    Calls Try.prog 69 #[v] w fun e w' => ∃ v', e = .returned v' ∧ MbrAt w' (seg w.heap.size w'.heap.size) v' u ∧ Below w.heap.size w w' := by
  obtain ⟨f, rfl, y0, y1, y2, y3, y4, y5, y6⟩ := hv
  try simp only [arrMbr]
  rw [show f 0 = _ from y0]
  clear y0
  rw [show f 1 = _ from y1]
  clear y1
  obtain ⟨A2, c2, g2⟩ := y2.form
  rw [g2] at y2 ⊢
  have H2 := Seg.hid y2
  clear y2 g2
  rw [show f 3 = _ from y3]
  clear y3
  rw [show f 4 = _ from y4]
  clear y4
  obtain ⟨A5, c5, g5⟩ := y5.form
  rw [g5] at y5 ⊢
  have H5 := Seg.hid y5
  clear y5 g5
  obtain ⟨A6, c6, g6⟩ := y6.form
  rw [g6] at y6 ⊢
  have H6 := Seg.hid y6
  clear y6 g6
  unfold szMbr at hf
  go_enter Try.func69, Try.ntmps69
  go_wp2_with fail
  refine (toStringS_any _ u.wants (((w.alloc _).alloc _).alloc _) S (H2.out.below keepsStr (below3 w _ _ _) hS) (fun g hg => by rw [hsz, hsz, hsz]; have := hS g hg; omega) (by omega)).mono ?_
  rintro e w1 ⟨v1, rfl, l1, b1⟩
  have B1 := Seg.hid (chain (below3 w _ _ _) b1)
  have Ta1 : Hid (w1.heap[w.heap.size]? = some (.cells #[.string u.name, .string u.sttc, .slice A2 u.wants.length c2, .int .i64 u.beat, .int .i64 u.round, .slice A5 u.owns.length c5, .slice A6 u.target.length c6] 113 (0, 0))) := (b1.block w.heap.size (by rw [hsz, hsz, hsz]; omega)).trans (at3z w _ _ _)
  have Tr1 : Hid (w1.heap[w.heap.size + 1]? = some (.cells #[.string ByteArray.empty, .string ByteArray.empty, .slice none 0 0, .int .i64 0, .int .i64 0, .slice none 0 0, .slice none 0 0] 67 (0, 0))) := (b1.block (w.heap.size + 1) (by rw [hsz, hsz, hsz]; omega)).trans (at3 w _ _ _)
  have To1 : Hid (w1.heap[w.heap.size + 1 + 1]? = some (.cells #[.string u.name, .string u.sttc, .slice none 0 0, .int .i64 0, .int .i64 0, .slice none 0 0, .slice none 0 0] 67 (0, 0))) := (b1.block (w.heap.size + 1 + 1) (by rw [hsz, hsz, hsz]; omega)).trans (Cells.at3' w _ _ _)
  have s1 : w.heap.size + 3 ≤ w1.heap.size := by have := b1.size; rw [hsz, hsz, hsz] at this; omega
  have M1 : Hid (StrsAt w1 (seg (w.heap.size + 3) w1.heap.size) v1 u.wants) := by
    rw [hsz, hsz, hsz] at l1
    exact l1
  obtain ⟨Y1, x1, r1⟩ := M1.out.form
  subst r1
  clear b1 l1
  have N11 := M1
  have pa13 : w1.cell? ⟨w.heap.size, 3, none⟩ = some (.int .i64 u.beat) := cell_of_row w1 _ 3 _ _ (0, 0) Ta1.out
  have pa14 : w1.cell? ⟨w.heap.size, 4, none⟩ = some (.int .i64 u.round) := cell_of_row w1 _ 4 _ _ (0, 0) Ta1.out
  have pa15 : w1.cell? ⟨w.heap.size, 5, none⟩ = some (.slice A5 u.owns.length c5) := cell_of_row w1 _ 5 _ _ (0, 0) Ta1.out
  have po12 : (w1).cell? ⟨w.heap.size + 1 + 1, 2, none⟩ = some (.slice none 0 0) := cell_of_row (w1) _ 2 _ _ (0, 0) (To1.out)
  have pf12 : (w1).frozen? ⟨w.heap.size + 1 + 1, 2, none⟩ = false := frozen_of_row (w1) _ 2 _ _ (To1.out)
  have qo12 : Hid (((w1.setCell ⟨w.heap.size + 1 + 1, 2, none⟩ (.slice Y1 u.wants.length x1))).heap[w.heap.size + 1 + 1]? = some (.cells #[.string u.name, .string u.sttc, .slice Y1 u.wants.length x1, .int .i64 0, .int .i64 0, .slice none 0 0, .slice none 0 0] 67 (0, 0))) := heap_setCell_same (w1) (w.heap.size + 1 + 1) 2 _ _ (.slice Y1 u.wants.length x1) (To1.out)
  have po13 : ((w1.setCell ⟨w.heap.size + 1 + 1, 2, none⟩ (.slice Y1 u.wants.length x1))).cell? ⟨w.heap.size + 1 + 1, 3, none⟩ = some (.int .i64 0) := cell_of_row ((w1.setCell ⟨w.heap.size + 1 + 1, 2, none⟩ (.slice Y1 u.wants.length x1))) _ 3 _ _ (0, 0) (qo12.out)
  have pf13 : ((w1.setCell ⟨w.heap.size + 1 + 1, 2, none⟩ (.slice Y1 u.wants.length x1))).frozen? ⟨w.heap.size + 1 + 1, 3, none⟩ = false := frozen_of_row ((w1.setCell ⟨w.heap.size + 1 + 1, 2, none⟩ (.slice Y1 u.wants.length x1))) _ 3 _ _ (qo12.out)
  have qo13 : Hid ((((w1.setCell ⟨w.heap.size + 1 + 1, 2, none⟩ (.slice Y1 u.wants.length x1)).setCell ⟨w.heap.size + 1 + 1, 3, none⟩ (.int .i64 u.beat))).heap[w.heap.size + 1 + 1]? = some (.cells #[.string u.name, .string u.sttc, .slice Y1 u.wants.length x1, .int .i64 u.beat, .int .i64 0, .slice none 0 0, .slice none 0 0] 67 (0, 0))) := heap_setCell_same ((w1.setCell ⟨w.heap.size + 1 + 1, 2, none⟩ (.slice Y1 u.wants.length x1))) (w.heap.size + 1 + 1) 3 _ _ (.int .i64 u.beat) (qo12.out)
  have po14 : (((w1.setCell ⟨w.heap.size + 1 + 1, 2, none⟩ (.slice Y1 u.wants.length x1)).setCell ⟨w.heap.size + 1 + 1, 3, none⟩ (.int .i64 u.beat))).cell? ⟨w.heap.size + 1 + 1, 4, none⟩ = some (.int .i64 0) := cell_of_row (((w1.setCell ⟨w.heap.size + 1 + 1, 2, none⟩ (.slice Y1 u.wants.length x1)).setCell ⟨w.heap.size + 1 + 1, 3, none⟩ (.int .i64 u.beat))) _ 4 _ _ (0, 0) (qo13.out)
  have pf14 : (((w1.setCell ⟨w.heap.size + 1 + 1, 2, none⟩ (.slice Y1 u.wants.length x1)).setCell ⟨w.heap.size + 1 + 1, 3, none⟩ (.int .i64 u.beat))).frozen? ⟨w.heap.size + 1 + 1, 4, none⟩ = false := frozen_of_row (((w1.setCell ⟨w.heap.size + 1 + 1, 2, none⟩ (.slice Y1 u.wants.length x1)).setCell ⟨w.heap.size + 1 + 1, 3, none⟩ (.int .i64 u.beat))) _ 4 _ _ (qo13.out)
  have qo14 : Hid (((((w1.setCell ⟨w.heap.size + 1 + 1, 2, none⟩ (.slice Y1 u.wants.length x1)).setCell ⟨w.heap.size + 1 + 1, 3, none⟩ (.int .i64 u.beat)).setCell ⟨w.heap.size + 1 + 1, 4, none⟩ (.int .i64 u.round))).heap[w.heap.size + 1 + 1]? = some (.cells #[.string u.name, .string u.sttc, .slice Y1 u.wants.length x1, .int .i64 u.beat, .int .i64 u.round, .slice none 0 0, .slice none 0 0] 67 (0, 0))) := heap_setCell_same (((w1.setCell ⟨w.heap.size + 1 + 1, 2, none⟩ (.slice Y1 u.wants.length x1)).setCell ⟨w.heap.size + 1 + 1, 3, none⟩ (.int .i64 u.beat))) (w.heap.size + 1 + 1) 4 _ _ (.int .i64 u.round) (qo13.out)
  have Uo1 := Seg.hid (qo14.out)
  have Ur1 := Seg.hid ((heap_setCell_other (((w1.setCell ⟨w.heap.size + 1 + 1, 2, none⟩ (.slice Y1 u.wants.length x1)).setCell ⟨w.heap.size + 1 + 1, 3, none⟩ (.int .i64 u.beat))) ⟨w.heap.size + 1 + 1, 4, none⟩ (w.heap.size + 1) (.int .i64 u.round) (by simp)).trans ((heap_setCell_other ((w1.setCell ⟨w.heap.size + 1 + 1, 2, none⟩ (.slice Y1 u.wants.length x1))) ⟨w.heap.size + 1 + 1, 3, none⟩ (w.heap.size + 1) (.int .i64 u.beat) (by simp)).trans ((heap_setCell_other (w1) ⟨w.heap.size + 1 + 1, 2, none⟩ (w.heap.size + 1) (.slice Y1 u.wants.length x1) (by simp)).trans (Tr1.out))))
  have Ua1 := Seg.hid ((heap_setCell_other (((w1.setCell ⟨w.heap.size + 1 + 1, 2, none⟩ (.slice Y1 u.wants.length x1)).setCell ⟨w.heap.size + 1 + 1, 3, none⟩ (.int .i64 u.beat))) ⟨w.heap.size + 1 + 1, 4, none⟩ w.heap.size (.int .i64 u.round) (by simp; omega)).trans ((heap_setCell_other ((w1.setCell ⟨w.heap.size + 1 + 1, 2, none⟩ (.slice Y1 u.wants.length x1))) ⟨w.heap.size + 1 + 1, 3, none⟩ w.heap.size (.int .i64 u.beat) (by simp; omega)).trans ((heap_setCell_other (w1) ⟨w.heap.size + 1 + 1, 2, none⟩ w.heap.size (.slice Y1 u.wants.length x1) (by simp; omega)).trans (Ta1.out))))
  have D1 : Hid (Below w.heap.size w (((w1.setCell ⟨w.heap.size + 1 + 1, 2, none⟩ (.slice Y1 u.wants.length x1)).setCell ⟨w.heap.size + 1 + 1, 3, none⟩ (.int .i64 u.beat)).setCell ⟨w.heap.size + 1 + 1, 4, none⟩ (.int .i64 u.round))) := (((B1.out).setCell (p := ⟨w.heap.size + 1 + 1, 2, none⟩) (by simp; omega) (.slice Y1 u.wants.length x1)).setCell (p := ⟨w.heap.size + 1 + 1, 3, none⟩) (by simp; omega) (.int .i64 u.beat)).setCell (p := ⟨w.heap.size + 1 + 1, 4, none⟩) (by simp; omega) (.int .i64 u.round)
  have N11' : Hid (StrsAt (((w1.setCell ⟨w.heap.size + 1 + 1, 2, none⟩ (.slice Y1 u.wants.length x1)).setCell ⟨w.heap.size + 1 + 1, 3, none⟩ (.int .i64 u.beat)).setCell ⟨w.heap.size + 1 + 1, 4, none⟩ (.int .i64 u.round)) (seg (w.heap.size + 3) w1.heap.size) (.slice Y1 u.wants.length x1) u.wants) := N11.out.keep keepsStr (fun g hg => by have := hg.1; rw [heap_setCell_other _ _ _ _ (by show _ ≠ w.heap.size + 1 + 1; omega), heap_setCell_other _ _ _ _ (by show _ ≠ w.heap.size + 1 + 1; omega), heap_setCell_other _ _ _ _ (by show _ ≠ w.heap.size + 1 + 1; omega)])
  go_wp2_with fail
  refine (toSlotS_any _ u.owns (((w1.setCell ⟨w.heap.size + 1 + 1, 2, none⟩ (.slice Y1 u.wants.length x1)).setCell ⟨w.heap.size + 1 + 1, 3, none⟩ (.int .i64 u.beat)).setCell ⟨w.heap.size + 1 + 1, 4, none⟩ (.int .i64 u.round)) S (H5.out.below keepsSlt D1.out hS) (fun g hg => Nat.lt_of_lt_of_le (hS g hg) D1.out.size) (by omega)).mono ?_
  rintro e w2 ⟨v2, rfl, l2, b2⟩
  have B2 := Seg.hid (chain D1.out b2)
  have z2 : (((w1.setCell ⟨w.heap.size + 1 + 1, 2, none⟩ (.slice Y1 u.wants.length x1)).setCell ⟨w.heap.size + 1 + 1, 3, none⟩ (.int .i64 u.beat)).setCell ⟨w.heap.size + 1 + 1, 4, none⟩ (.int .i64 u.round)).heap.size = w1.heap.size := by simp
  have Ta2 := Seg.hid ((b2.block w.heap.size (by omega)).trans Ua1.out)
  have Tr2 := Seg.hid ((b2.block (w.heap.size + 1) (by omega)).trans Ur1.out)
  have To2 := Seg.hid ((b2.block (w.heap.size + 1 + 1) (by omega)).trans Uo1.out)
  have s2 : w.heap.size + 3 ≤ w2.heap.size := by have := b2.size; omega
  have M2 : Hid (LAt 2 ESlt w2 (seg (w.heap.size + 3) w2.heap.size) v2 u.owns) := l2.mono growsSlt (fun g hg => ⟨by have := hg.1; omega, hg.2⟩)
  have N21 : Hid (StrsAt w2 (seg (w.heap.size + 3) w2.heap.size) (.slice Y1 u.wants.length x1) u.wants) := ((N11'.out.keep keepsStr (fun g hg => b2.block g (by have := hg.2; omega))).mono growsStr (fun g hg => ⟨hg.1, by have := b2.size; have := hg.2; omega⟩))
  clear z2
  obtain ⟨Y2, x2, r2⟩ := M2.out.form
  subst r2
  clear b2 l2
  have N22 := M2
  have pa26 : w2.cell? ⟨w.heap.size, 6, none⟩ = some (.slice A6 u.target.length c6) := cell_of_row w2 _ 6 _ _ (0, 0) Ta2.out
  have po25 : (w2).cell? ⟨w.heap.size + 1 + 1, 5, none⟩ = some (.slice none 0 0) := cell_of_row (w2) _ 5 _ _ (0, 0) (To2.out)
  have pf25 : (w2).frozen? ⟨w.heap.size + 1 + 1, 5, none⟩ = false := frozen_of_row (w2) _ 5 _ _ (To2.out)
  have qo25 : Hid (((w2.setCell ⟨w.heap.size + 1 + 1, 5, none⟩ (.slice Y2 u.owns.length x2))).heap[w.heap.size + 1 + 1]? = some (.cells #[.string u.name, .string u.sttc, .slice Y1 u.wants.length x1, .int .i64 u.beat, .int .i64 u.round, .slice Y2 u.owns.length x2, .slice none 0 0] 67 (0, 0))) := heap_setCell_same (w2) (w.heap.size + 1 + 1) 5 _ _ (.slice Y2 u.owns.length x2) (To2.out)
  have Uo2 := Seg.hid (qo25.out)
  have Ur2 := Seg.hid ((heap_setCell_other (w2) ⟨w.heap.size + 1 + 1, 5, none⟩ (w.heap.size + 1) (.slice Y2 u.owns.length x2) (by simp)).trans (Tr2.out))
  have Ua2 := Seg.hid ((heap_setCell_other (w2) ⟨w.heap.size + 1 + 1, 5, none⟩ w.heap.size (.slice Y2 u.owns.length x2) (by simp; omega)).trans (Ta2.out))
  have D2 : Hid (Below w.heap.size w (w2.setCell ⟨w.heap.size + 1 + 1, 5, none⟩ (.slice Y2 u.owns.length x2))) := (B2.out).setCell (p := ⟨w.heap.size + 1 + 1, 5, none⟩) (by simp; omega) (.slice Y2 u.owns.length x2)
  have N21' : Hid (StrsAt (w2.setCell ⟨w.heap.size + 1 + 1, 5, none⟩ (.slice Y2 u.owns.length x2)) (seg (w.heap.size + 3) w2.heap.size) (.slice Y1 u.wants.length x1) u.wants) := N21.out.keep keepsStr (fun g hg => by have := hg.1; rw [heap_setCell_other _ _ _ _ (by show _ ≠ w.heap.size + 1 + 1; omega)])
  have N22' : Hid (LAt 2 ESlt (w2.setCell ⟨w.heap.size + 1 + 1, 5, none⟩ (.slice Y2 u.owns.length x2)) (seg (w.heap.size + 3) w2.heap.size) (.slice Y2 u.owns.length x2) u.owns) := N22.out.keep keepsSlt (fun g hg => by have := hg.1; rw [heap_setCell_other _ _ _ _ (by show _ ≠ w.heap.size + 1 + 1; omega)])
  go_wp2_with fail
  refine (toSlotS_any _ u.target (w2.setCell ⟨w.heap.size + 1 + 1, 5, none⟩ (.slice Y2 u.owns.length x2)) S (H6.out.below keepsSlt D2.out hS) (fun g hg => Nat.lt_of_lt_of_le (hS g hg) D2.out.size) (by omega)).mono ?_
  rintro e w3 ⟨v3, rfl, l3, b3⟩
  have B3 := Seg.hid (chain D2.out b3)
  have z3 : (w2.setCell ⟨w.heap.size + 1 + 1, 5, none⟩ (.slice Y2 u.owns.length x2)).heap.size = w2.heap.size := by simp
  have Ta3 := Seg.hid ((b3.block w.heap.size (by omega)).trans Ua2.out)
  have Tr3 := Seg.hid ((b3.block (w.heap.size + 1) (by omega)).trans Ur2.out)
  have To3 := Seg.hid ((b3.block (w.heap.size + 1 + 1) (by omega)).trans Uo2.out)
  have s3 : w.heap.size + 3 ≤ w3.heap.size := by have := b3.size; omega
  have M3 : Hid (LAt 2 ESlt w3 (seg (w.heap.size + 3) w3.heap.size) v3 u.target) := l3.mono growsSlt (fun g hg => ⟨by have := hg.1; omega, hg.2⟩)
  have N31 : Hid (StrsAt w3 (seg (w.heap.size + 3) w3.heap.size) (.slice Y1 u.wants.length x1) u.wants) := ((N21'.out.keep keepsStr (fun g hg => b3.block g (by have := hg.2; omega))).mono growsStr (fun g hg => ⟨hg.1, by have := b3.size; have := hg.2; omega⟩))
  have N32 : Hid (LAt 2 ESlt w3 (seg (w.heap.size + 3) w3.heap.size) (.slice Y2 u.owns.length x2) u.owns) := ((N22'.out.keep keepsSlt (fun g hg => b3.block g (by have := hg.2; omega))).mono growsSlt (fun g hg => ⟨hg.1, by have := b3.size; have := hg.2; omega⟩))
  clear z3
  obtain ⟨Y3, x3, r3⟩ := M3.out.form
  subst r3
  clear b3 l3
  have N33 := M3
  have po36 : (w3).cell? ⟨w.heap.size + 1 + 1, 6, none⟩ = some (.slice none 0 0) := cell_of_row (w3) _ 6 _ _ (0, 0) (To3.out)
  have pf36 : (w3).frozen? ⟨w.heap.size + 1 + 1, 6, none⟩ = false := frozen_of_row (w3) _ 6 _ _ (To3.out)
  have qo36 : Hid (((w3.setCell ⟨w.heap.size + 1 + 1, 6, none⟩ (.slice Y3 u.target.length x3))).heap[w.heap.size + 1 + 1]? = some (.cells #[.string u.name, .string u.sttc, .slice Y1 u.wants.length x1, .int .i64 u.beat, .int .i64 u.round, .slice Y2 u.owns.length x2, .slice Y3 u.target.length x3] 67 (0, 0))) := heap_setCell_same (w3) (w.heap.size + 1 + 1) 6 _ _ (.slice Y3 u.target.length x3) (To3.out)
  have Uo3 := Seg.hid (qo36.out)
  have Ur3 := Seg.hid ((heap_setCell_other (w3) ⟨w.heap.size + 1 + 1, 6, none⟩ (w.heap.size + 1) (.slice Y3 u.target.length x3) (by simp)).trans (Tr3.out))
  have Ua3 := Seg.hid ((heap_setCell_other (w3) ⟨w.heap.size + 1 + 1, 6, none⟩ w.heap.size (.slice Y3 u.target.length x3) (by simp; omega)).trans (Ta3.out))
  have D3 : Hid (Below w.heap.size w (w3.setCell ⟨w.heap.size + 1 + 1, 6, none⟩ (.slice Y3 u.target.length x3))) := (B3.out).setCell (p := ⟨w.heap.size + 1 + 1, 6, none⟩) (by simp; omega) (.slice Y3 u.target.length x3)
  have N31' : Hid (StrsAt (w3.setCell ⟨w.heap.size + 1 + 1, 6, none⟩ (.slice Y3 u.target.length x3)) (seg (w.heap.size + 3) w3.heap.size) (.slice Y1 u.wants.length x1) u.wants) := N31.out.keep keepsStr (fun g hg => by have := hg.1; rw [heap_setCell_other _ _ _ _ (by show _ ≠ w.heap.size + 1 + 1; omega)])
  have N32' : Hid (LAt 2 ESlt (w3.setCell ⟨w.heap.size + 1 + 1, 6, none⟩ (.slice Y3 u.target.length x3)) (seg (w.heap.size + 3) w3.heap.size) (.slice Y2 u.owns.length x2) u.owns) := N32.out.keep keepsSlt (fun g hg => by have := hg.1; rw [heap_setCell_other _ _ _ _ (by show _ ≠ w.heap.size + 1 + 1; omega)])
  have N33' : Hid (LAt 2 ESlt (w3.setCell ⟨w.heap.size + 1 + 1, 6, none⟩ (.slice Y3 u.target.length x3)) (seg (w.heap.size + 3) w3.heap.size) (.slice Y3 u.target.length x3) u.target) := N33.out.keep keepsSlt (fun g hg => by have := hg.1; rw [heap_setCell_other _ _ _ _ (by show _ ≠ w.heap.size + 1 + 1; omega)])
  obtain ⟨fx, hfx⟩ : ∃ fx : Nat → Value, fx = (fun q => if q = 0 then .string u.name else if q = 1 then .string u.sttc else if q = 2 then .slice Y1 u.wants.length x1 else if q = 3 then .int .i64 u.beat else if q = 4 then .int .i64 u.round else if q = 5 then .slice Y2 u.owns.length x2 else .slice Y3 u.target.length x3) := ⟨_, rfl⟩
  have HX := Seg.hid hfx
  have Uz : Hid ((w3.setCell ⟨w.heap.size + 1 + 1, 6, none⟩ (.slice Y3 u.target.length x3)).heap[w.heap.size + 1 + 1]? = some (.cells (arrMbr fx) 67 (0, 0))) := by
    show _ = _
    rw [hfx]
    exact Uo3.out
  clear hfx
  have H5a := Cells.there_of Ur3.out
  have H5 : Hid ((w3.setCell ⟨w.heap.size + 1 + 1, 6, none⟩ (.slice Y3 u.target.length x3)).there (w.heap.size + 1) 0 (arrMbr fx).size) := H5a
  clear H5a
  have H4 := Seg.hid (Cells.whole (vs := arrMbr fx) Ur3.out rfl)
  have B9 := Seg.hid (Cells.below_setCells (g := w.heap.size + 1) (by omega) (arrMbr fx).toList 0 _ _ D3.out)
  have F1 : Hid (StrsAt ((w3.setCell ⟨w.heap.size + 1 + 1, 6, none⟩ (.slice Y3 u.target.length x3)).setCells (w.heap.size + 1) 0 (arrMbr fx).toList) (seg w.heap.size ((w3.setCell ⟨w.heap.size + 1 + 1, 6, none⟩ (.slice Y3 u.target.length x3)).setCells (w.heap.size + 1) 0 (arrMbr fx).toList).heap.size) (fx 2) u.wants) := by
    show StrsAt _ _ _ _
    rw [show fx 2 = .slice Y1 u.wants.length x1 by rw [HX.out]; rfl]
    refine (N31'.out.keep keepsStr (fun g hg => ?_)).mono growsStr (fun g hg => ⟨by have := hg.1; omega, ?_⟩)
    · have := hg.1
      rw [Cells.heap_setCells_other _ _ (by omega)]
    · rw [Cells.size_setCells]
      have := hg.2
      simpa using this
  have F2 : Hid (LAt 2 ESlt ((w3.setCell ⟨w.heap.size + 1 + 1, 6, none⟩ (.slice Y3 u.target.length x3)).setCells (w.heap.size + 1) 0 (arrMbr fx).toList) (seg w.heap.size ((w3.setCell ⟨w.heap.size + 1 + 1, 6, none⟩ (.slice Y3 u.target.length x3)).setCells (w.heap.size + 1) 0 (arrMbr fx).toList).heap.size) (fx 5) u.owns) := by
    show LAt 2 ESlt _ _ _ _
    rw [show fx 5 = .slice Y2 u.owns.length x2 by rw [HX.out]; rfl]
    refine (N32'.out.keep keepsSlt (fun g hg => ?_)).mono growsSlt (fun g hg => ⟨by have := hg.1; omega, ?_⟩)
    · have := hg.1
      rw [Cells.heap_setCells_other _ _ (by omega)]
    · rw [Cells.size_setCells]
      have := hg.2
      simpa using this
  have F3 : Hid (LAt 2 ESlt ((w3.setCell ⟨w.heap.size + 1 + 1, 6, none⟩ (.slice Y3 u.target.length x3)).setCells (w.heap.size + 1) 0 (arrMbr fx).toList) (seg w.heap.size ((w3.setCell ⟨w.heap.size + 1 + 1, 6, none⟩ (.slice Y3 u.target.length x3)).setCells (w.heap.size + 1) 0 (arrMbr fx).toList).heap.size) (fx 6) u.target) := by
    show LAt 2 ESlt _ _ _ _
    rw [show fx 6 = .slice Y3 u.target.length x3 by rw [HX.out]; rfl]
    refine (N33'.out.keep keepsSlt (fun g hg => ?_)).mono growsSlt (fun g hg => ⟨by have := hg.1; omega, ?_⟩)
    · have := hg.1
      rw [Cells.heap_setCells_other _ _ (by omega)]
    · rw [Cells.size_setCells]
      have := hg.2
      simpa using this
  have EX : Hid (EMbr ((w3.setCell ⟨w.heap.size + 1 + 1, 6, none⟩ (.slice Y3 u.target.length x3)).setCells (w.heap.size + 1) 0 (arrMbr fx).toList) (seg w.heap.size ((w3.setCell ⟨w.heap.size + 1 + 1, 6, none⟩ (.slice Y3 u.target.length x3)).setCells (w.heap.size + 1) 0 (arrMbr fx).toList).heap.size) fx u) := ⟨by rw [HX.out]; rfl, by rw [HX.out]; rfl, F1.out, by rw [HX.out]; rfl, by rw [HX.out]; rfl, F2.out, F3.out⟩
  have ON := Seg.hid (oneMbr EX.out)
  clear Ta1 Tr1 To1 Ua1 M1 Ta2 Tr2 To2 Ua2 M2 Ta3 Tr3 To3 Ua3 M3
  go_upto_region 9 with fail
  clear po36 pf36
  generalize (w3.setCell ⟨w.heap.size + 1 + 1, 6, none⟩ (.slice Y3 u.target.length x3)) = wz at *
  go_wp2_with (first | (refine wpList_load_row rfl 67 _ rfl (w.heap.size + 1 + 1) rfl _ _ _ _ Uz.out Try.underlying67 rfl infoMbr ?_) | (refine wpList_store_mid rfl 67 _ _ rfl (w.heap.size + 1) 0 (arrMbr fx) rfl rfl H5.out infoMbr ON.out ?_))
  exact bodyPost_ret (v := .agg (arrMbr fx)) (results_cell_row rfl _ _ (w.heap.size + 1) _ _ _ _ rfl H4.out Try.underlying67 rfl infoMbr) rfl ⟨_, rfl, ⟨fx, rfl, EX.out⟩, B9.out⟩
set_option maxHeartbeats 1600000 in
theorem eqMember_any (v v' : Value) (u : Mbr) (w : World) (S S' : Nat → Prop) (hv : MbrAt w S v u) (hv' : MbrAt w S' v' u) (hS : ∀ g, S g → g < w.heap.size) (hS' : ∀ g, S' g → g < w.heap.size) :
    Calls Try.prog 79 #[v, v'] w fun e w' => e = .returned (.bool true) ∧ Below w.heap.size w w' := by
  obtain ⟨f, rfl, y0, y1, y2, y3, y4, y5, y6⟩ := hv
  obtain ⟨f', rfl, y0', y1', y2', y3', y4', y5', y6'⟩ := hv'
  try simp only [arrMbr]
  rw [show f 0 = _ from y0]
  clear y0
  rw [show f 1 = _ from y1]
  clear y1
  obtain ⟨A2, c2, g2⟩ := y2.form
  rw [g2] at y2 ⊢
  have H2 := Seg.hid y2
  clear y2 g2
  rw [show f 3 = _ from y3]
  clear y3
  rw [show f 4 = _ from y4]
  clear y4
  obtain ⟨A5, c5, g5⟩ := y5.form
  rw [g5] at y5 ⊢
  have H5 := Seg.hid y5
  clear y5 g5
  obtain ⟨A6, c6, g6⟩ := y6.form
  rw [g6] at y6 ⊢
  have H6 := Seg.hid y6
  clear y6 g6
  try simp only [arrMbr]
  rw [show f' 0 = _ from y0']
  clear y0'
  rw [show f' 1 = _ from y1']
  clear y1'
  obtain ⟨A2', c2', g2'⟩ := y2'.form
  rw [g2'] at y2' ⊢
  have H2' := Seg.hid y2'
  clear y2' g2'
  rw [show f' 3 = _ from y3']
  clear y3'
  rw [show f' 4 = _ from y4']
  clear y4'
  obtain ⟨A5', c5', g5'⟩ := y5'.form
  rw [g5'] at y5' ⊢
  have H5' := Seg.hid y5'
  clear y5' g5'
  obtain ⟨A6', c6', g6'⟩ := y6'.form
  rw [g6'] at y6' ⊢
  have H6' := Seg.hid y6'
  clear y6' g6'
  go_enter Try.func79, Try.ntmps79
  go_wp2_with fail
  refine (eqStringS_any _ _ u.wants ((w.alloc _).alloc _) S S' (H2.out.below keepsStr (below2 w _ _) hS) (H2'.out.below keepsStr (below2 w _ _) hS') (fun g hg => by rw [hsz, hsz]; have := hS g hg; omega) (fun g hg => by rw [hsz, hsz]; have := hS' g hg; omega)).mono ?_
  rintro e w1 ⟨rfl, b1⟩
  have B1 := Seg.hid (chain (below2 w _ _) b1)
  have Ta1 : Hid (w1.heap[w.heap.size]? = some (.cells #[.string u.name, .string u.sttc, .slice A2 u.wants.length c2, .int .i64 u.beat, .int .i64 u.round, .slice A5 u.owns.length c5, .slice A6 u.target.length c6] 67 (0, 0))) := (b1.block w.heap.size (by rw [hsz, hsz]; omega)).trans (at2z w _ _)
  have Tb1 : Hid (w1.heap[w.heap.size + 1]? = some (.cells #[.string u.name, .string u.sttc, .slice A2' u.wants.length c2', .int .i64 u.beat, .int .i64 u.round, .slice A5' u.owns.length c5', .slice A6' u.target.length c6'] 67 (0, 0))) := (b1.block (w.heap.size + 1) (by rw [hsz, hsz]; omega)).trans (at2y w _ _)
  have s1 : w.heap.size + 1 < w1.heap.size := (Array.getElem?_eq_some_iff.1 Tb1.out).1
  have pa13 : w1.cell? ⟨w.heap.size, 3, none⟩ = some (.int .i64 u.beat) := cell_of_row w1 _ 3 _ _ (0, 0) Ta1.out
  have pb13 : w1.cell? ⟨w.heap.size + 1, 3, none⟩ = some (.int .i64 u.beat) := cell_of_row w1 _ 3 _ _ (0, 0) Tb1.out
  have pa14 : w1.cell? ⟨w.heap.size, 4, none⟩ = some (.int .i64 u.round) := cell_of_row w1 _ 4 _ _ (0, 0) Ta1.out
  have pb14 : w1.cell? ⟨w.heap.size + 1, 4, none⟩ = some (.int .i64 u.round) := cell_of_row w1 _ 4 _ _ (0, 0) Tb1.out
  have pa15 : w1.cell? ⟨w.heap.size, 5, none⟩ = some (.slice A5 u.owns.length c5) := cell_of_row w1 _ 5 _ _ (0, 0) Ta1.out
  have pb15 : w1.cell? ⟨w.heap.size + 1, 5, none⟩ = some (.slice A5' u.owns.length c5') := cell_of_row w1 _ 5 _ _ (0, 0) Tb1.out
  clear b1
  go_wp2_with fail
  refine (eqSlotS_any _ _ u.owns w1 S S' (H5.out.below keepsSlt B1.out hS) (H5'.out.below keepsSlt B1.out hS') (fun g hg => Nat.lt_of_lt_of_le (hS g hg) B1.out.size) (fun g hg => Nat.lt_of_lt_of_le (hS' g hg) B1.out.size)).mono ?_
  rintro e w2 ⟨rfl, b2⟩
  have B2 := Seg.hid (chain B1.out b2)
  have Ta2 : Hid (w2.heap[w.heap.size]? = some (.cells #[.string u.name, .string u.sttc, .slice A2 u.wants.length c2, .int .i64 u.beat, .int .i64 u.round, .slice A5 u.owns.length c5, .slice A6 u.target.length c6] 67 (0, 0))) := (b2.block w.heap.size (by omega)).trans Ta1.out
  have Tb2 : Hid (w2.heap[w.heap.size + 1]? = some (.cells #[.string u.name, .string u.sttc, .slice A2' u.wants.length c2', .int .i64 u.beat, .int .i64 u.round, .slice A5' u.owns.length c5', .slice A6' u.target.length c6'] 67 (0, 0))) := (b2.block (w.heap.size + 1) (by omega)).trans Tb1.out
  have s2 : w.heap.size + 1 < w2.heap.size := (Array.getElem?_eq_some_iff.1 Tb2.out).1
  have pa26 : w2.cell? ⟨w.heap.size, 6, none⟩ = some (.slice A6 u.target.length c6) := cell_of_row w2 _ 6 _ _ (0, 0) Ta2.out
  have pb26 : w2.cell? ⟨w.heap.size + 1, 6, none⟩ = some (.slice A6' u.target.length c6') := cell_of_row w2 _ 6 _ _ (0, 0) Tb2.out
  clear b2
  go_wp2_with fail
  refine (eqSlotS_any _ _ u.target w2 S S' (H6.out.below keepsSlt B2.out hS) (H6'.out.below keepsSlt B2.out hS') (fun g hg => Nat.lt_of_lt_of_le (hS g hg) B2.out.size) (fun g hg => Nat.lt_of_lt_of_le (hS' g hg) B2.out.size)).mono ?_
  rintro e w3 ⟨rfl, b3⟩
  have B3 := Seg.hid (chain B2.out b3)
  clear b3
  go_wp2
  go_ret
  exact ⟨rfl, B3.out⟩
end Go.Proofs.Ytfdfhhiaalbfiaa.Ls
