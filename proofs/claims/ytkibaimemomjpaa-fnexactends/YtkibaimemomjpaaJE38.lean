/- Query: how it lies in memory; what the law's measure and copier answer; One Query of the call's own; the law's marks on it. -/
import Derived.Test.YtkibaimemomjpaaJE06
import Derived.Test.YtkibaimemomjpaaJE37
import Derived.Test.YtkibaimemomjpaaJE35
namespace Go.Proofs.Ytkibaimemomjpaa.Ls
set_option maxRecDepth 8000
open Go.RowKit
open Recs
set_option linter.unusedVariables false
structure Qry where
  fr : ByteArray
  jn : ByteArray
  wn : Int
  on : ByteArray
  lk : ByteArray
  wh : List Stp
  gps : List ByteArray
  win : Int
  size : Int
  every : Int
  gets : List Gqt
  deriving Inhabited
def EQry : Elt Qry := fun w S f u => f 0 = .string u.fr ∧ f 1 = .string u.jn ∧ f 2 = .int .i64 u.wn ∧ f 3 = .string u.on ∧ f 4 = .string u.lk ∧ LAt 3 EStp w S (f 5) u.wh ∧ StrsAt w S (f 6) u.gps ∧ f 7 = .int .i64 u.win ∧ f 8 = .int .i64 u.size ∧ f 9 = .int .i64 u.every ∧ LAt 3 EGqt w S (f 10) u.gets
theorem keepsQry : Keeps 11 EQry := fun w w' S f f' t h hk hf => by
  obtain ⟨h0, h1, h2, h3, h4, h5, h6, h7, h8, h9, h10⟩ := h
  exact ⟨by rw [hf 0 (by omega)]; exact h0, by rw [hf 1 (by omega)]; exact h1, by rw [hf 2 (by omega)]; exact h2, by rw [hf 3 (by omega)]; exact h3, by rw [hf 4 (by omega)]; exact h4, by rw [hf 5 (by omega)]; exact h5.keep keepsStp hk, by rw [hf 6 (by omega)]; exact h6.keep keepsStr hk, by rw [hf 7 (by omega)]; exact h7, by rw [hf 8 (by omega)]; exact h8, by rw [hf 9 (by omega)]; exact h9, by rw [hf 10 (by omega)]; exact h10.keep keepsGqt hk⟩
theorem growsQry : Grows EQry := fun w S S' f t h hs => by
  obtain ⟨h0, h1, h2, h3, h4, h5, h6, h7, h8, h9, h10⟩ := h
  exact ⟨h0, h1, h2, h3, h4, h5.mono growsStp hs, h6.mono growsStr hs, h7, h8, h9, h10.mono growsGqt hs⟩
def arrQry (f : Nat → Value) : Array Value := #[f 0, f 1, f 2, f 3, f 4, f 5, f 6, f 7, f 8, f 9, f 10]
theorem oneQry {w : World} {S : Nat → Prop} {f : Nat → Value} {u : Qry} (h : EQry w S f u) : (arrQry f).all (·.oneCell') = true := by
  obtain ⟨h0, h1, h2, h3, h4, h5, h6, h7, h8, h9, h10⟩ := h
  have o0 : (f 0).oneCell' = true := by rw [h0]; rfl
  have o1 : (f 1).oneCell' = true := by rw [h1]; rfl
  have o2 : (f 2).oneCell' = true := by rw [h2]; rfl
  have o3 : (f 3).oneCell' = true := by rw [h3]; rfl
  have o4 : (f 4).oneCell' = true := by rw [h4]; rfl
  have o5 : (f 5).oneCell' = true := h5.one
  have o6 : (f 6).oneCell' = true := h6.one
  have o7 : (f 7).oneCell' = true := by rw [h7]; rfl
  have o8 : (f 8).oneCell' = true := by rw [h8]; rfl
  have o9 : (f 9).oneCell' = true := by rw [h9]; rfl
  have o10 : (f 10).oneCell' = true := h10.one
  simp [arrQry, o0, o1, o2, o3, o4, o5, o6, o7, o8, o9, o10]
def QryAt (w : World) (S : Nat → Prop) (v : Value) (u : Qry) : Prop := ∃ f, v = .agg (arrQry f) ∧ EQry w S f u
abbrev QrysAt := LAt 11 EQry
theorem QryAt.keep {w w' : World} {S : Nat → Prop} {v : Value} {u : Qry} (h : QryAt w S v u) (hk : ∀ g, S g → w'.heap[g]? = w.heap[g]?) : QryAt w' S v u := by
  obtain ⟨f, h1, h2⟩ := h
  exact ⟨f, h1, keepsQry _ _ _ _ _ _ h2 hk (fun _ _ => rfl)⟩
theorem QryAt.mono {w : World} {S S' : Nat → Prop} {v : Value} {u : Qry} (h : QryAt w S v u) (hs : ∀ g, S g → S' g) : QryAt w S' v u := by
  obtain ⟨f, h1, h2⟩ := h
  exact ⟨f, h1, growsQry _ _ _ _ _ h2 hs⟩
theorem QryAt.below {w w' : World} {B : Nat} {S : Nat → Prop} {v : Value} {u : Qry} (h : QryAt w S v u) (hb : Below B w w') (hs : ∀ g, S g → g < B) : QryAt w' S v u := h.keep fun g hg => hb.block g (hs g hg)
def szQry (u : Qry) : Nat := u.fr.size + u.jn.size + u.on.size + u.lk.size + szL szStp (u.wh) + szL ByteArray.size (u.gps) + szL szGqt (u.gets)
def FineQry (u : Qry) : Prop := u.fr.size ≤ maxLen ∧ u.jn.size ≤ maxLen ∧ I64 u.wn ∧ u.on.size ≤ maxLen ∧ u.lk.size ≤ maxLen ∧ FineL FineStp u.wh ∧ FineL FineStr u.gps ∧ I64 u.win ∧ I64 u.size ∧ I64 u.every ∧ FineL FineGqt u.gets
theorem infoQry : (Try.prog.info? 34).map (·.size) = some 11 := by kernel_rfl
theorem infoLQry : (Try.prog.info? 26).map (·.size) = some 11 := by kernel_rfl
theorem infoZQry : (Try.prog.info? 34).map (fun i => (i.zero, i.size, i.bytes)) = some (some (.agg #[.string ByteArray.empty, .string ByteArray.empty, .int .i64 0, .string ByteArray.empty, .string ByteArray.empty, .slice none 0 0, .slice none 0 0, .int .i64 0, .int .i64 0, .int .i64 0, .slice none 0 0]), 11, 168) := by kernel_rfl
set_option maxHeartbeats 800000 in
theorem szQuery_any (v : Value) (u : Qry) (l : Int) (w : World) (S : Nat → Prop) (h3 : -1 ≤ l) (h4 : l ≤ 1048576) (hv : QryAt w S v u) (hS : ∀ g, S g → g < w.heap.size) (hf : FineQry u) :
    Calls Try.prog 5 #[v, .int .i64 l] w fun e w' => ∃ q, e = .returned (.int .i64 q) ∧ -1 ≤ q ∧ q ≤ l ∧ Lf l (szQry u) q ∧ Below w.heap.size w w' := by
  obtain ⟨f, rfl, y0, y1, y2, y3, y4, y5, y6, y7, y8, y9, y10⟩ := hv
  try simp only [arrQry]
  rw [show f 0 = _ from y0]
  clear y0
  rw [show f 1 = _ from y1]
  clear y1
  rw [show f 2 = _ from y2]
  clear y2
  rw [show f 3 = _ from y3]
  clear y3
  rw [show f 4 = _ from y4]
  clear y4
  obtain ⟨A5, c5, g5⟩ := y5.form
  rw [g5] at y5 ⊢
  have H5 := Seg.hid y5
  clear y5 g5
  obtain ⟨A6, c6, g6⟩ := y6.form
  rw [g6] at y6 ⊢
  have H6 := Seg.hid y6
  clear y6 g6
  rw [show f 7 = _ from y7]
  clear y7
  rw [show f 8 = _ from y8]
  clear y8
  rw [show f 9 = _ from y9]
  clear y9
  obtain ⟨A10, c10, g10⟩ := y10.form
  rw [g10] at y10 ⊢
  have H10 := Seg.hid y10
  clear y10 g10
  obtain ⟨z0, z1, z2, z3, z4, z5, z6, z7, z8, z9, z10⟩ := hf
  unfold maxLen at z0
  unfold maxLen at z1
  unfold maxLen at z3
  unfold maxLen at z4
  have Z5 := Seg.hid z5
  have Z6 := Seg.hid z6
  have Z10 := Seg.hid z10
  clear z2 z5 z6 z7 z8 z9 z10
  go_enter Try.func5, Try.ntmps5
  by_cases k0 : l - (u.fr.size : Int) < 0
  · go_wp2
    go_ret
    exact ⟨_, rfl, by omega, by omega, by simp only [szQry]; exact ⟨fun _ => by omega, fun _ => by omega⟩, below1 _ _⟩
  by_cases k1 : (l - (u.fr.size : Int)) - (u.jn.size : Int) < 0
  · go_wp2
    go_ret
    exact ⟨_, rfl, by omega, by omega, by simp only [szQry]; exact ⟨fun _ => by omega, fun _ => by omega⟩, below1 _ _⟩
  by_cases k3 : ((l - (u.fr.size : Int)) - (u.jn.size : Int)) - (u.on.size : Int) < 0
  · go_wp2
    go_ret
    exact ⟨_, rfl, by omega, by omega, by simp only [szQry]; exact ⟨fun _ => by omega, fun _ => by omega⟩, below1 _ _⟩
  by_cases k4 : (((l - (u.fr.size : Int)) - (u.jn.size : Int)) - (u.on.size : Int)) - (u.lk.size : Int) < 0
  · go_wp2
    go_ret
    exact ⟨_, rfl, by omega, by omega, by simp only [szQry]; exact ⟨fun _ => by omega, fun _ => by omega⟩, below1 _ _⟩
  go_wp2_with fail
  refine (szStepS_any _ u.wh _ (w.alloc _) S (by omega) (by omega) (H5.out.below keepsStp (below1 w _) hS) (fun g hg => by rw [hsz]; have := hS g hg; omega) Z5.out).mono ?_
  rintro e w1 ⟨q1, rfl, a1, b1, L1', d1⟩
  have B1 := Seg.hid (chain (below1 w _) d1)
  have L1 := Seg.hid L1'
  have T1 : Hid (w1.heap[w.heap.size]? = some (.cells #[.string u.fr, .string u.jn, .int .i64 u.wn, .string u.on, .string u.lk, .slice A5 u.wh.length c5, .slice A6 u.gps.length c6, .int .i64 u.win, .int .i64 u.size, .int .i64 u.every, .slice A10 u.gets.length c10] 26 (0, 0))) := (d1.block w.heap.size (by rw [hsz]; omega)).trans (heap_alloc_new _ _)
  have s1 : w.heap.size < w1.heap.size := (Array.getElem?_eq_some_iff.1 T1.out).1
  have p16 : w1.cell? ⟨w.heap.size, 6, none⟩ = some (.slice A6 u.gps.length c6) := cell_of_row w1 _ 6 _ _ (0, 0) T1.out
  have p110 : w1.cell? ⟨w.heap.size, 10, none⟩ = some (.slice A10 u.gets.length c10) := cell_of_row w1 _ 10 _ _ (0, 0) T1.out
  clear d1 L1'
  by_cases k5 : q1 < 0
  · go_wp2
    go_ret
    exact ⟨_, rfl, by omega, by omega, by have m0 := L1.out.2 (by omega); simp only [szQry]; exact ⟨fun _ => by omega, fun _ => by omega⟩, B1.out⟩
  go_wp2_with fail
  refine (szStringS_any _ u.gps _ w1 S (by omega) (by omega) (H6.out.below keepsStr B1.out hS) (fun g hg => Nat.lt_of_lt_of_le (hS g hg) B1.out.size) Z6.out).mono ?_
  rintro e w2 ⟨q2, rfl, a2, b2, L2', d2⟩
  have B2 := Seg.hid (chain B1.out d2)
  have L2 := Seg.hid L2'
  have T2 : Hid (w2.heap[w.heap.size]? = some (.cells #[.string u.fr, .string u.jn, .int .i64 u.wn, .string u.on, .string u.lk, .slice A5 u.wh.length c5, .slice A6 u.gps.length c6, .int .i64 u.win, .int .i64 u.size, .int .i64 u.every, .slice A10 u.gets.length c10] 26 (0, 0))) := (d2.block w.heap.size s1).trans T1.out
  have s2 : w.heap.size < w2.heap.size := (Array.getElem?_eq_some_iff.1 T2.out).1
  have p210 : w2.cell? ⟨w.heap.size, 10, none⟩ = some (.slice A10 u.gets.length c10) := cell_of_row w2 _ 10 _ _ (0, 0) T2.out
  clear d2 L2'
  by_cases k6 : q2 < 0
  · go_wp2
    go_ret
    exact ⟨_, rfl, by omega, by omega, by have m0 := L1.out.1 (by omega); have m1 := L2.out.2 (by omega); simp only [szQry]; exact ⟨fun _ => by omega, fun _ => by omega⟩, B2.out⟩
  go_wp2_with fail
  refine (szGetS_any _ u.gets _ w2 S (by omega) (by omega) (H10.out.below keepsGqt B2.out hS) (fun g hg => Nat.lt_of_lt_of_le (hS g hg) B2.out.size) Z10.out).mono ?_
  rintro e w3 ⟨q3, rfl, a3, b3, L3', d3⟩
  have B3 := Seg.hid (chain B2.out d3)
  have L3 := Seg.hid L3'
  clear d3 L3'
  by_cases k10 : q3 < 0
  · go_wp2
    go_ret
    exact ⟨_, rfl, by omega, by omega, by have m0 := L1.out.1 (by omega); have m1 := L2.out.1 (by omega); have m2 := L3.out.2 (by omega); simp only [szQry]; exact ⟨fun _ => by omega, fun _ => by omega⟩, B3.out⟩
  go_wp2
  go_ret
  exact ⟨_, rfl, by omega, by omega, by have m0 := L1.out.1 (by omega); have m1 := L2.out.1 (by omega); have m2 := L3.out.1 (by omega); simp only [szQry]; exact ⟨fun _ => by omega, fun _ => by omega⟩, B3.out⟩
set_option maxHeartbeats 1600000 in
theorem toQuery_any (v : Value) (u : Qry) (w : World) (S : Nat → Prop) (hv : QryAt w S v u) (hS : ∀ g, S g → g < w.heap.size) (hf : szQry u ≤ 1048576) :
    Calls Try.prog 7 #[v] w fun e w' => ∃ v', e = .returned v' ∧ QryAt w' (seg w.heap.size w'.heap.size) v' u ∧ Below w.heap.size w w' := by
  obtain ⟨f, rfl, y0, y1, y2, y3, y4, y5, y6, y7, y8, y9, y10⟩ := hv
  try simp only [arrQry]
  rw [show f 0 = _ from y0]
  clear y0
  rw [show f 1 = _ from y1]
  clear y1
  rw [show f 2 = _ from y2]
  clear y2
  rw [show f 3 = _ from y3]
  clear y3
  rw [show f 4 = _ from y4]
  clear y4
  obtain ⟨A5, c5, g5⟩ := y5.form
  rw [g5] at y5 ⊢
  have H5 := Seg.hid y5
  clear y5 g5
  obtain ⟨A6, c6, g6⟩ := y6.form
  rw [g6] at y6 ⊢
  have H6 := Seg.hid y6
  clear y6 g6
  rw [show f 7 = _ from y7]
  clear y7
  rw [show f 8 = _ from y8]
  clear y8
  rw [show f 9 = _ from y9]
  clear y9
  obtain ⟨A10, c10, g10⟩ := y10.form
  rw [g10] at y10 ⊢
  have H10 := Seg.hid y10
  clear y10 g10
  unfold szQry at hf
  go_enter Try.func7, Try.ntmps7
  go_wp2_with fail
  refine (toStepS_any _ u.wh (((w.alloc _).alloc _).alloc _) S (H5.out.below keepsStp (below3 w _ _ _) hS) (fun g hg => by rw [hsz, hsz, hsz]; have := hS g hg; omega) (by omega)).mono ?_
  rintro e w1 ⟨v1, rfl, l1, b1⟩
  have B1 := Seg.hid (chain (below3 w _ _ _) b1)
  have Ta1 : Hid (w1.heap[w.heap.size]? = some (.cells #[.string u.fr, .string u.jn, .int .i64 u.wn, .string u.on, .string u.lk, .slice A5 u.wh.length c5, .slice A6 u.gps.length c6, .int .i64 u.win, .int .i64 u.size, .int .i64 u.every, .slice A10 u.gets.length c10] 26 (0, 0))) := (b1.block w.heap.size (by rw [hsz, hsz, hsz]; omega)).trans (at3z w _ _ _)
  have Tr1 : Hid (w1.heap[w.heap.size + 1]? = some (.cells #[.string ByteArray.empty, .string ByteArray.empty, .int .i64 0, .string ByteArray.empty, .string ByteArray.empty, .slice none 0 0, .slice none 0 0, .int .i64 0, .int .i64 0, .int .i64 0, .slice none 0 0] 34 (0, 0))) := (b1.block (w.heap.size + 1) (by rw [hsz, hsz, hsz]; omega)).trans (at3 w _ _ _)
  have To1 : Hid (w1.heap[w.heap.size + 1 + 1]? = some (.cells #[.string u.fr, .string u.jn, .int .i64 u.wn, .string u.on, .string u.lk, .slice none 0 0, .slice none 0 0, .int .i64 0, .int .i64 0, .int .i64 0, .slice none 0 0] 34 (0, 0))) := (b1.block (w.heap.size + 1 + 1) (by rw [hsz, hsz, hsz]; omega)).trans (Cells.at3' w _ _ _)
  have s1 : w.heap.size + 3 ≤ w1.heap.size := by have := b1.size; rw [hsz, hsz, hsz] at this; omega
  have M1 : Hid (LAt 3 EStp w1 (seg (w.heap.size + 3) w1.heap.size) v1 u.wh) := by
    rw [hsz, hsz, hsz] at l1
    exact l1
  obtain ⟨Y1, x1, r1⟩ := M1.out.form
  subst r1
  clear b1 l1
  have N11 := M1
  have pa16 : w1.cell? ⟨w.heap.size, 6, none⟩ = some (.slice A6 u.gps.length c6) := cell_of_row w1 _ 6 _ _ (0, 0) Ta1.out
  have po15 : (w1).cell? ⟨w.heap.size + 1 + 1, 5, none⟩ = some (.slice none 0 0) := cell_of_row (w1) _ 5 _ _ (0, 0) (To1.out)
  have pf15 : (w1).frozen? ⟨w.heap.size + 1 + 1, 5, none⟩ = false := frozen_of_row (w1) _ 5 _ _ (To1.out)
  have qo15 : Hid (((w1.setCell ⟨w.heap.size + 1 + 1, 5, none⟩ (.slice Y1 u.wh.length x1))).heap[w.heap.size + 1 + 1]? = some (.cells #[.string u.fr, .string u.jn, .int .i64 u.wn, .string u.on, .string u.lk, .slice Y1 u.wh.length x1, .slice none 0 0, .int .i64 0, .int .i64 0, .int .i64 0, .slice none 0 0] 34 (0, 0))) := heap_setCell_same (w1) (w.heap.size + 1 + 1) 5 _ _ (.slice Y1 u.wh.length x1) (To1.out)
  have Uo1 := Seg.hid (qo15.out)
  have Ur1 := Seg.hid ((heap_setCell_other (w1) ⟨w.heap.size + 1 + 1, 5, none⟩ (w.heap.size + 1) (.slice Y1 u.wh.length x1) (by simp)).trans (Tr1.out))
  have Ua1 := Seg.hid ((heap_setCell_other (w1) ⟨w.heap.size + 1 + 1, 5, none⟩ w.heap.size (.slice Y1 u.wh.length x1) (by simp; omega)).trans (Ta1.out))
  have D1 : Hid (Below w.heap.size w (w1.setCell ⟨w.heap.size + 1 + 1, 5, none⟩ (.slice Y1 u.wh.length x1))) := (B1.out).setCell (p := ⟨w.heap.size + 1 + 1, 5, none⟩) (by simp; omega) (.slice Y1 u.wh.length x1)
  have N11' : Hid (LAt 3 EStp (w1.setCell ⟨w.heap.size + 1 + 1, 5, none⟩ (.slice Y1 u.wh.length x1)) (seg (w.heap.size + 3) w1.heap.size) (.slice Y1 u.wh.length x1) u.wh) := N11.out.keep keepsStp (fun g hg => by have := hg.1; rw [heap_setCell_other _ _ _ _ (by show _ ≠ w.heap.size + 1 + 1; omega)])
  go_wp2_with fail
  refine (toStringS_any _ u.gps (w1.setCell ⟨w.heap.size + 1 + 1, 5, none⟩ (.slice Y1 u.wh.length x1)) S (H6.out.below keepsStr D1.out hS) (fun g hg => Nat.lt_of_lt_of_le (hS g hg) D1.out.size) (by omega)).mono ?_
  rintro e w2 ⟨v2, rfl, l2, b2⟩
  have B2 := Seg.hid (chain D1.out b2)
  have z2 : (w1.setCell ⟨w.heap.size + 1 + 1, 5, none⟩ (.slice Y1 u.wh.length x1)).heap.size = w1.heap.size := by simp
  have Ta2 := Seg.hid ((b2.block w.heap.size (by omega)).trans Ua1.out)
  have Tr2 := Seg.hid ((b2.block (w.heap.size + 1) (by omega)).trans Ur1.out)
  have To2 := Seg.hid ((b2.block (w.heap.size + 1 + 1) (by omega)).trans Uo1.out)
  have s2 : w.heap.size + 3 ≤ w2.heap.size := by have := b2.size; omega
  have M2 : Hid (StrsAt w2 (seg (w.heap.size + 3) w2.heap.size) v2 u.gps) := l2.mono growsStr (fun g hg => ⟨by have := hg.1; omega, hg.2⟩)
  have N21 : Hid (LAt 3 EStp w2 (seg (w.heap.size + 3) w2.heap.size) (.slice Y1 u.wh.length x1) u.wh) := ((N11'.out.keep keepsStp (fun g hg => b2.block g (by have := hg.2; omega))).mono growsStp (fun g hg => ⟨hg.1, by have := b2.size; have := hg.2; omega⟩))
  clear z2
  obtain ⟨Y2, x2, r2⟩ := M2.out.form
  subst r2
  clear b2 l2
  have N22 := M2
  have pa27 : w2.cell? ⟨w.heap.size, 7, none⟩ = some (.int .i64 u.win) := cell_of_row w2 _ 7 _ _ (0, 0) Ta2.out
  have pa28 : w2.cell? ⟨w.heap.size, 8, none⟩ = some (.int .i64 u.size) := cell_of_row w2 _ 8 _ _ (0, 0) Ta2.out
  have pa29 : w2.cell? ⟨w.heap.size, 9, none⟩ = some (.int .i64 u.every) := cell_of_row w2 _ 9 _ _ (0, 0) Ta2.out
  have pa210 : w2.cell? ⟨w.heap.size, 10, none⟩ = some (.slice A10 u.gets.length c10) := cell_of_row w2 _ 10 _ _ (0, 0) Ta2.out
  have po26 : (w2).cell? ⟨w.heap.size + 1 + 1, 6, none⟩ = some (.slice none 0 0) := cell_of_row (w2) _ 6 _ _ (0, 0) (To2.out)
  have pf26 : (w2).frozen? ⟨w.heap.size + 1 + 1, 6, none⟩ = false := frozen_of_row (w2) _ 6 _ _ (To2.out)
  have qo26 : Hid (((w2.setCell ⟨w.heap.size + 1 + 1, 6, none⟩ (.slice Y2 u.gps.length x2))).heap[w.heap.size + 1 + 1]? = some (.cells #[.string u.fr, .string u.jn, .int .i64 u.wn, .string u.on, .string u.lk, .slice Y1 u.wh.length x1, .slice Y2 u.gps.length x2, .int .i64 0, .int .i64 0, .int .i64 0, .slice none 0 0] 34 (0, 0))) := heap_setCell_same (w2) (w.heap.size + 1 + 1) 6 _ _ (.slice Y2 u.gps.length x2) (To2.out)
  have po27 : ((w2.setCell ⟨w.heap.size + 1 + 1, 6, none⟩ (.slice Y2 u.gps.length x2))).cell? ⟨w.heap.size + 1 + 1, 7, none⟩ = some (.int .i64 0) := cell_of_row ((w2.setCell ⟨w.heap.size + 1 + 1, 6, none⟩ (.slice Y2 u.gps.length x2))) _ 7 _ _ (0, 0) (qo26.out)
  have pf27 : ((w2.setCell ⟨w.heap.size + 1 + 1, 6, none⟩ (.slice Y2 u.gps.length x2))).frozen? ⟨w.heap.size + 1 + 1, 7, none⟩ = false := frozen_of_row ((w2.setCell ⟨w.heap.size + 1 + 1, 6, none⟩ (.slice Y2 u.gps.length x2))) _ 7 _ _ (qo26.out)
  have qo27 : Hid ((((w2.setCell ⟨w.heap.size + 1 + 1, 6, none⟩ (.slice Y2 u.gps.length x2)).setCell ⟨w.heap.size + 1 + 1, 7, none⟩ (.int .i64 u.win))).heap[w.heap.size + 1 + 1]? = some (.cells #[.string u.fr, .string u.jn, .int .i64 u.wn, .string u.on, .string u.lk, .slice Y1 u.wh.length x1, .slice Y2 u.gps.length x2, .int .i64 u.win, .int .i64 0, .int .i64 0, .slice none 0 0] 34 (0, 0))) := heap_setCell_same ((w2.setCell ⟨w.heap.size + 1 + 1, 6, none⟩ (.slice Y2 u.gps.length x2))) (w.heap.size + 1 + 1) 7 _ _ (.int .i64 u.win) (qo26.out)
  have po28 : (((w2.setCell ⟨w.heap.size + 1 + 1, 6, none⟩ (.slice Y2 u.gps.length x2)).setCell ⟨w.heap.size + 1 + 1, 7, none⟩ (.int .i64 u.win))).cell? ⟨w.heap.size + 1 + 1, 8, none⟩ = some (.int .i64 0) := cell_of_row (((w2.setCell ⟨w.heap.size + 1 + 1, 6, none⟩ (.slice Y2 u.gps.length x2)).setCell ⟨w.heap.size + 1 + 1, 7, none⟩ (.int .i64 u.win))) _ 8 _ _ (0, 0) (qo27.out)
  have pf28 : (((w2.setCell ⟨w.heap.size + 1 + 1, 6, none⟩ (.slice Y2 u.gps.length x2)).setCell ⟨w.heap.size + 1 + 1, 7, none⟩ (.int .i64 u.win))).frozen? ⟨w.heap.size + 1 + 1, 8, none⟩ = false := frozen_of_row (((w2.setCell ⟨w.heap.size + 1 + 1, 6, none⟩ (.slice Y2 u.gps.length x2)).setCell ⟨w.heap.size + 1 + 1, 7, none⟩ (.int .i64 u.win))) _ 8 _ _ (qo27.out)
  have qo28 : Hid (((((w2.setCell ⟨w.heap.size + 1 + 1, 6, none⟩ (.slice Y2 u.gps.length x2)).setCell ⟨w.heap.size + 1 + 1, 7, none⟩ (.int .i64 u.win)).setCell ⟨w.heap.size + 1 + 1, 8, none⟩ (.int .i64 u.size))).heap[w.heap.size + 1 + 1]? = some (.cells #[.string u.fr, .string u.jn, .int .i64 u.wn, .string u.on, .string u.lk, .slice Y1 u.wh.length x1, .slice Y2 u.gps.length x2, .int .i64 u.win, .int .i64 u.size, .int .i64 0, .slice none 0 0] 34 (0, 0))) := heap_setCell_same (((w2.setCell ⟨w.heap.size + 1 + 1, 6, none⟩ (.slice Y2 u.gps.length x2)).setCell ⟨w.heap.size + 1 + 1, 7, none⟩ (.int .i64 u.win))) (w.heap.size + 1 + 1) 8 _ _ (.int .i64 u.size) (qo27.out)
  have po29 : ((((w2.setCell ⟨w.heap.size + 1 + 1, 6, none⟩ (.slice Y2 u.gps.length x2)).setCell ⟨w.heap.size + 1 + 1, 7, none⟩ (.int .i64 u.win)).setCell ⟨w.heap.size + 1 + 1, 8, none⟩ (.int .i64 u.size))).cell? ⟨w.heap.size + 1 + 1, 9, none⟩ = some (.int .i64 0) := cell_of_row ((((w2.setCell ⟨w.heap.size + 1 + 1, 6, none⟩ (.slice Y2 u.gps.length x2)).setCell ⟨w.heap.size + 1 + 1, 7, none⟩ (.int .i64 u.win)).setCell ⟨w.heap.size + 1 + 1, 8, none⟩ (.int .i64 u.size))) _ 9 _ _ (0, 0) (qo28.out)
  have pf29 : ((((w2.setCell ⟨w.heap.size + 1 + 1, 6, none⟩ (.slice Y2 u.gps.length x2)).setCell ⟨w.heap.size + 1 + 1, 7, none⟩ (.int .i64 u.win)).setCell ⟨w.heap.size + 1 + 1, 8, none⟩ (.int .i64 u.size))).frozen? ⟨w.heap.size + 1 + 1, 9, none⟩ = false := frozen_of_row ((((w2.setCell ⟨w.heap.size + 1 + 1, 6, none⟩ (.slice Y2 u.gps.length x2)).setCell ⟨w.heap.size + 1 + 1, 7, none⟩ (.int .i64 u.win)).setCell ⟨w.heap.size + 1 + 1, 8, none⟩ (.int .i64 u.size))) _ 9 _ _ (qo28.out)
  have qo29 : Hid ((((((w2.setCell ⟨w.heap.size + 1 + 1, 6, none⟩ (.slice Y2 u.gps.length x2)).setCell ⟨w.heap.size + 1 + 1, 7, none⟩ (.int .i64 u.win)).setCell ⟨w.heap.size + 1 + 1, 8, none⟩ (.int .i64 u.size)).setCell ⟨w.heap.size + 1 + 1, 9, none⟩ (.int .i64 u.every))).heap[w.heap.size + 1 + 1]? = some (.cells #[.string u.fr, .string u.jn, .int .i64 u.wn, .string u.on, .string u.lk, .slice Y1 u.wh.length x1, .slice Y2 u.gps.length x2, .int .i64 u.win, .int .i64 u.size, .int .i64 u.every, .slice none 0 0] 34 (0, 0))) := heap_setCell_same ((((w2.setCell ⟨w.heap.size + 1 + 1, 6, none⟩ (.slice Y2 u.gps.length x2)).setCell ⟨w.heap.size + 1 + 1, 7, none⟩ (.int .i64 u.win)).setCell ⟨w.heap.size + 1 + 1, 8, none⟩ (.int .i64 u.size))) (w.heap.size + 1 + 1) 9 _ _ (.int .i64 u.every) (qo28.out)
  have Uo2 := Seg.hid (qo29.out)
  have Ur2 := Seg.hid ((heap_setCell_other ((((w2.setCell ⟨w.heap.size + 1 + 1, 6, none⟩ (.slice Y2 u.gps.length x2)).setCell ⟨w.heap.size + 1 + 1, 7, none⟩ (.int .i64 u.win)).setCell ⟨w.heap.size + 1 + 1, 8, none⟩ (.int .i64 u.size))) ⟨w.heap.size + 1 + 1, 9, none⟩ (w.heap.size + 1) (.int .i64 u.every) (by simp)).trans ((heap_setCell_other (((w2.setCell ⟨w.heap.size + 1 + 1, 6, none⟩ (.slice Y2 u.gps.length x2)).setCell ⟨w.heap.size + 1 + 1, 7, none⟩ (.int .i64 u.win))) ⟨w.heap.size + 1 + 1, 8, none⟩ (w.heap.size + 1) (.int .i64 u.size) (by simp)).trans ((heap_setCell_other ((w2.setCell ⟨w.heap.size + 1 + 1, 6, none⟩ (.slice Y2 u.gps.length x2))) ⟨w.heap.size + 1 + 1, 7, none⟩ (w.heap.size + 1) (.int .i64 u.win) (by simp)).trans ((heap_setCell_other (w2) ⟨w.heap.size + 1 + 1, 6, none⟩ (w.heap.size + 1) (.slice Y2 u.gps.length x2) (by simp)).trans (Tr2.out)))))
  have Ua2 := Seg.hid ((heap_setCell_other ((((w2.setCell ⟨w.heap.size + 1 + 1, 6, none⟩ (.slice Y2 u.gps.length x2)).setCell ⟨w.heap.size + 1 + 1, 7, none⟩ (.int .i64 u.win)).setCell ⟨w.heap.size + 1 + 1, 8, none⟩ (.int .i64 u.size))) ⟨w.heap.size + 1 + 1, 9, none⟩ w.heap.size (.int .i64 u.every) (by simp; omega)).trans ((heap_setCell_other (((w2.setCell ⟨w.heap.size + 1 + 1, 6, none⟩ (.slice Y2 u.gps.length x2)).setCell ⟨w.heap.size + 1 + 1, 7, none⟩ (.int .i64 u.win))) ⟨w.heap.size + 1 + 1, 8, none⟩ w.heap.size (.int .i64 u.size) (by simp; omega)).trans ((heap_setCell_other ((w2.setCell ⟨w.heap.size + 1 + 1, 6, none⟩ (.slice Y2 u.gps.length x2))) ⟨w.heap.size + 1 + 1, 7, none⟩ w.heap.size (.int .i64 u.win) (by simp; omega)).trans ((heap_setCell_other (w2) ⟨w.heap.size + 1 + 1, 6, none⟩ w.heap.size (.slice Y2 u.gps.length x2) (by simp; omega)).trans (Ta2.out)))))
  have D2 : Hid (Below w.heap.size w ((((w2.setCell ⟨w.heap.size + 1 + 1, 6, none⟩ (.slice Y2 u.gps.length x2)).setCell ⟨w.heap.size + 1 + 1, 7, none⟩ (.int .i64 u.win)).setCell ⟨w.heap.size + 1 + 1, 8, none⟩ (.int .i64 u.size)).setCell ⟨w.heap.size + 1 + 1, 9, none⟩ (.int .i64 u.every))) := ((((B2.out).setCell (p := ⟨w.heap.size + 1 + 1, 6, none⟩) (by simp; omega) (.slice Y2 u.gps.length x2)).setCell (p := ⟨w.heap.size + 1 + 1, 7, none⟩) (by simp; omega) (.int .i64 u.win)).setCell (p := ⟨w.heap.size + 1 + 1, 8, none⟩) (by simp; omega) (.int .i64 u.size)).setCell (p := ⟨w.heap.size + 1 + 1, 9, none⟩) (by simp; omega) (.int .i64 u.every)
  have N21' : Hid (LAt 3 EStp ((((w2.setCell ⟨w.heap.size + 1 + 1, 6, none⟩ (.slice Y2 u.gps.length x2)).setCell ⟨w.heap.size + 1 + 1, 7, none⟩ (.int .i64 u.win)).setCell ⟨w.heap.size + 1 + 1, 8, none⟩ (.int .i64 u.size)).setCell ⟨w.heap.size + 1 + 1, 9, none⟩ (.int .i64 u.every)) (seg (w.heap.size + 3) w2.heap.size) (.slice Y1 u.wh.length x1) u.wh) := N21.out.keep keepsStp (fun g hg => by have := hg.1; rw [heap_setCell_other _ _ _ _ (by show _ ≠ w.heap.size + 1 + 1; omega), heap_setCell_other _ _ _ _ (by show _ ≠ w.heap.size + 1 + 1; omega), heap_setCell_other _ _ _ _ (by show _ ≠ w.heap.size + 1 + 1; omega), heap_setCell_other _ _ _ _ (by show _ ≠ w.heap.size + 1 + 1; omega)])
  have N22' : Hid (StrsAt ((((w2.setCell ⟨w.heap.size + 1 + 1, 6, none⟩ (.slice Y2 u.gps.length x2)).setCell ⟨w.heap.size + 1 + 1, 7, none⟩ (.int .i64 u.win)).setCell ⟨w.heap.size + 1 + 1, 8, none⟩ (.int .i64 u.size)).setCell ⟨w.heap.size + 1 + 1, 9, none⟩ (.int .i64 u.every)) (seg (w.heap.size + 3) w2.heap.size) (.slice Y2 u.gps.length x2) u.gps) := N22.out.keep keepsStr (fun g hg => by have := hg.1; rw [heap_setCell_other _ _ _ _ (by show _ ≠ w.heap.size + 1 + 1; omega), heap_setCell_other _ _ _ _ (by show _ ≠ w.heap.size + 1 + 1; omega), heap_setCell_other _ _ _ _ (by show _ ≠ w.heap.size + 1 + 1; omega), heap_setCell_other _ _ _ _ (by show _ ≠ w.heap.size + 1 + 1; omega)])
  go_wp2_with fail
  refine (toGetS_any _ u.gets ((((w2.setCell ⟨w.heap.size + 1 + 1, 6, none⟩ (.slice Y2 u.gps.length x2)).setCell ⟨w.heap.size + 1 + 1, 7, none⟩ (.int .i64 u.win)).setCell ⟨w.heap.size + 1 + 1, 8, none⟩ (.int .i64 u.size)).setCell ⟨w.heap.size + 1 + 1, 9, none⟩ (.int .i64 u.every)) S (H10.out.below keepsGqt D2.out hS) (fun g hg => Nat.lt_of_lt_of_le (hS g hg) D2.out.size) (by omega)).mono ?_
  rintro e w3 ⟨v3, rfl, l3, b3⟩
  have B3 := Seg.hid (chain D2.out b3)
  have z3 : ((((w2.setCell ⟨w.heap.size + 1 + 1, 6, none⟩ (.slice Y2 u.gps.length x2)).setCell ⟨w.heap.size + 1 + 1, 7, none⟩ (.int .i64 u.win)).setCell ⟨w.heap.size + 1 + 1, 8, none⟩ (.int .i64 u.size)).setCell ⟨w.heap.size + 1 + 1, 9, none⟩ (.int .i64 u.every)).heap.size = w2.heap.size := by simp
  have Ta3 := Seg.hid ((b3.block w.heap.size (by omega)).trans Ua2.out)
  have Tr3 := Seg.hid ((b3.block (w.heap.size + 1) (by omega)).trans Ur2.out)
  have To3 := Seg.hid ((b3.block (w.heap.size + 1 + 1) (by omega)).trans Uo2.out)
  have s3 : w.heap.size + 3 ≤ w3.heap.size := by have := b3.size; omega
  have M3 : Hid (LAt 3 EGqt w3 (seg (w.heap.size + 3) w3.heap.size) v3 u.gets) := l3.mono growsGqt (fun g hg => ⟨by have := hg.1; omega, hg.2⟩)
  have N31 : Hid (LAt 3 EStp w3 (seg (w.heap.size + 3) w3.heap.size) (.slice Y1 u.wh.length x1) u.wh) := ((N21'.out.keep keepsStp (fun g hg => b3.block g (by have := hg.2; omega))).mono growsStp (fun g hg => ⟨hg.1, by have := b3.size; have := hg.2; omega⟩))
  have N32 : Hid (StrsAt w3 (seg (w.heap.size + 3) w3.heap.size) (.slice Y2 u.gps.length x2) u.gps) := ((N22'.out.keep keepsStr (fun g hg => b3.block g (by have := hg.2; omega))).mono growsStr (fun g hg => ⟨hg.1, by have := b3.size; have := hg.2; omega⟩))
  clear z3
  obtain ⟨Y3, x3, r3⟩ := M3.out.form
  subst r3
  clear b3 l3
  have N33 := M3
  have po310 : (w3).cell? ⟨w.heap.size + 1 + 1, 10, none⟩ = some (.slice none 0 0) := cell_of_row (w3) _ 10 _ _ (0, 0) (To3.out)
  have pf310 : (w3).frozen? ⟨w.heap.size + 1 + 1, 10, none⟩ = false := frozen_of_row (w3) _ 10 _ _ (To3.out)
  have qo310 : Hid (((w3.setCell ⟨w.heap.size + 1 + 1, 10, none⟩ (.slice Y3 u.gets.length x3))).heap[w.heap.size + 1 + 1]? = some (.cells #[.string u.fr, .string u.jn, .int .i64 u.wn, .string u.on, .string u.lk, .slice Y1 u.wh.length x1, .slice Y2 u.gps.length x2, .int .i64 u.win, .int .i64 u.size, .int .i64 u.every, .slice Y3 u.gets.length x3] 34 (0, 0))) := heap_setCell_same (w3) (w.heap.size + 1 + 1) 10 _ _ (.slice Y3 u.gets.length x3) (To3.out)
  have Uo3 := Seg.hid (qo310.out)
  have Ur3 := Seg.hid ((heap_setCell_other (w3) ⟨w.heap.size + 1 + 1, 10, none⟩ (w.heap.size + 1) (.slice Y3 u.gets.length x3) (by simp)).trans (Tr3.out))
  have Ua3 := Seg.hid ((heap_setCell_other (w3) ⟨w.heap.size + 1 + 1, 10, none⟩ w.heap.size (.slice Y3 u.gets.length x3) (by simp; omega)).trans (Ta3.out))
  have D3 : Hid (Below w.heap.size w (w3.setCell ⟨w.heap.size + 1 + 1, 10, none⟩ (.slice Y3 u.gets.length x3))) := (B3.out).setCell (p := ⟨w.heap.size + 1 + 1, 10, none⟩) (by simp; omega) (.slice Y3 u.gets.length x3)
  have N31' : Hid (LAt 3 EStp (w3.setCell ⟨w.heap.size + 1 + 1, 10, none⟩ (.slice Y3 u.gets.length x3)) (seg (w.heap.size + 3) w3.heap.size) (.slice Y1 u.wh.length x1) u.wh) := N31.out.keep keepsStp (fun g hg => by have := hg.1; rw [heap_setCell_other _ _ _ _ (by show _ ≠ w.heap.size + 1 + 1; omega)])
  have N32' : Hid (StrsAt (w3.setCell ⟨w.heap.size + 1 + 1, 10, none⟩ (.slice Y3 u.gets.length x3)) (seg (w.heap.size + 3) w3.heap.size) (.slice Y2 u.gps.length x2) u.gps) := N32.out.keep keepsStr (fun g hg => by have := hg.1; rw [heap_setCell_other _ _ _ _ (by show _ ≠ w.heap.size + 1 + 1; omega)])
  have N33' : Hid (LAt 3 EGqt (w3.setCell ⟨w.heap.size + 1 + 1, 10, none⟩ (.slice Y3 u.gets.length x3)) (seg (w.heap.size + 3) w3.heap.size) (.slice Y3 u.gets.length x3) u.gets) := N33.out.keep keepsGqt (fun g hg => by have := hg.1; rw [heap_setCell_other _ _ _ _ (by show _ ≠ w.heap.size + 1 + 1; omega)])
  obtain ⟨fx, hfx⟩ : ∃ fx : Nat → Value, fx = (fun q => if q = 0 then .string u.fr else if q = 1 then .string u.jn else if q = 2 then .int .i64 u.wn else if q = 3 then .string u.on else if q = 4 then .string u.lk else if q = 5 then .slice Y1 u.wh.length x1 else if q = 6 then .slice Y2 u.gps.length x2 else if q = 7 then .int .i64 u.win else if q = 8 then .int .i64 u.size else if q = 9 then .int .i64 u.every else .slice Y3 u.gets.length x3) := ⟨_, rfl⟩
  have HX := Seg.hid hfx
  have Uz : Hid ((w3.setCell ⟨w.heap.size + 1 + 1, 10, none⟩ (.slice Y3 u.gets.length x3)).heap[w.heap.size + 1 + 1]? = some (.cells (arrQry fx) 34 (0, 0))) := by
    show _ = _
    rw [hfx]
    exact Uo3.out
  clear hfx
  have H5a := Cells.there_of Ur3.out
  have H5 : Hid ((w3.setCell ⟨w.heap.size + 1 + 1, 10, none⟩ (.slice Y3 u.gets.length x3)).there (w.heap.size + 1) 0 (arrQry fx).size) := H5a
  clear H5a
  have H4 := Seg.hid (Cells.whole (vs := arrQry fx) Ur3.out rfl)
  have B9 := Seg.hid (Cells.below_setCells (g := w.heap.size + 1) (by omega) (arrQry fx).toList 0 _ _ D3.out)
  have F1 : Hid (LAt 3 EStp ((w3.setCell ⟨w.heap.size + 1 + 1, 10, none⟩ (.slice Y3 u.gets.length x3)).setCells (w.heap.size + 1) 0 (arrQry fx).toList) (seg w.heap.size ((w3.setCell ⟨w.heap.size + 1 + 1, 10, none⟩ (.slice Y3 u.gets.length x3)).setCells (w.heap.size + 1) 0 (arrQry fx).toList).heap.size) (fx 5) u.wh) := by
    show LAt 3 EStp _ _ _ _
    rw [show fx 5 = .slice Y1 u.wh.length x1 by rw [HX.out]; rfl]
    refine (N31'.out.keep keepsStp (fun g hg => ?_)).mono growsStp (fun g hg => ⟨by have := hg.1; omega, ?_⟩)
    · have := hg.1
      rw [Cells.heap_setCells_other _ _ (by omega)]
    · rw [Cells.size_setCells]
      have := hg.2
      simpa using this
  have F2 : Hid (StrsAt ((w3.setCell ⟨w.heap.size + 1 + 1, 10, none⟩ (.slice Y3 u.gets.length x3)).setCells (w.heap.size + 1) 0 (arrQry fx).toList) (seg w.heap.size ((w3.setCell ⟨w.heap.size + 1 + 1, 10, none⟩ (.slice Y3 u.gets.length x3)).setCells (w.heap.size + 1) 0 (arrQry fx).toList).heap.size) (fx 6) u.gps) := by
    show StrsAt _ _ _ _
    rw [show fx 6 = .slice Y2 u.gps.length x2 by rw [HX.out]; rfl]
    refine (N32'.out.keep keepsStr (fun g hg => ?_)).mono growsStr (fun g hg => ⟨by have := hg.1; omega, ?_⟩)
    · have := hg.1
      rw [Cells.heap_setCells_other _ _ (by omega)]
    · rw [Cells.size_setCells]
      have := hg.2
      simpa using this
  have F3 : Hid (LAt 3 EGqt ((w3.setCell ⟨w.heap.size + 1 + 1, 10, none⟩ (.slice Y3 u.gets.length x3)).setCells (w.heap.size + 1) 0 (arrQry fx).toList) (seg w.heap.size ((w3.setCell ⟨w.heap.size + 1 + 1, 10, none⟩ (.slice Y3 u.gets.length x3)).setCells (w.heap.size + 1) 0 (arrQry fx).toList).heap.size) (fx 10) u.gets) := by
    show LAt 3 EGqt _ _ _ _
    rw [show fx 10 = .slice Y3 u.gets.length x3 by rw [HX.out]; rfl]
    refine (N33'.out.keep keepsGqt (fun g hg => ?_)).mono growsGqt (fun g hg => ⟨by have := hg.1; omega, ?_⟩)
    · have := hg.1
      rw [Cells.heap_setCells_other _ _ (by omega)]
    · rw [Cells.size_setCells]
      have := hg.2
      simpa using this
  have EX : Hid (EQry ((w3.setCell ⟨w.heap.size + 1 + 1, 10, none⟩ (.slice Y3 u.gets.length x3)).setCells (w.heap.size + 1) 0 (arrQry fx).toList) (seg w.heap.size ((w3.setCell ⟨w.heap.size + 1 + 1, 10, none⟩ (.slice Y3 u.gets.length x3)).setCells (w.heap.size + 1) 0 (arrQry fx).toList).heap.size) fx u) := ⟨by rw [HX.out]; rfl, by rw [HX.out]; rfl, by rw [HX.out]; rfl, by rw [HX.out]; rfl, by rw [HX.out]; rfl, F1.out, F2.out, by rw [HX.out]; rfl, by rw [HX.out]; rfl, by rw [HX.out]; rfl, F3.out⟩
  have ON := Seg.hid (oneQry EX.out)
  clear Ta1 Tr1 To1 Ua1 M1 Ta2 Tr2 To2 Ua2 M2 Ta3 Tr3 To3 Ua3 M3
  go_upto_region 13 with fail
  clear po310 pf310
  generalize (w3.setCell ⟨w.heap.size + 1 + 1, 10, none⟩ (.slice Y3 u.gets.length x3)) = wz at *
  go_wp2_with (first | (refine wpList_load_row rfl 34 _ rfl (w.heap.size + 1 + 1) rfl _ _ _ _ Uz.out Try.underlying34 rfl infoQry ?_) | (refine wpList_store_mid rfl 34 _ _ rfl (w.heap.size + 1) 0 (arrQry fx) rfl rfl H5.out infoQry ON.out ?_))
  exact bodyPost_ret (v := .agg (arrQry fx)) (results_cell_row rfl _ _ (w.heap.size + 1) _ _ _ _ rfl H4.out Try.underlying34 rfl infoQry) rfl ⟨_, rfl, ⟨fx, rfl, EX.out⟩, B9.out⟩
set_option maxHeartbeats 1600000 in
theorem eqQuery_any (v v' : Value) (u : Qry) (w : World) (S S' : Nat → Prop) (hv : QryAt w S v u) (hv' : QryAt w S' v' u) (hS : ∀ g, S g → g < w.heap.size) (hS' : ∀ g, S' g → g < w.heap.size) :
    Calls Try.prog 11 #[v, v'] w fun e w' => e = .returned (.bool true) ∧ Below w.heap.size w w' := by
  obtain ⟨f, rfl, y0, y1, y2, y3, y4, y5, y6, y7, y8, y9, y10⟩ := hv
  obtain ⟨f', rfl, y0', y1', y2', y3', y4', y5', y6', y7', y8', y9', y10'⟩ := hv'
  try simp only [arrQry]
  rw [show f 0 = _ from y0]
  clear y0
  rw [show f 1 = _ from y1]
  clear y1
  rw [show f 2 = _ from y2]
  clear y2
  rw [show f 3 = _ from y3]
  clear y3
  rw [show f 4 = _ from y4]
  clear y4
  obtain ⟨A5, c5, g5⟩ := y5.form
  rw [g5] at y5 ⊢
  have H5 := Seg.hid y5
  clear y5 g5
  obtain ⟨A6, c6, g6⟩ := y6.form
  rw [g6] at y6 ⊢
  have H6 := Seg.hid y6
  clear y6 g6
  rw [show f 7 = _ from y7]
  clear y7
  rw [show f 8 = _ from y8]
  clear y8
  rw [show f 9 = _ from y9]
  clear y9
  obtain ⟨A10, c10, g10⟩ := y10.form
  rw [g10] at y10 ⊢
  have H10 := Seg.hid y10
  clear y10 g10
  try simp only [arrQry]
  rw [show f' 0 = _ from y0']
  clear y0'
  rw [show f' 1 = _ from y1']
  clear y1'
  rw [show f' 2 = _ from y2']
  clear y2'
  rw [show f' 3 = _ from y3']
  clear y3'
  rw [show f' 4 = _ from y4']
  clear y4'
  obtain ⟨A5', c5', g5'⟩ := y5'.form
  rw [g5'] at y5' ⊢
  have H5' := Seg.hid y5'
  clear y5' g5'
  obtain ⟨A6', c6', g6'⟩ := y6'.form
  rw [g6'] at y6' ⊢
  have H6' := Seg.hid y6'
  clear y6' g6'
  rw [show f' 7 = _ from y7']
  clear y7'
  rw [show f' 8 = _ from y8']
  clear y8'
  rw [show f' 9 = _ from y9']
  clear y9'
  obtain ⟨A10', c10', g10'⟩ := y10'.form
  rw [g10'] at y10' ⊢
  have H10' := Seg.hid y10'
  clear y10' g10'
  go_enter Try.func11, Try.ntmps11
  go_wp2_with fail
  refine (eqStepS_any _ _ u.wh ((w.alloc _).alloc _) S S' (H5.out.below keepsStp (below2 w _ _) hS) (H5'.out.below keepsStp (below2 w _ _) hS') (fun g hg => by rw [hsz, hsz]; have := hS g hg; omega) (fun g hg => by rw [hsz, hsz]; have := hS' g hg; omega)).mono ?_
  rintro e w1 ⟨rfl, b1⟩
  have B1 := Seg.hid (chain (below2 w _ _) b1)
  have Ta1 : Hid (w1.heap[w.heap.size]? = some (.cells #[.string u.fr, .string u.jn, .int .i64 u.wn, .string u.on, .string u.lk, .slice A5 u.wh.length c5, .slice A6 u.gps.length c6, .int .i64 u.win, .int .i64 u.size, .int .i64 u.every, .slice A10 u.gets.length c10] 34 (0, 0))) := (b1.block w.heap.size (by rw [hsz, hsz]; omega)).trans (at2z w _ _)
  have Tb1 : Hid (w1.heap[w.heap.size + 1]? = some (.cells #[.string u.fr, .string u.jn, .int .i64 u.wn, .string u.on, .string u.lk, .slice A5' u.wh.length c5', .slice A6' u.gps.length c6', .int .i64 u.win, .int .i64 u.size, .int .i64 u.every, .slice A10' u.gets.length c10'] 34 (0, 0))) := (b1.block (w.heap.size + 1) (by rw [hsz, hsz]; omega)).trans (at2y w _ _)
  have s1 : w.heap.size + 1 < w1.heap.size := (Array.getElem?_eq_some_iff.1 Tb1.out).1
  have pa16 : w1.cell? ⟨w.heap.size, 6, none⟩ = some (.slice A6 u.gps.length c6) := cell_of_row w1 _ 6 _ _ (0, 0) Ta1.out
  have pb16 : w1.cell? ⟨w.heap.size + 1, 6, none⟩ = some (.slice A6' u.gps.length c6') := cell_of_row w1 _ 6 _ _ (0, 0) Tb1.out
  clear b1
  go_wp2_with fail
  refine (eqStringS_any _ _ u.gps w1 S S' (H6.out.below keepsStr B1.out hS) (H6'.out.below keepsStr B1.out hS') (fun g hg => Nat.lt_of_lt_of_le (hS g hg) B1.out.size) (fun g hg => Nat.lt_of_lt_of_le (hS' g hg) B1.out.size)).mono ?_
  rintro e w2 ⟨rfl, b2⟩
  have B2 := Seg.hid (chain B1.out b2)
  have Ta2 : Hid (w2.heap[w.heap.size]? = some (.cells #[.string u.fr, .string u.jn, .int .i64 u.wn, .string u.on, .string u.lk, .slice A5 u.wh.length c5, .slice A6 u.gps.length c6, .int .i64 u.win, .int .i64 u.size, .int .i64 u.every, .slice A10 u.gets.length c10] 34 (0, 0))) := (b2.block w.heap.size (by omega)).trans Ta1.out
  have Tb2 : Hid (w2.heap[w.heap.size + 1]? = some (.cells #[.string u.fr, .string u.jn, .int .i64 u.wn, .string u.on, .string u.lk, .slice A5' u.wh.length c5', .slice A6' u.gps.length c6', .int .i64 u.win, .int .i64 u.size, .int .i64 u.every, .slice A10' u.gets.length c10'] 34 (0, 0))) := (b2.block (w.heap.size + 1) (by omega)).trans Tb1.out
  have s2 : w.heap.size + 1 < w2.heap.size := (Array.getElem?_eq_some_iff.1 Tb2.out).1
  have pa27 : w2.cell? ⟨w.heap.size, 7, none⟩ = some (.int .i64 u.win) := cell_of_row w2 _ 7 _ _ (0, 0) Ta2.out
  have pb27 : w2.cell? ⟨w.heap.size + 1, 7, none⟩ = some (.int .i64 u.win) := cell_of_row w2 _ 7 _ _ (0, 0) Tb2.out
  have pa28 : w2.cell? ⟨w.heap.size, 8, none⟩ = some (.int .i64 u.size) := cell_of_row w2 _ 8 _ _ (0, 0) Ta2.out
  have pb28 : w2.cell? ⟨w.heap.size + 1, 8, none⟩ = some (.int .i64 u.size) := cell_of_row w2 _ 8 _ _ (0, 0) Tb2.out
  have pa29 : w2.cell? ⟨w.heap.size, 9, none⟩ = some (.int .i64 u.every) := cell_of_row w2 _ 9 _ _ (0, 0) Ta2.out
  have pb29 : w2.cell? ⟨w.heap.size + 1, 9, none⟩ = some (.int .i64 u.every) := cell_of_row w2 _ 9 _ _ (0, 0) Tb2.out
  have pa210 : w2.cell? ⟨w.heap.size, 10, none⟩ = some (.slice A10 u.gets.length c10) := cell_of_row w2 _ 10 _ _ (0, 0) Ta2.out
  have pb210 : w2.cell? ⟨w.heap.size + 1, 10, none⟩ = some (.slice A10' u.gets.length c10') := cell_of_row w2 _ 10 _ _ (0, 0) Tb2.out
  clear b2
  go_wp2_with fail
  refine (eqGetS_any _ _ u.gets w2 S S' (H10.out.below keepsGqt B2.out hS) (H10'.out.below keepsGqt B2.out hS') (fun g hg => Nat.lt_of_lt_of_le (hS g hg) B2.out.size) (fun g hg => Nat.lt_of_lt_of_le (hS' g hg) B2.out.size)).mono ?_
  rintro e w3 ⟨rfl, b3⟩
  have B3 := Seg.hid (chain B2.out b3)
  clear b3
  go_wp2
  go_ret
  exact ⟨rfl, B3.out⟩
end Go.Proofs.Ytkibaimemomjpaa.Ls
namespace Go.Proofs.Ytkibaimemomjpaa.Ow
set_option maxRecDepth 8000
open Go.RowKit
open Recs
open Ls
set_option linter.unusedVariables false
def EOQry : Elt Qry := fun w S f u => (f 0 = .string u.fr ∧ f 1 = .string u.jn ∧ f 2 = .int .i64 u.wn ∧ f 3 = .string u.on ∧ f 4 = .string u.lk ∧ f 7 = .int .i64 u.win ∧ f 8 = .int .i64 u.size ∧ f 9 = .int .i64 u.every) ∧ ∃ Q : Nat → Nat → Prop, (∀ i y, Q i y → S y) ∧ (∀ i j, i ≠ j → ∀ y, Q i y → ¬ Q j y) ∧ StpsOwn w (Q 5) (f 5) u.wh ∧ StrsOwn w (Q 6) (f 6) u.gps ∧ GqtsOwn w (Q 10) (f 10) u.gets
theorem keepsOQry : KeepsO 11 EOQry := fun w w' S f f' t h hs hk hf => by
  obtain ⟨⟨s0, s1, s2, s3, s4, s7, s8, s9⟩, Q, q1, q2, l5, l6, l10⟩ := h
  exact ⟨⟨by rw [hf 0 (by omega)]; exact s0, by rw [hf 1 (by omega)]; exact s1, by rw [hf 2 (by omega)]; exact s2, by rw [hf 3 (by omega)]; exact s3, by rw [hf 4 (by omega)]; exact s4, by rw [hf 7 (by omega)]; exact s7, by rw [hf 8 (by omega)]; exact s8, by rw [hf 9 (by omega)]; exact s9⟩, Q, q1, q2, by rw [hf 5 (by omega)]; exact l5.keep keepsOStp hs (fun g hg => hk g (q1 _ g hg)), by rw [hf 6 (by omega)]; exact l6.keep keepsOStr hs (fun g hg => hk g (q1 _ g hg)), by rw [hf 10 (by omega)]; exact l10.keep keepsOGqt hs (fun g hg => hk g (q1 _ g hg))⟩
theorem atOQry (w : World) (S : Nat → Prop) (f : Nat → Value) (u : Qry) (h : EOQry w S f u) : EQry w S f u := by
  obtain ⟨⟨s0, s1, s2, s3, s4, s7, s8, s9⟩, Q, q1, q2, l5, l6, l10⟩ := h
  exact ⟨s0, s1, s2, s3, s4, (LOwn.lat growsStp atOStp l5).mono growsStp (q1 5), (LOwn.lat growsStr (fun _ _ _ _ h => h) l6).mono growsStr (q1 6), s7, s8, s9, (LOwn.lat growsGqt atOGqt l10).mono growsGqt (q1 10)⟩
def QryOwn (w : World) (S : Nat → Prop) (v : Value) (u : Qry) : Prop := ∃ f, v = .agg (arrQry f) ∧ EOQry w S f u
theorem QryOwn.at {w : World} {S : Nat → Prop} {v : Value} {u : Qry} (h : QryOwn w S v u) : QryAt w S v u := by
  obtain ⟨f, h1, h2⟩ := h
  exact ⟨f, h1, atOQry _ _ _ _ h2⟩
theorem QryOwn.keep {w w' : World} {S : Nat → Prop} {v : Value} {u : Qry} (h : QryOwn w S v u) (hs : w.heap.size ≤ w'.heap.size) (hk : ∀ g, S g → w'.heap[g]? = w.heap[g]?) : QryOwn w' S v u := by
  obtain ⟨f, h1, h2⟩ := h
  exact ⟨f, h1, keepsOQry _ _ _ _ _ _ h2 hs hk (fun _ _ => rfl)⟩
def mQry (k : Nat) (u : Qry) : Qry := ⟨u.fr, u.jn, u.wn, u.on, u.lk, mL mStp nStp (k) u.wh, mL mX nX (k + tot nStp u.wh) u.gps, u.win, u.size, u.every, mL mGqt nGqt (k + tot nStp u.wh + tot nX u.gps) u.gets⟩
def nQry (u : Qry) : Nat := tot nStp u.wh + tot nX u.gps + tot nGqt u.gets
set_option maxHeartbeats 1600000 in
theorem markQuery_own (x : Int) (k : Nat) (hx : x = (k : Int)) (S : Nat → Prop) (u : Qry) (w : World) {v : Value} (hk : 0 < k) (hk1 : k + nQry u ≤ 4000000000000000000) (hS : ∀ y, S y → y < w.heap.size) (hv : QryOwn w S v u) :
    Calls Try.prog 13 #[v, .int .i64 x] w fun e w' => e = .returned (.int .i64 ((k + nQry u : Nat) : Int)) ∧ QryOwn w' S v (mQry k u) ∧ Foot w w' S := by
  subst hx
  obtain ⟨f, rfl, ⟨s0, s1, s2, s3, s4, s7, s8, s9⟩, Q, q1, q2, l5, l6, l10⟩ := hv
  obtain ⟨A5, c5, g5⟩ := l5.form
  have O0_5 : Hid (StpsOwn w (Q 5) (.slice A5 u.wh.length c5) u.wh) := by rw [← g5]; exact l5
  obtain ⟨A6, c6, g6⟩ := l6.form
  have O0_6 : Hid (StrsOwn w (Q 6) (.slice A6 u.gps.length c6) u.gps) := by rw [← g6]; exact l6
  obtain ⟨A10, c10, g10⟩ := l10.form
  have O0_10 : Hid (GqtsOwn w (Q 10) (.slice A10 u.gets.length c10) u.gets) := by rw [← g10]; exact l10
  have ER : arrQry f = #[.string u.fr, .string u.jn, .int .i64 u.wn, .string u.on, .string u.lk, .slice A5 u.wh.length c5, .slice A6 u.gps.length c6, .int .i64 u.win, .int .i64 u.size, .int .i64 u.every, .slice A10 u.gets.length c10] := by unfold arrQry; rw [s0, s1, s2, s3, s4, g5, g6, s7, s8, s9, g10]
  have K0 := Seg.hid s0
  have K1 := Seg.hid s1
  have K2 := Seg.hid s2
  have K3 := Seg.hid s3
  have K4 := Seg.hid s4
  have K7 := Seg.hid s7
  have K8 := Seg.hid s8
  have K9 := Seg.hid s9
  have G5 := Seg.hid g5
  have G6 := Seg.hid g6
  have G10 := Seg.hid g10
  have QP := Seg.hid q1
  have QD := Seg.hid q2
  have QL : Hid (∀ i y, Q i y → y < w.heap.size) := fun i y hy => hS y (QP.out i y hy)
  rw [ER]
  have ER' := Seg.hid ER
  clear ER q1 q2 s0 s1 s2 s3 s4 s7 s8 s9 l5 g5 l6 g6 l10 g10
  have HB : Hid (k + nQry u ≤ 4000000000000000000) := hk1
  unfold nQry at hk1
  have hk2 : k ≤ 4000000000000000000 := by omega
  have HK := Seg.hid hk1
  clear hk1
  go_enter Try.func13, Try.ntmps13
  go_wp2_with fail
  refine (markStepS_own _ k (by omega) (Q 5) u.wh (w.alloc _) (by omega) (by have := HK.out; omega) (O0_5.out.belowO keepsOStp (below1 w _) (QL.out 5))).mono ?_
  rintro e w1 ⟨rfl, o1, t1⟩
  have O1_5 : Hid (StpsOwn w1 (Q 5) (.slice A5 u.wh.length c5) (mL mStp nStp (k) u.wh)) := o1
  have O1_6 : Hid (StrsOwn w1 (Q 6) (.slice A6 u.gps.length c6) (u.gps)) := LOwn.footO keepsOStr (O0_6.out.belowO keepsOStr (below1 w _) (QL.out 6)) t1 (fun y hy => by rw [hsz]; have := QL.out 6 y hy; omega) (QD.out 6 5 (by omega))
  have O1_10 : Hid (GqtsOwn w1 (Q 10) (.slice A10 u.gets.length c10) (u.gets)) := LOwn.footO keepsOGqt (O0_10.out.belowO keepsOGqt (below1 w _) (QL.out 10)) t1 (fun y hy => by rw [hsz]; have := QL.out 10 y hy; omega) (QD.out 10 5 (by omega))
  have F1 := Seg.hid ((Foot.of_below (below1 w _) S).trans t1 (QP.out 5))
  have T1 : Hid (w1.heap[w.heap.size]? = some (.cells #[.string u.fr, .string u.jn, .int .i64 u.wn, .string u.on, .string u.lk, .slice A5 u.wh.length c5, .slice A6 u.gps.length c6, .int .i64 u.win, .int .i64 u.size, .int .i64 u.every, .slice A10 u.gets.length c10] 34 (0, 0))) := (t1.block w.heap.size (by rw [hsz]; omega) (fun h => by have := QL.out 5 _ h; omega)).trans (heap_alloc_new _ _)
  have p1 : w1.cell? ⟨w.heap.size, 6, none⟩ = some (.slice A6 u.gps.length c6) := cell_of_row w1 _ 6 _ _ (0, 0) T1.out
  clear o1 t1
  obtain ⟨y1, hy1⟩ : ∃ y1, k + tot nStp u.wh = y1 := ⟨_, rfl⟩
  rw [hy1]
  have Hy1 := Seg.hid hy1
  have hp_y1 : 0 < y1 := by omega
  have hd_y1 : y1 ≤ 4000000000000000000 := by have z0 := Hy1.out; have := HK.out; omega
  clear hy1
  go_wp2_with fail
  refine (markStringS_own _ y1 (by omega) (Q 6) u.gps w1 (by omega) (by have z0 := Hy1.out; have := HK.out; omega) O1_6.out).mono ?_
  rintro e w2 ⟨rfl, o2, t2⟩
  have O2_5 : Hid (StpsOwn w2 (Q 5) (.slice A5 u.wh.length c5) (mL mStp nStp (k) u.wh)) := LOwn.footO keepsOStp O1_5.out t2 (fun y hy => Nat.lt_of_lt_of_le (QL.out 5 y hy) F1.out.size) (QD.out 5 6 (by omega))
  have O2_6 : Hid (StrsOwn w2 (Q 6) (.slice A6 u.gps.length c6) (mL mX nX (y1) u.gps)) := o2
  have O2_10 : Hid (GqtsOwn w2 (Q 10) (.slice A10 u.gets.length c10) (u.gets)) := LOwn.footO keepsOGqt O1_10.out t2 (fun y hy => Nat.lt_of_lt_of_le (QL.out 10 y hy) F1.out.size) (QD.out 10 6 (by omega))
  have F2 := Seg.hid (F1.out.trans t2 (QP.out 6))
  have T2 : Hid (w2.heap[w.heap.size]? = some (.cells #[.string u.fr, .string u.jn, .int .i64 u.wn, .string u.on, .string u.lk, .slice A5 u.wh.length c5, .slice A6 u.gps.length c6, .int .i64 u.win, .int .i64 u.size, .int .i64 u.every, .slice A10 u.gets.length c10] 34 (0, 0))) := (t2.block w.heap.size (Array.getElem?_eq_some_iff.1 T1.out).1 (fun h => by have := QL.out 6 _ h; omega)).trans T1.out
  have p2 : w2.cell? ⟨w.heap.size, 10, none⟩ = some (.slice A10 u.gets.length c10) := cell_of_row w2 _ 10 _ _ (0, 0) T2.out
  clear o2 t2
  obtain ⟨y2, hy2⟩ : ∃ y2, y1 + tot nX u.gps = y2 := ⟨_, rfl⟩
  rw [hy2]
  have Hy2 := Seg.hid hy2
  have hp_y2 : 0 < y2 := by omega
  have hd_y2 : y2 ≤ 4000000000000000000 := by have z0 := Hy1.out; have z1 := Hy2.out; have := HK.out; omega
  clear hy2
  go_wp2_with fail
  refine (markGetS_own _ y2 (by omega) (Q 10) u.gets w2 (by omega) (by have z0 := Hy1.out; have z1 := Hy2.out; have := HK.out; omega) O2_10.out).mono ?_
  rintro e w3 ⟨rfl, o3, t3⟩
  have O3_5 : Hid (StpsOwn w3 (Q 5) (.slice A5 u.wh.length c5) (mL mStp nStp (k) u.wh)) := LOwn.footO keepsOStp O2_5.out t3 (fun y hy => Nat.lt_of_lt_of_le (QL.out 5 y hy) F2.out.size) (QD.out 5 10 (by omega))
  have O3_6 : Hid (StrsOwn w3 (Q 6) (.slice A6 u.gps.length c6) (mL mX nX (y1) u.gps)) := LOwn.footO keepsOStr O2_6.out t3 (fun y hy => Nat.lt_of_lt_of_le (QL.out 6 y hy) F2.out.size) (QD.out 6 10 (by omega))
  have O3_10 : Hid (GqtsOwn w3 (Q 10) (.slice A10 u.gets.length c10) (mL mGqt nGqt (y2) u.gets)) := o3
  have F3 := Seg.hid (F2.out.trans t3 (QP.out 10))
  clear o3 t3
  obtain ⟨y3, hy3⟩ : ∃ y3, y2 + tot nGqt u.gets = y3 := ⟨_, rfl⟩
  rw [hy3]
  have Hy3 := Seg.hid hy3
  have hp_y3 : 0 < y3 := by omega
  have hd_y3 : y3 ≤ 4000000000000000000 := by have z0 := Hy1.out; have z1 := Hy2.out; have z2 := Hy3.out; have := HK.out; omega
  clear hy3
  go_wp2
  go_ret
  exact ⟨Seg.ret_int (by have z0 := Hy1.out; have z1 := Hy2.out; have z2 := Hy3.out; unfold nQry; omega), ⟨f, by rw [ER'.out], ⟨K0.out, K1.out, K2.out, K3.out, K4.out, K7.out, K8.out, K9.out⟩, Q, QP.out, QD.out, (by have ho := O3_5.out; rw [← G5.out] at ho; exact ho), (by have ho := O3_6.out; rw [← G6.out] at ho; rw [show y1 = k + tot nStp u.wh by have z0 := Hy1.out; have z1 := Hy2.out; have z2 := Hy3.out; omega] at ho; exact ho), (by have ho := O3_10.out; rw [← G10.out] at ho; rw [show y2 = k + tot nStp u.wh + tot nX u.gps by have z0 := Hy1.out; have z1 := Hy2.out; have z2 := Hy3.out; omega] at ho; exact ho)⟩, F3.out⟩
end Go.Proofs.Ytkibaimemomjpaa.Ow
