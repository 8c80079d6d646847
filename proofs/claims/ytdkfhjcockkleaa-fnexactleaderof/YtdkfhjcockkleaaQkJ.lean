/- QuorumOk of the program: a voter. -/
import Derived.Test.YtdkfhjcockkleaaQkI
namespace Go.Proofs.Ytdkfhjcockkleaa.QkI
set_option maxRecDepth 8000
open Go.RowKit
open Ls QkP
open Recs (hsz below1 below2 chain)
set_option linter.unusedVariables false
/-- What a voter's check ends with where one of its askers says no. -/
structure Vs (v : Vtr) (A3 A4 A5 A6 : Option Addr) (c3 c4 c5 c6 : Nat) (w : World) (g : Nat) : Prop where
  row : w.heap[g]? = some (.cells #[.int .i64 v.term, .int .i64 v.vote, .int .i64 v.role, .slice A3 v.votes.length c3, .slice A4 v.log.length c4, .slice A5 v.next.length c5, .slice A6 v.mtch.length c6, .int .i64 v.sealed] 45 (0, 0))
theorem Vs.cells {v : Vtr} {A3 A4 A5 A6 : Option Addr} {c3 c4 c5 c6 : Nat} {w : World} {g : Nat} (h : Vs v A3 A4 A5 A6 c3 c4 c5 c6 w g) :
    w.cell? ⟨g, 0, none⟩ = some (.int .i64 v.term) ∧ w.cell? ⟨g, 1, none⟩ = some (.int .i64 v.vote) ∧ w.cell? ⟨g, 2, none⟩ = some (.int .i64 v.role) ∧ w.cell? ⟨g, 3, none⟩ = some (.slice A3 v.votes.length c3) ∧ w.cell? ⟨g, 4, none⟩ = some (.slice A4 v.log.length c4) ∧
    w.cell? ⟨g, 5, none⟩ = some (.slice A5 v.next.length c5) ∧ w.cell? ⟨g, 6, none⟩ = some (.slice A6 v.mtch.length c6) ∧ w.cell? ⟨g, 7, none⟩ = some (.int .i64 v.sealed) :=
  ⟨cell_of_row w _ 0 _ _ (0, 0) h.row, cell_of_row w _ 1 _ _ (0, 0) h.row, cell_of_row w _ 2 _ _ (0, 0) h.row, cell_of_row w _ 3 _ _ (0, 0) h.row, cell_of_row w _ 4 _ _ (0, 0) h.row, cell_of_row w _ 5 _ _ (0, 0) h.row, cell_of_row w _ 6 _ _ (0, 0) h.row, cell_of_row w _ 7 _ _ (0, 0) h.row⟩
set_option maxHeartbeats 1600000 in
theorem voter_any (x : Value) (v : Vtr) (n : Nat) (w : World) (S : Nat → Prop) (hv : VtrAt w S x v) (hS : ∀ g, S g → g < w.heap.size) (hf : szVtr v ≤ 1048576) (hn : 1 ≤ n) (hn2 : n ≤ 1048576) :
    Calls Try.prog 25 #[x, .int .i64 n] w fun e w' => e = .returned (.bool (voter n v)) ∧ Below w.heap.size w w' := by
  obtain ⟨f, rfl, y0, y1, y2, y3, y4, y5, y6, y7⟩ := hv
  unfold arrVtr
  obtain ⟨A3, c3, g3⟩ := y3.form
  obtain ⟨A4, c4, g4⟩ := y4.form
  obtain ⟨A5, c5, g5⟩ := y5.form
  obtain ⟨A6, c6, g6⟩ := y6.form
  rw [g3] at y3 ⊢; rw [g4] at y4 ⊢; rw [g5] at y5 ⊢; rw [g6] at y6 ⊢
  rw [y0, y1, y2, y7]
  have H3 := Seg.hid y3; have H4 := Seg.hid y4; have H5 := Seg.hid y5; have H6 := Seg.hid y6
  have HL : Hid (szL szCmd v.log ≤ 1048576) := by show _ ≤ _; unfold szVtr at hf; omega
  clear y0 y1 y2 y3 y4 y5 y6 y7 g3 g4 g5 g6 hf
  have e1 : IntKind.i64.wrap ((n : Int) - 1) = (n : Int) - 1 := by rw [IntKind.wrap_i64] <;> omega
  go_enter Try.func25, Try.ntmps25
  have no : ∀ (w' : World), voter n v = false → Below w.heap.size w w' → (Ending.returned (.bool false) = .returned (.bool (voter n v)) ∧ Below w.heap.size w w') := fun w' h b => ⟨by rw [h], b⟩
  have NO := Seg.hid no
  clear no
  go_wp2_with fail
  cases h1 : inR 0 v.term 1000000000000 with
  | false =>
    refine (InB.within_b _ _ _ false h1 _).mono ?_
    rintro e w1 ⟨rfl, rfl⟩
    have Z : Hid (voter n v = false) := by show _ = _; simp [voter, first, h1]
    go_wp2
    go_ret
    exact NO.out _ Z.out (below1 _ _)
  | true =>
  refine (InB.within_b _ _ _ true h1 _).mono ?_
  rintro e w1 ⟨rfl, rfl⟩
  have K1 := Seg.hid h1
  clear h1
  go_wp2_with fail
  cases h2 : inR (-1) v.vote ((n : Int) - 1) with
  | false =>
    refine (InB.within_b _ _ _ false h2 _).mono ?_
    rintro e w1 ⟨rfl, rfl⟩
    have Z : Hid (voter n v = false) := by show _ = _; simp [voter, first, h2]
    go_wp2
    go_ret
    exact NO.out _ Z.out (below1 _ _)
  | true =>
  refine (InB.within_b _ _ _ true h2 _).mono ?_
  rintro e w1 ⟨rfl, rfl⟩
  have K2 := Seg.hid h2
  clear h2
  go_wp2_with fail
  cases h3 : inR 0 v.role 2 with
  | false =>
    refine (InB.within_b _ _ _ false h3 _).mono ?_
    rintro e w1 ⟨rfl, rfl⟩
    have Z : Hid (voter n v = false) := by show _ = _; simp [voter, first, h3]
    go_wp2
    go_ret
    exact NO.out _ Z.out (below1 _ _)
  | true =>
  refine (InB.within_b _ _ _ true h3 _).mono ?_
  rintro e w1 ⟨rfl, rfl⟩
  have KF : Hid (first n v = true) := by show _ = _; simp [first, K1.out, K2.out, h3]
  clear h3 K1 K2
  go_wp2_with fail
  cases h4 : asc ((n : Int) - 1) (-1) v.votes with
  | false =>
    refine (asc_any _ v.votes _ false _ S (H3.out.below keepsI (below1 w _) hS) (by omega) h4).mono ?_
    rintro e w1 ⟨rfl, rfl⟩
    have Z : Hid (voter n v = false) := by show _ = _; simp [voter, second, h4]
    go_wp2
    go_ret
    exact NO.out _ Z.out (below1 _ _)
  | true =>
  refine (asc_any _ v.votes _ true _ S (H3.out.below keepsI (below1 w _) hS) (by omega) h4).mono ?_
  rintro e w1 ⟨rfl, rfl⟩
  have K4 := Seg.hid h4
  clear h4
  go_wp2_with fail
  refine (cmds_any _ v.log _ (w.alloc _) S (H4.out.below keepsCmd (below1 w _) hS) (fun g hg => by rw [hsz]; have := hS g hg; omega) HL.out rfl).mono ?_
  rintro e w1 ⟨rfl, b1⟩
  have B1 := Seg.hid (chain (below1 w _) b1)
  have T1 : Hid (Vs v A3 A4 A5 A6 c3 c4 c5 c6 w1 w.heap.size) := ⟨(b1.block w.heap.size (by rw [hsz]; omega)).trans (heap_alloc_new _ _)⟩
  have s1 : w.heap.size < w1.heap.size := (Array.getElem?_eq_some_iff.1 T1.out.row).1
  clear b1
  obtain ⟨p0, p1, p2, p3, p4, p5, p6, p7⟩ := T1.out.cells
  cases h5 : cmds v.log with
  | false =>
    have Z : Hid (voter n v = false) := by show _ = _; simp [voter, second, h5]
    clear h5
    go_wp2
    go_ret
    exact NO.out _ Z.out B1.out
  | true =>
  have K5 := Seg.hid h5
  clear h5
  go_wp2_with fail
  clear p0 p1 p2 p3 p4 p5 p6 p7
  refine (terms_any _ v.log 0 v.term _ w1 S (H4.out.below keepsCmd B1.out hS) (fun g hg => Nat.lt_of_lt_of_le (hS g hg) B1.out.size) rfl).mono ?_
  rintro e w2 ⟨rfl, b2⟩
  have B2 := Seg.hid (chain B1.out b2)
  have T2 : Hid (Vs v A3 A4 A5 A6 c3 c4 c5 c6 w2 w.heap.size) := ⟨(b2.block w.heap.size s1).trans T1.out.row⟩
  clear b2
  obtain ⟨p0, p1, p2, p3, p4, p5, p6, p7⟩ := T2.out.cells
  cases h6 : terms v.term 0 v.log with
  | false =>
    have Z : Hid (voter n v = false) := by show _ = _; simp [voter, second, h6]
    clear h6
    go_wp2
    go_ret
    exact NO.out _ Z.out B2.out
  | true =>
  have K6 := Seg.hid h6
  clear h6
  go_wp2_with fail
  cases h7 : inR 0 v.sealed v.log.length with
  | false =>
    refine (InB.within_b _ _ _ false h7 _).mono ?_
    rintro e w3 ⟨rfl, rfl⟩
    have Z : Hid (voter n v = false) := by show _ = _; simp [voter, second, h7]
    clear h7
    go_wp2
    go_ret
    exact NO.out _ Z.out B2.out
  | true =>
  refine (InB.within_b _ _ _ true h7 _).mono ?_
  rintro e w3 ⟨rfl, rfl⟩
  have KS : Hid (second n v = true) := by show _ = _; simp [second, K4.out, K5.out, K6.out, h7]
  clear h7 K4 K5 K6
  have KV : Hid (voter n v = third n v) := by show _ = _; simp [voter, KF.out, KS.out]
  by_cases hr : v.role = 2
  · have HR := Seg.hid hr
    have hr2 : (v.role == 2) = true := by simp [hr]
    have hr3 : (v.role != 2) = false := by simp [hr]
    clear hr
    cases h8 : nums v.next n v.log.length with
    | false =>
      have Z : Hid (voter n v = false) := by show _ = _; rw [KV.out]; simp [third, HR.out, h8]
      go_wp2_with fail
      refine (all_any _ v.next n v.log.length false w2 S (H5.out.below keepsI B2.out hS) h8).mono ?_
      rintro e w3 ⟨rfl, rfl⟩
      go_wp2
      go_ret
      exact NO.out _ Z.out B2.out
    | true =>
      go_wp2_with fail
      refine (all_any _ v.next n v.log.length true w2 S (H5.out.below keepsI B2.out hS) h8).mono ?_
      rintro e w3 ⟨rfl, rfl⟩
      have Z : Hid (nums v.mtch n v.log.length = voter n v) := by show _ = _; rw [KV.out]; simp [third, HR.out, h8]
      go_wp2_with fail
      refine (all_any _ v.mtch n v.log.length _ w2 S (H6.out.below keepsI B2.out hS) Z.out).mono ?_
      rintro e w3 ⟨rfl, rfl⟩
      go_wp2
      go_ret
      exact ⟨rfl, B2.out⟩
  · have Z : Hid (voter n v = (decide (v.next.length = 0) && decide (v.mtch.length = 0))) := by show _ = _; rw [KV.out]; simp [third, hr]
    have hr2 : (v.role == 2) = false := by simpa using hr
    have hr3 : (v.role != 2) = true := by simpa using hr
    clear hr
    cases h8 : ((v.next.length : Int) == 0) with
    | false =>
      have Y : Hid (voter n v = false) := by
        show _ = _
        rw [Z.out]
        have : ¬ v.next.length = 0 := by intro h; rw [h] at h8; simp at h8
        simp [this]
      go_wp2
      go_ret
      exact NO.out _ Y.out B2.out
    | true =>
      have Y : Hid (((v.mtch.length : Int) == 0) = voter n v) := by
        show _ = _
        rw [Z.out]
        have : v.next.length = 0 := by simpa using h8
        simp [this]
        rw [Bool.eq_iff_iff]; simp
      go_wp2
      go_ret
      exact ⟨Seg.ret_bool (by first | exact Y.out | (rw [← Y.out]; simp)), B2.out⟩
end Go.Proofs.Ytdkfhjcockkleaa.QkI
