/- A number that lies between two: the model's asker and the program's; The program's askers of a log's numbers; The program's search for an offset among Segments and among Batches. -/
import Derived.WalkLawsBesides
import Derived.WalkSmall
import Derived.RegionTactic
import Derived.Maps.AppendAt
import Derived.Laws.Rows
import Derived.Deep.RegionWith
import Derived.Outline
import Derived.BigQuiet
import Derived.Laws.BitsLemmas
import Derived.Deep.RegionHeld3
import Derived.Test.YtggjinjadllapaaRows
import Derived.Test.YtggjinjadllapaaJSF01
import Derived.Test.YtggjinjadllapaaJSF08
namespace Go.Proofs.Ytggjinjadllapaa.InB
set_option maxRecDepth 8000
open Go.RowKit
set_option linter.unusedVariables false
theorem l1In_any (x lo hi : Int) (w : World) : Calls Try.prog 32 #[.int .i64 x, .int .i64 lo, .int .i64 hi] w fun e w' => e = .returned (.bool (decide (lo ≤ x) && decide (x ≤ hi))) ∧ w = w' := by
  go_enter Try.func32, Try.ntmps32
  go_wp2
  all_goals
    go_ret
    exact ⟨Seg.ret_bool (by rw [Bool.eq_iff_iff]; simp; try omega), rfl⟩
theorem within_any (x lo hi : Int) (w : World) : Calls Try.prog 39 #[.int .i64 x, .int .i64 lo, .int .i64 hi] w fun e w' => e = .returned (.bool (decide (lo ≤ x) && decide (x ≤ hi))) ∧ w = w' := by
  go_enter Try.func39, Try.ntmps39
  go_wp2
  all_goals
    go_ret
    exact ⟨Seg.ret_bool (by rw [Bool.eq_iff_iff]; simp; try omega), rfl⟩
theorem l1In_b (x lo hi : Int) (b : Bool) (hb : (decide (lo ≤ x) && decide (x ≤ hi)) = b) (w : World) : Calls Try.prog 32 #[.int .i64 x, .int .i64 lo, .int .i64 hi] w fun e w' => e = .returned (.bool b) ∧ w = w' := by
  subst hb; exact l1In_any x lo hi w
theorem within_b (x lo hi : Int) (b : Bool) (hb : (decide (lo ≤ x) && decide (x ≤ hi)) = b) (w : World) : Calls Try.prog 39 #[.int .i64 x, .int .i64 lo, .int .i64 hi] w fun e w' => e = .returned (.bool b) ∧ w = w' := by
  subst hb; exact within_any x lo hi w
end Go.Proofs.Ytggjinjadllapaa.InB
namespace Go.Proofs.Ytggjinjadllapaa.LgI
set_option maxRecDepth 8000
open Go.RowKit
open InB (l1In_b within_b)
open LgP (inR)
open Recs (hsz below1 below2 BatAt RecsAt batVal Bat chain)
set_option linter.unusedVariables false
/-- A log's three numbers, as the program asks them. -/
theorem bounds_any (a b c : Int) (v : Value) (t : Bool) (ht : (inR b 0 1000000000 && (inR a 0 b && inR c 1 20000)) = t) (w : World) : Calls Try.prog 63 #[.agg #[.int .i64 a, .int .i64 b, .int .i64 c, v]] w fun e w' => e = .returned (.bool t) ∧ Below w.heap.size w w' := by
  subst ht
  cases h1 : inR b 0 1000000000 with
  | false =>
    have H1 := Seg.hid h1
    go_enter Try.func63, Try.ntmps63
    go_wp2_with fail
    refine (within_b b 0 1000000000 false H1.out _).mono ?_
    rintro _ _ ⟨rfl, rfl⟩
    go_wp2
    go_ret
    exact ⟨rfl, Recs.below1 _ _⟩
  | true =>
    cases h2 : inR a 0 b with
    | false =>
      have H1 := Seg.hid h1
      have H2 := Seg.hid h2
      go_enter Try.func63, Try.ntmps63
      go_wp2_with fail
      refine (within_b b 0 1000000000 true H1.out _).mono ?_
      rintro _ _ ⟨rfl, rfl⟩
      go_wp2_with fail
      refine (within_b a 0 b false H2.out _).mono ?_
      rintro _ _ ⟨rfl, rfl⟩
      go_wp2
      go_ret
      exact ⟨rfl, Recs.below1 _ _⟩
    | true =>
      have H1 := Seg.hid h1
      have H2 := Seg.hid h2
      go_enter Try.func63, Try.ntmps63
      go_wp2_with fail
      refine (within_b b 0 1000000000 true H1.out _).mono ?_
      rintro _ _ ⟨rfl, rfl⟩
      go_wp2_with fail
      refine (within_b a 0 b true H2.out _).mono ?_
      rintro _ _ ⟨rfl, rfl⟩
      go_wp2_with fail
      refine (within_b c 1 20000 (inR c 1 20000) rfl _).mono ?_
      rintro _ _ ⟨rfl, rfl⟩
      go_wp2
      go_ret
      exact ⟨rfl, Recs.below1 _ _⟩

theorem behind_any (v : Value) (t : Bat) (w : World) (lo b : Nat) (hv : BatAt w lo b v t) (hok : BOk.batOk t = true) :
    Calls Try.prog 66 #[v] w fun e w' => e = .returned (.int .i64 (t.base + t.recs.length)) ∧ Below w.heap.size w w' := by
  obtain ⟨rv, rfl, H, ⟨hn, A, c, rfl, hx1⟩, hx2⟩ := hv
  have hl := LgP.okLen hok
  clear hx1 hx2
  unfold batVal
  go_enter Try.func66, Try.ntmps66
  go_wp2
  go_ret
  exact ⟨rfl, below1 _ _⟩
end Go.Proofs.Ytggjinjadllapaa.LgI
namespace Go.Proofs.Ytggjinjadllapaa.SrW
set_option maxRecDepth 8000
open Go.RowKit
open Recs (hsz below1 below2 chain chainD BatAt RecsAt)
open Bats SegW Segs LogW SrP
set_option linter.unusedVariables false
set_option maxHeartbeats 800000 in
theorem ask_seg (A : Option Addr) (c h1 h2 i : Nat) (x : Int) (ss : List Sg) (w : World) (lo b : Nat) (hv : SegsAt w lo b (.slice A ss.length c) ss) (hb : b ≤ w.heap.size) (hi : i < ss.length) (hl : (ss.getD i default).bats.length ≤ 1048576) (hok : ∀ k, k < (ss.getD i default).bats.length → BOk.batOk ((ss.getD i default).bats.getD k default) = true)
    (hn : ss.length ≤ 1048576) (c1 : w.cell? ⟨h1, 0, none⟩ = some (.slice A ss.length c)) (c2 : w.cell? ⟨h2, 0, none⟩ = some (.int .i64 x)) (l1 : h1 < w.heap.size) (l2 : h2 < w.heap.size) :
    Calls Try.prog 68 #[.int .i64 i, .pointer (some ⟨h1, 0, none⟩), .pointer (some ⟨h2, 0, none⟩)] w fun e w' => e = .returned (.bool (pS x (ss.getD i default))) ∧ Below w.heap.size w w' := by
  obtain ⟨H, ⟨_, A', c', hsl, hrow⟩, hh⟩ := hv
  simp only [Value.slice.injEq] at hsl
  obtain ⟨rfl, _, rfl⟩ := hsl
  obtain ⟨g, o, rfl, hg, hc, hcell, _⟩ := hrow.resolve_left (by omega)
  obtain ⟨e0, e1⟩ := Segs.six hcell i hi
  have HI := Seg.hid (hh i hi)
  have HOK := Seg.hid hok
  clear hcell hh hrow hok
  have q0 : (0 : Int) ≤ (i : Int) := by omega
  have q1 : (i : Int) < (ss.length : Int) := by omega
  generalize ss.getD i default = s at *
  obtain ⟨K, ⟨_, Ah, ch, hHj, hrow2⟩, hk⟩ := HI.out
  rw [hHj] at e1
  have HR2 := Seg.hid hrow2; have HK := Seg.hid hk
  clear hHj hrow2 hk
  by_cases hz : s.bats.length = 0
  · rw [hz] at e1
    have HP : Hid (pS x s = true) := by show _ = _; simp [pS, hz]
    clear hz
    go_enter Try.func68, Try.ntmps68
    go_wp2_with fail
    go_quiet (fail)
    go_wp2
    go_ret
    exact ⟨by rw [HP.out]; rfl, below_drewN (Below.refl _ _) _⟩
  · obtain ⟨g2, o2, rfl, hg2, hc2, hcell2, _⟩ := HR2.out.resolve_left hz
    have hz1 : decide ((s.bats.length : Int) = 0) = false := decide_eq_false (by omega)
    have hz2 : ((s.bats.length : Int) == 0) = false := beq_false_of_ne (by omega)
    have z0 : (0 : Int) ≤ (s.bats.length : Int) - 1 := by omega
    have z1 : (s.bats.length : Int) - 1 < (s.bats.length : Int) := by omega
    have z2 : (1 : Int) ≤ (s.bats.length : Int) := by omega
    have z3 : 0 < s.bats.length := by omega
    have z4 : s.bats.length - 1 < s.bats.length := by omega
    have zw : IntKind.i64.wrap ((s.bats.length : Int) - 1) = (s.bats.length : Int) - 1 := by rw [IntKind.wrap_i64]; omega
    have DD := Bats.six hcell2 (s.bats.length - 1) (by omega)
    have HP : Hid (pS x s = decide (x < (s.bats.getD (s.bats.length - 1) default).base + (s.bats.getD (s.bats.length - 1) default).recs.length)) := by show _ = _; simp [pS, hz, sEnd, bEnd]
    have BA : Hid (BatAt w lo b (.agg (BatW.batArr (s.bats.getD (s.bats.length - 1) default) (K (s.bats.length - 1)))) (s.bats.getD (s.bats.length - 1) default)) := ⟨_, rfl, HK.out _ (by omega)⟩
    have OK1 := Seg.hid (HOK.out (s.bats.length - 1) (by omega))
    obtain ⟨_, ⟨_, A3, c3, hK3, _⟩, _⟩ := HK.out (s.bats.length - 1) (by omega)
    obtain ⟨d0, d1, d2, d3, d4, d5, d6⟩ := DD
    rw [hK3] at d6 BA
    clear hK3 hcell2
    generalize s.bats.getD (s.bats.length - 1) default = t at *
    go_enter Try.func68, Try.ntmps68
    go_wp2_with fail
    have KW : Hid (∀ w', Below w.heap.size w w' → w'.cell? ⟨h2, 0, none⟩ = some (.int .i64 x) ∧ w'.cell? ⟨g2, o2 + (s.bats.length - 1) * 7, none⟩ = some (.int .i64 t.base) ∧ w'.cell? ⟨g2, o2 + (s.bats.length - 1) * 7 + 1, none⟩ = some (.int .i64 t.epoch) ∧ w'.cell? ⟨g2, o2 + (s.bats.length - 1) * 7 + 2, none⟩ = some (.int .i64 t.producer) ∧ w'.cell? ⟨g2, o2 + (s.bats.length - 1) * 7 + 3, none⟩ = some (.int .i64 t.turn) ∧ w'.cell? ⟨g2, o2 + (s.bats.length - 1) * 7 + 4, none⟩ = some (.int .i64 t.seq) ∧ w'.cell? ⟨g2, o2 + (s.bats.length - 1) * 7 + 5, none⟩ = some (.int .i64 t.flags) ∧ w'.cell? ⟨g2, o2 + (s.bats.length - 1) * 7 + 6, none⟩ = some (.slice A3 t.recs.length c3)) := fun w' bl => ⟨(bl.cell (p := ⟨h2, 0, none⟩) l2).trans c2, (bl.cell (p := ⟨g2, _, none⟩) (by show g2 < _; omega)).trans d0, (bl.cell (p := ⟨g2, _, none⟩) (by show g2 < _; omega)).trans d1, (bl.cell (p := ⟨g2, _, none⟩) (by show g2 < _; omega)).trans d2, (bl.cell (p := ⟨g2, _, none⟩) (by show g2 < _; omega)).trans d3, (bl.cell (p := ⟨g2, _, none⟩) (by show g2 < _; omega)).trans d4, (bl.cell (p := ⟨g2, _, none⟩) (by show g2 < _; omega)).trans d5, (bl.cell (p := ⟨g2, _, none⟩) (by show g2 < _; omega)).trans d6⟩
    go_region_held3 (fun w' => w'.cell? ⟨h2, 0, none⟩ = some (.int .i64 x) ∧ w'.cell? ⟨g2, o2 + (s.bats.length - 1) * 7, none⟩ = some (.int .i64 t.base) ∧ w'.cell? ⟨g2, o2 + (s.bats.length - 1) * 7 + 1, none⟩ = some (.int .i64 t.epoch) ∧ w'.cell? ⟨g2, o2 + (s.bats.length - 1) * 7 + 2, none⟩ = some (.int .i64 t.producer) ∧ w'.cell? ⟨g2, o2 + (s.bats.length - 1) * 7 + 3, none⟩ = some (.int .i64 t.turn) ∧ w'.cell? ⟨g2, o2 + (s.bats.length - 1) * 7 + 4, none⟩ = some (.int .i64 t.seq) ∧ w'.cell? ⟨g2, o2 + (s.bats.length - 1) * 7 + 5, none⟩ = some (.int .i64 t.flags) ∧ w'.cell? ⟨g2, o2 + (s.bats.length - 1) * 7 + 6, none⟩ = some (.slice A3 t.recs.length c3)) (first | go_keep | exact K1.out | exact KW.out _ (Below.refl _ _).drew)
      (first | (go_at_call 66; refine (LgI.behind_any _ t w.drew lo b BA.out OK1.out).mono ?_; rintro e w1 ⟨rfl, b1⟩; have B1 : Hid (Below w.heap.size w w1) := ⟨b1.os, b1.tape, b1.output, b1.size, b1.block⟩; have K1 := Seg.hid (KW.out w1 B1.out); clear b1))
    go_wp2
    go_ret
    exact ⟨by rw [HP.out]; rfl, B1.out⟩
set_option maxHeartbeats 800000 in
theorem ask_bat (A : Option Addr) (c h1 h2 i : Nat) (x : Int) (ts : List Recs.Bat) (w : World) (lo b : Nat) (hv : BatsAt w lo b (.slice A ts.length c) ts) (hb : b ≤ w.heap.size) (hi : i < ts.length) (hok : BOk.batOk (ts.getD i default) = true)
    (hn : ts.length ≤ 1048576) (c1 : w.cell? ⟨h1, 0, none⟩ = some (.slice A ts.length c)) (c2 : w.cell? ⟨h2, 0, none⟩ = some (.int .i64 x)) (l1 : h1 < w.heap.size) (l2 : h2 < w.heap.size) :
    Calls Try.prog 71 #[.int .i64 i, .pointer (some ⟨h1, 0, none⟩), .pointer (some ⟨h2, 0, none⟩)] w fun e w' => e = .returned (.bool (pB x (ts.getD i default))) ∧ Below w.heap.size w w' := by
  obtain ⟨H, ⟨_, A', c', hsl, hrow⟩, hh⟩ := hv
  simp only [Value.slice.injEq] at hsl
  obtain ⟨rfl, _, rfl⟩ := hsl
  obtain ⟨g, o, rfl, hg, hc, hcell, _⟩ := hrow.resolve_left (by omega)
  obtain ⟨d0, d1, d2, d3, d4, d5, d6⟩ := Bats.six hcell i hi
  have BA : Hid (BatAt w lo b (.agg (BatW.batArr (ts.getD i default) (H i))) (ts.getD i default)) := ⟨_, rfl, hh i hi⟩
  have OK1 := Seg.hid hok
  obtain ⟨_, ⟨_, A3, c3, hK3, _⟩, _⟩ := hh i hi
  rw [hK3] at d6 BA
  have HP : Hid (pB x (ts.getD i default) = decide (x < (ts.getD i default).base + (ts.getD i default).recs.length)) := rfl
  clear hcell hh hrow hok hK3
  have q0 : (0 : Int) ≤ (i : Int) := by omega
  have q1 : (i : Int) < (ts.length : Int) := by omega
  generalize ts.getD i default = t at *
  go_enter Try.func71, Try.ntmps71
  go_wp2_with fail
  go_region_with (go_at_call 66; refine (LgI.behind_any _ t w.drew lo b BA.out OK1.out).mono ?_; rintro e w1 ⟨rfl, b1⟩; have B1 : Hid (Below w.heap.size w w1) := ⟨b1.os, b1.tape, b1.output, b1.size, b1.block⟩; have c2' : w1.cell? ⟨h2, 0, none⟩ = some (.int .i64 x) := (B1.out.cell (p := ⟨h2, 0, none⟩) l2).trans c2; clear b1)
  all_goals
    go_wp2
    go_ret
    exact ⟨by rw [HP.out]; rfl, B1.out⟩

end Go.Proofs.Ytggjinjadllapaa.SrW
