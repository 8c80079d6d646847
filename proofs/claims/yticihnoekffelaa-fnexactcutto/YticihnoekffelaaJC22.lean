/- A number that lies between two: the model's asker and the program's; The program's askers of a log's numbers. -/
import Derived.WalkLawsBesides
import Derived.WalkSmall
import Derived.RegionTactic
import Derived.Maps.AppendAt
import Derived.Laws.Rows
import Derived.Deep.RegionWith
import Derived.Outline
import Derived.Test.YticihnoekffelaaRows
import Derived.Test.YticihnoekffelaaJC01
import Derived.Test.YticihnoekffelaaJC21
namespace Go.Proofs.Yticihnoekffelaa.InB
set_option maxRecDepth 8000
open Go.RowKit
set_option linter.unusedVariables false
theorem l1In_any (x lo hi : Int) (w : World) : Calls Try.prog 23 #[.int .i64 x, .int .i64 lo, .int .i64 hi] w fun e w' => e = .returned (.bool (decide (lo ≤ x) && decide (x ≤ hi))) ∧ w = w' := by
  go_enter Try.func23, Try.ntmps23
  go_wp2
  all_goals
    go_ret
    exact ⟨Seg.ret_bool (by rw [Bool.eq_iff_iff]; simp; try omega), rfl⟩
theorem within_any (x lo hi : Int) (w : World) : Calls Try.prog 27 #[.int .i64 x, .int .i64 lo, .int .i64 hi] w fun e w' => e = .returned (.bool (decide (lo ≤ x) && decide (x ≤ hi))) ∧ w = w' := by
  go_enter Try.func27, Try.ntmps27
  go_wp2
  all_goals
    go_ret
    exact ⟨Seg.ret_bool (by rw [Bool.eq_iff_iff]; simp; try omega), rfl⟩
theorem l1In_b (x lo hi : Int) (b : Bool) (hb : (decide (lo ≤ x) && decide (x ≤ hi)) = b) (w : World) : Calls Try.prog 23 #[.int .i64 x, .int .i64 lo, .int .i64 hi] w fun e w' => e = .returned (.bool b) ∧ w = w' := by
  subst hb; exact l1In_any x lo hi w
theorem within_b (x lo hi : Int) (b : Bool) (hb : (decide (lo ≤ x) && decide (x ≤ hi)) = b) (w : World) : Calls Try.prog 27 #[.int .i64 x, .int .i64 lo, .int .i64 hi] w fun e w' => e = .returned (.bool b) ∧ w = w' := by
  subst hb; exact within_any x lo hi w
end Go.Proofs.Yticihnoekffelaa.InB
namespace Go.Proofs.Yticihnoekffelaa.LgI
set_option maxRecDepth 8000
open Go.RowKit
open InB (l1In_b within_b)
open LgP (inR)
open Recs (hsz below1 below2 BatAt RecsAt batVal Bat chain)
set_option linter.unusedVariables false
/-- A log's three numbers, as the program asks them. -/
theorem bounds_any (a b c : Int) (v : Value) (t : Bool) (ht : (inR b 0 1000000000 && (inR a 0 b && inR c 1 20000)) = t) (w : World) : Calls Try.prog 53 #[.agg #[.int .i64 a, .int .i64 b, .int .i64 c, v]] w fun e w' => e = .returned (.bool t) ∧ Below w.heap.size w w' := by
  subst ht
  cases h1 : inR b 0 1000000000 with
  | false =>
    have H1 := Seg.hid h1
    go_enter Try.func53, Try.ntmps53
    go_wp2_with fail
    refine (within_b b 0 1000000000 false H1.out _).mono ?_
    rintro _ _ ⟨rfl, rfl⟩
    go_wp2
    go_ret
    exact ⟨rfl, Recs.below1 _ _⟩
  | true =>
    cases h2 : inR a 0 b with
    | false =>
      have H1 := Seg.hid h1
      have H2 := Seg.hid h2
      go_enter Try.func53, Try.ntmps53
      go_wp2_with fail
      refine (within_b b 0 1000000000 true H1.out _).mono ?_
      rintro _ _ ⟨rfl, rfl⟩
      go_wp2_with fail
      refine (within_b a 0 b false H2.out _).mono ?_
      rintro _ _ ⟨rfl, rfl⟩
      go_wp2
      go_ret
      exact ⟨rfl, Recs.below1 _ _⟩
    | true =>
      have H1 := Seg.hid h1
      have H2 := Seg.hid h2
      go_enter Try.func53, Try.ntmps53
      go_wp2_with fail
      refine (within_b b 0 1000000000 true H1.out _).mono ?_
      rintro _ _ ⟨rfl, rfl⟩
      go_wp2_with fail
      refine (within_b a 0 b true H2.out _).mono ?_
      rintro _ _ ⟨rfl, rfl⟩
      go_wp2_with fail
      refine (within_b c 1 20000 (inR c 1 20000) rfl _).mono ?_
      rintro _ _ ⟨rfl, rfl⟩
      go_wp2
      go_ret
      exact ⟨rfl, Recs.below1 _ _⟩

theorem behind_any (v : Value) (t : Bat) (w : World) (lo b : Nat) (hv : BatAt w lo b v t) (hok : BOk.batOk t = true) :
    Calls Try.prog 56 #[v] w fun e w' => e = .returned (.int .i64 (t.base + t.recs.length)) ∧ Below w.heap.size w w' := by
  obtain ⟨rv, rfl, H, ⟨hn, A, c, rfl, hx1⟩, hx2⟩ := hv
  have hl := LgP.okLen hok
  clear hx1 hx2
  unfold batVal
  go_enter Try.func56, Try.ntmps56
  go_wp2
  go_ret
  exact ⟨rfl, below1 _ _⟩
end Go.Proofs.Yticihnoekffelaa.LgI
