/- The program's askers of a log's numbers. -/
import Derived.Test.YtdhicmbfknagjaaLgP
import Derived.Test.YtdhicmbfknagjaaInB
namespace Go.Proofs.Ytdhicmbfknagjaa.LgI
set_option maxRecDepth 8000
open Go.RowKit
open InB (l1In_b within_b)
open LgP (inR)
open Recs (hsz below1 below2 BatAt RecsAt batVal Bat chain)
set_option linter.unusedVariables false
/-- A log's three numbers, as the program asks them. -/
theorem bounds_any (a b c : Int) (v : Value) (t : Bool) (ht : (inR b 0 1000000000 && (inR a 0 b && inR c 1 20000)) = t) (w : World) : Calls Try.prog 108 #[.agg #[.int .i64 a, .int .i64 b, .int .i64 c, v]] w fun e w' => e = .returned (.bool t) ∧ Below w.heap.size w w' := by
  subst ht
  cases h1 : inR b 0 1000000000 with
  | false =>
    have H1 := Seg.hid h1
    go_enter Try.func108, Try.ntmps108
    go_wp2_with fail
    refine (within_b b 0 1000000000 false H1.out _).mono ?_
    rintro _ _ ⟨rfl, rfl⟩
    go_wp2
    go_ret
    exact ⟨rfl, Recs.below1 _ _⟩
  | true =>
    cases h2 : inR a 0 b with
    | false =>
      have H1 := Seg.hid h1
      have H2 := Seg.hid h2
      go_enter Try.func108, Try.ntmps108
      go_wp2_with fail
      refine (within_b b 0 1000000000 true H1.out _).mono ?_
      rintro _ _ ⟨rfl, rfl⟩
      go_wp2_with fail
      refine (within_b a 0 b false H2.out _).mono ?_
      rintro _ _ ⟨rfl, rfl⟩
      go_wp2
      go_ret
      exact ⟨rfl, Recs.below1 _ _⟩
    | true =>
      have H1 := Seg.hid h1
      have H2 := Seg.hid h2
      go_enter Try.func108, Try.ntmps108
      go_wp2_with fail
      refine (within_b b 0 1000000000 true H1.out _).mono ?_
      rintro _ _ ⟨rfl, rfl⟩
      go_wp2_with fail
      refine (within_b a 0 b true H2.out _).mono ?_
      rintro _ _ ⟨rfl, rfl⟩
      go_wp2_with fail
      refine (within_b c 1 20000 (inR c 1 20000) rfl _).mono ?_
      rintro _ _ ⟨rfl, rfl⟩
      go_wp2
      go_ret
      exact ⟨rfl, Recs.below1 _ _⟩

theorem behind_any (v : Value) (t : Bat) (w : World) (lo b : Nat) (hv : BatAt w lo b v t) (hok : BOk.batOk t = true) :
    Calls Try.prog 111 #[v] w fun e w' => e = .returned (.int .i64 (t.base + t.recs.length)) ∧ Below w.heap.size w w' := by
  obtain ⟨rv, rfl, H, ⟨hn, A, c, rfl, hx1⟩, hx2⟩ := hv
  have hl := LgP.okLen hok
  clear hx1 hx2
  unfold batVal
  go_enter Try.func111, Try.ntmps111
  go_wp2
  go_ret
  exact ⟨rfl, below1 _ _⟩
end Go.Proofs.Ytdhicmbfknagjaa.LgI
