/- What is charged, on plain data. -/
import Derived.Test.YtmkkdladgoilmaaTBkt
import Derived.Test.YtmkkdladgoilmaaLsP
namespace Go.Proofs.Ytmkkdladgoilmaa.ChP
set_option maxRecDepth 8000
open Go.RowKit
open Ls Lp
set_option linter.unusedVariables false
def ok (b : Bkt) (now units : Int) : Bool := inR 1 b.rate 1000000 && (inR 0 b.burst 1000000 && (inR (-1000000000000) b.level b.burst && (inR 0 b.time 1000000000000 && (inR b.time now 1000000000000 && inR 0 units 1000000))))
def least (a b : Int) : Int := if a < b then a else b
def lev (b : Bkt) (now units : Int) : Int := least (b.level + (now - b.time) * b.rate) b.burst - units
def wait (l r : Int) : Int := if l < 0 then (-l + r - 1) / r else 0
def fine (b : Bkt) (now units : Int) : Bool := ok b now units && decide (-1000000000000 ≤ lev b now units)
def chg (b : Bkt) (now units : Int) : Bkt := if fine b now units = true then ⟨b.rate, b.burst, lev b now units, now⟩ else ⟨0, 0, 0, 0⟩
def wt (b : Bkt) (now units : Int) : Int := if fine b now units = true then wait (lev b now units) b.rate else 0
def ans (b : Bkt) (now units : Int) : Value := .tuple #[.agg #[.int .i64 (chg b now units).rate, .int .i64 (chg b now units).burst, .int .i64 (chg b now units).level, .int .i64 (chg b now units).time], .int .i64 (wt b now units), .bool (fine b now units)]
theorem ans_no {b : Bkt} {now units : Int} (h : fine b now units = false) : ans b now units = .tuple #[.agg #[.int .i64 0, .int .i64 0, .int .i64 0, .int .i64 0], .int .i64 0, .bool false] := by simp [ans, chg, wt, h]
theorem ans_yes {b : Bkt} {now units : Int} (h : fine b now units = true) : ans b now units = .tuple #[.agg #[.int .i64 b.rate, .int .i64 b.burst, .int .i64 (lev b now units), .int .i64 now], .int .i64 (wait (lev b now units) b.rate), .bool true] := by simp [ans, chg, wt, h]
/-- What the six tests say, as far as the numbers go. -/
structure Nu (b : Bkt) (now units d : Int) : Prop where
  r0 : 1 ≤ b.rate
  r1 : b.rate ≤ 1000000
  u0 : 0 ≤ b.burst
  u1 : b.burst ≤ 1000000
  l0 : -1000000000000 ≤ b.level
  l1 : b.level ≤ b.burst
  t0 : 0 ≤ b.time
  t1 : b.time ≤ 1000000000000
  n0 : b.time ≤ now
  n1 : now ≤ 1000000000000
  s0 : 0 ≤ units
  s1 : units ≤ 1000000
  d0 : 0 ≤ d
  d1 : d ≤ 1000000000000000000
  hd : (now - b.time) * b.rate = d
theorem nu {b : Bkt} {now units : Int} (h : ok b now units = true) : ∃ d, Nu b now units d := by
  simp only [ok, Bool.and_eq_true] at h
  obtain ⟨h1, h2, h3, h4, h5, h6⟩ := h
  have a1 := inR_true h1; have a2 := inR_true h2; have a3 := inR_true h3; have a4 := inR_true h4; have a5 := inR_true h5; have a6 := inR_true h6
  refine ⟨(now - b.time) * b.rate, a1.1, a1.2, a2.1, a2.2, a3.1, a3.2, a4.1, a4.2, a5.1, a5.2, a6.1, a6.2, Int.mul_nonneg (by omega) (by omega), ?_, rfl⟩
  have : (now - b.time) * b.rate ≤ 1000000000000 * 1000000 := Int.mul_le_mul (by omega) (by omega) (by omega) (by omega)
  omega
end Go.Proofs.Ytmkkdladgoilmaa.ChP
