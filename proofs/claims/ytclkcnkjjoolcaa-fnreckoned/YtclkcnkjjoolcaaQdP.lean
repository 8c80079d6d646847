/- What two numbers come to, plain. -/
import Derived.Test.YtclkcnkjjoolcaaLsP
import Derived.Test.YtclkcnkjjoolcaaInQ
namespace Go.Proofs.Ytclkcnkjjoolcaa.QdP
set_option maxRecDepth 8000
open Go.RowKit
open Lp
set_option linter.unusedVariables false
def inM (n : Int) : Bool := inR (-1000000000000000) n 1000000000000000
def kept (n : Int) : Int := if inM n = true then n else 0
def ab (n : Int) : Int := if n < 0 then -n else n
def prodP (a b : Int) : Int := if a = 0 ∨ b = 0 then 0 else if Int.tdiv 1000000000000000 (ab b) < ab a then 0 else a * b
def b01 (b : Bool) : Int := if b = true then 1 else 0
def doS (op a b : Int) : Int :=
  if op = 3 then kept (a + b) else if op = 4 then kept (a - b) else if op = 5 then prodP a b
  else if op = 6 then (if b = 0 then 0 else Int.tdiv a b) else if op = 7 then (if b = 0 then 0 else Int.tmod a b)
  else if op = 8 then b01 (decide (a < b)) else if op = 9 then b01 (decide (a = b)) else if op = 10 then b01 (!decide (a = 0) && !decide (b = 0)) else b01 (!decide (a = 0) || !decide (b = 0))
theorem ab_pos {b : Int} (h : b ≠ 0) : 0 < ab b := by unfold ab; split <;> omega
theorem ab_nonneg (b : Int) : 0 ≤ ab b := by unfold ab; split <;> omega
theorem prod_le {a b : Int} (hb : b ≠ 0) (h : ¬ Int.tdiv 1000000000000000 (ab b) < ab a) : -1000000000000000 ≤ a * b ∧ a * b ≤ 1000000000000000 := by
  have hp := ab_pos hb
  rw [Int.tdiv_eq_ediv_of_nonneg (by decide)] at h
  have h1 : ab a * ab b ≤ 1000000000000000 := (Int.le_ediv_iff_mul_le hp).1 (by omega)
  have h2 : ab a * ab b = a * b ∨ ab a * ab b = -(a * b) := by
    unfold ab
    split <;> split
    · left; rw [Int.neg_mul_neg]
    · right; rw [Int.neg_mul]
    · right; rw [Int.mul_neg]
    · left; rfl
  have h3 : 0 ≤ ab a * ab b := Int.mul_nonneg (ab_nonneg a) (ab_nonneg b)
  omega
theorem kept_in (n : Int) : inM (kept n) = true := by
  unfold kept
  split
  · next h => exact h
  · decide
end Go.Proofs.Ytclkcnkjjoolcaa.QdP
