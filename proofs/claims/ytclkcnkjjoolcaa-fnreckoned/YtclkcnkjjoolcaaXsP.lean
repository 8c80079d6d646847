/- The program's way to ask whether steps are an expression: plain. -/
import Derived.Test.YtclkcnkjjoolcaaQtP
namespace Go.Proofs.Ytclkcnkjjoolcaa.XsP
set_option maxRecDepth 8000
open Go.RowKit
open Ls Lp QtP
set_option linter.unusedVariables false
def ok3 (op nu : Int) (nm : ByteArray) : Bool := if op = 1 then (inR 0 nu 1000000000000000 && em nm) else if op = 2 then (decide (nu = 0) && Nm.nameOk nm) else (inR 3 op 12 && (decide (nu = 0) && em nm))
def tk (op : Int) : Int := if op = 1 then 0 else if op = 2 then 0 else if op = 12 then 1 else 2
theorem tk_in (op : Int) : 0 ≤ tk op ∧ tk op ≤ 2 := by unfold tk; repeat' split <;> omega
theorem step_eq (s : Stp) (h : Int) (hh : 0 ≤ h) : stepH s h = if (ok3 s.op s.num s.name && decide (tk s.op ≤ h)) = true then some (h + (1 - tk s.op)) else none := by
  by_cases h1 : s.op = 1
  · rw [stepH, if_pos h1, ok3, if_pos h1, tk, if_pos h1]
    cases hb : (inR 0 s.num 1000000000000000 && em s.name) <;> simp [hh]
  by_cases h2 : s.op = 2
  · rw [stepH, if_neg h1, if_pos h2, ok3, if_neg h1, if_pos h2, tk, if_neg h1, if_pos h2]
    cases hb : Nm.nameOk s.name <;> cases hc : decide (s.num = 0) <;> simp [hh]
  cases h3 : inR 3 s.op 12 with
  | false => rw [stepH, if_neg h1, if_neg h2, h3, ok3, if_neg h1, if_neg h2, h3]; rfl
  | true =>
    rw [stepH, if_neg h1, if_neg h2, h3, ok3, if_neg h1, if_neg h2, h3, tk, if_neg h1, if_neg h2]
    by_cases h12 : s.op = 12
    · cases he : em s.name <;> cases hc : decide (s.num = 0) <;> by_cases hz : 1 ≤ h <;> simp [h12, hz]
    · cases he : em s.name <;> cases hc : decide (s.num = 0) <;> by_cases hz : 2 ≤ h <;> simp [h12, hz] <;> omega
end Go.Proofs.Ytclkcnkjjoolcaa.XsP
