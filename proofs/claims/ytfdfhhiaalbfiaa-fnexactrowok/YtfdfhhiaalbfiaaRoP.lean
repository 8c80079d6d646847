/- A right row, on plain data. -/
import Derived.Test.YtfdfhhiaalbfiaaScP
import Derived.Test.YtfdfhhiaalbfiaaTVlus
namespace Go.Proofs.Ytfdfhhiaalbfiaa.RoP
set_option maxRecDepth 8000
open Go.RowKit
open Ls Lp VkP VkR ScP
set_option linter.unusedVariables false
def oneAt (fs : List Fld) (us : List Vlu) (k : Nat) : Bool := vof (fs.getD k default).kind (fs.getD k default).lst (fs.getD k default).may (us.getD k default)
def rowL (fs : List Fld) (us : List Vlu) (n : Nat) : Bool := (List.range n).all (oneAt fs us)
def rowOk (s : Sch) (us : List Vlu) : Bool := sok s && (decide (us.length = s.fields.length) && rowL s.fields us s.fields.length)
theorem rowL_zero (fs : List Fld) (us : List Vlu) : rowL fs us 0 = true := rfl
theorem rowL_next {fs : List Fld} {us : List Vlu} {k : Nat} (h : rowL fs us k = true) (h1 : oneAt fs us k = true) : rowL fs us (k + 1) = true := by
  unfold rowL at *
  rw [List.range_succ, List.all_append, h]
  simp [h1]
theorem rowL_bad {fs : List Fld} {us : List Vlu} {k n : Nat} (hk : k < n) (h1 : oneAt fs us k = false) : rowL fs us n = false := by
  unfold rowL
  exact List.all_eq_false.2 ⟨k, List.mem_range.2 hk, by simp [h1]⟩
theorem rowL_at {fs : List Fld} {us : List Vlu} {k n : Nat} (hk : k < n) (h : rowL fs us n = true) : oneAt fs us k = true := by
  unfold rowL at h
  exact List.all_eq_true.1 h k (List.mem_range.2 hk)
end Go.Proofs.Ytfdfhhiaalbfiaa.RoP
