/- A number that lies between two, in a region that draws; A right value and a value of a field, on plain data. -/
import Derived.Deep.QuietTactic
import Derived.BigQuiet
import Derived.Test.YtdhicmbfknagjaaJMC05
import Derived.Test.YtdhicmbfknagjaaJMC04
namespace Go.Proofs.Ytdhicmbfknagjaa.InB
set_option maxRecDepth 8000
open Go.RowKit
set_option linter.unusedVariables false
theorem l1In_q (x lo hi : Int) (b : Bool) (hb : Lp.inR lo x hi = b) (w : World) : Calls Try.prog 35 #[.int .i64 x, .int .i64 lo, .int .i64 hi] w fun e w' => e = .returned (.bool b) ∧ w' = w :=
  (InB.l1In_b x lo hi b hb w).mono fun e w' ⟨h1, h2⟩ => ⟨h1, h2.symm⟩
end Go.Proofs.Ytdhicmbfknagjaa.InB
namespace Go.Proofs.Ytdhicmbfknagjaa.VkP
set_option maxRecDepth 8000
open Go.RowKit
open Ls Lp
set_option linter.unusedVariables false
def em (t : ByteArray) : Bool := t.toList == []
def ltr (s : ByteArray) (i : Nat) : Bool := if h : i < s.size then inR 32 (s[i].toNat : Int) 126 else false
def ltrs (s : ByteArray) (k : Nat) : Bool := (List.range k).all (ltr s)
theorem ltrs_zero (s : ByteArray) : ltrs s 0 = true := rfl
theorem ltrs_succ (s : ByteArray) (k : Nat) : ltrs s (k + 1) = (ltrs s k && ltr s k) := by simp [ltrs, List.range_succ]
theorem ltrs_bad (s : ByteArray) (k n : Nat) (h : k < n) (hb : ltr s k = false) : ltrs s n = false := by
  simp only [ltrs, List.all_eq_false, List.mem_range]
  exact ⟨k, h, by simp [hb]⟩
theorem ltr_at (s : ByteArray) (k : Nat) (h : k < s.size) : ltr s k = inR 32 (s[k].toNat : Int) 126 := by simp [ltr, h]
def hasT (n : Int) (t : ByteArray) : Bool := decide (n = 0) && decide (t.size ≤ 100) && ltrs t t.size
def hasN (lo hi n : Int) (t : ByteArray) : Bool := inR lo n hi && em t
def loK (k : Int) : Int := if k = 2 then -32768 else -1000000000000000
def hiK (k : Int) : Int := if k = 2 then 32767 else 1000000000000000
/-- An item of a kind. -/
def has (k n : Int) (t : ByteArray) : Bool := if k = 1 then hasN 0 1 n t else if k = 4 then hasT n t else if k = 2 ∨ k = 3 then hasN (loK k) (hiK k) n t else false
def kOk (k : Int) : Bool := inR 1 k 4
def nil0 (n : Int) (t : ByteArray) : Bool := decide (n = 0) && em t
def zero (u : Vlu) : Bool := decide (u.kind = 0) && !u.lst && nil0 u.num u.text && decide (u.items.length = 0)
def hasI (k : Int) (i : Itm) : Bool := has k i.num i.text
def vok (u : Vlu) : Bool := if kOk u.kind = false then zero u else if u.lst = false then decide (u.items.length = 0) && has u.kind u.num u.text else nil0 u.num u.text && decide (u.items.length ≤ 30) && u.items.all (hasI u.kind)
/-- A value of a field of which kind, list and maybe are told. -/
def vof (k : Int) (l m : Bool) (u : Vlu) : Bool := kOk k && vok u && (if u.kind = 0 then m else decide (u.kind = k) && (u.lst == l))
theorem kOk_cases {k : Int} (h : kOk k = true) : k = 1 ∨ k = 2 ∨ k = 3 ∨ k = 4 := by
  have := inR_true h
  omega
theorem kOk_not {k : Int} (h : kOk k = false) : k ≠ 1 ∧ k ≠ 2 ∧ k ≠ 3 ∧ k ≠ 4 := by
  simp [kOk, inR] at h
  omega
theorem has_not {k : Int} (h : kOk k = false) (n : Int) (t : ByteArray) : has k n t = false := by
  obtain ⟨a, b, c, d⟩ := kOk_not h
  simp [has, a, b, c, d]
theorem vok_model (u : Vlu) : vok u = if u.kind = 0 then zero u else if u.lst = false then decide (u.items.length = 0) && has u.kind u.num u.text else nil0 u.num u.text && decide (u.items.length ≤ 30) && kOk u.kind && u.items.all (hasI u.kind) := by
  unfold vok
  cases hk : kOk u.kind with
  | false =>
    by_cases h0 : u.kind = 0
    · simp [h0]
    · cases hl : u.lst <;> simp [h0, zero, has_not hk]
  | true =>
    have h0 : ¬ u.kind = 0 := by rcases kOk_cases hk with h | h | h | h <;> omega
    cases hl : u.lst <;> simp [h0]
end Go.Proofs.Ytdhicmbfknagjaa.VkP
