/- A right value and a value of a field, on plain data; Lists of texts: how they lie. -/
import Derived.Test.YtdhicmbfknagjaaJRO07
import Derived.Test.YtdhicmbfknagjaaJRO09
import Derived.Test.YtdhicmbfknagjaaJRO10
import Derived.Test.YtdhicmbfknagjaaJRO03
namespace Go.Proofs.Ytdhicmbfknagjaa.VkP
set_option maxRecDepth 8000
open Go.RowKit
open Ls Lp
set_option linter.unusedVariables false
def em (t : ByteArray) : Bool := t.toList == []
def ltr (s : ByteArray) (i : Nat) : Bool := if h : i < s.size then inR 32 (s[i].toNat : Int) 126 else false
def ltrs (s : ByteArray) (k : Nat) : Bool := (List.range k).all (ltr s)
theorem ltrs_zero (s : ByteArray) : ltrs s 0 = true := rfl
theorem ltrs_succ (s : ByteArray) (k : Nat) : ltrs s (k + 1) = (ltrs s k && ltr s k) := by simp [ltrs, List.range_succ]
theorem ltrs_bad (s : ByteArray) (k n : Nat) (h : k < n) (hb : ltr s k = false) : ltrs s n = false := by
  simp only [ltrs, List.all_eq_false, List.mem_range]
  exact ⟨k, h, by simp [hb]⟩
theorem ltr_at (s : ByteArray) (k : Nat) (h : k < s.size) : ltr s k = inR 32 (s[k].toNat : Int) 126 := by simp [ltr, h]
def hasT (n : Int) (t : ByteArray) : Bool := decide (n = 0) && decide (t.size ≤ 100) && ltrs t t.size
def hasN (lo hi n : Int) (t : ByteArray) : Bool := inR lo n hi && em t
def loK (k : Int) : Int := if k = 2 then -32768 else -1000000000000000
def hiK (k : Int) : Int := if k = 2 then 32767 else 1000000000000000
/-- An item of a kind. -/
def has (k n : Int) (t : ByteArray) : Bool := if k = 1 then hasN 0 1 n t else if k = 4 then hasT n t else if k = 2 ∨ k = 3 then hasN (loK k) (hiK k) n t else false
def kOk (k : Int) : Bool := inR 1 k 4
def nil0 (n : Int) (t : ByteArray) : Bool := decide (n = 0) && em t
def zero (u : Vlu) : Bool := decide (u.kind = 0) && !u.lst && nil0 u.num u.text && decide (u.items.length = 0)
def hasI (k : Int) (i : Itm) : Bool := has k i.num i.text
def vok (u : Vlu) : Bool := if kOk u.kind = false then zero u else if u.lst = false then decide (u.items.length = 0) && has u.kind u.num u.text else nil0 u.num u.text && decide (u.items.length ≤ 30) && u.items.all (hasI u.kind)
/-- A value of a field of which kind, list and maybe are told. -/
def vof (k : Int) (l m : Bool) (u : Vlu) : Bool := kOk k && vok u && (if u.kind = 0 then m else decide (u.kind = k) && (u.lst == l))
theorem kOk_cases {k : Int} (h : kOk k = true) : k = 1 ∨ k = 2 ∨ k = 3 ∨ k = 4 := by
  have := inR_true h
  omega
theorem kOk_not {k : Int} (h : kOk k = false) : k ≠ 1 ∧ k ≠ 2 ∧ k ≠ 3 ∧ k ≠ 4 := by
  simp [kOk, inR] at h
  omega
theorem has_not {k : Int} (h : kOk k = false) (n : Int) (t : ByteArray) : has k n t = false := by
  obtain ⟨a, b, c, d⟩ := kOk_not h
  simp [has, a, b, c, d]
theorem vok_model (u : Vlu) : vok u = if u.kind = 0 then zero u else if u.lst = false then decide (u.items.length = 0) && has u.kind u.num u.text else nil0 u.num u.text && decide (u.items.length ≤ 30) && kOk u.kind && u.items.all (hasI u.kind) := by
  unfold vok
  cases hk : kOk u.kind with
  | false =>
    by_cases h0 : u.kind = 0
    · simp [h0]
    · cases hl : u.lst <;> simp [h0, zero, has_not hk]
  | true =>
    have h0 : ¬ u.kind = 0 := by rcases kOk_cases hk with h | h | h | h <;> omega
    cases hl : u.lst <;> simp [h0]
end Go.Proofs.Ytdhicmbfknagjaa.VkP
namespace Go.Proofs.Ytdhicmbfknagjaa.Ls
set_option maxRecDepth 8000
open Go.RowKit
open Recs
set_option linter.unusedVariables false
def EStr : Elt ByteArray := fun _ _ f n => f 0 = .string n
theorem keepsStr : Keeps 1 EStr := fun w w' S f f' t h hk hf => by show f' 0 = _; rw [hf 0 (by omega)]; exact h
theorem growsStr : Grows EStr := fun w S S' f t h hs => h
abbrev StrsAt := LAt 1 EStr
theorem str_cell {w : World} {S : Nat → Prop} {g o n : Nat} {ns : List ByteArray} {F : Nat → Nat → Value} (h : ∀ i, i < n → ∀ j, j < 1 → w.cell? ⟨g, o + i * 1 + j, none⟩ = some (F i j)) (he : ∀ i, i < n → EStr w S (F i) (ns.getD i default)) : ∀ i, i < n → w.cell? ⟨g, o + i, none⟩ = some (.string (ns.getD i default)) := fun i hi => by
  have := h i hi 0 (by omega)
  rw [show o + i * 1 + 0 = o + i by omega] at this
  rw [this, show F i 0 = .string (ns.getD i default) from he i hi]
def FineStr (s : ByteArray) : Prop := s.size ≤ maxLen
end Go.Proofs.Ytdhicmbfknagjaa.Ls
