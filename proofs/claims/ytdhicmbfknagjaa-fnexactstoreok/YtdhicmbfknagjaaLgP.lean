/- A right log, on plain data. -/
import Derived.Test.YtdhicmbfknagjaaLogW
import Derived.Test.YtdhicmbfknagjaaBOkE
namespace Go.Proofs.Ytdhicmbfknagjaa.LgP
set_option maxRecDepth 8000
open Recs SegW LogW
set_option linter.unusedVariables false
def inR (x lo hi : Int) : Bool := decide (lo ≤ x) && decide (x ≤ hi)
/-- Batches behind 'free' with no Epoch below 'ep': what is free behind them, and the last one's Epoch. -/
def bats (free ep : Int) : List Bat → Option (Int × Int)
  | [] => some (free, ep)
  | b :: t => if BOk.batOk b = true ∧ free ≤ b.base ∧ ep ≤ b.epoch then bats (b.base + b.recs.length) b.epoch t else none
def segs (free ep : Int) : List Sg → Option Int
  | [] => some free
  | s :: t => if free ≤ s.base ∧ (s.bats.length = 0 → t.length = 0) then
      match bats s.base ep s.bats with
      | none => none
      | some (f, e) => segs f e t
    else none
def many : List Sg → Nat
  | [] => 0
  | s :: t => s.bats.length + many t
def bounds (l : Lg) : Bool := inR l.next 0 1000000000 && (inR l.start 0 l.next && inR l.roll 1 20000)
def counts (l : List Sg) : Bool := decide (l.length ≤ 60) && decide (many l ≤ 400)
def stands (next : Int) : Option Int → Bool
  | none => false
  | some f => decide (f ≤ next)
def logOk (l : Lg) : Bool := bounds l && (counts l.segs && stands l.next (segs 0 0 l.segs))
theorem okLen {b : Bat} (h : BOk.batOk b = true) : 0 ≤ b.base ∧ b.base ≤ 1000000000 ∧ 1 ≤ (b.recs.length : Int) ∧ (b.recs.length : Int) ≤ 40 := by
  simp only [BOk.batOk, BOk.okB1, BOk.okB3, BOk.inR, Bool.and_eq_true, decide_eq_true_eq] at h
  omega
theorem drop_at {α : Type} [Inhabited α] {l : List α} {k : Nat} (h : k < l.length) : l.drop k = l.getD k default :: l.drop (k + 1) := by
  rw [List.drop_eq_getElem_cons h]
  simp [h]
theorem bats_le : ∀ (l : List Bat) (f e f' e' : Int), bats f e l = some (f', e') → f ≤ f'
  | [], f, e, f', e', h => by simp [bats] at h; omega
  | b :: t, f, e, f', e', h => by
    unfold bats at h
    split at h
    · rename_i hc
      have := okLen hc.1
      have := bats_le t _ _ _ _ h
      omega
    · cases h
theorem many_drop : ∀ (l : List Sg) (k : Nat), k < l.length → many (l.take (k + 1)) = many (l.take k) + (l.getD k default).bats.length
  | [], k, h => by simp at h
  | s :: t, 0, h => by simp [many]
  | s :: t, k + 1, h => by
    have := many_drop t k (by simpa using h)
    simp only [List.take_succ_cons, many, List.getD_cons_succ]
    omega
end Go.Proofs.Ytdhicmbfknagjaa.LgP
