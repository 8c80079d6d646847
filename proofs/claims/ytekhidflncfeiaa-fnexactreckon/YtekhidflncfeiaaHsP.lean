/- Names that are none of those seen and unlike each other: plain. -/
import Derived.Test.YtekhidflncfeiaaQyP
namespace Go.Proofs.Ytekhidflncfeiaa.HsP
set_option maxRecDepth 8000
open Go.RowKit
open Ls Lp QyP
set_option linter.unusedVariables false
def hs (seen : List ByteArray) (n : ByteArray) : Bool := seen.any (fun m => m.toList == n.toList)
def dst (seen : List ByteArray) : List ByteArray → Bool
  | [] => true
  | n :: ns => !hs seen n && dst (seen ++ [n]) ns
theorem hs_push (seen : List ByteArray) (n s : ByteArray) : hs (seen ++ [n]) s = (hs seen s || (n.toList == s.toList)) := by simp [hs]
theorem dst_append : ∀ (a seen b : List ByteArray), dst seen (a ++ b) = (dst seen a && dst (seen ++ a) b)
  | [], seen, b => by simp [dst]
  | n :: a, seen, b => by
    simp only [List.cons_append, dst, dst_append a (seen ++ [n]) b, Bool.and_assoc, List.append_assoc, List.nil_append]
theorem dst_step {ns : List ByteArray} {k : Nat} (h : k < ns.length) (seen : List ByteArray) : dst (seen ++ ns.take k) (ns.drop k) = (!hs (seen ++ ns.take k) (ns.getD k default) && dst (seen ++ ns.take (k + 1)) (ns.drop (k + 1))) := by
  rw [drop_cons h, dst, List.take_succ_eq_append_getElem h]
  simp [h]
theorem diffN_succ (l : List ByteArray) (n : Nat) : diffN l (n + 1) = (diffN l n && unl l n) := by
  unfold diffN
  rw [List.range_succ, List.all_append, List.all_cons, List.all_nil, Bool.and_true]
theorem dst_run (l : List ByteArray) : ∀ n, n ≤ l.length → (diffN l n && dst (l.take n) (l.drop n)) = dst [] l
  | 0, _ => by simp [diffN]
  | n + 1, h => by
    have e := dst_step (ns := l) (k := n) (by omega) []
    simp only [List.nil_append] at e
    rw [← dst_run l n (by omega), e, diffN_succ, unl, hasT, hs, Bool.and_assoc]
theorem dst_diff (l : List ByteArray) : dst [] l = diff l := by
  rw [← dst_run l l.length (Nat.le_refl _)]
  simp [diff, dst]
theorem dst_one (seen : List ByteArray) (n : ByteArray) : dst seen [n] = !hs seen n := by simp [dst]
end Go.Proofs.Ytekhidflncfeiaa.HsP
