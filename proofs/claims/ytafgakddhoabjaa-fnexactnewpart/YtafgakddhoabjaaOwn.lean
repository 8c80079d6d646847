/- A row that the call made itself, written at several cells. -/
import Derived.Test.YtafgakddhoabjaaCells
namespace Go.Proofs.Ytafgakddhoabjaa.Own
set_option maxRecDepth 8000
open Go.RowKit
open Recs
set_option linter.unusedVariables false
def upd (F : Nat → Value) (o : Nat) (vs : List Value) (q : Nat) : Value := if o ≤ q ∧ q < o + vs.length then vs.getD (q - o) default else F q
theorem upd_in {F : Nat → Value} {o q : Nat} {vs : List Value} (h : q < vs.length) : upd F o vs (o + q) = vs.getD q default := by
  unfold upd
  rw [if_pos (by omega), Nat.add_sub_cancel_left]
theorem upd_out {F : Nat → Value} {o q : Nat} {vs : List Value} (h : q < o ∨ o + vs.length ≤ q) : upd F o vs q = F q := by
  unfold upd
  rw [if_neg (by omega)]
/-- Cells written one behind the other into a row of one's own. -/
theorem mine_setCells {e s g n : Nat} : ∀ (vs : List Value) (o : Nat) (w : World) (F : Nat → Value), Mine w e s g n F → Mine (w.setCells g o vs) e s g n (upd F o vs)
  | [], o, w, F, h => by
    have : upd F o [] = F := by
      funext q
      unfold upd
      rw [if_neg (by simp)]
    rw [this]
    exact h
  | v :: r, o, w, F, h => by
    have := mine_setCells r (o + 1) _ _ (h.set o v)
    have he : upd (fun i => if i = o then v else F i) (o + 1) r = upd F o (v :: r) := by
      funext q
      unfold upd
      show (if _ then _ else (if q = o then v else F q)) = _
      by_cases h1 : q = o
      · subst h1
        rw [if_neg (by omega), if_pos rfl, if_pos (by simp)]
        simp
      · by_cases h2 : o + 1 ≤ q ∧ q < o + 1 + r.length
        · rw [if_pos h2, if_pos (by simp; omega), show q - o = (q - (o + 1)) + 1 by omega, List.getD_cons_succ]
        · rw [if_neg h2, if_neg h1, if_neg (by simp; omega)]
    rw [he] at this
    exact this
theorem mine_there {e s g n o m : Nat} {w : World} {F : Nat → Value} (h : Mine w e s g n F) (hm : o + m ≤ n * s) : w.there g o m := fun j hj => ⟨by rw [h.cell (o + j) (by omega)]; rfl, h.frozen _⟩
end Go.Proofs.Ytafgakddhoabjaa.Own
