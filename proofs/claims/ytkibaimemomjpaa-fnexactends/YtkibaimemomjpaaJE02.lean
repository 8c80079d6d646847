/- A block's cells written one behind the other: what the block then is; A row that the call made itself, written at several cells. -/
import Derived.Laws.Rows
import Derived.Deep.MidRow
import Derived.Test.YtkibaimemomjpaaJE01
namespace Go.Proofs.Ytkibaimemomjpaa.Cells
set_option maxRecDepth 8000
open Go.RowKit
set_option linter.unusedVariables false
def setA (cs : Array Value) : Nat → List Value → Array Value
  | _, [] => cs
  | o, v :: r => setA (cs.setIfInBounds o v) (o + 1) r
theorem heap_setCells (g : Nat) (t : TypeId) : ∀ (vs : List Value) (o : Nat) (cs : Array Value) (w : World), w.heap[g]? = some (.cells cs t (0, 0)) → (w.setCells g o vs).heap[g]? = some (.cells (setA cs o vs) t (0, 0))
  | [], _, _, _, h => h
  | v :: r, o, cs, w, h => heap_setCells g t r (o + 1) _ _ (heap_setCell_same w g o cs t v h)
theorem setA_size : ∀ (vs : List Value) (o : Nat) (cs : Array Value), (setA cs o vs).size = cs.size
  | [], _, _ => rfl
  | v :: r, o, cs => by rw [setA, setA_size r]; simp
theorem setA_low : ∀ (vs : List Value) (o : Nat) (cs : Array Value) (j : Nat), j < o → (setA cs o vs)[j]? = cs[j]?
  | [], _, _, _, _ => rfl
  | v :: r, o, cs, j, h => by rw [setA, setA_low r _ _ _ (by omega), Array.getElem?_setIfInBounds_ne (by omega)]
theorem setA_in : ∀ (vs : List Value) (o : Nat) (cs : Array Value) (j : Nat), j < vs.length → o + vs.length ≤ cs.size → (setA cs o vs)[o + j]? = vs[j]?
  | v :: r, o, cs, 0, _, hs => by
    rw [setA, setA_low r _ _ _ (by omega)]
    simp at hs
    simp [show o < cs.size by omega]
  | v :: r, o, cs, j + 1, h, hs => by
    simp at h hs
    rw [setA, show o + (j + 1) = (o + 1) + j by omega, setA_in r (o + 1) _ j h (by simp; omega)]
    simp
theorem setA_all (vs z : Array Value) (hz : z.size = vs.size) : setA z 0 vs.toList = vs := by
  apply Array.ext_getElem?
  intro j
  by_cases hj : j < vs.size
  · have := setA_in vs.toList 0 z j (by simpa using hj) (by simp; omega)
    rw [Nat.zero_add] at this
    rw [this]; simp
  · rw [Array.getElem?_eq_none (by rw [setA_size]; omega), Array.getElem?_eq_none (by omega)]
theorem below_setCells {B g : Nat} (hg : B ≤ g) : ∀ (vs : List Value) (o : Nat) (a w : World), Below B a w → Below B a (w.setCells g o vs)
  | [], _, _, _, h => h
  | v :: r, o, a, w, h => below_setCells hg r (o + 1) a _ (h.setCell hg v)
theorem heap_setCells_other {g k : Nat} : ∀ (vs : List Value) {o : Nat} (w : World), k ≠ g → (w.setCells g o vs).heap[k]? = w.heap[k]?
  | [], _, _, _ => rfl
  | v :: r, o, w, h => (heap_setCells_other r (w.setCell ⟨g, o, none⟩ v) h).trans (heap_setCell_other w _ k v h)
theorem size_setCells {g : Nat} : ∀ (vs : List Value) {o : Nat} (w : World), (w.setCells g o vs).heap.size = w.heap.size
  | [], _, _ => rfl
  | v :: r, o, w => (size_setCells r (w.setCell ⟨g, o, none⟩ v)).trans (by simp)
theorem there_of {w : World} {g t : Nat} {cs : Array Value} (h : w.heap[g]? = some (.cells cs t (0, 0))) : w.there g 0 cs.size := fun j hj => by
  rw [Nat.zero_add, cell_of_row w g j cs t (0, 0) h, frozen_of_row w g j cs t h]
  exact ⟨by simp [hj], rfl⟩
theorem at3' (w : World) (a b c : Obj) : (((w.alloc a).alloc b).alloc c).heap[w.heap.size + 1 + 1]? = some c := by
  show (((w.heap.push a).push b).push c)[w.heap.size + 1 + 1]? = some c
  rw [Array.getElem?_push, if_pos (by simp)]
theorem frozen_of {w : World} {g j : Nat} {cs : Array Value} {t : TypeId} (h : w.heap[g]? = some (.cells cs t (0, 0))) : w.frozen? ⟨g, j, none⟩ = false := frozen_of_row w g j cs t h
/-- A block that is a struct's own, wholly written: the block then is just what was written. -/
theorem whole {w : World} {g t : Nat} {cs vs : Array Value} (h : w.heap[g]? = some (.cells cs t (0, 0))) (hs : cs.size = vs.size) : (w.setCells g 0 vs.toList).heap[g]? = some (.cells vs t (0, 0)) := by
  have := heap_setCells g t vs.toList 0 cs w h
  rw [setA_all vs cs hs] at this
  exact this
end Go.Proofs.Ytkibaimemomjpaa.Cells
namespace Go.Proofs.Ytkibaimemomjpaa.Own
set_option maxRecDepth 8000
open Go.RowKit
open Recs
set_option linter.unusedVariables false
def upd (F : Nat → Value) (o : Nat) (vs : List Value) (q : Nat) : Value := if o ≤ q ∧ q < o + vs.length then vs.getD (q - o) default else F q
theorem upd_in {F : Nat → Value} {o q : Nat} {vs : List Value} (h : q < vs.length) : upd F o vs (o + q) = vs.getD q default := by
  unfold upd
  rw [if_pos (by omega), Nat.add_sub_cancel_left]
theorem upd_out {F : Nat → Value} {o q : Nat} {vs : List Value} (h : q < o ∨ o + vs.length ≤ q) : upd F o vs q = F q := by
  unfold upd
  rw [if_neg (by omega)]
/-- Cells written one behind the other into a row of one's own. -/
theorem mine_setCells {e s g n : Nat} : ∀ (vs : List Value) (o : Nat) (w : World) (F : Nat → Value), Mine w e s g n F → Mine (w.setCells g o vs) e s g n (upd F o vs)
  | [], o, w, F, h => by
    have : upd F o [] = F := by
      funext q
      unfold upd
      rw [if_neg (by simp)]
    rw [this]
    exact h
  | v :: r, o, w, F, h => by
    have := mine_setCells r (o + 1) _ _ (h.set o v)
    have he : upd (fun i => if i = o then v else F i) (o + 1) r = upd F o (v :: r) := by
      funext q
      unfold upd
      show (if _ then _ else (if q = o then v else F q)) = _
      by_cases h1 : q = o
      · subst h1
        rw [if_neg (by omega), if_pos rfl, if_pos (by simp)]
        simp
      · by_cases h2 : o + 1 ≤ q ∧ q < o + 1 + r.length
        · rw [if_pos h2, if_pos (by simp; omega), show q - o = (q - (o + 1)) + 1 by omega, List.getD_cons_succ]
        · rw [if_neg h2, if_neg h1, if_neg (by simp; omega)]
    rw [he] at this
    exact this
theorem mine_there {e s g n o m : Nat} {w : World} {F : Nat → Value} (h : Mine w e s g n F) (hm : o + m ≤ n * s) : w.there g o m := fun j hj => ⟨by rw [h.cell (o + j) (by omega)]; rfl, h.frozen _⟩
end Go.Proofs.Ytkibaimemomjpaa.Own
