/- The batches of a log from an offset on, on plain data. -/
import Derived.Test.YtidggillganafaaJS11
import Derived.Test.YtidggillganafaaJS07
namespace Go.Proofs.Ytidggillganafaa.BfP
set_option maxRecDepth 8000
open Recs SegW LogW SrP
open LgP (bats segs)
set_option linter.unusedVariables false
def flatB : List Sg → List Bat
  | [] => []
  | s :: t => s.bats ++ flatB t
def fromB (x : Int) (bs : List Bat) : List Bat := bs.filter (pB x)
theorem flatB_app : ∀ (a b : List Sg), flatB (a ++ b) = flatB a ++ flatB b
  | [], b => rfl
  | s :: t, b => by simp only [List.cons_append, flatB, flatB_app t b, List.append_assoc]
theorem takeOne {T : Type} [Inhabited T] {ts : List T} {j : Nat} (h : j < ts.length) : ts.take (j + 1) = ts.take j ++ [ts.getD j default] := by
  rw [List.take_add_one, List.getElem?_eq_getElem h]; simp [h]
theorem flatB_take {ss : List Sg} {i : Nat} (h : i < ss.length) : flatB (ss.take (i + 1)) = flatB (ss.take i) ++ (ss.getD i default).bats := by
  rw [takeOne h, flatB_app]
  simp [flatB]
theorem fromB_app (x : Int) (a b : List Bat) : fromB x (a ++ b) = fromB x a ++ fromB x b := by simp [fromB]
theorem fromB_none {x : Int} : ∀ {bs : List Bat}, (∀ i, i < bs.length → pB x (bs.getD i default) = false) → fromB x bs = []
  | [], _ => rfl
  | b :: t, h => by
    have h0 := h 0 (by simp)
    rw [List.getD_cons_zero] at h0
    have ih := fromB_none (x := x) (bs := t) (fun i hi => by have := h (i + 1) (by simpa using hi); rwa [List.getD_cons_succ] at this)
    unfold fromB at ih ⊢
    rw [List.filter_cons_of_neg (by rw [h0]; simp), ih]
theorem fromB_all {x : Int} : ∀ {bs : List Bat}, (∀ i, i < bs.length → pB x (bs.getD i default) = true) → fromB x bs = bs
  | [], _ => rfl
  | b :: t, h => by
    have h0 := h 0 (by simp)
    rw [List.getD_cons_zero] at h0
    have ih := fromB_all (x := x) (bs := t) (fun i hi => by have := h (i + 1) (by simpa using hi); rwa [List.getD_cons_succ] at this)
    unfold fromB at ih ⊢
    rw [List.filter_cons_of_pos h0, ih]
theorem getDT {T : Type} [Inhabited T] (l : List T) (k i : Nat) (h : i < k) : (l.take k).getD i default = l.getD i default := by
  rw [List.getD_eq_getElem?_getD, List.getElem?_take_of_lt h, ← List.getD_eq_getElem?_getD]
theorem getDD {T : Type} [Inhabited T] (l : List T) (k i : Nat) : (l.drop k).getD i default = l.getD (k + i) default := by
  rw [List.getD_eq_getElem?_getD, List.getElem?_drop, ← List.getD_eq_getElem?_getD]
theorem found_from {x : Int} {bs : List Bat} {r : Nat} (h : Fnd (fun i => pB x (bs.getD i default)) bs.length r) (hm : ∀ i j, i ≤ j → j < bs.length → pB x (bs.getD i default) = true → pB x (bs.getD j default) = true) : fromB x bs = bs.drop r := by
  conv => lhs; rw [← List.take_append_drop r bs]
  have hr := h.le
  rw [fromB_app, fromB_none (fun i hi => by
      rw [List.length_take] at hi
      rw [getDT _ _ _ (by omega)]
      exact h.no i (by omega)), List.nil_append]
  refine fromB_all (fun i hi => ?_)
  rw [List.length_drop] at hi
  rw [getDD]
  exact hm r (r + i) (by omega) (by omega) (h.yes (by omega))
theorem batB_mono {bs : List Bat} {f e f' e' : Int} (h : bats f e bs = some (f', e')) (x : Int) : ∀ i j, i ≤ j → j < bs.length → pB x (bs.getD i default) = true → pB x (bs.getD j default) = true := fun i j h1 h2 h3 => by
  have := bats_mono _ _ _ _ _ h i j h1 h2
  unfold pB at h3 ⊢
  simp only [decide_eq_true_eq] at h3 ⊢
  omega
theorem from_seg {s : Sg} {f e f' e' x : Int} (h : bats f e s.bats = some (f', e')) (hp : pS x s = false) : fromB x s.bats = [] := by
  unfold pS at hp
  simp only [Bool.or_eq_false_iff, decide_eq_false_iff_not] at hp
  refine fromB_none (fun i hi => ?_)
  have := bats_mono _ _ _ _ _ h i (s.bats.length - 1) (by omega) (by omega)
  have h2 := hp.2
  unfold sEnd at h2
  unfold pB
  exact decide_eq_false (by omega)
theorem from_ahead {x : Int} {ss : List Sg} (hb : ∀ i, i < ss.length → ∃ a b c d, bats a b (ss.getD i default).bats = some (c, d)) : ∀ r, r ≤ ss.length → (∀ i, i < r → pS x (ss.getD i default) = false) → fromB x (flatB (ss.take r)) = []
  | 0, _, _ => rfl
  | r + 1, hr, h => by
    obtain ⟨a, b, c, d, h1⟩ := hb r (by omega)
    rw [flatB_take (by omega), fromB_app, from_ahead hb r (by omega) (fun i hi => h i (by omega)), from_seg h1 (h r (by omega))]
    rfl
end Go.Proofs.Ytidggillganafaa.BfP
