/- The first offset of a time, on plain data. -/
import Derived.Test.YtojalklkpnaofaaBfP
namespace Go.Proofs.Ytojalklkpnaofaa.OfP
set_option maxRecDepth 8000
open Recs SegW LogW SrP BfP
set_option linter.unusedVariables false
def qu (start time : Int) (b : Bat) (k : Nat) : Bool := decide (start ≤ b.base + (k : Int)) && decide (time ≤ (b.recs.getD k default).time)
def hitB (start time : Int) (b : Bat) : Option Int := ((List.range b.recs.length).find? (qu start time b)).map (fun k => b.base + (k : Int))
def offAt (start time : Int) : List Bat → Int
  | [] => -1
  | b :: t => (hitB start time b).getD (offAt start time t)
def offs (l : Lg) (time : Int) : Int := if LgP.logOk l = true then offAt l.start time (flatB l.segs) else -1
theorem hit_none {start time : Int} {b : Bat} (h : ∀ k, k < b.recs.length → qu start time b k = false) : hitB start time b = none := by
  unfold hitB
  rw [List.find?_eq_none.2 (fun k hk => by rw [List.mem_range] at hk; rw [h k hk]; simp)]
  rfl
theorem hit_some {start time : Int} {b : Bat} {k : Nat} (h : ∀ i, i < k → qu start time b i = false) (hk : k < b.recs.length) (hq : qu start time b k = true) : hitB start time b = some (b.base + (k : Int)) := by
  unfold hitB
  rw [List.find?_range_eq_some.2 ⟨hq, List.mem_range.2 hk, fun j hj => by rw [h j hj]; rfl⟩]
  rfl
theorem hit_ahead {start time : Int} {b : Bat} (h : pB start b = false) : hitB start time b = none := by
  refine hit_none (fun k hk => ?_)
  unfold pB bEnd at h
  simp only [decide_eq_false_iff_not] at h
  unfold qu
  rw [decide_eq_false (by omega), Bool.false_and]
theorem off_none {start time : Int} : ∀ {bs : List Bat}, (∀ i, i < bs.length → hitB start time (bs.getD i default) = none) → offAt start time bs = -1
  | [], _ => rfl
  | b :: t, h => by
    have h0 := h 0 (by simp)
    rw [List.getD_cons_zero] at h0
    unfold offAt
    rw [h0]
    exact off_none (bs := t) (fun i hi => by have := h (i + 1) (by simpa using hi); rwa [List.getD_cons_succ] at this)
theorem off_none' {start time : Int} : ∀ {bs : List Bat}, (∀ b ∈ bs, hitB start time b = none) → offAt start time bs = -1
  | [], _ => rfl
  | b :: t, h => by
    unfold offAt
    rw [h b (by simp)]
    exact off_none' (bs := t) (fun y hy => h y (by simp [hy]))
theorem off_app {start time : Int} : ∀ {a b : List Bat}, (∀ y ∈ a, hitB start time y = none) → offAt start time (a ++ b) = offAt start time b
  | [], b, _ => rfl
  | y :: t, b, h => by
    show (hitB start time y).getD (offAt start time (t ++ b)) = _
    rw [h y (by simp)]
    exact off_app (a := t) (fun z hz => h z (by simp [hz]))
theorem off_stop {start time v : Int} {a r : List Bat} {y : Bat} (h : ∀ z ∈ a, hitB start time z = none) (hy : hitB start time y = some v) : offAt start time (a ++ y :: r) = v := by
  rw [off_app h]
  unfold offAt
  rw [hy]
  rfl
theorem off_at {start time v : Int} {bs : List Bat} {i : Nat} (hi : i < bs.length) (h : ∀ y, y < i → hitB start time (bs.getD y default) = none) (hy : hitB start time (bs.getD i default) = some v) : offAt start time bs = v := by
  have e : bs = bs.take i ++ (bs.getD i default :: bs.drop (i + 1)) := by
    conv => lhs; rw [← List.take_append_drop i bs, List.drop_eq_getElem_cons hi]
    simp [hi]
  rw [e]
  refine off_stop (fun z hz => ?_) hy
  obtain ⟨k, hk, rfl⟩ := List.getElem_of_mem hz
  rw [List.length_take] at hk
  have := h k (by omega)
  rw [List.getD_eq_getElem?_getD, List.getElem?_eq_getElem (by omega)] at this
  simpa using this
theorem off_from {start time : Int} : ∀ bs : List Bat, offAt start time (fromB start bs) = offAt start time bs
  | [] => rfl
  | b :: t => by
    have ih := off_from (start := start) (time := time) t
    unfold fromB at ih ⊢
    cases hp : pB start b with
    | true =>
      rw [List.filter_cons_of_pos hp]
      unfold offAt
      rw [ih]
    | false =>
      rw [List.filter_cons_of_neg (by rw [hp]; simp), ih]
      conv => rhs; unfold offAt
      rw [hit_ahead hp]
      rfl
end Go.Proofs.Ytojalklkpnaofaa.OfP
