/- The end of an Epoch, on plain data. -/
import Derived.Test.YtidggillganafaaJS12
namespace Go.Proofs.Ytidggillganafaa.EoP
set_option maxRecDepth 8000
open Recs SegW LogW SrP BfP
set_option linter.unusedVariables false
def endB (x : Int) : Int → Int → List Bat → Int × Int
  | f, n, [] => (f, n)
  | f, n, b :: t => if x < b.epoch then (f, b.base) else endB x b.epoch n t
def told (start : Int) (r : Int × Int) : Int × Int := if r.1 < 0 then (0, start) else r
def endF (l : Lg) (x : Int) : Int × Int := told l.start (endB x (-1) l.next (flatB l.segs))
def endOf (l : Lg) (x : Int) : Int × Int := if LgP.logOk l = true then endF l x else (0, 0)
/-- The Epoch of the last batch, f where there is none. -/
def lastE : Int → List Bat → Int
  | f, [] => f
  | f, b :: t => lastE b.epoch t
def sm (bs : List Bat) : Bool := decide (0 < bs.length)
theorem endB_app {x n : Int} : ∀ {a r : List Bat} {f : Int}, (∀ y ∈ a, ¬ x < y.epoch) → endB x f n (a ++ r) = endB x (lastE f a) n r
  | [], r, f, _ => rfl
  | y :: t, r, f, h => by
    show (if x < y.epoch then (f, y.base) else endB x y.epoch n (t ++ r)) = _
    rw [if_neg (h y (by simp)), endB_app (a := t) (fun z hz => h z (by simp [hz]))]
    rfl
theorem endB_stop {x n f : Int} {a r : List Bat} {y : Bat} (h : ∀ z ∈ a, ¬ x < z.epoch) (hy : x < y.epoch) : endB x f n (a ++ y :: r) = (lastE f a, y.base) := by
  rw [endB_app h]
  show (if x < y.epoch then (_, y.base) else _) = _
  rw [if_pos hy]
theorem endB_all {x n f : Int} {a : List Bat} (h : ∀ z ∈ a, ¬ x < z.epoch) : endB x f n a = (lastE f a, n) := by
  have := endB_app (x := x) (n := n) (r := []) (f := f) h
  rw [List.append_nil] at this
  rw [this]
  rfl
theorem lastE_app : ∀ {a : List Bat} {f : Int} {y : Bat}, lastE f (a ++ [y]) = y.epoch
  | [], f, y => rfl
  | z :: t, f, y => lastE_app (a := t)
theorem sm_app {a : List Bat} {y : Bat} : sm (a ++ [y]) = true := by simp [sm]
theorem epoch0 {b : Bat} (h : BOk.batOk b = true) : 0 ≤ b.epoch := by
  simp only [BOk.batOk, BOk.okB1, BOk.okB3, BOk.inR, Bool.and_eq_true, decide_eq_true_eq] at h
  omega
theorem lastE_some : ∀ {a : List Bat} {f g : Int}, 0 < a.length → lastE f a = lastE g a
  | [], _, _, h => by simp at h
  | z :: t, f, g, _ => rfl
theorem lastE_pos : ∀ {a : List Bat} {f : Int}, 0 ≤ f → (∀ y ∈ a, 0 ≤ y.epoch) → 0 ≤ lastE f a
  | [], f, h, _ => h
  | z :: t, f, h, hk => lastE_pos (a := t) (hk z (by simp)) (fun y hy => hk y (by simp [hy]))
theorem told_of {start e : Int} {a : List Bat} (h : ∀ y ∈ a, 0 ≤ y.epoch) : told start (lastE (-1) a, e) = if sm a = true then (lastE 0 a, e) else (0, start) := by
  by_cases ha : 0 < a.length
  · have := lastE_pos (a := a) (Int.le_refl 0) h
    rw [lastE_some (g := 0) ha, told, if_neg (by omega), if_pos (by simp [sm, ha])]
  · have : a = [] := by cases a with | nil => rfl | cons z t => simp at ha
    subst this
    rfl
theorem from_zero : ∀ {bs : List Bat}, (∀ b ∈ bs, BOk.batOk b = true) → fromB 0 bs = bs
  | [], _ => rfl
  | b :: t, h => by
    have hb := LgP.okLen (h b (by simp))
    unfold fromB
    rw [List.filter_cons_of_pos (by unfold pB bEnd; simp only [decide_eq_true_eq]; omega)]
    exact congrArg _ (from_zero (fun y hy => h y (by simp [hy])))
end Go.Proofs.Ytidggillganafaa.EoP
