/- A right query: the model's way to ask is the program's: plain. -/
import Derived.Test.YtboooabjeidmfaaXqP
namespace Go.Proofs.Ytboooabjeidmfaa.XqQ
set_option maxRecDepth 8000
open Go.RowKit
open Ls Lp QtP XsP QsI QyP XqP
set_option linter.unusedVariables false
def k1 (n0 ej n1 el n2 : Bool) : Bool := !n0 || ((!ej && !n1) || ((!el && !n2) || (!ej && !el)))
def k3 (ej el eo no iw z : Bool) : Bool := ((!ej || !el) != !eo) || ((!eo && !no) || (!iw || (ej && !z)))
def k5 (lw sw : Bool) (m12 df : Bool) : Bool := (!lw && !sw) || (m12 || !df)
def k12 (iw z lg : Bool) : Bool := !iw || (!z && lg)
def k14 (z s0 is : Bool) : Bool := (z && !s0) || (!z && !is)
def k16 (t ie m e0 : Bool) : Bool := (t && (!ie || m)) || (!t && !e0)
theorem em_name {t : ByteArray} (h : em t = true) : Nm.nameOk t = false := by
  refine Nm.name_size _ (.inl ?_)
  have : t.toList = [] := by simpa [em] using h
  rw [ByteArray.toList_eq] at this
  have h2 : t.data.size = 0 := by simpa using congrArg List.length this
  have : t.size = t.data.size := rfl
  omega
theorem partA (fr jn on lk : ByteArray) (wn : Int) : (!k1 (Nm.nameOk fr) (em jn) (Nm.nameOk jn) (em lk) (Nm.nameOk lk) && !k3 (em jn) (em lk) (em on) (Nm.nameOk on) (inR 0 wn 1000000000000) (decide (wn = 0))) = (Nm.nameOk fr && beP jn on lk wn) := by
  have hj := @em_name jn
  have hl := @em_name lk
  have ho := @em_name on
  have hw : decide (wn = 0) = true → inR 0 wn 1000000000000 = true := fun h => by
    have : wn = 0 := by simpa using h
    subst this
    rfl
  unfold beP k1 k3
  generalize Nm.nameOk fr = a at *
  generalize em jn = b at *
  generalize em lk = c at *
  generalize em on = d at *
  generalize Nm.nameOk jn = e at *
  generalize Nm.nameOk lk = f at *
  generalize Nm.nameOk on = g at *
  generalize decide (wn = 0) = h at *
  generalize inR 0 wn 1000000000000 = i at *
  revert a b c d e f g h i
  decide
theorem partB (q : Qry) : (!k5 (decide (q.wh.length = 0)) (stepsOk q.wh) (decide (12 < q.gps.length)) (diff q.gps) && q.gps.all Nm.nameOk) = (cOk q.gps && (decide (q.wh.length = 0) || stepsOk q.wh)) := by
  unfold k5 cOk
  have : decide (12 < q.gps.length) = !decide (q.gps.length ≤ 12) := by
    by_cases h : q.gps.length ≤ 12
    · rw [decide_eq_true h, decide_eq_false (by omega)]; rfl
    · rw [decide_eq_false h, decide_eq_true (by omega)]; rfl
  rw [this]
  generalize decide (q.wh.length = 0) = a
  generalize stepsOk q.wh = b
  generalize decide (q.gps.length ≤ 12) = c
  generalize diff q.gps = d
  generalize q.gps.all Nm.nameOk = e
  revert a b c d e
  decide
theorem partC (win size every : Int) (n : Nat) : (!k12 (inR 0 win 3) (decide (win = 0)) (decide (n = 0)) && (!k14 (decide (win = 0)) (decide (size = 0)) (inR 1 size 1000000000000) && !k16 (decide (win = 2)) (inR 1 every size) (decide (20 * every < size)) (decide (every = 0)))) = winP win size every n := by
  have hn : decide (n = 0) = !decide (0 < n) := by
    by_cases h : 0 < n
    · rw [decide_eq_true h, decide_eq_false (by omega)]; rfl
    · rw [decide_eq_false h, decide_eq_true (by omega)]; rfl
  have hm : decide (20 * every < size) = !decide (size ≤ 20 * every) := by
    by_cases h : size ≤ 20 * every
    · rw [decide_eq_true h, decide_eq_false (by omega)]; rfl
    · rw [decide_eq_false h, decide_eq_true (by omega)]; rfl
  rw [hn, hm]
  unfold winP k12 k14 k16
  generalize decide (0 < n) = a
  generalize decide (size ≤ 20 * every) = b
  generalize decide (size = 0) = c
  generalize decide (every = 0) = d
  generalize inR 1 size 1000000000000 = e
  generalize inR 1 every size = f
  by_cases h0 : win = 0
  · subst h0
    have : inR 0 0 3 = true := rfl
    rw [this]
    revert a b c d e f; decide
  by_cases h1 : win = 1
  · subst h1
    have : inR 0 1 3 = true := rfl
    rw [this]
    revert a b c d e f; decide
  by_cases h2 : win = 2
  · subst h2
    have : inR 0 2 3 = true := rfl
    rw [this]
    revert a b c d e f; decide
  by_cases h3 : win = 3
  · subst h3
    have : inR 0 3 3 = true := rfl
    rw [this]
    revert a b c d e f; decide
  have hi : inR 0 win 3 = false := by
    unfold inR
    by_cases hl : 0 ≤ win
    · rw [decide_eq_false (show ¬ win ≤ 3 by omega), Bool.and_false]
    · rw [decide_eq_false hl]; rfl
  rw [hi, if_neg h0, if_neg (by omega), if_neg h2]
  rfl
def mOk (q : Qry) : Bool := !k1 (Nm.nameOk q.fr) (em q.jn) (Nm.nameOk q.jn) (em q.lk) (Nm.nameOk q.lk) && (!k3 (em q.jn) (em q.lk) (em q.on) (Nm.nameOk q.on) (inR 0 q.wn 1000000000000) (decide (q.wn = 0)) && (!k5 (decide (q.wh.length = 0)) (stepsOk q.wh) (decide (12 < q.gps.length)) (diff q.gps) && (q.gps.all Nm.nameOk && (!k12 (inR 0 q.win 3) (decide (q.win = 0)) (decide (q.gps.length = 0)) && (!k14 (decide (q.win = 0)) (decide (q.size = 0)) (inR 1 q.size 1000000000000) && (!k16 (decide (q.win = 2)) (inR 1 q.every q.size) (decide (20 * q.every < q.size)) (decide (q.every = 0)) && (inR 1 q.gets.length 8 && q.gets.all (gtP (decide (0 < q.gps.length))))))))))
theorem re1 : ∀ x1 x3 x5 r x12 x14 x16 y : Bool, (!x1 && (!x3 && (!x5 && (r && (!x12 && (!x14 && (!x16 && y))))))) = ((!x1 && !x3) && ((!x5 && r) && ((!x12 && (!x14 && !x16)) && y))) := by decide
theorem re2 : ∀ p z s u t y : Bool, (p && (z && (s && (u && (t && y))))) = ((p && z) && ((s && t) && (u && y))) := by decide
theorem mOk_eq (q : Qry) : mOk q = qOk q := by
  unfold mOk qOk
  rw [re1, re2, partA, partB, partC]
end Go.Proofs.Ytboooabjeidmfaa.XqQ
