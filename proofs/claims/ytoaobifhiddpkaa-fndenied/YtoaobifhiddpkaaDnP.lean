/- One rule more, on plain data. -/
import Derived.Test.YtoaobifhiddpkaaAlI
namespace Go.Proofs.Ytoaobifhiddpkaa.DnP
set_option maxRecDepth 8000
open Ls Lp RuP AlP
set_option linter.unusedVariables false
def dn (who : ByteArray) (may on : Int) (name : ByteArray) (l : List Rul) : Bool := l.any fun r => fits r who may on name && r.deny
def al (who : ByteArray) (may on : Int) (name : ByteArray) (l : List Rul) : Bool := l.any fun r => fits r who may on name && !r.deny
theorem run_eq (who : ByteArray) (may on : Int) (name : ByteArray) : ∀ (l : List Rul) (y : Bool), run who may on name l y = (!dn who may on name l && (y || al who may on name l))
  | [], y => by simp [run, dn, al]
  | r :: l, y => by
    rw [run, run_eq who may on name l true, run_eq who may on name l y]
    simp only [dn, al, List.any_cons]
    cases fits r who may on name <;> cases r.deny <;> simp
theorem line_le {l : List Rul} (h : l.all okR = true) : (RuI.cat (l.map line)).size ≤ 100 * l.length := by
  induction l with
  | nil => simp [RuI.cat, ByteArray.size]
  | cons r l ih =>
    simp only [List.all_cons, Bool.and_eq_true] at h
    have := line_small h.1
    have := ih h.2
    rw [List.map_cons, RuI.cat, ByteArray.size_append, List.length_cons]
    omega
theorem shows_of {l : List Rul} (hl : l.length ≤ 40) (h : l.all okR = true) : shows l = true := by
  have := line_le h
  rw [shows, h, RuI.texts_cat, decide_eq_true (by omega), decide_eq_true (by omega)]
  rfl
theorem ok_of {l : List Rul} (h : shows l = true) : l.all okR = true := by
  simp only [shows, Bool.and_eq_true] at h
  exact h.2.1
/-- What was asked ahead and behind: the same question, with one rule more at either end. -/
theorem more {l : List Rul} {r : Rul} {who : ByteArray} {may on : Int} {name : ByteArray} (hl : l.length ≤ 30) (hs : shows l = true) (hr : okR r = true) :
    allowed (l ++ [r]) who may on name = allowed (r :: l) who may on name ∧ ((r.deny && allowed (r :: l) who may on name && !allowed l who may on name) = false ∧ (!r.deny && allowed l who may on name && !allowed (r :: l) who may on name) = false) := by
  have ho := ok_of hs
  have s1 : shows (r :: l) = true := shows_of (by simp; omega) (by simp [hr, ho])
  have s2 : shows (l ++ [r]) = true := shows_of (by simp; omega) (by simp [hr, ho])
  unfold allowed askOk
  rw [AlI.shows_ask, AlI.shows_ask, AlI.shows_ask, s1, s2, hs, run_eq, run_eq, run_eq]
  have d2 : dn who may on name (l ++ [r]) = dn who may on name (r :: l) := by simp only [dn, List.any_append, List.any_cons, List.any_nil, Bool.or_false]; rw [Bool.or_comm]
  have a2 : al who may on name (l ++ [r]) = al who may on name (r :: l) := by simp only [al, List.any_append, List.any_cons, List.any_nil, Bool.or_false]; rw [Bool.or_comm]
  rw [d2, a2]
  have d1 : dn who may on name (r :: l) = ((fits r who may on name && r.deny) || dn who may on name l) := by simp [dn]
  have a1 : al who may on name (r :: l) = ((fits r who may on name && !r.deny) || al who may on name l) := by simp [al]
  rw [d1, a1]
  generalize (Nm.nameOk who && (Nm.nameOk name && (inR 1 may 3 && inR 1 on 2))) = k
  cases k <;> cases r.deny <;> cases fits r who may on name <;> cases dn who may on name l <;> cases al who may on name l <;> simp
end Go.Proofs.Ytoaobifhiddpkaa.DnP
