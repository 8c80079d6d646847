/- An expression's steps, plain: how many numbers lie there behind each; Columns that an expression sees, the place of a source: plain. -/
import Derived.Test.YtkibaimemomjpaaJE05
import Derived.Test.YtkibaimemomjpaaJE07
import Derived.Test.YtkibaimemomjpaaJE11
import Derived.Test.YtkibaimemomjpaaJE09
import Derived.Test.YtkibaimemomjpaaJE10
namespace Go.Proofs.Ytkibaimemomjpaa.QtP
set_option maxRecDepth 8000
open Go.RowKit
open Ls Lp
set_option linter.unusedVariables false
def em (t : ByteArray) : Bool := t.toList == []
def stepH (s : Stp) (h : Int) : Option Int :=
  if s.op = 1 then (if (inR 0 s.num 1000000000000000 && em s.name) = true then some (h + 1) else none)
  else if s.op = 2 then (if (Nm.nameOk s.name && decide (s.num = 0)) = true then some (h + 1) else none)
  else if inR 3 s.op 12 = true then (if (em s.name && (decide (s.num = 0) && (decide (1 ≤ h) && (decide (2 ≤ h) || decide (s.op = 12))))) = true then some (if s.op = 12 then h else h - 1) else none)
  else none
def runH : List Stp → Int → Option Int
  | [], h => some h
  | s :: r, h => match stepH s h with
    | none => none
    | some h' => runH r h'
def endH (o : Option Int) : Bool := match o with
  | none => false
  | some h => decide (h = 1)
def stepsOk (l : List Stp) : Bool := decide (l.length ≤ 60) && endH (runH l 0)
theorem run_none {l : List Stp} {k : Nat} {h : Int} (hk : k < l.length) (h1 : stepH (l.getD k default) h = none) : runH (l.drop k) h = none := by
  rw [drop_cons hk, runH, h1]
theorem run_some {l : List Stp} {k : Nat} {h h' : Int} (hk : k < l.length) (h1 : stepH (l.getD k default) h = some h') : runH (l.drop k) h = runH (l.drop (k + 1)) h' := by
  rw [drop_cons hk, runH, h1]
theorem step_num {s : Stp} {h : Int} {b e : Bool} (h1 : s.op = 1) (hb : inR 0 s.num 1000000000000000 = b) (he : em s.name = e) : stepH s h = if (b && e) = true then some (h + 1) else none := by
  rw [stepH, if_pos h1, hb, he]
theorem step_col {s : Stp} {h : Int} {b e : Bool} (h1 : s.op = 2) (hb : Nm.nameOk s.name = b) (he : decide (s.num = 0) = e) : stepH s h = if (b && e) = true then some (h + 1) else none := by
  rw [stepH, if_neg (by omega), if_pos h1, hb, he]
theorem step_op {s : Stp} {h : Int} {a b c : Bool} (h1 : 3 ≤ s.op ∧ s.op ≤ 12) (ha : em s.name = a) (hb : decide (s.num = 0) = b) (hc : (decide (1 ≤ h) && (decide (2 ≤ h) || decide (s.op = 12))) = c) : stepH s h = if (a && (b && c)) = true then some (if s.op = 12 then h else h - 1) else none := by
  rw [stepH, if_neg (by omega), if_neg (by omega), if_pos (by simp [inR]; omega), ha, hb, hc]
theorem step_not {s : Stp} {h : Int} (h1 : ¬ s.op = 1) (h2 : ¬ s.op = 2) (h3 : inR 3 s.op 12 = false) : stepH s h = none := by
  rw [stepH, if_neg h1, if_neg h2, if_neg (by rw [h3]; simp)]
/-- The cells of one step of a list. -/
theorem stp_at {w w' : World} {S : Nat → Prop} {A : Option Addr} {c : Nat} {us : List Stp} {g o : Nat} {F : Nat → Nat → Value} (h : Opn 3 EStp w S A c us g o F) (hS : ∀ g, S g → g < w.heap.size) (hb : Below w.heap.size w w') {k : Nat} (hk : k < us.length) : w'.cell? ⟨g, o + k * 3, none⟩ = some (.int .i64 (us.getD k default).op) ∧ w'.cell? ⟨g, o + k * 3 + 1, none⟩ = some (.int .i64 (us.getD k default).num) ∧ w'.cell? ⟨g, o + k * 3 + 2, none⟩ = some (.string (us.getD k default).name) := by
  have OL := h.later keepsStp hS hb
  obtain ⟨e0, e1, e2⟩ := OL.el k hk
  have cc := OL.cells k hk
  refine ⟨?_, ?_, ?_⟩
  · rw [← e0]; exact cc 0 (by omega)
  · rw [← e1]; exact cc 1 (by omega)
  · rw [← e2]; exact cc 2 (by omega)
end Go.Proofs.Ytkibaimemomjpaa.QtP
namespace Go.Proofs.Ytkibaimemomjpaa.QuP
set_option maxRecDepth 8000
open Go.RowKit
open Ls Lp QyP QsP QtP
set_option linter.unusedVariables false
def see (cols : List ByteArray) (s : Stp) : Bool := !decide (s.op = 2) || hasT cols s.name
def sees (l : List Stp) (cols : List ByteArray) : Bool := l.all (see cols)
/-- The first source of that name, -1: none. -/
def srcAt (l : List Src) (n : ByteArray) : Int := match l.findIdx? fun s => s.name.toList == n.toList with
  | none => -1
  | some i => i
theorem src_hit {l : List Src} {n : ByteArray} {k : Nat} (hk : k < l.length) (h : ∀ j, j < k → ((l.getD j default).name.toList == n.toList) = false) (hb : ((l.getD k default).name.toList == n.toList) = true) : srcAt l n = k := by
  unfold srcAt
  have : l.findIdx? (fun s => s.name.toList == n.toList) = some k := by
    rw [List.findIdx?_eq_some_iff_getElem]
    refine ⟨hk, by simpa [hk] using hb, fun j hj => ?_⟩
    have h1 := h j hj
    have hj' : j < l.length := by omega
    simp [hj'] at h1
    simpa using h1
  rw [this]
theorem src_miss {l : List Src} {n : ByteArray} (h : ∀ j, j < l.length → ((l.getD j default).name.toList == n.toList) = false) : srcAt l n = -1 := by
  unfold srcAt
  have : l.findIdx? (fun s => s.name.toList == n.toList) = none := by
    rw [List.findIdx?_eq_none_iff]
    intro s hs
    obtain ⟨j, hj, rfl⟩ := List.mem_iff_getElem.1 hs
    have h1 := h j hj
    simpa [hj] using h1
  rw [this]
end Go.Proofs.Ytkibaimemomjpaa.QuP
