/- What an expression comes to, plain: the numbers that lie there behind each step. -/
import Derived.Test.YtclkcnkjjoolcaaQuP
import Derived.Test.YtclkcnkjjoolcaaQdP
namespace Go.Proofs.Ytclkcnkjjoolcaa.QrP
set_option maxRecDepth 8000
open Go.RowKit
open Ls Lp QyP QsP QtP QuP QdP
set_option linter.unusedVariables false
/-- What stands in the column of that name (the first one). -/
def look (cols : List ByteArray) (row : List Int) (n : ByteArray) : Int := row.getD (cols.findIdx fun m => m.toList == n.toList) 0
def stepV (cols : List ByteArray) (row : List Int) (s : Stp) (st : List Int) : List Int :=
  if s.op = 1 then st ++ [s.num] else if s.op = 2 then st ++ [look cols row s.name]
  else if s.op = 12 then st.set (st.length - 1) (b01 (decide (st.getD (st.length - 1) 0 = 0)))
  else (st.set (st.length - 2) (doS s.op (st.getD (st.length - 2) 0) (st.getD (st.length - 1) 0))).take (st.length - 1)
def runV (cols : List ByteArray) (row : List Int) : List Stp → List Int → List Int
  | [], st => st
  | s :: r, st => runV cols row r (stepV cols row s st)
def recOk (l : List Stp) (cols : List ByteArray) (row : List Int) : Bool := stepsOk l && (decide (cols.length = row.length) && (sees l cols && row.all inM))
def reckon (l : List Stp) (cols : List ByteArray) (row : List Int) : Int := if recOk l cols row = true then (runV cols row l []).getD 0 0 else 0
theorem run_v {l : List Stp} {k : Nat} (hk : k < l.length) (cols : List ByteArray) (row st : List Int) : runV cols row (l.drop k) st = runV cols row (l.drop (k + 1)) (stepV cols row (l.getD k default) st) := by
  rw [drop_cons hk, runV]
/-- Behind a right expression each step is right. -/
theorem run_inv {l : List Stp} {k : Nat} {h : Int} (hk : k < l.length) (e : endH (runH (l.drop k) h) = true) : ∃ h', stepH (l.getD k default) h = some h' ∧ endH (runH (l.drop (k + 1)) h') = true := by
  rw [drop_cons hk, runH] at e
  cases hs : stepH (l.getD k default) h with
  | none => rw [hs] at e; cases e
  | some h' => rw [hs] at e; exact ⟨h', rfl, e⟩
/-- What a right step is. -/
theorem step_inv {s : Stp} {h h' : Int} (e : stepH s h = some h') : (s.op = 1 ∧ inM s.num = true ∧ h' = h + 1) ∨ (s.op = 2 ∧ h' = h + 1) ∨ (s.op = 12 ∧ 1 ≤ h ∧ h' = h) ∨ ((3 ≤ s.op ∧ s.op ≤ 11) ∧ 2 ≤ h ∧ h' = h - 1) := by
  unfold stepH at e
  split at e
  · next h1 =>
    split at e
    · next hb =>
      simp only [Bool.and_eq_true] at hb
      have h2 := inR_true hb.1
      simp only [Option.some.injEq] at e
      exact .inl ⟨h1, by simp [inM, inR]; omega, e.symm⟩
    · cases e
  · next h1 =>
    split at e
    · next h2 =>
      split at e
      · simp only [Option.some.injEq] at e
        exact .inr (.inl ⟨h2, e.symm⟩)
      · cases e
    · next h2 =>
      split at e
      · next h3 =>
        have h4 := inR_true h3
        split at e
        · next hb =>
          simp only [Bool.and_eq_true, Bool.or_eq_true, decide_eq_true_eq] at hb
          simp only [Option.some.injEq] at e
          by_cases h12 : s.op = 12
          · rw [if_pos h12] at e
            exact .inr (.inr (.inl ⟨h12, hb.2.2.1, e.symm⟩))
          · rw [if_neg h12] at e
            have : 2 ≤ h := hb.2.2.2.resolve_right h12
            exact .inr (.inr (.inr ⟨⟨h4.1, by omega⟩, this, e.symm⟩))
        · cases e
      · cases e
/-- A column that is seen has a place, ahead of which the name doesn't stand. -/
theorem look_at {cols : List ByteArray} {row : List Int} {n : ByteArray} {k : Nat} (hk : k < cols.length) (h : ∀ j, j < k → ((cols.getD j default).toList == n.toList) = false) (hb : ((cols.getD k default).toList == n.toList) = true) : look cols row n = row.getD k 0 := by
  unfold look
  have : cols.findIdx (fun m => m.toList == n.toList) = k := by
    rw [List.findIdx_eq hk]
    refine ⟨by simpa [hk] using hb, fun j hj => ?_⟩
    have h1 := h j hj
    have hj' : j < cols.length := by omega
    simpa [hj'] using h1
  rw [this]
theorem see_some {cols : List ByteArray} {n : ByteArray} (h : hasT cols n = true) : ∃ k, k < cols.length ∧ ((cols.getD k default).toList == n.toList) = true := by
  obtain ⟨m, hm, hb⟩ := List.any_eq_true.1 h
  obtain ⟨k, hk, rfl⟩ := List.mem_iff_getElem.1 hm
  exact ⟨k, hk, by simpa [hk] using hb⟩
theorem b01_in (b : Bool) : inM (b01 b) = true := by cases b <;> decide
end Go.Proofs.Ytclkcnkjjoolcaa.QrP
