/- Versions on which two sides agree, on plain data. -/
import Derived.Test.YtmkkdladgoilmaaTApxs
import Derived.Test.YtmkkdladgoilmaaLsP
namespace Go.Proofs.Ytmkkdladgoilmaa.AgP
set_option maxRecDepth 8000
open Go.RowKit
open Ls Lp
set_option linter.unusedVariables false
def okA (a : Apx) : Bool := inR 0 a.key 1000 && (inR 0 a.least a.most && decide (a.most ≤ 1000))
def ahI : Option Int → Int → Bool
  | none, _ => true
  | some a, b => decide (a < b)
def apg : Option Int → List Apx → Bool
  | _, [] => true
  | p, a :: r => (okA a && ahI p a.key) && apg (some a.key) r
def apis (l : List Apx) : Bool := decide (l.length ≤ 40) && apg none l
def lst (a b : Int) : Int := if a < b then a else b
def agk (a b : Apx) : Bool := decide (a.key = b.key) && (decide (a.least ≤ lst a.most b.most) && decide (b.least ≤ lst a.most b.most))
def pr (a b : Apx) : List Apx := if agk a b = true then [⟨a.key, lst a.most b.most, lst a.most b.most⟩] else []
def prs (a : Apx) : List Apx → List Apx
  | [] => []
  | b :: r => pr a b ++ prs a r
def ags (s : List Apx) : List Apx → List Apx
  | [] => []
  | a :: r => prs a s ++ ags s r
def agOk (c s : List Apx) : Bool := apis c && apis s
def agree (c s : List Apx) : List Apx := if agOk c s = true then ags s c else []
theorem pr_le (a b : Apx) : (pr a b).length ≤ 1 := by unfold pr; split <;> simp
theorem prs_le (a : Apx) : ∀ s : List Apx, (prs a s).length ≤ s.length
  | [] => by simp [prs]
  | b :: r => by have := pr_le a b; have := prs_le a r; simp only [prs, List.length_append, List.length_cons]; omega
theorem ags_le (s : List Apx) : ∀ c : List Apx, (ags s c).length ≤ c.length * s.length
  | [] => by simp [ags]
  | a :: r => by have := prs_le a s; have := ags_le s r; simp only [ags, List.length_append, List.length_cons, Nat.succ_mul]; omega
theorem agree_le (c s : List Apx) : (agree c s).length ≤ 1048576 := by
  unfold agree
  split
  · rename_i h
    simp only [agOk, apis, Bool.and_eq_true, decide_eq_true_eq] at h
    have := ags_le s c
    have h2 : c.length * s.length ≤ 40 * 40 := Nat.mul_le_mul h.1.1 h.2.1
    omega
  · simp
def pvk (l : List Apx) (k : Nat) : Option Int := if k = 0 then none else some (l.getD (k - 1) default).key
theorem pvk_next (l : List Apx) (k : Nat) : pvk l (k + 1) = some (l.getD k default).key := by simp [pvk]
theorem apx_cells {w : World} {S : Nat → Prop} {g o i : Nat} {t : Apx} {F : Nat → Value} (h : ∀ j, j < 3 → w.cell? ⟨g, o + i * 3 + j, none⟩ = some (F j)) (he : EApx w S F t) : w.cell? ⟨g, o + i * 3, none⟩ = some (.int .i64 t.key) ∧ w.cell? ⟨g, o + i * 3 + 1, none⟩ = some (.int .i64 t.least) ∧ w.cell? ⟨g, o + i * 3 + 2, none⟩ = some (.int .i64 t.most) := by
  obtain ⟨y0, y1, y2⟩ := he
  exact ⟨by rw [← y0]; exact h 0 (by omega), by rw [← y1]; exact h 1 (by omega), by rw [← y2]; exact h 2 (by omega)⟩
end Go.Proofs.Ytmkkdladgoilmaa.AgP
