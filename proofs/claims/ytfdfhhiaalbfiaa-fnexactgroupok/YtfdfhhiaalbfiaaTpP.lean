/- Right topics, on plain data. -/
import Derived.Test.YtfdfhhiaalbfiaaTTpcs
import Derived.Test.YtfdfhhiaalbfiaaTpA
namespace Go.Proofs.Ytfdfhhiaalbfiaa.TpP
set_option maxRecDepth 8000
open Go.RowKit
open Ls Lp
open Recs (hsz below1 below2 chain)
set_option linter.unusedVariables false
def okT (t : Tpc) : Bool := Nm.nameOk t.name && inR 0 t.parts 50
def tpg : Option ByteArray → List Tpc → Bool
  | _, [] => true
  | p, t :: r => (okT t && aheadO p t.name) && tpg (some t.name) r
def sumP : List Tpc → Int
  | [] => 0
  | t :: r => t.parts + sumP r
def topics (l : List Tpc) : Bool := decide (l.length ≤ 20) && (tpg none l && decide (sumP l ≤ 400))
def pvn (l : List Tpc) (k : Nat) : Option ByteArray := if k = 0 then none else some (l.getD (k - 1) default).name
theorem pvn_next (l : List Tpc) (k : Nat) : pvn l (k + 1) = some (l.getD k default).name := by simp [pvn]
theorem tpc_cells {w : World} {S : Nat → Prop} {g o i : Nat} {t : Tpc} {F : Nat → Value} (h : ∀ j, j < 2 → w.cell? ⟨g, o + i * 2 + j, none⟩ = some (F j)) (he : ETpc w S F t) : w.cell? ⟨g, o + i * 2, none⟩ = some (.string t.name) ∧ w.cell? ⟨g, o + i * 2 + 1, none⟩ = some (.int .i64 t.parts) := by
  obtain ⟨y0, y1⟩ := he
  exact ⟨by rw [← y0]; exact h 0 (by omega), by rw [← y1]; exact h 1 (by omega)⟩
theorem sum_take {l : List Tpc} {k : Nat} (h : k < l.length) : sumP (l.take (k + 1)) = sumP (l.take k) + (l.getD k default).parts := by
  have app : ∀ a b : List Tpc, sumP (a ++ b) = sumP a + sumP b := fun a b => by
    induction a with
    | nil => simp [sumP]
    | cons x r ih => simp only [List.cons_append, sumP, ih]; omega
  have e : l.take (k + 1) = l.take k ++ [l.getD k default] := by rw [List.take_add_one, List.getElem?_eq_getElem h]; simp [h]
  rw [e, app]; simp [sumP]
end Go.Proofs.Ytfdfhhiaalbfiaa.TpP
