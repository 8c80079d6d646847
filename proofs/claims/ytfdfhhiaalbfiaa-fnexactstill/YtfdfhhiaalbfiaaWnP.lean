/- Right wants, on plain data. -/
import Derived.Test.YtfdfhhiaalbfiaaWnA
import Derived.Test.YtfdfhhiaalbfiaaTWntD
namespace Go.Proofs.Ytfdfhhiaalbfiaa.WnP
set_option maxRecDepth 8000
open Go.RowKit
open Ls Lp
open TpP (sl aheadO)
open Recs (hsz below1 below2 chain)
set_option linter.unusedVariables false
def meet (a b : Wnt) : Bool := b.has.any (isIn a.has)
def okW (p : Option Wnt) (m : Wnt) : Bool := (Nm.nameOk m.name && aheadO (p.map (·.name)) m.name) && (names m.wants && slots m.has)
def wn (l : List Wnt) (k : Nat) : Bool := okW (pvs l k) (l.getD k default) && !((l.take k).any fun m => meet m (l.getD k default))
def wns (l : List Wnt) (k : Nat) : Bool := ((List.range l.length).drop k).all (wn l)
def wants (l : List Wnt) : Bool := decide (l.length ≤ 30) && wns l 0
theorem wns_step {l : List Wnt} {k : Nat} (h : k < l.length) : wns l k = (wn l k && wns l (k + 1)) := by
  unfold wns
  rw [List.drop_eq_getElem_cons (by simpa using h)]
  simp
theorem wns_end {l : List Wnt} {k : Nat} (h : l.length ≤ k) : wns l k = true := by
  unfold wns
  rw [List.drop_eq_nil_of_le (by simpa using h)]
  rfl
theorem wnt_cells {w : World} {S : Nat → Prop} {g o i : Nat} {t : Wnt} {F : Nat → Value} (h : ∀ j, j < 3 → w.cell? ⟨g, o + i * 3 + j, none⟩ = some (F j)) (he : EWnt w S F t) :
    ∃ A1 c1 A2 c2, (w.cell? ⟨g, o + i * 3, none⟩ = some (.string t.name) ∧ w.cell? ⟨g, o + i * 3 + 1, none⟩ = some (.slice A1 t.wants.length c1) ∧ w.cell? ⟨g, o + i * 3 + 2, none⟩ = some (.slice A2 t.has.length c2)) ∧ StrsAt w S (.slice A1 t.wants.length c1) t.wants ∧ LAt 2 ESlt w S (.slice A2 t.has.length c2) t.has := by
  obtain ⟨y0, y1, y2⟩ := he
  obtain ⟨A1, c1, g1⟩ := y1.form
  obtain ⟨A2, c2, g2⟩ := y2.form
  refine ⟨A1, c1, A2, c2, ⟨?_, ?_, ?_⟩, by rw [← g1]; exact y1, by rw [← g2]; exact y2⟩
  · rw [← y0]; exact h 0 (by omega)
  · rw [← g1]; exact h 1 (by omega)
  · rw [← g2]; exact h 2 (by omega)
end Go.Proofs.Ytfdfhhiaalbfiaa.WnP
